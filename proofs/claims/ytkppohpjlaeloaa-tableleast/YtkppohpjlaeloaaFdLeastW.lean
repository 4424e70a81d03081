/-
  THE WALK over choruslaw4.TableLeast: it answers true, for every state and number, and turns nothing that was there. Condition: the state's rows can be copied.
-/
import Derived.Test.YtkppohpjlaeloaaFdAwake
import Derived.Test.YtkppohpjlaeloaaStPut2
import Derived.Test.YtkppohpjlaeloaaBits
import Derived.BigQuiet
namespace Go.Proofs.Ytkppohpjlaeloaa
open Go.RowKit

/-- How many of the first m numbers are below x. -/
def cntTo (xs : List Int) (x : Int) (m : Nat) : Nat := ((xs.take m).filter fun y => decide (y < x)).length

theorem cntTo_step {xs : List Int} {x : Int} {m : Nat} (h : m < xs.length) : cntTo xs x (m + 1) = cntTo xs x m + if xs.getD m 0 < x then 1 else 0 := by
  have e : xs.take (m + 1) = xs.take m ++ [xs.getD m 0] := by
    rw [List.take_succ_eq_append_getElem h]
    simp [List.getD, h]
  simp only [cntTo, e, List.filter_append, List.length_append]
  congr 1
  generalize xs.getD m 0 = y
  by_cases hx : y < x <;> simp [hx]

theorem cntTo_le (xs : List Int) (x : Int) (m : Nat) : cntTo xs x m ≤ m := by
  have h1 := List.length_filter_le (fun y => decide (y < x)) (xs.take m)
  have h2 := List.length_take_le m xs
  unfold cntTo
  omega

theorem least_facts : ∀ xs ∈ rowsAbove 4, (putS xs = (xs, -1) ∧ xs = [0, 1, 2, 3]) ∨ (0 ≤ (putS xs).2 ∧ (putS xs).2 ≤ 3 ∧ (putS xs).2 ∉ xs ∧ (cntTo xs (putS xs).2 xs.length : Int) = (putS xs).2 ∧ (putS xs).1.length = xs.length + 1 ∧ xs.length ≤ 3) := by decide

/-- In the midst: the state's box and its rows. -/
structure MidL (w wr : World) (st : St) (us : Nat → Sl) : Prop where
  le : Le w wr
  box : Box wr w.heap.size (cells4 us) 25
  rows : ∀ i, i < 4 → Has wr (slV (us i)) (st.at i)
  fit : Fit st

theorem MidL.later {w wr wr' : World} {st : St} {us : Nat → Sl} (h : MidL w wr st us) (hl : Le wr wr') : MidL w wr' st us :=
  ⟨h.le.trans hl, h.box.le hl, fun i hi => (h.rows i hi).le hl, h.fit⟩

set_option maxRecDepth 4000 in
set_option maxHeartbeats 4000000 in
theorem lawLeast (w : World) (v : Value) (s : St) (hx : HasS w v s) (hf : Fit s) (a0 : Int) :
    Calls Try.prog 4 #[v, .int .i64 a0] w fun e w' => e = .returned (.bool true) ∧ Le w w' := by
  obtain ⟨vs, rfl, hr⟩ := hx
  have hl := Le.alloc w (.cells (cells4 vs) 25)
  have hb1 := Box.new w (cells4 vs) 25
  obtain ⟨k, hk, k0⟩ : ∃ k : Nat, wrap64 ((IntKind.u64.wrap a0).tmod 4) = (k : Int) ∧ k < 4 := by
    have h1 : IntKind.u64.wrap a0 = a0 % 18446744073709551616 := by simp [IntKind.wrap, IntKind.bits, IntKind.signed]
    have h2 : 0 ≤ a0 % 18446744073709551616 := by omega
    refine ⟨((a0 % 18446744073709551616) % 4).toNat, ?_, by omega⟩
    rw [h1, Int.tmod_eq_emod_of_nonneg h2]
    unfold wrap64
    omega
  go_enter Try.func4, Try.ntmps4
  go_wp2_with fail
  refine (lawAwake4 _).mono ?_
  rintro e w1 ⟨rfl, l1⟩
  have hmid : MidL w w1 s vs := ⟨hl.trans l1, hb1.le l1, fun i hi => (hr i hi).le (hl.trans l1), hf⟩
  clear hl hb1 hr hf l1
  go_upto_region 4 with fail
  rw [hk]
  clear hk
  go_wp2
  go_loopw [6] (fun i wr => ∃ (j : Nat) (st : St) (us : Nat → Sl), j ≤ 4 ∧ j ≤ (st.at k).length ∧ i = .int .i64 j ∧ Hid (j = 0 ∨ st.all rowMay2 = true) ∧ MidL w wr st us) (fun i _ => 5 - (intOf i).toNat)
  case atStart => exact ⟨0, s, vs, by omega, by omega, rfl, hid (.inl rfl), hmid⟩
  case round =>
    clear hmid
    obtain ⟨j, st, us, hj, hjl, rfl, HJ, hmid⟩ := hrel
    have i0 : (0 : Int) ≤ (k : Int) := by omega
    have i1 : (k : Int) < 4 := by omega
    have hj4 : (j : Int) ≤ 4 := by omega
    cases hm : st.all rowMay2
    · have hj0 : j = 0 := by rcases HJ.out with h | h; exact h; rw [hm] at h; cases h
      subst hj0
      obtain ⟨x0, x1, x2, x3, _, _, _, _⟩ := hmid.box.st
      go_wp2_with fail
      refine (fdsApply (stV us) st 0 k 0 _ ⟨us, rfl, hmid.rows⟩ hmid.fit).mono ?_
      rw [fdsS_no (by rw [hm]; rfl)]
      rintro e w2 ⟨_, rfl, ⟨q2, rfl, o2⟩, l2⟩
      replace l2 := l2.trans (Le.alloc w2 (.cells (cells4 q2) 25))
      replace o2 := fun i hi => (o2 i hi).le (Le.alloc w2 (.cells (cells4 q2) 25))
      go_wp2_with (go_at_call 13; refine (lawNum _ _).mono ?_; rintro e _ ⟨rfl, rfl⟩)
      refine (lawSameState (stV q2) stZ St.zero St.zero _ (OwnS.has ⟨q2, rfl, o2⟩) (HasS.zero _) fit_zero).mono ?_
      rw [show decide (St.zero = St.zero) = true by decide]
      rintro e w3 ⟨rfl, l3⟩
      go_wp2_with fail
      go_ret
      exact ⟨rfl, (hmid.le.trans l2).trans l3⟩
    · have e1 := fdsS_first (er := 400) (a := 0) hm k0 (by omega)
      have hmk := St.all_at hm k0
      rcases least_facts _ (rowMay2_mem hmk) with ⟨hp, hrow⟩ | ⟨p0, p1, p2, p3, p4, p5⟩
      · rw [hp] at e1
        simp only [St.put_same k0] at e1
        obtain ⟨x0, x1, x2, x3, _, _, _, _⟩ := hmid.box.st
        clear hp hjl
        go_wp2_with fail
        refine (fdsApply (stV us) st 0 k 0 _ ⟨us, rfl, hmid.rows⟩ hmid.fit).mono ?_
        rw [e1]
        rintro e w2 ⟨_, rfl, ⟨q2, rfl, o2⟩, l2⟩
        have hb2 := Box.new w2 (cells4 q2) 25
        replace l2 := l2.trans (Le.alloc w2 (.cells (cells4 q2) 25))
        replace o2 := fun i hi => (o2 i hi).le (Le.alloc w2 (.cells (cells4 q2) 25))
        replace hmid := hmid.later l2
        clear l2 x0 x1 x2 x3 e1
        go_upto_region 11 with (go_at_call 13; refine (lawNum _ _).mono ?_; rintro e _ ⟨rfl, rfl⟩)
        generalize hW : w2.alloc (.cells (cells4 q2) 25) = W at hb2 o2 hmid ⊢
        clear hW
        have c1 : W.cell? ⟨w.heap.size, k, none⟩ = some (slV (us k)) := (hmid.box.cell k).trans (cells4_at us k0)
        have hA := Le.alloc W (.cells #[.int .i64 0, .int .i64 1, .int .i64 2, .int .i64 3] 3)
        have h9 : Own (W.alloc (.cells #[.int .i64 0, .int .i64 1, .int .i64 2, .int .i64 3] 3)) W.heap.size (slV (some ⟨W.heap.size, 0, none⟩, 4, 4)) [0, 1, 2, 3] := Own.lit W _ (Nat.le_refl _) [0, 1, 2, 3] (by simp)
        have hsame := lawSameI (slV (us k)) (slV (some ⟨W.heap.size, 0, none⟩, 4, 4)) (st.at k) [0, 1, 2, 3] _ ((hmid.rows k k0).le hA) h9.has (hmid.fit k k0)
        rw [show decide (st.at k = [(0 : Int), 1, 2, 3]) = true by rw [hrow]; decide] at hsame
        clear hrow
        go_wp2_with fail
        refine hsame.mono ?_
        rintro e w6 ⟨rfl, l6⟩
        replace l6 := hA.trans l6
        replace hb2 := hb2.le l6
        replace hmid := hmid.later l6
        replace o2 := fun i hi => (o2 i hi).le l6
        clear hsame c1 h9 hA l6
        obtain ⟨x0, x1, x2, x3, _, _, _, _⟩ := hmid.box.st
        obtain ⟨y0, y1, y2, y3, _, _, _, _⟩ := hb2.st
        go_wp2_with fail
        refine (lawSameState (stV q2) (stV us) st st _ (OwnS.has ⟨q2, rfl, o2⟩) ⟨us, rfl, hmid.rows⟩ hmid.fit).mono ?_
        rw [show decide (st = st) = true by simp]
        rintro e w7 ⟨rfl, l7⟩
        go_wp2_with fail
        go_ret
        exact ⟨rfl, hmid.le.trans l7⟩
      · obtain ⟨x, hxe⟩ : ∃ x, x = (putS (st.at k)).2 := ⟨_, rfl⟩
        obtain ⟨ys, hys⟩ : ∃ ys, ys = (putS (st.at k)).1 := ⟨_, rfl⟩
        have hmy : rowMay2 ys = true := by rw [hys]; exact put_may hmk
        rw [← hxe, ← hys] at e1
        rw [← hxe] at p0 p1 p2 p3
        rw [← hys] at p4
        have hm1 : (st.put k ys).all rowMay2 = true := St.all_put hm k0 hmy
        have hf1 : Fit (st.put k ys) := hmid.fit.put k0 (rowMay2_len hmy)
        obtain ⟨x0, x1, x2, x3, _, _, _, _⟩ := hmid.box.st
        obtain ⟨L, hL⟩ : ∃ L, L = (st.at k).length := ⟨_, rfl⟩
        rw [← hL] at hjl p4 p5 p3
        have HL : Hid (L = (st.at k).length) := hL
        have HP : Hid (x ∉ st.at k) := p2
        have HC : Hid ((cntTo (st.at k) x L : Int) = x) := p3
        have HX : Hid (ys.length = L + 1) := p4
        have xm : ¬ x = -1 := by omega
        clear hL p2 p3 p4 hxe hys hmy hmk HJ
        go_wp2_with fail
        refine (fdsApply (stV us) st 0 k 0 _ ⟨us, rfl, hmid.rows⟩ hmid.fit).mono ?_
        rw [e1]
        rintro e w2 ⟨_, rfl, ⟨q2, rfl, o2⟩, l2⟩
        have hb2 := Box.new w2 (cells4 q2) 25
        have n2 : w.heap.size ≠ w2.heap.size := Nat.ne_of_lt (hmid.later l2).box.lt
        replace l2 := l2.trans (Le.alloc w2 (.cells (cells4 q2) 25))
        replace o2 := fun i hi => (o2 i hi).le (Le.alloc w2 (.cells (cells4 q2) 25))
        replace o2 := fun i hi => (o2 i hi).base (base' := w.heap.size) hmid.le.size
        replace hmid := hmid.later l2
        clear l2 x0 x1 x2 x3 e1 hm
        go_upto_region 12 with (go_at_call 13; refine (lawNum _ _).mono ?_; rintro e _ ⟨rfl, rfl⟩)
        generalize hW : w2.alloc (.cells (cells4 q2) 25) = W at hb2 o2 hmid ⊢
        clear hW
        have c1 : W.cell? ⟨w.heap.size, k, none⟩ = some (slV (us k)) := (hmid.box.cell k).trans (cells4_at us k0)
        obtain ⟨ad, cap, he, hc, _, hcell⟩ := hmid.rows k k0
        rw [he] at c1
        rw [show (st.at k).length = L from HL.out.symm] at c1 hc hcell
        go_wp2
        go_loop [10, 11] (fun t i => ∃ m : Nat, m ≤ L ∧ i = .int .i64 m ∧ t = .int .i64 (cntTo (st.at k) x m)) (fun _ i => L - (intOf i).toNat)
        case atStart => exact ⟨0, by omega, rfl, rfl⟩
        case round =>
          obtain ⟨m, hmL, rfl, rfl⟩ := hrel
          by_cases hlt : m < L
          · obtain ⟨b, off, rfl, hcl⟩ := hcell (by omega)
            obtain ⟨y, hy⟩ : ∃ y, y = (st.at k).getD m 0 := ⟨_, rfl⟩
            have c2 := hcl m hlt
            rw [← hy] at c2
            have hmem : ¬ y = x := by
              intro e
              apply HP.out
              rw [← e, hy]
              have hh : m < (st.at k).length := by rw [← HL.out]; exact hlt
              simp [List.getD, hh]
            have hstep := cntTo_step (x := x) (show m < (st.at k).length by rw [← HL.out]; exact hlt)
            rw [← hy] at hstep
            have hcb := cntTo_le (st.at k) x m
            obtain ⟨t, ht⟩ : ∃ t, t = cntTo (st.at k) x m := ⟨_, rfl⟩
            rw [← ht] at hstep hcb ⊢
            have m0 : (0 : Int) ≤ (m : Int) := by omega
            have m1 : (m : Int) < (L : Int) := by omega
            clear hy ht hcell hcl
            by_cases hyx : y < x
            · have HS : Hid (cntTo (st.at k) x (m + 1) = t + 1) := hid (by rw [hstep, if_pos hyx])
              clear hstep
              go_wp2
              go_round
              case rel => exact ⟨m + 1, by omega, by go_num, by rw [HS.out]; go_num⟩
              case measure => simp [intOf]; omega
            · have HS : Hid (cntTo (st.at k) x (m + 1) = t) := hid (by rw [hstep, if_neg hyx]; rfl)
              clear hstep
              go_wp2
              go_round
              case rel => exact ⟨m + 1, by omega, by go_num, by rw [HS.out]⟩
              case measure => simp [intOf]; omega
          · obtain rfl : m = L := by omega
            rw [show (cntTo (st.at k) x m : Int) = x from HC.out]
            have c3 : W.cell? ⟨w2.heap.size, k, none⟩ = some (slV (q2 k)) := (hb2.cell k).trans (cells4_at q2 k0)
            obtain ⟨ad2, cap2, he2, _⟩ := (o2 k k0).has
            rw [he2, St.put_at k0, show ys.length = m + 1 from HX.out] at c3
            clear hcell he he2
            go_wp2
            go_quiet (fail)
            have lq := Le.drewN W nq
            replace hmid := hmid.later lq
            replace hb2 := hb2.le lq
            replace o2 := fun i hi => (o2 i hi).le lq
            generalize hW : W.drewN nq = W2 at hb2 o2 hmid ⊢
            clear hW lq c1 c3
            go_upto_region 22 with fail
            obtain ⟨x0, x1, x2, x3, f0, f1, f2, f3⟩ := hmid.box.st
            obtain ⟨y0, y1, y2, y3, _, _, _, _⟩ := hb2.st
            go_wp2
            go_roundw
            case rel =>
              refine ⟨j + 1, st.put k ys, q2, by omega, ?_, by go_num, hid (.inr hm1), ?_, ?_, fun i hi => ?_, hf1⟩
              · rw [St.put_at k0, HX.out]; omega
              · exact hmid.le.set4 (Nat.le_refl _) _ _ _ _
              · exact (((hmid.box.set 0 _).set 1 _).set 2 _).set 3 _
              · exact ((o2 i hi).set4 hmid.box (by decide) _ _ _ _).has
            case measure => simp [intOf]; omega

end Go.Proofs.Ytkppohpjlaeloaa
