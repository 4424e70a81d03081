/-
  THE WALK over choruslaw5.QueueEmpties: it answers true, for every state and number, and turns nothing that was there. Condition: the state's rows can be copied.
-/
import Derived.Test.YthgligelghhjaaaQAwake
import Derived.Test.YthgligelghhjaaaStC
import Derived.Test.YthgligelghhjaaaHasBox
import Derived.Test.YthgligelghhjaaaBits
namespace Go.Proofs.Ythgligelghhjaaa
open Go.RowKit

theorem rowMay3_drop {xs : List Int} (h : rowMay3 xs = true) (j : Nat) : rowMay3 (xs.drop j) = true := by
  have h1 := rowMay3_len h
  exact rowMay3_of (by rw [List.length_drop]; omega) fun x hx => rowMay3_all h x (List.mem_of_mem_drop hx)

theorem rowMay3_at {xs : List Int} (h : rowMay3 xs = true) {j : Nat} (hj : j < xs.length) : 0 ≤ xs.getD j 0 ∧ xs.getD j 0 ≤ 255 := by
  have := rowMay3_all h xs[j] (List.getElem_mem hj)
  simpa [List.getD, hj] using this

/-- In the midst: the state's box, from whose row k the first j numbers have gone, and the first state's. -/
structure MidE (w : World) (s : St) (k g : Nat) (wr : World) (j : Nat) (us fs : Nat → Sl) : Prop where
  le : Le w wr
  box : Box wr w.heap.size (cells4 us) 25
  first : Box wr g (cells4 fs) 25
  big : w.heap.size < g
  rows : ∀ i, i < 4 → Has wr (slV (us i)) ((s.put k ((s.at k).drop j)).at i)
  frows : ∀ i, i < 4 → Has wr (slV (fs i)) (s.at i)

theorem MidE.later {w : World} {s : St} {k g j : Nat} {wr wr' : World} {us fs : Nat → Sl} (h : MidE w s k g wr j us fs) (hl : Le wr wr') : MidE w s k g wr' j us fs :=
  ⟨h.le.trans hl, h.box.le hl, h.first.le hl, h.big, fun i hi => (h.rows i hi).le hl, fun i hi => (h.frows i hi).le hl⟩

set_option maxRecDepth 4000 in
set_option maxHeartbeats 4000000 in
theorem lawEmpties (w : World) (v : Value) (s : St) (hx : HasS w v s) (hf : Fit s) (a0 : Int) :
    Calls Try.prog 6 #[v, .int .i64 a0] w fun e w' => e = .returned (.bool true) ∧ Le w w' := by
  have hx0 := hx
  obtain ⟨vs, rfl, hr⟩ := hx
  have hl := Le.alloc w (.cells (cells4 vs) 25)
  have hb1 := Box.new w (cells4 vs) 25
  obtain ⟨k, hk, k0⟩ : ∃ k : Nat, bits .and .i64 a0 3 = (k : Int) ∧ k < 4 := ⟨(a0 % 4).toNat, by rw [and3]; omega, by omega⟩
  have i0 : (0 : Int) ≤ (k : Int) := by omega
  have i1 : (k : Int) < 4 := by omega
  go_enter Try.func6, Try.ntmps6
  go_wp2_with fail
  refine (lawAwake5 _).mono ?_
  rintro e w1 ⟨rfl, l1⟩
  obtain ⟨x0, x1, x2, x3, _, _, _, _⟩ := (hb1.le l1).st
  go_wp2_with fail
  refine (lawCopyState (stV vs) s _ (hx0.le (hl.trans l1)) hf).mono ?_
  rintro e w2 ⟨_, rfl, ⟨fs, rfl, of⟩, l2⟩
  have hmid : MidE w s k w2.heap.size (w2.alloc (.cells (cells4 fs) 25)) 0 vs fs := by
    have l3 := (l1.trans l2).trans (Le.alloc w2 (.cells (cells4 fs) 25))
    refine ⟨hl.trans l3, hb1.le l3, Box.new _ _ _, (hb1.le (l1.trans l2)).lt, fun i hi => ?_, fun i hi => (of i hi).has.le (Le.alloc _ _)⟩
    rw [List.drop_zero, St.put_same k0]
    exact (hr i hi).le (hl.trans l3)
  clear x0 x1 x2 x3 l1 l2 of hl hb1 hr hx0
  go_upto_region 5 with fail
  generalize hW : w2.alloc (.cells (cells4 fs) 25) = W at hmid ⊢
  clear hW
  generalize w2.heap.size = g at hmid ⊢
  go_wp2
  go_loopw [7] (fun i wr => ∃ (j : Nat) (us : Nat → Sl), j ≤ 4 ∧ i = .int .i64 j ∧ Hid (j = 0 ∨ (s.all rowMay3 = true ∧ j ≤ (s.at k).length)) ∧ MidE w s k g wr j us fs) (fun i _ => 5 - (intOf i).toNat)
  case atStart => exact ⟨0, vs, by omega, rfl, hid (.inl rfl), hmid⟩
  case round =>
    clear hmid
    obtain ⟨j, us, hj, rfl, HJ, hmid⟩ := hrel
    have hj4 : (j : Int) ≤ 4 := by omega
    obtain ⟨x0, x1, x2, x3, _, _, _, _⟩ := hmid.box.st
    cases hm : s.all rowMay3
    · have hj0 : j = 0 := by rcases HJ.out with h | ⟨h, _⟩; exact h; rw [hm] at h; cases h
      subst hj0
      have est : s.put k ((s.at k).drop 0) = s := by rw [List.drop_zero, St.put_same k0]
      go_wp2_with fail
      refine (queApply (stV us) s 1 k 0 _ ⟨us, rfl, fun i hi => by have := hmid.rows i hi; rwa [est] at this⟩ hf).mono ?_
      rw [queS_no (by rw [hm]; rfl)]
      rintro e w2 ⟨_, rfl, ⟨q2, rfl, o2⟩, l2⟩
      replace l2 := l2.trans (Le.alloc w2 (.cells (cells4 q2) 25))
      replace o2 := fun i hi => (o2 i hi).le (Le.alloc w2 (.cells (cells4 q2) 25))
      go_wp2_with (go_at_call 12; refine (lawNum _ _).mono ?_; rintro e _ ⟨rfl, rfl⟩)
      refine (lawSameState (stV q2) stZ St.zero St.zero _ (OwnS.has ⟨q2, rfl, o2⟩) (HasS.zero _) fit_zero).mono ?_
      rw [show decide (St.zero = St.zero) = true by decide]
      rintro e w3 ⟨rfl, l3⟩
      go_wp2_with fail
      go_ret
      exact ⟨rfl, (hmid.le.trans l2).trans l3⟩
    · have hmk := St.all_at hm k0
      have hmst : (s.put k ((s.at k).drop j)).all rowMay3 = true := St.all_put hm k0 (rowMay3_drop hmk j)
      have e1 := queS_second (er := 500) (a := 0) hmst k0 (by omega)
      rw [St.put_at k0, St.put_put] at e1
      have hjl : j ≤ (s.at k).length := by rcases HJ.out with h | ⟨_, h⟩ <;> omega
      have hll := rowMay3_len hmk
      by_cases hlt : j < (s.at k).length
      · obtain ⟨hx1, hx2⟩ := rowMay3_at hmk hlt
        rw [drop_at hlt] at e1
        simp only [deqS] at e1
        rw [← drop_at hlt] at e1
        obtain ⟨ad, cap, he, hc, _, hcell⟩ := hmid.frows k k0
        obtain ⟨b, off, rfl, hcl⟩ := hcell (by omega)
        have hcx := hcl j hlt
        obtain ⟨x, hxe⟩ : ∃ x, x = (s.at k).getD j 0 := ⟨_, rfl⟩
        rw [← hxe] at e1 hx1 hx2 hcx
        obtain ⟨L, hL⟩ : ∃ L, L = (s.at k).length := ⟨_, rfl⟩
        rw [← hL] at he hc hlt hll
        have HL : Hid (L = (s.at k).length) := hL
        have j0 : (0 : Int) ≤ (j : Int) := by omega
        have j1 : (j : Int) < (L : Int) := by omega
        have xm : ¬ x = -1 := by omega
        clear hxe hL hcell hcl HJ hm
        go_wp2_with fail
        refine (queApply (stV us) (s.put k ((s.at k).drop j)) 1 k 0 _ ⟨us, rfl, hmid.rows⟩ (may_all3 hmst)).mono ?_
        rw [e1]
        rintro e w2 ⟨_, rfl, ⟨q2, rfl, o2⟩, l2⟩
        have hb2 := Box.new w2 (cells4 q2) 25
        have n2 : w.heap.size ≠ w2.heap.size := Nat.ne_of_lt (hmid.later l2).box.lt
        replace l2 := l2.trans (Le.alloc w2 (.cells (cells4 q2) 25))
        replace o2 := fun i hi => ((o2 i hi).le (Le.alloc w2 (.cells (cells4 q2) 25))).has
        have c2 : (w2.alloc (.cells (cells4 q2) 25)).cell? ⟨b, off + j, none⟩ = some (.int .i64 x) := by rw [l2.cell (p := ⟨b, off + j, none⟩) (World.block_lt_of_cell? _ _ hcx)]; exact hcx
        replace hmid := hmid.later l2
        clear l2 x0 x1 x2 x3 e1 hcx
        go_upto_region 9 with fail
        generalize hW : w2.alloc (.cells (cells4 q2) 25) = W2 at hb2 o2 hmid c2 ⊢
        clear hW
        generalize w2.heap.size = g2 at hb2 n2 ⊢
        have c1 : W2.cell? ⟨g, k, none⟩ = some (slV (fs k)) := (hmid.first.cell k).trans (cells4_at fs k0)
        rw [he] at c1
        go_upto_region 16 with (go_at_call 12; refine (lawNum _ _).mono ?_; rintro e _ ⟨rfl, rfl⟩)
        clear c1 c2
        obtain ⟨x0, x1, x2, x3, f0, f1, f2, f3⟩ := hmid.box.st
        obtain ⟨y0, y1, y2, y3, _, _, _, _⟩ := hb2.st
        go_wp2
        go_roundw
        case rel =>
          refine ⟨j + 1, q2, by omega, by go_num, hid (.inr ⟨trivial, by have := HL.out; omega⟩), ?_, hmid.box.all4, ?_, hmid.big, fun i hi => (o2 i hi).set4 hmid.box, fun i hi => (hmid.frows i hi).set4 hmid.box⟩
          · exact hmid.le.set4 (Nat.le_refl _) _ _ _ _
          · exact hmid.first.other4 (by have := hmid.big; omega) _ _ _ _
        case measure => simp [intOf]; omega
      · have hje : j = (s.at k).length := by omega
        have hnil : (s.at k).drop j = [] := List.drop_eq_nil_of_le (by omega)
        rw [hnil] at e1
        simp only [deqS] at e1
        have hrows := hmid.rows
        rw [hnil] at hrows hmst
        have hf1 := may_all3 hmst
        have hmidf := hmid.first
        have hmidb := hmid.box
        have hfr := hmid.frows
        have hle := hmid.le
        have hbig := hmid.big
        clear hje hnil hlt hjl hll hmk HJ hm hmid
        go_wp2_with fail
        refine (queApply (stV us) (s.put k []) 1 k 0 _ ⟨us, rfl, hrows⟩ hf1).mono ?_
        rw [show queS (s.put k []) 1 k 0 500 = (s.put k [], -1, 0) by rw [queS_second hmst k0 (by omega), St.put_at k0]; simp only [deqS, St.put_put]]
        rintro e w2 ⟨_, rfl, ⟨q2, rfl, o2⟩, l2⟩
        have hb2 := Box.new w2 (cells4 q2) 25
        have n2 : g < w2.heap.size := (hmidf.le l2).lt
        replace l2 := l2.trans (Le.alloc w2 (.cells (cells4 q2) 25))
        replace o2 := fun i hi => ((o2 i hi).le (Le.alloc w2 (.cells (cells4 q2) 25))).has
        replace hmidf := hmidf.le l2
        replace hmidb := hmidb.le l2
        replace hfr := fun i hi => (hfr i hi).le l2
        replace hrows := fun i hi => (hrows i hi).le l2
        replace hle := hle.trans l2
        clear l2 x0 x1 x2 x3 e1
        go_upto_region 9 with fail
        generalize hW : w2.alloc (.cells (cells4 q2) 25) = W2 at hb2 o2 hmidf hmidb hfr hrows hle ⊢
        clear hW
        generalize w2.heap.size = g2 at hb2 n2 ⊢
        have c1 : W2.cell? ⟨g, k, none⟩ = some (slV (fs k)) := (hmidf.cell k).trans (cells4_at fs k0)
        have f1 := hmidf.frozen k
        go_upto_region 13 with (go_at_call 12; refine (lawNum _ _).mono ?_; rintro e _ ⟨rfl, rfl⟩)
        have hb3 := hmidf.upd4 k0 slZ
        have hfr3 : ∀ i, i < 4 → Has (W2.setCell ⟨g, k, none⟩ (slV slZ)) (slV (upd fs k slZ i)) ((s.put k []).at i) := by
          intro i hi
          rw [St.at_put k0 hi]
          by_cases e : i = k
          · rw [if_pos e, show upd fs k slZ i = slZ by simp [upd, e]]; exact Has.nil _
          · rw [if_neg e, show upd fs k slZ i = fs i by simp [upd, e]]; exact (hfr i hi).setBox hmidf
        replace hb2 := hb2.other (g' := g) (by omega) k (slV slZ)
        replace hmidb := hmidb.other (g' := g) (by omega) k (slV slZ)
        replace o2 := fun i hi => (o2 i hi).setBox (i := k) (u := slV slZ) hmidf
        replace hrows := fun i hi => (hrows i hi).setBox (i := k) (u := slV slZ) hmidf
        replace hle : Le w (W2.setCell ⟨g, k, none⟩ (slV slZ)) := Below.setCell hle (Nat.le_of_lt hbig) _
        generalize hW : W2.setCell ⟨g, k, none⟩ (slV slZ) = W3 at hb2 hb3 hfr3 hmidb o2 hrows hle ⊢
        clear hW c1 f1 hfr hmidf
        generalize upd fs k slZ = fs3 at hb3 hfr3
        obtain ⟨x0, x1, x2, x3, _, _, _, _⟩ := hmidb.st
        obtain ⟨y0, y1, y2, y3, _, _, _, _⟩ := hb2.st
        go_wp2_with fail
        refine (lawSameState (stV q2) (stV us) (s.put k []) (s.put k []) _ ⟨q2, rfl, o2⟩ ⟨us, rfl, hrows⟩ hf1).mono ?_
        rw [show decide (s.put k [] = s.put k []) = true by simp]
        rintro e w4 ⟨rfl, l4⟩
        clear x0 x1 x2 x3 y0 y1 y2 y3
        obtain ⟨x0, x1, x2, x3, _, _, _, _⟩ := (hb3.le l4).st
        obtain ⟨y0, y1, y2, y3, _, _, _, _⟩ := (hb2.le l4).st
        go_wp2_with fail
        refine (lawSameState (stV q2) (stV fs3) (s.put k []) (s.put k []) _ ⟨q2, rfl, fun i hi => (o2 i hi).le l4⟩ ⟨fs3, rfl, fun i hi => (hfr3 i hi).le l4⟩ hf1).mono ?_
        rw [show decide (s.put k [] = s.put k []) = true by simp]
        rintro e w5 ⟨rfl, l5⟩
        go_wp2_with fail
        go_ret
        exact ⟨rfl, (hle.trans l4).trans l5⟩

end Go.Proofs.Ythgligelghhjaaa
