/-
  THE WALK over choruslaw5.QueueTurns: it answers true, for every state and number, and turns nothing that was there. Condition: the state's rows can be copied.
-/
import Derived.Test.YthgligelghhjaaaQAwake
import Derived.Test.YthgligelghhjaaaStC
import Derived.Test.YthgligelghhjaaaHasBox
import Derived.Test.YthgligelghhjaaaBits
namespace Go.Proofs.Ythgligelghhjaaa
open Go.RowKit

/-- A row whose first j numbers stand behind the others. -/
def rot (xs : List Int) (j : Nat) : List Int := xs.drop j ++ xs.take j

theorem rot_len (xs : List Int) (j : Nat) : (rot xs j).length = xs.length := by
  unfold rot; rw [List.length_append, List.length_drop, List.length_take]; omega
theorem rot_may {xs : List Int} (h : rowMay3 xs = true) (j : Nat) : rowMay3 (rot xs j) = true := by
  refine rowMay3_of (by rw [rot_len]; exact rowMay3_len h) fun x hx => ?_
  rcases List.mem_append.mp hx with hx | hx
  · exact rowMay3_all h x (List.mem_of_mem_drop hx)
  · exact rowMay3_all h x (List.mem_of_mem_take hx)
theorem rot_zero (xs : List Int) : rot xs 0 = xs := by simp [rot]
theorem rot_all (xs : List Int) : rot xs xs.length = xs := by simp [rot]
theorem rot_head {xs : List Int} {j : Nat} (h : j < xs.length) : rot xs j = xs.getD j 0 :: (xs.drop (j + 1) ++ xs.take j) := by
  unfold rot; rw [drop_at h]; rfl
theorem rot_next {xs : List Int} {j : Nat} (h : j < xs.length) : xs.drop (j + 1) ++ xs.take j ++ [xs.getD j 0] = rot xs (j + 1) := by
  unfold rot
  rw [List.append_assoc, List.take_succ_eq_append_getElem h]
  simp [List.getD, h]

theorem rowMay3_at {xs : List Int} (h : rowMay3 xs = true) {j : Nat} (hj : j < xs.length) : 0 ≤ xs.getD j 0 ∧ xs.getD j 0 ≤ 255 := by
  have := rowMay3_all h xs[j] (List.getElem_mem hj)
  simpa [List.getD, hj] using this

/-- In the midst: the state's box, and the box of the one whose row k is turned j times. -/
structure MidT (w : World) (s : St) (k g : Nat) (wr : World) (j : Nat) (vs ts : Nat → Sl) : Prop where
  le : Le w wr
  box : Box wr w.heap.size (cells4 vs) 25
  tbox : Box wr g (cells4 ts) 25
  big : w.heap.size < g
  rows : ∀ i, i < 4 → Has wr (slV (vs i)) (s.at i)
  trows : ∀ i, i < 4 → Has wr (slV (ts i)) ((s.put k (rot (s.at k) j)).at i)

theorem MidT.later {w : World} {s : St} {k g j : Nat} {wr wr' : World} {vs ts : Nat → Sl} (h : MidT w s k g wr j vs ts) (hl : Le wr wr') : MidT w s k g wr' j vs ts :=
  ⟨h.le.trans hl, h.box.le hl, h.tbox.le hl, h.big, fun i hi => (h.rows i hi).le hl, fun i hi => (h.trows i hi).le hl⟩

set_option maxRecDepth 4000 in
set_option maxHeartbeats 4000000 in
theorem lawTurns5 (w : World) (v : Value) (s : St) (hx : HasS w v s) (hf : Fit s) (a0 : Int) :
    Calls Try.prog 7 #[v, .int .i64 a0] w fun e w' => e = .returned (.bool true) ∧ Le w w' := by
  have hx0 := hx
  obtain ⟨vs, rfl, hr⟩ := hx
  have hl := Le.alloc w (.cells (cells4 vs) 25)
  have hb1 := Box.new w (cells4 vs) 25
  obtain ⟨k, hk, k0⟩ : ∃ k : Nat, bits .and .i64 a0 3 = (k : Int) ∧ k < 4 := ⟨(a0 % 4).toNat, by rw [and3]; omega, by omega⟩
  have i0 : (0 : Int) ≤ (k : Int) := by omega
  have i1 : (k : Int) < 4 := by omega
  have hlb := hf k k0
  obtain ⟨L, hL⟩ : ∃ L, L = (s.at k).length := ⟨_, rfl⟩
  rw [← hL] at hlb
  have HL : Hid (L = (s.at k).length) := hL
  clear hL
  go_enter Try.func7, Try.ntmps7
  go_wp2_with fail
  refine (lawAwake5 _).mono ?_
  rintro e w1 ⟨rfl, l1⟩
  obtain ⟨x0, x1, x2, x3, _, _, _, _⟩ := (hb1.le l1).st
  go_wp2_with fail
  refine (lawCopyState (stV vs) s _ (hx0.le (hl.trans l1)) hf).mono ?_
  rintro e w2 ⟨_, rfl, ⟨ts, rfl, ot⟩, l2⟩
  have hmid : MidT w s k w2.heap.size (w2.alloc (.cells (cells4 ts) 25)) 0 vs ts := by
    have l3 := (l1.trans l2).trans (Le.alloc w2 (.cells (cells4 ts) 25))
    refine ⟨hl.trans l3, hb1.le l3, Box.new _ _ _, (hb1.le (l1.trans l2)).lt, fun i hi => (hr i hi).le (hl.trans l3), fun i hi => ?_⟩
    rw [rot_zero, St.put_same k0]
    exact (ot i hi).has.le (Le.alloc _ _)
  clear x0 x1 x2 x3 l1 l2 ot hl hb1 hr hx0
  go_upto_region 5 with fail
  generalize hW : w2.alloc (.cells (cells4 ts) 25) = W at hmid ⊢
  clear hW
  generalize w2.heap.size = g at hmid ⊢
  go_wp2
  go_loopw [7] (fun i wr => ∃ (j : Nat) (us : Nat → Sl), j ≤ L ∧ j ≤ 4 ∧ i = .int .i64 j ∧ Hid (j = 0 ∨ s.all rowMay3 = true) ∧ MidT w s k g wr j vs us) (fun i _ => 4 - (intOf i).toNat)
  case atStart => exact ⟨0, ts, by omega, by omega, rfl, hid (.inl rfl), hmid⟩
  case round =>
    clear hmid
    obtain ⟨j, us, hjL, hj4, rfl, HJ, hmid⟩ := hrel
    obtain ⟨ad, cap, he, hc, _, _⟩ := hmid.rows k k0
    rw [← HL.out] at he hc
    have c1 : wr.cell? ⟨w.heap.size, k, none⟩ = some (slV (vs k)) := (hmid.box.cell k).trans (cells4_at vs k0)
    rw [he] at c1
    by_cases hlt : j < L
    · have h4 : j < 4 := by
        rcases HJ.out with h | h
        · omega
        · have := rowMay3_len (St.all_at h k0)
          rw [← HL.out] at this
          omega
      have q1 : (j : Int) < (L : Int) := by omega
      have q2 : (j : Int) < 4 := by omega
      obtain ⟨x0, x1, x2, x3, _, _, _, _⟩ := hmid.tbox.st
      cases hm : s.all rowMay3
      · have hj0 : j = 0 := by rcases HJ.out with h | h; exact h; rw [hm] at h; cases h
        subst hj0
        have est : s.put k (rot (s.at k) 0) = s := by rw [rot_zero, St.put_same k0]
        go_wp2_with fail
        refine (queApply (stV us) s 1 k 0 _ ⟨us, rfl, fun i hi => by have := hmid.trows i hi; rwa [est] at this⟩ hf).mono ?_
        rw [queS_no (by rw [hm]; rfl)]
        rintro e w2 ⟨_, rfl, ⟨q2, rfl, o2⟩, l2⟩
        replace l2 := l2.trans (Le.alloc w2 (.cells (cells4 q2) 25))
        replace o2 := fun i hi => (o2 i hi).le (Le.alloc w2 (.cells (cells4 q2) 25))
        go_wp2_with (go_at_call 12; refine (lawNum _ _).mono ?_; rintro e _ ⟨rfl, rfl⟩)
        refine (lawSameState (stV q2) stZ St.zero St.zero _ (OwnS.has ⟨q2, rfl, o2⟩) (HasS.zero _) fit_zero).mono ?_
        rw [show decide (St.zero = St.zero) = true by decide]
        rintro e w3 ⟨rfl, l3⟩
        go_wp2_with fail
        go_ret
        exact ⟨rfl, (hmid.le.trans l2).trans l3⟩
      · have hmk := St.all_at hm k0
        have hll := rowMay3_len hmk
        have hlt' : j < (s.at k).length := by rw [← HL.out]; exact hlt
        have hmst : (s.put k (rot (s.at k) j)).all rowMay3 = true := St.all_put hm k0 (rot_may hmk j)
        obtain ⟨hx1, hx2⟩ := rowMay3_at hmk hlt'
        have e1 := queS_second (er := 500) (a := 0) hmst k0 (by omega)
        rw [St.put_at k0, St.put_put, rot_head hlt'] at e1
        have hmy : rowMay3 ((s.at k).drop (j + 1) ++ (s.at k).take j) = true := by
          have := deq_may (rot_may hmk j)
          rw [rot_head hlt'] at this
          exact this
        have hylen : ((s.at k).drop (j + 1) ++ (s.at k).take j).length < 4 := by
          rw [List.length_append, List.length_drop, List.length_take]; omega
        have hm2 : (s.put k ((s.at k).drop (j + 1) ++ (s.at k).take j)).all rowMay3 = true := St.all_put hm k0 hmy
        have e2 := queS_first (er := 500) hm2 k0 ⟨hx1, hx2⟩
        rw [St.put_at k0, St.put_put, enqS, if_neg (by omega), rot_next hlt'] at e2
        rw [← rot_head hlt'] at e1
        have e1' : queS (s.put k (rot (s.at k) j)) 1 k 0 500 = (s.put k ((s.at k).drop (j + 1) ++ (s.at k).take j), (s.at k).getD j 0, 0) := by rw [e1, rot_head hlt']; rfl
        obtain ⟨x, hxe⟩ : ∃ x, x = (s.at k).getD j 0 := ⟨_, rfl⟩
        rw [← hxe] at e1' e2 hx1 hx2
        obtain ⟨ys, hys⟩ : ∃ ys, ys = (s.at k).drop (j + 1) ++ (s.at k).take j := ⟨_, rfl⟩
        rw [← hys] at e1' e2 hm2
        have hf2 := may_all3 hm2
        have hf1 := may_all3 hmst
        clear e1 hxe hys hmy hylen hm2 hmst hmk hll hlt' HJ hm
        go_wp2_with fail
        refine (queApply (stV us) (s.put k (rot (s.at k) j)) 1 k 0 _ ⟨us, rfl, hmid.trows⟩ hf1).mono ?_
        rw [e1']
        rintro e w2 ⟨_, rfl, ⟨q2, rfl, o2⟩, l2⟩
        have hb2 := Box.new w2 (cells4 q2) 25
        replace l2 := l2.trans (Le.alloc w2 (.cells (cells4 q2) 25))
        replace o2 := fun i hi => ((o2 i hi).le (Le.alloc w2 (.cells (cells4 q2) 25))).has
        replace hmid := hmid.later l2
        clear l2 x0 x1 x2 x3 e1' c1 hf1
        obtain ⟨y0, y1, y2, y3, _, _, _, _⟩ := hb2.st
        go_wp2_with (go_at_call 12; refine (lawNum _ _).mono ?_; rintro e _ ⟨rfl, rfl⟩)
        refine (queApply (stV q2) (s.put k ys) 0 k x _ ⟨q2, rfl, o2⟩ hf2).mono ?_
        rw [e2]
        rintro e w3 ⟨_, rfl, ⟨q3, rfl, o3⟩, l3⟩
        have hb3 := Box.new w3 (cells4 q3) 25
        have n3 : g < w3.heap.size := (hmid.later l3).tbox.lt
        replace l3 := l3.trans (Le.alloc w3 (.cells (cells4 q3) 25))
        replace o3 := fun i hi => ((o3 i hi).le (Le.alloc w3 (.cells (cells4 q3) 25))).has
        replace hmid := hmid.later l3
        clear l3 y0 y1 y2 y3 e2 hf2 o2 hb2
        go_upto_region 12 with fail
        generalize hW : w3.alloc (.cells (cells4 q3) 25) = W3 at hb3 o3 hmid ⊢
        clear hW
        generalize w3.heap.size = g3 at hb3 n3 ⊢
        obtain ⟨x0, x1, x2, x3, f0, f1, f2, f3⟩ := hmid.tbox.st
        obtain ⟨y0, y1, y2, y3, _, _, _, _⟩ := hb3.st
        go_wp2_with (go_at_call 12; refine (lawNum _ _).mono ?_; rintro e _ ⟨rfl, rfl⟩)
        go_roundw
        case rel =>
          refine ⟨j + 1, q3, by omega, by omega, by go_num, hid (.inr trivial), ?_, ?_, hmid.tbox.all4, hmid.big, fun i hi => (hmid.rows i hi).set4 hmid.tbox, fun i hi => (o3 i hi).set4 hmid.tbox⟩
          · exact hmid.le.set4 (Nat.le_of_lt hmid.big) _ _ _ _
          · exact hmid.box.other4 (by have := hmid.big; omega) _ _ _ _
        case measure => simp [intOf]; omega
    · have q1 : ¬ (j : Int) < (L : Int) := by omega
      obtain rfl : j = L := by omega
      have est : s.put k (rot (s.at k) j) = s := by rw [HL.out, rot_all, St.put_same k0]
      have htr := hmid.trows
      rw [est] at htr
      obtain ⟨x0, x1, x2, x3, _, _, _, _⟩ := hmid.tbox.st
      obtain ⟨y0, y1, y2, y3, _, _, _, _⟩ := hmid.box.st
      clear est
      go_wp2_with fail
      refine (lawSameState (stV us) (stV vs) s s _ ⟨us, rfl, htr⟩ ⟨vs, rfl, hmid.rows⟩ hf).mono ?_
      rw [show decide (s = s) = true by simp]
      rintro e w4 ⟨rfl, l4⟩
      go_wp2_with fail
      go_ret
      exact ⟨rfl, hmid.le.trans l4⟩

end Go.Proofs.Ythgligelghhjaaa
