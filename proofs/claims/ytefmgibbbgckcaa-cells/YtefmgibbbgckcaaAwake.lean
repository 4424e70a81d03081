/-
  THE WALK over choruslaw1.awake: it answers true, and turns nothing that was there. No condition.
-/
import Derived.Test.YtefmgibbbgckcaaLawA
namespace Go.Proofs.Ytefmgibbbgckcaa
open Go.RowKit

theorem Own.lit (w : World) (xs : List Int) (h : xs.length ≤ maxLen) : Own (w.alloc (.cells (xs.map (Value.int .i64)).toArray 3)) w.heap.size (.slice (some ⟨w.heap.size, 0, none⟩) xs.length xs.length) xs :=
  Own.of (World.ownsRow_lit w _ xs.length (Nat.le_refl _) h (by simp)) rfl (by simp)

theorem Fresh.has {w w' : World} {v : Value} {xs : List Int} (h : Fresh w w' v xs) : Has w' v xs := h.1.has
theorem Fresh.le {w w' : World} {v : Value} {xs : List Int} (h : Fresh w w' v xs) : Le w w' := h.2

theorem lawSameL (v u : Value) (xs ys : List Int) (w : World) (hx : Has w v xs) (hy : Has w u ys) (hm : xs.length ≤ 9223372036854775807) :
    Calls Try.prog 18 #[v, u] w fun e w' => e = .returned (.bool (decide (xs = ys))) ∧ Le w w' :=
  (lawSameInts v u xs ys w hx hy hm).mono fun _ _ ⟨he, n, hw⟩ => ⟨he, hw ▸ Le.drewN _ n⟩

set_option maxHeartbeats 1000000 in
theorem lawAwake (w : World) : Calls Try.prog 21 #[] w fun e w' => e = .returned (.bool true) ∧ Le w w' := by
  have h0 : Has (w.alloc (.cells #[.int .i64 3, .int .i64 5] 3)) (.slice (some ⟨w.heap.size, 0, none⟩) 2 2) [3, 5] := (Own.lit w [3, 5] (by decide)).has
  have l0 := Le.alloc w (.cells #[.int .i64 3, .int .i64 5] 3)
  go_enter Try.func21, Try.ntmps21
  go_wp2_with fail
  go_at_call 9
  refine (cellLoad _ [3, 5] _ _ h0).mono ?_
  rw [show loadS [3, 5] 1 = (5, 0) from by decide]
  rintro e w' ⟨rfl, rfl⟩
  go_wp2_with fail
  go_at_call 11
  refine (cellStore _ [3, 5] _ _ _ h0).mono ?_
  rw [show storeS [3, 5] 0 9 = ([9, 5], 0) from by decide]
  rintro e w1 ⟨v1, rfl, f1⟩
  have g1 := h0.le f1.le
  go_wp2_with fail
  go_at_call 13
  refine (cellSwap _ [3, 5] _ _ _ _ g1).mono ?_
  rw [show swapS [3, 5] 0 3 4 = ([4, 5], true, 0) from by decide]
  rintro e w2 ⟨v2, rfl, f2⟩
  have g2 := g1.le f2.le
  go_wp2_with fail
  go_at_call 13
  refine (cellSwap _ [3, 5] _ _ _ _ g2).mono ?_
  rw [show swapS [3, 5] 0 4 4 = ([3, 5], false, 0) from by decide]
  rintro e w3 ⟨v3, rfl, f3⟩
  have g3 := g2.le f3.le
  go_wp2_with fail
  go_at_call 15
  refine (cellAdd _ [3, 5] _ _ _ g3).mono ?_
  rw [show addS [3, 5] 1 (-5) = ([3, 0], 5, 0) from by decide]
  rintro e w4 ⟨v4, rfl, f4⟩
  have g4 := g3.le f4.le
  go_wp2_with fail
  go_at_call 9
  refine (cellLoad _ [3, 5] _ _ g4).mono ?_
  rw [show loadS [3, 5] 2 = (0, 100) from by decide]
  rintro e w' ⟨rfl, rfl⟩
  go_wp2_with fail
  go_at_call 15
  refine (cellAdd _ [3, 5] _ _ _ g4).mono ?_
  rw [show addS [3, 5] 0 (-4) = ([], 0, 100) from by decide]
  rintro e w5 ⟨v5, rfl, f5⟩
  have g5 := g4.le f5.le
  have k1 : Has w5 v1 [9, 5] := (((f1.has.le f2.le).le f3.le).le f4.le).le f5.le
  have k2 : Has w5 v2 [4, 5] := (((f2.has.le f3.le).le f4.le)).le f5.le
  have k3 : Has w5 v3 [3, 5] := (((f3.has.le f4.le))).le f5.le
  have k4 : Has w5 v4 [3, 0] := (f4.has).le f5.le
  have l5 : Le w w5 := ((((l0.trans f1.le).trans f2.le).trans f3.le).trans f4.le).trans f5.le
  clear f1 f2 f3 f4 f5 g1 g2 g3 g4 h0 l0
  go_wp2_with (go_at_call 17; refine (lawNum _ _).mono ?_; rintro e _ ⟨rfl, rfl⟩)
  refine (lawSameL _ _ [9, 5] [9, 5] _ (k1.le (Le.alloc _ _)) (Own.lit w5 [9, 5] (by decide)).has (by decide)).mono ?_
  rw [show decide (([9, 5] : List Int) = [9, 5]) = true from by decide]
  rintro e w6 ⟨rfl, m6⟩
  have l6 : Le w w6 := (l5.trans (Le.alloc _ _)).trans m6
  replace m6 : Le w5 w6 := (Le.alloc _ _).trans m6
  replace k2 := k2.le m6
  replace k3 := k3.le m6
  replace k4 := k4.le m6
  replace g5 := g5.le m6
  clear k1 l5 m6
  go_wp2_with (go_at_call 17; refine (lawNum _ _).mono ?_; rintro e _ ⟨rfl, rfl⟩)
  refine (lawSameL _ _ [4, 5] [4, 5] _ (k2.le (Le.alloc _ _)) (Own.lit w6 [4, 5] (by decide)).has (by decide)).mono ?_
  rw [show decide (([4, 5] : List Int) = [4, 5]) = true from by decide]
  rintro e w7 ⟨rfl, m7⟩
  have l7 : Le w w7 := (l6.trans (Le.alloc _ _)).trans m7
  replace m7 : Le w6 w7 := (Le.alloc _ _).trans m7
  replace k3 := k3.le m7
  replace k4 := k4.le m7
  replace g5 := g5.le m7
  clear k2 l6 m7
  go_wp2_with (go_at_call 17; refine (lawNum _ _).mono ?_; rintro e _ ⟨rfl, rfl⟩)
  refine (lawSameL _ _ [3, 5] [3, 5] _ k3 g5 (by decide)).mono ?_
  rw [show decide (([3, 5] : List Int) = [3, 5]) = true from by decide]
  rintro e w8 ⟨rfl, m8⟩
  have l8 : Le w w8 := l7.trans m8
  replace k4 := k4.le m8
  clear k3 l7 m8 g5
  go_wp2_with (go_at_call 17; refine (lawNum _ _).mono ?_; rintro e _ ⟨rfl, rfl⟩)
  refine (lawSameL _ _ [3, 0] [3, 0] _ (k4.le (Le.alloc _ _)) (Own.lit w8 [3, 0] (by decide)).has (by decide)).mono ?_
  rw [show decide (([3, 0] : List Int) = [3, 0]) = true from by decide]
  rintro e w9 ⟨rfl, m9⟩
  have l9 : Le w w9 := (l8.trans (Le.alloc _ _)).trans m9
  clear k4 l8 m9
  go_wp2_with (go_at_call 17; refine (lawNum _ _).mono ?_; rintro e _ ⟨rfl, rfl⟩)
  go_ret
  exact ⟨rfl, l9⟩

end Go.Proofs.Ytefmgibbbgckcaa
