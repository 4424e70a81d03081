/-
  THE WALK over choruslaw1.CellForms: it answers true, for every two numbers, and turns nothing that was there.
-/
import Derived.Test.YtefmgibbbgckcaaAwake
import Derived.Test.YtefmgibbbgckcaaBits
namespace Go.Proofs.Ytefmgibbbgckcaa
open Go.RowKit

def badB (b : Int) : Prop := b < 0 ∨ 1048576 < b
theorem load_bad (b : Int) (h : badB b) : loadS [1, b] 0 = (0, 100) := by
  have : holdB b = false := by unfold badB at h; simp [holdB]; omega
  simp [loadS, atB, mayB, this]
theorem load_out (p : Int) (h : p < 0 ∨ 2 < p) : loadS [1, 2, 3] p = (0, 100) := by
  have : atB [1, 2, 3] p = false := by simp [atB]; omega
  simp [loadS, this]
theorem store_bad (b : Int) (h : badB b) : storeS [1, 2, 3] 0 b = ([], 100) := by
  have : holdB b = false := by unfold badB at h; simp [holdB]; omega
  simp [storeS, this]
theorem swap_bad (b : Int) (h : badB b) : swapS [1, 2, 3] 0 1 b = ([], false, 100) := by
  have : holdB b = false := by unfold badB at h; simp [holdB]; omega
  simp [swapS, this]
theorem add_bad (b : Int) (h : badB (1 + b)) : addS [1, 2, 3] 0 b = ([], 0, 100) := by
  have : holdB (1 + b) = false := by unfold badB at h; simp [holdB]; omega
  simp [addS, this]
theorem load_long (xs : List Int) (p : Int) (h : 16 < xs.length) : loadS xs p = (0, 100) := by
  have : atB xs p = false := by simp [atB, mayB]; omega
  simp [loadS, this]

theorem grown_le {w w' : World} (h : w.grownBy w' none) : Le w w' := (Below.refl _ _).grown h (Nat.le_refl _) (fun k h => by cases h)

set_option maxHeartbeats 2000000 in
theorem lawForms (a0 a1 : Int) (w : World) : Calls Try.prog 5 #[.int .i64 a0, .int .i64 a1] w fun e w' => e = .returned (.bool true) ∧ Le w w' := by
  obtain ⟨i0, hi, hz0, hz1, hz2⟩ := info_parts info3
  obtain ⟨m, hm, m0, m1⟩ : ∃ m, bits .and .i64 a1 1023 = m ∧ 0 ≤ m ∧ m ≤ 1023 := ⟨_, and1023 a1, by omega, by omega⟩
  have hp : bits .and .i64 a0 1 = 0 ∨ bits .and .i64 a0 1 = 1 := by rw [and1]; omega
  rcases hp with hp | hp
  · go_enter Try.func5, Try.ntmps5
    go_wp2_with (go_at_call 21; refine (lawAwake _).mono ?_; rintro e w1 ⟨rfl, l1⟩)
    generalize hA : Obj.cells #[Value.int IntKind.i64 (-(1 + m)), Value.int IntKind.i64 (1048576 + (1 + m))] 3 = A
    have hbad : badB (-(1 + m)) := by unfold badB; omega
    have h1 : Has (((w1.alloc A).alloc (.cells #[.int .i64 1, .int .i64 2, .int .i64 3] 3)).alloc (.cells #[.int .i64 1, .int .i64 (-(1 + m))] 3)) (.slice (some ⟨w1.heap.size + 1 + 1, 0, none⟩) 2 2) [1, -(1 + m)] := by
      have := (Own.lit ((w1.alloc A).alloc (.cells #[.int .i64 1, .int .i64 2, .int .i64 3] 3)) [1, -(1 + m)] (show 2 ≤ maxLen by decide)).has
      simpa using this
    have h2 : Has (((w1.alloc A).alloc (.cells #[.int .i64 1, .int .i64 2, .int .i64 3] 3)).alloc (.cells #[.int .i64 1, .int .i64 (-(1 + m))] 3)) (.slice (some ⟨w1.heap.size + 1, 0, none⟩) 3 3) [1, 2, 3] := by
      have := (Own.lit (w1.alloc A) [1, 2, 3] (by decide)).has
      exact Has.le (by simpa using this) (Le.alloc _ _)
    have l2 : Le w (((w1.alloc A).alloc (.cells #[.int .i64 1, .int .i64 2, .int .i64 3] 3)).alloc (.cells #[.int .i64 1, .int .i64 (-(1 + m))] 3)) := ((l1.trans (Le.alloc _ _)).trans (Le.alloc _ _)).trans (Le.alloc _ _)
    generalize (((w1.alloc A).alloc (.cells #[.int .i64 1, .int .i64 2, .int .i64 3] 3)).alloc (.cells #[.int .i64 1, .int .i64 (-(1 + m))] 3)) = w2 at h1 h2 l2 ⊢
    refine (cellLoad _ [1, -(1 + m)] _ _ h1).mono ?_
    rw [load_bad _ hbad]
    rintro e _ ⟨rfl, rfl⟩
    clear h1 l1 hA
    go_wp2_with fail
    refine (cellLoad _ [1, 2, 3] _ _ h2).mono ?_
    rw [load_out _ (by omega)]
    rintro e _ ⟨rfl, rfl⟩
    go_wp2_with fail
    refine (cellLoad _ [1, 2, 3] _ _ h2).mono ?_
    rw [load_out _ (by omega)]
    rintro e _ ⟨rfl, rfl⟩
    go_wp2_with fail
    refine (cellStore _ [1, 2, 3] _ _ _ h2).mono ?_
    rw [store_bad _ hbad]
    rintro e w3 ⟨v3, rfl, f3⟩
    replace h2 := h2.le f3.le
    replace l2 := l2.trans f3.le
    clear f3
    go_wp2_with fail
    refine (cellSwap _ [1, 2, 3] _ _ _ _ h2).mono ?_
    rw [swap_bad _ hbad]
    rintro e w4 ⟨v4, rfl, f4⟩
    replace h2 := h2.le f4.le
    replace l2 := l2.trans f4.le
    clear f4
    go_wp2_with fail
    refine (cellAdd _ [1, 2, 3] _ _ _ h2).mono ?_
    rw [add_bad _ (by unfold badB; omega)]
    rintro e w5 ⟨v5, rfl, f5⟩
    replace h2 := h2.le f5.le
    replace l2 := l2.trans f5.le
    clear f5
    go_wp2_with fail
    refine (cellAdd _ [1, 2, 3] _ _ _ h2).mono ?_
    rw [add_bad _ (by unfold badB; omega)]
    rintro e w6 ⟨v6, rfl, f6⟩
    replace l2 := l2.trans f6.le
    clear f6 h2
    go_wp2_with (at_make; refine wpList_make_full _ rfl _ _ 22 rfl w6.heap.size 3 i0 (.int .i64 0) 1 Try.underlying22 hi hz0 hz1 .i64 .i64 _ _ (17 + m).toNat rfl rfl (by omega) (by omega) (by rw [hz2]; omega) (by unfold maxLen; omega) (Nat.le_refl _) ?_; intro w7 hown7 hgrow7)
    have h7 : Has w7 _ (List.replicate (17 + m).toNat 0) := (Own.of hown7 (by simp) (by rw [Nat.mul_one]; exact (toList_madeCells_one _ _).trans (by simp))).has
    replace l2 := l2.trans (grown_le hgrow7)
    refine (cellLoad _ (List.replicate (17 + m).toNat 0) _ _ h7).mono ?_
    rw [load_long _ _ (by simp; omega)]
    rintro e _ ⟨rfl, rfl⟩
    clear h7 hown7 hgrow7
    go_wp2_with fail
    refine (cellLoad _ [] _ _ (Has.nil _)).mono ?_
    rw [show loadS [] 0 = (0, 100) from by decide]
    rintro e _ ⟨rfl, rfl⟩
    go_wp2_with (go_at_call 17; refine (lawNum _ _).mono ?_; rintro e _ ⟨rfl, rfl⟩)
    go_ret
    exact ⟨rfl, l2⟩
  · go_enter Try.func5, Try.ntmps5
    go_wp2_with (go_at_call 21; refine (lawAwake _).mono ?_; rintro e w1 ⟨rfl, l1⟩)
    generalize hA : Obj.cells #[Value.int IntKind.i64 (-(1 + m)), Value.int IntKind.i64 (1048576 + (1 + m))] 3 = A
    have hbad : badB (1048576 + (1 + m)) := by unfold badB; omega
    have h1 : Has (((w1.alloc A).alloc (.cells #[.int .i64 1, .int .i64 2, .int .i64 3] 3)).alloc (.cells #[.int .i64 1, .int .i64 (1048576 + (1 + m))] 3)) (.slice (some ⟨w1.heap.size + 1 + 1, 0, none⟩) 2 2) [1, 1048576 + (1 + m)] := by
      have := (Own.lit ((w1.alloc A).alloc (.cells #[.int .i64 1, .int .i64 2, .int .i64 3] 3)) [1, 1048576 + (1 + m)] (show 2 ≤ maxLen by decide)).has
      simpa using this
    have h2 : Has (((w1.alloc A).alloc (.cells #[.int .i64 1, .int .i64 2, .int .i64 3] 3)).alloc (.cells #[.int .i64 1, .int .i64 (1048576 + (1 + m))] 3)) (.slice (some ⟨w1.heap.size + 1, 0, none⟩) 3 3) [1, 2, 3] := by
      have := (Own.lit (w1.alloc A) [1, 2, 3] (by decide)).has
      exact Has.le (by simpa using this) (Le.alloc _ _)
    have l2 : Le w (((w1.alloc A).alloc (.cells #[.int .i64 1, .int .i64 2, .int .i64 3] 3)).alloc (.cells #[.int .i64 1, .int .i64 (1048576 + (1 + m))] 3)) := ((l1.trans (Le.alloc _ _)).trans (Le.alloc _ _)).trans (Le.alloc _ _)
    generalize (((w1.alloc A).alloc (.cells #[.int .i64 1, .int .i64 2, .int .i64 3] 3)).alloc (.cells #[.int .i64 1, .int .i64 (1048576 + (1 + m))] 3)) = w2 at h1 h2 l2 ⊢
    refine (cellLoad _ [1, 1048576 + (1 + m)] _ _ h1).mono ?_
    rw [load_bad _ hbad]
    rintro e _ ⟨rfl, rfl⟩
    clear h1 l1 hA
    go_wp2_with fail
    refine (cellLoad _ [1, 2, 3] _ _ h2).mono ?_
    rw [load_out _ (by omega)]
    rintro e _ ⟨rfl, rfl⟩
    go_wp2_with fail
    refine (cellLoad _ [1, 2, 3] _ _ h2).mono ?_
    rw [load_out _ (by omega)]
    rintro e _ ⟨rfl, rfl⟩
    go_wp2_with fail
    refine (cellStore _ [1, 2, 3] _ _ _ h2).mono ?_
    rw [store_bad _ hbad]
    rintro e w3 ⟨v3, rfl, f3⟩
    replace h2 := h2.le f3.le
    replace l2 := l2.trans f3.le
    clear f3
    go_wp2_with fail
    refine (cellSwap _ [1, 2, 3] _ _ _ _ h2).mono ?_
    rw [swap_bad _ hbad]
    rintro e w4 ⟨v4, rfl, f4⟩
    replace h2 := h2.le f4.le
    replace l2 := l2.trans f4.le
    clear f4
    go_wp2_with fail
    refine (cellAdd _ [1, 2, 3] _ _ _ h2).mono ?_
    rw [add_bad _ (by unfold badB; omega)]
    rintro e w5 ⟨v5, rfl, f5⟩
    replace h2 := h2.le f5.le
    replace l2 := l2.trans f5.le
    clear f5
    go_wp2_with fail
    refine (cellAdd _ [1, 2, 3] _ _ _ h2).mono ?_
    rw [add_bad _ (by unfold badB; omega)]
    rintro e w6 ⟨v6, rfl, f6⟩
    replace l2 := l2.trans f6.le
    clear f6 h2
    go_wp2_with (at_make; refine wpList_make_full _ rfl _ _ 22 rfl w6.heap.size 3 i0 (.int .i64 0) 1 Try.underlying22 hi hz0 hz1 .i64 .i64 _ _ (17 + m).toNat rfl rfl (by omega) (by omega) (by rw [hz2]; omega) (by unfold maxLen; omega) (Nat.le_refl _) ?_; intro w7 hown7 hgrow7)
    have h7 : Has w7 _ (List.replicate (17 + m).toNat 0) := (Own.of hown7 (by simp) (by rw [Nat.mul_one]; exact (toList_madeCells_one _ _).trans (by simp))).has
    replace l2 := l2.trans (grown_le hgrow7)
    refine (cellLoad _ (List.replicate (17 + m).toNat 0) _ _ h7).mono ?_
    rw [load_long _ _ (by simp; omega)]
    rintro e _ ⟨rfl, rfl⟩
    clear h7 hown7 hgrow7
    go_wp2_with fail
    refine (cellLoad _ [] _ _ (Has.nil _)).mono ?_
    rw [show loadS [] 0 = (0, 100) from by decide]
    rintro e _ ⟨rfl, rfl⟩
    go_wp2_with (go_at_call 17; refine (lawNum _ _).mono ?_; rintro e _ ⟨rfl, rfl⟩)
    go_ret
    exact ⟨rfl, l2⟩

end Go.Proofs.Ytefmgibbbgckcaa
