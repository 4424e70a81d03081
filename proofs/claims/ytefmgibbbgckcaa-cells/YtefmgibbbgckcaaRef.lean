/-
  THE WALKS over chorusref1's cells (the document's own answers): Load, Store, Swap, Add answer by the same functions on lists as package cell does. Condition: the slice's bytes are within the reach that every row bears.
-/
import Derived.Test.YtefmgibbbgckcaaLawA
import Derived.Deep.RegionWith
namespace Go.Proofs.Ytefmgibbbgckcaa
open Go.RowKit

set_option maxHeartbeats 400000 in
theorem refUpTo (x l m : Int) (w : World) :
    Calls Try.prog 31 #[.int .i64 x, .int .i64 l, .int .i64 m] w fun e w' => e = .returned (.bool (decide (l ≤ x) && decide (x ≤ m))) ∧ w = w' := by
  by_cases h0 : l ≤ x
  · go_enter Try.func31, Try.ntmps31
    go_wp2
    go_ret
    exact ⟨ret_bool (by simp [h0]), rfl⟩
  · go_enter Try.func31, Try.ntmps31
    go_wp2
    go_ret
    exact ⟨ret_bool (by simp; omega), rfl⟩

set_option maxHeartbeats 400000 in
theorem refCellMay (x : Int) (w : World) :
    Calls Try.prog 27 #[.int .i64 x] w fun e w' => e = .returned (.bool (holdB x)) ∧ w = w' := by
  go_enter Try.func27, Try.ntmps27
  go_wp2_with (go_at_call 31; refine (refUpTo _ _ _ _).mono ?_; rintro e _ ⟨rfl, rfl⟩)
  go_ret
  exact ⟨rfl, rfl⟩

theorem atB_of_bad {xs : List Int} {p : Int} {k : Nat} (h : k < xs.length) (hb : holdB (xs.getD k 0) = false) : atB xs p = false := by
  simp [atB, mayB_of_bad h hb]

set_option maxHeartbeats 400000 in
theorem refCellsMay (v : Value) (xs : List Int) (p : Int) (w : World) (hx : Has w v xs) (hr : xs.length ≤ 9223372036854775000) :
    Calls Try.prog 24 #[v, .int .i64 p] w fun e w' => e = .returned (.bool (atB xs p)) ∧ w = w' := by
  obtain ⟨a, cap, rfl, hc, _, hx⟩ := hx
  by_cases h0 : 0 < xs.length
  · obtain ⟨b, off, rfl, hcell⟩ := hx h0
    go_enter Try.func24, Try.ntmps24
    go_wp2
    go_loop [5] (fun i => ∃ k : Nat, k ≤ xs.length ∧ i = .int .i64 k ∧ (xs.take k).all holdB = true) (fun i => xs.length - (intOf i).toNat)
    case atStart => exact ⟨0, Nat.zero_le _, rfl, rfl⟩
    case round =>
      obtain ⟨k, hk, rfl, hall⟩ := hrel
      have HA : Hid ((xs.take k).all holdB = true) := hall
      clear hall
      by_cases hlt : k < xs.length
      · obtain ⟨x, hxk⟩ : ∃ x, x = xs.getD k 0 := ⟨_, rfl⟩
        have hck : w.cell? ⟨b, off + k, none⟩ = some (.int .i64 x) := by rw [hxk]; exact hcell k hlt
        have HX : Hid (x = xs.getD k 0) := hxk
        clear hxk hcell hx
        cases hh : holdB x
        · go_wp2_with (go_at_call 27; refine (refCellMay _ _).mono ?_; rintro e w' ⟨rfl, rfl⟩)
          go_ret
          exact ⟨ret_bool (atB_of_bad hlt (HX.out ▸ hh)).symm, rfl⟩
        · go_wp2_with (go_at_call 27; refine (refCellMay _ _).mono ?_; rintro e w' ⟨rfl, rfl⟩)
          go_round
          case rel => exact ⟨k + 1, by omega, by go_num, by rw [all_take hlt, HA.out, ← HX.out, hh]; rfl⟩
          case measure => simp [intOf]; omega
      · have HB : Hid (xs.all holdB = true) := by have := HA.out; rw [List.take_of_length_le (by omega)] at this; exact this
        by_cases hl : xs.length ≤ 16
        · by_cases hp : 0 ≤ p
          · go_wp2
            go_ret
            exact ⟨ret_bool (by simp only [atB, mayB, HB.out]; simp; omega), rfl⟩
          · go_wp2
            go_ret
            exact ⟨ret_bool (by simp only [atB, mayB, HB.out]; simp; omega), rfl⟩
        · go_wp2
          go_ret
          exact ⟨ret_bool (by simp only [atB, mayB, HB.out]; simp; omega), rfl⟩
  · have hnil : xs = [] := by cases xs with | nil => rfl | cons _ _ => simp at h0
    subst hnil
    by_cases hp : 0 ≤ p
    all_goals
      go_enter Try.func24, Try.ntmps24
      go_wp2
      refine wp_loop_rounds 1 ?_
      rw [rounds_succ]
      go_wp2
      go_ret
      exact ⟨ret_bool (by simp [atB]; try omega), rfl⟩

set_option maxHeartbeats 400000 in
theorem refWith (v : Value) (xs : List Int) (p x : Int) (w : World) (hx : Has w v xs) (hr : xs.length * 8 ≤ 140737488355328) (h0 : 0 ≤ p) (h1 : p < xs.length) :
    Calls Try.prog 28 #[v, .int .i64 p, .int .i64 x] w fun e w' => ∃ v', e = .returned v' ∧ Own w' w.heap.size v' (xs.set p.toNat x) ∧ Below w.heap.size w w' := by
  obtain ⟨i0, hi, hz0, hz1, hz2⟩ := info_parts info3
  have hb0 : Below w.heap.size w (w.alloc (.cells #[] 3)) := (Below.refl _ _).alloc (Nat.le_refl _) _
  obtain ⟨b, off, cap, rfl, hc, hck⟩ := hx.at h0 h1
  have HN := hx.news hb0
  clear hck
  go_enter Try.func28, Try.ntmps28
  go_wp2_with (at_builtin; refine wpList_append_own _ rfl _ _ 22 rfl w.heap.size 3 i0 (.int .i64 0) 1 8 Try.underlying22 hi hz0 hz1 hz2 rfl (by decide) _ 0 [] rfl (World.ownsRow_lit w #[] 0 (Nat.le_refl _) (by decide) rfl) ⟨b, off, none⟩ xs.length cap (xs.map (Value.int .i64)) rfl (by simp) HN (ints_oneCell _ _) (by unfold maxLen; omega) (by omega) (by simp) ?_; intro v' w1 hown hgrow _; have hown' : Own w1 w.heap.size v' xs := Own.of hown (by simp) (by simp); have hbel := hb0.grown hgrow (by simp) (fun k hk => by cases hk; exact Nat.le_refl _); obtain ⟨g, cap, rfl, hg, hgs, hfz, hcl, hset⟩ := hown'.set (p := p.toNat) (by omega) x)
  go_ret
  exact ⟨_, rfl, hset, hbel.setCell hg _⟩

set_option maxHeartbeats 400000 in
theorem refLoad (v : Value) (xs : List Int) (p : Int) (w : World) (hx : Has w v xs) (hr : xs.length * 8 ≤ 140737488351232) :
    Calls Try.prog 10 #[v, .int .i64 p] w fun e w' => e = .returned (.tuple #[.int .i64 (loadS xs p).1, .int .i64 (loadS xs p).2]) ∧ w = w' := by
  cases ha : atB xs p
  · have HS : loadS xs p = (0, 100) := by simp [loadS, ha]
    rw [HS]
    go_enter Try.func10, Try.ntmps10
    go_wp2_with (go_at_call 24; refine (refCellsMay _ xs _ _ hx (by omega)).mono ?_; rintro e w' ⟨rfl, rfl⟩)
    go_ret2
    exact ⟨rfl, rfl⟩
  · have HS : loadS xs p = (xs.getD p.toNat 0, 0) := by simp [loadS, ha]
    rw [HS]
    obtain ⟨h0, h1, h2⟩ := atB_len ha
    obtain ⟨b, off, cap, rfl, hc, hck⟩ := hx.at h0 h1
    obtain ⟨y, hy⟩ : ∃ y, y = xs.getD p.toNat 0 := ⟨_, rfl⟩
    rw [← hy] at hck ⊢
    clear hy HS
    go_enter Try.func10, Try.ntmps10
    go_wp2_with (go_at_call 24; refine (refCellsMay _ xs _ _ hx (by omega)).mono ?_; rintro e w' ⟨rfl, rfl⟩)
    go_ret2
    exact ⟨rfl, rfl⟩

set_option maxHeartbeats 400000 in
theorem refStore (v : Value) (xs : List Int) (p x : Int) (w : World) (hx : Has w v xs) (hr : xs.length * 8 ≤ 140737488351232) :
    Calls Try.prog 12 #[v, .int .i64 p, .int .i64 x] w fun e w' => ∃ v', e = .returned (.tuple #[v', .int .i64 (storeS xs p x).2]) ∧ Fresh w w' v' (storeS xs p x).1 := by
  cases ha : atB xs p
  · have HS : storeS xs p x = ([], 100) := by simp [storeS, ha]
    rw [HS]
    go_enter Try.func12, Try.ntmps12
    go_wp2_with (go_at_call 24; refine (refCellsMay _ xs _ _ hx (by omega)).mono ?_; rintro e w' ⟨rfl, rfl⟩)
    go_ret2
    exact ⟨_, rfl, Fresh.none _⟩
  · cases hh : holdB x
    · have HS : storeS xs p x = ([], 100) := by simp [storeS, hh]
      rw [HS]
      go_enter Try.func12, Try.ntmps12
      go_wp2_with (first | (go_at_call 24; refine (refCellsMay _ xs _ _ hx (by omega)).mono ?_; rintro e w' ⟨rfl, rfl⟩) | (go_at_call 27; refine (refCellMay _ _).mono ?_; rintro e w' ⟨rfl, rfl⟩))
      go_ret2
      exact ⟨_, rfl, Fresh.none _⟩
    · have HS : storeS xs p x = (xs.set p.toNat x, 0) := by simp [storeS, ha, hh]
      rw [HS]
      obtain ⟨h0, h1, h2⟩ := atB_len ha
      go_enter Try.func12, Try.ntmps12
      go_wp2_with (first | (go_at_call 24; refine (refCellsMay _ xs _ _ hx (by omega)).mono ?_; rintro e w' ⟨rfl, rfl⟩) | (go_at_call 27; refine (refCellMay _ _).mono ?_; rintro e w' ⟨rfl, rfl⟩) | (go_at_call 28; refine (refWith _ xs _ _ _ hx (by omega) h0 h1).mono ?_; rintro e w' ⟨v', rfl, hown, hbel⟩))
      go_ret2
      exact ⟨_, rfl, hown, hbel⟩

set_option maxHeartbeats 400000 in
theorem refSwap (v : Value) (xs : List Int) (p old new : Int) (w : World) (hx : Has w v xs) (hr : xs.length * 8 ≤ 140737488351232) :
    Calls Try.prog 14 #[v, .int .i64 p, .int .i64 old, .int .i64 new] w fun e w' => ∃ v', e = .returned (.tuple #[v', .bool (swapS xs p old new).2.1, .int .i64 (swapS xs p old new).2.2]) ∧ Fresh w w' v' (swapS xs p old new).1 := by
  cases ha : atB xs p
  · have HS : swapS xs p old new = ([], false, 100) := by simp [swapS, ha]
    rw [HS]
    go_enter Try.func14, Try.ntmps14
    go_wp2_with (go_at_call 24; refine (refCellsMay _ xs _ _ hx (by omega)).mono ?_; rintro e w' ⟨rfl, rfl⟩)
    go_ret3
    exact ⟨_, rfl, Fresh.none _⟩
  · cases hh : holdB new
    · have HS : swapS xs p old new = ([], false, 100) := by simp [swapS, hh]
      rw [HS]
      go_enter Try.func14, Try.ntmps14
      go_wp2_with (first | (go_at_call 24; refine (refCellsMay _ xs _ _ hx (by omega)).mono ?_; rintro e w' ⟨rfl, rfl⟩) | (go_at_call 27; refine (refCellMay _ _).mono ?_; rintro e w' ⟨rfl, rfl⟩))
      go_ret3
      exact ⟨_, rfl, Fresh.none _⟩
    · obtain ⟨h0, h1, h2⟩ := atB_len ha
      obtain ⟨b, off, cap, rfl, hc, hck⟩ := hx.at h0 h1
      by_cases he : xs.getD p.toNat 0 = old
      · have HS : swapS xs p old new = (xs.set p.toNat new, true, 0) := by simp only [swapS, ha, hh, he]; rfl
        rw [HS]
        rw [he] at hck
        have heq : (old == old) = true := by simp
        go_enter Try.func14, Try.ntmps14
        clear he HS
        go_wp2_with (first | (go_at_call 24; refine (refCellsMay _ xs _ _ hx (by omega)).mono ?_; rintro e w' ⟨rfl, rfl⟩) | (go_at_call 27; refine (refCellMay _ _).mono ?_; rintro e w' ⟨rfl, rfl⟩) | (go_at_call 28; refine (refWith _ xs _ _ _ hx (by omega) h0 h1).mono ?_; rintro e w' ⟨v', rfl, hown, hbel⟩))
        go_ret3
        exact ⟨_, rfl, hown, hbel⟩
      · have HS : swapS xs p old new = (xs, false, 0) := by simp only [swapS, ha, hh]; simp only [he]; rfl
        rw [HS]
        obtain ⟨y, hy⟩ : ∃ y, y = xs.getD p.toNat 0 := ⟨_, rfl⟩
        rw [← hy] at hck he
        obtain ⟨i0, hi, hz0, hz1, hz2⟩ := info_parts info3
        have hb0 : Below w.heap.size w (w.alloc (.cells #[] 3)) := (Below.refl _ _).alloc (Nat.le_refl _) _
        have HN := hx.news hb0
        have hne : (y != old) = true := by simp [he]
        have hne' : (y == old) = false := by simp [he]
        clear hy HS he
        go_enter Try.func14, Try.ntmps14
        go_wp2_with (first | (go_at_call 24; refine (refCellsMay _ xs _ _ hx (by omega)).mono ?_; rintro e w' ⟨rfl, rfl⟩) | (go_at_call 27; refine (refCellMay _ _).mono ?_; rintro e w' ⟨rfl, rfl⟩) | (at_builtin; refine wpList_append_own _ rfl _ _ 22 rfl w.heap.size 3 i0 (.int .i64 0) 1 8 Try.underlying22 hi hz0 hz1 hz2 rfl (by decide) _ 0 [] rfl (World.ownsRow_lit w #[] 0 (Nat.le_refl _) (by decide) rfl) ⟨b, off, none⟩ xs.length cap (xs.map (Value.int .i64)) rfl (by simp) HN (ints_oneCell _ _) (by unfold maxLen; omega) (by omega) (by simp) ?_; intro v' w1 hown0 hgrow _; have hown : Own w1 w.heap.size v' xs := Own.of hown0 (by simp) (by simp); have hbel := hb0.grown hgrow (by simp) (fun k hk => by cases hk; exact Nat.le_refl _)))
        go_ret3
        exact ⟨_, rfl, hown, hbel⟩

set_option maxHeartbeats 400000 in
theorem refAdd (v : Value) (xs : List Int) (p d : Int) (w : World) (hx : Has w v xs) (hr : xs.length * 8 ≤ 140737488351232) :
    Calls Try.prog 16 #[v, .int .i64 p, .int .i64 d] w fun e w' => ∃ v', e = .returned (.tuple #[v', .int .i64 (addS xs p d).2.1, .int .i64 (addS xs p d).2.2]) ∧ Fresh w w' v' (addS xs p d).1 := by
  cases ha : atB xs p
  · have HS : addS xs p d = ([], 0, 100) := by simp [addS, ha]
    rw [HS]
    go_enter Try.func16, Try.ntmps16
    go_wp2_with (go_at_call 24; refine (refCellsMay _ xs _ _ hx (by omega)).mono ?_; rintro e w' ⟨rfl, rfl⟩)
    go_ret3
    exact ⟨_, rfl, Fresh.none _⟩
  · obtain ⟨h0, h1, h2⟩ := atB_len ha
    obtain ⟨b, off, cap, rfl, hc, hck⟩ := hx.at h0 h1
    have hb : b < w.heap.size := World.block_lt_of_cell? w _ hck
    have hhold := atB_hold ha
    obtain ⟨y, hy⟩ : ∃ y, y = xs.getD p.toNat 0 := ⟨_, rfl⟩
    rw [← hy] at hck hhold
    obtain ⟨hy0, hy1⟩ := hhold
    by_cases hl : d < -1048576
    · have HS : addS xs p d = ([], 0, 100) := by
        have : holdB (y + d) = false := by simp [holdB]; omega
        simp only [addS, ha, ← hy, this]; rfl
      rw [HS]
      clear hy HS
      go_enter Try.func16, Try.ntmps16
      go_wp2_with (go_at_call 24; refine (refCellsMay _ xs _ _ hx (by omega)).mono ?_; rintro e w' ⟨rfl, rfl⟩)
      go_ret3
      exact ⟨_, rfl, Fresh.none _⟩
    · by_cases hg : 1048576 < d
      · have HS : addS xs p d = ([], 0, 100) := by
          have : holdB (y + d) = false := by simp [holdB]; omega
          simp only [addS, ha, ← hy, this]; rfl
        rw [HS]
        clear hy HS
        go_enter Try.func16, Try.ntmps16
        go_wp2_with (go_at_call 24; refine (refCellsMay _ xs _ _ hx (by omega)).mono ?_; rintro e w' ⟨rfl, rfl⟩)
        go_ret3
        exact ⟨_, rfl, Fresh.none _⟩
      · cases hh : holdB (y + d)
        · have HS : addS xs p d = ([], 0, 100) := by simp only [addS, ha, ← hy, hh]; rfl
          rw [HS]
          clear hy HS
          go_enter Try.func16, Try.ntmps16
          go_wp2_with (first | (go_at_call 24; refine (refCellsMay _ xs _ _ hx (by omega)).mono ?_; rintro e w' ⟨rfl, rfl⟩) | (go_at_call 27; refine (refCellMay _ _).mono ?_; rintro e w' ⟨rfl, rfl⟩))
          go_ret3
          exact ⟨_, rfl, Fresh.none _⟩
        · have HS : addS xs p d = (xs.set p.toNat (y + d), y, 0) := by simp only [addS, ha, ← hy, hh]; rfl
          rw [HS]
          have HW : Hid (IntKind.i64.wrap (y + d) = y + d) := by show _ = _; rw [IntKind.wrap_i64]; omega
          clear hy HS
          go_enter Try.func16, Try.ntmps16
          go_wp2_with (first | (go_at_call 24; refine (refCellsMay _ xs _ _ hx (by omega)).mono ?_; rintro e w' ⟨rfl, rfl⟩) | (go_at_call 27; refine (refCellMay _ _).mono ?_; rintro e w' ⟨rfl, rfl⟩))
          go_region_with (go_at_call 28; refine (refWith _ xs _ _ _ (Has.le hx (Le.drew _)) (by omega) h0 h1).mono ?_; rintro e w1 ⟨v', rfl, hown, hbel⟩; have hck1 := (Below.cell (p := ⟨b, off + p.toNat, none⟩) hbel hb).trans hck)
          all_goals go_wp2
          all_goals go_ret3
          all_goals (rw [HW.out] at hown; exact ⟨_, rfl, hown, (Le.drew w).trans hbel⟩)

end Go.Proofs.Ytefmgibbbgckcaa
