/-
  THE WALKS over package cell: Load, Store, Swap, Add answer as the document says, for every slice of numbers, every place, every number. No condition but that the slice can be read.
-/
import Derived.Test.YtefmgibbbgckcaaCellB
namespace Go.Proofs.Ytefmgibbbgckcaa
open Go.RowKit

theorem atB_len {xs : List Int} {p : Int} (h : atB xs p = true) : 0 ≤ p ∧ p < xs.length ∧ xs.length ≤ 16 := by
  simp [atB, mayB] at h; omega

theorem atB_hold {xs : List Int} {p : Int} (h : atB xs p = true) : 0 ≤ xs.getD p.toNat 0 ∧ xs.getD p.toNat 0 ≤ 1048576 := by
  have hl := atB_len h
  have hlt : p.toNat < xs.length := by omega
  have h2 : xs.all holdB = true := by simp only [atB, mayB, Bool.and_eq_true] at h; exact h.1.1.2
  have := (List.all_eq_true.mp h2) _ (List.getElem_mem hlt)
  simp [holdB] at this
  simpa [List.getD, hlt] using this

/-- The cell at a place that there is. -/
theorem Has.at {w : World} {v : Value} {xs : List Int} (h : Has w v xs) {p : Int} (h0 : 0 ≤ p) (h1 : p < xs.length) :
    ∃ b off cap, v = .slice (some ⟨b, off, none⟩) xs.length cap ∧ xs.length ≤ cap ∧ w.cell? ⟨b, off + p.toNat, none⟩ = some (.int .i64 (xs.getD p.toNat 0)) := by
  obtain ⟨a, cap, rfl, hc, hn, hx⟩ := h
  obtain ⟨b, off, rfl, hcell⟩ := hx (by omega)
  exact ⟨b, off, cap, rfl, hc, hcell _ (by omega)⟩

set_option maxHeartbeats 400000 in
theorem cellLoad (v : Value) (xs : List Int) (p : Int) (w : World) (hx : Has w v xs) :
    Calls Try.prog 9 #[v, .int .i64 p] w fun e w' => e = .returned (.tuple #[.int .i64 (loadS xs p).1, .int .i64 (loadS xs p).2]) ∧ w = w' := by
  cases ha : atB xs p
  · have HS : loadS xs p = (0, 100) := by simp [loadS, ha]
    rw [HS]
    go_enter Try.func9, Try.ntmps9
    go_wp2_with (go_at_call 23; refine (cellMayAt _ xs _ _ hx).mono ?_; rintro e w' ⟨rfl, rfl⟩)
    go_ret2
    exact ⟨rfl, rfl⟩
  · have HS : loadS xs p = (xs.getD p.toNat 0, 0) := by simp [loadS, ha]
    rw [HS]
    obtain ⟨h0, h1, h2⟩ := atB_len ha
    obtain ⟨b, off, cap, rfl, hc, hck⟩ := hx.at h0 h1
    obtain ⟨y, hy⟩ : ∃ y, y = xs.getD p.toNat 0 := ⟨_, rfl⟩
    rw [← hy] at hck ⊢
    clear hy HS
    go_enter Try.func9, Try.ntmps9
    go_wp2_with (go_at_call 23; refine (cellMayAt _ xs _ _ hx).mono ?_; rintro e w' ⟨rfl, rfl⟩)
    go_ret2
    exact ⟨rfl, rfl⟩

/-- What a call that hands a new slice back, or none, leaves. -/
def Fresh (w w' : World) (v' : Value) (ys : List Int) : Prop := Own w' w.heap.size v' ys ∧ Below w.heap.size w w'

theorem Fresh.none (w : World) : Fresh w w (.slice none 0 0) [] := ⟨World.ownsRow_nil _ _ _ _, Below.refl _ _⟩

set_option maxHeartbeats 400000 in
theorem cellStore (v : Value) (xs : List Int) (p x : Int) (w : World) (hx : Has w v xs) :
    Calls Try.prog 11 #[v, .int .i64 p, .int .i64 x] w fun e w' => ∃ v', e = .returned (.tuple #[v', .int .i64 (storeS xs p x).2]) ∧ Fresh w w' v' (storeS xs p x).1 := by
  cases ha : atB xs p
  · have HS : storeS xs p x = ([], 100) := by simp [storeS, ha]
    rw [HS]
    go_enter Try.func11, Try.ntmps11
    go_wp2_with (go_at_call 23; refine (cellMayAt _ xs _ _ hx).mono ?_; rintro e w' ⟨rfl, rfl⟩)
    go_ret2
    exact ⟨_, rfl, Fresh.none _⟩
  · cases hh : holdB x
    · have HS : storeS xs p x = ([], 100) := by simp [storeS, hh]
      rw [HS]
      go_enter Try.func11, Try.ntmps11
      go_wp2_with (first | (go_at_call 23; refine (cellMayAt _ xs _ _ hx).mono ?_; rintro e w' ⟨rfl, rfl⟩) | (go_at_call 25; refine (cellMayHold _ _).mono ?_; rintro e w' ⟨rfl, rfl⟩))
      go_ret2
      exact ⟨_, rfl, Fresh.none _⟩
    · have HS : storeS xs p x = (xs.set p.toNat x, 0) := by simp [storeS, ha, hh]
      rw [HS]
      obtain ⟨h0, h1, h2⟩ := atB_len ha
      go_enter Try.func11, Try.ntmps11
      go_wp2_with (first | (go_at_call 23; refine (cellMayAt _ xs _ _ hx).mono ?_; rintro e w' ⟨rfl, rfl⟩) | (go_at_call 25; refine (cellMayHold _ _).mono ?_; rintro e w' ⟨rfl, rfl⟩) | (go_at_call 26; refine (cellWith _ xs _ _ _ hx (by omega) h0 h1).mono ?_; rintro e w' ⟨v', rfl, hown, hbel⟩))
      go_ret2
      exact ⟨_, rfl, hown, hbel⟩

set_option maxHeartbeats 400000 in
theorem cellSwap (v : Value) (xs : List Int) (p old new : Int) (w : World) (hx : Has w v xs) :
    Calls Try.prog 13 #[v, .int .i64 p, .int .i64 old, .int .i64 new] w fun e w' => ∃ v', e = .returned (.tuple #[v', .bool (swapS xs p old new).2.1, .int .i64 (swapS xs p old new).2.2]) ∧ Fresh w w' v' (swapS xs p old new).1 := by
  cases ha : atB xs p
  · have HS : swapS xs p old new = ([], false, 100) := by simp [swapS, ha]
    rw [HS]
    go_enter Try.func13, Try.ntmps13
    go_wp2_with (go_at_call 23; refine (cellMayAt _ xs _ _ hx).mono ?_; rintro e w' ⟨rfl, rfl⟩)
    go_ret3
    exact ⟨_, rfl, Fresh.none _⟩
  · cases hh : holdB new
    · have HS : swapS xs p old new = ([], false, 100) := by simp [swapS, hh]
      rw [HS]
      go_enter Try.func13, Try.ntmps13
      go_wp2_with (first | (go_at_call 23; refine (cellMayAt _ xs _ _ hx).mono ?_; rintro e w' ⟨rfl, rfl⟩) | (go_at_call 25; refine (cellMayHold _ _).mono ?_; rintro e w' ⟨rfl, rfl⟩))
      go_ret3
      exact ⟨_, rfl, Fresh.none _⟩
    · obtain ⟨h0, h1, h2⟩ := atB_len ha
      obtain ⟨b, off, cap, rfl, hc, hck⟩ := hx.at h0 h1
      by_cases he : xs.getD p.toNat 0 = old
      · have HS : swapS xs p old new = (xs.set p.toNat new, true, 0) := by simp only [swapS, ha, hh, he]; rfl
        rw [HS]
        rw [he] at hck
        have heq : (old == old) = true := by simp
        go_enter Try.func13, Try.ntmps13
        clear he HS
        go_wp2_with (first | (go_at_call 23; refine (cellMayAt _ xs _ _ hx).mono ?_; rintro e w' ⟨rfl, rfl⟩) | (go_at_call 25; refine (cellMayHold _ _).mono ?_; rintro e w' ⟨rfl, rfl⟩) | (go_at_call 26; refine (cellWith _ xs _ _ _ hx (by omega) h0 h1).mono ?_; rintro e w' ⟨v', rfl, hown, hbel⟩))
        go_ret3
        exact ⟨_, rfl, hown, hbel⟩
      · have HS : swapS xs p old new = (xs, false, 0) := by simp only [swapS, ha, hh]; simp only [he]; rfl
        rw [HS]
        obtain ⟨y, hy⟩ : ∃ y, y = xs.getD p.toNat 0 := ⟨_, rfl⟩
        rw [← hy] at hck he
        have hne : (y != old) = true := by simp [he]
        have hne' : (y == old) = false := by simp [he]
        clear hy HS he
        go_enter Try.func13, Try.ntmps13
        go_wp2_with (first | (go_at_call 23; refine (cellMayAt _ xs _ _ hx).mono ?_; rintro e w' ⟨rfl, rfl⟩) | (go_at_call 25; refine (cellMayHold _ _).mono ?_; rintro e w' ⟨rfl, rfl⟩) | (go_at_call 29; refine (sliceClone _ xs _ hx (by omega)).mono ?_; rintro e w' ⟨v', rfl, hown, hbel⟩))
        go_ret3
        exact ⟨_, rfl, hown, hbel⟩

set_option maxHeartbeats 400000 in
theorem cellAdd (v : Value) (xs : List Int) (p d : Int) (w : World) (hx : Has w v xs) :
    Calls Try.prog 15 #[v, .int .i64 p, .int .i64 d] w fun e w' => ∃ v', e = .returned (.tuple #[v', .int .i64 (addS xs p d).2.1, .int .i64 (addS xs p d).2.2]) ∧ Fresh w w' v' (addS xs p d).1 := by
  cases ha : atB xs p
  · have HS : addS xs p d = ([], 0, 100) := by simp [addS, ha]
    rw [HS]
    go_enter Try.func15, Try.ntmps15
    go_wp2_with (go_at_call 23; refine (cellMayAt _ xs _ _ hx).mono ?_; rintro e w' ⟨rfl, rfl⟩)
    go_ret3
    exact ⟨_, rfl, Fresh.none _⟩
  · obtain ⟨h0, h1, h2⟩ := atB_len ha
    obtain ⟨b, off, cap, rfl, hc, hck⟩ := hx.at h0 h1
    have hhold := atB_hold ha
    obtain ⟨y, hy⟩ : ∃ y, y = xs.getD p.toNat 0 := ⟨_, rfl⟩
    rw [← hy] at hck hhold
    obtain ⟨hy0, hy1⟩ := hhold
    by_cases hl : d < -y
    · have HS : addS xs p d = ([], 0, 100) := by
        have : holdB (y + d) = false := by simp [holdB]; omega
        simp only [addS, ha, ← hy, this]; rfl
      rw [HS]
      clear hy HS
      go_enter Try.func15, Try.ntmps15
      go_wp2_with (go_at_call 23; refine (cellMayAt _ xs _ _ hx).mono ?_; rintro e w' ⟨rfl, rfl⟩)
      go_ret3
      exact ⟨_, rfl, Fresh.none _⟩
    · by_cases hg : 1048576 - y < d
      · have HS : addS xs p d = ([], 0, 100) := by
          have : holdB (y + d) = false := by simp [holdB]; omega
          simp only [addS, ha, ← hy, this]; rfl
        rw [HS]
        clear hy HS
        go_enter Try.func15, Try.ntmps15
        go_wp2_with (go_at_call 23; refine (cellMayAt _ xs _ _ hx).mono ?_; rintro e w' ⟨rfl, rfl⟩)
        go_ret3
        exact ⟨_, rfl, Fresh.none _⟩
      · have HS : addS xs p d = (xs.set p.toNat (y + d), y, 0) := by
          have : holdB (y + d) = true := by simp [holdB]; omega
          simp only [addS, ha, ← hy, this]; rfl
        rw [HS]
        clear hy HS
        go_enter Try.func15, Try.ntmps15
        go_wp2_with (first | (go_at_call 23; refine (cellMayAt _ xs _ _ hx).mono ?_; rintro e w' ⟨rfl, rfl⟩) | (go_at_call 26; refine (cellWith _ xs _ _ _ hx (by omega) h0 h1).mono ?_; rintro e w' ⟨v', rfl, hown, hbel⟩))
        go_ret3
        exact ⟨_, rfl, hown, hbel⟩

end Go.Proofs.Ytefmgibbbgckcaa
