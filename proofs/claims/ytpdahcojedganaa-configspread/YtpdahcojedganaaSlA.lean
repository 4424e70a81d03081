/-
  THE WALKS over package slot (maySlots, mayAt, Bit, Alive): what each answers, for every number and every slot. No condition.
-/
import Derived.Test.YtpdahcojedganaaOpMay
namespace Go.Proofs.Ytpdahcojedganaa
open Go.RowKit

/-- May there be so many slots? -/
def slotsB (n : Int) : Bool := decide (n = 2) || decide (n = 4) || decide (n = 8) || decide (n = 16)
theorem slotsB_cases {n : Int} (h : slotsB n = true) : n = 2 ∨ n = 4 ∨ n = 8 ∨ n = 16 := by simp [slotsB] at h; omega
theorem slotsB_no {n : Int} (h : slotsB n = false) : n ≠ 2 ∧ n ≠ 4 ∧ n ≠ 8 ∧ n ≠ 16 := by simp [slotsB] at h; omega
theorem holdB_cases {x : Int} (h : holdB x = true) : 0 ≤ x ∧ x ≤ 1048576 := by simp [holdB] at h; omega
/-- The bit of entry number p of n slots. -/
def bitAt (p n : Int) : Int := 1 - p / n % 2
def bitS (p n : Int) : Int × Int := if slotsB n && holdB p then (bitAt p n, 0) else (0, 900)
def aliveS (b p n : Int) : Bool × Int := if slotsB n && holdB p then (decide (b = bitAt p n), 0) else (false, 900)
theorem bitS_yes {p n : Int} (h : slotsB n = true) (k : holdB p = true) : bitS p n = (bitAt p n, 0) := by simp [bitS, h, k]
theorem bitS_no {p n : Int} (h : slotsB n = false ∨ holdB p = false) : bitS p n = (0, 900) := by rcases h with h | h <;> simp [bitS, h]
theorem aliveS_yes {b p n : Int} (h : slotsB n = true) (k : holdB p = true) : aliveS b p n = (decide (b = bitAt p n), 0) := by simp [aliveS, h, k]
theorem aliveS_no {b p n : Int} (h : slotsB n = false ∨ holdB p = false) : aliveS b p n = (false, 900) := by rcases h with h | h <;> simp [aliveS, h]

/-- A slot's value. -/
abbrev slotV (c r a t b : Int) : Value := .agg #[.int .i64 c, .int .i64 r, .int .i64 a, .int .i64 t, .int .i64 b]

theorem Box.slot {w : World} {g : Nat} {x y z u v : Value} {t : TypeId} (h : Box w g #[x, y, z, u, v] t) :
    w.cell? ⟨g, 0, none⟩ = some x ∧ w.cell? ⟨g, 1, none⟩ = some y ∧ w.cell? ⟨g, 2, none⟩ = some z ∧ w.cell? ⟨g, 3, none⟩ = some u ∧ w.cell? ⟨g, 4, none⟩ = some v :=
  ⟨h.cell 0, h.cell 1, h.cell 2, h.cell 3, h.cell 4⟩

theorem slotMaySlots (n : Int) (w : World) : Calls Try.prog 19 #[.int .i64 n] w fun e w' => e = .returned (.bool (slotsB n)) ∧ w = w' := by
  rcases (by omega : n = 2 ∨ n = 4 ∨ n = 8 ∨ n = 16 ∨ (n ≠ 2 ∧ n ≠ 4 ∧ n ≠ 8 ∧ n ≠ 16)) with rfl | rfl | rfl | rfl | ⟨h1, h2, h3, h4⟩
  iterate 4
    · go_enter Try.func19, Try.ntmps19
      go_wp2
      go_ret
      exact ⟨ret_bool (by decide), rfl⟩
  · go_enter Try.func19, Try.ntmps19
    go_wp2
    go_ret
    exact ⟨ret_bool (by simp [slotsB, h1, h2, h3, h4]), rfl⟩

theorem slotMayAt (x : Int) (w : World) : Calls Try.prog 20 #[.int .i64 x] w fun e w' => e = .returned (.bool (holdB x)) ∧ w = w' := by
  by_cases h : 0 ≤ x
  all_goals
    go_enter Try.func20, Try.ntmps20
    go_wp2
    go_ret
    exact ⟨ret_bool (by simp [holdB]; try omega), rfl⟩

theorem ret_two {a b c d : Int} (h : a = b) (k : c = d) : Ending.returned (.tuple #[.int .i64 a, .int .i64 c]) = .returned (.tuple #[.int .i64 b, .int .i64 d]) := by rw [h, k]

set_option maxHeartbeats 1000000 in
theorem slotBit (p n : Int) (w : World) :
    Calls Try.prog 18 #[.int .i64 p, .int .i64 n] w fun e w' => e = .returned (.tuple #[.int .i64 (bitS p n).1, .int .i64 (bitS p n).2]) ∧ w = w' := by
  have h1 := fun w' => slotMaySlots n w'
  have h2 := fun w' => slotMayAt p w'
  cases hn : slotsB n
  · rw [bitS_no (.inl hn)]
    rw [hn] at h1
    go_enter Try.func18, Try.ntmps18
    go_wp2_with (first | (go_at_call 19; refine (h1 _).mono ?_; rintro e _ ⟨rfl, rfl⟩) | (go_at_call 20; refine (h2 _).mono ?_; rintro e _ ⟨rfl, rfl⟩))
    go_ret2
    exact ⟨rfl, rfl⟩
  cases hp : holdB p
  · rw [bitS_no (.inr hp)]
    rw [hn] at h1
    rw [hp] at h2
    go_enter Try.func18, Try.ntmps18
    go_wp2_with (first | (go_at_call 19; refine (h1 _).mono ?_; rintro e _ ⟨rfl, rfl⟩) | (go_at_call 20; refine (h2 _).mono ?_; rintro e _ ⟨rfl, rfl⟩))
    go_ret2
    exact ⟨rfl, rfl⟩
  rw [bitS_yes hn hp]
  rw [hn] at h1
  rw [hp] at h2
  obtain ⟨p0, p1⟩ := holdB_cases hp
  rcases slotsB_cases hn with rfl | rfl | rfl | rfl
  all_goals
    clear hn hp
    go_enter Try.func18, Try.ntmps18
    go_wp2_with (first | (go_at_call 19; refine (h1 _).mono ?_; rintro e _ ⟨rfl, rfl⟩) | (go_at_call 20; refine (h2 _).mono ?_; rintro e _ ⟨rfl, rfl⟩))
    go_ret2
    refine ⟨ret_two ?_ rfl, rfl⟩
    unfold bitAt
    omega

end Go.Proofs.Ytpdahcojedganaa
