/-
  THE WALKS over the document's own SlotsMay, cellMay, Bit and Alive: what each answers, for every number and every slot. No condition.
-/
import Derived.Test.YtnncmjliehoknaaSlA
import Derived.Test.YtnncmjliehoknaaRefMay
namespace Go.Proofs.Ytnncmjliehoknaa
open Go.RowKit

theorem refSlotsMay (n : Int) (w : World) : Calls Try.prog 40 #[.int .i64 n] w fun e w' => e = .returned (.bool (slotsB n)) ∧ w = w' := by
  rcases (by omega : n = 2 ∨ n = 4 ∨ n = 8 ∨ n = 16 ∨ (n ≠ 2 ∧ n ≠ 4 ∧ n ≠ 8 ∧ n ≠ 16)) with rfl | rfl | rfl | rfl | ⟨h1, h2, h3, h4⟩
  iterate 4
    · go_enter Try.func40, Try.ntmps40
      go_wp2
      go_ret
      exact ⟨ret_bool (by decide), rfl⟩
  · go_enter Try.func40, Try.ntmps40
    go_wp2
    go_ret
    exact ⟨ret_bool (by simp [slotsB, h1, h2, h3, h4]), rfl⟩

theorem refCellMay (x : Int) (w : World) : Calls Try.prog 42 #[.int .i64 x] w fun e w' => e = .returned (.bool (holdB x)) ∧ w = w' := by
  go_enter Try.func42, Try.ntmps42
  go_wp2_with (go_at_call 29; refine (refUpTo _ _ _ _).mono ?_; rintro e _ ⟨rfl, rfl⟩)
  go_ret
  exact ⟨rfl, rfl⟩

set_option maxHeartbeats 1000000 in
theorem refBit (p n : Int) (w : World) :
    Calls Try.prog 36 #[.int .i64 p, .int .i64 n] w fun e w' => e = .returned (.tuple #[.int .i64 (bitS p n).1, .int .i64 (bitS p n).2]) ∧ w = w' := by
  have h1 := fun w' => refSlotsMay n w'
  have h2 := fun w' => refCellMay p w'
  cases hn : slotsB n
  · rw [bitS_no (.inl hn)]
    rw [hn] at h1
    go_enter Try.func36, Try.ntmps36
    go_wp2_with (first | (go_at_call 40; refine (h1 _).mono ?_; rintro e _ ⟨rfl, rfl⟩) | (go_at_call 42; refine (h2 _).mono ?_; rintro e _ ⟨rfl, rfl⟩))
    go_ret2
    exact ⟨rfl, rfl⟩
  cases hp : holdB p
  · rw [bitS_no (.inr hp)]
    rw [hn] at h1
    rw [hp] at h2
    go_enter Try.func36, Try.ntmps36
    go_wp2_with (first | (go_at_call 40; refine (h1 _).mono ?_; rintro e _ ⟨rfl, rfl⟩) | (go_at_call 42; refine (h2 _).mono ?_; rintro e _ ⟨rfl, rfl⟩))
    go_ret2
    exact ⟨rfl, rfl⟩
  rw [bitS_yes hn hp]
  rw [hn] at h1
  rw [hp] at h2
  obtain ⟨p0, p1⟩ := holdB_cases hp
  rcases slotsB_cases hn with rfl | rfl | rfl | rfl
  all_goals
    clear hn hp
    go_enter Try.func36, Try.ntmps36
    go_wp2_with (first | (go_at_call 40; refine (h1 _).mono ?_; rintro e _ ⟨rfl, rfl⟩) | (go_at_call 42; refine (h2 _).mono ?_; rintro e _ ⟨rfl, rfl⟩))
    go_ret2
    refine ⟨ret_two ?_ rfl, rfl⟩
    unfold bitAt
    omega

set_option maxHeartbeats 1000000 in
theorem refAlive (c r a t b p n : Int) (w : World) :
    Calls Try.prog 38 #[slotV c r a t b, .int .i64 p, .int .i64 n] w fun e w' => e = .returned (.tuple #[.bool (aliveS b p n).1, .int .i64 (aliveS b p n).2]) ∧ Le w w' := by
  have h1 := fun w' => refBit p n w'
  by_cases hy : slotsB n = true ∧ holdB p = true
  · rw [aliveS_yes hy.1 hy.2]
    rw [bitS_yes hy.1 hy.2] at h1
    generalize bitAt p n = q at h1 ⊢
    clear hy
    go_enter Try.func38, Try.ntmps38
    go_wp2_with (go_at_call 36; refine (h1 _).mono ?_; rintro e _ ⟨rfl, rfl⟩)
    go_ret2
    exact ⟨ret_pair (by simp [beq_int]) rfl, Le.alloc _ _⟩
  · have hy' : slotsB n = false ∨ holdB p = false := by
      cases h : slotsB n <;> cases k : holdB p <;> simp_all
    rw [aliveS_no hy']
    rw [bitS_no hy'] at h1
    clear hy hy'
    go_enter Try.func38, Try.ntmps38
    go_wp2_with (go_at_call 36; refine (h1 _).mono ?_; rintro e _ ⟨rfl, rfl⟩)
    go_ret2
    exact ⟨rfl, Le.alloc _ _⟩

end Go.Proofs.Ytnncmjliehoknaa
