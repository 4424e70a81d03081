/-
  THE WALK over choruslaw9.SlotRow: it answers true, for every two numbers, and turns nothing that was there.
-/
import Derived.Test.YtkangejkdfeelaaSlLapsW
namespace Go.Proofs.Ytkangejkdfeelaa
open Go.RowKit

set_option maxRecDepth 20000 in
set_option maxHeartbeats 4000000 in
theorem lawRow9_2 (w : World) (a0 a1 : Int) (h : bits .and .i64 a1 3 = 0) : Calls Try.prog 7 #[.int .i64 a0, .int .i64 a1] w fun e w' => e = .returned (.bool true) ∧ Le w w' := by
  obtain ⟨m, hm, m0, m1⟩ : ∃ m, bits .and .i64 a0 1023 = m ∧ 0 ≤ m ∧ m ≤ 1023 := ⟨_, and1023 a0, by omega, by omega⟩
  go_enter Try.func7, Try.ntmps7
  go_wp2_with (go_at_call 13; refine (lawAwake9 _).mono ?_; rintro e w1 ⟨rfl, l1⟩)
  clear h hm
  go_loopw [7] (fun i wr => ∃ I : Int, 0 ≤ I ∧ I ≤ 6 ∧ i = .int .i64 I ∧ wr = w1) (fun i _ => 6 - (intOf i).toNat)
  case atStart => exact ⟨0, by omega, by omega, rfl, rfl⟩
  case round =>
    obtain ⟨I, hI0, hI1, rfl, rfl⟩ := hrel
    by_cases hlt : I < 6
    · go_wp2_with (go_at_call 8; refine (slotBitYes _ _ _ (by decide) (by omega) (by omega)).mono ?_; rintro e _ ⟨rfl, rfl⟩)
      go_loopw [10, 12] (fun lap j w' => ∃ L : Int, 0 ≤ L ∧ 2 * L ≤ m + I ∧ lap = .int .i64 L ∧ j = .int .i64 (m + I - 2 * L) ∧ w' = wr) (fun _ j _ => (intOf j).toNat)
      case atStart => exact ⟨0, by omega, by omega, rfl, by simp, rfl⟩
      case round =>
        obtain ⟨L, hL0, hL1, rfl, rfl, rfl⟩ := hrel
        by_cases hj : 2 ≤ m + I - 2 * L
        · go_wp2
          go_roundw
          case rel => exact ⟨L + 1, by omega, by omega, by go_num, by go_num, trivial⟩
          case measure => simp [intOf]; omega
        · have hb : bits .and .i64 L 1 = L % 2 := and1 L
          have hbit : bitAt (m + I) 2 = 1 - L % 2 := by unfold bitAt; omega
          rw [hbit]
          rcases (by omega : L % 2 = 0 ∨ L % 2 = 1) with h2 | h2
          all_goals
            rw [h2] at hb ⊢
            clear h2 hbit
            go_wp2_with (go_at_call 12; refine (lawNum _ _).mono ?_; rintro e _ ⟨rfl, rfl⟩)
            go_roundw
            case rel => exact ⟨I + 1, by omega, by omega, by go_num, trivial⟩
            case measure => simp [intOf]; omega
    · go_wp2
      go_ret
      exact ⟨rfl, l1⟩

set_option maxRecDepth 20000 in
set_option maxHeartbeats 4000000 in
theorem lawRow9_4 (w : World) (a0 a1 : Int) (h : bits .and .i64 a1 3 = 1) : Calls Try.prog 7 #[.int .i64 a0, .int .i64 a1] w fun e w' => e = .returned (.bool true) ∧ Le w w' := by
  obtain ⟨m, hm, m0, m1⟩ : ∃ m, bits .and .i64 a0 1023 = m ∧ 0 ≤ m ∧ m ≤ 1023 := ⟨_, and1023 a0, by omega, by omega⟩
  go_enter Try.func7, Try.ntmps7
  go_wp2_with (go_at_call 13; refine (lawAwake9 _).mono ?_; rintro e w1 ⟨rfl, l1⟩)
  clear h hm
  go_loopw [7] (fun i wr => ∃ I : Int, 0 ≤ I ∧ I ≤ 12 ∧ i = .int .i64 I ∧ wr = w1) (fun i _ => 12 - (intOf i).toNat)
  case atStart => exact ⟨0, by omega, by omega, rfl, rfl⟩
  case round =>
    obtain ⟨I, hI0, hI1, rfl, rfl⟩ := hrel
    by_cases hlt : I < 12
    · go_wp2_with (go_at_call 8; refine (slotBitYes _ _ _ (by decide) (by omega) (by omega)).mono ?_; rintro e _ ⟨rfl, rfl⟩)
      go_loopw [10, 12] (fun lap j w' => ∃ L : Int, 0 ≤ L ∧ 4 * L ≤ m + I ∧ lap = .int .i64 L ∧ j = .int .i64 (m + I - 4 * L) ∧ w' = wr) (fun _ j _ => (intOf j).toNat)
      case atStart => exact ⟨0, by omega, by omega, rfl, by simp, rfl⟩
      case round =>
        obtain ⟨L, hL0, hL1, rfl, rfl, rfl⟩ := hrel
        by_cases hj : 4 ≤ m + I - 4 * L
        · go_wp2
          go_roundw
          case rel => exact ⟨L + 1, by omega, by omega, by go_num, by go_num, trivial⟩
          case measure => simp [intOf]; omega
        · have hb : bits .and .i64 L 1 = L % 2 := and1 L
          have hbit : bitAt (m + I) 4 = 1 - L % 2 := by unfold bitAt; omega
          rw [hbit]
          rcases (by omega : L % 2 = 0 ∨ L % 2 = 1) with h2 | h2
          all_goals
            rw [h2] at hb ⊢
            clear h2 hbit
            go_wp2_with (go_at_call 12; refine (lawNum _ _).mono ?_; rintro e _ ⟨rfl, rfl⟩)
            go_roundw
            case rel => exact ⟨I + 1, by omega, by omega, by go_num, trivial⟩
            case measure => simp [intOf]; omega
    · go_wp2
      go_ret
      exact ⟨rfl, l1⟩

set_option maxRecDepth 20000 in
set_option maxHeartbeats 4000000 in
theorem lawRow9_8 (w : World) (a0 a1 : Int) (h : bits .and .i64 a1 3 = 2) : Calls Try.prog 7 #[.int .i64 a0, .int .i64 a1] w fun e w' => e = .returned (.bool true) ∧ Le w w' := by
  obtain ⟨m, hm, m0, m1⟩ : ∃ m, bits .and .i64 a0 1023 = m ∧ 0 ≤ m ∧ m ≤ 1023 := ⟨_, and1023 a0, by omega, by omega⟩
  go_enter Try.func7, Try.ntmps7
  go_wp2_with (go_at_call 13; refine (lawAwake9 _).mono ?_; rintro e w1 ⟨rfl, l1⟩)
  clear h hm
  go_loopw [7] (fun i wr => ∃ I : Int, 0 ≤ I ∧ I ≤ 24 ∧ i = .int .i64 I ∧ wr = w1) (fun i _ => 24 - (intOf i).toNat)
  case atStart => exact ⟨0, by omega, by omega, rfl, rfl⟩
  case round =>
    obtain ⟨I, hI0, hI1, rfl, rfl⟩ := hrel
    by_cases hlt : I < 24
    · go_wp2_with (go_at_call 8; refine (slotBitYes _ _ _ (by decide) (by omega) (by omega)).mono ?_; rintro e _ ⟨rfl, rfl⟩)
      go_loopw [10, 12] (fun lap j w' => ∃ L : Int, 0 ≤ L ∧ 8 * L ≤ m + I ∧ lap = .int .i64 L ∧ j = .int .i64 (m + I - 8 * L) ∧ w' = wr) (fun _ j _ => (intOf j).toNat)
      case atStart => exact ⟨0, by omega, by omega, rfl, by simp, rfl⟩
      case round =>
        obtain ⟨L, hL0, hL1, rfl, rfl, rfl⟩ := hrel
        by_cases hj : 8 ≤ m + I - 8 * L
        · go_wp2
          go_roundw
          case rel => exact ⟨L + 1, by omega, by omega, by go_num, by go_num, trivial⟩
          case measure => simp [intOf]; omega
        · have hb : bits .and .i64 L 1 = L % 2 := and1 L
          have hbit : bitAt (m + I) 8 = 1 - L % 2 := by unfold bitAt; omega
          rw [hbit]
          rcases (by omega : L % 2 = 0 ∨ L % 2 = 1) with h2 | h2
          all_goals
            rw [h2] at hb ⊢
            clear h2 hbit
            go_wp2_with (go_at_call 12; refine (lawNum _ _).mono ?_; rintro e _ ⟨rfl, rfl⟩)
            go_roundw
            case rel => exact ⟨I + 1, by omega, by omega, by go_num, trivial⟩
            case measure => simp [intOf]; omega
    · go_wp2
      go_ret
      exact ⟨rfl, l1⟩

set_option maxRecDepth 20000 in
set_option maxHeartbeats 4000000 in
theorem lawRow9_16 (w : World) (a0 a1 : Int) (h : bits .and .i64 a1 3 = 3) : Calls Try.prog 7 #[.int .i64 a0, .int .i64 a1] w fun e w' => e = .returned (.bool true) ∧ Le w w' := by
  obtain ⟨m, hm, m0, m1⟩ : ∃ m, bits .and .i64 a0 1023 = m ∧ 0 ≤ m ∧ m ≤ 1023 := ⟨_, and1023 a0, by omega, by omega⟩
  go_enter Try.func7, Try.ntmps7
  go_wp2_with (go_at_call 13; refine (lawAwake9 _).mono ?_; rintro e w1 ⟨rfl, l1⟩)
  clear h hm
  go_loopw [7] (fun i wr => ∃ I : Int, 0 ≤ I ∧ I ≤ 48 ∧ i = .int .i64 I ∧ wr = w1) (fun i _ => 48 - (intOf i).toNat)
  case atStart => exact ⟨0, by omega, by omega, rfl, rfl⟩
  case round =>
    obtain ⟨I, hI0, hI1, rfl, rfl⟩ := hrel
    by_cases hlt : I < 48
    · go_wp2_with (go_at_call 8; refine (slotBitYes _ _ _ (by decide) (by omega) (by omega)).mono ?_; rintro e _ ⟨rfl, rfl⟩)
      go_loopw [10, 12] (fun lap j w' => ∃ L : Int, 0 ≤ L ∧ 16 * L ≤ m + I ∧ lap = .int .i64 L ∧ j = .int .i64 (m + I - 16 * L) ∧ w' = wr) (fun _ j _ => (intOf j).toNat)
      case atStart => exact ⟨0, by omega, by omega, rfl, by simp, rfl⟩
      case round =>
        obtain ⟨L, hL0, hL1, rfl, rfl, rfl⟩ := hrel
        by_cases hj : 16 ≤ m + I - 16 * L
        · go_wp2
          go_roundw
          case rel => exact ⟨L + 1, by omega, by omega, by go_num, by go_num, trivial⟩
          case measure => simp [intOf]; omega
        · have hb : bits .and .i64 L 1 = L % 2 := and1 L
          have hbit : bitAt (m + I) 16 = 1 - L % 2 := by unfold bitAt; omega
          rw [hbit]
          rcases (by omega : L % 2 = 0 ∨ L % 2 = 1) with h2 | h2
          all_goals
            rw [h2] at hb ⊢
            clear h2 hbit
            go_wp2_with (go_at_call 12; refine (lawNum _ _).mono ?_; rintro e _ ⟨rfl, rfl⟩)
            go_roundw
            case rel => exact ⟨I + 1, by omega, by omega, by go_num, trivial⟩
            case measure => simp [intOf]; omega
    · go_wp2
      go_ret
      exact ⟨rfl, l1⟩

theorem lawRow9 (w : World) (a0 a1 : Int) : Calls Try.prog 7 #[.int .i64 a0, .int .i64 a1] w fun e w' => e = .returned (.bool true) ∧ Le w w' := by
  rcases and3_cases a1 with h | h | h | h
  · exact lawRow9_2 w a0 a1 h
  · exact lawRow9_4 w a0 a1 h
  · exact lawRow9_8 w a0 a1 h
  · exact lawRow9_16 w a0 a1 h

end Go.Proofs.Ytkangejkdfeelaa
