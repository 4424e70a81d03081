/-
  THE WALK over choruslaw13.ConfigSpread: it answers true, for every number and both answers, and turns nothing that was there. No condition.
-/
import Derived.Test.YtpdahcojedganaaCfAwake
import Derived.Test.YtpdahcojedganaaBits
namespace Go.Proofs.Ytpdahcojedganaa
open Go.RowKit

theorem spread_may {r t : Int} (r0 : 1 ≤ r) (r1 : r ≤ 2) (t0 : 1 ≤ t) (t1 : t ≤ 4) : cfgB 0 r 1 t 16 = true := by
  have i1 : inB 1 t 4 = true := inB_of t0 t1
  have i2 : inB 0 0 2 = true := by decide
  have i3 : inB 1 1 2 = true := by decide
  have i4 : inB 1 r 2 = true := inB_of r0 r1
  have i5 : slotsB 16 = true := by decide
  have i6 : decide (2 * t ≤ 16) = true := by simp; omega
  simp only [cfgB, i1, i2, i3, i4, i5, i6, Bool.true_and]

set_option maxRecDepth 4000 in
set_option maxHeartbeats 4000000 in
theorem configSpread_law (w : World) (a0 : Int) (two : Bool) : Calls Try.prog 5 #[.int .i64 a0, .bool two] w fun e w' => e = .returned (.bool true) ∧ Le w w' := by
  obtain ⟨m, hm, m0, m1⟩ : ∃ m, bits .and .i64 a0 3 = m ∧ 0 ≤ m ∧ m ≤ 3 := ⟨_, and3 a0, by omega, by omega⟩
  cases two
  · have b3 := fun w => cfgAs (spread_may (r := 1) (t := 1 + m) (by omega) (by omega) (by omega) (by omega)) w
    have b1 := fun k (h0 : 0 ≤ k) (h1 : k < 1 + m) w => repAs (show repS 0 1 1 (1 + m) 16 k = (0, 0) by rw [repS_yes (spread_may (by omega) (by omega) (by omega) (by omega)) h0 h1]; simp) w
    go_enter Try.func5, Try.ntmps5
    go_wp2_with fail
    refine (lawAwake13 _).mono ?_
    rintro e w1 ⟨rfl, l1⟩
    have hb := Box.new w1 #[.int .i64 0, .int .i64 1, .int .i64 1, .int .i64 (1 + m), .int .i64 16] 23
    replace l1 := l1.trans (Le.alloc w1 (.cells #[.int .i64 0, .int .i64 1, .int .i64 1, .int .i64 (1 + m), .int .i64 16] 23))
    go_upto_region 6 with fail
    generalize hW : w1.alloc (.cells #[.int .i64 0, .int .i64 1, .int .i64 1, .int .i64 (1 + m), .int .i64 16] 23) = W at hb l1 ⊢
    clear hm
    go_wp2_with fail
    go_loopw [6] (fun i wr => ∃ I : Int, 0 ≤ I ∧ I ≤ 1 + m ∧ i = .int .i64 I ∧ Le W wr) (fun i _ => (1 + m - intOf i).toNat)
    case atStart => exact ⟨0, by omega, by omega, rfl, Le.refl _⟩
    case round =>
      obtain ⟨I, hI0, hI1, rfl, l2⟩ := hrel
      obtain ⟨y0, y1, y2, y3, y4⟩ := (hb.le l2).slot
      by_cases hlt : I < 1 + m
      · go_wp2_with fail
        refine (b1 I hI0 hlt _).mono ?_
        rintro e w3 ⟨rfl, l3⟩
        go_wp2_with (go_at_call 9; refine (lawNum _ _).mono ?_; rintro e _ ⟨rfl, rfl⟩)
        go_roundw
        case rel => exact ⟨I + 1, by omega, by omega, by go_num, l2.trans l3⟩
        case measure => simp [intOf]; omega
      · go_wp2_with fail
        refine (b3 _).mono ?_
        rintro e w3 ⟨rfl, l3⟩
        go_wp2
        go_ret
        exact ⟨rfl, (l1.trans l2).trans l3⟩
  · have b3 := fun w => cfgAs (spread_may (r := 2) (t := 1 + m) (by omega) (by omega) (by omega) (by omega)) w
    have b1 := fun k (h0 : 0 ≤ k) (h1 : k < 1 + m) w => repAs (show repS 0 2 1 (1 + m) 16 k = (k % 2, 0) by rw [repS_yes (spread_may (by omega) (by omega) (by omega) (by omega)) h0 h1]) w
    go_enter Try.func5, Try.ntmps5
    go_wp2_with fail
    refine (lawAwake13 _).mono ?_
    rintro e w1 ⟨rfl, l1⟩
    have hb := Box.new w1 #[.int .i64 0, .int .i64 2, .int .i64 1, .int .i64 (1 + m), .int .i64 16] 23
    replace l1 := l1.trans (Le.alloc w1 (.cells #[.int .i64 0, .int .i64 2, .int .i64 1, .int .i64 (1 + m), .int .i64 16] 23))
    go_upto_region 6 with fail
    generalize hW : w1.alloc (.cells #[.int .i64 0, .int .i64 2, .int .i64 1, .int .i64 (1 + m), .int .i64 16] 23) = W at hb l1 ⊢
    clear hm
    go_wp2_with fail
    go_loopw [6] (fun i wr => ∃ I : Int, 0 ≤ I ∧ I ≤ 1 + m ∧ i = .int .i64 I ∧ Le W wr) (fun i _ => (1 + m - intOf i).toNat)
    case atStart => exact ⟨0, by omega, by omega, rfl, Le.refl _⟩
    case round =>
      obtain ⟨I, hI0, hI1, rfl, l2⟩ := hrel
      obtain ⟨y0, y1, y2, y3, y4⟩ := (hb.le l2).slot
      by_cases hlt : I < 1 + m
      · have h5 := b1 I hI0 hlt
        have h6 : bits .and .i64 I 1 = I % 2 := and1 I
        rcases (by omega : I % 2 = 0 ∨ I % 2 = 1) with h2 | h2
        all_goals
          rw [h2] at h5 h6
          clear h2
          go_wp2_with fail
          refine (h5 _).mono ?_
          rintro e w3 ⟨rfl, l3⟩
          go_wp2_with (go_at_call 9; refine (lawNum _ _).mono ?_; rintro e _ ⟨rfl, rfl⟩)
          go_roundw
          case rel => exact ⟨I + 1, by omega, by omega, by go_num, l2.trans l3⟩
          case measure => simp [intOf]; omega
      · go_wp2_with fail
        refine (b3 _).mono ?_
        rintro e w3 ⟨rfl, l3⟩
        go_wp2
        go_ret
        exact ⟨rfl, (l1.trans l2).trans l3⟩

end Go.Proofs.Ytpdahcojedganaa
