/-
  THE WALKS over the document's own rowMay, StateMay, has, fdsRow, at a table: what they answer, for every row and state. Condition: where memory is made, that the row may be a table's.
-/
import Derived.Test.YtnpejgendmgfaaaFdsD
import Derived.Test.YtnpejgendmgfaaaRefMay
import Derived.Test.YtnpejgendmgfaaaRefCp
import Derived.Test.YtnpejgendmgfaaaLater
namespace Go.Proofs.Ytnpejgendmgfaaa
open Go.RowKit

set_option maxHeartbeats 4000000 in
theorem refRowMay1 (v : Value) (xs : List Int) (w : World) (hx : Has w v xs) :
    Calls Try.prog 31 #[.int .i64 1, v] w fun e w' => e = .returned (.bool (rowMay2 xs)) ∧ Le w w' := by
  have hl := Le.alloc w (.cells #[.int .i64 1, .int .i64 4, .int .i64 4] 3)
  obtain ⟨a, cap, rfl, hc, _, hx⟩ := hx
  obtain ⟨L, hL⟩ : ∃ L, L = xs.length := ⟨_, rfl⟩
  rw [← hL] at hc hx ⊢
  have HL : Hid (L = xs.length) := hL
  clear hL
  go_enter Try.func31, Try.ntmps31
  go_wp2
  go_loopw [6] (fun i wr => ∃ (k : Nat) (y : Int), k ≤ L ∧ (k : Int) ≤ y + 1 ∧ y < 4 ∧ i = .int .i64 k ∧ Hid ((0 < k → xs.getD (k - 1) 0 = y) ∧ (k = 0 → y = -1)) ∧ Hid (rowMay2 xs = riseFrom y (xs.drop k)) ∧ Le (w.alloc (.cells #[.int .i64 1, .int .i64 4, .int .i64 4] 3)) wr) (fun i _ => L - (intOf i).toNat)
  case atStart => exact ⟨0, -1, Nat.zero_le _, by omega, by omega, rfl, hid ⟨fun h => by omega, fun _ => rfl⟩, hid (by simp [rowMay2]), Le.refl _⟩
  case round =>
    obtain ⟨k, y, hk, hy1, hy2, rfl, HY, HA, hle⟩ := hrel
    by_cases hlt : k < L
    · obtain ⟨b, off, rfl, hcell⟩ := hx (by omega)
      obtain ⟨x, hxk⟩ : ∃ x, x = xs.getD k 0 := ⟨_, rfl⟩
      have hcx := hcell k hlt
      rw [← hxk] at hcx
      have c1 : ∀ X : Later wr, X.w.cell? ⟨b, off + k, none⟩ = some (.int .i64 x) := fun X => by
        have hb := World.block_lt_of_cell? w _ hcx
        rw [((hl.trans hle).trans X.le).cell (p := ⟨b, off + k, none⟩) hb]; exact hcx
      have hd := HA.out
      rw [drop_at (by have := HL.out; omega), ← hxk] at hd
      simp only [riseFrom] at hd
      have HX : Hid (x = xs.getD k 0) := hxk
      clear hxk
      have k0 : (0 : Int) ≤ (k : Int) := by omega
      have k1 : (k : Int) < (L : Int) := by omega
      have hup := fun w' => refUpTo x 0 255 w'
      by_cases h1 : 0 ≤ x ∧ x ≤ 255
      · have hh' : (decide (0 ≤ x) && decide (x ≤ 255)) = true := by simp [h1]
        simp only [hh'] at hup
        by_cases h2 : 4 ≤ x
        · have g2 : decide (4 ≤ x) = true := by simp [h2]
          have HD : Hid (rowMay2 xs = false) := hid (by rw [hd]; simp; omega)
          clear hd hcell hx HA HY
          go_wp2_with fail
          refine wp_region_later (by kernel_rfl) (by kernel_rfl) ?_
          repeat (go_big_quiet_step (first | (go_at_call 35; exact Calls.later_same (hup _))))
          refine wpQuiet_nil ?_
          rintro _ ⟨Y, rfl⟩
          go_wp2
          go_ret
          exact ⟨ret_bool HD.out.symm, (hl.trans hle).trans Y.le⟩
        · have g2 : decide (4 ≤ x) = false := by simp; omega
          by_cases h3 : k = 0
          · have g3 : decide (0 < k) = false := by rw [decide_eq_false_iff_not]; omega
            have hy3 := HY.out.2 h3
            have HD : Hid (rowMay2 xs = riseFrom x (xs.drop (k + 1))) := hid (by rw [hd]; simp [show x < 4 by omega, show y < x by omega])
            have hx1 : ((k + 1 : Nat) : Int) ≤ x + 1 := by omega
            clear hd hcell hx HA HY h3 hy3
            go_wp2_with fail
            refine wp_region_later (by kernel_rfl) (by kernel_rfl) ?_
            repeat (go_big_quiet_step (first | (go_at_call 35; exact Calls.later_same (hup _))))
            refine wpQuiet_nil ?_
            rintro _ ⟨Y, rfl⟩
            go_wp2
            go_roundw
            case rel => exact ⟨k + 1, x, by omega, by omega, by omega, by go_num, hid ⟨fun _ => HX.out.symm, fun h => by omega⟩, HD, hle.trans Y.le⟩
            case measure => simp [intOf]; omega
          · obtain ⟨p, rfl⟩ : ∃ p, k = p + 1 := ⟨k - 1, by omega⟩
            have g3 : decide ((0 : Int) < ((p + 1 : Nat) : Int)) = true := by rw [decide_eq_true_eq]; omega
            have g5 : (0 : Int) < (p : Int) + 1 := by omega
            have hyk := HY.out.1 (by omega)
            rw [show p + 1 - 1 = p from rfl] at hyk
            have hcy := hcell p (by omega)
            rw [hyk] at hcy
            have c2 : ∀ X : Later wr, X.w.cell? ⟨b, off + p, none⟩ = some (.int .i64 y) := fun X => by
              have hb := World.block_lt_of_cell? w _ hcy
              rw [((hl.trans hle).trans X.le).cell (p := ⟨b, off + p, none⟩) hb]; exact hcy
            have k3 : (0 : Int) ≤ (p : Int) := by omega
            have k4 : (p : Int) < (L : Int) := by omega
            clear hyk hcy
            by_cases h4 : y < x
            · have g4 : decide (x ≤ y) = false := by simp; omega
              have HD : Hid (rowMay2 xs = riseFrom x (xs.drop (p + 1 + 1))) := hid (by rw [hd]; simp [h4, show x < 4 by omega])
              clear hd hcell hx HA HY
              go_wp2_with fail
              refine wp_region_later (by kernel_rfl) (by kernel_rfl) ?_
              repeat (go_big_quiet_step (first | (go_at_call 35; exact Calls.later_same (hup _))))
              refine wpQuiet_nil ?_
              rintro _ ⟨Y, rfl⟩
              go_wp2
              go_roundw
              case rel => exact ⟨p + 1 + 1, x, by omega, by omega, by omega, by go_num, hid ⟨fun _ => HX.out.symm, fun h => by omega⟩, HD, hle.trans Y.le⟩
              case measure => simp [intOf]; omega
            · have g4 : decide (x ≤ y) = true := by simp; omega
              have HD : Hid (rowMay2 xs = false) := hid (by rw [hd]; simp [h4])
              clear hd hcell hx HA HY
              go_wp2_with fail
              refine wp_region_later (by kernel_rfl) (by kernel_rfl) ?_
              repeat (go_big_quiet_step (first | (go_at_call 35; exact Calls.later_same (hup _))))
              refine wpQuiet_nil ?_
              rintro _ ⟨Y, rfl⟩
              go_wp2
              go_ret
              exact ⟨ret_bool HD.out.symm, (hl.trans hle).trans Y.le⟩
      · have hh' : (decide (0 ≤ x) && decide (x ≤ 255)) = false := by rw [Bool.and_eq_false_iff]; simp; omega
        simp only [hh'] at hup
        have HD : Hid (rowMay2 xs = false) := hid (by rw [hd, show (decide (y < x) && decide (x < 4)) = false by rw [Bool.and_eq_false_iff]; simp; omega]; rfl)
        clear hd hcell hx HA HY
        go_wp2_with fail
        refine wp_region_later (by kernel_rfl) (by kernel_rfl) ?_
        repeat (go_big_quiet_step (first | (go_at_call 35; exact Calls.later_same (hup _))))
        refine wpQuiet_nil ?_
        rintro _ ⟨Y, rfl⟩
        go_wp2
        go_ret
        exact ⟨ret_bool HD.out.symm, (hl.trans hle).trans Y.le⟩
    · obtain rfl : k = L := by omega
      have hd := HA.out
      rw [List.drop_eq_nil_of_le (by have := HL.out; omega)] at hd
      have hlen := rowMay2_len hd
      rw [← HL.out] at hlen
      have HD : Hid (rowMay2 xs = true) := hd
      clear hd hx HA HY
      go_wp2
      go_ret
      exact ⟨ret_bool (by rw [HD.out]; simp; omega), hl.trans hle⟩

end Go.Proofs.Ytnpejgendmgfaaa
