/-
  THE WALK over choruslaw1.CellLock: it answers true, for every slice of numbers within the reach, and turns nothing that was there.
-/
import Derived.Test.YtefmgibbbgckcaaCountsW
namespace Go.Proofs.Ytefmgibbbgckcaa
open Go.RowKit

theorem store_lock {u : Int} (h0 : 0 ≤ u) (h1 : u ≤ 4) : storeS [u] 0 0 = ([0], 0) := by
  have : holdB u = true := by simp [holdB]; omega
  simp [storeS, atB, mayB, this]; decide
theorem swap_free {t : Int} (h0 : 0 ≤ t) (h1 : t ≤ 4) : swapS [0] 0 0 t = ([t], true, 0) := by
  have : holdB t = true := by simp [holdB]; omega
  simp [swapS, atB, mayB, this]; decide
theorem swap_held {u t : Int} (u0 : 1 ≤ u) (u1 : u ≤ 4) (h0 : 0 ≤ t) (h1 : t ≤ 4) : swapS [u] 0 0 t = ([u], false, 0) := by
  have a : holdB t = true := by simp [holdB]; omega
  have b : holdB u = true := by simp [holdB]; omega
  have c : ¬ u = 0 := by omega
  simp [swapS, atB, mayB, a, b, c]
theorem load_lock {u : Int} (h0 : 0 ≤ u) (h1 : u ≤ 4) : loadS [u] 0 = (u, 0) := by
  have : holdB u = true := by simp [holdB]; omega
  simp [loadS, atB, mayB, this]

set_option maxHeartbeats 4000000 in
theorem lawLock (w : World) (v : Value) (xs : List Int) (hx : Has w v xs) (hr : xs.length * 8 ≤ 140737488351232) :
    Calls Try.prog 7 #[v] w fun e w' => e = .returned (.bool true) ∧ Le w w' := by
  obtain ⟨a, cap, rfl, hc, _, hx⟩ := hx
  obtain ⟨L, hL⟩ : ∃ L, L = xs.length := ⟨_, rfl⟩
  rw [← hL] at hr hx hc ⊢
  clear hL
  rcases Nat.eq_zero_or_pos L with h0 | h0
  · subst h0
    go_enter Try.func7, Try.ntmps7
    go_wp2_with (go_at_call 21; refine (lawAwake _).mono ?_; rintro e w1 ⟨rfl, l1⟩)
    have h2 : Has (w1.alloc (.cells #[.int .i64 0] 3)) (.slice (some ⟨w1.heap.size, 0, none⟩) 1 1) [0] := (Own.lit w1 [0] (by decide)).has
    have l2 := l1.trans (Le.alloc w1 (.cells #[.int .i64 0] 3))
    clear l1
    refine wp_loop_rounds 1 ?_
    rw [rounds_succ]
    go_wp2_with fail
    refine (cellLoad _ [0] _ _ h2).mono ?_
    rw [load_lock (by omega) (by omega)]
    rintro e _ ⟨rfl, rfl⟩
    go_wp2_with (go_at_call 17; refine (lawNum _ _).mono ?_; rintro e _ ⟨rfl, rfl⟩)
    go_ret
    exact ⟨rfl, l2⟩
  · obtain ⟨b, off, rfl, hcell⟩ := hx h0
    have hb : b < w.heap.size := World.block_lt_of_cell? w _ (hcell 0 h0)
    clear hx
    go_enter Try.func7, Try.ntmps7
    go_wp2_with (go_at_call 21; refine (lawAwake _).mono ?_; rintro e w1 ⟨rfl, l1⟩)
    have h2 : Has (w1.alloc (.cells #[.int .i64 0] 3)) (.slice (some ⟨w1.heap.size, 0, none⟩) 1 1) [0] := (Own.lit w1 [0] (by decide)).has
    have l2 := l1.trans (Le.alloc w1 (.cells #[.int .i64 0] 3))
    clear l1
    go_loopw [3, 4, 5] (fun t s i wr => ∃ (k : Nat) (u : Int), k ≤ L ∧ k ≤ 40 ∧ i = .int .i64 k ∧ s = .int .i64 u ∧ 0 ≤ u ∧ u ≤ 4 ∧ Has wr t [u] ∧ Le w wr) (fun _ _ i _ => 40 - (intOf i).toNat)
    case atStart => exact ⟨0, 0, Nat.zero_le _, by omega, rfl, rfl, by omega, by omega, h2, l2⟩
    case round =>
      obtain ⟨k, u, hk, hk', rfl, rfl, u0, u1, h5, l5⟩ := hrel
      clear h2 l2
      by_cases hlt : k < L ∧ k < 40
      · obtain ⟨hlt, hlt'⟩ := hlt
        obtain ⟨x, hxk⟩ : ∃ x, x = xs.getD k 0 := ⟨_, rfl⟩
        have hck : wr.cell? ⟨b, off + k, none⟩ = some (.int .i64 x) := by rw [hxk, Below.cell (p := ⟨b, off + k, none⟩) l5 hb]; exact hcell k hlt
        clear hxk
        obtain ⟨m, hm, m0, m1⟩ : ∃ m, bits .and .i64 x 3 = m ∧ 0 ≤ m ∧ m ≤ 3 := ⟨_, and3 x, by omega, by omega⟩
        obtain ⟨z, hz⟩ : ∃ z, bits .and .i64 x 4 = z := ⟨_, rfl⟩
        by_cases hfree : z = 4 ∧ u = 1 + m
        · obtain ⟨hz4, hu⟩ := hfree
          have hzz : (z == 4) = true := by simp [hz4]
          have huu : (u == 1 + m) = true := by simp [hu]
          clear hz4 hu
          go_wp2_with (first | (go_at_call 11; refine (cellStore _ [u] _ _ _ h5).mono ?_; rw [store_lock u0 u1]; rintro e w3 ⟨v3, rfl, f3⟩) | (go_at_call 17; refine (lawNum _ _).mono ?_; rintro e _ ⟨rfl, rfl⟩))
          go_roundw
          case rel => exact ⟨k + 1, 0, by omega, by omega, by go_num, rfl, by omega, by omega, f3.has, l5.trans f3.le⟩
          case measure => simp [intOf]; omega
        · have hcase : ((z == 4) = true ∧ (u == 1 + m) = false) ∨ (z == 4) = false := by
            by_cases h4 : z = 4
            · exact .inl ⟨by simp [h4], by simp; intro h; exact hfree ⟨h4, h⟩⟩
            · exact .inr (by simp [h4])
          clear hfree
          by_cases hu0 : u = 0
          · subst hu0
            have hq0 : ((0 : Int) == 0) = true := by decide
            rcases hcase with ⟨hz4, hu4⟩ | hz4
            all_goals
              go_wp2_with (first | (go_at_call 13; refine (cellSwap _ [0] _ _ _ _ h5).mono ?_; rw [swap_free (by omega) (by omega)]; rintro e w3 ⟨v3, rfl, f3⟩) | (go_at_call 17; refine (lawNum _ _).mono ?_; rintro e _ ⟨rfl, rfl⟩))
              go_roundw
              case rel => exact ⟨k + 1, 1 + m, by omega, by omega, by go_num, rfl, by omega, by omega, f3.has, l5.trans f3.le⟩
              case measure => simp [intOf]; omega
          · have hq0 : (u == 0) = false := by simp [hu0]
            have u2 : 1 ≤ u := by omega
            clear hu0
            rcases hcase with ⟨hz4, hu4⟩ | hz4
            all_goals
              go_wp2_with (first | (go_at_call 13; refine (cellSwap _ [u] _ _ _ _ h5).mono ?_; rw [swap_held u2 u1 (by omega) (by omega)]; rintro e w3 ⟨v3, rfl, f3⟩) | (go_at_call 17; refine (lawNum _ _).mono ?_; rintro e _ ⟨rfl, rfl⟩))
              go_roundw
              case rel => exact ⟨k + 1, u, by omega, by omega, by go_num, rfl, by omega, by omega, f3.has, l5.trans f3.le⟩
              case measure => simp [intOf]; omega
      · by_cases hlt2 : k < L
        all_goals
          go_wp2_with fail
          refine (cellLoad _ [u] _ _ h5).mono ?_
          rw [load_lock u0 u1]
          rintro e _ ⟨rfl, rfl⟩
          go_wp2_with (go_at_call 17; refine (lawNum _ _).mono ?_; rintro e _ ⟨rfl, rfl⟩)
          go_ret
          exact ⟨rfl, l5⟩

end Go.Proofs.Ytefmgibbbgckcaa
