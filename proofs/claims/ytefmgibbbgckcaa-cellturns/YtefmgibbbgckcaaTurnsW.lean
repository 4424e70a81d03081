/-
  THE WALK over choruslaw1.CellTurns: it answers true, for every slice of numbers within the reach, every place and every two numbers, and turns nothing that was there.
-/
import Derived.Test.YtefmgibbbgckcaaCountsW
namespace Go.Proofs.Ytefmgibbbgckcaa
open Go.RowKit

theorem Has.openN {w : World} {v : Value} {xs : List Int} {n : Nat} (h : Has w v xs) (hn : xs.length = n) (h0 : 0 < n) :
    ∃ b off cap, v = .slice (some ⟨b, off, none⟩) n cap ∧ n ≤ cap ∧ ∀ i, i < n → w.cell? ⟨b, off + i, none⟩ = some (.int .i64 (xs.getD i 0)) := by
  subst hn
  obtain ⟨a, cap, rfl, hc, _, hx⟩ := h
  obtain ⟨b, off, rfl, hcell⟩ := hx h0
  exact ⟨b, off, cap, rfl, hc, hcell⟩

theorem at_set {xs : List Int} {p y : Int} (h : atB xs p = true) (hy : holdB y = true) : atB (xs.set p.toNat y) p = true := by
  have h2 : xs.all holdB = true := by simp only [atB, mayB, Bool.and_eq_true] at h; exact h.1.1.2
  have hall : (xs.set p.toNat y).all holdB = true := by
    rw [List.all_eq_true]
    intro x hx
    rcases List.mem_or_eq_of_mem_set hx with h | h
    · exact (List.all_eq_true.mp h2) _ h
    · subst h; exact hy
  simp only [atB, mayB, Bool.and_eq_true, hall, List.length_set] at h ⊢
  exact ⟨⟨⟨h.1.1.1, trivial⟩, h.1.2⟩, h.2⟩

theorem get_set {xs : List Int} {p y : Int} (h : atB xs p = true) : (xs.set p.toNat y).getD p.toNat 0 = y := by
  obtain ⟨h0, h1, h2⟩ := atB_len h
  have : p.toNat < xs.length := by omega
  simp [List.getD, this]

theorem hold_of {y : Int} (h0 : 0 ≤ y) (h1 : y ≤ 1048576) : holdB y = true := by simp [holdB]; omega

theorem turns_store {xs : List Int} {p y : Int} (h : atB xs p = true) (h0 : 0 ≤ y) (h1 : y ≤ 1048576) : storeS xs p y = (xs.set p.toNat y, 0) := by
  simp [storeS, h, hold_of h0 h1]
theorem turns_store_no {xs : List Int} {p y : Int} (h : atB xs p = false) : storeS xs p y = ([], 100) := by
  simp [storeS, h]
theorem turns_load_no {xs : List Int} {p : Int} (h : atB xs p = false) : loadS xs p = (0, 100) := by
  simp [loadS, h]
theorem turns_swap {xs : List Int} {p y z : Int} (h : atB xs p = true) (y0 : 0 ≤ y) (y1 : y ≤ 1048576) (z0 : 0 ≤ z) (z1 : z ≤ 1048576) : swapS (xs.set p.toNat y) p y z = (xs.set p.toNat z, true, 0) := by
  unfold swapS
  rw [at_set h (hold_of y0 y1), hold_of z0 z1, get_set h]
  simp [List.set_set]
theorem turns_swap_no {xs : List Int} {p y z : Int} (h : atB xs p = true) (y0 : 0 ≤ y) (y1 : y ≤ 1048576) (z0 : 0 ≤ z) (z1 : z ≤ 1048576) : swapS (xs.set p.toNat y) p (y + 1) z = (xs.set p.toNat y, false, 0) := by
  unfold swapS
  rw [at_set h (hold_of y0 y1), hold_of z0 z1, get_set h]
  have : ¬ y = y + 1 := by omega
  simp [this]
theorem turns_add {xs : List Int} {p y : Int} (h : atB xs p = true) (y0 : 0 ≤ y) (y1 : y ≤ 65535) : addS (xs.set p.toNat y) p 7 = (xs.set p.toNat (y + 7), y, 0) := by
  unfold addS
  rw [at_set h (hold_of y0 (by omega)), get_set h, hold_of (by omega : 0 ≤ y + 7) (by omega)]
  simp [List.set_set]
theorem turns_load {xs : List Int} {p y : Int} (h : atB xs p = true) (y0 : 0 ≤ y) (y1 : y ≤ 1048576) : loadS (xs.set p.toNat y) p = (y, 0) := by
  unfold loadS
  rw [at_set h (hold_of y0 y1), get_set h]
  simp

theorem set_other {xs : List Int} {p y : Int} {k : Nat} (h0 : 0 ≤ p) (hk : ¬ (k : Int) = p) : (xs.set p.toNat y).getD k 0 = xs.getD k 0 := by
  have : ¬ p.toNat = k := by omega
  simp [List.getD, this]

set_option maxRecDepth 20000 in
set_option maxHeartbeats 4000000 in
theorem lawTurns (w : World) (v : Value) (xs : List Int) (hx : Has w v xs) (hr : xs.length * 8 ≤ 140737488351232) (p : Int) (_hp : -9223372036854775808 ≤ p ∧ p ≤ 9223372036854775807)
    (x : Int) (_hx : -9223372036854775808 ≤ x ∧ x ≤ 9223372036854775807) (y : Int) (_hy : -9223372036854775808 ≤ y ∧ y ≤ 9223372036854775807) :
    Calls Try.prog 4 #[v, .int .i64 p, .int .i64 x, .int .i64 y] w fun e w' => e = .returned (.bool true) ∧ Le w w' := by
  obtain ⟨m, hm, m0, m1⟩ : ∃ m, bits .and .i64 x 65535 = m ∧ 0 ≤ m ∧ m ≤ 65535 := ⟨_, and65535 x, by omega, by omega⟩
  obtain ⟨n, hn, n0, n1⟩ : ∃ n, bits .and .i64 y 65535 = n ∧ 0 ≤ n ∧ n ≤ 65535 := ⟨_, and65535 y, by omega, by omega⟩
  cases ha : atB xs p
  · go_enter Try.func4, Try.ntmps4
    go_wp2_with (go_at_call 21; refine (lawAwake _).mono ?_; rintro e w1 ⟨rfl, l1⟩)
    refine (cellStore _ xs _ _ _ (hx.le l1)).mono ?_
    rw [turns_store_no ha]
    rintro e w2 ⟨v2, rfl, f2⟩
    obtain ⟨a2, c2, rfl⟩ := f2.has.shapeN rfl
    go_wp2_with (first | (go_at_call 17; refine (lawNum _ _).mono ?_; rintro e _ ⟨rfl, rfl⟩) | (go_at_call 9; refine (cellLoad _ xs _ _ ((hx.le l1).le f2.le)).mono ?_; rw [turns_load_no ha]; rintro e _ ⟨rfl, rfl⟩))
    go_ret
    exact ⟨rfl, l1.trans f2.le⟩
  · obtain ⟨p0, p1, p2⟩ := atB_len ha
    go_enter Try.func4, Try.ntmps4
    go_wp2_with (go_at_call 21; refine (lawAwake _).mono ?_; rintro e w1 ⟨rfl, l1⟩)
    refine (cellStore _ xs _ _ _ (hx.le l1)).mono ?_
    rw [turns_store ha m0 (by omega)]
    rintro e w2 ⟨v2, rfl, f2⟩
    go_wp2_with (go_at_call 17; refine (lawNum _ _).mono ?_; rintro e _ ⟨rfl, rfl⟩)
    refine (cellSwap _ (xs.set p.toNat m) _ _ _ _ f2.has).mono ?_
    rw [turns_swap ha m0 (by omega) n0 (by omega)]
    rintro e w3 ⟨v3, rfl, f3⟩
    go_wp2_with fail
    refine (cellSwap _ (xs.set p.toNat m) _ _ _ _ (f2.has.le f3.le)).mono ?_
    rw [turns_swap_no ha m0 (by omega) n0 (by omega)]
    rintro e w4 ⟨v4, rfl, f4⟩
    go_wp2_with fail
    refine (cellAdd _ (xs.set p.toNat n) _ _ _ (f3.has.le f4.le)).mono ?_
    rw [turns_add ha n0 n1]
    rintro e w5 ⟨v5, rfl, f5⟩
    go_wp2_with fail
    refine (cellLoad _ (xs.set p.toNat (n + 7)) _ _ f5.has).mono ?_
    rw [turns_load ha (by omega) (by omega)]
    rintro e _ ⟨rfl, rfl⟩
    have k2 : Has w5 v2 (xs.set p.toNat m) := ((f2.has.le f3.le).le f4.le).le f5.le
    have k4 : Has w5 v4 (xs.set p.toNat m) := f4.has.le f5.le
    have l5 : Le w w5 := (((l1.trans f2.le).trans f3.le).trans f4.le).trans f5.le
    have k0 : Has w5 v xs := hx.le l5
    have k5 : Has w5 v5 (xs.set p.toNat (n + 7)) := f5.has
    clear f2 f3 f4 f5 l1 hx
    obtain ⟨L, hL⟩ : ∃ L, xs.length = L := ⟨_, rfl⟩
    rw [hL] at p1 p2 hr
    have k20 := k2
    obtain ⟨b0, o0, c0, rfl, hc0, q0⟩ := k0.openN hL (by omega)
    obtain ⟨b2, o2, c2, rfl, hc2, q2⟩ := k2.openN (n := L) (by rw [List.length_set]; exact hL) (by omega)
    obtain ⟨b5, o5, c5, rfl, hc5, q5⟩ := k5.openN (n := L) (by rw [List.length_set]; exact hL) (by omega)
    have HL : Hid (xs.length = L) := hL
    clear hL k0 k2 k5
    go_wp2_with fail
    clear hm hn
    go_loopw [26] (fun i wr => ∃ k d : Nat, k ≤ L ∧ i = .int .i64 k ∧ wr = w5.drewN d) (fun i _ => L - (intOf i).toNat)
    case atStart => exact ⟨0, 0, Nat.zero_le _, rfl, rfl⟩
    case round =>
      obtain ⟨k, d, hk, rfl, rfl⟩ := hrel
      by_cases hlt : k < L
      · have hlt' : (k : Int) < (L : Int) := by omega
        by_cases hkp : (k : Int) = p
        · have hne : ((k : Int) != p) = false := by simp [hkp]
          clear hkp q0 q2 q5
          go_wp2
          go_quiet (fail)
          go_wp2
          go_roundw
          case rel => exact ⟨k + 1, d + nq, by omega, by go_num, rfl⟩
          case measure => simp [intOf]; omega
        · have hne : ((k : Int) != p) = true := by simp [hkp]
          obtain ⟨z, hz⟩ : ∃ z, z = xs.getD k 0 := ⟨_, rfl⟩
          have r0 : w5.cell? ⟨b0, o0 + k, none⟩ = some (.int .i64 z) := by rw [hz]; exact q0 k hlt
          have r2 : w5.cell? ⟨b2, o2 + k, none⟩ = some (.int .i64 z) := by rw [hz, ← set_other p0 hkp]; exact q2 k hlt
          have r5 : w5.cell? ⟨b5, o5 + k, none⟩ = some (.int .i64 z) := by rw [hz, ← set_other p0 hkp]; exact q5 k hlt
          clear hkp q0 q2 q5 hz
          go_wp2
          go_quiet (fail)
          go_wp2
          go_roundw
          case rel => exact ⟨k + 1, d + nq, by omega, by go_num, rfl⟩
          case measure => simp [intOf]; omega
      · clear q0 q2 q5
        go_wp2_with (go_at_call 17; refine (lawNum _ _).mono ?_; rintro e _ ⟨rfl, rfl⟩)
        refine (lawSameL _ _ (xs.set p.toNat m) (xs.set p.toNat m) _ (k4.le (Le.drewN _ _)) (k20.le (Le.drewN _ _)) (by rw [List.length_set, HL.out]; omega)).mono ?_
        rw [show decide (xs.set p.toNat m = xs.set p.toNat m) = true from by simp]
        rintro e w6 ⟨rfl, m6⟩
        go_wp2_with (go_at_call 17; refine (lawNum _ _).mono ?_; rintro e _ ⟨rfl, rfl⟩)
        go_ret
        exact ⟨rfl, (l5.trans (Le.drewN _ _)).trans m6⟩

end Go.Proofs.Ytefmgibbbgckcaa
