/-
  THE WALKS over slices.Equal, slices.EqualFunc at rows of a state, package states' Same and the document's SameState: are they the same numbers, for every two slices, every two states. No condition but that a slice's length is a number.
-/
import Derived.Test.YtphphppohagniaaStB
import Derived.Test.YtphphppohagniaaSameA
import Derived.Test.YtphphppohagniaaLater
namespace Go.Proofs.Ytphphppohagniaa
open Go.RowKit

set_option maxHeartbeats 400000 in
theorem slicesEqual (v u : Value) (xs ys : List Int) (w : World) (hx : Has w v xs) (hy : Has w u ys) (hm : xs.length ≤ 9223372036854775807) :
    Calls Try.prog 34 #[v, u] w fun e w' => e = .returned (.bool (decide (xs = ys))) ∧ ∃ n, w' = w.drewN n := by
  obtain ⟨a, cap, rfl, hc, _, hx⟩ := hx
  obtain ⟨c, cap', rfl, hc', _, hy⟩ := hy
  by_cases hl : xs.length = ys.length
  · by_cases h0 : 0 < xs.length
    · obtain ⟨b, off, rfl, hcell⟩ := hx h0
      obtain ⟨b', off', rfl, hcell'⟩ := hy (by omega)
      have HL : Hid (xs.length = ys.length) := hl
      obtain ⟨L, hL⟩ : ∃ L, L = xs.length := ⟨_, rfl⟩
      rw [← hL] at hm ⊢
      have hL' : ys.length = L := by omega
      rw [hL']
      have HLx : Hid (xs.length = L) := hL.symm
      have HLy : Hid (ys.length = L) := hL'
      rw [← hL] at hcell h0 hc
      rw [hL'] at hcell' hc'
      clear hl hx hy hL hL'
      go_enter Try.func34, Try.ntmps34
      go_wp2
      go_loopw [13] (fun i wr => ∃ k n : Nat, k ≤ L ∧ i = .int .i64 k ∧ Hid (xs.take k = ys.take k) ∧ wr = w.drewN n) (fun i _ => L - (intOf i).toNat)
      case atStart => exact ⟨0, 0, Nat.zero_le _, rfl, rfl, rfl⟩
      case round =>
        obtain ⟨k, n, hk, rfl, HT, rfl⟩ := hrel
        by_cases hlt : k < L
        · obtain ⟨x, hxk⟩ : ∃ x, x = xs.getD k 0 := ⟨_, rfl⟩
          have hck : w.cell? ⟨b, off + k, none⟩ = some (.int .i64 x) := by rw [hxk]; exact hcell k hlt
          obtain ⟨y, hyk⟩ : ∃ y, y = ys.getD k 0 := ⟨_, rfl⟩
          have hck' : w.cell? ⟨b', off' + k, none⟩ = some (.int .i64 y) := by rw [hyk]; exact hcell' k hlt
          have HX : Hid (x = xs.getD k 0) := hxk
          have HY : Hid (y = ys.getD k 0) := hyk
          have hlt' : (k : Int) < (L : Int) := by omega
          clear hxk hyk hcell hcell'
          by_cases hxy : x = y
          · subst hxy
            go_wp2
            go_quiet (fail)
            go_wp2
            go_roundw
            case rel => exact ⟨k + 1, n + nq, by omega, by go_num, take_same (by have := HLx.out; omega) (by have := HLy.out; omega) HT.out (by rw [← HX.out, ← HY.out]), rfl⟩
            case measure => simp [intOf]; omega
          · have hne : (x != y) = true := by simp [hxy]
            have HN : Hid (¬ x = y) := hxy
            clear hxy
            go_wp2
            go_quiet (fail)
            go_wp2
            go_ret
            exact ⟨ret_bool (by have := ne_of_at (k := k) (xs := xs) (ys := ys) (by rw [← HX.out, ← HY.out]; exact HN.out); simp [this]), n + nq, World.drewN_drewN _ _ _⟩
        · go_wp2
          go_ret
          refine ⟨ret_bool ?_, _, rfl⟩
          have h1 := HLx.out
          have h2 := HLy.out
          have := HT.out
          rw [List.take_of_length_le (by omega), List.take_of_length_le (by omega)] at this
          simp [this]
    · have hxn : xs = [] := by cases xs with | nil => rfl | cons _ _ => simp at h0
      have hyn : ys = [] := by cases ys with | nil => rfl | cons _ _ => subst hxn; simp at hl
      subst hxn hyn
      go_enter Try.func34, Try.ntmps34
      go_wp2
      refine wp_loop_rounds 1 ?_
      rw [rounds_succ]
      go_wp2
      go_ret
      exact ⟨ret_bool (by simp), 0, rfl⟩
  · have hne : (((xs.length : Int)) != (ys.length : Int)) = true := by simp; omega
    have HN : Hid (¬ xs = ys) := fun h => hl (by rw [h])
    clear hl
    go_enter Try.func34, Try.ntmps34
    go_wp2
    go_ret
    exact ⟨ret_bool (by have := HN.out; simp [this]), 0, rfl⟩

theorem slicesEqualI (v u : Value) (xs ys : List Int) (w : World) (hx : Has w v xs) (hy : Has w u ys) (hm : xs.length * 8 ≤ 140737488351232) :
    Calls Try.prog 34 #[v, u] w fun e w' => e = .returned (.bool (decide (xs = ys))) ∧ Le w w' :=
  (slicesEqual v u xs ys w hx hy (by omega)).mono fun _ _ ⟨he, n, hw⟩ => ⟨he, hw ▸ Le.drewN _ n⟩

set_option maxHeartbeats 400000 in
theorem slicesEqualRows (g h : Nat) (vs us : Nat → Sl) (s t : St) (w : World) (hb1 : Box w g (cells4 vs) 25) (hb2 : Box w h (cells4 us) 25) (hr : ∀ i, i < 4 → Has w (slV (vs i)) (s.at i)) (hr' : ∀ i, i < 4 → Has w (slV (us i)) (t.at i)) (hf : Fit s) :
    Calls Try.prog 33 #[.slice (some ⟨g, 0, none⟩) 4 4, .slice (some ⟨h, 0, none⟩) 4 4, .func (.func 34) #[] #[]] w fun e w' => e = .returned (.bool (decide (s = t))) ∧ Le w w' := by
  have hc : ∀ (u u' : Value) (w : World), (callFunc 34 #[u, u']).run Try.prog w = .ok (.enter 34 #[u, u']) w := fun _ _ _ => by kernel_rfl
  go_enter Try.func33, Try.ntmps33
  go_wp2
  go_loopw [17] (fun i wr => ∃ k : Nat, k ≤ 4 ∧ i = .int .i64 k ∧ Hid (∀ j, j < k → s.at j = t.at j) ∧ Le w wr) (fun i _ => 4 - (intOf i).toNat)
  case atStart => exact ⟨0, by omega, rfl, (fun j hj => by omega), Le.refl _⟩
  case round =>
    obtain ⟨k, hk, rfl, HS, hle⟩ := hrel
    by_cases hlt : k < 4
    · have c1 : wr.cell? ⟨g, k, none⟩ = some (slV (vs k)) := ((hb1.le hle).cell k).trans (cells4_at vs hlt)
      have c2 : wr.cell? ⟨h, k, none⟩ = some (slV (us k)) := ((hb2.le hle).cell k).trans (cells4_at us hlt)
      have hsm := slicesEqualI (slV (vs k)) (slV (us k)) (s.at k) (t.at k) wr ((hr k hlt).le hle) ((hr' k hlt).le hle) (hf k hlt)
      have hk1 : (k : Int) < 4 := by omega
      by_cases he : s.at k = t.at k
      · rw [show decide (s.at k = t.at k) = true by simp [he]] at hsm
        have HE : Hid (s.at k = t.at k) := he
        clear he hb1 hb2
        go_wp2_with fail
        refine hsm.mono ?_
        rintro e w1 ⟨rfl, l1⟩
        go_wp2
        go_roundw
        case rel => exact ⟨k + 1, by omega, by go_num, (fun j hj => by rcases Nat.lt_or_eq_of_le (Nat.le_of_lt_succ hj) with h | h; exact HS.out j h; exact h ▸ HE.out), hle.trans l1⟩
        case measure => simp [intOf]; omega
      · rw [show decide (s.at k = t.at k) = false by simp [he]] at hsm
        have HE : Hid (¬ s = t) := fun h => he (by rw [h])
        clear he hb1 hb2
        go_wp2_with fail
        refine hsm.mono ?_
        rintro e w1 ⟨rfl, l1⟩
        go_wp2
        go_ret
        exact ⟨ret_bool (by have := HE.out; simp [this]), hle.trans l1⟩
    · obtain rfl : k = 4 := by omega
      go_wp2
      go_ret
      exact ⟨ret_bool (by have := St.ext_at HS.out; simp [this]), hle⟩

set_option maxHeartbeats 400000 in
theorem statesSame (v u : Value) (s t : St) (w : World) (hx : HasS w v s) (hy : HasS w u t) (hf : Fit s) :
    Calls Try.prog 28 #[v, u] w fun e w' => e = .returned (.bool (decide (s = t))) ∧ Le w w' := by
  obtain ⟨vs, rfl, hr⟩ := hx
  obtain ⟨us, rfl, hr'⟩ := hy
  have hb1 := (Box.new w (cells4 vs) 25).le (Le.alloc _ (.cells (cells4 us) 25))
  have hb2 := Box.new (w.alloc (.cells (cells4 vs) 25)) (cells4 us) 25
  rw [World.size_alloc] at hb2
  have hl := (Le.alloc w (.cells (cells4 vs) 25)).trans (Le.alloc _ (.cells (cells4 us) 25))
  have hsm := fun X : Later ((w.alloc (.cells (cells4 vs) 25)).alloc (.cells (cells4 us) 25)) => slicesEqualRows w.heap.size (w.heap.size + 1) vs us s t X.w (hb1.le X.le) (hb2.le X.le) (fun i hi => (hr i hi).le (hl.trans X.le)) (fun i hi => (hr' i hi).le (hl.trans X.le)) hf
  go_enter Try.func28, Try.ntmps28
  go_wp2_with fail
  refine wp_region_later (by kernel_rfl) (by kernel_rfl) ?_
  repeat (go_big_quiet_step (first | (go_at_call 33; exact Calls.later (hsm _))))
  refine wpQuiet_nil ?_
  rintro _ ⟨x, rfl⟩
  go_wp2
  go_ret
  exact ⟨rfl, hl.trans x.le⟩

end Go.Proofs.Ytphphppohagniaa
