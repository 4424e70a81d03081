/-
  THE WALKS over package cell's small functions (mayHold, may, mayAt): what each answers for every slice of numbers. No condition but that the slice can be read.
-/
import Derived.Test.YtefmgibbbgckcaaBase
import Derived.WalkSpells
import Derived.WalkLawsBesides
namespace Go.Proofs.Ytefmgibbbgckcaa
open Go.RowKit

theorem ret_bool {a b : Bool} (h : a = b) : Ending.returned (.bool a) = .returned (.bool b) := by rw [h]

set_option maxHeartbeats 400000 in
theorem cellMayHold (x : Int) (w : World) :
    Calls Try.prog 25 #[.int .i64 x] w fun e w' => e = .returned (.bool (holdB x)) ∧ w = w' := by
  by_cases h0 : 0 ≤ x
  · go_enter Try.func25, Try.ntmps25
    go_wp2
    go_ret
    exact ⟨ret_bool (by simp [holdB, h0]), rfl⟩
  · go_enter Try.func25, Try.ntmps25
    go_wp2
    go_ret
    exact ⟨ret_bool (by simp [holdB]; omega), rfl⟩

theorem all_take {xs : List Int} {k : Nat} (h : k < xs.length) : (xs.take (k + 1)).all holdB = ((xs.take k).all holdB && holdB (xs.getD k 0)) := by
  rw [List.take_succ_eq_append_getElem h, List.all_append]
  simp [List.getD, h]

theorem mayB_of_bad {xs : List Int} {k : Nat} (h : k < xs.length) (hb : holdB (xs.getD k 0) = false) : mayB xs = false := by
  have : xs.all holdB = false := by
    rw [List.all_eq_false]
    exact ⟨xs[k], List.getElem_mem h, by simpa [List.getD, h] using hb⟩
  simp [mayB, this]

set_option maxHeartbeats 400000 in
theorem cellMay (v : Value) (xs : List Int) (w : World) (hx : Has w v xs) :
    Calls Try.prog 30 #[v] w fun e w' => e = .returned (.bool (mayB xs)) ∧ w = w' := by
  obtain ⟨a, cap, rfl, hc, _, hx⟩ := hx
  by_cases hl : 16 < xs.length
  · go_enter Try.func30, Try.ntmps30
    go_wp2
    go_ret
    exact ⟨ret_bool (by simp [mayB]; omega), rfl⟩
  · by_cases h0 : 0 < xs.length
    · obtain ⟨b, off, rfl, hcell⟩ := hx h0
      go_enter Try.func30, Try.ntmps30
      go_wp2
      go_loop [10] (fun i => ∃ k : Nat, k ≤ xs.length ∧ i = .int .i64 k ∧ (xs.take k).all holdB = true) (fun i => xs.length - (intOf i).toNat)
      case atStart => exact ⟨0, Nat.zero_le _, rfl, rfl⟩
      case round =>
        obtain ⟨k, hk, rfl, hall⟩ := hrel
        have HA : Hid ((xs.take k).all holdB = true) := hall
        clear hall
        by_cases hlt : k < xs.length
        · obtain ⟨x, hxk⟩ : ∃ x, x = xs.getD k 0 := ⟨_, rfl⟩
          have hck : w.cell? ⟨b, off + k, none⟩ = some (.int .i64 x) := by rw [hxk]; exact hcell k hlt
          have HX : Hid (x = xs.getD k 0) := hxk
          clear hxk hcell hx
          cases hh : holdB x
          · go_wp2_with (go_at_call 25; refine (cellMayHold _ _).mono ?_; rintro e w' ⟨rfl, rfl⟩)
            go_ret
            exact ⟨ret_bool (mayB_of_bad hlt (HX.out ▸ hh)).symm, rfl⟩
          · go_wp2_with (go_at_call 25; refine (cellMayHold _ _).mono ?_; rintro e w' ⟨rfl, rfl⟩)
            go_round
            case rel => exact ⟨k + 1, by omega, by go_num, by rw [all_take hlt, HA.out, ← HX.out, hh]; rfl⟩
            case measure => simp [intOf]; omega
        · go_wp2
          go_ret
          exact ⟨ret_bool (by have := HA.out; rw [List.take_of_length_le (by omega)] at this; simp [mayB, this]; omega), rfl⟩
    · have hnil : xs = [] := by cases xs with | nil => rfl | cons _ _ => simp at h0
      subst hnil
      go_enter Try.func30, Try.ntmps30
      go_wp2
      refine wp_loop_rounds 1 ?_
      rw [rounds_succ]
      go_wp2
      go_ret
      exact ⟨ret_bool (by simp [mayB]), rfl⟩

set_option maxHeartbeats 400000 in
theorem cellMayAt (v : Value) (xs : List Int) (p : Int) (w : World) (hx : Has w v xs) :
    Calls Try.prog 23 #[v, .int .i64 p] w fun e w' => e = .returned (.bool (atB xs p)) ∧ w = w' := by
  obtain ⟨a, cap, rfl⟩ := hx.shape
  cases hm : mayB xs
  · go_enter Try.func23, Try.ntmps23
    go_wp2_with (go_at_call 30; refine (cellMay _ xs _ hx).mono ?_; rintro e w' ⟨rfl, rfl⟩)
    go_ret
    exact ⟨ret_bool (by simp [atB, hm]), rfl⟩
  · by_cases h0 : 0 ≤ p
    all_goals
      go_enter Try.func23, Try.ntmps23
      go_wp2_with (go_at_call 30; refine (cellMay _ xs _ hx).mono ?_; rintro e w' ⟨rfl, rfl⟩)
      go_ret
      exact ⟨ret_bool (by simp [atB, hm]; try omega), rfl⟩

end Go.Proofs.Ytefmgibbbgckcaa
