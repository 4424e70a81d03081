/-
  THE WALKS over package store's mayRow, number, sum: what each answers, for every row and state. Condition: where numbers are summed, that the state may be a store; where memory is made, that the rows can be copied.
-/
import Derived.Test.YtnpejgendmgfaaaSts
namespace Go.Proofs.Ytnpejgendmgfaaa
open Go.RowKit

/-- May a row be a store's? -/
def rowMay1 (xs : List Int) : Bool :=
  match xs with
  | [] => true
  | [x] => decide (0 ≤ x) && decide (x ≤ 255)
  | _ => false

/-- A row's first number, or -1. -/
def firstS (xs : List Int) : Int := xs.headD (-1)

theorem rowMay1_cases {xs : List Int} (h : rowMay1 xs = true) : xs = [] ∨ ∃ x, xs = [x] ∧ 0 ≤ x ∧ x ≤ 255 := by
  match xs with
  | [] => exact .inl rfl
  | [x] => simp [rowMay1] at h; exact .inr ⟨x, rfl, h.1, h.2⟩
  | _ :: _ :: _ => simp [rowMay1] at h

set_option maxHeartbeats 400000 in
theorem storeMayRow (v : Value) (xs : List Int) (w : World) (hx : Has w v xs) :
    Calls Try.prog 46 #[v] w fun e w' => e = .returned (.bool (rowMay1 xs)) ∧ w = w' := by
  obtain ⟨a, cap, rfl, hc, _, hx⟩ := hx
  match xs, hc, hx with
  | [], hc, hx =>
    go_enter Try.func46, Try.ntmps46
    go_wp2
    go_ret
    exact ⟨rfl, rfl⟩
  | [x], hc, hx =>
    obtain ⟨b, off, rfl, hcell⟩ := hx (by simp)
    have c0 : w.cell? ⟨b, off, none⟩ = some (.int .i64 x) := hcell 0 (by simp)
    clear hx hcell
    by_cases h0 : 0 ≤ x
    all_goals
      go_enter Try.func46, Try.ntmps46
      go_wp2
      go_ret
      exact ⟨ret_bool (by simp [rowMay1, h0]; try omega), rfl⟩
  | x :: y :: zs, hc, hx =>
    have n0 : ¬ (((zs.length + 1 + 1 : Nat) : Int)) = 0 := by omega
    have n1 : ¬ (((zs.length + 1 + 1 : Nat) : Int)) = 1 := by omega
    simp only [List.length_cons] at hc hx ⊢
    go_enter Try.func46, Try.ntmps46
    go_wp2
    go_ret
    exact ⟨ret_bool (by simp [rowMay1]), rfl⟩

set_option maxHeartbeats 400000 in
theorem storeNumber (v : Value) (xs : List Int) (w : World) (hx : Has w v xs) :
    Calls Try.prog 49 #[v] w fun e w' => e = .returned (.int .i64 (firstS xs)) ∧ w = w' := by
  obtain ⟨a, cap, rfl, hc, _, hx⟩ := hx
  match xs, hc, hx with
  | [], hc, hx =>
    go_enter Try.func49, Try.ntmps49
    go_wp2
    go_ret
    exact ⟨rfl, rfl⟩
  | x :: zs, hc, hx =>
    obtain ⟨b, off, rfl, hcell⟩ := hx (by simp)
    have c0 : w.cell? ⟨b, off, none⟩ = some (.int .i64 x) := hcell 0 (by simp)
    simp only [List.length_cons] at hc ⊢
    have n0 : ¬ (((zs.length + 1 : Nat) : Int)) = 0 := by omega
    clear hx hcell
    go_enter Try.func49, Try.ntmps49
    go_wp2
    go_ret
    exact ⟨rfl, rfl⟩

theorem storeMay (v : Value) (s : St) (w : World) (hx : HasS w v s) :
    Calls Try.prog 45 #[v, .func (.func 46) #[] #[]] w fun e w' => e = .returned (.bool (s.all rowMay1)) ∧ Le w w' :=
  statesMay 46 rowMay1 (fun _ _ => by kernel_rfl) storeMayRow v s w hx

theorem sumTo_bounds {s : St} (h : s.all rowMay1 = true) : ∀ k, k ≤ 4 → 0 ≤ sumTo s k ∧ sumTo s k ≤ 255 * k
  | 0, _ => by simp [sumTo]
  | k + 1, hk => by
    have ih := sumTo_bounds h k (by omega)
    rcases rowMay1_cases (St.all_at h (k := k) (by omega)) with e | ⟨x, e, h0, h1⟩ <;> simp [sumTo, e] <;> omega

set_option maxHeartbeats 400000 in
theorem storeSum (v : Value) (s : St) (w : World) (hx : HasS w v s) (hm : s.all rowMay1 = true) :
    Calls Try.prog 48 #[v] w fun e w' => e = .returned (.int .i64 (sumTo s 4)) ∧ Le w w' := by
  obtain ⟨vs, rfl, hr⟩ := hx
  have hl := Le.alloc w (.cells (cells4 vs) 25)
  have hr1 := fun i hi => (hr i hi).le hl
  go_enter Try.func48, Try.ntmps48
  go_wp2
  go_loop [3, 10] (fun t i => ∃ k : Nat, k ≤ 4 ∧ i = .int .i64 k ∧ t = .int .i64 (sumTo s k)) (fun _ i => 4 - (intOf i).toNat)
  case atStart => exact ⟨0, by omega, rfl, rfl⟩
  case round =>
    obtain ⟨k, hk, rfl, rfl⟩ := hrel
    by_cases hlt : k < 4
    · have hix := run_row vs k hlt
      obtain ⟨b0, b1⟩ := sumTo_bounds hm k hk
      obtain ⟨a, cap, hv, hc, _, hcell⟩ := hr1 k hlt
      have hs : sumTo s (k + 1) = sumTo s k + (s.at k).sum := rfl
      rw [hv] at hix
      rcases rowMay1_cases (St.all_at hm hlt) with e | ⟨x, e, h0, h1⟩
      · rw [e] at hix hs
        simp at hs
        have HS : Hid (sumTo s (k + 1) = sumTo s k) := hs
        clear hs e hcell hc hv hm hr hr1
        go_wp2
        refine wp_loop_rounds 1 ?_
        rw [rounds_succ]
        go_wp2
        go_round
        case rel => exact ⟨k + 1, by omega, by go_num, by rw [HS.out]⟩
        case measure => simp [intOf]; omega
      · rw [e] at hix hs hcell
        obtain ⟨b, off, ha, hcl⟩ := hcell (by simp)
        clear hcell
        subst ha
        have c0 := hcl 0 (by simp)
        simp at hs c0
        have HS : Hid (sumTo s (k + 1) = sumTo s k + x) := hs
        clear hs e hcl hc hv hm hr hr1
        go_wp2
        refine wp_loop_rounds 2 ?_
        rw [rounds_succ]
        go_wp2
        rw [rounds_succ]
        go_wp2
        go_round
        case rel => exact ⟨k + 1, by omega, by go_num, by rw [HS.out]⟩
        case measure => simp [intOf]; omega
    · obtain rfl : k = 4 := by omega
      go_wp2
      go_ret
      exact ⟨rfl, hl⟩

theorem storeCopied (v : Value) (s : St) (w : World) (hx : HasS w v s) (hf : Fit s) :
    Calls Try.prog 33 #[v] w fun e w' => ∃ v', e = .returned v' ∧ OwnS w' w.heap.size v' s ∧ Le w w' :=
  (statesCopy v s w hx hf).mono fun _ _ ⟨us, he, ho, _, hl⟩ => ⟨stV us, he, ⟨us, rfl, ho⟩, hl⟩

end Go.Proofs.Ytnpejgendmgfaaa
