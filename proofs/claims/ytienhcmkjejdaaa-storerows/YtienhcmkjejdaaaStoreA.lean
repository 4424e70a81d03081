/-
  THE WALKS over package store's mayRow, number, may, sum, copied: what each answers, for every row and state. Condition: where numbers are summed, that the state may be a store; where memory is made, that the rows can be copied.
-/
import Derived.Test.YtienhcmkjejdaaaStB
import Derived.Test.YtienhcmkjejdaaaOpMay
namespace Go.Proofs.Ytienhcmkjejdaaa
open Go.RowKit

/-- May a row be a store's? -/
def rowMay1 (xs : List Int) : Bool :=
  match xs with
  | [] => true
  | [x] => decide (0 ≤ x) && decide (x ≤ 255)
  | _ => false

/-- Is it so of each row? -/
def St.all (p : List Int → Bool) (s : St) : Bool := p s.r0 && p s.r1 && p s.r2 && p s.r3

theorem St.all_of {p : List Int → Bool} {s : St} (h : ∀ j, j < 4 → p (s.at j) = true) : s.all p = true := by
  have h0 := h 0 (by omega)
  have h1 := h 1 (by omega)
  have h2 := h 2 (by omega)
  have h3 := h 3 (by omega)
  simp only [St.at] at h0 h1 h2 h3
  simp [St.all, h0, h1, h2, h3]

theorem St.all_not {p : List Int → Bool} {s : St} {k : Nat} (hk : k < 4) (h : p (s.at k) = false) : s.all p = false := by
  rcases four hk with rfl | rfl | rfl | rfl <;> simp only [St.at] at h <;> simp [St.all, h]

theorem St.all_at {p : List Int → Bool} {s : St} (h : s.all p = true) {k : Nat} (hk : k < 4) : p (s.at k) = true := by
  simp [St.all] at h
  rcases four hk with rfl | rfl | rfl | rfl <;> simp [St.at, h]

/-- A row's first number, or -1. -/
def firstS (xs : List Int) : Int := xs.headD (-1)

theorem rowMay1_cases {xs : List Int} (h : rowMay1 xs = true) : xs = [] ∨ ∃ x, xs = [x] ∧ 0 ≤ x ∧ x ≤ 255 := by
  match xs with
  | [] => exact .inl rfl
  | [x] => simp [rowMay1] at h; exact .inr ⟨x, rfl, h.1, h.2⟩
  | _ :: _ :: _ => simp [rowMay1] at h

set_option maxHeartbeats 400000 in
theorem storeMayRow (v : Value) (xs : List Int) (w : World) (hx : Has w v xs) :
    Calls Try.prog 29 #[v] w fun e w' => e = .returned (.bool (rowMay1 xs)) ∧ w = w' := by
  obtain ⟨a, cap, rfl, hc, _, hx⟩ := hx
  match xs, hc, hx with
  | [], hc, hx =>
    go_enter Try.func29, Try.ntmps29
    go_wp2
    go_ret
    exact ⟨rfl, rfl⟩
  | [x], hc, hx =>
    obtain ⟨b, off, rfl, hcell⟩ := hx (by simp)
    have c0 : w.cell? ⟨b, off, none⟩ = some (.int .i64 x) := hcell 0 (by simp)
    clear hx hcell
    by_cases h0 : 0 ≤ x
    all_goals
      go_enter Try.func29, Try.ntmps29
      go_wp2
      go_ret
      exact ⟨ret_bool (by simp [rowMay1, h0]; try omega), rfl⟩
  | x :: y :: zs, hc, hx =>
    have n0 : ¬ (((zs.length + 1 + 1 : Nat) : Int)) = 0 := by omega
    have n1 : ¬ (((zs.length + 1 + 1 : Nat) : Int)) = 1 := by omega
    simp only [List.length_cons] at hc hx ⊢
    go_enter Try.func29, Try.ntmps29
    go_wp2
    go_ret
    exact ⟨ret_bool (by simp [rowMay1]), rfl⟩

set_option maxHeartbeats 400000 in
theorem storeNumber (v : Value) (xs : List Int) (w : World) (hx : Has w v xs) :
    Calls Try.prog 20 #[v] w fun e w' => e = .returned (.int .i64 (firstS xs)) ∧ w = w' := by
  obtain ⟨a, cap, rfl, hc, _, hx⟩ := hx
  match xs, hc, hx with
  | [], hc, hx =>
    go_enter Try.func20, Try.ntmps20
    go_wp2
    go_ret
    exact ⟨rfl, rfl⟩
  | x :: zs, hc, hx =>
    obtain ⟨b, off, rfl, hcell⟩ := hx (by simp)
    have c0 : w.cell? ⟨b, off, none⟩ = some (.int .i64 x) := hcell 0 (by simp)
    simp only [List.length_cons] at hc ⊢
    have n0 : ¬ (((zs.length + 1 : Nat) : Int)) = 0 := by omega
    clear hx hcell
    go_enter Try.func20, Try.ntmps20
    go_wp2
    go_ret
    exact ⟨rfl, rfl⟩

/-- A row of a state's value, read at an index. -/
theorem run_row (vs : Nat → Sl) (k : Nat) (hk : k < 4) (w : World) : (Instr.index 23 (.agg (cells4 vs)) (.int .i64 k)).run Try.prog w = .ok (slV (vs k)) w := by
  rcases four hk with rfl | rfl | rfl | rfl <;> simp [Instr.index, go_sem]

set_option maxHeartbeats 400000 in
theorem storeMay (v : Value) (s : St) (w : World) (hx : HasS w v s) :
    Calls Try.prog 16 #[v] w fun e w' => e = .returned (.bool (s.all rowMay1)) ∧ Le w w' := by
  obtain ⟨vs, rfl, hr⟩ := hx
  have hl := Le.alloc w (.cells (cells4 vs) 25)
  have hr1 := fun i hi => (hr i hi).le hl
  go_enter Try.func16, Try.ntmps16
  go_wp2
  go_loop [7] (fun i => ∃ k : Nat, k ≤ 4 ∧ i = .int .i64 k ∧ Hid (∀ j, j < k → rowMay1 (s.at j) = true)) (fun i => 4 - (intOf i).toNat)
  case atStart => exact ⟨0, by omega, rfl, fun j hj => by omega⟩
  case round =>
    obtain ⟨k, hk, rfl, HA⟩ := hrel
    by_cases hlt : k < 4
    · have hm := storeMayRow (slV (vs k)) (s.at k) _ (hr1 k hlt)
      have hix := run_row vs k hlt
      cases hh : rowMay1 (s.at k)
      · rw [hh] at hm
        go_wp2_with fail
        refine hm.mono ?_
        rintro e w1 ⟨rfl, rfl⟩
        go_wp2
        go_ret
        exact ⟨ret_bool (St.all_not hlt hh).symm, hl⟩
      · rw [hh] at hm
        go_wp2_with fail
        refine hm.mono ?_
        rintro e w1 ⟨rfl, rfl⟩
        go_wp2
        go_round
        case rel => exact ⟨k + 1, by omega, by go_num, fun j hj => by rcases Nat.lt_or_eq_of_le (Nat.le_of_lt_succ hj) with h | h; exact HA.out j h; exact h ▸ hh⟩
        case measure => simp [intOf]; omega
    · obtain rfl : k = 4 := by omega
      go_wp2
      go_ret
      exact ⟨ret_bool (St.all_of HA.out).symm, hl⟩

/-- The sum of the numbers of the rows below k. -/
def sumTo (s : St) : Nat → Int
  | 0 => 0
  | k + 1 => sumTo s k + (s.at k).sum

theorem sumTo_bounds {s : St} (h : s.all rowMay1 = true) : ∀ k, k ≤ 4 → 0 ≤ sumTo s k ∧ sumTo s k ≤ 255 * k
  | 0, _ => by simp [sumTo]
  | k + 1, hk => by
    have ih := sumTo_bounds h k (by omega)
    rcases rowMay1_cases (St.all_at h (k := k) (by omega)) with e | ⟨x, e, h0, h1⟩ <;> simp [sumTo, e] <;> omega

set_option maxHeartbeats 400000 in
theorem storeSum (v : Value) (s : St) (w : World) (hx : HasS w v s) (hm : s.all rowMay1 = true) :
    Calls Try.prog 19 #[v] w fun e w' => e = .returned (.int .i64 (sumTo s 4)) ∧ Le w w' := by
  obtain ⟨vs, rfl, hr⟩ := hx
  have hl := Le.alloc w (.cells (cells4 vs) 25)
  have hr1 := fun i hi => (hr i hi).le hl
  go_enter Try.func19, Try.ntmps19
  go_wp2
  go_loop [3, 10] (fun t i => ∃ k : Nat, k ≤ 4 ∧ i = .int .i64 k ∧ t = .int .i64 (sumTo s k)) (fun _ i => 4 - (intOf i).toNat)
  case atStart => exact ⟨0, by omega, rfl, rfl⟩
  case round =>
    obtain ⟨k, hk, rfl, rfl⟩ := hrel
    by_cases hlt : k < 4
    · have hix := run_row vs k hlt
      obtain ⟨b0, b1⟩ := sumTo_bounds hm k hk
      obtain ⟨a, cap, hv, hc, _, hcell⟩ := hr1 k hlt
      have hs : sumTo s (k + 1) = sumTo s k + (s.at k).sum := rfl
      rw [hv] at hix
      rcases rowMay1_cases (St.all_at hm hlt) with e | ⟨x, e, h0, h1⟩
      · rw [e] at hix hs
        simp at hs
        have HS : Hid (sumTo s (k + 1) = sumTo s k) := hs
        clear hs e hcell hc hv hm hr hr1
        go_wp2
        refine wp_loop_rounds 1 ?_
        rw [rounds_succ]
        go_wp2
        go_round
        case rel => exact ⟨k + 1, by omega, by go_num, by rw [HS.out]⟩
        case measure => simp [intOf]; omega
      · rw [e] at hix hs hcell
        obtain ⟨b, off, ha, hcl⟩ := hcell (by simp)
        clear hcell
        subst ha
        have c0 := hcl 0 (by simp)
        simp at hs c0
        have HS : Hid (sumTo s (k + 1) = sumTo s k + x) := hs
        clear hs e hcl hc hv hm hr hr1
        go_wp2
        refine wp_loop_rounds 2 ?_
        rw [rounds_succ]
        go_wp2
        rw [rounds_succ]
        go_wp2
        go_round
        case rel => exact ⟨k + 1, by omega, by go_num, by rw [HS.out]⟩
        case measure => simp [intOf]; omega
    · obtain rfl : k = 4 := by omega
      go_wp2
      go_ret
      exact ⟨rfl, hl⟩

set_option maxHeartbeats 400000 in
theorem storeCopied (v : Value) (s : St) (w : World) (hx : HasS w v s) (hf : Fit s) :
    Calls Try.prog 18 #[v] w fun e w' => ∃ v', e = .returned v' ∧ OwnS w' w.heap.size v' s ∧ Le w w' := by
  obtain ⟨vs, rfl, hr⟩ := hx
  go_enter Try.func18, Try.ntmps18
  go_wp2
  go_loopw [8] (fun i wr => ∃ (k : Nat) (us : Nat → Sl), k ≤ 4 ∧ i = .int .i64 k ∧ Cp w s vs wr k us) (fun i _ => 4 - (intOf i).toNat)
  case atStart => exact ⟨0, _, by omega, rfl, Cp.start w s vs⟩
  case round =>
    obtain ⟨k, us, hk, rfl, hcp⟩ := hrel
    by_cases hlt : k < 4
    · have hix := run_row vs k hlt
      have hw1 : Has wr (slV (vs k)) (s.at k) := (hr k hlt).le hcp.le
      have hfk := hf k hlt
      have hrow : ∀ g, (Value.slice none 0 0).ownBlock = some g → wr.heap.size ≤ g := by intro g hg; cases hg
      go_wp2_with (at_builtin; refine wp_append_ints rfl _ _ rfl wr.heap.size _ _ [] (s.at k) rfl rfl (Own.nil _ _) hw1 (by simp; omega) (by simp) ?_; intro v' w2 hown hgrow; rw [List.nil_append] at hown; have l2 : Le wr w2 := Below.grown (Le.refl wr) hgrow (by simp) hrow; have c3 := (hcp.filled.le l2).cell k; rw [cells4_at us hlt] at c3; have f3 := (hcp.filled.le l2).frozen k; obtain ⟨q, rfl⟩ := hown.has.sl)
      go_roundw
      case rel => exact ⟨k + 1, _, by omega, by go_num, hcp.next hlt (Le.refl wr) hgrow hrow (hown.base hcp.le.size)⟩
      case measure => simp [intOf]; omega
    · obtain rfl : k = 4 := by omega
      obtain ⟨p0, p1, p2, p3, _, _, _, _⟩ := hcp.filled.st
      obtain ⟨b0, b1, b2, b3, f0, f1, f2, f3⟩ := hcp.result.st
      go_wp2
      refine bodyPost_ret (v := stV us) (by simp [results, Try.results18, go_sem, b0, b1, b2, b3]) rfl ⟨_, rfl, ⟨us, rfl, fun i hi => ?_⟩, ?_⟩
      · exact ((((hcp.rows i hi).setBox hcp.result (by decide)).setBox (hcp.result.set _ _) (by decide)).setBox ((hcp.result.set _ _).set _ _) (by decide)).setBox (((hcp.result.set _ _).set _ _).set _ _) (by decide)
      · exact (((Below.setCell hcp.le (by show w.heap.size ≤ w.heap.size + 1; omega) _).setCell (by show w.heap.size ≤ w.heap.size + 1; omega) _).setCell (by show w.heap.size ≤ w.heap.size + 1; omega) _).setCell (by show w.heap.size ≤ w.heap.size + 1; omega) _

end Go.Proofs.Ytienhcmkjejdaaa
