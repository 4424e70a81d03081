/-
  THE WALKS over package states' May, Copy, Count: what each answers, for every state. Condition: where memory is made, that the rows can be copied; where numbers are counted, that there are not too many for an int.
-/
import Derived.Test.YtnpejgendmgfaaaObj
namespace Go.Proofs.Ytnpejgendmgfaaa
open Go.RowKit

set_option maxHeartbeats 400000 in
theorem listsAllRows (f : Nat) (p : List Int → Bool) (hc : ∀ (u : Value) (w : World), (callFunc f #[u]).run Try.prog w = .ok (.enter f #[u]) w) (hp : ∀ v xs w, Has w v xs → Calls Try.prog f #[v] w fun e w' => e = .returned (.bool (p xs)) ∧ w = w') (g : Nat) (vs : Nat → Sl) (s : St) (w : World) (hb : Box w g (cells4 vs) 25) (hr : ∀ i, i < 4 → Has w (slV (vs i)) (s.at i)) :
    Calls Try.prog 57 #[.slice (some ⟨g, 0, none⟩) 4 4, .func (.func f) #[] #[]] w fun e w' => e = .returned (.bool (s.all p)) ∧ w = w' := by
  go_enter Try.func57, Try.ntmps57
  go_wp2
  go_loop [9] (fun i => ∃ k : Nat, k ≤ 4 ∧ i = .int .i64 k ∧ Hid (∀ j, j < k → p (s.at j) = true)) (fun i => 4 - (intOf i).toNat)
  case atStart => exact ⟨0, by omega, rfl, fun j hj => by omega⟩
  case round =>
    obtain ⟨k, hk, rfl, HA⟩ := hrel
    by_cases hlt : k < 4
    · have hm := hp (slV (vs k)) (s.at k) _ (hr k hlt)
      have c1 : w.cell? ⟨g, k, none⟩ = some (slV (vs k)) := (hb.cell k).trans (cells4_at vs hlt)
      cases hh : p (s.at k)
      · rw [hh] at hm
        go_wp2_with fail
        refine hm.mono ?_
        rintro e w1 ⟨rfl, rfl⟩
        go_wp2
        go_ret
        exact ⟨ret_bool (St.all_not hlt hh).symm, rfl⟩
      · rw [hh] at hm
        go_wp2_with fail
        refine hm.mono ?_
        rintro e w1 ⟨rfl, rfl⟩
        go_wp2
        go_round
        case rel => exact ⟨k + 1, by omega, by go_num, fun j hj => by rcases Nat.lt_or_eq_of_le (Nat.le_of_lt_succ hj) with h | h; exact HA.out j h; exact h ▸ hh⟩
        case measure => simp [intOf]; omega
    · obtain rfl : k = 4 := by omega
      go_wp2
      go_ret
      exact ⟨ret_bool (St.all_of HA.out).symm, rfl⟩

theorem statesMay (f : Nat) (p : List Int → Bool) (hc : ∀ (u : Value) (w : World), (callFunc f #[u]).run Try.prog w = .ok (.enter f #[u]) w) (hp : ∀ v xs w, Has w v xs → Calls Try.prog f #[v] w fun e w' => e = .returned (.bool (p xs)) ∧ w = w') (v : Value) (s : St) (w : World) (hx : HasS w v s) :
    Calls Try.prog 45 #[v, .func (.func f) #[] #[]] w fun e w' => e = .returned (.bool (s.all p)) ∧ Le w w' := by
  obtain ⟨vs, rfl, hr⟩ := hx
  have hl := Le.alloc w (.cells (cells4 vs) 25)
  have hm := listsAllRows f p hc hp _ vs s _ (Box.new w (cells4 vs) 25) (fun i hi => (hr i hi).le hl)
  go_enter Try.func45, Try.ntmps45
  go_wp2_with (go_at_call 57; refine hm.mono ?_; rintro e _ ⟨rfl, rfl⟩)
  go_ret
  exact ⟨rfl, hl⟩

theorem listsCopyI (v : Value) (xs : List Int) (w : World) (hx : Has w v xs) (hf : xs.length * 8 ≤ 140737488351232) :
    Calls Try.prog 37 #[v] w fun e w' => ∃ q : Sl, e = .returned (slV q) ∧ Own w' w.heap.size (slV q) xs ∧ w.grownBy w' none := by
  go_enter Try.func37, Try.ntmps37
  go_wp2_with (at_builtin; refine wp_append_ints rfl _ _ rfl w.heap.size _ _ [] xs rfl rfl (Own.nil _ _) hx (by simp; omega) (by simp) ?_; intro v' w2 hown hgrow; rw [List.nil_append] at hown; obtain ⟨q, rfl⟩ := hown.has.sl)
  go_ret
  exact ⟨q, rfl, hown, hgrow⟩

set_option maxHeartbeats 400000 in
theorem statesCopy (v : Value) (s : St) (w : World) (hx : HasS w v s) (hf : Fit s) :
    Calls Try.prog 33 #[v] w fun e w' => ∃ us : Nat → Sl, e = .returned (stV us) ∧ (∀ i, i < 4 → Own w' w.heap.size (slV (us i)) (s.at i)) ∧ Apart us 4 ∧ Le w w' := by
  obtain ⟨vs, rfl, hr⟩ := hx
  go_enter Try.func33, Try.ntmps33
  go_wp2
  go_loopw [8] (fun i wr => ∃ (k : Nat) (us : Nat → Sl), k ≤ 4 ∧ i = .int .i64 k ∧ Cp w s vs wr k us) (fun i _ => 4 - (intOf i).toNat)
  case atStart => exact ⟨0, _, by omega, rfl, Cp.start w s vs⟩
  case round =>
    obtain ⟨k, us, hk, rfl, hcp⟩ := hrel
    by_cases hlt : k < 4
    · have hix := run_row vs k hlt
      have hw1 : Has wr (slV (vs k)) (s.at k) := (hr k hlt).le hcp.le
      have hfk := hf k hlt
      have hrow : ∀ g, (none : Option Nat) = some g → wr.heap.size ≤ g := by intro g hg; cases hg
      go_wp2_with (go_at_call 37; refine (listsCopyI _ (s.at k) _ hw1 hfk).mono ?_; rintro e w2 ⟨q, rfl, hown, hgrow⟩; have l2 : Le wr w2 := Below.grown (Le.refl wr) hgrow (by simp) hrow; have c3 := (hcp.filled.le l2).cell k; rw [cells4_at us hlt] at c3; have f3 := (hcp.filled.le l2).frozen k)
      go_roundw
      case rel => exact ⟨k + 1, _, by omega, by go_num, hcp.next hlt (Le.refl wr) hgrow hrow hown⟩
      case measure => simp [intOf]; omega
    · obtain rfl : k = 4 := by omega
      obtain ⟨p0, p1, p2, p3, _, _, _, _⟩ := hcp.filled.st
      obtain ⟨b0, b1, b2, b3, f0, f1, f2, f3⟩ := hcp.result.st
      go_wp2
      refine bodyPost_ret (v := stV us) (by simp [results, Try.results33, go_sem, b0, b1, b2, b3]) rfl ⟨us, rfl, fun i hi => ?_, hcp.apart, ?_⟩
      · exact ((((hcp.rows i hi).setBox hcp.result (by decide)).setBox (hcp.result.set _ _) (by decide)).setBox ((hcp.result.set _ _).set _ _) (by decide)).setBox (((hcp.result.set _ _).set _ _).set _ _) (by decide)
      · exact (((Below.setCell hcp.le (by show w.heap.size ≤ w.heap.size + 1; omega) _).setCell (by show w.heap.size ≤ w.heap.size + 1; omega) _).setCell (by show w.heap.size ≤ w.heap.size + 1; omega) _).setCell (by show w.heap.size ≤ w.heap.size + 1; omega) _

theorem manyTo_bounds {s : St} {m : Nat} (h : ∀ k, k < 4 → (s.at k).length ≤ m) : ∀ k, k ≤ 4 → 0 ≤ manyTo s k ∧ manyTo s k ≤ k * m
  | 0, _ => by simp [manyTo]
  | k + 1, hk => by
    have ih := manyTo_bounds h k (by omega)
    have := h k (by omega)
    have e : ((k + 1 : Nat) : Int) * m = k * m + m := by rw [Int.natCast_add, Int.add_mul]; simp
    simp only [manyTo]
    rw [e]
    omega

set_option maxHeartbeats 400000 in
theorem statesCount (v : Value) (s : St) (w : World) (hx : HasS w v s) (hm : ∀ k, k < 4 → (s.at k).length ≤ 1000) :
    Calls Try.prog 58 #[v] w fun e w' => e = .returned (.int .i64 (manyTo s 4)) ∧ Le w w' := by
  obtain ⟨vs, rfl, hr⟩ := hx
  have hl := Le.alloc w (.cells (cells4 vs) 25)
  have hr1 := fun i hi => (hr i hi).le hl
  go_enter Try.func58, Try.ntmps58
  go_wp2
  go_loop [3, 8] (fun t i => ∃ k : Nat, k ≤ 4 ∧ i = .int .i64 k ∧ t = .int .i64 (manyTo s k)) (fun _ i => 4 - (intOf i).toNat)
  case atStart => exact ⟨0, by omega, rfl, rfl⟩
  case round =>
    obtain ⟨k, hk, rfl, rfl⟩ := hrel
    by_cases hlt : k < 4
    · have hix := run_row vs k hlt
      obtain ⟨b0, b1⟩ := manyTo_bounds hm k hk
      obtain ⟨a, cap, hv, hc, _, hcell⟩ := hr1 k hlt
      have hs : manyTo s (k + 1) = manyTo s k + (s.at k).length := rfl
      have hlk := hm k hlt
      rw [hv] at hix
      obtain ⟨n, hn⟩ : ∃ n, n = (s.at k).length := ⟨_, rfl⟩
      obtain ⟨t, ht⟩ : ∃ t, t = manyTo s k := ⟨_, rfl⟩
      rw [← hn, ← ht] at hs
      rw [← hn] at hix hlk
      rw [← ht] at b0 b1 ⊢
      have HS : Hid (manyTo s (k + 1) = t + n) := hs
      clear hs hcell hc hv hm hr hr1 hn ht
      go_wp2
      go_round
      case rel => exact ⟨k + 1, by omega, by go_num, by rw [HS.out]⟩
      case measure => simp [intOf]; omega
    · obtain rfl : k = 4 := by omega
      go_wp2
      go_ret
      exact ⟨rfl, hl⟩

end Go.Proofs.Ytnpejgendmgfaaa
