/-
  THE WALKS over package states' May, Copy, Count: what each answers, for every state. Condition: where memory is made, that the rows can be copied; where numbers are counted, that there are not too many for an int.
-/
import Derived.Test.YtafjaghaibagkaaObj
namespace Go.Proofs.Ytafjaghaibagkaa
open Go.RowKit

theorem listsCopyI (v : Value) (xs : List Int) (w : World) (hx : Has w v xs) (hf : xs.length * 8 ≤ 140737488351232) :
    Calls Try.prog 32 #[v] w fun e w' => ∃ q : Sl, e = .returned (slV q) ∧ Own w' w.heap.size (slV q) xs ∧ w.grownBy w' none := by
  go_enter Try.func32, Try.ntmps32
  go_wp2_with (at_builtin; refine wp_append_ints rfl _ _ rfl w.heap.size _ _ [] xs rfl rfl (Own.nil _ _) hx (by simp; omega) (by simp) ?_; intro v' w2 hown hgrow; rw [List.nil_append] at hown; obtain ⟨q, rfl⟩ := hown.has.sl)
  go_ret
  exact ⟨q, rfl, hown, hgrow⟩

set_option maxHeartbeats 400000 in
theorem statesCopy (v : Value) (s : St) (w : World) (hx : HasS w v s) (hf : Fit s) :
    Calls Try.prog 23 #[v] w fun e w' => ∃ us : Nat → Sl, e = .returned (stV us) ∧ (∀ i, i < 4 → Own w' w.heap.size (slV (us i)) (s.at i)) ∧ Apart us 4 ∧ Le w w' := by
  obtain ⟨vs, rfl, hr⟩ := hx
  go_enter Try.func23, Try.ntmps23
  go_wp2
  go_loopw [8] (fun i wr => ∃ (k : Nat) (us : Nat → Sl), k ≤ 4 ∧ i = .int .i64 k ∧ Cp w s vs wr k us) (fun i _ => 4 - (intOf i).toNat)
  case atStart => exact ⟨0, _, by omega, rfl, Cp.start w s vs⟩
  case round =>
    obtain ⟨k, us, hk, rfl, hcp⟩ := hrel
    by_cases hlt : k < 4
    · have hix := run_row vs k hlt
      have hw1 : Has wr (slV (vs k)) (s.at k) := (hr k hlt).le hcp.le
      have hfk := hf k hlt
      have hrow : ∀ g, (none : Option Nat) = some g → wr.heap.size ≤ g := by intro g hg; cases hg
      go_wp2_with (go_at_call 32; refine (listsCopyI _ (s.at k) _ hw1 hfk).mono ?_; rintro e w2 ⟨q, rfl, hown, hgrow⟩; have l2 : Le wr w2 := Below.grown (Le.refl wr) hgrow (by simp) hrow; have c3 := (hcp.filled.le l2).cell k; rw [cells4_at us hlt] at c3; have f3 := (hcp.filled.le l2).frozen k)
      go_roundw
      case rel => exact ⟨k + 1, _, by omega, by go_num, hcp.next hlt (Le.refl wr) hgrow hrow hown⟩
      case measure => simp [intOf]; omega
    · obtain rfl : k = 4 := by omega
      obtain ⟨p0, p1, p2, p3, _, _, _, _⟩ := hcp.filled.st
      obtain ⟨b0, b1, b2, b3, f0, f1, f2, f3⟩ := hcp.result.st
      go_wp2
      refine bodyPost_ret (v := stV us) (by simp [results, Try.results23, go_sem, b0, b1, b2, b3]) rfl ⟨us, rfl, fun i hi => ?_, hcp.apart, ?_⟩
      · exact ((((hcp.rows i hi).setBox hcp.result (by decide)).setBox (hcp.result.set _ _) (by decide)).setBox ((hcp.result.set _ _).set _ _) (by decide)).setBox (((hcp.result.set _ _).set _ _).set _ _) (by decide)
      · exact (((Below.setCell hcp.le (by show w.heap.size ≤ w.heap.size + 1; omega) _).setCell (by show w.heap.size ≤ w.heap.size + 1; omega) _).setCell (by show w.heap.size ≤ w.heap.size + 1; omega) _).setCell (by show w.heap.size ≤ w.heap.size + 1; omega) _

theorem manyTo_bounds {s : St} {m : Nat} (h : ∀ k, k < 4 → (s.at k).length ≤ m) : ∀ k, k ≤ 4 → 0 ≤ manyTo s k ∧ manyTo s k ≤ k * m
  | 0, _ => by simp [manyTo]
  | k + 1, hk => by
    have ih := manyTo_bounds h k (by omega)
    have := h k (by omega)
    have e : ((k + 1 : Nat) : Int) * m = k * m + m := by rw [Int.natCast_add, Int.add_mul]; simp
    simp only [manyTo]
    rw [e]
    omega

end Go.Proofs.Ytafjaghaibagkaa
