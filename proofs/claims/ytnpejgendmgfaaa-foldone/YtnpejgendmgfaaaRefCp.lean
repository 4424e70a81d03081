/-
  THE WALK over the document's own CopyState: the same rows, in memory of their own. Condition: the rows can be copied.
-/
import Derived.Test.YtnpejgendmgfaaaObj
namespace Go.Proofs.Ytnpejgendmgfaaa
open Go.RowKit

set_option maxHeartbeats 400000 in
theorem refCopyState (v : Value) (s : St) (w : World) (hx : HasS w v s) (hf : Fit s) :
    Calls Try.prog 24 #[v] w fun e w' => ∃ v', e = .returned v' ∧ OwnS w' w.heap.size v' s ∧ Le w w' := by
  obtain ⟨vs, rfl, hr⟩ := hx
  go_enter Try.func24, Try.ntmps24
  go_wp2
  go_loopw [4] (fun i wr => ∃ (k : Nat) (us : Nat → Sl), k ≤ 4 ∧ i = .int .i64 k ∧ Cp w s vs wr k us) (fun i _ => 4 - (intOf i).toNat)
  case atStart => exact ⟨0, _, by omega, rfl, Cp.start w s vs⟩
  case round =>
    obtain ⟨k, us, hk, rfl, hcp⟩ := hrel
    by_cases hlt : k < 4
    · have c1 : (wr.alloc (.cells #[] 3)).cell? ⟨w.heap.size, k, none⟩ = some (slV (vs k)) := ((hcp.given.le (Le.alloc wr _)).cell k).trans (cells4_at vs hlt)
      have hw1 : Has (wr.alloc (.cells #[] 3)) (slV (vs k)) (s.at k) := (hr k hlt).le (hcp.le.trans (Le.alloc wr _))
      have hn1 : Own (wr.alloc (.cells #[] 3)) wr.heap.size (.slice (some ⟨wr.heap.size, 0, none⟩) 0 0) [] := Own.lit wr _ (Nat.le_refl _) [] (by decide)
      have hfk := hf k hlt
      have hrow : ∀ g, (Value.slice (some ⟨wr.heap.size, 0, none⟩) 0 0).ownBlock = some g → wr.heap.size ≤ g := by intro g hg; cases hg; exact Nat.le_refl _
      go_wp2_with (at_builtin; refine wp_append_ints rfl _ _ rfl wr.heap.size _ _ [] (s.at k) rfl rfl hn1 hw1 (by simp; omega) (by simp) ?_; intro v' w2 hown hgrow; rw [List.nil_append] at hown; have l2 : Le wr w2 := Below.grown (Le.alloc wr _) hgrow (by simp) hrow; have c3 := (hcp.filled.le l2).cell k; rw [cells4_at us hlt] at c3; have f3 := (hcp.filled.le l2).frozen k; obtain ⟨q, rfl⟩ := hown.has.sl)
      go_roundw
      case rel => exact ⟨k + 1, _, by omega, by go_num, hcp.next hlt (Le.alloc wr _) hgrow hrow hown⟩
      case measure => simp [intOf]; omega
    · obtain rfl : k = 4 := by omega
      obtain ⟨p0, p1, p2, p3, _, _, _, _⟩ := hcp.filled.st
      obtain ⟨b0, b1, b2, b3, f0, f1, f2, f3⟩ := hcp.result.st
      go_wp2
      refine bodyPost_ret (v := stV us) (by simp [results, Try.results24, go_sem, b0, b1, b2, b3]) rfl ⟨_, rfl, ⟨us, rfl, fun i hi => ?_⟩, ?_⟩
      · exact ((((hcp.rows i hi).setBox hcp.result (by decide)).setBox (hcp.result.set _ _) (by decide)).setBox ((hcp.result.set _ _).set _ _) (by decide)).setBox (((hcp.result.set _ _).set _ _).set _ _) (by decide)
      · exact (((Below.setCell hcp.le (by show w.heap.size ≤ w.heap.size + 1; omega) _).setCell (by show w.heap.size ≤ w.heap.size + 1; omega) _).setCell (by show w.heap.size ≤ w.heap.size + 1; omega) _).setCell (by show w.heap.size ≤ w.heap.size + 1; omega) _

end Go.Proofs.Ytnpejgendmgfaaa
