/-
  PLAIN GROUND: what the answers of queue.Apply keep. No condition.
-/
import Derived.Test.YtnpejgendmgfaaaQueB
namespace Go.Proofs.Ytnpejgendmgfaaa
open Go.RowKit

theorem queS_first {s : St} {k : Nat} {a er : Int} (h : s.all rowMay3 = true) (hk : k < 4) (ha : 0 ≤ a ∧ a ≤ 255) : queS s 0 k a er = (s.put k (enqS (s.at k) a).1, (enqS (s.at k) a).2, 0) := cntS_first h hk ha
theorem queS_second {s : St} {k : Nat} {a er : Int} (h : s.all rowMay3 = true) (hk : k < 4) (ha : 0 ≤ a ∧ a ≤ 255) : queS s 1 k a er = (s.put k (deqS (s.at k)).1, (deqS (s.at k)).2, 0) := cntS_second h hk ha

theorem enq_may {xs : List Int} {a : Int} (h : rowMay3 xs = true) (ha : 0 ≤ a ∧ a ≤ 255) : rowMay3 (enqS xs a).1 = true := by
  unfold enqS
  split
  · exact h
  · refine rowMay3_of (by simp; omega) fun x hx => ?_
    rcases List.mem_append.mp hx with hx | hx
    · exact rowMay3_all h x hx
    · simp at hx; subst hx; exact ha
theorem deq_may {xs : List Int} (h : rowMay3 xs = true) : rowMay3 (deqS xs).1 = true := by
  match xs, h with
  | [], h => exact h
  | x :: r, h =>
    have h1 := rowMay3_len h
    simp only [List.length_cons] at h1
    exact rowMay3_of (show r.length ≤ 4 by omega) fun y hy => rowMay3_all h y (List.mem_cons_of_mem _ hy)

theorem may_all3 {s : St} (h : s.all rowMay3 = true) : Fit s := fun i hi => by
  have := rowMay3_len (St.all_at h hi)
  omega

theorem Fit.que {s : St} (h : Fit s) (c r a er : Int) : Fit (queS s c r a er).1 := by
  cases hh : s.all rowMay3 && opMay c r a
  · rw [queS_no hh]; exact fit_zero
  · obtain ⟨hm, ho⟩ := Bool.and_eq_true_iff.mp hh
    rcases opMay_cases ho with ⟨k, hk, rfl, rfl, ha⟩ | ⟨k, hk, rfl, rfl, ha⟩ | ⟨k, hk, rfl, rfl, rfl⟩ | ⟨rfl, rfl, rfl⟩
    · rw [queS_first hm hk ha]; exact h.put hk (rowMay3_len (enq_may (St.all_at hm hk) ha))
    · rw [queS_second hm hk ha]; exact h.put hk (rowMay3_len (deq_may (St.all_at hm hk)))
    · rw [queS_look hm hk]; exact h
    · rw [queS_scan hm]; exact h

end Go.Proofs.Ytnpejgendmgfaaa
