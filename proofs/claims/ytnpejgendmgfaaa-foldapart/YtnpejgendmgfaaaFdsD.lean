/-
  PLAIN GROUND: what the answers of fds.Apply keep. No condition.
-/
import Derived.Test.YtnpejgendmgfaaaFdsC
namespace Go.Proofs.Ytnpejgendmgfaaa
open Go.RowKit

theorem fdsS_first {s : St} {k : Nat} {a er : Int} (h : s.all rowMay2 = true) (hk : k < 4) (ha : 0 ≤ a ∧ a ≤ 255) : fdsS s 0 k a er = (s.put k (putS (s.at k)).1, (putS (s.at k)).2, 0) := cntS_first h hk ha
theorem fdsS_second {s : St} {k : Nat} {a er : Int} (h : s.all rowMay2 = true) (hk : k < 4) (ha : 0 ≤ a ∧ a ≤ 255) : fdsS s 1 k a er = (s.put k (takeS (s.at k) a).1, (takeS (s.at k) a).2, 0) := cntS_second h hk ha

theorem idx_out {a : Int} : ∀ {i : Int} {xs : List Int}, a ∉ xs → idxFrom i a xs = -1
  | _, [], _ => rfl
  | i, x :: r, h => by
    simp only [List.mem_cons, not_or] at h
    simp only [idxFrom, if_neg h.1]
    exact idx_out h.2
theorem take_out {xs : List Int} {a : Int} (h : a ∉ xs) : takeS xs a = (xs, 0) := by
  have : idxS xs a = -1 := idx_out h
  simp [takeS, this]

theorem put_rows : ∀ xs ∈ rowsAbove 4, rowMay2 (putS xs).1 = true := by decide
theorem take_rows : ∀ xs ∈ rowsAbove 4, ∀ a ∈ xs, rowMay2 (takeS xs a).1 = true := by decide
theorem put_may {xs : List Int} (h : rowMay2 xs = true) : rowMay2 (putS xs).1 = true := put_rows xs (rowMay2_mem h)
theorem take_may {xs : List Int} {a : Int} (h : rowMay2 xs = true) : rowMay2 (takeS xs a).1 = true := by
  by_cases ha : a ∈ xs
  · exact take_rows xs (rowMay2_mem h) a ha
  · rw [take_out ha]; exact h

theorem may_all2 {s : St} (h : s.all rowMay2 = true) : Fit s := fun i hi => by
  have := rowMay2_len (St.all_at h hi)
  omega

theorem Fit.fds {s : St} (h : Fit s) (c r a er : Int) : Fit (fdsS s c r a er).1 := by
  cases hh : s.all rowMay2 && opMay c r a
  · rw [fdsS_no hh]; exact fit_zero
  · obtain ⟨hm, ho⟩ := Bool.and_eq_true_iff.mp hh
    rcases opMay_cases ho with ⟨k, hk, rfl, rfl, ha⟩ | ⟨k, hk, rfl, rfl, ha⟩ | ⟨k, hk, rfl, rfl, rfl⟩ | ⟨rfl, rfl, rfl⟩
    · rw [fdsS_first hm hk ha]; exact h.put hk (rowMay2_len (put_may (St.all_at hm hk)))
    · rw [fdsS_second hm hk ha]; exact h.put hk (rowMay2_len (take_may (St.all_at hm hk)))
    · rw [fdsS_look hm hk]; exact h
    · rw [fdsS_scan hm]; exact h

end Go.Proofs.Ytnpejgendmgfaaa
