/-
  PLAIN GROUND: store.Apply's contract in one, and that what it answers can be copied. Condition: the state's rows can be copied.
-/
import Derived.Test.YtnpejgendmgfaaaStoreB
namespace Go.Proofs.Ytnpejgendmgfaaa
open Go.RowKit

theorem stoS_no {s : St} {c r a er : Int} (h : (s.all rowMay1 && opMay c r a) = false) : stoS s c r a er = (St.zero, 0, er) := by simp [stoS, h]
theorem stoS_scan {s : St} {er : Int} (h : s.all rowMay1 = true) : stoS s 3 0 0 er = (s, sumTo s 4, 0) := by
  have : opMay 3 0 0 = true := by decide
  simp [stoS, h, this]
theorem stoS_look {s : St} {k : Nat} {er : Int} (h : s.all rowMay1 = true) (hk : k < 4) : stoS s 2 k 0 er = (s, firstS (s.at k), 0) := by
  have : opMay 2 k 0 = true := by simp [opMay]; omega
  simp [stoS, h, this]
theorem stoS_first {s : St} {k : Nat} {a er : Int} (h : s.all rowMay1 = true) (hk : k < 4) (ha : 0 ≤ a ∧ a ≤ 255) : stoS s 0 k a er = (s.put k [a], firstS (s.at k), 0) := by
  have : opMay 0 k a = true := by simp [opMay]; omega
  simp [stoS, h, this]
theorem stoS_second {s : St} {k : Nat} {a er : Int} (h : s.all rowMay1 = true) (hk : k < 4) (ha : 0 ≤ a ∧ a ≤ 255) : stoS s 1 k a er = (s.put k [], firstS (s.at k), 0) := by
  have : opMay 1 k a = true := by simp [opMay]; omega
  simp [stoS, h, this]

theorem storeApply (v : Value) (s : St) (c r a : Int) (w : World) (hx : HasS w v s) (hf : Fit s) :
    Calls Try.prog 42 #[v, opV c r a] w fun e w' => ∃ v', e = .returned (.tuple #[v', .int .i64 (stoS s c r a 300).2.1, .int .i64 (stoS s c r a 300).2.2]) ∧ OwnS w' w.heap.size v' (stoS s c r a 300).1 ∧ Le w w' := by
  cases h : s.all rowMay1 && opMay c r a
  · rw [stoS_no h]
    exact (storeApplyNo v s c r a w hx h).mono fun e w' ⟨he, hl⟩ => ⟨stZ, he, OwnS.zero _ _, hl⟩
  · obtain ⟨hm, ho⟩ := Bool.and_eq_true_iff.mp h
    rcases opMay_cases ho with ⟨k, hk, rfl, rfl, ha⟩ | ⟨k, hk, rfl, rfl, ha⟩ | ⟨k, hk, rfl, rfl, rfl⟩ | ⟨rfl, rfl, rfl⟩
    · rw [stoS_first hm hk ha]; exact storeApplyFirst v s k a w hx hf hm hk ha
    · rw [stoS_second hm hk ha]; exact storeApplySecond v s k a w hx hf hm hk ha
    · rw [stoS_look hm hk]; exact storeApplyLook v s k w hx hf hm hk
    · rw [stoS_scan hm]; exact storeApplyScan v s w hx hf hm

theorem Fit.sto {s : St} (h : Fit s) (c r a er : Int) : Fit (stoS s c r a er).1 := by
  cases hh : s.all rowMay1 && opMay c r a
  · rw [stoS_no hh]; exact fit_zero
  · obtain ⟨hm, ho⟩ := Bool.and_eq_true_iff.mp hh
    rcases opMay_cases ho with ⟨k, hk, rfl, rfl, ha⟩ | ⟨k, hk, rfl, rfl, ha⟩ | ⟨k, hk, rfl, rfl, rfl⟩ | ⟨rfl, rfl, rfl⟩
    · rw [stoS_first hm hk ha]; exact h.put hk (by simp)
    · rw [stoS_second hm hk ha]; exact h.put hk (by simp)
    · rw [stoS_look hm hk]; exact h
    · rw [stoS_scan hm]; exact h

end Go.Proofs.Ytnpejgendmgfaaa
