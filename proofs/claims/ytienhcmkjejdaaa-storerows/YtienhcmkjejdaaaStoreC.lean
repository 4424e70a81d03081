/-
  PLAIN GROUND: store.Apply's contract in one, and that what it answers can be copied. Condition: the state's rows can be copied.
-/
import Derived.Test.YtienhcmkjejdaaaStoreB
namespace Go.Proofs.Ytienhcmkjejdaaa
open Go.RowKit

theorem opMay_bounds {c r a : Int} (h : opMay c r a = true) : 0 ≤ c ∧ c ≤ 3 ∧ 0 ≤ r ∧ r ≤ 3 ∧ 0 ≤ a ∧ a ≤ 255 := by
  simp [opMay] at h; omega

/-- The operations that may be. -/
theorem opMay_cases {c r a : Int} (h : opMay c r a = true) :
    (∃ k : Nat, k < 4 ∧ c = 0 ∧ r = k ∧ 0 ≤ a ∧ a ≤ 255) ∨ (∃ k : Nat, k < 4 ∧ c = 1 ∧ r = k ∧ 0 ≤ a ∧ a ≤ 255) ∨ (∃ k : Nat, k < 4 ∧ c = 2 ∧ r = k ∧ a = 0) ∨ (c = 3 ∧ r = 0 ∧ a = 0) := by
  obtain ⟨h0, h1, h2, h3, h4, h5⟩ := opMay_bounds h
  simp [opMay] at h
  rcases (by omega : c = 0 ∨ c = 1 ∨ c = 2 ∨ c = 3) with e | e | e | e
  · exact .inl ⟨r.toNat, by omega, e, by omega, h4, h5⟩
  · exact .inr (.inl ⟨r.toNat, by omega, e, by omega, h4, h5⟩)
  · exact .inr (.inr (.inl ⟨r.toNat, by omega, e, by omega, by omega⟩))
  · exact .inr (.inr (.inr ⟨e, by omega, by omega⟩))

theorem stoS_no {s : St} {c r a er : Int} (h : (s.all rowMay1 && opMay c r a) = false) : stoS s c r a er = (St.zero, 0, er) := by simp [stoS, h]
theorem stoS_scan {s : St} {er : Int} (h : s.all rowMay1 = true) : stoS s 3 0 0 er = (s, sumTo s 4, 0) := by
  have : opMay 3 0 0 = true := by decide
  simp [stoS, h, this]
theorem stoS_look {s : St} {k : Nat} {er : Int} (h : s.all rowMay1 = true) (hk : k < 4) : stoS s 2 k 0 er = (s, firstS (s.at k), 0) := by
  have : opMay 2 k 0 = true := by simp [opMay]; omega
  simp [stoS, h, this]
theorem stoS_first {s : St} {k : Nat} {a er : Int} (h : s.all rowMay1 = true) (hk : k < 4) (ha : 0 ≤ a ∧ a ≤ 255) : stoS s 0 k a er = (s.put k [a], firstS (s.at k), 0) := by
  have : opMay 0 k a = true := by simp [opMay]; omega
  simp [stoS, h, this]
theorem stoS_second {s : St} {k : Nat} {a er : Int} (h : s.all rowMay1 = true) (hk : k < 4) (ha : 0 ≤ a ∧ a ≤ 255) : stoS s 1 k a er = (s.put k [], firstS (s.at k), 0) := by
  have : opMay 1 k a = true := by simp [opMay]; omega
  simp [stoS, h, this]

theorem storeApply (v : Value) (s : St) (c r a : Int) (w : World) (hx : HasS w v s) (hf : Fit s) :
    Calls Try.prog 9 #[v, opV c r a] w fun e w' => ∃ v', e = .returned (.tuple #[v', .int .i64 (stoS s c r a 300).2.1, .int .i64 (stoS s c r a 300).2.2]) ∧ OwnS w' w.heap.size v' (stoS s c r a 300).1 ∧ Le w w' := by
  cases h : s.all rowMay1 && opMay c r a
  · rw [stoS_no h]
    exact (storeApplyNo v s c r a w hx h).mono fun e w' ⟨he, hl⟩ => ⟨stZ, he, OwnS.zero _ _, hl⟩
  · obtain ⟨hm, ho⟩ := Bool.and_eq_true_iff.mp h
    rcases opMay_cases ho with ⟨k, hk, rfl, rfl, ha⟩ | ⟨k, hk, rfl, rfl, ha⟩ | ⟨k, hk, rfl, rfl, rfl⟩ | ⟨rfl, rfl, rfl⟩
    · rw [stoS_first hm hk ha]; exact storeApplyFirst v s k a w hx hf hm hk ha
    · rw [stoS_second hm hk ha]; exact storeApplySecond v s k a w hx hf hm hk ha
    · rw [stoS_look hm hk]; exact storeApplyLook v s k w hx hf hm hk
    · rw [stoS_scan hm]; exact storeApplyScan v s w hx hf hm

theorem Fit.put {s : St} (h : Fit s) {k : Nat} (hk : k < 4) {x : List Int} (hx : x.length ≤ 4) : Fit (s.put k x) := by
  intro i hi
  rw [St.at_put hk hi]
  have := h i hi
  split <;> omega

theorem Fit.sto {s : St} (h : Fit s) (c r a er : Int) : Fit (stoS s c r a er).1 := by
  cases hh : s.all rowMay1 && opMay c r a
  · rw [stoS_no hh]; exact fit_zero
  · obtain ⟨hm, ho⟩ := Bool.and_eq_true_iff.mp hh
    rcases opMay_cases ho with ⟨k, hk, rfl, rfl, ha⟩ | ⟨k, hk, rfl, rfl, ha⟩ | ⟨k, hk, rfl, rfl, rfl⟩ | ⟨rfl, rfl, rfl⟩
    · rw [stoS_first hm hk ha]; exact h.put hk (by simp)
    · rw [stoS_second hm hk ha]; exact h.put hk (by simp)
    · rw [stoS_look hm hk]; exact h
    · rw [stoS_scan hm]; exact h

end Go.Proofs.Ytienhcmkjejdaaa
