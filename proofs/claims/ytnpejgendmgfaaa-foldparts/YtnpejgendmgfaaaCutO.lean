/-
  PLAIN GROUND: a slice of operations, cut in two. No condition.
-/
import Derived.Test.YtnpejgendmgfaaaFoC
namespace Go.Proofs.Ytnpejgendmgfaaa
open Go.RowKit

theorem size_op (w : World) : (sizeOf (Try.prog.elem 26)).run Try.prog w = .ok 3 w := by kernel_rfl
theorem under_ops : Try.prog.underlying 26 = some (.slice (Try.prog.elem 26)) := by kernel_rfl

/-- The first k of them, and the others. -/
theorem HasO.cut {w : World} {a : Option Addr} {n cap : Nat} {ps : List Opr} (h : HasO w (.slice a n cap) ps) {k : Nat} (hk : k ≤ ps.length) :
    ∃ q1 q2 : Sl, (∀ w', (Instr.slice 26 (.slice a n cap) none (some (.int .i64 (k : Int))) none).run Try.prog w' = .ok (slV q1) w') ∧ (∀ w', (Instr.slice 26 (.slice a n cap) (some (.int .i64 (k : Int))) none none).run Try.prog w' = .ok (slV q2) w') ∧
      HasO w (slV q1) (ps.take k) ∧ HasO w (slV q2) (ps.drop k) := by
  obtain ⟨a', cap', hv, hc, hn, hx⟩ := h
  simp only [Value.slice.injEq] at hv
  obtain ⟨rfl, rfl, rfl⟩ := hv
  refine ⟨(if cap = 0 then a else a.map (·.add (0 * 3)), k - 0, cap - 0), (if cap = k then a else a.map (·.add (k * 3)), ps.length - k, cap - k), fun w' => ?_, fun w' => ?_, ?_, ?_⟩
  · rw [run_slice_h (P := Try.prog) (w := w') 26 a ps.length cap under_ops .i64 k (by omega) (by omega), size_op]
    simp [Result.andThen, sliced]
  · rw [run_slice_l (P := Try.prog) (w := w') 26 a ps.length cap under_ops .i64 k (by omega) (by omega), size_op]
    simp [Result.andThen, sliced]
  · have hl : (ps.take k).length = k := by rw [List.length_take]; omega
    refine ⟨if cap = 0 then a else a.map (·.add (0 * 3)), cap, by simp only [slV, hl, Nat.sub_zero], by rw [hl]; omega, fun e => ?_, fun hp => ?_⟩
    · by_cases h0 : cap = 0
      · exact h0
      · rw [if_neg h0] at e
        cases a with
        | none => exact hn rfl
        | some _ => simp at e
    · rw [hl] at hp ⊢
      obtain ⟨b, off, rfl, hcell⟩ := hx (by omega)
      refine ⟨b, off, by rw [if_neg (by omega)]; simp [Addr.add], fun i hi => ?_⟩
      have := hcell i (by omega)
      rw [List.getD, List.getElem?_take_of_lt hi]
      exact this
  · have hl : (ps.drop k).length = ps.length - k := by rw [List.length_drop]
    refine ⟨if cap = k then a else a.map (·.add (k * 3)), cap - k, by simp only [slV, hl], by rw [hl]; omega, fun e => ?_, fun hp => ?_⟩
    · by_cases h0 : cap = k
      · omega
      · rw [if_neg h0] at e
        cases a with
        | none => have := hn rfl; omega
        | some _ => simp at e
    · rw [hl] at hp ⊢
      obtain ⟨b, off, rfl, hcell⟩ := hx (by omega)
      refine ⟨b, off + k * 3, by rw [if_neg (by omega)]; simp [add_plain], fun i hi => ?_⟩
      have := hcell (k + i) (by omega)
      rw [List.getD, List.getElem?_drop]
      rw [show off + k * 3 + i * 3 = off + (k + i) * 3 by omega]
      exact this

/-- A state behind a store into a state's variable. -/
theorem HasS.put4 {w : World} {g : Nat} {v : Value} {s : St} {vs us : Nat → Sl} {t : TypeId} (h : HasS w v s) (hb : Box w g (cells4 vs) t) :
    HasS ((((w.setCell ⟨g, 0, none⟩ (slV (us 0))).setCell ⟨g, 1, none⟩ (slV (us 1))).setCell ⟨g, 2, none⟩ (slV (us 2))).setCell ⟨g, 3, none⟩ (slV (us 3))) v s := by
  obtain ⟨q, hv, hr⟩ := h
  exact ⟨q, hv, fun i hi => (hr i hi).set4 hb⟩

theorem OwnS.put4 {w : World} {base g : Nat} {v : Value} {s : St} {vs us : Nat → Sl} {t : TypeId} (h : OwnS w base v s) (hb : Box w g (cells4 vs) t) (ht : t ≠ 3) :
    OwnS ((((w.setCell ⟨g, 0, none⟩ (slV (us 0))).setCell ⟨g, 1, none⟩ (slV (us 1))).setCell ⟨g, 2, none⟩ (slV (us 2))).setCell ⟨g, 3, none⟩ (slV (us 3))) base v s := by
  obtain ⟨q, hv, hr⟩ := h
  exact ⟨q, hv, fun i hi => (hr i hi).set4 hb ht _ _ _ _⟩
/-- A state of the call's own that lies elsewhere than what has grown. -/
theorem OwnS.grown {w w' : World} {base : Nat} {v : Value} {s : St} {row : Option Nat} (h : OwnS w base v s) (hg : w.grownBy w' row) (hne : ∀ g, row = some g → g < base) : OwnS w' base v s := by
  obtain ⟨q, hv, hr⟩ := h
  refine ⟨q, hv, fun i hi => (hr i hi).grown hg (fun g e e2 => ?_)⟩
  have := ((hr i hi).block e).1
  have := hne g e2
  omega

end Go.Proofs.Ytnpejgendmgfaaa
