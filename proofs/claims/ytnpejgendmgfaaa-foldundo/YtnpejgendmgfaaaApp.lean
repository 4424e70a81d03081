/-
  PLAIN GROUND: an append of numbers to a row of the call's own, inside a statement that draws its order. Condition: that the bytes are within the reach that every row bears.
-/
import Derived.Test.YtnpejgendmgfaaaSlc
import Derived.Deep.RegionLaw
namespace Go.Proofs.Ytnpejgendmgfaaa
open Go.RowKit

/-- An append of a slice of numbers to one of the call's own, as one step of a region that draws its order. -/
theorem step_append_ints {ops : Array Oper} {o : Oper} {a : Act} {K : Act → World → Prop} {Q : Exit → Act → World → Prop} {E : Prop} {w : World} (hgd : o.guard = none) (s x : Operand)
    (ho : o.op = .call { callee := .builtin .append, args := #[s, x], argTypes := #[22, 22] }) (base : Nat) (v u : Value) (xs ys : List Int)
    (hs : a.eval s = v) (hx : a.eval x = u) (hown : Own w base v xs) (hu : Has w u ys) (hr : (xs.length + ys.length) * 8 ≤ 140737488355328) (hbase : base ≤ w.heap.size)
    (h : ∀ v' w', Own w' base v' (xs ++ ys) → w.grownBy w' v.ownBlock → K (a.put o.dst v') w') :
    if Region.wanted o (yielded ops a.tmps) = true then Oper.wp Try.prog o a w K Q else E := by
  have hw : Region.wanted o (yielded ops a.tmps) = true := by simp [Region.wanted, hgd]
  rw [if_pos hw]
  obtain ⟨i0, hi, hz0, hz1, hz2⟩ := info_parts info3
  have hu0 := hu
  obtain ⟨ad, cap, rfl, hc, hn, _⟩ := hu
  cases ad with
  | none =>
    have h0 := hn rfl
    have hnil : ys = [] := by cases ys with | nil => rfl | cons _ _ => simp at hc; omega
    subst hnil h0
    have hrun := run_append_owned_none (P := Try.prog) (w := w) base 22 o.type 3 i0 1 Try.underlying22 hi v _ _ hown
    unfold Oper.wp
    simp only [List.length_nil] at hx
    simp [execOp, ho, resolve, invoke, builtin, hs, hx, hrun, Result.andThen]
    exact h _ _ (by simpa using hown) (World.grownBy.refl _ _)
  | some ad =>
    refine wp_append_own w s x 22 ho base 3 i0 (.int .i64 0) 1 8 Try.underlying22 hi hz0 hz1 hz2 rfl (by decide) v _ _ hs hown ad ys.length cap (ys.map (Value.int .i64)) hx (by simp) hu0.cells (ints_oneCell _ _) (by unfold maxLen; omega) hr hbase ?_
    intro v' w' h1 h2 _
    exact h _ _ (Own.of h1 (by simp) (by simp)) h2

end Go.Proofs.Ytnpejgendmgfaaa
