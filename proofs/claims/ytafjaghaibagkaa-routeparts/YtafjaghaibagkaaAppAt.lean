/-
  PLAIN GROUND: an append of numbers to a row of the call's own, inside a statement that draws its order, with the block that the new row lies in. Condition: that the bytes are within the reach that every row bears.
-/
import Derived.Test.YtafjaghaibagkaaSlc
import Derived.Deep.RegionLaw
import Derived.Maps.AppendAt
namespace Go.Proofs.Ytafjaghaibagkaa
open Go.RowKit

/-- An append of a slice of numbers to one of the call's own, as one step of a region that draws its order: the new row lies in the old one's block or in a new one. -/
theorem step_append_at {ops : Array Oper} {o : Oper} {a : Act} {K : Act → World → Prop} {Q : Exit → Act → World → Prop} {E : Prop} {w : World} (hgd : o.guard = none) (s x : Operand)
    (ho : o.op = .call { callee := .builtin .append, args := #[s, x], argTypes := #[24, 24] }) (base : Nat) (v u : Value) (xs ys : List Int)
    (hs : a.eval s = v) (hx : a.eval x = u) (hown : Own w base v xs) (hu : Has w u ys) (hr : (xs.length + ys.length) * 8 ≤ 140737488355328) (hbase : base ≤ w.heap.size)
    (h : ∀ v' w', Own w' base v' (xs ++ ys) → w.grownBy w' v.ownBlock → (v'.ownBlock = v.ownBlock ∨ v'.ownBlock = some w.heap.size) → K (a.put o.dst v') w') :
    if Region.wanted o (yielded ops a.tmps) = true then Oper.wp Try.prog o a w K Q else E := by
  have hw : Region.wanted o (yielded ops a.tmps) = true := by simp [Region.wanted, hgd]
  rw [if_pos hw]
  obtain ⟨i0, hi, hz0, hz1, hz2⟩ := info_parts info3
  have hu0 := hu
  obtain ⟨ad, cap, rfl, hc, hn, _⟩ := hu
  cases ad with
  | none =>
    have h0 := hn rfl
    have hnil : ys = [] := by cases ys with | nil => rfl | cons _ _ => simp at hc; omega
    subst hnil h0
    have hrun := run_append_owned_none (P := Try.prog) (w := w) base 24 o.type 3 i0 1 Try.underlying24 hi v _ _ hown
    unfold Oper.wp
    simp only [List.length_nil] at hx
    simp [execOp, ho, resolve, invoke, builtin, hs, hx, hrun, Result.andThen]
    exact h _ _ (by simpa using hown) (World.grownBy.refl _ _) (.inl rfl)
  | some ad =>
    obtain ⟨v', w', hr, h2, h3, _, h5⟩ := run_append_own_at (P := Try.prog) w base 24 o.type 3 i0 (.int .i64 0) 1 8 Try.underlying24 hi hz0 hz1 hz2 rfl (by decide) v _ _ hown ad ys.length cap (ys.map (Value.int .i64)) (by simp) hu0.cells (ints_oneCell _ _) (by unfold maxLen; omega) hr hbase
    unfold Oper.wp execOp
    simp only [ho, resolve, invoke, builtin, Sem.run_bind, Sem.run_pure, Result.andThen_ok, List.map_toArray, List.map_cons, List.map_nil, hs, hx, hr]
    exact h _ _ (Own.of h2 (by simp) (by simp)) h3 h5

end Go.Proofs.Ytafjaghaibagkaa
