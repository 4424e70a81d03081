/-
  PLAIN GROUND: appends of numbers to two rows of the call's own that grow by turns, each in a block of its own. Condition: that the bytes are within the reach that every row bears.
-/
import Derived.Test.YtnpejgendmgfaaaStA
import Derived.Maps.AppendAt
namespace Go.Proofs.Ytnpejgendmgfaaa
open Go.RowKit

/-- An append of a slice of numbers to one of the call's own: the new row lies in the old one's block or in a new one. -/
theorem wp_append_at {ops : Array Oper} {rest : List Oper} {o : Oper} {a : Act} {Q : Exit → Act → World → Prop} {w : World} (hgd : o.guard = none) (s x : Operand)
    (ho : o.op = .call { callee := .builtin .append, args := #[s, x], argTypes := #[22, 22] }) (base : Nat) (v u : Value) (xs ys : List Int)
    (hs : a.eval s = v) (hx : a.eval x = u) (hown : Own w base v xs) (hu : Has w u ys) (hr : (xs.length + ys.length) * 8 ≤ 140737488355328) (hbase : base ≤ w.heap.size)
    (h : ∀ v' w', Own w' base v' (xs ++ ys) → w.grownBy w' v.ownBlock → (v'.ownBlock = v.ownBlock ∨ v'.ownBlock = some w.heap.size) → wpList Try.prog ops Q rest (a.put o.dst v') w') : wpList Try.prog ops Q (o :: rest) a w := by
  obtain ⟨i0, hi, hz0, hz1, hz2⟩ := info_parts info3
  have hu0 := hu
  obtain ⟨ad, cap, rfl, hc, hn, _⟩ := hu
  cases ad with
  | none =>
    have h0 := hn rfl
    have hnil : ys = [] := by cases ys with | nil => rfl | cons _ _ => simp at hc; omega
    subst hnil h0
    refine wpList_append_own_none hgd s x 22 ho base 3 i0 1 Try.underlying22 hi v _ _ hs hown hx ?_
    exact h _ _ (by simpa using hown) (World.grownBy.refl _ _) (.inl rfl)
  | some ad =>
    refine wpList_append_own_at w hgd s x 22 ho base 3 i0 (.int .i64 0) 1 8 Try.underlying22 hi hz0 hz1 hz2 rfl (by decide) v _ _ hs hown ad ys.length cap (ys.map (Value.int .i64)) hx (by simp) hu0.cells (ints_oneCell _ _) (by unfold maxLen; omega) hr hbase ?_
    intro v' w' h1 h2 _ h4
    exact h _ _ (Own.of h1 (by simp) (by simp)) h2 h4

/-- Two rows of the call's own, each in another block. -/
structure Two (w wr : World) (y z : Value) (ys zs : List Int) : Prop where
  oy : Own wr w.heap.size y ys
  oz : Own wr w.heap.size z zs
  ap : ∀ g, y.ownBlock = some g → z.ownBlock ≠ some g
  le : Le w wr

theorem Two.nil (w : World) : Two w w (.slice none 0 0) (.slice none 0 0) [] [] := ⟨Own.nil _ _, Own.nil _ _, (fun g h => by simp [Value.ownBlock] at h), Le.refl _⟩
theorem Two.symm {w wr : World} {y z : Value} {ys zs : List Int} (h : Two w wr y z ys zs) : Two w wr z y zs ys := ⟨h.oz, h.oy, fun g h1 h2 => h.ap g h2 h1, h.le⟩
theorem Two.later {w wr w1 : World} {y z : Value} {ys zs : List Int} (h : Two w wr y z ys zs) (l : Le wr w1) : Two w w1 y z ys zs := ⟨h.oy.le l, h.oz.le l, h.ap, h.le.trans l⟩
theorem Two.left {w w1 w2 : World} {y y' z : Value} {ys ys' zs : List Int} (h : Two w w1 y z ys zs) (ho : Own w2 w.heap.size y' ys') (hg : w1.grownBy w2 y.ownBlock) (hat : y'.ownBlock = y.ownBlock ∨ y'.ownBlock = some w1.heap.size) : Two w w2 y' z ys' zs := by
  refine ⟨ho, h.oz.grown hg (fun g h1 h2 => h.ap g h2 h1), fun g h1 h2 => ?_, Below.grown h.le hg h.le.size (fun g hg => (World.ownsRow.lt h.oy g hg).1)⟩
  rcases hat with e | e
  · rw [e] at h1; exact h.ap g h1 h2
  · rw [e] at h1
    have := (World.ownsRow.lt h.oz g h2).2
    simp at h1
    omega

/-- The first n answers of f. -/
def ofF (f : Nat → Int) (n : Nat) : List Int := (List.range n).map f
theorem ofF_len (f : Nat → Int) (n : Nat) : (ofF f n).length = n := by simp [ofF]
theorem ofF_next (f : Nat → Int) (n : Nat) : ofF f (n + 1) = ofF f n ++ [f n] := by simp [ofF, List.range_succ]
theorem ofF_at {f : Nat → Int} {n i : Nat} (h : i < n) : (ofF f n).getD i 0 = f i := by simp [ofF, List.getD, h]
theorem ofF_mem {f : Nat → Int} {n i : Nat} (h : i < n) : f i ∈ ofF f n := by
  simp only [ofF, List.mem_map, List.mem_range]; exact ⟨i, h, rfl⟩
theorem ofF_of {f : Nat → Int} {n : Nat} {x : Int} (h : x ∈ ofF f n) : ∃ i, i < n ∧ x = f i := by
  simp only [ofF, List.mem_map, List.mem_range] at h
  obtain ⟨i, hi, e⟩ := h
  exact ⟨i, hi, e.symm⟩

end Go.Proofs.Ytnpejgendmgfaaa
