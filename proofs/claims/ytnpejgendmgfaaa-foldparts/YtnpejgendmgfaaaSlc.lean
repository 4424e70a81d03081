/-
  PLAIN GROUND: slices of numbers that are handed on, appended to, or written over: what a later world keeps of them. No condition but, at an append, that the bytes are within the reach that every row bears.
-/
import Derived.Test.YtnpejgendmgfaaaGround
import Derived.Laws.AppendOwnNone
import Derived.Lib.SliceRun
namespace Go.Proofs.Ytnpejgendmgfaaa
open Go.RowKit

theorem info3 : (Try.prog.info? 3).map (fun i => (i.zero, i.size, i.bytes)) = some (some (.int .i64 0), 1, 8) := by kernel_rfl

theorem add_plain (b off j : Nat) : (⟨b, off, none⟩ : Addr).add j = ⟨b, off + j, none⟩ := by
  simp only [Addr.add]; split
  · next h => subst h; rfl
  · rfl

theorem ints_at_news {w : World} {xs : List Int} {b off : Nat} (h : ∀ i, i < xs.length → w.cell? ⟨b, off + i, none⟩ = some (.int .i64 (xs.getD i 0))) :
    ∀ j u, (xs.map (Value.int .i64))[j]? = some u → w.cell? ((⟨b, off, none⟩ : Addr).add j) = some u := by
  intro j u hj
  rw [List.getElem?_map] at hj
  have hlt : j < xs.length := by
    rcases Nat.lt_or_ge j xs.length with h' | h'
    · exact h'
    · rw [List.getElem?_eq_none h'] at hj; cases hj
  have h1 := h j hlt
  rw [add_plain, h1]
  rw [List.getElem?_eq_getElem hlt] at hj
  simpa [List.getD, hlt] using hj

/-- The cells that a source of an append gives. -/
theorem Has.cells {w : World} {a : Addr} {n cap : Nat} {xs : List Int} (h : Has w (.slice (some a) n cap) xs) :
    ∀ j u, (xs.map (Value.int .i64))[j]? = some u → w.cell? (a.add j) = some u := by
  obtain ⟨a', cap', hv, hc, hn, hx⟩ := h
  simp only [Value.slice.injEq] at hv
  obtain ⟨rfl, rfl, rfl⟩ := hv
  intro j u hj
  have hlt : j < xs.length := by
    rcases Nat.lt_or_ge j xs.length with h' | h'
    · exact h'
    · rw [List.getElem?_eq_none (by simpa using h')] at hj; cases hj
  obtain ⟨b, off, ha, hcell⟩ := hx (by omega)
  simp only [Option.some.injEq] at ha
  subst ha
  exact ints_at_news hcell j u hj

theorem Own.of {w : World} {base n : Nat} {v : Value} {xs : List Int} {us : List Value} (h : w.ownsRow base 3 1 v n us) (hn : n = xs.length) (hu : us = xs.map (Value.int .i64)) : Own w base v xs := by
  subst hn hu; exact h

theorem Own.nil (w : World) (base : Nat) : Own w base (.slice none 0 0) [] := World.ownsRow_nil _ _ _ _

theorem Own.lit (w : World) (base : Nat) (hb : base ≤ w.heap.size) (xs : List Int) (hl : xs.length ≤ 1000) : Own (w.alloc (.cells (xs.map (Value.int .i64)).toArray 3)) base (.slice (some ⟨w.heap.size, 0, none⟩) xs.length xs.length) xs := by
  have := World.ownsRow_lit (e := 3) (size := 1) w (xs.map (Value.int .i64)).toArray xs.length hb (by unfold maxLen; omega) (by simp)
  exact Own.of this rfl (by simp)

/-- An append of a slice of numbers to one of the call's own. -/
theorem wp_append_ints {ops : Array Oper} {rest : List Oper} {o : Oper} {a : Act} {Q : Exit → Act → World → Prop} {w : World} (hgd : o.guard = none) (s x : Operand)
    (ho : o.op = .call { callee := .builtin .append, args := #[s, x], argTypes := #[22, 22] }) (base : Nat) (v u : Value) (xs ys : List Int)
    (hs : a.eval s = v) (hx : a.eval x = u) (hown : Own w base v xs) (hu : Has w u ys) (hr : (xs.length + ys.length) * 8 ≤ 140737488355328) (hbase : base ≤ w.heap.size)
    (h : ∀ v' w', Own w' base v' (xs ++ ys) → w.grownBy w' v.ownBlock → wpList Try.prog ops Q rest (a.put o.dst v') w') : wpList Try.prog ops Q (o :: rest) a w := by
  obtain ⟨i0, hi, hz0, hz1, hz2⟩ := info_parts info3
  have hu0 := hu
  obtain ⟨ad, cap, rfl, hc, hn, _⟩ := hu
  cases ad with
  | none =>
    have h0 := hn rfl
    have hnil : ys = [] := by cases ys with | nil => rfl | cons _ _ => simp at hc; omega
    subst hnil h0
    refine wpList_append_own_none hgd s x 22 ho base 3 i0 1 Try.underlying22 hi v _ _ hs hown hx ?_
    exact h _ _ (by simpa using hown) (World.grownBy.refl _ _)
  | some ad =>
    refine wpList_append_own w hgd s x 22 ho base 3 i0 (.int .i64 0) 1 8 Try.underlying22 hi hz0 hz1 hz2 rfl (by decide) v _ _ hs hown ad ys.length cap (ys.map (Value.int .i64)) hx (by simp) hu0.cells (ints_oneCell _ _) (by unfold maxLen; omega) hr hbase ?_
    intro v' w' h1 h2 _
    exact h _ _ (Own.of h1 (by simp) (by simp)) h2

theorem row_shape {w : World} {base n : Nat} {v : Value} {us : List Value} (h : w.ownsRow base 3 1 v n us) (hn : 0 < n) : ∃ g cap, v = .slice (some ⟨g, 0, none⟩) n cap ∧ n ≤ cap ∧ base ≤ g ∧ cap ≤ maxLen := by
  rcases h.2 with ⟨_, h0⟩ | ⟨g, cap, cur, hv, hg, _, hn, hm, _⟩
  · omega
  · exact ⟨g, cap, hv, hn, hg, hm⟩

theorem grownBy_trans {a b c : World} {row : Option Nat} (h : a.grownBy b row) (k : b.grownBy c row) : a.grownBy c row :=
  ⟨k.os.trans h.os, k.tape.trans h.tape, k.output.trans h.output, Nat.le_trans h.size k.size, fun i hi hne => (k.block i (Nat.lt_of_lt_of_le hi h.size) hne).trans (h.block i hi hne)⟩

/-- v is a slice of whatever numbers, in blocks from base on, that may be written over. -/
def Ints (w : World) (base : Nat) (v : Value) : Prop :=
  ∃ (a : Option Addr) (n cap : Nat), v = .slice a n cap ∧ n ≤ cap ∧ n ≤ 9223372036854775807 ∧
    (0 < n → ∃ b off, a = some ⟨b, off, none⟩ ∧ base ≤ b ∧ ∀ i, i < n → (∃ x, w.cell? ⟨b, off + i, none⟩ = some (.int .i64 x)) ∧ w.frozen? ⟨b, off + i, none⟩ = false)

theorem Own.ints {w : World} {base : Nat} {v : Value} {xs : List Int} (h : Own w base v xs) : Ints w base v := by
  rcases Nat.eq_zero_or_pos xs.length with h0 | h0
  · obtain ⟨a, cap, hv, hc, _, _⟩ := h.has
    exact ⟨a, xs.length, cap, hv, hc, by omega, fun hp => by omega⟩
  · obtain ⟨g, cap, rfl, hn, hg, hcm⟩ := row_shape h h0
    unfold maxLen at hcm
    refine ⟨_, xs.length, cap, rfl, hn, by omega, fun _ => ⟨g, 0, rfl, hg, fun i hi => ?_⟩⟩
    refine ⟨⟨xs.getD i 0, ?_⟩, ?_⟩
    · rw [Nat.zero_add, World.ownsRow.cellAt (show w.ownsRow base 3 1 _ _ _ from h) i (by omega)]
      simp [List.getElem?_map, List.getElem?_eq_getElem hi, List.getD]
    · rw [Nat.zero_add]; exact World.ownsRow.frozenAt (show w.ownsRow base 3 1 _ _ _ from h) i

/-- What was there below base is as it was; numbers elsewhere may be other numbers, and all else is as it was. -/
structure Spoilt (base : Nat) (w w' : World) : Prop where
  below : Below base w w'
  ints : ∀ p x, w.cell? p = some (.int .i64 x) → ∃ y, w'.cell? p = some (.int .i64 y)
  rest : ∀ p v, w.cell? p = some v → (∀ x, v ≠ .int .i64 x) → w'.cell? p = some v
  thaw : ∀ p, p.block < w.heap.size → w.frozen? p = false → w'.frozen? p = false

theorem Spoilt.refl (base : Nat) (w : World) : Spoilt base w w := ⟨Below.refl _ _, fun _ x h => ⟨x, h⟩, fun _ _ h _ => h, fun _ _ h => h⟩
theorem Spoilt.trans {base : Nat} {a b c : World} (h : Spoilt base a b) (k : Spoilt base b c) : Spoilt base a c :=
  ⟨h.below.trans k.below, fun p x hp => by obtain ⟨y, hy⟩ := h.ints p x hp; exact k.ints p y hy, fun p v hp hv => k.rest p v (h.rest p v hp hv) hv, fun p hp hf => k.thaw p (Nat.lt_of_lt_of_le hp h.below.size) (h.thaw p hp hf)⟩

theorem Spoilt.le {base : Nat} {w w' : World} (hb : base ≤ w.heap.size) (h : Le w w') : Spoilt base w w' :=
  ⟨Below.mono h hb, fun p x hp => ⟨x, by rw [h.cell (World.block_lt_of_cell? w _ hp)]; exact hp⟩, fun p v hp _ => by rw [h.cell (World.block_lt_of_cell? w _ hp)]; exact hp,
    fun p hp hf => by rw [h.frozen hp]; exact hf⟩

theorem Spoilt.store {base : Nat} {w : World} {p : Addr} {x y : Int} (hp : w.cell? p = some (.int .i64 x)) (hb : base ≤ p.block) : Spoilt base w (w.setCell p (.int .i64 y)) := by
  refine ⟨(Below.refl _ _).setCell hb _, fun q z hq => ?_, fun q v hq hv => ?_, fun q _ hf => by simpa using hf⟩
  · by_cases e : p = q
    · subst e; exact ⟨y, World.cell?_setCell_same _ _ _ hp⟩
    · exact ⟨z, (World.cell?_setCell_other _ _ _ _ e).trans hq⟩
  · have e : p ≠ q := fun e => by subst e; rw [hp] at hq; exact hv x (Option.some.inj hq).symm
    exact (World.cell?_setCell_other _ _ _ _ e).trans hq

theorem Ints.spoilt {w w' : World} {base base' : Nat} {v : Value} (h : Ints w base v) (k : Spoilt base' w w') : Ints w' base v := by
  obtain ⟨a, n, cap, hv, hn, hm, hx⟩ := h
  refine ⟨a, n, cap, hv, hn, hm, fun hp => ?_⟩
  obtain ⟨b, off, ha, hb, hc⟩ := hx hp
  refine ⟨b, off, ha, hb, fun i hi => ?_⟩
  obtain ⟨⟨x, h1⟩, h2⟩ := hc i hi
  exact ⟨k.ints _ _ h1, k.thaw _ (World.block_lt_of_cell? w _ h1) h2⟩

end Go.Proofs.Ytnpejgendmgfaaa
