/-
  PLAIN GROUND, NO WALK: an operation of three numbers, when a slice value holds a list of operations in a world, when it is the call's own, and what a later world keeps of both. Condition: at an append, that the bytes are within the reach that every row bears.
-/
import Derived.Test.YtnpejgendmgfaaaStA
import Derived.Test.YtnpejgendmgfaaaOpMay
import Derived.Maps.AppendAt
namespace Go.Proofs.Ytnpejgendmgfaaa
open Go.RowKit

/-- An operation: its code, its row, its number. -/
structure Opr where
  c : Int
  r : Int
  a : Int
deriving DecidableEq

abbrev Opr.v (s : Opr) : Value := opV s.c s.r s.a
def Opr.zero : Opr := ⟨0, 0, 0⟩
def Opr.vals (s : Opr) : List Value := [.int .i64 s.c, .int .i64 s.r, .int .i64 s.a]
theorem Opr.len (s : Opr) : s.vals.length = 3 := rfl
/-- The cells of a row of operations. -/
def flatO : List Opr → List Value
  | [] => []
  | s :: ss => s.vals ++ flatO ss
theorem flatO_len : ∀ ss : List Opr, (flatO ss).length = ss.length * 3
  | [] => rfl
  | s :: ss => by simp [flatO, flatO_len ss, Opr.vals]; omega
theorem flatO_append : ∀ ss ts : List Opr, flatO (ss ++ ts) = flatO ss ++ flatO ts
  | [], _ => rfl
  | s :: ss, ts => by simp [flatO, flatO_append ss ts]
theorem flatO_at : ∀ (ss : List Opr) (i j : Nat), i < ss.length → j < 3 → (flatO ss)[i * 3 + j]? = (ss.getD i Opr.zero).vals[j]?
  | [], i, j, h, _ => by simp at h
  | s :: ss, 0, j, _, hj => by
    simp [flatO]
    rw [List.getElem?_append_left (by simp [Opr.vals]; omega)]
  | s :: ss, i + 1, j, h, hj => by
    have e : (i + 1) * 3 + j = s.vals.length + (i * 3 + j) := by simp [Opr.vals]; omega
    rw [flatO, e, List.getElem?_append_right (by omega)]
    simp
    rw [flatO_at ss i j (by simpa using h) hj]
    simp
theorem flatO_one : ∀ (ss : List Opr), ∀ u ∈ flatO ss, ∃ x, u = Value.int .i64 x
  | [], u, h => by simp [flatO] at h
  | s :: ss, u, h => by
    simp only [flatO, List.mem_append] at h
    rcases h with h | h
    · simp [Opr.vals] at h
      rcases h with h | h | h <;> exact ⟨_, h⟩
    · exact flatO_one ss u h

/-- A operation's three cells lie at off. -/
def OprAt (w : World) (b off : Nat) (s : Opr) : Prop :=
  w.cell? ⟨b, off, none⟩ = some (.int .i64 s.c) ∧ w.cell? ⟨b, off + 1, none⟩ = some (.int .i64 s.r) ∧ w.cell? ⟨b, off + 2, none⟩ = some (.int .i64 s.a)

theorem OprAt.of {w : World} {b off : Nat} {s : Opr} (h : ∀ j, j < 3 → w.cell? ⟨b, off + j, none⟩ = s.vals[j]?) : OprAt w b off s :=
  ⟨h 0 (by omega), h 1 (by omega), h 2 (by omega)⟩
theorem OprAt.at {w : World} {b off : Nat} {s : Opr} (h : OprAt w b off s) : ∀ j, j < 3 → w.cell? ⟨b, off + j, none⟩ = s.vals[j]? := by
  intro j hj
  obtain ⟨h0, h1, h2⟩ := h
  rcases (by omega : j = 0 ∨ j = 1 ∨ j = 2) with rfl | rfl | rfl
  · exact h0
  · exact h1
  · exact h2
theorem OprAt.le {w w' : World} {b off : Nat} {s : Opr} (h : OprAt w b off s) (hl : Le w w') : OprAt w' b off s := by
  obtain ⟨h0, h1, h2⟩ := h
  have hlt : b < w.heap.size := World.block_lt_of_cell? w _ h0
  exact ⟨(hl.cell (p := ⟨b, off, none⟩) hlt).trans h0, (hl.cell (p := ⟨b, off + 1, none⟩) hlt).trans h1, (hl.cell (p := ⟨b, off + 2, none⟩) hlt).trans h2⟩

/-- The slice value v holds the operations ss in the world w. -/
def HasO (w : World) (v : Value) (ss : List Opr) : Prop :=
  ∃ (a : Option Addr) (cap : Nat), v = .slice a ss.length cap ∧ ss.length ≤ cap ∧ (a = none → cap = 0) ∧
    (0 < ss.length → ∃ b off, a = some ⟨b, off, none⟩ ∧ ∀ i, i < ss.length → OprAt w b (off + i * 3) (ss.getD i Opr.zero))

/-- The slice value v is the call's own (its block is 'base' or later) and holds the operations ss. -/
def OwnO (w : World) (base : Nat) (v : Value) (ss : List Opr) : Prop :=
  w.ownsRow base 43 3 v ss.length (flatO ss)

theorem HasO.le {w w' : World} {v : Value} {ss : List Opr} (h : HasO w v ss) (hb : Le w w') : HasO w' v ss := by
  obtain ⟨a, cap, hv, hc, hn, hx⟩ := h
  refine ⟨a, cap, hv, hc, hn, fun hp => ?_⟩
  obtain ⟨b, off, ha, hcell⟩ := hx hp
  exact ⟨b, off, ha, fun i hi => (hcell i hi).le hb⟩

theorem OwnO.le {w w' : World} {base : Nat} {v : Value} {ss : List Opr} (h : OwnO w base v ss) (hb : Le w w') : OwnO w' base v ss := by
  obtain ⟨h1, h2⟩ := h
  refine ⟨h1, ?_⟩
  rcases h2 with h2 | ⟨g, cap, cur, hv, hg, hh, r⟩
  · exact .inl h2
  · exact .inr ⟨g, cap, cur, hv, hg, by rw [hb.block g (block_lt hh)]; exact hh, r⟩

theorem OwnO.base {w : World} {base base' : Nat} {v : Value} {ss : List Opr} (h : OwnO w base v ss) (hb : base' ≤ base) : OwnO w base' v ss := by
  obtain ⟨h1, h2⟩ := h
  refine ⟨h1, ?_⟩
  rcases h2 with h2 | ⟨g, cap, cur, hv, hg, r⟩
  · exact .inl h2
  · exact .inr ⟨g, cap, cur, hv, by omega, r⟩

theorem cell_of_take {w : World} {g n i : Nat} {cur : Array Value} {e : TypeId} {fz : Nat × Nat} {us : List Value} (hh : w.heap[g]? = some (.cells cur e fz)) (ht : cur.toList.take n = us) (hi : i < n) : w.cell? ⟨g, i, none⟩ = us[i]? := by
  rw [cell_of_row w g i cur e fz hh, ← ht, List.getElem?_take_of_lt hi]
  simp

theorem OwnO.has {w : World} {base : Nat} {v : Value} {ss : List Opr} (h : OwnO w base v ss) : HasO w v ss := by
  obtain ⟨h1, h2⟩ := h
  rcases h2 with ⟨h2, h3⟩ | ⟨g, cap, cur, hv, hg, hh, hn, hm, hs, ht⟩
  · have : ss = [] := by cases ss with | nil => rfl | cons _ _ => simp at h3
    subst this
    exact ⟨none, 0, h2, Nat.le_refl _, fun _ => rfl, fun hp => by simp at hp⟩
  · refine ⟨some ⟨g, 0, none⟩, cap, hv, hn, (fun h => by cases h), fun _ => ⟨g, 0, rfl, fun i hi => OprAt.of fun j hj => ?_⟩⟩
    rw [Nat.zero_add, cell_of_take hh ht (by omega), flatO_at ss i j hi hj]

theorem HasO.nil (w : World) : HasO w (.slice none 0 0) [] := ⟨none, 0, rfl, Nat.le_refl _, fun _ => rfl, fun h => by simp at h⟩
theorem OwnO.nil (w : World) (base : Nat) : OwnO w base (.slice none 0 0) [] := World.ownsRow_nil _ _ _ _
theorem OwnO.of {w : World} {base n : Nat} {v : Value} {ss : List Opr} {us : List Value} (h : w.ownsRow base 43 3 v n us) (hn : n = ss.length) (hu : us = flatO ss) : OwnO w base v ss := by
  subst hn hu; exact h

/-- The cells that a source of an append gives. -/
theorem HasO.cells {w : World} {a : Addr} {n cap : Nat} {ss : List Opr} (h : HasO w (.slice (some a) n cap) ss) :
    ∀ j u, (flatO ss)[j]? = some u → w.cell? (a.add j) = some u := by
  obtain ⟨a', cap', hv, hc, hn, hx⟩ := h
  simp only [Value.slice.injEq] at hv
  obtain ⟨rfl, rfl, rfl⟩ := hv
  intro j u hj
  have hlt : j < ss.length * 3 := by
    rcases Nat.lt_or_ge j (ss.length * 3) with h' | h'
    · exact h'
    · rw [List.getElem?_eq_none (by rw [flatO_len]; exact h')] at hj; cases hj
  obtain ⟨b, off, ha, hcell⟩ := hx (by omega)
  simp only [Option.some.injEq] at ha
  subst ha
  have e : j = j / 3 * 3 + j % 3 := by omega
  have h1 := (hcell (j / 3) (by omega)).at (j % 3) (by omega)
  rw [e, flatO_at ss (j / 3) (j % 3) (by omega) (by omega)] at hj
  have h2 : (⟨b, off, none⟩ : Addr).add j = ⟨b, off + j / 3 * 3 + j % 3, none⟩ := by
    simp only [Addr.add]
    split
    · next h => subst h; simp
    · simp
  rw [h2, h1, hj]

theorem infoOp : (Try.prog.info? 43).map (fun i => (i.zero, i.size, i.bytes)) = some (some (.agg #[.int .i64 0, .int .i64 0, .int .i64 0]), 3, 24) := by kernel_rfl

/-- An append of a slice of operations to one of the call's own. -/
theorem wp_append_ops {ops : Array Oper} {rest : List Oper} {o : Oper} {a : Act} {Q : Exit → Act → World → Prop} {w : World} (hgd : o.guard = none) (s x : Operand)
    (ho : o.op = .call { callee := .builtin .append, args := #[s, x], argTypes := #[26, 26] }) (base : Nat) (v u : Value) (xs ys : List Opr)
    (hs : a.eval s = v) (hx : a.eval x = u) (hown : OwnO w base v xs) (hu : HasO w u ys) (hr : (xs.length + ys.length) * 24 ≤ 140737488355328) (hbase : base ≤ w.heap.size)
    (h : ∀ v' w', OwnO w' base v' (xs ++ ys) → w.grownBy w' v.ownBlock → (v'.ownBlock = v.ownBlock ∨ v'.ownBlock = some w.heap.size) → wpList Try.prog ops Q rest (a.put o.dst v') w') : wpList Try.prog ops Q (o :: rest) a w := by
  obtain ⟨i0, hi, hz0, hz1, hz2⟩ := info_parts infoOp
  have hu0 := hu
  obtain ⟨ad, cap, rfl, hc, hn, _⟩ := hu
  cases ad with
  | none =>
    have h0 := hn rfl
    have hnil : ys = [] := by cases ys with | nil => rfl | cons _ _ => simp at hc; omega
    subst hnil h0
    refine wpList_append_own_none hgd s x 26 ho base 43 i0 3 Try.underlying26 hi v _ _ hs hown hx ?_
    exact h _ _ (by simpa using hown) (World.grownBy.refl _ _) (.inl rfl)
  | some ad =>
    refine wpList_append_own_at w hgd s x 26 ho base 43 i0 _ 3 24 Try.underlying26 hi hz0 hz1 hz2 rfl (by decide) v _ _ hs hown ad ys.length cap (flatO ys) hx (flatO_len ys) hu0.cells (fun u hu => by obtain ⟨x, rfl⟩ := flatO_one ys u hu; rfl) (by unfold maxLen; omega) hr hbase ?_
    intro v' w' h1 h2 _ h4
    exact h _ _ (OwnO.of h1 (by simp) (by rw [flatO_append])) h2 h4

theorem HasO.sl {w : World} {v : Value} {ss : List Opr} (h : HasO w v ss) : ∃ q : Sl, v = slV q := by
  obtain ⟨a, cap, hv, _⟩ := h; exact ⟨(a, _, cap), hv⟩
theorem HasO.len {w : World} {q : Sl} {ss : List Opr} (h : HasO w (slV q) ss) : q.2.1 = ss.length := by
  obtain ⟨a, cap, hv, _⟩ := h
  simp only [slV, Value.slice.injEq] at hv
  exact hv.2.1
/-- A row of operations lies elsewhere than a box of another type. -/
theorem OwnO.apart {w : World} {base g : Nat} {v : Value} {ss : List Opr} {cs : Array Value} {t : TypeId} (h : OwnO w base v ss) (hb : Box w g cs t) (ht : t ≠ 43) : v.ownBlock ≠ some g := by
  intro e
  rcases h.2 with ⟨h2, _⟩ | ⟨g', cap, cur, hv, hg, hh, _⟩
  · rw [h2] at e; simp [Value.ownBlock] at e
  · rw [hv] at e
    simp [Value.ownBlock] at e
    subst e
    unfold Box at hb
    rw [hb] at hh
    simp at hh
    exact ht hh.2
theorem OwnO.setBox {w : World} {base g i : Nat} {v u : Value} {ss : List Opr} {cs : Array Value} {t : TypeId} (h : OwnO w base v ss) (hb : Box w g cs t) (ht : t ≠ 43) : OwnO (w.setCell ⟨g, i, none⟩ u) base v ss :=
  ownsRow_setCell_other h (h.apart hb ht) u
theorem OwnO.set {w : World} {base g i : Nat} {v u : Value} {ss : List Opr} (h : OwnO w base v ss) (hne : v.ownBlock ≠ some g) : OwnO (w.setCell ⟨g, i, none⟩ u) base v ss :=
  ownsRow_setCell_other h hne u
theorem OwnO.block {w : World} {base g : Nat} {v : Value} {ss : List Opr} (h : OwnO w base v ss) (e : v.ownBlock = some g) : base ≤ g ∧ g < w.heap.size := by
  rcases h.2 with ⟨h2, _⟩ | ⟨g', cap, cur, hv, hg, hh, _⟩
  · rw [h2] at e; simp [Value.ownBlock] at e
  · rw [hv] at e
    simp [Value.ownBlock] at e
    subst e
    exact ⟨hg, block_lt hh⟩

theorem OwnO.off {w : World} {base g : Nat} {v : Value} {ss : List Opr} (h : OwnO w base v ss) (hg : g < base) : v.ownBlock ≠ some g := fun e => by
  have := (h.block e).1
  omega

/-- A literal of operations. -/
theorem OwnO.lit (w : World) (base : Nat) (hb : base ≤ w.heap.size) (ss : List Opr) (hl : ss.length ≤ 1000) : OwnO (w.alloc (.cells (flatO ss).toArray 43)) base (.slice (some ⟨w.heap.size, 0, none⟩) ss.length ss.length) ss := by
  have := World.ownsRow_lit (e := 43) (size := 3) w (flatO ss).toArray ss.length hb (by unfold maxLen; omega) (by simp [flatO_len])
  exact OwnO.of this rfl (by simp)

/-- A row of the call's own that lies elsewhere than what has grown. -/
theorem OwnO.grown {w w' : World} {base : Nat} {v : Value} {ss : List Opr} {row : Option Nat} (h : OwnO w base v ss) (hg : w.grownBy w' row) (hne : ∀ g, v.ownBlock = some g → row ≠ some g) : OwnO w' base v ss := by
  obtain ⟨h1, h2⟩ := h
  refine ⟨h1, ?_⟩
  rcases h2 with h2 | ⟨g, cap, cur, hv, hb, hh, r⟩
  · exact .inl h2
  · exact .inr ⟨g, cap, cur, hv, hb, by rw [hg.block g (block_lt hh) (fun e => hne g (by rw [hv]; rfl) e.symm)]; exact hh, r⟩

/-- An operation's cells in a row. -/
theorem HasO.at {w : World} {b off n cap : Nat} {ss : List Opr} (h : HasO w (.slice (some ⟨b, off, none⟩) n cap) ss) {i : Nat} (hi : i < ss.length) : OprAt w b (off + i * 3) (ss.getD i Opr.zero) := by
  obtain ⟨a, cap', hv, hc, hn, hx⟩ := h
  obtain ⟨b', off', ha, hcell⟩ := hx (by omega)
  simp only [Value.slice.injEq] at hv
  obtain ⟨h1, _, _⟩ := hv
  rw [ha] at h1
  simp only [Option.some.injEq, Addr.mk.injEq, and_true] at h1
  obtain ⟨rfl, rfl⟩ := h1
  exact hcell i hi
theorem HasO.shape {w : World} {v : Value} {ss : List Opr} (h : HasO w v ss) : ∃ a cap, v = .slice a ss.length cap := by
  obtain ⟨a, cap, hv, _⟩ := h; exact ⟨a, cap, hv⟩

/-- Two rows of operations of the call's own, each in another block. -/
structure TwoO (w wr : World) (y z : Value) (ys zs : List Opr) : Prop where
  oy : OwnO wr w.heap.size y ys
  oz : OwnO wr w.heap.size z zs
  ap : ∀ g, y.ownBlock = some g → z.ownBlock ≠ some g
  le : Le w wr

theorem TwoO.nil (w : World) : TwoO w w (.slice none 0 0) (.slice none 0 0) [] [] := ⟨OwnO.nil _ _, OwnO.nil _ _, (fun g h => by simp [Value.ownBlock] at h), Le.refl _⟩
theorem TwoO.symm {w wr : World} {y z : Value} {ys zs : List Opr} (h : TwoO w wr y z ys zs) : TwoO w wr z y zs ys := ⟨h.oz, h.oy, fun g h1 h2 => h.ap g h2 h1, h.le⟩
theorem TwoO.later {w wr w1 : World} {y z : Value} {ys zs : List Opr} (h : TwoO w wr y z ys zs) (l : Le wr w1) : TwoO w w1 y z ys zs := ⟨h.oy.le l, h.oz.le l, h.ap, h.le.trans l⟩
theorem TwoO.left {w w1 w2 : World} {y y' z : Value} {ys ys' zs : List Opr} (h : TwoO w w1 y z ys zs) (ho : OwnO w2 w.heap.size y' ys') (hg : w1.grownBy w2 y.ownBlock) (hat : y'.ownBlock = y.ownBlock ∨ y'.ownBlock = some w1.heap.size) : TwoO w w2 y' z ys' zs := by
  refine ⟨ho, h.oz.grown hg (fun g h1 h2 => h.ap g h2 h1), fun g h1 h2 => ?_, Below.grown h.le hg h.le.size (fun g hg => (World.ownsRow.lt h.oy g hg).1)⟩
  rcases hat with e | e
  · rw [e] at h1; exact h.ap g h1 h2
  · rw [e] at h1
    have := (World.ownsRow.lt h.oz g h2).2
    simp at h1
    omega

end Go.Proofs.Ytnpejgendmgfaaa
