/-
  PLAIN GROUND, NO WALK: a slot of five numbers, when a slice value holds a list of slots in a world, when it is the call's own, and what a later world keeps of both. Condition: at an append, that the bytes are within the reach that every row bears.
-/
import Derived.Test.YtgjhbhnfeeleeaaSlA
import Derived.Test.YtgjhbhnfeeleeaaStA
namespace Go.Proofs.Ytgjhbhnfeeleeaa
open Go.RowKit

/-- A slot: an operation's three numbers, a thread's, a bit. -/
structure Slt where
  c : Int
  r : Int
  a : Int
  t : Int
  b : Int
deriving DecidableEq

abbrev Slt.v (s : Slt) : Value := slotV s.c s.r s.a s.t s.b
def Slt.zero : Slt := ⟨0, 0, 0, 0, 0⟩
def Slt.vals (s : Slt) : List Value := [.int .i64 s.c, .int .i64 s.r, .int .i64 s.a, .int .i64 s.t, .int .i64 s.b]
theorem Slt.len (s : Slt) : s.vals.length = 5 := rfl
/-- The cells of a row of slots. -/
def flatV : List Slt → List Value
  | [] => []
  | s :: ss => s.vals ++ flatV ss
theorem flatV_len : ∀ ss : List Slt, (flatV ss).length = ss.length * 5
  | [] => rfl
  | s :: ss => by simp [flatV, flatV_len ss, Slt.vals]; omega
theorem flatV_append : ∀ ss ts : List Slt, flatV (ss ++ ts) = flatV ss ++ flatV ts
  | [], _ => rfl
  | s :: ss, ts => by simp [flatV, flatV_append ss ts]
theorem flatV_at : ∀ (ss : List Slt) (i j : Nat), i < ss.length → j < 5 → (flatV ss)[i * 5 + j]? = (ss.getD i Slt.zero).vals[j]?
  | [], i, j, h, _ => by simp at h
  | s :: ss, 0, j, _, hj => by
    simp [flatV]
    rw [List.getElem?_append_left (by simp [Slt.vals]; omega)]
  | s :: ss, i + 1, j, h, hj => by
    have e : (i + 1) * 5 + j = s.vals.length + (i * 5 + j) := by simp [Slt.vals]; omega
    rw [flatV, e, List.getElem?_append_right (by omega)]
    simp
    rw [flatV_at ss i j (by simpa using h) hj]
    simp
theorem flatV_one : ∀ (ss : List Slt), ∀ u ∈ flatV ss, ∃ x, u = Value.int .i64 x
  | [], u, h => by simp [flatV] at h
  | s :: ss, u, h => by
    simp only [flatV, List.mem_append] at h
    rcases h with h | h
    · simp [Slt.vals] at h
      rcases h with h | h | h | h | h <;> exact ⟨_, h⟩
    · exact flatV_one ss u h

/-- A slot's five cells lie at off. -/
def SlotAt (w : World) (b off : Nat) (s : Slt) : Prop :=
  w.cell? ⟨b, off, none⟩ = some (.int .i64 s.c) ∧ w.cell? ⟨b, off + 1, none⟩ = some (.int .i64 s.r) ∧ w.cell? ⟨b, off + 2, none⟩ = some (.int .i64 s.a) ∧ w.cell? ⟨b, off + 3, none⟩ = some (.int .i64 s.t) ∧ w.cell? ⟨b, off + 4, none⟩ = some (.int .i64 s.b)

theorem SlotAt.of {w : World} {b off : Nat} {s : Slt} (h : ∀ j, j < 5 → w.cell? ⟨b, off + j, none⟩ = s.vals[j]?) : SlotAt w b off s :=
  ⟨h 0 (by omega), h 1 (by omega), h 2 (by omega), h 3 (by omega), h 4 (by omega)⟩
theorem SlotAt.at {w : World} {b off : Nat} {s : Slt} (h : SlotAt w b off s) : ∀ j, j < 5 → w.cell? ⟨b, off + j, none⟩ = s.vals[j]? := by
  intro j hj
  obtain ⟨h0, h1, h2, h3, h4⟩ := h
  rcases (by omega : j = 0 ∨ j = 1 ∨ j = 2 ∨ j = 3 ∨ j = 4) with rfl | rfl | rfl | rfl | rfl
  · exact h0
  · exact h1
  · exact h2
  · exact h3
  · exact h4
theorem SlotAt.le {w w' : World} {b off : Nat} {s : Slt} (h : SlotAt w b off s) (hl : Le w w') : SlotAt w' b off s := by
  obtain ⟨h0, h1, h2, h3, h4⟩ := h
  have hlt : b < w.heap.size := World.block_lt_of_cell? w _ h0
  exact ⟨(hl.cell (p := ⟨b, off, none⟩) hlt).trans h0, (hl.cell (p := ⟨b, off + 1, none⟩) hlt).trans h1, (hl.cell (p := ⟨b, off + 2, none⟩) hlt).trans h2, (hl.cell (p := ⟨b, off + 3, none⟩) hlt).trans h3, (hl.cell (p := ⟨b, off + 4, none⟩) hlt).trans h4⟩

/-- The slice value v holds the slots ss in the world w. -/
def HasL (w : World) (v : Value) (ss : List Slt) : Prop :=
  ∃ (a : Option Addr) (cap : Nat), v = .slice a ss.length cap ∧ ss.length ≤ cap ∧ (a = none → cap = 0) ∧
    (0 < ss.length → ∃ b off, a = some ⟨b, off, none⟩ ∧ ∀ i, i < ss.length → SlotAt w b (off + i * 5) (ss.getD i Slt.zero))

/-- The slice value v is the call's own (its block is 'base' or later) and holds the slots ss. -/
def OwnL (w : World) (base : Nat) (v : Value) (ss : List Slt) : Prop :=
  w.ownsRow base 53 5 v ss.length (flatV ss)

theorem HasL.le {w w' : World} {v : Value} {ss : List Slt} (h : HasL w v ss) (hb : Le w w') : HasL w' v ss := by
  obtain ⟨a, cap, hv, hc, hn, hx⟩ := h
  refine ⟨a, cap, hv, hc, hn, fun hp => ?_⟩
  obtain ⟨b, off, ha, hcell⟩ := hx hp
  exact ⟨b, off, ha, fun i hi => (hcell i hi).le hb⟩

theorem OwnL.le {w w' : World} {base : Nat} {v : Value} {ss : List Slt} (h : OwnL w base v ss) (hb : Le w w') : OwnL w' base v ss := by
  obtain ⟨h1, h2⟩ := h
  refine ⟨h1, ?_⟩
  rcases h2 with h2 | ⟨g, cap, cur, hv, hg, hh, r⟩
  · exact .inl h2
  · exact .inr ⟨g, cap, cur, hv, hg, by rw [hb.block g (block_lt hh)]; exact hh, r⟩

theorem OwnL.base {w : World} {base base' : Nat} {v : Value} {ss : List Slt} (h : OwnL w base v ss) (hb : base' ≤ base) : OwnL w base' v ss := by
  obtain ⟨h1, h2⟩ := h
  refine ⟨h1, ?_⟩
  rcases h2 with h2 | ⟨g, cap, cur, hv, hg, r⟩
  · exact .inl h2
  · exact .inr ⟨g, cap, cur, hv, by omega, r⟩

theorem cell_of_take {w : World} {g n i : Nat} {cur : Array Value} {e : TypeId} {fz : Nat × Nat} {us : List Value} (hh : w.heap[g]? = some (.cells cur e fz)) (ht : cur.toList.take n = us) (hi : i < n) : w.cell? ⟨g, i, none⟩ = us[i]? := by
  rw [cell_of_row w g i cur e fz hh, ← ht, List.getElem?_take_of_lt hi]
  simp

theorem OwnL.has {w : World} {base : Nat} {v : Value} {ss : List Slt} (h : OwnL w base v ss) : HasL w v ss := by
  obtain ⟨h1, h2⟩ := h
  rcases h2 with ⟨h2, h3⟩ | ⟨g, cap, cur, hv, hg, hh, hn, hm, hs, ht⟩
  · have : ss = [] := by cases ss with | nil => rfl | cons _ _ => simp at h3
    subst this
    exact ⟨none, 0, h2, Nat.le_refl _, fun _ => rfl, fun hp => by simp at hp⟩
  · refine ⟨some ⟨g, 0, none⟩, cap, hv, hn, (fun h => by cases h), fun _ => ⟨g, 0, rfl, fun i hi => SlotAt.of fun j hj => ?_⟩⟩
    rw [Nat.zero_add, cell_of_take hh ht (by omega), flatV_at ss i j hi hj]

theorem HasL.nil (w : World) : HasL w (.slice none 0 0) [] := ⟨none, 0, rfl, Nat.le_refl _, fun _ => rfl, fun h => by simp at h⟩
theorem OwnL.nil (w : World) (base : Nat) : OwnL w base (.slice none 0 0) [] := World.ownsRow_nil _ _ _ _
theorem OwnL.of {w : World} {base n : Nat} {v : Value} {ss : List Slt} {us : List Value} (h : w.ownsRow base 53 5 v n us) (hn : n = ss.length) (hu : us = flatV ss) : OwnL w base v ss := by
  subst hn hu; exact h

/-- The cells that a source of an append gives. -/
theorem HasL.cells {w : World} {a : Addr} {n cap : Nat} {ss : List Slt} (h : HasL w (.slice (some a) n cap) ss) :
    ∀ j u, (flatV ss)[j]? = some u → w.cell? (a.add j) = some u := by
  obtain ⟨a', cap', hv, hc, hn, hx⟩ := h
  simp only [Value.slice.injEq] at hv
  obtain ⟨rfl, rfl, rfl⟩ := hv
  intro j u hj
  have hlt : j < ss.length * 5 := by
    rcases Nat.lt_or_ge j (ss.length * 5) with h' | h'
    · exact h'
    · rw [List.getElem?_eq_none (by rw [flatV_len]; exact h')] at hj; cases hj
  obtain ⟨b, off, ha, hcell⟩ := hx (by omega)
  simp only [Option.some.injEq] at ha
  subst ha
  have e : j = j / 5 * 5 + j % 5 := by omega
  have h1 := (hcell (j / 5) (by omega)).at (j % 5) (by omega)
  rw [e, flatV_at ss (j / 5) (j % 5) (by omega) (by omega)] at hj
  have h2 : (⟨b, off, none⟩ : Addr).add j = ⟨b, off + j / 5 * 5 + j % 5, none⟩ := by
    simp only [Addr.add]
    split
    · next h => subst h; simp
    · simp
  rw [h2, h1, hj]

theorem infoSlot : (Try.prog.info? 53).map (fun i => (i.zero, i.size, i.bytes)) = some (some (.agg #[.int .i64 0, .int .i64 0, .int .i64 0, .int .i64 0, .int .i64 0]), 5, 40) := by kernel_rfl

/-- An append of a slice of slots to one of the call's own. -/
theorem wp_append_slots {ops : Array Oper} {rest : List Oper} {o : Oper} {a : Act} {Q : Exit → Act → World → Prop} {w : World} (hgd : o.guard = none) (s x : Operand)
    (ho : o.op = .call { callee := .builtin .append, args := #[s, x], argTypes := #[22, 22] }) (base : Nat) (v u : Value) (xs ys : List Slt)
    (hs : a.eval s = v) (hx : a.eval x = u) (hown : OwnL w base v xs) (hu : HasL w u ys) (hr : (xs.length + ys.length) * 40 ≤ 140737488355328) (hbase : base ≤ w.heap.size)
    (h : ∀ v' w', OwnL w' base v' (xs ++ ys) → w.grownBy w' v.ownBlock → wpList Try.prog ops Q rest (a.put o.dst v') w') : wpList Try.prog ops Q (o :: rest) a w := by
  obtain ⟨i0, hi, hz0, hz1, hz2⟩ := info_parts infoSlot
  have hu0 := hu
  obtain ⟨ad, cap, rfl, hc, hn, _⟩ := hu
  cases ad with
  | none =>
    have h0 := hn rfl
    have hnil : ys = [] := by cases ys with | nil => rfl | cons _ _ => simp at hc; omega
    subst hnil h0
    refine wpList_append_own_none hgd s x 22 ho base 53 i0 5 Try.underlying22 hi v _ _ hs hown hx ?_
    exact h _ _ (by simpa using hown) (World.grownBy.refl _ _)
  | some ad =>
    refine wpList_append_own w hgd s x 22 ho base 53 i0 _ 5 40 Try.underlying22 hi hz0 hz1 hz2 rfl (by decide) v _ _ hs hown ad ys.length cap (flatV ys) hx (flatV_len ys) hu0.cells (fun u hu => by obtain ⟨x, rfl⟩ := flatV_one ys u hu; rfl) (by unfold maxLen; omega) hr hbase ?_
    intro v' w' h1 h2 _
    exact h _ _ (OwnL.of h1 (by simp) (by rw [flatV_append])) h2

/-- A ring: where it begins, where it ends, its fence, its slots. -/
structure Rg where
  h : Int
  t : Int
  f : Int
  ss : List Slt
deriving DecidableEq

def Rg.zero : Rg := ⟨0, 0, 0, []⟩
/-- The four cells of a ring in a variable. -/
abbrev cellsR (h t f : Int) (q : Sl) : Array Value := #[.int .i64 h, .int .i64 t, .int .i64 f, slV q]
abbrev ringV (h t f : Int) (q : Sl) : Value := .agg (cellsR h t f q)
/-- The value v holds the ring R in the world w. -/
def HasR (w : World) (v : Value) (R : Rg) : Prop := ∃ q, v = ringV R.h R.t R.f q ∧ HasL w (slV q) R.ss
/-- .. in the call's own memory. -/
def OwnR (w : World) (base : Nat) (v : Value) (R : Rg) : Prop := ∃ q, v = ringV R.h R.t R.f q ∧ OwnL w base (slV q) R.ss
/-- Its slots can be copied. -/
def FitR (R : Rg) : Prop := R.ss.length * 40 ≤ 140737488351232

theorem HasR.le {w w' : World} {v : Value} {R : Rg} (h : HasR w v R) (hl : Le w w') : HasR w' v R := by
  obtain ⟨q, hv, hr⟩ := h; exact ⟨q, hv, hr.le hl⟩
theorem OwnR.le {w w' : World} {base : Nat} {v : Value} {R : Rg} (h : OwnR w base v R) (hl : Le w w') : OwnR w' base v R := by
  obtain ⟨q, hv, hr⟩ := h; exact ⟨q, hv, hr.le hl⟩
theorem OwnR.base {w : World} {base base' : Nat} {v : Value} {R : Rg} (h : OwnR w base v R) (hb : base' ≤ base) : OwnR w base' v R := by
  obtain ⟨q, hv, hr⟩ := h; exact ⟨q, hv, hr.base hb⟩
theorem OwnR.has {w : World} {base : Nat} {v : Value} {R : Rg} (h : OwnR w base v R) : HasR w v R := by
  obtain ⟨q, hv, hr⟩ := h; exact ⟨q, hv, hr.has⟩
/-- The value of no ring. -/
abbrev ringZ : Value := .agg #[.int .i64 0, .int .i64 0, .int .i64 0, .slice none 0 0]
theorem OwnR.zero (w : World) (base : Nat) : OwnR w base ringZ Rg.zero := ⟨slZ, rfl, OwnL.nil _ _⟩
theorem HasR.zero (w : World) : HasR w ringZ Rg.zero := (OwnR.zero w 0).has
theorem fitR_zero : FitR Rg.zero := by simp [FitR, Rg.zero]

theorem HasL.sl {w : World} {v : Value} {ss : List Slt} (h : HasL w v ss) : ∃ q : Sl, v = slV q := by
  obtain ⟨a, cap, hv, _⟩ := h; exact ⟨(a, _, cap), hv⟩
theorem HasL.len {w : World} {q : Sl} {ss : List Slt} (h : HasL w (slV q) ss) : q.2.1 = ss.length := by
  obtain ⟨a, cap, hv, _⟩ := h
  simp only [slV, Value.slice.injEq] at hv
  exact hv.2.1
theorem Box.ring {w : World} {g : Nat} {x y z u : Value} {t : TypeId} (h : Box w g #[x, y, z, u] t) :
    w.cell? ⟨g, 0, none⟩ = some x ∧ w.cell? ⟨g, 1, none⟩ = some y ∧ w.cell? ⟨g, 2, none⟩ = some z ∧ w.cell? ⟨g, 3, none⟩ = some u ∧
    w.frozen? ⟨g, 0, none⟩ = false ∧ w.frozen? ⟨g, 1, none⟩ = false ∧ w.frozen? ⟨g, 2, none⟩ = false ∧ w.frozen? ⟨g, 3, none⟩ = false :=
  ⟨h.cell 0, h.cell 1, h.cell 2, h.cell 3, h.frozen 0, h.frozen 1, h.frozen 2, h.frozen 3⟩

/-- A row of slots lies elsewhere than a box of another type. -/
theorem OwnL.apart {w : World} {base g : Nat} {v : Value} {ss : List Slt} {cs : Array Value} {t : TypeId} (h : OwnL w base v ss) (hb : Box w g cs t) (ht : t ≠ 53) : v.ownBlock ≠ some g := by
  intro e
  rcases h.2 with ⟨h2, _⟩ | ⟨g', cap, cur, hv, hg, hh, _⟩
  · rw [h2] at e; simp [Value.ownBlock] at e
  · rw [hv] at e
    simp [Value.ownBlock] at e
    subst e
    unfold Box at hb
    rw [hb] at hh
    simp at hh
    exact ht hh.2
theorem OwnL.setBox {w : World} {base g i : Nat} {v u : Value} {ss : List Slt} {cs : Array Value} {t : TypeId} (h : OwnL w base v ss) (hb : Box w g cs t) (ht : t ≠ 53) : OwnL (w.setCell ⟨g, i, none⟩ u) base v ss :=
  ownsRow_setCell_other h (h.apart hb ht) u
theorem OwnL.set {w : World} {base g i : Nat} {v u : Value} {ss : List Slt} (h : OwnL w base v ss) (hne : v.ownBlock ≠ some g) : OwnL (w.setCell ⟨g, i, none⟩ u) base v ss :=
  ownsRow_setCell_other h hne u
theorem Le.set {w w' : World} {g i : Nat} {u : Value} (h : Le w w') (hg : w.heap.size ≤ g) : Le w (w'.setCell ⟨g, i, none⟩ u) := Below.setCell h hg u
theorem OwnL.block {w : World} {base g : Nat} {v : Value} {ss : List Slt} (h : OwnL w base v ss) (e : v.ownBlock = some g) : base ≤ g ∧ g < w.heap.size := by
  rcases h.2 with ⟨h2, _⟩ | ⟨g', cap, cur, hv, hg, hh, _⟩
  · rw [h2] at e; simp [Value.ownBlock] at e
  · rw [hv] at e
    simp [Value.ownBlock] at e
    subst e
    exact ⟨hg, block_lt hh⟩

theorem OwnL.off {w : World} {base g : Nat} {v : Value} {ss : List Slt} (h : OwnL w base v ss) (hg : g < base) : v.ownBlock ≠ some g := fun e => by
  have := (h.block e).1
  omega

end Go.Proofs.Ytgjhbhnfeeleeaa
