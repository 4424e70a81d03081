/-
  PARTS LAID TOGETHER, each with its own opening: Base, Ground, Slc, StA, NumA, SameA, Later, StB, OpMay, Obj, Sts, StoreA, StoreB, StoreC, Ins, InsA, FdsA, App, StPut2, Cnt, FdsB, FdsC, FdsD, QueA, QueB, QueC, ObjS, ObjR, ComS, OpsA.
-/
import Derived.Test.YtnpejgendmgfaaaRows
import Derived.WalkKit
import Derived.WalkSpells
import Derived.WalkLawsBesides
import Derived.Laws.AppendOwnNone
import Derived.Lib.SliceRun
import Derived.Deep.QuietTactic
import Derived.BigQuiet
import Derived.Deep.RegionHeld3
import Derived.Deep.Cut
import Derived.Shelf.Spec.SlicesInsertGrow
import Derived.Deep.RegionLaw
import Derived.Maps.AppendAt
/-
  PLAIN GROUND, NO WALK: when a slice value holds a list of numbers in a world ('Has'), when it is the call's own ('Own'), and what a later world keeps of both; the document's cells as functions on lists. No condition.
-/
namespace Go.Proofs.Ytnpejgendmgfaaa
open Go.RowKit

/-- The slice value v holds the numbers xs in the world w. -/
def Has (w : World) (v : Value) (xs : List Int) : Prop :=
  ∃ (a : Option Addr) (cap : Nat), v = .slice a xs.length cap ∧ xs.length ≤ cap ∧ (a = none → cap = 0) ∧
    (0 < xs.length → ∃ b off, a = some ⟨b, off, none⟩ ∧ ∀ i, i < xs.length → w.cell? ⟨b, off + i, none⟩ = some (.int .i64 (xs.getD i 0)))

/-- The slice value v is the call's own (its block is 'base' or later) and holds the numbers xs. -/
def Own (w : World) (base : Nat) (v : Value) (xs : List Int) : Prop :=
  w.ownsRow base 3 1 v xs.length (xs.map (Value.int .i64))

theorem block_lt {w : World} {g : Nat} {o : Obj} (h : w.heap[g]? = some o) : g < w.heap.size := by
  rcases Nat.lt_or_ge g w.heap.size with h' | h'
  · exact h'
  · rw [Array.getElem?_eq_none h'] at h; cases h

theorem Has.later {w w' : World} {v : Value} {xs : List Int} (h : Has w v xs) (hb : Below w.heap.size w w') : Has w' v xs := by
  obtain ⟨a, cap, hv, hc, hn, hx⟩ := h
  refine ⟨a, cap, hv, hc, hn, fun hp => ?_⟩
  obtain ⟨b, off, ha, hcell⟩ := hx hp
  refine ⟨b, off, ha, fun i hi => ?_⟩
  have h1 := hcell i hi
  have hlt : b < w.heap.size := World.block_lt_of_cell? w _ h1
  rw [hb.cell (p := ⟨b, off + i, none⟩) hlt]; exact h1

theorem Own.later {w w' : World} {base : Nat} {v : Value} {xs : List Int} (h : Own w base v xs) (hb : Below w.heap.size w w') : Own w' base v xs := by
  obtain ⟨h1, h2⟩ := h
  refine ⟨h1, ?_⟩
  rcases h2 with h2 | ⟨g, cap, cur, hv, hg, hh, r⟩
  · exact .inl h2
  · exact .inr ⟨g, cap, cur, hv, hg, by rw [hb.block g (block_lt hh)]; exact hh, r⟩

theorem Own.base {w : World} {base base' : Nat} {v : Value} {xs : List Int} (h : Own w base v xs) (hb : base' ≤ base) : Own w base' v xs := by
  obtain ⟨h1, h2⟩ := h
  refine ⟨h1, ?_⟩
  rcases h2 with h2 | ⟨g, cap, cur, hv, hg, r⟩
  · exact .inl h2
  · exact .inr ⟨g, cap, cur, hv, by omega, r⟩

theorem Own.has {w : World} {base : Nat} {v : Value} {xs : List Int} (h : Own w base v xs) : Has w v xs := by
  have h' := h
  obtain ⟨h1, h2⟩ := h
  rcases h2 with ⟨h2, h3⟩ | ⟨g, cap, cur, hv, hg, hh, hn, hm, hs, ht⟩
  · have : xs = [] := by cases xs with | nil => rfl | cons _ _ => simp at h3
    subst this
    exact ⟨none, 0, h2, Nat.le_refl _, fun _ => rfl, fun hp => by simp at hp⟩
  · refine ⟨some ⟨g, 0, none⟩, cap, hv, hn, (fun h => by cases h), fun _ => ⟨g, 0, rfl, fun i hi => ?_⟩⟩
    rw [hv] at h'
    have := World.ownsRow.cellAt h' i (by omega)
    rw [Nat.zero_add, this]
    simp [List.getElem?_map, List.getElem?_eq_getElem hi, List.getD]

theorem Has.nil (w : World) : Has w (.slice none 0 0) [] := ⟨none, 0, rfl, Nat.le_refl _, fun _ => rfl, fun h => by simp at h⟩

theorem Has.shape {w : World} {v : Value} {xs : List Int} (h : Has w v xs) : ∃ a cap, v = .slice a xs.length cap := by
  obtain ⟨a, cap, hv, _⟩ := h; exact ⟨a, cap, hv⟩

/-! The document's cells. -/
def holdB (x : Int) : Bool := decide (0 ≤ x) && decide (x ≤ 1048576)
def mayB (xs : List Int) : Bool := decide (xs.length ≤ 16) && xs.all holdB
def atB (xs : List Int) (at' : Int) : Bool := mayB xs && decide (0 ≤ at') && decide (at' < xs.length)
def loadS (xs : List Int) (p : Int) : Int × Int := if atB xs p then (xs.getD p.toNat 0, 0) else (0, 100)
def storeS (xs : List Int) (p x : Int) : List Int × Int := if atB xs p && holdB x then (xs.set p.toNat x, 0) else ([], 100)
def swapS (xs : List Int) (p old new : Int) : List Int × Bool × Int :=
  if atB xs p && holdB new then (if xs.getD p.toNat 0 = old then (xs.set p.toNat new, true, 0) else (xs, false, 0)) else ([], false, 100)
def addS (xs : List Int) (p d : Int) : List Int × Int × Int :=
  if atB xs p && holdB (xs.getD p.toNat 0 + d) then (xs.set p.toNat (xs.getD p.toNat 0 + d), xs.getD p.toNat 0, 0) else ([], 0, 100)

end Go.Proofs.Ytnpejgendmgfaaa

/-
  PLAIN GROUND, NO WALK: what a later world keeps of an elder one. No condition.
-/
namespace Go.Proofs.Ytnpejgendmgfaaa
open Go.RowKit

theorem ret_bool {a b : Bool} (h : a = b) : Ending.returned (.bool a) = .returned (.bool b) := by rw [h]

/-- The later world w' has all that w had. -/
def Le (w w' : World) : Prop := Below w.heap.size w w'
theorem Le.refl (w : World) : Le w w := Below.refl _ _
theorem Le.trans {a b c : World} (h : Le a b) (k : Le b c) : Le a c := Below.trans h (Below.mono k h.size)
theorem Le.alloc (w : World) (o : Obj) : Le w (w.alloc o) := (Below.refl _ _).alloc (Nat.le_refl _) _
theorem Le.drew (w : World) : Le w w.drew := (Below.refl _ _).drew
theorem Le.drewN (w : World) (n : Nat) : Le w (w.drewN n) := below_drewN (Below.refl _ _) n
theorem Has.le {w w' : World} {v : Value} {xs : List Int} (h : Has w v xs) (hl : Le w w') : Has w' v xs := h.later hl
theorem Own.le {w w' : World} {base : Nat} {v : Value} {xs : List Int} (h : Own w base v xs) (hl : Le w w') : Own w' base v xs := h.later hl

/-- Block g of the world w is a row of the cells cs. -/
def Box (w : World) (g : Nat) (cs : Array Value) (t : TypeId) : Prop := w.heap[g]? = some (.cells cs t (0, 0))

theorem Box.lt {w : World} {g : Nat} {cs : Array Value} {t : TypeId} (h : Box w g cs t) : g < w.heap.size := block_lt h
theorem Box.le {w w' : World} {g : Nat} {cs : Array Value} {t : TypeId} (h : Box w g cs t) (hl : Le w w') : Box w' g cs t := by
  have := hl.block g h.lt
  unfold Box
  rw [this]
  exact h
theorem Box.new (w : World) (cs : Array Value) (t : TypeId) : Box (w.alloc (.cells cs t)) w.heap.size cs t := heap_alloc_new w _
theorem Box.cell {w : World} {g : Nat} {cs : Array Value} {t : TypeId} (h : Box w g cs t) (i : Nat) : w.cell? ⟨g, i, none⟩ = cs[i]? := cell_of_row w g i cs t (0, 0) h
theorem Box.frozen {w : World} {g : Nat} {cs : Array Value} {t : TypeId} (h : Box w g cs t) (i : Nat) : w.frozen? ⟨g, i, none⟩ = false := by
  unfold World.frozen?
  rw [show w.heap[(⟨g, i, none⟩ : Addr).block]? = some (.cells cs t (0, 0)) from h]
  simp
theorem Box.op {w : World} {g : Nat} {x y z : Value} {t : TypeId} (h : Box w g #[x, y, z] t) :
    w.cell? ⟨g, 0, none⟩ = some x ∧ w.cell? ⟨g, 1, none⟩ = some y ∧ w.cell? ⟨g, 2, none⟩ = some z ∧
    w.frozen? ⟨g, 0, none⟩ = false ∧ w.frozen? ⟨g, 1, none⟩ = false ∧ w.frozen? ⟨g, 2, none⟩ = false :=
  ⟨h.cell 0, h.cell 1, h.cell 2, h.frozen 0, h.frozen 1, h.frozen 2⟩

end Go.Proofs.Ytnpejgendmgfaaa

/-
  PLAIN GROUND: slices of numbers that are handed on, appended to, or written over: what a later world keeps of them. No condition but, at an append, that the bytes are within the reach that every row bears.
-/
namespace Go.Proofs.Ytnpejgendmgfaaa
open Go.RowKit

theorem info3 : (Try.prog.info? 3).map (fun i => (i.zero, i.size, i.bytes)) = some (some (.int .i64 0), 1, 8) := by kernel_rfl

theorem add_plain (b off j : Nat) : (⟨b, off, none⟩ : Addr).add j = ⟨b, off + j, none⟩ := by
  simp only [Addr.add]; split
  · next h => subst h; rfl
  · rfl

theorem ints_at_news {w : World} {xs : List Int} {b off : Nat} (h : ∀ i, i < xs.length → w.cell? ⟨b, off + i, none⟩ = some (.int .i64 (xs.getD i 0))) :
    ∀ j u, (xs.map (Value.int .i64))[j]? = some u → w.cell? ((⟨b, off, none⟩ : Addr).add j) = some u := by
  intro j u hj
  rw [List.getElem?_map] at hj
  have hlt : j < xs.length := by
    rcases Nat.lt_or_ge j xs.length with h' | h'
    · exact h'
    · rw [List.getElem?_eq_none h'] at hj; cases hj
  have h1 := h j hlt
  rw [add_plain, h1]
  rw [List.getElem?_eq_getElem hlt] at hj
  simpa [List.getD, hlt] using hj

/-- The cells that a source of an append gives. -/
theorem Has.cells {w : World} {a : Addr} {n cap : Nat} {xs : List Int} (h : Has w (.slice (some a) n cap) xs) :
    ∀ j u, (xs.map (Value.int .i64))[j]? = some u → w.cell? (a.add j) = some u := by
  obtain ⟨a', cap', hv, hc, hn, hx⟩ := h
  simp only [Value.slice.injEq] at hv
  obtain ⟨rfl, rfl, rfl⟩ := hv
  intro j u hj
  have hlt : j < xs.length := by
    rcases Nat.lt_or_ge j xs.length with h' | h'
    · exact h'
    · rw [List.getElem?_eq_none (by simpa using h')] at hj; cases hj
  obtain ⟨b, off, ha, hcell⟩ := hx (by omega)
  simp only [Option.some.injEq] at ha
  subst ha
  exact ints_at_news hcell j u hj

theorem Own.of {w : World} {base n : Nat} {v : Value} {xs : List Int} {us : List Value} (h : w.ownsRow base 3 1 v n us) (hn : n = xs.length) (hu : us = xs.map (Value.int .i64)) : Own w base v xs := by
  subst hn hu; exact h

theorem Own.nil (w : World) (base : Nat) : Own w base (.slice none 0 0) [] := World.ownsRow_nil _ _ _ _

theorem Own.lit (w : World) (base : Nat) (hb : base ≤ w.heap.size) (xs : List Int) (hl : xs.length ≤ 1000) : Own (w.alloc (.cells (xs.map (Value.int .i64)).toArray 3)) base (.slice (some ⟨w.heap.size, 0, none⟩) xs.length xs.length) xs := by
  have := World.ownsRow_lit (e := 3) (size := 1) w (xs.map (Value.int .i64)).toArray xs.length hb (by unfold maxLen; omega) (by simp)
  exact Own.of this rfl (by simp)

/-- An append of a slice of numbers to one of the call's own. -/
theorem wp_append_ints {ops : Array Oper} {rest : List Oper} {o : Oper} {a : Act} {Q : Exit → Act → World → Prop} {w : World} (hgd : o.guard = none) (s x : Operand)
    (ho : o.op = .call { callee := .builtin .append, args := #[s, x], argTypes := #[22, 22] }) (base : Nat) (v u : Value) (xs ys : List Int)
    (hs : a.eval s = v) (hx : a.eval x = u) (hown : Own w base v xs) (hu : Has w u ys) (hr : (xs.length + ys.length) * 8 ≤ 140737488355328) (hbase : base ≤ w.heap.size)
    (h : ∀ v' w', Own w' base v' (xs ++ ys) → w.grownBy w' v.ownBlock → wpList Try.prog ops Q rest (a.put o.dst v') w') : wpList Try.prog ops Q (o :: rest) a w := by
  obtain ⟨i0, hi, hz0, hz1, hz2⟩ := info_parts info3
  have hu0 := hu
  obtain ⟨ad, cap, rfl, hc, hn, _⟩ := hu
  cases ad with
  | none =>
    have h0 := hn rfl
    have hnil : ys = [] := by cases ys with | nil => rfl | cons _ _ => simp at hc; omega
    subst hnil h0
    refine wpList_append_own_none hgd s x 22 ho base 3 i0 1 Try.underlying22 hi v _ _ hs hown hx ?_
    exact h _ _ (by simpa using hown) (World.grownBy.refl _ _)
  | some ad =>
    refine wpList_append_own w hgd s x 22 ho base 3 i0 (.int .i64 0) 1 8 Try.underlying22 hi hz0 hz1 hz2 rfl (by decide) v _ _ hs hown ad ys.length cap (ys.map (Value.int .i64)) hx (by simp) hu0.cells (ints_oneCell _ _) (by unfold maxLen; omega) hr hbase ?_
    intro v' w' h1 h2 _
    exact h _ _ (Own.of h1 (by simp) (by simp)) h2

theorem row_shape {w : World} {base n : Nat} {v : Value} {us : List Value} (h : w.ownsRow base 3 1 v n us) (hn : 0 < n) : ∃ g cap, v = .slice (some ⟨g, 0, none⟩) n cap ∧ n ≤ cap ∧ base ≤ g ∧ cap ≤ maxLen := by
  rcases h.2 with ⟨_, h0⟩ | ⟨g, cap, cur, hv, hg, _, hn, hm, _⟩
  · omega
  · exact ⟨g, cap, hv, hn, hg, hm⟩

theorem grownBy_trans {a b c : World} {row : Option Nat} (h : a.grownBy b row) (k : b.grownBy c row) : a.grownBy c row :=
  ⟨k.os.trans h.os, k.tape.trans h.tape, k.output.trans h.output, Nat.le_trans h.size k.size, fun i hi hne => (k.block i (Nat.lt_of_lt_of_le hi h.size) hne).trans (h.block i hi hne)⟩

/-- v is a slice of whatever numbers, in blocks from base on, that may be written over. -/
def Ints (w : World) (base : Nat) (v : Value) : Prop :=
  ∃ (a : Option Addr) (n cap : Nat), v = .slice a n cap ∧ n ≤ cap ∧ n ≤ 9223372036854775807 ∧
    (0 < n → ∃ b off, a = some ⟨b, off, none⟩ ∧ base ≤ b ∧ ∀ i, i < n → (∃ x, w.cell? ⟨b, off + i, none⟩ = some (.int .i64 x)) ∧ w.frozen? ⟨b, off + i, none⟩ = false)

theorem Own.ints {w : World} {base : Nat} {v : Value} {xs : List Int} (h : Own w base v xs) : Ints w base v := by
  rcases Nat.eq_zero_or_pos xs.length with h0 | h0
  · obtain ⟨a, cap, hv, hc, _, _⟩ := h.has
    exact ⟨a, xs.length, cap, hv, hc, by omega, fun hp => by omega⟩
  · obtain ⟨g, cap, rfl, hn, hg, hcm⟩ := row_shape h h0
    unfold maxLen at hcm
    refine ⟨_, xs.length, cap, rfl, hn, by omega, fun _ => ⟨g, 0, rfl, hg, fun i hi => ?_⟩⟩
    refine ⟨⟨xs.getD i 0, ?_⟩, ?_⟩
    · rw [Nat.zero_add, World.ownsRow.cellAt (show w.ownsRow base 3 1 _ _ _ from h) i (by omega)]
      simp [List.getElem?_map, List.getElem?_eq_getElem hi, List.getD]
    · rw [Nat.zero_add]; exact World.ownsRow.frozenAt (show w.ownsRow base 3 1 _ _ _ from h) i

/-- What was there below base is as it was; numbers elsewhere may be other numbers, and all else is as it was. -/
structure Spoilt (base : Nat) (w w' : World) : Prop where
  below : Below base w w'
  ints : ∀ p x, w.cell? p = some (.int .i64 x) → ∃ y, w'.cell? p = some (.int .i64 y)
  rest : ∀ p v, w.cell? p = some v → (∀ x, v ≠ .int .i64 x) → w'.cell? p = some v
  thaw : ∀ p, p.block < w.heap.size → w.frozen? p = false → w'.frozen? p = false

theorem Spoilt.refl (base : Nat) (w : World) : Spoilt base w w := ⟨Below.refl _ _, fun _ x h => ⟨x, h⟩, fun _ _ h _ => h, fun _ _ h => h⟩
theorem Spoilt.trans {base : Nat} {a b c : World} (h : Spoilt base a b) (k : Spoilt base b c) : Spoilt base a c :=
  ⟨h.below.trans k.below, fun p x hp => by obtain ⟨y, hy⟩ := h.ints p x hp; exact k.ints p y hy, fun p v hp hv => k.rest p v (h.rest p v hp hv) hv, fun p hp hf => k.thaw p (Nat.lt_of_lt_of_le hp h.below.size) (h.thaw p hp hf)⟩

theorem Spoilt.le {base : Nat} {w w' : World} (hb : base ≤ w.heap.size) (h : Le w w') : Spoilt base w w' :=
  ⟨Below.mono h hb, fun p x hp => ⟨x, by rw [h.cell (World.block_lt_of_cell? w _ hp)]; exact hp⟩, fun p v hp _ => by rw [h.cell (World.block_lt_of_cell? w _ hp)]; exact hp,
    fun p hp hf => by rw [h.frozen hp]; exact hf⟩

theorem Spoilt.store {base : Nat} {w : World} {p : Addr} {x y : Int} (hp : w.cell? p = some (.int .i64 x)) (hb : base ≤ p.block) : Spoilt base w (w.setCell p (.int .i64 y)) := by
  refine ⟨(Below.refl _ _).setCell hb _, fun q z hq => ?_, fun q v hq hv => ?_, fun q _ hf => by simpa using hf⟩
  · by_cases e : p = q
    · subst e; exact ⟨y, World.cell?_setCell_same _ _ _ hp⟩
    · exact ⟨z, (World.cell?_setCell_other _ _ _ _ e).trans hq⟩
  · have e : p ≠ q := fun e => by subst e; rw [hp] at hq; exact hv x (Option.some.inj hq).symm
    exact (World.cell?_setCell_other _ _ _ _ e).trans hq

theorem Ints.spoilt {w w' : World} {base base' : Nat} {v : Value} (h : Ints w base v) (k : Spoilt base' w w') : Ints w' base v := by
  obtain ⟨a, n, cap, hv, hn, hm, hx⟩ := h
  refine ⟨a, n, cap, hv, hn, hm, fun hp => ?_⟩
  obtain ⟨b, off, ha, hb, hc⟩ := hx hp
  refine ⟨b, off, ha, hb, fun i hi => ?_⟩
  obtain ⟨⟨x, h1⟩, h2⟩ := hc i hi
  exact ⟨k.ints _ _ h1, k.thaw _ (World.block_lt_of_cell? w _ h1) h2⟩

end Go.Proofs.Ytnpejgendmgfaaa

/-
  PLAIN GROUND, NO WALK: a state of four rows of numbers, when a value holds it in a world, and what a later world keeps of it. No condition.
-/
namespace Go.Proofs.Ytnpejgendmgfaaa
open Go.RowKit

/-- A state: four rows of numbers. -/
structure St where
  r0 : List Int
  r1 : List Int
  r2 : List Int
  r3 : List Int
deriving DecidableEq

/-- Row i. -/
def St.at (s : St) : Nat → List Int
  | 0 => s.r0
  | 1 => s.r1
  | 2 => s.r2
  | _ => s.r3

/-- Another row i. -/
def St.put (s : St) (i : Nat) (x : List Int) : St :=
  match i with
  | 0 => { s with r0 := x }
  | 1 => { s with r1 := x }
  | 2 => { s with r2 := x }
  | _ => { s with r3 := x }

def St.zero : St := ⟨[], [], [], []⟩

theorem St.ext_at {s t : St} (h : ∀ i, i < 4 → s.at i = t.at i) : s = t := by
  obtain ⟨a, b, c, d⟩ := s
  obtain ⟨a', b', c', d'⟩ := t
  have h0 := h 0 (by omega)
  have h1 := h 1 (by omega)
  have h2 := h 2 (by omega)
  have h3 := h 3 (by omega)
  simp only [St.at] at h0 h1 h2 h3
  subst h0 h1 h2 h3
  rfl

theorem four {i : Nat} (h : i < 4) : i = 0 ∨ i = 1 ∨ i = 2 ∨ i = 3 := by omega

theorem St.at_put {s : St} {i j : Nat} {x : List Int} (hi : i < 4) (hj : j < 4) : (s.put i x).at j = if j = i then x else s.at j := by
  rcases four hi with rfl | rfl | rfl | rfl <;> rcases four hj with rfl | rfl | rfl | rfl <;> simp [St.put, St.at]

theorem St.at_zero (i : Nat) : St.zero.at i = [] := by
  unfold St.at St.zero; split <;> rfl

/-- A slice's parts: where it lies, its length, its room. -/
abbrev Sl := Option Addr × Nat × Nat
/-- .. as a value. -/
abbrev slV (q : Sl) : Value := .slice q.1 q.2.1 q.2.2
/-- No slice. -/
abbrev slZ : Sl := (none, 0, 0)

theorem Has.sl {w : World} {v : Value} {xs : List Int} (h : Has w v xs) : ∃ q : Sl, v = slV q := by
  obtain ⟨a, cap, hv, _⟩ := h; exact ⟨(a, _, cap), hv⟩

/-- Four cells. -/
abbrev cells4 (vs : Nat → Sl) : Array Value := #[slV (vs 0), slV (vs 1), slV (vs 2), slV (vs 3)]

theorem cells4_at (vs : Nat → Sl) {i : Nat} (h : i < 4) : (cells4 vs)[i]? = some (slV (vs i)) := by
  rcases four h with rfl | rfl | rfl | rfl <;> rfl

/-- Another one of four. -/
def upd (vs : Nat → Sl) (i : Nat) (v : Sl) : Nat → Sl := fun j => if j = i then v else vs j

theorem cells4_upd (vs : Nat → Sl) {i : Nat} (h : i < 4) (v : Sl) : (cells4 vs).set! i (slV v) = cells4 (upd vs i v) := by
  rcases four h with rfl | rfl | rfl | rfl <;> simp [upd, cells4]

abbrev stV (vs : Nat → Sl) : Value := .agg (cells4 vs)

/-- The value v holds the state s in the world w. -/
def HasS (w : World) (v : Value) (s : St) : Prop := ∃ vs, v = stV vs ∧ ∀ i, i < 4 → Has w (slV (vs i)) (s.at i)
/-- .. in the call's own memory. -/
def OwnS (w : World) (base : Nat) (v : Value) (s : St) : Prop := ∃ vs, v = stV vs ∧ ∀ i, i < 4 → Own w base (slV (vs i)) (s.at i)
/-- Rows of whatever numbers, that may be written over. -/
def IntsS (w : World) (base : Nat) (v : Value) : Prop := ∃ vs, v = stV vs ∧ ∀ i, i < 4 → Ints w base (slV (vs i))
/-- Its rows can be copied. -/
def Fit (s : St) : Prop := ∀ i, i < 4 → (s.at i).length * 8 ≤ 140737488351232

theorem HasS.le {w w' : World} {v : Value} {s : St} (h : HasS w v s) (hl : Le w w') : HasS w' v s := by
  obtain ⟨vs, hv, hr⟩ := h; exact ⟨vs, hv, fun i hi => (hr i hi).le hl⟩
theorem OwnS.le {w w' : World} {base : Nat} {v : Value} {s : St} (h : OwnS w base v s) (hl : Le w w') : OwnS w' base v s := by
  obtain ⟨vs, hv, hr⟩ := h; exact ⟨vs, hv, fun i hi => (hr i hi).le hl⟩
theorem OwnS.base {w : World} {base base' : Nat} {v : Value} {s : St} (h : OwnS w base v s) (hb : base' ≤ base) : OwnS w base' v s := by
  obtain ⟨vs, hv, hr⟩ := h; exact ⟨vs, hv, fun i hi => (hr i hi).base hb⟩
theorem OwnS.has {w : World} {base : Nat} {v : Value} {s : St} (h : OwnS w base v s) : HasS w v s := by
  obtain ⟨vs, hv, hr⟩ := h; exact ⟨vs, hv, fun i hi => (hr i hi).has⟩
theorem OwnS.ints {w : World} {base : Nat} {v : Value} {s : St} (h : OwnS w base v s) : IntsS w base v := by
  obtain ⟨vs, hv, hr⟩ := h; exact ⟨vs, hv, fun i hi => (hr i hi).ints⟩
theorem IntsS.spoilt {w w' : World} {base base' : Nat} {v : Value} (h : IntsS w base v) (k : Spoilt base' w w') : IntsS w' base v := by
  obtain ⟨vs, hv, hr⟩ := h; exact ⟨vs, hv, fun i hi => (hr i hi).spoilt k⟩

/-- The value of a state without a number. -/
abbrev stZ : Value := .agg #[.slice none 0 0, .slice none 0 0, .slice none 0 0, .slice none 0 0]
theorem OwnS.zero (w : World) (base : Nat) : OwnS w base stZ St.zero := ⟨fun _ => slZ, rfl, fun i _ => by rw [St.at_zero]; exact Own.nil _ _⟩
theorem HasS.zero (w : World) : HasS w stZ St.zero := (OwnS.zero w 0).has
theorem fit_zero : Fit St.zero := fun i _ => by rw [St.at_zero]; decide

/-- A box after a store into one of its cells. -/
theorem Box.set {w : World} {g : Nat} {cs : Array Value} {t : TypeId} (h : Box w g cs t) (i : Nat) (v : Value) : Box (w.setCell ⟨g, i, none⟩ v) g (cs.set! i v) t := by
  unfold Box at h ⊢
  simp only [World.setCell, Array.getElem?_modify, h]
  simp
theorem Box.other {w : World} {g g' : Nat} {cs : Array Value} {t : TypeId} (h : Box w g cs t) (hne : g ≠ g') (i : Nat) (v : Value) : Box (w.setCell ⟨g', i, none⟩ v) g cs t := by
  unfold Box at h ⊢
  rw [Below.heap_setCell _ _ _ _ hne]
  exact h
/-- A box is no row of numbers. -/
theorem Own.apart {w : World} {base g : Nat} {v : Value} {xs : List Int} {cs : Array Value} {t : TypeId} (h : Own w base v xs) (hb : Box w g cs t) (ht : t ≠ 3) : v.ownBlock ≠ some g := by
  intro e
  rcases h.2 with ⟨h2, _⟩ | ⟨g', cap, cur, hv, hg, hh, _⟩
  · rw [h2] at e; simp [Value.ownBlock] at e
  · rw [hv] at e
    simp [Value.ownBlock] at e
    subst e
    unfold Box at hb
    rw [hb] at hh
    simp at hh
    exact ht hh.2
theorem Own.setBox {w : World} {base g i : Nat} {v u : Value} {xs : List Int} {cs : Array Value} {t : TypeId} (h : Own w base v xs) (hb : Box w g cs t) (ht : t ≠ 3) : Own (w.setCell ⟨g, i, none⟩ u) base v xs :=
  ownsRow_setCell_other h (h.apart hb ht) u
theorem Box.grown {w w' : World} {g : Nat} {cs : Array Value} {t : TypeId} {row : Option Nat} (h : Box w g cs t) (hg : w.grownBy w' row) (hne : row ≠ some g) : Box w' g cs t := by
  unfold Box at h ⊢
  rw [hg.block g (block_lt h) (fun e => hne e.symm)]
  exact h

theorem Own.block {w : World} {base g : Nat} {v : Value} {xs : List Int} (h : Own w base v xs) (e : v.ownBlock = some g) : base ≤ g ∧ g < w.heap.size := by
  rcases h.2 with ⟨h2, _⟩ | ⟨g', cap, cur, hv, hg, hh, _⟩
  · rw [h2] at e; simp [Value.ownBlock] at e
  · rw [hv] at e
    simp [Value.ownBlock] at e
    subst e
    exact ⟨hg, block_lt hh⟩

/-- A row of the call's own that lies elsewhere than what has grown. -/
theorem Own.grown {w w' : World} {base : Nat} {v : Value} {xs : List Int} {row : Option Nat} (h : Own w base v xs) (hg : w.grownBy w' row) (hne : ∀ g, v.ownBlock = some g → row ≠ some g) : Own w' base v xs := by
  obtain ⟨h1, h2⟩ := h
  refine ⟨h1, ?_⟩
  rcases h2 with h2 | ⟨g, cap, cur, hv, hb, hh, r⟩
  · exact .inl h2
  · exact .inr ⟨g, cap, cur, hv, hb, by rw [hg.block g (block_lt hh) (fun e => hne g (by rw [hv]; rfl) e.symm)]; exact hh, r⟩

/-- The rows below k lie in blocks of their own, each in another. -/
def Apart (vs : Nat → Sl) (k : Nat) : Prop := ∀ i j, i < k → j < k → i ≠ j → ∀ g, (slV (vs i)).ownBlock = some g → (slV (vs j)).ownBlock ≠ some g

theorem Apart.next {vs : Nat → Sl} {k m : Nat} {q : Sl} (h : Apart vs k) (hlt : ∀ j, j < k → ∀ g, (slV (vs j)).ownBlock = some g → g < m) (hge : ∀ g, (slV q).ownBlock = some g → m ≤ g) : Apart (upd vs k q) (k + 1) := by
  intro i j hi hj hne g e1 e2
  by_cases ei : i = k
  · have ej : j ≠ k := by omega
    rw [show upd vs k q i = q by simp [upd, ei]] at e1
    rw [show upd vs k q j = vs j by simp [upd, ej]] at e2
    have := hge g e1
    have := hlt j (by omega) g e2
    omega
  · rw [show upd vs k q i = vs i by simp [upd, ei]] at e1
    by_cases ej : j = k
    · rw [show upd vs k q j = q by simp [upd, ej]] at e2
      have := hge g e2
      have := hlt i (by omega) g e1
      omega
    · rw [show upd vs k q j = vs j by simp [upd, ej]] at e2
      exact h i j (by omega) (by omega) hne g e1 e2

end Go.Proofs.Ytnpejgendmgfaaa

/-
  THE WALK over choruslaw0.Num: a number of an error is that number. No condition.
-/
namespace Go.Proofs.Ytnpejgendmgfaaa
open Go.RowKit

set_option maxHeartbeats 400000 in
theorem lawNum (x : Int) (w : World) : Calls Try.prog 15 #[.int .i64 x] w fun e w' => e = .returned (.int .i64 x) ∧ w = w' := by
  go_enter Try.func15, Try.ntmps15
  go_wp2
  go_ret
  exact ⟨rfl, rfl⟩

end Go.Proofs.Ytnpejgendmgfaaa

/-
  THE WALK over choruslaw0.SameInts: are they the same numbers, for every two slices. No condition but that a slice's length is a number.
-/
namespace Go.Proofs.Ytnpejgendmgfaaa
open Go.RowKit

theorem take_same {xs ys : List Int} {k : Nat} (h1 : k < xs.length) (h2 : k < ys.length) (h : xs.take k = ys.take k) (he : xs.getD k 0 = ys.getD k 0) : xs.take (k + 1) = ys.take (k + 1) := by
  rw [List.take_succ_eq_append_getElem h1, List.take_succ_eq_append_getElem h2, h]
  simp [List.getD, h1, h2] at he
  rw [he]

theorem ne_of_at {xs ys : List Int} {k : Nat} (he : ¬ xs.getD k 0 = ys.getD k 0) : ¬ xs = ys := fun h => he (by rw [h])

set_option maxHeartbeats 400000 in
theorem lawSameInts (v u : Value) (xs ys : List Int) (w : World) (hx : Has w v xs) (hy : Has w u ys) (hm : xs.length ≤ 9223372036854775807) :
    Calls Try.prog 14 #[v, u] w fun e w' => e = .returned (.bool (decide (xs = ys))) ∧ ∃ n, w' = w.drewN n := by
  obtain ⟨a, cap, rfl, hc, _, hx⟩ := hx
  obtain ⟨c, cap', rfl, hc', _, hy⟩ := hy
  by_cases hl : xs.length = ys.length
  · by_cases h0 : 0 < xs.length
    · obtain ⟨b, off, rfl, hcell⟩ := hx h0
      obtain ⟨b', off', rfl, hcell'⟩ := hy (by omega)
      have HL : Hid (xs.length = ys.length) := hl
      obtain ⟨L, hL⟩ : ∃ L, L = xs.length := ⟨_, rfl⟩
      rw [← hL] at hm ⊢
      have hL' : ys.length = L := by omega
      rw [hL']
      have HLx : Hid (xs.length = L) := hL.symm
      have HLy : Hid (ys.length = L) := hL'
      rw [← hL] at hcell h0 hc
      rw [hL'] at hcell' hc'
      clear hl hx hy hL hL'
      go_enter Try.func14, Try.ntmps14
      go_wp2
      go_loopw [5] (fun i wr => ∃ k n : Nat, k ≤ L ∧ i = .int .i64 k ∧ Hid (xs.take k = ys.take k) ∧ wr = w.drewN n) (fun i _ => L - (intOf i).toNat)
      case atStart => exact ⟨0, 0, Nat.zero_le _, rfl, rfl, rfl⟩
      case round =>
        obtain ⟨k, n, hk, rfl, HT, rfl⟩ := hrel
        by_cases hlt : k < L
        · obtain ⟨x, hxk⟩ : ∃ x, x = xs.getD k 0 := ⟨_, rfl⟩
          have hck : w.cell? ⟨b, off + k, none⟩ = some (.int .i64 x) := by rw [hxk]; exact hcell k hlt
          obtain ⟨y, hyk⟩ : ∃ y, y = ys.getD k 0 := ⟨_, rfl⟩
          have hck' : w.cell? ⟨b', off' + k, none⟩ = some (.int .i64 y) := by rw [hyk]; exact hcell' k hlt
          have HX : Hid (x = xs.getD k 0) := hxk
          have HY : Hid (y = ys.getD k 0) := hyk
          have hlt' : (k : Int) < (L : Int) := by omega
          clear hxk hyk hcell hcell'
          by_cases hxy : x = y
          · subst hxy
            go_wp2
            go_quiet (fail)
            go_wp2
            go_roundw
            case rel => exact ⟨k + 1, n + nq, by omega, by go_num, take_same (by have := HLx.out; omega) (by have := HLy.out; omega) HT.out (by rw [← HX.out, ← HY.out]), rfl⟩
            case measure => simp [intOf]; omega
          · have hne : (x != y) = true := by simp [hxy]
            have HN : Hid (¬ x = y) := hxy
            clear hxy
            go_wp2
            go_quiet (fail)
            go_wp2
            go_ret
            exact ⟨ret_bool (by have := ne_of_at (k := k) (xs := xs) (ys := ys) (by rw [← HX.out, ← HY.out]; exact HN.out); simp [this]), n + nq, World.drewN_drewN _ _ _⟩
        · go_wp2
          go_ret
          refine ⟨ret_bool ?_, _, rfl⟩
          have h1 := HLx.out
          have h2 := HLy.out
          have := HT.out
          rw [List.take_of_length_le (by omega), List.take_of_length_le (by omega)] at this
          simp [this]
    · have hxn : xs = [] := by cases xs with | nil => rfl | cons _ _ => simp at h0
      have hyn : ys = [] := by cases ys with | nil => rfl | cons _ _ => subst hxn; simp at hl
      subst hxn hyn
      go_enter Try.func14, Try.ntmps14
      go_wp2
      refine wp_loop_rounds 1 ?_
      rw [rounds_succ]
      go_wp2
      go_ret
      exact ⟨ret_bool (by simp), 0, rfl⟩
  · have hne : (((xs.length : Int)) != (ys.length : Int)) = true := by simp; omega
    have HN : Hid (¬ xs = ys) := fun h => hl (by rw [h])
    clear hl
    go_enter Try.func14, Try.ntmps14
    go_wp2
    go_ret
    exact ⟨ret_bool (by have := HN.out; simp [this]), 0, rfl⟩

end Go.Proofs.Ytnpejgendmgfaaa

/-
  PLAIN GROUND: a statement that leaves its order open, whose own operations only read and whose callees may make memory of their own but answer the same in every later world: one walk in the text's order serves every order. It is the library's theorem over a class of worlds, taken at the class of all later worlds. No condition but that the callees' answers hold no new address.
-/
namespace Go.Proofs.Ytnpejgendmgfaaa
open Go.RowKit

/-- A world that has all that w0 had. -/
structure Later (w0 : World) where
  w : World
  le : Le w0 w

instance (w0 : World) : Nonempty (Later w0) := ⟨⟨w0, Le.refl w0⟩⟩

theorem wp_region_later {P : Program} {id : Nat} {Q : Exit → Act → World → Prop} {a : Act} {w : World} {l : List Oper} (hm : P.follows .mixedOrders = true) (hB : Region.lexB .any l.toArray = true)
    (h : wpQuiet P l.toArray (fun w' => ∃ x : Later w, w' = x.w) (fun a' => ∀ w', (∃ x : Later w, w' = x.w) → Q .normal a' w') l a) : (Code.region id l.toArray true).wp P Q a w :=
  wp_region_quiet (C := fun w' => ∃ x : Later w, w' = x.w) hm hB ⟨⟨_, Le.drew w⟩, rfl⟩ (by simpa using h)

/-- A callee's contract, met in a later world. -/
theorem Calls.later {P : Program} {f : FuncId} {args : Array Value} {w0 : World} {x : Later w0} {v : Value}
    (h : Calls P f args x.w fun e w' => e = .returned v ∧ Le x.w w') : Calls P f args x.w fun e w'' => e = .returned v ∧ ∃ y : Later w0, w'' = y.w :=
  h.mono fun _ w' ⟨he, hl⟩ => ⟨he, ⟨w', x.le.trans hl⟩, rfl⟩

theorem Calls.later_same {P : Program} {f : FuncId} {args : Array Value} {w0 : World} {x : Later w0} {v : Value}
    (h : Calls P f args x.w fun e w' => e = .returned v ∧ x.w = w') : Calls P f args x.w fun e w'' => e = .returned v ∧ ∃ y : Later w0, w'' = y.w :=
  h.mono fun _ w' ⟨he, hl⟩ => ⟨he, ⟨w', by rw [← hl]; exact x.le⟩, rfl⟩

/-- .. what the contract says of the answer, given. -/
theorem Calls.later_is {P : Program} {f : FuncId} {args : Array Value} {w0 : World} {x : Later w0} {v u : Value} (hv : v = u)
    (h : Calls P f args x.w fun e w' => e = .returned v ∧ Le x.w w') : Calls P f args x.w fun e w'' => e = .returned u ∧ ∃ y : Later w0, w'' = y.w := by
  subst hv; exact Calls.later h

theorem Box.later {w : World} {g : Nat} {cs : Array Value} {t : TypeId} (h : Box w g cs t) (i : Nat) : ∀ x : Later w, x.w.cell? ⟨g, i, none⟩ = cs[i]? := fun x => (h.le x.le).cell i

theorem Box.later3 {w : World} {g : Nat} {x y z : Value} {t : TypeId} (h : Box w g #[x, y, z] t) :
    (∀ X : Later w, X.w.cell? ⟨g, 0, none⟩ = some x) ∧ (∀ X : Later w, X.w.cell? ⟨g, 1, none⟩ = some y) ∧ (∀ X : Later w, X.w.cell? ⟨g, 2, none⟩ = some z) :=
  ⟨h.later 0, h.later 1, h.later 2⟩

theorem Box.laterR {w : World} {g : Nat} {x y z u : Value} {t : TypeId} (h : Box w g #[x, y, z, u] t) :
    (∀ X : Later w, X.w.cell? ⟨g, 0, none⟩ = some x) ∧ (∀ X : Later w, X.w.cell? ⟨g, 1, none⟩ = some y) ∧ (∀ X : Later w, X.w.cell? ⟨g, 2, none⟩ = some z) ∧ (∀ X : Later w, X.w.cell? ⟨g, 3, none⟩ = some u) :=
  ⟨h.later 0, h.later 1, h.later 2, h.later 3⟩
theorem Box.laterS {w : World} {g : Nat} {x y z u v : Value} {t : TypeId} (h : Box w g #[x, y, z, u, v] t) :
    (∀ X : Later w, X.w.cell? ⟨g, 0, none⟩ = some x) ∧ (∀ X : Later w, X.w.cell? ⟨g, 1, none⟩ = some y) ∧ (∀ X : Later w, X.w.cell? ⟨g, 2, none⟩ = some z) ∧ (∀ X : Later w, X.w.cell? ⟨g, 3, none⟩ = some u) ∧ (∀ X : Later w, X.w.cell? ⟨g, 4, none⟩ = some v) :=
  ⟨h.later 0, h.later 1, h.later 2, h.later 3, h.later 4⟩

end Go.Proofs.Ytnpejgendmgfaaa

/-
  THE WALK over choruslaw0's SameState, and the ground of loops that copy row by row. Condition: where memory is made, the rows' bytes are within the reach that every row bears.
-/
namespace Go.Proofs.Ytnpejgendmgfaaa
open Go.RowKit

/-- In the midst of a copy: the given value's box, the result's, and the one that is filled up to row k. -/
structure Cp (w : World) (s : St) (vs : Nat → Sl) (wr : World) (k : Nat) (us : Nat → Sl) : Prop where
  le : Le w wr
  given : Box wr w.heap.size (cells4 vs) 25
  result : Box wr (w.heap.size + 1) (cells4 fun _ => slZ) 25
  filled : Box wr (w.heap.size + 1 + 1) (cells4 us) 25
  rows : ∀ j, j < k → Own wr w.heap.size (slV (us j)) (s.at j)
  apart : Apart us k

theorem Box.size {w : World} {g : Nat} {cs : Array Value} {t : TypeId} (h : Box w g cs t) : g < w.heap.size := h.lt

theorem Cp.start (w : World) (s : St) (vs : Nat → Sl) :
    Cp w s vs (((w.alloc (.cells (cells4 vs) 25)).alloc (.cells (cells4 fun _ => slZ) 25)).alloc (.cells (cells4 fun _ => slZ) 25)) 0 fun _ => slZ := by
  refine ⟨((Le.alloc _ _).trans (Le.alloc _ _)).trans (Le.alloc _ _), ((Box.new _ _ _).le (Le.alloc _ _)).le (Le.alloc _ _), ?_, ?_, (fun j hj => by omega), (fun i j hi => by omega)⟩
  · have := (Box.new (w.alloc (.cells (cells4 vs) 25)) (cells4 fun _ => slZ) 25).le (Le.alloc _ (.cells (cells4 fun _ => slZ) 25))
    simpa using this
  · have := Box.new ((w.alloc (.cells (cells4 vs) 25)).alloc (.cells (cells4 fun _ => slZ) 25)) (cells4 fun _ => slZ) 25
    simpa using this

theorem Box.st {w : World} {g : Nat} {vs : Nat → Sl} {t : TypeId} (h : Box w g (cells4 vs) t) :
    w.cell? ⟨g, 0, none⟩ = some (slV (vs 0)) ∧ w.cell? ⟨g, 1, none⟩ = some (slV (vs 1)) ∧ w.cell? ⟨g, 2, none⟩ = some (slV (vs 2)) ∧ w.cell? ⟨g, 3, none⟩ = some (slV (vs 3)) ∧
    w.frozen? ⟨g, 0, none⟩ = false ∧ w.frozen? ⟨g, 1, none⟩ = false ∧ w.frozen? ⟨g, 2, none⟩ = false ∧ w.frozen? ⟨g, 3, none⟩ = false :=
  ⟨h.cell 0, h.cell 1, h.cell 2, h.cell 3, h.frozen 0, h.frozen 1, h.frozen 2, h.frozen 3⟩

/-- One row more. -/
theorem Cp.next {w : World} {s : St} {vs : Nat → Sl} {wr w1 w2 : World} {k : Nat} {us : Nat → Sl} {row : Option Nat} {v' : Sl} (h : Cp w s vs wr k us) (hk : k < 4) (h1 : Le wr w1) (hg : w1.grownBy w2 row)
    (hrow : ∀ g, row = some g → wr.heap.size ≤ g) (hown : Own w2 wr.heap.size (slV v') (s.at k)) : Cp w s vs (w2.setCell ⟨w.heap.size + 1 + 1, k, none⟩ (slV v')) (k + 1) (upd us k v') := by
  have l2 : Le wr w2 := Below.grown h1 hg h1.size hrow
  have hb := h.filled.le l2
  refine ⟨?_, (h.given.le l2).other (by omega) _ _, (h.result.le l2).other (by omega) _ _, ?_, (fun j hj => ?_), h.apart.next (fun j hj g e => ((h.rows j hj).block e).2) (fun g e => (hown.block e).1)⟩
  · exact Below.setCell (h.le.trans l2) (by show w.heap.size ≤ w.heap.size + 1 + 1; omega) _
  · have := hb.set k (slV v'); rw [cells4_upd us hk v'] at this; exact this
  · by_cases e : j = k
    · rw [e, show upd us k v' k = v' by simp [upd]]; exact (hown.base h.le.size).setBox hb (by decide)
    · rw [show upd us k v' j = us j by simp [upd, e]]; exact ((h.rows j (by omega)).le l2).setBox hb (by decide)

theorem lawSameI (v u : Value) (xs ys : List Int) (w : World) (hx : Has w v xs) (hy : Has w u ys) (hm : xs.length * 8 ≤ 140737488351232) :
    Calls Try.prog 14 #[v, u] w fun e w' => e = .returned (.bool (decide (xs = ys))) ∧ Le w w' :=
  (lawSameInts v u xs ys w hx hy (by omega)).mono fun _ _ ⟨he, n, hw⟩ => ⟨he, by rw [hw]; exact Le.drewN _ _⟩

set_option maxHeartbeats 400000 in
theorem lawSameState (v u : Value) (s t : St) (w : World) (hx : HasS w v s) (hy : HasS w u t) (hf : Fit s) :
    Calls Try.prog 13 #[v, u] w fun e w' => e = .returned (.bool (decide (s = t))) ∧ Le w w' := by
  obtain ⟨vs, rfl, hr⟩ := hx
  obtain ⟨us, rfl, hr'⟩ := hy
  have hb1 := (Box.new w (cells4 vs) 25).le (Le.alloc _ (.cells (cells4 us) 25))
  have hb2 := Box.new (w.alloc (.cells (cells4 vs) 25)) (cells4 us) 25
  rw [World.size_alloc] at hb2
  have hl := (Le.alloc w (.cells (cells4 vs) 25)).trans (Le.alloc _ (.cells (cells4 us) 25))
  go_enter Try.func13, Try.ntmps13
  go_wp2
  go_loopw [5] (fun i wr => ∃ k : Nat, k ≤ 4 ∧ i = .int .i64 k ∧ Hid (∀ j, j < k → s.at j = t.at j) ∧ Le ((w.alloc (.cells (cells4 vs) 25)).alloc (.cells (cells4 us) 25)) wr) (fun i _ => 4 - (intOf i).toNat)
  case atStart => exact ⟨0, by omega, rfl, (fun j hj => by omega), Le.refl _⟩
  case round =>
    obtain ⟨k, hk, rfl, HS, hle⟩ := hrel
    by_cases hlt : k < 4
    · have c1 : ∀ X : Later wr, X.w.cell? ⟨w.heap.size, k, none⟩ = some (slV (vs k)) := fun X => (((hb1.le hle).le X.le).cell k).trans (cells4_at vs hlt)
      have c2 : ∀ X : Later wr, X.w.cell? ⟨w.heap.size + 1, k, none⟩ = some (slV (us k)) := fun X => (((hb2.le hle).le X.le).cell k).trans (cells4_at us hlt)
      have hfk := hf k hlt
      have hsm := fun X : Later wr => lawSameI (slV (vs k)) (slV (us k)) (s.at k) (t.at k) X.w ((hr k hlt).le ((hl.trans hle).trans X.le)) ((hr' k hlt).le ((hl.trans hle).trans X.le)) hfk
      by_cases he : s.at k = t.at k
      · rw [show decide (s.at k = t.at k) = true by simp [he]] at hsm
        have HE : Hid (s.at k = t.at k) := he
        clear he hb1 hb2 hfk
        go_wp2_with fail
        refine wp_region_later (by kernel_rfl) (by kernel_rfl) ?_
        repeat (go_big_quiet_step (first | (go_at_call 14; exact Calls.later (hsm _))))
        refine wpQuiet_nil ?_
        rintro _ ⟨x, rfl⟩
        go_wp2
        go_roundw
        case rel => exact ⟨k + 1, by omega, by go_num, (fun j hj => by rcases Nat.lt_or_eq_of_le (Nat.le_of_lt_succ hj) with h | h; exact HS.out j h; exact h ▸ HE.out), hle.trans x.le⟩
        case measure => simp [intOf]; omega
      · rw [show decide (s.at k = t.at k) = false by simp [he]] at hsm
        have HE : Hid (¬ s = t) := fun h => he (by rw [h])
        clear he hb1 hb2 hfk
        go_wp2_with fail
        refine wp_region_later (by kernel_rfl) (by kernel_rfl) ?_
        repeat (go_big_quiet_step (first | (go_at_call 14; exact Calls.later (hsm _))))
        refine wpQuiet_nil ?_
        rintro _ ⟨x, rfl⟩
        go_wp2
        go_ret
        exact ⟨ret_bool (by have := HE.out; simp [this]), (hl.trans hle).trans x.le⟩
    · obtain rfl : k = 4 := by omega
      go_wp2
      go_ret
      exact ⟨ret_bool (by have := St.ext_at HS.out; simp [this]), hl.trans hle⟩

end Go.Proofs.Ytnpejgendmgfaaa

/-
  THE WALK over package oper's May: what it answers, for every operation. No condition.
-/
namespace Go.Proofs.Ytnpejgendmgfaaa
open Go.RowKit

/-- An operation's value. -/
abbrev opV (c r a : Int) : Value := .agg #[.int .i64 c, .int .i64 r, .int .i64 a]

/-- May it be? -/
def opMay (c r a : Int) : Bool := decide (0 ≤ r) && decide (r < 4) && decide (0 ≤ a) && decide (a ≤ 255) && (decide (c = 0) || decide (c = 1) || (decide (c = 2) && decide (a = 0)) || (decide (c = 3) && decide (r = 0) && decide (a = 0)))
/-- Does it update? -/
def opUp (c r a : Int) : Bool := opMay c r a && (decide (c = 0) || decide (c = 1))

theorem beq_int (a b : Int) : (a == b) = decide (a = b) := by rw [Bool.eq_iff_iff]; simp

set_option maxHeartbeats 2000000 in
theorem operMay (c r a : Int) (w : World) :
    Calls Try.prog 47 #[opV c r a] w fun e w' => e = .returned (.bool (opMay c r a)) ∧ Le w w' := by
  rcases (by omega : r < 0 ∨ 4 ≤ r ∨ a < 0 ∧ 0 ≤ r ∧ r < 4 ∨ 255 < a ∧ 0 ≤ r ∧ r < 4 ∨ 0 ≤ r ∧ r < 4 ∧ 0 ≤ a ∧ a ≤ 255) with h | h | ⟨h, h', h''⟩ | ⟨h, h', h''⟩ | ⟨h1, h2, h3, h4⟩
  iterate 4
    · go_enter Try.func47, Try.ntmps47
      go_wp2
      go_ret
      exact ⟨ret_bool (by simp [opMay]; omega), Le.alloc _ _⟩
  rcases (by omega : c = 0 ∨ c = 1 ∨ c = 2 ∨ c = 3 ∨ (c ≠ 0 ∧ c ≠ 1 ∧ c ≠ 2 ∧ c ≠ 3)) with h | h | h | h | ⟨h5, h6, h7, h8⟩
  iterate 3
    · subst h
      go_enter Try.func47, Try.ntmps47
      go_wp2
      go_ret
      exact ⟨ret_bool (by simp [opMay, h1, h2, h3, h4, beq_int]), Le.alloc _ _⟩
  · subst h
    by_cases hr : r = 0
    all_goals
      go_enter Try.func47, Try.ntmps47
      go_wp2
      go_ret
      exact ⟨ret_bool (by simp [opMay, h1, h2, h3, h4, hr, beq_int]), Le.alloc _ _⟩
  · go_enter Try.func47, Try.ntmps47
    go_wp2
    go_ret
    exact ⟨ret_bool (by simp [opMay, h5, h6, h7, h8]), Le.alloc _ _⟩

theorem ret_pair {a b : Value} {c d : Value} (h : a = b) (k : c = d) : Ending.returned (.tuple #[a, c]) = .returned (.tuple #[b, d]) := by rw [h, k]

end Go.Proofs.Ytnpejgendmgfaaa

/-
  PLAIN GROUND, NO WALK: what the layers of objects share: a condition on each row of a state, how many numbers and which sum the rows have, the operations that may be. No condition.
-/
namespace Go.Proofs.Ytnpejgendmgfaaa
open Go.RowKit

/-- Is it so of each row? -/
def St.all (p : List Int → Bool) (s : St) : Bool := p s.r0 && p s.r1 && p s.r2 && p s.r3

theorem St.all_of {p : List Int → Bool} {s : St} (h : ∀ j, j < 4 → p (s.at j) = true) : s.all p = true := by
  have h0 := h 0 (by omega)
  have h1 := h 1 (by omega)
  have h2 := h 2 (by omega)
  have h3 := h 3 (by omega)
  simp only [St.at] at h0 h1 h2 h3
  simp [St.all, h0, h1, h2, h3]

theorem St.all_not {p : List Int → Bool} {s : St} {k : Nat} (hk : k < 4) (h : p (s.at k) = false) : s.all p = false := by
  rcases four hk with rfl | rfl | rfl | rfl <;> simp only [St.at] at h <;> simp [St.all, h]

theorem St.all_at {p : List Int → Bool} {s : St} (h : s.all p = true) {k : Nat} (hk : k < 4) : p (s.at k) = true := by
  simp [St.all] at h
  rcases four hk with rfl | rfl | rfl | rfl <;> simp [St.at, h]

theorem St.all_put {p : List Int → Bool} {s : St} (h : s.all p = true) {k : Nat} (hk : k < 4) {x : List Int} (hx : p x = true) : (s.put k x).all p = true :=
  St.all_of fun j hj => by rw [St.at_put hk hj]; split; exact hx; exact St.all_at h hj

/-- A row of a state's value, read at an index. -/
theorem run_row (vs : Nat → Sl) (k : Nat) (hk : k < 4) (w : World) : (Instr.index 23 (.agg (cells4 vs)) (.int .i64 k)).run Try.prog w = .ok (slV (vs k)) w := by
  rcases four hk with rfl | rfl | rfl | rfl <;> simp [Instr.index, go_sem]

/-- The sum of the numbers of the rows below k. -/
def sumTo (s : St) : Nat → Int
  | 0 => 0
  | k + 1 => sumTo s k + (s.at k).sum

/-- How many numbers the rows below k have. -/
def manyTo (s : St) : Nat → Int
  | 0 => 0
  | k + 1 => manyTo s k + (s.at k).length

theorem Le.set4 {w w1 : World} {g : Nat} (h : Le w w1) (hg : w.heap.size ≤ g) (x0 x1 x2 x3 : Value) :
    Le w ((((w1.setCell ⟨g, 0, none⟩ x0).setCell ⟨g, 1, none⟩ x1).setCell ⟨g, 2, none⟩ x2).setCell ⟨g, 3, none⟩ x3) :=
  (((Below.setCell h hg _).setCell hg _).setCell hg _).setCell hg _

theorem Own.set4 {w : World} {base g : Nat} {v : Value} {xs : List Int} {cs : Array Value} {t : TypeId} (h : Own w base v xs) (hb : Box w g cs t) (ht : t ≠ 3) (x0 x1 x2 x3 : Value) :
    Own ((((w.setCell ⟨g, 0, none⟩ x0).setCell ⟨g, 1, none⟩ x1).setCell ⟨g, 2, none⟩ x2).setCell ⟨g, 3, none⟩ x3) base v xs :=
  (((h.setBox hb ht).setBox (hb.set _ _) ht).setBox ((hb.set _ _).set _ _) ht).setBox (((hb.set _ _).set _ _).set _ _) ht

theorem opMay_bounds {c r a : Int} (h : opMay c r a = true) : 0 ≤ c ∧ c ≤ 3 ∧ 0 ≤ r ∧ r ≤ 3 ∧ 0 ≤ a ∧ a ≤ 255 := by
  simp [opMay] at h; omega

/-- The operations that may be. -/
theorem opMay_cases {c r a : Int} (h : opMay c r a = true) :
    (∃ k : Nat, k < 4 ∧ c = 0 ∧ r = k ∧ 0 ≤ a ∧ a ≤ 255) ∨ (∃ k : Nat, k < 4 ∧ c = 1 ∧ r = k ∧ 0 ≤ a ∧ a ≤ 255) ∨ (∃ k : Nat, k < 4 ∧ c = 2 ∧ r = k ∧ a = 0) ∨ (c = 3 ∧ r = 0 ∧ a = 0) := by
  obtain ⟨h0, h1, h2, h3, h4, h5⟩ := opMay_bounds h
  simp [opMay] at h
  rcases (by omega : c = 0 ∨ c = 1 ∨ c = 2 ∨ c = 3) with e | e | e | e
  · exact .inl ⟨r.toNat, by omega, e, by omega, h4, h5⟩
  · exact .inr (.inl ⟨r.toNat, by omega, e, by omega, h4, h5⟩)
  · exact .inr (.inr (.inl ⟨r.toNat, by omega, e, by omega, by omega⟩))
  · exact .inr (.inr (.inr ⟨e, by omega, by omega⟩))

theorem Fit.put {s : St} (h : Fit s) {k : Nat} (hk : k < 4) {x : List Int} (hx : x.length ≤ 4) : Fit (s.put k x) := by
  intro i hi
  rw [St.at_put hk hi]
  have := h i hi
  split <;> omega

theorem hid {p : Prop} (h : p) : Hid p := h

theorem drop_at {xs : List Int} {k : Nat} (hk : k < xs.length) : xs.drop k = xs.getD k 0 :: xs.drop (k + 1) := by
  rw [List.drop_eq_getElem_cons hk]
  simp [List.getD, hk]

theorem getD_drop (xs : List Int) (i j : Nat) : (xs.drop i).getD j 0 = xs.getD (i + j) 0 := by
  simp [List.getD, List.getElem?_drop]

/-- Is it a number of a row? -/
def argB (x : Int) : Bool := decide (0 ≤ x) && decide (x ≤ 255)

theorem all_take {p : Int → Bool} {xs : List Int} {k : Nat} (h : k < xs.length) : (xs.take (k + 1)).all p = ((xs.take k).all p && p (xs.getD k 0)) := by
  rw [List.take_succ_eq_append_getElem h, List.all_append]
  simp [List.getD, h]

theorem all_bad {p : Int → Bool} {xs : List Int} {k : Nat} (h : k < xs.length) (hb : p (xs.getD k 0) = false) : xs.all p = false := by
  rw [List.all_eq_false]
  exact ⟨xs[k], List.getElem_mem h, by simpa [List.getD, h] using hb⟩

end Go.Proofs.Ytnpejgendmgfaaa

/-
  THE WALKS over package states' May, Copy, Count: what each answers, for every state. Condition: where memory is made, that the rows can be copied; where numbers are counted, that there are not too many for an int.
-/
namespace Go.Proofs.Ytnpejgendmgfaaa
open Go.RowKit

set_option maxHeartbeats 400000 in
theorem listsAllRows (f : Nat) (p : List Int → Bool) (hc : ∀ (u : Value) (w : World), (callFunc f #[u]).run Try.prog w = .ok (.enter f #[u]) w) (hp : ∀ v xs w, Has w v xs → Calls Try.prog f #[v] w fun e w' => e = .returned (.bool (p xs)) ∧ w = w') (g : Nat) (vs : Nat → Sl) (s : St) (w : World) (hb : Box w g (cells4 vs) 25) (hr : ∀ i, i < 4 → Has w (slV (vs i)) (s.at i)) :
    Calls Try.prog 57 #[.slice (some ⟨g, 0, none⟩) 4 4, .func (.func f) #[] #[]] w fun e w' => e = .returned (.bool (s.all p)) ∧ w = w' := by
  go_enter Try.func57, Try.ntmps57
  go_wp2
  go_loop [9] (fun i => ∃ k : Nat, k ≤ 4 ∧ i = .int .i64 k ∧ Hid (∀ j, j < k → p (s.at j) = true)) (fun i => 4 - (intOf i).toNat)
  case atStart => exact ⟨0, by omega, rfl, fun j hj => by omega⟩
  case round =>
    obtain ⟨k, hk, rfl, HA⟩ := hrel
    by_cases hlt : k < 4
    · have hm := hp (slV (vs k)) (s.at k) _ (hr k hlt)
      have c1 : w.cell? ⟨g, k, none⟩ = some (slV (vs k)) := (hb.cell k).trans (cells4_at vs hlt)
      cases hh : p (s.at k)
      · rw [hh] at hm
        go_wp2_with fail
        refine hm.mono ?_
        rintro e w1 ⟨rfl, rfl⟩
        go_wp2
        go_ret
        exact ⟨ret_bool (St.all_not hlt hh).symm, rfl⟩
      · rw [hh] at hm
        go_wp2_with fail
        refine hm.mono ?_
        rintro e w1 ⟨rfl, rfl⟩
        go_wp2
        go_round
        case rel => exact ⟨k + 1, by omega, by go_num, fun j hj => by rcases Nat.lt_or_eq_of_le (Nat.le_of_lt_succ hj) with h | h; exact HA.out j h; exact h ▸ hh⟩
        case measure => simp [intOf]; omega
    · obtain rfl : k = 4 := by omega
      go_wp2
      go_ret
      exact ⟨ret_bool (St.all_of HA.out).symm, rfl⟩

theorem statesMay (f : Nat) (p : List Int → Bool) (hc : ∀ (u : Value) (w : World), (callFunc f #[u]).run Try.prog w = .ok (.enter f #[u]) w) (hp : ∀ v xs w, Has w v xs → Calls Try.prog f #[v] w fun e w' => e = .returned (.bool (p xs)) ∧ w = w') (v : Value) (s : St) (w : World) (hx : HasS w v s) :
    Calls Try.prog 45 #[v, .func (.func f) #[] #[]] w fun e w' => e = .returned (.bool (s.all p)) ∧ Le w w' := by
  obtain ⟨vs, rfl, hr⟩ := hx
  have hl := Le.alloc w (.cells (cells4 vs) 25)
  have hm := listsAllRows f p hc hp _ vs s _ (Box.new w (cells4 vs) 25) (fun i hi => (hr i hi).le hl)
  go_enter Try.func45, Try.ntmps45
  go_wp2_with (go_at_call 57; refine hm.mono ?_; rintro e _ ⟨rfl, rfl⟩)
  go_ret
  exact ⟨rfl, hl⟩

theorem listsCopyI (v : Value) (xs : List Int) (w : World) (hx : Has w v xs) (hf : xs.length * 8 ≤ 140737488351232) :
    Calls Try.prog 37 #[v] w fun e w' => ∃ q : Sl, e = .returned (slV q) ∧ Own w' w.heap.size (slV q) xs ∧ w.grownBy w' none := by
  go_enter Try.func37, Try.ntmps37
  go_wp2_with (at_builtin; refine wp_append_ints rfl _ _ rfl w.heap.size _ _ [] xs rfl rfl (Own.nil _ _) hx (by simp; omega) (by simp) ?_; intro v' w2 hown hgrow; rw [List.nil_append] at hown; obtain ⟨q, rfl⟩ := hown.has.sl)
  go_ret
  exact ⟨q, rfl, hown, hgrow⟩

set_option maxHeartbeats 400000 in
theorem statesCopy (v : Value) (s : St) (w : World) (hx : HasS w v s) (hf : Fit s) :
    Calls Try.prog 33 #[v] w fun e w' => ∃ us : Nat → Sl, e = .returned (stV us) ∧ (∀ i, i < 4 → Own w' w.heap.size (slV (us i)) (s.at i)) ∧ Apart us 4 ∧ Le w w' := by
  obtain ⟨vs, rfl, hr⟩ := hx
  go_enter Try.func33, Try.ntmps33
  go_wp2
  go_loopw [8] (fun i wr => ∃ (k : Nat) (us : Nat → Sl), k ≤ 4 ∧ i = .int .i64 k ∧ Cp w s vs wr k us) (fun i _ => 4 - (intOf i).toNat)
  case atStart => exact ⟨0, _, by omega, rfl, Cp.start w s vs⟩
  case round =>
    obtain ⟨k, us, hk, rfl, hcp⟩ := hrel
    by_cases hlt : k < 4
    · have hix := run_row vs k hlt
      have hw1 : Has wr (slV (vs k)) (s.at k) := (hr k hlt).le hcp.le
      have hfk := hf k hlt
      have hrow : ∀ g, (none : Option Nat) = some g → wr.heap.size ≤ g := by intro g hg; cases hg
      go_wp2_with (go_at_call 37; refine (listsCopyI _ (s.at k) _ hw1 hfk).mono ?_; rintro e w2 ⟨q, rfl, hown, hgrow⟩; have l2 : Le wr w2 := Below.grown (Le.refl wr) hgrow (by simp) hrow; have c3 := (hcp.filled.le l2).cell k; rw [cells4_at us hlt] at c3; have f3 := (hcp.filled.le l2).frozen k)
      go_roundw
      case rel => exact ⟨k + 1, _, by omega, by go_num, hcp.next hlt (Le.refl wr) hgrow hrow hown⟩
      case measure => simp [intOf]; omega
    · obtain rfl : k = 4 := by omega
      obtain ⟨p0, p1, p2, p3, _, _, _, _⟩ := hcp.filled.st
      obtain ⟨b0, b1, b2, b3, f0, f1, f2, f3⟩ := hcp.result.st
      go_wp2
      refine bodyPost_ret (v := stV us) (by simp [results, Try.results33, go_sem, b0, b1, b2, b3]) rfl ⟨us, rfl, fun i hi => ?_, hcp.apart, ?_⟩
      · exact ((((hcp.rows i hi).setBox hcp.result (by decide)).setBox (hcp.result.set _ _) (by decide)).setBox ((hcp.result.set _ _).set _ _) (by decide)).setBox (((hcp.result.set _ _).set _ _).set _ _) (by decide)
      · exact (((Below.setCell hcp.le (by show w.heap.size ≤ w.heap.size + 1; omega) _).setCell (by show w.heap.size ≤ w.heap.size + 1; omega) _).setCell (by show w.heap.size ≤ w.heap.size + 1; omega) _).setCell (by show w.heap.size ≤ w.heap.size + 1; omega) _

theorem manyTo_bounds {s : St} {m : Nat} (h : ∀ k, k < 4 → (s.at k).length ≤ m) : ∀ k, k ≤ 4 → 0 ≤ manyTo s k ∧ manyTo s k ≤ k * m
  | 0, _ => by simp [manyTo]
  | k + 1, hk => by
    have ih := manyTo_bounds h k (by omega)
    have := h k (by omega)
    have e : ((k + 1 : Nat) : Int) * m = k * m + m := by rw [Int.natCast_add, Int.add_mul]; simp
    simp only [manyTo]
    rw [e]
    omega

set_option maxHeartbeats 400000 in
theorem statesCount (v : Value) (s : St) (w : World) (hx : HasS w v s) (hm : ∀ k, k < 4 → (s.at k).length ≤ 1000) :
    Calls Try.prog 58 #[v] w fun e w' => e = .returned (.int .i64 (manyTo s 4)) ∧ Le w w' := by
  obtain ⟨vs, rfl, hr⟩ := hx
  have hl := Le.alloc w (.cells (cells4 vs) 25)
  have hr1 := fun i hi => (hr i hi).le hl
  go_enter Try.func58, Try.ntmps58
  go_wp2
  go_loop [3, 8] (fun t i => ∃ k : Nat, k ≤ 4 ∧ i = .int .i64 k ∧ t = .int .i64 (manyTo s k)) (fun _ i => 4 - (intOf i).toNat)
  case atStart => exact ⟨0, by omega, rfl, rfl⟩
  case round =>
    obtain ⟨k, hk, rfl, rfl⟩ := hrel
    by_cases hlt : k < 4
    · have hix := run_row vs k hlt
      obtain ⟨b0, b1⟩ := manyTo_bounds hm k hk
      obtain ⟨a, cap, hv, hc, _, hcell⟩ := hr1 k hlt
      have hs : manyTo s (k + 1) = manyTo s k + (s.at k).length := rfl
      have hlk := hm k hlt
      rw [hv] at hix
      obtain ⟨n, hn⟩ : ∃ n, n = (s.at k).length := ⟨_, rfl⟩
      obtain ⟨t, ht⟩ : ∃ t, t = manyTo s k := ⟨_, rfl⟩
      rw [← hn, ← ht] at hs
      rw [← hn] at hix hlk
      rw [← ht] at b0 b1 ⊢
      have HS : Hid (manyTo s (k + 1) = t + n) := hs
      clear hs hcell hc hv hm hr hr1 hn ht
      go_wp2
      go_round
      case rel => exact ⟨k + 1, by omega, by go_num, by rw [HS.out]⟩
      case measure => simp [intOf]; omega
    · obtain rfl : k = 4 := by omega
      go_wp2
      go_ret
      exact ⟨rfl, hl⟩

end Go.Proofs.Ytnpejgendmgfaaa

/-
  THE WALKS over package store's mayRow, number, sum: what each answers, for every row and state. Condition: where numbers are summed, that the state may be a store; where memory is made, that the rows can be copied.
-/
namespace Go.Proofs.Ytnpejgendmgfaaa
open Go.RowKit

/-- May a row be a store's? -/
def rowMay1 (xs : List Int) : Bool :=
  match xs with
  | [] => true
  | [x] => decide (0 ≤ x) && decide (x ≤ 255)
  | _ => false

/-- A row's first number, or -1. -/
def firstS (xs : List Int) : Int := xs.headD (-1)

theorem rowMay1_cases {xs : List Int} (h : rowMay1 xs = true) : xs = [] ∨ ∃ x, xs = [x] ∧ 0 ≤ x ∧ x ≤ 255 := by
  match xs with
  | [] => exact .inl rfl
  | [x] => simp [rowMay1] at h; exact .inr ⟨x, rfl, h.1, h.2⟩
  | _ :: _ :: _ => simp [rowMay1] at h

set_option maxHeartbeats 400000 in
theorem storeMayRow (v : Value) (xs : List Int) (w : World) (hx : Has w v xs) :
    Calls Try.prog 46 #[v] w fun e w' => e = .returned (.bool (rowMay1 xs)) ∧ w = w' := by
  obtain ⟨a, cap, rfl, hc, _, hx⟩ := hx
  match xs, hc, hx with
  | [], hc, hx =>
    go_enter Try.func46, Try.ntmps46
    go_wp2
    go_ret
    exact ⟨rfl, rfl⟩
  | [x], hc, hx =>
    obtain ⟨b, off, rfl, hcell⟩ := hx (by simp)
    have c0 : w.cell? ⟨b, off, none⟩ = some (.int .i64 x) := hcell 0 (by simp)
    clear hx hcell
    by_cases h0 : 0 ≤ x
    all_goals
      go_enter Try.func46, Try.ntmps46
      go_wp2
      go_ret
      exact ⟨ret_bool (by simp [rowMay1, h0]; try omega), rfl⟩
  | x :: y :: zs, hc, hx =>
    have n0 : ¬ (((zs.length + 1 + 1 : Nat) : Int)) = 0 := by omega
    have n1 : ¬ (((zs.length + 1 + 1 : Nat) : Int)) = 1 := by omega
    simp only [List.length_cons] at hc hx ⊢
    go_enter Try.func46, Try.ntmps46
    go_wp2
    go_ret
    exact ⟨ret_bool (by simp [rowMay1]), rfl⟩

set_option maxHeartbeats 400000 in
theorem storeNumber (v : Value) (xs : List Int) (w : World) (hx : Has w v xs) :
    Calls Try.prog 49 #[v] w fun e w' => e = .returned (.int .i64 (firstS xs)) ∧ w = w' := by
  obtain ⟨a, cap, rfl, hc, _, hx⟩ := hx
  match xs, hc, hx with
  | [], hc, hx =>
    go_enter Try.func49, Try.ntmps49
    go_wp2
    go_ret
    exact ⟨rfl, rfl⟩
  | x :: zs, hc, hx =>
    obtain ⟨b, off, rfl, hcell⟩ := hx (by simp)
    have c0 : w.cell? ⟨b, off, none⟩ = some (.int .i64 x) := hcell 0 (by simp)
    simp only [List.length_cons] at hc ⊢
    have n0 : ¬ (((zs.length + 1 : Nat) : Int)) = 0 := by omega
    clear hx hcell
    go_enter Try.func49, Try.ntmps49
    go_wp2
    go_ret
    exact ⟨rfl, rfl⟩

theorem storeMay (v : Value) (s : St) (w : World) (hx : HasS w v s) :
    Calls Try.prog 45 #[v, .func (.func 46) #[] #[]] w fun e w' => e = .returned (.bool (s.all rowMay1)) ∧ Le w w' :=
  statesMay 46 rowMay1 (fun _ _ => by kernel_rfl) storeMayRow v s w hx

theorem sumTo_bounds {s : St} (h : s.all rowMay1 = true) : ∀ k, k ≤ 4 → 0 ≤ sumTo s k ∧ sumTo s k ≤ 255 * k
  | 0, _ => by simp [sumTo]
  | k + 1, hk => by
    have ih := sumTo_bounds h k (by omega)
    rcases rowMay1_cases (St.all_at h (k := k) (by omega)) with e | ⟨x, e, h0, h1⟩ <;> simp [sumTo, e] <;> omega

set_option maxHeartbeats 400000 in
theorem storeSum (v : Value) (s : St) (w : World) (hx : HasS w v s) (hm : s.all rowMay1 = true) :
    Calls Try.prog 48 #[v] w fun e w' => e = .returned (.int .i64 (sumTo s 4)) ∧ Le w w' := by
  obtain ⟨vs, rfl, hr⟩ := hx
  have hl := Le.alloc w (.cells (cells4 vs) 25)
  have hr1 := fun i hi => (hr i hi).le hl
  go_enter Try.func48, Try.ntmps48
  go_wp2
  go_loop [3, 10] (fun t i => ∃ k : Nat, k ≤ 4 ∧ i = .int .i64 k ∧ t = .int .i64 (sumTo s k)) (fun _ i => 4 - (intOf i).toNat)
  case atStart => exact ⟨0, by omega, rfl, rfl⟩
  case round =>
    obtain ⟨k, hk, rfl, rfl⟩ := hrel
    by_cases hlt : k < 4
    · have hix := run_row vs k hlt
      obtain ⟨b0, b1⟩ := sumTo_bounds hm k hk
      obtain ⟨a, cap, hv, hc, _, hcell⟩ := hr1 k hlt
      have hs : sumTo s (k + 1) = sumTo s k + (s.at k).sum := rfl
      rw [hv] at hix
      rcases rowMay1_cases (St.all_at hm hlt) with e | ⟨x, e, h0, h1⟩
      · rw [e] at hix hs
        simp at hs
        have HS : Hid (sumTo s (k + 1) = sumTo s k) := hs
        clear hs e hcell hc hv hm hr hr1
        go_wp2
        refine wp_loop_rounds 1 ?_
        rw [rounds_succ]
        go_wp2
        go_round
        case rel => exact ⟨k + 1, by omega, by go_num, by rw [HS.out]⟩
        case measure => simp [intOf]; omega
      · rw [e] at hix hs hcell
        obtain ⟨b, off, ha, hcl⟩ := hcell (by simp)
        clear hcell
        subst ha
        have c0 := hcl 0 (by simp)
        simp at hs c0
        have HS : Hid (sumTo s (k + 1) = sumTo s k + x) := hs
        clear hs e hcl hc hv hm hr hr1
        go_wp2
        refine wp_loop_rounds 2 ?_
        rw [rounds_succ]
        go_wp2
        rw [rounds_succ]
        go_wp2
        go_round
        case rel => exact ⟨k + 1, by omega, by go_num, by rw [HS.out]⟩
        case measure => simp [intOf]; omega
    · obtain rfl : k = 4 := by omega
      go_wp2
      go_ret
      exact ⟨rfl, hl⟩

theorem storeCopied (v : Value) (s : St) (w : World) (hx : HasS w v s) (hf : Fit s) :
    Calls Try.prog 33 #[v] w fun e w' => ∃ v', e = .returned v' ∧ OwnS w' w.heap.size v' s ∧ Le w w' :=
  (statesCopy v s w hx hf).mono fun _ _ ⟨us, he, ho, _, hl⟩ => ⟨stV us, he, ⟨us, rfl, ho⟩, hl⟩

end Go.Proofs.Ytnpejgendmgfaaa

/-
  THE WALK over store.Apply: what it answers, for every state and operation, and that what it hands back lies in memory of its own. Condition: the state's rows can be copied.
-/
namespace Go.Proofs.Ytnpejgendmgfaaa
open Go.RowKit

/-- The document's answer: the state, the answer, the error. -/
def stoS (s : St) (c r a e : Int) : St × Int × Int :=
  if s.all rowMay1 && opMay c r a then
    (if c = 3 then (s, sumTo s 4, 0)
    else (if c = 0 then s.put r.toNat [a] else if c = 1 then s.put r.toNat [] else s, firstS (s.at r.toNat), 0))
  else (St.zero, 0, e)

set_option maxHeartbeats 2000000 in
theorem storeApplyNo (v : Value) (s : St) (c r a : Int) (w : World) (hx : HasS w v s) (h : (s.all rowMay1 && opMay c r a) = false) :
    Calls Try.prog 42 #[v, opV c r a] w fun e w' => e = .returned (.tuple #[stZ, .int .i64 0, .int .i64 300]) ∧ Le w w' := by
  have hx0 := hx
  obtain ⟨vs, rfl, hr⟩ := hx
  have hl := ((Le.alloc w (.cells (cells4 vs) 25)).trans (Le.alloc _ (.cells #[.int .i64 c, .int .i64 r, .int .i64 a] 43))).trans (Le.alloc _ (.cells (cells4 fun _ => slZ) 25))
  have hb1 := ((Box.new w (cells4 vs) 25).le (Le.alloc _ (.cells #[.int .i64 c, .int .i64 r, .int .i64 a] 43))).le (Le.alloc _ (.cells (cells4 fun _ => slZ) 25))
  have hb2 := (Box.new (w.alloc (.cells (cells4 vs) 25)) #[.int .i64 c, .int .i64 r, .int .i64 a] 43).le (Le.alloc _ (.cells (cells4 fun _ => slZ) 25))
  have hb3 := Box.new ((w.alloc (.cells (cells4 vs) 25)).alloc (.cells #[.int .i64 c, .int .i64 r, .int .i64 a] 43)) (cells4 fun _ => slZ) 25
  simp only [World.size_alloc] at hb1 hb2 hb3
  cases hm : s.all rowMay1
  · have hmay := storeMay (stV vs) s _ (hx0.le hl)
    rw [hm] at hmay
    go_enter Try.func42, Try.ntmps42
    go_wp2_with fail
    refine hmay.mono ?_
    rintro e w1 ⟨rfl, l1⟩
    obtain ⟨z0, z1, z2, z3, f0, f1, f2, f3⟩ := (hb3.le l1).st
    go_wp2_with fail
    refine bodyPost_ret (v := .tuple #[stZ, .int .i64 0, .int .i64 300]) (by simp [results, Try.results42, go_sem, z0, z1, z2, z3]) rfl ⟨rfl, ?_⟩
    exact (hl.trans l1).set4 (by omega) _ _ _ _
  · have hop : opMay c r a = false := by simpa [hm] using h
    have hmay := storeMay (stV vs) s _ (hx0.le hl)
    rw [hm] at hmay
    go_enter Try.func42, Try.ntmps42
    go_wp2_with fail
    refine hmay.mono ?_
    rintro e w1 ⟨rfl, l1⟩
    obtain ⟨y0, y1, y2, _, _, _⟩ := (hb2.le l1).op
    go_wp2_with fail
    refine (operMay _ _ _ _).mono ?_
    rw [hop]
    rintro e w2 ⟨rfl, l2⟩
    obtain ⟨z0, z1, z2, z3, f0, f1, f2, f3⟩ := ((hb3.le l1).le l2).st
    go_wp2_with fail
    refine bodyPost_ret (v := .tuple #[stZ, .int .i64 0, .int .i64 300]) (by simp [results, Try.results42, go_sem, z0, z1, z2, z3]) rfl ⟨rfl, ?_⟩
    exact ((hl.trans l1).trans l2).set4 (by omega) _ _ _ _

set_option maxHeartbeats 2000000 in
theorem storeApplyScan (v : Value) (s : St) (w : World) (hx : HasS w v s) (hf : Fit s) (hm : s.all rowMay1 = true) :
    Calls Try.prog 42 #[v, opV 3 0 0] w fun e w' => ∃ v', e = .returned (.tuple #[v', .int .i64 (sumTo s 4), .int .i64 0]) ∧ OwnS w' w.heap.size v' (s) ∧ Le w w' := by
  have hx0 := hx
  obtain ⟨vs, rfl, hr⟩ := hx
  have hl := ((Le.alloc w (.cells (cells4 vs) 25)).trans (Le.alloc _ (.cells #[.int .i64 3, .int .i64 0, .int .i64 0] 43))).trans (Le.alloc _ (.cells (cells4 fun _ => slZ) 25))
  have hb1 := ((Box.new w (cells4 vs) 25).le (Le.alloc _ (.cells #[.int .i64 3, .int .i64 0, .int .i64 0] 43))).le (Le.alloc _ (.cells (cells4 fun _ => slZ) 25))
  have hb2 := (Box.new (w.alloc (.cells (cells4 vs) 25)) #[.int .i64 3, .int .i64 0, .int .i64 0] 43).le (Le.alloc _ (.cells (cells4 fun _ => slZ) 25))
  have hb3 := Box.new ((w.alloc (.cells (cells4 vs) 25)).alloc (.cells #[.int .i64 3, .int .i64 0, .int .i64 0] 43)) (cells4 fun _ => slZ) 25
  simp only [World.size_alloc] at hb1 hb2 hb3
  have hmay := storeMay (stV vs) s _ (hx0.le hl)
  rw [hm] at hmay
  have hop : opMay 3 0 0 = true := by decide
  go_enter Try.func42, Try.ntmps42
  go_wp2_with fail
  refine hmay.mono ?_
  rintro e w1 ⟨rfl, l1⟩
  obtain ⟨y0, y1, y2, _, _, _⟩ := (hb2.le l1).op
  clear hmay
  go_wp2_with fail
  refine (operMay _ _ _ _).mono ?_
  rw [hop]
  rintro e w2 ⟨rfl, l2⟩
  replace l1 := l1.trans l2
  clear l2 y0 y1 y2
  obtain ⟨y0, y1, y2, y3, _, _, _, _⟩ := (hb1.le l1).st
  go_wp2_with fail
  refine (storeCopied (stV vs) s _ (hx0.le (hl.trans l1)) hf).mono ?_
  rintro e w3 ⟨_, rfl, ⟨us, rfl, hown⟩, l3⟩
  replace hown := fun i hi => (hown i hi).base (base' := w.heap.size) (hl.trans l1).size
  replace l1 := l1.trans l3
  clear l3 y0 y1 y2 y3
  have n0 : w.heap.size + 1 + 1 < w3.heap.size := (hb3.le l1).lt
  have n1 : ¬ w.heap.size + 1 + 1 = w3.heap.size := by omega
  have n2 : ¬ w.heap.size + 1 + 1 = w.heap.size := by omega
  have n3 : ¬ w.heap.size + 1 + 1 = w.heap.size + 1 := by omega
  have hb4 := Box.new w3 (cells4 us) 25
  replace l1 := l1.trans (Le.alloc w3 (.cells (cells4 us) 25))
  replace hown := fun i hi => (hown i hi).le (Le.alloc w3 (.cells (cells4 us) 25))
  obtain ⟨y0, y1, y2, _, _, _⟩ := (hb2.le l1).op
  go_upto_region 6 with fail
  generalize hW : w3.alloc (.cells (cells4 us) 25) = W at hb4 l1 hown ⊢
  clear y0 y1 y2 hW
  obtain ⟨y0, y1, y2, y3, _, _, _, _⟩ := hb4.st
  obtain ⟨x0, x1, x2, x3, _, _, _, _⟩ := (hb1.le l1).st
  obtain ⟨z0, z1, z2, z3, f0, f1, f2, f3⟩ := (hb3.le l1).st
  have hsum := fun (w' : World) (h : Le W w') => storeSum (stV vs) s w' (hx0.le ((hl.trans l1).trans h)) hm
  go_region_held3 (fun w' => w'.cell? ⟨w3.heap.size, 0, none⟩ = some (slV (us 0)) ∧ w'.cell? ⟨w3.heap.size, 1, none⟩ = some (slV (us 1)) ∧ w'.cell? ⟨w3.heap.size, 2, none⟩ = some (slV (us 2)) ∧ w'.cell? ⟨w3.heap.size, 3, none⟩ = some (slV (us 3)) ∧ w'.cell? ⟨w.heap.size, 0, none⟩ = some (slV (vs 0)) ∧ w'.cell? ⟨w.heap.size, 1, none⟩ = some (slV (vs 1)) ∧ w'.cell? ⟨w.heap.size, 2, none⟩ = some (slV (vs 2)) ∧ w'.cell? ⟨w.heap.size, 3, none⟩ = some (slV (vs 3))) (go_keep) ((go_at_call 48; refine (hsum _ (Le.drew _)).mono ?_; rintro e w4 ⟨rfl, l4⟩; replace l4 := (Le.drew W).trans l4; obtain ⟨y0', y1', y2', y3', _, _, _, _⟩ := (hb4.le l4).st; obtain ⟨x0', x1', x2', x3', _, _, _, _⟩ := (hb1.le (l1.trans l4)).st; obtain ⟨z0', z1', z2', z3', f0', f1', f2', f3'⟩ := (hb3.le (l1.trans l4)).st))
  all_goals
    go_wp2_with fail
    refine bodyPost_ret (v := .tuple #[stV us, .int .i64 (sumTo s 4), .int .i64 0]) (by simp [results, Try.results42, go_sem, z0', z1', z2', z3']) rfl ⟨_, rfl, ⟨us, rfl, fun i hi => ?_⟩, ?_⟩
    · exact ((hown i hi).le l4).set4 (hb3.le (l1.trans l4)) (by decide) _ _ _ _
    · exact ((hl.trans l1).trans l4).set4 (by omega) _ _ _ _

set_option maxHeartbeats 2000000 in
theorem storeApplyLook (v : Value) (s : St) (k : Nat) (w : World) (hx : HasS w v s) (hf : Fit s) (hm : s.all rowMay1 = true) (hk : k < 4) :
    Calls Try.prog 42 #[v, opV 2 k 0] w fun e w' => ∃ v', e = .returned (.tuple #[v', .int .i64 (firstS (s.at k)), .int .i64 0]) ∧ OwnS w' w.heap.size v' (s) ∧ Le w w' := by
  have hx0 := hx
  obtain ⟨vs, rfl, hr⟩ := hx
  have hl := ((Le.alloc w (.cells (cells4 vs) 25)).trans (Le.alloc _ (.cells #[.int .i64 2, .int .i64 k, .int .i64 0] 43))).trans (Le.alloc _ (.cells (cells4 fun _ => slZ) 25))
  have hb1 := ((Box.new w (cells4 vs) 25).le (Le.alloc _ (.cells #[.int .i64 2, .int .i64 k, .int .i64 0] 43))).le (Le.alloc _ (.cells (cells4 fun _ => slZ) 25))
  have hb2 := (Box.new (w.alloc (.cells (cells4 vs) 25)) #[.int .i64 2, .int .i64 k, .int .i64 0] 43).le (Le.alloc _ (.cells (cells4 fun _ => slZ) 25))
  have hb3 := Box.new ((w.alloc (.cells (cells4 vs) 25)).alloc (.cells #[.int .i64 2, .int .i64 k, .int .i64 0] 43)) (cells4 fun _ => slZ) 25
  simp only [World.size_alloc] at hb1 hb2 hb3
  have hmay := storeMay (stV vs) s _ (hx0.le hl)
  rw [hm] at hmay
  have hop : opMay 2 k 0 = true := by simp [opMay]; omega
  go_enter Try.func42, Try.ntmps42
  go_wp2_with fail
  refine hmay.mono ?_
  rintro e w1 ⟨rfl, l1⟩
  obtain ⟨y0, y1, y2, _, _, _⟩ := (hb2.le l1).op
  clear hmay
  go_wp2_with fail
  refine (operMay _ _ _ _).mono ?_
  rw [hop]
  rintro e w2 ⟨rfl, l2⟩
  replace l1 := l1.trans l2
  clear l2 y0 y1 y2
  obtain ⟨y0, y1, y2, y3, _, _, _, _⟩ := (hb1.le l1).st
  go_wp2_with fail
  refine (storeCopied (stV vs) s _ (hx0.le (hl.trans l1)) hf).mono ?_
  rintro e w3 ⟨_, rfl, ⟨us, rfl, hown⟩, l3⟩
  replace hown := fun i hi => (hown i hi).base (base' := w.heap.size) (hl.trans l1).size
  replace l1 := l1.trans l3
  clear l3 y0 y1 y2 y3
  have n0 : w.heap.size + 1 + 1 < w3.heap.size := (hb3.le l1).lt
  have n1 : ¬ w.heap.size + 1 + 1 = w3.heap.size := by omega
  have n2 : ¬ w.heap.size + 1 + 1 = w.heap.size := by omega
  have n3 : ¬ w.heap.size + 1 + 1 = w.heap.size + 1 := by omega
  have hb4 := Box.new w3 (cells4 us) 25
  replace l1 := l1.trans (Le.alloc w3 (.cells (cells4 us) 25))
  replace hown := fun i hi => (hown i hi).le (Le.alloc w3 (.cells (cells4 us) 25))
  obtain ⟨y0, y1, y2, _, _, _⟩ := (hb2.le l1).op
  go_upto_region 11 with fail
  generalize hW : w3.alloc (.cells (cells4 us) 25) = W at hb4 l1 hown ⊢
  clear y0 y1 y2 hW
  obtain ⟨y0, y1, y2, y3, _, _, _, _⟩ := hb4.st
  obtain ⟨z0, z1, z2, z3, f0, f1, f2, f3⟩ := (hb3.le l1).st
  have k0 : (0 : Int) ≤ (k : Int) := by omega
  have k1 : (k : Int) < 4 := by omega
  have o1 := (hb2.le l1).op.2.1
  have x1 : W.cell? ⟨w.heap.size, k, none⟩ = some (slV (vs k)) := ((hb1.le l1).cell k).trans (cells4_at vs hk)
  have hnum := storeNumber (slV (vs k)) (s.at k) W.drew ((hr k hk).le ((hl.trans l1).trans (Le.drew _)))
  go_region_held3 (fun w' => w'.cell? ⟨w3.heap.size, 0, none⟩ = some (slV (us 0)) ∧ w'.cell? ⟨w3.heap.size, 1, none⟩ = some (slV (us 1)) ∧ w'.cell? ⟨w3.heap.size, 2, none⟩ = some (slV (us 2)) ∧ w'.cell? ⟨w3.heap.size, 3, none⟩ = some (slV (us 3)) ∧ w'.cell? ⟨w.heap.size + 1, 1, none⟩ = some (.int .i64 k) ∧ w'.cell? ⟨w.heap.size, k, none⟩ = some (slV (vs k))) (go_keep) ((go_at_call 49; refine hnum.mono ?_; rintro e w4 ⟨rfl, rfl⟩))
  all_goals
    go_wp2_with fail
    refine bodyPost_ret (v := .tuple #[stV us, .int .i64 (firstS (s.at k)), .int .i64 0]) (by simp [results, Try.results42, go_sem, z0, z1, z2, z3]) rfl ⟨_, rfl, ⟨us, rfl, fun i hi => ?_⟩, ?_⟩
    · exact ((hown i hi).le (Le.drew _)).set4 (hb3.le (l1.trans (Le.drew _))) (by decide) _ _ _ _
    · exact ((hl.trans l1).trans (Le.drew _)).set4 (by omega) _ _ _ _

set_option maxHeartbeats 2000000 in
theorem storeApplyFirst (v : Value) (s : St) (k : Nat) (a : Int) (w : World) (hx : HasS w v s) (hf : Fit s) (hm : s.all rowMay1 = true) (hk : k < 4) (ha : 0 ≤ a ∧ a ≤ 255) :
    Calls Try.prog 42 #[v, opV 0 k a] w fun e w' => ∃ v', e = .returned (.tuple #[v', .int .i64 (firstS (s.at k)), .int .i64 0]) ∧ OwnS w' w.heap.size v' (s.put k [a]) ∧ Le w w' := by
  have hx0 := hx
  obtain ⟨vs, rfl, hr⟩ := hx
  have hl := ((Le.alloc w (.cells (cells4 vs) 25)).trans (Le.alloc _ (.cells #[.int .i64 0, .int .i64 k, .int .i64 a] 43))).trans (Le.alloc _ (.cells (cells4 fun _ => slZ) 25))
  have hb1 := ((Box.new w (cells4 vs) 25).le (Le.alloc _ (.cells #[.int .i64 0, .int .i64 k, .int .i64 a] 43))).le (Le.alloc _ (.cells (cells4 fun _ => slZ) 25))
  have hb2 := (Box.new (w.alloc (.cells (cells4 vs) 25)) #[.int .i64 0, .int .i64 k, .int .i64 a] 43).le (Le.alloc _ (.cells (cells4 fun _ => slZ) 25))
  have hb3 := Box.new ((w.alloc (.cells (cells4 vs) 25)).alloc (.cells #[.int .i64 0, .int .i64 k, .int .i64 a] 43)) (cells4 fun _ => slZ) 25
  simp only [World.size_alloc] at hb1 hb2 hb3
  have hmay := storeMay (stV vs) s _ (hx0.le hl)
  rw [hm] at hmay
  have hop : opMay 0 k a = true := by simp [opMay]; omega
  go_enter Try.func42, Try.ntmps42
  go_wp2_with fail
  refine hmay.mono ?_
  rintro e w1 ⟨rfl, l1⟩
  obtain ⟨y0, y1, y2, _, _, _⟩ := (hb2.le l1).op
  clear hmay
  go_wp2_with fail
  refine (operMay _ _ _ _).mono ?_
  rw [hop]
  rintro e w2 ⟨rfl, l2⟩
  replace l1 := l1.trans l2
  clear l2 y0 y1 y2
  obtain ⟨y0, y1, y2, y3, _, _, _, _⟩ := (hb1.le l1).st
  go_wp2_with fail
  refine (storeCopied (stV vs) s _ (hx0.le (hl.trans l1)) hf).mono ?_
  rintro e w3 ⟨_, rfl, ⟨us, rfl, hown⟩, l3⟩
  replace hown := fun i hi => (hown i hi).base (base' := w.heap.size) (hl.trans l1).size
  replace l1 := l1.trans l3
  clear l3 y0 y1 y2 y3
  have n0 : w.heap.size + 1 + 1 < w3.heap.size := (hb3.le l1).lt
  have n1 : ¬ w.heap.size + 1 + 1 = w3.heap.size := by omega
  have n2 : ¬ w.heap.size + 1 + 1 = w.heap.size := by omega
  have n3 : ¬ w.heap.size + 1 + 1 = w.heap.size + 1 := by omega
  have hb4 := Box.new w3 (cells4 us) 25
  replace l1 := l1.trans (Le.alloc w3 (.cells (cells4 us) 25))
  replace hown := fun i hi => (hown i hi).le (Le.alloc w3 (.cells (cells4 us) 25))
  obtain ⟨y0, y1, y2, _, _, _⟩ := (hb2.le l1).op
  go_upto_region 8 with fail
  generalize hW : w3.alloc (.cells (cells4 us) 25) = W at hb4 l1 hown ⊢
  clear y0 y1 y2 hW
  have o1 := (hb2.le l1).op.2.1
  have o2 := (hb2.le l1).op.2.2.1
  have t1 : (W.alloc (.cells #[.int .i64 a] 3)).cell? ⟨w3.heap.size, k, none⟩ = some (slV (us k)) := ((hb4.le (Le.alloc W _)).cell k).trans (cells4_at us hk)
  have tf := (hb4.le (Le.alloc W (.cells #[.int .i64 a] 3))).frozen k
  have hnew : Own (W.alloc (.cells #[.int .i64 a] 3)) w.heap.size (slV (some ⟨W.heap.size, 0, none⟩, 1, 1)) [a] := Own.lit W _ (hl.trans l1).size [a] (by simp)
  go_upto_region 11 with fail
  replace hnew := hnew.setBox (i := k) (u := slV (some ⟨W.heap.size, 0, none⟩, 1, 1)) (hb4.le (Le.alloc W _)) (by decide)
  replace hown := fun i hi => ((hown i hi).le (Le.alloc W (.cells #[.int .i64 a] 3))).setBox (i := k) (u := slV (some ⟨W.heap.size, 0, none⟩, 1, 1)) (hb4.le (Le.alloc W _)) (by decide)
  replace hb4 := (hb4.le (Le.alloc W (.cells #[.int .i64 a] 3))).set k (slV (some ⟨W.heap.size, 0, none⟩, 1, 1))
  rw [cells4_upd us hk] at hb4
  replace l1 : Le _ ((W.alloc (.cells #[.int .i64 a] 3)).setCell ⟨w3.heap.size, k, none⟩ (slV (some ⟨W.heap.size, 0, none⟩, 1, 1))) := Below.setCell (l1.trans (Le.alloc W _)) (by simp only [World.size_alloc]; show w.heap.size + 1 + 1 + 1 ≤ w3.heap.size; omega) _
  generalize hW2 : (W.alloc (.cells #[.int .i64 a] 3)).setCell ⟨w3.heap.size, k, none⟩ (slV (some ⟨W.heap.size, 0, none⟩, 1, 1)) = W2 at hb4 l1 hown hnew ⊢
  replace hown : ∀ i, i < 4 → Own W2 w.heap.size (slV (upd us k (some ⟨W.heap.size, 0, none⟩, 1, 1) i)) ((s.put k [a]).at i) := by
    intro i hi
    rw [St.at_put hk hi]
    by_cases e : i = k
    · rw [if_pos e, show upd us k (some ⟨W.heap.size, 0, none⟩, 1, 1) i = (some ⟨W.heap.size, 0, none⟩, 1, 1) by simp [upd, e]]; exact hnew
    · rw [if_neg e, show upd us k (some ⟨W.heap.size, 0, none⟩, 1, 1) i = us i by simp [upd, e]]; exact hown i hi
  generalize upd us k (some ⟨W.heap.size, 0, none⟩, 1, 1) = us at hb4 hown
  clear hW2 hnew t1 tf o1 o2
  generalize W2 = W at hb4 l1 hown ⊢
  obtain ⟨y0, y1, y2, y3, _, _, _, _⟩ := hb4.st
  obtain ⟨z0, z1, z2, z3, f0, f1, f2, f3⟩ := (hb3.le l1).st
  have k0 : (0 : Int) ≤ (k : Int) := by omega
  have k1 : (k : Int) < 4 := by omega
  have o1 := (hb2.le l1).op.2.1
  have x1 : W.cell? ⟨w.heap.size, k, none⟩ = some (slV (vs k)) := ((hb1.le l1).cell k).trans (cells4_at vs hk)
  have hnum := storeNumber (slV (vs k)) (s.at k) W.drew ((hr k hk).le ((hl.trans l1).trans (Le.drew _)))
  go_region_held3 (fun w' => w'.cell? ⟨w3.heap.size, 0, none⟩ = some (slV (us 0)) ∧ w'.cell? ⟨w3.heap.size, 1, none⟩ = some (slV (us 1)) ∧ w'.cell? ⟨w3.heap.size, 2, none⟩ = some (slV (us 2)) ∧ w'.cell? ⟨w3.heap.size, 3, none⟩ = some (slV (us 3)) ∧ w'.cell? ⟨w.heap.size + 1, 1, none⟩ = some (.int .i64 k) ∧ w'.cell? ⟨w.heap.size, k, none⟩ = some (slV (vs k))) (go_keep) ((go_at_call 49; refine hnum.mono ?_; rintro e w4 ⟨rfl, rfl⟩))
  all_goals
    go_wp2_with fail
    refine bodyPost_ret (v := .tuple #[stV us, .int .i64 (firstS (s.at k)), .int .i64 0]) (by simp [results, Try.results42, go_sem, z0, z1, z2, z3]) rfl ⟨_, rfl, ⟨us, rfl, fun i hi => ?_⟩, ?_⟩
    · exact ((hown i hi).le (Le.drew _)).set4 (hb3.le (l1.trans (Le.drew _))) (by decide) _ _ _ _
    · exact ((hl.trans l1).trans (Le.drew _)).set4 (by omega) _ _ _ _

set_option maxHeartbeats 2000000 in
theorem storeApplySecond (v : Value) (s : St) (k : Nat) (a : Int) (w : World) (hx : HasS w v s) (hf : Fit s) (hm : s.all rowMay1 = true) (hk : k < 4) (ha : 0 ≤ a ∧ a ≤ 255) :
    Calls Try.prog 42 #[v, opV 1 k a] w fun e w' => ∃ v', e = .returned (.tuple #[v', .int .i64 (firstS (s.at k)), .int .i64 0]) ∧ OwnS w' w.heap.size v' (s.put k []) ∧ Le w w' := by
  have hx0 := hx
  obtain ⟨vs, rfl, hr⟩ := hx
  have hl := ((Le.alloc w (.cells (cells4 vs) 25)).trans (Le.alloc _ (.cells #[.int .i64 1, .int .i64 k, .int .i64 a] 43))).trans (Le.alloc _ (.cells (cells4 fun _ => slZ) 25))
  have hb1 := ((Box.new w (cells4 vs) 25).le (Le.alloc _ (.cells #[.int .i64 1, .int .i64 k, .int .i64 a] 43))).le (Le.alloc _ (.cells (cells4 fun _ => slZ) 25))
  have hb2 := (Box.new (w.alloc (.cells (cells4 vs) 25)) #[.int .i64 1, .int .i64 k, .int .i64 a] 43).le (Le.alloc _ (.cells (cells4 fun _ => slZ) 25))
  have hb3 := Box.new ((w.alloc (.cells (cells4 vs) 25)).alloc (.cells #[.int .i64 1, .int .i64 k, .int .i64 a] 43)) (cells4 fun _ => slZ) 25
  simp only [World.size_alloc] at hb1 hb2 hb3
  have hmay := storeMay (stV vs) s _ (hx0.le hl)
  rw [hm] at hmay
  have hop : opMay 1 k a = true := by simp [opMay]; omega
  go_enter Try.func42, Try.ntmps42
  go_wp2_with fail
  refine hmay.mono ?_
  rintro e w1 ⟨rfl, l1⟩
  obtain ⟨y0, y1, y2, _, _, _⟩ := (hb2.le l1).op
  clear hmay
  go_wp2_with fail
  refine (operMay _ _ _ _).mono ?_
  rw [hop]
  rintro e w2 ⟨rfl, l2⟩
  replace l1 := l1.trans l2
  clear l2 y0 y1 y2
  obtain ⟨y0, y1, y2, y3, _, _, _, _⟩ := (hb1.le l1).st
  go_wp2_with fail
  refine (storeCopied (stV vs) s _ (hx0.le (hl.trans l1)) hf).mono ?_
  rintro e w3 ⟨_, rfl, ⟨us, rfl, hown⟩, l3⟩
  replace hown := fun i hi => (hown i hi).base (base' := w.heap.size) (hl.trans l1).size
  replace l1 := l1.trans l3
  clear l3 y0 y1 y2 y3
  have n0 : w.heap.size + 1 + 1 < w3.heap.size := (hb3.le l1).lt
  have n1 : ¬ w.heap.size + 1 + 1 = w3.heap.size := by omega
  have n2 : ¬ w.heap.size + 1 + 1 = w.heap.size := by omega
  have n3 : ¬ w.heap.size + 1 + 1 = w.heap.size + 1 := by omega
  have hb4 := Box.new w3 (cells4 us) 25
  replace l1 := l1.trans (Le.alloc w3 (.cells (cells4 us) 25))
  replace hown := fun i hi => (hown i hi).le (Le.alloc w3 (.cells (cells4 us) 25))
  obtain ⟨y0, y1, y2, _, _, _⟩ := (hb2.le l1).op
  go_upto_region 10 with fail
  generalize hW : w3.alloc (.cells (cells4 us) 25) = W at hb4 l1 hown ⊢
  clear y0 y1 y2 hW
  have o1 := (hb2.le l1).op.2.1
  have t1 : W.cell? ⟨w3.heap.size, k, none⟩ = some (slV (us k)) := (hb4.cell k).trans (cells4_at us hk)
  have tf := hb4.frozen k
  go_upto_region 11 with fail
  replace hown := fun i hi => (hown i hi).setBox (i := k) (u := slV slZ) hb4 (by decide)
  replace hb4 := hb4.set k (slV slZ)
  rw [cells4_upd us hk] at hb4
  replace l1 : Le _ (W.setCell ⟨w3.heap.size, k, none⟩ (slV slZ)) := Below.setCell l1 (by simp only [World.size_alloc]; show w.heap.size + 1 + 1 + 1 ≤ w3.heap.size; omega) _
  generalize hW2 : W.setCell ⟨w3.heap.size, k, none⟩ (slV slZ) = W2 at hb4 l1 hown ⊢
  replace hown : ∀ i, i < 4 → Own W2 w.heap.size (slV (upd us k slZ i)) ((s.put k []).at i) := by
    intro i hi
    rw [St.at_put hk hi]
    by_cases e : i = k
    · rw [if_pos e, show upd us k slZ i = slZ by simp [upd, e]]; exact Own.nil _ _
    · rw [if_neg e, show upd us k slZ i = us i by simp [upd, e]]; exact hown i hi
  generalize upd us k slZ = us at hb4 hown
  clear hW2 t1 tf o1
  generalize W2 = W at hb4 l1 hown ⊢
  obtain ⟨y0, y1, y2, y3, _, _, _, _⟩ := hb4.st
  obtain ⟨z0, z1, z2, z3, f0, f1, f2, f3⟩ := (hb3.le l1).st
  have k0 : (0 : Int) ≤ (k : Int) := by omega
  have k1 : (k : Int) < 4 := by omega
  have o1 := (hb2.le l1).op.2.1
  have x1 : W.cell? ⟨w.heap.size, k, none⟩ = some (slV (vs k)) := ((hb1.le l1).cell k).trans (cells4_at vs hk)
  have hnum := storeNumber (slV (vs k)) (s.at k) W.drew ((hr k hk).le ((hl.trans l1).trans (Le.drew _)))
  go_region_held3 (fun w' => w'.cell? ⟨w3.heap.size, 0, none⟩ = some (slV (us 0)) ∧ w'.cell? ⟨w3.heap.size, 1, none⟩ = some (slV (us 1)) ∧ w'.cell? ⟨w3.heap.size, 2, none⟩ = some (slV (us 2)) ∧ w'.cell? ⟨w3.heap.size, 3, none⟩ = some (slV (us 3)) ∧ w'.cell? ⟨w.heap.size + 1, 1, none⟩ = some (.int .i64 k) ∧ w'.cell? ⟨w.heap.size, k, none⟩ = some (slV (vs k))) (go_keep) ((go_at_call 49; refine hnum.mono ?_; rintro e w4 ⟨rfl, rfl⟩))
  all_goals
    go_wp2_with fail
    refine bodyPost_ret (v := .tuple #[stV us, .int .i64 (firstS (s.at k)), .int .i64 0]) (by simp [results, Try.results42, go_sem, z0, z1, z2, z3]) rfl ⟨_, rfl, ⟨us, rfl, fun i hi => ?_⟩, ?_⟩
    · exact ((hown i hi).le (Le.drew _)).set4 (hb3.le (l1.trans (Le.drew _))) (by decide) _ _ _ _
    · exact ((hl.trans l1).trans (Le.drew _)).set4 (by omega) _ _ _ _

end Go.Proofs.Ytnpejgendmgfaaa

/-
  PLAIN GROUND: store.Apply's contract in one, and that what it answers can be copied. Condition: the state's rows can be copied.
-/
namespace Go.Proofs.Ytnpejgendmgfaaa
open Go.RowKit

theorem stoS_no {s : St} {c r a er : Int} (h : (s.all rowMay1 && opMay c r a) = false) : stoS s c r a er = (St.zero, 0, er) := by simp [stoS, h]
theorem stoS_scan {s : St} {er : Int} (h : s.all rowMay1 = true) : stoS s 3 0 0 er = (s, sumTo s 4, 0) := by
  have : opMay 3 0 0 = true := by decide
  simp [stoS, h, this]
theorem stoS_look {s : St} {k : Nat} {er : Int} (h : s.all rowMay1 = true) (hk : k < 4) : stoS s 2 k 0 er = (s, firstS (s.at k), 0) := by
  have : opMay 2 k 0 = true := by simp [opMay]; omega
  simp [stoS, h, this]
theorem stoS_first {s : St} {k : Nat} {a er : Int} (h : s.all rowMay1 = true) (hk : k < 4) (ha : 0 ≤ a ∧ a ≤ 255) : stoS s 0 k a er = (s.put k [a], firstS (s.at k), 0) := by
  have : opMay 0 k a = true := by simp [opMay]; omega
  simp [stoS, h, this]
theorem stoS_second {s : St} {k : Nat} {a er : Int} (h : s.all rowMay1 = true) (hk : k < 4) (ha : 0 ≤ a ∧ a ≤ 255) : stoS s 1 k a er = (s.put k [], firstS (s.at k), 0) := by
  have : opMay 1 k a = true := by simp [opMay]; omega
  simp [stoS, h, this]

theorem storeApply (v : Value) (s : St) (c r a : Int) (w : World) (hx : HasS w v s) (hf : Fit s) :
    Calls Try.prog 42 #[v, opV c r a] w fun e w' => ∃ v', e = .returned (.tuple #[v', .int .i64 (stoS s c r a 300).2.1, .int .i64 (stoS s c r a 300).2.2]) ∧ OwnS w' w.heap.size v' (stoS s c r a 300).1 ∧ Le w w' := by
  cases h : s.all rowMay1 && opMay c r a
  · rw [stoS_no h]
    exact (storeApplyNo v s c r a w hx h).mono fun e w' ⟨he, hl⟩ => ⟨stZ, he, OwnS.zero _ _, hl⟩
  · obtain ⟨hm, ho⟩ := Bool.and_eq_true_iff.mp h
    rcases opMay_cases ho with ⟨k, hk, rfl, rfl, ha⟩ | ⟨k, hk, rfl, rfl, ha⟩ | ⟨k, hk, rfl, rfl, rfl⟩ | ⟨rfl, rfl, rfl⟩
    · rw [stoS_first hm hk ha]; exact storeApplyFirst v s k a w hx hf hm hk ha
    · rw [stoS_second hm hk ha]; exact storeApplySecond v s k a w hx hf hm hk ha
    · rw [stoS_look hm hk]; exact storeApplyLook v s k w hx hf hm hk
    · rw [stoS_scan hm]; exact storeApplyScan v s w hx hf hm

theorem Fit.sto {s : St} (h : Fit s) (c r a er : Int) : Fit (stoS s c r a er).1 := by
  cases hh : s.all rowMay1 && opMay c r a
  · rw [stoS_no hh]; exact fit_zero
  · obtain ⟨hm, ho⟩ := Bool.and_eq_true_iff.mp hh
    rcases opMay_cases ho with ⟨k, hk, rfl, rfl, ha⟩ | ⟨k, hk, rfl, rfl, ha⟩ | ⟨k, hk, rfl, rfl, rfl⟩ | ⟨rfl, rfl, rfl⟩
    · rw [stoS_first hm hk ha]; exact h.put hk (by simp)
    · rw [stoS_second hm hk ha]; exact h.put hk (by simp)
    · rw [stoS_look hm hk]; exact h
    · rw [stoS_scan hm]; exact h

end Go.Proofs.Ytnpejgendmgfaaa

/-
  THE SHELF'S CONTRACTS OF slices.Insert AT []int, LAID AT THIS PROGRAM. No condition.
-/
namespace Go.Proofs.Ytnpejgendmgfaaa
open Go.RowKit Go.Shelf

/-- The shelf's numbers of functions and types, and this program's. -/
def insRen : Ren where
  f := fun x => match x with
    | 21 => 60
    | 27 => 64
    | 28 => 65
    | 35 => 67
    | 39 => 68
    | x => x
  t := fun x => match x with
    | 3 => 3
    | 4 => 4
    | 22 => 22
    | x => x
  g := fun x => x

theorem insLays : Lays2.n21 Try.prog insRen where
  mixed := by kernel_rfl
  f21 := by kernel_rfl
  f27 := by kernel_rfl
  f28 := by kernel_rfl
  f35 := by kernel_rfl
  f39 := by kernel_rfl
  t0 := by kernel_rfl
  a0 := fun _ => by kernel_rfl
  z0 := fun _ => by kernel_rfl
  v0 := fun _ => by kernel_rfl
  t3 := by kernel_rfl
  a3 := fun _ => by kernel_rfl
  z3 := fun _ => by kernel_rfl
  v3 := fun _ => by kernel_rfl
  t4 := by kernel_rfl
  a4 := fun _ => by kernel_rfl
  z4 := fun _ => by kernel_rfl
  v4 := fun _ => by kernel_rfl
  t22 := by kernel_rfl
  a22 := fun _ => by kernel_rfl
  z22 := fun _ => by kernel_rfl
  v22 := fun _ => by kernel_rfl
  i3 := by kernel_rfl

end Go.Proofs.Ytnpejgendmgfaaa

/-
  slices.Insert OF ONE NUMBER INTO A ROW OF THE CALL'S OWN: the row with that number at that place, in the row's own memory or in new memory, and nothing else turned. Condition: the place is within the row, and the row has at most a thousand numbers.
-/
namespace Go.Proofs.Ytnpejgendmgfaaa
open Go.RowKit Go.Shelf

theorem grown_set (w : World) (g i : Nat) (v : Value) : w.grownBy (w.setCell ⟨g, i, none⟩ v) (some g) :=
  ⟨rfl, rfl, rfl, by simp, fun k _ hne => Below.heap_setCell _ _ _ _ (fun e => hne (by rw [e]))⟩

theorem grown_drew (w : World) (row : Option Nat) : w.grownBy w.drew row := ⟨rfl, rfl, rfl, Nat.le_refl _, fun _ _ _ => rfl⟩

theorem grown_sets (g : Nat) : ∀ (vs : List Value) (o : Nat) (w : World), w.grownBy (w.setCells g o vs) (some g)
  | [], _, _ => World.grownBy.refl _ _
  | v :: r, o, w => grownBy_trans (grown_set w g o v) (grown_sets g r (o + 1) _)

theorem Box.sets {g : Nat} {t : TypeId} : ∀ (vs : List Value) (o : Nat) (w : World) (cur : Array Value), Box w g cur t → ∃ cur' : Array Value, cur'.size = cur.size ∧ Box (w.setCells g o vs) g cur' t
  | [], _, _, cur, h => ⟨cur, rfl, h⟩
  | v :: r, o, w, cur, h => by
    obtain ⟨c, hc, hb⟩ := Box.sets r (o + 1) (w.setCell ⟨g, o, none⟩ v) _ (h.set o v)
    exact ⟨c, by rw [hc]; simp, hb⟩

/-- A row of the call's own, told by its cells. -/
theorem Own.ofCells {w : World} {base g n cap : Nat} {cur : Array Value} {xs : List Int} (hb : Box w g cur 3) (hg : base ≤ g) (hn : n = xs.length) (hc : n ≤ cap) (hm : cap ≤ maxLen) (hs : cur.size = cap)
    (hx : ∀ j, j < n → w.cell? ⟨g, j, none⟩ = some (.int .i64 (xs.getD j 0))) : Own w base (.slice (some ⟨g, 0, none⟩) n cap) xs := by
  subst hn
  refine ⟨by simp, .inr ⟨g, cap, cur, rfl, hg, hb, hc, hm, by simp [hs], ?_⟩⟩
  apply List.ext_getElem?
  intro j
  rw [Nat.mul_one, List.getElem?_take]
  by_cases hj : j < xs.length
  · have := hx j hj
    rw [hb.cell j] at this
    rw [if_pos hj, Array.getElem?_toList, this]
    simp [hj, List.getD]
  · rw [if_neg hj, List.getElem?_eq_none (by simpa using hj)]

theorem getD_ins {xs : List Int} {i : Nat} {x : Int} (hi : i ≤ xs.length) (j : Nat) : (xs.take i ++ x :: xs.drop i).getD j 0 = if j < i then xs.getD j 0 else if j = i then x else xs.getD (j - 1) 0 := by
  have hl : (xs.take i).length = i := by rw [List.length_take]; omega
  simp only [List.getD]
  by_cases h1 : j < i
  · rw [if_pos h1, List.getElem?_append_left (by omega), List.getElem?_take, if_pos h1]
  · rw [if_neg h1, List.getElem?_append_right (by omega), hl]
    by_cases h2 : j = i
    · rw [if_pos h2, h2]; simp
    · rw [if_neg h2]
      obtain ⟨d, rfl⟩ : ∃ d, j = i + d + 1 := ⟨j - i - 1, by omega⟩
      rw [show i + d + 1 - i = d + 1 by omega, List.getElem?_cons_succ, List.getElem?_drop, show i + d + 1 - 1 = i + d by omega]

theorem map_at {xs : List Int} {j : Nat} {v : Value} (h : (xs.map (Value.int .i64))[j]? = some v) : j < xs.length ∧ v = .int .i64 (xs.getD j 0) := by
  rw [List.getElem?_map] at h
  have hlt : j < xs.length := by
    rcases Nat.lt_or_ge j xs.length with h' | h'
    · exact h'
    · rw [List.getElem?_eq_none h'] at h; cases h
  refine ⟨hlt, ?_⟩
  rw [List.getElem?_eq_getElem hlt] at h
  simp at h
  rw [← h]
  simp [List.getD, hlt]

theorem oneCell_ints (xs : List Int) : ∀ v ∈ xs.map (Value.int .i64), v.oneCell' = true := by
  intro v hv
  obtain ⟨x, _, rfl⟩ := List.mem_map.mp hv
  rfl

theorem slicesInsert (v : Value) (base : Nat) (xs : List Int) (i : Nat) (x : Int) (vb : Nat) (w : World) (hown : Own w base v xs) (hbase : base ≤ w.heap.size) (hi : i ≤ xs.length) (hl : xs.length ≤ 1000)
    (hv : Box w vb #[.int .i64 x] 3) (hvb : v.ownBlock ≠ some vb) :
    Calls Try.prog 60 #[v, .int .i64 i, .slice (some ⟨vb, 0, none⟩) 1 1] w fun e w' => ∃ v', e = .returned v' ∧ Own w' base v' (xs.take i ++ x :: xs.drop i) ∧ w.grownBy w' v.ownBlock := by
  have hvs : ∀ j u, [Value.int .i64 x][j]? = some u → w.cell? ⟨vb, 0 + j, none⟩ = some u := by
    intro j u hj
    rw [Nat.zero_add, hv.cell j]
    cases j with
    | zero => simpa using hj
    | succ j => simp at hj
  have h1v : ∀ u ∈ [Value.int .i64 x], u.oneCell' = true := by intro u hu; simp at hu; subst hu; rfl
  have hlen : (xs.take i ++ x :: xs.drop i).length = xs.length + 1 := by simp; omega
  have hmap : (xs.map (Value.int .i64)).length = xs.length := by simp
  have hcell := hown.has
  by_cases hend : i = xs.length
  · subst hend
    have htd : xs.take xs.length ++ x :: xs.drop xs.length = xs ++ [x] := by simp
    -- at the end
    by_cases hroom : ∃ g cap cur, v = .slice (some ⟨g, 0, none⟩) xs.length cap ∧ base ≤ g ∧ Box w g cur 3 ∧ xs.length + 1 ≤ cap ∧ cap ≤ maxLen ∧ cur.size = cap
    · obtain ⟨g, cap, cur, rfl, hg, hb, hc, hm, hs⟩ := hroom
      have hm' : cap ≤ 9223372036854775807 := by unfold maxLen at hm; omega
      have hc0 : ∀ j, j < xs.length → w.cell? ⟨g, j, none⟩ = some (.int .i64 (xs.getD j 0)) := by
        intro j hj
        obtain ⟨a, c', hv', _, _, hx⟩ := hcell
        obtain ⟨b, off, ha, hx⟩ := hx (by omega)
        cases hv'
        cases ha
        simpa using hx j hj
      refine (Any2.slices_Insert_int_end_room insLays g 0 xs.length cap vb 0 1 1 [.int .i64 x] w (by omega) hc hm' rfl (fun j hj => ?_) (fun j _ => hb.frozen _) hvs h1v).mono ?_
      · rw [hb.cell, Array.getElem?_eq_getElem (by omega)]; rfl
      rintro e w' ⟨rfl, rfl⟩
      obtain ⟨cur', hs', hb'⟩ := hb.sets [.int .i64 x] (0 + xs.length) w
      refine ⟨_, rfl, Own.ofCells hb' hg (by rw [hlen]) hc hm (by omega) (fun j hj => ?_), grown_sets g _ _ w⟩
      rw [getD_ins (Nat.le_refl _)]
      by_cases hj' : j < xs.length
      · rw [if_pos hj', World.cell?_setCells_out _ _ _ _ _ (fun _ _ => by simp; omega)]
        exact hc0 j hj'
      · obtain rfl : j = xs.length := by omega
        have := World.cell?_setCells_in g [.int .i64 x] (0 + xs.length) w (fun j hj => by simp at hj; subst hj; rw [hb.cell, Array.getElem?_eq_getElem (by omega)]; rfl) 0 (by simp)
        simpa using this
    · -- no room
      have hsh : ∃ (a : Option Addr) (cap : Nat), v = .slice a xs.length cap ∧ xs.length ≤ cap ∧ cap < xs.length + 1 ∧ (a = none → xs.length = 0) := by
        rcases hown.2 with ⟨h2, h3⟩ | ⟨g, cap, cur, h2, hg, hb, hc, hm, hs, _⟩
        · exact ⟨none, 0, by rw [h3]; exact h2, by omega, by omega, fun _ => h3⟩
        · refine ⟨_, cap, h2, hc, ?_, fun h => by cases h⟩
          rcases Nat.lt_or_ge cap (xs.length + 1) with h | h
          · exact h
          · exact absurd ⟨g, cap, cur, h2, hg, hb, h, hm, by omega⟩ hroom
      obtain ⟨a, cap, rfl, hc, hc', hnil⟩ := hsh
      refine (Any2.slices_Insert_int_end_grow insLays a xs.length cap vb 0 1 1 (xs.map (Value.int .i64)) [.int .i64 x] w (by omega) hc hc' (by omega) hmap rfl hnil (fun ad ha j u hj => ?_) hvs h1v).mono ?_
      · subst ha; exact hcell.cells j u hj
      rintro e w' ⟨rfl, rfl⟩
      have hG := grownCap_ge w (xs.length + 1) cap 3
      have hGm := grownCap_le_maxLen w (xs.length + 1) cap 3 (by unfold maxLen; omega)
      generalize hGG : grownCap w (xs.length + 1) cap (insRen.t 3) = G
      rw [show grownCap w (xs.length + 1) cap 3 = G from hGG] at hG hGm
      obtain ⟨ROW, hROW⟩ : ∃ ROW : Array Value, ROW = (xs.map (Value.int .i64) ++ [Value.int .i64 x]).toArray ++ Builtin.zeroCells (Value.int .i64 0).cells (G - (xs.length + 1)) := ⟨_, rfl⟩
      rw [← hROW]
      have hb0 : Box (w.drew.alloc (.cells ROW (insRen.t 3))) w.heap.size ROW 3 := Box.new w.drew ROW 3
      refine ⟨_, rfl, Own.ofCells hb0 hbase (by rw [hlen]) hG hGm ?_ (fun j hj => ?_), grownBy_trans (grown_drew w _) (World.grownBy_alloc _ _ _)⟩
      · rw [hROW, Array.size_append, size_zeroCells]
        simp [Value.cells]
        omega
      · rw [htd, hb0.cell j, hROW]
        rw [Array.getElem?_append_left (by simp; omega)]
        simp only [List.getElem?_toArray, List.getD]
        rw [show xs.map (Value.int .i64) ++ [Value.int .i64 x] = (xs ++ [x]).map (Value.int .i64) by simp, List.getElem?_map, List.getElem?_eq_getElem (by simp; omega)]
        rfl
  · have hlt : i < xs.length := by omega
    obtain ⟨g, cap, cur, rfl, hg, hb, hc, hm, hs⟩ : ∃ g cap cur, v = .slice (some ⟨g, 0, none⟩) xs.length cap ∧ base ≤ g ∧ Box w g cur 3 ∧ xs.length ≤ cap ∧ cap ≤ maxLen ∧ cur.size = cap := by
      rcases hown.2 with ⟨h2, h3⟩ | ⟨g, cap, cur, h2, hg, hb, hc, hm, hs, _⟩
      · omega
      · exact ⟨g, cap, cur, h2, hg, hb, hc, hm, by omega⟩
    have hm' : cap ≤ 9223372036854775807 := by unfold maxLen at hm; omega
    have hc0 : ∀ j, j < xs.length → w.cell? ⟨g, j, none⟩ = some (.int .i64 (xs.getD j 0)) := by
      intro j hj
      obtain ⟨a, c', hv', _, _, hx⟩ := hcell
      obtain ⟨b, off, ha, hx⟩ := hx (by omega)
      cases hv'
      cases ha
      simpa using hx j hj
    have hcs : ∀ j u, (xs.map (Value.int .i64))[j]? = some u → w.cell? ⟨g, 0 + j, none⟩ = some u := by
      intro j u hj
      obtain ⟨h1, rfl⟩ := map_at hj
      rw [Nat.zero_add]
      exact hc0 j h1
    have hdl : ((xs.map (Value.int .i64)).drop i).length = xs.length - i := by simp
    have hdat : ∀ j (h : j < ((xs.map (Value.int .i64)).drop i).length), ((xs.map (Value.int .i64)).drop i)[j] = .int .i64 (xs.getD (i + j) 0) := by
      intro j h
      have hh : i + j < xs.length := by omega
      simp [List.getD, hh]
    by_cases hroom : xs.length + 1 ≤ cap
    · refine (Any2.slices_Insert_int_shift insLays g 0 xs.length cap i vb 0 1 1 (xs.map (Value.int .i64)) [.int .i64 x] w hlt (by omega) hroom hm' (fun e => hvb (by rw [e]; rfl)) hmap rfl hcs (fun j hj => ?_) (fun j _ => hb.frozen _) hvs (oneCell_ints xs) h1v 3 3 1 cap ?_ ?_ (by omega) (hv.frozen _) (hv.frozen _)).mono ?_
      · rw [hb.cell, Array.getElem?_eq_getElem (by omega)]; rfl
      · unfold World.shape?; rw [show w.heap[vb]? = _ from hv]; rfl
      · unfold World.shape?; rw [show w.heap[g]? = _ from hb]; simp [hs]
      rintro e w' ⟨rfl, rfl⟩
      have hbd : Box w.drew g cur 3 := hb
      obtain ⟨c1, hs1, hb1⟩ := hbd.sets ((xs.map (Value.int .i64)).drop i) (0 + (i + 1)) w.drew
      obtain ⟨c2, hs2, hb2⟩ := hb1.sets [.int .i64 x] (0 + i) _
      refine ⟨_, rfl, Own.ofCells hb2 hg (by rw [hlen]) hroom hm (by omega) (fun j hj => ?_), grownBy_trans (grownBy_trans (grown_drew w _) (grown_sets g _ _ _)) (grown_sets g _ _ _)⟩
      rw [getD_ins hi]
      by_cases h1 : j = i
      · subst h1
        have := World.cell?_setCells_in g [.int .i64 x] (0 + j) (w.drew.setCells g (0 + (j + 1)) ((xs.map (Value.int .i64)).drop j)) (fun t ht => by simp at ht; subst ht; rw [hb1.cell, Array.getElem?_eq_getElem (by omega)]; rfl) 0 (by simp)
        simpa using this
      · rw [World.cell?_setCells_out _ _ _ _ _ (fun _ _ => by simp; omega)]
        by_cases h2 : j < i
        · rw [if_pos h2, World.cell?_setCells_out _ _ _ _ _ (fun _ _ => by left; show j < 0 + (i + 1); omega)]
          exact hc0 j (by omega)
        · rw [if_neg h2, if_neg h1]
          obtain ⟨d, rfl⟩ : ∃ d, j = i + 1 + d := ⟨j - i - 1, by omega⟩
          have := World.cell?_setCells_in g ((xs.map (Value.int .i64)).drop i) (0 + (i + 1)) w.drew (fun t ht => by rw [hbd.cell, Array.getElem?_eq_getElem (by omega)]; rfl) d (by omega)
          rw [hdat d (by omega), Nat.zero_add] at this
          rw [Nat.zero_add, this, show i + 1 + d - 1 = i + d by omega]
    · have hgw : g < w.heap.size := hb.lt
      refine (Any2.slices_Insert_int_grow insLays g 0 xs.length cap i vb 0 1 1 (xs.map (Value.int .i64)) [.int .i64 x] w hlt (by omega) hc (by omega) (by omega) hmap rfl hcs hvs (oneCell_ints xs) h1v).mono ?_
      rintro e w' ⟨rfl, rfl⟩
      have hG := grownCap_ge w (xs.length + 1) cap 3
      have hGm := grownCap_le_maxLen w (xs.length + 1) cap 3 (by unfold maxLen; omega)
      generalize hGG : grownCap w (xs.length + 1) cap (insRen.t 3) = G
      rw [show grownCap w (xs.length + 1) cap 3 = G from hGG] at hG hGm
      obtain ⟨ROW, hROW⟩ : ∃ ROW : Array Value, ROW = ((xs.map (Value.int .i64)).take i).toArray ++ Builtin.zeroCells (Value.int .i64 0).cells (xs.length + 1 - i) ++ Builtin.zeroCells (Value.int .i64 0).cells (G - (xs.length + 1)) := ⟨_, rfl⟩
      rw [← hROW]
      have hRs : ROW.size = G := by
        rw [hROW, Array.size_append, Array.size_append, size_zeroCells, size_zeroCells]
        simp [Value.cells]
        omega
      have hRat : ∀ j, j < i → ROW[j]? = some (.int .i64 (xs.getD j 0)) := by
        intro j hj
        rw [hROW, Array.getElem?_append_left (by simp; omega), Array.getElem?_append_left (by simp; omega)]
        simp only [List.getElem?_toArray]
        rw [List.getElem?_take, if_pos hj, List.getElem?_map, List.getElem?_eq_getElem (by omega)]
        simp [List.getD, show j < xs.length by omega]
      clear hROW
      have hb0 : Box (w.alloc (.cells ROW (insRen.t 3))).drew w.heap.size ROW 3 := Box.new w ROW 3
      obtain ⟨c1, hs1, hb1⟩ := hb0.sets [.int .i64 x] i _
      have hb1' : Box (((w.alloc (.cells ROW (insRen.t 3))).drew.setCells w.heap.size i [.int .i64 x]).drew) w.heap.size c1 3 := hb1
      obtain ⟨c2, hs2, hb2⟩ := hb1'.sets ((xs.map (Value.int .i64)).drop i) (i + 1) _
      refine ⟨_, rfl, Own.ofCells hb2 hbase (by rw [hlen]) hG hGm (by omega) (fun j hj => ?_), ?_⟩
      · rw [getD_ins hi]
        by_cases h2 : j < i
        · rw [if_pos h2, World.cell?_setCells_out _ _ _ _ _ (fun _ _ => by left; show j < i + 1; omega)]
          show ((w.alloc (.cells ROW (insRen.t 3))).drew.setCells w.heap.size i [.int .i64 x]).cell? ⟨w.heap.size, j, none⟩ = _
          rw [World.cell?_setCells_out _ _ _ _ _ (fun _ _ => by left; exact h2), hb0.cell j]
          exact hRat j h2
        · rw [if_neg h2]
          by_cases h1 : j = i
          · subst h1
            rw [if_pos rfl, World.cell?_setCells_out _ _ _ _ _ (fun _ _ => by left; show j < j + 1; omega)]
            have := World.cell?_setCells_in w.heap.size [.int .i64 x] j (w.alloc (.cells ROW (insRen.t 3))).drew (fun t ht => by simp at ht; subst ht; rw [hb0.cell, Array.getElem?_eq_getElem (by omega)]; rfl) 0 (by simp)
            simpa using this
          · rw [if_neg h1]
            obtain ⟨d, rfl⟩ : ∃ d, j = i + 1 + d := ⟨j - i - 1, by omega⟩
            have := World.cell?_setCells_in w.heap.size ((xs.map (Value.int .i64)).drop i) (i + 1) (((w.alloc (.cells ROW (insRen.t 3))).drew.setCells w.heap.size i [.int .i64 x]).drew) (fun t ht => by rw [hb1'.cell, Array.getElem?_eq_getElem (by omega)]; rfl) d (by omega)
            rw [hdat d (by omega)] at this
            rw [this, show i + 1 + d - 1 = i + d by omega]
      · have l1 : Le w (((((w.alloc (.cells ROW (insRen.t 3))).drew.setCells w.heap.size i [.int .i64 x]).drew).setCells w.heap.size (i + 1) ((xs.map (Value.int .i64)).drop i))) :=
          Below.grown (Below.grown ((Le.alloc w _).trans (Le.drew _)) (grownBy_trans (grown_sets w.heap.size [.int .i64 x] i _) (grown_drew _ _)) (by simp) (fun g e => by cases e; exact Nat.le_refl _)) (grown_sets w.heap.size _ _ _) (Nat.le_trans (show w.heap.size ≤ (w.alloc (.cells ROW (insRen.t 3))).drew.heap.size by simp) (grown_sets w.heap.size [.int .i64 x] i (w.alloc (.cells ROW (insRen.t 3))).drew).size) (fun g e => by cases e; exact Nat.le_refl _)
        exact ⟨l1.os, l1.tape, l1.output, l1.size, fun k hk _ => l1.block k hk⟩

end Go.Proofs.Ytnpejgendmgfaaa

/-
  PLAIN GROUND AND THE WALKS over package fds' mayRow, free, put, and over slices.Index at []int: what each answers, for every row. Condition: at put, that the row is the call's own and may be a table's.
-/
namespace Go.Proofs.Ytnpejgendmgfaaa
open Go.RowKit

/-- Do the numbers rise, above l, below 4? -/
def riseFrom (l : Int) : List Int → Bool
  | [] => true
  | x :: r => decide (l < x) && decide (x < 4) && riseFrom x r
/-- May a row be a table's? -/
def rowMay2 (xs : List Int) : Bool := riseFrom (-1) xs

/-- The rows whose numbers rise from 4 - k on. -/
def rowsAbove : Nat → List (List Int)
  | 0 => [[]]
  | k + 1 => rowsAbove k ++ (rowsAbove k).map (List.cons (3 - (k : Int)))

theorem nil_above : ∀ k, ([] : List Int) ∈ rowsAbove k
  | 0 => by simp [rowsAbove]
  | k + 1 => by simp [rowsAbove, nil_above k]

theorem rise_above : ∀ (k : Nat) (l : Int) (xs : List Int), 3 - (k : Int) ≤ l → riseFrom l xs = true → xs ∈ rowsAbove k
  | 0, _, [], _, _ => by simp [rowsAbove]
  | 0, l, x :: r, hl, h => by simp [riseFrom] at h; omega
  | k + 1, _, [], _, _ => nil_above _
  | k + 1, l, x :: r, hl, h => by
    simp only [riseFrom, Bool.and_eq_true, decide_eq_true_eq] at h
    obtain ⟨⟨h1, h2⟩, h3⟩ := h
    rw [rowsAbove, List.mem_append]
    by_cases e : x = 3 - k
    · right
      subst e
      exact List.mem_map.mpr ⟨r, rise_above k _ r (Int.le_refl _) h3, rfl⟩
    · left
      refine rise_above k (3 - k) (x :: r) (Int.le_refl _) ?_
      simp only [riseFrom, Bool.and_eq_true, decide_eq_true_eq]
      exact ⟨⟨by omega, h2⟩, h3⟩

/-- There are sixteen rows that may be a table's. -/
theorem rowMay2_mem {xs : List Int} (h : rowMay2 xs = true) : xs ∈ rowsAbove 4 := rise_above 4 (-1) xs (by omega) h

theorem rows_len : ∀ xs ∈ rowsAbove 4, xs.length ≤ 4 := by decide
theorem rowMay2_len {xs : List Int} (h : rowMay2 xs = true) : xs.length ≤ 4 := rows_len xs (rowMay2_mem h)

/-- The first place, from i on, that does not hold its own number. -/
def freeFrom (i : Int) : List Int → Int
  | [] => i
  | x :: r => if x = i then freeFrom (i + 1) r else i
/-- The least number that is free. -/
def freeS (xs : List Int) : Int := freeFrom 0 xs
/-- The place of a number, counted from i; else -1. -/
def idxFrom (i : Int) (a : Int) : List Int → Int
  | [] => -1
  | x :: r => if a = x then i else idxFrom (i + 1) a r
def idxS (xs : List Int) (a : Int) : Int := idxFrom 0 a xs

theorem freeFrom_bounds : ∀ (i : Int) (xs : List Int), i ≤ freeFrom i xs ∧ freeFrom i xs ≤ i + xs.length
  | i, [] => by simp [freeFrom]
  | i, x :: r => by
    have := freeFrom_bounds (i + 1) r
    simp only [freeFrom, List.length_cons]
    split <;> omega
theorem idxFrom_bounds (a : Int) : ∀ (i : Int) (xs : List Int), idxFrom i a xs = -1 ∨ (i ≤ idxFrom i a xs ∧ idxFrom i a xs < i + xs.length)
  | i, [] => by simp [idxFrom]
  | i, x :: r => by
    have := idxFrom_bounds a (i + 1) r
    simp only [idxFrom, List.length_cons]
    split <;> omega

/-- The row with the least number that is free; that number, or -1. -/
def putS (xs : List Int) : List Int × Int := if 4 ≤ freeS xs then (xs, -1) else (xs.take (freeS xs).toNat ++ freeS xs :: xs.drop (freeS xs).toNat, freeS xs)
/-- The row without a number; 1, or 0 if it was not there. -/
def takeS (xs : List Int) (a : Int) : List Int × Int := if idxS xs a < 0 then (xs, 0) else (xs.take (idxS xs a).toNat ++ xs.drop ((idxS xs a).toNat + 1), 1)

set_option maxHeartbeats 400000 in
theorem fdsMayRow (v : Value) (xs : List Int) (w : World) (hx : Has w v xs) :
    Calls Try.prog 50 #[v] w fun e w' => e = .returned (.bool (rowMay2 xs)) ∧ w = w' := by
  obtain ⟨a, cap, rfl, hc, _, hx⟩ := hx
  obtain ⟨n, hn⟩ : ∃ n, n = xs.length := ⟨_, rfl⟩
  rw [← hn] at hc hx ⊢
  have HN : Hid (n = xs.length) := hn
  clear hn
  go_enter Try.func50, Try.ntmps50
  go_wp2
  go_loop [3, 8] (fun l i => ∃ (k : Nat) (y : Int), k ≤ n ∧ (k : Int) ≤ y + 1 ∧ y < 4 ∧ i = .int .i64 k ∧ l = .int .i64 y ∧ Hid (rowMay2 xs = riseFrom y (xs.drop k))) (fun _ i => n - (intOf i).toNat)
  case atStart => exact ⟨0, -1, by omega, by omega, by omega, rfl, rfl, hid (by simp [rowMay2])⟩
  case round =>
    obtain ⟨k, y, hk, hy1, hy2, rfl, rfl, HR⟩ := hrel
    by_cases hlt : k < n
    · obtain ⟨b, off, rfl, hcell⟩ := hx (by omega)
      have c0 := hcell k hlt
      have hd := HR.out
      rw [drop_at (by have := HN.out; omega)] at hd
      obtain ⟨x, hxk⟩ : ∃ x, x = xs.getD k 0 := ⟨_, rfl⟩
      rw [← hxk] at c0 hd
      simp only [riseFrom] at hd
      have k0 : (0 : Int) ≤ (k : Int) := by omega
      have k1 : (k : Int) < (n : Int) := by omega
      by_cases h1 : y < x
      · by_cases h2 : x < 4
        · have HD : Hid (rowMay2 xs = riseFrom x (xs.drop (k + 1))) := hid (by rw [hd]; simp [h1, h2])
          clear hd hxk hcell hx HR
          go_wp2
          go_round
          case rel => exact ⟨k + 1, x, by omega, by omega, by omega, by go_num, rfl, HD⟩
          case measure => simp [intOf]; omega
        · have HD : Hid (rowMay2 xs = false) := hid (by rw [hd]; simp [h2])
          clear hd hxk hcell hx HR
          go_wp2
          go_ret
          exact ⟨ret_bool HD.out.symm, rfl⟩
      · have HD : Hid (rowMay2 xs = false) := hid (by rw [hd]; simp [h1])
        clear hd hxk hcell hx HR
        go_wp2
        go_ret
        exact ⟨ret_bool HD.out.symm, rfl⟩
    · obtain rfl : k = n := by omega
      have HD : Hid (rowMay2 xs = true) := hid (by have := HR.out; rw [List.drop_eq_nil_of_le (by have := HN.out; omega)] at this; exact this)
      go_wp2
      go_ret
      exact ⟨ret_bool HD.out.symm, rfl⟩

set_option maxHeartbeats 400000 in
theorem fdsFree (v : Value) (xs : List Int) (w : World) (hx : Has w v xs) (hl : xs.length ≤ 1000) :
    Calls Try.prog 59 #[v] w fun e w' => e = .returned (.int .i64 (freeS xs)) ∧ w = w' := by
  obtain ⟨a, cap, rfl, hc, _, hx⟩ := hx
  obtain ⟨n, hn⟩ : ∃ n, n = xs.length := ⟨_, rfl⟩
  rw [← hn] at hc hx hl ⊢
  have HN : Hid (n = xs.length) := hn
  clear hn
  go_enter Try.func59, Try.ntmps59
  go_wp2
  go_loop [7] (fun i => ∃ k : Nat, k ≤ n ∧ i = .int .i64 k ∧ Hid (freeS xs = freeFrom k (xs.drop k))) (fun i => n - (intOf i).toNat)
  case atStart => exact ⟨0, by omega, rfl, hid (by simp [freeS])⟩
  case round =>
    obtain ⟨k, hk, rfl, HR⟩ := hrel
    by_cases hlt : k < n
    · obtain ⟨b, off, rfl, hcell⟩ := hx (by omega)
      have c0 := hcell k hlt
      have hd := HR.out
      rw [drop_at (by have := HN.out; omega)] at hd
      obtain ⟨x, hxk⟩ : ∃ x, x = xs.getD k 0 := ⟨_, rfl⟩
      rw [← hxk] at c0 hd
      simp only [freeFrom] at hd
      have k0 : (0 : Int) ≤ (k : Int) := by omega
      have k1 : (k : Int) < (n : Int) := by omega
      by_cases h1 : x = k
      · have HD : Hid (freeS xs = freeFrom ((k + 1 : Nat) : Int) (xs.drop (k + 1))) := hid (by rw [hd]; simp [h1])
        clear hd hxk hcell hx HR
        go_wp2
        go_round
        case rel => exact ⟨k + 1, by omega, by go_num, HD⟩
        case measure => simp [intOf]; omega
      · have HD : Hid (freeS xs = k) := hid (by rw [hd]; simp [h1])
        clear hd hxk hcell hx HR
        go_wp2
        go_ret
        exact ⟨by rw [HD.out]; rfl, rfl⟩
    · obtain rfl : k = n := by omega
      have HD : Hid (freeS xs = k) := hid (by have := HR.out; rw [List.drop_eq_nil_of_le (by have := HN.out; omega)] at this; exact this)
      go_wp2
      go_ret
      exact ⟨by rw [HD.out]; rfl, rfl⟩

set_option maxHeartbeats 400000 in
theorem slicesIndex (v : Value) (xs : List Int) (x0 : Int) (w : World) (hx : Has w v xs) (hl : xs.length ≤ 1000) :
    Calls Try.prog 61 #[v, .int .i64 x0] w fun e w' => e = .returned (.int .i64 (idxS xs x0)) ∧ w = w' := by
  obtain ⟨a, cap, rfl, hc, _, hx⟩ := hx
  obtain ⟨n, hn⟩ : ∃ n, n = xs.length := ⟨_, rfl⟩
  rw [← hn] at hc hx hl ⊢
  have HN : Hid (n = xs.length) := hn
  clear hn
  go_enter Try.func61, Try.ntmps61
  go_wp2
  go_loop [8] (fun i => ∃ k : Nat, k ≤ n ∧ i = .int .i64 k ∧ Hid (idxS xs x0 = idxFrom k x0 (xs.drop k))) (fun i => n - (intOf i).toNat)
  case atStart => exact ⟨0, by omega, rfl, hid (by simp [idxS])⟩
  case round =>
    obtain ⟨k, hk, rfl, HR⟩ := hrel
    by_cases hlt : k < n
    · obtain ⟨b, off, rfl, hcell⟩ := hx (by omega)
      have c0 := hcell k hlt
      have hd := HR.out
      rw [drop_at (by have := HN.out; omega)] at hd
      obtain ⟨x, hxk⟩ : ∃ x, x = xs.getD k 0 := ⟨_, rfl⟩
      rw [← hxk] at c0 hd
      simp only [idxFrom] at hd
      have k0 : (0 : Int) ≤ (k : Int) := by omega
      have k1 : (k : Int) < (n : Int) := by omega
      by_cases h1 : x0 = x
      · subst h1
        have HD : Hid (idxS xs x0 = k) := hid (by rw [hd]; simp)
        clear hd hxk hcell hx HR
        go_wp2
        go_ret
        exact ⟨by rw [HD.out]; rfl, rfl⟩
      · have HD : Hid (idxS xs x0 = idxFrom ((k + 1 : Nat) : Int) x0 (xs.drop (k + 1))) := hid (by rw [hd]; simp [h1])
        clear hd hxk hcell hx HR
        go_wp2
        go_round
        case rel => exact ⟨k + 1, by omega, by go_num, HD⟩
        case measure => simp [intOf]; omega
    · obtain rfl : k = n := by omega
      have HD : Hid (idxS xs x0 = -1) := hid (by have := HR.out; rw [List.drop_eq_nil_of_le (by have := HN.out; omega)] at this; exact this)
      go_wp2
      go_ret
      exact ⟨by rw [HD.out]; rfl, rfl⟩

set_option maxHeartbeats 400000 in
theorem fdsPut (v : Value) (base : Nat) (xs : List Int) (a : Int) (w : World) (hown : Own w base v xs) (hbase : base ≤ w.heap.size) (hl : xs.length ≤ 1000) :
    Calls Try.prog 52 #[v, .int .i64 a] w fun e w' => ∃ v', e = .returned (.tuple #[v', .int .i64 (putS xs).2]) ∧ Own w' base v' (putS xs).1 ∧ w.grownBy w' v.ownBlock := by
  have hfree := fdsFree v xs w hown.has hl
  obtain ⟨b0, b1⟩ := freeFrom_bounds 0 xs
  rw [show freeFrom 0 xs = freeS xs from rfl] at b0 b1
  by_cases h4 : 4 ≤ freeS xs
  · have HP : Hid (putS xs = (xs, -1)) := hid (by simp [putS, h4])
    go_enter Try.func52, Try.ntmps52
    go_wp2_with fail
    refine hfree.mono ?_
    rintro e w1 ⟨rfl, rfl⟩
    go_wp2
    go_ret2
    rw [HP.out]
    exact ⟨_, rfl, hown, World.grownBy.refl _ _⟩
  · have HP : Hid (putS xs = (xs.take (freeS xs).toNat ++ freeS xs :: xs.drop (freeS xs).toNat, freeS xs)) := hid (by simp [putS, h4])
    obtain ⟨i, hi⟩ : ∃ i : Nat, freeS xs = i := ⟨(freeS xs).toNat, by omega⟩
    rw [hi] at h4 hfree b0 b1
    have hnb : v.ownBlock ≠ some w.heap.size := fun e => by have := (hown.block e).2; omega
    have hins := slicesInsert v base xs i i w.heap.size (w.alloc (.cells #[.int .i64 i] 3)) (hown.le (Le.alloc _ _)) (by simp; omega) (by omega) hl (Box.new w _ _) hnb
    go_enter Try.func52, Try.ntmps52
    go_wp2_with fail
    refine hfree.mono ?_
    rintro e w1 ⟨rfl, rfl⟩
    go_wp2_with fail
    refine hins.mono ?_
    rintro e w2 ⟨v', rfl, ho, hg⟩
    go_wp2
    go_ret2
    rw [HP.out, hi]
    exact ⟨_, rfl, ho, grownBy_trans (World.grownBy_alloc _ _ _) hg⟩

end Go.Proofs.Ytnpejgendmgfaaa

/-
  PLAIN GROUND: an append of numbers to a row of the call's own, inside a statement that draws its order. Condition: that the bytes are within the reach that every row bears.
-/
namespace Go.Proofs.Ytnpejgendmgfaaa
open Go.RowKit

/-- An append of a slice of numbers to one of the call's own, as one step of a region that draws its order. -/
theorem step_append_ints {ops : Array Oper} {o : Oper} {a : Act} {K : Act → World → Prop} {Q : Exit → Act → World → Prop} {E : Prop} {w : World} (hgd : o.guard = none) (s x : Operand)
    (ho : o.op = .call { callee := .builtin .append, args := #[s, x], argTypes := #[22, 22] }) (base : Nat) (v u : Value) (xs ys : List Int)
    (hs : a.eval s = v) (hx : a.eval x = u) (hown : Own w base v xs) (hu : Has w u ys) (hr : (xs.length + ys.length) * 8 ≤ 140737488355328) (hbase : base ≤ w.heap.size)
    (h : ∀ v' w', Own w' base v' (xs ++ ys) → w.grownBy w' v.ownBlock → K (a.put o.dst v') w') :
    if Region.wanted o (yielded ops a.tmps) = true then Oper.wp Try.prog o a w K Q else E := by
  have hw : Region.wanted o (yielded ops a.tmps) = true := by simp [Region.wanted, hgd]
  rw [if_pos hw]
  obtain ⟨i0, hi, hz0, hz1, hz2⟩ := info_parts info3
  have hu0 := hu
  obtain ⟨ad, cap, rfl, hc, hn, _⟩ := hu
  cases ad with
  | none =>
    have h0 := hn rfl
    have hnil : ys = [] := by cases ys with | nil => rfl | cons _ _ => simp at hc; omega
    subst hnil h0
    have hrun := run_append_owned_none (P := Try.prog) (w := w) base 22 o.type 3 i0 1 Try.underlying22 hi v _ _ hown
    unfold Oper.wp
    simp only [List.length_nil] at hx
    simp [execOp, ho, resolve, invoke, builtin, hs, hx, hrun, Result.andThen]
    exact h _ _ (by simpa using hown) (World.grownBy.refl _ _)
  | some ad =>
    refine wp_append_own w s x 22 ho base 3 i0 (.int .i64 0) 1 8 Try.underlying22 hi hz0 hz1 hz2 rfl (by decide) v _ _ hs hown ad ys.length cap (ys.map (Value.int .i64)) hx (by simp) hu0.cells (ints_oneCell _ _) (by unfold maxLen; omega) hr hbase ?_
    intro v' w' h1 h2 _
    exact h _ _ (Own.of h1 (by simp) (by simp)) h2

end Go.Proofs.Ytnpejgendmgfaaa

/-
  PLAIN GROUND, NO WALK: a state with another row, again and again. No condition.
-/
namespace Go.Proofs.Ytnpejgendmgfaaa

theorem St.put_put {s : St} {k : Nat} {x y : List Int} : (s.put k x).put k y = s.put k y := by
  match k with
  | 0 => rfl
  | 1 => rfl
  | 2 => rfl
  | _ + 3 => rfl
theorem St.zero_put {k : Nat} : St.zero.put k [] = St.zero := by
  unfold St.put; split <;> rfl
theorem St.put_at {s : St} {k : Nat} (hk : k < 4) {x : List Int} : (s.put k x).at k = x := by
  rw [St.at_put hk hk]; simp
theorem St.put_same {s : St} {k : Nat} (hk : k < 4) : s.put k (s.at k) = s :=
  St.ext_at fun i hi => by rw [St.at_put hk hi]; split <;> simp_all
theorem fit_small {s : St} (h : s.r0.length ≤ 100 ∧ s.r1.length ≤ 100 ∧ s.r2.length ≤ 100 ∧ s.r3.length ≤ 100) : Fit s := by
  intro i hi
  rcases four hi with rfl | rfl | rfl | rfl <;> simp only [St.at] <;> omega

end Go.Proofs.Ytnpejgendmgfaaa

/-
  THE WALKS over package states' Counted: the state that an operation makes, and its answer, for every two functions that make another row of one, in the call's own memory. Condition: the state's rows can be copied, and are short.
-/
namespace Go.Proofs.Ytnpejgendmgfaaa
open Go.RowKit

/-- The function f makes the row F of a row of the call's own, and answers a number; nothing else turns. -/
structure TurnsRow (f : Nat) (F : List Int → Int → List Int × Int) : Prop where
  enter : ∀ (u x : Value) (w : World), (callFunc f #[u, x]).run Try.prog w = .ok (.enter f #[u, x]) w
  calls : ∀ (v : Value) (base : Nat) (xs : List Int) (a : Int) (w : World), Own w base v xs → base ≤ w.heap.size → xs.length ≤ 4 → 0 ≤ a ∧ a ≤ 255 →
    Calls Try.prog f #[v, .int .i64 a] w fun e w' => ∃ v', e = .returned (.tuple #[v', .int .i64 (F xs a).2]) ∧ Own w' base v' (F xs a).1 ∧ w.grownBy w' v.ownBlock

theorem Le.grownBy {w w' : World} (h : Le w w') (row : Option Nat) : w.grownBy w' row := ⟨h.os, h.tape, h.output, h.size, fun k hk _ => h.block k hk⟩

set_option maxHeartbeats 2000000 in
theorem countedFirst (f g : Nat) (F : List Int → Int → List Int × Int) (hF : TurnsRow f F) (v : Value) (s : St) (k : Nat) (a : Int) (w : World) (hx : HasS w v s) (hf : Fit s) (hlen : ∀ j, j < 4 → (s.at j).length ≤ 4) (hk : k < 4) (ha : 0 ≤ a ∧ a ≤ 255) :
    Calls Try.prog 51 #[v, opV 0 k a, .func (.func f) #[] #[], .func (.func g) #[] #[]] w fun e w' => ∃ v', e = .returned (.tuple #[v', .int .i64 (F (s.at k) a).2]) ∧ OwnS w' w.heap.size v' (s.put k (F (s.at k) a).1) ∧ Le w w' := by
  have hx0 := hx
  obtain ⟨vs, rfl, hr⟩ := hx
  have hl := ((Le.alloc w (.cells (cells4 vs) 25)).trans (Le.alloc _ (.cells #[.int .i64 0, .int .i64 k, .int .i64 a] 43))).trans (Le.alloc _ (.cells (cells4 fun _ => slZ) 25))
  have hb2 := (Box.new (w.alloc (.cells (cells4 vs) 25)) #[.int .i64 0, .int .i64 k, .int .i64 a] 43).le (Le.alloc _ (.cells (cells4 fun _ => slZ) 25))
  have hb3 := Box.new ((w.alloc (.cells (cells4 vs) 25)).alloc (.cells #[.int .i64 0, .int .i64 k, .int .i64 a] 43)) (cells4 fun _ => slZ) 25
  simp only [World.size_alloc] at hb2 hb3
  go_enter Try.func51, Try.ntmps51
  go_wp2_with fail
  refine (statesCopy (stV vs) s _ (hx0.le hl) hf).mono ?_
  rintro e w3 ⟨us, rfl, hown, hap, l1⟩
  replace hown := fun i hi => (hown i hi).base (base' := w.heap.size + 1 + 1 + 1) (by simp)
  have n0 : w.heap.size + 1 + 1 < w3.heap.size := (hb3.le l1).lt
  have n1 : ¬ w.heap.size + 1 + 1 = w3.heap.size := by omega
  have n2 : ¬ w.heap.size + 1 + 1 = w.heap.size := by omega
  have n3 : ¬ w.heap.size + 1 + 1 = w.heap.size + 1 := by omega
  have n4 : ¬ w.heap.size + 1 = w3.heap.size := by omega
  have n5 : ¬ w3.heap.size = w.heap.size + 1 := by omega
  have hb4 := Box.new w3 (cells4 us) 25
  replace l1 := l1.trans (Le.alloc w3 (.cells (cells4 us) 25))
  replace hown := fun i hi => (hown i hi).le (Le.alloc w3 (.cells (cells4 us) 25))
  go_upto_region 2 with fail
  generalize hW : w3.alloc (.cells (cells4 us) 25) = W at hb4 l1 hown ⊢
  clear hW
  have o0 := (hb2.le l1).op.1
  have o1 := (hb2.le l1).op.2.1
  have o2 := (hb2.le l1).op.2.2.1
  have t1 : W.cell? ⟨w3.heap.size, k, none⟩ = some (slV (us k)) := (hb4.cell k).trans (cells4_at us hk)
  have k0 : (0 : Int) ≤ ((k : Nat) : Int) := by omega
  have k1 : ((k : Nat) : Int) < 4 := by omega
  have hcall := hF.calls (slV (us k)) (w.heap.size + 1 + 1 + 1) (s.at k) a W (hown k hk) (by have := l1.size; simpa using this) (hlen k hk) ha
  have hin := hF.enter
  go_wp2_with fail
  refine hcall.mono ?_
  rintro e w4 ⟨v', rfl, ho, hg⟩
  obtain ⟨q, rfl⟩ := ho.has.sl
  have hb5 : Box w4 w3.heap.size (cells4 us) 25 := Box.grown hb4 hg (fun e => (hown k hk).apart hb4 (by decide) e)
  have l5 : Le _ w4 := Below.grown l1 hg l1.size (fun g e => by have := ((hown k hk).block e).1; simpa using this)
  clear o0 o1 o2 t1 hcall hin
  have p1 := (hb2.le l5).op.2.1
  have c5 : w4.cell? ⟨w3.heap.size, k, none⟩ = some (slV (us k)) := (hb5.cell k).trans (cells4_at us hk)
  have f5 := hb5.frozen k
  have hown5 : ∀ i, i < 4 → Own (w4.setCell ⟨w3.heap.size, k, none⟩ (slV q)) (w.heap.size + 1 + 1 + 1) (slV (upd us k q i)) ((s.put k (F (s.at k) a).1).at i) := by
    intro i hi
    rw [St.at_put hk hi]
    by_cases e : i = k
    · rw [if_pos e, show upd us k q i = q by simp [upd, e]]; exact ho.setBox hb5 (by decide)
    · rw [if_neg e, show upd us k q i = us i by simp [upd, e]]; exact ((hown i hi).grown hg (fun g e1 e2 => hap i k hi hk e g e1 e2)).setBox hb5 (by decide)
  have hb6 := hb5.set k (slV q)
  rw [cells4_upd us hk] at hb6
  have l6 : Le _ (w4.setCell ⟨w3.heap.size, k, none⟩ (slV q)) := Below.setCell l5 (by simp only [World.size_alloc]; show w.heap.size + 1 + 1 + 1 ≤ w3.heap.size; omega) _
  go_upto_region 13 with fail
  generalize hW2 : w4.setCell ⟨w3.heap.size, k, none⟩ (slV q) = W2 at hb6 l6 hown5 ⊢
  generalize upd us k q = us' at hb6 hown5
  clear hW2 p1 c5 f5
  obtain ⟨y0, y1, y2, y3, _, _, _, _⟩ := hb6.st
  obtain ⟨z0, z1, z2, z3, f0, f1, f2, f3⟩ := (hb3.le l6).st
  go_wp2_with fail
  refine bodyPost_ret (v := .tuple #[stV us', .int .i64 (F (s.at k) a).2]) (by simp [results, Try.results51, go_sem, z0, z1, z2, z3]) rfl ⟨_, rfl, ⟨us', rfl, fun i hi => ?_⟩, ?_⟩
  · exact ((hown5 i hi).base (by omega)).set4 (hb3.le l6) (by decide) _ _ _ _
  · exact (hl.trans l6).set4 (by omega) _ _ _ _

set_option maxHeartbeats 2000000 in
theorem countedSecond (f g : Nat) (G : List Int → Int → List Int × Int) (hG : TurnsRow g G) (v : Value) (s : St) (k : Nat) (a : Int) (w : World) (hx : HasS w v s) (hf : Fit s) (hlen : ∀ j, j < 4 → (s.at j).length ≤ 4) (hk : k < 4) (ha : 0 ≤ a ∧ a ≤ 255) :
    Calls Try.prog 51 #[v, opV 1 k a, .func (.func f) #[] #[], .func (.func g) #[] #[]] w fun e w' => ∃ v', e = .returned (.tuple #[v', .int .i64 (G (s.at k) a).2]) ∧ OwnS w' w.heap.size v' (s.put k (G (s.at k) a).1) ∧ Le w w' := by
  have hx0 := hx
  obtain ⟨vs, rfl, hr⟩ := hx
  have hl := ((Le.alloc w (.cells (cells4 vs) 25)).trans (Le.alloc _ (.cells #[.int .i64 1, .int .i64 k, .int .i64 a] 43))).trans (Le.alloc _ (.cells (cells4 fun _ => slZ) 25))
  have hb2 := (Box.new (w.alloc (.cells (cells4 vs) 25)) #[.int .i64 1, .int .i64 k, .int .i64 a] 43).le (Le.alloc _ (.cells (cells4 fun _ => slZ) 25))
  have hb3 := Box.new ((w.alloc (.cells (cells4 vs) 25)).alloc (.cells #[.int .i64 1, .int .i64 k, .int .i64 a] 43)) (cells4 fun _ => slZ) 25
  simp only [World.size_alloc] at hb2 hb3
  go_enter Try.func51, Try.ntmps51
  go_wp2_with fail
  refine (statesCopy (stV vs) s _ (hx0.le hl) hf).mono ?_
  rintro e w3 ⟨us, rfl, hown, hap, l1⟩
  replace hown := fun i hi => (hown i hi).base (base' := w.heap.size + 1 + 1 + 1) (by simp)
  have n0 : w.heap.size + 1 + 1 < w3.heap.size := (hb3.le l1).lt
  have n1 : ¬ w.heap.size + 1 + 1 = w3.heap.size := by omega
  have n2 : ¬ w.heap.size + 1 + 1 = w.heap.size := by omega
  have n3 : ¬ w.heap.size + 1 + 1 = w.heap.size + 1 := by omega
  have n4 : ¬ w.heap.size + 1 = w3.heap.size := by omega
  have n5 : ¬ w3.heap.size = w.heap.size + 1 := by omega
  have hb4 := Box.new w3 (cells4 us) 25
  replace l1 := l1.trans (Le.alloc w3 (.cells (cells4 us) 25))
  replace hown := fun i hi => (hown i hi).le (Le.alloc w3 (.cells (cells4 us) 25))
  go_upto_region 2 with fail
  generalize hW : w3.alloc (.cells (cells4 us) 25) = W at hb4 l1 hown ⊢
  clear hW
  have o0 := (hb2.le l1).op.1
  have o1 := (hb2.le l1).op.2.1
  have o2 := (hb2.le l1).op.2.2.1
  have t1 : W.cell? ⟨w3.heap.size, k, none⟩ = some (slV (us k)) := (hb4.cell k).trans (cells4_at us hk)
  have k0 : (0 : Int) ≤ ((k : Nat) : Int) := by omega
  have k1 : ((k : Nat) : Int) < 4 := by omega
  have hcall := hG.calls (slV (us k)) (w.heap.size + 1 + 1 + 1) (s.at k) a W (hown k hk) (by have := l1.size; simpa using this) (hlen k hk) ha
  have hin := hG.enter
  go_wp2_with fail
  refine hcall.mono ?_
  rintro e w4 ⟨v', rfl, ho, hg⟩
  obtain ⟨q, rfl⟩ := ho.has.sl
  have hb5 : Box w4 w3.heap.size (cells4 us) 25 := Box.grown hb4 hg (fun e => (hown k hk).apart hb4 (by decide) e)
  have l5 : Le _ w4 := Below.grown l1 hg l1.size (fun g e => by have := ((hown k hk).block e).1; simpa using this)
  clear o0 o1 o2 t1 hcall hin
  have p1 := (hb2.le l5).op.2.1
  have c5 : w4.cell? ⟨w3.heap.size, k, none⟩ = some (slV (us k)) := (hb5.cell k).trans (cells4_at us hk)
  have f5 := hb5.frozen k
  have hown5 : ∀ i, i < 4 → Own (w4.setCell ⟨w3.heap.size, k, none⟩ (slV q)) (w.heap.size + 1 + 1 + 1) (slV (upd us k q i)) ((s.put k (G (s.at k) a).1).at i) := by
    intro i hi
    rw [St.at_put hk hi]
    by_cases e : i = k
    · rw [if_pos e, show upd us k q i = q by simp [upd, e]]; exact ho.setBox hb5 (by decide)
    · rw [if_neg e, show upd us k q i = us i by simp [upd, e]]; exact ((hown i hi).grown hg (fun g e1 e2 => hap i k hi hk e g e1 e2)).setBox hb5 (by decide)
  have hb6 := hb5.set k (slV q)
  rw [cells4_upd us hk] at hb6
  have l6 : Le _ (w4.setCell ⟨w3.heap.size, k, none⟩ (slV q)) := Below.setCell l5 (by simp only [World.size_alloc]; show w.heap.size + 1 + 1 + 1 ≤ w3.heap.size; omega) _
  go_upto_region 13 with fail
  generalize hW2 : w4.setCell ⟨w3.heap.size, k, none⟩ (slV q) = W2 at hb6 l6 hown5 ⊢
  generalize upd us k q = us' at hb6 hown5
  clear hW2 p1 c5 f5
  obtain ⟨y0, y1, y2, y3, _, _, _, _⟩ := hb6.st
  obtain ⟨z0, z1, z2, z3, f0, f1, f2, f3⟩ := (hb3.le l6).st
  go_wp2_with fail
  refine bodyPost_ret (v := .tuple #[stV us', .int .i64 (G (s.at k) a).2]) (by simp [results, Try.results51, go_sem, z0, z1, z2, z3]) rfl ⟨_, rfl, ⟨us', rfl, fun i hi => ?_⟩, ?_⟩
  · exact ((hown5 i hi).base (by omega)).set4 (hb3.le l6) (by decide) _ _ _ _
  · exact (hl.trans l6).set4 (by omega) _ _ _ _

set_option maxHeartbeats 2000000 in
theorem countedLook (f g : Nat) (v : Value) (s : St) (k : Nat) (w : World) (hx : HasS w v s) (hf : Fit s) (_hlen : ∀ j, j < 4 → (s.at j).length ≤ 4) (hk : k < 4) :
    Calls Try.prog 51 #[v, opV 2 k 0, .func (.func f) #[] #[], .func (.func g) #[] #[]] w fun e w' => ∃ v', e = .returned (.tuple #[v', .int .i64 ((s.at k).length : Int)]) ∧ OwnS w' w.heap.size v' (s) ∧ Le w w' := by
  have hx0 := hx
  obtain ⟨vs, rfl, hr⟩ := hx
  have hl := ((Le.alloc w (.cells (cells4 vs) 25)).trans (Le.alloc _ (.cells #[.int .i64 2, .int .i64 k, .int .i64 0] 43))).trans (Le.alloc _ (.cells (cells4 fun _ => slZ) 25))
  have hb2 := (Box.new (w.alloc (.cells (cells4 vs) 25)) #[.int .i64 2, .int .i64 k, .int .i64 0] 43).le (Le.alloc _ (.cells (cells4 fun _ => slZ) 25))
  have hb3 := Box.new ((w.alloc (.cells (cells4 vs) 25)).alloc (.cells #[.int .i64 2, .int .i64 k, .int .i64 0] 43)) (cells4 fun _ => slZ) 25
  simp only [World.size_alloc] at hb2 hb3
  go_enter Try.func51, Try.ntmps51
  go_wp2_with fail
  refine (statesCopy (stV vs) s _ (hx0.le hl) hf).mono ?_
  rintro e w3 ⟨us, rfl, hown, hap, l1⟩
  replace hown := fun i hi => (hown i hi).base (base' := w.heap.size + 1 + 1 + 1) (by simp)
  have n0 : w.heap.size + 1 + 1 < w3.heap.size := (hb3.le l1).lt
  have n1 : ¬ w.heap.size + 1 + 1 = w3.heap.size := by omega
  have n2 : ¬ w.heap.size + 1 + 1 = w.heap.size := by omega
  have n3 : ¬ w.heap.size + 1 + 1 = w.heap.size + 1 := by omega
  have n4 : ¬ w.heap.size + 1 = w3.heap.size := by omega
  have n5 : ¬ w3.heap.size = w.heap.size + 1 := by omega
  have hb4 := Box.new w3 (cells4 us) 25
  replace l1 := l1.trans (Le.alloc w3 (.cells (cells4 us) 25))
  replace hown := fun i hi => (hown i hi).le (Le.alloc w3 (.cells (cells4 us) 25))
  go_upto_region 2 with fail
  generalize hW : w3.alloc (.cells (cells4 us) 25) = W at hb4 l1 hown ⊢
  clear hW
  have o0 := (hb2.le l1).op.1
  have o1 := (hb2.le l1).op.2.1
  have o2 := (hb2.le l1).op.2.2.1
  have t1 : W.cell? ⟨w3.heap.size, k, none⟩ = some (slV (us k)) := (hb4.cell k).trans (cells4_at us hk)
  have k0 : (0 : Int) ≤ ((k : Nat) : Int) := by omega
  have k1 : ((k : Nat) : Int) < 4 := by omega
  have hle : (us k).2.1 = (s.at k).length := by
    obtain ⟨ad, cap, e, _⟩ := (hown k hk).has
    simp only [Value.slice.injEq] at e
    exact e.2.1
  have p1 := o1
  have c5 := t1
  have f5 := hb4.frozen k
  have hb5 := hb4
  have l5 := l1
  have ho := hown k hk
  have hg : W.grownBy W none := World.grownBy.refl _ _
  have hap : ∀ i j : Nat, i < 4 → j < 4 → i ≠ j → ∀ g : Nat, (slV (us i)).ownBlock = some g → (none : Option Nat) ≠ some g := fun _ _ _ _ _ _ _ h => by cases h
  have HLE : Hid ((us k).2.1 = (s.at k).length) := hle
  clear hle
  generalize hq : us k = q at ho t1 c5 HLE ⊢
  obtain ⟨w4, hw4⟩ : ∃ w4, w4 = W := ⟨_, rfl⟩
  subst hw4
  have hown5 : ∀ i, i < 4 → Own (w4.setCell ⟨w3.heap.size, k, none⟩ (slV q)) (w.heap.size + 1 + 1 + 1) (slV (upd us k q i)) ((s.put k (s.at k)).at i) := by
    intro i hi
    rw [St.at_put hk hi]
    by_cases e : i = k
    · rw [if_pos e, show upd us k q i = q by simp [upd, e]]; exact ho.setBox hb5 (by decide)
    · rw [if_neg e, show upd us k q i = us i by simp [upd, e]]; exact ((hown i hi).grown hg (fun g e1 e2 => hap i k hi hk e g e1 e2)).setBox hb5 (by decide)
  have hb6 := hb5.set k (slV q)
  rw [cells4_upd us hk] at hb6
  have l6 : Le _ (w4.setCell ⟨w3.heap.size, k, none⟩ (slV q)) := Below.setCell l5 (by simp only [World.size_alloc]; show w.heap.size + 1 + 1 + 1 ≤ w3.heap.size; omega) _
  go_upto_region 13 with fail
  generalize hW2 : w4.setCell ⟨w3.heap.size, k, none⟩ (slV q) = W2 at hb6 l6 hown5 ⊢
  generalize upd us k q = us' at hb6 hown5
  clear hW2 p1 c5 f5
  obtain ⟨y0, y1, y2, y3, _, _, _, _⟩ := hb6.st
  obtain ⟨z0, z1, z2, z3, f0, f1, f2, f3⟩ := (hb3.le l6).st
  go_wp2_with fail
  refine bodyPost_ret (v := .tuple #[stV us', .int .i64 (q.2.1 : Int)]) (by simp [results, Try.results51, go_sem, z0, z1, z2, z3]) rfl ⟨stV us', by rw [HLE.out], ⟨us', rfl, fun i hi => ?_⟩, ?_⟩
  · rw [← St.put_same (s := s) hk]; exact ((hown5 i hi).base (by omega)).set4 (hb3.le l6) (by decide) _ _ _ _
  · exact (hl.trans l6).set4 (by omega) _ _ _ _

set_option maxHeartbeats 2000000 in
theorem countedScan (f g : Nat) (v : Value) (s : St) (w : World) (hx : HasS w v s) (hf : Fit s) (hlen : ∀ j, j < 4 → (s.at j).length ≤ 4) :
    Calls Try.prog 51 #[v, opV 3 0 0, .func (.func f) #[] #[], .func (.func g) #[] #[]] w fun e w' => ∃ v', e = .returned (.tuple #[v', .int .i64 (manyTo s 4)]) ∧ OwnS w' w.heap.size v' (s) ∧ Le w w' := by
  have hk : (0 : Nat) < 4 := by omega
  have hx0 := hx
  obtain ⟨vs, rfl, hr⟩ := hx
  have hl := ((Le.alloc w (.cells (cells4 vs) 25)).trans (Le.alloc _ (.cells #[.int .i64 3, .int .i64 0, .int .i64 0] 43))).trans (Le.alloc _ (.cells (cells4 fun _ => slZ) 25))
  have hb2 := (Box.new (w.alloc (.cells (cells4 vs) 25)) #[.int .i64 3, .int .i64 0, .int .i64 0] 43).le (Le.alloc _ (.cells (cells4 fun _ => slZ) 25))
  have hb3 := Box.new ((w.alloc (.cells (cells4 vs) 25)).alloc (.cells #[.int .i64 3, .int .i64 0, .int .i64 0] 43)) (cells4 fun _ => slZ) 25
  simp only [World.size_alloc] at hb2 hb3
  go_enter Try.func51, Try.ntmps51
  go_wp2_with fail
  refine (statesCopy (stV vs) s _ (hx0.le hl) hf).mono ?_
  rintro e w3 ⟨us, rfl, hown, hap, l1⟩
  replace hown := fun i hi => (hown i hi).base (base' := w.heap.size + 1 + 1 + 1) (by simp)
  have n0 : w.heap.size + 1 + 1 < w3.heap.size := (hb3.le l1).lt
  have n1 : ¬ w.heap.size + 1 + 1 = w3.heap.size := by omega
  have n2 : ¬ w.heap.size + 1 + 1 = w.heap.size := by omega
  have n3 : ¬ w.heap.size + 1 + 1 = w.heap.size + 1 := by omega
  have n4 : ¬ w.heap.size + 1 = w3.heap.size := by omega
  have n5 : ¬ w3.heap.size = w.heap.size + 1 := by omega
  have hb4 := Box.new w3 (cells4 us) 25
  replace l1 := l1.trans (Le.alloc w3 (.cells (cells4 us) 25))
  replace hown := fun i hi => (hown i hi).le (Le.alloc w3 (.cells (cells4 us) 25))
  go_upto_region 2 with fail
  generalize hW : w3.alloc (.cells (cells4 us) 25) = W at hb4 l1 hown ⊢
  clear hW
  have o0 := (hb2.le l1).op.1
  have o1 := (hb2.le l1).op.2.1
  have o2 := (hb2.le l1).op.2.2.1
  have t1 : W.cell? ⟨w3.heap.size, 0, none⟩ = some (slV (us 0)) := (hb4.cell 0).trans (cells4_at us hk)
  have k0 : (0 : Int) ≤ ((0 : Nat) : Int) := by omega
  have k1 : ((0 : Nat) : Int) < 4 := by omega
  obtain ⟨x0, x1, x2, x3, _, _, _, _⟩ := hb4.st
  have hcount := statesCount (stV us) s W (OwnS.has ⟨us, rfl, hown⟩) (fun j hj => by have := hlen j hj; omega)
  go_wp2_with fail
  refine hcount.mono ?_
  rintro e w4 ⟨rfl, l4⟩
  have hb5 := hb4.le l4
  have l5 := l1.trans l4
  have ho := (hown 0 hk).le l4
  have hg := l4.grownBy none
  have hap : ∀ i j : Nat, i < 4 → j < 4 → i ≠ j → ∀ g : Nat, (slV (us i)).ownBlock = some g → (none : Option Nat) ≠ some g := fun _ _ _ _ _ _ _ h => by cases h
  clear o0 o1 o2 t1 x0 x1 x2 x3 hcount
  have p1 := (hb2.le l5).op.2.1
  have c5 : w4.cell? ⟨w3.heap.size, 0, none⟩ = some (slV (us 0)) := (hb5.cell 0).trans (cells4_at us hk)
  have f5 := hb5.frozen 0
  generalize hq : us 0 = q at ho c5 ⊢
  have hown5 : ∀ i, i < 4 → Own (w4.setCell ⟨w3.heap.size, 0, none⟩ (slV q)) (w.heap.size + 1 + 1 + 1) (slV (upd us 0 q i)) ((s.put 0 (s.at 0)).at i) := by
    intro i hi
    rw [St.at_put hk hi]
    by_cases e : i = 0
    · rw [if_pos e, show upd us 0 q i = q by simp [upd, e]]; exact ho.setBox hb5 (by decide)
    · rw [if_neg e, show upd us 0 q i = us i by simp [upd, e]]; exact ((hown i hi).grown hg (fun g e1 e2 => hap i 0 hi hk e g e1 e2)).setBox hb5 (by decide)
  have hb6 := hb5.set 0 (slV q)
  rw [cells4_upd us hk] at hb6
  have l6 : Le _ (w4.setCell ⟨w3.heap.size, 0, none⟩ (slV q)) := Below.setCell l5 (by simp only [World.size_alloc]; show w.heap.size + 1 + 1 + 1 ≤ w3.heap.size; omega) _
  go_upto_region 13 with fail
  generalize hW2 : w4.setCell ⟨w3.heap.size, 0, none⟩ (slV q) = W2 at hb6 l6 hown5 ⊢
  generalize upd us 0 q = us' at hb6 hown5
  clear hW2 p1 c5 f5
  obtain ⟨y0, y1, y2, y3, _, _, _, _⟩ := hb6.st
  obtain ⟨z0, z1, z2, z3, f0, f1, f2, f3⟩ := (hb3.le l6).st
  go_wp2_with fail
  refine bodyPost_ret (v := .tuple #[stV us', .int .i64 (manyTo s 4)]) (by simp [results, Try.results51, go_sem, z0, z1, z2, z3]) rfl ⟨_, rfl, ⟨us', rfl, fun i hi => ?_⟩, ?_⟩
  · rw [← St.put_same (s := s) hk]; exact ((hown5 i hi).base (by omega)).set4 (hb3.le l6) (by decide) _ _ _ _
  · exact (hl.trans l6).set4 (by omega) _ _ _ _

/-- What an operation that may be makes of a state, where looks and scans count. -/
def cntY (F G : List Int → Int → List Int × Int) (s : St) (c r a : Int) : St × Int :=
  if c = 3 then (s, manyTo s 4)
  else if c = 2 then (s, ((s.at r.toNat).length : Int))
  else if c = 1 then (s.put r.toNat (G (s.at r.toNat) a).1, (G (s.at r.toNat) a).2)
  else (s.put r.toNat (F (s.at r.toNat) a).1, (F (s.at r.toNat) a).2)

/-- .. the document's answer: the state, the answer, the error. -/
def cntS (p : List Int → Bool) (F G : List Int → Int → List Int × Int) (s : St) (c r a e : Int) : St × Int × Int :=
  if s.all p && opMay c r a then ((cntY F G s c r a).1, (cntY F G s c r a).2, 0) else (St.zero, 0, e)

theorem countedAll (f g : Nat) (F G : List Int → Int → List Int × Int) (hF : TurnsRow f F) (hG : TurnsRow g G) (v : Value) (s : St) (c r a : Int) (w : World) (hx : HasS w v s) (hf : Fit s) (hlen : ∀ j, j < 4 → (s.at j).length ≤ 4) (ho : opMay c r a = true) :
    Calls Try.prog 51 #[v, opV c r a, .func (.func f) #[] #[], .func (.func g) #[] #[]] w fun e w' => ∃ v', e = .returned (.tuple #[v', .int .i64 (cntY F G s c r a).2]) ∧ OwnS w' w.heap.size v' (cntY F G s c r a).1 ∧ Le w w' := by
  rcases opMay_cases ho with ⟨k, hk, rfl, rfl, ha⟩ | ⟨k, hk, rfl, rfl, ha⟩ | ⟨k, hk, rfl, rfl, rfl⟩ | ⟨rfl, rfl, rfl⟩
  · exact countedFirst f g F hF v s k a w hx hf hlen hk ha
  · exact countedSecond f g G hG v s k a w hx hf hlen hk ha
  · exact countedLook f g v s k w hx hf hlen hk
  · exact countedScan f g v s w hx hf hlen

theorem cntS_no {p : List Int → Bool} {F G : List Int → Int → List Int × Int} {s : St} {c r a er : Int} (h : (s.all p && opMay c r a) = false) : cntS p F G s c r a er = (St.zero, 0, er) := by simp [cntS, h]
theorem cntS_yes {p : List Int → Bool} {F G : List Int → Int → List Int × Int} {s : St} {c r a er : Int} (h : (s.all p && opMay c r a) = true) : cntS p F G s c r a er = ((cntY F G s c r a).1, (cntY F G s c r a).2, 0) := by simp [cntS, h]
theorem cntS_scan {p : List Int → Bool} {F G : List Int → Int → List Int × Int} {s : St} {er : Int} (h : s.all p = true) : cntS p F G s 3 0 0 er = (s, manyTo s 4, 0) := by
  have : opMay 3 0 0 = true := by decide
  simp [cntS, cntY, h, this]
theorem cntS_look {p : List Int → Bool} {F G : List Int → Int → List Int × Int} {s : St} {k : Nat} {er : Int} (h : s.all p = true) (hk : k < 4) : cntS p F G s 2 k 0 er = (s, ((s.at k).length : Int), 0) := by
  have : opMay 2 k 0 = true := by simp [opMay]; omega
  simp [cntS, cntY, h, this]
theorem cntS_first {p : List Int → Bool} {F G : List Int → Int → List Int × Int} {s : St} {k : Nat} {a er : Int} (h : s.all p = true) (hk : k < 4) (ha : 0 ≤ a ∧ a ≤ 255) : cntS p F G s 0 k a er = (s.put k (F (s.at k) a).1, (F (s.at k) a).2, 0) := by
  have : opMay 0 k a = true := by simp [opMay]; omega
  simp [cntS, cntY, h, this]
theorem cntS_second {p : List Int → Bool} {F G : List Int → Int → List Int × Int} {s : St} {k : Nat} {a er : Int} (h : s.all p = true) (hk : k < 4) (ha : 0 ≤ a ∧ a ≤ 255) : cntS p F G s 1 k a er = (s.put k (G (s.at k) a).1, (G (s.at k) a).2, 0) := by
  have : opMay 1 k a = true := by simp [opMay]; omega
  simp [cntS, cntY, h, this]

end Go.Proofs.Ytnpejgendmgfaaa

/-
  THE WALK over fds.take: the row without a number, in memory of its own. Condition: the row is the call's own, and has at most a thousand numbers.
-/
namespace Go.Proofs.Ytnpejgendmgfaaa
open Go.RowKit

set_option maxHeartbeats 1000000 in
theorem fdsTake (v : Value) (base : Nat) (xs : List Int) (a0 : Int) (w : World) (hown : Own w base v xs) (hbase : base ≤ w.heap.size) (hl : xs.length ≤ 1000) :
    Calls Try.prog 53 #[v, .int .i64 a0] w fun e w' => ∃ v', e = .returned (.tuple #[v', .int .i64 (takeS xs a0).2]) ∧ Own w' base v' (takeS xs a0).1 ∧ Le w w' := by
  have hidx := slicesIndex v xs a0 w hown.has hl
  have hb := idxFrom_bounds a0 0 xs
  rw [show idxFrom 0 a0 xs = idxS xs a0 from rfl] at hb
  by_cases h4 : idxS xs a0 < 0
  · have HP : Hid (takeS xs a0 = (xs, 0)) := hid (by simp [takeS, h4])
    clear hb
    go_enter Try.func53, Try.ntmps53
    go_wp2_with fail
    refine hidx.mono ?_
    rintro e w1 ⟨rfl, rfl⟩
    go_wp2
    go_ret2
    rw [HP.out]
    exact ⟨_, rfl, hown, Le.refl _⟩
  · have HP : Hid (takeS xs a0 = (xs.take (idxS xs a0).toNat ++ xs.drop ((idxS xs a0).toNat + 1), 1)) := hid (by simp [takeS, h4])
    obtain ⟨i, hi⟩ : ∃ i : Nat, idxS xs a0 = i := ⟨(idxS xs a0).toNat, by omega⟩
    rw [hi] at h4 hidx hb
    rw [show Hid (takeS xs a0 = (xs.take (idxS xs a0).toNat ++ xs.drop ((idxS xs a0).toNat + 1), 1)) = Hid (takeS xs a0 = (xs.take i ++ xs.drop (i + 1), 1)) by rw [hi]; rfl] at HP
    have hlt : i < xs.length := by omega
    obtain ⟨ad, cap, rfl, hc, _, hx⟩ := hown.has
    obtain ⟨b, off, rfl, hcell⟩ := hx (by omega)
    obtain ⟨n, hn⟩ : ∃ n, n = xs.length := ⟨_, rfl⟩
    have hA : Has w (.slice (some ⟨b, off, none⟩) i cap) (xs.take i) := by
      refine ⟨_, cap, by rw [List.length_take, Nat.min_eq_left (by omega)], by rw [List.length_take]; omega, (fun h => by cases h), fun _ => ⟨b, off, rfl, fun j hj => ?_⟩⟩
      rw [List.length_take] at hj
      rw [hcell j (by omega)]
      simp [List.getD, show j < i by omega]
    obtain ⟨A, hAe, hB⟩ : ∃ A, (if cap = i + 1 then some ⟨b, off, none⟩ else some ⟨b, off + (i + 1), none⟩ : Option Addr) = A ∧ Has w (.slice A (n - (i + 1)) (cap - (i + 1))) (xs.drop (i + 1)) := by
      refine ⟨_, rfl, _, _, by rw [List.length_drop, ← hn], by rw [List.length_drop]; omega, (fun h => by split at h <;> cases h), fun hp => ?_⟩
      rw [List.length_drop] at hp
      rw [if_neg (by omega)]
      refine ⟨b, off + (i + 1), rfl, fun j hj => ?_⟩
      rw [List.length_drop] at hj
      rw [getD_drop, Nat.add_assoc, hcell (i + 1 + j) (by omega)]
    have HN : Hid (n = xs.length) := hn
    have hown0 := hown
    rw [← hn] at hc hlt hidx ⊢
    clear hx hcell hb hown hn h4
    have i0 : (0 : Int) ≤ (i : Int) := by omega
    have i1 : (i : Int) < (n : Int) := by omega
    have i2 : (i : Int) + 1 ≤ (n : Int) := by omega
    have i3 : i ≤ cap := by omega
    have i4 : i + 1 ≤ n := by omega
    have i5 : (i : Int) ≤ (cap : Int) := by omega
    have i6 : ((i : Int) + 1).toNat = i + 1 := by omega
    have i7 : IntKind.i64.wrap ((i : Int) + 1) = (i : Int) + 1 := by rw [IntKind.wrap_i64]; have := HN.out; omega
    have i8 : (0 : Int) ≤ (i : Int) + 1 := by omega
    go_enter Try.func53, Try.ntmps53
    go_wp2_with fail
    refine hidx.mono ?_
    rintro e w1 ⟨rfl, rfl⟩
    go_wp2_with fail
    go_region_law (first
      | (refine step_append_ints rfl (.const (.slice none 0 0)) (.tmp 15) rfl w.heap.size (.slice none 0 0) (.slice (some ⟨b, off, none⟩) i cap) [] (xs.take i) (by simp [Act.eval]) (by simp [Act.eval, Act.put]) (Own.nil _ _) hA (by simp; omega) (Nat.le_refl _) ?_; intro v1 w1 o1 g1)
      | (refine step_append_ints rfl (.tmp 16) (.tmp 20) rfl w.heap.size v1 (.slice A (n - (i + 1)) (cap - (i + 1))) _ (xs.drop (i + 1)) (by simp [Act.eval]) (by simp [Act.eval]) o1 (hB.le (Below.grown (Le.drew w) g1 (Nat.le_refl _) (fun g e => by cases e))) (by simp; omega) g1.size ?_; intro v2 w2 o2 g2))
    all_goals
      go_wp2
      go_ret2
      rw [HP.out]
      rw [List.nil_append] at o2
      exact ⟨_, rfl, o2.base hbase, Below.grown (Below.grown (Le.drew w) g1 (Nat.le_refl _) (fun g e => by cases e)) g2 g1.size (fun g e => (o1.block e).1)⟩

theorem fdsPutT : TurnsRow 52 (fun xs _ => putS xs) :=
  ⟨fun _ _ _ => by kernel_rfl, fun v base xs a w ho hb hl _ => fdsPut v base xs a w ho hb (by omega)⟩
theorem fdsTakeT : TurnsRow 53 takeS :=
  ⟨fun _ _ _ => by kernel_rfl, fun v base xs a w ho hb hl _ => (fdsTake v base xs a w ho hb (by omega)).mono fun _ _ ⟨v', he, h1, h2⟩ => ⟨v', he, h1, h2.grownBy _⟩⟩

end Go.Proofs.Ytnpejgendmgfaaa

/-
  THE WALK over fds.Apply: what it answers, for every state and operation, and that what it hands back lies in memory of its own. Condition: the state's rows can be copied.
-/
namespace Go.Proofs.Ytnpejgendmgfaaa
open Go.RowKit

theorem fdsMay (v : Value) (s : St) (w : World) (hx : HasS w v s) :
    Calls Try.prog 45 #[v, .func (.func 50) #[] #[]] w fun e w' => e = .returned (.bool (s.all rowMay2)) ∧ Le w w' :=
  statesMay 50 rowMay2 (fun _ _ => by kernel_rfl) fdsMayRow v s w hx

/-- The document's answer: the state, the answer, the error. -/
def fdsS (s : St) (c r a e : Int) : St × Int × Int := cntS rowMay2 (fun xs _ => putS xs) takeS s c r a e

set_option maxHeartbeats 2000000 in
theorem fdsApplyNo (v : Value) (s : St) (c r a : Int) (w : World) (hx : HasS w v s) (h : (s.all rowMay2 && opMay c r a) = false) :
    Calls Try.prog 43 #[v, opV c r a] w fun e w' => e = .returned (.tuple #[stZ, .int .i64 0, .int .i64 400]) ∧ Le w w' := by
  have hx0 := hx
  obtain ⟨vs, rfl, hr⟩ := hx
  have hl := ((Le.alloc w (.cells (cells4 vs) 25)).trans (Le.alloc _ (.cells #[.int .i64 c, .int .i64 r, .int .i64 a] 43))).trans (Le.alloc _ (.cells (cells4 fun _ => slZ) 25))
  have hb1 := ((Box.new w (cells4 vs) 25).le (Le.alloc _ (.cells #[.int .i64 c, .int .i64 r, .int .i64 a] 43))).le (Le.alloc _ (.cells (cells4 fun _ => slZ) 25))
  have hb2 := (Box.new (w.alloc (.cells (cells4 vs) 25)) #[.int .i64 c, .int .i64 r, .int .i64 a] 43).le (Le.alloc _ (.cells (cells4 fun _ => slZ) 25))
  have hb3 := Box.new ((w.alloc (.cells (cells4 vs) 25)).alloc (.cells #[.int .i64 c, .int .i64 r, .int .i64 a] 43)) (cells4 fun _ => slZ) 25
  simp only [World.size_alloc] at hb1 hb2 hb3
  have hmay := fdsMay (stV vs) s _ (hx0.le hl)
  cases hm : s.all rowMay2
  · rw [hm] at hmay
    go_enter Try.func43, Try.ntmps43
    go_wp2_with fail
    refine hmay.mono ?_
    rintro e w1 ⟨rfl, l1⟩
    obtain ⟨z0, z1, z2, z3, f0, f1, f2, f3⟩ := (hb3.le l1).st
    go_wp2_with fail
    refine bodyPost_ret (v := .tuple #[stZ, .int .i64 0, .int .i64 400]) (by simp [results, Try.results43, go_sem, z0, z1, z2, z3]) rfl ⟨rfl, ?_⟩
    exact (hl.trans l1).set4 (by omega) _ _ _ _
  · have hop : opMay c r a = false := by simpa [hm] using h
    rw [hm] at hmay
    go_enter Try.func43, Try.ntmps43
    go_wp2_with fail
    refine hmay.mono ?_
    rintro e w1 ⟨rfl, l1⟩
    obtain ⟨y0, y1, y2, _, _, _⟩ := (hb2.le l1).op
    go_wp2_with fail
    refine (operMay _ _ _ _).mono ?_
    rw [hop]
    rintro e w2 ⟨rfl, l2⟩
    obtain ⟨z0, z1, z2, z3, f0, f1, f2, f3⟩ := ((hb3.le l1).le l2).st
    go_wp2_with fail
    refine bodyPost_ret (v := .tuple #[stZ, .int .i64 0, .int .i64 400]) (by simp [results, Try.results43, go_sem, z0, z1, z2, z3]) rfl ⟨rfl, ?_⟩
    exact ((hl.trans l1).trans l2).set4 (by omega) _ _ _ _

set_option maxHeartbeats 2000000 in
theorem fdsApplyYes (v : Value) (s : St) (c r a : Int) (w : World) (hx : HasS w v s) (hf : Fit s) (hm : s.all rowMay2 = true) (hop : opMay c r a = true) :
    Calls Try.prog 43 #[v, opV c r a] w fun e w' => ∃ v', e = .returned (.tuple #[v', .int .i64 (cntY (fun xs _ => putS xs) takeS s c r a).2, .int .i64 0]) ∧ OwnS w' w.heap.size v' (cntY (fun xs _ => putS xs) takeS s c r a).1 ∧ Le w w' := by
  have hx0 := hx
  obtain ⟨vs, rfl, hr⟩ := hx
  have hl := ((Le.alloc w (.cells (cells4 vs) 25)).trans (Le.alloc _ (.cells #[.int .i64 c, .int .i64 r, .int .i64 a] 43))).trans (Le.alloc _ (.cells (cells4 fun _ => slZ) 25))
  have hb1 := ((Box.new w (cells4 vs) 25).le (Le.alloc _ (.cells #[.int .i64 c, .int .i64 r, .int .i64 a] 43))).le (Le.alloc _ (.cells (cells4 fun _ => slZ) 25))
  have hb2 := (Box.new (w.alloc (.cells (cells4 vs) 25)) #[.int .i64 c, .int .i64 r, .int .i64 a] 43).le (Le.alloc _ (.cells (cells4 fun _ => slZ) 25))
  have hb3 := Box.new ((w.alloc (.cells (cells4 vs) 25)).alloc (.cells #[.int .i64 c, .int .i64 r, .int .i64 a] 43)) (cells4 fun _ => slZ) 25
  simp only [World.size_alloc] at hb1 hb2 hb3
  have hmay := fdsMay (stV vs) s _ (hx0.le hl)
  rw [hm] at hmay
  go_enter Try.func43, Try.ntmps43
  go_wp2_with fail
  refine hmay.mono ?_
  rintro e w1 ⟨rfl, l1⟩
  obtain ⟨y0, y1, y2, _, _, _⟩ := (hb2.le l1).op
  clear hmay
  go_wp2_with fail
  refine (operMay _ _ _ _).mono ?_
  rw [hop]
  rintro e w2 ⟨rfl, l2⟩
  replace l1 := l1.trans l2
  clear l2 y0 y1 y2
  obtain ⟨x0, x1, x2, x3, _, _, _, _⟩ := (hb1.le l1).st
  obtain ⟨y0, y1, y2, _, _, _⟩ := (hb2.le l1).op
  go_wp2_with fail
  refine (countedAll 52 53 (fun xs _ => putS xs) takeS fdsPutT fdsTakeT (stV vs) s c r a _ (hx0.le (hl.trans l1)) hf (fun j hj => rowMay2_len (St.all_at hm hj)) hop).mono ?_
  obtain ⟨Y, hY⟩ : ∃ Y, Y = cntY (fun xs _ => putS xs) takeS s c r a := ⟨_, rfl⟩
  rw [← hY]
  have HY : Hid (Y = cntY (fun xs _ => putS xs) takeS s c r a) := hY
  clear hY
  rintro e w3 ⟨_, rfl, ⟨us, rfl, hown⟩, l3⟩
  replace hown := fun i hi => (hown i hi).base (base' := w.heap.size) (hl.trans l1).size
  replace l1 := l1.trans l3
  clear l3 y0 y1 y2 x0 x1 x2 x3
  have n0 : w.heap.size + 1 + 1 < w3.heap.size := (hb3.le l1).lt
  have n1 : ¬ w.heap.size + 1 + 1 = w3.heap.size := by omega
  have hb4 := Box.new w3 (cells4 us) 25
  replace l1 := l1.trans (Le.alloc w3 (.cells (cells4 us) 25))
  replace hown := fun i hi => (hown i hi).le (Le.alloc w3 (.cells (cells4 us) 25))
  go_upto_region 4 with fail
  generalize hW : w3.alloc (.cells (cells4 us) 25) = W at hb4 l1 hown ⊢
  clear hW
  obtain ⟨y0, y1, y2, y3, _, _, _, _⟩ := hb4.st
  obtain ⟨z0, z1, z2, z3, f0, f1, f2, f3⟩ := (hb3.le l1).st
  go_wp2_with fail
  refine bodyPost_ret (v := .tuple #[stV us, .int .i64 Y.2, .int .i64 0]) (by simp [results, Try.results43, go_sem, z0, z1, z2, z3]) rfl ⟨stV us, by rw [HY.out], ⟨us, rfl, fun i hi => ?_⟩, ?_⟩
  · rw [← HY.out]; exact (hown i hi).set4 (hb3.le l1) (by decide) _ _ _ _
  · exact (hl.trans l1).set4 (by omega) _ _ _ _

theorem fdsS_no {s : St} {c r a er : Int} (h : (s.all rowMay2 && opMay c r a) = false) : fdsS s c r a er = (St.zero, 0, er) := cntS_no h
theorem fdsS_scan {s : St} {er : Int} (h : s.all rowMay2 = true) : fdsS s 3 0 0 er = (s, manyTo s 4, 0) := cntS_scan h
theorem fdsS_look {s : St} {k : Nat} {er : Int} (h : s.all rowMay2 = true) (hk : k < 4) : fdsS s 2 k 0 er = (s, ((s.at k).length : Int), 0) := cntS_look h hk

theorem fdsApply (v : Value) (s : St) (c r a : Int) (w : World) (hx : HasS w v s) (hf : Fit s) :
    Calls Try.prog 43 #[v, opV c r a] w fun e w' => ∃ v', e = .returned (.tuple #[v', .int .i64 (fdsS s c r a 400).2.1, .int .i64 (fdsS s c r a 400).2.2]) ∧ OwnS w' w.heap.size v' (fdsS s c r a 400).1 ∧ Le w w' := by
  cases h : s.all rowMay2 && opMay c r a
  · rw [fdsS_no h]
    exact (fdsApplyNo v s c r a w hx h).mono fun e w' ⟨he, hl⟩ => ⟨stZ, he, OwnS.zero _ _, hl⟩
  · obtain ⟨hm, ho⟩ := Bool.and_eq_true_iff.mp h
    rw [show fdsS s c r a 400 = _ from cntS_yes h]
    exact fdsApplyYes v s c r a w hx hf hm ho

end Go.Proofs.Ytnpejgendmgfaaa

/-
  PLAIN GROUND: what the answers of fds.Apply keep. No condition.
-/
namespace Go.Proofs.Ytnpejgendmgfaaa
open Go.RowKit

theorem fdsS_first {s : St} {k : Nat} {a er : Int} (h : s.all rowMay2 = true) (hk : k < 4) (ha : 0 ≤ a ∧ a ≤ 255) : fdsS s 0 k a er = (s.put k (putS (s.at k)).1, (putS (s.at k)).2, 0) := cntS_first h hk ha
theorem fdsS_second {s : St} {k : Nat} {a er : Int} (h : s.all rowMay2 = true) (hk : k < 4) (ha : 0 ≤ a ∧ a ≤ 255) : fdsS s 1 k a er = (s.put k (takeS (s.at k) a).1, (takeS (s.at k) a).2, 0) := cntS_second h hk ha

theorem idx_out {a : Int} : ∀ {i : Int} {xs : List Int}, a ∉ xs → idxFrom i a xs = -1
  | _, [], _ => rfl
  | i, x :: r, h => by
    simp only [List.mem_cons, not_or] at h
    simp only [idxFrom, if_neg h.1]
    exact idx_out h.2
theorem take_out {xs : List Int} {a : Int} (h : a ∉ xs) : takeS xs a = (xs, 0) := by
  have : idxS xs a = -1 := idx_out h
  simp [takeS, this]

theorem put_rows : ∀ xs ∈ rowsAbove 4, rowMay2 (putS xs).1 = true := by decide
theorem take_rows : ∀ xs ∈ rowsAbove 4, ∀ a ∈ xs, rowMay2 (takeS xs a).1 = true := by decide
theorem put_may {xs : List Int} (h : rowMay2 xs = true) : rowMay2 (putS xs).1 = true := put_rows xs (rowMay2_mem h)
theorem take_may {xs : List Int} {a : Int} (h : rowMay2 xs = true) : rowMay2 (takeS xs a).1 = true := by
  by_cases ha : a ∈ xs
  · exact take_rows xs (rowMay2_mem h) a ha
  · rw [take_out ha]; exact h

theorem may_all2 {s : St} (h : s.all rowMay2 = true) : Fit s := fun i hi => by
  have := rowMay2_len (St.all_at h hi)
  omega

theorem Fit.fds {s : St} (h : Fit s) (c r a er : Int) : Fit (fdsS s c r a er).1 := by
  cases hh : s.all rowMay2 && opMay c r a
  · rw [fdsS_no hh]; exact fit_zero
  · obtain ⟨hm, ho⟩ := Bool.and_eq_true_iff.mp hh
    rcases opMay_cases ho with ⟨k, hk, rfl, rfl, ha⟩ | ⟨k, hk, rfl, rfl, ha⟩ | ⟨k, hk, rfl, rfl, rfl⟩ | ⟨rfl, rfl, rfl⟩
    · rw [fdsS_first hm hk ha]; exact h.put hk (rowMay2_len (put_may (St.all_at hm hk)))
    · rw [fdsS_second hm hk ha]; exact h.put hk (rowMay2_len (take_may (St.all_at hm hk)))
    · rw [fdsS_look hm hk]; exact h
    · rw [fdsS_scan hm]; exact h

end Go.Proofs.Ytnpejgendmgfaaa

/-
  PLAIN GROUND AND THE WALKS over package queue's mayRow, put, take, and over slices.ContainsFunc at []int: what each answers, for every row. Condition: at put and take, that the row is the call's own and short.
-/
namespace Go.Proofs.Ytnpejgendmgfaaa
open Go.RowKit

/-- May a row be a queue's? -/
def rowMay3 (xs : List Int) : Bool := decide (xs.length ≤ 4) && xs.all argB
/-- The row with a number behind all others, and 1; the row as it is, and 0, if it is full. -/
def enqS (xs : List Int) (a : Int) : List Int × Int := if 4 ≤ xs.length then (xs, 0) else (xs ++ [a], 1)
/-- The row without its first number; that number, or -1. -/
def deqS : List Int → List Int × Int
  | [] => ([], -1)
  | x :: r => (r, x)

theorem rowMay3_len {xs : List Int} (h : rowMay3 xs = true) : xs.length ≤ 4 := by
  simp [rowMay3] at h; exact h.1
theorem rowMay3_all {xs : List Int} (h : rowMay3 xs = true) : ∀ x ∈ xs, 0 ≤ x ∧ x ≤ 255 := by
  simp [rowMay3, argB] at h; exact h.2
theorem rowMay3_of {xs : List Int} (h : xs.length ≤ 4) (k : ∀ x ∈ xs, 0 ≤ x ∧ x ≤ 255) : rowMay3 xs = true := by
  simp [rowMay3, argB]; exact ⟨h, k⟩

set_option maxHeartbeats 400000 in
theorem queOdd (x : Int) (w : World) : Calls Try.prog 62 #[.int .i64 x] w fun e w' => e = .returned (.bool (!argB x)) ∧ w = w' := by
  by_cases h : x < 0
  · go_enter Try.func62, Try.ntmps62
    go_wp2
    go_ret
    exact ⟨ret_bool (by simp [argB]; omega), rfl⟩
  · go_enter Try.func62, Try.ntmps62
    go_wp2
    go_ret
    exact ⟨ret_bool (by rw [Bool.eq_iff_iff]; simp [argB]; omega), rfl⟩

set_option maxHeartbeats 400000 in
theorem slicesIndexFunc (f : Nat) (p : Int → Bool) (hc : ∀ (u : Value) (w : World), (callFunc f #[u]).run Try.prog w = .ok (.enter f #[u]) w) (hp : ∀ x w, Calls Try.prog f #[.int .i64 x] w fun e w' => e = .returned (.bool (p x)) ∧ w = w') (v : Value) (xs : List Int) (w : World) (hx : Has w v xs) (hl : xs.length ≤ 1000) :
    Calls Try.prog 66 #[v, .func (.func f) #[] #[]] w fun e w' => (∃ i : Int, e = .returned (.int .i64 i) ∧ decide (0 ≤ i) = xs.any p) ∧ w = w' := by
  obtain ⟨a, cap, rfl, hcap, _, hx⟩ := hx
  obtain ⟨n, hn⟩ : ∃ n, n = xs.length := ⟨_, rfl⟩
  rw [← hn] at hcap hx hl ⊢
  have HN : Hid (n = xs.length) := hn
  clear hn
  go_enter Try.func66, Try.ntmps66
  go_wp2
  go_loop [8] (fun i => ∃ k : Nat, k ≤ n ∧ i = .int .i64 k ∧ Hid (xs.any p = (xs.drop k).any p)) (fun i => n - (intOf i).toNat)
  case atStart => exact ⟨0, by omega, rfl, hid (by simp)⟩
  case round =>
    obtain ⟨k, hk, rfl, HR⟩ := hrel
    by_cases hlt : k < n
    · obtain ⟨b, off, rfl, hcell⟩ := hx (by omega)
      have c0 := hcell k hlt
      have hd := HR.out
      rw [drop_at (by have := HN.out; omega)] at hd
      obtain ⟨x, hxk⟩ : ∃ x, x = xs.getD k 0 := ⟨_, rfl⟩
      rw [← hxk] at c0 hd
      simp only [List.any_cons] at hd
      have hm := hp x w
      have k0 : (0 : Int) ≤ (k : Int) := by omega
      have k1 : (k : Int) < (n : Int) := by omega
      cases hh : p x
      · rw [hh] at hm hd
        have HD : Hid (xs.any p = (xs.drop (k + 1)).any p) := hid (by rw [hd]; rfl)
        clear hd hxk hcell hx HR
        go_wp2_with fail
        refine hm.mono ?_
        rintro e w1 ⟨rfl, rfl⟩
        go_wp2
        go_round
        case rel => exact ⟨k + 1, by omega, by go_num, HD⟩
        case measure => simp [intOf]; omega
      · rw [hh] at hm hd
        have HD : Hid (xs.any p = true) := hid (by rw [hd]; rfl)
        clear hd hxk hcell hx HR
        go_wp2_with fail
        refine hm.mono ?_
        rintro e w1 ⟨rfl, rfl⟩
        go_wp2
        go_ret
        exact ⟨⟨k, rfl, by rw [HD.out]; simp⟩, rfl⟩
    · obtain rfl : k = n := by omega
      have HD : Hid (xs.any p = false) := hid (by have := HR.out; rw [List.drop_eq_nil_of_le (by have := HN.out; omega)] at this; exact this)
      go_wp2
      go_ret
      exact ⟨⟨-1, rfl, by rw [HD.out]; decide⟩, rfl⟩

set_option maxHeartbeats 400000 in
theorem slicesContainsFunc (f : Nat) (p : Int → Bool) (hc : ∀ (u : Value) (w : World), (callFunc f #[u]).run Try.prog w = .ok (.enter f #[u]) w) (hp : ∀ x w, Calls Try.prog f #[.int .i64 x] w fun e w' => e = .returned (.bool (p x)) ∧ w = w') (v : Value) (xs : List Int) (w : World) (hx : Has w v xs) (hl : xs.length ≤ 1000) :
    Calls Try.prog 63 #[v, .func (.func f) #[] #[]] w fun e w' => e = .returned (.bool (xs.any p)) ∧ w = w' := by
  have hi := slicesIndexFunc f p hc hp v xs w hx hl
  go_enter Try.func63, Try.ntmps63
  go_wp2_with fail
  refine hi.mono ?_
  rintro e w1 ⟨⟨i, rfl, hd⟩, rfl⟩
  have HD : Hid (decide (0 ≤ i) = xs.any p) := hd
  clear hd
  go_wp2
  go_ret
  exact ⟨ret_bool HD.out, rfl⟩

theorem any_not (xs : List Int) : (!xs.any fun x => !argB x) = xs.all argB := by
  induction xs with
  | nil => rfl
  | cons x r ih => simp only [List.any_cons, List.all_cons, ← ih, Bool.not_or, Bool.not_not]

set_option maxHeartbeats 400000 in
theorem queMayRow (v : Value) (xs : List Int) (w : World) (hx : Has w v xs) :
    Calls Try.prog 54 #[v] w fun e w' => e = .returned (.bool (rowMay3 xs)) ∧ w = w' := by
  have hx0 := hx
  obtain ⟨a, cap, rfl, hcap, _, hx⟩ := hx
  by_cases h4 : xs.length ≤ 4
  · have hcf := slicesContainsFunc 62 (fun x => !argB x) (fun _ _ => by kernel_rfl) queOdd _ xs w hx0 (by omega)
    obtain ⟨B, hB⟩ : ∃ B, B = xs.any fun x => !argB x := ⟨_, rfl⟩
    rw [← hB] at hcf
    have HB : Hid (rowMay3 xs = !B) := hid (by rw [hB, any_not]; simp [rowMay3, h4])
    have h5 : (xs.length : Int) ≤ 4 := by omega
    clear hB hx hx0
    go_enter Try.func54, Try.ntmps54
    go_wp2_with fail
    refine hcf.mono ?_
    rintro e w1 ⟨rfl, rfl⟩
    go_wp2
    go_ret
    exact ⟨ret_bool HB.out.symm, rfl⟩
  · have h5 : ¬ (xs.length : Int) ≤ 4 := by omega
    have HB : Hid (rowMay3 xs = false) := hid (by simp [rowMay3]; omega)
    clear hx hx0
    go_enter Try.func54, Try.ntmps54
    go_wp2
    go_ret
    exact ⟨ret_bool HB.out.symm, rfl⟩

set_option maxHeartbeats 400000 in
theorem quePut (v : Value) (base : Nat) (xs : List Int) (a : Int) (w : World) (hown : Own w base v xs) (hbase : base ≤ w.heap.size) (hl : xs.length ≤ 4) :
    Calls Try.prog 55 #[v, .int .i64 a] w fun e w' => ∃ v', e = .returned (.tuple #[v', .int .i64 (enqS xs a).2]) ∧ Own w' base v' (enqS xs a).1 ∧ w.grownBy w' v.ownBlock := by
  obtain ⟨ad, cap, rfl, hc, _, hx⟩ := hown.has
  by_cases h4 : 4 ≤ xs.length
  · have HP : Hid (enqS xs a = (xs, 0)) := hid (by simp [enqS, h4])
    have h5 : (4 : Int) ≤ (xs.length : Int) := by omega
    clear hx
    go_enter Try.func55, Try.ntmps55
    go_wp2
    go_ret2
    rw [HP.out]
    exact ⟨_, rfl, hown, World.grownBy.refl _ _⟩
  · have HP : Hid (enqS xs a = (xs ++ [a], 1)) := hid (by simp [enqS, h4])
    have h5 : ¬ (4 : Int) ≤ (xs.length : Int) := by omega
    have hA := Le.alloc w (.cells #[.int .i64 a] 3)
    have hone : Own (w.alloc (.cells #[.int .i64 a] 3)) w.heap.size (slV (some ⟨w.heap.size, 0, none⟩, 1, 1)) [a] := Own.lit w _ (Nat.le_refl _) [a] (by simp)
    clear hx
    go_enter Try.func55, Try.ntmps55
    go_wp2_with (at_builtin; refine wp_append_ints rfl _ _ rfl base _ _ xs [a] rfl rfl (hown.le hA) hone.has (by simp; omega) (Nat.le_trans hbase hA.size) ?_; intro v' w2 hown2 hgrow; obtain ⟨q2, rfl⟩ := hown2.has.sl)
    go_ret2
    rw [HP.out]
    exact ⟨_, rfl, hown2, grownBy_trans (World.grownBy_alloc _ _ _) hgrow⟩

theorem quePutT : TurnsRow 55 enqS :=
  ⟨fun _ _ _ => by kernel_rfl, fun v base xs a w ho hb hl _ => quePut v base xs a w ho hb hl⟩

set_option maxHeartbeats 1000000 in
theorem queTake (v : Value) (base : Nat) (xs : List Int) (a : Int) (w : World) (hown : Own w base v xs) (hbase : base ≤ w.heap.size) (hl : xs.length ≤ 4) :
    Calls Try.prog 56 #[v, .int .i64 a] w fun e w' => ∃ v', e = .returned (.tuple #[v', .int .i64 (deqS xs).2]) ∧ Own w' base v' (deqS xs).1 ∧ w.grownBy w' v.ownBlock := by
  obtain ⟨ad, cap, rfl, hc, _, hx⟩ := hown.has
  match xs, hl, hc, hx, hown with
  | [], hl, hc, hx, hown =>
    go_enter Try.func56, Try.ntmps56
    go_wp2
    go_ret2
    exact ⟨_, rfl, Own.nil _ _, World.grownBy.refl _ _⟩
  | x :: zs, hl, hc, hx, hown =>
    obtain ⟨b, off, rfl, hcell⟩ := hx (by simp)
    have c0 : w.cell? ⟨b, off, none⟩ = some (.int .i64 x) := hcell 0 (by simp)
    obtain ⟨n, hn⟩ : ∃ n, n = zs.length := ⟨_, rfl⟩
    obtain ⟨A, hAe, hB⟩ : ∃ A, (if cap = 1 then some ⟨b, off, none⟩ else some ⟨b, off + 1, none⟩ : Option Addr) = A ∧ Has w (.slice A n (cap - 1)) zs := by
      refine ⟨_, rfl, _, _, by rw [← hn], by simp at hc; omega, (fun h => by split at h <;> cases h), fun hp => ?_⟩
      simp only [List.length_cons] at hc
      rw [if_neg (by omega)]
      refine ⟨b, off + 1, rfl, fun j hj => ?_⟩
      have := hcell (j + 1) (by simp; omega)
      rw [Nat.add_assoc, Nat.add_comm 1 j, this]
      rfl
    have HN : Hid (n = zs.length) := hn
    simp only [List.length_cons] at hc hl ⊢
    rw [← hn] at hc hl ⊢
    have n0 : ¬ (((n + 1 : Nat) : Int)) = 0 := by omega
    have n1 : (1 : Int) ≤ (n : Int) + 1 := by omega
    clear hx hcell hn
    go_enter Try.func56, Try.ntmps56
    go_wp2_with fail
    go_region_law ((refine step_append_ints rfl (.const (.slice none 0 0)) (.tmp 10) rfl w.heap.size (.slice none 0 0) (.slice A n (cap - 1)) [] zs (by simp [Act.eval]) (by simp [Act.eval, Act.put]) (Own.nil _ _) hB (by simp; have := HN.out; omega) (Nat.le_refl _) ?_; intro v1 w1 o1 g1; have l1 : Le w w1 := Below.grown (Le.drew w) g1 (Nat.le_refl _) (fun g e => (by cases e)); have c1 : w1.cell? ⟨b, off, none⟩ = some (.int .i64 x) := (by rw [l1.cell (p := ⟨b, off, none⟩) (World.block_lt_of_cell? w _ c0)]; exact c0)))
    all_goals
      go_wp2
      go_ret2
      rw [List.nil_append] at o1
      exact ⟨_, rfl, o1.base hbase, l1.grownBy _⟩

theorem queTakeT : TurnsRow 56 (fun xs _ => deqS xs) :=
  ⟨fun _ _ _ => by kernel_rfl, fun v base xs a w ho hb hl _ => queTake v base xs a w ho hb hl⟩

end Go.Proofs.Ytnpejgendmgfaaa

/-
  THE WALK over queue.Apply: what it answers, for every state and operation, and that what it hands back lies in memory of its own. Condition: the state's rows can be copied.
-/
namespace Go.Proofs.Ytnpejgendmgfaaa
open Go.RowKit

theorem queMay (v : Value) (s : St) (w : World) (hx : HasS w v s) :
    Calls Try.prog 45 #[v, .func (.func 54) #[] #[]] w fun e w' => e = .returned (.bool (s.all rowMay3)) ∧ Le w w' :=
  statesMay 54 rowMay3 (fun _ _ => by kernel_rfl) queMayRow v s w hx

/-- The document's answer: the state, the answer, the error. -/
def queS (s : St) (c r a e : Int) : St × Int × Int := cntS rowMay3 enqS (fun xs _ => deqS xs) s c r a e

set_option maxHeartbeats 2000000 in
theorem queApplyNo (v : Value) (s : St) (c r a : Int) (w : World) (hx : HasS w v s) (h : (s.all rowMay3 && opMay c r a) = false) :
    Calls Try.prog 44 #[v, opV c r a] w fun e w' => e = .returned (.tuple #[stZ, .int .i64 0, .int .i64 500]) ∧ Le w w' := by
  have hx0 := hx
  obtain ⟨vs, rfl, hr⟩ := hx
  have hl := ((Le.alloc w (.cells (cells4 vs) 25)).trans (Le.alloc _ (.cells #[.int .i64 c, .int .i64 r, .int .i64 a] 43))).trans (Le.alloc _ (.cells (cells4 fun _ => slZ) 25))
  have hb1 := ((Box.new w (cells4 vs) 25).le (Le.alloc _ (.cells #[.int .i64 c, .int .i64 r, .int .i64 a] 43))).le (Le.alloc _ (.cells (cells4 fun _ => slZ) 25))
  have hb2 := (Box.new (w.alloc (.cells (cells4 vs) 25)) #[.int .i64 c, .int .i64 r, .int .i64 a] 43).le (Le.alloc _ (.cells (cells4 fun _ => slZ) 25))
  have hb3 := Box.new ((w.alloc (.cells (cells4 vs) 25)).alloc (.cells #[.int .i64 c, .int .i64 r, .int .i64 a] 43)) (cells4 fun _ => slZ) 25
  simp only [World.size_alloc] at hb1 hb2 hb3
  have hmay := queMay (stV vs) s _ (hx0.le hl)
  cases hm : s.all rowMay3
  · rw [hm] at hmay
    go_enter Try.func44, Try.ntmps44
    go_wp2_with fail
    refine hmay.mono ?_
    rintro e w1 ⟨rfl, l1⟩
    obtain ⟨z0, z1, z2, z3, f0, f1, f2, f3⟩ := (hb3.le l1).st
    go_wp2_with fail
    refine bodyPost_ret (v := .tuple #[stZ, .int .i64 0, .int .i64 500]) (by simp [results, Try.results44, go_sem, z0, z1, z2, z3]) rfl ⟨rfl, ?_⟩
    exact (hl.trans l1).set4 (by omega) _ _ _ _
  · have hop : opMay c r a = false := by simpa [hm] using h
    rw [hm] at hmay
    go_enter Try.func44, Try.ntmps44
    go_wp2_with fail
    refine hmay.mono ?_
    rintro e w1 ⟨rfl, l1⟩
    obtain ⟨y0, y1, y2, _, _, _⟩ := (hb2.le l1).op
    go_wp2_with fail
    refine (operMay _ _ _ _).mono ?_
    rw [hop]
    rintro e w2 ⟨rfl, l2⟩
    obtain ⟨z0, z1, z2, z3, f0, f1, f2, f3⟩ := ((hb3.le l1).le l2).st
    go_wp2_with fail
    refine bodyPost_ret (v := .tuple #[stZ, .int .i64 0, .int .i64 500]) (by simp [results, Try.results44, go_sem, z0, z1, z2, z3]) rfl ⟨rfl, ?_⟩
    exact ((hl.trans l1).trans l2).set4 (by omega) _ _ _ _

set_option maxHeartbeats 2000000 in
theorem queApplyYes (v : Value) (s : St) (c r a : Int) (w : World) (hx : HasS w v s) (hf : Fit s) (hm : s.all rowMay3 = true) (hop : opMay c r a = true) :
    Calls Try.prog 44 #[v, opV c r a] w fun e w' => ∃ v', e = .returned (.tuple #[v', .int .i64 (cntY enqS (fun xs _ => deqS xs) s c r a).2, .int .i64 0]) ∧ OwnS w' w.heap.size v' (cntY enqS (fun xs _ => deqS xs) s c r a).1 ∧ Le w w' := by
  have hx0 := hx
  obtain ⟨vs, rfl, hr⟩ := hx
  have hl := ((Le.alloc w (.cells (cells4 vs) 25)).trans (Le.alloc _ (.cells #[.int .i64 c, .int .i64 r, .int .i64 a] 43))).trans (Le.alloc _ (.cells (cells4 fun _ => slZ) 25))
  have hb1 := ((Box.new w (cells4 vs) 25).le (Le.alloc _ (.cells #[.int .i64 c, .int .i64 r, .int .i64 a] 43))).le (Le.alloc _ (.cells (cells4 fun _ => slZ) 25))
  have hb2 := (Box.new (w.alloc (.cells (cells4 vs) 25)) #[.int .i64 c, .int .i64 r, .int .i64 a] 43).le (Le.alloc _ (.cells (cells4 fun _ => slZ) 25))
  have hb3 := Box.new ((w.alloc (.cells (cells4 vs) 25)).alloc (.cells #[.int .i64 c, .int .i64 r, .int .i64 a] 43)) (cells4 fun _ => slZ) 25
  simp only [World.size_alloc] at hb1 hb2 hb3
  have hmay := queMay (stV vs) s _ (hx0.le hl)
  rw [hm] at hmay
  go_enter Try.func44, Try.ntmps44
  go_wp2_with fail
  refine hmay.mono ?_
  rintro e w1 ⟨rfl, l1⟩
  obtain ⟨y0, y1, y2, _, _, _⟩ := (hb2.le l1).op
  clear hmay
  go_wp2_with fail
  refine (operMay _ _ _ _).mono ?_
  rw [hop]
  rintro e w2 ⟨rfl, l2⟩
  replace l1 := l1.trans l2
  clear l2 y0 y1 y2
  obtain ⟨x0, x1, x2, x3, _, _, _, _⟩ := (hb1.le l1).st
  obtain ⟨y0, y1, y2, _, _, _⟩ := (hb2.le l1).op
  go_wp2_with fail
  refine (countedAll 55 56 enqS (fun xs _ => deqS xs) quePutT queTakeT (stV vs) s c r a _ (hx0.le (hl.trans l1)) hf (fun j hj => rowMay3_len (St.all_at hm hj)) hop).mono ?_
  obtain ⟨Y, hY⟩ : ∃ Y, Y = cntY enqS (fun xs _ => deqS xs) s c r a := ⟨_, rfl⟩
  rw [← hY]
  have HY : Hid (Y = cntY enqS (fun xs _ => deqS xs) s c r a) := hY
  clear hY
  rintro e w3 ⟨_, rfl, ⟨us, rfl, hown⟩, l3⟩
  replace hown := fun i hi => (hown i hi).base (base' := w.heap.size) (hl.trans l1).size
  replace l1 := l1.trans l3
  clear l3 y0 y1 y2 x0 x1 x2 x3
  have n0 : w.heap.size + 1 + 1 < w3.heap.size := (hb3.le l1).lt
  have n1 : ¬ w.heap.size + 1 + 1 = w3.heap.size := by omega
  have hb4 := Box.new w3 (cells4 us) 25
  replace l1 := l1.trans (Le.alloc w3 (.cells (cells4 us) 25))
  replace hown := fun i hi => (hown i hi).le (Le.alloc w3 (.cells (cells4 us) 25))
  go_upto_region 4 with fail
  generalize hW : w3.alloc (.cells (cells4 us) 25) = W at hb4 l1 hown ⊢
  clear hW
  obtain ⟨y0, y1, y2, y3, _, _, _, _⟩ := hb4.st
  obtain ⟨z0, z1, z2, z3, f0, f1, f2, f3⟩ := (hb3.le l1).st
  go_wp2_with fail
  refine bodyPost_ret (v := .tuple #[stV us, .int .i64 Y.2, .int .i64 0]) (by simp [results, Try.results44, go_sem, z0, z1, z2, z3]) rfl ⟨stV us, by rw [HY.out], ⟨us, rfl, fun i hi => ?_⟩, ?_⟩
  · rw [← HY.out]; exact (hown i hi).set4 (hb3.le l1) (by decide) _ _ _ _
  · exact (hl.trans l1).set4 (by omega) _ _ _ _

theorem queS_no {s : St} {c r a er : Int} (h : (s.all rowMay3 && opMay c r a) = false) : queS s c r a er = (St.zero, 0, er) := cntS_no h
theorem queS_scan {s : St} {er : Int} (h : s.all rowMay3 = true) : queS s 3 0 0 er = (s, manyTo s 4, 0) := cntS_scan h
theorem queS_look {s : St} {k : Nat} {er : Int} (h : s.all rowMay3 = true) (hk : k < 4) : queS s 2 k 0 er = (s, ((s.at k).length : Int), 0) := cntS_look h hk

theorem queApply (v : Value) (s : St) (c r a : Int) (w : World) (hx : HasS w v s) (hf : Fit s) :
    Calls Try.prog 44 #[v, opV c r a] w fun e w' => ∃ v', e = .returned (.tuple #[v', .int .i64 (queS s c r a 500).2.1, .int .i64 (queS s c r a 500).2.2]) ∧ OwnS w' w.heap.size v' (queS s c r a 500).1 ∧ Le w w' := by
  cases h : s.all rowMay3 && opMay c r a
  · rw [queS_no h]
    exact (queApplyNo v s c r a w hx h).mono fun e w' ⟨he, hl⟩ => ⟨stZ, he, OwnS.zero _ _, hl⟩
  · obtain ⟨hm, ho⟩ := Bool.and_eq_true_iff.mp h
    rw [show queS s c r a 500 = _ from cntS_yes h]
    exact queApplyYes v s c r a w hx hf hm ho

end Go.Proofs.Ytnpejgendmgfaaa

/-
  PLAIN GROUND: what the answers of queue.Apply keep. No condition.
-/
namespace Go.Proofs.Ytnpejgendmgfaaa
open Go.RowKit

theorem queS_first {s : St} {k : Nat} {a er : Int} (h : s.all rowMay3 = true) (hk : k < 4) (ha : 0 ≤ a ∧ a ≤ 255) : queS s 0 k a er = (s.put k (enqS (s.at k) a).1, (enqS (s.at k) a).2, 0) := cntS_first h hk ha
theorem queS_second {s : St} {k : Nat} {a er : Int} (h : s.all rowMay3 = true) (hk : k < 4) (ha : 0 ≤ a ∧ a ≤ 255) : queS s 1 k a er = (s.put k (deqS (s.at k)).1, (deqS (s.at k)).2, 0) := cntS_second h hk ha

theorem enq_may {xs : List Int} {a : Int} (h : rowMay3 xs = true) (ha : 0 ≤ a ∧ a ≤ 255) : rowMay3 (enqS xs a).1 = true := by
  unfold enqS
  split
  · exact h
  · refine rowMay3_of (by simp; omega) fun x hx => ?_
    rcases List.mem_append.mp hx with hx | hx
    · exact rowMay3_all h x hx
    · simp at hx; subst hx; exact ha
theorem deq_may {xs : List Int} (h : rowMay3 xs = true) : rowMay3 (deqS xs).1 = true := by
  match xs, h with
  | [], h => exact h
  | x :: r, h =>
    have h1 := rowMay3_len h
    simp only [List.length_cons] at h1
    exact rowMay3_of (show r.length ≤ 4 by omega) fun y hy => rowMay3_all h y (List.mem_cons_of_mem _ hy)

theorem may_all3 {s : St} (h : s.all rowMay3 = true) : Fit s := fun i hi => by
  have := rowMay3_len (St.all_at h hi)
  omega

theorem Fit.que {s : St} (h : Fit s) (c r a er : Int) : Fit (queS s c r a er).1 := by
  cases hh : s.all rowMay3 && opMay c r a
  · rw [queS_no hh]; exact fit_zero
  · obtain ⟨hm, ho⟩ := Bool.and_eq_true_iff.mp hh
    rcases opMay_cases ho with ⟨k, hk, rfl, rfl, ha⟩ | ⟨k, hk, rfl, rfl, ha⟩ | ⟨k, hk, rfl, rfl, rfl⟩ | ⟨rfl, rfl, rfl⟩
    · rw [queS_first hm hk ha]; exact h.put hk (rowMay3_len (enq_may (St.all_at hm hk) ha))
    · rw [queS_second hm hk ha]; exact h.put hk (rowMay3_len (deq_may (St.all_at hm hk)))
    · rw [queS_look hm hk]; exact h
    · rw [queS_scan hm]; exact h

end Go.Proofs.Ytnpejgendmgfaaa

/-
  PLAIN GROUND, NO WALK: the document's answer of one of three objects. No condition.
-/
namespace Go.Proofs.Ytnpejgendmgfaaa
open Go.RowKit

/-- May a row be the object's? -/
def rowMayO (o : Int) (xs : List Int) : Bool := if o = 0 then rowMay1 xs else if o = 1 then rowMay2 xs else rowMay3 xs
/-- May it be such a state? -/
def objMay (o : Int) (s : St) : Bool := (decide (0 ≤ o) && decide (o ≤ 2)) && s.all (rowMayO o)
/-- The document's answer of object o: the state, the answer, the error. -/
def objS (o : Int) (s : St) (c r a e : Int) : St × Int × Int :=
  if o = 0 then stoS s c r a e else if o = 1 then fdsS s c r a e else if o = 2 then queS s c r a e else (St.zero, 0, e)

theorem objMay0 (s : St) : objMay 0 s = s.all rowMay1 := rfl
theorem objMay1 (s : St) : objMay 1 s = s.all rowMay2 := rfl
theorem objMay2 (s : St) : objMay 2 s = s.all rowMay3 := rfl
theorem objMay_out {o : Int} (h : o < 0 ∨ 2 < o) (s : St) : objMay o s = false := by
  have : (decide (0 ≤ o) && decide (o ≤ 2)) = false := by simp; omega
  simp [objMay, this]
theorem objS_out {o : Int} (h : o < 0 ∨ 2 < o) (s : St) (c r a e : Int) : objS o s c r a e = (St.zero, 0, e) := by
  unfold objS
  rw [if_neg (by omega), if_neg (by omega), if_neg (by omega)]
theorem obj_cases {o : Int} : o = 0 ∨ o = 1 ∨ o = 2 ∨ (o < 0 ∨ 2 < o) := by omega

theorem stoS_err {s : St} {c r a er : Int} (h : (s.all rowMay1 && opMay c r a) = true) : stoS s c r a er = ((stoS s c r a 0).1, (stoS s c r a 0).2.1, 0) := by
  simp only [stoS, if_pos h]
  split <;> rfl

theorem fdsS_err {s : St} {c r a er : Int} (h : (s.all rowMay2 && opMay c r a) = true) : fdsS s c r a er = ((fdsS s c r a 0).1, (fdsS s c r a 0).2.1, 0) := by
  rw [show fdsS s c r a 0 = _ from cntS_yes h]; exact cntS_yes h
theorem queS_err {s : St} {c r a er : Int} (h : (s.all rowMay3 && opMay c r a) = true) : queS s c r a er = ((queS s c r a 0).1, (queS s c r a 0).2.1, 0) := by
  rw [show queS s c r a 0 = _ from cntS_yes h]; exact cntS_yes h

theorem objS_no {o : Int} {s : St} {c r a er : Int} (h : (objMay o s && opMay c r a) = false) : objS o s c r a er = (St.zero, 0, er) := by
  rcases obj_cases (o := o) with rfl | rfl | rfl | ho
  · exact stoS_no h
  · exact fdsS_no h
  · exact queS_no h
  · exact objS_out ho _ _ _ _ _
theorem objS_yes {o : Int} {s : St} {c r a : Int} (er : Int) (h : (objMay o s && opMay c r a) = true) : objS o s c r a er = ((objS o s c r a 0).1, (objS o s c r a 0).2.1, 0) := by
  rcases obj_cases (o := o) with rfl | rfl | rfl | ho
  · exact stoS_err h
  · exact fdsS_err h
  · exact queS_err h
  · rw [objMay_out ho] at h; simp at h
theorem Fit.obj {s : St} (h : Fit s) (o c r a er : Int) : Fit (objS o s c r a er).1 := by
  rcases obj_cases (o := o) with rfl | rfl | rfl | ho
  · exact h.sto c r a er
  · exact h.fds c r a er
  · exact h.que c r a er
  · rw [objS_out ho]; exact fit_zero

end Go.Proofs.Ytnpejgendmgfaaa

/-
  PLAIN GROUND, NO WALK: what an operation that is no scan makes of its own row, at every object. No condition.
-/
namespace Go.Proofs.Ytnpejgendmgfaaa
open Go.RowKit

/-- The row that an operation leaves, and what it tells. -/
def rowF (o c : Int) (xs : List Int) (a : Int) : List Int × Int :=
  if o = 0 then (if c = 0 then [a] else if c = 1 then [] else xs, firstS xs)
  else if o = 1 then (if c = 0 then putS xs else if c = 1 then takeS xs a else (xs, (xs.length : Int)))
  else (if c = 0 then enqS xs a else if c = 1 then deqS xs else (xs, (xs.length : Int)))

theorem objMay_in {o : Int} {s : St} (h : objMay o s = true) : o = 0 ∨ o = 1 ∨ o = 2 := by
  rcases obj_cases (o := o) with rfl | rfl | rfl | hn
  · exact .inl rfl
  · exact .inr (.inl rfl)
  · exact .inr (.inr rfl)
  · rw [objMay_out hn] at h; cases h
theorem objMay_all {o : Int} {s : St} (h : objMay o s = true) : s.all (rowMayO o) = true := (Bool.and_eq_true_iff.mp h).2
theorem objMay_row {o : Int} {s : St} (h : objMay o s = true) {k : Nat} (hk : k < 4) : rowMayO o (s.at k) = true := St.all_at (objMay_all h) hk
theorem objMay_of {o : Int} {s t : St} (h : objMay o s = true) (ht : ∀ k, k < 4 → rowMayO o (t.at k) = true) : objMay o t = true := by
  have h1 := (Bool.and_eq_true_iff.mp h).1
  unfold objMay
  rw [h1, St.all_of ht]; rfl
theorem rowMayO_nil (o : Int) : rowMayO o [] = true := by
  unfold rowMayO; split
  · rfl
  · split <;> rfl
theorem objMay_put {o : Int} {s : St} (h : objMay o s = true) {k : Nat} (hk : k < 4) {x : List Int} (hx : rowMayO o x = true) : objMay o (s.put k x) = true :=
  objMay_of h fun j hj => by rw [St.at_put hk hj]; split; exact hx; exact objMay_row h hj
theorem objMay_zero {o : Int} {s : St} (h : objMay o s = true) : objMay o St.zero = true :=
  objMay_of h fun j _ => by rw [St.at_zero]; exact rowMayO_nil o

theorem objS_row {o : Int} {s : St} {c a : Int} {k : Nat} (er : Int) (hm : objMay o s = true) (ho : opMay c k a = true) (hc : c ≠ 3) :
    objS o s c k a er = (s.put k (rowF o c (s.at k) a).1, (rowF o c (s.at k) a).2, 0) := by
  rcases objMay_in hm with rfl | rfl | rfl
  · replace hm : s.all rowMay1 = true := hm
    rcases opMay_cases ho with ⟨j, hj, rfl, hr, ha⟩ | ⟨j, hj, rfl, hr, ha⟩ | ⟨j, hj, rfl, hr, rfl⟩ | ⟨rfl, hr, rfl⟩
    · obtain rfl : k = j := by omega
      exact stoS_first hm hj ha
    · obtain rfl : k = j := by omega
      exact stoS_second hm hj ha
    · obtain rfl : k = j := by omega
      exact (stoS_look hm hj).trans (by show _ = (s.put k (s.at k), firstS (s.at k), 0); rw [St.put_same hj])
    · exact absurd rfl hc
  · replace hm : s.all rowMay2 = true := hm
    rcases opMay_cases ho with ⟨j, hj, rfl, hr, ha⟩ | ⟨j, hj, rfl, hr, ha⟩ | ⟨j, hj, rfl, hr, rfl⟩ | ⟨rfl, hr, rfl⟩
    · obtain rfl : k = j := by omega
      exact fdsS_first hm hj ha
    · obtain rfl : k = j := by omega
      exact fdsS_second hm hj ha
    · obtain rfl : k = j := by omega
      exact (fdsS_look hm hj).trans (by show _ = (s.put k (s.at k), ((s.at k).length : Int), 0); rw [St.put_same hj])
    · exact absurd rfl hc
  · replace hm : s.all rowMay3 = true := hm
    rcases opMay_cases ho with ⟨j, hj, rfl, hr, ha⟩ | ⟨j, hj, rfl, hr, ha⟩ | ⟨j, hj, rfl, hr, rfl⟩ | ⟨rfl, hr, rfl⟩
    · obtain rfl : k = j := by omega
      exact queS_first hm hj ha
    · obtain rfl : k = j := by omega
      exact queS_second hm hj ha
    · obtain rfl : k = j := by omega
      exact (queS_look hm hj).trans (by show _ = (s.put k (s.at k), ((s.at k).length : Int), 0); rw [St.put_same hj])
    · exact absurd rfl hc

theorem rowF_may {o c r a : Int} {s : St} {xs : List Int} (hm : objMay o s = true) (hx : rowMayO o xs = true) (ho : opMay c r a = true) : rowMayO o (rowF o c xs a).1 = true := by
  obtain ⟨_, _, _, _, ha⟩ := opMay_bounds ho
  rcases objMay_in hm with rfl | rfl | rfl
  · show rowMay1 (if c = 0 then [a] else if c = 1 then [] else xs) = true
    split
    · simp [rowMay1]; omega
    · split
      · rfl
      · exact hx
  · show rowMay2 (if c = 0 then putS xs else if c = 1 then takeS xs a else (xs, (xs.length : Int))).1 = true
    split
    · exact put_may hx
    · split
      · exact take_may hx
      · exact hx
  · show rowMay3 (if c = 0 then enqS xs a else if c = 1 then deqS xs else (xs, (xs.length : Int))).1 = true
    split
    · exact enq_may hx ha
    · split
      · exact deq_may hx
      · exact hx

end Go.Proofs.Ytnpejgendmgfaaa

/-
  PLAIN GROUND, NO WALK: the document's answer of two operations, either one first. No condition.
-/
namespace Go.Proofs.Ytnpejgendmgfaaa
open Go.RowKit

/-- Two operations, one behind the other: the state behind both, the first one's answer, the second one's, the error. -/
def inS (o : Int) (s : St) (c r a c' r' a' : Int) : St × Int × Int × Int :=
  if (objS o s c r a 600).2.2 = 0 then
    ((objS o (objS o s c r a 600).1 c' r' a' 600).1, (objS o s c r a 600).2.1, (objS o (objS o s c r a 600).1 c' r' a' 600).2.1, (objS o (objS o s c r a 600).1 c' r' a' 600).2.2)
  else (St.zero, 0, 0, (objS o s c r a 600).2.2)

/-- May both be? -/
def bothMay (o : Int) (s : St) (c r a c' r' a' : Int) : Bool := (objMay o s && opMay c r a) && opMay c' r' a'
/-- Is it all one which goes first? -/
def bothB (o : Int) (s : St) (c r a c' r' a' : Int) : Bool :=
  decide ((objS o (objS o s c r a 0).1 c' r' a' 0).1 = (objS o (objS o s c' r' a' 0).1 c r a 0).1) &&
  decide ((objS o s c r a 0).2.1 = (objS o (objS o s c' r' a' 0).1 c r a 0).2.1) &&
  decide ((objS o s c' r' a' 0).2.1 = (objS o (objS o s c r a 0).1 c' r' a' 0).2.1)
/-- The document's answer. -/
def bothS (o : Int) (s : St) (c r a c' r' a' : Int) : Bool × Int := if bothMay o s c r a c' r' a' then (bothB o s c r a c' r' a', 0) else (false, 800)

theorem objS_scan0 {o : Int} {s : St} (er : Int) (hm : objMay o s = true) : (objS o s 3 0 0 er).1 = s := by
  rcases obj_cases (o := o) with rfl | rfl | rfl | hn
  · exact congrArg Prod.fst (stoS_scan (er := er) hm)
  · exact congrArg Prod.fst (fdsS_scan (er := er) hm)
  · exact congrArg Prod.fst (queS_scan (er := er) hm)
  · rw [objMay_out hn] at hm; cases hm

/-- What may be stays so. -/
theorem objS_may {o : Int} {s : St} {c r a : Int} (er : Int) (hm : objMay o s = true) (ho : opMay c r a = true) : objMay o (objS o s c r a er).1 = true := by
  by_cases hc : c = 3
  · subst hc
    have : r = 0 ∧ a = 0 := by simp [opMay] at ho; omega
    obtain ⟨rfl, rfl⟩ := this
    rw [objS_scan0 er hm]; exact hm
  · obtain ⟨_, _, r0, r3, _, _⟩ := opMay_bounds ho
    obtain ⟨k, rfl⟩ : ∃ k : Nat, r = k := ⟨r.toNat, by omega⟩
    rw [objS_row er hm ho hc]
    exact objMay_put hm (by omega) (rowF_may hm (objMay_row hm (by omega)) ho)

theorem objS_er {o : Int} {s : St} {c r a : Int} (er er' : Int) (hm : objMay o s = true) (ho : opMay c r a = true) : objS o s c r a er = objS o s c r a er' := by
  rw [objS_yes er (by rw [hm, ho]; rfl), objS_yes er' (by rw [hm, ho]; rfl)]
theorem objS_ok {o : Int} {s : St} {c r a : Int} (er : Int) (hm : objMay o s = true) (ho : opMay c r a = true) : (objS o s c r a er).2.2 = 0 := by
  rw [objS_yes er (by rw [hm, ho]; rfl)]

theorem bothMay_parts {o : Int} {s : St} {c r a c' r' a' : Int} (h : bothMay o s c r a c' r' a' = true) : objMay o s = true ∧ opMay c r a = true ∧ opMay c' r' a' = true := by
  simp only [bothMay, Bool.and_eq_true] at h; exact ⟨h.1.1, h.1.2, h.2⟩
theorem bothMay_turn (o : Int) (s : St) (c r a c' r' a' : Int) : bothMay o s c' r' a' c r a = bothMay o s c r a c' r' a' := by
  unfold bothMay; cases objMay o s <;> cases opMay c r a <;> cases opMay c' r' a' <;> rfl

theorem inS_yes {o : Int} {s : St} {c r a c' r' a' : Int} (h : bothMay o s c r a c' r' a' = true) :
    inS o s c r a c' r' a' = ((objS o (objS o s c r a 0).1 c' r' a' 0).1, (objS o s c r a 0).2.1, (objS o (objS o s c r a 0).1 c' r' a' 0).2.1, 0) := by
  obtain ⟨hm, h1, h2⟩ := bothMay_parts h
  unfold inS
  rw [objS_er 600 0 hm h1, if_pos (objS_ok 0 hm h1), objS_er 600 0 (objS_may 0 hm h1) h2, objS_ok 0 (objS_may 0 hm h1) h2]
theorem inS_no {o : Int} {s : St} {c r a c' r' a' : Int} (h : bothMay o s c r a c' r' a' = false) : (inS o s c r a c' r' a').2.2.2 = 600 := by
  unfold inS
  cases h1 : objMay o s && opMay c r a
  · rw [objS_no h1]; rfl
  · obtain ⟨hm, h1⟩ := Bool.and_eq_true_iff.mp h1
    have h2 : opMay c' r' a' = false := by simpa [bothMay, hm, h1] using h
    rw [if_pos (objS_ok 600 hm h1), objS_no (er := 600) (c := c') (r := r') (a := a') (by rw [h2, Bool.and_false])]
theorem Fit.inS {s : St} (h : Fit s) (o c r a c' r' a' : Int) : Fit (inS o s c r a c' r' a').1 := by
  unfold Go.Proofs.Ytnpejgendmgfaaa.inS
  split
  · exact (h.obj o c r a 600).obj o c' r' a' 600
  · exact fit_zero

theorem bothS_yes {o : Int} {s : St} {c r a c' r' a' : Int} (h : bothMay o s c r a c' r' a' = true) : bothS o s c r a c' r' a' = (bothB o s c r a c' r' a', 0) := by unfold bothS; rw [if_pos h]
theorem bothS_no {o : Int} {s : St} {c r a c' r' a' : Int} (h : bothMay o s c r a c' r' a' = false) : bothS o s c r a c' r' a' = (false, 800) := by unfold bothS; rw [h]; rfl
theorem bothS_err (o : Int) (s : St) (c r a c' r' a' : Int) : (bothS o s c r a c' r' a').2 = if bothMay o s c r a c' r' a' then 0 else 800 := by
  unfold bothS; split <;> rfl

/-- Either way round. -/
theorem bothB_turn (o : Int) (s : St) (c r a c' r' a' : Int) : bothB o s c' r' a' c r a = bothB o s c r a c' r' a' := by
  unfold bothB
  rw [Bool.and_assoc, Bool.and_assoc, Bool.and_comm (decide ((objS o s c' r' a' 0).2.1 = _))]
  congr 1
  exact decide_eq_decide.2 eq_comm

end Go.Proofs.Ytnpejgendmgfaaa

/-
  PLAIN GROUND, NO WALK: an operation of three numbers, when a slice value holds a list of operations in a world, when it is the call's own, and what a later world keeps of both. Condition: at an append, that the bytes are within the reach that every row bears.
-/
namespace Go.Proofs.Ytnpejgendmgfaaa
open Go.RowKit

/-- An operation: its code, its row, its number. -/
structure Opr where
  c : Int
  r : Int
  a : Int
deriving DecidableEq

abbrev Opr.v (s : Opr) : Value := opV s.c s.r s.a
def Opr.zero : Opr := ⟨0, 0, 0⟩
def Opr.vals (s : Opr) : List Value := [.int .i64 s.c, .int .i64 s.r, .int .i64 s.a]
theorem Opr.len (s : Opr) : s.vals.length = 3 := rfl
/-- The cells of a row of operations. -/
def flatO : List Opr → List Value
  | [] => []
  | s :: ss => s.vals ++ flatO ss
theorem flatO_len : ∀ ss : List Opr, (flatO ss).length = ss.length * 3
  | [] => rfl
  | s :: ss => by simp [flatO, flatO_len ss, Opr.vals]; omega
theorem flatO_append : ∀ ss ts : List Opr, flatO (ss ++ ts) = flatO ss ++ flatO ts
  | [], _ => rfl
  | s :: ss, ts => by simp [flatO, flatO_append ss ts]
theorem flatO_at : ∀ (ss : List Opr) (i j : Nat), i < ss.length → j < 3 → (flatO ss)[i * 3 + j]? = (ss.getD i Opr.zero).vals[j]?
  | [], i, j, h, _ => by simp at h
  | s :: ss, 0, j, _, hj => by
    simp [flatO]
    rw [List.getElem?_append_left (by simp [Opr.vals]; omega)]
  | s :: ss, i + 1, j, h, hj => by
    have e : (i + 1) * 3 + j = s.vals.length + (i * 3 + j) := by simp [Opr.vals]; omega
    rw [flatO, e, List.getElem?_append_right (by omega)]
    simp
    rw [flatO_at ss i j (by simpa using h) hj]
    simp
theorem flatO_one : ∀ (ss : List Opr), ∀ u ∈ flatO ss, ∃ x, u = Value.int .i64 x
  | [], u, h => by simp [flatO] at h
  | s :: ss, u, h => by
    simp only [flatO, List.mem_append] at h
    rcases h with h | h
    · simp [Opr.vals] at h
      rcases h with h | h | h <;> exact ⟨_, h⟩
    · exact flatO_one ss u h

/-- A operation's three cells lie at off. -/
def OprAt (w : World) (b off : Nat) (s : Opr) : Prop :=
  w.cell? ⟨b, off, none⟩ = some (.int .i64 s.c) ∧ w.cell? ⟨b, off + 1, none⟩ = some (.int .i64 s.r) ∧ w.cell? ⟨b, off + 2, none⟩ = some (.int .i64 s.a)

theorem OprAt.of {w : World} {b off : Nat} {s : Opr} (h : ∀ j, j < 3 → w.cell? ⟨b, off + j, none⟩ = s.vals[j]?) : OprAt w b off s :=
  ⟨h 0 (by omega), h 1 (by omega), h 2 (by omega)⟩
theorem OprAt.at {w : World} {b off : Nat} {s : Opr} (h : OprAt w b off s) : ∀ j, j < 3 → w.cell? ⟨b, off + j, none⟩ = s.vals[j]? := by
  intro j hj
  obtain ⟨h0, h1, h2⟩ := h
  rcases (by omega : j = 0 ∨ j = 1 ∨ j = 2) with rfl | rfl | rfl
  · exact h0
  · exact h1
  · exact h2
theorem OprAt.le {w w' : World} {b off : Nat} {s : Opr} (h : OprAt w b off s) (hl : Le w w') : OprAt w' b off s := by
  obtain ⟨h0, h1, h2⟩ := h
  have hlt : b < w.heap.size := World.block_lt_of_cell? w _ h0
  exact ⟨(hl.cell (p := ⟨b, off, none⟩) hlt).trans h0, (hl.cell (p := ⟨b, off + 1, none⟩) hlt).trans h1, (hl.cell (p := ⟨b, off + 2, none⟩) hlt).trans h2⟩

/-- The slice value v holds the operations ss in the world w. -/
def HasO (w : World) (v : Value) (ss : List Opr) : Prop :=
  ∃ (a : Option Addr) (cap : Nat), v = .slice a ss.length cap ∧ ss.length ≤ cap ∧ (a = none → cap = 0) ∧
    (0 < ss.length → ∃ b off, a = some ⟨b, off, none⟩ ∧ ∀ i, i < ss.length → OprAt w b (off + i * 3) (ss.getD i Opr.zero))

/-- The slice value v is the call's own (its block is 'base' or later) and holds the operations ss. -/
def OwnO (w : World) (base : Nat) (v : Value) (ss : List Opr) : Prop :=
  w.ownsRow base 43 3 v ss.length (flatO ss)

theorem HasO.le {w w' : World} {v : Value} {ss : List Opr} (h : HasO w v ss) (hb : Le w w') : HasO w' v ss := by
  obtain ⟨a, cap, hv, hc, hn, hx⟩ := h
  refine ⟨a, cap, hv, hc, hn, fun hp => ?_⟩
  obtain ⟨b, off, ha, hcell⟩ := hx hp
  exact ⟨b, off, ha, fun i hi => (hcell i hi).le hb⟩

theorem OwnO.le {w w' : World} {base : Nat} {v : Value} {ss : List Opr} (h : OwnO w base v ss) (hb : Le w w') : OwnO w' base v ss := by
  obtain ⟨h1, h2⟩ := h
  refine ⟨h1, ?_⟩
  rcases h2 with h2 | ⟨g, cap, cur, hv, hg, hh, r⟩
  · exact .inl h2
  · exact .inr ⟨g, cap, cur, hv, hg, by rw [hb.block g (block_lt hh)]; exact hh, r⟩

theorem OwnO.base {w : World} {base base' : Nat} {v : Value} {ss : List Opr} (h : OwnO w base v ss) (hb : base' ≤ base) : OwnO w base' v ss := by
  obtain ⟨h1, h2⟩ := h
  refine ⟨h1, ?_⟩
  rcases h2 with h2 | ⟨g, cap, cur, hv, hg, r⟩
  · exact .inl h2
  · exact .inr ⟨g, cap, cur, hv, by omega, r⟩

theorem cell_of_take {w : World} {g n i : Nat} {cur : Array Value} {e : TypeId} {fz : Nat × Nat} {us : List Value} (hh : w.heap[g]? = some (.cells cur e fz)) (ht : cur.toList.take n = us) (hi : i < n) : w.cell? ⟨g, i, none⟩ = us[i]? := by
  rw [cell_of_row w g i cur e fz hh, ← ht, List.getElem?_take_of_lt hi]
  simp

theorem OwnO.has {w : World} {base : Nat} {v : Value} {ss : List Opr} (h : OwnO w base v ss) : HasO w v ss := by
  obtain ⟨h1, h2⟩ := h
  rcases h2 with ⟨h2, h3⟩ | ⟨g, cap, cur, hv, hg, hh, hn, hm, hs, ht⟩
  · have : ss = [] := by cases ss with | nil => rfl | cons _ _ => simp at h3
    subst this
    exact ⟨none, 0, h2, Nat.le_refl _, fun _ => rfl, fun hp => by simp at hp⟩
  · refine ⟨some ⟨g, 0, none⟩, cap, hv, hn, (fun h => by cases h), fun _ => ⟨g, 0, rfl, fun i hi => OprAt.of fun j hj => ?_⟩⟩
    rw [Nat.zero_add, cell_of_take hh ht (by omega), flatO_at ss i j hi hj]

theorem HasO.nil (w : World) : HasO w (.slice none 0 0) [] := ⟨none, 0, rfl, Nat.le_refl _, fun _ => rfl, fun h => by simp at h⟩
theorem OwnO.nil (w : World) (base : Nat) : OwnO w base (.slice none 0 0) [] := World.ownsRow_nil _ _ _ _
theorem OwnO.of {w : World} {base n : Nat} {v : Value} {ss : List Opr} {us : List Value} (h : w.ownsRow base 43 3 v n us) (hn : n = ss.length) (hu : us = flatO ss) : OwnO w base v ss := by
  subst hn hu; exact h

/-- The cells that a source of an append gives. -/
theorem HasO.cells {w : World} {a : Addr} {n cap : Nat} {ss : List Opr} (h : HasO w (.slice (some a) n cap) ss) :
    ∀ j u, (flatO ss)[j]? = some u → w.cell? (a.add j) = some u := by
  obtain ⟨a', cap', hv, hc, hn, hx⟩ := h
  simp only [Value.slice.injEq] at hv
  obtain ⟨rfl, rfl, rfl⟩ := hv
  intro j u hj
  have hlt : j < ss.length * 3 := by
    rcases Nat.lt_or_ge j (ss.length * 3) with h' | h'
    · exact h'
    · rw [List.getElem?_eq_none (by rw [flatO_len]; exact h')] at hj; cases hj
  obtain ⟨b, off, ha, hcell⟩ := hx (by omega)
  simp only [Option.some.injEq] at ha
  subst ha
  have e : j = j / 3 * 3 + j % 3 := by omega
  have h1 := (hcell (j / 3) (by omega)).at (j % 3) (by omega)
  rw [e, flatO_at ss (j / 3) (j % 3) (by omega) (by omega)] at hj
  have h2 : (⟨b, off, none⟩ : Addr).add j = ⟨b, off + j / 3 * 3 + j % 3, none⟩ := by
    simp only [Addr.add]
    split
    · next h => subst h; simp
    · simp
  rw [h2, h1, hj]

theorem infoOp : (Try.prog.info? 43).map (fun i => (i.zero, i.size, i.bytes)) = some (some (.agg #[.int .i64 0, .int .i64 0, .int .i64 0]), 3, 24) := by kernel_rfl

/-- An append of a slice of operations to one of the call's own. -/
theorem wp_append_ops {ops : Array Oper} {rest : List Oper} {o : Oper} {a : Act} {Q : Exit → Act → World → Prop} {w : World} (hgd : o.guard = none) (s x : Operand)
    (ho : o.op = .call { callee := .builtin .append, args := #[s, x], argTypes := #[26, 26] }) (base : Nat) (v u : Value) (xs ys : List Opr)
    (hs : a.eval s = v) (hx : a.eval x = u) (hown : OwnO w base v xs) (hu : HasO w u ys) (hr : (xs.length + ys.length) * 24 ≤ 140737488355328) (hbase : base ≤ w.heap.size)
    (h : ∀ v' w', OwnO w' base v' (xs ++ ys) → w.grownBy w' v.ownBlock → (v'.ownBlock = v.ownBlock ∨ v'.ownBlock = some w.heap.size) → wpList Try.prog ops Q rest (a.put o.dst v') w') : wpList Try.prog ops Q (o :: rest) a w := by
  obtain ⟨i0, hi, hz0, hz1, hz2⟩ := info_parts infoOp
  have hu0 := hu
  obtain ⟨ad, cap, rfl, hc, hn, _⟩ := hu
  cases ad with
  | none =>
    have h0 := hn rfl
    have hnil : ys = [] := by cases ys with | nil => rfl | cons _ _ => simp at hc; omega
    subst hnil h0
    refine wpList_append_own_none hgd s x 26 ho base 43 i0 3 Try.underlying26 hi v _ _ hs hown hx ?_
    exact h _ _ (by simpa using hown) (World.grownBy.refl _ _) (.inl rfl)
  | some ad =>
    refine wpList_append_own_at w hgd s x 26 ho base 43 i0 _ 3 24 Try.underlying26 hi hz0 hz1 hz2 rfl (by decide) v _ _ hs hown ad ys.length cap (flatO ys) hx (flatO_len ys) hu0.cells (fun u hu => by obtain ⟨x, rfl⟩ := flatO_one ys u hu; rfl) (by unfold maxLen; omega) hr hbase ?_
    intro v' w' h1 h2 _ h4
    exact h _ _ (OwnO.of h1 (by simp) (by rw [flatO_append])) h2 h4

theorem HasO.sl {w : World} {v : Value} {ss : List Opr} (h : HasO w v ss) : ∃ q : Sl, v = slV q := by
  obtain ⟨a, cap, hv, _⟩ := h; exact ⟨(a, _, cap), hv⟩
theorem HasO.len {w : World} {q : Sl} {ss : List Opr} (h : HasO w (slV q) ss) : q.2.1 = ss.length := by
  obtain ⟨a, cap, hv, _⟩ := h
  simp only [slV, Value.slice.injEq] at hv
  exact hv.2.1
/-- A row of operations lies elsewhere than a box of another type. -/
theorem OwnO.apart {w : World} {base g : Nat} {v : Value} {ss : List Opr} {cs : Array Value} {t : TypeId} (h : OwnO w base v ss) (hb : Box w g cs t) (ht : t ≠ 43) : v.ownBlock ≠ some g := by
  intro e
  rcases h.2 with ⟨h2, _⟩ | ⟨g', cap, cur, hv, hg, hh, _⟩
  · rw [h2] at e; simp [Value.ownBlock] at e
  · rw [hv] at e
    simp [Value.ownBlock] at e
    subst e
    unfold Box at hb
    rw [hb] at hh
    simp at hh
    exact ht hh.2
theorem OwnO.setBox {w : World} {base g i : Nat} {v u : Value} {ss : List Opr} {cs : Array Value} {t : TypeId} (h : OwnO w base v ss) (hb : Box w g cs t) (ht : t ≠ 43) : OwnO (w.setCell ⟨g, i, none⟩ u) base v ss :=
  ownsRow_setCell_other h (h.apart hb ht) u
theorem OwnO.set {w : World} {base g i : Nat} {v u : Value} {ss : List Opr} (h : OwnO w base v ss) (hne : v.ownBlock ≠ some g) : OwnO (w.setCell ⟨g, i, none⟩ u) base v ss :=
  ownsRow_setCell_other h hne u
theorem OwnO.block {w : World} {base g : Nat} {v : Value} {ss : List Opr} (h : OwnO w base v ss) (e : v.ownBlock = some g) : base ≤ g ∧ g < w.heap.size := by
  rcases h.2 with ⟨h2, _⟩ | ⟨g', cap, cur, hv, hg, hh, _⟩
  · rw [h2] at e; simp [Value.ownBlock] at e
  · rw [hv] at e
    simp [Value.ownBlock] at e
    subst e
    exact ⟨hg, block_lt hh⟩

theorem OwnO.off {w : World} {base g : Nat} {v : Value} {ss : List Opr} (h : OwnO w base v ss) (hg : g < base) : v.ownBlock ≠ some g := fun e => by
  have := (h.block e).1
  omega

/-- A literal of operations. -/
theorem OwnO.lit (w : World) (base : Nat) (hb : base ≤ w.heap.size) (ss : List Opr) (hl : ss.length ≤ 1000) : OwnO (w.alloc (.cells (flatO ss).toArray 43)) base (.slice (some ⟨w.heap.size, 0, none⟩) ss.length ss.length) ss := by
  have := World.ownsRow_lit (e := 43) (size := 3) w (flatO ss).toArray ss.length hb (by unfold maxLen; omega) (by simp [flatO_len])
  exact OwnO.of this rfl (by simp)

/-- A row of the call's own that lies elsewhere than what has grown. -/
theorem OwnO.grown {w w' : World} {base : Nat} {v : Value} {ss : List Opr} {row : Option Nat} (h : OwnO w base v ss) (hg : w.grownBy w' row) (hne : ∀ g, v.ownBlock = some g → row ≠ some g) : OwnO w' base v ss := by
  obtain ⟨h1, h2⟩ := h
  refine ⟨h1, ?_⟩
  rcases h2 with h2 | ⟨g, cap, cur, hv, hb, hh, r⟩
  · exact .inl h2
  · exact .inr ⟨g, cap, cur, hv, hb, by rw [hg.block g (block_lt hh) (fun e => hne g (by rw [hv]; rfl) e.symm)]; exact hh, r⟩

/-- An operation's cells in a row. -/
theorem HasO.at {w : World} {b off n cap : Nat} {ss : List Opr} (h : HasO w (.slice (some ⟨b, off, none⟩) n cap) ss) {i : Nat} (hi : i < ss.length) : OprAt w b (off + i * 3) (ss.getD i Opr.zero) := by
  obtain ⟨a, cap', hv, hc, hn, hx⟩ := h
  obtain ⟨b', off', ha, hcell⟩ := hx (by omega)
  simp only [Value.slice.injEq] at hv
  obtain ⟨h1, _, _⟩ := hv
  rw [ha] at h1
  simp only [Option.some.injEq, Addr.mk.injEq, and_true] at h1
  obtain ⟨rfl, rfl⟩ := h1
  exact hcell i hi
theorem HasO.shape {w : World} {v : Value} {ss : List Opr} (h : HasO w v ss) : ∃ a cap, v = .slice a ss.length cap := by
  obtain ⟨a, cap, hv, _⟩ := h; exact ⟨a, cap, hv⟩

/-- Two rows of operations of the call's own, each in another block. -/
structure TwoO (w wr : World) (y z : Value) (ys zs : List Opr) : Prop where
  oy : OwnO wr w.heap.size y ys
  oz : OwnO wr w.heap.size z zs
  ap : ∀ g, y.ownBlock = some g → z.ownBlock ≠ some g
  le : Le w wr

theorem TwoO.nil (w : World) : TwoO w w (.slice none 0 0) (.slice none 0 0) [] [] := ⟨OwnO.nil _ _, OwnO.nil _ _, (fun g h => by simp [Value.ownBlock] at h), Le.refl _⟩
theorem TwoO.symm {w wr : World} {y z : Value} {ys zs : List Opr} (h : TwoO w wr y z ys zs) : TwoO w wr z y zs ys := ⟨h.oz, h.oy, fun g h1 h2 => h.ap g h2 h1, h.le⟩
theorem TwoO.later {w wr w1 : World} {y z : Value} {ys zs : List Opr} (h : TwoO w wr y z ys zs) (l : Le wr w1) : TwoO w w1 y z ys zs := ⟨h.oy.le l, h.oz.le l, h.ap, h.le.trans l⟩
theorem TwoO.left {w w1 w2 : World} {y y' z : Value} {ys ys' zs : List Opr} (h : TwoO w w1 y z ys zs) (ho : OwnO w2 w.heap.size y' ys') (hg : w1.grownBy w2 y.ownBlock) (hat : y'.ownBlock = y.ownBlock ∨ y'.ownBlock = some w1.heap.size) : TwoO w w2 y' z ys' zs := by
  refine ⟨ho, h.oz.grown hg (fun g h1 h2 => h.ap g h2 h1), fun g h1 h2 => ?_, Below.grown h.le hg h.le.size (fun g hg => (World.ownsRow.lt h.oy g hg).1)⟩
  rcases hat with e | e
  · rw [e] at h1; exact h.ap g h1 h2
  · rw [e] at h1
    have := (World.ownsRow.lt h.oz g h2).2
    simp at h1
    omega

end Go.Proofs.Ytnpejgendmgfaaa
