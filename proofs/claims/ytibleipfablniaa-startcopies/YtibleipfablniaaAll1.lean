/-
  PARTS LAID TOGETHER, each with its own opening: Base, Ground, NumA, OpMay, SlA, Slc, StA, RgA, McA, CfA, OperA, RgB, RgC, RgE, RgF, RefMay, RefSl, RfA, SameA.
-/
import Derived.Test.YtibleipfablniaaRows
import Derived.WalkKit
import Derived.WalkSpells
import Derived.WalkLawsBesides
import Derived.Deep.QuietTactic
import Derived.BigQuiet
import Derived.Laws.AppendOwnNone
import Derived.Lib.SliceRun
import Derived.Maps.AppendAt
import Derived.Deep.Cut
import Derived.Deep.RegionHeld3
/-
  PLAIN GROUND, NO WALK: when a slice value holds a list of numbers in a world ('Has'), when it is the call's own ('Own'), and what a later world keeps of both; the document's cells as functions on lists. No condition.
-/
namespace Go.Proofs.Ytibleipfablniaa
open Go.RowKit

/-- The slice value v holds the numbers xs in the world w. -/
def Has (w : World) (v : Value) (xs : List Int) : Prop :=
  ∃ (a : Option Addr) (cap : Nat), v = .slice a xs.length cap ∧ xs.length ≤ cap ∧ (a = none → cap = 0) ∧
    (0 < xs.length → ∃ b off, a = some ⟨b, off, none⟩ ∧ ∀ i, i < xs.length → w.cell? ⟨b, off + i, none⟩ = some (.int .i64 (xs.getD i 0)))

/-- The slice value v is the call's own (its block is 'base' or later) and holds the numbers xs. -/
def Own (w : World) (base : Nat) (v : Value) (xs : List Int) : Prop :=
  w.ownsRow base 3 1 v xs.length (xs.map (Value.int .i64))

theorem block_lt {w : World} {g : Nat} {o : Obj} (h : w.heap[g]? = some o) : g < w.heap.size := by
  rcases Nat.lt_or_ge g w.heap.size with h' | h'
  · exact h'
  · rw [Array.getElem?_eq_none h'] at h; cases h

theorem Has.later {w w' : World} {v : Value} {xs : List Int} (h : Has w v xs) (hb : Below w.heap.size w w') : Has w' v xs := by
  obtain ⟨a, cap, hv, hc, hn, hx⟩ := h
  refine ⟨a, cap, hv, hc, hn, fun hp => ?_⟩
  obtain ⟨b, off, ha, hcell⟩ := hx hp
  refine ⟨b, off, ha, fun i hi => ?_⟩
  have h1 := hcell i hi
  have hlt : b < w.heap.size := World.block_lt_of_cell? w _ h1
  rw [hb.cell (p := ⟨b, off + i, none⟩) hlt]; exact h1

theorem Own.later {w w' : World} {base : Nat} {v : Value} {xs : List Int} (h : Own w base v xs) (hb : Below w.heap.size w w') : Own w' base v xs := by
  obtain ⟨h1, h2⟩ := h
  refine ⟨h1, ?_⟩
  rcases h2 with h2 | ⟨g, cap, cur, hv, hg, hh, r⟩
  · exact .inl h2
  · exact .inr ⟨g, cap, cur, hv, hg, by rw [hb.block g (block_lt hh)]; exact hh, r⟩

theorem Own.base {w : World} {base base' : Nat} {v : Value} {xs : List Int} (h : Own w base v xs) (hb : base' ≤ base) : Own w base' v xs := by
  obtain ⟨h1, h2⟩ := h
  refine ⟨h1, ?_⟩
  rcases h2 with h2 | ⟨g, cap, cur, hv, hg, r⟩
  · exact .inl h2
  · exact .inr ⟨g, cap, cur, hv, by omega, r⟩

theorem Own.has {w : World} {base : Nat} {v : Value} {xs : List Int} (h : Own w base v xs) : Has w v xs := by
  have h' := h
  obtain ⟨h1, h2⟩ := h
  rcases h2 with ⟨h2, h3⟩ | ⟨g, cap, cur, hv, hg, hh, hn, hm, hs, ht⟩
  · have : xs = [] := by cases xs with | nil => rfl | cons _ _ => simp at h3
    subst this
    exact ⟨none, 0, h2, Nat.le_refl _, fun _ => rfl, fun hp => by simp at hp⟩
  · refine ⟨some ⟨g, 0, none⟩, cap, hv, hn, (fun h => by cases h), fun _ => ⟨g, 0, rfl, fun i hi => ?_⟩⟩
    rw [hv] at h'
    have := World.ownsRow.cellAt h' i (by omega)
    rw [Nat.zero_add, this]
    simp [List.getElem?_map, List.getElem?_eq_getElem hi, List.getD]

theorem Has.nil (w : World) : Has w (.slice none 0 0) [] := ⟨none, 0, rfl, Nat.le_refl _, fun _ => rfl, fun h => by simp at h⟩

theorem Has.shape {w : World} {v : Value} {xs : List Int} (h : Has w v xs) : ∃ a cap, v = .slice a xs.length cap := by
  obtain ⟨a, cap, hv, _⟩ := h; exact ⟨a, cap, hv⟩

/-! The document's cells. -/
def holdB (x : Int) : Bool := decide (0 ≤ x) && decide (x ≤ 1048576)
def mayB (xs : List Int) : Bool := decide (xs.length ≤ 16) && xs.all holdB
def atB (xs : List Int) (at' : Int) : Bool := mayB xs && decide (0 ≤ at') && decide (at' < xs.length)
def loadS (xs : List Int) (p : Int) : Int × Int := if atB xs p then (xs.getD p.toNat 0, 0) else (0, 100)
def storeS (xs : List Int) (p x : Int) : List Int × Int := if atB xs p && holdB x then (xs.set p.toNat x, 0) else ([], 100)
def swapS (xs : List Int) (p old new : Int) : List Int × Bool × Int :=
  if atB xs p && holdB new then (if xs.getD p.toNat 0 = old then (xs.set p.toNat new, true, 0) else (xs, false, 0)) else ([], false, 100)
def addS (xs : List Int) (p d : Int) : List Int × Int × Int :=
  if atB xs p && holdB (xs.getD p.toNat 0 + d) then (xs.set p.toNat (xs.getD p.toNat 0 + d), xs.getD p.toNat 0, 0) else ([], 0, 100)

end Go.Proofs.Ytibleipfablniaa

/-
  PLAIN GROUND, NO WALK: what a later world keeps of an elder one. No condition.
-/
namespace Go.Proofs.Ytibleipfablniaa
open Go.RowKit

theorem ret_bool {a b : Bool} (h : a = b) : Ending.returned (.bool a) = .returned (.bool b) := by rw [h]

/-- The later world w' has all that w had. -/
def Le (w w' : World) : Prop := Below w.heap.size w w'
theorem Le.refl (w : World) : Le w w := Below.refl _ _
theorem Le.trans {a b c : World} (h : Le a b) (k : Le b c) : Le a c := Below.trans h (Below.mono k h.size)
theorem Le.alloc (w : World) (o : Obj) : Le w (w.alloc o) := (Below.refl _ _).alloc (Nat.le_refl _) _
theorem Le.drew (w : World) : Le w w.drew := (Below.refl _ _).drew
theorem Le.drewN (w : World) (n : Nat) : Le w (w.drewN n) := below_drewN (Below.refl _ _) n
theorem Has.le {w w' : World} {v : Value} {xs : List Int} (h : Has w v xs) (hl : Le w w') : Has w' v xs := h.later hl
theorem Own.le {w w' : World} {base : Nat} {v : Value} {xs : List Int} (h : Own w base v xs) (hl : Le w w') : Own w' base v xs := h.later hl

/-- Block g of the world w is a row of the cells cs. -/
def Box (w : World) (g : Nat) (cs : Array Value) (t : TypeId) : Prop := w.heap[g]? = some (.cells cs t (0, 0))

theorem Box.lt {w : World} {g : Nat} {cs : Array Value} {t : TypeId} (h : Box w g cs t) : g < w.heap.size := block_lt h
theorem Box.le {w w' : World} {g : Nat} {cs : Array Value} {t : TypeId} (h : Box w g cs t) (hl : Le w w') : Box w' g cs t := by
  have := hl.block g h.lt
  unfold Box
  rw [this]
  exact h
theorem Box.new (w : World) (cs : Array Value) (t : TypeId) : Box (w.alloc (.cells cs t)) w.heap.size cs t := heap_alloc_new w _
theorem Box.cell {w : World} {g : Nat} {cs : Array Value} {t : TypeId} (h : Box w g cs t) (i : Nat) : w.cell? ⟨g, i, none⟩ = cs[i]? := cell_of_row w g i cs t (0, 0) h
theorem Box.frozen {w : World} {g : Nat} {cs : Array Value} {t : TypeId} (h : Box w g cs t) (i : Nat) : w.frozen? ⟨g, i, none⟩ = false := by
  unfold World.frozen?
  rw [show w.heap[(⟨g, i, none⟩ : Addr).block]? = some (.cells cs t (0, 0)) from h]
  simp
theorem Box.op {w : World} {g : Nat} {x y z : Value} {t : TypeId} (h : Box w g #[x, y, z] t) :
    w.cell? ⟨g, 0, none⟩ = some x ∧ w.cell? ⟨g, 1, none⟩ = some y ∧ w.cell? ⟨g, 2, none⟩ = some z ∧
    w.frozen? ⟨g, 0, none⟩ = false ∧ w.frozen? ⟨g, 1, none⟩ = false ∧ w.frozen? ⟨g, 2, none⟩ = false :=
  ⟨h.cell 0, h.cell 1, h.cell 2, h.frozen 0, h.frozen 1, h.frozen 2⟩

end Go.Proofs.Ytibleipfablniaa

/-
  THE WALK over choruslaw0.Num: a number of an error is that number. No condition.
-/
namespace Go.Proofs.Ytibleipfablniaa
open Go.RowKit

set_option maxHeartbeats 400000 in
theorem lawNum (x : Int) (w : World) : Calls Try.prog 7 #[.int .i64 x] w fun e w' => e = .returned (.int .i64 x) ∧ w = w' := by
  go_enter Try.func7, Try.ntmps7
  go_wp2
  go_ret
  exact ⟨rfl, rfl⟩

end Go.Proofs.Ytibleipfablniaa

/-
  THE WALK over package oper's May: what it answers, for every operation. No condition.
-/
namespace Go.Proofs.Ytibleipfablniaa
open Go.RowKit

/-- An operation's value. -/
abbrev opV (c r a : Int) : Value := .agg #[.int .i64 c, .int .i64 r, .int .i64 a]

/-- May it be? -/
def opMay (c r a : Int) : Bool := decide (0 ≤ r) && decide (r < 4) && decide (0 ≤ a) && decide (a ≤ 255) && (decide (c = 0) || decide (c = 1) || (decide (c = 2) && decide (a = 0)) || (decide (c = 3) && decide (r = 0) && decide (a = 0)))
/-- Does it update? -/
def opUp (c r a : Int) : Bool := opMay c r a && (decide (c = 0) || decide (c = 1))

theorem beq_int (a b : Int) : (a == b) = decide (a = b) := by rw [Bool.eq_iff_iff]; simp

set_option maxHeartbeats 2000000 in
theorem operMay (c r a : Int) (w : World) :
    Calls Try.prog 52 #[opV c r a] w fun e w' => e = .returned (.bool (opMay c r a)) ∧ Le w w' := by
  rcases (by omega : r < 0 ∨ 4 ≤ r ∨ a < 0 ∧ 0 ≤ r ∧ r < 4 ∨ 255 < a ∧ 0 ≤ r ∧ r < 4 ∨ 0 ≤ r ∧ r < 4 ∧ 0 ≤ a ∧ a ≤ 255) with h | h | ⟨h, h', h''⟩ | ⟨h, h', h''⟩ | ⟨h1, h2, h3, h4⟩
  iterate 4
    · go_enter Try.func52, Try.ntmps52
      go_wp2
      go_ret
      exact ⟨ret_bool (by simp [opMay]; omega), Le.alloc _ _⟩
  rcases (by omega : c = 0 ∨ c = 1 ∨ c = 2 ∨ c = 3 ∨ (c ≠ 0 ∧ c ≠ 1 ∧ c ≠ 2 ∧ c ≠ 3)) with h | h | h | h | ⟨h5, h6, h7, h8⟩
  iterate 3
    · subst h
      go_enter Try.func52, Try.ntmps52
      go_wp2
      go_ret
      exact ⟨ret_bool (by simp [opMay, h1, h2, h3, h4, beq_int]), Le.alloc _ _⟩
  · subst h
    by_cases hr : r = 0
    all_goals
      go_enter Try.func52, Try.ntmps52
      go_wp2
      go_ret
      exact ⟨ret_bool (by simp [opMay, h1, h2, h3, h4, hr, beq_int]), Le.alloc _ _⟩
  · go_enter Try.func52, Try.ntmps52
    go_wp2
    go_ret
    exact ⟨ret_bool (by simp [opMay, h5, h6, h7, h8]), Le.alloc _ _⟩

theorem ret_pair {a b : Value} {c d : Value} (h : a = b) (k : c = d) : Ending.returned (.tuple #[a, c]) = .returned (.tuple #[b, d]) := by rw [h, k]

end Go.Proofs.Ytibleipfablniaa

/-
  THE WALKS over package slot (maySlots, mayAt, Bit, Alive): what each answers, for every number and every slot. No condition.
-/
namespace Go.Proofs.Ytibleipfablniaa
open Go.RowKit

/-- May there be so many slots? -/
def slotsB (n : Int) : Bool := decide (n = 2) || decide (n = 4) || decide (n = 8) || decide (n = 16)
theorem slotsB_cases {n : Int} (h : slotsB n = true) : n = 2 ∨ n = 4 ∨ n = 8 ∨ n = 16 := by simp [slotsB] at h; omega
theorem slotsB_no {n : Int} (h : slotsB n = false) : n ≠ 2 ∧ n ≠ 4 ∧ n ≠ 8 ∧ n ≠ 16 := by simp [slotsB] at h; omega
theorem holdB_cases {x : Int} (h : holdB x = true) : 0 ≤ x ∧ x ≤ 1048576 := by simp [holdB] at h; omega
/-- The bit of entry number p of n slots. -/
def bitAt (p n : Int) : Int := 1 - p / n % 2
def bitS (p n : Int) : Int × Int := if slotsB n && holdB p then (bitAt p n, 0) else (0, 900)
def aliveS (b p n : Int) : Bool × Int := if slotsB n && holdB p then (decide (b = bitAt p n), 0) else (false, 900)
theorem bitS_yes {p n : Int} (h : slotsB n = true) (k : holdB p = true) : bitS p n = (bitAt p n, 0) := by simp [bitS, h, k]
theorem bitS_no {p n : Int} (h : slotsB n = false ∨ holdB p = false) : bitS p n = (0, 900) := by rcases h with h | h <;> simp [bitS, h]
theorem aliveS_yes {b p n : Int} (h : slotsB n = true) (k : holdB p = true) : aliveS b p n = (decide (b = bitAt p n), 0) := by simp [aliveS, h, k]
theorem aliveS_no {b p n : Int} (h : slotsB n = false ∨ holdB p = false) : aliveS b p n = (false, 900) := by rcases h with h | h <;> simp [aliveS, h]

/-- A slot's value. -/
abbrev slotV (c r a t b : Int) : Value := .agg #[.int .i64 c, .int .i64 r, .int .i64 a, .int .i64 t, .int .i64 b]

theorem Box.slot {w : World} {g : Nat} {x y z u v : Value} {t : TypeId} (h : Box w g #[x, y, z, u, v] t) :
    w.cell? ⟨g, 0, none⟩ = some x ∧ w.cell? ⟨g, 1, none⟩ = some y ∧ w.cell? ⟨g, 2, none⟩ = some z ∧ w.cell? ⟨g, 3, none⟩ = some u ∧ w.cell? ⟨g, 4, none⟩ = some v :=
  ⟨h.cell 0, h.cell 1, h.cell 2, h.cell 3, h.cell 4⟩

theorem slotMaySlots (n : Int) (w : World) : Calls Try.prog 63 #[.int .i64 n] w fun e w' => e = .returned (.bool (slotsB n)) ∧ w = w' := by
  rcases (by omega : n = 2 ∨ n = 4 ∨ n = 8 ∨ n = 16 ∨ (n ≠ 2 ∧ n ≠ 4 ∧ n ≠ 8 ∧ n ≠ 16)) with rfl | rfl | rfl | rfl | ⟨h1, h2, h3, h4⟩
  iterate 4
    · go_enter Try.func63, Try.ntmps63
      go_wp2
      go_ret
      exact ⟨ret_bool (by decide), rfl⟩
  · go_enter Try.func63, Try.ntmps63
    go_wp2
    go_ret
    exact ⟨ret_bool (by simp [slotsB, h1, h2, h3, h4]), rfl⟩

theorem slotMayAt (x : Int) (w : World) : Calls Try.prog 64 #[.int .i64 x] w fun e w' => e = .returned (.bool (holdB x)) ∧ w = w' := by
  by_cases h : 0 ≤ x
  all_goals
    go_enter Try.func64, Try.ntmps64
    go_wp2
    go_ret
    exact ⟨ret_bool (by simp [holdB]; try omega), rfl⟩

theorem ret_two {a b c d : Int} (h : a = b) (k : c = d) : Ending.returned (.tuple #[.int .i64 a, .int .i64 c]) = .returned (.tuple #[.int .i64 b, .int .i64 d]) := by rw [h, k]

set_option maxHeartbeats 1000000 in
theorem slotBit (p n : Int) (w : World) :
    Calls Try.prog 58 #[.int .i64 p, .int .i64 n] w fun e w' => e = .returned (.tuple #[.int .i64 (bitS p n).1, .int .i64 (bitS p n).2]) ∧ w = w' := by
  have h1 := fun w' => slotMaySlots n w'
  have h2 := fun w' => slotMayAt p w'
  cases hn : slotsB n
  · rw [bitS_no (.inl hn)]
    rw [hn] at h1
    go_enter Try.func58, Try.ntmps58
    go_wp2_with (first | (go_at_call 63; refine (h1 _).mono ?_; rintro e _ ⟨rfl, rfl⟩) | (go_at_call 64; refine (h2 _).mono ?_; rintro e _ ⟨rfl, rfl⟩))
    go_ret2
    exact ⟨rfl, rfl⟩
  cases hp : holdB p
  · rw [bitS_no (.inr hp)]
    rw [hn] at h1
    rw [hp] at h2
    go_enter Try.func58, Try.ntmps58
    go_wp2_with (first | (go_at_call 63; refine (h1 _).mono ?_; rintro e _ ⟨rfl, rfl⟩) | (go_at_call 64; refine (h2 _).mono ?_; rintro e _ ⟨rfl, rfl⟩))
    go_ret2
    exact ⟨rfl, rfl⟩
  rw [bitS_yes hn hp]
  rw [hn] at h1
  rw [hp] at h2
  obtain ⟨p0, p1⟩ := holdB_cases hp
  rcases slotsB_cases hn with rfl | rfl | rfl | rfl
  all_goals
    clear hn hp
    go_enter Try.func58, Try.ntmps58
    go_wp2_with (first | (go_at_call 63; refine (h1 _).mono ?_; rintro e _ ⟨rfl, rfl⟩) | (go_at_call 64; refine (h2 _).mono ?_; rintro e _ ⟨rfl, rfl⟩))
    go_ret2
    refine ⟨ret_two ?_ rfl, rfl⟩
    unfold bitAt
    omega

end Go.Proofs.Ytibleipfablniaa

/-
  PLAIN GROUND: slices of numbers that are handed on, appended to, or written over: what a later world keeps of them. No condition but, at an append, that the bytes are within the reach that every row bears.
-/
namespace Go.Proofs.Ytibleipfablniaa
open Go.RowKit

theorem info3 : (Try.prog.info? 3).map (fun i => (i.zero, i.size, i.bytes)) = some (some (.int .i64 0), 1, 8) := by kernel_rfl

theorem add_plain (b off j : Nat) : (⟨b, off, none⟩ : Addr).add j = ⟨b, off + j, none⟩ := by
  simp only [Addr.add]; split
  · next h => subst h; rfl
  · rfl

theorem ints_at_news {w : World} {xs : List Int} {b off : Nat} (h : ∀ i, i < xs.length → w.cell? ⟨b, off + i, none⟩ = some (.int .i64 (xs.getD i 0))) :
    ∀ j u, (xs.map (Value.int .i64))[j]? = some u → w.cell? ((⟨b, off, none⟩ : Addr).add j) = some u := by
  intro j u hj
  rw [List.getElem?_map] at hj
  have hlt : j < xs.length := by
    rcases Nat.lt_or_ge j xs.length with h' | h'
    · exact h'
    · rw [List.getElem?_eq_none h'] at hj; cases hj
  have h1 := h j hlt
  rw [add_plain, h1]
  rw [List.getElem?_eq_getElem hlt] at hj
  simpa [List.getD, hlt] using hj

/-- The cells that a source of an append gives. -/
theorem Has.cells {w : World} {a : Addr} {n cap : Nat} {xs : List Int} (h : Has w (.slice (some a) n cap) xs) :
    ∀ j u, (xs.map (Value.int .i64))[j]? = some u → w.cell? (a.add j) = some u := by
  obtain ⟨a', cap', hv, hc, hn, hx⟩ := h
  simp only [Value.slice.injEq] at hv
  obtain ⟨rfl, rfl, rfl⟩ := hv
  intro j u hj
  have hlt : j < xs.length := by
    rcases Nat.lt_or_ge j xs.length with h' | h'
    · exact h'
    · rw [List.getElem?_eq_none (by simpa using h')] at hj; cases hj
  obtain ⟨b, off, ha, hcell⟩ := hx (by omega)
  simp only [Option.some.injEq] at ha
  subst ha
  exact ints_at_news hcell j u hj

theorem Own.of {w : World} {base n : Nat} {v : Value} {xs : List Int} {us : List Value} (h : w.ownsRow base 3 1 v n us) (hn : n = xs.length) (hu : us = xs.map (Value.int .i64)) : Own w base v xs := by
  subst hn hu; exact h

theorem Own.nil (w : World) (base : Nat) : Own w base (.slice none 0 0) [] := World.ownsRow_nil _ _ _ _

theorem Own.lit (w : World) (base : Nat) (hb : base ≤ w.heap.size) (xs : List Int) (hl : xs.length ≤ 1000) : Own (w.alloc (.cells (xs.map (Value.int .i64)).toArray 3)) base (.slice (some ⟨w.heap.size, 0, none⟩) xs.length xs.length) xs := by
  have := World.ownsRow_lit (e := 3) (size := 1) w (xs.map (Value.int .i64)).toArray xs.length hb (by unfold maxLen; omega) (by simp)
  exact Own.of this rfl (by simp)

/-- An append of a slice of numbers to one of the call's own. -/
theorem wp_append_ints {ops : Array Oper} {rest : List Oper} {o : Oper} {a : Act} {Q : Exit → Act → World → Prop} {w : World} (hgd : o.guard = none) (s x : Operand)
    (ho : o.op = .call { callee := .builtin .append, args := #[s, x], argTypes := #[40, 40] }) (base : Nat) (v u : Value) (xs ys : List Int)
    (hs : a.eval s = v) (hx : a.eval x = u) (hown : Own w base v xs) (hu : Has w u ys) (hr : (xs.length + ys.length) * 8 ≤ 140737488355328) (hbase : base ≤ w.heap.size)
    (h : ∀ v' w', Own w' base v' (xs ++ ys) → w.grownBy w' v.ownBlock → wpList Try.prog ops Q rest (a.put o.dst v') w') : wpList Try.prog ops Q (o :: rest) a w := by
  obtain ⟨i0, hi, hz0, hz1, hz2⟩ := info_parts info3
  have hu0 := hu
  obtain ⟨ad, cap, rfl, hc, hn, _⟩ := hu
  cases ad with
  | none =>
    have h0 := hn rfl
    have hnil : ys = [] := by cases ys with | nil => rfl | cons _ _ => simp at hc; omega
    subst hnil h0
    refine wpList_append_own_none hgd s x 40 ho base 3 i0 1 Try.underlying40 hi v _ _ hs hown hx ?_
    exact h _ _ (by simpa using hown) (World.grownBy.refl _ _)
  | some ad =>
    refine wpList_append_own w hgd s x 40 ho base 3 i0 (.int .i64 0) 1 8 Try.underlying40 hi hz0 hz1 hz2 rfl (by decide) v _ _ hs hown ad ys.length cap (ys.map (Value.int .i64)) hx (by simp) hu0.cells (ints_oneCell _ _) (by unfold maxLen; omega) hr hbase ?_
    intro v' w' h1 h2 _
    exact h _ _ (Own.of h1 (by simp) (by simp)) h2

theorem row_shape {w : World} {base n : Nat} {v : Value} {us : List Value} (h : w.ownsRow base 3 1 v n us) (hn : 0 < n) : ∃ g cap, v = .slice (some ⟨g, 0, none⟩) n cap ∧ n ≤ cap ∧ base ≤ g ∧ cap ≤ maxLen := by
  rcases h.2 with ⟨_, h0⟩ | ⟨g, cap, cur, hv, hg, _, hn, hm, _⟩
  · omega
  · exact ⟨g, cap, hv, hn, hg, hm⟩

theorem grownBy_trans {a b c : World} {row : Option Nat} (h : a.grownBy b row) (k : b.grownBy c row) : a.grownBy c row :=
  ⟨k.os.trans h.os, k.tape.trans h.tape, k.output.trans h.output, Nat.le_trans h.size k.size, fun i hi hne => (k.block i (Nat.lt_of_lt_of_le hi h.size) hne).trans (h.block i hi hne)⟩

/-- v is a slice of whatever numbers, in blocks from base on, that may be written over. -/
def Ints (w : World) (base : Nat) (v : Value) : Prop :=
  ∃ (a : Option Addr) (n cap : Nat), v = .slice a n cap ∧ n ≤ cap ∧ n ≤ 9223372036854775807 ∧
    (0 < n → ∃ b off, a = some ⟨b, off, none⟩ ∧ base ≤ b ∧ ∀ i, i < n → (∃ x, w.cell? ⟨b, off + i, none⟩ = some (.int .i64 x)) ∧ w.frozen? ⟨b, off + i, none⟩ = false)

theorem Own.ints {w : World} {base : Nat} {v : Value} {xs : List Int} (h : Own w base v xs) : Ints w base v := by
  rcases Nat.eq_zero_or_pos xs.length with h0 | h0
  · obtain ⟨a, cap, hv, hc, _, _⟩ := h.has
    exact ⟨a, xs.length, cap, hv, hc, by omega, fun hp => by omega⟩
  · obtain ⟨g, cap, rfl, hn, hg, hcm⟩ := row_shape h h0
    unfold maxLen at hcm
    refine ⟨_, xs.length, cap, rfl, hn, by omega, fun _ => ⟨g, 0, rfl, hg, fun i hi => ?_⟩⟩
    refine ⟨⟨xs.getD i 0, ?_⟩, ?_⟩
    · rw [Nat.zero_add, World.ownsRow.cellAt (show w.ownsRow base 3 1 _ _ _ from h) i (by omega)]
      simp [List.getElem?_map, List.getElem?_eq_getElem hi, List.getD]
    · rw [Nat.zero_add]; exact World.ownsRow.frozenAt (show w.ownsRow base 3 1 _ _ _ from h) i

/-- What was there below base is as it was; numbers elsewhere may be other numbers, and all else is as it was. -/
structure Spoilt (base : Nat) (w w' : World) : Prop where
  below : Below base w w'
  ints : ∀ p x, w.cell? p = some (.int .i64 x) → ∃ y, w'.cell? p = some (.int .i64 y)
  rest : ∀ p v, w.cell? p = some v → (∀ x, v ≠ .int .i64 x) → w'.cell? p = some v
  thaw : ∀ p, p.block < w.heap.size → w.frozen? p = false → w'.frozen? p = false

theorem Spoilt.refl (base : Nat) (w : World) : Spoilt base w w := ⟨Below.refl _ _, fun _ x h => ⟨x, h⟩, fun _ _ h _ => h, fun _ _ h => h⟩
theorem Spoilt.trans {base : Nat} {a b c : World} (h : Spoilt base a b) (k : Spoilt base b c) : Spoilt base a c :=
  ⟨h.below.trans k.below, fun p x hp => by obtain ⟨y, hy⟩ := h.ints p x hp; exact k.ints p y hy, fun p v hp hv => k.rest p v (h.rest p v hp hv) hv, fun p hp hf => k.thaw p (Nat.lt_of_lt_of_le hp h.below.size) (h.thaw p hp hf)⟩

theorem Spoilt.le {base : Nat} {w w' : World} (hb : base ≤ w.heap.size) (h : Le w w') : Spoilt base w w' :=
  ⟨Below.mono h hb, fun p x hp => ⟨x, by rw [h.cell (World.block_lt_of_cell? w _ hp)]; exact hp⟩, fun p v hp _ => by rw [h.cell (World.block_lt_of_cell? w _ hp)]; exact hp,
    fun p hp hf => by rw [h.frozen hp]; exact hf⟩

theorem Spoilt.store {base : Nat} {w : World} {p : Addr} {x y : Int} (hp : w.cell? p = some (.int .i64 x)) (hb : base ≤ p.block) : Spoilt base w (w.setCell p (.int .i64 y)) := by
  refine ⟨(Below.refl _ _).setCell hb _, fun q z hq => ?_, fun q v hq hv => ?_, fun q _ hf => by simpa using hf⟩
  · by_cases e : p = q
    · subst e; exact ⟨y, World.cell?_setCell_same _ _ _ hp⟩
    · exact ⟨z, (World.cell?_setCell_other _ _ _ _ e).trans hq⟩
  · have e : p ≠ q := fun e => by subst e; rw [hp] at hq; exact hv x (Option.some.inj hq).symm
    exact (World.cell?_setCell_other _ _ _ _ e).trans hq

theorem Ints.spoilt {w w' : World} {base base' : Nat} {v : Value} (h : Ints w base v) (k : Spoilt base' w w') : Ints w' base v := by
  obtain ⟨a, n, cap, hv, hn, hm, hx⟩ := h
  refine ⟨a, n, cap, hv, hn, hm, fun hp => ?_⟩
  obtain ⟨b, off, ha, hb, hc⟩ := hx hp
  refine ⟨b, off, ha, hb, fun i hi => ?_⟩
  obtain ⟨⟨x, h1⟩, h2⟩ := hc i hi
  exact ⟨k.ints _ _ h1, k.thaw _ (World.block_lt_of_cell? w _ h1) h2⟩

end Go.Proofs.Ytibleipfablniaa

/-
  PLAIN GROUND, NO WALK: a state of four rows of numbers, when a value holds it in a world, and what a later world keeps of it. No condition.
-/
namespace Go.Proofs.Ytibleipfablniaa
open Go.RowKit

/-- A state: four rows of numbers. -/
structure St where
  r0 : List Int
  r1 : List Int
  r2 : List Int
  r3 : List Int
deriving DecidableEq

/-- Row i. -/
def St.at (s : St) : Nat → List Int
  | 0 => s.r0
  | 1 => s.r1
  | 2 => s.r2
  | _ => s.r3

/-- Another row i. -/
def St.put (s : St) (i : Nat) (x : List Int) : St :=
  match i with
  | 0 => { s with r0 := x }
  | 1 => { s with r1 := x }
  | 2 => { s with r2 := x }
  | _ => { s with r3 := x }

def St.zero : St := ⟨[], [], [], []⟩

theorem St.ext_at {s t : St} (h : ∀ i, i < 4 → s.at i = t.at i) : s = t := by
  obtain ⟨a, b, c, d⟩ := s
  obtain ⟨a', b', c', d'⟩ := t
  have h0 := h 0 (by omega)
  have h1 := h 1 (by omega)
  have h2 := h 2 (by omega)
  have h3 := h 3 (by omega)
  simp only [St.at] at h0 h1 h2 h3
  subst h0 h1 h2 h3
  rfl

theorem four {i : Nat} (h : i < 4) : i = 0 ∨ i = 1 ∨ i = 2 ∨ i = 3 := by omega

theorem St.at_put {s : St} {i j : Nat} {x : List Int} (hi : i < 4) (hj : j < 4) : (s.put i x).at j = if j = i then x else s.at j := by
  rcases four hi with rfl | rfl | rfl | rfl <;> rcases four hj with rfl | rfl | rfl | rfl <;> simp [St.put, St.at]

theorem St.at_zero (i : Nat) : St.zero.at i = [] := by
  unfold St.at St.zero; split <;> rfl

/-- A slice's parts: where it lies, its length, its room. -/
abbrev Sl := Option Addr × Nat × Nat
/-- .. as a value. -/
abbrev slV (q : Sl) : Value := .slice q.1 q.2.1 q.2.2
/-- No slice. -/
abbrev slZ : Sl := (none, 0, 0)

theorem Has.sl {w : World} {v : Value} {xs : List Int} (h : Has w v xs) : ∃ q : Sl, v = slV q := by
  obtain ⟨a, cap, hv, _⟩ := h; exact ⟨(a, _, cap), hv⟩

/-- Four cells. -/
abbrev cells4 (vs : Nat → Sl) : Array Value := #[slV (vs 0), slV (vs 1), slV (vs 2), slV (vs 3)]

theorem cells4_at (vs : Nat → Sl) {i : Nat} (h : i < 4) : (cells4 vs)[i]? = some (slV (vs i)) := by
  rcases four h with rfl | rfl | rfl | rfl <;> rfl

/-- Another one of four. -/
def upd (vs : Nat → Sl) (i : Nat) (v : Sl) : Nat → Sl := fun j => if j = i then v else vs j

theorem cells4_upd (vs : Nat → Sl) {i : Nat} (h : i < 4) (v : Sl) : (cells4 vs).set! i (slV v) = cells4 (upd vs i v) := by
  rcases four h with rfl | rfl | rfl | rfl <;> simp [upd, cells4]

abbrev stV (vs : Nat → Sl) : Value := .agg (cells4 vs)

/-- The value v holds the state s in the world w. -/
def HasS (w : World) (v : Value) (s : St) : Prop := ∃ vs, v = stV vs ∧ ∀ i, i < 4 → Has w (slV (vs i)) (s.at i)
/-- .. in the call's own memory. -/
def OwnS (w : World) (base : Nat) (v : Value) (s : St) : Prop := ∃ vs, v = stV vs ∧ ∀ i, i < 4 → Own w base (slV (vs i)) (s.at i)
/-- Rows of whatever numbers, that may be written over. -/
def IntsS (w : World) (base : Nat) (v : Value) : Prop := ∃ vs, v = stV vs ∧ ∀ i, i < 4 → Ints w base (slV (vs i))
/-- Its rows can be copied. -/
def Fit (s : St) : Prop := ∀ i, i < 4 → (s.at i).length * 8 ≤ 140737488351232

theorem HasS.le {w w' : World} {v : Value} {s : St} (h : HasS w v s) (hl : Le w w') : HasS w' v s := by
  obtain ⟨vs, hv, hr⟩ := h; exact ⟨vs, hv, fun i hi => (hr i hi).le hl⟩
theorem OwnS.le {w w' : World} {base : Nat} {v : Value} {s : St} (h : OwnS w base v s) (hl : Le w w') : OwnS w' base v s := by
  obtain ⟨vs, hv, hr⟩ := h; exact ⟨vs, hv, fun i hi => (hr i hi).le hl⟩
theorem OwnS.base {w : World} {base base' : Nat} {v : Value} {s : St} (h : OwnS w base v s) (hb : base' ≤ base) : OwnS w base' v s := by
  obtain ⟨vs, hv, hr⟩ := h; exact ⟨vs, hv, fun i hi => (hr i hi).base hb⟩
theorem OwnS.has {w : World} {base : Nat} {v : Value} {s : St} (h : OwnS w base v s) : HasS w v s := by
  obtain ⟨vs, hv, hr⟩ := h; exact ⟨vs, hv, fun i hi => (hr i hi).has⟩
theorem OwnS.ints {w : World} {base : Nat} {v : Value} {s : St} (h : OwnS w base v s) : IntsS w base v := by
  obtain ⟨vs, hv, hr⟩ := h; exact ⟨vs, hv, fun i hi => (hr i hi).ints⟩
theorem IntsS.spoilt {w w' : World} {base base' : Nat} {v : Value} (h : IntsS w base v) (k : Spoilt base' w w') : IntsS w' base v := by
  obtain ⟨vs, hv, hr⟩ := h; exact ⟨vs, hv, fun i hi => (hr i hi).spoilt k⟩

/-- The value of a state without a number. -/
abbrev stZ : Value := .agg #[.slice none 0 0, .slice none 0 0, .slice none 0 0, .slice none 0 0]
theorem OwnS.zero (w : World) (base : Nat) : OwnS w base stZ St.zero := ⟨fun _ => slZ, rfl, fun i _ => by rw [St.at_zero]; exact Own.nil _ _⟩
theorem HasS.zero (w : World) : HasS w stZ St.zero := (OwnS.zero w 0).has
theorem fit_zero : Fit St.zero := fun i _ => by rw [St.at_zero]; decide

/-- A box after a store into one of its cells. -/
theorem Box.set {w : World} {g : Nat} {cs : Array Value} {t : TypeId} (h : Box w g cs t) (i : Nat) (v : Value) : Box (w.setCell ⟨g, i, none⟩ v) g (cs.set! i v) t := by
  unfold Box at h ⊢
  simp only [World.setCell, Array.getElem?_modify, h]
  simp
theorem Box.other {w : World} {g g' : Nat} {cs : Array Value} {t : TypeId} (h : Box w g cs t) (hne : g ≠ g') (i : Nat) (v : Value) : Box (w.setCell ⟨g', i, none⟩ v) g cs t := by
  unfold Box at h ⊢
  rw [Below.heap_setCell _ _ _ _ hne]
  exact h
/-- A box is no row of numbers. -/
theorem Own.apart {w : World} {base g : Nat} {v : Value} {xs : List Int} {cs : Array Value} {t : TypeId} (h : Own w base v xs) (hb : Box w g cs t) (ht : t ≠ 3) : v.ownBlock ≠ some g := by
  intro e
  rcases h.2 with ⟨h2, _⟩ | ⟨g', cap, cur, hv, hg, hh, _⟩
  · rw [h2] at e; simp [Value.ownBlock] at e
  · rw [hv] at e
    simp [Value.ownBlock] at e
    subst e
    unfold Box at hb
    rw [hb] at hh
    simp at hh
    exact ht hh.2
theorem Own.setBox {w : World} {base g i : Nat} {v u : Value} {xs : List Int} {cs : Array Value} {t : TypeId} (h : Own w base v xs) (hb : Box w g cs t) (ht : t ≠ 3) : Own (w.setCell ⟨g, i, none⟩ u) base v xs :=
  ownsRow_setCell_other h (h.apart hb ht) u
theorem Box.grown {w w' : World} {g : Nat} {cs : Array Value} {t : TypeId} {row : Option Nat} (h : Box w g cs t) (hg : w.grownBy w' row) (hne : row ≠ some g) : Box w' g cs t := by
  unfold Box at h ⊢
  rw [hg.block g (block_lt h) (fun e => hne e.symm)]
  exact h

theorem Own.block {w : World} {base g : Nat} {v : Value} {xs : List Int} (h : Own w base v xs) (e : v.ownBlock = some g) : base ≤ g ∧ g < w.heap.size := by
  rcases h.2 with ⟨h2, _⟩ | ⟨g', cap, cur, hv, hg, hh, _⟩
  · rw [h2] at e; simp [Value.ownBlock] at e
  · rw [hv] at e
    simp [Value.ownBlock] at e
    subst e
    exact ⟨hg, block_lt hh⟩

/-- A row of the call's own that lies elsewhere than what has grown. -/
theorem Own.grown {w w' : World} {base : Nat} {v : Value} {xs : List Int} {row : Option Nat} (h : Own w base v xs) (hg : w.grownBy w' row) (hne : ∀ g, v.ownBlock = some g → row ≠ some g) : Own w' base v xs := by
  obtain ⟨h1, h2⟩ := h
  refine ⟨h1, ?_⟩
  rcases h2 with h2 | ⟨g, cap, cur, hv, hb, hh, r⟩
  · exact .inl h2
  · exact .inr ⟨g, cap, cur, hv, hb, by rw [hg.block g (block_lt hh) (fun e => hne g (by rw [hv]; rfl) e.symm)]; exact hh, r⟩

/-- The rows below k lie in blocks of their own, each in another. -/
def Apart (vs : Nat → Sl) (k : Nat) : Prop := ∀ i j, i < k → j < k → i ≠ j → ∀ g, (slV (vs i)).ownBlock = some g → (slV (vs j)).ownBlock ≠ some g

theorem Apart.next {vs : Nat → Sl} {k m : Nat} {q : Sl} (h : Apart vs k) (hlt : ∀ j, j < k → ∀ g, (slV (vs j)).ownBlock = some g → g < m) (hge : ∀ g, (slV q).ownBlock = some g → m ≤ g) : Apart (upd vs k q) (k + 1) := by
  intro i j hi hj hne g e1 e2
  by_cases ei : i = k
  · have ej : j ≠ k := by omega
    rw [show upd vs k q i = q by simp [upd, ei]] at e1
    rw [show upd vs k q j = vs j by simp [upd, ej]] at e2
    have := hge g e1
    have := hlt j (by omega) g e2
    omega
  · rw [show upd vs k q i = vs i by simp [upd, ei]] at e1
    by_cases ej : j = k
    · rw [show upd vs k q j = q by simp [upd, ej]] at e2
      have := hge g e2
      have := hlt i (by omega) g e1
      omega
    · rw [show upd vs k q j = vs j by simp [upd, ej]] at e2
      exact h i j (by omega) (by omega) hne g e1 e2

end Go.Proofs.Ytibleipfablniaa

/-
  PLAIN GROUND, NO WALK: a slot of five numbers, when a slice value holds a list of slots in a world, when it is the call's own, and what a later world keeps of both. Condition: at an append, that the bytes are within the reach that every row bears.
-/
namespace Go.Proofs.Ytibleipfablniaa
open Go.RowKit

/-- A slot: an operation's three numbers, a thread's, a bit. -/
structure Slt where
  c : Int
  r : Int
  a : Int
  t : Int
  b : Int
deriving DecidableEq

abbrev Slt.v (s : Slt) : Value := slotV s.c s.r s.a s.t s.b
def Slt.zero : Slt := ⟨0, 0, 0, 0, 0⟩
def Slt.vals (s : Slt) : List Value := [.int .i64 s.c, .int .i64 s.r, .int .i64 s.a, .int .i64 s.t, .int .i64 s.b]
theorem Slt.len (s : Slt) : s.vals.length = 5 := rfl
/-- The cells of a row of slots. -/
def flatV : List Slt → List Value
  | [] => []
  | s :: ss => s.vals ++ flatV ss
theorem flatV_len : ∀ ss : List Slt, (flatV ss).length = ss.length * 5
  | [] => rfl
  | s :: ss => by simp [flatV, flatV_len ss, Slt.vals]; omega
theorem flatV_append : ∀ ss ts : List Slt, flatV (ss ++ ts) = flatV ss ++ flatV ts
  | [], _ => rfl
  | s :: ss, ts => by simp [flatV, flatV_append ss ts]
theorem flatV_at : ∀ (ss : List Slt) (i j : Nat), i < ss.length → j < 5 → (flatV ss)[i * 5 + j]? = (ss.getD i Slt.zero).vals[j]?
  | [], i, j, h, _ => by simp at h
  | s :: ss, 0, j, _, hj => by
    simp [flatV]
    rw [List.getElem?_append_left (by simp [Slt.vals]; omega)]
  | s :: ss, i + 1, j, h, hj => by
    have e : (i + 1) * 5 + j = s.vals.length + (i * 5 + j) := by simp [Slt.vals]; omega
    rw [flatV, e, List.getElem?_append_right (by omega)]
    simp
    rw [flatV_at ss i j (by simpa using h) hj]
    simp
theorem flatV_one : ∀ (ss : List Slt), ∀ u ∈ flatV ss, ∃ x, u = Value.int .i64 x
  | [], u, h => by simp [flatV] at h
  | s :: ss, u, h => by
    simp only [flatV, List.mem_append] at h
    rcases h with h | h
    · simp [Slt.vals] at h
      rcases h with h | h | h | h | h <;> exact ⟨_, h⟩
    · exact flatV_one ss u h

/-- A slot's five cells lie at off. -/
def SlotAt (w : World) (b off : Nat) (s : Slt) : Prop :=
  w.cell? ⟨b, off, none⟩ = some (.int .i64 s.c) ∧ w.cell? ⟨b, off + 1, none⟩ = some (.int .i64 s.r) ∧ w.cell? ⟨b, off + 2, none⟩ = some (.int .i64 s.a) ∧ w.cell? ⟨b, off + 3, none⟩ = some (.int .i64 s.t) ∧ w.cell? ⟨b, off + 4, none⟩ = some (.int .i64 s.b)

theorem SlotAt.of {w : World} {b off : Nat} {s : Slt} (h : ∀ j, j < 5 → w.cell? ⟨b, off + j, none⟩ = s.vals[j]?) : SlotAt w b off s :=
  ⟨h 0 (by omega), h 1 (by omega), h 2 (by omega), h 3 (by omega), h 4 (by omega)⟩
theorem SlotAt.at {w : World} {b off : Nat} {s : Slt} (h : SlotAt w b off s) : ∀ j, j < 5 → w.cell? ⟨b, off + j, none⟩ = s.vals[j]? := by
  intro j hj
  obtain ⟨h0, h1, h2, h3, h4⟩ := h
  rcases (by omega : j = 0 ∨ j = 1 ∨ j = 2 ∨ j = 3 ∨ j = 4) with rfl | rfl | rfl | rfl | rfl
  · exact h0
  · exact h1
  · exact h2
  · exact h3
  · exact h4
theorem SlotAt.le {w w' : World} {b off : Nat} {s : Slt} (h : SlotAt w b off s) (hl : Le w w') : SlotAt w' b off s := by
  obtain ⟨h0, h1, h2, h3, h4⟩ := h
  have hlt : b < w.heap.size := World.block_lt_of_cell? w _ h0
  exact ⟨(hl.cell (p := ⟨b, off, none⟩) hlt).trans h0, (hl.cell (p := ⟨b, off + 1, none⟩) hlt).trans h1, (hl.cell (p := ⟨b, off + 2, none⟩) hlt).trans h2, (hl.cell (p := ⟨b, off + 3, none⟩) hlt).trans h3, (hl.cell (p := ⟨b, off + 4, none⟩) hlt).trans h4⟩

/-- The slice value v holds the slots ss in the world w. -/
def HasL (w : World) (v : Value) (ss : List Slt) : Prop :=
  ∃ (a : Option Addr) (cap : Nat), v = .slice a ss.length cap ∧ ss.length ≤ cap ∧ (a = none → cap = 0) ∧
    (0 < ss.length → ∃ b off, a = some ⟨b, off, none⟩ ∧ ∀ i, i < ss.length → SlotAt w b (off + i * 5) (ss.getD i Slt.zero))

/-- The slice value v is the call's own (its block is 'base' or later) and holds the slots ss. -/
def OwnL (w : World) (base : Nat) (v : Value) (ss : List Slt) : Prop :=
  w.ownsRow base 85 5 v ss.length (flatV ss)

theorem HasL.le {w w' : World} {v : Value} {ss : List Slt} (h : HasL w v ss) (hb : Le w w') : HasL w' v ss := by
  obtain ⟨a, cap, hv, hc, hn, hx⟩ := h
  refine ⟨a, cap, hv, hc, hn, fun hp => ?_⟩
  obtain ⟨b, off, ha, hcell⟩ := hx hp
  exact ⟨b, off, ha, fun i hi => (hcell i hi).le hb⟩

theorem OwnL.le {w w' : World} {base : Nat} {v : Value} {ss : List Slt} (h : OwnL w base v ss) (hb : Le w w') : OwnL w' base v ss := by
  obtain ⟨h1, h2⟩ := h
  refine ⟨h1, ?_⟩
  rcases h2 with h2 | ⟨g, cap, cur, hv, hg, hh, r⟩
  · exact .inl h2
  · exact .inr ⟨g, cap, cur, hv, hg, by rw [hb.block g (block_lt hh)]; exact hh, r⟩

theorem OwnL.base {w : World} {base base' : Nat} {v : Value} {ss : List Slt} (h : OwnL w base v ss) (hb : base' ≤ base) : OwnL w base' v ss := by
  obtain ⟨h1, h2⟩ := h
  refine ⟨h1, ?_⟩
  rcases h2 with h2 | ⟨g, cap, cur, hv, hg, r⟩
  · exact .inl h2
  · exact .inr ⟨g, cap, cur, hv, by omega, r⟩

theorem cell_of_take {w : World} {g n i : Nat} {cur : Array Value} {e : TypeId} {fz : Nat × Nat} {us : List Value} (hh : w.heap[g]? = some (.cells cur e fz)) (ht : cur.toList.take n = us) (hi : i < n) : w.cell? ⟨g, i, none⟩ = us[i]? := by
  rw [cell_of_row w g i cur e fz hh, ← ht, List.getElem?_take_of_lt hi]
  simp

theorem OwnL.has {w : World} {base : Nat} {v : Value} {ss : List Slt} (h : OwnL w base v ss) : HasL w v ss := by
  obtain ⟨h1, h2⟩ := h
  rcases h2 with ⟨h2, h3⟩ | ⟨g, cap, cur, hv, hg, hh, hn, hm, hs, ht⟩
  · have : ss = [] := by cases ss with | nil => rfl | cons _ _ => simp at h3
    subst this
    exact ⟨none, 0, h2, Nat.le_refl _, fun _ => rfl, fun hp => by simp at hp⟩
  · refine ⟨some ⟨g, 0, none⟩, cap, hv, hn, (fun h => by cases h), fun _ => ⟨g, 0, rfl, fun i hi => SlotAt.of fun j hj => ?_⟩⟩
    rw [Nat.zero_add, cell_of_take hh ht (by omega), flatV_at ss i j hi hj]

theorem HasL.nil (w : World) : HasL w (.slice none 0 0) [] := ⟨none, 0, rfl, Nat.le_refl _, fun _ => rfl, fun h => by simp at h⟩
theorem OwnL.nil (w : World) (base : Nat) : OwnL w base (.slice none 0 0) [] := World.ownsRow_nil _ _ _ _
theorem OwnL.of {w : World} {base n : Nat} {v : Value} {ss : List Slt} {us : List Value} (h : w.ownsRow base 85 5 v n us) (hn : n = ss.length) (hu : us = flatV ss) : OwnL w base v ss := by
  subst hn hu; exact h

/-- The cells that a source of an append gives. -/
theorem HasL.cells {w : World} {a : Addr} {n cap : Nat} {ss : List Slt} (h : HasL w (.slice (some a) n cap) ss) :
    ∀ j u, (flatV ss)[j]? = some u → w.cell? (a.add j) = some u := by
  obtain ⟨a', cap', hv, hc, hn, hx⟩ := h
  simp only [Value.slice.injEq] at hv
  obtain ⟨rfl, rfl, rfl⟩ := hv
  intro j u hj
  have hlt : j < ss.length * 5 := by
    rcases Nat.lt_or_ge j (ss.length * 5) with h' | h'
    · exact h'
    · rw [List.getElem?_eq_none (by rw [flatV_len]; exact h')] at hj; cases hj
  obtain ⟨b, off, ha, hcell⟩ := hx (by omega)
  simp only [Option.some.injEq] at ha
  subst ha
  have e : j = j / 5 * 5 + j % 5 := by omega
  have h1 := (hcell (j / 5) (by omega)).at (j % 5) (by omega)
  rw [e, flatV_at ss (j / 5) (j % 5) (by omega) (by omega)] at hj
  have h2 : (⟨b, off, none⟩ : Addr).add j = ⟨b, off + j / 5 * 5 + j % 5, none⟩ := by
    simp only [Addr.add]
    split
    · next h => subst h; simp
    · simp
  rw [h2, h1, hj]

theorem infoSlot : (Try.prog.info? 85).map (fun i => (i.zero, i.size, i.bytes)) = some (some (.agg #[.int .i64 0, .int .i64 0, .int .i64 0, .int .i64 0, .int .i64 0]), 5, 40) := by kernel_rfl

/-- An append of a slice of slots to one of the call's own. -/
theorem wp_append_slots {ops : Array Oper} {rest : List Oper} {o : Oper} {a : Act} {Q : Exit → Act → World → Prop} {w : World} (hgd : o.guard = none) (s x : Operand)
    (ho : o.op = .call { callee := .builtin .append, args := #[s, x], argTypes := #[37, 37] }) (base : Nat) (v u : Value) (xs ys : List Slt)
    (hs : a.eval s = v) (hx : a.eval x = u) (hown : OwnL w base v xs) (hu : HasL w u ys) (hr : (xs.length + ys.length) * 40 ≤ 140737488355328) (hbase : base ≤ w.heap.size)
    (h : ∀ v' w', OwnL w' base v' (xs ++ ys) → w.grownBy w' v.ownBlock → wpList Try.prog ops Q rest (a.put o.dst v') w') : wpList Try.prog ops Q (o :: rest) a w := by
  obtain ⟨i0, hi, hz0, hz1, hz2⟩ := info_parts infoSlot
  have hu0 := hu
  obtain ⟨ad, cap, rfl, hc, hn, _⟩ := hu
  cases ad with
  | none =>
    have h0 := hn rfl
    have hnil : ys = [] := by cases ys with | nil => rfl | cons _ _ => simp at hc; omega
    subst hnil h0
    refine wpList_append_own_none hgd s x 37 ho base 85 i0 5 Try.underlying37 hi v _ _ hs hown hx ?_
    exact h _ _ (by simpa using hown) (World.grownBy.refl _ _)
  | some ad =>
    refine wpList_append_own w hgd s x 37 ho base 85 i0 _ 5 40 Try.underlying37 hi hz0 hz1 hz2 rfl (by decide) v _ _ hs hown ad ys.length cap (flatV ys) hx (flatV_len ys) hu0.cells (fun u hu => by obtain ⟨x, rfl⟩ := flatV_one ys u hu; rfl) (by unfold maxLen; omega) hr hbase ?_
    intro v' w' h1 h2 _
    exact h _ _ (OwnL.of h1 (by simp) (by rw [flatV_append])) h2

/-- A ring: where it begins, where it ends, its fence, its slots. -/
structure Rg where
  h : Int
  t : Int
  f : Int
  ss : List Slt
deriving DecidableEq

def Rg.zero : Rg := ⟨0, 0, 0, []⟩
/-- The four cells of a ring in a variable. -/
abbrev cellsR (h t f : Int) (q : Sl) : Array Value := #[.int .i64 h, .int .i64 t, .int .i64 f, slV q]
abbrev ringV (h t f : Int) (q : Sl) : Value := .agg (cellsR h t f q)
/-- The value v holds the ring R in the world w. -/
def HasR (w : World) (v : Value) (R : Rg) : Prop := ∃ q, v = ringV R.h R.t R.f q ∧ HasL w (slV q) R.ss
/-- .. in the call's own memory. -/
def OwnR (w : World) (base : Nat) (v : Value) (R : Rg) : Prop := ∃ q, v = ringV R.h R.t R.f q ∧ OwnL w base (slV q) R.ss
/-- Its slots can be copied. -/
def FitR (R : Rg) : Prop := R.ss.length * 40 ≤ 140737488351232

theorem HasR.le {w w' : World} {v : Value} {R : Rg} (h : HasR w v R) (hl : Le w w') : HasR w' v R := by
  obtain ⟨q, hv, hr⟩ := h; exact ⟨q, hv, hr.le hl⟩
theorem OwnR.le {w w' : World} {base : Nat} {v : Value} {R : Rg} (h : OwnR w base v R) (hl : Le w w') : OwnR w' base v R := by
  obtain ⟨q, hv, hr⟩ := h; exact ⟨q, hv, hr.le hl⟩
theorem OwnR.base {w : World} {base base' : Nat} {v : Value} {R : Rg} (h : OwnR w base v R) (hb : base' ≤ base) : OwnR w base' v R := by
  obtain ⟨q, hv, hr⟩ := h; exact ⟨q, hv, hr.base hb⟩
theorem OwnR.has {w : World} {base : Nat} {v : Value} {R : Rg} (h : OwnR w base v R) : HasR w v R := by
  obtain ⟨q, hv, hr⟩ := h; exact ⟨q, hv, hr.has⟩
/-- The value of no ring. -/
abbrev ringZ : Value := .agg #[.int .i64 0, .int .i64 0, .int .i64 0, .slice none 0 0]
theorem OwnR.zero (w : World) (base : Nat) : OwnR w base ringZ Rg.zero := ⟨slZ, rfl, OwnL.nil _ _⟩
theorem HasR.zero (w : World) : HasR w ringZ Rg.zero := (OwnR.zero w 0).has
theorem fitR_zero : FitR Rg.zero := by simp [FitR, Rg.zero]

theorem HasL.sl {w : World} {v : Value} {ss : List Slt} (h : HasL w v ss) : ∃ q : Sl, v = slV q := by
  obtain ⟨a, cap, hv, _⟩ := h; exact ⟨(a, _, cap), hv⟩
theorem HasL.len {w : World} {q : Sl} {ss : List Slt} (h : HasL w (slV q) ss) : q.2.1 = ss.length := by
  obtain ⟨a, cap, hv, _⟩ := h
  simp only [slV, Value.slice.injEq] at hv
  exact hv.2.1
theorem Box.ring {w : World} {g : Nat} {x y z u : Value} {t : TypeId} (h : Box w g #[x, y, z, u] t) :
    w.cell? ⟨g, 0, none⟩ = some x ∧ w.cell? ⟨g, 1, none⟩ = some y ∧ w.cell? ⟨g, 2, none⟩ = some z ∧ w.cell? ⟨g, 3, none⟩ = some u ∧
    w.frozen? ⟨g, 0, none⟩ = false ∧ w.frozen? ⟨g, 1, none⟩ = false ∧ w.frozen? ⟨g, 2, none⟩ = false ∧ w.frozen? ⟨g, 3, none⟩ = false :=
  ⟨h.cell 0, h.cell 1, h.cell 2, h.cell 3, h.frozen 0, h.frozen 1, h.frozen 2, h.frozen 3⟩

/-- A row of slots lies elsewhere than a box of another type. -/
theorem OwnL.apart {w : World} {base g : Nat} {v : Value} {ss : List Slt} {cs : Array Value} {t : TypeId} (h : OwnL w base v ss) (hb : Box w g cs t) (ht : t ≠ 85) : v.ownBlock ≠ some g := by
  intro e
  rcases h.2 with ⟨h2, _⟩ | ⟨g', cap, cur, hv, hg, hh, _⟩
  · rw [h2] at e; simp [Value.ownBlock] at e
  · rw [hv] at e
    simp [Value.ownBlock] at e
    subst e
    unfold Box at hb
    rw [hb] at hh
    simp at hh
    exact ht hh.2
theorem OwnL.setBox {w : World} {base g i : Nat} {v u : Value} {ss : List Slt} {cs : Array Value} {t : TypeId} (h : OwnL w base v ss) (hb : Box w g cs t) (ht : t ≠ 85) : OwnL (w.setCell ⟨g, i, none⟩ u) base v ss :=
  ownsRow_setCell_other h (h.apart hb ht) u
theorem OwnL.set {w : World} {base g i : Nat} {v u : Value} {ss : List Slt} (h : OwnL w base v ss) (hne : v.ownBlock ≠ some g) : OwnL (w.setCell ⟨g, i, none⟩ u) base v ss :=
  ownsRow_setCell_other h hne u
theorem Le.set {w w' : World} {g i : Nat} {u : Value} (h : Le w w') (hg : w.heap.size ≤ g) : Le w (w'.setCell ⟨g, i, none⟩ u) := Below.setCell h hg u
theorem OwnL.block {w : World} {base g : Nat} {v : Value} {ss : List Slt} (h : OwnL w base v ss) (e : v.ownBlock = some g) : base ≤ g ∧ g < w.heap.size := by
  rcases h.2 with ⟨h2, _⟩ | ⟨g', cap, cur, hv, hg, hh, _⟩
  · rw [h2] at e; simp [Value.ownBlock] at e
  · rw [hv] at e
    simp [Value.ownBlock] at e
    subst e
    exact ⟨hg, block_lt hh⟩

theorem OwnL.off {w : World} {base g : Nat} {v : Value} {ss : List Slt} (h : OwnL w base v ss) (hg : g < base) : v.ownBlock ≠ some g := fun e => by
  have := (h.block e).1
  omega

end Go.Proofs.Ytibleipfablniaa

/-
  PLAIN GROUND, NO WALK: rows of elements of several cells each, whatever the elements: when a slice value holds them in a world, when it is the call's own, and what a later world keeps of both. Condition: at an append, that the bytes are within the reach that every row bears.
-/
namespace Go.Proofs.Ytibleipfablniaa
open Go.RowKit

/-- A kind of element: its type, how many cells, how many bytes, its cells, one of them. -/
structure Kind (α : Type) where
  t : TypeId
  k : Nat
  by' : Nat
  f : α → List Value
  d : α
  pos : 0 < k
  len : ∀ x, (f x).length = k
  one : ∀ x, ∀ u ∈ f x, u.oneCell' = true

/-- The cells of a row of elements. -/
def rowC {α : Type} (f : α → List Value) : List α → List Value
  | [] => []
  | x :: xs => f x ++ rowC f xs

theorem rowC_len {α : Type} {f : α → List Value} {k : Nat} (hk : ∀ x, (f x).length = k) : ∀ xs : List α, (rowC f xs).length = xs.length * k
  | [] => by simp [rowC]
  | x :: xs => by simp [rowC, rowC_len hk xs, hk x, Nat.succ_mul]; omega
theorem rowC_append {α : Type} {f : α → List Value} : ∀ xs ys : List α, rowC f (xs ++ ys) = rowC f xs ++ rowC f ys
  | [], _ => rfl
  | x :: xs, ys => by simp [rowC, rowC_append xs ys]
theorem rowC_mem {α : Type} {f : α → List Value} : ∀ (xs : List α) (u : Value), u ∈ rowC f xs → ∃ x ∈ xs, u ∈ f x
  | [], u, h => by simp [rowC] at h
  | x :: xs, u, h => by
    simp only [rowC, List.mem_append] at h
    rcases h with h | h
    · exact ⟨x, List.mem_cons_self, h⟩
    · obtain ⟨y, hy, hu⟩ := rowC_mem xs u h
      exact ⟨y, List.mem_cons_of_mem _ hy, hu⟩
theorem rowC_at {α : Type} {f : α → List Value} {k : Nat} (hk : ∀ x, (f x).length = k) (d : α) : ∀ (xs : List α) (i j : Nat), i < xs.length → j < k → (rowC f xs)[i * k + j]? = (f (xs.getD i d))[j]?
  | [], i, j, h, _ => by simp at h
  | x :: xs, 0, j, _, hj => by
    simp [rowC]
    rw [List.getElem?_append_left (by rw [hk]; exact hj)]
  | x :: xs, i + 1, j, h, hj => by
    have e : (i + 1) * k + j = (f x).length + (i * k + j) := by rw [hk, Nat.succ_mul]; omega
    rw [rowC, e, List.getElem?_append_right (by omega)]
    simp
    rw [rowC_at hk d xs i j (by simpa using h) hj]
    simp
theorem rowC_set {α : Type} {f : α → List Value} {k : Nat} (hk : ∀ x, (f x).length = k) (d : α) {x' : α} {u : Value} : ∀ (xs : List α) (i j : Nat), i < xs.length → j < k → f x' = (f (xs.getD i d)).set j u → (rowC f xs).set (i * k + j) u = rowC f (xs.set i x')
  | [], i, j, h, _, _ => by simp at h
  | x :: xs, 0, j, _, hj, hf => by
    simp at hf
    simp [rowC, hf]
    rw [List.set_append_left _ _ (by rw [hk]; exact hj)]
  | x :: xs, i + 1, j, h, hj, hf => by
    have e : (i + 1) * k + j = (f x).length + (i * k + j) := by rw [hk, Nat.succ_mul]; omega
    rw [rowC, e, List.set_append_right _ _ (by omega)]
    simp
    rw [rowC_set hk d xs i j (by simpa using h) hj (by simpa using hf)]
    simp [rowC]

/-- The slice value v holds the elements xs in the world w. -/
def HasE {α : Type} (K : Kind α) (w : World) (v : Value) (xs : List α) : Prop :=
  ∃ (a : Option Addr) (cap : Nat), v = .slice a xs.length cap ∧ xs.length ≤ cap ∧ (a = none → cap = 0) ∧
    (0 < xs.length → ∃ b off, a = some ⟨b, off, none⟩ ∧ ∀ i, i < xs.length → ∀ j, j < K.k → w.cell? ⟨b, off + i * K.k + j, none⟩ = (K.f (xs.getD i K.d))[j]?)

/-- The slice value v is the call's own (its block is 'base' or later) and holds the elements xs. -/
def OwnE {α : Type} (K : Kind α) (w : World) (base : Nat) (v : Value) (xs : List α) : Prop :=
  w.ownsRow base K.t K.k v xs.length (rowC K.f xs)

theorem HasE.le {α : Type} {K : Kind α} {w w' : World} {v : Value} {xs : List α} (h : HasE K w v xs) (hb : Le w w') : HasE K w' v xs := by
  obtain ⟨a, cap, hv, hc, hn, hx⟩ := h
  refine ⟨a, cap, hv, hc, hn, fun hp => ?_⟩
  obtain ⟨b, off, ha, hcell⟩ := hx hp
  refine ⟨b, off, ha, fun i hi j hj => ?_⟩
  have h1 := hcell i hi j hj
  have hlt : j < (K.f (xs.getD i K.d)).length := by rw [K.len]; exact hj
  rw [List.getElem?_eq_getElem hlt] at h1
  rw [List.getElem?_eq_getElem hlt]
  rw [hb.cell (p := ⟨b, off + i * K.k + j, none⟩) (World.block_lt_of_cell? w _ h1)]
  exact h1

theorem OwnE.le {α : Type} {K : Kind α} {w w' : World} {base : Nat} {v : Value} {xs : List α} (h : OwnE K w base v xs) (hb : Le w w') : OwnE K w' base v xs := by
  obtain ⟨h1, h2⟩ := h
  refine ⟨h1, ?_⟩
  rcases h2 with h2 | ⟨g, cap, cur, hv, hg, hh, r⟩
  · exact .inl h2
  · exact .inr ⟨g, cap, cur, hv, hg, by rw [hb.block g (block_lt hh)]; exact hh, r⟩
theorem OwnE.base {α : Type} {K : Kind α} {w : World} {base base' : Nat} {v : Value} {xs : List α} (h : OwnE K w base v xs) (hb : base' ≤ base) : OwnE K w base' v xs := by
  obtain ⟨h1, h2⟩ := h
  refine ⟨h1, ?_⟩
  rcases h2 with h2 | ⟨g, cap, cur, hv, hg, r⟩
  · exact .inl h2
  · exact .inr ⟨g, cap, cur, hv, by omega, r⟩
theorem OwnE.has {α : Type} {K : Kind α} {w : World} {base : Nat} {v : Value} {xs : List α} (h : OwnE K w base v xs) : HasE K w v xs := by
  obtain ⟨h1, h2⟩ := h
  rcases h2 with ⟨h2, h3⟩ | ⟨g, cap, cur, hv, hg, hh, hn, hm, hs, ht⟩
  · have : xs = [] := by cases xs with | nil => rfl | cons _ _ => simp at h3
    subst this
    exact ⟨none, 0, h2, Nat.le_refl _, fun _ => rfl, fun hp => by simp at hp⟩
  · refine ⟨some ⟨g, 0, none⟩, cap, hv, hn, (fun h => by cases h), fun _ => ⟨g, 0, rfl, fun i hi j hj => ?_⟩⟩
    have hle : (i + 1) * K.k ≤ xs.length * K.k := Nat.mul_le_mul_right _ hi
    rw [Nat.succ_mul] at hle
    rw [Nat.zero_add, cell_of_take hh ht (by omega), rowC_at K.len K.d xs i j hi hj]
theorem HasE.nil {α : Type} (K : Kind α) (w : World) : HasE K w (.slice none 0 0) [] := ⟨none, 0, rfl, Nat.le_refl _, fun _ => rfl, fun h => by simp at h⟩
theorem OwnE.nil {α : Type} (K : Kind α) (w : World) (base : Nat) : OwnE K w base (.slice none 0 0) [] := World.ownsRow_nil _ _ _ _
theorem OwnE.of {α : Type} {K : Kind α} {w : World} {base n : Nat} {v : Value} {xs : List α} {us : List Value} (h : w.ownsRow base K.t K.k v n us) (hn : n = xs.length) (hu : us = rowC K.f xs) : OwnE K w base v xs := by
  subst hn hu; exact h
theorem HasE.sl {α : Type} {K : Kind α} {w : World} {v : Value} {xs : List α} (h : HasE K w v xs) : ∃ q : Sl, v = slV q := by
  obtain ⟨a, cap, hv, _⟩ := h; exact ⟨(a, _, cap), hv⟩
theorem HasE.len {α : Type} {K : Kind α} {w : World} {q : Sl} {xs : List α} (h : HasE K w (slV q) xs) : q.2.1 = xs.length := by
  obtain ⟨a, cap, hv, _⟩ := h
  simp only [slV, Value.slice.injEq] at hv
  exact hv.2.1
theorem OwnE.lit0 {α : Type} (K : Kind α) (w : World) (base : Nat) (hb : base ≤ w.heap.size) : OwnE K (w.alloc (.cells #[] K.t)) base (.slice (some ⟨w.heap.size, 0, none⟩) 0 0) [] := by
  have := World.ownsRow_lit (e := K.t) (size := K.k) w #[] 0 hb (by unfold maxLen; omega) (by simp)
  exact OwnE.of this rfl (by simp [rowC])
/-- A literal of elements. -/
theorem OwnE.lit {α : Type} (K : Kind α) (w : World) (base : Nat) (hb : base ≤ w.heap.size) (xs : List α) (hl : xs.length ≤ 1000) : OwnE K (w.alloc (.cells (rowC K.f xs).toArray K.t)) base (.slice (some ⟨w.heap.size, 0, none⟩) xs.length xs.length) xs := by
  have := World.ownsRow_lit (e := K.t) (size := K.k) w (rowC K.f xs).toArray xs.length hb (by unfold maxLen; omega) (by simp [rowC_len K.len])
  exact OwnE.of this rfl (by simp)

/-- The cells that a source of an append gives. -/
theorem HasE.cells {α : Type} {K : Kind α} {w : World} {a : Addr} {n cap : Nat} {xs : List α} (h : HasE K w (.slice (some a) n cap) xs) :
    ∀ j u, (rowC K.f xs)[j]? = some u → w.cell? (a.add j) = some u := by
  obtain ⟨a', cap', hv, hc, hn, hx⟩ := h
  simp only [Value.slice.injEq] at hv
  obtain ⟨rfl, rfl, rfl⟩ := hv
  intro j u hj
  have hlt : j < xs.length * K.k := by
    rcases Nat.lt_or_ge j (xs.length * K.k) with h' | h'
    · exact h'
    · rw [List.getElem?_eq_none (by rw [rowC_len K.len]; exact h')] at hj; cases hj
  have hp : 0 < xs.length := by
    rcases Nat.eq_zero_or_pos xs.length with h' | h'
    · rw [h'] at hlt; omega
    · exact h'
  obtain ⟨b, off, ha, hcell⟩ := hx hp
  simp only [Option.some.injEq] at ha
  subst ha
  have hk := K.pos
  have e : j = j / K.k * K.k + j % K.k := by rw [Nat.mul_comm]; exact (Nat.div_add_mod j K.k).symm
  have hd : j / K.k < xs.length := Nat.div_lt_of_lt_mul (by rw [Nat.mul_comm]; exact hlt)
  have hm : j % K.k < K.k := Nat.mod_lt _ hk
  have h1 := hcell (j / K.k) hd (j % K.k) hm
  rw [e, rowC_at K.len K.d xs (j / K.k) (j % K.k) hd hm] at hj
  have h2 : (⟨b, off, none⟩ : Addr).add j = ⟨b, off + j / K.k * K.k + j % K.k, none⟩ := by
    rw [add_plain]
    congr 1
    omega
  rw [h2, h1, hj]

/-- What a kind must have in a program. -/
structure Kind.In {α : Type} (K : Kind α) (P : Program) (tS : TypeId) : Prop where
  und : P.underlying tS = some (.slice K.t)
  info : ∃ z, (P.info? K.t).map (fun i => (i.zero, i.size, i.bytes)) = some (some z, K.k, K.by') ∧ z.cells.size = K.k

/-- An append of a slice of elements to one of the call's own. -/
theorem wp_append_E {α : Type} {K : Kind α} {tS : TypeId} (hK : K.In Try.prog tS) {ops : Array Oper} {rest : List Oper} {o : Oper} {a : Act} {Q : Exit → Act → World → Prop} {w : World} (hgd : o.guard = none) (s x : Operand)
    (ho : o.op = .call { callee := .builtin .append, args := #[s, x], argTypes := #[tS, tS] }) (base : Nat) (v u : Value) (xs ys : List α)
    (hs : a.eval s = v) (hx : a.eval x = u) (hown : OwnE K w base v xs) (hu : HasE K w u ys) (hr : (xs.length + ys.length) * K.by' ≤ 140737488355328) (hr' : xs.length + ys.length ≤ 140737488355328) (hbase : base ≤ w.heap.size)
    (h : ∀ v' w', OwnE K w' base v' (xs ++ ys) → w.grownBy w' v.ownBlock → (v'.ownBlock = v.ownBlock ∨ v'.ownBlock = some w.heap.size) → wpList Try.prog ops Q rest (a.put o.dst v') w') : wpList Try.prog ops Q (o :: rest) a w := by
  obtain ⟨z, hinfo, hzs⟩ := hK.info
  obtain ⟨i0, hi, hz0, hz1, hz2⟩ := info_parts hinfo
  have hu0 := hu
  obtain ⟨ad, cap, rfl, hc, hn, _⟩ := hu
  cases ad with
  | none =>
    have h0 := hn rfl
    have hnil : ys = [] := by cases ys with | nil => rfl | cons _ _ => simp at hc; omega
    subst hnil h0
    refine wpList_append_own_none hgd s x tS ho base K.t i0 K.k hK.und hi v _ _ hs hown hx ?_
    exact h _ _ (by simpa using hown) (World.grownBy.refl _ _) (.inl rfl)
  | some ad =>
    refine wpList_append_own_at w hgd s x tS ho base K.t i0 _ K.k K.by' hK.und hi hz0 hz1 hz2 hzs K.pos v _ _ hs hown ad ys.length cap (rowC K.f ys) hx (rowC_len K.len ys) hu0.cells (fun u hu => by obtain ⟨y, _, hy⟩ := rowC_mem ys u hu; exact K.one y u hy) (by unfold maxLen; omega) hr hbase ?_
    intro v' w' h1 h2 _ h4
    exact h _ _ (OwnE.of h1 (by simp) (by rw [rowC_append])) h2 h4

/-- A row of elements lies elsewhere than a box of another type. -/
theorem OwnE.apart {α : Type} {K : Kind α} {w : World} {base g : Nat} {v : Value} {xs : List α} {cs : Array Value} {t : TypeId} (h : OwnE K w base v xs) (hb : Box w g cs t) (ht : t ≠ K.t) : v.ownBlock ≠ some g := by
  intro e
  rcases h.2 with ⟨h2, _⟩ | ⟨g', cap, cur, hv, hg, hh, _⟩
  · rw [h2] at e; simp [Value.ownBlock] at e
  · rw [hv] at e
    simp [Value.ownBlock] at e
    subst e
    unfold Box at hb
    rw [hb] at hh
    simp at hh
    exact ht hh.2
theorem OwnE.block {α : Type} {K : Kind α} {w : World} {base g : Nat} {v : Value} {xs : List α} (h : OwnE K w base v xs) (e : v.ownBlock = some g) : base ≤ g ∧ g < w.heap.size := by
  rcases h.2 with ⟨h2, _⟩ | ⟨g', cap, cur, hv, hg, hh, _⟩
  · rw [h2] at e; simp [Value.ownBlock] at e
  · rw [hv] at e
    simp [Value.ownBlock] at e
    subst e
    exact ⟨hg, block_lt hh⟩
theorem OwnE.off {α : Type} {K : Kind α} {w : World} {base g : Nat} {v : Value} {xs : List α} (h : OwnE K w base v xs) (hg : g < base) : v.ownBlock ≠ some g := fun e => by
  have := (h.block e).1
  omega
theorem OwnE.set {α : Type} {K : Kind α} {w : World} {base g i : Nat} {v u : Value} {xs : List α} (h : OwnE K w base v xs) (hne : v.ownBlock ≠ some g) : OwnE K (w.setCell ⟨g, i, none⟩ u) base v xs :=
  ownsRow_setCell_other h hne u
theorem OwnE.grown {α : Type} {K : Kind α} {w w' : World} {base : Nat} {v : Value} {xs : List α} {row : Option Nat} (h : OwnE K w base v xs) (hg : w.grownBy w' row) (hne : ∀ g, v.ownBlock = some g → row ≠ some g) : OwnE K w' base v xs := by
  obtain ⟨h1, h2⟩ := h
  refine ⟨h1, ?_⟩
  rcases h2 with h2 | ⟨g, cap, cur, hv, hb, hh, r⟩
  · exact .inl h2
  · exact .inr ⟨g, cap, cur, hv, hb, by rw [hg.block g (block_lt hh) (fun e => hne g (by rw [hv]; rfl) e.symm)]; exact hh, r⟩
/-- What a store into a cell of an element leaves. -/
theorem OwnE.put {α : Type} {K : Kind α} {w : World} {base g n cap i j : Nat} {xs : List α} {x' : α} {u : Value} (h : OwnE K w base (.slice (some ⟨g, 0, none⟩) n cap) xs) (hi : i < xs.length) (hj : j < K.k) (hx : K.f x' = (K.f (xs.getD i K.d)).set j u) :
    OwnE K (w.setCell ⟨g, i * K.k + j, none⟩ u) base (.slice (some ⟨g, 0, none⟩) n cap) (xs.set i x') := by
  have hn : n = xs.length := by
    obtain ⟨a, c, hv, _⟩ := h.has
    simp only [Value.slice.injEq] at hv
    exact hv.2.1
  subst hn
  have h3 := (World.ownsRow.stored h (i * K.k + j) u).1
  exact OwnE.of h3 (by simp) (rowC_set K.len K.d xs i j hi hj hx)
theorem OwnE.frozen {α : Type} {K : Kind α} {w : World} {base g n cap : Nat} {xs : List α} (h : OwnE K w base (.slice (some ⟨g, 0, none⟩) n cap) xs) (j : Nat) : w.frozen? ⟨g, j, none⟩ = false := by
  have hn : n = xs.length := by
    obtain ⟨a, c, hv, _⟩ := h.has
    simp only [Value.slice.injEq] at hv
    exact hv.2.1
  subst hn
  exact World.ownsRow.frozenAt h j
/-- A row of the call's own that is not empty. -/
theorem OwnE.shape {α : Type} {K : Kind α} {w : World} {base : Nat} {v : Value} {xs : List α} (h : OwnE K w base v xs) (hn : 0 < xs.length) : ∃ g cap, v = .slice (some ⟨g, 0, none⟩) xs.length cap ∧ xs.length ≤ cap ∧ base ≤ g ∧ g < w.heap.size := by
  rcases h.2 with ⟨_, h0⟩ | ⟨g, cap, cur, hv, hg, hh, hn, hm, _⟩
  · omega
  · exact ⟨g, cap, hv, hn, hg, block_lt hh⟩
/-- Two rows of unlike types lie in unlike blocks. -/
theorem ownsRow_apart {w : World} {b1 b2 : Nat} {t1 t2 : TypeId} {k1 k2 n1 n2 g : Nat} {v1 v2 : Value} {us1 us2 : List Value} (h1 : w.ownsRow b1 t1 k1 v1 n1 us1) (h2 : w.ownsRow b2 t2 k2 v2 n2 us2) (ht : t1 ≠ t2) (e1 : v1.ownBlock = some g) : v2.ownBlock ≠ some g := by
  intro e2
  rcases h1.2 with ⟨h, _⟩ | ⟨g1, c1, cur1, hv1, _, hh1, _⟩
  · rw [h] at e1; simp [Value.ownBlock] at e1
  · rcases h2.2 with ⟨h, _⟩ | ⟨g2, c2, cur2, hv2, _, hh2, _⟩
    · rw [h] at e2; simp [Value.ownBlock] at e2
    · rw [hv1] at e1
      rw [hv2] at e2
      simp [Value.ownBlock] at e1 e2
      subst e1
      subst e2
      rw [hh1] at hh2
      simp at hh2
      exact ht hh2.2

end Go.Proofs.Ytibleipfablniaa

/-
  THE WALKS over package config (mayObject, mayCount, maySlots, May, Replica): what each answers, for every Config and every thread. maySlots: threads from 1 to 4, as May asks ahead of it.
-/
namespace Go.Proofs.Ytibleipfablniaa
open Go.RowKit

/-- From a least to a most? -/
def inB (a x b : Int) : Bool := decide (a ≤ x) && decide (x ≤ b)
theorem inB_cases {a x b : Int} (h : inB a x b = true) : a ≤ x ∧ x ≤ b := by simp [inB] at h; omega
theorem inB_no {a x b : Int} (h : inB a x b = false) : x < a ∨ b < x := by simp [inB] at h; omega
theorem inB_of {a x b : Int} (h : a ≤ x) (k : x ≤ b) : inB a x b = true := by simp [inB, h, k]
theorem inB_off {a x b : Int} (h : x < a ∨ b < x) : inB a x b = false := by simp [inB]; omega

/-- A Config's value: object, replicas, logs, threads, slots. -/
abbrev cfgV (o r l t s : Int) : Value := .agg #[.int .i64 o, .int .i64 r, .int .i64 l, .int .i64 t, .int .i64 s]
/-- May it be? -/
def cfgB (o r l t s : Int) : Bool := inB 0 o 2 && (inB 1 r 2 && (inB 1 l 2 && (inB 1 t 4 && (slotsB s && decide (2 * t ≤ s)))))
/-- Which replica a thread is at. -/
def repS (o r l t s k : Int) : Int × Int := if cfgB o r l t s && (decide (0 ≤ k) && decide (k < t)) then (k % r, 0) else (0, 1300)
theorem cfgB_cases {o r l t s : Int} (h : cfgB o r l t s = true) : (0 ≤ o ∧ o ≤ 2) ∧ (1 ≤ r ∧ r ≤ 2) ∧ (1 ≤ l ∧ l ≤ 2) ∧ (1 ≤ t ∧ t ≤ 4) ∧ slotsB s = true ∧ 2 * t ≤ s := by
  simp only [cfgB, Bool.and_eq_true, decide_eq_true_eq] at h
  obtain ⟨h1, h2, h3, h4, h5, h6⟩ := h
  exact ⟨inB_cases h1, inB_cases h2, inB_cases h3, inB_cases h4, h5, h6⟩
theorem repS_yes {o r l t s k : Int} (h : cfgB o r l t s = true) (h0 : 0 ≤ k) (h1 : k < t) : repS o r l t s k = (k % r, 0) := by simp [repS, h, h0, h1]
theorem repS_no {o r l t s k : Int} (h : cfgB o r l t s = false ∨ k < 0 ∨ t ≤ k) : repS o r l t s k = (0, 1300) := by
  rcases h with h | h | h
  · simp [repS, h]
  · have : ¬ 0 ≤ k := by omega
    simp [repS, this]
  · have : ¬ k < t := by omega
    simp [repS, this]

theorem cfgMayObject (o : Int) (w : World) : Calls Try.prog 37 #[.int .i64 o] w fun e w' => e = .returned (.bool (inB 0 o 2)) ∧ w = w' := by
  rcases (by omega : o = 0 ∨ o = 1 ∨ o = 2 ∨ (o ≠ 0 ∧ o ≠ 1 ∧ o ≠ 2)) with rfl | rfl | rfl | ⟨h1, h2, h3⟩
  iterate 3
    · go_enter Try.func37, Try.ntmps37
      go_wp2
      go_ret
      exact ⟨ret_bool (by decide), rfl⟩
  · go_enter Try.func37, Try.ntmps37
    go_wp2
    go_ret
    exact ⟨ret_bool (by simp [inB]; omega), rfl⟩

theorem cfgMayCount (x m : Int) (w : World) : Calls Try.prog 38 #[.int .i64 x, .int .i64 m] w fun e w' => e = .returned (.bool (inB 1 x m)) ∧ w = w' := by
  by_cases h : 1 ≤ x
  all_goals
    go_enter Try.func38, Try.ntmps38
    go_wp2
    go_ret
    exact ⟨ret_bool (by simp [inB, h]; try omega), rfl⟩

set_option maxHeartbeats 1000000 in
theorem cfgMaySlots (s t : Int) (t0 : 1 ≤ t) (t1 : t ≤ 4) (w : World) : Calls Try.prog 39 #[.int .i64 s, .int .i64 t] w fun e w' => e = .returned (.bool (slotsB s && decide (2 * t ≤ s))) ∧ w = w' := by
  have h1 := fun w' => slotBit 0 s w'
  cases hs : slotsB s
  · rw [bitS_no (.inl hs)] at h1
    go_enter Try.func39, Try.ntmps39
    go_wp2_with (go_at_call 58; refine (h1 _).mono ?_; rintro e _ ⟨rfl, rfl⟩)
    go_ret
    exact ⟨ret_bool (by simp), rfl⟩
  · rw [bitS_yes hs (by decide)] at h1
    generalize bitAt 0 s = q at h1
    go_enter Try.func39, Try.ntmps39
    go_wp2_with (go_at_call 58; refine (h1 _).mono ?_; rintro e _ ⟨rfl, rfl⟩)
    go_ret
    exact ⟨ret_bool (by simp), rfl⟩

set_option maxHeartbeats 2000000 in
theorem cfgMay (o r l t s : Int) (w : World) : Calls Try.prog 17 #[cfgV o r l t s] w fun e w' => e = .returned (.bool (cfgB o r l t s)) ∧ Le w w' := by
  have h1 := fun w' => cfgMayObject o w'
  have h2 := fun w' => cfgMayCount r 2 w'
  have h3 := fun w' => cfgMayCount l 2 w'
  have h4 := fun w' => cfgMayCount t 4 w'
  cases k1 : inB 0 o 2
  · rw [k1] at h1
    go_enter Try.func17, Try.ntmps17
    go_wp2_with (first | (go_at_call 37; refine (h1 _).mono ?_; rintro e _ ⟨rfl, rfl⟩))
    go_ret
    exact ⟨ret_bool (by simp [cfgB, k1]), Le.alloc _ _⟩
  rw [k1] at h1
  cases k2 : inB 1 r 2
  · rw [k2] at h2
    go_enter Try.func17, Try.ntmps17
    go_wp2_with fail
    refine (h1 _).mono ?_; rintro e _ ⟨rfl, rfl⟩
    go_wp2_with fail
    refine (h2 _).mono ?_; rintro e _ ⟨rfl, rfl⟩
    go_wp2_with fail
    go_ret
    exact ⟨ret_bool (by simp [cfgB, k2]), Le.alloc _ _⟩
  rw [k2] at h2
  cases k3 : inB 1 l 2
  · rw [k3] at h3
    go_enter Try.func17, Try.ntmps17
    go_wp2_with fail
    refine (h1 _).mono ?_; rintro e _ ⟨rfl, rfl⟩
    go_wp2_with fail
    refine (h2 _).mono ?_; rintro e _ ⟨rfl, rfl⟩
    go_wp2_with fail
    refine (h3 _).mono ?_; rintro e _ ⟨rfl, rfl⟩
    go_wp2_with fail
    go_ret
    exact ⟨ret_bool (by simp [cfgB, k3]), Le.alloc _ _⟩
  rw [k3] at h3
  cases k4 : inB 1 t 4
  · rw [k4] at h4
    go_enter Try.func17, Try.ntmps17
    go_wp2_with fail
    refine (h1 _).mono ?_; rintro e _ ⟨rfl, rfl⟩
    go_wp2_with fail
    refine (h2 _).mono ?_; rintro e _ ⟨rfl, rfl⟩
    go_wp2_with fail
    refine (h3 _).mono ?_; rintro e _ ⟨rfl, rfl⟩
    go_wp2_with fail
    refine (h4 _).mono ?_; rintro e _ ⟨rfl, rfl⟩
    go_wp2_with fail
    go_ret
    exact ⟨ret_bool (by simp [cfgB, k4]), Le.alloc _ _⟩
  rw [k4] at h4
  obtain ⟨t0, t1⟩ := inB_cases k4
  have h5 := fun w' => cfgMaySlots s t t0 t1 w'
  have hb : cfgB o r l t s = (slotsB s && decide (2 * t ≤ s)) := by simp [cfgB, k1, k2, k3, k4]
  rw [hb]
  generalize (slotsB s && decide (2 * t ≤ s)) = b at h5
  go_enter Try.func17, Try.ntmps17
  go_wp2_with fail
  refine (h1 _).mono ?_; rintro e _ ⟨rfl, rfl⟩
  go_wp2_with fail
  refine (h2 _).mono ?_; rintro e _ ⟨rfl, rfl⟩
  go_wp2_with fail
  refine (h3 _).mono ?_; rintro e _ ⟨rfl, rfl⟩
  go_wp2_with fail
  refine (h4 _).mono ?_; rintro e _ ⟨rfl, rfl⟩
  go_wp2_with fail
  refine (h5 _).mono ?_; rintro e _ ⟨rfl, rfl⟩
  go_wp2_with fail
  go_ret
  exact ⟨rfl, Le.alloc _ _⟩

end Go.Proofs.Ytibleipfablniaa

/-
  THE WALK over package oper's Updates: what it answers, for every operation. No condition.
-/
namespace Go.Proofs.Ytibleipfablniaa
open Go.RowKit

set_option maxHeartbeats 2000000 in
theorem operUpdates (c r a : Int) (w : World) :
    Calls Try.prog 65 #[opV c r a] w fun e w' => e = .returned (.bool (opUp c r a)) ∧ Le w w' := by
  have hb := Box.new w #[.int .i64 c, .int .i64 r, .int .i64 a] 50
  have hl := Le.alloc w (.cells #[.int .i64 c, .int .i64 r, .int .i64 a] 50)
  cases hm : opMay c r a
  · go_enter Try.func65, Try.ntmps65
    go_wp2_with (go_at_call 52; refine (operMay _ _ _ _).mono ?_; rw [hm]; rintro e w1 ⟨rfl, l1⟩)
    go_ret
    exact ⟨ret_bool (by simp [opUp, hm]), hl.trans l1⟩
  · by_cases hc : c = 0
    · subst hc
      go_enter Try.func65, Try.ntmps65
      go_wp2_with (go_at_call 52; refine (operMay _ _ _ _).mono ?_; rw [hm]; rintro e w1 ⟨rfl, l1⟩; obtain ⟨b0, b1, b2, f0, f1, f2⟩ := (hb.le l1).op)
      go_ret
      exact ⟨ret_bool (by simp [opUp, hm]), hl.trans l1⟩
    · go_enter Try.func65, Try.ntmps65
      go_wp2_with (go_at_call 52; refine (operMay _ _ _ _).mono ?_; rw [hm]; rintro e w1 ⟨rfl, l1⟩; obtain ⟨b0, b1, b2, f0, f1, f2⟩ := (hb.le l1).op)
      go_ret
      exact ⟨ret_bool (by simp [opUp, hm, hc, beq_int]), hl.trans l1⟩

end Go.Proofs.Ytibleipfablniaa

/-
  THE WALKS over package lists' All and Copy at slots, and package ring's maySlot, maySlots, mayPlaces, has, apart, May: what each answers, for every ring. Condition: where memory is made, that the slots can be copied.
-/
namespace Go.Proofs.Ytibleipfablniaa
open Go.RowKit

/-- May it be one of a ring's? -/
def slotB (s : Slt) : Bool := opUp s.c s.r s.a && (decide (0 ≤ s.t) && decide (s.t < 4)) && (decide (s.b = 0) || decide (s.b = 1))

set_option maxHeartbeats 2000000 in
theorem ringMaySlot (s : Slt) (w : World) : Calls Try.prog 60 #[s.v] w fun e w' => e = .returned (.bool (slotB s)) ∧ Le w w' := by
  obtain ⟨c, r, a, t, b⟩ := s
  have hb := Box.new w #[.int .i64 c, .int .i64 r, .int .i64 a, .int .i64 t, .int .i64 b] 85
  have hl := Le.alloc w (.cells #[.int .i64 c, .int .i64 r, .int .i64 a, .int .i64 t, .int .i64 b] 85)
  have hu := fun w => operUpdates c r a w
  simp only [slotB]
  cases hm : opUp c r a
  · rw [hm] at hu
    go_enter Try.func60, Try.ntmps60
    go_wp2_with (go_at_call 65; refine (hu _).mono ?_; rintro e w1 ⟨rfl, l1⟩)
    go_ret
    exact ⟨ret_bool (by simp), hl.trans l1⟩
  · rw [hm] at hu
    by_cases h1 : 0 ≤ t
    · by_cases h2 : t < 4
      · by_cases h3 : b = 0
        · subst h3
          go_enter Try.func60, Try.ntmps60
          go_wp2_with (go_at_call 65; refine (hu _).mono ?_; rintro e w1 ⟨rfl, l1⟩; obtain ⟨b0, b1, b2, b3, b4⟩ := (hb.le l1).slot)
          go_ret
          exact ⟨ret_bool (by simp [h1, h2]), hl.trans l1⟩
        · go_enter Try.func60, Try.ntmps60
          go_wp2_with (go_at_call 65; refine (hu _).mono ?_; rintro e w1 ⟨rfl, l1⟩; obtain ⟨b0, b1, b2, b3, b4⟩ := (hb.le l1).slot)
          go_ret
          exact ⟨ret_bool (by simp [h1, h2, h3, beq_int]), hl.trans l1⟩
      · go_enter Try.func60, Try.ntmps60
        go_wp2_with (go_at_call 65; refine (hu _).mono ?_; rintro e w1 ⟨rfl, l1⟩; obtain ⟨b0, b1, b2, b3, b4⟩ := (hb.le l1).slot)
        go_ret
        exact ⟨ret_bool (by simp; omega), hl.trans l1⟩
    · go_enter Try.func60, Try.ntmps60
      go_wp2_with (go_at_call 65; refine (hu _).mono ?_; rintro e w1 ⟨rfl, l1⟩; obtain ⟨b0, b1, b2, b3, b4⟩ := (hb.le l1).slot)
      go_ret
      exact ⟨ret_bool (by simp; omega), hl.trans l1⟩

theorem ringMaySlots (n : Int) (w : World) : Calls Try.prog 40 #[.int .i64 n] w fun e w' => e = .returned (.bool (slotsB n)) ∧ w = w' := by
  have h := fun w => slotBit 0 n w
  cases hn : slotsB n
  · rw [bitS_no (.inl hn)] at h
    go_enter Try.func40, Try.ntmps40
    go_wp2_with (go_at_call 58; refine (h _).mono ?_; rintro e _ ⟨rfl, rfl⟩)
    go_ret
    exact ⟨rfl, rfl⟩
  · rw [bitS_yes hn (by decide)] at h
    go_enter Try.func40, Try.ntmps40
    go_wp2_with (go_at_call 58; refine (h _).mono ?_; rintro e _ ⟨rfl, rfl⟩)
    go_ret
    exact ⟨rfl, rfl⟩

theorem allL_take {ss : List Slt} {p : Slt → Bool} {k : Nat} (hk : k < ss.length) (h : (ss.take k).all p = true) (hp : p (ss.getD k Slt.zero) = true) : (ss.take (k + 1)).all p = true := by
  rw [List.take_succ_eq_append_getElem hk, List.all_append, h]
  simp [List.getD, hk] at hp
  simp [hp]
theorem all_no {ss : List Slt} {p : Slt → Bool} {k : Nat} (hk : k < ss.length) (hp : p (ss.getD k Slt.zero) = false) : ss.all p = false := by
  rw [List.all_eq_false]
  refine ⟨ss.getD k Slt.zero, ?_, by rw [hp]; decide⟩
  simp [List.getD, hk]

set_option maxHeartbeats 400000 in
theorem listsAll (f : Nat) (p : Slt → Bool) (hc : ∀ (u : Value) (w : World), (callFunc f #[u]).run Try.prog w = .ok (.enter f #[u]) w) (hp : ∀ (s : Slt) w, Calls Try.prog f #[s.v] w fun e w' => e = .returned (.bool (p s)) ∧ Le w w') (v : Value) (ss : List Slt) (w : World) (hx : HasL w v ss) (hm : ss.length ≤ 9223372036854775807) :
    Calls Try.prog 44 #[v, .func (.func f) #[] #[]] w fun e w' => e = .returned (.bool (ss.all p)) ∧ Le w w' := by
  obtain ⟨a, cap, rfl, hc', _, hx⟩ := hx
  by_cases h0 : 0 < ss.length
  · obtain ⟨b, off, rfl, hcell⟩ := hx h0
    clear hx
    obtain ⟨L, hL⟩ : ∃ L, L = ss.length := ⟨_, rfl⟩
    have HL : Hid (L = ss.length) := hL
    rw [← hL] at hm h0 hc' hcell ⊢
    clear hL
    go_enter Try.func44, Try.ntmps44
    go_wp2
    go_loopw [9] (fun i wr => ∃ k : Nat, k ≤ L ∧ i = .int .i64 k ∧ Hid ((ss.take k).all p = true) ∧ Le w wr) (fun i _ => L - (intOf i).toNat)
    case atStart => exact ⟨0, by omega, rfl, rfl, Le.refl _⟩
    case round =>
      obtain ⟨k, hk, rfl, HA, hle⟩ := hrel
      by_cases hlt : k < L
      · obtain ⟨s, hs⟩ : ∃ s, s = ss.getD k Slt.zero := ⟨_, rfl⟩
        have HS : Hid (s = ss.getD k Slt.zero) := hs
        obtain ⟨x0, x1, x2, x3, x4⟩ := (hcell k hlt).le hle
        rw [← hs] at x0 x1 x2 x3 x4
        clear hs hcell
        have hlt' : (k : Int) < (L : Int) := by omega
        have hm := fun w => hp s w
        cases hh : p s
        · rw [hh] at hm
          go_wp2_with fail
          refine (hm _).mono ?_
          rintro e w1 ⟨rfl, l1⟩
          go_wp2
          go_ret
          exact ⟨ret_bool (all_no (k := k) (by have := HL.out; omega) (by rw [← HS.out]; exact hh)).symm, (hle.trans (Le.alloc _ _)).trans l1⟩
        · rw [hh] at hm
          go_wp2_with fail
          refine (hm _).mono ?_
          rintro e w1 ⟨rfl, l1⟩
          go_wp2
          go_roundw
          case rel => exact ⟨k + 1, by omega, by go_num, allL_take (by have := HL.out; omega) HA.out (by rw [← HS.out]; exact hh), (hle.trans (Le.alloc _ _)).trans l1⟩
          case measure => simp [intOf]; omega
      · obtain rfl : k = L := by omega
        go_wp2
        go_ret
        exact ⟨ret_bool (by have := HA.out; rw [HL.out, List.take_length] at this; exact this.symm), hle⟩
  · have hxn : ss = [] := by cases ss with | nil => rfl | cons _ _ => simp at h0
    subst hxn
    go_enter Try.func44, Try.ntmps44
    go_wp2
    refine wp_loop_rounds 1 ?_
    rw [rounds_succ]
    go_wp2
    go_ret
    exact ⟨rfl, Le.refl _⟩

/-- May a ring's places be? -/
def placesB (h t : Int) (n : Nat) : Bool := decide (0 ≤ h) && decide (h ≤ t) && decide (t ≤ 1048576) && decide (t ≤ h + n)

set_option maxHeartbeats 400000 in
theorem ringMayPlaces (h t f : Int) (q : Sl) (w : World) (hq : q.2.1 ≤ 4611686018427387904) : Calls Try.prog 59 #[ringV h t f q] w fun e w' => e = .returned (.bool (placesB h t q.2.1)) ∧ Le w w' := by
  obtain ⟨a, n, cap⟩ := q
  simp only at hq
  rcases (by omega : h < 0 ∨ (0 ≤ h ∧ t < h) ∨ (0 ≤ h ∧ h ≤ t ∧ 1048576 < t) ∨ (0 ≤ h ∧ h ≤ t ∧ t ≤ 1048576)) with h1 | ⟨h1, h2⟩ | ⟨h1, h2, h3⟩ | ⟨h1, h2, h3⟩
  all_goals
    go_enter Try.func59, Try.ntmps59
    go_wp2
    go_ret
    exact ⟨ret_bool (by simp [placesB]; omega), Le.alloc _ _⟩

/-- Is entry number p in it? -/
def hasB (h t p : Int) : Bool := decide (h ≤ p) && decide (p < t)

/-- May a ring be? -/
def mayR (R : Rg) : Bool := slotsB R.ss.length && placesB R.h R.t R.ss.length && decide (0 ≤ R.f) && decide (R.f ≤ 4) && R.ss.all slotB

set_option maxHeartbeats 1000000 in
theorem ringMay (v : Value) (R : Rg) (w : World) (hx : HasR w v R) (hf : FitR R) : Calls Try.prog 42 #[v] w fun e w' => e = .returned (.bool (mayR R)) ∧ Le w w' := by
  obtain ⟨h, t, f, ss⟩ := R
  obtain ⟨q, rfl, hq⟩ := hx
  simp only [FitR] at hf hq ⊢
  simp only [mayR]
  have hb := Box.new w (cellsR h t f q) 39
  have hl := Le.alloc w (.cells (cellsR h t f q) 39)
  have hn := hq.len
  have hq0 : q.2.1 ≤ 4611686018427387904 := by omega
  rw [← hn]
  clear hn
  have m1 := fun w => ringMaySlots q.2.1 w
  have m2 := fun w => ringMayPlaces h t f q w hq0
  cases h1 : slotsB q.2.1
  · rw [h1] at m1
    go_enter Try.func42, Try.ntmps42
    go_wp2_with (go_at_call 40; refine (m1 _).mono ?_; rintro e _ ⟨rfl, rfl⟩)
    go_ret
    exact ⟨ret_bool (by simp), hl⟩
  · rw [h1] at m1
    cases h2 : placesB h t q.2.1
    · rw [h2] at m2
      go_enter Try.func42, Try.ntmps42
      go_wp2_with (first | (go_at_call 40; refine (m1 _).mono ?_; rintro e _ ⟨rfl, rfl⟩) | (go_at_call 59; refine (m2 _).mono ?_; rintro e w1 ⟨rfl, l1⟩))
      go_ret
      exact ⟨ret_bool (by simp), hl.trans l1⟩
    · rw [h2] at m2
      by_cases h3 : 0 ≤ f
      · by_cases h4 : f ≤ 4
        · go_enter Try.func42, Try.ntmps42
          go_wp2_with (first | (go_at_call 40; refine (m1 _).mono ?_; rintro e _ ⟨rfl, rfl⟩) | (go_at_call 59; refine (m2 _).mono ?_; rintro e w1 ⟨rfl, l1⟩; obtain ⟨b0, b1, b2, b3, _, _, _, _⟩ := (hb.le l1).ring) | (go_at_call 44; refine (listsAll 60 slotB (fun _ _ => by kernel_rfl) ringMaySlot _ ss _ (hq.le (hl.trans l1)) (by omega)).mono ?_; rintro e w2 ⟨rfl, l2⟩))
          go_ret
          exact ⟨ret_bool (by simp [h3, h4]), (hl.trans l1).trans l2⟩
        · go_enter Try.func42, Try.ntmps42
          go_wp2_with (first | (go_at_call 40; refine (m1 _).mono ?_; rintro e _ ⟨rfl, rfl⟩) | (go_at_call 59; refine (m2 _).mono ?_; rintro e w1 ⟨rfl, l1⟩; obtain ⟨b0, b1, b2, b3, _, _, _, _⟩ := (hb.le l1).ring))
          go_ret
          exact ⟨ret_bool (by simp; omega), hl.trans l1⟩
      · go_enter Try.func42, Try.ntmps42
        go_wp2_with (first | (go_at_call 40; refine (m1 _).mono ?_; rintro e _ ⟨rfl, rfl⟩) | (go_at_call 59; refine (m2 _).mono ?_; rintro e w1 ⟨rfl, l1⟩; obtain ⟨b0, b1, b2, b3, _, _, _, _⟩ := (hb.le l1).ring))
        go_ret
        exact ⟨ret_bool (by simp; omega), hl.trans l1⟩

end Go.Proofs.Ytibleipfablniaa

/-
  THE WALKS over package ring's New, Reserve, Free: what each answers, for every ring and number, and that what it hands back lies in memory of its own. Condition: that the slots can be copied.
-/
namespace Go.Proofs.Ytibleipfablniaa
open Go.RowKit

def newS (n : Int) : Rg × Int := if slotsB n then (⟨0, 0, 0, List.replicate n.toNat Slt.zero⟩, 0) else (Rg.zero, 1000)
/-- May so many be reserved? -/
def askB (R : Rg) (k : Int) : Bool := mayR R && decide (1 ≤ k) && decide (k ≤ R.ss.length)
/-- .. is there room for them, and no fence? -/
def roomB (R : Rg) (k : Int) : Bool := decide (R.f = 0) && placesB R.h (R.t + k) R.ss.length
def reserveS (R : Rg) (k : Int) : Rg × Int × Int :=
  if askB R k then (if roomB R k then (⟨R.h, R.t + k, R.f, R.ss⟩, R.t, 0) else (Rg.zero, 0, 1001)) else (Rg.zero, 0, 1000)
def freeB (R : Rg) (p : Int) : Bool := mayR R && decide (R.h ≤ p) && decide (p ≤ R.t)
def freeRS (R : Rg) (p : Int) : Rg × Int := if freeB R p then (⟨p, R.t, R.f, R.ss⟩, 0) else (Rg.zero, 1000)

theorem mayR_slots {R : Rg} (h : mayR R = true) : slotsB R.ss.length = true := by simp [mayR] at h; exact h.1.1.1.1
theorem mayR_all {R : Rg} (h : mayR R = true) : R.ss.all slotB = true := by simp [mayR] at h; rw [List.all_eq_true]; exact h.2
theorem mayR_places {R : Rg} (h : mayR R = true) : placesB R.h R.t R.ss.length = true := by simp [mayR] at h; exact h.1.1.1.2
theorem mayR_len {R : Rg} (h : mayR R = true) : R.ss.length = 2 ∨ R.ss.length = 4 ∨ R.ss.length = 8 ∨ R.ss.length = 16 := by
  have := slotsB_cases (mayR_slots h); omega
theorem mayR_nums {R : Rg} (h : mayR R = true) : 0 ≤ R.h ∧ R.h ≤ R.t ∧ R.t ≤ 1048576 ∧ R.t ≤ R.h + R.ss.length := by
  have := mayR_places h; simp [placesB] at this; omega
theorem mayR_fit {R : Rg} (h : mayR R = true) : FitR R := by
  have := mayR_len h; unfold FitR; omega

theorem flatV_zero : ∀ n, flatV (List.replicate n Slt.zero) = List.replicate (n * 5) (.int .i64 0)
  | 0 => rfl
  | n + 1 => by
    rw [List.replicate_succ, flatV, flatV_zero n, show (n + 1) * 5 = 5 + n * 5 by omega, ← List.replicate_append_replicate]
    rfl

/-- The cells of n slots that were never written to. -/
def zerosV (n : Nat) : Array Value := Array.replicate (n * 5) (.int .i64 0)

/-- Slots that were never written to, in a block of their own. -/
theorem OwnL.made (w : World) (base n : Nat) (hb : base ≤ w.heap.size) (hn : n ≤ 1000) : OwnL (w.alloc (.cells (zerosV n) 85)) base (.slice (some ⟨w.heap.size, 0, none⟩) n n) (List.replicate n Slt.zero) := by
  have := World.ownsRow_lit (e := 85) (size := 5) w (zerosV n) n hb (by unfold maxLen; omega) (by simp [zerosV])
  exact OwnL.of this (by simp) (by rw [flatV_zero]; simp [zerosV])

theorem make2 (w : World) : (Instr.makeSlice 37 (.int .i64 2) (.int .i64 2)).run Try.prog w = .ok (slV (some ⟨w.heap.size, 0, none⟩, 2, 2)) (w.alloc (.cells (zerosV 2) 85)) := by kernel_rfl
theorem make4 (w : World) : (Instr.makeSlice 37 (.int .i64 4) (.int .i64 4)).run Try.prog w = .ok (slV (some ⟨w.heap.size, 0, none⟩, 4, 4)) (w.alloc (.cells (zerosV 4) 85)) := by kernel_rfl
theorem make8 (w : World) : (Instr.makeSlice 37 (.int .i64 8) (.int .i64 8)).run Try.prog w = .ok (slV (some ⟨w.heap.size, 0, none⟩, 8, 8)) (w.alloc (.cells (zerosV 8) 85)) := by kernel_rfl
theorem make16 (w : World) : (Instr.makeSlice 37 (.int .i64 16) (.int .i64 16)).run Try.prog w = .ok (slV (some ⟨w.heap.size, 0, none⟩, 16, 16)) (w.alloc (.cells (zerosV 16) 85)) := by kernel_rfl

/-- A ring, stored into a variable. -/
theorem Box.put4 {w : World} {g : Nat} {h t f h' t' f' : Int} {q q' : Sl} {T : TypeId} (hb : Box w g (cellsR h t f q) T) :
    Box ((((w.setCell ⟨g, 0, none⟩ (.int .i64 h')).setCell ⟨g, 1, none⟩ (.int .i64 t')).setCell ⟨g, 2, none⟩ (.int .i64 f')).setCell ⟨g, 3, none⟩ (slV q')) g (cellsR h' t' f' q') T :=
  (((hb.set 0 _).set 1 _).set 2 _).set 3 _
theorem Box.otherR4 {w : World} {g g' : Nat} {cs : Array Value} {a b c d : Value} {T : TypeId} (hb : Box w g cs T) (hne : g ≠ g') :
    Box ((((w.setCell ⟨g', 0, none⟩ a).setCell ⟨g', 1, none⟩ b).setCell ⟨g', 2, none⟩ c).setCell ⟨g', 3, none⟩ d) g cs T :=
  (((hb.other hne 0 _).other hne 1 _).other hne 2 _).other hne 3 _
theorem OwnL.set4 {w : World} {base g : Nat} {v a b c d : Value} {ss : List Slt} (h : OwnL w base v ss) (hne : v.ownBlock ≠ some g) :
    OwnL ((((w.setCell ⟨g, 0, none⟩ a).setCell ⟨g, 1, none⟩ b).setCell ⟨g, 2, none⟩ c).setCell ⟨g, 3, none⟩ d) base v ss :=
  (((h.set hne).set hne).set hne).set hne
theorem Le.put4 {w w' : World} {g : Nat} {a b c d : Value} (h : Le w w') (hg : w.heap.size ≤ g) :
    Le w ((((w'.setCell ⟨g, 0, none⟩ a).setCell ⟨g, 1, none⟩ b).setCell ⟨g, 2, none⟩ c).setCell ⟨g, 3, none⟩ d) :=
  (((h.set hg).set hg).set hg).set hg

set_option maxHeartbeats 1000000 in
theorem ringNew (n : Int) (w : World) : Calls Try.prog 18 #[.int .i64 n] w fun e w' => ∃ v', e = .returned (.tuple #[v', .int .i64 (newS n).2]) ∧ OwnR w' w.heap.size v' (newS n).1 ∧ Le w w' := by
  have m1 := fun w => ringMaySlots n w
  have hb := Box.new w (cellsR 0 0 0 slZ) 39
  have hl := Le.alloc w (.cells (cellsR 0 0 0 slZ) 39)
  obtain ⟨b0, b1, b2, b3, f0, f1, f2, f3⟩ := hb.ring
  cases hn : slotsB n
  · rw [hn] at m1
    simp only [newS, hn]
    go_enter Try.func18, Try.ntmps18
    go_wp2_with (go_at_call 40; refine (m1 _).mono ?_; rintro e _ ⟨rfl, rfl⟩)
    refine bodyPost_ret (v := .tuple #[ringZ, .int .i64 1000]) (by simp [results, Try.results18, go_sem]) rfl ⟨_, rfl, OwnR.zero _ _, ?_⟩
    exact hl
  · rw [hn] at m1
    simp only [newS, hn]
    have k2 := make2
    have k4 := make4
    have k8 := make8
    have k16 := make16
    rcases slotsB_cases hn with rfl | rfl | rfl | rfl
    · go_enter Try.func18, Try.ntmps18
      go_wp2_with (go_at_call 40; refine (m1 _).mono ?_; rintro e _ ⟨rfl, rfl⟩)
      refine bodyPost_ret (v := .tuple #[ringV 0 0 0 (some ⟨w.heap.size + 1, 0, none⟩, 2, 2), .int .i64 0]) (by simp [results, Try.results18, go_sem]) rfl ⟨_, rfl, ⟨_, rfl, ?_⟩, (Le.alloc _ _).trans (Le.alloc _ _)⟩
      have := OwnL.made (w.alloc (.cells (cellsR 0 0 0 (some ⟨w.heap.size + 1, 0, none⟩, 2, 2)) 39)) w.heap.size 2 (by simp) (by decide)
      simp only [World.size_alloc] at this
      exact this
    · go_enter Try.func18, Try.ntmps18
      go_wp2_with (go_at_call 40; refine (m1 _).mono ?_; rintro e _ ⟨rfl, rfl⟩)
      refine bodyPost_ret (v := .tuple #[ringV 0 0 0 (some ⟨w.heap.size + 1, 0, none⟩, 4, 4), .int .i64 0]) (by simp [results, Try.results18, go_sem]) rfl ⟨_, rfl, ⟨_, rfl, ?_⟩, (Le.alloc _ _).trans (Le.alloc _ _)⟩
      have := OwnL.made (w.alloc (.cells (cellsR 0 0 0 (some ⟨w.heap.size + 1, 0, none⟩, 4, 4)) 39)) w.heap.size 4 (by simp) (by decide)
      simp only [World.size_alloc] at this
      exact this
    · go_enter Try.func18, Try.ntmps18
      go_wp2_with (go_at_call 40; refine (m1 _).mono ?_; rintro e _ ⟨rfl, rfl⟩)
      refine bodyPost_ret (v := .tuple #[ringV 0 0 0 (some ⟨w.heap.size + 1, 0, none⟩, 8, 8), .int .i64 0]) (by simp [results, Try.results18, go_sem]) rfl ⟨_, rfl, ⟨_, rfl, ?_⟩, (Le.alloc _ _).trans (Le.alloc _ _)⟩
      have := OwnL.made (w.alloc (.cells (cellsR 0 0 0 (some ⟨w.heap.size + 1, 0, none⟩, 8, 8)) 39)) w.heap.size 8 (by simp) (by decide)
      simp only [World.size_alloc] at this
      exact this
    · go_enter Try.func18, Try.ntmps18
      go_wp2_with (go_at_call 40; refine (m1 _).mono ?_; rintro e _ ⟨rfl, rfl⟩)
      refine bodyPost_ret (v := .tuple #[ringV 0 0 0 (some ⟨w.heap.size + 1, 0, none⟩, 16, 16), .int .i64 0]) (by simp [results, Try.results18, go_sem]) rfl ⟨_, rfl, ⟨_, rfl, ?_⟩, (Le.alloc _ _).trans (Le.alloc _ _)⟩
      have := OwnL.made (w.alloc (.cells (cellsR 0 0 0 (some ⟨w.heap.size + 1, 0, none⟩, 16, 16)) 39)) w.heap.size 16 (by simp) (by decide)
      simp only [World.size_alloc] at this
      exact this

end Go.Proofs.Ytibleipfablniaa

/-
  THE WALK over package ring's Entry: what it answers, for every ring and number. Condition: that the slots can be copied.
-/
namespace Go.Proofs.Ytibleipfablniaa
open Go.RowKit

/-- Where entry number p stands. -/
def seat (R : Rg) (p : Int) : Nat := (p % R.ss.length).toNat
def entryB (R : Rg) (p : Int) : Bool := hasB R.h R.t p && decide ((R.ss.getD (seat R p) Slt.zero).b = bitAt p R.ss.length)
def entryS (R : Rg) (p : Int) : Slt × Int :=
  if mayR R then (if entryB R p then (R.ss.getD (seat R p) Slt.zero, 0) else (Slt.zero, 1002)) else (Slt.zero, 1000)

theorem seat_lt {R : Rg} {p : Int} (h : mayR R = true) : seat R p < R.ss.length := by
  have := mayR_len h
  have h1 := Int.emod_nonneg p (b := (R.ss.length : Int)) (by omega)
  have h2 := Int.emod_lt_of_pos p (b := (R.ss.length : Int)) (by omega)
  unfold seat
  omega
theorem seat_eq {R : Rg} {p : Int} (h : mayR R = true) (hp : 0 ≤ p) : Int.tmod p R.ss.length = seat R p := by
  have := mayR_len h
  have h1 := Int.emod_nonneg p (b := (R.ss.length : Int)) (by omega)
  rw [Int.tmod_eq_emod_of_nonneg hp]
  unfold seat
  omega

abbrev slotZ : Value := slotV 0 0 0 0 0
theorem Le.put5 {w w' : World} {g : Nat} {a b c d e : Value} (h : Le w w') (hg : w.heap.size ≤ g) :
    Le w (((((w'.setCell ⟨g, 0, none⟩ a).setCell ⟨g, 1, none⟩ b).setCell ⟨g, 2, none⟩ c).setCell ⟨g, 3, none⟩ d).setCell ⟨g, 4, none⟩ e) :=
  ((((h.set hg).set hg).set hg).set hg).set hg
theorem Box.slotF {w : World} {g : Nat} {x y z u v : Value} {t : TypeId} (h : Box w g #[x, y, z, u, v] t) :
    w.frozen? ⟨g, 0, none⟩ = false ∧ w.frozen? ⟨g, 1, none⟩ = false ∧ w.frozen? ⟨g, 2, none⟩ = false ∧ w.frozen? ⟨g, 3, none⟩ = false ∧ w.frozen? ⟨g, 4, none⟩ = false :=
  ⟨h.frozen 0, h.frozen 1, h.frozen 2, h.frozen 3, h.frozen 4⟩

end Go.Proofs.Ytibleipfablniaa

/-
  THE WALK over package ring's Publish: what it answers, for every ring, number, operation and thread. Condition: that the slots can be copied.
-/
namespace Go.Proofs.Ytibleipfablniaa
open Go.RowKit

theorem bitAt_two {p n : Int} : bitAt p n = 0 ∨ bitAt p n = 1 := by unfold bitAt; omega
def threadB (t : Int) : Bool := decide (0 ≤ t) && decide (t < 4)
def pubB (R : Rg) (p c r a t : Int) : Bool := mayR R && hasB R.h R.t p && opUp c r a && threadB t
def publishS (R : Rg) (p c r a t : Int) : Rg × Int :=
  if pubB R p c r a t then (⟨R.h, R.t, R.f, R.ss.set (seat R p) ⟨c, r, a, t, bitAt p R.ss.length⟩⟩, 0) else (Rg.zero, 1000)

theorem flatV_set : ∀ (ss : List Slt) (i : Nat) (s : Slt), i < ss.length →
    ((((((flatV ss).set (i * 5) (.int .i64 s.c)).set (i * 5 + 1) (.int .i64 s.r)).set (i * 5 + 2) (.int .i64 s.a)).set (i * 5 + 3) (.int .i64 s.t)).set (i * 5 + 4) (.int .i64 s.b)) = flatV (ss.set i s)
  | [], i, s, h => by simp at h
  | x :: ss, 0, s, _ => by simp [flatV, Slt.vals]
  | x :: ss, i + 1, s, h => by
    have ih := flatV_set ss i s (by simpa using h)
    simp only [flatV, Slt.vals, List.set_cons_succ]
    rw [← ih]
    have e0 : (i + 1) * 5 = i * 5 + 5 := by omega
    simp only [e0, List.cons_append, List.nil_append, List.set_cons_succ]

/-- A slot written into a row of the call's own. -/
theorem OwnL.put {w : World} {base g n cap i : Nat} {ss : List Slt} {s : Slt} (h : OwnL w base (.slice (some ⟨g, 0, none⟩) n cap) ss) (hi : i < ss.length) :
    OwnL (((((w.setCell ⟨g, i * 5, none⟩ (.int .i64 s.c)).setCell ⟨g, i * 5 + 1, none⟩ (.int .i64 s.r)).setCell ⟨g, i * 5 + 2, none⟩ (.int .i64 s.a)).setCell ⟨g, i * 5 + 3, none⟩ (.int .i64 s.t)).setCell ⟨g, i * 5 + 4, none⟩ (.int .i64 s.b)) base (.slice (some ⟨g, 0, none⟩) n cap) (ss.set i s) := by
  obtain ⟨h1, h2⟩ := h
  refine ⟨by rw [flatV_len], ?_⟩
  rcases h2 with ⟨h2, _⟩ | ⟨g', cap', cur, hv, hg, hh, hn, hm, hs, ht⟩
  · simp at h2
  · simp only [Value.slice.injEq, Option.some.injEq, Addr.mk.injEq] at hv
    obtain ⟨⟨rfl, _⟩, rfl, rfl⟩ := hv
    have hb : Box w g cur 85 := hh
    have hb5 := ((((hb.set (i * 5) (.int .i64 s.c)).set (i * 5 + 1) (.int .i64 s.r)).set (i * 5 + 2) (.int .i64 s.a)).set (i * 5 + 3) (.int .i64 s.t)).set (i * 5 + 4) (.int .i64 s.b)
    refine .inr ⟨g, cap, _, by rw [List.length_set], hg, hb5, by rw [List.length_set]; exact hn, hm, by simp [hs], ?_⟩
    rw [List.length_set, ← flatV_set ss i s hi, ← ht]
    simp [List.take_set]

/-- The five cells of slot i of a row of the call's own. -/
theorem OwnL.cell {w : World} {base g n cap i : Nat} {ss : List Slt} (h : OwnL w base (.slice (some ⟨g, 0, none⟩) n cap) ss) (hi : i < ss.length) :
    SlotAt w g (i * 5) (ss.getD i Slt.zero) ∧ (∀ j, w.frozen? ⟨g, j, none⟩ = false) := by
  have h0 := h.has
  obtain ⟨h1, h2⟩ := h
  rcases h2 with ⟨h2, _⟩ | ⟨g', cap', cur, hv, hg, hh, hn, hm, hs, ht⟩
  · simp at h2
  · simp only [Value.slice.injEq, Option.some.injEq, Addr.mk.injEq] at hv
    obtain ⟨⟨rfl, _⟩, rfl, rfl⟩ := hv
    have hb : Box w g cur 85 := hh
    refine ⟨?_, fun j => hb.frozen j⟩
    obtain ⟨a, cap', hv', _, _, hx⟩ := h0
    obtain ⟨b, off, ha, hc⟩ := hx (by omega)
    subst ha
    simp only [Value.slice.injEq, Option.some.injEq, Addr.mk.injEq] at hv'
    obtain ⟨⟨rfl, rfl, _⟩, _, rfl⟩ := hv'
    have := hc i hi
    rw [Nat.zero_add] at this
    exact this

theorem OwnL.shape {w : World} {base : Nat} {u : Sl} {ss : List Slt} (h : OwnL w base (slV u) ss) (hn : 0 < ss.length) : ∃ g cap, u = (some ⟨g, 0, none⟩, ss.length, cap) ∧ base ≤ g ∧ ss.length ≤ cap := by
  obtain ⟨a, n, c⟩ := u
  rcases h.2 with ⟨_, h0⟩ | ⟨g, cap, cur, hv, hg, _, hn, _, _, _⟩
  · omega
  · simp only [slV, Value.slice.injEq] at hv
    obtain ⟨rfl, rfl, rfl⟩ := hv
    exact ⟨g, _, rfl, hg, hn⟩

end Go.Proofs.Ytibleipfablniaa

/-
  THE WALKS over the document's own upTo and OperMay: what they answer, for every operation. No condition.
-/
namespace Go.Proofs.Ytibleipfablniaa
open Go.RowKit

theorem in_yes {a x b : Int} (h : a ≤ x) (k : x ≤ b) : (decide (a ≤ x) && decide (x ≤ b)) = true := by simp [h, k]
theorem in_no {a x b : Int} (h : x < a ∨ b < x) : (decide (a ≤ x) && decide (x ≤ b)) = false := by simp; omega

end Go.Proofs.Ytibleipfablniaa

/-
  THE WALKS over the document's own SlotsMay, cellMay, Bit and Alive: what each answers, for every number and every slot. No condition.
-/
namespace Go.Proofs.Ytibleipfablniaa
open Go.RowKit

theorem refSlotsMay (n : Int) (w : World) : Calls Try.prog 34 #[.int .i64 n] w fun e w' => e = .returned (.bool (slotsB n)) ∧ w = w' := by
  rcases (by omega : n = 2 ∨ n = 4 ∨ n = 8 ∨ n = 16 ∨ (n ≠ 2 ∧ n ≠ 4 ∧ n ≠ 8 ∧ n ≠ 16)) with rfl | rfl | rfl | rfl | ⟨h1, h2, h3, h4⟩
  iterate 4
    · go_enter Try.func34, Try.ntmps34
      go_wp2
      go_ret
      exact ⟨ret_bool (by decide), rfl⟩
  · go_enter Try.func34, Try.ntmps34
    go_wp2
    go_ret
    exact ⟨ret_bool (by simp [slotsB, h1, h2, h3, h4]), rfl⟩

end Go.Proofs.Ytibleipfablniaa

/-
  THE WALKS over the document's own Updates, threadMay, CopyRing, NewRing, RingMay: what each answers, for every ring. Condition: where memory is made, that the slots can be copied.
-/
namespace Go.Proofs.Ytibleipfablniaa
open Go.RowKit

/-- No slots, in a block of their own. -/
theorem OwnL.lit0 (w : World) (base : Nat) (hb : base ≤ w.heap.size) : OwnL (w.alloc (.cells #[] 85)) base (.slice (some ⟨w.heap.size, 0, none⟩) 0 0) [] := by
  have := World.ownsRow_lit (e := 85) (size := 5) w #[] 0 hb (by unfold maxLen; omega) (by simp)
  exact OwnL.of this rfl rfl

end Go.Proofs.Ytibleipfablniaa

/-
  THE WALK over choruslaw0.SameInts: are they the same numbers, for every two slices. No condition but that a slice's length is a number.
-/
namespace Go.Proofs.Ytibleipfablniaa
open Go.RowKit

theorem take_same {xs ys : List Int} {k : Nat} (h1 : k < xs.length) (h2 : k < ys.length) (h : xs.take k = ys.take k) (he : xs.getD k 0 = ys.getD k 0) : xs.take (k + 1) = ys.take (k + 1) := by
  rw [List.take_succ_eq_append_getElem h1, List.take_succ_eq_append_getElem h2, h]
  simp [List.getD, h1, h2] at he
  rw [he]

theorem ne_of_at {xs ys : List Int} {k : Nat} (he : ¬ xs.getD k 0 = ys.getD k 0) : ¬ xs = ys := fun h => he (by rw [h])

set_option maxHeartbeats 400000 in
theorem lawSameInts (v u : Value) (xs ys : List Int) (w : World) (hx : Has w v xs) (hy : Has w u ys) (hm : xs.length ≤ 9223372036854775807) :
    Calls Try.prog 10 #[v, u] w fun e w' => e = .returned (.bool (decide (xs = ys))) ∧ ∃ n, w' = w.drewN n := by
  obtain ⟨a, cap, rfl, hc, _, hx⟩ := hx
  obtain ⟨c, cap', rfl, hc', _, hy⟩ := hy
  by_cases hl : xs.length = ys.length
  · by_cases h0 : 0 < xs.length
    · obtain ⟨b, off, rfl, hcell⟩ := hx h0
      obtain ⟨b', off', rfl, hcell'⟩ := hy (by omega)
      have HL : Hid (xs.length = ys.length) := hl
      obtain ⟨L, hL⟩ : ∃ L, L = xs.length := ⟨_, rfl⟩
      rw [← hL] at hm ⊢
      have hL' : ys.length = L := by omega
      rw [hL']
      have HLx : Hid (xs.length = L) := hL.symm
      have HLy : Hid (ys.length = L) := hL'
      rw [← hL] at hcell h0 hc
      rw [hL'] at hcell' hc'
      clear hl hx hy hL hL'
      go_enter Try.func10, Try.ntmps10
      go_wp2
      go_loopw [5] (fun i wr => ∃ k n : Nat, k ≤ L ∧ i = .int .i64 k ∧ Hid (xs.take k = ys.take k) ∧ wr = w.drewN n) (fun i _ => L - (intOf i).toNat)
      case atStart => exact ⟨0, 0, Nat.zero_le _, rfl, rfl, rfl⟩
      case round =>
        obtain ⟨k, n, hk, rfl, HT, rfl⟩ := hrel
        by_cases hlt : k < L
        · obtain ⟨x, hxk⟩ : ∃ x, x = xs.getD k 0 := ⟨_, rfl⟩
          have hck : w.cell? ⟨b, off + k, none⟩ = some (.int .i64 x) := by rw [hxk]; exact hcell k hlt
          obtain ⟨y, hyk⟩ : ∃ y, y = ys.getD k 0 := ⟨_, rfl⟩
          have hck' : w.cell? ⟨b', off' + k, none⟩ = some (.int .i64 y) := by rw [hyk]; exact hcell' k hlt
          have HX : Hid (x = xs.getD k 0) := hxk
          have HY : Hid (y = ys.getD k 0) := hyk
          have hlt' : (k : Int) < (L : Int) := by omega
          clear hxk hyk hcell hcell'
          by_cases hxy : x = y
          · subst hxy
            go_wp2
            go_quiet (fail)
            go_wp2
            go_roundw
            case rel => exact ⟨k + 1, n + nq, by omega, by go_num, take_same (by have := HLx.out; omega) (by have := HLy.out; omega) HT.out (by rw [← HX.out, ← HY.out]), rfl⟩
            case measure => simp [intOf]; omega
          · have hne : (x != y) = true := by simp [hxy]
            have HN : Hid (¬ x = y) := hxy
            clear hxy
            go_wp2
            go_quiet (fail)
            go_wp2
            go_ret
            exact ⟨ret_bool (by have := ne_of_at (k := k) (xs := xs) (ys := ys) (by rw [← HX.out, ← HY.out]; exact HN.out); simp [this]), n + nq, World.drewN_drewN _ _ _⟩
        · go_wp2
          go_ret
          refine ⟨ret_bool ?_, _, rfl⟩
          have h1 := HLx.out
          have h2 := HLy.out
          have := HT.out
          rw [List.take_of_length_le (by omega), List.take_of_length_le (by omega)] at this
          simp [this]
    · have hxn : xs = [] := by cases xs with | nil => rfl | cons _ _ => simp at h0
      have hyn : ys = [] := by cases ys with | nil => rfl | cons _ _ => subst hxn; simp at hl
      subst hxn hyn
      go_enter Try.func10, Try.ntmps10
      go_wp2
      refine wp_loop_rounds 1 ?_
      rw [rounds_succ]
      go_wp2
      go_ret
      exact ⟨ret_bool (by simp), 0, rfl⟩
  · have hne : (((xs.length : Int)) != (ys.length : Int)) = true := by simp; omega
    have HN : Hid (¬ xs = ys) := fun h => hl (by rw [h])
    clear hl
    go_enter Try.func10, Try.ntmps10
    go_wp2
    go_ret
    exact ⟨ret_bool (by have := HN.out; simp [this]), 0, rfl⟩

end Go.Proofs.Ytibleipfablniaa
