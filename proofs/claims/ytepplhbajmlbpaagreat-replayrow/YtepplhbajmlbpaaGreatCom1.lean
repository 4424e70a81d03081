/-
  PARTS LAID TOGETHER, each with its own opening: Base, Ground, NumA, OpMay, SlA, Slc, StA, RgA, McA, CfA, OperA, RgB, RgC, RgE, RgF, RefMay, RefSl, RfA, SameA, LwA, McB, Later, StB, Obj, Sts, StoreA, StoreB, StoreC, Ins, InsA, FdsA, App, StPut2, Cnt.
-/
import Derived.Test.YtepplhbajmlbpaaGreatRows
import Derived.WalkKit
import Derived.WalkSpells
import Derived.WalkLawsBesides
import Derived.Deep.QuietTactic
import Derived.BigQuiet
import Derived.Laws.AppendOwnNone
import Derived.Lib.SliceRun
import Derived.Maps.AppendAt
import Derived.Deep.Cut
import Derived.Deep.RegionHeld3
import Derived.Shelf.Spec.SlicesInsertGrow
import Derived.Deep.RegionLaw
namespace Go.Proofs.YtepplhbajmlbpaaGreat
open Go.RowKit
def Has (w : World) (v : Value) (xs : List Int) : Prop :=
 ∃ (a : Option Addr) (cap : Nat), v = .slice a xs.length cap ∧ xs.length ≤ cap ∧ (a = none → cap = 0) ∧
   (0 < xs.length → ∃ b off, a = some ⟨b, off, none⟩ ∧ ∀ i, i < xs.length → w.cell? ⟨b, off + i, none⟩ = some (.int .i64 (xs.getD i 0)))
def Own (w : World) (base : Nat) (v : Value) (xs : List Int) : Prop :=
 w.ownsRow base 3 1 v xs.length (xs.map (Value.int .i64))
theorem block_lt {w : World} {g : Nat} {o : Obj} (h : w.heap[g]? = some o) : g < w.heap.size := by
 rcases Nat.lt_or_ge g w.heap.size with h' | h'
 ·exact h'
 ·rw [Array.getElem?_eq_none h'] at h; cases h
theorem Has.later {w w' : World} {v : Value} {xs : List Int} (h : Has w v xs) (hb : Below w.heap.size w w') : Has w' v xs := by
 obtain ⟨a, cap, hv, hc, hn, hx⟩ := h
 refine ⟨a, cap, hv, hc, hn, fun hp => ?_⟩
 obtain ⟨b, off, ha, hcell⟩ := hx hp
 refine ⟨b, off, ha, fun i hi => ?_⟩
 have h1 := hcell i hi
 have hlt : b < w.heap.size := World.block_lt_of_cell? w _ h1
 rw [hb.cell (p := ⟨b, off + i, none⟩) hlt]; exact h1
theorem Own.later {w w' : World} {base : Nat} {v : Value} {xs : List Int} (h : Own w base v xs) (hb : Below w.heap.size w w') : Own w' base v xs := by
 obtain ⟨h1, h2⟩ := h
 refine ⟨h1, ?_⟩
 rcases h2 with h2 | ⟨g, cap, cur, hv, hg, hh, r⟩
 ·exact .inl h2
 ·exact .inr ⟨g, cap, cur, hv, hg, by rw [hb.block g (block_lt hh)]; exact hh, r⟩
theorem Own.base {w : World} {base base' : Nat} {v : Value} {xs : List Int} (h : Own w base v xs) (hb : base' ≤ base) : Own w base' v xs := by
 obtain ⟨h1, h2⟩ := h
 refine ⟨h1, ?_⟩
 rcases h2 with h2 | ⟨g, cap, cur, hv, hg, r⟩
 ·exact .inl h2
 ·exact .inr ⟨g, cap, cur, hv, by omega, r⟩
theorem Own.has {w : World} {base : Nat} {v : Value} {xs : List Int} (h : Own w base v xs) : Has w v xs := by
 have h' := h
 obtain ⟨h1, h2⟩ := h
 rcases h2 with ⟨h2, h3⟩ | ⟨g, cap, cur, hv, hg, hh, hn, hm, hs, ht⟩
 ·have : xs = [] := by cases xs with | nil => rfl | cons _ _ => simp at h3
  subst this
  exact ⟨none, 0, h2, Nat.le_refl _, fun _ => rfl, fun hp => by simp at hp⟩
 ·refine ⟨some ⟨g, 0, none⟩, cap, hv, hn, (fun h => by cases h), fun _ => ⟨g, 0, rfl, fun i hi => ?_⟩⟩
  rw [hv] at h'
  have := World.ownsRow.cellAt h' i (by omega)
  rw [Nat.zero_add, this]
  simp [List.getElem?_map, List.getElem?_eq_getElem hi, List.getD]
theorem Has.nil (w : World) : Has w (.slice none 0 0) [] := ⟨none, 0, rfl, Nat.le_refl _, fun _ => rfl, fun h => by simp at h⟩
def holdB (x : Int) : Bool := decide (0 ≤ x) && decide (x ≤ 1048576)
theorem ret_bool {a b : Bool} (h : a = b) : Ending.returned (.bool a) = .returned (.bool b) := by rw [h]
def Le (w w' : World) : Prop := Below w.heap.size w w'
theorem Le.refl (w : World) : Le w w := Below.refl _ _
theorem Le.trans {a b c : World} (h : Le a b) (k : Le b c) : Le a c := Below.trans h (Below.mono k h.size)
theorem Le.alloc (w : World) (o : Obj) : Le w (w.alloc o) := (Below.refl _ _).alloc (Nat.le_refl _) _
theorem Le.drew (w : World) : Le w w.drew := (Below.refl _ _).drew
theorem Le.drewN (w : World) (n : Nat) : Le w (w.drewN n) := below_drewN (Below.refl _ _) n
theorem Has.le {w w' : World} {v : Value} {xs : List Int} (h : Has w v xs) (hl : Le w w') : Has w' v xs := h.later hl
theorem Own.le {w w' : World} {base : Nat} {v : Value} {xs : List Int} (h : Own w base v xs) (hl : Le w w') : Own w' base v xs := h.later hl
def Box (w : World) (g : Nat) (cs : Array Value) (t : TypeId) : Prop := w.heap[g]? = some (.cells cs t (0, 0))
theorem Box.lt {w : World} {g : Nat} {cs : Array Value} {t : TypeId} (h : Box w g cs t) : g < w.heap.size := block_lt h
theorem Box.le {w w' : World} {g : Nat} {cs : Array Value} {t : TypeId} (h : Box w g cs t) (hl : Le w w') : Box w' g cs t := by
 have := hl.block g h.lt
 unfold Box
 rw [this]
 exact h
theorem Box.new (w : World) (cs : Array Value) (t : TypeId) : Box (w.alloc (.cells cs t)) w.heap.size cs t := heap_alloc_new w _
theorem Box.cell {w : World} {g : Nat} {cs : Array Value} {t : TypeId} (h : Box w g cs t) (i : Nat) : w.cell? ⟨g, i, none⟩ = cs[i]? := cell_of_row w g i cs t (0, 0) h
theorem Box.frozen {w : World} {g : Nat} {cs : Array Value} {t : TypeId} (h : Box w g cs t) (i : Nat) : w.frozen? ⟨g, i, none⟩ = false := by
 unfold World.frozen?
 rw [show w.heap[(⟨g, i, none⟩ : Addr).block]? = some (.cells cs t (0, 0)) from h]
 simp
theorem Box.op {w : World} {g : Nat} {x y z : Value} {t : TypeId} (h : Box w g #[x, y, z] t) :
   w.cell? ⟨g, 0, none⟩ = some x ∧ w.cell? ⟨g, 1, none⟩ = some y ∧ w.cell? ⟨g, 2, none⟩ = some z ∧
   w.frozen? ⟨g, 0, none⟩ = false ∧ w.frozen? ⟨g, 1, none⟩ = false ∧ w.frozen? ⟨g, 2, none⟩ = false :=
 ⟨h.cell 0, h.cell 1, h.cell 2, h.frozen 0, h.frozen 1, h.frozen 2⟩
set_option maxHeartbeats 400000 in
theorem lawNum (x : Int) (w : World) : Calls Tryz.prog 12 #[.int .i64 x] w fun e w' => e = .returned (.int .i64 x) ∧ w = w' := by
 go_enter Tryz.func12, Tryz.ntmps12
 go_wp2
 go_ret
 exact ⟨rfl, rfl⟩
abbrev opV (c r a : Int) : Value := .agg #[.int .i64 c, .int .i64 r, .int .i64 a]
def opMay (c r a : Int) : Bool := decide (0 ≤ r) && decide (r < 4) && decide (0 ≤ a) && decide (a ≤ 255) && (decide (c = 0) || decide (c = 1) || (decide (c = 2) && decide (a = 0)) || (decide (c = 3) && decide (r = 0) && decide (a = 0)))
def opUp (c r a : Int) : Bool := opMay c r a && (decide (c = 0) || decide (c = 1))
theorem beq_int (a b : Int) : (a == b) = decide (a = b) := by rw [Bool.eq_iff_iff]; simp
set_option maxHeartbeats 2000000 in
theorem operMay (c r a : Int) (w : World) :
   Calls Tryz.prog 134 #[opV c r a] w fun e w' => e = .returned (.bool (opMay c r a)) ∧ Le w w' := by
 rcases (by omega : r < 0 ∨ 4 ≤ r ∨ a < 0 ∧ 0 ≤ r ∧ r < 4 ∨ 255 < a ∧ 0 ≤ r ∧ r < 4 ∨ 0 ≤ r ∧ r < 4 ∧ 0 ≤ a ∧ a ≤ 255) with h | h | ⟨h, h', h''⟩ | ⟨h, h', h''⟩ | ⟨h1, h2, h3, h4⟩
 iterate 4
   ·go_enter Tryz.func134, Tryz.ntmps134
    go_wp2
    go_ret
    exact ⟨ret_bool (by simp [opMay]; omega), Le.alloc _ _⟩
 rcases (by omega : c = 0 ∨ c = 1 ∨ c = 2 ∨ c = 3 ∨ (c ≠ 0 ∧ c ≠ 1 ∧ c ≠ 2 ∧ c ≠ 3)) with h | h | h | h | ⟨h5, h6, h7, h8⟩
 iterate 3
   ·subst h
    go_enter Tryz.func134, Tryz.ntmps134
    go_wp2
    go_ret
    exact ⟨ret_bool (by simp [opMay, h1, h2, h3, h4, beq_int]), Le.alloc _ _⟩
 ·subst h
  by_cases hr : r = 0
  all_goals
    go_enter Tryz.func134, Tryz.ntmps134
    go_wp2
    go_ret
    exact ⟨ret_bool (by simp [opMay, h1, h2, h3, h4, hr, beq_int]), Le.alloc _ _⟩
 ·go_enter Tryz.func134, Tryz.ntmps134
  go_wp2
  go_ret
  exact ⟨ret_bool (by simp [opMay, h5, h6, h7, h8]), Le.alloc _ _⟩
theorem ret_pair {a b : Value} {c d : Value} (h : a = b) (k : c = d) : Ending.returned (.tuple #[a, c]) = .returned (.tuple #[b, d]) := by rw [h, k]
def slotsB (n : Int) : Bool := decide (n = 2) || decide (n = 4) || decide (n = 8) || decide (n = 16)
theorem slotsB_cases {n : Int} (h : slotsB n = true) : n = 2 ∨ n = 4 ∨ n = 8 ∨ n = 16 := by simp [slotsB] at h; omega
theorem holdB_cases {x : Int} (h : holdB x = true) : 0 ≤ x ∧ x ≤ 1048576 := by simp [holdB] at h; omega
def bitAt (p n : Int) : Int := 1 - p / n % 2
def bitS (p n : Int) : Int × Int := if slotsB n && holdB p then (bitAt p n, 0) else (0, 900)
def aliveS (b p n : Int) : Bool × Int := if slotsB n && holdB p then (decide (b = bitAt p n), 0) else (false, 900)
theorem bitS_yes {p n : Int} (h : slotsB n = true) (k : holdB p = true) : bitS p n = (bitAt p n, 0) := by simp [bitS, h, k]
theorem bitS_no {p n : Int} (h : slotsB n = false ∨ holdB p = false) : bitS p n = (0, 900) := by rcases h with h | h <;> simp [bitS, h]
theorem aliveS_yes {b p n : Int} (h : slotsB n = true) (k : holdB p = true) : aliveS b p n = (decide (b = bitAt p n), 0) := by simp [aliveS, h, k]
theorem aliveS_no {b p n : Int} (h : slotsB n = false ∨ holdB p = false) : aliveS b p n = (false, 900) := by rcases h with h | h <;> simp [aliveS, h]
abbrev slotV (c r a t b : Int) : Value := .agg #[.int .i64 c, .int .i64 r, .int .i64 a, .int .i64 t, .int .i64 b]
theorem Box.slot {w : World} {g : Nat} {x y z u v : Value} {t : TypeId} (h : Box w g #[x, y, z, u, v] t) :
   w.cell? ⟨g, 0, none⟩ = some x ∧ w.cell? ⟨g, 1, none⟩ = some y ∧ w.cell? ⟨g, 2, none⟩ = some z ∧ w.cell? ⟨g, 3, none⟩ = some u ∧ w.cell? ⟨g, 4, none⟩ = some v :=
 ⟨h.cell 0, h.cell 1, h.cell 2, h.cell 3, h.cell 4⟩
theorem slotMaySlots (n : Int) (w : World) : Calls Tryz.prog 140 #[.int .i64 n] w fun e w' => e = .returned (.bool (slotsB n)) ∧ w = w' := by
 rcases (by omega : n = 2 ∨ n = 4 ∨ n = 8 ∨ n = 16 ∨ (n ≠ 2 ∧ n ≠ 4 ∧ n ≠ 8 ∧ n ≠ 16)) with rfl | rfl | rfl | rfl | ⟨h1, h2, h3, h4⟩
 iterate 4
   ·go_enter Tryz.func140, Tryz.ntmps140
    go_wp2
    go_ret
    exact ⟨ret_bool (by decide), rfl⟩
 ·go_enter Tryz.func140, Tryz.ntmps140
  go_wp2
  go_ret
  exact ⟨ret_bool (by simp [slotsB, h1, h2, h3, h4]), rfl⟩
theorem slotMayAt (x : Int) (w : World) : Calls Tryz.prog 141 #[.int .i64 x] w fun e w' => e = .returned (.bool (holdB x)) ∧ w = w' := by
 by_cases h : 0 ≤ x
 all_goals
   go_enter Tryz.func141, Tryz.ntmps141
   go_wp2
   go_ret
   exact ⟨ret_bool (by simp [holdB]; try omega), rfl⟩
theorem ret_two {a b c d : Int} (h : a = b) (k : c = d) : Ending.returned (.tuple #[.int .i64 a, .int .i64 c]) = .returned (.tuple #[.int .i64 b, .int .i64 d]) := by rw [h, k]
set_option maxHeartbeats 1000000 in
theorem slotBit (p n : Int) (w : World) :
   Calls Tryz.prog 113 #[.int .i64 p, .int .i64 n] w fun e w' => e = .returned (.tuple #[.int .i64 (bitS p n).1, .int .i64 (bitS p n).2]) ∧ w = w' := by
 have h1 := fun w' => slotMaySlots n w'
 have h2 := fun w' => slotMayAt p w'
 cases hn : slotsB n
 ·rw [bitS_no (.inl hn)]
  rw [hn] at h1
  go_enter Tryz.func113, Tryz.ntmps113
  go_wp2_with (first | (go_at_call 140; refine (h1 _).mono ?_; rintro e _ ⟨rfl, rfl⟩) | (go_at_call 141; refine (h2 _).mono ?_; rintro e _ ⟨rfl, rfl⟩))
  go_ret2
  exact ⟨rfl, rfl⟩
 cases hp : holdB p
 ·rw [bitS_no (.inr hp)]
  rw [hn] at h1
  rw [hp] at h2
  go_enter Tryz.func113, Tryz.ntmps113
  go_wp2_with (first | (go_at_call 140; refine (h1 _).mono ?_; rintro e _ ⟨rfl, rfl⟩) | (go_at_call 141; refine (h2 _).mono ?_; rintro e _ ⟨rfl, rfl⟩))
  go_ret2
  exact ⟨rfl, rfl⟩
 rw [bitS_yes hn hp]
 rw [hn] at h1
 rw [hp] at h2
 obtain ⟨p0, p1⟩ := holdB_cases hp
 rcases slotsB_cases hn with rfl | rfl | rfl | rfl
 all_goals
   clear hn hp
   go_enter Tryz.func113, Tryz.ntmps113
   go_wp2_with (first | (go_at_call 140; refine (h1 _).mono ?_; rintro e _ ⟨rfl, rfl⟩) | (go_at_call 141; refine (h2 _).mono ?_; rintro e _ ⟨rfl, rfl⟩))
   go_ret2
   refine ⟨ret_two ?_ rfl, rfl⟩
   unfold bitAt
   omega
set_option maxHeartbeats 1000000 in
theorem slotAlive (c r a t b p n : Int) (w : World) :
   Calls Tryz.prog 72 #[slotV c r a t b, .int .i64 p, .int .i64 n] w fun e w' => e = .returned (.tuple #[.bool (aliveS b p n).1, .int .i64 (aliveS b p n).2]) ∧ Le w w' := by
 have h1 := fun w' => slotBit p n w'
 by_cases hy : slotsB n = true ∧ holdB p = true
 ·rw [aliveS_yes hy.1 hy.2]
  rw [bitS_yes hy.1 hy.2] at h1
  generalize bitAt p n = q at h1 ⊢
  clear hy
  go_enter Tryz.func72, Tryz.ntmps72
  go_wp2_with (go_at_call 113; refine (h1 _).mono ?_; rintro e _ ⟨rfl, rfl⟩)
  go_ret2
  exact ⟨ret_pair (by simp [beq_int]) rfl, Le.alloc _ _⟩
 ·have hy' : slotsB n = false ∨ holdB p = false := by
    cases h : slotsB n <;> cases k : holdB p <;> simp_all
  rw [aliveS_no hy']
  rw [bitS_no hy'] at h1
  clear hy hy'
  go_enter Tryz.func72, Tryz.ntmps72
  go_wp2_with (go_at_call 113; refine (h1 _).mono ?_; rintro e _ ⟨rfl, rfl⟩)
  go_ret2
  exact ⟨rfl, Le.alloc _ _⟩
theorem info3 : (Tryz.prog.info? 3).map (fun i => (i.zero, i.size, i.bytes)) = some (some (.int .i64 0), 1, 8) := by kernel_rfl
theorem add_plain (b off j : Nat) : (⟨b, off, none⟩ : Addr).add j = ⟨b, off + j, none⟩ := by
 simp only [Addr.add]; split
 ·next h => subst h; rfl
 ·rfl
theorem ints_at_news {w : World} {xs : List Int} {b off : Nat} (h : ∀ i, i < xs.length → w.cell? ⟨b, off + i, none⟩ = some (.int .i64 (xs.getD i 0))) :
   ∀ j u, (xs.map (Value.int .i64))[j]? = some u → w.cell? ((⟨b, off, none⟩ : Addr).add j) = some u := by
 intro j u hj
 rw [List.getElem?_map] at hj
 have hlt : j < xs.length := by
   rcases Nat.lt_or_ge j xs.length with h' | h'
   ·exact h'
   ·rw [List.getElem?_eq_none h'] at hj; cases hj
 have h1 := h j hlt
 rw [add_plain, h1]
 rw [List.getElem?_eq_getElem hlt] at hj
 simpa [List.getD, hlt] using hj
theorem Has.cells {w : World} {a : Addr} {n cap : Nat} {xs : List Int} (h : Has w (.slice (some a) n cap) xs) :
   ∀ j u, (xs.map (Value.int .i64))[j]? = some u → w.cell? (a.add j) = some u := by
 obtain ⟨a', cap', hv, hc, hn, hx⟩ := h
 simp only [Value.slice.injEq] at hv
 obtain ⟨rfl, rfl, rfl⟩ := hv
 intro j u hj
 have hlt : j < xs.length := by
   rcases Nat.lt_or_ge j xs.length with h' | h'
   ·exact h'
   ·rw [List.getElem?_eq_none (by simpa using h')] at hj; cases hj
 obtain ⟨b, off, ha, hcell⟩ := hx (by omega)
 simp only [Option.some.injEq] at ha
 subst ha
 exact ints_at_news hcell j u hj
theorem Own.of {w : World} {base n : Nat} {v : Value} {xs : List Int} {us : List Value} (h : w.ownsRow base 3 1 v n us) (hn : n = xs.length) (hu : us = xs.map (Value.int .i64)) : Own w base v xs := by
 subst hn hu; exact h
theorem Own.nil (w : World) (base : Nat) : Own w base (.slice none 0 0) [] := World.ownsRow_nil _ _ _ _
theorem Own.lit (w : World) (base : Nat) (hb : base ≤ w.heap.size) (xs : List Int) (hl : xs.length ≤ 1000) : Own (w.alloc (.cells (xs.map (Value.int .i64)).toArray 3)) base (.slice (some ⟨w.heap.size, 0, none⟩) xs.length xs.length) xs := by
 have := World.ownsRow_lit (e := 3) (size := 1) w (xs.map (Value.int .i64)).toArray xs.length hb (by unfold maxLen; omega) (by simp)
 exact Own.of this rfl (by simp)
theorem wp_append_ints {ops : Array Oper} {rest : List Oper} {o : Oper} {a : Act} {Q : Exit → Act → World → Prop} {w : World} (hgd : o.guard = none) (s x : Operand)
   (ho : o.op = .call { callee := .builtin .append, args := #[s, x], argTypes := #[41, 41] }) (base : Nat) (v u : Value) (xs ys : List Int)
   (hs : a.eval s = v) (hx : a.eval x = u) (hown : Own w base v xs) (hu : Has w u ys) (hr : (xs.length + ys.length) * 8 ≤ 140737488355328) (hbase : base ≤ w.heap.size)
   (h : ∀ v' w', Own w' base v' (xs ++ ys) → w.grownBy w' v.ownBlock → wpList Tryz.prog ops Q rest (a.put o.dst v') w') : wpList Tryz.prog ops Q (o :: rest) a w := by
 obtain ⟨i0, hi, hz0, hz1, hz2⟩ := info_parts info3
 have hu0 := hu
 obtain ⟨ad, cap, rfl, hc, hn, _⟩ := hu
 cases ad with
 | none =>
   have h0 := hn rfl
   have hnil : ys = [] := by cases ys with | nil => rfl | cons _ _ => simp at hc; omega
   subst hnil h0
   refine wpList_append_own_none hgd s x 41 ho base 3 i0 1 Tryz.underlying41 hi v _ _ hs hown hx ?_
   exact h _ _ (by simpa using hown) (World.grownBy.refl _ _)
 | some ad =>
   refine wpList_append_own w hgd s x 41 ho base 3 i0 (.int .i64 0) 1 8 Tryz.underlying41 hi hz0 hz1 hz2 rfl (by decide) v _ _ hs hown ad ys.length cap (ys.map (Value.int .i64)) hx (by simp) hu0.cells (ints_oneCell _ _) (by unfold maxLen; omega) hr hbase ?_
   intro v' w' h1 h2 _
   exact h _ _ (Own.of h1 (by simp) (by simp)) h2
theorem row_shape {w : World} {base n : Nat} {v : Value} {us : List Value} (h : w.ownsRow base 3 1 v n us) (hn : 0 < n) : ∃ g cap, v = .slice (some ⟨g, 0, none⟩) n cap ∧ n ≤ cap ∧ base ≤ g ∧ cap ≤ maxLen := by
 rcases h.2 with ⟨_, h0⟩ | ⟨g, cap, cur, hv, hg, _, hn, hm, _⟩
 ·omega
 ·exact ⟨g, cap, hv, hn, hg, hm⟩
theorem grownBy_trans {a b c : World} {row : Option Nat} (h : a.grownBy b row) (k : b.grownBy c row) : a.grownBy c row :=
 ⟨k.os.trans h.os, k.tape.trans h.tape, k.output.trans h.output, Nat.le_trans h.size k.size, fun i hi hne => (k.block i (Nat.lt_of_lt_of_le hi h.size) hne).trans (h.block i hi hne)⟩
def Ints (w : World) (base : Nat) (v : Value) : Prop :=
 ∃ (a : Option Addr) (n cap : Nat), v = .slice a n cap ∧ n ≤ cap ∧ n ≤ 9223372036854775807 ∧
   (0 < n → ∃ b off, a = some ⟨b, off, none⟩ ∧ base ≤ b ∧ ∀ i, i < n → (∃ x, w.cell? ⟨b, off + i, none⟩ = some (.int .i64 x)) ∧ w.frozen? ⟨b, off + i, none⟩ = false)
theorem Own.ints {w : World} {base : Nat} {v : Value} {xs : List Int} (h : Own w base v xs) : Ints w base v := by
 rcases Nat.eq_zero_or_pos xs.length with h0 | h0
 ·obtain ⟨a, cap, hv, hc, _, _⟩ := h.has
  exact ⟨a, xs.length, cap, hv, hc, by omega, fun hp => by omega⟩
 ·obtain ⟨g, cap, rfl, hn, hg, hcm⟩ := row_shape h h0
  unfold maxLen at hcm
  refine ⟨_, xs.length, cap, rfl, hn, by omega, fun _ => ⟨g, 0, rfl, hg, fun i hi => ?_⟩⟩
  refine ⟨⟨xs.getD i 0, ?_⟩, ?_⟩
  ·rw [Nat.zero_add, World.ownsRow.cellAt (show w.ownsRow base 3 1 _ _ _ from h) i (by omega)]
   simp [List.getElem?_map, List.getElem?_eq_getElem hi, List.getD]
  ·rw [Nat.zero_add]; exact World.ownsRow.frozenAt (show w.ownsRow base 3 1 _ _ _ from h) i
structure St where
 r0 : List Int
 r1 : List Int
 r2 : List Int
 r3 : List Int
deriving DecidableEq
def St.at (s : St) : Nat → List Int
 | 0 => s.r0
 | 1 => s.r1
 | 2 => s.r2
 | _ => s.r3
def St.put (s : St) (i : Nat) (x : List Int) : St :=
 match i with
 | 0 => { s with r0 := x }
 | 1 => { s with r1 := x }
 | 2 => { s with r2 := x }
 | _ => { s with r3 := x }
def St.zero : St := ⟨[], [], [], []⟩
theorem St.ext_at {s t : St} (h : ∀ i, i < 4 → s.at i = t.at i) : s = t := by
 obtain ⟨a, b, c, d⟩ := s
 obtain ⟨a', b', c', d'⟩ := t
 have h0 := h 0 (by omega)
 have h1 := h 1 (by omega)
 have h2 := h 2 (by omega)
 have h3 := h 3 (by omega)
 simp only [St.at] at h0 h1 h2 h3
 subst h0 h1 h2 h3
 rfl
theorem four {i : Nat} (h : i < 4) : i = 0 ∨ i = 1 ∨ i = 2 ∨ i = 3 := by omega
theorem St.at_put {s : St} {i j : Nat} {x : List Int} (hi : i < 4) (hj : j < 4) : (s.put i x).at j = if j = i then x else s.at j := by
 rcases four hi with rfl | rfl | rfl | rfl <;> rcases four hj with rfl | rfl | rfl | rfl <;> simp [St.put, St.at]
theorem St.at_zero (i : Nat) : St.zero.at i = [] := by
 unfold St.at St.zero; split <;> rfl
abbrev Sl := Option Addr × Nat × Nat
abbrev slV (q : Sl) : Value := .slice q.1 q.2.1 q.2.2
abbrev slZ : Sl := (none, 0, 0)
theorem Has.sl {w : World} {v : Value} {xs : List Int} (h : Has w v xs) : ∃ q : Sl, v = slV q := by
 obtain ⟨a, cap, hv, _⟩ := h; exact ⟨(a, _, cap), hv⟩
abbrev cells4 (vs : Nat → Sl) : Array Value := #[slV (vs 0), slV (vs 1), slV (vs 2), slV (vs 3)]
theorem cells4_at (vs : Nat → Sl) {i : Nat} (h : i < 4) : (cells4 vs)[i]? = some (slV (vs i)) := by
 rcases four h with rfl | rfl | rfl | rfl <;> rfl
def upd (vs : Nat → Sl) (i : Nat) (v : Sl) : Nat → Sl := fun j => if j = i then v else vs j
theorem cells4_upd (vs : Nat → Sl) {i : Nat} (h : i < 4) (v : Sl) : (cells4 vs).set! i (slV v) = cells4 (upd vs i v) := by
 rcases four h with rfl | rfl | rfl | rfl <;> simp [upd, cells4]
abbrev stV (vs : Nat → Sl) : Value := .agg (cells4 vs)
def HasS (w : World) (v : Value) (s : St) : Prop := ∃ vs, v = stV vs ∧ ∀ i, i < 4 → Has w (slV (vs i)) (s.at i)
def OwnS (w : World) (base : Nat) (v : Value) (s : St) : Prop := ∃ vs, v = stV vs ∧ ∀ i, i < 4 → Own w base (slV (vs i)) (s.at i)
def Fit (s : St) : Prop := ∀ i, i < 4 → (s.at i).length * 8 ≤ 140737488351232
theorem HasS.le {w w' : World} {v : Value} {s : St} (h : HasS w v s) (hl : Le w w') : HasS w' v s := by
 obtain ⟨vs, hv, hr⟩ := h; exact ⟨vs, hv, fun i hi => (hr i hi).le hl⟩
theorem OwnS.has {w : World} {base : Nat} {v : Value} {s : St} (h : OwnS w base v s) : HasS w v s := by
 obtain ⟨vs, hv, hr⟩ := h; exact ⟨vs, hv, fun i hi => (hr i hi).has⟩
abbrev stZ : Value := .agg #[.slice none 0 0, .slice none 0 0, .slice none 0 0, .slice none 0 0]
theorem OwnS.zero (w : World) (base : Nat) : OwnS w base stZ St.zero := ⟨fun _ => slZ, rfl, fun i _ => by rw [St.at_zero]; exact Own.nil _ _⟩
theorem fit_zero : Fit St.zero := fun i _ => by rw [St.at_zero]; decide
theorem Box.set {w : World} {g : Nat} {cs : Array Value} {t : TypeId} (h : Box w g cs t) (i : Nat) (v : Value) : Box (w.setCell ⟨g, i, none⟩ v) g (cs.set! i v) t := by
 unfold Box at h ⊢
 simp only [World.setCell, Array.getElem?_modify, h]
 simp
theorem Box.other {w : World} {g g' : Nat} {cs : Array Value} {t : TypeId} (h : Box w g cs t) (hne : g ≠ g') (i : Nat) (v : Value) : Box (w.setCell ⟨g', i, none⟩ v) g cs t := by
 unfold Box at h ⊢
 rw [Below.heap_setCell _ _ _ _ hne]
 exact h
theorem Own.apart {w : World} {base g : Nat} {v : Value} {xs : List Int} {cs : Array Value} {t : TypeId} (h : Own w base v xs) (hb : Box w g cs t) (ht : t ≠ 3) : v.ownBlock ≠ some g := by
 intro e
 rcases h.2 with ⟨h2, _⟩ | ⟨g', cap, cur, hv, hg, hh, _⟩
 ·rw [h2] at e; simp [Value.ownBlock] at e
 ·rw [hv] at e
  simp [Value.ownBlock] at e
  subst e
  unfold Box at hb
  rw [hb] at hh
  simp at hh
  exact ht hh.2
theorem Own.setBox {w : World} {base g i : Nat} {v u : Value} {xs : List Int} {cs : Array Value} {t : TypeId} (h : Own w base v xs) (hb : Box w g cs t) (ht : t ≠ 3) : Own (w.setCell ⟨g, i, none⟩ u) base v xs :=
 ownsRow_setCell_other h (h.apart hb ht) u
theorem Box.grown {w w' : World} {g : Nat} {cs : Array Value} {t : TypeId} {row : Option Nat} (h : Box w g cs t) (hg : w.grownBy w' row) (hne : row ≠ some g) : Box w' g cs t := by
 unfold Box at h ⊢
 rw [hg.block g (block_lt h) (fun e => hne e.symm)]
 exact h
theorem Own.block {w : World} {base g : Nat} {v : Value} {xs : List Int} (h : Own w base v xs) (e : v.ownBlock = some g) : base ≤ g ∧ g < w.heap.size := by
 rcases h.2 with ⟨h2, _⟩ | ⟨g', cap, cur, hv, hg, hh, _⟩
 ·rw [h2] at e; simp [Value.ownBlock] at e
 ·rw [hv] at e
  simp [Value.ownBlock] at e
  subst e
  exact ⟨hg, block_lt hh⟩
theorem Own.grown {w w' : World} {base : Nat} {v : Value} {xs : List Int} {row : Option Nat} (h : Own w base v xs) (hg : w.grownBy w' row) (hne : ∀ g, v.ownBlock = some g → row ≠ some g) : Own w' base v xs := by
 obtain ⟨h1, h2⟩ := h
 refine ⟨h1, ?_⟩
 rcases h2 with h2 | ⟨g, cap, cur, hv, hb, hh, r⟩
 ·exact .inl h2
 ·exact .inr ⟨g, cap, cur, hv, hb, by rw [hg.block g (block_lt hh) (fun e => hne g (by rw [hv]; rfl) e.symm)]; exact hh, r⟩
def Apart (vs : Nat → Sl) (k : Nat) : Prop := ∀ i j, i < k → j < k → i ≠ j → ∀ g, (slV (vs i)).ownBlock = some g → (slV (vs j)).ownBlock ≠ some g
theorem Apart.next {vs : Nat → Sl} {k m : Nat} {q : Sl} (h : Apart vs k) (hlt : ∀ j, j < k → ∀ g, (slV (vs j)).ownBlock = some g → g < m) (hge : ∀ g, (slV q).ownBlock = some g → m ≤ g) : Apart (upd vs k q) (k + 1) := by
 intro i j hi hj hne g e1 e2
 by_cases ei : i = k
 ·have ej : j ≠ k := by omega
  rw [show upd vs k q i = q by simp [upd, ei]] at e1
  rw [show upd vs k q j = vs j by simp [upd, ej]] at e2
  have := hge g e1
  have := hlt j (by omega) g e2
  omega
 ·rw [show upd vs k q i = vs i by simp [upd, ei]] at e1
  by_cases ej : j = k
  ·rw [show upd vs k q j = q by simp [upd, ej]] at e2
   have := hge g e2
   have := hlt i (by omega) g e1
   omega
  ·rw [show upd vs k q j = vs j by simp [upd, ej]] at e2
   exact h i j (by omega) (by omega) hne g e1 e2
structure Slt where
 c : Int
 r : Int
 a : Int
 t : Int
 b : Int
deriving DecidableEq
abbrev Slt.v (s : Slt) : Value := slotV s.c s.r s.a s.t s.b
def Slt.zero : Slt := ⟨0, 0, 0, 0, 0⟩
def Slt.vals (s : Slt) : List Value := [.int .i64 s.c, .int .i64 s.r, .int .i64 s.a, .int .i64 s.t, .int .i64 s.b]
theorem Slt.len (s : Slt) : s.vals.length = 5 := rfl
def flatV : List Slt → List Value
 | [] => []
 | s :: ss => s.vals ++ flatV ss
theorem flatV_len : ∀ ss : List Slt, (flatV ss).length = ss.length * 5
 | [] => rfl
 | s :: ss => by simp [flatV, flatV_len ss, Slt.vals]; omega
theorem flatV_append : ∀ ss ts : List Slt, flatV (ss ++ ts) = flatV ss ++ flatV ts
 | [], _ => rfl
 | s :: ss, ts => by simp [flatV, flatV_append ss ts]
theorem flatV_at : ∀ (ss : List Slt) (i j : Nat), i < ss.length → j < 5 → (flatV ss)[i * 5 + j]? = (ss.getD i Slt.zero).vals[j]?
 | [], i, j, h, _ => by simp at h
 | s :: ss, 0, j, _, hj => by
   simp [flatV]
   rw [List.getElem?_append_left (by simp [Slt.vals]; omega)]
 | s :: ss, i + 1, j, h, hj => by
   have e : (i + 1) * 5 + j = s.vals.length + (i * 5 + j) := by simp [Slt.vals]; omega
   rw [flatV, e, List.getElem?_append_right (by omega)]
   simp
   rw [flatV_at ss i j (by simpa using h) hj]
   simp
theorem flatV_one : ∀ (ss : List Slt), ∀ u ∈ flatV ss, ∃ x, u = Value.int .i64 x
 | [], u, h => by simp [flatV] at h
 | s :: ss, u, h => by
   simp only [flatV, List.mem_append] at h
   rcases h with h | h
   ·simp [Slt.vals] at h
    rcases h with h | h | h | h | h <;> exact ⟨_, h⟩
   ·exact flatV_one ss u h
def SlotAt (w : World) (b off : Nat) (s : Slt) : Prop :=
 w.cell? ⟨b, off, none⟩ = some (.int .i64 s.c) ∧ w.cell? ⟨b, off + 1, none⟩ = some (.int .i64 s.r) ∧ w.cell? ⟨b, off + 2, none⟩ = some (.int .i64 s.a) ∧ w.cell? ⟨b, off + 3, none⟩ = some (.int .i64 s.t) ∧ w.cell? ⟨b, off + 4, none⟩ = some (.int .i64 s.b)
theorem SlotAt.of {w : World} {b off : Nat} {s : Slt} (h : ∀ j, j < 5 → w.cell? ⟨b, off + j, none⟩ = s.vals[j]?) : SlotAt w b off s :=
 ⟨h 0 (by omega), h 1 (by omega), h 2 (by omega), h 3 (by omega), h 4 (by omega)⟩
theorem SlotAt.at {w : World} {b off : Nat} {s : Slt} (h : SlotAt w b off s) : ∀ j, j < 5 → w.cell? ⟨b, off + j, none⟩ = s.vals[j]? := by
 intro j hj
 obtain ⟨h0, h1, h2, h3, h4⟩ := h
 rcases (by omega : j = 0 ∨ j = 1 ∨ j = 2 ∨ j = 3 ∨ j = 4) with rfl | rfl | rfl | rfl | rfl
 ·exact h0
 ·exact h1
 ·exact h2
 ·exact h3
 ·exact h4
theorem SlotAt.le {w w' : World} {b off : Nat} {s : Slt} (h : SlotAt w b off s) (hl : Le w w') : SlotAt w' b off s := by
 obtain ⟨h0, h1, h2, h3, h4⟩ := h
 have hlt : b < w.heap.size := World.block_lt_of_cell? w _ h0
 exact ⟨(hl.cell (p := ⟨b, off, none⟩) hlt).trans h0, (hl.cell (p := ⟨b, off + 1, none⟩) hlt).trans h1, (hl.cell (p := ⟨b, off + 2, none⟩) hlt).trans h2, (hl.cell (p := ⟨b, off + 3, none⟩) hlt).trans h3, (hl.cell (p := ⟨b, off + 4, none⟩) hlt).trans h4⟩
def HasL (w : World) (v : Value) (ss : List Slt) : Prop :=
 ∃ (a : Option Addr) (cap : Nat), v = .slice a ss.length cap ∧ ss.length ≤ cap ∧ (a = none → cap = 0) ∧
   (0 < ss.length → ∃ b off, a = some ⟨b, off, none⟩ ∧ ∀ i, i < ss.length → SlotAt w b (off + i * 5) (ss.getD i Slt.zero))
def OwnL (w : World) (base : Nat) (v : Value) (ss : List Slt) : Prop :=
 w.ownsRow base 50 5 v ss.length (flatV ss)
theorem HasL.le {w w' : World} {v : Value} {ss : List Slt} (h : HasL w v ss) (hb : Le w w') : HasL w' v ss := by
 obtain ⟨a, cap, hv, hc, hn, hx⟩ := h
 refine ⟨a, cap, hv, hc, hn, fun hp => ?_⟩
 obtain ⟨b, off, ha, hcell⟩ := hx hp
 exact ⟨b, off, ha, fun i hi => (hcell i hi).le hb⟩
theorem OwnL.le {w w' : World} {base : Nat} {v : Value} {ss : List Slt} (h : OwnL w base v ss) (hb : Le w w') : OwnL w' base v ss := by
 obtain ⟨h1, h2⟩ := h
 refine ⟨h1, ?_⟩
 rcases h2 with h2 | ⟨g, cap, cur, hv, hg, hh, r⟩
 ·exact .inl h2
 ·exact .inr ⟨g, cap, cur, hv, hg, by rw [hb.block g (block_lt hh)]; exact hh, r⟩
theorem OwnL.base {w : World} {base base' : Nat} {v : Value} {ss : List Slt} (h : OwnL w base v ss) (hb : base' ≤ base) : OwnL w base' v ss := by
 obtain ⟨h1, h2⟩ := h
 refine ⟨h1, ?_⟩
 rcases h2 with h2 | ⟨g, cap, cur, hv, hg, r⟩
 ·exact .inl h2
 ·exact .inr ⟨g, cap, cur, hv, by omega, r⟩
theorem cell_of_take {w : World} {g n i : Nat} {cur : Array Value} {e : TypeId} {fz : Nat × Nat} {us : List Value} (hh : w.heap[g]? = some (.cells cur e fz)) (ht : cur.toList.take n = us) (hi : i < n) : w.cell? ⟨g, i, none⟩ = us[i]? := by
 rw [cell_of_row w g i cur e fz hh, ← ht, List.getElem?_take_of_lt hi]
 simp
theorem OwnL.has {w : World} {base : Nat} {v : Value} {ss : List Slt} (h : OwnL w base v ss) : HasL w v ss := by
 obtain ⟨h1, h2⟩ := h
 rcases h2 with ⟨h2, h3⟩ | ⟨g, cap, cur, hv, hg, hh, hn, hm, hs, ht⟩
 ·have : ss = [] := by cases ss with | nil => rfl | cons _ _ => simp at h3
  subst this
  exact ⟨none, 0, h2, Nat.le_refl _, fun _ => rfl, fun hp => by simp at hp⟩
 ·refine ⟨some ⟨g, 0, none⟩, cap, hv, hn, (fun h => by cases h), fun _ => ⟨g, 0, rfl, fun i hi => SlotAt.of fun j hj => ?_⟩⟩
  rw [Nat.zero_add, cell_of_take hh ht (by omega), flatV_at ss i j hi hj]
theorem HasL.nil (w : World) : HasL w (.slice none 0 0) [] := ⟨none, 0, rfl, Nat.le_refl _, fun _ => rfl, fun h => by simp at h⟩
theorem OwnL.nil (w : World) (base : Nat) : OwnL w base (.slice none 0 0) [] := World.ownsRow_nil _ _ _ _
theorem OwnL.of {w : World} {base n : Nat} {v : Value} {ss : List Slt} {us : List Value} (h : w.ownsRow base 50 5 v n us) (hn : n = ss.length) (hu : us = flatV ss) : OwnL w base v ss := by
 subst hn hu; exact h
theorem HasL.cells {w : World} {a : Addr} {n cap : Nat} {ss : List Slt} (h : HasL w (.slice (some a) n cap) ss) :
   ∀ j u, (flatV ss)[j]? = some u → w.cell? (a.add j) = some u := by
 obtain ⟨a', cap', hv, hc, hn, hx⟩ := h
 simp only [Value.slice.injEq] at hv
 obtain ⟨rfl, rfl, rfl⟩ := hv
 intro j u hj
 have hlt : j < ss.length * 5 := by
   rcases Nat.lt_or_ge j (ss.length * 5) with h' | h'
   ·exact h'
   ·rw [List.getElem?_eq_none (by rw [flatV_len]; exact h')] at hj; cases hj
 obtain ⟨b, off, ha, hcell⟩ := hx (by omega)
 simp only [Option.some.injEq] at ha
 subst ha
 have e : j = j / 5 * 5 + j % 5 := by omega
 have h1 := (hcell (j / 5) (by omega)).at (j % 5) (by omega)
 rw [e, flatV_at ss (j / 5) (j % 5) (by omega) (by omega)] at hj
 have h2 : (⟨b, off, none⟩ : Addr).add j = ⟨b, off + j / 5 * 5 + j % 5, none⟩ := by
   simp only [Addr.add]
   split
   ·next h => subst h; simp
   ·simp
 rw [h2, h1, hj]
theorem infoSlot : (Tryz.prog.info? 50).map (fun i => (i.zero, i.size, i.bytes)) = some (some (.agg #[.int .i64 0, .int .i64 0, .int .i64 0, .int .i64 0, .int .i64 0]), 5, 40) := by kernel_rfl
theorem wp_append_slots {ops : Array Oper} {rest : List Oper} {o : Oper} {a : Act} {Q : Exit → Act → World → Prop} {w : World} (hgd : o.guard = none) (s x : Operand)
   (ho : o.op = .call { callee := .builtin .append, args := #[s, x], argTypes := #[53, 53] }) (base : Nat) (v u : Value) (xs ys : List Slt)
   (hs : a.eval s = v) (hx : a.eval x = u) (hown : OwnL w base v xs) (hu : HasL w u ys) (hr : (xs.length + ys.length) * 40 ≤ 140737488355328) (hbase : base ≤ w.heap.size)
   (h : ∀ v' w', OwnL w' base v' (xs ++ ys) → w.grownBy w' v.ownBlock → wpList Tryz.prog ops Q rest (a.put o.dst v') w') : wpList Tryz.prog ops Q (o :: rest) a w := by
 obtain ⟨i0, hi, hz0, hz1, hz2⟩ := info_parts infoSlot
 have hu0 := hu
 obtain ⟨ad, cap, rfl, hc, hn, _⟩ := hu
 cases ad with
 | none =>
   have h0 := hn rfl
   have hnil : ys = [] := by cases ys with | nil => rfl | cons _ _ => simp at hc; omega
   subst hnil h0
   refine wpList_append_own_none hgd s x 53 ho base 50 i0 5 Tryz.underlying53 hi v _ _ hs hown hx ?_
   exact h _ _ (by simpa using hown) (World.grownBy.refl _ _)
 | some ad =>
   refine wpList_append_own w hgd s x 53 ho base 50 i0 _ 5 40 Tryz.underlying53 hi hz0 hz1 hz2 rfl (by decide) v _ _ hs hown ad ys.length cap (flatV ys) hx (flatV_len ys) hu0.cells (fun u hu => by obtain ⟨x, rfl⟩ := flatV_one ys u hu; rfl) (by unfold maxLen; omega) hr hbase ?_
   intro v' w' h1 h2 _
   exact h _ _ (OwnL.of h1 (by simp) (by rw [flatV_append])) h2
structure Rg where
 h : Int
 t : Int
 f : Int
 ss : List Slt
deriving DecidableEq
def Rg.zero : Rg := ⟨0, 0, 0, []⟩
abbrev cellsR (h t f : Int) (q : Sl) : Array Value := #[.int .i64 h, .int .i64 t, .int .i64 f, slV q]
abbrev ringV (h t f : Int) (q : Sl) : Value := .agg (cellsR h t f q)
def HasR (w : World) (v : Value) (R : Rg) : Prop := ∃ q, v = ringV R.h R.t R.f q ∧ HasL w (slV q) R.ss
def OwnR (w : World) (base : Nat) (v : Value) (R : Rg) : Prop := ∃ q, v = ringV R.h R.t R.f q ∧ OwnL w base (slV q) R.ss
def FitR (R : Rg) : Prop := R.ss.length * 40 ≤ 140737488351232
theorem HasR.le {w w' : World} {v : Value} {R : Rg} (h : HasR w v R) (hl : Le w w') : HasR w' v R := by
 obtain ⟨q, hv, hr⟩ := h; exact ⟨q, hv, hr.le hl⟩
abbrev ringZ : Value := .agg #[.int .i64 0, .int .i64 0, .int .i64 0, .slice none 0 0]
theorem OwnR.zero (w : World) (base : Nat) : OwnR w base ringZ Rg.zero := ⟨slZ, rfl, OwnL.nil _ _⟩
theorem HasL.sl {w : World} {v : Value} {ss : List Slt} (h : HasL w v ss) : ∃ q : Sl, v = slV q := by
 obtain ⟨a, cap, hv, _⟩ := h; exact ⟨(a, _, cap), hv⟩
theorem HasL.len {w : World} {q : Sl} {ss : List Slt} (h : HasL w (slV q) ss) : q.2.1 = ss.length := by
 obtain ⟨a, cap, hv, _⟩ := h
 simp only [slV, Value.slice.injEq] at hv
 exact hv.2.1
theorem Box.ring {w : World} {g : Nat} {x y z u : Value} {t : TypeId} (h : Box w g #[x, y, z, u] t) :
   w.cell? ⟨g, 0, none⟩ = some x ∧ w.cell? ⟨g, 1, none⟩ = some y ∧ w.cell? ⟨g, 2, none⟩ = some z ∧ w.cell? ⟨g, 3, none⟩ = some u ∧
   w.frozen? ⟨g, 0, none⟩ = false ∧ w.frozen? ⟨g, 1, none⟩ = false ∧ w.frozen? ⟨g, 2, none⟩ = false ∧ w.frozen? ⟨g, 3, none⟩ = false :=
 ⟨h.cell 0, h.cell 1, h.cell 2, h.cell 3, h.frozen 0, h.frozen 1, h.frozen 2, h.frozen 3⟩
theorem OwnL.apart {w : World} {base g : Nat} {v : Value} {ss : List Slt} {cs : Array Value} {t : TypeId} (h : OwnL w base v ss) (hb : Box w g cs t) (ht : t ≠ 50) : v.ownBlock ≠ some g := by
 intro e
 rcases h.2 with ⟨h2, _⟩ | ⟨g', cap, cur, hv, hg, hh, _⟩
 ·rw [h2] at e; simp [Value.ownBlock] at e
 ·rw [hv] at e
  simp [Value.ownBlock] at e
  subst e
  unfold Box at hb
  rw [hb] at hh
  simp at hh
  exact ht hh.2
theorem OwnL.setBox {w : World} {base g i : Nat} {v u : Value} {ss : List Slt} {cs : Array Value} {t : TypeId} (h : OwnL w base v ss) (hb : Box w g cs t) (ht : t ≠ 50) : OwnL (w.setCell ⟨g, i, none⟩ u) base v ss :=
 ownsRow_setCell_other h (h.apart hb ht) u
theorem OwnL.set {w : World} {base g i : Nat} {v u : Value} {ss : List Slt} (h : OwnL w base v ss) (hne : v.ownBlock ≠ some g) : OwnL (w.setCell ⟨g, i, none⟩ u) base v ss :=
 ownsRow_setCell_other h hne u
theorem Le.set {w w' : World} {g i : Nat} {u : Value} (h : Le w w') (hg : w.heap.size ≤ g) : Le w (w'.setCell ⟨g, i, none⟩ u) := Below.setCell h hg u
theorem OwnL.block {w : World} {base g : Nat} {v : Value} {ss : List Slt} (h : OwnL w base v ss) (e : v.ownBlock = some g) : base ≤ g ∧ g < w.heap.size := by
 rcases h.2 with ⟨h2, _⟩ | ⟨g', cap, cur, hv, hg, hh, _⟩
 ·rw [h2] at e; simp [Value.ownBlock] at e
 ·rw [hv] at e
  simp [Value.ownBlock] at e
  subst e
  exact ⟨hg, block_lt hh⟩
theorem OwnL.off {w : World} {base g : Nat} {v : Value} {ss : List Slt} (h : OwnL w base v ss) (hg : g < base) : v.ownBlock ≠ some g := fun e => by
 have := (h.block e).1
 omega
structure Kind (α : Type) where
 t : TypeId
 k : Nat
 by' : Nat
 f : α → List Value
 d : α
 pos : 0 < k
 len : ∀ x, (f x).length = k
 one : ∀ x, ∀ u ∈ f x, u.oneCell' = true
def rowC {α : Type} (f : α → List Value) : List α → List Value
 | [] => []
 | x :: xs => f x ++ rowC f xs
theorem rowC_len {α : Type} {f : α → List Value} {k : Nat} (hk : ∀ x, (f x).length = k) : ∀ xs : List α, (rowC f xs).length = xs.length * k
 | [] => by simp [rowC]
 | x :: xs => by simp [rowC, rowC_len hk xs, hk x, Nat.succ_mul]; omega
theorem rowC_append {α : Type} {f : α → List Value} : ∀ xs ys : List α, rowC f (xs ++ ys) = rowC f xs ++ rowC f ys
 | [], _ => rfl
 | x :: xs, ys => by simp [rowC, rowC_append xs ys]
theorem rowC_mem {α : Type} {f : α → List Value} : ∀ (xs : List α) (u : Value), u ∈ rowC f xs → ∃ x ∈ xs, u ∈ f x
 | [], u, h => by simp [rowC] at h
 | x :: xs, u, h => by
   simp only [rowC, List.mem_append] at h
   rcases h with h | h
   ·exact ⟨x, List.mem_cons_self, h⟩
   ·obtain ⟨y, hy, hu⟩ := rowC_mem xs u h
    exact ⟨y, List.mem_cons_of_mem _ hy, hu⟩
theorem rowC_at {α : Type} {f : α → List Value} {k : Nat} (hk : ∀ x, (f x).length = k) (d : α) : ∀ (xs : List α) (i j : Nat), i < xs.length → j < k → (rowC f xs)[i * k + j]? = (f (xs.getD i d))[j]?
 | [], i, j, h, _ => by simp at h
 | x :: xs, 0, j, _, hj => by
   simp [rowC]
   rw [List.getElem?_append_left (by rw [hk]; exact hj)]
 | x :: xs, i + 1, j, h, hj => by
   have e : (i + 1) * k + j = (f x).length + (i * k + j) := by rw [hk, Nat.succ_mul]; omega
   rw [rowC, e, List.getElem?_append_right (by omega)]
   simp
   rw [rowC_at hk d xs i j (by simpa using h) hj]
   simp
theorem rowC_set {α : Type} {f : α → List Value} {k : Nat} (hk : ∀ x, (f x).length = k) (d : α) {x' : α} {u : Value} : ∀ (xs : List α) (i j : Nat), i < xs.length → j < k → f x' = (f (xs.getD i d)).set j u → (rowC f xs).set (i * k + j) u = rowC f (xs.set i x')
 | [], i, j, h, _, _ => by simp at h
 | x :: xs, 0, j, _, hj, hf => by
   simp at hf
   simp [rowC, hf]
   rw [List.set_append_left _ _ (by rw [hk]; exact hj)]
 | x :: xs, i + 1, j, h, hj, hf => by
   have e : (i + 1) * k + j = (f x).length + (i * k + j) := by rw [hk, Nat.succ_mul]; omega
   rw [rowC, e, List.set_append_right _ _ (by omega)]
   simp
   rw [rowC_set hk d xs i j (by simpa using h) hj (by simpa using hf)]
   simp [rowC]
def HasE {α : Type} (K : Kind α) (w : World) (v : Value) (xs : List α) : Prop :=
 ∃ (a : Option Addr) (cap : Nat), v = .slice a xs.length cap ∧ xs.length ≤ cap ∧ (a = none → cap = 0) ∧
   (0 < xs.length → ∃ b off, a = some ⟨b, off, none⟩ ∧ ∀ i, i < xs.length → ∀ j, j < K.k → w.cell? ⟨b, off + i * K.k + j, none⟩ = (K.f (xs.getD i K.d))[j]?)
def OwnE {α : Type} (K : Kind α) (w : World) (base : Nat) (v : Value) (xs : List α) : Prop :=
 w.ownsRow base K.t K.k v xs.length (rowC K.f xs)
theorem HasE.le {α : Type} {K : Kind α} {w w' : World} {v : Value} {xs : List α} (h : HasE K w v xs) (hb : Le w w') : HasE K w' v xs := by
 obtain ⟨a, cap, hv, hc, hn, hx⟩ := h
 refine ⟨a, cap, hv, hc, hn, fun hp => ?_⟩
 obtain ⟨b, off, ha, hcell⟩ := hx hp
 refine ⟨b, off, ha, fun i hi j hj => ?_⟩
 have h1 := hcell i hi j hj
 have hlt : j < (K.f (xs.getD i K.d)).length := by rw [K.len]; exact hj
 rw [List.getElem?_eq_getElem hlt] at h1
 rw [List.getElem?_eq_getElem hlt]
 rw [hb.cell (p := ⟨b, off + i * K.k + j, none⟩) (World.block_lt_of_cell? w _ h1)]
 exact h1
theorem OwnE.le {α : Type} {K : Kind α} {w w' : World} {base : Nat} {v : Value} {xs : List α} (h : OwnE K w base v xs) (hb : Le w w') : OwnE K w' base v xs := by
 obtain ⟨h1, h2⟩ := h
 refine ⟨h1, ?_⟩
 rcases h2 with h2 | ⟨g, cap, cur, hv, hg, hh, r⟩
 ·exact .inl h2
 ·exact .inr ⟨g, cap, cur, hv, hg, by rw [hb.block g (block_lt hh)]; exact hh, r⟩
theorem OwnE.base {α : Type} {K : Kind α} {w : World} {base base' : Nat} {v : Value} {xs : List α} (h : OwnE K w base v xs) (hb : base' ≤ base) : OwnE K w base' v xs := by
 obtain ⟨h1, h2⟩ := h
 refine ⟨h1, ?_⟩
 rcases h2 with h2 | ⟨g, cap, cur, hv, hg, r⟩
 ·exact .inl h2
 ·exact .inr ⟨g, cap, cur, hv, by omega, r⟩
theorem OwnE.has {α : Type} {K : Kind α} {w : World} {base : Nat} {v : Value} {xs : List α} (h : OwnE K w base v xs) : HasE K w v xs := by
 obtain ⟨h1, h2⟩ := h
 rcases h2 with ⟨h2, h3⟩ | ⟨g, cap, cur, hv, hg, hh, hn, hm, hs, ht⟩
 ·have : xs = [] := by cases xs with | nil => rfl | cons _ _ => simp at h3
  subst this
  exact ⟨none, 0, h2, Nat.le_refl _, fun _ => rfl, fun hp => by simp at hp⟩
 ·refine ⟨some ⟨g, 0, none⟩, cap, hv, hn, (fun h => by cases h), fun _ => ⟨g, 0, rfl, fun i hi j hj => ?_⟩⟩
  have hle : (i + 1) * K.k ≤ xs.length * K.k := Nat.mul_le_mul_right _ hi
  rw [Nat.succ_mul] at hle
  rw [Nat.zero_add, cell_of_take hh ht (by omega), rowC_at K.len K.d xs i j hi hj]
theorem HasE.nil {α : Type} (K : Kind α) (w : World) : HasE K w (.slice none 0 0) [] := ⟨none, 0, rfl, Nat.le_refl _, fun _ => rfl, fun h => by simp at h⟩
theorem OwnE.nil {α : Type} (K : Kind α) (w : World) (base : Nat) : OwnE K w base (.slice none 0 0) [] := World.ownsRow_nil _ _ _ _
theorem OwnE.of {α : Type} {K : Kind α} {w : World} {base n : Nat} {v : Value} {xs : List α} {us : List Value} (h : w.ownsRow base K.t K.k v n us) (hn : n = xs.length) (hu : us = rowC K.f xs) : OwnE K w base v xs := by
 subst hn hu; exact h
theorem HasE.sl {α : Type} {K : Kind α} {w : World} {v : Value} {xs : List α} (h : HasE K w v xs) : ∃ q : Sl, v = slV q := by
 obtain ⟨a, cap, hv, _⟩ := h; exact ⟨(a, _, cap), hv⟩
theorem HasE.len {α : Type} {K : Kind α} {w : World} {q : Sl} {xs : List α} (h : HasE K w (slV q) xs) : q.2.1 = xs.length := by
 obtain ⟨a, cap, hv, _⟩ := h
 simp only [slV, Value.slice.injEq] at hv
 exact hv.2.1
theorem OwnE.lit0 {α : Type} (K : Kind α) (w : World) (base : Nat) (hb : base ≤ w.heap.size) : OwnE K (w.alloc (.cells #[] K.t)) base (.slice (some ⟨w.heap.size, 0, none⟩) 0 0) [] := by
 have := World.ownsRow_lit (e := K.t) (size := K.k) w #[] 0 hb (by unfold maxLen; omega) (by simp)
 exact OwnE.of this rfl (by simp [rowC])
theorem OwnE.lit {α : Type} (K : Kind α) (w : World) (base : Nat) (hb : base ≤ w.heap.size) (xs : List α) (hl : xs.length ≤ 1000) : OwnE K (w.alloc (.cells (rowC K.f xs).toArray K.t)) base (.slice (some ⟨w.heap.size, 0, none⟩) xs.length xs.length) xs := by
 have := World.ownsRow_lit (e := K.t) (size := K.k) w (rowC K.f xs).toArray xs.length hb (by unfold maxLen; omega) (by simp [rowC_len K.len])
 exact OwnE.of this rfl (by simp)
theorem HasE.cells {α : Type} {K : Kind α} {w : World} {a : Addr} {n cap : Nat} {xs : List α} (h : HasE K w (.slice (some a) n cap) xs) :
   ∀ j u, (rowC K.f xs)[j]? = some u → w.cell? (a.add j) = some u := by
 obtain ⟨a', cap', hv, hc, hn, hx⟩ := h
 simp only [Value.slice.injEq] at hv
 obtain ⟨rfl, rfl, rfl⟩ := hv
 intro j u hj
 have hlt : j < xs.length * K.k := by
   rcases Nat.lt_or_ge j (xs.length * K.k) with h' | h'
   ·exact h'
   ·rw [List.getElem?_eq_none (by rw [rowC_len K.len]; exact h')] at hj; cases hj
 have hp : 0 < xs.length := by
   rcases Nat.eq_zero_or_pos xs.length with h' | h'
   ·rw [h'] at hlt; omega
   ·exact h'
 obtain ⟨b, off, ha, hcell⟩ := hx hp
 simp only [Option.some.injEq] at ha
 subst ha
 have hk := K.pos
 have e : j = j / K.k * K.k + j % K.k := by rw [Nat.mul_comm]; exact (Nat.div_add_mod j K.k).symm
 have hd : j / K.k < xs.length := Nat.div_lt_of_lt_mul (by rw [Nat.mul_comm]; exact hlt)
 have hm : j % K.k < K.k := Nat.mod_lt _ hk
 have h1 := hcell (j / K.k) hd (j % K.k) hm
 rw [e, rowC_at K.len K.d xs (j / K.k) (j % K.k) hd hm] at hj
 have h2 : (⟨b, off, none⟩ : Addr).add j = ⟨b, off + j / K.k * K.k + j % K.k, none⟩ := by
   rw [add_plain]
   congr 1
   omega
 rw [h2, h1, hj]
structure Kind.In {α : Type} (K : Kind α) (P : Program) (tS : TypeId) : Prop where
 und : P.underlying tS = some (.slice K.t)
 info : ∃ z, (P.info? K.t).map (fun i => (i.zero, i.size, i.bytes)) = some (some z, K.k, K.by') ∧ z.cells.size = K.k
theorem wp_append_E {α : Type} {K : Kind α} {tS : TypeId} (hK : K.In Tryz.prog tS) {ops : Array Oper} {rest : List Oper} {o : Oper} {a : Act} {Q : Exit → Act → World → Prop} {w : World} (hgd : o.guard = none) (s x : Operand)
   (ho : o.op = .call { callee := .builtin .append, args := #[s, x], argTypes := #[tS, tS] }) (base : Nat) (v u : Value) (xs ys : List α)
   (hs : a.eval s = v) (hx : a.eval x = u) (hown : OwnE K w base v xs) (hu : HasE K w u ys) (hr : (xs.length + ys.length) * K.by' ≤ 140737488355328) (hr' : xs.length + ys.length ≤ 140737488355328) (hbase : base ≤ w.heap.size)
   (h : ∀ v' w', OwnE K w' base v' (xs ++ ys) → w.grownBy w' v.ownBlock → (v'.ownBlock = v.ownBlock ∨ v'.ownBlock = some w.heap.size) → wpList Tryz.prog ops Q rest (a.put o.dst v') w') : wpList Tryz.prog ops Q (o :: rest) a w := by
 obtain ⟨z, hinfo, hzs⟩ := hK.info
 obtain ⟨i0, hi, hz0, hz1, hz2⟩ := info_parts hinfo
 have hu0 := hu
 obtain ⟨ad, cap, rfl, hc, hn, _⟩ := hu
 cases ad with
 | none =>
   have h0 := hn rfl
   have hnil : ys = [] := by cases ys with | nil => rfl | cons _ _ => simp at hc; omega
   subst hnil h0
   refine wpList_append_own_none hgd s x tS ho base K.t i0 K.k hK.und hi v _ _ hs hown hx ?_
   exact h _ _ (by simpa using hown) (World.grownBy.refl _ _) (.inl rfl)
 | some ad =>
   refine wpList_append_own_at w hgd s x tS ho base K.t i0 _ K.k K.by' hK.und hi hz0 hz1 hz2 hzs K.pos v _ _ hs hown ad ys.length cap (rowC K.f ys) hx (rowC_len K.len ys) hu0.cells (fun u hu => by obtain ⟨y, _, hy⟩ := rowC_mem ys u hu; exact K.one y u hy) (by unfold maxLen; omega) hr hbase ?_
   intro v' w' h1 h2 _ h4
   exact h _ _ (OwnE.of h1 (by simp) (by rw [rowC_append])) h2 h4
theorem OwnE.apart {α : Type} {K : Kind α} {w : World} {base g : Nat} {v : Value} {xs : List α} {cs : Array Value} {t : TypeId} (h : OwnE K w base v xs) (hb : Box w g cs t) (ht : t ≠ K.t) : v.ownBlock ≠ some g := by
 intro e
 rcases h.2 with ⟨h2, _⟩ | ⟨g', cap, cur, hv, hg, hh, _⟩
 ·rw [h2] at e; simp [Value.ownBlock] at e
 ·rw [hv] at e
  simp [Value.ownBlock] at e
  subst e
  unfold Box at hb
  rw [hb] at hh
  simp at hh
  exact ht hh.2
theorem OwnE.block {α : Type} {K : Kind α} {w : World} {base g : Nat} {v : Value} {xs : List α} (h : OwnE K w base v xs) (e : v.ownBlock = some g) : base ≤ g ∧ g < w.heap.size := by
 rcases h.2 with ⟨h2, _⟩ | ⟨g', cap, cur, hv, hg, hh, _⟩
 ·rw [h2] at e; simp [Value.ownBlock] at e
 ·rw [hv] at e
  simp [Value.ownBlock] at e
  subst e
  exact ⟨hg, block_lt hh⟩
theorem OwnE.set {α : Type} {K : Kind α} {w : World} {base g i : Nat} {v u : Value} {xs : List α} (h : OwnE K w base v xs) (hne : v.ownBlock ≠ some g) : OwnE K (w.setCell ⟨g, i, none⟩ u) base v xs :=
 ownsRow_setCell_other h hne u
theorem OwnE.put {α : Type} {K : Kind α} {w : World} {base g n cap i j : Nat} {xs : List α} {x' : α} {u : Value} (h : OwnE K w base (.slice (some ⟨g, 0, none⟩) n cap) xs) (hi : i < xs.length) (hj : j < K.k) (hx : K.f x' = (K.f (xs.getD i K.d)).set j u) :
   OwnE K (w.setCell ⟨g, i * K.k + j, none⟩ u) base (.slice (some ⟨g, 0, none⟩) n cap) (xs.set i x') := by
 have hn : n = xs.length := by
   obtain ⟨a, c, hv, _⟩ := h.has
   simp only [Value.slice.injEq] at hv
   exact hv.2.1
 subst hn
 have h3 := (World.ownsRow.stored h (i * K.k + j) u).1
 exact OwnE.of h3 (by simp) (rowC_set K.len K.d xs i j hi hj hx)
theorem OwnE.frozen {α : Type} {K : Kind α} {w : World} {base g n cap : Nat} {xs : List α} (h : OwnE K w base (.slice (some ⟨g, 0, none⟩) n cap) xs) (j : Nat) : w.frozen? ⟨g, j, none⟩ = false := by
 have hn : n = xs.length := by
   obtain ⟨a, c, hv, _⟩ := h.has
   simp only [Value.slice.injEq] at hv
   exact hv.2.1
 subst hn
 exact World.ownsRow.frozenAt h j
theorem OwnE.shape {α : Type} {K : Kind α} {w : World} {base : Nat} {v : Value} {xs : List α} (h : OwnE K w base v xs) (hn : 0 < xs.length) : ∃ g cap, v = .slice (some ⟨g, 0, none⟩) xs.length cap ∧ xs.length ≤ cap ∧ base ≤ g ∧ g < w.heap.size := by
 rcases h.2 with ⟨_, h0⟩ | ⟨g, cap, cur, hv, hg, hh, hn, hm, _⟩
 ·omega
 ·exact ⟨g, cap, hv, hn, hg, block_lt hh⟩
theorem ownsRow_apart {w : World} {b1 b2 : Nat} {t1 t2 : TypeId} {k1 k2 n1 n2 g : Nat} {v1 v2 : Value} {us1 us2 : List Value} (h1 : w.ownsRow b1 t1 k1 v1 n1 us1) (h2 : w.ownsRow b2 t2 k2 v2 n2 us2) (ht : t1 ≠ t2) (e1 : v1.ownBlock = some g) : v2.ownBlock ≠ some g := by
 intro e2
 rcases h1.2 with ⟨h, _⟩ | ⟨g1, c1, cur1, hv1, _, hh1, _⟩
 ·rw [h] at e1; simp [Value.ownBlock] at e1
 ·rcases h2.2 with ⟨h, _⟩ | ⟨g2, c2, cur2, hv2, _, hh2, _⟩
  ·rw [h] at e2; simp [Value.ownBlock] at e2
  ·rw [hv1] at e1
   rw [hv2] at e2
   simp [Value.ownBlock] at e1 e2
   subst e1
   subst e2
   rw [hh1] at hh2
   simp at hh2
   exact ht hh2.2
def inB (a x b : Int) : Bool := decide (a ≤ x) && decide (x ≤ b)
theorem inB_cases {a x b : Int} (h : inB a x b = true) : a ≤ x ∧ x ≤ b := by simp [inB] at h; omega
theorem inB_off {a x b : Int} (h : x < a ∨ b < x) : inB a x b = false := by simp [inB]; omega
abbrev cfgV (o r l t s : Int) : Value := .agg #[.int .i64 o, .int .i64 r, .int .i64 l, .int .i64 t, .int .i64 s]
def cfgB (o r l t s : Int) : Bool := inB 0 o 2 && (inB 1 r 2 && (inB 1 l 2 && (inB 1 t 4 && (slotsB s && decide (2 * t ≤ s)))))
def repS (o r l t s k : Int) : Int × Int := if cfgB o r l t s && (decide (0 ≤ k) && decide (k < t)) then (k % r, 0) else (0, 1300)
theorem cfgB_cases {o r l t s : Int} (h : cfgB o r l t s = true) : (0 ≤ o ∧ o ≤ 2) ∧ (1 ≤ r ∧ r ≤ 2) ∧ (1 ≤ l ∧ l ≤ 2) ∧ (1 ≤ t ∧ t ≤ 4) ∧ slotsB s = true ∧ 2 * t ≤ s := by
 simp only [cfgB, Bool.and_eq_true, decide_eq_true_eq] at h
 obtain ⟨h1, h2, h3, h4, h5, h6⟩ := h
 exact ⟨inB_cases h1, inB_cases h2, inB_cases h3, inB_cases h4, h5, h6⟩
theorem repS_yes {o r l t s k : Int} (h : cfgB o r l t s = true) (h0 : 0 ≤ k) (h1 : k < t) : repS o r l t s k = (k % r, 0) := by simp [repS, h, h0, h1]
theorem repS_no {o r l t s k : Int} (h : cfgB o r l t s = false ∨ k < 0 ∨ t ≤ k) : repS o r l t s k = (0, 1300) := by
 rcases h with h | h | h
 ·simp [repS, h]
 ·have : ¬ 0 ≤ k := by omega
  simp [repS, this]
 ·have : ¬ k < t := by omega
  simp [repS, this]
theorem cfgMayObject (o : Int) (w : World) : Calls Tryz.prog 117 #[.int .i64 o] w fun e w' => e = .returned (.bool (inB 0 o 2)) ∧ w = w' := by
 rcases (by omega : o = 0 ∨ o = 1 ∨ o = 2 ∨ (o ≠ 0 ∧ o ≠ 1 ∧ o ≠ 2)) with rfl | rfl | rfl | ⟨h1, h2, h3⟩
 iterate 3
   ·go_enter Tryz.func117, Tryz.ntmps117
    go_wp2
    go_ret
    exact ⟨ret_bool (by decide), rfl⟩
 ·go_enter Tryz.func117, Tryz.ntmps117
  go_wp2
  go_ret
  exact ⟨ret_bool (by simp [inB]; omega), rfl⟩
theorem cfgMayCount (x m : Int) (w : World) : Calls Tryz.prog 118 #[.int .i64 x, .int .i64 m] w fun e w' => e = .returned (.bool (inB 1 x m)) ∧ w = w' := by
 by_cases h : 1 ≤ x
 all_goals
   go_enter Tryz.func118, Tryz.ntmps118
   go_wp2
   go_ret
   exact ⟨ret_bool (by simp [inB, h]; try omega), rfl⟩
set_option maxHeartbeats 1000000 in
theorem cfgMaySlots (s t : Int) (t0 : 1 ≤ t) (t1 : t ≤ 4) (w : World) : Calls Tryz.prog 119 #[.int .i64 s, .int .i64 t] w fun e w' => e = .returned (.bool (slotsB s && decide (2 * t ≤ s))) ∧ w = w' := by
 have h1 := fun w' => slotBit 0 s w'
 cases hs : slotsB s
 ·rw [bitS_no (.inl hs)] at h1
  go_enter Tryz.func119, Tryz.ntmps119
  go_wp2_with (go_at_call 113; refine (h1 _).mono ?_; rintro e _ ⟨rfl, rfl⟩)
  go_ret
  exact ⟨ret_bool (by simp), rfl⟩
 ·rw [bitS_yes hs (by decide)] at h1
  generalize bitAt 0 s = q at h1
  go_enter Tryz.func119, Tryz.ntmps119
  go_wp2_with (go_at_call 113; refine (h1 _).mono ?_; rintro e _ ⟨rfl, rfl⟩)
  go_ret
  exact ⟨ret_bool (by simp), rfl⟩
set_option maxHeartbeats 2000000 in
theorem cfgMay (o r l t s : Int) (w : World) : Calls Tryz.prog 74 #[cfgV o r l t s] w fun e w' => e = .returned (.bool (cfgB o r l t s)) ∧ Le w w' := by
 have h1 := fun w' => cfgMayObject o w'
 have h2 := fun w' => cfgMayCount r 2 w'
 have h3 := fun w' => cfgMayCount l 2 w'
 have h4 := fun w' => cfgMayCount t 4 w'
 cases k1 : inB 0 o 2
 ·rw [k1] at h1
  go_enter Tryz.func74, Tryz.ntmps74
  go_wp2_with (first | (go_at_call 117; refine (h1 _).mono ?_; rintro e _ ⟨rfl, rfl⟩))
  go_ret
  exact ⟨ret_bool (by simp [cfgB, k1]), Le.alloc _ _⟩
 rw [k1] at h1
 cases k2 : inB 1 r 2
 ·rw [k2] at h2
  go_enter Tryz.func74, Tryz.ntmps74
  go_wp2_with fail
  refine (h1 _).mono ?_; rintro e _ ⟨rfl, rfl⟩
  go_wp2_with fail
  refine (h2 _).mono ?_; rintro e _ ⟨rfl, rfl⟩
  go_wp2_with fail
  go_ret
  exact ⟨ret_bool (by simp [cfgB, k2]), Le.alloc _ _⟩
 rw [k2] at h2
 cases k3 : inB 1 l 2
 ·rw [k3] at h3
  go_enter Tryz.func74, Tryz.ntmps74
  go_wp2_with fail
  refine (h1 _).mono ?_; rintro e _ ⟨rfl, rfl⟩
  go_wp2_with fail
  refine (h2 _).mono ?_; rintro e _ ⟨rfl, rfl⟩
  go_wp2_with fail
  refine (h3 _).mono ?_; rintro e _ ⟨rfl, rfl⟩
  go_wp2_with fail
  go_ret
  exact ⟨ret_bool (by simp [cfgB, k3]), Le.alloc _ _⟩
 rw [k3] at h3
 cases k4 : inB 1 t 4
 ·rw [k4] at h4
  go_enter Tryz.func74, Tryz.ntmps74
  go_wp2_with fail
  refine (h1 _).mono ?_; rintro e _ ⟨rfl, rfl⟩
  go_wp2_with fail
  refine (h2 _).mono ?_; rintro e _ ⟨rfl, rfl⟩
  go_wp2_with fail
  refine (h3 _).mono ?_; rintro e _ ⟨rfl, rfl⟩
  go_wp2_with fail
  refine (h4 _).mono ?_; rintro e _ ⟨rfl, rfl⟩
  go_wp2_with fail
  go_ret
  exact ⟨ret_bool (by simp [cfgB, k4]), Le.alloc _ _⟩
 rw [k4] at h4
 obtain ⟨t0, t1⟩ := inB_cases k4
 have h5 := fun w' => cfgMaySlots s t t0 t1 w'
 have hb : cfgB o r l t s = (slotsB s && decide (2 * t ≤ s)) := by simp [cfgB, k1, k2, k3, k4]
 rw [hb]
 generalize (slotsB s && decide (2 * t ≤ s)) = b at h5
 go_enter Tryz.func74, Tryz.ntmps74
 go_wp2_with fail
 refine (h1 _).mono ?_; rintro e _ ⟨rfl, rfl⟩
 go_wp2_with fail
 refine (h2 _).mono ?_; rintro e _ ⟨rfl, rfl⟩
 go_wp2_with fail
 refine (h3 _).mono ?_; rintro e _ ⟨rfl, rfl⟩
 go_wp2_with fail
 refine (h4 _).mono ?_; rintro e _ ⟨rfl, rfl⟩
 go_wp2_with fail
 refine (h5 _).mono ?_; rintro e _ ⟨rfl, rfl⟩
 go_wp2_with fail
 go_ret
 exact ⟨rfl, Le.alloc _ _⟩
set_option maxHeartbeats 2000000 in
theorem cfgReplica (o r l t s k : Int) (w : World) : Calls Tryz.prog 30 #[cfgV o r l t s, .int .i64 k] w fun e w' => e = .returned (.tuple #[.int .i64 (repS o r l t s k).1, .int .i64 (repS o r l t s k).2]) ∧ Le w w' := by
 have h1 := fun w' => cfgMay o r l t s w'
 have hl := Le.alloc w (.cells #[.int .i64 o, .int .i64 r, .int .i64 l, .int .i64 t, .int .i64 s] 23)
 have hb := Box.new w #[.int .i64 o, .int .i64 r, .int .i64 l, .int .i64 t, .int .i64 s] 23
 cases hc : cfgB o r l t s
 ·rw [repS_no (.inl hc)]
  rw [hc] at h1
  go_enter Tryz.func30, Tryz.ntmps30
  go_wp2_with fail
  refine (h1 _).mono ?_; rintro e w1 ⟨rfl, l1⟩
  go_wp2_with fail
  go_ret2
  exact ⟨rfl, hl.trans l1⟩
 rw [hc] at h1
 rcases (by omega : k < 0 ∨ (0 ≤ k ∧ t ≤ k) ∨ (0 ≤ k ∧ k < t)) with h | ⟨h, h'⟩ | ⟨h, h'⟩
 ·rw [repS_no (.inr (.inl h))]
  go_enter Tryz.func30, Tryz.ntmps30
  go_wp2_with fail
  refine (h1 _).mono ?_; rintro e w1 ⟨rfl, l1⟩
  go_wp2_with fail
  go_ret2
  exact ⟨rfl, hl.trans l1⟩
 ·rw [repS_no (.inr (.inr h'))]
  go_enter Tryz.func30, Tryz.ntmps30
  go_wp2_with fail
  refine (h1 _).mono ?_; rintro e w1 ⟨rfl, l1⟩
  obtain ⟨y0, y1, y2, y3, y4⟩ := (hb.le l1).slot
  go_wp2_with fail
  go_ret2
  exact ⟨rfl, hl.trans l1⟩
 ·rw [repS_yes hc h h']
  obtain ⟨_, ⟨r0, r1⟩, _⟩ := cfgB_cases hc
  have hr : ¬ r = 0 := by omega
  have hm : k.tmod r = k % r := Int.tmod_eq_emod_of_nonneg h
  generalize k % r = q at hm
  go_enter Tryz.func30, Tryz.ntmps30
  go_wp2_with fail
  refine (h1 _).mono ?_; rintro e w1 ⟨rfl, l1⟩
  obtain ⟨y0, y1, y2, y3, y4⟩ := (hb.le l1).slot
  go_wp2_with fail
  go_ret2
  exact ⟨rfl, hl.trans l1⟩
set_option maxHeartbeats 2000000 in
theorem operUpdates (c r a : Int) (w : World) :
   Calls Tryz.prog 139 #[opV c r a] w fun e w' => e = .returned (.bool (opUp c r a)) ∧ Le w w' := by
 have hb := Box.new w #[.int .i64 c, .int .i64 r, .int .i64 a] 48
 have hl := Le.alloc w (.cells #[.int .i64 c, .int .i64 r, .int .i64 a] 48)
 cases hm : opMay c r a
 ·go_enter Tryz.func139, Tryz.ntmps139
  go_wp2_with (go_at_call 134; refine (operMay _ _ _ _).mono ?_; rw [hm]; rintro e w1 ⟨rfl, l1⟩)
  go_ret
  exact ⟨ret_bool (by simp [opUp, hm]), hl.trans l1⟩
 ·by_cases hc : c = 0
  ·subst hc
   go_enter Tryz.func139, Tryz.ntmps139
   go_wp2_with (go_at_call 134; refine (operMay _ _ _ _).mono ?_; rw [hm]; rintro e w1 ⟨rfl, l1⟩; obtain ⟨b0, b1, b2, f0, f1, f2⟩ := (hb.le l1).op)
   go_ret
   exact ⟨ret_bool (by simp [opUp, hm]), hl.trans l1⟩
  ·go_enter Tryz.func139, Tryz.ntmps139
   go_wp2_with (go_at_call 134; refine (operMay _ _ _ _).mono ?_; rw [hm]; rintro e w1 ⟨rfl, l1⟩; obtain ⟨b0, b1, b2, f0, f1, f2⟩ := (hb.le l1).op)
   go_ret
   exact ⟨ret_bool (by simp [opUp, hm, hc, beq_int]), hl.trans l1⟩
def slotB (s : Slt) : Bool := opUp s.c s.r s.a && (decide (0 ≤ s.t) && decide (s.t < 4)) && (decide (s.b = 0) || decide (s.b = 1))
set_option maxHeartbeats 2000000 in
theorem ringMaySlot (s : Slt) (w : World) : Calls Tryz.prog 112 #[s.v] w fun e w' => e = .returned (.bool (slotB s)) ∧ Le w w' := by
 obtain ⟨c, r, a, t, b⟩ := s
 have hb := Box.new w #[.int .i64 c, .int .i64 r, .int .i64 a, .int .i64 t, .int .i64 b] 50
 have hl := Le.alloc w (.cells #[.int .i64 c, .int .i64 r, .int .i64 a, .int .i64 t, .int .i64 b] 50)
 have hu := fun w => operUpdates c r a w
 simp only [slotB]
 cases hm : opUp c r a
 ·rw [hm] at hu
  go_enter Tryz.func112, Tryz.ntmps112
  go_wp2_with (go_at_call 139; refine (hu _).mono ?_; rintro e w1 ⟨rfl, l1⟩)
  go_ret
  exact ⟨ret_bool (by simp), hl.trans l1⟩
 ·rw [hm] at hu
  by_cases h1 : 0 ≤ t
  ·by_cases h2 : t < 4
   ·by_cases h3 : b = 0
    ·subst h3
     go_enter Tryz.func112, Tryz.ntmps112
     go_wp2_with (go_at_call 139; refine (hu _).mono ?_; rintro e w1 ⟨rfl, l1⟩; obtain ⟨b0, b1, b2, b3, b4⟩ := (hb.le l1).slot)
     go_ret
     exact ⟨ret_bool (by simp [h1, h2]), hl.trans l1⟩
    ·go_enter Tryz.func112, Tryz.ntmps112
     go_wp2_with (go_at_call 139; refine (hu _).mono ?_; rintro e w1 ⟨rfl, l1⟩; obtain ⟨b0, b1, b2, b3, b4⟩ := (hb.le l1).slot)
     go_ret
     exact ⟨ret_bool (by simp [h1, h2, h3, beq_int]), hl.trans l1⟩
   ·go_enter Tryz.func112, Tryz.ntmps112
    go_wp2_with (go_at_call 139; refine (hu _).mono ?_; rintro e w1 ⟨rfl, l1⟩; obtain ⟨b0, b1, b2, b3, b4⟩ := (hb.le l1).slot)
    go_ret
    exact ⟨ret_bool (by simp; omega), hl.trans l1⟩
  ·go_enter Tryz.func112, Tryz.ntmps112
   go_wp2_with (go_at_call 139; refine (hu _).mono ?_; rintro e w1 ⟨rfl, l1⟩; obtain ⟨b0, b1, b2, b3, b4⟩ := (hb.le l1).slot)
   go_ret
   exact ⟨ret_bool (by simp; omega), hl.trans l1⟩
theorem ringMaySlots (n : Int) (w : World) : Calls Tryz.prog 109 #[.int .i64 n] w fun e w' => e = .returned (.bool (slotsB n)) ∧ w = w' := by
 have h := fun w => slotBit 0 n w
 cases hn : slotsB n
 ·rw [bitS_no (.inl hn)] at h
  go_enter Tryz.func109, Tryz.ntmps109
  go_wp2_with (go_at_call 113; refine (h _).mono ?_; rintro e _ ⟨rfl, rfl⟩)
  go_ret
  exact ⟨rfl, rfl⟩
 ·rw [bitS_yes hn (by decide)] at h
  go_enter Tryz.func109, Tryz.ntmps109
  go_wp2_with (go_at_call 113; refine (h _).mono ?_; rintro e _ ⟨rfl, rfl⟩)
  go_ret
  exact ⟨rfl, rfl⟩
theorem allL_take {ss : List Slt} {p : Slt → Bool} {k : Nat} (hk : k < ss.length) (h : (ss.take k).all p = true) (hp : p (ss.getD k Slt.zero) = true) : (ss.take (k + 1)).all p = true := by
 rw [List.take_succ_eq_append_getElem hk, List.all_append, h]
 simp [List.getD, hk] at hp
 simp [hp]
theorem all_no {ss : List Slt} {p : Slt → Bool} {k : Nat} (hk : k < ss.length) (hp : p (ss.getD k Slt.zero) = false) : ss.all p = false := by
 rw [List.all_eq_false]
 refine ⟨ss.getD k Slt.zero, ?_, by rw [hp]; decide⟩
 simp [List.getD, hk]
set_option maxHeartbeats 400000 in
theorem listsAll (f : Nat) (p : Slt → Bool) (hc : ∀ (u : Value) (w : World), (callFunc f #[u]).run Tryz.prog w = .ok (.enter f #[u]) w) (hp : ∀ (s : Slt) w, Calls Tryz.prog f #[s.v] w fun e w' => e = .returned (.bool (p s)) ∧ Le w w') (v : Value) (ss : List Slt) (w : World) (hx : HasL w v ss) (hm : ss.length ≤ 9223372036854775807) :
   Calls Tryz.prog 111 #[v, .func (.func f) #[] #[]] w fun e w' => e = .returned (.bool (ss.all p)) ∧ Le w w' := by
 obtain ⟨a, cap, rfl, hc', _, hx⟩ := hx
 by_cases h0 : 0 < ss.length
 ·obtain ⟨b, off, rfl, hcell⟩ := hx h0
  clear hx
  obtain ⟨L, hL⟩ : ∃ L, L = ss.length := ⟨_, rfl⟩
  have HL : Hid (L = ss.length) := hL
  rw [← hL] at hm h0 hc' hcell ⊢
  clear hL
  go_enter Tryz.func111, Tryz.ntmps111
  go_wp2
  go_loopw [9] (fun i wr => ∃ k : Nat, k ≤ L ∧ i = .int .i64 k ∧ Hid ((ss.take k).all p = true) ∧ Le w wr) (fun i _ => L - (intOf i).toNat)
  case atStart => exact ⟨0, by omega, rfl, rfl, Le.refl _⟩
  case round =>
    obtain ⟨k, hk, rfl, HA, hle⟩ := hrel
    by_cases hlt : k < L
    ·obtain ⟨s, hs⟩ : ∃ s, s = ss.getD k Slt.zero := ⟨_, rfl⟩
     have HS : Hid (s = ss.getD k Slt.zero) := hs
     obtain ⟨x0, x1, x2, x3, x4⟩ := (hcell k hlt).le hle
     rw [← hs] at x0 x1 x2 x3 x4
     clear hs hcell
     have hlt' : (k : Int) < (L : Int) := by omega
     have hm := fun w => hp s w
     cases hh : p s
     ·rw [hh] at hm
      go_wp2_with fail
      refine (hm _).mono ?_
      rintro e w1 ⟨rfl, l1⟩
      go_wp2
      go_ret
      exact ⟨ret_bool (all_no (k := k) (by have := HL.out; omega) (by rw [← HS.out]; exact hh)).symm, (hle.trans (Le.alloc _ _)).trans l1⟩
     ·rw [hh] at hm
      go_wp2_with fail
      refine (hm _).mono ?_
      rintro e w1 ⟨rfl, l1⟩
      go_wp2
      go_roundw
      case rel => exact ⟨k + 1, by omega, by go_num, allL_take (by have := HL.out; omega) HA.out (by rw [← HS.out]; exact hh), (hle.trans (Le.alloc _ _)).trans l1⟩
      case measure => simp [intOf]; omega
    ·obtain rfl : k = L := by omega
     go_wp2
     go_ret
     exact ⟨ret_bool (by have := HA.out; rw [HL.out, List.take_length] at this; exact this.symm), hle⟩
 ·have hxn : ss = [] := by cases ss with | nil => rfl | cons _ _ => simp at h0
  subst hxn
  go_enter Tryz.func111, Tryz.ntmps111
  go_wp2
  refine wp_loop_rounds 1 ?_
  rw [rounds_succ]
  go_wp2
  go_ret
  exact ⟨rfl, Le.refl _⟩
theorem listsCopy (v : Value) (ss : List Slt) (w : World) (hx : HasL w v ss) (hf : ss.length * 40 ≤ 140737488351232) :
   Calls Tryz.prog 104 #[v] w fun e w' => ∃ q : Sl, e = .returned (slV q) ∧ OwnL w' w.heap.size (slV q) ss ∧ Le w w' := by
 have hrow : ∀ g, (Value.slice none 0 0).ownBlock = some g → w.heap.size ≤ g := by intro g hg; cases hg
 go_enter Tryz.func104, Tryz.ntmps104
 go_wp2_with (at_builtin; refine wp_append_slots rfl _ _ rfl w.heap.size _ _ [] ss rfl rfl (OwnL.nil _ _) hx (by simp; omega) (by simp) ?_; intro v' w2 hown hgrow; rw [List.nil_append] at hown; have l2 : Le w w2 := Below.grown (Le.refl w) hgrow (by simp) hrow; obtain ⟨q, rfl⟩ := hown.has.sl)
 go_ret
 exact ⟨q, rfl, hown, l2⟩
def placesB (h t : Int) (n : Nat) : Bool := decide (0 ≤ h) && decide (h ≤ t) && decide (t ≤ 1048576) && decide (t ≤ h + n)
set_option maxHeartbeats 400000 in
theorem ringMayPlaces (h t f : Int) (q : Sl) (w : World) (hq : q.2.1 ≤ 4611686018427387904) : Calls Tryz.prog 110 #[ringV h t f q] w fun e w' => e = .returned (.bool (placesB h t q.2.1)) ∧ Le w w' := by
 obtain ⟨a, n, cap⟩ := q
 simp only at hq
 rcases (by omega : h < 0 ∨ (0 ≤ h ∧ t < h) ∨ (0 ≤ h ∧ h ≤ t ∧ 1048576 < t) ∨ (0 ≤ h ∧ h ≤ t ∧ t ≤ 1048576)) with h1 | ⟨h1, h2⟩ | ⟨h1, h2, h3⟩ | ⟨h1, h2, h3⟩
 all_goals
   go_enter Tryz.func110, Tryz.ntmps110
   go_wp2
   go_ret
   exact ⟨ret_bool (by simp [placesB]; omega), Le.alloc _ _⟩
def hasB (h t p : Int) : Bool := decide (h ≤ p) && decide (p < t)
theorem ringHas (h t f : Int) (q : Sl) (p : Int) (w : World) : Calls Tryz.prog 71 #[ringV h t f q, .int .i64 p] w fun e w' => e = .returned (.bool (hasB h t p)) ∧ Le w w' := by
 by_cases h1 : h ≤ p
 all_goals
   go_enter Tryz.func71, Tryz.ntmps71
   go_wp2
   go_ret
   exact ⟨ret_bool (by simp [hasB]; omega), Le.alloc _ _⟩
def mayR (R : Rg) : Bool := slotsB R.ss.length && placesB R.h R.t R.ss.length && decide (0 ≤ R.f) && decide (R.f ≤ 4) && R.ss.all slotB
set_option maxHeartbeats 1000000 in
theorem ringMay (v : Value) (R : Rg) (w : World) (hx : HasR w v R) (hf : FitR R) : Calls Tryz.prog 70 #[v] w fun e w' => e = .returned (.bool (mayR R)) ∧ Le w w' := by
 obtain ⟨h, t, f, ss⟩ := R
 obtain ⟨q, rfl, hq⟩ := hx
 simp only [FitR] at hf hq ⊢
 simp only [mayR]
 have hb := Box.new w (cellsR h t f q) 55
 have hl := Le.alloc w (.cells (cellsR h t f q) 55)
 have hn := hq.len
 have hq0 : q.2.1 ≤ 4611686018427387904 := by omega
 rw [← hn]
 clear hn
 have m1 := fun w => ringMaySlots q.2.1 w
 have m2 := fun w => ringMayPlaces h t f q w hq0
 cases h1 : slotsB q.2.1
 ·rw [h1] at m1
  go_enter Tryz.func70, Tryz.ntmps70
  go_wp2_with (go_at_call 109; refine (m1 _).mono ?_; rintro e _ ⟨rfl, rfl⟩)
  go_ret
  exact ⟨ret_bool (by simp), hl⟩
 ·rw [h1] at m1
  cases h2 : placesB h t q.2.1
  ·rw [h2] at m2
   go_enter Tryz.func70, Tryz.ntmps70
   go_wp2_with (first | (go_at_call 109; refine (m1 _).mono ?_; rintro e _ ⟨rfl, rfl⟩) | (go_at_call 110; refine (m2 _).mono ?_; rintro e w1 ⟨rfl, l1⟩))
   go_ret
   exact ⟨ret_bool (by simp), hl.trans l1⟩
  ·rw [h2] at m2
   by_cases h3 : 0 ≤ f
   ·by_cases h4 : f ≤ 4
    ·go_enter Tryz.func70, Tryz.ntmps70
     go_wp2_with (first | (go_at_call 109; refine (m1 _).mono ?_; rintro e _ ⟨rfl, rfl⟩) | (go_at_call 110; refine (m2 _).mono ?_; rintro e w1 ⟨rfl, l1⟩; obtain ⟨b0, b1, b2, b3, _, _, _, _⟩ := (hb.le l1).ring) | (go_at_call 111; refine (listsAll 112 slotB (fun _ _ => by kernel_rfl) ringMaySlot _ ss _ (hq.le (hl.trans l1)) (by omega)).mono ?_; rintro e w2 ⟨rfl, l2⟩))
     go_ret
     exact ⟨ret_bool (by simp [h3, h4]), (hl.trans l1).trans l2⟩
    ·go_enter Tryz.func70, Tryz.ntmps70
     go_wp2_with (first | (go_at_call 109; refine (m1 _).mono ?_; rintro e _ ⟨rfl, rfl⟩) | (go_at_call 110; refine (m2 _).mono ?_; rintro e w1 ⟨rfl, l1⟩; obtain ⟨b0, b1, b2, b3, _, _, _, _⟩ := (hb.le l1).ring))
     go_ret
     exact ⟨ret_bool (by simp; omega), hl.trans l1⟩
   ·go_enter Tryz.func70, Tryz.ntmps70
    go_wp2_with (first | (go_at_call 109; refine (m1 _).mono ?_; rintro e _ ⟨rfl, rfl⟩) | (go_at_call 110; refine (m2 _).mono ?_; rintro e w1 ⟨rfl, l1⟩; obtain ⟨b0, b1, b2, b3, _, _, _, _⟩ := (hb.le l1).ring))
    go_ret
    exact ⟨ret_bool (by simp; omega), hl.trans l1⟩
def newS (n : Int) : Rg × Int := if slotsB n then (⟨0, 0, 0, List.replicate n.toNat Slt.zero⟩, 0) else (Rg.zero, 1000)
def askB (R : Rg) (k : Int) : Bool := mayR R && decide (1 ≤ k) && decide (k ≤ R.ss.length)
def roomB (R : Rg) (k : Int) : Bool := decide (R.f = 0) && placesB R.h (R.t + k) R.ss.length
def reserveS (R : Rg) (k : Int) : Rg × Int × Int :=
 if askB R k then (if roomB R k then (⟨R.h, R.t + k, R.f, R.ss⟩, R.t, 0) else (Rg.zero, 0, 1001)) else (Rg.zero, 0, 1000)
def freeB (R : Rg) (p : Int) : Bool := mayR R && decide (R.h ≤ p) && decide (p ≤ R.t)
def freeRS (R : Rg) (p : Int) : Rg × Int := if freeB R p then (⟨p, R.t, R.f, R.ss⟩, 0) else (Rg.zero, 1000)
theorem mayR_slots {R : Rg} (h : mayR R = true) : slotsB R.ss.length = true := by simp [mayR] at h; exact h.1.1.1.1
theorem mayR_all {R : Rg} (h : mayR R = true) : R.ss.all slotB = true := by simp [mayR] at h; rw [List.all_eq_true]; exact h.2
theorem mayR_places {R : Rg} (h : mayR R = true) : placesB R.h R.t R.ss.length = true := by simp [mayR] at h; exact h.1.1.1.2
theorem mayR_len {R : Rg} (h : mayR R = true) : R.ss.length = 2 ∨ R.ss.length = 4 ∨ R.ss.length = 8 ∨ R.ss.length = 16 := by
 have := slotsB_cases (mayR_slots h); omega
theorem mayR_nums {R : Rg} (h : mayR R = true) : 0 ≤ R.h ∧ R.h ≤ R.t ∧ R.t ≤ 1048576 ∧ R.t ≤ R.h + R.ss.length := by
 have := mayR_places h; simp [placesB] at this; omega
theorem mayR_fit {R : Rg} (h : mayR R = true) : FitR R := by
 have := mayR_len h; unfold FitR; omega
theorem flatV_zero : ∀ n, flatV (List.replicate n Slt.zero) = List.replicate (n * 5) (.int .i64 0)
 | 0 => rfl
 | n + 1 => by
   rw [List.replicate_succ, flatV, flatV_zero n, show (n + 1) * 5 = 5 + n * 5 by omega, ← List.replicate_append_replicate]
   rfl
def zerosV (n : Nat) : Array Value := Array.replicate (n * 5) (.int .i64 0)
theorem OwnL.made (w : World) (base n : Nat) (hb : base ≤ w.heap.size) (hn : n ≤ 1000) : OwnL (w.alloc (.cells (zerosV n) 50)) base (.slice (some ⟨w.heap.size, 0, none⟩) n n) (List.replicate n Slt.zero) := by
 have := World.ownsRow_lit (e := 50) (size := 5) w (zerosV n) n hb (by unfold maxLen; omega) (by simp [zerosV])
 exact OwnL.of this (by simp) (by rw [flatV_zero]; simp [zerosV])
theorem make2 (w : World) : (Instr.makeSlice 53 (.int .i64 2) (.int .i64 2)).run Tryz.prog w = .ok (slV (some ⟨w.heap.size, 0, none⟩, 2, 2)) (w.alloc (.cells (zerosV 2) 50)) := by kernel_rfl
theorem make4 (w : World) : (Instr.makeSlice 53 (.int .i64 4) (.int .i64 4)).run Tryz.prog w = .ok (slV (some ⟨w.heap.size, 0, none⟩, 4, 4)) (w.alloc (.cells (zerosV 4) 50)) := by kernel_rfl
theorem make8 (w : World) : (Instr.makeSlice 53 (.int .i64 8) (.int .i64 8)).run Tryz.prog w = .ok (slV (some ⟨w.heap.size, 0, none⟩, 8, 8)) (w.alloc (.cells (zerosV 8) 50)) := by kernel_rfl
theorem make16 (w : World) : (Instr.makeSlice 53 (.int .i64 16) (.int .i64 16)).run Tryz.prog w = .ok (slV (some ⟨w.heap.size, 0, none⟩, 16, 16)) (w.alloc (.cells (zerosV 16) 50)) := by kernel_rfl
theorem OwnL.set4 {w : World} {base g : Nat} {v a b c d : Value} {ss : List Slt} (h : OwnL w base v ss) (hne : v.ownBlock ≠ some g) :
   OwnL ((((w.setCell ⟨g, 0, none⟩ a).setCell ⟨g, 1, none⟩ b).setCell ⟨g, 2, none⟩ c).setCell ⟨g, 3, none⟩ d) base v ss :=
 (((h.set hne).set hne).set hne).set hne
theorem Le.put4 {w w' : World} {g : Nat} {a b c d : Value} (h : Le w w') (hg : w.heap.size ≤ g) :
   Le w ((((w'.setCell ⟨g, 0, none⟩ a).setCell ⟨g, 1, none⟩ b).setCell ⟨g, 2, none⟩ c).setCell ⟨g, 3, none⟩ d) :=
 (((h.set hg).set hg).set hg).set hg
def seat (R : Rg) (p : Int) : Nat := (p % R.ss.length).toNat
def entryB (R : Rg) (p : Int) : Bool := hasB R.h R.t p && decide ((R.ss.getD (seat R p) Slt.zero).b = bitAt p R.ss.length)
def entryS (R : Rg) (p : Int) : Slt × Int :=
 if mayR R then (if entryB R p then (R.ss.getD (seat R p) Slt.zero, 0) else (Slt.zero, 1002)) else (Slt.zero, 1000)
theorem seat_lt {R : Rg} {p : Int} (h : mayR R = true) : seat R p < R.ss.length := by
 have := mayR_len h
 have h1 := Int.emod_nonneg p (b := (R.ss.length : Int)) (by omega)
 have h2 := Int.emod_lt_of_pos p (b := (R.ss.length : Int)) (by omega)
 unfold seat
 omega
theorem seat_eq {R : Rg} {p : Int} (h : mayR R = true) (hp : 0 ≤ p) : Int.tmod p R.ss.length = seat R p := by
 have := mayR_len h
 have h1 := Int.emod_nonneg p (b := (R.ss.length : Int)) (by omega)
 rw [Int.tmod_eq_emod_of_nonneg hp]
 unfold seat
 omega
abbrev slotZ : Value := slotV 0 0 0 0 0
theorem Le.put5 {w w' : World} {g : Nat} {a b c d e : Value} (h : Le w w') (hg : w.heap.size ≤ g) :
   Le w (((((w'.setCell ⟨g, 0, none⟩ a).setCell ⟨g, 1, none⟩ b).setCell ⟨g, 2, none⟩ c).setCell ⟨g, 3, none⟩ d).setCell ⟨g, 4, none⟩ e) :=
 ((((h.set hg).set hg).set hg).set hg).set hg
theorem Box.slotF {w : World} {g : Nat} {x y z u v : Value} {t : TypeId} (h : Box w g #[x, y, z, u, v] t) :
   w.frozen? ⟨g, 0, none⟩ = false ∧ w.frozen? ⟨g, 1, none⟩ = false ∧ w.frozen? ⟨g, 2, none⟩ = false ∧ w.frozen? ⟨g, 3, none⟩ = false ∧ w.frozen? ⟨g, 4, none⟩ = false :=
 ⟨h.frozen 0, h.frozen 1, h.frozen 2, h.frozen 3, h.frozen 4⟩
set_option maxHeartbeats 1000000 in
theorem ringEntryNo (v : Value) (R : Rg) (p : Int) (w : World) (hx : HasR w v R) (hf : FitR R) (h : mayR R = false) : Calls Tryz.prog 28 #[v, .int .i64 p] w fun e w' =>
   e = .returned (.tuple #[slotZ, .int .i64 1000]) ∧ Le w w' := by
 have hmay := fun w' (l : Le w w') => ringMay v R w' (hx.le l) hf
 obtain ⟨hh, t, f, ss⟩ := R
 obtain ⟨q, rfl, hq⟩ := hx
 simp only at hq hmay ⊢
 have hl := (Le.alloc w (.cells (cellsR hh t f q) 55)).trans (Le.alloc _ (.cells #[.int .i64 0, .int .i64 0, .int .i64 0, .int .i64 0, .int .i64 0] 50))
 have hb2 := Box.new (w.alloc (.cells (cellsR hh t f q) 55)) #[.int .i64 0, .int .i64 0, .int .i64 0, .int .i64 0, .int .i64 0] 50
 rw [World.size_alloc] at hb2
 have hm := hmay _ hl
 rw [h] at hm
 clear hmay h
 go_enter Tryz.func28, Tryz.ntmps28
 go_wp2_with fail
 refine hm.mono ?_
 rintro e w1 ⟨rfl, l1⟩
 obtain ⟨z0, z1, z2, z3, z4⟩ := (hb2.le l1).slot
 obtain ⟨f0, f1, f2, f3, f4⟩ := (hb2.le l1).slotF
 go_wp2_with fail
 refine bodyPost_ret (v := .tuple #[slotZ, .int .i64 1000]) (by simp [results, Tryz.results28, go_sem, z0, z1, z2, z3, z4]) rfl ⟨rfl, ?_⟩
 exact (hl.trans l1).put5 (by omega)
set_option maxHeartbeats 1000000 in
theorem ringEntryOff (v : Value) (R : Rg) (p : Int) (w : World) (hx : HasR w v R) (h : mayR R = true) (h2 : hasB R.h R.t p = false) : Calls Tryz.prog 28 #[v, .int .i64 p] w fun e w' =>
   e = .returned (.tuple #[slotZ, .int .i64 1002]) ∧ Le w w' := by
 have hmay := fun w' (l : Le w w') => ringMay v R w' (hx.le l) (mayR_fit h)
 obtain ⟨hh, t, f, ss⟩ := R
 obtain ⟨q, rfl, hq⟩ := hx
 simp only at hq hmay h2 ⊢
 have hl := (Le.alloc w (.cells (cellsR hh t f q) 55)).trans (Le.alloc _ (.cells #[.int .i64 0, .int .i64 0, .int .i64 0, .int .i64 0, .int .i64 0] 50))
 have hb := (Box.new w (cellsR hh t f q) 55).le (Le.alloc _ (.cells #[.int .i64 0, .int .i64 0, .int .i64 0, .int .i64 0, .int .i64 0] 50))
 have hb2 := Box.new (w.alloc (.cells (cellsR hh t f q) 55)) #[.int .i64 0, .int .i64 0, .int .i64 0, .int .i64 0, .int .i64 0] 50
 rw [World.size_alloc] at hb2
 have hm := hmay _ hl
 rw [h] at hm
 have hh2 := fun w => ringHas hh t f q p w
 rw [h2] at hh2
 clear hmay h h2
 go_enter Tryz.func28, Tryz.ntmps28
 go_wp2_with fail
 refine hm.mono ?_
 rintro e w1 ⟨rfl, l1⟩
 obtain ⟨b0, b1, b2, b3, _, _, _, _⟩ := (hb.le l1).ring
 go_wp2_with fail
 refine (hh2 _).mono ?_
 rintro e w2 ⟨rfl, l2⟩
 obtain ⟨z0, z1, z2, z3, z4⟩ := ((hb2.le l1).le l2).slot
 obtain ⟨f0, f1, f2, f3, f4⟩ := ((hb2.le l1).le l2).slotF
 clear b0 b1 b2 b3
 go_wp2_with fail
 refine bodyPost_ret (v := .tuple #[slotZ, .int .i64 1002]) (by simp [results, Tryz.results28, go_sem, z0, z1, z2, z3, z4]) rfl ⟨rfl, ?_⟩
 exact ((hl.trans l1).trans l2).put5 (by omega)
set_option maxHeartbeats 1000000 in
theorem ringEntryIn (v : Value) (R : Rg) (p : Int) (w : World) (hx : HasR w v R) (h : mayR R = true) (h2 : hasB R.h R.t p = true) : Calls Tryz.prog 28 #[v, .int .i64 p] w fun e w' =>
   e = .returned (.tuple #[(entryS R p).1.v, .int .i64 (entryS R p).2]) ∧ Le w w' := by
 have hmay := fun w' (l : Le w w') => ringMay v R w' (hx.le l) (mayR_fit h)
 have hp : 0 ≤ p ∧ p ≤ 1048576 := by have := mayR_nums h; simp [hasB] at h2; omega
 have hsl := seat_lt (p := p) h
 have hse := seat_eq (p := p) h hp.1
 have hlen := mayR_len h
 simp only [entryS, h, if_true, entryB, h2, Bool.true_and]
 obtain ⟨hh, t, f, ss⟩ := R
 obtain ⟨q, rfl, hq⟩ := hx
 simp only at hq hmay h2 hsl hse hlen ⊢
 generalize seat ⟨hh, t, f, ss⟩ p = i at hsl hse ⊢
 obtain ⟨s, hs⟩ : ∃ s, s = ss.getD i Slt.zero := ⟨_, rfl⟩
 rw [← hs]
 have hal := fun w => slotAlive s.c s.r s.a s.t s.b p ss.length w
 rw [aliveS_yes (mayR_slots h) (by simp [holdB, hp.1, hp.2])] at hal
 have hl := (Le.alloc w (.cells (cellsR hh t f q) 55)).trans (Le.alloc _ (.cells #[.int .i64 0, .int .i64 0, .int .i64 0, .int .i64 0, .int .i64 0] 50))
 have hb := (Box.new w (cellsR hh t f q) 55).le (Le.alloc _ (.cells #[.int .i64 0, .int .i64 0, .int .i64 0, .int .i64 0, .int .i64 0] 50))
 have hb2 := Box.new (w.alloc (.cells (cellsR hh t f q) 55)) #[.int .i64 0, .int .i64 0, .int .i64 0, .int .i64 0, .int .i64 0] 50
 rw [World.size_alloc] at hb2
 have hm := hmay _ hl
 rw [h] at hm
 have hh2 := fun w => ringHas hh t f q p w
 rw [h2] at hh2
 obtain ⟨a, cap, hqv, hcap, _, hxx⟩ := hq
 obtain ⟨b, off, rfl, hcell⟩ := hxx (by omega)
 have hci := hcell i hsl
 rw [← hs] at hci
 obtain ⟨qa, n, qc⟩ := q
 simp only [slV, Value.slice.injEq] at hqv
 obtain ⟨rfl, hn, rfl⟩ := hqv
 rw [← hn] at hse hlen hsl hal hcap ⊢
 generalize decide (s.b = bitAt p n) = y at hal ⊢
 clear hmay h h2 hcell hxx hn hs
 go_enter Tryz.func28, Tryz.ntmps28
 go_wp2_with fail
 refine hm.mono ?_
 rintro e w1 ⟨rfl, l1⟩
 obtain ⟨b0, b1, b2, b3, _, _, _, _⟩ := (hb.le l1).ring
 go_wp2_with fail
 refine (hh2 _).mono ?_
 rintro e w2 ⟨rfl, l2⟩
 clear b0 b1 b2 b3 hm hh2
 replace hb := (hb.le l1).le l2
 replace hb2 := (hb2.le l1).le l2
 replace hci := hci.le ((hl.trans l1).trans l2)
 replace hl := (hl.trans l1).trans l2
 clear l1 l2
 obtain ⟨b0, b1, b2, b3, _, _, _, _⟩ := hb.ring
 obtain ⟨x0, x1, x2, x3, x4⟩ := hci
 obtain ⟨n0, n1⟩ : (0 : Int) ≤ (i : Int) ∧ (i : Int) < (n : Int) := by omega
 have n2 : ¬ n = 0 := by omega
 replace b3 : w2.cell? ⟨w.heap.size, 3, none⟩ = some (.slice (some ⟨b, off, none⟩) n qc) := b3
 go_upto_region 5 with fail
 go_region_held3 (fun w' => w'.cell? ⟨w.heap.size, 3, none⟩ = some (.slice (some ⟨b, off, none⟩) n qc) ∧ w'.cell? ⟨b, off + i * 5, none⟩ = some (.int .i64 s.c) ∧ w'.cell? ⟨b, off + i * 5 + 1, none⟩ = some (.int .i64 s.r) ∧ w'.cell? ⟨b, off + i * 5 + 2, none⟩ = some (.int .i64 s.a) ∧ w'.cell? ⟨b, off + i * 5 + 3, none⟩ = some (.int .i64 s.t) ∧ w'.cell? ⟨b, off + i * 5 + 4, none⟩ = some (.int .i64 s.b)) (go_keep) (fail)
 go_wp2_with fail
 refine (hal _).mono ?_
 rintro e w3 ⟨rfl, l3⟩
 have hbs := (Box.new w2 #[.int .i64 s.c, .int .i64 s.r, .int .i64 s.a, .int .i64 s.t, .int .i64 s.b] 50).le ((Le.drew _).trans l3)
 have l4 := ((Le.alloc w2 (.cells #[.int .i64 s.c, .int .i64 s.r, .int .i64 s.a, .int .i64 s.t, .int .i64 s.b] 50)).trans (Le.drew _)).trans l3
 obtain ⟨z0, z1, z2, z3, z4⟩ := (hb2.le l4).slot
 obtain ⟨f0, f1, f2, f3, f4⟩ := (hb2.le l4).slotF
 obtain ⟨y0, y1, y2, y3, y4⟩ := hbs.slot
 clear x0 x1 x2 x3 x4 b0 b1 b2 b3 n0 n1 n2 hse hal hb hb2 l3
 cases y
 ·go_wp2_with fail
  refine bodyPost_ret (v := .tuple #[slotZ, .int .i64 1002]) (by simp [results, Tryz.results28, go_sem, z0, z1, z2, z3, z4]) rfl ⟨rfl, ?_⟩
  exact (hl.trans l4).put5 (by omega)
 ·go_wp2_with fail
  refine bodyPost_ret (v := .tuple #[s.v, .int .i64 0]) (by simp [results, Tryz.results28, go_sem, z0, z1, z2, z3, z4]) rfl ⟨rfl, ?_⟩
  exact (hl.trans l4).put5 (by omega)
theorem ringEntry (v : Value) (R : Rg) (p : Int) (w : World) (hx : HasR w v R) (hf : FitR R) : Calls Tryz.prog 28 #[v, .int .i64 p] w fun e w' =>
   e = .returned (.tuple #[(entryS R p).1.v, .int .i64 (entryS R p).2]) ∧ Le w w' := by
 cases h : mayR R
 ·rw [show entryS R p = (Slt.zero, 1000) by simp [entryS, h]]
  exact ringEntryNo v R p w hx hf h
 ·cases h2 : hasB R.h R.t p
  ·rw [show entryS R p = (Slt.zero, 1002) by simp [entryS, entryB, h, h2]]
   exact ringEntryOff v R p w hx h h2
  ·exact ringEntryIn v R p w hx h h2
def threadB (t : Int) : Bool := decide (0 ≤ t) && decide (t < 4)
def pubB (R : Rg) (p c r a t : Int) : Bool := mayR R && hasB R.h R.t p && opUp c r a && threadB t
def publishS (R : Rg) (p c r a t : Int) : Rg × Int :=
 if pubB R p c r a t then (⟨R.h, R.t, R.f, R.ss.set (seat R p) ⟨c, r, a, t, bitAt p R.ss.length⟩⟩, 0) else (Rg.zero, 1000)
theorem flatV_set : ∀ (ss : List Slt) (i : Nat) (s : Slt), i < ss.length →
   ((((((flatV ss).set (i * 5) (.int .i64 s.c)).set (i * 5 + 1) (.int .i64 s.r)).set (i * 5 + 2) (.int .i64 s.a)).set (i * 5 + 3) (.int .i64 s.t)).set (i * 5 + 4) (.int .i64 s.b)) = flatV (ss.set i s)
 | [], i, s, h => by simp at h
 | x :: ss, 0, s, _ => by simp [flatV, Slt.vals]
 | x :: ss, i + 1, s, h => by
   have ih := flatV_set ss i s (by simpa using h)
   simp only [flatV, Slt.vals, List.set_cons_succ]
   rw [← ih]
   have e0 : (i + 1) * 5 = i * 5 + 5 := by omega
   simp only [e0, List.cons_append, List.nil_append, List.set_cons_succ]
theorem OwnL.put {w : World} {base g n cap i : Nat} {ss : List Slt} {s : Slt} (h : OwnL w base (.slice (some ⟨g, 0, none⟩) n cap) ss) (hi : i < ss.length) :
   OwnL (((((w.setCell ⟨g, i * 5, none⟩ (.int .i64 s.c)).setCell ⟨g, i * 5 + 1, none⟩ (.int .i64 s.r)).setCell ⟨g, i * 5 + 2, none⟩ (.int .i64 s.a)).setCell ⟨g, i * 5 + 3, none⟩ (.int .i64 s.t)).setCell ⟨g, i * 5 + 4, none⟩ (.int .i64 s.b)) base (.slice (some ⟨g, 0, none⟩) n cap) (ss.set i s) := by
 obtain ⟨h1, h2⟩ := h
 refine ⟨by rw [flatV_len], ?_⟩
 rcases h2 with ⟨h2, _⟩ | ⟨g', cap', cur, hv, hg, hh, hn, hm, hs, ht⟩
 ·simp at h2
 ·simp only [Value.slice.injEq, Option.some.injEq, Addr.mk.injEq] at hv
  obtain ⟨⟨rfl, _⟩, rfl, rfl⟩ := hv
  have hb : Box w g cur 50 := hh
  have hb5 := ((((hb.set (i * 5) (.int .i64 s.c)).set (i * 5 + 1) (.int .i64 s.r)).set (i * 5 + 2) (.int .i64 s.a)).set (i * 5 + 3) (.int .i64 s.t)).set (i * 5 + 4) (.int .i64 s.b)
  refine .inr ⟨g, cap, _, by rw [List.length_set], hg, hb5, by rw [List.length_set]; exact hn, hm, by simp [hs], ?_⟩
  rw [List.length_set, ← flatV_set ss i s hi, ← ht]
  simp [List.take_set]
theorem OwnL.cell {w : World} {base g n cap i : Nat} {ss : List Slt} (h : OwnL w base (.slice (some ⟨g, 0, none⟩) n cap) ss) (hi : i < ss.length) :
   SlotAt w g (i * 5) (ss.getD i Slt.zero) ∧ (∀ j, w.frozen? ⟨g, j, none⟩ = false) := by
 have h0 := h.has
 obtain ⟨h1, h2⟩ := h
 rcases h2 with ⟨h2, _⟩ | ⟨g', cap', cur, hv, hg, hh, hn, hm, hs, ht⟩
 ·simp at h2
 ·simp only [Value.slice.injEq, Option.some.injEq, Addr.mk.injEq] at hv
  obtain ⟨⟨rfl, _⟩, rfl, rfl⟩ := hv
  have hb : Box w g cur 50 := hh
  refine ⟨?_, fun j => hb.frozen j⟩
  obtain ⟨a, cap', hv', _, _, hx⟩ := h0
  obtain ⟨b, off, ha, hc⟩ := hx (by omega)
  subst ha
  simp only [Value.slice.injEq, Option.some.injEq, Addr.mk.injEq] at hv'
  obtain ⟨⟨rfl, rfl, _⟩, _, rfl⟩ := hv'
  have := hc i hi
  rw [Nat.zero_add] at this
  exact this
theorem OwnL.shape {w : World} {base : Nat} {u : Sl} {ss : List Slt} (h : OwnL w base (slV u) ss) (hn : 0 < ss.length) : ∃ g cap, u = (some ⟨g, 0, none⟩, ss.length, cap) ∧ base ≤ g ∧ ss.length ≤ cap := by
 obtain ⟨a, n, c⟩ := u
 rcases h.2 with ⟨_, h0⟩ | ⟨g, cap, cur, hv, hg, _, hn, _, _, _⟩
 ·omega
 ·simp only [slV, Value.slice.injEq] at hv
  obtain ⟨rfl, rfl, rfl⟩ := hv
  exact ⟨g, _, rfl, hg, hn⟩
theorem refUpTo (x a b : Int) (w : World) : Calls Tryz.prog 80 #[.int .i64 x, .int .i64 a, .int .i64 b] w fun e w' => e = .returned (.bool (decide (a ≤ x) && decide (x ≤ b))) ∧ w = w' := by
 by_cases h : a ≤ x
 all_goals
   go_enter Tryz.func80, Tryz.ntmps80
   go_wp2
   go_ret
   exact ⟨ret_bool (by simp [h]; try omega), rfl⟩
theorem in_yes {a x b : Int} (h : a ≤ x) (k : x ≤ b) : (decide (a ≤ x) && decide (x ≤ b)) = true := by simp [h, k]
theorem in_no {a x b : Int} (h : x < a ∨ b < x) : (decide (a ≤ x) && decide (x ≤ b)) = false := by simp; omega
set_option maxHeartbeats 2000000 in
theorem refOperMay (c r a : Int) (w : World) :
   Calls Tryz.prog 44 #[opV c r a] w fun e w' => e = .returned (.bool (opMay c r a)) ∧ Le w w' := by
 by_cases hc : c < 0 ∨ 3 < c
 ·go_enter Tryz.func44, Tryz.ntmps44
  go_wp2_with (go_at_call 80; refine (refUpTo _ _ _ _).mono ?_; rw [in_no hc]; rintro e w1 ⟨rfl, rfl⟩)
  go_ret
  exact ⟨ret_bool (by simp [opMay]; omega), Le.alloc _ _⟩
 have hc' := in_yes (a := 0) (x := c) (b := 3) (by omega) (by omega)
 by_cases hr : r < 0 ∨ 3 < r
 ·go_enter Tryz.func44, Tryz.ntmps44
  go_wp2_with (go_at_call 80; refine (refUpTo _ _ _ _).mono ?_; (first | rw [hc'] | rw [in_no hr]); rintro e w1 ⟨rfl, rfl⟩)
  go_ret
  exact ⟨ret_bool (by simp [opMay]; omega), Le.alloc _ _⟩
 have hr' := in_yes (a := 0) (x := r) (b := 3) (by omega) (by omega)
 by_cases ha : a < 0 ∨ 255 < a
 ·go_enter Tryz.func44, Tryz.ntmps44
  go_wp2_with (go_at_call 80; refine (refUpTo _ _ _ _).mono ?_; (first | rw [hc'] | rw [hr'] | rw [in_no ha]); rintro e w1 ⟨rfl, rfl⟩)
  go_ret
  exact ⟨ret_bool (by simp [opMay]; omega), Le.alloc _ _⟩
 have ha' := in_yes (a := 0) (x := a) (b := 255) (by omega) (by omega)
 have hH : opMay c r a = (decide (c < 2) || (decide (a = 0) && (decide (c = 2) || decide (r = 0)))) := by
   rw [Bool.eq_iff_iff]; simp [opMay]; omega
 rw [hH]
 clear hH
 by_cases h2 : c < 2
 ·go_enter Tryz.func44, Tryz.ntmps44
  go_wp2_with (go_at_call 80; refine (refUpTo _ _ _ _).mono ?_; (first | rw [hc'] | rw [hr'] | rw [ha']); rintro e w1 ⟨rfl, rfl⟩)
  go_ret
  exact ⟨ret_bool (by simp [h2]), Le.alloc _ _⟩
 by_cases h0 : a = 0
 ·subst h0
  by_cases h3 : c = 2
  ·subst h3
   go_enter Tryz.func44, Tryz.ntmps44
   go_wp2_with (go_at_call 80; refine (refUpTo _ _ _ _).mono ?_; (first | rw [hc'] | rw [hr'] | rw [ha']); rintro e w1 ⟨rfl, rfl⟩)
   go_ret
   exact ⟨ret_bool (by simp), Le.alloc _ _⟩
  ·go_enter Tryz.func44, Tryz.ntmps44
   go_wp2_with (go_at_call 80; refine (refUpTo _ _ _ _).mono ?_; (first | rw [hc'] | rw [hr'] | rw [ha']); rintro e w1 ⟨rfl, rfl⟩)
   go_ret
   exact ⟨ret_bool (by simp [h3, beq_int]), Le.alloc _ _⟩
 ·go_enter Tryz.func44, Tryz.ntmps44
  go_wp2_with (go_at_call 80; refine (refUpTo _ _ _ _).mono ?_; (first | rw [hc'] | rw [hr'] | rw [ha']); rintro e w1 ⟨rfl, rfl⟩)
  go_ret
  exact ⟨ret_bool (by simp [h0]), Le.alloc _ _⟩
theorem refSlotsMay (n : Int) (w : World) : Calls Tryz.prog 78 #[.int .i64 n] w fun e w' => e = .returned (.bool (slotsB n)) ∧ w = w' := by
 rcases (by omega : n = 2 ∨ n = 4 ∨ n = 8 ∨ n = 16 ∨ (n ≠ 2 ∧ n ≠ 4 ∧ n ≠ 8 ∧ n ≠ 16)) with rfl | rfl | rfl | rfl | ⟨h1, h2, h3, h4⟩
 iterate 4
   ·go_enter Tryz.func78, Tryz.ntmps78
    go_wp2
    go_ret
    exact ⟨ret_bool (by decide), rfl⟩
 ·go_enter Tryz.func78, Tryz.ntmps78
  go_wp2
  go_ret
  exact ⟨ret_bool (by simp [slotsB, h1, h2, h3, h4]), rfl⟩
theorem refCellMay (x : Int) (w : World) : Calls Tryz.prog 79 #[.int .i64 x] w fun e w' => e = .returned (.bool (holdB x)) ∧ w = w' := by
 go_enter Tryz.func79, Tryz.ntmps79
 go_wp2_with (go_at_call 80; refine (refUpTo _ _ _ _).mono ?_; rintro e _ ⟨rfl, rfl⟩)
 go_ret
 exact ⟨rfl, rfl⟩
set_option maxHeartbeats 1000000 in
theorem refBit (p n : Int) (w : World) :
   Calls Tryz.prog 83 #[.int .i64 p, .int .i64 n] w fun e w' => e = .returned (.tuple #[.int .i64 (bitS p n).1, .int .i64 (bitS p n).2]) ∧ w = w' := by
 have h1 := fun w' => refSlotsMay n w'
 have h2 := fun w' => refCellMay p w'
 cases hn : slotsB n
 ·rw [bitS_no (.inl hn)]
  rw [hn] at h1
  go_enter Tryz.func83, Tryz.ntmps83
  go_wp2_with (first | (go_at_call 78; refine (h1 _).mono ?_; rintro e _ ⟨rfl, rfl⟩) | (go_at_call 79; refine (h2 _).mono ?_; rintro e _ ⟨rfl, rfl⟩))
  go_ret2
  exact ⟨rfl, rfl⟩
 cases hp : holdB p
 ·rw [bitS_no (.inr hp)]
  rw [hn] at h1
  rw [hp] at h2
  go_enter Tryz.func83, Tryz.ntmps83
  go_wp2_with (first | (go_at_call 78; refine (h1 _).mono ?_; rintro e _ ⟨rfl, rfl⟩) | (go_at_call 79; refine (h2 _).mono ?_; rintro e _ ⟨rfl, rfl⟩))
  go_ret2
  exact ⟨rfl, rfl⟩
 rw [bitS_yes hn hp]
 rw [hn] at h1
 rw [hp] at h2
 obtain ⟨p0, p1⟩ := holdB_cases hp
 rcases slotsB_cases hn with rfl | rfl | rfl | rfl
 all_goals
   clear hn hp
   go_enter Tryz.func83, Tryz.ntmps83
   go_wp2_with (first | (go_at_call 78; refine (h1 _).mono ?_; rintro e _ ⟨rfl, rfl⟩) | (go_at_call 79; refine (h2 _).mono ?_; rintro e _ ⟨rfl, rfl⟩))
   go_ret2
   refine ⟨ret_two ?_ rfl, rfl⟩
   unfold bitAt
   omega
set_option maxHeartbeats 1000000 in
theorem refAlive (c r a t b p n : Int) (w : World) :
   Calls Tryz.prog 42 #[slotV c r a t b, .int .i64 p, .int .i64 n] w fun e w' => e = .returned (.tuple #[.bool (aliveS b p n).1, .int .i64 (aliveS b p n).2]) ∧ Le w w' := by
 have h1 := fun w' => refBit p n w'
 by_cases hy : slotsB n = true ∧ holdB p = true
 ·rw [aliveS_yes hy.1 hy.2]
  rw [bitS_yes hy.1 hy.2] at h1
  generalize bitAt p n = q at h1 ⊢
  clear hy
  go_enter Tryz.func42, Tryz.ntmps42
  go_wp2_with (go_at_call 83; refine (h1 _).mono ?_; rintro e _ ⟨rfl, rfl⟩)
  go_ret2
  exact ⟨ret_pair (by simp [beq_int]) rfl, Le.alloc _ _⟩
 ·have hy' : slotsB n = false ∨ holdB p = false := by
    cases h : slotsB n <;> cases k : holdB p <;> simp_all
  rw [aliveS_no hy']
  rw [bitS_no hy'] at h1
  clear hy hy'
  go_enter Tryz.func42, Tryz.ntmps42
  go_wp2_with (go_at_call 83; refine (h1 _).mono ?_; rintro e _ ⟨rfl, rfl⟩)
  go_ret2
  exact ⟨rfl, Le.alloc _ _⟩
set_option maxHeartbeats 2000000 in
theorem refUpdates (c r a : Int) (w : World) :
   Calls Tryz.prog 81 #[opV c r a] w fun e w' => e = .returned (.bool (opUp c r a)) ∧ Le w w' := by
 have hb := Box.new w #[.int .i64 c, .int .i64 r, .int .i64 a] 48
 have hl := Le.alloc w (.cells #[.int .i64 c, .int .i64 r, .int .i64 a] 48)
 have ho := fun w => refOperMay c r a w
 cases hm : opMay c r a
 ·rw [hm] at ho
  go_enter Tryz.func81, Tryz.ntmps81
  go_wp2_with (go_at_call 44; refine (ho _).mono ?_; rintro e w1 ⟨rfl, l1⟩)
  go_ret
  exact ⟨ret_bool (by simp [opUp, hm]), hl.trans l1⟩
 ·rw [hm] at ho
  have hc : (decide (c < 2)) = (decide (c = 0) || decide (c = 1)) := by
    rw [Bool.eq_iff_iff]
    simp [opMay] at hm
    simp
    omega
  go_enter Tryz.func81, Tryz.ntmps81
  go_wp2_with (go_at_call 44; refine (ho _).mono ?_; rintro e w1 ⟨rfl, l1⟩; obtain ⟨b0, b1, b2, f0, f1, f2⟩ := (hb.le l1).op)
  go_ret
  exact ⟨ret_bool (by simp only [opUp, hm, Bool.true_and]), hl.trans l1⟩
theorem refThreadMay (t : Int) (w : World) : Calls Tryz.prog 82 #[.int .i64 t] w fun e w' => e = .returned (.bool (threadB t)) ∧ w = w' := by
 go_enter Tryz.func82, Tryz.ntmps82
 go_wp2_with (go_at_call 80; refine (refUpTo _ _ _ _).mono ?_; rintro e _ ⟨rfl, rfl⟩)
 go_ret
 refine ⟨ret_bool ?_, rfl⟩
 rw [Bool.eq_iff_iff]
 simp [threadB]
 omega
theorem OwnL.lit0 (w : World) (base : Nat) (hb : base ≤ w.heap.size) : OwnL (w.alloc (.cells #[] 50)) base (.slice (some ⟨w.heap.size, 0, none⟩) 0 0) [] := by
 have := World.ownsRow_lit (e := 50) (size := 5) w #[] 0 hb (by unfold maxLen; omega) (by simp)
 exact OwnL.of this rfl rfl
set_option maxHeartbeats 1000000 in
theorem refCopyRing (h t f : Int) (q : Sl) (ss : List Slt) (w : World) (hx : HasL w (slV q) ss) (hf : ss.length * 40 ≤ 140737488351232) :
   Calls Tryz.prog 75 #[ringV h t f q] w fun e w' => ∃ u : Sl, e = .returned (ringV h t f u) ∧ OwnL w' w.heap.size (slV u) ss ∧ Le w w' := by
 have hb := (Box.new w (cellsR h t f q) 55).le (Le.alloc _ (.cells (cellsR 0 0 0 slZ) 55))
 have hb2 := Box.new (w.alloc (.cells (cellsR h t f q) 55)) (cellsR 0 0 0 slZ) 55
 rw [World.size_alloc] at hb2
 have hl := (Le.alloc w (.cells (cellsR h t f q) 55)).trans (Le.alloc _ (.cells (cellsR 0 0 0 slZ) 55))
 have hn1 := OwnL.lit0 ((w.alloc (.cells (cellsR h t f q) 55)).alloc (.cells (cellsR 0 0 0 slZ) 55)) (w.heap.size + 1 + 1) (by simp)
 have hl1 := hl.trans (Le.alloc _ (.cells #[] 50))
 simp only [World.size_alloc] at hn1
 have hrow : ∀ g, some (w.heap.size + 1 + 1) = some g → w.heap.size ≤ g := by intro g hg; simp at hg; omega
 go_enter Tryz.func75, Tryz.ntmps75
 go_wp2_with (at_builtin; refine wp_append_slots rfl _ _ rfl (w.heap.size + 1 + 1) _ _ [] ss rfl rfl hn1 (hx.le hl1) (by simp; omega) (by simp only [World.size_alloc]; omega) ?_; intro v' w2 hown hgrow; rw [List.nil_append] at hown; replace hgrow : World.grownBy _ w2 (some (w.heap.size + 1 + 1)) := hgrow; have hb3 := (hb.le (Le.alloc _ (.cells #[] 50))).grown hgrow (by simp only [ne_eq, Option.some.injEq]; omega); have hb4 := (hb2.le (Le.alloc _ (.cells #[] 50))).grown hgrow (by simp only [ne_eq, Option.some.injEq]; omega); have l2 : Le w w2 := Below.grown hl1 hgrow hl1.size hrow; obtain ⟨u, rfl⟩ := hown.has.sl; obtain ⟨b0, b1, b2, b3, f0, f1, f2, f3⟩ := hb3.ring; obtain ⟨p0, p1, p2, p3, g0, g1, g2, g3⟩ := hb4.ring)
 refine bodyPost_ret (v := ringV h t f u) (by simp [results, Tryz.results75, go_sem, p0, p1, p2, p3]) rfl ⟨u, rfl, ?_, ?_⟩
 ·iterate 5 refine OwnL.set ?_ (hown.off (by omega))
  exact hown.base (by omega)
 ·iterate 5 refine Le.set ?_ (by omega)
  exact l2
theorem take_same {xs ys : List Int} {k : Nat} (h1 : k < xs.length) (h2 : k < ys.length) (h : xs.take k = ys.take k) (he : xs.getD k 0 = ys.getD k 0) : xs.take (k + 1) = ys.take (k + 1) := by
 rw [List.take_succ_eq_append_getElem h1, List.take_succ_eq_append_getElem h2, h]
 simp [List.getD, h1, h2] at he
 rw [he]
theorem ne_of_at {xs ys : List Int} {k : Nat} (he : ¬ xs.getD k 0 = ys.getD k 0) : ¬ xs = ys := fun h => he (by rw [h])
set_option maxHeartbeats 400000 in
theorem lawSameInts (v u : Value) (xs ys : List Int) (w : World) (hx : Has w v xs) (hy : Has w u ys) (hm : xs.length ≤ 9223372036854775807) :
   Calls Tryz.prog 23 #[v, u] w fun e w' => e = .returned (.bool (decide (xs = ys))) ∧ ∃ n, w' = w.drewN n := by
 obtain ⟨a, cap, rfl, hc, _, hx⟩ := hx
 obtain ⟨c, cap', rfl, hc', _, hy⟩ := hy
 by_cases hl : xs.length = ys.length
 ·by_cases h0 : 0 < xs.length
  ·obtain ⟨b, off, rfl, hcell⟩ := hx h0
   obtain ⟨b', off', rfl, hcell'⟩ := hy (by omega)
   have HL : Hid (xs.length = ys.length) := hl
   obtain ⟨L, hL⟩ : ∃ L, L = xs.length := ⟨_, rfl⟩
   rw [← hL] at hm ⊢
   have hL' : ys.length = L := by omega
   rw [hL']
   have HLx : Hid (xs.length = L) := hL.symm
   have HLy : Hid (ys.length = L) := hL'
   rw [← hL] at hcell h0 hc
   rw [hL'] at hcell' hc'
   clear hl hx hy hL hL'
   go_enter Tryz.func23, Tryz.ntmps23
   go_wp2
   go_loopw [5] (fun i wr => ∃ k n : Nat, k ≤ L ∧ i = .int .i64 k ∧ Hid (xs.take k = ys.take k) ∧ wr = w.drewN n) (fun i _ => L - (intOf i).toNat)
   case atStart => exact ⟨0, 0, Nat.zero_le _, rfl, rfl, rfl⟩
   case round =>
     obtain ⟨k, n, hk, rfl, HT, rfl⟩ := hrel
     by_cases hlt : k < L
     ·obtain ⟨x, hxk⟩ : ∃ x, x = xs.getD k 0 := ⟨_, rfl⟩
      have hck : w.cell? ⟨b, off + k, none⟩ = some (.int .i64 x) := by rw [hxk]; exact hcell k hlt
      obtain ⟨y, hyk⟩ : ∃ y, y = ys.getD k 0 := ⟨_, rfl⟩
      have hck' : w.cell? ⟨b', off' + k, none⟩ = some (.int .i64 y) := by rw [hyk]; exact hcell' k hlt
      have HX : Hid (x = xs.getD k 0) := hxk
      have HY : Hid (y = ys.getD k 0) := hyk
      have hlt' : (k : Int) < (L : Int) := by omega
      clear hxk hyk hcell hcell'
      by_cases hxy : x = y
      ·subst hxy
       go_wp2
       go_quiet (fail)
       go_wp2
       go_roundw
       case rel => exact ⟨k + 1, n + nq, by omega, by go_num, take_same (by have := HLx.out; omega) (by have := HLy.out; omega) HT.out (by rw [← HX.out, ← HY.out]), rfl⟩
       case measure => simp [intOf]; omega
      ·have hne : (x != y) = true := by simp [hxy]
       have HN : Hid (¬ x = y) := hxy
       clear hxy
       go_wp2
       go_quiet (fail)
       go_wp2
       go_ret
       exact ⟨ret_bool (by have := ne_of_at (k := k) (xs := xs) (ys := ys) (by rw [← HX.out, ← HY.out]; exact HN.out); simp [this]), n + nq, World.drewN_drewN _ _ _⟩
     ·go_wp2
      go_ret
      refine ⟨ret_bool ?_, _, rfl⟩
      have h1 := HLx.out
      have h2 := HLy.out
      have := HT.out
      rw [List.take_of_length_le (by omega), List.take_of_length_le (by omega)] at this
      simp [this]
  ·have hxn : xs = [] := by cases xs with | nil => rfl | cons _ _ => simp at h0
   have hyn : ys = [] := by cases ys with | nil => rfl | cons _ _ => subst hxn; simp at hl
   subst hxn hyn
   go_enter Tryz.func23, Tryz.ntmps23
   go_wp2
   refine wp_loop_rounds 1 ?_
   rw [rounds_succ]
   go_wp2
   go_ret
   exact ⟨ret_bool (by simp), 0, rfl⟩
 ·have hne : (((xs.length : Int)) != (ys.length : Int)) = true := by simp; omega
  have HN : Hid (¬ xs = ys) := fun h => hl (by rw [h])
  clear hl
  go_enter Tryz.func23, Tryz.ntmps23
  go_wp2
  go_ret
  exact ⟨ret_bool (by have := HN.out; simp [this]), 0, rfl⟩
theorem take_sameL {xs ys : List Slt} {k : Nat} (h1 : k < xs.length) (h2 : k < ys.length) (h : xs.take k = ys.take k) (he : xs.getD k Slt.zero = ys.getD k Slt.zero) : xs.take (k + 1) = ys.take (k + 1) := by
 rw [List.take_succ_eq_append_getElem h1, List.take_succ_eq_append_getElem h2, h]
 simp [List.getD, h1, h2] at he
 rw [he]
theorem slt_ne {x y : Slt} (h : ¬ x = y) : (x.c == y.c) = false ∨ ((x.c == y.c) = true ∧ (x.r == y.r) = false) ∨ ((x.c == y.c) = true ∧ (x.r == y.r) = true ∧ (x.a == y.a) = false) ∨ ((x.c == y.c) = true ∧ (x.r == y.r) = true ∧ (x.a == y.a) = true ∧ (x.t == y.t) = false) ∨ ((x.c == y.c) = true ∧ (x.r == y.r) = true ∧ (x.a == y.a) = true ∧ (x.t == y.t) = true ∧ (x.b == y.b) = false) := by
 cases e0 : x.c == y.c
 ·exact .inl rfl
 cases e1 : x.r == y.r
 ·exact .inr (.inl ⟨rfl, rfl⟩)
 cases e2 : x.a == y.a
 ·exact .inr (.inr (.inl ⟨rfl, rfl, rfl⟩))
 cases e3 : x.t == y.t
 ·exact .inr (.inr (.inr (.inl ⟨rfl, rfl, rfl, rfl⟩)))
 cases e4 : x.b == y.b
 ·exact .inr (.inr (.inr (.inr ⟨rfl, rfl, rfl, rfl, rfl⟩)))
 exfalso
 obtain ⟨_, _, _, _, _⟩ := x
 obtain ⟨_, _, _, _, _⟩ := y
 simp at e0 e1 e2 e3 e4
 subst e0 e1 e2 e3 e4
 exact h rfl
theorem ne_of_atL {xs ys : List Slt} {k : Nat} (he : ¬ xs.getD k Slt.zero = ys.getD k Slt.zero) : ¬ xs = ys := fun h => he (by rw [h])
set_option maxHeartbeats 400000 in
theorem lawSameSlots (v u : Value) (xs ys : List Slt) (w : World) (hx : HasL w v xs) (hy : HasL w u ys) (hm : xs.length ≤ 9223372036854775807) :
   Calls Tryz.prog 76 #[v, u] w fun e w' => e = .returned (.bool (decide (xs = ys))) ∧ ∃ n, w' = w.drewN n := by
 obtain ⟨a, cap, rfl, hc, _, hx⟩ := hx
 obtain ⟨c, cap', rfl, hc', _, hy⟩ := hy
 by_cases hl : xs.length = ys.length
 ·by_cases h0 : 0 < xs.length
  ·obtain ⟨b, off, rfl, hcell⟩ := hx h0
   obtain ⟨b', off', rfl, hcell'⟩ := hy (by omega)
   have HL : Hid (xs.length = ys.length) := hl
   obtain ⟨L, hL⟩ : ∃ L, L = xs.length := ⟨_, rfl⟩
   rw [← hL] at hm ⊢
   have hL' : ys.length = L := by omega
   rw [hL']
   have HLx : Hid (xs.length = L) := hL.symm
   have HLy : Hid (ys.length = L) := hL'
   rw [← hL] at hcell h0 hc
   rw [hL'] at hcell' hc'
   clear hl hx hy hL hL'
   go_enter Tryz.func76, Tryz.ntmps76
   go_wp2
   go_loopw [5] (fun i wr => ∃ k n : Nat, k ≤ L ∧ i = .int .i64 k ∧ Hid (xs.take k = ys.take k) ∧ wr = w.drewN n) (fun i _ => L - (intOf i).toNat)
   case atStart => exact ⟨0, 0, Nat.zero_le _, rfl, rfl, rfl⟩
   case round =>
     obtain ⟨k, n, hk, rfl, HT, rfl⟩ := hrel
     by_cases hlt : k < L
     ·obtain ⟨x, hxk⟩ : ∃ x, x = xs.getD k Slt.zero := ⟨_, rfl⟩
      obtain ⟨x0, x1, x2, x3, x4⟩ := hcell k hlt
      rw [← hxk] at x0 x1 x2 x3 x4
      obtain ⟨y, hyk⟩ : ∃ y, y = ys.getD k Slt.zero := ⟨_, rfl⟩
      obtain ⟨y0, y1, y2, y3, y4⟩ := hcell' k hlt
      rw [← hyk] at y0 y1 y2 y3 y4
      have HX : Hid (x = xs.getD k Slt.zero) := hxk
      have HY : Hid (y = ys.getD k Slt.zero) := hyk
      have hlt' : (k : Int) < (L : Int) := by omega
      clear hxk hyk hcell hcell'
      by_cases hxy : x = y
      ·subst hxy
       go_wp2
       go_quiet (fail)
       go_wp2
       go_roundw
       case rel => exact ⟨k + 1, n + nq, by omega, by go_num, take_sameL (by have := HLx.out; omega) (by have := HLy.out; omega) HT.out (by rw [← HX.out, ← HY.out]), rfl⟩
       case measure => simp [intOf]; omega
      ·have HN : Hid (¬ x = y) := hxy
       rcases slt_ne hxy with e0 | ⟨e0, e1⟩ | ⟨e0, e1, e2⟩ | ⟨e0, e1, e2, e3⟩ | ⟨e0, e1, e2, e3, e4⟩
       all_goals
         clear hxy
         go_wp2
         go_quiet (fail)
         go_wp2
         go_ret
         exact ⟨ret_bool (by have := ne_of_atL (k := k) (xs := xs) (ys := ys) (by rw [← HX.out, ← HY.out]; exact HN.out); simp [this]), n + nq, World.drewN_drewN _ _ _⟩
     ·go_wp2
      go_ret
      refine ⟨ret_bool ?_, _, rfl⟩
      have h1 := HLx.out
      have h2 := HLy.out
      have := HT.out
      rw [List.take_of_length_le (by omega), List.take_of_length_le (by omega)] at this
      simp [this]
  ·have hxn : xs = [] := by cases xs with | nil => rfl | cons _ _ => simp at h0
   have hyn : ys = [] := by cases ys with | nil => rfl | cons _ _ => subst hxn; simp at hl
   subst hxn hyn
   go_enter Tryz.func76, Tryz.ntmps76
   go_wp2
   refine wp_loop_rounds 1 ?_
   rw [rounds_succ]
   go_wp2
   go_ret
   exact ⟨ret_bool (by simp), 0, rfl⟩
 ·have hne : (((xs.length : Int)) != (ys.length : Int)) = true := by simp; omega
  have HN : Hid (¬ xs = ys) := fun h => hl (by rw [h])
  clear hl
  go_enter Tryz.func76, Tryz.ntmps76
  go_wp2
  go_ret
  exact ⟨ret_bool (by have := HN.out; simp [this]), 0, rfl⟩
theorem lawSameS (v u : Value) (xs ys : List Slt) (w : World) (hx : HasL w v xs) (hy : HasL w u ys) (hm : xs.length * 40 ≤ 140737488351232) :
   Calls Tryz.prog 76 #[v, u] w fun e w' => e = .returned (.bool (decide (xs = ys))) ∧ Le w w' :=
 (lawSameSlots v u xs ys w hx hy (by omega)).mono fun _ _ ⟨he, n, hw⟩ => ⟨he, by rw [hw]; exact Le.drewN _ _⟩
theorem rg_eq {R S : Rg} : decide (R = S) = (decide (R.h = S.h) && decide (R.t = S.t) && decide (R.f = S.f) && decide (R.ss = S.ss)) := by
 obtain ⟨_, _, _, _⟩ := R
 obtain ⟨_, _, _, _⟩ := S
 simp [Bool.and_assoc]
set_option maxHeartbeats 1000000 in
theorem lawSameRing (v u : Value) (R S : Rg) (w : World) (hx : HasR w v R) (hy : HasR w u S) (hf : FitR R) :
   Calls Tryz.prog 35 #[v, u] w fun e w' => e = .returned (.bool (decide (R = S))) ∧ Le w w' := by
 rw [rg_eq]
 obtain ⟨h, t, f, ss⟩ := R
 obtain ⟨h', t', f', ss'⟩ := S
 obtain ⟨q, rfl, hq⟩ := hx
 obtain ⟨q', rfl, hq'⟩ := hy
 simp only at hq hq' ⊢
 replace hf : ss.length * 40 ≤ 140737488351232 := hf
 have hl := (Le.alloc w (.cells (cellsR h t f q) 55)).trans (Le.alloc _ (.cells (cellsR h' t' f' q') 55))
 have hs := lawSameS _ _ ss ss' _ (hq.le hl) (hq'.le hl) hf
 by_cases e0 : h = h'
 ·subst e0
  by_cases e1 : t = t'
  ·subst e1
   by_cases e2 : f = f'
   ·subst e2
    go_enter Tryz.func35, Tryz.ntmps35
    go_wp2_with fail
    refine hs.mono ?_
    rintro e w1 ⟨rfl, l1⟩
    go_wp2_with fail
    go_ret
    exact ⟨ret_bool (by simp), hl.trans l1⟩
   ·have hne : (f == f') = false := by simp [e2]
    rw [show decide (f = f') = false by simp [e2]]
    clear e2
    go_enter Tryz.func35, Tryz.ntmps35
    go_wp2_with fail
    go_ret
    exact ⟨ret_bool (by simp), hl⟩
  ·have hne : (t == t') = false := by simp [e1]
   rw [show decide (t = t') = false by simp [e1]]
   clear e1
   go_enter Tryz.func35, Tryz.ntmps35
   go_wp2_with fail
   go_ret
   exact ⟨ret_bool (by simp), hl⟩
 ·have hne : (h == h') = false := by simp [e0]
  rw [show decide (h = h') = false by simp [e0]]
  clear e0
  go_enter Tryz.func35, Tryz.ntmps35
  go_wp2_with fail
  go_ret
  exact ⟨ret_bool (by simp), hl⟩
def IntsL (w : World) (base : Nat) (v : Value) : Prop :=
 ∃ (a : Option Addr) (n cap : Nat), v = .slice a n cap ∧ n ≤ cap ∧ n ≤ 9223372036854775807 ∧
   (0 < n → ∃ b off, a = some ⟨b, off, none⟩ ∧ base ≤ b ∧ ∀ i, i < n → (∃ x, w.cell? ⟨b, off + i * 5 + 3, none⟩ = some (.int .i64 x)) ∧ w.frozen? ⟨b, off + i * 5 + 3, none⟩ = false)
theorem OwnL.ints {w : World} {base : Nat} {v : Value} {ss : List Slt} (h : OwnL w base v ss) (hm : ss.length * 40 ≤ 140737488351232) : IntsL w base v := by
 have hh := h.has
 obtain ⟨a, cap, hv, hc, _, hx⟩ := hh
 refine ⟨a, ss.length, cap, hv, hc, by omega, fun hp => ?_⟩
 obtain ⟨b, off, ha, hcell⟩ := hx hp
 subst ha hv
 refine ⟨b, off, rfl, (h.block (g := b) rfl).1, fun i hi => ⟨⟨_, (hcell i hi).2.2.2.1⟩, ?_⟩⟩
 rcases h.2 with ⟨h2, _⟩ | ⟨g, cap', cur, hv, hg, hh, _⟩
 ·simp at h2
 ·simp only [Value.slice.injEq, Option.some.injEq, Addr.mk.injEq] at hv
  obtain ⟨⟨rfl, rfl, _⟩, _⟩ := hv
  exact Box.frozen (show Box w b cur 50 from hh) _
set_option maxHeartbeats 1000000 in
theorem lawCopyRing (h t f : Int) (q : Sl) (ss : List Slt) (w : World) (hx : HasL w (slV q) ss) (hf : ss.length * 40 ≤ 140737488351232) :
   Calls Tryz.prog 24 #[ringV h t f q] w fun e w' => ∃ u : Sl, e = .returned (ringV h t f u) ∧ OwnL w' w.heap.size (slV u) ss ∧ Le w w' := by
 have hb := (Box.new w (cellsR h t f q) 55).le (Le.alloc _ (.cells (cellsR 0 0 0 slZ) 55))
 have hb2 := Box.new (w.alloc (.cells (cellsR h t f q) 55)) (cellsR 0 0 0 slZ) 55
 rw [World.size_alloc] at hb2
 have hl := (Le.alloc w (.cells (cellsR h t f q) 55)).trans (Le.alloc _ (.cells (cellsR 0 0 0 slZ) 55))
 have hn1 := OwnL.lit0 ((w.alloc (.cells (cellsR h t f q) 55)).alloc (.cells (cellsR 0 0 0 slZ) 55)) (w.heap.size + 1 + 1) (by simp)
 have hl1 := hl.trans (Le.alloc _ (.cells #[] 50))
 simp only [World.size_alloc] at hn1
 have hrow : ∀ g, some (w.heap.size + 1 + 1) = some g → w.heap.size ≤ g := by intro g hg; simp at hg; omega
 go_enter Tryz.func24, Tryz.ntmps24
 go_wp2_with (at_builtin; refine wp_append_slots rfl _ _ rfl (w.heap.size + 1 + 1) _ _ [] ss rfl rfl hn1 (hx.le hl1) (by simp; omega) (by simp only [World.size_alloc]; omega) ?_; intro v' w2 hown hgrow; rw [List.nil_append] at hown; replace hgrow : World.grownBy _ w2 (some (w.heap.size + 1 + 1)) := hgrow; have hb3 := (hb.le (Le.alloc _ (.cells #[] 50))).grown hgrow (by simp only [ne_eq, Option.some.injEq]; omega); have hb4 := (hb2.le (Le.alloc _ (.cells #[] 50))).grown hgrow (by simp only [ne_eq, Option.some.injEq]; omega); have l2 : Le w w2 := Below.grown hl1 hgrow hl1.size hrow; obtain ⟨u, rfl⟩ := hown.has.sl; obtain ⟨b0, b1, b2, b3, f0, f1, f2, f3⟩ := hb3.ring; obtain ⟨p0, p1, p2, p3, g0, g1, g2, g3⟩ := hb4.ring)
 refine bodyPost_ret (v := ringV h t f u) (by simp [results, Tryz.results24, go_sem, p0, p1, p2, p3]) rfl ⟨u, rfl, ?_, ?_⟩
 ·iterate 5 refine OwnL.set ?_ (hown.off (by omega))
  exact hown.base (by omega)
 ·iterate 5 refine Le.set ?_ (by omega)
  exact l2
structure Cfg where
 o : Int
 r : Int
 l : Int
 t : Int
 s : Int
deriving DecidableEq
structure Rp where
 s : St
 cs : List Int
 ls : List Int
deriving DecidableEq
structure Th where
 st : Int
 c : Int
 r : Int
 a : Int
 lg : Int
 sn : Int
 b : List Int
 pl : Int
 po : Bool
 re : Bool
 an : Int
 tl : List Int
deriving DecidableEq
structure Ev where
 t : Int
 ca : Bool
 c : Int
 r : Int
 a : Int
 an : Int
deriving DecidableEq
structure Mc where
 c : Cfg
 rs : List Rg
 ps : List Rp
 ts : List Th
 es : List Ev
deriving DecidableEq
def Rp.zero : Rp := ⟨St.zero, [], []⟩
def Th.zero : Th := ⟨0, 0, 0, 0, 0, 0, [], 0, false, false, 0, []⟩
def Ev.zero : Ev := ⟨0, false, 0, 0, 0, 0⟩
def Cfg.zero : Cfg := ⟨0, 0, 0, 0, 0⟩
def Mc.zero : Mc := ⟨Cfg.zero, [], [], [], []⟩
structure LR where
 R : Rg
 q : Sl
structure LP where
 P : Rp
 vs : Nat → Sl
 c : Sl
 l : Sl
structure LT where
 T : Th
 b : Sl
 t : Sl
abbrev LR.cells (x : LR) : List Value := [.int .i64 x.R.h, .int .i64 x.R.t, .int .i64 x.R.f, slV x.q]
abbrev LP.cells (x : LP) : List Value := [slV (x.vs 0), slV (x.vs 1), slV (x.vs 2), slV (x.vs 3), slV x.c, slV x.l]
abbrev LT.cells (x : LT) : List Value := [.int .i64 x.T.st, .int .i64 x.T.c, .int .i64 x.T.r, .int .i64 x.T.a, .int .i64 x.T.lg, .int .i64 x.T.sn, slV x.b, .int .i64 x.T.pl, .bool x.T.po, .bool x.T.re, .int .i64 x.T.an, slV x.t]
abbrev Ev.cells (x : Ev) : List Value := [.int .i64 x.t, .bool x.ca, .int .i64 x.c, .int .i64 x.r, .int .i64 x.a, .int .i64 x.an]
def ringK : Kind LR := ⟨55, 4, 48, LR.cells, ⟨Rg.zero, slZ⟩, by decide, fun _ => rfl, fun x u hu => by simp [LR.cells] at hu; rcases hu with rfl | rfl | rfl | rfl <;> rfl⟩
def repK : Kind LP := ⟨46, 6, 144, LP.cells, ⟨Rp.zero, fun _ => slZ, slZ, slZ⟩, by decide, fun _ => rfl, fun x u hu => by simp [LP.cells] at hu; rcases hu with rfl | rfl | rfl | rfl | rfl | rfl <;> rfl⟩
def thK : Kind LT := ⟨59, 12, 120, LT.cells, ⟨Th.zero, slZ, slZ⟩, by decide, fun _ => rfl, fun x u hu => by simp [LT.cells] at hu; rcases hu with rfl | rfl | rfl | rfl | rfl | rfl | rfl | rfl | rfl | rfl | rfl | rfl <;> rfl⟩
def evK : Kind Ev := ⟨102, 6, 48, Ev.cells, Ev.zero, by decide, fun _ => rfl, fun x u hu => by simp [Ev.cells] at hu; rcases hu with rfl | rfl | rfl | rfl | rfl | rfl <;> rfl⟩
theorem ringIn : ringK.In Tryz.prog 24 := ⟨Tryz.underlying24, _, (by kernel_rfl : _ = some (some (.agg #[.int .i64 0, .int .i64 0, .int .i64 0, .slice none 0 0]), 4, 48)), rfl⟩
theorem repIn : repK.In Tryz.prog 25 := ⟨Tryz.underlying25, _, (by kernel_rfl : _ = some (some (.agg #[.slice none 0 0, .slice none 0 0, .slice none 0 0, .slice none 0 0, .slice none 0 0, .slice none 0 0]), 6, 144)), rfl⟩
theorem thIn : thK.In Tryz.prog 26 := ⟨Tryz.underlying26, _, (by kernel_rfl : _ = some (some (.agg #[.int .i64 0, .int .i64 0, .int .i64 0, .int .i64 0, .int .i64 0, .int .i64 0, .slice none 0 0, .int .i64 0, .bool false, .bool false, .int .i64 0, .slice none 0 0]), 12, 120)), rfl⟩
theorem evIn : evK.In Tryz.prog 27 := ⟨Tryz.underlying27, _, (by kernel_rfl : _ = some (some (.agg #[.int .i64 0, .bool false, .int .i64 0, .int .i64 0, .int .i64 0, .int .i64 0]), 6, 48)), rfl⟩
abbrev repV (vs : Nat → Sl) (c l : Sl) : Value := .agg #[slV (vs 0), slV (vs 1), slV (vs 2), slV (vs 3), slV c, slV l]
abbrev thV (T : Th) (b t : Sl) : Value := .agg #[.int .i64 T.st, .int .i64 T.c, .int .i64 T.r, .int .i64 T.a, .int .i64 T.lg, .int .i64 T.sn, slV b, .int .i64 T.pl, .bool T.po, .bool T.re, .int .i64 T.an, slV t]
abbrev evV (E : Ev) : Value := .agg #[.int .i64 E.t, .bool E.ca, .int .i64 E.c, .int .i64 E.r, .int .i64 E.a, .int .i64 E.an]
abbrev cells9 (c : Cfg) (qR qP qT qH : Sl) : Array Value := #[.int .i64 c.o, .int .i64 c.r, .int .i64 c.l, .int .i64 c.t, .int .i64 c.s, slV qR, slV qP, slV qT, slV qH]
abbrev machV (c : Cfg) (qR qP qT qH : Sl) : Value := .agg (cells9 c qR qP qT qH)
abbrev machZ : Value := .agg #[.int .i64 0, .int .i64 0, .int .i64 0, .int .i64 0, .int .i64 0, .slice none 0 0, .slice none 0 0, .slice none 0 0, .slice none 0 0]
def HasP (w : World) (v : Value) (P : Rp) : Prop := ∃ vs c l, v = repV vs c l ∧ (∀ i, i < 4 → Has w (slV (vs i)) (P.s.at i)) ∧ Has w (slV c) P.cs ∧ Has w (slV l) P.ls
def HasT (w : World) (v : Value) (T : Th) : Prop := ∃ b t, v = thV T b t ∧ Has w (slV b) T.b ∧ Has w (slV t) T.tl
def HasRs (w : World) (v : Value) (Rs : List Rg) : Prop := ∃ xs : List LR, xs.map LR.R = Rs ∧ HasE ringK w v xs ∧ ∀ x ∈ xs, HasL w (slV x.q) x.R.ss
def HasPs (w : World) (v : Value) (Ps : List Rp) : Prop := ∃ xs : List LP, xs.map LP.P = Ps ∧ HasE repK w v xs ∧ ∀ x ∈ xs, (∀ i, i < 4 → Has w (slV (x.vs i)) (x.P.s.at i)) ∧ Has w (slV x.c) x.P.cs ∧ Has w (slV x.l) x.P.ls
def HasTs (w : World) (v : Value) (Ts : List Th) : Prop := ∃ xs : List LT, xs.map LT.T = Ts ∧ HasE thK w v xs ∧ ∀ x ∈ xs, Has w (slV x.b) x.T.b ∧ Has w (slV x.t) x.T.tl
def HasM (w : World) (v : Value) (M : Mc) : Prop := ∃ qR qP qT qH, v = machV M.c qR qP qT qH ∧ HasRs w (slV qR) M.rs ∧ HasPs w (slV qP) M.ps ∧ HasTs w (slV qT) M.ts ∧ HasE evK w (slV qH) M.es
theorem HasP.le {w w' : World} {v : Value} {P : Rp} (h : HasP w v P) (hl : Le w w') : HasP w' v P := by
 obtain ⟨vs, c, l, hv, h1, h2, h3⟩ := h; exact ⟨vs, c, l, hv, fun i hi => (h1 i hi).le hl, h2.le hl, h3.le hl⟩
theorem HasT.le {w w' : World} {v : Value} {T : Th} (h : HasT w v T) (hl : Le w w') : HasT w' v T := by
 obtain ⟨b, t, hv, h1, h2⟩ := h; exact ⟨b, t, hv, h1.le hl, h2.le hl⟩
theorem HasRs.le {w w' : World} {v : Value} {Rs : List Rg} (h : HasRs w v Rs) (hl : Le w w') : HasRs w' v Rs := by
 obtain ⟨xs, hx, h1, h2⟩ := h; exact ⟨xs, hx, h1.le hl, fun x hx => (h2 x hx).le hl⟩
theorem HasPs.le {w w' : World} {v : Value} {Ps : List Rp} (h : HasPs w v Ps) (hl : Le w w') : HasPs w' v Ps := by
 obtain ⟨xs, hx, h1, h2⟩ := h; exact ⟨xs, hx, h1.le hl, fun x hx => ⟨fun i hi => ((h2 x hx).1 i hi).le hl, (h2 x hx).2.1.le hl, (h2 x hx).2.2.le hl⟩⟩
theorem HasTs.le {w w' : World} {v : Value} {Ts : List Th} (h : HasTs w v Ts) (hl : Le w w') : HasTs w' v Ts := by
 obtain ⟨xs, hx, h1, h2⟩ := h; exact ⟨xs, hx, h1.le hl, fun x hx => ⟨(h2 x hx).1.le hl, (h2 x hx).2.le hl⟩⟩
theorem HasM.le {w w' : World} {v : Value} {M : Mc} (h : HasM w v M) (hl : Le w w') : HasM w' v M := by
 obtain ⟨qR, qP, qT, qH, hv, h1, h2, h3, h4⟩ := h; exact ⟨qR, qP, qT, qH, hv, h1.le hl, h2.le hl, h3.le hl, h4.le hl⟩
def RingAt (w : World) (b off : Nat) (R : Rg) (q : Sl) : Prop :=
 w.cell? ⟨b, off, none⟩ = some (.int .i64 R.h) ∧ w.cell? ⟨b, off + 1, none⟩ = some (.int .i64 R.t) ∧ w.cell? ⟨b, off + 2, none⟩ = some (.int .i64 R.f) ∧ w.cell? ⟨b, off + 3, none⟩ = some (slV q)
def RepAt (w : World) (b off : Nat) (vs : Nat → Sl) (c l : Sl) : Prop :=
 w.cell? ⟨b, off, none⟩ = some (slV (vs 0)) ∧ w.cell? ⟨b, off + 1, none⟩ = some (slV (vs 1)) ∧ w.cell? ⟨b, off + 2, none⟩ = some (slV (vs 2)) ∧ w.cell? ⟨b, off + 3, none⟩ = some (slV (vs 3)) ∧ w.cell? ⟨b, off + 4, none⟩ = some (slV c) ∧ w.cell? ⟨b, off + 5, none⟩ = some (slV l)
def ThAt (w : World) (b off : Nat) (T : Th) (q t : Sl) : Prop :=
 w.cell? ⟨b, off, none⟩ = some (.int .i64 T.st) ∧ w.cell? ⟨b, off + 1, none⟩ = some (.int .i64 T.c) ∧ w.cell? ⟨b, off + 2, none⟩ = some (.int .i64 T.r) ∧ w.cell? ⟨b, off + 3, none⟩ = some (.int .i64 T.a) ∧
 w.cell? ⟨b, off + 4, none⟩ = some (.int .i64 T.lg) ∧ w.cell? ⟨b, off + 5, none⟩ = some (.int .i64 T.sn) ∧ w.cell? ⟨b, off + 6, none⟩ = some (slV q) ∧ w.cell? ⟨b, off + 7, none⟩ = some (.int .i64 T.pl) ∧
 w.cell? ⟨b, off + 8, none⟩ = some (.bool T.po) ∧ w.cell? ⟨b, off + 9, none⟩ = some (.bool T.re) ∧ w.cell? ⟨b, off + 10, none⟩ = some (.int .i64 T.an) ∧ w.cell? ⟨b, off + 11, none⟩ = some (slV t)
def EvAt (w : World) (b off : Nat) (E : Ev) : Prop :=
 w.cell? ⟨b, off, none⟩ = some (.int .i64 E.t) ∧ w.cell? ⟨b, off + 1, none⟩ = some (.bool E.ca) ∧ w.cell? ⟨b, off + 2, none⟩ = some (.int .i64 E.c) ∧ w.cell? ⟨b, off + 3, none⟩ = some (.int .i64 E.r) ∧ w.cell? ⟨b, off + 4, none⟩ = some (.int .i64 E.a) ∧ w.cell? ⟨b, off + 5, none⟩ = some (.int .i64 E.an)
theorem cell_le {w w' : World} {p : Addr} {v : Value} (h : w.cell? p = some v) (hl : Le w w') : w'.cell? p = some v := by
 rw [hl.cell (World.block_lt_of_cell? w _ h)]; exact h
theorem RingAt.le {w w' : World} {b off : Nat} {R : Rg} {q : Sl} (h : RingAt w b off R q) (hl : Le w w') : RingAt w' b off R q := by
 obtain ⟨h0, h1, h2, h3⟩ := h; exact ⟨cell_le h0 hl, cell_le h1 hl, cell_le h2 hl, cell_le h3 hl⟩
theorem RepAt.le {w w' : World} {b off : Nat} {vs : Nat → Sl} {c l : Sl} (h : RepAt w b off vs c l) (hl : Le w w') : RepAt w' b off vs c l := by
 obtain ⟨h0, h1, h2, h3, h4, h5⟩ := h; exact ⟨cell_le h0 hl, cell_le h1 hl, cell_le h2 hl, cell_le h3 hl, cell_le h4 hl, cell_le h5 hl⟩
theorem ThAt.le {w w' : World} {b off : Nat} {T : Th} {q t : Sl} (h : ThAt w b off T q t) (hl : Le w w') : ThAt w' b off T q t := by
 obtain ⟨h0, h1, h2, h3, h4, h5, h6, h7, h8, h9, h10, h11⟩ := h
 exact ⟨cell_le h0 hl, cell_le h1 hl, cell_le h2 hl, cell_le h3 hl, cell_le h4 hl, cell_le h5 hl, cell_le h6 hl, cell_le h7 hl, cell_le h8 hl, cell_le h9 hl, cell_le h10 hl, cell_le h11 hl⟩
theorem EvAt.le {w w' : World} {b off : Nat} {E : Ev} (h : EvAt w b off E) (hl : Le w w') : EvAt w' b off E := by
 obtain ⟨h0, h1, h2, h3, h4, h5⟩ := h; exact ⟨cell_le h0 hl, cell_le h1 hl, cell_le h2 hl, cell_le h3 hl, cell_le h4 hl, cell_le h5 hl⟩
theorem getD_map {α β : Type} (f : α → β) (xs : List α) (d : α) (d' : β) {i : Nat} (h : i < xs.length) : (xs.map f).getD i d' = f (xs.getD i d) := by simp [List.getD, h]
theorem getD_mem {α : Type} {xs : List α} {d : α} {i : Nat} (h : i < xs.length) : xs.getD i d ∈ xs := by simp [List.getD, h]
theorem HasRs.open {w : World} {v : Value} {Rs : List Rg} (h : HasRs w v Rs) : ∃ a cap, v = .slice a Rs.length cap ∧ Rs.length ≤ cap ∧ (a = none → cap = 0) ∧
   (0 < Rs.length → ∃ b off, a = some ⟨b, off, none⟩ ∧ ∀ i, i < Rs.length → ∃ q, RingAt w b (off + i * 4) (Rs.getD i Rg.zero) q ∧ HasL w (slV q) (Rs.getD i Rg.zero).ss) := by
 obtain ⟨xs, rfl, ⟨a, cap, hv, hc, hn, hx⟩, hq⟩ := h
 rw [List.length_map]
 refine ⟨a, cap, hv, hc, hn, fun hp => ?_⟩
 obtain ⟨b, off, ha, hcell⟩ := hx hp
 refine ⟨b, off, ha, fun i hi => ⟨(xs.getD i ringK.d).q, ?_, ?_⟩⟩
 ·rw [getD_map LR.R xs ringK.d Rg.zero hi]
  have h := hcell i hi
  exact ⟨h 0 (by decide), h 1 (by decide), h 2 (by decide), h 3 (by decide)⟩
 ·rw [getD_map LR.R xs ringK.d Rg.zero hi]
  exact hq _ (getD_mem hi)
theorem HasPs.open {w : World} {v : Value} {Ps : List Rp} (h : HasPs w v Ps) : ∃ a cap, v = .slice a Ps.length cap ∧ Ps.length ≤ cap ∧ (a = none → cap = 0) ∧
   (0 < Ps.length → ∃ b off, a = some ⟨b, off, none⟩ ∧ ∀ i, i < Ps.length → ∃ vs c l, RepAt w b (off + i * 6) vs c l ∧ (∀ j, j < 4 → Has w (slV (vs j)) ((Ps.getD i Rp.zero).s.at j)) ∧ Has w (slV c) (Ps.getD i Rp.zero).cs ∧ Has w (slV l) (Ps.getD i Rp.zero).ls) := by
 obtain ⟨xs, rfl, ⟨a, cap, hv, hc, hn, hx⟩, hq⟩ := h
 rw [List.length_map]
 refine ⟨a, cap, hv, hc, hn, fun hp => ?_⟩
 obtain ⟨b, off, ha, hcell⟩ := hx hp
 refine ⟨b, off, ha, fun i hi => ⟨(xs.getD i repK.d).vs, (xs.getD i repK.d).c, (xs.getD i repK.d).l, ?_, ?_⟩⟩
 ·have h := hcell i hi
  exact ⟨h 0 (by decide), h 1 (by decide), h 2 (by decide), h 3 (by decide), h 4 (by decide), h 5 (by decide)⟩
 ·rw [getD_map LP.P xs repK.d Rp.zero hi]
  exact hq _ (getD_mem hi)
theorem HasTs.open {w : World} {v : Value} {Ts : List Th} (h : HasTs w v Ts) : ∃ a cap, v = .slice a Ts.length cap ∧ Ts.length ≤ cap ∧ (a = none → cap = 0) ∧
   (0 < Ts.length → ∃ b off, a = some ⟨b, off, none⟩ ∧ ∀ i, i < Ts.length → ∃ q t, ThAt w b (off + i * 12) (Ts.getD i Th.zero) q t ∧ Has w (slV q) (Ts.getD i Th.zero).b ∧ Has w (slV t) (Ts.getD i Th.zero).tl) := by
 obtain ⟨xs, rfl, ⟨a, cap, hv, hc, hn, hx⟩, hq⟩ := h
 rw [List.length_map]
 refine ⟨a, cap, hv, hc, hn, fun hp => ?_⟩
 obtain ⟨b, off, ha, hcell⟩ := hx hp
 refine ⟨b, off, ha, fun i hi => ⟨(xs.getD i thK.d).b, (xs.getD i thK.d).t, ?_, ?_⟩⟩
 ·rw [getD_map LT.T xs thK.d Th.zero hi]
  have h := hcell i hi
  exact ⟨h 0 (by decide), h 1 (by decide), h 2 (by decide), h 3 (by decide), h 4 (by decide), h 5 (by decide), h 6 (by decide), h 7 (by decide), h 8 (by decide), h 9 (by decide), h 10 (by decide), h 11 (by decide)⟩
 ·rw [getD_map LT.T xs thK.d Th.zero hi]
  exact hq _ (getD_mem hi)
theorem HasE.openEv {w : World} {v : Value} {Es : List Ev} (h : HasE evK w v Es) : ∃ a cap, v = .slice a Es.length cap ∧ Es.length ≤ cap ∧ (a = none → cap = 0) ∧
   (0 < Es.length → ∃ b off, a = some ⟨b, off, none⟩ ∧ ∀ i, i < Es.length → EvAt w b (off + i * 6) (Es.getD i Ev.zero)) := by
 obtain ⟨a, cap, hv, hc, hn, hx⟩ := h
 refine ⟨a, cap, hv, hc, hn, fun hp => ?_⟩
 obtain ⟨b, off, ha, hcell⟩ := hx hp
 refine ⟨b, off, ha, fun i hi => ?_⟩
 have h := hcell i hi
 exact ⟨h 0 (by decide), h 1 (by decide), h 2 (by decide), h 3 (by decide), h 4 (by decide), h 5 (by decide)⟩
theorem HasRs.len {w : World} {q : Sl} {Rs : List Rg} (h : HasRs w (slV q) Rs) : q.2.1 = Rs.length := by obtain ⟨_, rfl, h, _⟩ := h; rw [List.length_map]; exact h.len
theorem HasPs.len {w : World} {q : Sl} {Ps : List Rp} (h : HasPs w (slV q) Ps) : q.2.1 = Ps.length := by obtain ⟨_, rfl, h, _⟩ := h; rw [List.length_map]; exact h.len
theorem HasTs.len {w : World} {q : Sl} {Ts : List Th} (h : HasTs w (slV q) Ts) : q.2.1 = Ts.length := by obtain ⟨_, rfl, h, _⟩ := h; rw [List.length_map]; exact h.len
theorem HasRs.nil (w : World) : HasRs w (.slice none 0 0) [] := ⟨[], rfl, HasE.nil _ _, fun x h => by cases h⟩
theorem HasPs.nil (w : World) : HasPs w (.slice none 0 0) [] := ⟨[], rfl, HasE.nil _ _, fun x h => by cases h⟩
theorem HasTs.nil (w : World) : HasTs w (.slice none 0 0) [] := ⟨[], rfl, HasE.nil _ _, fun x h => by cases h⟩
theorem HasM.zero (w : World) : HasM w machZ Mc.zero := ⟨slZ, slZ, slZ, slZ, rfl, HasRs.nil _, HasPs.nil _, HasTs.nil _, HasE.nil _ _⟩
structure FitM (M : Mc) : Prop where
 rs : M.rs.length * 48 ≤ 140737488351232
 ps : M.ps.length * 144 ≤ 140737488351232
 ts : M.ts.length * 120 ≤ 140737488351232
 es : M.es.length * 48 ≤ 140737488351232
 r : ∀ R ∈ M.rs, FitR R
 p : ∀ P ∈ M.ps, Fit P.s ∧ P.cs.length * 8 ≤ 140737488351232 ∧ P.ls.length * 8 ≤ 140737488351232
 t : ∀ T ∈ M.ts, T.b.length * 8 ≤ 140737488351232 ∧ T.tl.length * 8 ≤ 140737488351232
theorem fitM_zero : FitM Mc.zero := ⟨by decide, by decide, by decide, by decide, (fun _ h => by cases h), (fun _ h => by cases h), (fun _ h => by cases h)⟩
structure Lay where
 c : Cfg
 qR : Sl
 qP : Sl
 qT : Sl
 qH : Sl
 rs : List LR
 ps : List LP
 ts : List LT
 es : List Ev
abbrev Lay.v (L : Lay) : Value := machV L.c L.qR L.qP L.qT L.qH
def Lay.M (L : Lay) : Mc := ⟨L.c, L.rs.map LR.R, L.ps.map LP.P, L.ts.map LT.T, L.es⟩
structure OwnsM (w : World) (base : Nat) (L : Lay) : Prop where
 oR : OwnE ringK w base (slV L.qR) L.rs
 oP : OwnE repK w base (slV L.qP) L.ps
 oT : OwnE thK w base (slV L.qT) L.ts
 oH : OwnE evK w base (slV L.qH) L.es
 iR : ∀ x ∈ L.rs, OwnL w base (slV x.q) x.R.ss
 iP : ∀ x ∈ L.ps, (∀ i, i < 4 → Own w base (slV (x.vs i)) (x.P.s.at i)) ∧ Own w base (slV x.c) x.P.cs ∧ Own w base (slV x.l) x.P.ls
 iT : ∀ x ∈ L.ts, Own w base (slV x.b) x.T.b ∧ Own w base (slV x.t) x.T.tl
def OwnM (w : World) (base : Nat) (v : Value) (M : Mc) : Prop := ∃ L : Lay, v = L.v ∧ M = L.M ∧ OwnsM w base L
theorem OwnsM.le {w w' : World} {base : Nat} {L : Lay} (h : OwnsM w base L) (hl : Le w w') : OwnsM w' base L :=
 ⟨h.oR.le hl, h.oP.le hl, h.oT.le hl, h.oH.le hl, fun x hx => (h.iR x hx).le hl, fun x hx => ⟨fun i hi => ((h.iP x hx).1 i hi).le hl, (h.iP x hx).2.1.le hl, (h.iP x hx).2.2.le hl⟩, fun x hx => ⟨(h.iT x hx).1.le hl, (h.iT x hx).2.le hl⟩⟩
theorem OwnsM.base {w : World} {base base' : Nat} {L : Lay} (h : OwnsM w base L) (hb : base' ≤ base) : OwnsM w base' L :=
 ⟨h.oR.base hb, h.oP.base hb, h.oT.base hb, h.oH.base hb, fun x hx => (h.iR x hx).base hb, fun x hx => ⟨fun i hi => ((h.iP x hx).1 i hi).base hb, (h.iP x hx).2.1.base hb, (h.iP x hx).2.2.base hb⟩, fun x hx => ⟨(h.iT x hx).1.base hb, (h.iT x hx).2.base hb⟩⟩
theorem OwnsM.has {w : World} {base : Nat} {L : Lay} (h : OwnsM w base L) : HasM w L.v L.M :=
 ⟨L.qR, L.qP, L.qT, L.qH, rfl, ⟨L.rs, rfl, h.oR.has, fun x hx => (h.iR x hx).has⟩, ⟨L.ps, rfl, h.oP.has, fun x hx => ⟨fun i hi => ((h.iP x hx).1 i hi).has, (h.iP x hx).2.1.has, (h.iP x hx).2.2.has⟩⟩, ⟨L.ts, rfl, h.oT.has, fun x hx => ⟨(h.iT x hx).1.has, (h.iT x hx).2.has⟩⟩, h.oH.has⟩
theorem OwnM.le {w w' : World} {base : Nat} {v : Value} {M : Mc} (h : OwnM w base v M) (hl : Le w w') : OwnM w' base v M := by obtain ⟨L, hv, hm, h⟩ := h; exact ⟨L, hv, hm, h.le hl⟩
theorem OwnM.base {w : World} {base base' : Nat} {v : Value} {M : Mc} (h : OwnM w base v M) (hb : base' ≤ base) : OwnM w base' v M := by obtain ⟨L, hv, hm, h⟩ := h; exact ⟨L, hv, hm, h.base hb⟩
theorem OwnM.has {w : World} {base : Nat} {v : Value} {M : Mc} (h : OwnM w base v M) : HasM w v M := by obtain ⟨L, rfl, rfl, h⟩ := h; exact h.has
theorem OwnM.zero (w : World) (base : Nat) : OwnM w base machZ Mc.zero :=
 ⟨⟨Cfg.zero, slZ, slZ, slZ, slZ, [], [], [], []⟩, rfl, rfl, OwnE.nil _ _ _, OwnE.nil _ _ _, OwnE.nil _ _ _, OwnE.nil _ _ _, (fun x h => by cases h), (fun x h => by cases h), (fun x h => by cases h)⟩
def IntsRow (k : Nat) (At : World → Nat → Nat → Prop) (w : World) (base : Nat) (v : Value) : Prop :=
 ∃ (a : Option Addr) (n cap : Nat), v = .slice a n cap ∧ n ≤ cap ∧ n ≤ 9223372036854775807 ∧ (0 < n → ∃ b off, a = some ⟨b, off, none⟩ ∧ base ≤ b ∧ ∀ i, i < n → At w b (off + i * k))
theorem OwnE.each {α : Type} {K : Kind α} {w : World} {base : Nat} {v : Value} {xs : List α} (h : OwnE K w base v xs) (At : World → Nat → Nat → Prop) (hm : xs.length ≤ 9223372036854775807)
   (hAt : ∀ b off x, x ∈ xs → (∀ j, j < K.k → w.cell? ⟨b, off + j, none⟩ = (K.f x)[j]?) → (∀ j, w.frozen? ⟨b, j, none⟩ = false) → At w b off) : IntsRow K.k At w base v := by
 obtain ⟨a, cap, hv, hc, hn, hx⟩ := h.has
 refine ⟨a, xs.length, cap, hv, hc, hm, fun hp => ?_⟩
 obtain ⟨b, off, ha, hcell⟩ := hx hp
 obtain ⟨g, cap', hv', _, hg, _⟩ := h.shape hp
 rw [hv] at hv'
 simp only [Value.slice.injEq] at hv'
 obtain ⟨e1, _, e2⟩ := hv'
 rw [ha] at e1
 simp only [Option.some.injEq, Addr.mk.injEq, and_true] at e1
 obtain ⟨rfl, rfl⟩ := e1
 subst hv ha
 refine ⟨b, 0, rfl, hg, fun i hi => hAt b _ (xs.getD i K.d) (getD_mem hi) (fun j hj => ?_) (fun j => h.frozen j)⟩
 exact hcell i hi j hj
theorem Box.mach {w : World} {g : Nat} {c : Cfg} {qR qP qT qH : Sl} {t : TypeId} (h : Box w g (cells9 c qR qP qT qH) t) :
   (w.cell? ⟨g, 0, none⟩ = some (.int .i64 c.o) ∧ w.cell? ⟨g, 1, none⟩ = some (.int .i64 c.r) ∧ w.cell? ⟨g, 2, none⟩ = some (.int .i64 c.l) ∧ w.cell? ⟨g, 3, none⟩ = some (.int .i64 c.t) ∧ w.cell? ⟨g, 4, none⟩ = some (.int .i64 c.s)) ∧
   (w.cell? ⟨g, 5, none⟩ = some (slV qR) ∧ w.cell? ⟨g, 6, none⟩ = some (slV qP) ∧ w.cell? ⟨g, 7, none⟩ = some (slV qT) ∧ w.cell? ⟨g, 8, none⟩ = some (slV qH)) :=
 ⟨⟨h.cell 0, h.cell 1, h.cell 2, h.cell 3, h.cell 4⟩, h.cell 5, h.cell 6, h.cell 7, h.cell 8⟩
theorem Box.res {w : World} {g : Nat} {a0 a1 a2 a3 a4 a5 a6 a7 a8 : Value} {t : TypeId} (h : Box w g #[a0, a1, a2, a3, a4, a5, a6, a7, a8] t) :
   (w.cell? ⟨g, 0, none⟩ = some a0 ∧ w.cell? ⟨g, 1, none⟩ = some a1 ∧ w.cell? ⟨g, 2, none⟩ = some a2 ∧ w.cell? ⟨g, 3, none⟩ = some a3 ∧ w.cell? ⟨g, 4, none⟩ = some a4 ∧ w.cell? ⟨g, 5, none⟩ = some a5 ∧ w.cell? ⟨g, 6, none⟩ = some a6 ∧ w.cell? ⟨g, 7, none⟩ = some a7 ∧ w.cell? ⟨g, 8, none⟩ = some a8) ∧
   w.frozen? ⟨g, 0, none⟩ = false ∧ w.frozen? ⟨g, 1, none⟩ = false ∧ w.frozen? ⟨g, 2, none⟩ = false ∧ w.frozen? ⟨g, 3, none⟩ = false ∧ w.frozen? ⟨g, 4, none⟩ = false ∧ w.frozen? ⟨g, 5, none⟩ = false ∧ w.frozen? ⟨g, 6, none⟩ = false ∧ w.frozen? ⟨g, 7, none⟩ = false ∧ w.frozen? ⟨g, 8, none⟩ = false :=
 ⟨⟨h.cell 0, h.cell 1, h.cell 2, h.cell 3, h.cell 4, h.cell 5, h.cell 6, h.cell 7, h.cell 8⟩, h.frozen 0, h.frozen 1, h.frozen 2, h.frozen 3, h.frozen 4, h.frozen 5, h.frozen 6, h.frozen 7, h.frozen 8⟩
structure Later (w0 : World) where
 w : World
 le : Le w0 w
instance (w0 : World) : Nonempty (Later w0) := ⟨⟨w0, Le.refl w0⟩⟩
theorem wp_region_later {P : Program} {id : Nat} {Q : Exit → Act → World → Prop} {a : Act} {w : World} {l : List Oper} (hm : P.follows .mixedOrders = true) (hB : Region.lexB .any l.toArray = true)
   (h : wpQuiet P l.toArray (fun w' => ∃ x : Later w, w' = x.w) (fun a' => ∀ w', (∃ x : Later w, w' = x.w) → Q .normal a' w') l a) : (Code.region id l.toArray true).wp P Q a w :=
 wp_region_quiet (C := fun w' => ∃ x : Later w, w' = x.w) hm hB ⟨⟨_, Le.drew w⟩, rfl⟩ (by simpa using h)
theorem Calls.later {P : Program} {f : FuncId} {args : Array Value} {w0 : World} {x : Later w0} {v : Value}
   (h : Calls P f args x.w fun e w' => e = .returned v ∧ Le x.w w') : Calls P f args x.w fun e w'' => e = .returned v ∧ ∃ y : Later w0, w'' = y.w :=
 h.mono fun _ w' ⟨he, hl⟩ => ⟨he, ⟨w', x.le.trans hl⟩, rfl⟩
theorem Calls.later_same {P : Program} {f : FuncId} {args : Array Value} {w0 : World} {x : Later w0} {v : Value}
   (h : Calls P f args x.w fun e w' => e = .returned v ∧ x.w = w') : Calls P f args x.w fun e w'' => e = .returned v ∧ ∃ y : Later w0, w'' = y.w :=
 h.mono fun _ w' ⟨he, hl⟩ => ⟨he, ⟨w', by rw [← hl]; exact x.le⟩, rfl⟩
structure Cp (w : World) (s : St) (vs : Nat → Sl) (wr : World) (k : Nat) (us : Nat → Sl) : Prop where
 le : Le w wr
 given : Box wr w.heap.size (cells4 vs) 44
 result : Box wr (w.heap.size + 1) (cells4 fun _ => slZ) 44
 filled : Box wr (w.heap.size + 1 + 1) (cells4 us) 44
 rows : ∀ j, j < k → Own wr w.heap.size (slV (us j)) (s.at j)
 apart : Apart us k
theorem Cp.start (w : World) (s : St) (vs : Nat → Sl) :
   Cp w s vs (((w.alloc (.cells (cells4 vs) 44)).alloc (.cells (cells4 fun _ => slZ) 44)).alloc (.cells (cells4 fun _ => slZ) 44)) 0 fun _ => slZ := by
 refine ⟨((Le.alloc _ _).trans (Le.alloc _ _)).trans (Le.alloc _ _), ((Box.new _ _ _).le (Le.alloc _ _)).le (Le.alloc _ _), ?_, ?_, (fun j hj => by omega), (fun i j hi => by omega)⟩
 ·have := (Box.new (w.alloc (.cells (cells4 vs) 44)) (cells4 fun _ => slZ) 44).le (Le.alloc _ (.cells (cells4 fun _ => slZ) 44))
  simpa using this
 ·have := Box.new ((w.alloc (.cells (cells4 vs) 44)).alloc (.cells (cells4 fun _ => slZ) 44)) (cells4 fun _ => slZ) 44
  simpa using this
theorem Box.st {w : World} {g : Nat} {vs : Nat → Sl} {t : TypeId} (h : Box w g (cells4 vs) t) :
   w.cell? ⟨g, 0, none⟩ = some (slV (vs 0)) ∧ w.cell? ⟨g, 1, none⟩ = some (slV (vs 1)) ∧ w.cell? ⟨g, 2, none⟩ = some (slV (vs 2)) ∧ w.cell? ⟨g, 3, none⟩ = some (slV (vs 3)) ∧
   w.frozen? ⟨g, 0, none⟩ = false ∧ w.frozen? ⟨g, 1, none⟩ = false ∧ w.frozen? ⟨g, 2, none⟩ = false ∧ w.frozen? ⟨g, 3, none⟩ = false :=
 ⟨h.cell 0, h.cell 1, h.cell 2, h.cell 3, h.frozen 0, h.frozen 1, h.frozen 2, h.frozen 3⟩
theorem Cp.next {w : World} {s : St} {vs : Nat → Sl} {wr w1 w2 : World} {k : Nat} {us : Nat → Sl} {row : Option Nat} {v' : Sl} (h : Cp w s vs wr k us) (hk : k < 4) (h1 : Le wr w1) (hg : w1.grownBy w2 row)
   (hrow : ∀ g, row = some g → wr.heap.size ≤ g) (hown : Own w2 wr.heap.size (slV v') (s.at k)) : Cp w s vs (w2.setCell ⟨w.heap.size + 1 + 1, k, none⟩ (slV v')) (k + 1) (upd us k v') := by
 have l2 : Le wr w2 := Below.grown h1 hg h1.size hrow
 have hb := h.filled.le l2
 refine ⟨?_, (h.given.le l2).other (by omega) _ _, (h.result.le l2).other (by omega) _ _, ?_, (fun j hj => ?_), h.apart.next (fun j hj g e => ((h.rows j hj).block e).2) (fun g e => (hown.block e).1)⟩
 ·exact Below.setCell (h.le.trans l2) (by show w.heap.size ≤ w.heap.size + 1 + 1; omega) _
 ·have := hb.set k (slV v'); rw [cells4_upd us hk v'] at this; exact this
 ·by_cases e : j = k
  ·rw [e, show upd us k v' k = v' by simp [upd]]; exact (hown.base h.le.size).setBox hb (by decide)
  ·rw [show upd us k v' j = us j by simp [upd, e]]; exact ((h.rows j (by omega)).le l2).setBox hb (by decide)
theorem lawSameI (v u : Value) (xs ys : List Int) (w : World) (hx : Has w v xs) (hy : Has w u ys) (hm : xs.length * 8 ≤ 140737488351232) :
   Calls Tryz.prog 23 #[v, u] w fun e w' => e = .returned (.bool (decide (xs = ys))) ∧ Le w w' :=
 (lawSameInts v u xs ys w hx hy (by omega)).mono fun _ _ ⟨he, n, hw⟩ => ⟨he, by rw [hw]; exact Le.drewN _ _⟩
set_option maxHeartbeats 400000 in
theorem lawSameState (v u : Value) (s t : St) (w : World) (hx : HasS w v s) (hy : HasS w u t) (hf : Fit s) :
   Calls Tryz.prog 18 #[v, u] w fun e w' => e = .returned (.bool (decide (s = t))) ∧ Le w w' := by
 obtain ⟨vs, rfl, hr⟩ := hx
 obtain ⟨us, rfl, hr'⟩ := hy
 have hb1 := (Box.new w (cells4 vs) 44).le (Le.alloc _ (.cells (cells4 us) 44))
 have hb2 := Box.new (w.alloc (.cells (cells4 vs) 44)) (cells4 us) 44
 rw [World.size_alloc] at hb2
 have hl := (Le.alloc w (.cells (cells4 vs) 44)).trans (Le.alloc _ (.cells (cells4 us) 44))
 go_enter Tryz.func18, Tryz.ntmps18
 go_wp2
 go_loopw [5] (fun i wr => ∃ k : Nat, k ≤ 4 ∧ i = .int .i64 k ∧ Hid (∀ j, j < k → s.at j = t.at j) ∧ Le ((w.alloc (.cells (cells4 vs) 44)).alloc (.cells (cells4 us) 44)) wr) (fun i _ => 4 - (intOf i).toNat)
 case atStart => exact ⟨0, by omega, rfl, (fun j hj => by omega), Le.refl _⟩
 case round =>
   obtain ⟨k, hk, rfl, HS, hle⟩ := hrel
   by_cases hlt : k < 4
   ·have c1 : ∀ X : Later wr, X.w.cell? ⟨w.heap.size, k, none⟩ = some (slV (vs k)) := fun X => (((hb1.le hle).le X.le).cell k).trans (cells4_at vs hlt)
    have c2 : ∀ X : Later wr, X.w.cell? ⟨w.heap.size + 1, k, none⟩ = some (slV (us k)) := fun X => (((hb2.le hle).le X.le).cell k).trans (cells4_at us hlt)
    have hfk := hf k hlt
    have hsm := fun X : Later wr => lawSameI (slV (vs k)) (slV (us k)) (s.at k) (t.at k) X.w ((hr k hlt).le ((hl.trans hle).trans X.le)) ((hr' k hlt).le ((hl.trans hle).trans X.le)) hfk
    by_cases he : s.at k = t.at k
    ·rw [show decide (s.at k = t.at k) = true by simp [he]] at hsm
     have HE : Hid (s.at k = t.at k) := he
     clear he hb1 hb2 hfk
     go_wp2_with fail
     refine wp_region_later (by kernel_rfl) (by kernel_rfl) ?_
     repeat (go_big_quiet_step (first | (go_at_call 23; exact Calls.later (hsm _))))
     refine wpQuiet_nil ?_
     rintro _ ⟨x, rfl⟩
     go_wp2
     go_roundw
     case rel => exact ⟨k + 1, by omega, by go_num, (fun j hj => by rcases Nat.lt_or_eq_of_le (Nat.le_of_lt_succ hj) with h | h; exact HS.out j h; exact h ▸ HE.out), hle.trans x.le⟩
     case measure => simp [intOf]; omega
    ·rw [show decide (s.at k = t.at k) = false by simp [he]] at hsm
     have HE : Hid (¬ s = t) := fun h => he (by rw [h])
     clear he hb1 hb2 hfk
     go_wp2_with fail
     refine wp_region_later (by kernel_rfl) (by kernel_rfl) ?_
     repeat (go_big_quiet_step (first | (go_at_call 23; exact Calls.later (hsm _))))
     refine wpQuiet_nil ?_
     rintro _ ⟨x, rfl⟩
     go_wp2
     go_ret
     exact ⟨ret_bool (by have := HE.out; simp [this]), (hl.trans hle).trans x.le⟩
   ·obtain rfl : k = 4 := by omega
    go_wp2
    go_ret
    exact ⟨ret_bool (by have := St.ext_at HS.out; simp [this]), hl.trans hle⟩
def St.all (p : List Int → Bool) (s : St) : Bool := p s.r0 && p s.r1 && p s.r2 && p s.r3
theorem St.all_of {p : List Int → Bool} {s : St} (h : ∀ j, j < 4 → p (s.at j) = true) : s.all p = true := by
 have h0 := h 0 (by omega)
 have h1 := h 1 (by omega)
 have h2 := h 2 (by omega)
 have h3 := h 3 (by omega)
 simp only [St.at] at h0 h1 h2 h3
 simp [St.all, h0, h1, h2, h3]
theorem St.all_not {p : List Int → Bool} {s : St} {k : Nat} (hk : k < 4) (h : p (s.at k) = false) : s.all p = false := by
 rcases four hk with rfl | rfl | rfl | rfl <;> simp only [St.at] at h <;> simp [St.all, h]
theorem St.all_at {p : List Int → Bool} {s : St} (h : s.all p = true) {k : Nat} (hk : k < 4) : p (s.at k) = true := by
 simp [St.all] at h
 rcases four hk with rfl | rfl | rfl | rfl <;> simp [St.at, h]
theorem run_row (vs : Nat → Sl) (k : Nat) (hk : k < 4) (w : World) : (Instr.index 42 (.agg (cells4 vs)) (.int .i64 k)).run Tryz.prog w = .ok (slV (vs k)) w := by
 rcases four hk with rfl | rfl | rfl | rfl <;> simp [Instr.index, go_sem]
def sumTo (s : St) : Nat → Int
 | 0 => 0
 | k + 1 => sumTo s k + (s.at k).sum
def manyTo (s : St) : Nat → Int
 | 0 => 0
 | k + 1 => manyTo s k + (s.at k).length
theorem Le.set4 {w w1 : World} {g : Nat} (h : Le w w1) (hg : w.heap.size ≤ g) (x0 x1 x2 x3 : Value) :
   Le w ((((w1.setCell ⟨g, 0, none⟩ x0).setCell ⟨g, 1, none⟩ x1).setCell ⟨g, 2, none⟩ x2).setCell ⟨g, 3, none⟩ x3) :=
 (((Below.setCell h hg _).setCell hg _).setCell hg _).setCell hg _
theorem Own.set4 {w : World} {base g : Nat} {v : Value} {xs : List Int} {cs : Array Value} {t : TypeId} (h : Own w base v xs) (hb : Box w g cs t) (ht : t ≠ 3) (x0 x1 x2 x3 : Value) :
   Own ((((w.setCell ⟨g, 0, none⟩ x0).setCell ⟨g, 1, none⟩ x1).setCell ⟨g, 2, none⟩ x2).setCell ⟨g, 3, none⟩ x3) base v xs :=
 (((h.setBox hb ht).setBox (hb.set _ _) ht).setBox ((hb.set _ _).set _ _) ht).setBox (((hb.set _ _).set _ _).set _ _) ht
theorem opMay_bounds {c r a : Int} (h : opMay c r a = true) : 0 ≤ c ∧ c ≤ 3 ∧ 0 ≤ r ∧ r ≤ 3 ∧ 0 ≤ a ∧ a ≤ 255 := by
 simp [opMay] at h; omega
theorem opMay_cases {c r a : Int} (h : opMay c r a = true) :
   (∃ k : Nat, k < 4 ∧ c = 0 ∧ r = k ∧ 0 ≤ a ∧ a ≤ 255) ∨ (∃ k : Nat, k < 4 ∧ c = 1 ∧ r = k ∧ 0 ≤ a ∧ a ≤ 255) ∨ (∃ k : Nat, k < 4 ∧ c = 2 ∧ r = k ∧ a = 0) ∨ (c = 3 ∧ r = 0 ∧ a = 0) := by
 obtain ⟨h0, h1, h2, h3, h4, h5⟩ := opMay_bounds h
 simp [opMay] at h
 rcases (by omega : c = 0 ∨ c = 1 ∨ c = 2 ∨ c = 3) with e | e | e | e
 ·exact .inl ⟨r.toNat, by omega, e, by omega, h4, h5⟩
 ·exact .inr (.inl ⟨r.toNat, by omega, e, by omega, h4, h5⟩)
 ·exact .inr (.inr (.inl ⟨r.toNat, by omega, e, by omega, by omega⟩))
 ·exact .inr (.inr (.inr ⟨e, by omega, by omega⟩))
theorem Fit.put {s : St} (h : Fit s) {k : Nat} (hk : k < 4) {x : List Int} (hx : x.length ≤ 4) : Fit (s.put k x) := by
 intro i hi
 rw [St.at_put hk hi]
 have := h i hi
 split <;> omega
theorem hid {p : Prop} (h : p) : Hid p := h
theorem drop_at {xs : List Int} {k : Nat} (hk : k < xs.length) : xs.drop k = xs.getD k 0 :: xs.drop (k + 1) := by
 rw [List.drop_eq_getElem_cons hk]
 simp [List.getD, hk]
theorem getD_drop (xs : List Int) (i j : Nat) : (xs.drop i).getD j 0 = xs.getD (i + j) 0 := by
 simp [List.getD, List.getElem?_drop]
def argB (x : Int) : Bool := decide (0 ≤ x) && decide (x ≤ 255)
theorem all_take {p : Int → Bool} {xs : List Int} {k : Nat} (h : k < xs.length) : (xs.take (k + 1)).all p = ((xs.take k).all p && p (xs.getD k 0)) := by
 rw [List.take_succ_eq_append_getElem h, List.all_append]
 simp [List.getD, h]
theorem all_bad {p : Int → Bool} {xs : List Int} {k : Nat} (h : k < xs.length) (hb : p (xs.getD k 0) = false) : xs.all p = false := by
 rw [List.all_eq_false]
 exact ⟨xs[k], List.getElem_mem h, by simpa [List.getD, h] using hb⟩
set_option maxHeartbeats 400000 in
theorem listsAllRows (f : Nat) (p : List Int → Bool) (hc : ∀ (u : Value) (w : World), (callFunc f #[u]).run Tryz.prog w = .ok (.enter f #[u]) w) (hp : ∀ v xs w, Has w v xs → Calls Tryz.prog f #[v] w fun e w' => e = .returned (.bool (p xs)) ∧ w = w') (g : Nat) (vs : Nat → Sl) (s : St) (w : World) (hb : Box w g (cells4 vs) 44) (hr : ∀ i, i < 4 → Has w (slV (vs i)) (s.at i)) :
   Calls Tryz.prog 158 #[.slice (some ⟨g, 0, none⟩) 4 4, .func (.func f) #[] #[]] w fun e w' => e = .returned (.bool (s.all p)) ∧ w = w' := by
 go_enter Tryz.func158, Tryz.ntmps158
 go_wp2
 go_loop [9] (fun i => ∃ k : Nat, k ≤ 4 ∧ i = .int .i64 k ∧ Hid (∀ j, j < k → p (s.at j) = true)) (fun i => 4 - (intOf i).toNat)
 case atStart => exact ⟨0, by omega, rfl, fun j hj => by omega⟩
 case round =>
   obtain ⟨k, hk, rfl, HA⟩ := hrel
   by_cases hlt : k < 4
   ·have hm := hp (slV (vs k)) (s.at k) _ (hr k hlt)
    have c1 : w.cell? ⟨g, k, none⟩ = some (slV (vs k)) := (hb.cell k).trans (cells4_at vs hlt)
    cases hh : p (s.at k)
    ·rw [hh] at hm
     go_wp2_with fail
     refine hm.mono ?_
     rintro e w1 ⟨rfl, rfl⟩
     go_wp2
     go_ret
     exact ⟨ret_bool (St.all_not hlt hh).symm, rfl⟩
    ·rw [hh] at hm
     go_wp2_with fail
     refine hm.mono ?_
     rintro e w1 ⟨rfl, rfl⟩
     go_wp2
     go_round
     case rel => exact ⟨k + 1, by omega, by go_num, fun j hj => by rcases Nat.lt_or_eq_of_le (Nat.le_of_lt_succ hj) with h | h; exact HA.out j h; exact h ▸ hh⟩
     case measure => simp [intOf]; omega
   ·obtain rfl : k = 4 := by omega
    go_wp2
    go_ret
    exact ⟨ret_bool (St.all_of HA.out).symm, rfl⟩
theorem statesMay (f : Nat) (p : List Int → Bool) (hc : ∀ (u : Value) (w : World), (callFunc f #[u]).run Tryz.prog w = .ok (.enter f #[u]) w) (hp : ∀ v xs w, Has w v xs → Calls Tryz.prog f #[v] w fun e w' => e = .returned (.bool (p xs)) ∧ w = w') (v : Value) (s : St) (w : World) (hx : HasS w v s) :
   Calls Tryz.prog 147 #[v, .func (.func f) #[] #[]] w fun e w' => e = .returned (.bool (s.all p)) ∧ Le w w' := by
 obtain ⟨vs, rfl, hr⟩ := hx
 have hl := Le.alloc w (.cells (cells4 vs) 44)
 have hm := listsAllRows f p hc hp _ vs s _ (Box.new w (cells4 vs) 44) (fun i hi => (hr i hi).le hl)
 go_enter Tryz.func147, Tryz.ntmps147
 go_wp2_with (go_at_call 158; refine hm.mono ?_; rintro e _ ⟨rfl, rfl⟩)
 go_ret
 exact ⟨rfl, hl⟩
theorem listsCopyI (v : Value) (xs : List Int) (w : World) (hx : Has w v xs) (hf : xs.length * 8 ≤ 140737488351232) :
   Calls Tryz.prog 107 #[v] w fun e w' => ∃ q : Sl, e = .returned (slV q) ∧ Own w' w.heap.size (slV q) xs ∧ w.grownBy w' none := by
 go_enter Tryz.func107, Tryz.ntmps107
 go_wp2_with (at_builtin; refine wp_append_ints rfl _ _ rfl w.heap.size _ _ [] xs rfl rfl (Own.nil _ _) hx (by simp; omega) (by simp) ?_; intro v' w2 hown hgrow; rw [List.nil_append] at hown; obtain ⟨q, rfl⟩ := hown.has.sl)
 go_ret
 exact ⟨q, rfl, hown, hgrow⟩
set_option maxHeartbeats 400000 in
theorem statesCopy (v : Value) (s : St) (w : World) (hx : HasS w v s) (hf : Fit s) :
   Calls Tryz.prog 106 #[v] w fun e w' => ∃ us : Nat → Sl, e = .returned (stV us) ∧ (∀ i, i < 4 → Own w' w.heap.size (slV (us i)) (s.at i)) ∧ Apart us 4 ∧ Le w w' := by
 obtain ⟨vs, rfl, hr⟩ := hx
 go_enter Tryz.func106, Tryz.ntmps106
 go_wp2
 go_loopw [8] (fun i wr => ∃ (k : Nat) (us : Nat → Sl), k ≤ 4 ∧ i = .int .i64 k ∧ Cp w s vs wr k us) (fun i _ => 4 - (intOf i).toNat)
 case atStart => exact ⟨0, _, by omega, rfl, Cp.start w s vs⟩
 case round =>
   obtain ⟨k, us, hk, rfl, hcp⟩ := hrel
   by_cases hlt : k < 4
   ·have hix := run_row vs k hlt
    have hw1 : Has wr (slV (vs k)) (s.at k) := (hr k hlt).le hcp.le
    have hfk := hf k hlt
    have hrow : ∀ g, (none : Option Nat) = some g → wr.heap.size ≤ g := by intro g hg; cases hg
    go_wp2_with (go_at_call 107; refine (listsCopyI _ (s.at k) _ hw1 hfk).mono ?_; rintro e w2 ⟨q, rfl, hown, hgrow⟩; have l2 : Le wr w2 := Below.grown (Le.refl wr) hgrow (by simp) hrow; have c3 := (hcp.filled.le l2).cell k; rw [cells4_at us hlt] at c3; have f3 := (hcp.filled.le l2).frozen k)
    go_roundw
    case rel => exact ⟨k + 1, _, by omega, by go_num, hcp.next hlt (Le.refl wr) hgrow hrow hown⟩
    case measure => simp [intOf]; omega
   ·obtain rfl : k = 4 := by omega
    obtain ⟨p0, p1, p2, p3, _, _, _, _⟩ := hcp.filled.st
    obtain ⟨b0, b1, b2, b3, f0, f1, f2, f3⟩ := hcp.result.st
    go_wp2
    refine bodyPost_ret (v := stV us) (by simp [results, Tryz.results106, go_sem, b0, b1, b2, b3]) rfl ⟨us, rfl, fun i hi => ?_, hcp.apart, ?_⟩
    ·exact ((((hcp.rows i hi).setBox hcp.result (by decide)).setBox (hcp.result.set _ _) (by decide)).setBox ((hcp.result.set _ _).set _ _) (by decide)).setBox (((hcp.result.set _ _).set _ _).set _ _) (by decide)
    ·exact (((Below.setCell hcp.le (by show w.heap.size ≤ w.heap.size + 1; omega) _).setCell (by show w.heap.size ≤ w.heap.size + 1; omega) _).setCell (by show w.heap.size ≤ w.heap.size + 1; omega) _).setCell (by show w.heap.size ≤ w.heap.size + 1; omega) _
theorem manyTo_bounds {s : St} {m : Nat} (h : ∀ k, k < 4 → (s.at k).length ≤ m) : ∀ k, k ≤ 4 → 0 ≤ manyTo s k ∧ manyTo s k ≤ k * m
 | 0, _ => by simp [manyTo]
 | k + 1, hk => by
   have ih := manyTo_bounds h k (by omega)
   have := h k (by omega)
   have e : ((k + 1 : Nat) : Int) * m = k * m + m := by rw [Int.natCast_add, Int.add_mul]; simp
   simp only [manyTo]
   rw [e]
   omega
set_option maxHeartbeats 400000 in
theorem statesCount (v : Value) (s : St) (w : World) (hx : HasS w v s) (hm : ∀ k, k < 4 → (s.at k).length ≤ 1000) :
   Calls Tryz.prog 159 #[v] w fun e w' => e = .returned (.int .i64 (manyTo s 4)) ∧ Le w w' := by
 obtain ⟨vs, rfl, hr⟩ := hx
 have hl := Le.alloc w (.cells (cells4 vs) 44)
 have hr1 := fun i hi => (hr i hi).le hl
 go_enter Tryz.func159, Tryz.ntmps159
 go_wp2
 go_loop [3, 8] (fun t i => ∃ k : Nat, k ≤ 4 ∧ i = .int .i64 k ∧ t = .int .i64 (manyTo s k)) (fun _ i => 4 - (intOf i).toNat)
 case atStart => exact ⟨0, by omega, rfl, rfl⟩
 case round =>
   obtain ⟨k, hk, rfl, rfl⟩ := hrel
   by_cases hlt : k < 4
   ·have hix := run_row vs k hlt
    obtain ⟨b0, b1⟩ := manyTo_bounds hm k hk
    obtain ⟨a, cap, hv, hc, _, hcell⟩ := hr1 k hlt
    have hs : manyTo s (k + 1) = manyTo s k + (s.at k).length := rfl
    have hlk := hm k hlt
    rw [hv] at hix
    obtain ⟨n, hn⟩ : ∃ n, n = (s.at k).length := ⟨_, rfl⟩
    obtain ⟨t, ht⟩ : ∃ t, t = manyTo s k := ⟨_, rfl⟩
    rw [← hn, ← ht] at hs
    rw [← hn] at hix hlk
    rw [← ht] at b0 b1 ⊢
    have HS : Hid (manyTo s (k + 1) = t + n) := hs
    clear hs hcell hc hv hm hr hr1 hn ht
    go_wp2
    go_round
    case rel => exact ⟨k + 1, by omega, by go_num, by rw [HS.out]⟩
    case measure => simp [intOf]; omega
   ·obtain rfl : k = 4 := by omega
    go_wp2
    go_ret
    exact ⟨rfl, hl⟩
def rowMay1 (xs : List Int) : Bool :=
 match xs with
 | [] => true
 | [x] => decide (0 ≤ x) && decide (x ≤ 255)
 | _ => false
def firstS (xs : List Int) : Int := xs.headD (-1)
theorem rowMay1_cases {xs : List Int} (h : rowMay1 xs = true) : xs = [] ∨ ∃ x, xs = [x] ∧ 0 ≤ x ∧ x ≤ 255 := by
 match xs with
 | [] => exact .inl rfl
 | [x] => simp [rowMay1] at h; exact .inr ⟨x, rfl, h.1, h.2⟩
 | _ :: _ :: _ => simp [rowMay1] at h
set_option maxHeartbeats 400000 in
theorem storeMayRow (v : Value) (xs : List Int) (w : World) (hx : Has w v xs) :
   Calls Tryz.prog 148 #[v] w fun e w' => e = .returned (.bool (rowMay1 xs)) ∧ w = w' := by
 obtain ⟨a, cap, rfl, hc, _, hx⟩ := hx
 match xs, hc, hx with
 | [], hc, hx =>
   go_enter Tryz.func148, Tryz.ntmps148
   go_wp2
   go_ret
   exact ⟨rfl, rfl⟩
 | [x], hc, hx =>
   obtain ⟨b, off, rfl, hcell⟩ := hx (by simp)
   have c0 : w.cell? ⟨b, off, none⟩ = some (.int .i64 x) := hcell 0 (by simp)
   clear hx hcell
   by_cases h0 : 0 ≤ x
   all_goals
     go_enter Tryz.func148, Tryz.ntmps148
     go_wp2
     go_ret
     exact ⟨ret_bool (by simp [rowMay1, h0]; try omega), rfl⟩
 | x :: y :: zs, hc, hx =>
   have n0 : ¬ (((zs.length + 1 + 1 : Nat) : Int)) = 0 := by omega
   have n1 : ¬ (((zs.length + 1 + 1 : Nat) : Int)) = 1 := by omega
   simp only [List.length_cons] at hc hx ⊢
   go_enter Tryz.func148, Tryz.ntmps148
   go_wp2
   go_ret
   exact ⟨ret_bool (by simp [rowMay1]), rfl⟩
set_option maxHeartbeats 400000 in
theorem storeNumber (v : Value) (xs : List Int) (w : World) (hx : Has w v xs) :
   Calls Tryz.prog 150 #[v] w fun e w' => e = .returned (.int .i64 (firstS xs)) ∧ w = w' := by
 obtain ⟨a, cap, rfl, hc, _, hx⟩ := hx
 match xs, hc, hx with
 | [], hc, hx =>
   go_enter Tryz.func150, Tryz.ntmps150
   go_wp2
   go_ret
   exact ⟨rfl, rfl⟩
 | x :: zs, hc, hx =>
   obtain ⟨b, off, rfl, hcell⟩ := hx (by simp)
   have c0 : w.cell? ⟨b, off, none⟩ = some (.int .i64 x) := hcell 0 (by simp)
   simp only [List.length_cons] at hc ⊢
   have n0 : ¬ (((zs.length + 1 : Nat) : Int)) = 0 := by omega
   clear hx hcell
   go_enter Tryz.func150, Tryz.ntmps150
   go_wp2
   go_ret
   exact ⟨rfl, rfl⟩
theorem storeMay (v : Value) (s : St) (w : World) (hx : HasS w v s) :
   Calls Tryz.prog 147 #[v, .func (.func 148) #[] #[]] w fun e w' => e = .returned (.bool (s.all rowMay1)) ∧ Le w w' :=
 statesMay 148 rowMay1 (fun _ _ => by kernel_rfl) storeMayRow v s w hx
theorem sumTo_bounds {s : St} (h : s.all rowMay1 = true) : ∀ k, k ≤ 4 → 0 ≤ sumTo s k ∧ sumTo s k ≤ 255 * k
 | 0, _ => by simp [sumTo]
 | k + 1, hk => by
   have ih := sumTo_bounds h k (by omega)
   rcases rowMay1_cases (St.all_at h (k := k) (by omega)) with e | ⟨x, e, h0, h1⟩ <;> simp [sumTo, e] <;> omega
set_option maxHeartbeats 400000 in
theorem storeSum (v : Value) (s : St) (w : World) (hx : HasS w v s) (hm : s.all rowMay1 = true) :
   Calls Tryz.prog 149 #[v] w fun e w' => e = .returned (.int .i64 (sumTo s 4)) ∧ Le w w' := by
 obtain ⟨vs, rfl, hr⟩ := hx
 have hl := Le.alloc w (.cells (cells4 vs) 44)
 have hr1 := fun i hi => (hr i hi).le hl
 go_enter Tryz.func149, Tryz.ntmps149
 go_wp2
 go_loop [3, 10] (fun t i => ∃ k : Nat, k ≤ 4 ∧ i = .int .i64 k ∧ t = .int .i64 (sumTo s k)) (fun _ i => 4 - (intOf i).toNat)
 case atStart => exact ⟨0, by omega, rfl, rfl⟩
 case round =>
   obtain ⟨k, hk, rfl, rfl⟩ := hrel
   by_cases hlt : k < 4
   ·have hix := run_row vs k hlt
    obtain ⟨b0, b1⟩ := sumTo_bounds hm k hk
    obtain ⟨a, cap, hv, hc, _, hcell⟩ := hr1 k hlt
    have hs : sumTo s (k + 1) = sumTo s k + (s.at k).sum := rfl
    rw [hv] at hix
    rcases rowMay1_cases (St.all_at hm hlt) with e | ⟨x, e, h0, h1⟩
    ·rw [e] at hix hs
     simp at hs
     have HS : Hid (sumTo s (k + 1) = sumTo s k) := hs
     clear hs e hcell hc hv hm hr hr1
     go_wp2
     refine wp_loop_rounds 1 ?_
     rw [rounds_succ]
     go_wp2
     go_round
     case rel => exact ⟨k + 1, by omega, by go_num, by rw [HS.out]⟩
     case measure => simp [intOf]; omega
    ·rw [e] at hix hs hcell
     obtain ⟨b, off, ha, hcl⟩ := hcell (by simp)
     clear hcell
     subst ha
     have c0 := hcl 0 (by simp)
     simp at hs c0
     have HS : Hid (sumTo s (k + 1) = sumTo s k + x) := hs
     clear hs e hcl hc hv hm hr hr1
     go_wp2
     refine wp_loop_rounds 2 ?_
     rw [rounds_succ]
     go_wp2
     rw [rounds_succ]
     go_wp2
     go_round
     case rel => exact ⟨k + 1, by omega, by go_num, by rw [HS.out]⟩
     case measure => simp [intOf]; omega
   ·obtain rfl : k = 4 := by omega
    go_wp2
    go_ret
    exact ⟨rfl, hl⟩
theorem storeCopied (v : Value) (s : St) (w : World) (hx : HasS w v s) (hf : Fit s) :
   Calls Tryz.prog 106 #[v] w fun e w' => ∃ v', e = .returned v' ∧ OwnS w' w.heap.size v' s ∧ Le w w' :=
 (statesCopy v s w hx hf).mono fun _ _ ⟨us, he, ho, _, hl⟩ => ⟨stV us, he, ⟨us, rfl, ho⟩, hl⟩
def stoS (s : St) (c r a e : Int) : St × Int × Int :=
 if s.all rowMay1 && opMay c r a then
   (if c = 3 then (s, sumTo s 4, 0)
   else (if c = 0 then s.put r.toNat [a] else if c = 1 then s.put r.toNat [] else s, firstS (s.at r.toNat), 0))
 else (St.zero, 0, e)
set_option maxHeartbeats 2000000 in
theorem storeApplyNo (v : Value) (s : St) (c r a : Int) (w : World) (hx : HasS w v s) (h : (s.all rowMay1 && opMay c r a) = false) :
   Calls Tryz.prog 142 #[v, opV c r a] w fun e w' => e = .returned (.tuple #[stZ, .int .i64 0, .int .i64 300]) ∧ Le w w' := by
 have hx0 := hx
 obtain ⟨vs, rfl, hr⟩ := hx
 have hl := ((Le.alloc w (.cells (cells4 vs) 44)).trans (Le.alloc _ (.cells #[.int .i64 c, .int .i64 r, .int .i64 a] 48))).trans (Le.alloc _ (.cells (cells4 fun _ => slZ) 44))
 have hb1 := ((Box.new w (cells4 vs) 44).le (Le.alloc _ (.cells #[.int .i64 c, .int .i64 r, .int .i64 a] 48))).le (Le.alloc _ (.cells (cells4 fun _ => slZ) 44))
 have hb2 := (Box.new (w.alloc (.cells (cells4 vs) 44)) #[.int .i64 c, .int .i64 r, .int .i64 a] 48).le (Le.alloc _ (.cells (cells4 fun _ => slZ) 44))
 have hb3 := Box.new ((w.alloc (.cells (cells4 vs) 44)).alloc (.cells #[.int .i64 c, .int .i64 r, .int .i64 a] 48)) (cells4 fun _ => slZ) 44
 simp only [World.size_alloc] at hb1 hb2 hb3
 cases hm : s.all rowMay1
 ·have hmay := storeMay (stV vs) s _ (hx0.le hl)
  rw [hm] at hmay
  go_enter Tryz.func142, Tryz.ntmps142
  go_wp2_with fail
  refine hmay.mono ?_
  rintro e w1 ⟨rfl, l1⟩
  obtain ⟨z0, z1, z2, z3, f0, f1, f2, f3⟩ := (hb3.le l1).st
  go_wp2_with fail
  refine bodyPost_ret (v := .tuple #[stZ, .int .i64 0, .int .i64 300]) (by simp [results, Tryz.results142, go_sem, z0, z1, z2, z3]) rfl ⟨rfl, ?_⟩
  exact (hl.trans l1).set4 (by omega) _ _ _ _
 ·have hop : opMay c r a = false := by simpa [hm] using h
  have hmay := storeMay (stV vs) s _ (hx0.le hl)
  rw [hm] at hmay
  go_enter Tryz.func142, Tryz.ntmps142
  go_wp2_with fail
  refine hmay.mono ?_
  rintro e w1 ⟨rfl, l1⟩
  obtain ⟨y0, y1, y2, _, _, _⟩ := (hb2.le l1).op
  go_wp2_with fail
  refine (operMay _ _ _ _).mono ?_
  rw [hop]
  rintro e w2 ⟨rfl, l2⟩
  obtain ⟨z0, z1, z2, z3, f0, f1, f2, f3⟩ := ((hb3.le l1).le l2).st
  go_wp2_with fail
  refine bodyPost_ret (v := .tuple #[stZ, .int .i64 0, .int .i64 300]) (by simp [results, Tryz.results142, go_sem, z0, z1, z2, z3]) rfl ⟨rfl, ?_⟩
  exact ((hl.trans l1).trans l2).set4 (by omega) _ _ _ _
set_option maxHeartbeats 2000000 in
theorem storeApplyScan (v : Value) (s : St) (w : World) (hx : HasS w v s) (hf : Fit s) (hm : s.all rowMay1 = true) :
   Calls Tryz.prog 142 #[v, opV 3 0 0] w fun e w' => ∃ v', e = .returned (.tuple #[v', .int .i64 (sumTo s 4), .int .i64 0]) ∧ OwnS w' w.heap.size v' (s) ∧ Le w w' := by
 have hx0 := hx
 obtain ⟨vs, rfl, hr⟩ := hx
 have hl := ((Le.alloc w (.cells (cells4 vs) 44)).trans (Le.alloc _ (.cells #[.int .i64 3, .int .i64 0, .int .i64 0] 48))).trans (Le.alloc _ (.cells (cells4 fun _ => slZ) 44))
 have hb1 := ((Box.new w (cells4 vs) 44).le (Le.alloc _ (.cells #[.int .i64 3, .int .i64 0, .int .i64 0] 48))).le (Le.alloc _ (.cells (cells4 fun _ => slZ) 44))
 have hb2 := (Box.new (w.alloc (.cells (cells4 vs) 44)) #[.int .i64 3, .int .i64 0, .int .i64 0] 48).le (Le.alloc _ (.cells (cells4 fun _ => slZ) 44))
 have hb3 := Box.new ((w.alloc (.cells (cells4 vs) 44)).alloc (.cells #[.int .i64 3, .int .i64 0, .int .i64 0] 48)) (cells4 fun _ => slZ) 44
 simp only [World.size_alloc] at hb1 hb2 hb3
 have hmay := storeMay (stV vs) s _ (hx0.le hl)
 rw [hm] at hmay
 have hop : opMay 3 0 0 = true := by decide
 go_enter Tryz.func142, Tryz.ntmps142
 go_wp2_with fail
 refine hmay.mono ?_
 rintro e w1 ⟨rfl, l1⟩
 obtain ⟨y0, y1, y2, _, _, _⟩ := (hb2.le l1).op
 clear hmay
 go_wp2_with fail
 refine (operMay _ _ _ _).mono ?_
 rw [hop]
 rintro e w2 ⟨rfl, l2⟩
 replace l1 := l1.trans l2
 clear l2 y0 y1 y2
 obtain ⟨y0, y1, y2, y3, _, _, _, _⟩ := (hb1.le l1).st
 go_wp2_with fail
 refine (storeCopied (stV vs) s _ (hx0.le (hl.trans l1)) hf).mono ?_
 rintro e w3 ⟨_, rfl, ⟨us, rfl, hown⟩, l3⟩
 replace hown := fun i hi => (hown i hi).base (base' := w.heap.size) (hl.trans l1).size
 replace l1 := l1.trans l3
 clear l3 y0 y1 y2 y3
 have n0 : w.heap.size + 1 + 1 < w3.heap.size := (hb3.le l1).lt
 have n1 : ¬ w.heap.size + 1 + 1 = w3.heap.size := by omega
 have n2 : ¬ w.heap.size + 1 + 1 = w.heap.size := by omega
 have n3 : ¬ w.heap.size + 1 + 1 = w.heap.size + 1 := by omega
 have hb4 := Box.new w3 (cells4 us) 44
 replace l1 := l1.trans (Le.alloc w3 (.cells (cells4 us) 44))
 replace hown := fun i hi => (hown i hi).le (Le.alloc w3 (.cells (cells4 us) 44))
 obtain ⟨y0, y1, y2, _, _, _⟩ := (hb2.le l1).op
 go_upto_region 6 with fail
 generalize hW : w3.alloc (.cells (cells4 us) 44) = W at hb4 l1 hown ⊢
 clear y0 y1 y2 hW
 obtain ⟨y0, y1, y2, y3, _, _, _, _⟩ := hb4.st
 obtain ⟨x0, x1, x2, x3, _, _, _, _⟩ := (hb1.le l1).st
 obtain ⟨z0, z1, z2, z3, f0, f1, f2, f3⟩ := (hb3.le l1).st
 have hsum := fun (w' : World) (h : Le W w') => storeSum (stV vs) s w' (hx0.le ((hl.trans l1).trans h)) hm
 go_region_held3 (fun w' => w'.cell? ⟨w3.heap.size, 0, none⟩ = some (slV (us 0)) ∧ w'.cell? ⟨w3.heap.size, 1, none⟩ = some (slV (us 1)) ∧ w'.cell? ⟨w3.heap.size, 2, none⟩ = some (slV (us 2)) ∧ w'.cell? ⟨w3.heap.size, 3, none⟩ = some (slV (us 3)) ∧ w'.cell? ⟨w.heap.size, 0, none⟩ = some (slV (vs 0)) ∧ w'.cell? ⟨w.heap.size, 1, none⟩ = some (slV (vs 1)) ∧ w'.cell? ⟨w.heap.size, 2, none⟩ = some (slV (vs 2)) ∧ w'.cell? ⟨w.heap.size, 3, none⟩ = some (slV (vs 3))) (go_keep) ((go_at_call 149; refine (hsum _ (Le.drew _)).mono ?_; rintro e w4 ⟨rfl, l4⟩; replace l4 := (Le.drew W).trans l4; obtain ⟨y0', y1', y2', y3', _, _, _, _⟩ := (hb4.le l4).st; obtain ⟨x0', x1', x2', x3', _, _, _, _⟩ := (hb1.le (l1.trans l4)).st; obtain ⟨z0', z1', z2', z3', f0', f1', f2', f3'⟩ := (hb3.le (l1.trans l4)).st))
 all_goals
   go_wp2_with fail
   refine bodyPost_ret (v := .tuple #[stV us, .int .i64 (sumTo s 4), .int .i64 0]) (by simp [results, Tryz.results142, go_sem, z0', z1', z2', z3']) rfl ⟨_, rfl, ⟨us, rfl, fun i hi => ?_⟩, ?_⟩
   ·exact ((hown i hi).le l4).set4 (hb3.le (l1.trans l4)) (by decide) _ _ _ _
   ·exact ((hl.trans l1).trans l4).set4 (by omega) _ _ _ _
set_option maxHeartbeats 2000000 in
theorem storeApplyLook (v : Value) (s : St) (k : Nat) (w : World) (hx : HasS w v s) (hf : Fit s) (hm : s.all rowMay1 = true) (hk : k < 4) :
   Calls Tryz.prog 142 #[v, opV 2 k 0] w fun e w' => ∃ v', e = .returned (.tuple #[v', .int .i64 (firstS (s.at k)), .int .i64 0]) ∧ OwnS w' w.heap.size v' (s) ∧ Le w w' := by
 have hx0 := hx
 obtain ⟨vs, rfl, hr⟩ := hx
 have hl := ((Le.alloc w (.cells (cells4 vs) 44)).trans (Le.alloc _ (.cells #[.int .i64 2, .int .i64 k, .int .i64 0] 48))).trans (Le.alloc _ (.cells (cells4 fun _ => slZ) 44))
 have hb1 := ((Box.new w (cells4 vs) 44).le (Le.alloc _ (.cells #[.int .i64 2, .int .i64 k, .int .i64 0] 48))).le (Le.alloc _ (.cells (cells4 fun _ => slZ) 44))
 have hb2 := (Box.new (w.alloc (.cells (cells4 vs) 44)) #[.int .i64 2, .int .i64 k, .int .i64 0] 48).le (Le.alloc _ (.cells (cells4 fun _ => slZ) 44))
 have hb3 := Box.new ((w.alloc (.cells (cells4 vs) 44)).alloc (.cells #[.int .i64 2, .int .i64 k, .int .i64 0] 48)) (cells4 fun _ => slZ) 44
 simp only [World.size_alloc] at hb1 hb2 hb3
 have hmay := storeMay (stV vs) s _ (hx0.le hl)
 rw [hm] at hmay
 have hop : opMay 2 k 0 = true := by simp [opMay]; omega
 go_enter Tryz.func142, Tryz.ntmps142
 go_wp2_with fail
 refine hmay.mono ?_
 rintro e w1 ⟨rfl, l1⟩
 obtain ⟨y0, y1, y2, _, _, _⟩ := (hb2.le l1).op
 clear hmay
 go_wp2_with fail
 refine (operMay _ _ _ _).mono ?_
 rw [hop]
 rintro e w2 ⟨rfl, l2⟩
 replace l1 := l1.trans l2
 clear l2 y0 y1 y2
 obtain ⟨y0, y1, y2, y3, _, _, _, _⟩ := (hb1.le l1).st
 go_wp2_with fail
 refine (storeCopied (stV vs) s _ (hx0.le (hl.trans l1)) hf).mono ?_
 rintro e w3 ⟨_, rfl, ⟨us, rfl, hown⟩, l3⟩
 replace hown := fun i hi => (hown i hi).base (base' := w.heap.size) (hl.trans l1).size
 replace l1 := l1.trans l3
 clear l3 y0 y1 y2 y3
 have n0 : w.heap.size + 1 + 1 < w3.heap.size := (hb3.le l1).lt
 have n1 : ¬ w.heap.size + 1 + 1 = w3.heap.size := by omega
 have n2 : ¬ w.heap.size + 1 + 1 = w.heap.size := by omega
 have n3 : ¬ w.heap.size + 1 + 1 = w.heap.size + 1 := by omega
 have hb4 := Box.new w3 (cells4 us) 44
 replace l1 := l1.trans (Le.alloc w3 (.cells (cells4 us) 44))
 replace hown := fun i hi => (hown i hi).le (Le.alloc w3 (.cells (cells4 us) 44))
 obtain ⟨y0, y1, y2, _, _, _⟩ := (hb2.le l1).op
 go_upto_region 11 with fail
 generalize hW : w3.alloc (.cells (cells4 us) 44) = W at hb4 l1 hown ⊢
 clear y0 y1 y2 hW
 obtain ⟨y0, y1, y2, y3, _, _, _, _⟩ := hb4.st
 obtain ⟨z0, z1, z2, z3, f0, f1, f2, f3⟩ := (hb3.le l1).st
 have k0 : (0 : Int) ≤ (k : Int) := by omega
 have k1 : (k : Int) < 4 := by omega
 have o1 := (hb2.le l1).op.2.1
 have x1 : W.cell? ⟨w.heap.size, k, none⟩ = some (slV (vs k)) := ((hb1.le l1).cell k).trans (cells4_at vs hk)
 have hnum := storeNumber (slV (vs k)) (s.at k) W.drew ((hr k hk).le ((hl.trans l1).trans (Le.drew _)))
 go_region_held3 (fun w' => w'.cell? ⟨w3.heap.size, 0, none⟩ = some (slV (us 0)) ∧ w'.cell? ⟨w3.heap.size, 1, none⟩ = some (slV (us 1)) ∧ w'.cell? ⟨w3.heap.size, 2, none⟩ = some (slV (us 2)) ∧ w'.cell? ⟨w3.heap.size, 3, none⟩ = some (slV (us 3)) ∧ w'.cell? ⟨w.heap.size + 1, 1, none⟩ = some (.int .i64 k) ∧ w'.cell? ⟨w.heap.size, k, none⟩ = some (slV (vs k))) (go_keep) ((go_at_call 150; refine hnum.mono ?_; rintro e w4 ⟨rfl, rfl⟩))
 all_goals
   go_wp2_with fail
   refine bodyPost_ret (v := .tuple #[stV us, .int .i64 (firstS (s.at k)), .int .i64 0]) (by simp [results, Tryz.results142, go_sem, z0, z1, z2, z3]) rfl ⟨_, rfl, ⟨us, rfl, fun i hi => ?_⟩, ?_⟩
   ·exact ((hown i hi).le (Le.drew _)).set4 (hb3.le (l1.trans (Le.drew _))) (by decide) _ _ _ _
   ·exact ((hl.trans l1).trans (Le.drew _)).set4 (by omega) _ _ _ _
set_option maxHeartbeats 2000000 in
theorem storeApplyFirst (v : Value) (s : St) (k : Nat) (a : Int) (w : World) (hx : HasS w v s) (hf : Fit s) (hm : s.all rowMay1 = true) (hk : k < 4) (ha : 0 ≤ a ∧ a ≤ 255) :
   Calls Tryz.prog 142 #[v, opV 0 k a] w fun e w' => ∃ v', e = .returned (.tuple #[v', .int .i64 (firstS (s.at k)), .int .i64 0]) ∧ OwnS w' w.heap.size v' (s.put k [a]) ∧ Le w w' := by
 have hx0 := hx
 obtain ⟨vs, rfl, hr⟩ := hx
 have hl := ((Le.alloc w (.cells (cells4 vs) 44)).trans (Le.alloc _ (.cells #[.int .i64 0, .int .i64 k, .int .i64 a] 48))).trans (Le.alloc _ (.cells (cells4 fun _ => slZ) 44))
 have hb1 := ((Box.new w (cells4 vs) 44).le (Le.alloc _ (.cells #[.int .i64 0, .int .i64 k, .int .i64 a] 48))).le (Le.alloc _ (.cells (cells4 fun _ => slZ) 44))
 have hb2 := (Box.new (w.alloc (.cells (cells4 vs) 44)) #[.int .i64 0, .int .i64 k, .int .i64 a] 48).le (Le.alloc _ (.cells (cells4 fun _ => slZ) 44))
 have hb3 := Box.new ((w.alloc (.cells (cells4 vs) 44)).alloc (.cells #[.int .i64 0, .int .i64 k, .int .i64 a] 48)) (cells4 fun _ => slZ) 44
 simp only [World.size_alloc] at hb1 hb2 hb3
 have hmay := storeMay (stV vs) s _ (hx0.le hl)
 rw [hm] at hmay
 have hop : opMay 0 k a = true := by simp [opMay]; omega
 go_enter Tryz.func142, Tryz.ntmps142
 go_wp2_with fail
 refine hmay.mono ?_
 rintro e w1 ⟨rfl, l1⟩
 obtain ⟨y0, y1, y2, _, _, _⟩ := (hb2.le l1).op
 clear hmay
 go_wp2_with fail
 refine (operMay _ _ _ _).mono ?_
 rw [hop]
 rintro e w2 ⟨rfl, l2⟩
 replace l1 := l1.trans l2
 clear l2 y0 y1 y2
 obtain ⟨y0, y1, y2, y3, _, _, _, _⟩ := (hb1.le l1).st
 go_wp2_with fail
 refine (storeCopied (stV vs) s _ (hx0.le (hl.trans l1)) hf).mono ?_
 rintro e w3 ⟨_, rfl, ⟨us, rfl, hown⟩, l3⟩
 replace hown := fun i hi => (hown i hi).base (base' := w.heap.size) (hl.trans l1).size
 replace l1 := l1.trans l3
 clear l3 y0 y1 y2 y3
 have n0 : w.heap.size + 1 + 1 < w3.heap.size := (hb3.le l1).lt
 have n1 : ¬ w.heap.size + 1 + 1 = w3.heap.size := by omega
 have n2 : ¬ w.heap.size + 1 + 1 = w.heap.size := by omega
 have n3 : ¬ w.heap.size + 1 + 1 = w.heap.size + 1 := by omega
 have hb4 := Box.new w3 (cells4 us) 44
 replace l1 := l1.trans (Le.alloc w3 (.cells (cells4 us) 44))
 replace hown := fun i hi => (hown i hi).le (Le.alloc w3 (.cells (cells4 us) 44))
 obtain ⟨y0, y1, y2, _, _, _⟩ := (hb2.le l1).op
 go_upto_region 8 with fail
 generalize hW : w3.alloc (.cells (cells4 us) 44) = W at hb4 l1 hown ⊢
 clear y0 y1 y2 hW
 have o1 := (hb2.le l1).op.2.1
 have o2 := (hb2.le l1).op.2.2.1
 have t1 : (W.alloc (.cells #[.int .i64 a] 3)).cell? ⟨w3.heap.size, k, none⟩ = some (slV (us k)) := ((hb4.le (Le.alloc W _)).cell k).trans (cells4_at us hk)
 have tf := (hb4.le (Le.alloc W (.cells #[.int .i64 a] 3))).frozen k
 have hnew : Own (W.alloc (.cells #[.int .i64 a] 3)) w.heap.size (slV (some ⟨W.heap.size, 0, none⟩, 1, 1)) [a] := Own.lit W _ (hl.trans l1).size [a] (by simp)
 go_upto_region 11 with fail
 replace hnew := hnew.setBox (i := k) (u := slV (some ⟨W.heap.size, 0, none⟩, 1, 1)) (hb4.le (Le.alloc W _)) (by decide)
 replace hown := fun i hi => ((hown i hi).le (Le.alloc W (.cells #[.int .i64 a] 3))).setBox (i := k) (u := slV (some ⟨W.heap.size, 0, none⟩, 1, 1)) (hb4.le (Le.alloc W _)) (by decide)
 replace hb4 := (hb4.le (Le.alloc W (.cells #[.int .i64 a] 3))).set k (slV (some ⟨W.heap.size, 0, none⟩, 1, 1))
 rw [cells4_upd us hk] at hb4
 replace l1 : Le _ ((W.alloc (.cells #[.int .i64 a] 3)).setCell ⟨w3.heap.size, k, none⟩ (slV (some ⟨W.heap.size, 0, none⟩, 1, 1))) := Below.setCell (l1.trans (Le.alloc W _)) (by simp only [World.size_alloc]; show w.heap.size + 1 + 1 + 1 ≤ w3.heap.size; omega) _
 generalize hW2 : (W.alloc (.cells #[.int .i64 a] 3)).setCell ⟨w3.heap.size, k, none⟩ (slV (some ⟨W.heap.size, 0, none⟩, 1, 1)) = W2 at hb4 l1 hown hnew ⊢
 replace hown : ∀ i, i < 4 → Own W2 w.heap.size (slV (upd us k (some ⟨W.heap.size, 0, none⟩, 1, 1) i)) ((s.put k [a]).at i) := by
   intro i hi
   rw [St.at_put hk hi]
   by_cases e : i = k
   ·rw [if_pos e, show upd us k (some ⟨W.heap.size, 0, none⟩, 1, 1) i = (some ⟨W.heap.size, 0, none⟩, 1, 1) by simp [upd, e]]; exact hnew
   ·rw [if_neg e, show upd us k (some ⟨W.heap.size, 0, none⟩, 1, 1) i = us i by simp [upd, e]]; exact hown i hi
 generalize upd us k (some ⟨W.heap.size, 0, none⟩, 1, 1) = us at hb4 hown
 clear hW2 hnew t1 tf o1 o2
 generalize W2 = W at hb4 l1 hown ⊢
 obtain ⟨y0, y1, y2, y3, _, _, _, _⟩ := hb4.st
 obtain ⟨z0, z1, z2, z3, f0, f1, f2, f3⟩ := (hb3.le l1).st
 have k0 : (0 : Int) ≤ (k : Int) := by omega
 have k1 : (k : Int) < 4 := by omega
 have o1 := (hb2.le l1).op.2.1
 have x1 : W.cell? ⟨w.heap.size, k, none⟩ = some (slV (vs k)) := ((hb1.le l1).cell k).trans (cells4_at vs hk)
 have hnum := storeNumber (slV (vs k)) (s.at k) W.drew ((hr k hk).le ((hl.trans l1).trans (Le.drew _)))
 go_region_held3 (fun w' => w'.cell? ⟨w3.heap.size, 0, none⟩ = some (slV (us 0)) ∧ w'.cell? ⟨w3.heap.size, 1, none⟩ = some (slV (us 1)) ∧ w'.cell? ⟨w3.heap.size, 2, none⟩ = some (slV (us 2)) ∧ w'.cell? ⟨w3.heap.size, 3, none⟩ = some (slV (us 3)) ∧ w'.cell? ⟨w.heap.size + 1, 1, none⟩ = some (.int .i64 k) ∧ w'.cell? ⟨w.heap.size, k, none⟩ = some (slV (vs k))) (go_keep) ((go_at_call 150; refine hnum.mono ?_; rintro e w4 ⟨rfl, rfl⟩))
 all_goals
   go_wp2_with fail
   refine bodyPost_ret (v := .tuple #[stV us, .int .i64 (firstS (s.at k)), .int .i64 0]) (by simp [results, Tryz.results142, go_sem, z0, z1, z2, z3]) rfl ⟨_, rfl, ⟨us, rfl, fun i hi => ?_⟩, ?_⟩
   ·exact ((hown i hi).le (Le.drew _)).set4 (hb3.le (l1.trans (Le.drew _))) (by decide) _ _ _ _
   ·exact ((hl.trans l1).trans (Le.drew _)).set4 (by omega) _ _ _ _
set_option maxHeartbeats 2000000 in
theorem storeApplySecond (v : Value) (s : St) (k : Nat) (a : Int) (w : World) (hx : HasS w v s) (hf : Fit s) (hm : s.all rowMay1 = true) (hk : k < 4) (ha : 0 ≤ a ∧ a ≤ 255) :
   Calls Tryz.prog 142 #[v, opV 1 k a] w fun e w' => ∃ v', e = .returned (.tuple #[v', .int .i64 (firstS (s.at k)), .int .i64 0]) ∧ OwnS w' w.heap.size v' (s.put k []) ∧ Le w w' := by
 have hx0 := hx
 obtain ⟨vs, rfl, hr⟩ := hx
 have hl := ((Le.alloc w (.cells (cells4 vs) 44)).trans (Le.alloc _ (.cells #[.int .i64 1, .int .i64 k, .int .i64 a] 48))).trans (Le.alloc _ (.cells (cells4 fun _ => slZ) 44))
 have hb1 := ((Box.new w (cells4 vs) 44).le (Le.alloc _ (.cells #[.int .i64 1, .int .i64 k, .int .i64 a] 48))).le (Le.alloc _ (.cells (cells4 fun _ => slZ) 44))
 have hb2 := (Box.new (w.alloc (.cells (cells4 vs) 44)) #[.int .i64 1, .int .i64 k, .int .i64 a] 48).le (Le.alloc _ (.cells (cells4 fun _ => slZ) 44))
 have hb3 := Box.new ((w.alloc (.cells (cells4 vs) 44)).alloc (.cells #[.int .i64 1, .int .i64 k, .int .i64 a] 48)) (cells4 fun _ => slZ) 44
 simp only [World.size_alloc] at hb1 hb2 hb3
 have hmay := storeMay (stV vs) s _ (hx0.le hl)
 rw [hm] at hmay
 have hop : opMay 1 k a = true := by simp [opMay]; omega
 go_enter Tryz.func142, Tryz.ntmps142
 go_wp2_with fail
 refine hmay.mono ?_
 rintro e w1 ⟨rfl, l1⟩
 obtain ⟨y0, y1, y2, _, _, _⟩ := (hb2.le l1).op
 clear hmay
 go_wp2_with fail
 refine (operMay _ _ _ _).mono ?_
 rw [hop]
 rintro e w2 ⟨rfl, l2⟩
 replace l1 := l1.trans l2
 clear l2 y0 y1 y2
 obtain ⟨y0, y1, y2, y3, _, _, _, _⟩ := (hb1.le l1).st
 go_wp2_with fail
 refine (storeCopied (stV vs) s _ (hx0.le (hl.trans l1)) hf).mono ?_
 rintro e w3 ⟨_, rfl, ⟨us, rfl, hown⟩, l3⟩
 replace hown := fun i hi => (hown i hi).base (base' := w.heap.size) (hl.trans l1).size
 replace l1 := l1.trans l3
 clear l3 y0 y1 y2 y3
 have n0 : w.heap.size + 1 + 1 < w3.heap.size := (hb3.le l1).lt
 have n1 : ¬ w.heap.size + 1 + 1 = w3.heap.size := by omega
 have n2 : ¬ w.heap.size + 1 + 1 = w.heap.size := by omega
 have n3 : ¬ w.heap.size + 1 + 1 = w.heap.size + 1 := by omega
 have hb4 := Box.new w3 (cells4 us) 44
 replace l1 := l1.trans (Le.alloc w3 (.cells (cells4 us) 44))
 replace hown := fun i hi => (hown i hi).le (Le.alloc w3 (.cells (cells4 us) 44))
 obtain ⟨y0, y1, y2, _, _, _⟩ := (hb2.le l1).op
 go_upto_region 10 with fail
 generalize hW : w3.alloc (.cells (cells4 us) 44) = W at hb4 l1 hown ⊢
 clear y0 y1 y2 hW
 have o1 := (hb2.le l1).op.2.1
 have t1 : W.cell? ⟨w3.heap.size, k, none⟩ = some (slV (us k)) := (hb4.cell k).trans (cells4_at us hk)
 have tf := hb4.frozen k
 go_upto_region 11 with fail
 replace hown := fun i hi => (hown i hi).setBox (i := k) (u := slV slZ) hb4 (by decide)
 replace hb4 := hb4.set k (slV slZ)
 rw [cells4_upd us hk] at hb4
 replace l1 : Le _ (W.setCell ⟨w3.heap.size, k, none⟩ (slV slZ)) := Below.setCell l1 (by simp only [World.size_alloc]; show w.heap.size + 1 + 1 + 1 ≤ w3.heap.size; omega) _
 generalize hW2 : W.setCell ⟨w3.heap.size, k, none⟩ (slV slZ) = W2 at hb4 l1 hown ⊢
 replace hown : ∀ i, i < 4 → Own W2 w.heap.size (slV (upd us k slZ i)) ((s.put k []).at i) := by
   intro i hi
   rw [St.at_put hk hi]
   by_cases e : i = k
   ·rw [if_pos e, show upd us k slZ i = slZ by simp [upd, e]]; exact Own.nil _ _
   ·rw [if_neg e, show upd us k slZ i = us i by simp [upd, e]]; exact hown i hi
 generalize upd us k slZ = us at hb4 hown
 clear hW2 t1 tf o1
 generalize W2 = W at hb4 l1 hown ⊢
 obtain ⟨y0, y1, y2, y3, _, _, _, _⟩ := hb4.st
 obtain ⟨z0, z1, z2, z3, f0, f1, f2, f3⟩ := (hb3.le l1).st
 have k0 : (0 : Int) ≤ (k : Int) := by omega
 have k1 : (k : Int) < 4 := by omega
 have o1 := (hb2.le l1).op.2.1
 have x1 : W.cell? ⟨w.heap.size, k, none⟩ = some (slV (vs k)) := ((hb1.le l1).cell k).trans (cells4_at vs hk)
 have hnum := storeNumber (slV (vs k)) (s.at k) W.drew ((hr k hk).le ((hl.trans l1).trans (Le.drew _)))
 go_region_held3 (fun w' => w'.cell? ⟨w3.heap.size, 0, none⟩ = some (slV (us 0)) ∧ w'.cell? ⟨w3.heap.size, 1, none⟩ = some (slV (us 1)) ∧ w'.cell? ⟨w3.heap.size, 2, none⟩ = some (slV (us 2)) ∧ w'.cell? ⟨w3.heap.size, 3, none⟩ = some (slV (us 3)) ∧ w'.cell? ⟨w.heap.size + 1, 1, none⟩ = some (.int .i64 k) ∧ w'.cell? ⟨w.heap.size, k, none⟩ = some (slV (vs k))) (go_keep) ((go_at_call 150; refine hnum.mono ?_; rintro e w4 ⟨rfl, rfl⟩))
 all_goals
   go_wp2_with fail
   refine bodyPost_ret (v := .tuple #[stV us, .int .i64 (firstS (s.at k)), .int .i64 0]) (by simp [results, Tryz.results142, go_sem, z0, z1, z2, z3]) rfl ⟨_, rfl, ⟨us, rfl, fun i hi => ?_⟩, ?_⟩
   ·exact ((hown i hi).le (Le.drew _)).set4 (hb3.le (l1.trans (Le.drew _))) (by decide) _ _ _ _
   ·exact ((hl.trans l1).trans (Le.drew _)).set4 (by omega) _ _ _ _
theorem stoS_no {s : St} {c r a er : Int} (h : (s.all rowMay1 && opMay c r a) = false) : stoS s c r a er = (St.zero, 0, er) := by simp [stoS, h]
theorem stoS_scan {s : St} {er : Int} (h : s.all rowMay1 = true) : stoS s 3 0 0 er = (s, sumTo s 4, 0) := by
 have : opMay 3 0 0 = true := by decide
 simp [stoS, h, this]
theorem stoS_look {s : St} {k : Nat} {er : Int} (h : s.all rowMay1 = true) (hk : k < 4) : stoS s 2 k 0 er = (s, firstS (s.at k), 0) := by
 have : opMay 2 k 0 = true := by simp [opMay]; omega
 simp [stoS, h, this]
theorem stoS_first {s : St} {k : Nat} {a er : Int} (h : s.all rowMay1 = true) (hk : k < 4) (ha : 0 ≤ a ∧ a ≤ 255) : stoS s 0 k a er = (s.put k [a], firstS (s.at k), 0) := by
 have : opMay 0 k a = true := by simp [opMay]; omega
 simp [stoS, h, this]
theorem stoS_second {s : St} {k : Nat} {a er : Int} (h : s.all rowMay1 = true) (hk : k < 4) (ha : 0 ≤ a ∧ a ≤ 255) : stoS s 1 k a er = (s.put k [], firstS (s.at k), 0) := by
 have : opMay 1 k a = true := by simp [opMay]; omega
 simp [stoS, h, this]
theorem storeApply (v : Value) (s : St) (c r a : Int) (w : World) (hx : HasS w v s) (hf : Fit s) :
   Calls Tryz.prog 142 #[v, opV c r a] w fun e w' => ∃ v', e = .returned (.tuple #[v', .int .i64 (stoS s c r a 300).2.1, .int .i64 (stoS s c r a 300).2.2]) ∧ OwnS w' w.heap.size v' (stoS s c r a 300).1 ∧ Le w w' := by
 cases h : s.all rowMay1 && opMay c r a
 ·rw [stoS_no h]
  exact (storeApplyNo v s c r a w hx h).mono fun e w' ⟨he, hl⟩ => ⟨stZ, he, OwnS.zero _ _, hl⟩
 ·obtain ⟨hm, ho⟩ := Bool.and_eq_true_iff.mp h
  rcases opMay_cases ho with ⟨k, hk, rfl, rfl, ha⟩ | ⟨k, hk, rfl, rfl, ha⟩ | ⟨k, hk, rfl, rfl, rfl⟩ | ⟨rfl, rfl, rfl⟩
  ·rw [stoS_first hm hk ha]; exact storeApplyFirst v s k a w hx hf hm hk ha
  ·rw [stoS_second hm hk ha]; exact storeApplySecond v s k a w hx hf hm hk ha
  ·rw [stoS_look hm hk]; exact storeApplyLook v s k w hx hf hm hk
  ·rw [stoS_scan hm]; exact storeApplyScan v s w hx hf hm
theorem Fit.sto {s : St} (h : Fit s) (c r a er : Int) : Fit (stoS s c r a er).1 := by
 cases hh : s.all rowMay1 && opMay c r a
 ·rw [stoS_no hh]; exact fit_zero
 ·obtain ⟨hm, ho⟩ := Bool.and_eq_true_iff.mp hh
  rcases opMay_cases ho with ⟨k, hk, rfl, rfl, ha⟩ | ⟨k, hk, rfl, rfl, ha⟩ | ⟨k, hk, rfl, rfl, rfl⟩ | ⟨rfl, rfl, rfl⟩
  ·rw [stoS_first hm hk ha]; exact h.put hk (by simp)
  ·rw [stoS_second hm hk ha]; exact h.put hk (by simp)
  ·rw [stoS_look hm hk]; exact h
  ·rw [stoS_scan hm]; exact h
end Go.Proofs.YtepplhbajmlbpaaGreat

namespace Go.Proofs.YtepplhbajmlbpaaGreat
open Go.RowKit Go.Shelf
def insRen : Ren where
 f := fun x => match x with
   | 21 => 161
   | 27 => 165
   | 28 => 166
   | 35 => 168
   | 39 => 169
   | x => x
 t := fun x => match x with
   | 3 => 3
   | 4 => 4
   | 22 => 41
   | x => x
 g := fun x => x
theorem insLays : Lays2.n21 Tryz.prog insRen where
 mixed := by kernel_rfl
 f21 := by kernel_rfl
 f27 := by kernel_rfl
 f28 := by kernel_rfl
 f35 := by kernel_rfl
 f39 := by kernel_rfl
 t0 := by kernel_rfl
 a0 := fun _ => by kernel_rfl
 z0 := fun _ => by kernel_rfl
 v0 := fun _ => by kernel_rfl
 t3 := by kernel_rfl
 a3 := fun _ => by kernel_rfl
 z3 := fun _ => by kernel_rfl
 v3 := fun _ => by kernel_rfl
 t4 := by kernel_rfl
 a4 := fun _ => by kernel_rfl
 z4 := fun _ => by kernel_rfl
 v4 := fun _ => by kernel_rfl
 t22 := by kernel_rfl
 a22 := fun _ => by kernel_rfl
 z22 := fun _ => by kernel_rfl
 v22 := fun _ => by kernel_rfl
 i3 := by kernel_rfl
end Go.Proofs.YtepplhbajmlbpaaGreat

namespace Go.Proofs.YtepplhbajmlbpaaGreat
open Go.RowKit Go.Shelf
theorem grown_set (w : World) (g i : Nat) (v : Value) : w.grownBy (w.setCell ⟨g, i, none⟩ v) (some g) :=
 ⟨rfl, rfl, rfl, by simp, fun k _ hne => Below.heap_setCell _ _ _ _ (fun e => hne (by rw [e]))⟩
theorem grown_drew (w : World) (row : Option Nat) : w.grownBy w.drew row := ⟨rfl, rfl, rfl, Nat.le_refl _, fun _ _ _ => rfl⟩
theorem grown_sets (g : Nat) : ∀ (vs : List Value) (o : Nat) (w : World), w.grownBy (w.setCells g o vs) (some g)
 | [], _, _ => World.grownBy.refl _ _
 | v :: r, o, w => grownBy_trans (grown_set w g o v) (grown_sets g r (o + 1) _)
theorem Box.sets {g : Nat} {t : TypeId} : ∀ (vs : List Value) (o : Nat) (w : World) (cur : Array Value), Box w g cur t → ∃ cur' : Array Value, cur'.size = cur.size ∧ Box (w.setCells g o vs) g cur' t
 | [], _, _, cur, h => ⟨cur, rfl, h⟩
 | v :: r, o, w, cur, h => by
   obtain ⟨c, hc, hb⟩ := Box.sets r (o + 1) (w.setCell ⟨g, o, none⟩ v) _ (h.set o v)
   exact ⟨c, by rw [hc]; simp, hb⟩
theorem Own.ofCells {w : World} {base g n cap : Nat} {cur : Array Value} {xs : List Int} (hb : Box w g cur 3) (hg : base ≤ g) (hn : n = xs.length) (hc : n ≤ cap) (hm : cap ≤ maxLen) (hs : cur.size = cap)
   (hx : ∀ j, j < n → w.cell? ⟨g, j, none⟩ = some (.int .i64 (xs.getD j 0))) : Own w base (.slice (some ⟨g, 0, none⟩) n cap) xs := by
 subst hn
 refine ⟨by simp, .inr ⟨g, cap, cur, rfl, hg, hb, hc, hm, by simp [hs], ?_⟩⟩
 apply List.ext_getElem?
 intro j
 rw [Nat.mul_one, List.getElem?_take]
 by_cases hj : j < xs.length
 ·have := hx j hj
  rw [hb.cell j] at this
  rw [if_pos hj, Array.getElem?_toList, this]
  simp [hj, List.getD]
 ·rw [if_neg hj, List.getElem?_eq_none (by simpa using hj)]
theorem getD_ins {xs : List Int} {i : Nat} {x : Int} (hi : i ≤ xs.length) (j : Nat) : (xs.take i ++ x :: xs.drop i).getD j 0 = if j < i then xs.getD j 0 else if j = i then x else xs.getD (j - 1) 0 := by
 have hl : (xs.take i).length = i := by rw [List.length_take]; omega
 simp only [List.getD]
 by_cases h1 : j < i
 ·rw [if_pos h1, List.getElem?_append_left (by omega), List.getElem?_take, if_pos h1]
 ·rw [if_neg h1, List.getElem?_append_right (by omega), hl]
  by_cases h2 : j = i
  ·rw [if_pos h2, h2]; simp
  ·rw [if_neg h2]
   obtain ⟨d, rfl⟩ : ∃ d, j = i + d + 1 := ⟨j - i - 1, by omega⟩
   rw [show i + d + 1 - i = d + 1 by omega, List.getElem?_cons_succ, List.getElem?_drop, show i + d + 1 - 1 = i + d by omega]
theorem map_at {xs : List Int} {j : Nat} {v : Value} (h : (xs.map (Value.int .i64))[j]? = some v) : j < xs.length ∧ v = .int .i64 (xs.getD j 0) := by
 rw [List.getElem?_map] at h
 have hlt : j < xs.length := by
   rcases Nat.lt_or_ge j xs.length with h' | h'
   ·exact h'
   ·rw [List.getElem?_eq_none h'] at h; cases h
 refine ⟨hlt, ?_⟩
 rw [List.getElem?_eq_getElem hlt] at h
 simp at h
 rw [← h]
 simp [List.getD, hlt]
theorem oneCell_ints (xs : List Int) : ∀ v ∈ xs.map (Value.int .i64), v.oneCell' = true := by
 intro v hv
 obtain ⟨x, _, rfl⟩ := List.mem_map.mp hv
 rfl
theorem slicesInsert (v : Value) (base : Nat) (xs : List Int) (i : Nat) (x : Int) (vb : Nat) (w : World) (hown : Own w base v xs) (hbase : base ≤ w.heap.size) (hi : i ≤ xs.length) (hl : xs.length ≤ 1000)
   (hv : Box w vb #[.int .i64 x] 3) (hvb : v.ownBlock ≠ some vb) :
   Calls Tryz.prog 161 #[v, .int .i64 i, .slice (some ⟨vb, 0, none⟩) 1 1] w fun e w' => ∃ v', e = .returned v' ∧ Own w' base v' (xs.take i ++ x :: xs.drop i) ∧ w.grownBy w' v.ownBlock := by
 have hvs : ∀ j u, [Value.int .i64 x][j]? = some u → w.cell? ⟨vb, 0 + j, none⟩ = some u := by
   intro j u hj
   rw [Nat.zero_add, hv.cell j]
   cases j with
   | zero => simpa using hj
   | succ j => simp at hj
 have h1v : ∀ u ∈ [Value.int .i64 x], u.oneCell' = true := by intro u hu; simp at hu; subst hu; rfl
 have hlen : (xs.take i ++ x :: xs.drop i).length = xs.length + 1 := by simp; omega
 have hmap : (xs.map (Value.int .i64)).length = xs.length := by simp
 have hcell := hown.has
 by_cases hend : i = xs.length
 ·subst hend
  have htd : xs.take xs.length ++ x :: xs.drop xs.length = xs ++ [x] := by simp
  by_cases hroom : ∃ g cap cur, v = .slice (some ⟨g, 0, none⟩) xs.length cap ∧ base ≤ g ∧ Box w g cur 3 ∧ xs.length + 1 ≤ cap ∧ cap ≤ maxLen ∧ cur.size = cap
  ·obtain ⟨g, cap, cur, rfl, hg, hb, hc, hm, hs⟩ := hroom
   have hm' : cap ≤ 9223372036854775807 := by unfold maxLen at hm; omega
   have hc0 : ∀ j, j < xs.length → w.cell? ⟨g, j, none⟩ = some (.int .i64 (xs.getD j 0)) := by
     intro j hj
     obtain ⟨a, c', hv', _, _, hx⟩ := hcell
     obtain ⟨b, off, ha, hx⟩ := hx (by omega)
     cases hv'
     cases ha
     simpa using hx j hj
   refine (Any2.slices_Insert_int_end_room insLays g 0 xs.length cap vb 0 1 1 [.int .i64 x] w (by omega) hc hm' rfl (fun j hj => ?_) (fun j _ => hb.frozen _) hvs h1v).mono ?_
   ·rw [hb.cell, Array.getElem?_eq_getElem (by omega)]; rfl
   rintro e w' ⟨rfl, rfl⟩
   obtain ⟨cur', hs', hb'⟩ := hb.sets [.int .i64 x] (0 + xs.length) w
   refine ⟨_, rfl, Own.ofCells hb' hg (by rw [hlen]) hc hm (by omega) (fun j hj => ?_), grown_sets g _ _ w⟩
   rw [getD_ins (Nat.le_refl _)]
   by_cases hj' : j < xs.length
   ·rw [if_pos hj', World.cell?_setCells_out _ _ _ _ _ (fun _ _ => by simp; omega)]
    exact hc0 j hj'
   ·obtain rfl : j = xs.length := by omega
    have := World.cell?_setCells_in g [.int .i64 x] (0 + xs.length) w (fun j hj => by simp at hj; subst hj; rw [hb.cell, Array.getElem?_eq_getElem (by omega)]; rfl) 0 (by simp)
    simpa using this
  ·-- no room
   have hsh : ∃ (a : Option Addr) (cap : Nat), v = .slice a xs.length cap ∧ xs.length ≤ cap ∧ cap < xs.length + 1 ∧ (a = none → xs.length = 0) := by
     rcases hown.2 with ⟨h2, h3⟩ | ⟨g, cap, cur, h2, hg, hb, hc, hm, hs, _⟩
     ·exact ⟨none, 0, by rw [h3]; exact h2, by omega, by omega, fun _ => h3⟩
     ·refine ⟨_, cap, h2, hc, ?_, fun h => by cases h⟩
      rcases Nat.lt_or_ge cap (xs.length + 1) with h | h
      ·exact h
      ·exact absurd ⟨g, cap, cur, h2, hg, hb, h, hm, by omega⟩ hroom
   obtain ⟨a, cap, rfl, hc, hc', hnil⟩ := hsh
   refine (Any2.slices_Insert_int_end_grow insLays a xs.length cap vb 0 1 1 (xs.map (Value.int .i64)) [.int .i64 x] w (by omega) hc hc' (by omega) hmap rfl hnil (fun ad ha j u hj => ?_) hvs h1v).mono ?_
   ·subst ha; exact hcell.cells j u hj
   rintro e w' ⟨rfl, rfl⟩
   have hG := grownCap_ge w (xs.length + 1) cap 3
   have hGm := grownCap_le_maxLen w (xs.length + 1) cap 3 (by unfold maxLen; omega)
   generalize hGG : grownCap w (xs.length + 1) cap (insRen.t 3) = G
   rw [show grownCap w (xs.length + 1) cap 3 = G from hGG] at hG hGm
   obtain ⟨ROW, hROW⟩ : ∃ ROW : Array Value, ROW = (xs.map (Value.int .i64) ++ [Value.int .i64 x]).toArray ++ Builtin.zeroCells (Value.int .i64 0).cells (G - (xs.length + 1)) := ⟨_, rfl⟩
   rw [← hROW]
   have hb0 : Box (w.drew.alloc (.cells ROW (insRen.t 3))) w.heap.size ROW 3 := Box.new w.drew ROW 3
   refine ⟨_, rfl, Own.ofCells hb0 hbase (by rw [hlen]) hG hGm ?_ (fun j hj => ?_), grownBy_trans (grown_drew w _) (World.grownBy_alloc _ _ _)⟩
   ·rw [hROW, Array.size_append, size_zeroCells]
    simp [Value.cells]
    omega
   ·rw [htd, hb0.cell j, hROW]
    rw [Array.getElem?_append_left (by simp; omega)]
    simp only [List.getElem?_toArray, List.getD]
    rw [show xs.map (Value.int .i64) ++ [Value.int .i64 x] = (xs ++ [x]).map (Value.int .i64) by simp, List.getElem?_map, List.getElem?_eq_getElem (by simp; omega)]
    rfl
 ·have hlt : i < xs.length := by omega
  obtain ⟨g, cap, cur, rfl, hg, hb, hc, hm, hs⟩ : ∃ g cap cur, v = .slice (some ⟨g, 0, none⟩) xs.length cap ∧ base ≤ g ∧ Box w g cur 3 ∧ xs.length ≤ cap ∧ cap ≤ maxLen ∧ cur.size = cap := by
    rcases hown.2 with ⟨h2, h3⟩ | ⟨g, cap, cur, h2, hg, hb, hc, hm, hs, _⟩
    ·omega
    ·exact ⟨g, cap, cur, h2, hg, hb, hc, hm, by omega⟩
  have hm' : cap ≤ 9223372036854775807 := by unfold maxLen at hm; omega
  have hc0 : ∀ j, j < xs.length → w.cell? ⟨g, j, none⟩ = some (.int .i64 (xs.getD j 0)) := by
    intro j hj
    obtain ⟨a, c', hv', _, _, hx⟩ := hcell
    obtain ⟨b, off, ha, hx⟩ := hx (by omega)
    cases hv'
    cases ha
    simpa using hx j hj
  have hcs : ∀ j u, (xs.map (Value.int .i64))[j]? = some u → w.cell? ⟨g, 0 + j, none⟩ = some u := by
    intro j u hj
    obtain ⟨h1, rfl⟩ := map_at hj
    rw [Nat.zero_add]
    exact hc0 j h1
  have hdl : ((xs.map (Value.int .i64)).drop i).length = xs.length - i := by simp
  have hdat : ∀ j (h : j < ((xs.map (Value.int .i64)).drop i).length), ((xs.map (Value.int .i64)).drop i)[j] = .int .i64 (xs.getD (i + j) 0) := by
    intro j h
    have hh : i + j < xs.length := by omega
    simp [List.getD, hh]
  by_cases hroom : xs.length + 1 ≤ cap
  ·refine (Any2.slices_Insert_int_shift insLays g 0 xs.length cap i vb 0 1 1 (xs.map (Value.int .i64)) [.int .i64 x] w hlt (by omega) hroom hm' (fun e => hvb (by rw [e]; rfl)) hmap rfl hcs (fun j hj => ?_) (fun j _ => hb.frozen _) hvs (oneCell_ints xs) h1v 3 3 1 cap ?_ ?_ (by omega) (hv.frozen _) (hv.frozen _)).mono ?_
   ·rw [hb.cell, Array.getElem?_eq_getElem (by omega)]; rfl
   ·unfold World.shape?; rw [show w.heap[vb]? = _ from hv]; rfl
   ·unfold World.shape?; rw [show w.heap[g]? = _ from hb]; simp [hs]
   rintro e w' ⟨rfl, rfl⟩
   have hbd : Box w.drew g cur 3 := hb
   obtain ⟨c1, hs1, hb1⟩ := hbd.sets ((xs.map (Value.int .i64)).drop i) (0 + (i + 1)) w.drew
   obtain ⟨c2, hs2, hb2⟩ := hb1.sets [.int .i64 x] (0 + i) _
   refine ⟨_, rfl, Own.ofCells hb2 hg (by rw [hlen]) hroom hm (by omega) (fun j hj => ?_), grownBy_trans (grownBy_trans (grown_drew w _) (grown_sets g _ _ _)) (grown_sets g _ _ _)⟩
   rw [getD_ins hi]
   by_cases h1 : j = i
   ·subst h1
    have := World.cell?_setCells_in g [.int .i64 x] (0 + j) (w.drew.setCells g (0 + (j + 1)) ((xs.map (Value.int .i64)).drop j)) (fun t ht => by simp at ht; subst ht; rw [hb1.cell, Array.getElem?_eq_getElem (by omega)]; rfl) 0 (by simp)
    simpa using this
   ·rw [World.cell?_setCells_out _ _ _ _ _ (fun _ _ => by simp; omega)]
    by_cases h2 : j < i
    ·rw [if_pos h2, World.cell?_setCells_out _ _ _ _ _ (fun _ _ => by left; show j < 0 + (i + 1); omega)]
     exact hc0 j (by omega)
    ·rw [if_neg h2, if_neg h1]
     obtain ⟨d, rfl⟩ : ∃ d, j = i + 1 + d := ⟨j - i - 1, by omega⟩
     have := World.cell?_setCells_in g ((xs.map (Value.int .i64)).drop i) (0 + (i + 1)) w.drew (fun t ht => by rw [hbd.cell, Array.getElem?_eq_getElem (by omega)]; rfl) d (by omega)
     rw [hdat d (by omega), Nat.zero_add] at this
     rw [Nat.zero_add, this, show i + 1 + d - 1 = i + d by omega]
  ·have hgw : g < w.heap.size := hb.lt
   refine (Any2.slices_Insert_int_grow insLays g 0 xs.length cap i vb 0 1 1 (xs.map (Value.int .i64)) [.int .i64 x] w hlt (by omega) hc (by omega) (by omega) hmap rfl hcs hvs (oneCell_ints xs) h1v).mono ?_
   rintro e w' ⟨rfl, rfl⟩
   have hG := grownCap_ge w (xs.length + 1) cap 3
   have hGm := grownCap_le_maxLen w (xs.length + 1) cap 3 (by unfold maxLen; omega)
   generalize hGG : grownCap w (xs.length + 1) cap (insRen.t 3) = G
   rw [show grownCap w (xs.length + 1) cap 3 = G from hGG] at hG hGm
   obtain ⟨ROW, hROW⟩ : ∃ ROW : Array Value, ROW = ((xs.map (Value.int .i64)).take i).toArray ++ Builtin.zeroCells (Value.int .i64 0).cells (xs.length + 1 - i) ++ Builtin.zeroCells (Value.int .i64 0).cells (G - (xs.length + 1)) := ⟨_, rfl⟩
   rw [← hROW]
   have hRs : ROW.size = G := by
     rw [hROW, Array.size_append, Array.size_append, size_zeroCells, size_zeroCells]
     simp [Value.cells]
     omega
   have hRat : ∀ j, j < i → ROW[j]? = some (.int .i64 (xs.getD j 0)) := by
     intro j hj
     rw [hROW, Array.getElem?_append_left (by simp; omega), Array.getElem?_append_left (by simp; omega)]
     simp only [List.getElem?_toArray]
     rw [List.getElem?_take, if_pos hj, List.getElem?_map, List.getElem?_eq_getElem (by omega)]
     simp [List.getD, show j < xs.length by omega]
   clear hROW
   have hb0 : Box (w.alloc (.cells ROW (insRen.t 3))).drew w.heap.size ROW 3 := Box.new w ROW 3
   obtain ⟨c1, hs1, hb1⟩ := hb0.sets [.int .i64 x] i _
   have hb1' : Box (((w.alloc (.cells ROW (insRen.t 3))).drew.setCells w.heap.size i [.int .i64 x]).drew) w.heap.size c1 3 := hb1
   obtain ⟨c2, hs2, hb2⟩ := hb1'.sets ((xs.map (Value.int .i64)).drop i) (i + 1) _
   refine ⟨_, rfl, Own.ofCells hb2 hbase (by rw [hlen]) hG hGm (by omega) (fun j hj => ?_), ?_⟩
   ·rw [getD_ins hi]
    by_cases h2 : j < i
    ·rw [if_pos h2, World.cell?_setCells_out _ _ _ _ _ (fun _ _ => by left; show j < i + 1; omega)]
     show ((w.alloc (.cells ROW (insRen.t 3))).drew.setCells w.heap.size i [.int .i64 x]).cell? ⟨w.heap.size, j, none⟩ = _
     rw [World.cell?_setCells_out _ _ _ _ _ (fun _ _ => by left; exact h2), hb0.cell j]
     exact hRat j h2
    ·rw [if_neg h2]
     by_cases h1 : j = i
     ·subst h1
      rw [if_pos rfl, World.cell?_setCells_out _ _ _ _ _ (fun _ _ => by left; show j < j + 1; omega)]
      have := World.cell?_setCells_in w.heap.size [.int .i64 x] j (w.alloc (.cells ROW (insRen.t 3))).drew (fun t ht => by simp at ht; subst ht; rw [hb0.cell, Array.getElem?_eq_getElem (by omega)]; rfl) 0 (by simp)
      simpa using this
     ·rw [if_neg h1]
      obtain ⟨d, rfl⟩ : ∃ d, j = i + 1 + d := ⟨j - i - 1, by omega⟩
      have := World.cell?_setCells_in w.heap.size ((xs.map (Value.int .i64)).drop i) (i + 1) (((w.alloc (.cells ROW (insRen.t 3))).drew.setCells w.heap.size i [.int .i64 x]).drew) (fun t ht => by rw [hb1'.cell, Array.getElem?_eq_getElem (by omega)]; rfl) d (by omega)
      rw [hdat d (by omega)] at this
      rw [this, show i + 1 + d - 1 = i + d by omega]
   ·have l1 : Le w (((((w.alloc (.cells ROW (insRen.t 3))).drew.setCells w.heap.size i [.int .i64 x]).drew).setCells w.heap.size (i + 1) ((xs.map (Value.int .i64)).drop i))) :=
      Below.grown (Below.grown ((Le.alloc w _).trans (Le.drew _)) (grownBy_trans (grown_sets w.heap.size [.int .i64 x] i _) (grown_drew _ _)) (by simp) (fun g e => by cases e; exact Nat.le_refl _)) (grown_sets w.heap.size _ _ _) (Nat.le_trans (show w.heap.size ≤ (w.alloc (.cells ROW (insRen.t 3))).drew.heap.size by simp) (grown_sets w.heap.size [.int .i64 x] i (w.alloc (.cells ROW (insRen.t 3))).drew).size) (fun g e => by cases e; exact Nat.le_refl _)
    exact ⟨l1.os, l1.tape, l1.output, l1.size, fun k hk _ => l1.block k hk⟩
end Go.Proofs.YtepplhbajmlbpaaGreat

namespace Go.Proofs.YtepplhbajmlbpaaGreat
open Go.RowKit
def riseFrom (l : Int) : List Int → Bool
 | [] => true
 | x :: r => decide (l < x) && decide (x < 4) && riseFrom x r
def rowMay2 (xs : List Int) : Bool := riseFrom (-1) xs
def rowsAbove : Nat → List (List Int)
 | 0 => [[]]
 | k + 1 => rowsAbove k ++ (rowsAbove k).map (List.cons (3 - (k : Int)))
theorem nil_above : ∀ k, ([] : List Int) ∈ rowsAbove k
 | 0 => by simp [rowsAbove]
 | k + 1 => by simp [rowsAbove, nil_above k]
theorem rise_above : ∀ (k : Nat) (l : Int) (xs : List Int), 3 - (k : Int) ≤ l → riseFrom l xs = true → xs ∈ rowsAbove k
 | 0, _, [], _, _ => by simp [rowsAbove]
 | 0, l, x :: r, hl, h => by simp [riseFrom] at h; omega
 | k + 1, _, [], _, _ => nil_above _
 | k + 1, l, x :: r, hl, h => by
   simp only [riseFrom, Bool.and_eq_true, decide_eq_true_eq] at h
   obtain ⟨⟨h1, h2⟩, h3⟩ := h
   rw [rowsAbove, List.mem_append]
   by_cases e : x = 3 - k
   ·right
    subst e
    exact List.mem_map.mpr ⟨r, rise_above k _ r (Int.le_refl _) h3, rfl⟩
   ·left
    refine rise_above k (3 - k) (x :: r) (Int.le_refl _) ?_
    simp only [riseFrom, Bool.and_eq_true, decide_eq_true_eq]
    exact ⟨⟨by omega, h2⟩, h3⟩
theorem rowMay2_mem {xs : List Int} (h : rowMay2 xs = true) : xs ∈ rowsAbove 4 := rise_above 4 (-1) xs (by omega) h
theorem rows_len : ∀ xs ∈ rowsAbove 4, xs.length ≤ 4 := by decide
theorem rowMay2_len {xs : List Int} (h : rowMay2 xs = true) : xs.length ≤ 4 := rows_len xs (rowMay2_mem h)
def freeFrom (i : Int) : List Int → Int
 | [] => i
 | x :: r => if x = i then freeFrom (i + 1) r else i
def freeS (xs : List Int) : Int := freeFrom 0 xs
def idxFrom (i : Int) (a : Int) : List Int → Int
 | [] => -1
 | x :: r => if a = x then i else idxFrom (i + 1) a r
def idxS (xs : List Int) (a : Int) : Int := idxFrom 0 a xs
theorem freeFrom_bounds : ∀ (i : Int) (xs : List Int), i ≤ freeFrom i xs ∧ freeFrom i xs ≤ i + xs.length
 | i, [] => by simp [freeFrom]
 | i, x :: r => by
   have := freeFrom_bounds (i + 1) r
   simp only [freeFrom, List.length_cons]
   split <;> omega
theorem idxFrom_bounds (a : Int) : ∀ (i : Int) (xs : List Int), idxFrom i a xs = -1 ∨ (i ≤ idxFrom i a xs ∧ idxFrom i a xs < i + xs.length)
 | i, [] => by simp [idxFrom]
 | i, x :: r => by
   have := idxFrom_bounds a (i + 1) r
   simp only [idxFrom, List.length_cons]
   split <;> omega
def putS (xs : List Int) : List Int × Int := if 4 ≤ freeS xs then (xs, -1) else (xs.take (freeS xs).toNat ++ freeS xs :: xs.drop (freeS xs).toNat, freeS xs)
def takeS (xs : List Int) (a : Int) : List Int × Int := if idxS xs a < 0 then (xs, 0) else (xs.take (idxS xs a).toNat ++ xs.drop ((idxS xs a).toNat + 1), 1)
set_option maxHeartbeats 400000 in
theorem fdsMayRow (v : Value) (xs : List Int) (w : World) (hx : Has w v xs) :
   Calls Tryz.prog 151 #[v] w fun e w' => e = .returned (.bool (rowMay2 xs)) ∧ w = w' := by
 obtain ⟨a, cap, rfl, hc, _, hx⟩ := hx
 obtain ⟨n, hn⟩ : ∃ n, n = xs.length := ⟨_, rfl⟩
 rw [← hn] at hc hx ⊢
 have HN : Hid (n = xs.length) := hn
 clear hn
 go_enter Tryz.func151, Tryz.ntmps151
 go_wp2
 go_loop [3, 8] (fun l i => ∃ (k : Nat) (y : Int), k ≤ n ∧ (k : Int) ≤ y + 1 ∧ y < 4 ∧ i = .int .i64 k ∧ l = .int .i64 y ∧ Hid (rowMay2 xs = riseFrom y (xs.drop k))) (fun _ i => n - (intOf i).toNat)
 case atStart => exact ⟨0, -1, by omega, by omega, by omega, rfl, rfl, hid (by simp [rowMay2])⟩
 case round =>
   obtain ⟨k, y, hk, hy1, hy2, rfl, rfl, HR⟩ := hrel
   by_cases hlt : k < n
   ·obtain ⟨b, off, rfl, hcell⟩ := hx (by omega)
    have c0 := hcell k hlt
    have hd := HR.out
    rw [drop_at (by have := HN.out; omega)] at hd
    obtain ⟨x, hxk⟩ : ∃ x, x = xs.getD k 0 := ⟨_, rfl⟩
    rw [← hxk] at c0 hd
    simp only [riseFrom] at hd
    have k0 : (0 : Int) ≤ (k : Int) := by omega
    have k1 : (k : Int) < (n : Int) := by omega
    by_cases h1 : y < x
    ·by_cases h2 : x < 4
     ·have HD : Hid (rowMay2 xs = riseFrom x (xs.drop (k + 1))) := hid (by rw [hd]; simp [h1, h2])
      clear hd hxk hcell hx HR
      go_wp2
      go_round
      case rel => exact ⟨k + 1, x, by omega, by omega, by omega, by go_num, rfl, HD⟩
      case measure => simp [intOf]; omega
     ·have HD : Hid (rowMay2 xs = false) := hid (by rw [hd]; simp [h2])
      clear hd hxk hcell hx HR
      go_wp2
      go_ret
      exact ⟨ret_bool HD.out.symm, rfl⟩
    ·have HD : Hid (rowMay2 xs = false) := hid (by rw [hd]; simp [h1])
     clear hd hxk hcell hx HR
     go_wp2
     go_ret
     exact ⟨ret_bool HD.out.symm, rfl⟩
   ·obtain rfl : k = n := by omega
    have HD : Hid (rowMay2 xs = true) := hid (by have := HR.out; rw [List.drop_eq_nil_of_le (by have := HN.out; omega)] at this; exact this)
    go_wp2
    go_ret
    exact ⟨ret_bool HD.out.symm, rfl⟩
set_option maxHeartbeats 400000 in
theorem fdsFree (v : Value) (xs : List Int) (w : World) (hx : Has w v xs) (hl : xs.length ≤ 1000) :
   Calls Tryz.prog 160 #[v] w fun e w' => e = .returned (.int .i64 (freeS xs)) ∧ w = w' := by
 obtain ⟨a, cap, rfl, hc, _, hx⟩ := hx
 obtain ⟨n, hn⟩ : ∃ n, n = xs.length := ⟨_, rfl⟩
 rw [← hn] at hc hx hl ⊢
 have HN : Hid (n = xs.length) := hn
 clear hn
 go_enter Tryz.func160, Tryz.ntmps160
 go_wp2
 go_loop [7] (fun i => ∃ k : Nat, k ≤ n ∧ i = .int .i64 k ∧ Hid (freeS xs = freeFrom k (xs.drop k))) (fun i => n - (intOf i).toNat)
 case atStart => exact ⟨0, by omega, rfl, hid (by simp [freeS])⟩
 case round =>
   obtain ⟨k, hk, rfl, HR⟩ := hrel
   by_cases hlt : k < n
   ·obtain ⟨b, off, rfl, hcell⟩ := hx (by omega)
    have c0 := hcell k hlt
    have hd := HR.out
    rw [drop_at (by have := HN.out; omega)] at hd
    obtain ⟨x, hxk⟩ : ∃ x, x = xs.getD k 0 := ⟨_, rfl⟩
    rw [← hxk] at c0 hd
    simp only [freeFrom] at hd
    have k0 : (0 : Int) ≤ (k : Int) := by omega
    have k1 : (k : Int) < (n : Int) := by omega
    by_cases h1 : x = k
    ·have HD : Hid (freeS xs = freeFrom ((k + 1 : Nat) : Int) (xs.drop (k + 1))) := hid (by rw [hd]; simp [h1])
     clear hd hxk hcell hx HR
     go_wp2
     go_round
     case rel => exact ⟨k + 1, by omega, by go_num, HD⟩
     case measure => simp [intOf]; omega
    ·have HD : Hid (freeS xs = k) := hid (by rw [hd]; simp [h1])
     clear hd hxk hcell hx HR
     go_wp2
     go_ret
     exact ⟨by rw [HD.out]; rfl, rfl⟩
   ·obtain rfl : k = n := by omega
    have HD : Hid (freeS xs = k) := hid (by have := HR.out; rw [List.drop_eq_nil_of_le (by have := HN.out; omega)] at this; exact this)
    go_wp2
    go_ret
    exact ⟨by rw [HD.out]; rfl, rfl⟩
set_option maxHeartbeats 400000 in
theorem slicesIndex (v : Value) (xs : List Int) (x0 : Int) (w : World) (hx : Has w v xs) (hl : xs.length ≤ 1000) :
   Calls Tryz.prog 162 #[v, .int .i64 x0] w fun e w' => e = .returned (.int .i64 (idxS xs x0)) ∧ w = w' := by
 obtain ⟨a, cap, rfl, hc, _, hx⟩ := hx
 obtain ⟨n, hn⟩ : ∃ n, n = xs.length := ⟨_, rfl⟩
 rw [← hn] at hc hx hl ⊢
 have HN : Hid (n = xs.length) := hn
 clear hn
 go_enter Tryz.func162, Tryz.ntmps162
 go_wp2
 go_loop [8] (fun i => ∃ k : Nat, k ≤ n ∧ i = .int .i64 k ∧ Hid (idxS xs x0 = idxFrom k x0 (xs.drop k))) (fun i => n - (intOf i).toNat)
 case atStart => exact ⟨0, by omega, rfl, hid (by simp [idxS])⟩
 case round =>
   obtain ⟨k, hk, rfl, HR⟩ := hrel
   by_cases hlt : k < n
   ·obtain ⟨b, off, rfl, hcell⟩ := hx (by omega)
    have c0 := hcell k hlt
    have hd := HR.out
    rw [drop_at (by have := HN.out; omega)] at hd
    obtain ⟨x, hxk⟩ : ∃ x, x = xs.getD k 0 := ⟨_, rfl⟩
    rw [← hxk] at c0 hd
    simp only [idxFrom] at hd
    have k0 : (0 : Int) ≤ (k : Int) := by omega
    have k1 : (k : Int) < (n : Int) := by omega
    by_cases h1 : x0 = x
    ·subst h1
     have HD : Hid (idxS xs x0 = k) := hid (by rw [hd]; simp)
     clear hd hxk hcell hx HR
     go_wp2
     go_ret
     exact ⟨by rw [HD.out]; rfl, rfl⟩
    ·have HD : Hid (idxS xs x0 = idxFrom ((k + 1 : Nat) : Int) x0 (xs.drop (k + 1))) := hid (by rw [hd]; simp [h1])
     clear hd hxk hcell hx HR
     go_wp2
     go_round
     case rel => exact ⟨k + 1, by omega, by go_num, HD⟩
     case measure => simp [intOf]; omega
   ·obtain rfl : k = n := by omega
    have HD : Hid (idxS xs x0 = -1) := hid (by have := HR.out; rw [List.drop_eq_nil_of_le (by have := HN.out; omega)] at this; exact this)
    go_wp2
    go_ret
    exact ⟨by rw [HD.out]; rfl, rfl⟩
set_option maxHeartbeats 400000 in
theorem fdsPut (v : Value) (base : Nat) (xs : List Int) (a : Int) (w : World) (hown : Own w base v xs) (hbase : base ≤ w.heap.size) (hl : xs.length ≤ 1000) :
   Calls Tryz.prog 153 #[v, .int .i64 a] w fun e w' => ∃ v', e = .returned (.tuple #[v', .int .i64 (putS xs).2]) ∧ Own w' base v' (putS xs).1 ∧ w.grownBy w' v.ownBlock := by
 have hfree := fdsFree v xs w hown.has hl
 obtain ⟨b0, b1⟩ := freeFrom_bounds 0 xs
 rw [show freeFrom 0 xs = freeS xs from rfl] at b0 b1
 by_cases h4 : 4 ≤ freeS xs
 ·have HP : Hid (putS xs = (xs, -1)) := hid (by simp [putS, h4])
  go_enter Tryz.func153, Tryz.ntmps153
  go_wp2_with fail
  refine hfree.mono ?_
  rintro e w1 ⟨rfl, rfl⟩
  go_wp2
  go_ret2
  rw [HP.out]
  exact ⟨_, rfl, hown, World.grownBy.refl _ _⟩
 ·have HP : Hid (putS xs = (xs.take (freeS xs).toNat ++ freeS xs :: xs.drop (freeS xs).toNat, freeS xs)) := hid (by simp [putS, h4])
  obtain ⟨i, hi⟩ : ∃ i : Nat, freeS xs = i := ⟨(freeS xs).toNat, by omega⟩
  rw [hi] at h4 hfree b0 b1
  have hnb : v.ownBlock ≠ some w.heap.size := fun e => by have := (hown.block e).2; omega
  have hins := slicesInsert v base xs i i w.heap.size (w.alloc (.cells #[.int .i64 i] 3)) (hown.le (Le.alloc _ _)) (by simp; omega) (by omega) hl (Box.new w _ _) hnb
  go_enter Tryz.func153, Tryz.ntmps153
  go_wp2_with fail
  refine hfree.mono ?_
  rintro e w1 ⟨rfl, rfl⟩
  go_wp2_with fail
  refine hins.mono ?_
  rintro e w2 ⟨v', rfl, ho, hg⟩
  go_wp2
  go_ret2
  rw [HP.out, hi]
  exact ⟨_, rfl, ho, grownBy_trans (World.grownBy_alloc _ _ _) hg⟩
theorem step_append_ints {ops : Array Oper} {o : Oper} {a : Act} {K : Act → World → Prop} {Q : Exit → Act → World → Prop} {E : Prop} {w : World} (hgd : o.guard = none) (s x : Operand)
   (ho : o.op = .call { callee := .builtin .append, args := #[s, x], argTypes := #[41, 41] }) (base : Nat) (v u : Value) (xs ys : List Int)
   (hs : a.eval s = v) (hx : a.eval x = u) (hown : Own w base v xs) (hu : Has w u ys) (hr : (xs.length + ys.length) * 8 ≤ 140737488355328) (hbase : base ≤ w.heap.size)
   (h : ∀ v' w', Own w' base v' (xs ++ ys) → w.grownBy w' v.ownBlock → K (a.put o.dst v') w') :
   if Region.wanted o (yielded ops a.tmps) = true then Oper.wp Tryz.prog o a w K Q else E := by
 have hw : Region.wanted o (yielded ops a.tmps) = true := by simp [Region.wanted, hgd]
 rw [if_pos hw]
 obtain ⟨i0, hi, hz0, hz1, hz2⟩ := info_parts info3
 have hu0 := hu
 obtain ⟨ad, cap, rfl, hc, hn, _⟩ := hu
 cases ad with
 | none =>
   have h0 := hn rfl
   have hnil : ys = [] := by cases ys with | nil => rfl | cons _ _ => simp at hc; omega
   subst hnil h0
   have hrun := run_append_owned_none (P := Tryz.prog) (w := w) base 41 o.type 3 i0 1 Tryz.underlying41 hi v _ _ hown
   unfold Oper.wp
   simp only [List.length_nil] at hx
   simp [execOp, ho, resolve, invoke, builtin, hs, hx, hrun, Result.andThen]
   exact h _ _ (by simpa using hown) (World.grownBy.refl _ _)
 | some ad =>
   refine wp_append_own w s x 41 ho base 3 i0 (.int .i64 0) 1 8 Tryz.underlying41 hi hz0 hz1 hz2 rfl (by decide) v _ _ hs hown ad ys.length cap (ys.map (Value.int .i64)) hx (by simp) hu0.cells (ints_oneCell _ _) (by unfold maxLen; omega) hr hbase ?_
   intro v' w' h1 h2 _
   exact h _ _ (Own.of h1 (by simp) (by simp)) h2
end Go.Proofs.YtepplhbajmlbpaaGreat

namespace Go.Proofs.YtepplhbajmlbpaaGreat
theorem St.put_same {s : St} {k : Nat} (hk : k < 4) : s.put k (s.at k) = s :=
 St.ext_at fun i hi => by rw [St.at_put hk hi]; split <;> simp_all
end Go.Proofs.YtepplhbajmlbpaaGreat

namespace Go.Proofs.YtepplhbajmlbpaaGreat
open Go.RowKit
structure TurnsRow (f : Nat) (F : List Int → Int → List Int × Int) : Prop where
 enter : ∀ (u x : Value) (w : World), (callFunc f #[u, x]).run Tryz.prog w = .ok (.enter f #[u, x]) w
 calls : ∀ (v : Value) (base : Nat) (xs : List Int) (a : Int) (w : World), Own w base v xs → base ≤ w.heap.size → xs.length ≤ 4 → 0 ≤ a ∧ a ≤ 255 →
   Calls Tryz.prog f #[v, .int .i64 a] w fun e w' => ∃ v', e = .returned (.tuple #[v', .int .i64 (F xs a).2]) ∧ Own w' base v' (F xs a).1 ∧ w.grownBy w' v.ownBlock
theorem Le.grownBy {w w' : World} (h : Le w w') (row : Option Nat) : w.grownBy w' row := ⟨h.os, h.tape, h.output, h.size, fun k hk _ => h.block k hk⟩
set_option maxHeartbeats 2000000 in
theorem countedFirst (f g : Nat) (F : List Int → Int → List Int × Int) (hF : TurnsRow f F) (v : Value) (s : St) (k : Nat) (a : Int) (w : World) (hx : HasS w v s) (hf : Fit s) (hlen : ∀ j, j < 4 → (s.at j).length ≤ 4) (hk : k < 4) (ha : 0 ≤ a ∧ a ≤ 255) :
   Calls Tryz.prog 152 #[v, opV 0 k a, .func (.func f) #[] #[], .func (.func g) #[] #[]] w fun e w' => ∃ v', e = .returned (.tuple #[v', .int .i64 (F (s.at k) a).2]) ∧ OwnS w' w.heap.size v' (s.put k (F (s.at k) a).1) ∧ Le w w' := by
 have hx0 := hx
 obtain ⟨vs, rfl, hr⟩ := hx
 have hl := ((Le.alloc w (.cells (cells4 vs) 44)).trans (Le.alloc _ (.cells #[.int .i64 0, .int .i64 k, .int .i64 a] 48))).trans (Le.alloc _ (.cells (cells4 fun _ => slZ) 44))
 have hb2 := (Box.new (w.alloc (.cells (cells4 vs) 44)) #[.int .i64 0, .int .i64 k, .int .i64 a] 48).le (Le.alloc _ (.cells (cells4 fun _ => slZ) 44))
 have hb3 := Box.new ((w.alloc (.cells (cells4 vs) 44)).alloc (.cells #[.int .i64 0, .int .i64 k, .int .i64 a] 48)) (cells4 fun _ => slZ) 44
 simp only [World.size_alloc] at hb2 hb3
 go_enter Tryz.func152, Tryz.ntmps152
 go_wp2_with fail
 refine (statesCopy (stV vs) s _ (hx0.le hl) hf).mono ?_
 rintro e w3 ⟨us, rfl, hown, hap, l1⟩
 replace hown := fun i hi => (hown i hi).base (base' := w.heap.size + 1 + 1 + 1) (by simp)
 have n0 : w.heap.size + 1 + 1 < w3.heap.size := (hb3.le l1).lt
 have n1 : ¬ w.heap.size + 1 + 1 = w3.heap.size := by omega
 have n2 : ¬ w.heap.size + 1 + 1 = w.heap.size := by omega
 have n3 : ¬ w.heap.size + 1 + 1 = w.heap.size + 1 := by omega
 have n4 : ¬ w.heap.size + 1 = w3.heap.size := by omega
 have n5 : ¬ w3.heap.size = w.heap.size + 1 := by omega
 have hb4 := Box.new w3 (cells4 us) 44
 replace l1 := l1.trans (Le.alloc w3 (.cells (cells4 us) 44))
 replace hown := fun i hi => (hown i hi).le (Le.alloc w3 (.cells (cells4 us) 44))
 go_upto_region 2 with fail
 generalize hW : w3.alloc (.cells (cells4 us) 44) = W at hb4 l1 hown ⊢
 clear hW
 have o0 := (hb2.le l1).op.1
 have o1 := (hb2.le l1).op.2.1
 have o2 := (hb2.le l1).op.2.2.1
 have t1 : W.cell? ⟨w3.heap.size, k, none⟩ = some (slV (us k)) := (hb4.cell k).trans (cells4_at us hk)
 have k0 : (0 : Int) ≤ ((k : Nat) : Int) := by omega
 have k1 : ((k : Nat) : Int) < 4 := by omega
 have hcall := hF.calls (slV (us k)) (w.heap.size + 1 + 1 + 1) (s.at k) a W (hown k hk) (by have := l1.size; simpa using this) (hlen k hk) ha
 have hin := hF.enter
 go_wp2_with fail
 refine hcall.mono ?_
 rintro e w4 ⟨v', rfl, ho, hg⟩
 obtain ⟨q, rfl⟩ := ho.has.sl
 have hb5 : Box w4 w3.heap.size (cells4 us) 44 := Box.grown hb4 hg (fun e => (hown k hk).apart hb4 (by decide) e)
 have l5 : Le _ w4 := Below.grown l1 hg l1.size (fun g e => by have := ((hown k hk).block e).1; simpa using this)
 clear o0 o1 o2 t1 hcall hin
 have p1 := (hb2.le l5).op.2.1
 have c5 : w4.cell? ⟨w3.heap.size, k, none⟩ = some (slV (us k)) := (hb5.cell k).trans (cells4_at us hk)
 have f5 := hb5.frozen k
 have hown5 : ∀ i, i < 4 → Own (w4.setCell ⟨w3.heap.size, k, none⟩ (slV q)) (w.heap.size + 1 + 1 + 1) (slV (upd us k q i)) ((s.put k (F (s.at k) a).1).at i) := by
   intro i hi
   rw [St.at_put hk hi]
   by_cases e : i = k
   ·rw [if_pos e, show upd us k q i = q by simp [upd, e]]; exact ho.setBox hb5 (by decide)
   ·rw [if_neg e, show upd us k q i = us i by simp [upd, e]]; exact ((hown i hi).grown hg (fun g e1 e2 => hap i k hi hk e g e1 e2)).setBox hb5 (by decide)
 have hb6 := hb5.set k (slV q)
 rw [cells4_upd us hk] at hb6
 have l6 : Le _ (w4.setCell ⟨w3.heap.size, k, none⟩ (slV q)) := Below.setCell l5 (by simp only [World.size_alloc]; show w.heap.size + 1 + 1 + 1 ≤ w3.heap.size; omega) _
 go_upto_region 13 with fail
 generalize hW2 : w4.setCell ⟨w3.heap.size, k, none⟩ (slV q) = W2 at hb6 l6 hown5 ⊢
 generalize upd us k q = us' at hb6 hown5
 clear hW2 p1 c5 f5
 obtain ⟨y0, y1, y2, y3, _, _, _, _⟩ := hb6.st
 obtain ⟨z0, z1, z2, z3, f0, f1, f2, f3⟩ := (hb3.le l6).st
 go_wp2_with fail
 refine bodyPost_ret (v := .tuple #[stV us', .int .i64 (F (s.at k) a).2]) (by simp [results, Tryz.results152, go_sem, z0, z1, z2, z3]) rfl ⟨_, rfl, ⟨us', rfl, fun i hi => ?_⟩, ?_⟩
 ·exact ((hown5 i hi).base (by omega)).set4 (hb3.le l6) (by decide) _ _ _ _
 ·exact (hl.trans l6).set4 (by omega) _ _ _ _
set_option maxHeartbeats 2000000 in
theorem countedSecond (f g : Nat) (G : List Int → Int → List Int × Int) (hG : TurnsRow g G) (v : Value) (s : St) (k : Nat) (a : Int) (w : World) (hx : HasS w v s) (hf : Fit s) (hlen : ∀ j, j < 4 → (s.at j).length ≤ 4) (hk : k < 4) (ha : 0 ≤ a ∧ a ≤ 255) :
   Calls Tryz.prog 152 #[v, opV 1 k a, .func (.func f) #[] #[], .func (.func g) #[] #[]] w fun e w' => ∃ v', e = .returned (.tuple #[v', .int .i64 (G (s.at k) a).2]) ∧ OwnS w' w.heap.size v' (s.put k (G (s.at k) a).1) ∧ Le w w' := by
 have hx0 := hx
 obtain ⟨vs, rfl, hr⟩ := hx
 have hl := ((Le.alloc w (.cells (cells4 vs) 44)).trans (Le.alloc _ (.cells #[.int .i64 1, .int .i64 k, .int .i64 a] 48))).trans (Le.alloc _ (.cells (cells4 fun _ => slZ) 44))
 have hb2 := (Box.new (w.alloc (.cells (cells4 vs) 44)) #[.int .i64 1, .int .i64 k, .int .i64 a] 48).le (Le.alloc _ (.cells (cells4 fun _ => slZ) 44))
 have hb3 := Box.new ((w.alloc (.cells (cells4 vs) 44)).alloc (.cells #[.int .i64 1, .int .i64 k, .int .i64 a] 48)) (cells4 fun _ => slZ) 44
 simp only [World.size_alloc] at hb2 hb3
 go_enter Tryz.func152, Tryz.ntmps152
 go_wp2_with fail
 refine (statesCopy (stV vs) s _ (hx0.le hl) hf).mono ?_
 rintro e w3 ⟨us, rfl, hown, hap, l1⟩
 replace hown := fun i hi => (hown i hi).base (base' := w.heap.size + 1 + 1 + 1) (by simp)
 have n0 : w.heap.size + 1 + 1 < w3.heap.size := (hb3.le l1).lt
 have n1 : ¬ w.heap.size + 1 + 1 = w3.heap.size := by omega
 have n2 : ¬ w.heap.size + 1 + 1 = w.heap.size := by omega
 have n3 : ¬ w.heap.size + 1 + 1 = w.heap.size + 1 := by omega
 have n4 : ¬ w.heap.size + 1 = w3.heap.size := by omega
 have n5 : ¬ w3.heap.size = w.heap.size + 1 := by omega
 have hb4 := Box.new w3 (cells4 us) 44
 replace l1 := l1.trans (Le.alloc w3 (.cells (cells4 us) 44))
 replace hown := fun i hi => (hown i hi).le (Le.alloc w3 (.cells (cells4 us) 44))
 go_upto_region 2 with fail
 generalize hW : w3.alloc (.cells (cells4 us) 44) = W at hb4 l1 hown ⊢
 clear hW
 have o0 := (hb2.le l1).op.1
 have o1 := (hb2.le l1).op.2.1
 have o2 := (hb2.le l1).op.2.2.1
 have t1 : W.cell? ⟨w3.heap.size, k, none⟩ = some (slV (us k)) := (hb4.cell k).trans (cells4_at us hk)
 have k0 : (0 : Int) ≤ ((k : Nat) : Int) := by omega
 have k1 : ((k : Nat) : Int) < 4 := by omega
 have hcall := hG.calls (slV (us k)) (w.heap.size + 1 + 1 + 1) (s.at k) a W (hown k hk) (by have := l1.size; simpa using this) (hlen k hk) ha
 have hin := hG.enter
 go_wp2_with fail
 refine hcall.mono ?_
 rintro e w4 ⟨v', rfl, ho, hg⟩
 obtain ⟨q, rfl⟩ := ho.has.sl
 have hb5 : Box w4 w3.heap.size (cells4 us) 44 := Box.grown hb4 hg (fun e => (hown k hk).apart hb4 (by decide) e)
 have l5 : Le _ w4 := Below.grown l1 hg l1.size (fun g e => by have := ((hown k hk).block e).1; simpa using this)
 clear o0 o1 o2 t1 hcall hin
 have p1 := (hb2.le l5).op.2.1
 have c5 : w4.cell? ⟨w3.heap.size, k, none⟩ = some (slV (us k)) := (hb5.cell k).trans (cells4_at us hk)
 have f5 := hb5.frozen k
 have hown5 : ∀ i, i < 4 → Own (w4.setCell ⟨w3.heap.size, k, none⟩ (slV q)) (w.heap.size + 1 + 1 + 1) (slV (upd us k q i)) ((s.put k (G (s.at k) a).1).at i) := by
   intro i hi
   rw [St.at_put hk hi]
   by_cases e : i = k
   ·rw [if_pos e, show upd us k q i = q by simp [upd, e]]; exact ho.setBox hb5 (by decide)
   ·rw [if_neg e, show upd us k q i = us i by simp [upd, e]]; exact ((hown i hi).grown hg (fun g e1 e2 => hap i k hi hk e g e1 e2)).setBox hb5 (by decide)
 have hb6 := hb5.set k (slV q)
 rw [cells4_upd us hk] at hb6
 have l6 : Le _ (w4.setCell ⟨w3.heap.size, k, none⟩ (slV q)) := Below.setCell l5 (by simp only [World.size_alloc]; show w.heap.size + 1 + 1 + 1 ≤ w3.heap.size; omega) _
 go_upto_region 13 with fail
 generalize hW2 : w4.setCell ⟨w3.heap.size, k, none⟩ (slV q) = W2 at hb6 l6 hown5 ⊢
 generalize upd us k q = us' at hb6 hown5
 clear hW2 p1 c5 f5
 obtain ⟨y0, y1, y2, y3, _, _, _, _⟩ := hb6.st
 obtain ⟨z0, z1, z2, z3, f0, f1, f2, f3⟩ := (hb3.le l6).st
 go_wp2_with fail
 refine bodyPost_ret (v := .tuple #[stV us', .int .i64 (G (s.at k) a).2]) (by simp [results, Tryz.results152, go_sem, z0, z1, z2, z3]) rfl ⟨_, rfl, ⟨us', rfl, fun i hi => ?_⟩, ?_⟩
 ·exact ((hown5 i hi).base (by omega)).set4 (hb3.le l6) (by decide) _ _ _ _
 ·exact (hl.trans l6).set4 (by omega) _ _ _ _
set_option maxHeartbeats 2000000 in
theorem countedLook (f g : Nat) (v : Value) (s : St) (k : Nat) (w : World) (hx : HasS w v s) (hf : Fit s) (_hlen : ∀ j, j < 4 → (s.at j).length ≤ 4) (hk : k < 4) :
   Calls Tryz.prog 152 #[v, opV 2 k 0, .func (.func f) #[] #[], .func (.func g) #[] #[]] w fun e w' => ∃ v', e = .returned (.tuple #[v', .int .i64 ((s.at k).length : Int)]) ∧ OwnS w' w.heap.size v' (s) ∧ Le w w' := by
 have hx0 := hx
 obtain ⟨vs, rfl, hr⟩ := hx
 have hl := ((Le.alloc w (.cells (cells4 vs) 44)).trans (Le.alloc _ (.cells #[.int .i64 2, .int .i64 k, .int .i64 0] 48))).trans (Le.alloc _ (.cells (cells4 fun _ => slZ) 44))
 have hb2 := (Box.new (w.alloc (.cells (cells4 vs) 44)) #[.int .i64 2, .int .i64 k, .int .i64 0] 48).le (Le.alloc _ (.cells (cells4 fun _ => slZ) 44))
 have hb3 := Box.new ((w.alloc (.cells (cells4 vs) 44)).alloc (.cells #[.int .i64 2, .int .i64 k, .int .i64 0] 48)) (cells4 fun _ => slZ) 44
 simp only [World.size_alloc] at hb2 hb3
 go_enter Tryz.func152, Tryz.ntmps152
 go_wp2_with fail
 refine (statesCopy (stV vs) s _ (hx0.le hl) hf).mono ?_
 rintro e w3 ⟨us, rfl, hown, hap, l1⟩
 replace hown := fun i hi => (hown i hi).base (base' := w.heap.size + 1 + 1 + 1) (by simp)
 have n0 : w.heap.size + 1 + 1 < w3.heap.size := (hb3.le l1).lt
 have n1 : ¬ w.heap.size + 1 + 1 = w3.heap.size := by omega
 have n2 : ¬ w.heap.size + 1 + 1 = w.heap.size := by omega
 have n3 : ¬ w.heap.size + 1 + 1 = w.heap.size + 1 := by omega
 have n4 : ¬ w.heap.size + 1 = w3.heap.size := by omega
 have n5 : ¬ w3.heap.size = w.heap.size + 1 := by omega
 have hb4 := Box.new w3 (cells4 us) 44
 replace l1 := l1.trans (Le.alloc w3 (.cells (cells4 us) 44))
 replace hown := fun i hi => (hown i hi).le (Le.alloc w3 (.cells (cells4 us) 44))
 go_upto_region 2 with fail
 generalize hW : w3.alloc (.cells (cells4 us) 44) = W at hb4 l1 hown ⊢
 clear hW
 have o0 := (hb2.le l1).op.1
 have o1 := (hb2.le l1).op.2.1
 have o2 := (hb2.le l1).op.2.2.1
 have t1 : W.cell? ⟨w3.heap.size, k, none⟩ = some (slV (us k)) := (hb4.cell k).trans (cells4_at us hk)
 have k0 : (0 : Int) ≤ ((k : Nat) : Int) := by omega
 have k1 : ((k : Nat) : Int) < 4 := by omega
 have hle : (us k).2.1 = (s.at k).length := by
   obtain ⟨ad, cap, e, _⟩ := (hown k hk).has
   simp only [Value.slice.injEq] at e
   exact e.2.1
 have p1 := o1
 have c5 := t1
 have f5 := hb4.frozen k
 have hb5 := hb4
 have l5 := l1
 have ho := hown k hk
 have hg : W.grownBy W none := World.grownBy.refl _ _
 have hap : ∀ i j : Nat, i < 4 → j < 4 → i ≠ j → ∀ g : Nat, (slV (us i)).ownBlock = some g → (none : Option Nat) ≠ some g := fun _ _ _ _ _ _ _ h => by cases h
 have HLE : Hid ((us k).2.1 = (s.at k).length) := hle
 clear hle
 generalize hq : us k = q at ho t1 c5 HLE ⊢
 obtain ⟨w4, hw4⟩ : ∃ w4, w4 = W := ⟨_, rfl⟩
 subst hw4
 have hown5 : ∀ i, i < 4 → Own (w4.setCell ⟨w3.heap.size, k, none⟩ (slV q)) (w.heap.size + 1 + 1 + 1) (slV (upd us k q i)) ((s.put k (s.at k)).at i) := by
   intro i hi
   rw [St.at_put hk hi]
   by_cases e : i = k
   ·rw [if_pos e, show upd us k q i = q by simp [upd, e]]; exact ho.setBox hb5 (by decide)
   ·rw [if_neg e, show upd us k q i = us i by simp [upd, e]]; exact ((hown i hi).grown hg (fun g e1 e2 => hap i k hi hk e g e1 e2)).setBox hb5 (by decide)
 have hb6 := hb5.set k (slV q)
 rw [cells4_upd us hk] at hb6
 have l6 : Le _ (w4.setCell ⟨w3.heap.size, k, none⟩ (slV q)) := Below.setCell l5 (by simp only [World.size_alloc]; show w.heap.size + 1 + 1 + 1 ≤ w3.heap.size; omega) _
 go_upto_region 13 with fail
 generalize hW2 : w4.setCell ⟨w3.heap.size, k, none⟩ (slV q) = W2 at hb6 l6 hown5 ⊢
 generalize upd us k q = us' at hb6 hown5
 clear hW2 p1 c5 f5
 obtain ⟨y0, y1, y2, y3, _, _, _, _⟩ := hb6.st
 obtain ⟨z0, z1, z2, z3, f0, f1, f2, f3⟩ := (hb3.le l6).st
 go_wp2_with fail
 refine bodyPost_ret (v := .tuple #[stV us', .int .i64 (q.2.1 : Int)]) (by simp [results, Tryz.results152, go_sem, z0, z1, z2, z3]) rfl ⟨stV us', by rw [HLE.out], ⟨us', rfl, fun i hi => ?_⟩, ?_⟩
 ·rw [← St.put_same (s := s) hk]; exact ((hown5 i hi).base (by omega)).set4 (hb3.le l6) (by decide) _ _ _ _
 ·exact (hl.trans l6).set4 (by omega) _ _ _ _
set_option maxHeartbeats 2000000 in
theorem countedScan (f g : Nat) (v : Value) (s : St) (w : World) (hx : HasS w v s) (hf : Fit s) (hlen : ∀ j, j < 4 → (s.at j).length ≤ 4) :
   Calls Tryz.prog 152 #[v, opV 3 0 0, .func (.func f) #[] #[], .func (.func g) #[] #[]] w fun e w' => ∃ v', e = .returned (.tuple #[v', .int .i64 (manyTo s 4)]) ∧ OwnS w' w.heap.size v' (s) ∧ Le w w' := by
 have hk : (0 : Nat) < 4 := by omega
 have hx0 := hx
 obtain ⟨vs, rfl, hr⟩ := hx
 have hl := ((Le.alloc w (.cells (cells4 vs) 44)).trans (Le.alloc _ (.cells #[.int .i64 3, .int .i64 0, .int .i64 0] 48))).trans (Le.alloc _ (.cells (cells4 fun _ => slZ) 44))
 have hb2 := (Box.new (w.alloc (.cells (cells4 vs) 44)) #[.int .i64 3, .int .i64 0, .int .i64 0] 48).le (Le.alloc _ (.cells (cells4 fun _ => slZ) 44))
 have hb3 := Box.new ((w.alloc (.cells (cells4 vs) 44)).alloc (.cells #[.int .i64 3, .int .i64 0, .int .i64 0] 48)) (cells4 fun _ => slZ) 44
 simp only [World.size_alloc] at hb2 hb3
 go_enter Tryz.func152, Tryz.ntmps152
 go_wp2_with fail
 refine (statesCopy (stV vs) s _ (hx0.le hl) hf).mono ?_
 rintro e w3 ⟨us, rfl, hown, hap, l1⟩
 replace hown := fun i hi => (hown i hi).base (base' := w.heap.size + 1 + 1 + 1) (by simp)
 have n0 : w.heap.size + 1 + 1 < w3.heap.size := (hb3.le l1).lt
 have n1 : ¬ w.heap.size + 1 + 1 = w3.heap.size := by omega
 have n2 : ¬ w.heap.size + 1 + 1 = w.heap.size := by omega
 have n3 : ¬ w.heap.size + 1 + 1 = w.heap.size + 1 := by omega
 have n4 : ¬ w.heap.size + 1 = w3.heap.size := by omega
 have n5 : ¬ w3.heap.size = w.heap.size + 1 := by omega
 have hb4 := Box.new w3 (cells4 us) 44
 replace l1 := l1.trans (Le.alloc w3 (.cells (cells4 us) 44))
 replace hown := fun i hi => (hown i hi).le (Le.alloc w3 (.cells (cells4 us) 44))
 go_upto_region 2 with fail
 generalize hW : w3.alloc (.cells (cells4 us) 44) = W at hb4 l1 hown ⊢
 clear hW
 have o0 := (hb2.le l1).op.1
 have o1 := (hb2.le l1).op.2.1
 have o2 := (hb2.le l1).op.2.2.1
 have t1 : W.cell? ⟨w3.heap.size, 0, none⟩ = some (slV (us 0)) := (hb4.cell 0).trans (cells4_at us hk)
 have k0 : (0 : Int) ≤ ((0 : Nat) : Int) := by omega
 have k1 : ((0 : Nat) : Int) < 4 := by omega
 obtain ⟨x0, x1, x2, x3, _, _, _, _⟩ := hb4.st
 have hcount := statesCount (stV us) s W (OwnS.has ⟨us, rfl, hown⟩) (fun j hj => by have := hlen j hj; omega)
 go_wp2_with fail
 refine hcount.mono ?_
 rintro e w4 ⟨rfl, l4⟩
 have hb5 := hb4.le l4
 have l5 := l1.trans l4
 have ho := (hown 0 hk).le l4
 have hg := l4.grownBy none
 have hap : ∀ i j : Nat, i < 4 → j < 4 → i ≠ j → ∀ g : Nat, (slV (us i)).ownBlock = some g → (none : Option Nat) ≠ some g := fun _ _ _ _ _ _ _ h => by cases h
 clear o0 o1 o2 t1 x0 x1 x2 x3 hcount
 have p1 := (hb2.le l5).op.2.1
 have c5 : w4.cell? ⟨w3.heap.size, 0, none⟩ = some (slV (us 0)) := (hb5.cell 0).trans (cells4_at us hk)
 have f5 := hb5.frozen 0
 generalize hq : us 0 = q at ho c5 ⊢
 have hown5 : ∀ i, i < 4 → Own (w4.setCell ⟨w3.heap.size, 0, none⟩ (slV q)) (w.heap.size + 1 + 1 + 1) (slV (upd us 0 q i)) ((s.put 0 (s.at 0)).at i) := by
   intro i hi
   rw [St.at_put hk hi]
   by_cases e : i = 0
   ·rw [if_pos e, show upd us 0 q i = q by simp [upd, e]]; exact ho.setBox hb5 (by decide)
   ·rw [if_neg e, show upd us 0 q i = us i by simp [upd, e]]; exact ((hown i hi).grown hg (fun g e1 e2 => hap i 0 hi hk e g e1 e2)).setBox hb5 (by decide)
 have hb6 := hb5.set 0 (slV q)
 rw [cells4_upd us hk] at hb6
 have l6 : Le _ (w4.setCell ⟨w3.heap.size, 0, none⟩ (slV q)) := Below.setCell l5 (by simp only [World.size_alloc]; show w.heap.size + 1 + 1 + 1 ≤ w3.heap.size; omega) _
 go_upto_region 13 with fail
 generalize hW2 : w4.setCell ⟨w3.heap.size, 0, none⟩ (slV q) = W2 at hb6 l6 hown5 ⊢
 generalize upd us 0 q = us' at hb6 hown5
 clear hW2 p1 c5 f5
 obtain ⟨y0, y1, y2, y3, _, _, _, _⟩ := hb6.st
 obtain ⟨z0, z1, z2, z3, f0, f1, f2, f3⟩ := (hb3.le l6).st
 go_wp2_with fail
 refine bodyPost_ret (v := .tuple #[stV us', .int .i64 (manyTo s 4)]) (by simp [results, Tryz.results152, go_sem, z0, z1, z2, z3]) rfl ⟨_, rfl, ⟨us', rfl, fun i hi => ?_⟩, ?_⟩
 ·rw [← St.put_same (s := s) hk]; exact ((hown5 i hi).base (by omega)).set4 (hb3.le l6) (by decide) _ _ _ _
 ·exact (hl.trans l6).set4 (by omega) _ _ _ _
def cntY (F G : List Int → Int → List Int × Int) (s : St) (c r a : Int) : St × Int :=
 if c = 3 then (s, manyTo s 4)
 else if c = 2 then (s, ((s.at r.toNat).length : Int))
 else if c = 1 then (s.put r.toNat (G (s.at r.toNat) a).1, (G (s.at r.toNat) a).2)
 else (s.put r.toNat (F (s.at r.toNat) a).1, (F (s.at r.toNat) a).2)
def cntS (p : List Int → Bool) (F G : List Int → Int → List Int × Int) (s : St) (c r a e : Int) : St × Int × Int :=
 if s.all p && opMay c r a then ((cntY F G s c r a).1, (cntY F G s c r a).2, 0) else (St.zero, 0, e)
theorem countedAll (f g : Nat) (F G : List Int → Int → List Int × Int) (hF : TurnsRow f F) (hG : TurnsRow g G) (v : Value) (s : St) (c r a : Int) (w : World) (hx : HasS w v s) (hf : Fit s) (hlen : ∀ j, j < 4 → (s.at j).length ≤ 4) (ho : opMay c r a = true) :
   Calls Tryz.prog 152 #[v, opV c r a, .func (.func f) #[] #[], .func (.func g) #[] #[]] w fun e w' => ∃ v', e = .returned (.tuple #[v', .int .i64 (cntY F G s c r a).2]) ∧ OwnS w' w.heap.size v' (cntY F G s c r a).1 ∧ Le w w' := by
 rcases opMay_cases ho with ⟨k, hk, rfl, rfl, ha⟩ | ⟨k, hk, rfl, rfl, ha⟩ | ⟨k, hk, rfl, rfl, rfl⟩ | ⟨rfl, rfl, rfl⟩
 ·exact countedFirst f g F hF v s k a w hx hf hlen hk ha
 ·exact countedSecond f g G hG v s k a w hx hf hlen hk ha
 ·exact countedLook f g v s k w hx hf hlen hk
 ·exact countedScan f g v s w hx hf hlen
theorem cntS_no {p : List Int → Bool} {F G : List Int → Int → List Int × Int} {s : St} {c r a er : Int} (h : (s.all p && opMay c r a) = false) : cntS p F G s c r a er = (St.zero, 0, er) := by simp [cntS, h]
theorem cntS_yes {p : List Int → Bool} {F G : List Int → Int → List Int × Int} {s : St} {c r a er : Int} (h : (s.all p && opMay c r a) = true) : cntS p F G s c r a er = ((cntY F G s c r a).1, (cntY F G s c r a).2, 0) := by simp [cntS, h]
theorem cntS_scan {p : List Int → Bool} {F G : List Int → Int → List Int × Int} {s : St} {er : Int} (h : s.all p = true) : cntS p F G s 3 0 0 er = (s, manyTo s 4, 0) := by
 have : opMay 3 0 0 = true := by decide
 simp [cntS, cntY, h, this]
theorem cntS_look {p : List Int → Bool} {F G : List Int → Int → List Int × Int} {s : St} {k : Nat} {er : Int} (h : s.all p = true) (hk : k < 4) : cntS p F G s 2 k 0 er = (s, ((s.at k).length : Int), 0) := by
 have : opMay 2 k 0 = true := by simp [opMay]; omega
 simp [cntS, cntY, h, this]
theorem cntS_first {p : List Int → Bool} {F G : List Int → Int → List Int × Int} {s : St} {k : Nat} {a er : Int} (h : s.all p = true) (hk : k < 4) (ha : 0 ≤ a ∧ a ≤ 255) : cntS p F G s 0 k a er = (s.put k (F (s.at k) a).1, (F (s.at k) a).2, 0) := by
 have : opMay 0 k a = true := by simp [opMay]; omega
 simp [cntS, cntY, h, this]
theorem cntS_second {p : List Int → Bool} {F G : List Int → Int → List Int × Int} {s : St} {k : Nat} {a er : Int} (h : s.all p = true) (hk : k < 4) (ha : 0 ≤ a ∧ a ≤ 255) : cntS p F G s 1 k a er = (s.put k (G (s.at k) a).1, (G (s.at k) a).2, 0) := by
 have : opMay 1 k a = true := by simp [opMay]; omega
 simp [cntS, cntY, h, this]
end Go.Proofs.YtepplhbajmlbpaaGreat
