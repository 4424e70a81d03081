/-
  PARTS LAID TOGETHER, each with its own opening: LwA, McB, Later, StB, SpoilA, LmA, LmB, LmC, LmF.
-/
import Derived.Test.YtibleipfablniaaAll1
import Derived.Deep.QuietTactic
import Derived.BigQuiet
import Derived.Deep.RegionHeld3
import Derived.Deep.CutRange
import Derived.BigRegion
/-
  THE WALKS over choruslaw0's SameSlots, SameRing, CopyRing, SpoilSlots, SpoilRing: what each does, for every ring. Condition: where memory is made, that the slots can be copied.
-/
namespace Go.Proofs.Ytibleipfablniaa
open Go.RowKit

theorem take_sameL {xs ys : List Slt} {k : Nat} (h1 : k < xs.length) (h2 : k < ys.length) (h : xs.take k = ys.take k) (he : xs.getD k Slt.zero = ys.getD k Slt.zero) : xs.take (k + 1) = ys.take (k + 1) := by
  rw [List.take_succ_eq_append_getElem h1, List.take_succ_eq_append_getElem h2, h]
  simp [List.getD, h1, h2] at he
  rw [he]

theorem slt_ne {x y : Slt} (h : ¬ x = y) : (x.c == y.c) = false ∨ ((x.c == y.c) = true ∧ (x.r == y.r) = false) ∨ ((x.c == y.c) = true ∧ (x.r == y.r) = true ∧ (x.a == y.a) = false) ∨ ((x.c == y.c) = true ∧ (x.r == y.r) = true ∧ (x.a == y.a) = true ∧ (x.t == y.t) = false) ∨ ((x.c == y.c) = true ∧ (x.r == y.r) = true ∧ (x.a == y.a) = true ∧ (x.t == y.t) = true ∧ (x.b == y.b) = false) := by
  cases e0 : x.c == y.c
  · exact .inl rfl
  cases e1 : x.r == y.r
  · exact .inr (.inl ⟨rfl, rfl⟩)
  cases e2 : x.a == y.a
  · exact .inr (.inr (.inl ⟨rfl, rfl, rfl⟩))
  cases e3 : x.t == y.t
  · exact .inr (.inr (.inr (.inl ⟨rfl, rfl, rfl, rfl⟩)))
  cases e4 : x.b == y.b
  · exact .inr (.inr (.inr (.inr ⟨rfl, rfl, rfl, rfl, rfl⟩)))
  exfalso
  obtain ⟨_, _, _, _, _⟩ := x
  obtain ⟨_, _, _, _, _⟩ := y
  simp at e0 e1 e2 e3 e4
  subst e0 e1 e2 e3 e4
  exact h rfl

theorem ne_of_atL {xs ys : List Slt} {k : Nat} (he : ¬ xs.getD k Slt.zero = ys.getD k Slt.zero) : ¬ xs = ys := fun h => he (by rw [h])

set_option maxHeartbeats 400000 in
theorem lawSameSlots (v u : Value) (xs ys : List Slt) (w : World) (hx : HasL w v xs) (hy : HasL w u ys) (hm : xs.length ≤ 9223372036854775807) :
    Calls Try.prog 19 #[v, u] w fun e w' => e = .returned (.bool (decide (xs = ys))) ∧ ∃ n, w' = w.drewN n := by
  obtain ⟨a, cap, rfl, hc, _, hx⟩ := hx
  obtain ⟨c, cap', rfl, hc', _, hy⟩ := hy
  by_cases hl : xs.length = ys.length
  · by_cases h0 : 0 < xs.length
    · obtain ⟨b, off, rfl, hcell⟩ := hx h0
      obtain ⟨b', off', rfl, hcell'⟩ := hy (by omega)
      have HL : Hid (xs.length = ys.length) := hl
      obtain ⟨L, hL⟩ : ∃ L, L = xs.length := ⟨_, rfl⟩
      rw [← hL] at hm ⊢
      have hL' : ys.length = L := by omega
      rw [hL']
      have HLx : Hid (xs.length = L) := hL.symm
      have HLy : Hid (ys.length = L) := hL'
      rw [← hL] at hcell h0 hc
      rw [hL'] at hcell' hc'
      clear hl hx hy hL hL'
      go_enter Try.func19, Try.ntmps19
      go_wp2
      go_loopw [5] (fun i wr => ∃ k n : Nat, k ≤ L ∧ i = .int .i64 k ∧ Hid (xs.take k = ys.take k) ∧ wr = w.drewN n) (fun i _ => L - (intOf i).toNat)
      case atStart => exact ⟨0, 0, Nat.zero_le _, rfl, rfl, rfl⟩
      case round =>
        obtain ⟨k, n, hk, rfl, HT, rfl⟩ := hrel
        by_cases hlt : k < L
        · obtain ⟨x, hxk⟩ : ∃ x, x = xs.getD k Slt.zero := ⟨_, rfl⟩
          obtain ⟨x0, x1, x2, x3, x4⟩ := hcell k hlt
          rw [← hxk] at x0 x1 x2 x3 x4
          obtain ⟨y, hyk⟩ : ∃ y, y = ys.getD k Slt.zero := ⟨_, rfl⟩
          obtain ⟨y0, y1, y2, y3, y4⟩ := hcell' k hlt
          rw [← hyk] at y0 y1 y2 y3 y4
          have HX : Hid (x = xs.getD k Slt.zero) := hxk
          have HY : Hid (y = ys.getD k Slt.zero) := hyk
          have hlt' : (k : Int) < (L : Int) := by omega
          clear hxk hyk hcell hcell'
          by_cases hxy : x = y
          · subst hxy
            go_wp2
            go_quiet (fail)
            go_wp2
            go_roundw
            case rel => exact ⟨k + 1, n + nq, by omega, by go_num, take_sameL (by have := HLx.out; omega) (by have := HLy.out; omega) HT.out (by rw [← HX.out, ← HY.out]), rfl⟩
            case measure => simp [intOf]; omega
          · have HN : Hid (¬ x = y) := hxy
            rcases slt_ne hxy with e0 | ⟨e0, e1⟩ | ⟨e0, e1, e2⟩ | ⟨e0, e1, e2, e3⟩ | ⟨e0, e1, e2, e3, e4⟩
            all_goals
              clear hxy
              go_wp2
              go_quiet (fail)
              go_wp2
              go_ret
              exact ⟨ret_bool (by have := ne_of_atL (k := k) (xs := xs) (ys := ys) (by rw [← HX.out, ← HY.out]; exact HN.out); simp [this]), n + nq, World.drewN_drewN _ _ _⟩
        · go_wp2
          go_ret
          refine ⟨ret_bool ?_, _, rfl⟩
          have h1 := HLx.out
          have h2 := HLy.out
          have := HT.out
          rw [List.take_of_length_le (by omega), List.take_of_length_le (by omega)] at this
          simp [this]
    · have hxn : xs = [] := by cases xs with | nil => rfl | cons _ _ => simp at h0
      have hyn : ys = [] := by cases ys with | nil => rfl | cons _ _ => subst hxn; simp at hl
      subst hxn hyn
      go_enter Try.func19, Try.ntmps19
      go_wp2
      refine wp_loop_rounds 1 ?_
      rw [rounds_succ]
      go_wp2
      go_ret
      exact ⟨ret_bool (by simp), 0, rfl⟩
  · have hne : (((xs.length : Int)) != (ys.length : Int)) = true := by simp; omega
    have HN : Hid (¬ xs = ys) := fun h => hl (by rw [h])
    clear hl
    go_enter Try.func19, Try.ntmps19
    go_wp2
    go_ret
    exact ⟨ret_bool (by have := HN.out; simp [this]), 0, rfl⟩

theorem lawSameS (v u : Value) (xs ys : List Slt) (w : World) (hx : HasL w v xs) (hy : HasL w u ys) (hm : xs.length * 40 ≤ 140737488351232) :
    Calls Try.prog 19 #[v, u] w fun e w' => e = .returned (.bool (decide (xs = ys))) ∧ Le w w' :=
  (lawSameSlots v u xs ys w hx hy (by omega)).mono fun _ _ ⟨he, n, hw⟩ => ⟨he, by rw [hw]; exact Le.drewN _ _⟩

theorem rg_eq {R S : Rg} : decide (R = S) = (decide (R.h = S.h) && decide (R.t = S.t) && decide (R.f = S.f) && decide (R.ss = S.ss)) := by
  obtain ⟨_, _, _, _⟩ := R
  obtain ⟨_, _, _, _⟩ := S
  simp [Bool.and_assoc]

set_option maxHeartbeats 1000000 in
theorem lawSameRing (v u : Value) (R S : Rg) (w : World) (hx : HasR w v R) (hy : HasR w u S) (hf : FitR R) :
    Calls Try.prog 8 #[v, u] w fun e w' => e = .returned (.bool (decide (R = S))) ∧ Le w w' := by
  rw [rg_eq]
  obtain ⟨h, t, f, ss⟩ := R
  obtain ⟨h', t', f', ss'⟩ := S
  obtain ⟨q, rfl, hq⟩ := hx
  obtain ⟨q', rfl, hq'⟩ := hy
  simp only at hq hq' ⊢
  replace hf : ss.length * 40 ≤ 140737488351232 := hf
  have hl := (Le.alloc w (.cells (cellsR h t f q) 39)).trans (Le.alloc _ (.cells (cellsR h' t' f' q') 39))
  have hs := lawSameS _ _ ss ss' _ (hq.le hl) (hq'.le hl) hf
  by_cases e0 : h = h'
  · subst e0
    by_cases e1 : t = t'
    · subst e1
      by_cases e2 : f = f'
      · subst e2
        go_enter Try.func8, Try.ntmps8
        go_wp2_with fail
        refine hs.mono ?_
        rintro e w1 ⟨rfl, l1⟩
        go_wp2_with fail
        go_ret
        exact ⟨ret_bool (by simp), hl.trans l1⟩
      · have hne : (f == f') = false := by simp [e2]
        rw [show decide (f = f') = false by simp [e2]]
        clear e2
        go_enter Try.func8, Try.ntmps8
        go_wp2_with fail
        go_ret
        exact ⟨ret_bool (by simp), hl⟩
    · have hne : (t == t') = false := by simp [e1]
      rw [show decide (t = t') = false by simp [e1]]
      clear e1
      go_enter Try.func8, Try.ntmps8
      go_wp2_with fail
      go_ret
      exact ⟨ret_bool (by simp), hl⟩
  · have hne : (h == h') = false := by simp [e0]
    rw [show decide (h = h') = false by simp [e0]]
    clear e0
    go_enter Try.func8, Try.ntmps8
    go_wp2_with fail
    go_ret
    exact ⟨ret_bool (by simp), hl⟩

/-- v is a slice of whatever slots, in blocks from base on, that may be written over. -/
def IntsL (w : World) (base : Nat) (v : Value) : Prop :=
  ∃ (a : Option Addr) (n cap : Nat), v = .slice a n cap ∧ n ≤ cap ∧ n ≤ 9223372036854775807 ∧
    (0 < n → ∃ b off, a = some ⟨b, off, none⟩ ∧ base ≤ b ∧ ∀ i, i < n → (∃ x, w.cell? ⟨b, off + i * 5 + 3, none⟩ = some (.int .i64 x)) ∧ w.frozen? ⟨b, off + i * 5 + 3, none⟩ = false)
def IntsR (w : World) (base : Nat) (v : Value) : Prop := ∃ h t f q, v = ringV h t f q ∧ IntsL w base (slV q)

theorem OwnL.ints {w : World} {base : Nat} {v : Value} {ss : List Slt} (h : OwnL w base v ss) (hm : ss.length * 40 ≤ 140737488351232) : IntsL w base v := by
  have hh := h.has
  obtain ⟨a, cap, hv, hc, _, hx⟩ := hh
  refine ⟨a, ss.length, cap, hv, hc, by omega, fun hp => ?_⟩
  obtain ⟨b, off, ha, hcell⟩ := hx hp
  subst ha hv
  refine ⟨b, off, rfl, (h.block (g := b) rfl).1, fun i hi => ⟨⟨_, (hcell i hi).2.2.2.1⟩, ?_⟩⟩
  rcases h.2 with ⟨h2, _⟩ | ⟨g, cap', cur, hv, hg, hh, _⟩
  · simp at h2
  · simp only [Value.slice.injEq, Option.some.injEq, Addr.mk.injEq] at hv
    obtain ⟨⟨rfl, rfl, _⟩, _⟩ := hv
    exact Box.frozen (show Box w b cur 85 from hh) _
theorem OwnR.ints {w : World} {base : Nat} {v : Value} {R : Rg} (h : OwnR w base v R) (hf : FitR R) : IntsR w base v := by
  obtain ⟨q, hv, ho⟩ := h
  exact ⟨_, _, _, q, hv, ho.ints hf⟩
theorem IntsL.spoilt {w w' : World} {base base' : Nat} {v : Value} (h : IntsL w base v) (k : Spoilt base' w w') : IntsL w' base v := by
  obtain ⟨a, n, cap, hv, hn, hm, hx⟩ := h
  refine ⟨a, n, cap, hv, hn, hm, fun hp => ?_⟩
  obtain ⟨b, off, ha, hb, hc⟩ := hx hp
  refine ⟨b, off, ha, hb, fun i hi => ?_⟩
  obtain ⟨⟨x, h1⟩, h2⟩ := hc i hi
  exact ⟨k.ints _ _ h1, k.thaw _ (World.block_lt_of_cell? w _ h1) h2⟩
theorem IntsR.spoilt {w w' : World} {base base' : Nat} {v : Value} (h : IntsR w base v) (k : Spoilt base' w w') : IntsR w' base v := by
  obtain ⟨h', t, f, q, hv, hi⟩ := h; exact ⟨h', t, f, q, hv, hi.spoilt k⟩

set_option maxHeartbeats 400000 in
theorem lawSpoilSlots (v : Value) (base : Nat) (w : World) (hx : IntsL w base v) :
    Calls Try.prog 57 #[v] w fun e w' => e = .returned (.tuple #[]) ∧ Spoilt base w w' := by
  obtain ⟨a, L, cap, rfl, hc, hm, hx⟩ := hx
  rcases Nat.eq_zero_or_pos L with h0 | h0
  · subst h0
    go_enter Try.func57, Try.ntmps57
    go_wp2
    refine wp_loop_rounds 1 ?_
    rw [rounds_succ]
    go_wp2
    go_end0
    exact ⟨rfl, Spoilt.refl _ _⟩
  · obtain ⟨b, off, rfl, hb, hcell⟩ := hx h0
    clear hx
    go_enter Try.func57, Try.ntmps57
    go_wp2
    go_loopw [2] (fun i wr => ∃ k : Nat, k ≤ L ∧ i = .int .i64 k ∧ Spoilt base w wr) (fun i _ => L - (intOf i).toNat)
    case atStart => exact ⟨0, Nat.zero_le _, rfl, Spoilt.refl _ _⟩
    case round =>
      obtain ⟨k, hk, rfl, hsp⟩ := hrel
      by_cases hlt : k < L
      · obtain ⟨⟨x0, h1⟩, h2⟩ := hcell k hlt
        have hfz := hsp.thaw _ (World.block_lt_of_cell? w _ h1) h2
        obtain ⟨x, hcl⟩ := hsp.ints _ _ h1
        clear h1 h2 hcell
        go_wp2
        go_roundw
        case rel => exact ⟨k + 1, by omega, by go_num, hsp.trans (Spoilt.store hcl hb)⟩
        case measure => simp [intOf]; omega
      · go_wp2
        go_end0
        exact ⟨rfl, hsp⟩

theorem lawSpoilRing (v : Value) (base : Nat) (w : World) (hx : IntsR w base v) (hbase : base ≤ w.heap.size) :
    Calls Try.prog 30 #[v] w fun e w' => e = .returned (.tuple #[]) ∧ Spoilt base w w' := by
  obtain ⟨h, t, f, q, rfl, hi⟩ := hx
  have hs1 : Spoilt base w (w.alloc (.cells (cellsR h t f q) 39)) := Spoilt.le hbase (Le.alloc _ _)
  have hsp := lawSpoilSlots _ base _ (hi.spoilt hs1)
  go_enter Try.func30, Try.ntmps30
  go_wp2_with fail
  refine hsp.mono ?_
  rintro e w1 ⟨rfl, s1⟩
  go_wp2_with fail
  go_end0
  exact ⟨rfl, hs1.trans s1⟩

set_option maxHeartbeats 1000000 in
theorem lawCopyRing (h t f : Int) (q : Sl) (ss : List Slt) (w : World) (hx : HasL w (slV q) ss) (hf : ss.length * 40 ≤ 140737488351232) :
    Calls Try.prog 35 #[ringV h t f q] w fun e w' => ∃ u : Sl, e = .returned (ringV h t f u) ∧ OwnL w' w.heap.size (slV u) ss ∧ Le w w' := by
  have hb := (Box.new w (cellsR h t f q) 39).le (Le.alloc _ (.cells (cellsR 0 0 0 slZ) 39))
  have hb2 := Box.new (w.alloc (.cells (cellsR h t f q) 39)) (cellsR 0 0 0 slZ) 39
  rw [World.size_alloc] at hb2
  have hl := (Le.alloc w (.cells (cellsR h t f q) 39)).trans (Le.alloc _ (.cells (cellsR 0 0 0 slZ) 39))
  have hn1 := OwnL.lit0 ((w.alloc (.cells (cellsR h t f q) 39)).alloc (.cells (cellsR 0 0 0 slZ) 39)) (w.heap.size + 1 + 1) (by simp)
  have hl1 := hl.trans (Le.alloc _ (.cells #[] 85))
  simp only [World.size_alloc] at hn1
  have hrow : ∀ g, some (w.heap.size + 1 + 1) = some g → w.heap.size ≤ g := by intro g hg; simp at hg; omega
  go_enter Try.func35, Try.ntmps35
  go_wp2_with (at_builtin; refine wp_append_slots rfl _ _ rfl (w.heap.size + 1 + 1) _ _ [] ss rfl rfl hn1 (hx.le hl1) (by simp; omega) (by simp only [World.size_alloc]; omega) ?_; intro v' w2 hown hgrow; rw [List.nil_append] at hown; replace hgrow : World.grownBy _ w2 (some (w.heap.size + 1 + 1)) := hgrow; have hb3 := (hb.le (Le.alloc _ (.cells #[] 85))).grown hgrow (by simp only [ne_eq, Option.some.injEq]; omega); have hb4 := (hb2.le (Le.alloc _ (.cells #[] 85))).grown hgrow (by simp only [ne_eq, Option.some.injEq]; omega); have l2 : Le w w2 := Below.grown hl1 hgrow hl1.size hrow; obtain ⟨u, rfl⟩ := hown.has.sl; obtain ⟨b0, b1, b2, b3, f0, f1, f2, f3⟩ := hb3.ring; obtain ⟨p0, p1, p2, p3, g0, g1, g2, g3⟩ := hb4.ring)
  refine bodyPost_ret (v := ringV h t f u) (by simp [results, Try.results35, go_sem, p0, p1, p2, p3]) rfl ⟨u, rfl, ?_, ?_⟩
  · iterate 5 refine OwnL.set ?_ (hown.off (by omega))
    exact hown.base (by omega)
  · iterate 5 refine Le.set ?_ (by omega)
    exact l2

end Go.Proofs.Ytibleipfablniaa

/-
  PLAIN GROUND, NO WALK: a machine (a Config, logs, replicas, threads, a history): when a value holds it in a world, when it is the call's own, when it may be written over, and what a later world keeps of each. No condition.
-/
namespace Go.Proofs.Ytibleipfablniaa
open Go.RowKit

/-- What there is: object, replicas, logs, threads, slots. -/
structure Cfg where
  o : Int
  r : Int
  l : Int
  t : Int
  s : Int
deriving DecidableEq
/-- A replica: its state, its cursors, its locks. -/
structure Rp where
  s : St
  cs : List Int
  ls : List Int
deriving DecidableEq
/-- A thread: step, operation, log, up to where, batch, how far, posted, ready, answer, tails. -/
structure Th where
  st : Int
  c : Int
  r : Int
  a : Int
  lg : Int
  sn : Int
  b : List Int
  pl : Int
  po : Bool
  re : Bool
  an : Int
  tl : List Int
deriving DecidableEq
/-- An event: thread, call, operation, answer. -/
structure Ev where
  t : Int
  ca : Bool
  c : Int
  r : Int
  a : Int
  an : Int
deriving DecidableEq
/-- A machine. -/
structure Mc where
  c : Cfg
  rs : List Rg
  ps : List Rp
  ts : List Th
  es : List Ev
deriving DecidableEq

def Rp.zero : Rp := ⟨St.zero, [], []⟩
def Th.zero : Th := ⟨0, 0, 0, 0, 0, 0, [], 0, false, false, 0, []⟩
def Ev.zero : Ev := ⟨0, false, 0, 0, 0, 0⟩
def Cfg.zero : Cfg := ⟨0, 0, 0, 0, 0⟩
def Mc.zero : Mc := ⟨Cfg.zero, [], [], [], []⟩

/-! Laid elements: with the slices that they hold. -/
structure LR where
  R : Rg
  q : Sl
structure LP where
  P : Rp
  vs : Nat → Sl
  c : Sl
  l : Sl
structure LT where
  T : Th
  b : Sl
  t : Sl

abbrev LR.cells (x : LR) : List Value := [.int .i64 x.R.h, .int .i64 x.R.t, .int .i64 x.R.f, slV x.q]
abbrev LP.cells (x : LP) : List Value := [slV (x.vs 0), slV (x.vs 1), slV (x.vs 2), slV (x.vs 3), slV x.c, slV x.l]
abbrev LT.cells (x : LT) : List Value := [.int .i64 x.T.st, .int .i64 x.T.c, .int .i64 x.T.r, .int .i64 x.T.a, .int .i64 x.T.lg, .int .i64 x.T.sn, slV x.b, .int .i64 x.T.pl, .bool x.T.po, .bool x.T.re, .int .i64 x.T.an, slV x.t]
abbrev Ev.cells (x : Ev) : List Value := [.int .i64 x.t, .bool x.ca, .int .i64 x.c, .int .i64 x.r, .int .i64 x.a, .int .i64 x.an]

def ringK : Kind LR := ⟨39, 4, 48, LR.cells, ⟨Rg.zero, slZ⟩, by decide, fun _ => rfl, fun x u hu => by simp [LR.cells] at hu; rcases hu with rfl | rfl | rfl | rfl <;> rfl⟩
def repK : Kind LP := ⟨46, 6, 144, LP.cells, ⟨Rp.zero, fun _ => slZ, slZ, slZ⟩, by decide, fun _ => rfl, fun x u hu => by simp [LP.cells] at hu; rcases hu with rfl | rfl | rfl | rfl | rfl | rfl <;> rfl⟩
def thK : Kind LT := ⟨52, 12, 120, LT.cells, ⟨Th.zero, slZ, slZ⟩, by decide, fun _ => rfl, fun x u hu => by simp [LT.cells] at hu; rcases hu with rfl | rfl | rfl | rfl | rfl | rfl | rfl | rfl | rfl | rfl | rfl | rfl <;> rfl⟩
def evK : Kind Ev := ⟨72, 6, 48, Ev.cells, Ev.zero, by decide, fun _ => rfl, fun x u hu => by simp [Ev.cells] at hu; rcases hu with rfl | rfl | rfl | rfl | rfl | rfl <;> rfl⟩

theorem ringIn : ringK.In Try.prog 26 := ⟨Try.underlying26, _, (by kernel_rfl : _ = some (some (.agg #[.int .i64 0, .int .i64 0, .int .i64 0, .slice none 0 0]), 4, 48)), rfl⟩
theorem repIn : repK.In Try.prog 27 := ⟨Try.underlying27, _, (by kernel_rfl : _ = some (some (.agg #[.slice none 0 0, .slice none 0 0, .slice none 0 0, .slice none 0 0, .slice none 0 0, .slice none 0 0]), 6, 144)), rfl⟩
theorem thIn : thK.In Try.prog 28 := ⟨Try.underlying28, _, (by kernel_rfl : _ = some (some (.agg #[.int .i64 0, .int .i64 0, .int .i64 0, .int .i64 0, .int .i64 0, .int .i64 0, .slice none 0 0, .int .i64 0, .bool false, .bool false, .int .i64 0, .slice none 0 0]), 12, 120)), rfl⟩
theorem evIn : evK.In Try.prog 29 := ⟨Try.underlying29, _, (by kernel_rfl : _ = some (some (.agg #[.int .i64 0, .bool false, .int .i64 0, .int .i64 0, .int .i64 0, .int .i64 0]), 6, 48)), rfl⟩

/-! Values. -/
abbrev repV (vs : Nat → Sl) (c l : Sl) : Value := .agg #[slV (vs 0), slV (vs 1), slV (vs 2), slV (vs 3), slV c, slV l]
abbrev thV (T : Th) (b t : Sl) : Value := .agg #[.int .i64 T.st, .int .i64 T.c, .int .i64 T.r, .int .i64 T.a, .int .i64 T.lg, .int .i64 T.sn, slV b, .int .i64 T.pl, .bool T.po, .bool T.re, .int .i64 T.an, slV t]
abbrev evV (E : Ev) : Value := .agg #[.int .i64 E.t, .bool E.ca, .int .i64 E.c, .int .i64 E.r, .int .i64 E.a, .int .i64 E.an]
abbrev cells9 (c : Cfg) (qR qP qT qH : Sl) : Array Value := #[.int .i64 c.o, .int .i64 c.r, .int .i64 c.l, .int .i64 c.t, .int .i64 c.s, slV qR, slV qP, slV qT, slV qH]
abbrev machV (c : Cfg) (qR qP qT qH : Sl) : Value := .agg (cells9 c qR qP qT qH)
abbrev machZ : Value := .agg #[.int .i64 0, .int .i64 0, .int .i64 0, .int .i64 0, .int .i64 0, .slice none 0 0, .slice none 0 0, .slice none 0 0, .slice none 0 0]

/-! Held. -/
def HasP (w : World) (v : Value) (P : Rp) : Prop := ∃ vs c l, v = repV vs c l ∧ (∀ i, i < 4 → Has w (slV (vs i)) (P.s.at i)) ∧ Has w (slV c) P.cs ∧ Has w (slV l) P.ls
def HasT (w : World) (v : Value) (T : Th) : Prop := ∃ b t, v = thV T b t ∧ Has w (slV b) T.b ∧ Has w (slV t) T.tl
def HasRs (w : World) (v : Value) (Rs : List Rg) : Prop := ∃ xs : List LR, xs.map LR.R = Rs ∧ HasE ringK w v xs ∧ ∀ x ∈ xs, HasL w (slV x.q) x.R.ss
def HasPs (w : World) (v : Value) (Ps : List Rp) : Prop := ∃ xs : List LP, xs.map LP.P = Ps ∧ HasE repK w v xs ∧ ∀ x ∈ xs, (∀ i, i < 4 → Has w (slV (x.vs i)) (x.P.s.at i)) ∧ Has w (slV x.c) x.P.cs ∧ Has w (slV x.l) x.P.ls
def HasTs (w : World) (v : Value) (Ts : List Th) : Prop := ∃ xs : List LT, xs.map LT.T = Ts ∧ HasE thK w v xs ∧ ∀ x ∈ xs, Has w (slV x.b) x.T.b ∧ Has w (slV x.t) x.T.tl
def HasM (w : World) (v : Value) (M : Mc) : Prop := ∃ qR qP qT qH, v = machV M.c qR qP qT qH ∧ HasRs w (slV qR) M.rs ∧ HasPs w (slV qP) M.ps ∧ HasTs w (slV qT) M.ts ∧ HasE evK w (slV qH) M.es

theorem HasP.le {w w' : World} {v : Value} {P : Rp} (h : HasP w v P) (hl : Le w w') : HasP w' v P := by
  obtain ⟨vs, c, l, hv, h1, h2, h3⟩ := h; exact ⟨vs, c, l, hv, fun i hi => (h1 i hi).le hl, h2.le hl, h3.le hl⟩
theorem HasT.le {w w' : World} {v : Value} {T : Th} (h : HasT w v T) (hl : Le w w') : HasT w' v T := by
  obtain ⟨b, t, hv, h1, h2⟩ := h; exact ⟨b, t, hv, h1.le hl, h2.le hl⟩
theorem HasRs.le {w w' : World} {v : Value} {Rs : List Rg} (h : HasRs w v Rs) (hl : Le w w') : HasRs w' v Rs := by
  obtain ⟨xs, hx, h1, h2⟩ := h; exact ⟨xs, hx, h1.le hl, fun x hx => (h2 x hx).le hl⟩
theorem HasPs.le {w w' : World} {v : Value} {Ps : List Rp} (h : HasPs w v Ps) (hl : Le w w') : HasPs w' v Ps := by
  obtain ⟨xs, hx, h1, h2⟩ := h; exact ⟨xs, hx, h1.le hl, fun x hx => ⟨fun i hi => ((h2 x hx).1 i hi).le hl, (h2 x hx).2.1.le hl, (h2 x hx).2.2.le hl⟩⟩
theorem HasTs.le {w w' : World} {v : Value} {Ts : List Th} (h : HasTs w v Ts) (hl : Le w w') : HasTs w' v Ts := by
  obtain ⟨xs, hx, h1, h2⟩ := h; exact ⟨xs, hx, h1.le hl, fun x hx => ⟨(h2 x hx).1.le hl, (h2 x hx).2.le hl⟩⟩
theorem HasM.le {w w' : World} {v : Value} {M : Mc} (h : HasM w v M) (hl : Le w w') : HasM w' v M := by
  obtain ⟨qR, qP, qT, qH, hv, h1, h2, h3, h4⟩ := h; exact ⟨qR, qP, qT, qH, hv, h1.le hl, h2.le hl, h3.le hl, h4.le hl⟩

/-! What lies at a place. -/
def RingAt (w : World) (b off : Nat) (R : Rg) (q : Sl) : Prop :=
  w.cell? ⟨b, off, none⟩ = some (.int .i64 R.h) ∧ w.cell? ⟨b, off + 1, none⟩ = some (.int .i64 R.t) ∧ w.cell? ⟨b, off + 2, none⟩ = some (.int .i64 R.f) ∧ w.cell? ⟨b, off + 3, none⟩ = some (slV q)
def RepAt (w : World) (b off : Nat) (vs : Nat → Sl) (c l : Sl) : Prop :=
  w.cell? ⟨b, off, none⟩ = some (slV (vs 0)) ∧ w.cell? ⟨b, off + 1, none⟩ = some (slV (vs 1)) ∧ w.cell? ⟨b, off + 2, none⟩ = some (slV (vs 2)) ∧ w.cell? ⟨b, off + 3, none⟩ = some (slV (vs 3)) ∧ w.cell? ⟨b, off + 4, none⟩ = some (slV c) ∧ w.cell? ⟨b, off + 5, none⟩ = some (slV l)
def ThAt (w : World) (b off : Nat) (T : Th) (q t : Sl) : Prop :=
  w.cell? ⟨b, off, none⟩ = some (.int .i64 T.st) ∧ w.cell? ⟨b, off + 1, none⟩ = some (.int .i64 T.c) ∧ w.cell? ⟨b, off + 2, none⟩ = some (.int .i64 T.r) ∧ w.cell? ⟨b, off + 3, none⟩ = some (.int .i64 T.a) ∧
  w.cell? ⟨b, off + 4, none⟩ = some (.int .i64 T.lg) ∧ w.cell? ⟨b, off + 5, none⟩ = some (.int .i64 T.sn) ∧ w.cell? ⟨b, off + 6, none⟩ = some (slV q) ∧ w.cell? ⟨b, off + 7, none⟩ = some (.int .i64 T.pl) ∧
  w.cell? ⟨b, off + 8, none⟩ = some (.bool T.po) ∧ w.cell? ⟨b, off + 9, none⟩ = some (.bool T.re) ∧ w.cell? ⟨b, off + 10, none⟩ = some (.int .i64 T.an) ∧ w.cell? ⟨b, off + 11, none⟩ = some (slV t)
def EvAt (w : World) (b off : Nat) (E : Ev) : Prop :=
  w.cell? ⟨b, off, none⟩ = some (.int .i64 E.t) ∧ w.cell? ⟨b, off + 1, none⟩ = some (.bool E.ca) ∧ w.cell? ⟨b, off + 2, none⟩ = some (.int .i64 E.c) ∧ w.cell? ⟨b, off + 3, none⟩ = some (.int .i64 E.r) ∧ w.cell? ⟨b, off + 4, none⟩ = some (.int .i64 E.a) ∧ w.cell? ⟨b, off + 5, none⟩ = some (.int .i64 E.an)

theorem cell_le {w w' : World} {p : Addr} {v : Value} (h : w.cell? p = some v) (hl : Le w w') : w'.cell? p = some v := by
  rw [hl.cell (World.block_lt_of_cell? w _ h)]; exact h
theorem RingAt.le {w w' : World} {b off : Nat} {R : Rg} {q : Sl} (h : RingAt w b off R q) (hl : Le w w') : RingAt w' b off R q := by
  obtain ⟨h0, h1, h2, h3⟩ := h; exact ⟨cell_le h0 hl, cell_le h1 hl, cell_le h2 hl, cell_le h3 hl⟩
theorem RepAt.le {w w' : World} {b off : Nat} {vs : Nat → Sl} {c l : Sl} (h : RepAt w b off vs c l) (hl : Le w w') : RepAt w' b off vs c l := by
  obtain ⟨h0, h1, h2, h3, h4, h5⟩ := h; exact ⟨cell_le h0 hl, cell_le h1 hl, cell_le h2 hl, cell_le h3 hl, cell_le h4 hl, cell_le h5 hl⟩
theorem ThAt.le {w w' : World} {b off : Nat} {T : Th} {q t : Sl} (h : ThAt w b off T q t) (hl : Le w w') : ThAt w' b off T q t := by
  obtain ⟨h0, h1, h2, h3, h4, h5, h6, h7, h8, h9, h10, h11⟩ := h
  exact ⟨cell_le h0 hl, cell_le h1 hl, cell_le h2 hl, cell_le h3 hl, cell_le h4 hl, cell_le h5 hl, cell_le h6 hl, cell_le h7 hl, cell_le h8 hl, cell_le h9 hl, cell_le h10 hl, cell_le h11 hl⟩
theorem EvAt.le {w w' : World} {b off : Nat} {E : Ev} (h : EvAt w b off E) (hl : Le w w') : EvAt w' b off E := by
  obtain ⟨h0, h1, h2, h3, h4, h5⟩ := h; exact ⟨cell_le h0 hl, cell_le h1 hl, cell_le h2 hl, cell_le h3 hl, cell_le h4 hl, cell_le h5 hl⟩

theorem getD_map {α β : Type} (f : α → β) (xs : List α) (d : α) (d' : β) {i : Nat} (h : i < xs.length) : (xs.map f).getD i d' = f (xs.getD i d) := by simp [List.getD, h]
theorem getD_mem {α : Type} {xs : List α} {d : α} {i : Nat} (h : i < xs.length) : xs.getD i d ∈ xs := by simp [List.getD, h]

theorem HasRs.open {w : World} {v : Value} {Rs : List Rg} (h : HasRs w v Rs) : ∃ a cap, v = .slice a Rs.length cap ∧ Rs.length ≤ cap ∧ (a = none → cap = 0) ∧
    (0 < Rs.length → ∃ b off, a = some ⟨b, off, none⟩ ∧ ∀ i, i < Rs.length → ∃ q, RingAt w b (off + i * 4) (Rs.getD i Rg.zero) q ∧ HasL w (slV q) (Rs.getD i Rg.zero).ss) := by
  obtain ⟨xs, rfl, ⟨a, cap, hv, hc, hn, hx⟩, hq⟩ := h
  rw [List.length_map]
  refine ⟨a, cap, hv, hc, hn, fun hp => ?_⟩
  obtain ⟨b, off, ha, hcell⟩ := hx hp
  refine ⟨b, off, ha, fun i hi => ⟨(xs.getD i ringK.d).q, ?_, ?_⟩⟩
  · rw [getD_map LR.R xs ringK.d Rg.zero hi]
    have h := hcell i hi
    exact ⟨h 0 (by decide), h 1 (by decide), h 2 (by decide), h 3 (by decide)⟩
  · rw [getD_map LR.R xs ringK.d Rg.zero hi]
    exact hq _ (getD_mem hi)
theorem HasPs.open {w : World} {v : Value} {Ps : List Rp} (h : HasPs w v Ps) : ∃ a cap, v = .slice a Ps.length cap ∧ Ps.length ≤ cap ∧ (a = none → cap = 0) ∧
    (0 < Ps.length → ∃ b off, a = some ⟨b, off, none⟩ ∧ ∀ i, i < Ps.length → ∃ vs c l, RepAt w b (off + i * 6) vs c l ∧ (∀ j, j < 4 → Has w (slV (vs j)) ((Ps.getD i Rp.zero).s.at j)) ∧ Has w (slV c) (Ps.getD i Rp.zero).cs ∧ Has w (slV l) (Ps.getD i Rp.zero).ls) := by
  obtain ⟨xs, rfl, ⟨a, cap, hv, hc, hn, hx⟩, hq⟩ := h
  rw [List.length_map]
  refine ⟨a, cap, hv, hc, hn, fun hp => ?_⟩
  obtain ⟨b, off, ha, hcell⟩ := hx hp
  refine ⟨b, off, ha, fun i hi => ⟨(xs.getD i repK.d).vs, (xs.getD i repK.d).c, (xs.getD i repK.d).l, ?_, ?_⟩⟩
  · have h := hcell i hi
    exact ⟨h 0 (by decide), h 1 (by decide), h 2 (by decide), h 3 (by decide), h 4 (by decide), h 5 (by decide)⟩
  · rw [getD_map LP.P xs repK.d Rp.zero hi]
    exact hq _ (getD_mem hi)
theorem HasTs.open {w : World} {v : Value} {Ts : List Th} (h : HasTs w v Ts) : ∃ a cap, v = .slice a Ts.length cap ∧ Ts.length ≤ cap ∧ (a = none → cap = 0) ∧
    (0 < Ts.length → ∃ b off, a = some ⟨b, off, none⟩ ∧ ∀ i, i < Ts.length → ∃ q t, ThAt w b (off + i * 12) (Ts.getD i Th.zero) q t ∧ Has w (slV q) (Ts.getD i Th.zero).b ∧ Has w (slV t) (Ts.getD i Th.zero).tl) := by
  obtain ⟨xs, rfl, ⟨a, cap, hv, hc, hn, hx⟩, hq⟩ := h
  rw [List.length_map]
  refine ⟨a, cap, hv, hc, hn, fun hp => ?_⟩
  obtain ⟨b, off, ha, hcell⟩ := hx hp
  refine ⟨b, off, ha, fun i hi => ⟨(xs.getD i thK.d).b, (xs.getD i thK.d).t, ?_, ?_⟩⟩
  · rw [getD_map LT.T xs thK.d Th.zero hi]
    have h := hcell i hi
    exact ⟨h 0 (by decide), h 1 (by decide), h 2 (by decide), h 3 (by decide), h 4 (by decide), h 5 (by decide), h 6 (by decide), h 7 (by decide), h 8 (by decide), h 9 (by decide), h 10 (by decide), h 11 (by decide)⟩
  · rw [getD_map LT.T xs thK.d Th.zero hi]
    exact hq _ (getD_mem hi)
theorem HasE.openEv {w : World} {v : Value} {Es : List Ev} (h : HasE evK w v Es) : ∃ a cap, v = .slice a Es.length cap ∧ Es.length ≤ cap ∧ (a = none → cap = 0) ∧
    (0 < Es.length → ∃ b off, a = some ⟨b, off, none⟩ ∧ ∀ i, i < Es.length → EvAt w b (off + i * 6) (Es.getD i Ev.zero)) := by
  obtain ⟨a, cap, hv, hc, hn, hx⟩ := h
  refine ⟨a, cap, hv, hc, hn, fun hp => ?_⟩
  obtain ⟨b, off, ha, hcell⟩ := hx hp
  refine ⟨b, off, ha, fun i hi => ?_⟩
  have h := hcell i hi
  exact ⟨h 0 (by decide), h 1 (by decide), h 2 (by decide), h 3 (by decide), h 4 (by decide), h 5 (by decide)⟩
theorem HasRs.sl {w : World} {v : Value} {Rs : List Rg} (h : HasRs w v Rs) : ∃ q : Sl, v = slV q := by obtain ⟨_, _, h, _⟩ := h; exact h.sl
theorem HasPs.sl {w : World} {v : Value} {Ps : List Rp} (h : HasPs w v Ps) : ∃ q : Sl, v = slV q := by obtain ⟨_, _, h, _⟩ := h; exact h.sl
theorem HasTs.sl {w : World} {v : Value} {Ts : List Th} (h : HasTs w v Ts) : ∃ q : Sl, v = slV q := by obtain ⟨_, _, h, _⟩ := h; exact h.sl
theorem HasRs.len {w : World} {q : Sl} {Rs : List Rg} (h : HasRs w (slV q) Rs) : q.2.1 = Rs.length := by obtain ⟨_, rfl, h, _⟩ := h; rw [List.length_map]; exact h.len
theorem HasPs.len {w : World} {q : Sl} {Ps : List Rp} (h : HasPs w (slV q) Ps) : q.2.1 = Ps.length := by obtain ⟨_, rfl, h, _⟩ := h; rw [List.length_map]; exact h.len
theorem HasTs.len {w : World} {q : Sl} {Ts : List Th} (h : HasTs w (slV q) Ts) : q.2.1 = Ts.length := by obtain ⟨_, rfl, h, _⟩ := h; rw [List.length_map]; exact h.len
theorem HasRs.nil (w : World) : HasRs w (.slice none 0 0) [] := ⟨[], rfl, HasE.nil _ _, fun x h => by cases h⟩
theorem HasPs.nil (w : World) : HasPs w (.slice none 0 0) [] := ⟨[], rfl, HasE.nil _ _, fun x h => by cases h⟩
theorem HasTs.nil (w : World) : HasTs w (.slice none 0 0) [] := ⟨[], rfl, HasE.nil _ _, fun x h => by cases h⟩
theorem HasM.zero (w : World) : HasM w machZ Mc.zero := ⟨slZ, slZ, slZ, slZ, rfl, HasRs.nil _, HasPs.nil _, HasTs.nil _, HasE.nil _ _⟩

/-- All of it can be copied. -/
structure FitM (M : Mc) : Prop where
  rs : M.rs.length * 48 ≤ 140737488351232
  ps : M.ps.length * 144 ≤ 140737488351232
  ts : M.ts.length * 120 ≤ 140737488351232
  es : M.es.length * 48 ≤ 140737488351232
  r : ∀ R ∈ M.rs, FitR R
  p : ∀ P ∈ M.ps, Fit P.s ∧ P.cs.length * 8 ≤ 140737488351232 ∧ P.ls.length * 8 ≤ 140737488351232
  t : ∀ T ∈ M.ts, T.b.length * 8 ≤ 140737488351232 ∧ T.tl.length * 8 ≤ 140737488351232
theorem fitM_zero : FitM Mc.zero := ⟨by decide, by decide, by decide, by decide, (fun _ h => by cases h), (fun _ h => by cases h), (fun _ h => by cases h)⟩

/-! A laid machine, the call's own. -/
structure Lay where
  c : Cfg
  qR : Sl
  qP : Sl
  qT : Sl
  qH : Sl
  rs : List LR
  ps : List LP
  ts : List LT
  es : List Ev
abbrev Lay.v (L : Lay) : Value := machV L.c L.qR L.qP L.qT L.qH
def Lay.M (L : Lay) : Mc := ⟨L.c, L.rs.map LR.R, L.ps.map LP.P, L.ts.map LT.T, L.es⟩

structure OwnsM (w : World) (base : Nat) (L : Lay) : Prop where
  oR : OwnE ringK w base (slV L.qR) L.rs
  oP : OwnE repK w base (slV L.qP) L.ps
  oT : OwnE thK w base (slV L.qT) L.ts
  oH : OwnE evK w base (slV L.qH) L.es
  iR : ∀ x ∈ L.rs, OwnL w base (slV x.q) x.R.ss
  iP : ∀ x ∈ L.ps, (∀ i, i < 4 → Own w base (slV (x.vs i)) (x.P.s.at i)) ∧ Own w base (slV x.c) x.P.cs ∧ Own w base (slV x.l) x.P.ls
  iT : ∀ x ∈ L.ts, Own w base (slV x.b) x.T.b ∧ Own w base (slV x.t) x.T.tl

/-- The value v is the call's own machine M. -/
def OwnM (w : World) (base : Nat) (v : Value) (M : Mc) : Prop := ∃ L : Lay, v = L.v ∧ M = L.M ∧ OwnsM w base L

theorem OwnsM.le {w w' : World} {base : Nat} {L : Lay} (h : OwnsM w base L) (hl : Le w w') : OwnsM w' base L :=
  ⟨h.oR.le hl, h.oP.le hl, h.oT.le hl, h.oH.le hl, fun x hx => (h.iR x hx).le hl, fun x hx => ⟨fun i hi => ((h.iP x hx).1 i hi).le hl, (h.iP x hx).2.1.le hl, (h.iP x hx).2.2.le hl⟩, fun x hx => ⟨(h.iT x hx).1.le hl, (h.iT x hx).2.le hl⟩⟩
theorem OwnsM.base {w : World} {base base' : Nat} {L : Lay} (h : OwnsM w base L) (hb : base' ≤ base) : OwnsM w base' L :=
  ⟨h.oR.base hb, h.oP.base hb, h.oT.base hb, h.oH.base hb, fun x hx => (h.iR x hx).base hb, fun x hx => ⟨fun i hi => ((h.iP x hx).1 i hi).base hb, (h.iP x hx).2.1.base hb, (h.iP x hx).2.2.base hb⟩, fun x hx => ⟨(h.iT x hx).1.base hb, (h.iT x hx).2.base hb⟩⟩
theorem OwnsM.has {w : World} {base : Nat} {L : Lay} (h : OwnsM w base L) : HasM w L.v L.M :=
  ⟨L.qR, L.qP, L.qT, L.qH, rfl, ⟨L.rs, rfl, h.oR.has, fun x hx => (h.iR x hx).has⟩, ⟨L.ps, rfl, h.oP.has, fun x hx => ⟨fun i hi => ((h.iP x hx).1 i hi).has, (h.iP x hx).2.1.has, (h.iP x hx).2.2.has⟩⟩, ⟨L.ts, rfl, h.oT.has, fun x hx => ⟨(h.iT x hx).1.has, (h.iT x hx).2.has⟩⟩, h.oH.has⟩
theorem OwnM.le {w w' : World} {base : Nat} {v : Value} {M : Mc} (h : OwnM w base v M) (hl : Le w w') : OwnM w' base v M := by obtain ⟨L, hv, hm, h⟩ := h; exact ⟨L, hv, hm, h.le hl⟩
theorem OwnM.base {w : World} {base base' : Nat} {v : Value} {M : Mc} (h : OwnM w base v M) (hb : base' ≤ base) : OwnM w base' v M := by obtain ⟨L, hv, hm, h⟩ := h; exact ⟨L, hv, hm, h.base hb⟩
theorem OwnM.has {w : World} {base : Nat} {v : Value} {M : Mc} (h : OwnM w base v M) : HasM w v M := by obtain ⟨L, rfl, rfl, h⟩ := h; exact h.has
theorem OwnM.zero (w : World) (base : Nat) : OwnM w base machZ Mc.zero :=
  ⟨⟨Cfg.zero, slZ, slZ, slZ, slZ, [], [], [], []⟩, rfl, rfl, OwnE.nil _ _ _, OwnE.nil _ _ _, OwnE.nil _ _ _, OwnE.nil _ _ _, (fun x h => by cases h), (fun x h => by cases h), (fun x h => by cases h)⟩

/-! Written over. -/
/-- A row of elements of k cells each, each of which is as At says, in blocks from base on. -/
def IntsRow (k : Nat) (At : World → Nat → Nat → Prop) (w : World) (base : Nat) (v : Value) : Prop :=
  ∃ (a : Option Addr) (n cap : Nat), v = .slice a n cap ∧ n ≤ cap ∧ n ≤ 9223372036854775807 ∧ (0 < n → ∃ b off, a = some ⟨b, off, none⟩ ∧ base ≤ b ∧ ∀ i, i < n → At w b (off + i * k))
def RingX (base : Nat) (w : World) (b off : Nat) : Prop := (∃ R q, RingAt w b off R q ∧ IntsL w base (slV q)) ∧ w.frozen? ⟨b, off + 1, none⟩ = false
def RepX (base : Nat) (w : World) (b off : Nat) : Prop := ∃ vs c l, RepAt w b off vs c l ∧ (∀ i, i < 4 → Ints w base (slV (vs i))) ∧ Ints w base (slV c) ∧ Ints w base (slV l)
def ThX (base : Nat) (w : World) (b off : Nat) : Prop := (∃ T q t, ThAt w b off T q t ∧ Ints w base (slV q) ∧ Ints w base (slV t)) ∧ w.frozen? ⟨b, off, none⟩ = false
def EvX (w : World) (b off : Nat) : Prop := (∃ x, w.cell? ⟨b, off, none⟩ = some (.int .i64 x)) ∧ w.frozen? ⟨b, off, none⟩ = false
def IntsM (w : World) (base : Nat) (v : Value) : Prop := ∃ c qR qP qT qH, v = machV c qR qP qT qH ∧ IntsRow 4 (RingX base) w base (slV qR) ∧ IntsRow 6 (RepX base) w base (slV qP) ∧ IntsRow 12 (ThX base) w base (slV qT) ∧ IntsRow 6 EvX w base (slV qH)

theorem IntsRow.spoilt {k : Nat} {At : World → Nat → Nat → Prop} {w w' : World} {base base' : Nat} {v : Value} (h : IntsRow k At w base v) (hAt : ∀ b off, At w b off → At w' b off) (_k : Spoilt base' w w') : IntsRow k At w' base v := by
  obtain ⟨a, n, cap, hv, hn, hm, hx⟩ := h
  refine ⟨a, n, cap, hv, hn, hm, fun hp => ?_⟩
  obtain ⟨b, off, ha, hb, hc⟩ := hx hp
  exact ⟨b, off, ha, hb, fun i hi => hAt _ _ (hc i hi)⟩
theorem Spoilt.sl {base : Nat} {w w' : World} (k : Spoilt base w w') {p : Addr} {q : Sl} (h : w.cell? p = some (slV q)) : w'.cell? p = some (slV q) := k.rest p _ h (fun x e => by cases e)
theorem Spoilt.bool {base : Nat} {w w' : World} (k : Spoilt base w w') {p : Addr} {b : Bool} (h : w.cell? p = some (.bool b)) : w'.cell? p = some (.bool b) := k.rest p _ h (fun x e => by cases e)
theorem RingX.spoilt {base base' : Nat} {w w' : World} {b off : Nat} (h : RingX base w b off) (k : Spoilt base' w w') : RingX base w' b off := by
  obtain ⟨⟨R, q, ⟨h0, h1, h2, h3⟩, hi⟩, hf⟩ := h
  obtain ⟨x0, e0⟩ := k.ints _ _ h0
  obtain ⟨x1, e1⟩ := k.ints _ _ h1
  obtain ⟨x2, e2⟩ := k.ints _ _ h2
  exact ⟨⟨⟨x0, x1, x2, []⟩, q, ⟨e0, e1, e2, k.sl h3⟩, hi.spoilt k⟩, k.thaw _ (World.block_lt_of_cell? w ⟨b, off + 1, none⟩ h1) hf⟩
theorem RepX.spoilt {base base' : Nat} {w w' : World} {b off : Nat} (h : RepX base w b off) (k : Spoilt base' w w') : RepX base w' b off := by
  obtain ⟨vs, c, l, ⟨h0, h1, h2, h3, h4, h5⟩, i0, i1, i2⟩ := h
  exact ⟨vs, c, l, ⟨k.sl h0, k.sl h1, k.sl h2, k.sl h3, k.sl h4, k.sl h5⟩, fun i hi => (i0 i hi).spoilt k, i1.spoilt k, i2.spoilt k⟩
theorem ThX.spoilt {base base' : Nat} {w w' : World} {b off : Nat} (h : ThX base w b off) (k : Spoilt base' w w') : ThX base w' b off := by
  obtain ⟨⟨T, q, t, ⟨h0, h1, h2, h3, h4, h5, h6, h7, h8, h9, h10, h11⟩, i0, i1⟩, hf⟩ := h
  obtain ⟨x0, e0⟩ := k.ints _ _ h0
  obtain ⟨x1, e1⟩ := k.ints _ _ h1
  obtain ⟨x2, e2⟩ := k.ints _ _ h2
  obtain ⟨x3, e3⟩ := k.ints _ _ h3
  obtain ⟨x4, e4⟩ := k.ints _ _ h4
  obtain ⟨x5, e5⟩ := k.ints _ _ h5
  obtain ⟨x7, e7⟩ := k.ints _ _ h7
  obtain ⟨x10, e10⟩ := k.ints _ _ h10
  exact ⟨⟨⟨x0, x1, x2, x3, x4, x5, [], x7, T.po, T.re, x10, []⟩, q, t, ⟨e0, e1, e2, e3, e4, e5, k.sl h6, e7, k.bool h8, k.bool h9, e10, k.sl h11⟩, i0.spoilt k, i1.spoilt k⟩, k.thaw _ (World.block_lt_of_cell? w ⟨b, off, none⟩ h0) hf⟩
theorem EvX.spoilt {base' : Nat} {w w' : World} {b off : Nat} (h : EvX w b off) (k : Spoilt base' w w') : EvX w' b off := by
  obtain ⟨⟨x, h⟩, hf⟩ := h
  exact ⟨k.ints _ _ h, k.thaw _ (World.block_lt_of_cell? w ⟨b, off, none⟩ h) hf⟩
theorem IntsM.spoilt {w w' : World} {base base' : Nat} {v : Value} (h : IntsM w base v) (k : Spoilt base' w w') : IntsM w' base v := by
  obtain ⟨c, qR, qP, qT, qH, hv, h1, h2, h3, h4⟩ := h
  exact ⟨c, qR, qP, qT, qH, hv, h1.spoilt (fun _ _ h => h.spoilt k) k, h2.spoilt (fun _ _ h => h.spoilt k) k, h3.spoilt (fun _ _ h => h.spoilt k) k, h4.spoilt (fun _ _ h => h.spoilt k) k⟩

/-- A row of the call's own: each of its elements, in blocks from base on, not frozen. -/
theorem OwnE.each {α : Type} {K : Kind α} {w : World} {base : Nat} {v : Value} {xs : List α} (h : OwnE K w base v xs) (At : World → Nat → Nat → Prop) (hm : xs.length ≤ 9223372036854775807)
    (hAt : ∀ b off x, x ∈ xs → (∀ j, j < K.k → w.cell? ⟨b, off + j, none⟩ = (K.f x)[j]?) → (∀ j, w.frozen? ⟨b, j, none⟩ = false) → At w b off) : IntsRow K.k At w base v := by
  obtain ⟨a, cap, hv, hc, hn, hx⟩ := h.has
  refine ⟨a, xs.length, cap, hv, hc, hm, fun hp => ?_⟩
  obtain ⟨b, off, ha, hcell⟩ := hx hp
  obtain ⟨g, cap', hv', _, hg, _⟩ := h.shape hp
  rw [hv] at hv'
  simp only [Value.slice.injEq] at hv'
  obtain ⟨e1, _, e2⟩ := hv'
  rw [ha] at e1
  simp only [Option.some.injEq, Addr.mk.injEq, and_true] at e1
  obtain ⟨rfl, rfl⟩ := e1
  subst hv ha
  refine ⟨b, 0, rfl, hg, fun i hi => hAt b _ (xs.getD i K.d) (getD_mem hi) (fun j hj => ?_) (fun j => h.frozen j)⟩
  exact hcell i hi j hj

theorem OwnsM.ints {w : World} {base : Nat} {L : Lay} (h : OwnsM w base L) (hf : FitM L.M) : IntsM w base L.v := by
  have f1 := hf.rs
  have f2 := hf.ps
  have f3 := hf.ts
  have f4 := hf.es
  simp only [Lay.M, List.length_map] at f1 f2 f3 f4
  refine ⟨L.c, L.qR, L.qP, L.qT, L.qH, rfl, ?_, ?_, ?_, ?_⟩
  · refine h.oR.each (RingX base) (by omega) fun b off x hx hc hz => ⟨⟨x.R, x.q, ⟨hc 0 (by decide), hc 1 (by decide), hc 2 (by decide), hc 3 (by decide)⟩, (h.iR x hx).ints (hf.r x.R (List.mem_map_of_mem hx))⟩, hz _⟩
  · refine h.oP.each (RepX base) (by omega) fun b off x hx hc hz => ⟨x.vs, x.c, x.l, ⟨hc 0 (by decide), hc 1 (by decide), hc 2 (by decide), hc 3 (by decide), hc 4 (by decide), hc 5 (by decide)⟩, fun i hi => ((h.iP x hx).1 i hi).ints, (h.iP x hx).2.1.ints, (h.iP x hx).2.2.ints⟩
  · refine h.oT.each (ThX base) (by omega) fun b off x hx hc hz => ⟨⟨x.T, x.b, x.t, ⟨hc 0 (by decide), hc 1 (by decide), hc 2 (by decide), hc 3 (by decide), hc 4 (by decide), hc 5 (by decide), hc 6 (by decide), hc 7 (by decide), hc 8 (by decide), hc 9 (by decide), hc 10 (by decide), hc 11 (by decide)⟩, (h.iT x hx).1.ints, (h.iT x hx).2.ints⟩, hz _⟩
  · refine h.oH.each EvX (by omega) fun b off x hx hc hz => ⟨⟨x.t, hc 0 (by decide)⟩, hz _⟩
theorem OwnM.ints {w : World} {base : Nat} {v : Value} {M : Mc} (h : OwnM w base v M) (hf : FitM M) : IntsM w base v := by
  obtain ⟨L, rfl, rfl, h⟩ := h; exact h.ints hf

/-! Boxes. -/
theorem Box.mach {w : World} {g : Nat} {c : Cfg} {qR qP qT qH : Sl} {t : TypeId} (h : Box w g (cells9 c qR qP qT qH) t) :
    (w.cell? ⟨g, 0, none⟩ = some (.int .i64 c.o) ∧ w.cell? ⟨g, 1, none⟩ = some (.int .i64 c.r) ∧ w.cell? ⟨g, 2, none⟩ = some (.int .i64 c.l) ∧ w.cell? ⟨g, 3, none⟩ = some (.int .i64 c.t) ∧ w.cell? ⟨g, 4, none⟩ = some (.int .i64 c.s)) ∧
    (w.cell? ⟨g, 5, none⟩ = some (slV qR) ∧ w.cell? ⟨g, 6, none⟩ = some (slV qP) ∧ w.cell? ⟨g, 7, none⟩ = some (slV qT) ∧ w.cell? ⟨g, 8, none⟩ = some (slV qH)) :=
  ⟨⟨h.cell 0, h.cell 1, h.cell 2, h.cell 3, h.cell 4⟩, h.cell 5, h.cell 6, h.cell 7, h.cell 8⟩

end Go.Proofs.Ytibleipfablniaa

/-
  PLAIN GROUND: a statement that leaves its order open, whose own operations only read and whose callees may make memory of their own but answer the same in every later world: one walk in the text's order serves every order. It is the library's theorem over a class of worlds, taken at the class of all later worlds. No condition but that the callees' answers hold no new address.
-/
namespace Go.Proofs.Ytibleipfablniaa
open Go.RowKit

/-- A world that has all that w0 had. -/
structure Later (w0 : World) where
  w : World
  le : Le w0 w

instance (w0 : World) : Nonempty (Later w0) := ⟨⟨w0, Le.refl w0⟩⟩

theorem wp_region_later {P : Program} {id : Nat} {Q : Exit → Act → World → Prop} {a : Act} {w : World} {l : List Oper} (hm : P.follows .mixedOrders = true) (hB : Region.lexB .any l.toArray = true)
    (h : wpQuiet P l.toArray (fun w' => ∃ x : Later w, w' = x.w) (fun a' => ∀ w', (∃ x : Later w, w' = x.w) → Q .normal a' w') l a) : (Code.region id l.toArray true).wp P Q a w :=
  wp_region_quiet (C := fun w' => ∃ x : Later w, w' = x.w) hm hB ⟨⟨_, Le.drew w⟩, rfl⟩ (by simpa using h)

/-- A callee's contract, met in a later world. -/
theorem Calls.later {P : Program} {f : FuncId} {args : Array Value} {w0 : World} {x : Later w0} {v : Value}
    (h : Calls P f args x.w fun e w' => e = .returned v ∧ Le x.w w') : Calls P f args x.w fun e w'' => e = .returned v ∧ ∃ y : Later w0, w'' = y.w :=
  h.mono fun _ w' ⟨he, hl⟩ => ⟨he, ⟨w', x.le.trans hl⟩, rfl⟩

theorem Calls.later_same {P : Program} {f : FuncId} {args : Array Value} {w0 : World} {x : Later w0} {v : Value}
    (h : Calls P f args x.w fun e w' => e = .returned v ∧ x.w = w') : Calls P f args x.w fun e w'' => e = .returned v ∧ ∃ y : Later w0, w'' = y.w :=
  h.mono fun _ w' ⟨he, hl⟩ => ⟨he, ⟨w', by rw [← hl]; exact x.le⟩, rfl⟩

/-- .. what the contract says of the answer, given. -/
theorem Calls.later_is {P : Program} {f : FuncId} {args : Array Value} {w0 : World} {x : Later w0} {v u : Value} (hv : v = u)
    (h : Calls P f args x.w fun e w' => e = .returned v ∧ Le x.w w') : Calls P f args x.w fun e w'' => e = .returned u ∧ ∃ y : Later w0, w'' = y.w := by
  subst hv; exact Calls.later h

theorem Box.later {w : World} {g : Nat} {cs : Array Value} {t : TypeId} (h : Box w g cs t) (i : Nat) : ∀ x : Later w, x.w.cell? ⟨g, i, none⟩ = cs[i]? := fun x => (h.le x.le).cell i

theorem Box.later3 {w : World} {g : Nat} {x y z : Value} {t : TypeId} (h : Box w g #[x, y, z] t) :
    (∀ X : Later w, X.w.cell? ⟨g, 0, none⟩ = some x) ∧ (∀ X : Later w, X.w.cell? ⟨g, 1, none⟩ = some y) ∧ (∀ X : Later w, X.w.cell? ⟨g, 2, none⟩ = some z) :=
  ⟨h.later 0, h.later 1, h.later 2⟩

theorem Box.laterR {w : World} {g : Nat} {x y z u : Value} {t : TypeId} (h : Box w g #[x, y, z, u] t) :
    (∀ X : Later w, X.w.cell? ⟨g, 0, none⟩ = some x) ∧ (∀ X : Later w, X.w.cell? ⟨g, 1, none⟩ = some y) ∧ (∀ X : Later w, X.w.cell? ⟨g, 2, none⟩ = some z) ∧ (∀ X : Later w, X.w.cell? ⟨g, 3, none⟩ = some u) :=
  ⟨h.later 0, h.later 1, h.later 2, h.later 3⟩
theorem Box.laterS {w : World} {g : Nat} {x y z u v : Value} {t : TypeId} (h : Box w g #[x, y, z, u, v] t) :
    (∀ X : Later w, X.w.cell? ⟨g, 0, none⟩ = some x) ∧ (∀ X : Later w, X.w.cell? ⟨g, 1, none⟩ = some y) ∧ (∀ X : Later w, X.w.cell? ⟨g, 2, none⟩ = some z) ∧ (∀ X : Later w, X.w.cell? ⟨g, 3, none⟩ = some u) ∧ (∀ X : Later w, X.w.cell? ⟨g, 4, none⟩ = some v) :=
  ⟨h.later 0, h.later 1, h.later 2, h.later 3, h.later 4⟩

end Go.Proofs.Ytibleipfablniaa

/-
  THE WALK over choruslaw0's SameState, and the ground of loops that copy row by row. Condition: where memory is made, the rows' bytes are within the reach that every row bears.
-/
namespace Go.Proofs.Ytibleipfablniaa
open Go.RowKit

/-- In the midst of a copy: the given value's box, the result's, and the one that is filled up to row k. -/
structure Cp (w : World) (s : St) (vs : Nat → Sl) (wr : World) (k : Nat) (us : Nat → Sl) : Prop where
  le : Le w wr
  given : Box wr w.heap.size (cells4 vs) 44
  result : Box wr (w.heap.size + 1) (cells4 fun _ => slZ) 44
  filled : Box wr (w.heap.size + 1 + 1) (cells4 us) 44
  rows : ∀ j, j < k → Own wr w.heap.size (slV (us j)) (s.at j)
  apart : Apart us k

theorem Box.size {w : World} {g : Nat} {cs : Array Value} {t : TypeId} (h : Box w g cs t) : g < w.heap.size := h.lt

theorem Cp.start (w : World) (s : St) (vs : Nat → Sl) :
    Cp w s vs (((w.alloc (.cells (cells4 vs) 44)).alloc (.cells (cells4 fun _ => slZ) 44)).alloc (.cells (cells4 fun _ => slZ) 44)) 0 fun _ => slZ := by
  refine ⟨((Le.alloc _ _).trans (Le.alloc _ _)).trans (Le.alloc _ _), ((Box.new _ _ _).le (Le.alloc _ _)).le (Le.alloc _ _), ?_, ?_, (fun j hj => by omega), (fun i j hi => by omega)⟩
  · have := (Box.new (w.alloc (.cells (cells4 vs) 44)) (cells4 fun _ => slZ) 44).le (Le.alloc _ (.cells (cells4 fun _ => slZ) 44))
    simpa using this
  · have := Box.new ((w.alloc (.cells (cells4 vs) 44)).alloc (.cells (cells4 fun _ => slZ) 44)) (cells4 fun _ => slZ) 44
    simpa using this

theorem Box.st {w : World} {g : Nat} {vs : Nat → Sl} {t : TypeId} (h : Box w g (cells4 vs) t) :
    w.cell? ⟨g, 0, none⟩ = some (slV (vs 0)) ∧ w.cell? ⟨g, 1, none⟩ = some (slV (vs 1)) ∧ w.cell? ⟨g, 2, none⟩ = some (slV (vs 2)) ∧ w.cell? ⟨g, 3, none⟩ = some (slV (vs 3)) ∧
    w.frozen? ⟨g, 0, none⟩ = false ∧ w.frozen? ⟨g, 1, none⟩ = false ∧ w.frozen? ⟨g, 2, none⟩ = false ∧ w.frozen? ⟨g, 3, none⟩ = false :=
  ⟨h.cell 0, h.cell 1, h.cell 2, h.cell 3, h.frozen 0, h.frozen 1, h.frozen 2, h.frozen 3⟩

/-- One row more. -/
theorem Cp.next {w : World} {s : St} {vs : Nat → Sl} {wr w1 w2 : World} {k : Nat} {us : Nat → Sl} {row : Option Nat} {v' : Sl} (h : Cp w s vs wr k us) (hk : k < 4) (h1 : Le wr w1) (hg : w1.grownBy w2 row)
    (hrow : ∀ g, row = some g → wr.heap.size ≤ g) (hown : Own w2 wr.heap.size (slV v') (s.at k)) : Cp w s vs (w2.setCell ⟨w.heap.size + 1 + 1, k, none⟩ (slV v')) (k + 1) (upd us k v') := by
  have l2 : Le wr w2 := Below.grown h1 hg h1.size hrow
  have hb := h.filled.le l2
  refine ⟨?_, (h.given.le l2).other (by omega) _ _, (h.result.le l2).other (by omega) _ _, ?_, (fun j hj => ?_), h.apart.next (fun j hj g e => ((h.rows j hj).block e).2) (fun g e => (hown.block e).1)⟩
  · exact Below.setCell (h.le.trans l2) (by show w.heap.size ≤ w.heap.size + 1 + 1; omega) _
  · have := hb.set k (slV v'); rw [cells4_upd us hk v'] at this; exact this
  · by_cases e : j = k
    · rw [e, show upd us k v' k = v' by simp [upd]]; exact (hown.base h.le.size).setBox hb (by decide)
    · rw [show upd us k v' j = us j by simp [upd, e]]; exact ((h.rows j (by omega)).le l2).setBox hb (by decide)

theorem lawSameI (v u : Value) (xs ys : List Int) (w : World) (hx : Has w v xs) (hy : Has w u ys) (hm : xs.length * 8 ≤ 140737488351232) :
    Calls Try.prog 10 #[v, u] w fun e w' => e = .returned (.bool (decide (xs = ys))) ∧ Le w w' :=
  (lawSameInts v u xs ys w hx hy (by omega)).mono fun _ _ ⟨he, n, hw⟩ => ⟨he, by rw [hw]; exact Le.drewN _ _⟩

set_option maxHeartbeats 400000 in
theorem lawSameState (v u : Value) (s t : St) (w : World) (hx : HasS w v s) (hy : HasS w u t) (hf : Fit s) :
    Calls Try.prog 9 #[v, u] w fun e w' => e = .returned (.bool (decide (s = t))) ∧ Le w w' := by
  obtain ⟨vs, rfl, hr⟩ := hx
  obtain ⟨us, rfl, hr'⟩ := hy
  have hb1 := (Box.new w (cells4 vs) 44).le (Le.alloc _ (.cells (cells4 us) 44))
  have hb2 := Box.new (w.alloc (.cells (cells4 vs) 44)) (cells4 us) 44
  rw [World.size_alloc] at hb2
  have hl := (Le.alloc w (.cells (cells4 vs) 44)).trans (Le.alloc _ (.cells (cells4 us) 44))
  go_enter Try.func9, Try.ntmps9
  go_wp2
  go_loopw [5] (fun i wr => ∃ k : Nat, k ≤ 4 ∧ i = .int .i64 k ∧ Hid (∀ j, j < k → s.at j = t.at j) ∧ Le ((w.alloc (.cells (cells4 vs) 44)).alloc (.cells (cells4 us) 44)) wr) (fun i _ => 4 - (intOf i).toNat)
  case atStart => exact ⟨0, by omega, rfl, (fun j hj => by omega), Le.refl _⟩
  case round =>
    obtain ⟨k, hk, rfl, HS, hle⟩ := hrel
    by_cases hlt : k < 4
    · have c1 : ∀ X : Later wr, X.w.cell? ⟨w.heap.size, k, none⟩ = some (slV (vs k)) := fun X => (((hb1.le hle).le X.le).cell k).trans (cells4_at vs hlt)
      have c2 : ∀ X : Later wr, X.w.cell? ⟨w.heap.size + 1, k, none⟩ = some (slV (us k)) := fun X => (((hb2.le hle).le X.le).cell k).trans (cells4_at us hlt)
      have hfk := hf k hlt
      have hsm := fun X : Later wr => lawSameI (slV (vs k)) (slV (us k)) (s.at k) (t.at k) X.w ((hr k hlt).le ((hl.trans hle).trans X.le)) ((hr' k hlt).le ((hl.trans hle).trans X.le)) hfk
      by_cases he : s.at k = t.at k
      · rw [show decide (s.at k = t.at k) = true by simp [he]] at hsm
        have HE : Hid (s.at k = t.at k) := he
        clear he hb1 hb2 hfk
        go_wp2_with fail
        refine wp_region_later (by kernel_rfl) (by kernel_rfl) ?_
        repeat (go_big_quiet_step (first | (go_at_call 10; exact Calls.later (hsm _))))
        refine wpQuiet_nil ?_
        rintro _ ⟨x, rfl⟩
        go_wp2
        go_roundw
        case rel => exact ⟨k + 1, by omega, by go_num, (fun j hj => by rcases Nat.lt_or_eq_of_le (Nat.le_of_lt_succ hj) with h | h; exact HS.out j h; exact h ▸ HE.out), hle.trans x.le⟩
        case measure => simp [intOf]; omega
      · rw [show decide (s.at k = t.at k) = false by simp [he]] at hsm
        have HE : Hid (¬ s = t) := fun h => he (by rw [h])
        clear he hb1 hb2 hfk
        go_wp2_with fail
        refine wp_region_later (by kernel_rfl) (by kernel_rfl) ?_
        repeat (go_big_quiet_step (first | (go_at_call 10; exact Calls.later (hsm _))))
        refine wpQuiet_nil ?_
        rintro _ ⟨x, rfl⟩
        go_wp2
        go_ret
        exact ⟨ret_bool (by have := HE.out; simp [this]), (hl.trans hle).trans x.le⟩
    · obtain rfl : k = 4 := by omega
      go_wp2
      go_ret
      exact ⟨ret_bool (by have := St.ext_at HS.out; simp [this]), hl.trans hle⟩

end Go.Proofs.Ytibleipfablniaa

/-
  THE WALK over choruslaw0.SpoilInts: numbers in the call's own memory are written over, and nothing else turns. No condition but that they may be written over.
-/
namespace Go.Proofs.Ytibleipfablniaa
open Go.RowKit

set_option maxHeartbeats 400000 in
theorem lawSpoil (v : Value) (base : Nat) (w : World) (hx : Ints w base v) :
    Calls Try.prog 32 #[v] w fun e w' => e = .returned (.tuple #[]) ∧ Spoilt base w w' := by
  obtain ⟨a, L, cap, rfl, hc, hm, hx⟩ := hx
  rcases Nat.eq_zero_or_pos L with h0 | h0
  · subst h0
    go_enter Try.func32, Try.ntmps32
    go_wp2
    refine wp_loop_rounds 1 ?_
    rw [rounds_succ]
    go_wp2
    go_end0
    exact ⟨rfl, Spoilt.refl _ _⟩
  · obtain ⟨b, off, rfl, hb, hcell⟩ := hx h0
    clear hx
    go_enter Try.func32, Try.ntmps32
    go_wp2
    go_loopw [2] (fun i wr => ∃ k : Nat, k ≤ L ∧ i = .int .i64 k ∧ Spoilt base w wr) (fun i _ => L - (intOf i).toNat)
    case atStart => exact ⟨0, Nat.zero_le _, rfl, Spoilt.refl _ _⟩
    case round =>
      obtain ⟨k, hk, rfl, hsp⟩ := hrel
      by_cases hlt : k < L
      · obtain ⟨⟨x0, h1⟩, h2⟩ := hcell k hlt
        have hfz := hsp.thaw _ (World.block_lt_of_cell? w _ h1) h2
        obtain ⟨x, hcl⟩ := hsp.ints _ _ h1
        clear h1 h2 hcell
        go_wp2
        go_roundw
        case rel => exact ⟨k + 1, by omega, by go_num, hsp.trans (Spoilt.store hcl hb)⟩
        case measure => simp [intOf]; omega
      · go_wp2
        go_end0
        exact ⟨rfl, hsp⟩

end Go.Proofs.Ytibleipfablniaa

/-
  THE WALKS over choruslaw0's SameEvents, SpoilEvents, SameThread: what each does, for all events and threads. Condition: that the rows can be copied.
-/
namespace Go.Proofs.Ytibleipfablniaa
open Go.RowKit

theorem take_sameE {α : Type} {xs ys : List α} {d : α} {k : Nat} (h1 : k < xs.length) (h2 : k < ys.length) (h : xs.take k = ys.take k) (he : xs.getD k d = ys.getD k d) : xs.take (k + 1) = ys.take (k + 1) := by
  rw [List.take_succ_eq_append_getElem h1, List.take_succ_eq_append_getElem h2, h]
  simp [List.getD, h1, h2] at he
  rw [he]
theorem ne_of_atE {α : Type} {xs ys : List α} {d : α} {k : Nat} (he : ¬ xs.getD k d = ys.getD k d) : ¬ xs = ys := fun h => he (by rw [h])

theorem ev_ne {x y : Ev} (h : ¬ x = y) : (x.t == y.t) = false ∨ ((x.t == y.t) = true ∧ (x.ca == y.ca) = false) ∨ ((x.t == y.t) = true ∧ (x.ca == y.ca) = true ∧ (x.c == y.c) = false) ∨ ((x.t == y.t) = true ∧ (x.ca == y.ca) = true ∧ (x.c == y.c) = true ∧ (x.r == y.r) = false) ∨ ((x.t == y.t) = true ∧ (x.ca == y.ca) = true ∧ (x.c == y.c) = true ∧ (x.r == y.r) = true ∧ (x.a == y.a) = false) ∨ ((x.t == y.t) = true ∧ (x.ca == y.ca) = true ∧ (x.c == y.c) = true ∧ (x.r == y.r) = true ∧ (x.a == y.a) = true ∧ (x.an == y.an) = false) := by
  cases e0 : x.t == y.t
  · exact .inl rfl
  cases e1 : x.ca == y.ca
  · exact .inr (.inl ⟨rfl, rfl⟩)
  cases e2 : x.c == y.c
  · exact .inr (.inr (.inl ⟨rfl, rfl, rfl⟩))
  cases e3 : x.r == y.r
  · exact .inr (.inr (.inr (.inl ⟨rfl, rfl, rfl, rfl⟩)))
  cases e4 : x.a == y.a
  · exact .inr (.inr (.inr (.inr (.inl ⟨rfl, rfl, rfl, rfl, rfl⟩))))
  cases e5 : x.an == y.an
  · exact .inr (.inr (.inr (.inr (.inr ⟨rfl, rfl, rfl, rfl, rfl, rfl⟩))))
  exfalso
  obtain ⟨_, _, _, _, _, _⟩ := x
  obtain ⟨_, _, _, _, _, _⟩ := y
  simp at e0 e1 e2 e3 e4 e5
  subst e0 e1 e2 e3 e4 e5
  exact h rfl

set_option maxHeartbeats 1000000 in
theorem lawSameEvents (v u : Value) (xs ys : List Ev) (w : World) (hx : HasE evK w v xs) (hy : HasE evK w u ys) (hm : xs.length ≤ 9223372036854775807) :
    Calls Try.prog 28 #[v, u] w fun e w' => e = .returned (.bool (decide (xs = ys))) ∧ Le w w' := by
  obtain ⟨a, cap, rfl, hc, _, hx⟩ := hx.openEv
  obtain ⟨c, cap', rfl, hc', _, hy⟩ := hy.openEv
  by_cases hl : xs.length = ys.length
  · by_cases h0 : 0 < xs.length
    · obtain ⟨b, off, rfl, hcell⟩ := hx h0
      obtain ⟨b', off', rfl, hcell'⟩ := hy (by omega)
      have HL : Hid (xs.length = ys.length) := hl
      obtain ⟨L, hL⟩ : ∃ L, L = xs.length := ⟨_, rfl⟩
      rw [← hL] at hm ⊢
      have hL' : ys.length = L := by omega
      rw [hL']
      have HLx : Hid (xs.length = L) := hL.symm
      have HLy : Hid (ys.length = L) := hL'
      rw [← hL] at hcell h0 hc
      rw [hL'] at hcell' hc'
      clear hl hx hy hL hL'
      go_enter Try.func28, Try.ntmps28
      go_wp2
      go_loopw [5] (fun i wr => ∃ k n : Nat, k ≤ L ∧ i = .int .i64 k ∧ Hid (xs.take k = ys.take k) ∧ wr = w.drewN n) (fun i _ => L - (intOf i).toNat)
      case atStart => exact ⟨0, 0, Nat.zero_le _, rfl, rfl, rfl⟩
      case round =>
        obtain ⟨k, n, hk, rfl, HT, rfl⟩ := hrel
        by_cases hlt : k < L
        · obtain ⟨x, hxk⟩ : ∃ x, x = xs.getD k Ev.zero := ⟨_, rfl⟩
          obtain ⟨x0, x1, x2, x3, x4, x5⟩ := hcell k hlt
          rw [← hxk] at x0 x1 x2 x3 x4 x5
          obtain ⟨y, hyk⟩ : ∃ y, y = ys.getD k Ev.zero := ⟨_, rfl⟩
          obtain ⟨y0, y1, y2, y3, y4, y5⟩ := hcell' k hlt
          rw [← hyk] at y0 y1 y2 y3 y4 y5
          have HX : Hid (x = xs.getD k Ev.zero) := hxk
          have HY : Hid (y = ys.getD k Ev.zero) := hyk
          have hlt' : (k : Int) < (L : Int) := by omega
          clear hxk hyk hcell hcell'
          by_cases hxy : x = y
          · subst hxy
            go_wp2
            go_quiet (fail)
            go_wp2
            go_roundw
            case rel => exact ⟨k + 1, n + nq, by omega, by go_num, take_sameE (by have := HLx.out; omega) (by have := HLy.out; omega) HT.out (by rw [← HX.out, ← HY.out]), rfl⟩
            case measure => simp [intOf]; omega
          · have HN : Hid (¬ x = y) := hxy
            rcases ev_ne hxy with e0 | ⟨e0, e1⟩ | ⟨e0, e1, e2⟩ | ⟨e0, e1, e2, e3⟩ | ⟨e0, e1, e2, e3, e4⟩ | ⟨e0, e1, e2, e3, e4, e5⟩
            all_goals
              clear hxy
              go_wp2
              go_quiet (fail)
              go_wp2
              go_ret
              exact ⟨ret_bool (by have := ne_of_atE (k := k) (d := Ev.zero) (xs := xs) (ys := ys) (by rw [← HX.out, ← HY.out]; exact HN.out); simp [this]), by rw [World.drewN_drewN]; exact Le.drewN _ _⟩
        · go_wp2
          go_ret
          refine ⟨ret_bool ?_, Le.drewN _ _⟩
          have h1 := HLx.out
          have h2 := HLy.out
          have := HT.out
          rw [List.take_of_length_le (by omega), List.take_of_length_le (by omega)] at this
          simp [this]
    · have hxn : xs = [] := by cases xs with | nil => rfl | cons _ _ => simp at h0
      have hyn : ys = [] := by cases ys with | nil => rfl | cons _ _ => subst hxn; simp at hl
      subst hxn hyn
      go_enter Try.func28, Try.ntmps28
      go_wp2
      refine wp_loop_rounds 1 ?_
      rw [rounds_succ]
      go_wp2
      go_ret
      exact ⟨ret_bool (by simp), Le.refl _⟩
  · have hne : (((xs.length : Int)) != (ys.length : Int)) = true := by simp; omega
    have HN : Hid (¬ xs = ys) := fun h => hl (by rw [h])
    clear hl
    go_enter Try.func28, Try.ntmps28
    go_wp2
    go_ret
    exact ⟨ret_bool (by have := HN.out; simp [this]), Le.refl _⟩

set_option maxHeartbeats 400000 in
theorem lawSpoilEvents (v : Value) (base : Nat) (w : World) (hx : IntsRow 6 EvX w base v) :
    Calls Try.prog 29 #[v] w fun e w' => e = .returned (.tuple #[]) ∧ Spoilt base w w' := by
  obtain ⟨a, L, cap, rfl, hc, hm, hx⟩ := hx
  rcases Nat.eq_zero_or_pos L with h0 | h0
  · subst h0
    go_enter Try.func29, Try.ntmps29
    go_wp2
    refine wp_loop_rounds 1 ?_
    rw [rounds_succ]
    go_wp2
    go_end0
    exact ⟨rfl, Spoilt.refl _ _⟩
  · obtain ⟨b, off, rfl, hb, hcell⟩ := hx h0
    clear hx
    go_enter Try.func29, Try.ntmps29
    go_wp2
    go_loopw [2] (fun i wr => ∃ k : Nat, k ≤ L ∧ i = .int .i64 k ∧ Spoilt base w wr) (fun i _ => L - (intOf i).toNat)
    case atStart => exact ⟨0, Nat.zero_le _, rfl, Spoilt.refl _ _⟩
    case round =>
      obtain ⟨k, hk, rfl, hsp⟩ := hrel
      by_cases hlt : k < L
      · obtain ⟨⟨x, hcl⟩, hfz⟩ := (hcell k hlt).spoilt hsp
        clear hcell
        go_wp2
        go_roundw
        case rel => exact ⟨k + 1, by omega, by go_num, hsp.trans (Spoilt.store hcl hb)⟩
        case measure => simp [intOf]; omega
      · go_wp2
        go_end0
        exact ⟨rfl, hsp⟩

end Go.Proofs.Ytibleipfablniaa

/-
  THE WALK over choruslaw0's SameThread: whether two threads are the same, for all threads. Condition: that their rows can be copied.
-/
namespace Go.Proofs.Ytibleipfablniaa
open Go.RowKit

abbrev cellsT (T : Th) (b t : Sl) : Array Value := #[.int .i64 T.st, .int .i64 T.c, .int .i64 T.r, .int .i64 T.a, .int .i64 T.lg, .int .i64 T.sn, slV b, .int .i64 T.pl, .bool T.po, .bool T.re, .int .i64 T.an, slV t]
theorem Box.th {w : World} {g : Nat} {T : Th} {b t : Sl} {ty : TypeId} (h : Box w g (cellsT T b t) ty) :
    w.cell? ⟨g, 0, none⟩ = some (.int .i64 T.st) ∧ w.cell? ⟨g, 1, none⟩ = some (.int .i64 T.c) ∧ w.cell? ⟨g, 2, none⟩ = some (.int .i64 T.r) ∧ w.cell? ⟨g, 3, none⟩ = some (.int .i64 T.a) ∧
    w.cell? ⟨g, 4, none⟩ = some (.int .i64 T.lg) ∧ w.cell? ⟨g, 5, none⟩ = some (.int .i64 T.sn) ∧ w.cell? ⟨g, 6, none⟩ = some (slV b) ∧ w.cell? ⟨g, 7, none⟩ = some (.int .i64 T.pl) ∧
    w.cell? ⟨g, 8, none⟩ = some (.bool T.po) ∧ w.cell? ⟨g, 9, none⟩ = some (.bool T.re) ∧ w.cell? ⟨g, 10, none⟩ = some (.int .i64 T.an) ∧ w.cell? ⟨g, 11, none⟩ = some (slV t) :=
  ⟨h.cell 0, h.cell 1, h.cell 2, h.cell 3, h.cell 4, h.cell 5, h.cell 6, h.cell 7, h.cell 8, h.cell 9, h.cell 10, h.cell 11⟩

set_option maxRecDepth 8000 in
set_option maxHeartbeats 8000000 in
theorem lawSameThread (v u : Value) (T S : Th) (w : World) (hx : HasT w v T) (hy : HasT w u S) (hf : T.b.length * 8 ≤ 140737488351232) (hf2 : T.tl.length * 8 ≤ 140737488351232) :
    Calls Try.prog 11 #[v, u] w fun e w' => e = .returned (.bool (decide (T = S))) ∧ Le w w' := by
  obtain ⟨q, t, rfl, hq, ht⟩ := hx
  obtain ⟨q', t', rfl, hq', ht'⟩ := hy
  have hl := (Le.alloc w (.cells (cellsT T q t) 52)).trans (Le.alloc _ (.cells (cellsT S q' t') 52))
  have hb1 := (Box.new w (cellsT T q t) 52).le (Le.alloc _ (.cells (cellsT S q' t') 52))
  have hb2 := Box.new (w.alloc (.cells (cellsT T q t) 52)) (cellsT S q' t') 52
  rw [World.size_alloc] at hb2
  obtain ⟨x0, x1, x2, x3, x4, x5, xb, x7, x8, x9, x10, xt⟩ := T
  obtain ⟨y0, y1, y2, y3, y4, y5, yb, y7, y8, y9, y10, yt⟩ := S
  simp only at hq ht hq' ht' hf hf2 ⊢
  have hs := lawSameI _ _ xb yb _ (hq.le hl) (hq'.le hl) hf
  have hs2 := fun w' (l : Le ((w.alloc (.cells (cellsT ⟨x0, x1, x2, x3, x4, x5, xb, x7, x8, x9, x10, xt⟩ q t) 52)).alloc (.cells (cellsT ⟨y0, y1, y2, y3, y4, y5, yb, y7, y8, y9, y10, yt⟩ q' t') 52)) w') => lawSameI _ _ xt yt w' (ht.le (hl.trans l)) (ht'.le (hl.trans l)) hf2
  by_cases e0 : x0 = y0
  case neg =>
    rw [show decide _ = false from decide_eq_false (fun h => e0 (congrArg Th.st h))]
    have hne : (x0 == y0) = false := by simp [e0]
    clear hs2
    clear e0
    go_enter Try.func11, Try.ntmps11
    go_wp2_with fail
    go_ret
    exact ⟨rfl, hl⟩
  subst e0
  by_cases e1 : x1 = y1
  case neg =>
    rw [show decide _ = false from decide_eq_false (fun h => e1 (congrArg Th.c h))]
    have hne : (x1 == y1) = false := by simp [e1]
    clear hs2
    clear e1
    go_enter Try.func11, Try.ntmps11
    go_wp2_with fail
    go_ret
    exact ⟨rfl, hl⟩
  subst e1
  by_cases e2 : x2 = y2
  case neg =>
    rw [show decide _ = false from decide_eq_false (fun h => e2 (congrArg Th.r h))]
    have hne : (x2 == y2) = false := by simp [e2]
    clear hs2
    clear e2
    go_enter Try.func11, Try.ntmps11
    go_wp2_with fail
    go_ret
    exact ⟨rfl, hl⟩
  subst e2
  by_cases e3 : x3 = y3
  case neg =>
    rw [show decide _ = false from decide_eq_false (fun h => e3 (congrArg Th.a h))]
    have hne : (x3 == y3) = false := by simp [e3]
    clear hs2
    clear e3
    go_enter Try.func11, Try.ntmps11
    go_wp2_with fail
    go_ret
    exact ⟨rfl, hl⟩
  subst e3
  by_cases e4 : x4 = y4
  case neg =>
    rw [show decide _ = false from decide_eq_false (fun h => e4 (congrArg Th.lg h))]
    have hne : (x4 == y4) = false := by simp [e4]
    clear hs2
    clear e4
    go_enter Try.func11, Try.ntmps11
    go_wp2_with fail
    go_ret
    exact ⟨rfl, hl⟩
  subst e4
  by_cases e5 : x5 = y5
  case neg =>
    rw [show decide _ = false from decide_eq_false (fun h => e5 (congrArg Th.sn h))]
    have hne : (x5 == y5) = false := by simp [e5]
    clear hs2
    clear e5
    go_enter Try.func11, Try.ntmps11
    go_wp2_with fail
    go_ret
    exact ⟨rfl, hl⟩
  subst e5
  by_cases e6 : xb = yb
  case neg =>
    rw [show decide _ = false from decide_eq_false (fun h => e6 (congrArg Th.b h))]
    rw [decide_eq_false e6] at hs
    clear hs2
    clear e6
    go_enter Try.func11, Try.ntmps11
    go_wp2_with fail
    refine hs.mono ?_
    rintro e w1 ⟨rfl, l1⟩
    obtain ⟨b0, b1, b2, b3, b4, b5, b6, b7, b8, b9, b10, b11⟩ := (hb1.le l1).th
    obtain ⟨c0, c1, c2, c3, c4, c5, c6, c7, c8, c9, c10, c11⟩ := (hb2.le l1).th
    go_wp2_with fail
    go_ret
    exact ⟨rfl, hl.trans l1⟩
  subst e6
  by_cases e7 : x7 = y7
  case neg =>
    rw [show decide _ = false from decide_eq_false (fun h => e7 (congrArg Th.pl h))]
    simp only [decide_true] at hs
    have hne : (x7 == y7) = false := by simp [e7]
    clear hs2
    clear e7
    go_enter Try.func11, Try.ntmps11
    go_wp2_with fail
    refine hs.mono ?_
    rintro e w1 ⟨rfl, l1⟩
    obtain ⟨b0, b1, b2, b3, b4, b5, b6, b7, b8, b9, b10, b11⟩ := (hb1.le l1).th
    obtain ⟨c0, c1, c2, c3, c4, c5, c6, c7, c8, c9, c10, c11⟩ := (hb2.le l1).th
    go_wp2_with fail
    go_ret
    exact ⟨rfl, hl.trans l1⟩
  subst e7
  by_cases e8 : x8 = y8
  case neg =>
    rw [show decide _ = false from decide_eq_false (fun h => e8 (congrArg Th.po h))]
    simp only [decide_true] at hs
    have hne : (x8 == y8) = false := by simp [e8]
    clear hs2
    clear e8
    go_enter Try.func11, Try.ntmps11
    go_wp2_with fail
    refine hs.mono ?_
    rintro e w1 ⟨rfl, l1⟩
    obtain ⟨b0, b1, b2, b3, b4, b5, b6, b7, b8, b9, b10, b11⟩ := (hb1.le l1).th
    obtain ⟨c0, c1, c2, c3, c4, c5, c6, c7, c8, c9, c10, c11⟩ := (hb2.le l1).th
    go_wp2_with fail
    go_ret
    exact ⟨rfl, hl.trans l1⟩
  subst e8
  by_cases e9 : x9 = y9
  case neg =>
    rw [show decide _ = false from decide_eq_false (fun h => e9 (congrArg Th.re h))]
    simp only [decide_true] at hs
    have hne : (x9 == y9) = false := by simp [e9]
    clear hs2
    clear e9
    go_enter Try.func11, Try.ntmps11
    go_wp2_with fail
    refine hs.mono ?_
    rintro e w1 ⟨rfl, l1⟩
    obtain ⟨b0, b1, b2, b3, b4, b5, b6, b7, b8, b9, b10, b11⟩ := (hb1.le l1).th
    obtain ⟨c0, c1, c2, c3, c4, c5, c6, c7, c8, c9, c10, c11⟩ := (hb2.le l1).th
    go_wp2_with fail
    go_ret
    exact ⟨rfl, hl.trans l1⟩
  subst e9
  by_cases e10 : x10 = y10
  case neg =>
    rw [show decide _ = false from decide_eq_false (fun h => e10 (congrArg Th.an h))]
    simp only [decide_true] at hs
    have hne : (x10 == y10) = false := by simp [e10]
    clear hs2
    clear e10
    go_enter Try.func11, Try.ntmps11
    go_wp2_with fail
    refine hs.mono ?_
    rintro e w1 ⟨rfl, l1⟩
    obtain ⟨b0, b1, b2, b3, b4, b5, b6, b7, b8, b9, b10, b11⟩ := (hb1.le l1).th
    obtain ⟨c0, c1, c2, c3, c4, c5, c6, c7, c8, c9, c10, c11⟩ := (hb2.le l1).th
    go_wp2_with fail
    go_ret
    exact ⟨rfl, hl.trans l1⟩
  subst e10
  by_cases e11 : xt = yt
  case neg =>
    rw [show decide _ = false from decide_eq_false (fun h => e11 (congrArg Th.tl h))]
    simp only [decide_true] at hs
    simp only [decide_eq_false e11] at hs2
    clear e11
    go_enter Try.func11, Try.ntmps11
    go_wp2_with fail
    refine hs.mono ?_
    rintro e w1 ⟨rfl, l1⟩
    obtain ⟨b0, b1, b2, b3, b4, b5, b6, b7, b8, b9, b10, b11⟩ := (hb1.le l1).th
    obtain ⟨c0, c1, c2, c3, c4, c5, c6, c7, c8, c9, c10, c11⟩ := (hb2.le l1).th
    go_wp2_with fail
    refine (hs2 _ l1).mono ?_
    rintro e w2 ⟨rfl, l2⟩
    go_wp2_with fail
    go_ret
    exact ⟨rfl, (hl.trans l1).trans l2⟩
  subst e11
  simp only [decide_true] at hs hs2 ⊢
  go_enter Try.func11, Try.ntmps11
  go_wp2_with fail
  refine hs.mono ?_
  rintro e w1 ⟨rfl, l1⟩
  obtain ⟨b0, b1, b2, b3, b4, b5, b6, b7, b8, b9, b10, b11⟩ := (hb1.le l1).th
  obtain ⟨c0, c1, c2, c3, c4, c5, c6, c7, c8, c9, c10, c11⟩ := (hb2.le l1).th
  go_wp2_with fail
  refine (hs2 _ l1).mono ?_
  rintro e w2 ⟨rfl, l2⟩
  go_wp2_with fail
  go_ret
  exact ⟨rfl, (hl.trans l1).trans l2⟩

end Go.Proofs.Ytibleipfablniaa

/-
  THE WALK over choruslaw0's SameMachine: whether two machines are the same, for all machines. Condition: that the first one's rows can be copied.
-/
namespace Go.Proofs.Ytibleipfablniaa
open Go.RowKit

theorem cell_later {w : World} {p : Addr} {v : Value} (h : w.cell? p = some v) : ∀ X : Later w, X.w.cell? p = some v := fun X => cell_le h X.le
theorem RingAt.later {w : World} {b off : Nat} {R : Rg} {q : Sl} (h : RingAt w b off R q) :
    (∀ X : Later w, X.w.cell? ⟨b, off, none⟩ = some (.int .i64 R.h)) ∧ (∀ X : Later w, X.w.cell? ⟨b, off + 1, none⟩ = some (.int .i64 R.t)) ∧ (∀ X : Later w, X.w.cell? ⟨b, off + 2, none⟩ = some (.int .i64 R.f)) ∧ (∀ X : Later w, X.w.cell? ⟨b, off + 3, none⟩ = some (slV q)) :=
  ⟨cell_later h.1, cell_later h.2.1, cell_later h.2.2.1, cell_later h.2.2.2⟩
theorem ThAt.later {w : World} {b off : Nat} {T : Th} {q t : Sl} (h : ThAt w b off T q t) :
    (∀ X : Later w, X.w.cell? ⟨b, off, none⟩ = some (.int .i64 T.st)) ∧ (∀ X : Later w, X.w.cell? ⟨b, off + 1, none⟩ = some (.int .i64 T.c)) ∧ (∀ X : Later w, X.w.cell? ⟨b, off + 2, none⟩ = some (.int .i64 T.r)) ∧ (∀ X : Later w, X.w.cell? ⟨b, off + 3, none⟩ = some (.int .i64 T.a)) ∧
    (∀ X : Later w, X.w.cell? ⟨b, off + 4, none⟩ = some (.int .i64 T.lg)) ∧ (∀ X : Later w, X.w.cell? ⟨b, off + 5, none⟩ = some (.int .i64 T.sn)) ∧ (∀ X : Later w, X.w.cell? ⟨b, off + 6, none⟩ = some (slV q)) ∧ (∀ X : Later w, X.w.cell? ⟨b, off + 7, none⟩ = some (.int .i64 T.pl)) ∧
    (∀ X : Later w, X.w.cell? ⟨b, off + 8, none⟩ = some (.bool T.po)) ∧ (∀ X : Later w, X.w.cell? ⟨b, off + 9, none⟩ = some (.bool T.re)) ∧ (∀ X : Later w, X.w.cell? ⟨b, off + 10, none⟩ = some (.int .i64 T.an)) ∧ (∀ X : Later w, X.w.cell? ⟨b, off + 11, none⟩ = some (slV t)) := by
  obtain ⟨h0, h1, h2, h3, h4, h5, h6, h7, h8, h9, h10, h11⟩ := h
  exact ⟨cell_later h0, cell_later h1, cell_later h2, cell_later h3, cell_later h4, cell_later h5, cell_later h6, cell_later h7, cell_later h8, cell_later h9, cell_later h10, cell_later h11⟩

theorem cfg_ne {x y : Cfg} (h : ¬ x = y) : (x.o == y.o) = false ∨ ((x.o == y.o) = true ∧ (x.r == y.r) = false) ∨ ((x.o == y.o) = true ∧ (x.r == y.r) = true ∧ (x.l == y.l) = false) ∨ ((x.o == y.o) = true ∧ (x.r == y.r) = true ∧ (x.l == y.l) = true ∧ (x.t == y.t) = false) ∨ ((x.o == y.o) = true ∧ (x.r == y.r) = true ∧ (x.l == y.l) = true ∧ (x.t == y.t) = true ∧ (x.s == y.s) = false) := by
  cases e0 : x.o == y.o
  · exact .inl rfl
  cases e1 : x.r == y.r
  · exact .inr (.inl ⟨rfl, rfl⟩)
  cases e2 : x.l == y.l
  · exact .inr (.inr (.inl ⟨rfl, rfl, rfl⟩))
  cases e3 : x.t == y.t
  · exact .inr (.inr (.inr (.inl ⟨rfl, rfl, rfl, rfl⟩)))
  cases e4 : x.s == y.s
  · exact .inr (.inr (.inr (.inr ⟨rfl, rfl, rfl, rfl, rfl⟩)))
  exfalso
  obtain ⟨_, _, _, _, _⟩ := x
  obtain ⟨_, _, _, _, _⟩ := y
  simp at e0 e1 e2 e3 e4
  subst e0 e1 e2 e3 e4
  exact h rfl

/-- What stands in the world behind the two machines' boxes. -/
structure Two9 (W : World) (g : Nat) (c c' : Cfg) (qR qP qT qH qR' qP' qT' qH' : Sl) : Prop where
  b1 : Box W g (cells9 c qR qP qT qH) 31
  b2 : Box W (g + 1) (cells9 c' qR' qP' qT' qH') 31
theorem Two9.le {W W' : World} {g : Nat} {c c' : Cfg} {qR qP qT qH qR' qP' qT' qH' : Sl} (h : Two9 W g c c' qR qP qT qH qR' qP' qT' qH') (l : Le W W') : Two9 W' g c c' qR qP qT qH qR' qP' qT' qH' := ⟨h.b1.le l, h.b2.le l⟩

set_option maxRecDepth 4000 in
set_option maxHeartbeats 8000000 in
theorem lawSameMachineNo (v u : Value) (M N : Mc) (w : World) (hx : HasM w v M) (hy : HasM w u N) (hf : FitM M) (hne : ¬ (M.c = N.c ∧ M.rs.length = N.rs.length ∧ M.ps.length = N.ps.length ∧ M.ts.length = N.ts.length ∧ M.es = N.es)) :
    Calls Try.prog 13 #[v, u] w fun e w' => e = .returned (.bool false) ∧ Le w w' := by
  obtain ⟨c, Rs, Ps, Ts, Es⟩ := M
  obtain ⟨c', Rs', Ps', Ts', Es'⟩ := N
  obtain ⟨⟨aR, nR, cR⟩, ⟨aP, nP, cP⟩, ⟨aT, nT, cT⟩, qH, rfl, hR, hP, hT, hH⟩ := hx
  obtain ⟨⟨aR', nR', cR'⟩, ⟨aP', nP', cP'⟩, ⟨aT', nT', cT'⟩, qH', rfl, hR', hP', hT', hH'⟩ := hy
  have f4 := hf.es
  simp only at hR hP hT hH hR' hP' hT' hH' hne f4 ⊢
  have l1 := hR.len
  have l2 := hP.len
  have l3 := hT.len
  have l1' := hR'.len
  have l2' := hP'.len
  have l3' := hT'.len
  simp only at l1 l2 l3 l1' l2' l3'
  rw [← l1, ← l2, ← l3, ← l1', ← l2', ← l3'] at hne
  clear l1 l2 l3 l1' l2' l3' hR hP hT hR' hP' hT' hf
  have hl := (Le.alloc w (.cells (cells9 c (aR, nR, cR) (aP, nP, cP) (aT, nT, cT) qH) 31)).trans (Le.alloc _ (.cells (cells9 c' (aR', nR', cR') (aP', nP', cP') (aT', nT', cT') qH') 31))
  have hev := lawSameEvents _ _ Es Es' _ (hH.le hl) (hH'.le hl) (by omega)
  clear hH hH' f4
  by_cases ec : c = c'
  · subst ec
    by_cases e1 : nR = nR'
    · subst e1
      by_cases e2 : nP = nP'
      · subst e2
        by_cases e3 : nT = nT'
        · subst e3
          have e4 : ¬ Es = Es' := fun h => hne ⟨rfl, rfl, rfl, rfl, h⟩
          rw [decide_eq_false e4] at hev
          clear hne e4
          go_enter Try.func13, Try.ntmps13
          go_wp2_with fail
          refine hev.mono ?_
          rintro e w1 ⟨rfl, m1⟩
          go_wp2_with fail
          go_ret
          exact ⟨rfl, hl.trans m1⟩
        · have hn : ((nT : Int) != (nT' : Int)) = true := by simp; omega
          clear hne e3 hev
          go_enter Try.func13, Try.ntmps13
          go_wp2_with fail
          go_ret
          exact ⟨rfl, hl⟩
      · have hn : ((nP : Int) != (nP' : Int)) = true := by simp; omega
        clear hne e2 hev
        go_enter Try.func13, Try.ntmps13
        go_wp2_with fail
        go_ret
        exact ⟨rfl, hl⟩
    · have hn : ((nR : Int) != (nR' : Int)) = true := by simp; omega
      clear hne e1 hev
      go_enter Try.func13, Try.ntmps13
      go_wp2_with fail
      go_ret
      exact ⟨rfl, hl⟩
  · rcases cfg_ne ec with e0 | ⟨e0, e1⟩ | ⟨e0, e1, e2⟩ | ⟨e0, e1, e2, e3⟩ | ⟨e0, e1, e2, e3, e4⟩
    all_goals
      clear hne ec hev
      go_enter Try.func13, Try.ntmps13
      go_wp2_with fail
      go_ret
      exact ⟨rfl, hl⟩

end Go.Proofs.Ytibleipfablniaa

/-
  THE WALK over choruslaw0's SameMachine, the rest of it: machines whose Configs, numbers of parts and histories are the same. Condition: that the first one's rows can be copied.
-/
namespace Go.Proofs.Ytibleipfablniaa
open Go.RowKit

abbrev cellsP (vs : Nat → Sl) (c l : Sl) : Array Value := #[slV (vs 0), slV (vs 1), slV (vs 2), slV (vs 3), slV c, slV l]
theorem Box.rep {w : World} {g : Nat} {vs : Nat → Sl} {c l : Sl} {ty : TypeId} (h : Box w g (cellsP vs c l) ty) :
    w.cell? ⟨g, 0, none⟩ = some (slV (vs 0)) ∧ w.cell? ⟨g, 1, none⟩ = some (slV (vs 1)) ∧ w.cell? ⟨g, 2, none⟩ = some (slV (vs 2)) ∧ w.cell? ⟨g, 3, none⟩ = some (slV (vs 3)) ∧ w.cell? ⟨g, 4, none⟩ = some (slV c) ∧ w.cell? ⟨g, 5, none⟩ = some (slV l) :=
  ⟨h.cell 0, h.cell 1, h.cell 2, h.cell 3, h.cell 4, h.cell 5⟩
theorem rp_eq {P S : Rp} : decide (P = S) = (decide (P.s = S.s) && decide (P.cs = S.cs) && decide (P.ls = S.ls)) := by
  obtain ⟨_, _, _⟩ := P
  obtain ⟨_, _, _⟩ := S
  simp [Bool.and_assoc]
theorem eq_of_takes {α : Type} {xs ys : List α} {n : Nat} (h1 : xs.length = n) (h2 : ys.length = n) (h : xs.take n = ys.take n) : xs = ys := by
  rw [List.take_of_length_le (by omega), List.take_of_length_le (by omega)] at h
  exact h

theorem two_boxes (w : World) (xs ys : Array Value) (t : TypeId) : Box ((w.alloc (.cells xs t)).alloc (.cells ys t)).drew w.heap.size xs t ∧ Box ((w.alloc (.cells xs t)).alloc (.cells ys t)).drew (w.heap.size + 1) ys t ∧ Le w ((w.alloc (.cells xs t)).alloc (.cells ys t)).drew := by
  refine ⟨((Box.new w xs t).le (Le.alloc _ _)).le (Le.drew _), ?_, ((Le.alloc _ _).trans (Le.alloc _ _)).trans (Le.drew _)⟩
  have := (Box.new (w.alloc (.cells xs t)) ys t).le (Le.drew _)
  rw [World.size_alloc] at this
  exact this

set_option maxRecDepth 4000 in
set_option maxHeartbeats 16000000 in
theorem lawSameMachineYes (v u : Value) (M N : Mc) (w : World) (hx : HasM w v M) (hy : HasM w u N) (hf : FitM M) (hc : M.c = N.c) (h1 : M.rs.length = N.rs.length) (h2 : M.ps.length = N.ps.length) (h3 : M.ts.length = N.ts.length) (h4 : M.es = N.es) :
    Calls Try.prog 13 #[v, u] w fun e w' => e = .returned (.bool (decide (M = N))) ∧ Le w w' := by
  obtain ⟨c, Rs, Ps, Ts, Es⟩ := M
  obtain ⟨c', Rs', Ps', Ts', Es'⟩ := N
  simp only at hc h1 h2 h3 h4
  subst hc h4
  obtain ⟨⟨aR, nR, cR⟩, ⟨aP, nP, cP⟩, ⟨aT, nT, cT⟩, qH, rfl, hR, hP, hT, hH⟩ := hx
  obtain ⟨⟨aR', nR', cR'⟩, ⟨aP', nP', cP'⟩, ⟨aT', nT', cT'⟩, qH', rfl, hR', hP', hT', hH'⟩ := hy
  obtain ⟨f1, f2, f3, f4, fr, fp, ft⟩ := hf
  simp only at hR hP hT hH hR' hP' hT' hH' f1 f2 f3 f4 fr fp ft
  obtain ⟨a, n, hv, nc, _, oR⟩ := hR.open
  simp only [slV, Value.slice.injEq] at hv
  obtain ⟨rfl, rfl, rfl⟩ := hv
  obtain ⟨a, n, hv, nc', _, oR'⟩ := hR'.open
  simp only [slV, Value.slice.injEq] at hv
  obtain ⟨rfl, rfl, rfl⟩ := hv
  obtain ⟨a, n, hv, pc, _, oP⟩ := hP.open
  simp only [slV, Value.slice.injEq] at hv
  obtain ⟨rfl, rfl, rfl⟩ := hv
  obtain ⟨a, n, hv, pc', _, oP'⟩ := hP'.open
  simp only [slV, Value.slice.injEq] at hv
  obtain ⟨rfl, rfl, rfl⟩ := hv
  obtain ⟨a, n, hv, tc, _, oT⟩ := hT.open
  simp only [slV, Value.slice.injEq] at hv
  obtain ⟨rfl, rfl, rfl⟩ := hv
  obtain ⟨a, n, hv, tc', _, oT'⟩ := hT'.open
  simp only [slV, Value.slice.injEq] at hv
  obtain ⟨rfl, rfl, rfl⟩ := hv
  rw [← h1] at nc' oR' ⊢
  rw [← h2] at pc' oP' ⊢
  rw [← h3] at tc' oT' ⊢
  have HR' : Hid (Rs'.length = Rs.length) := h1.symm
  have HP' : Hid (Ps'.length = Ps.length) := h2.symm
  have HT' : Hid (Ts'.length = Ts.length) := h3.symm
  have HD : Hid (∀ b, (Rs = Rs' ∧ Ps = Ps' ∧ Ts = Ts' ↔ b = true) → decide ((⟨c, Rs, Ps, Ts, Es⟩ : Mc) = ⟨c, Rs', Ps', Ts', Es⟩) = b) := fun b hb => by
    rw [Bool.eq_iff_iff, ← hb]; simp
  clear h1 h2 h3 hR hR' hP hP' hT hT'
  obtain ⟨nR, hnR⟩ : ∃ n, n = Rs.length := ⟨_, rfl⟩
  obtain ⟨nP, hnP⟩ : ∃ n, n = Ps.length := ⟨_, rfl⟩
  obtain ⟨nT, hnT⟩ : ∃ n, n = Ts.length := ⟨_, rfl⟩
  have HR : Hid (nR = Rs.length) := hnR
  have HP : Hid (nP = Ps.length) := hnP
  have HT : Hid (nT = Ts.length) := hnT
  rw [← hnR] at nc nc' oR oR' f1 ⊢
  rw [← hnP] at pc pc' oP oP' f2 ⊢
  rw [← hnT] at tc tc' oT oT' f3 ⊢
  clear hnR hnP hnT
  have hl := (Le.alloc w (.cells (cells9 c (aR, nR, cR) (aP, nP, cP) (aT, nT, cT) qH) 31)).trans (Le.alloc _ (.cells (cells9 c (aR', nR, cR') (aP', nP, cP') (aT', nT, cT') qH') 31))
  have hb1 := (Box.new w (cells9 c (aR, nR, cR) (aP, nP, cP) (aT, nT, cT) qH) 31).le (Le.alloc _ (.cells (cells9 c (aR', nR, cR') (aP', nP, cP') (aT', nT, cT') qH') 31))
  have hb2 := Box.new (w.alloc (.cells (cells9 c (aR, nR, cR) (aP, nP, cP) (aT, nT, cT) qH) 31)) (cells9 c (aR', nR, cR') (aP', nP, cP') (aT', nT, cT') qH') 31
  rw [World.size_alloc] at hb2
  have hev := lawSameEvents _ _ Es Es _ (hH.le hl) (hH'.le hl) (by omega)
  rw [decide_eq_true rfl] at hev
  clear hH hH' f4
  go_enter Try.func13, Try.ntmps13
  go_wp2_with fail
  refine hev.mono ?_
  rintro e w1 ⟨rfl, m1⟩
  clear hev
  replace hl := hl.trans m1
  replace hb1 := hb1.le m1
  replace hb2 := hb2.le m1
  clear m1
  obtain ⟨_, z5, z6, z7, _⟩ := hb1.mach
  obtain ⟨_, y5, y6, y7, _⟩ := hb2.mach
  simp only [slV] at z5 z6 z7 y5 y6 y7
  go_wp2_with fail
  go_loopw [5] (fun i wr => ∃ k : Nat, k ≤ nR ∧ i = .int .i64 k ∧ Hid (Rs.take k = Rs'.take k) ∧ Le w1 wr) (fun i _ => nR - (intOf i).toNat)
  case atStart => exact ⟨0, Nat.zero_le _, rfl, rfl, Le.refl _⟩
  case round =>
    obtain ⟨k, hk, rfl, HA, hle⟩ := hrel
    by_cases hlt : k < nR
    · obtain ⟨b, off, rfl, oRk⟩ := oR (by omega)
      obtain ⟨b', off', rfl, oRk'⟩ := oR' (by omega)
      obtain ⟨q, rA, hq⟩ := oRk k hlt
      obtain ⟨q', rA', hq'⟩ := oRk' k hlt
      obtain ⟨R, hRk⟩ : ∃ R, R = Rs.getD k Rg.zero := ⟨_, rfl⟩
      obtain ⟨R', hRk'⟩ : ∃ R, R = Rs'.getD k Rg.zero := ⟨_, rfl⟩
      have HX : Hid (R = Rs.getD k Rg.zero) := hRk
      have HX' : Hid (R' = Rs'.getD k Rg.zero) := hRk'
      rw [← hRk] at rA hq
      rw [← hRk'] at rA' hq'
      have hfR : FitR R := by rw [hRk]; exact fr _ (getD_mem (by have := HR.out; omega))
      clear hRk hRk' oR oR' oRk oRk' oP oP' oT oT'
      replace hq := (hq.le hl).le hle
      replace hq' := (hq'.le hl).le hle
      obtain ⟨x0, x1, x2, x3⟩ := ((rA.le hl).le hle).later
      obtain ⟨x0', x1', x2', x3'⟩ := ((rA'.le hl).le hle).later
      replace z5 := cell_le z5 hle
      have u5 := cell_later z5
      have u5' := cell_later (cell_le y5 hle)
      have hlt' : (k : Int) < (nR : Int) := by omega
      have hk0 : (0 : Int) ≤ (k : Int) := by omega
      have hs := fun X : Later wr => lawSameRing (ringV R.h R.t R.f q) (ringV R'.h R'.t R'.f q') R R' X.w ⟨q, rfl, hq.le X.le⟩ ⟨q', rfl, hq'.le X.le⟩ hfR
      clear rA rA' hq hq' z6 z7 y5 y6 y7 fr fp ft hfR
      by_cases hRR : R = R'
      · simp only [decide_eq_true hRR] at hs
        have HRR : Hid (R = R') := hRR
        clear hRR
        go_wp2_with fail
        refine wp_region_later (by kernel_rfl) (by kernel_rfl) ?_
        repeat (go_big_quiet_step (first | (go_at_call 8; with_reducible exact Calls.later (hs _))))
        refine wpQuiet_nil ?_
        rintro _ ⟨x, rfl⟩
        go_wp2_with fail
        go_roundw
        case rel => exact ⟨k + 1, by omega, by go_num, take_sameE (d := Rg.zero) (by have := HR.out; omega) (by have := HR.out; have := HR'.out; omega) HA.out (by rw [← HX.out, ← HX'.out]; exact HRR.out), hle.trans x.le⟩
        case measure => simp [intOf]; omega
      · simp only [decide_eq_false hRR] at hs
        have HRR : Hid (¬ R = R') := hRR
        clear hRR
        go_wp2_with fail
        refine wp_region_later (by kernel_rfl) (by kernel_rfl) ?_
        repeat (go_big_quiet_step (first | (go_at_call 8; with_reducible exact Calls.later (hs _))))
        refine wpQuiet_nil ?_
        rintro _ ⟨x, rfl⟩
        go_wp2_with fail
        go_ret
        refine ⟨ret_bool (HD.out false ?_).symm, (hl.trans hle).trans x.le⟩
        have hn := ne_of_atE (k := k) (d := Rg.zero) (xs := Rs) (ys := Rs') (by rw [← HX.out, ← HX'.out]; exact HRR.out)
        exact ⟨fun h => absurd h.1 hn, fun h => by cases h⟩
    · have HRs : Hid (Rs = Rs') := by
        have e : k = nR := by omega
        subst e
        exact eq_of_takes HR.out.symm (HR'.out.trans HR.out.symm) HA.out
      clear HA oR oR' y5 fr
      replace hl := hl.trans hle
      replace z5 := cell_le z5 hle
      replace z6 := cell_le z6 hle
      replace z7 := cell_le z7 hle
      replace y6 := cell_le y6 hle
      replace y7 := cell_le y7 hle
      clear hle hb1 hb2
      go_wp2_with fail
      go_loopw [6] (fun i wq => ∃ k : Nat, k ≤ nP ∧ i = .int .i64 k ∧ Hid (Ps.take k = Ps'.take k) ∧ Le wr wq) (fun i _ => nP - (intOf i).toNat)
      case atStart => exact ⟨0, Nat.zero_le _, rfl, rfl, Le.refl _⟩
      case round =>
        obtain ⟨j, hj, rfl, HA, hle⟩ := hrel
        by_cases hlt2 : j < nP
        · obtain ⟨b, off, rfl, oPk⟩ := oP (by omega)
          obtain ⟨b', off', rfl, oPk'⟩ := oP' (by omega)
          obtain ⟨vs, qc, ql, rA, hq0, hq1, hq2⟩ := oPk j hlt2
          obtain ⟨vs', qc', ql', rA', hq0', hq1', hq2'⟩ := oPk' j hlt2
          obtain ⟨P, hPk⟩ : ∃ R, R = Ps.getD j Rp.zero := ⟨_, rfl⟩
          obtain ⟨P', hPk'⟩ : ∃ R, R = Ps'.getD j Rp.zero := ⟨_, rfl⟩
          have HX : Hid (P = Ps.getD j Rp.zero) := hPk
          have HX' : Hid (P' = Ps'.getD j Rp.zero) := hPk'
          rw [← hPk] at hq0 hq1 hq2
          rw [← hPk'] at hq0' hq1' hq2'
          obtain ⟨g0, g1, g2⟩ : Fit P.s ∧ P.cs.length * 8 ≤ 140737488351232 ∧ P.ls.length * 8 ≤ 140737488351232 := by rw [hPk]; exact fp _ (getD_mem (by have := HP.out; omega))
          clear hPk hPk' oP oP' oPk oPk' oT oT'
          have hlw := hl.trans hle
          have HS : HasS wr (stV vs) P.s := ⟨vs, rfl, fun i hi => (hq0 i hi).le hlw⟩
          have HS' : HasS wr (stV vs') P'.s := ⟨vs', rfl, fun i hi => (hq0' i hi).le hlw⟩
          replace hq1 := hq1.le hlw
          replace hq1' := hq1'.le hlw
          replace hq2 := hq2.le hlw
          replace hq2' := hq2'.le hlw
          obtain ⟨x0, x1, x2, x3, x4, x5⟩ := rA.le hlw
          obtain ⟨x0', x1', x2', x3', x4', x5'⟩ := rA'.le hlw
          replace z6 := cell_le z6 hle
          replace y6 := cell_le y6 hle
          have hlt' : (j : Int) < (nP : Int) := by omega
          have hj0 : (0 : Int) ≤ (j : Int) := by omega
          clear rA rA' z5 z7 y7 fp ft hq0 hq0'
          have n1 := World.new_ne wr _ z6
          have n2 := World.new_ne wr _ y6
          have n3 := World.new_ne wr _ x0
          have n4 := World.new_ne wr _ x0'
          simp only at n1 n2 n3 n4
          go_upto_region 11 with fail
          go_cut [7, 8] from 76 to 107 (fun s7 s8 wc => ∃ ga gb, s7 = .pointer (some ⟨ga, 0, none⟩) ∧ s8 = .pointer (some ⟨gb, 0, none⟩) ∧ Box wc ga (cellsP vs qc ql) 46 ∧ Box wc gb (cellsP vs' qc' ql') 46 ∧ Le wr wc)
          case first =>
            go_region_held3 (fun w' => w'.cell? ⟨w.heap.size, 6, none⟩ = some (.slice (some ⟨b, off, none⟩) nP cP) ∧ w'.cell? ⟨w.heap.size + 1, 6, none⟩ = some (.slice (some ⟨b', off', none⟩) nP cP') ∧ w'.cell? ⟨b, off + j * 6, none⟩ = some (slV (vs 0)) ∧ w'.cell? ⟨b, off + j * 6 + 1, none⟩ = some (slV (vs 1)) ∧ w'.cell? ⟨b, off + j * 6 + 2, none⟩ = some (slV (vs 2)) ∧ w'.cell? ⟨b, off + j * 6 + 3, none⟩ = some (slV (vs 3)) ∧ w'.cell? ⟨b, off + j * 6 + 4, none⟩ = some (slV qc) ∧ w'.cell? ⟨b, off + j * 6 + 5, none⟩ = some (slV ql) ∧ w'.cell? ⟨b', off' + j * 6, none⟩ = some (slV (vs' 0)) ∧ w'.cell? ⟨b', off' + j * 6 + 1, none⟩ = some (slV (vs' 1)) ∧ w'.cell? ⟨b', off' + j * 6 + 2, none⟩ = some (slV (vs' 2)) ∧ w'.cell? ⟨b', off' + j * 6 + 3, none⟩ = some (slV (vs' 3)) ∧ w'.cell? ⟨b', off' + j * 6 + 4, none⟩ = some (slV qc') ∧ w'.cell? ⟨b', off' + j * 6 + 5, none⟩ = some (slV ql')) (go_keep) (fail)
            all_goals
              go_wp2_with fail
              go_meet
              case rel => first | exact ⟨_, _, rfl, rfl, (two_boxes wr _ _ _).1, (two_boxes wr _ _ _).2.1, (two_boxes wr _ _ _).2.2⟩ | exact ⟨_, _, rfl, rfl, (two_boxes wr _ _ _).2.1, (two_boxes wr _ _ _).1, (two_boxes wr _ _ _).2.2⟩
          case rest =>
            obtain ⟨ga, gb, rfl, rfl, ba, bb, lc⟩ := hcut
            clear x0 x1 x2 x3 x4 x5 x0' x1' x2' x3' x4' x5' n1 n2 n3 n4 z6 y6
            have s1 := lawSameState (stV vs) (stV vs') P.s P'.s wc (HS.le lc) (HS'.le lc) g0
            have s2 := fun w' (l : Le wr w') => lawSameI _ _ P.cs P'.cs w' (hq1.le l) (hq1'.le l) g1
            have s3 := fun w' (l : Le wr w') => lawSameI _ _ P.ls P'.ls w' (hq2.le l) (hq2'.le l) g2
            have HW : Hid (¬ P = P' → decide ((⟨c, Rs, Ps, Ts, Es⟩ : Mc) = ⟨c, Rs', Ps', Ts', Es⟩) = false) := fun hn => HD.out false ⟨fun h => absurd h.2.1 (ne_of_atE (k := j) (d := Rp.zero) (by rw [← HX.out, ← HX'.out]; exact hn)), fun h => by cases h⟩
            obtain ⟨t0, t1, t2, t3, t4, t5⟩ := ba.rep
            obtain ⟨r0, r1, r2, r3, r4, r5⟩ := bb.rep
            by_cases d1 : P.s = P'.s
            · rw [decide_eq_true d1] at s1
              by_cases d2 : P.cs = P'.cs
              · simp only [decide_eq_true d2] at s2
                by_cases d3 : P.ls = P'.ls
                · simp only [decide_eq_true d3] at s3
                  have HPP : Hid (P = P') := by
                    obtain ⟨_, _, _⟩ := P
                    obtain ⟨_, _, _⟩ := P'
                    simp only at d1 d2 d3
                    subst d1 d2 d3
                    rfl
                  clear d1 d2 d3
                  go_wp2_with fail
                  refine s1.mono ?_
                  rintro e wd ⟨rfl, ld⟩
                  obtain ⟨t0', t1', t2', t3', t4', t5'⟩ := (ba.le ld).rep
                  obtain ⟨r0', r1', r2', r3', r4', r5'⟩ := (bb.le ld).rep
                  go_wp2_with fail
                  refine (s2 _ (lc.trans ld)).mono ?_
                  rintro e we ⟨rfl, le'⟩
                  obtain ⟨_, _, _, _, _, t6⟩ := ((ba.le ld).le le').rep
                  obtain ⟨_, _, _, _, _, r6⟩ := ((bb.le ld).le le').rep
                  go_wp2_with fail
                  refine (s3 _ ((lc.trans ld).trans le')).mono ?_
                  rintro e wf ⟨rfl, lf⟩
                  go_wp2_with fail
                  go_roundw
                  case rel => exact ⟨j + 1, by omega, by go_num, take_sameE (d := Rp.zero) (by have := HP.out; omega) (by have := HP.out; have := HP'.out; omega) HA.out (by rw [← HX.out, ← HX'.out]; exact HPP.out), (((hle.trans lc).trans ld).trans le').trans lf⟩
                  case measure => simp [intOf]; omega
                · simp only [decide_eq_false d3] at s3
                  have HN : Hid (decide ((⟨c, Rs, Ps, Ts, Es⟩ : Mc) = ⟨c, Rs', Ps', Ts', Es⟩) = false) := HW.out (fun h => d3 (by rw [h]))
                  clear d1 d2 d3
                  go_wp2_with fail
                  refine s1.mono ?_
                  rintro e wd ⟨rfl, ld⟩
                  obtain ⟨t0', t1', t2', t3', t4', t5'⟩ := (ba.le ld).rep
                  obtain ⟨r0', r1', r2', r3', r4', r5'⟩ := (bb.le ld).rep
                  go_wp2_with fail
                  refine (s2 _ (lc.trans ld)).mono ?_
                  rintro e we ⟨rfl, le'⟩
                  obtain ⟨_, _, _, _, _, t6⟩ := ((ba.le ld).le le').rep
                  obtain ⟨_, _, _, _, _, r6⟩ := ((bb.le ld).le le').rep
                  go_wp2_with fail
                  refine (s3 _ ((lc.trans ld).trans le')).mono ?_
                  rintro e wf ⟨rfl, lf⟩
                  go_wp2_with fail
                  go_ret
                  exact ⟨ret_bool HN.out.symm, ((((hl.trans hle).trans lc).trans ld).trans le').trans lf⟩
              · simp only [decide_eq_false d2] at s2
                have HN : Hid (decide ((⟨c, Rs, Ps, Ts, Es⟩ : Mc) = ⟨c, Rs', Ps', Ts', Es⟩) = false) := HW.out (fun h => d2 (by rw [h]))
                clear d1 d2 s3
                go_wp2_with fail
                refine s1.mono ?_
                rintro e wd ⟨rfl, ld⟩
                obtain ⟨t0', t1', t2', t3', t4', t5'⟩ := (ba.le ld).rep
                obtain ⟨r0', r1', r2', r3', r4', r5'⟩ := (bb.le ld).rep
                go_wp2_with fail
                refine (s2 _ (lc.trans ld)).mono ?_
                rintro e we ⟨rfl, le'⟩
                go_wp2_with fail
                go_ret
                exact ⟨ret_bool HN.out.symm, (((hl.trans hle).trans lc).trans ld).trans le'⟩
            · rw [decide_eq_false d1] at s1
              have HN : Hid (decide ((⟨c, Rs, Ps, Ts, Es⟩ : Mc) = ⟨c, Rs', Ps', Ts', Es⟩) = false) := HW.out (fun h => d1 (by rw [h]))
              clear d1 s2 s3
              go_wp2_with fail
              refine s1.mono ?_
              rintro e wd ⟨rfl, ld⟩
              go_wp2_with fail
              go_ret
              exact ⟨ret_bool HN.out.symm, ((hl.trans hle).trans lc).trans ld⟩
        · have HPs : Hid (Ps = Ps') := by
            have e : j = nP := by omega
            subst e
            exact eq_of_takes HP.out.symm (HP'.out.trans HP.out.symm) HA.out
          clear HA oP oP' y6 fp z5
          replace hl := hl.trans hle
          replace z6 := cell_le z6 hle
          replace z7 := cell_le z7 hle
          replace y7 := cell_le y7 hle
          clear hle
          go_wp2_with fail
          go_loopw [9] (fun i wq => ∃ k : Nat, k ≤ nT ∧ i = .int .i64 k ∧ Hid (Ts.take k = Ts'.take k) ∧ Le wr wq) (fun i _ => nT - (intOf i).toNat)
          case atStart => exact ⟨0, Nat.zero_le _, rfl, rfl, Le.refl _⟩
          case round =>
            obtain ⟨i, hi, rfl, HA, hle⟩ := hrel
            by_cases hlt3 : i < nT
            · obtain ⟨b, off, rfl, oTk⟩ := oT (by omega)
              obtain ⟨b', off', rfl, oTk'⟩ := oT' (by omega)
              obtain ⟨q, t, rA, hq, ht⟩ := oTk i hlt3
              obtain ⟨q', t', rA', hq', ht'⟩ := oTk' i hlt3
              obtain ⟨T, hTk⟩ : ∃ R, R = Ts.getD i Th.zero := ⟨_, rfl⟩
              obtain ⟨T', hTk'⟩ : ∃ R, R = Ts'.getD i Th.zero := ⟨_, rfl⟩
              have HX : Hid (T = Ts.getD i Th.zero) := hTk
              have HX' : Hid (T' = Ts'.getD i Th.zero) := hTk'
              rw [← hTk] at rA hq ht
              rw [← hTk'] at rA' hq' ht'
              obtain ⟨g0, g1⟩ : T.b.length * 8 ≤ 140737488351232 ∧ T.tl.length * 8 ≤ 140737488351232 := by rw [hTk]; exact ft _ (getD_mem (by have := HT.out; omega))
              clear hTk hTk' oT oT' oTk oTk'
              have hlw := hl.trans hle
              obtain ⟨x0, x1, x2, x3, x4, x5, x6, x7, x8, x9, x10, x11⟩ := (rA.le hlw).later
              obtain ⟨y0, y1, y2, y3, y4, y5', y6', y7', y8, y9, y10, y11⟩ := (rA'.le hlw).later
              replace z7 := cell_le z7 hle
              have u7 := cell_later z7
              have u7' := cell_later (cell_le y7 hle)
              have hlt' : (i : Int) < (nT : Int) := by omega
              have hi0 : (0 : Int) ≤ (i : Int) := by omega
              have hs := fun X : Later wr => lawSameThread (thV T q t) (thV T' q' t') T T' X.w ⟨q, t, rfl, hq.le (hlw.trans X.le), ht.le (hlw.trans X.le)⟩ ⟨q', t', rfl, hq'.le (hlw.trans X.le), ht'.le (hlw.trans X.le)⟩ g0 g1
              clear rA rA' hq hq' ht ht' z6 y7 ft g0 g1
              by_cases hTT : T = T'
              · simp only [decide_eq_true hTT] at hs
                have HTT : Hid (T = T') := hTT
                clear hTT
                go_wp2_with fail
                refine wp_region_later (by kernel_rfl) (by kernel_rfl) ?_
                repeat (go_big_quiet_step (first | (go_at_call 11; with_reducible exact Calls.later (hs _))))
                refine wpQuiet_nil ?_
                rintro _ ⟨x, rfl⟩
                go_wp2_with fail
                go_roundw
                case rel => exact ⟨i + 1, by omega, by go_num, take_sameE (d := Th.zero) (by have := HT.out; omega) (by have := HT.out; have := HT'.out; omega) HA.out (by rw [← HX.out, ← HX'.out]; exact HTT.out), hle.trans x.le⟩
                case measure => simp [intOf]; omega
              · simp only [decide_eq_false hTT] at hs
                have HTT : Hid (¬ T = T') := hTT
                clear hTT
                go_wp2_with fail
                refine wp_region_later (by kernel_rfl) (by kernel_rfl) ?_
                repeat (go_big_quiet_step (first | (go_at_call 11; with_reducible exact Calls.later (hs _))))
                refine wpQuiet_nil ?_
                rintro _ ⟨x, rfl⟩
                go_wp2_with fail
                go_ret
                refine ⟨ret_bool (HD.out false ?_).symm, (hl.trans hle).trans x.le⟩
                have hn := ne_of_atE (k := i) (d := Th.zero) (xs := Ts) (ys := Ts') (by rw [← HX.out, ← HX'.out]; exact HTT.out)
                exact ⟨fun h => absurd h.2.2 hn, fun h => by cases h⟩
            · have HTs : Hid (Ts = Ts') := by
                have e : i = nT := by omega
                subst e
                exact eq_of_takes HT.out.symm (HT'.out.trans HT.out.symm) HA.out
              replace z7 := cell_le z7 hle
              clear oT oT' y7 z6
              go_wp2_with fail
              go_ret
              exact ⟨ret_bool (HD.out true ⟨fun _ => rfl, fun _ => ⟨HRs.out, HPs.out, HTs.out⟩⟩).symm, hl.trans hle⟩

theorem lawSameMachine (v u : Value) (M N : Mc) (w : World) (hx : HasM w v M) (hy : HasM w u N) (hf : FitM M) :
    Calls Try.prog 13 #[v, u] w fun e w' => e = .returned (.bool (decide (M = N))) ∧ Le w w' := by
  by_cases h : M.c = N.c ∧ M.rs.length = N.rs.length ∧ M.ps.length = N.ps.length ∧ M.ts.length = N.ts.length ∧ M.es = N.es
  · obtain ⟨h0, h1, h2, h3, h4⟩ := h
    exact lawSameMachineYes v u M N w hx hy hf h0 h1 h2 h3 h4
  · rw [decide_eq_false (fun e => h (by rw [e]; exact ⟨rfl, rfl, rfl, rfl, rfl⟩))]
    exact lawSameMachineNo v u M N w hx hy hf h

end Go.Proofs.Ytibleipfablniaa
