/-
  THE WALKS over choruslaw0's SameSlots, SameRing, CopyRing, SpoilSlots, SpoilRing: what each does, for every ring. Condition: where memory is made, that the slots can be copied.
-/
import Derived.Test.YtnncmjliehoknaaRfA
import Derived.Test.YtnncmjliehoknaaSameA
namespace Go.Proofs.Ytnncmjliehoknaa
open Go.RowKit

theorem take_sameL {xs ys : List Slt} {k : Nat} (h1 : k < xs.length) (h2 : k < ys.length) (h : xs.take k = ys.take k) (he : xs.getD k Slt.zero = ys.getD k Slt.zero) : xs.take (k + 1) = ys.take (k + 1) := by
  rw [List.take_succ_eq_append_getElem h1, List.take_succ_eq_append_getElem h2, h]
  simp [List.getD, h1, h2] at he
  rw [he]

theorem slt_ne {x y : Slt} (h : ¬ x = y) : (x.c == y.c) = false ∨ ((x.c == y.c) = true ∧ (x.r == y.r) = false) ∨ ((x.c == y.c) = true ∧ (x.r == y.r) = true ∧ (x.a == y.a) = false) ∨ ((x.c == y.c) = true ∧ (x.r == y.r) = true ∧ (x.a == y.a) = true ∧ (x.t == y.t) = false) ∨ ((x.c == y.c) = true ∧ (x.r == y.r) = true ∧ (x.a == y.a) = true ∧ (x.t == y.t) = true ∧ (x.b == y.b) = false) := by
  cases e0 : x.c == y.c
  · exact .inl rfl
  cases e1 : x.r == y.r
  · exact .inr (.inl ⟨rfl, rfl⟩)
  cases e2 : x.a == y.a
  · exact .inr (.inr (.inl ⟨rfl, rfl, rfl⟩))
  cases e3 : x.t == y.t
  · exact .inr (.inr (.inr (.inl ⟨rfl, rfl, rfl, rfl⟩)))
  cases e4 : x.b == y.b
  · exact .inr (.inr (.inr (.inr ⟨rfl, rfl, rfl, rfl, rfl⟩)))
  exfalso
  obtain ⟨_, _, _, _, _⟩ := x
  obtain ⟨_, _, _, _, _⟩ := y
  simp at e0 e1 e2 e3 e4
  subst e0 e1 e2 e3 e4
  exact h rfl

theorem ne_of_atL {xs ys : List Slt} {k : Nat} (he : ¬ xs.getD k Slt.zero = ys.getD k Slt.zero) : ¬ xs = ys := fun h => he (by rw [h])

set_option maxHeartbeats 400000 in
theorem lawSameSlots (v u : Value) (xs ys : List Slt) (w : World) (hx : HasL w v xs) (hy : HasL w u ys) (hm : xs.length ≤ 9223372036854775807) :
    Calls Try.prog 26 #[v, u] w fun e w' => e = .returned (.bool (decide (xs = ys))) ∧ ∃ n, w' = w.drewN n := by
  obtain ⟨a, cap, rfl, hc, _, hx⟩ := hx
  obtain ⟨c, cap', rfl, hc', _, hy⟩ := hy
  by_cases hl : xs.length = ys.length
  · by_cases h0 : 0 < xs.length
    · obtain ⟨b, off, rfl, hcell⟩ := hx h0
      obtain ⟨b', off', rfl, hcell'⟩ := hy (by omega)
      have HL : Hid (xs.length = ys.length) := hl
      obtain ⟨L, hL⟩ : ∃ L, L = xs.length := ⟨_, rfl⟩
      rw [← hL] at hm ⊢
      have hL' : ys.length = L := by omega
      rw [hL']
      have HLx : Hid (xs.length = L) := hL.symm
      have HLy : Hid (ys.length = L) := hL'
      rw [← hL] at hcell h0 hc
      rw [hL'] at hcell' hc'
      clear hl hx hy hL hL'
      go_enter Try.func26, Try.ntmps26
      go_wp2
      go_loopw [5] (fun i wr => ∃ k n : Nat, k ≤ L ∧ i = .int .i64 k ∧ Hid (xs.take k = ys.take k) ∧ wr = w.drewN n) (fun i _ => L - (intOf i).toNat)
      case atStart => exact ⟨0, 0, Nat.zero_le _, rfl, rfl, rfl⟩
      case round =>
        obtain ⟨k, n, hk, rfl, HT, rfl⟩ := hrel
        by_cases hlt : k < L
        · obtain ⟨x, hxk⟩ : ∃ x, x = xs.getD k Slt.zero := ⟨_, rfl⟩
          obtain ⟨x0, x1, x2, x3, x4⟩ := hcell k hlt
          rw [← hxk] at x0 x1 x2 x3 x4
          obtain ⟨y, hyk⟩ : ∃ y, y = ys.getD k Slt.zero := ⟨_, rfl⟩
          obtain ⟨y0, y1, y2, y3, y4⟩ := hcell' k hlt
          rw [← hyk] at y0 y1 y2 y3 y4
          have HX : Hid (x = xs.getD k Slt.zero) := hxk
          have HY : Hid (y = ys.getD k Slt.zero) := hyk
          have hlt' : (k : Int) < (L : Int) := by omega
          clear hxk hyk hcell hcell'
          by_cases hxy : x = y
          · subst hxy
            go_wp2
            go_quiet (fail)
            go_wp2
            go_roundw
            case rel => exact ⟨k + 1, n + nq, by omega, by go_num, take_sameL (by have := HLx.out; omega) (by have := HLy.out; omega) HT.out (by rw [← HX.out, ← HY.out]), rfl⟩
            case measure => simp [intOf]; omega
          · have HN : Hid (¬ x = y) := hxy
            rcases slt_ne hxy with e0 | ⟨e0, e1⟩ | ⟨e0, e1, e2⟩ | ⟨e0, e1, e2, e3⟩ | ⟨e0, e1, e2, e3, e4⟩
            all_goals
              clear hxy
              go_wp2
              go_quiet (fail)
              go_wp2
              go_ret
              exact ⟨ret_bool (by have := ne_of_atL (k := k) (xs := xs) (ys := ys) (by rw [← HX.out, ← HY.out]; exact HN.out); simp [this]), n + nq, World.drewN_drewN _ _ _⟩
        · go_wp2
          go_ret
          refine ⟨ret_bool ?_, _, rfl⟩
          have h1 := HLx.out
          have h2 := HLy.out
          have := HT.out
          rw [List.take_of_length_le (by omega), List.take_of_length_le (by omega)] at this
          simp [this]
    · have hxn : xs = [] := by cases xs with | nil => rfl | cons _ _ => simp at h0
      have hyn : ys = [] := by cases ys with | nil => rfl | cons _ _ => subst hxn; simp at hl
      subst hxn hyn
      go_enter Try.func26, Try.ntmps26
      go_wp2
      refine wp_loop_rounds 1 ?_
      rw [rounds_succ]
      go_wp2
      go_ret
      exact ⟨ret_bool (by simp), 0, rfl⟩
  · have hne : (((xs.length : Int)) != (ys.length : Int)) = true := by simp; omega
    have HN : Hid (¬ xs = ys) := fun h => hl (by rw [h])
    clear hl
    go_enter Try.func26, Try.ntmps26
    go_wp2
    go_ret
    exact ⟨ret_bool (by have := HN.out; simp [this]), 0, rfl⟩

theorem lawSameS (v u : Value) (xs ys : List Slt) (w : World) (hx : HasL w v xs) (hy : HasL w u ys) (hm : xs.length * 40 ≤ 140737488351232) :
    Calls Try.prog 26 #[v, u] w fun e w' => e = .returned (.bool (decide (xs = ys))) ∧ Le w w' :=
  (lawSameSlots v u xs ys w hx hy (by omega)).mono fun _ _ ⟨he, n, hw⟩ => ⟨he, by rw [hw]; exact Le.drewN _ _⟩

theorem rg_eq {R S : Rg} : decide (R = S) = (decide (R.h = S.h) && decide (R.t = S.t) && decide (R.f = S.f) && decide (R.ss = S.ss)) := by
  obtain ⟨_, _, _, _⟩ := R
  obtain ⟨_, _, _, _⟩ := S
  simp [Bool.and_assoc]

set_option maxHeartbeats 1000000 in
theorem lawSameRing (v u : Value) (R S : Rg) (w : World) (hx : HasR w v R) (hy : HasR w u S) (hf : FitR R) :
    Calls Try.prog 20 #[v, u] w fun e w' => e = .returned (.bool (decide (R = S))) ∧ Le w w' := by
  rw [rg_eq]
  obtain ⟨h, t, f, ss⟩ := R
  obtain ⟨h', t', f', ss'⟩ := S
  obtain ⟨q, rfl, hq⟩ := hx
  obtain ⟨q', rfl, hq'⟩ := hy
  simp only at hq hq' ⊢
  replace hf : ss.length * 40 ≤ 140737488351232 := hf
  have hl := (Le.alloc w (.cells (cellsR h t f q) 24)).trans (Le.alloc _ (.cells (cellsR h' t' f' q') 24))
  have hs := lawSameS _ _ ss ss' _ (hq.le hl) (hq'.le hl) hf
  by_cases e0 : h = h'
  · subst e0
    by_cases e1 : t = t'
    · subst e1
      by_cases e2 : f = f'
      · subst e2
        go_enter Try.func20, Try.ntmps20
        go_wp2_with fail
        refine hs.mono ?_
        rintro e w1 ⟨rfl, l1⟩
        go_wp2_with fail
        go_ret
        exact ⟨ret_bool (by simp), hl.trans l1⟩
      · have hne : (f == f') = false := by simp [e2]
        rw [show decide (f = f') = false by simp [e2]]
        clear e2
        go_enter Try.func20, Try.ntmps20
        go_wp2_with fail
        go_ret
        exact ⟨ret_bool (by simp), hl⟩
    · have hne : (t == t') = false := by simp [e1]
      rw [show decide (t = t') = false by simp [e1]]
      clear e1
      go_enter Try.func20, Try.ntmps20
      go_wp2_with fail
      go_ret
      exact ⟨ret_bool (by simp), hl⟩
  · have hne : (h == h') = false := by simp [e0]
    rw [show decide (h = h') = false by simp [e0]]
    clear e0
    go_enter Try.func20, Try.ntmps20
    go_wp2_with fail
    go_ret
    exact ⟨ret_bool (by simp), hl⟩

/-- v is a slice of whatever slots, in blocks from base on, that may be written over. -/
def IntsL (w : World) (base : Nat) (v : Value) : Prop :=
  ∃ (a : Option Addr) (n cap : Nat), v = .slice a n cap ∧ n ≤ cap ∧ n ≤ 9223372036854775807 ∧
    (0 < n → ∃ b off, a = some ⟨b, off, none⟩ ∧ base ≤ b ∧ ∀ i, i < n → (∃ x, w.cell? ⟨b, off + i * 5 + 3, none⟩ = some (.int .i64 x)) ∧ w.frozen? ⟨b, off + i * 5 + 3, none⟩ = false)
def IntsR (w : World) (base : Nat) (v : Value) : Prop := ∃ h t f q, v = ringV h t f q ∧ IntsL w base (slV q)

theorem OwnL.ints {w : World} {base : Nat} {v : Value} {ss : List Slt} (h : OwnL w base v ss) (hm : ss.length * 40 ≤ 140737488351232) : IntsL w base v := by
  have hh := h.has
  obtain ⟨a, cap, hv, hc, _, hx⟩ := hh
  refine ⟨a, ss.length, cap, hv, hc, by omega, fun hp => ?_⟩
  obtain ⟨b, off, ha, hcell⟩ := hx hp
  subst ha hv
  refine ⟨b, off, rfl, (h.block (g := b) rfl).1, fun i hi => ⟨⟨_, (hcell i hi).2.2.2.1⟩, ?_⟩⟩
  rcases h.2 with ⟨h2, _⟩ | ⟨g, cap', cur, hv, hg, hh, _⟩
  · simp at h2
  · simp only [Value.slice.injEq, Option.some.injEq, Addr.mk.injEq] at hv
    obtain ⟨⟨rfl, rfl, _⟩, _⟩ := hv
    exact Box.frozen (show Box w b cur 38 from hh) _
theorem OwnR.ints {w : World} {base : Nat} {v : Value} {R : Rg} (h : OwnR w base v R) (hf : FitR R) : IntsR w base v := by
  obtain ⟨q, hv, ho⟩ := h
  exact ⟨_, _, _, q, hv, ho.ints hf⟩
theorem IntsL.spoilt {w w' : World} {base base' : Nat} {v : Value} (h : IntsL w base v) (k : Spoilt base' w w') : IntsL w' base v := by
  obtain ⟨a, n, cap, hv, hn, hm, hx⟩ := h
  refine ⟨a, n, cap, hv, hn, hm, fun hp => ?_⟩
  obtain ⟨b, off, ha, hb, hc⟩ := hx hp
  refine ⟨b, off, ha, hb, fun i hi => ?_⟩
  obtain ⟨⟨x, h1⟩, h2⟩ := hc i hi
  exact ⟨k.ints _ _ h1, k.thaw _ (World.block_lt_of_cell? w _ h1) h2⟩
theorem IntsR.spoilt {w w' : World} {base base' : Nat} {v : Value} (h : IntsR w base v) (k : Spoilt base' w w') : IntsR w' base v := by
  obtain ⟨h', t, f, q, hv, hi⟩ := h; exact ⟨h', t, f, q, hv, hi.spoilt k⟩

set_option maxHeartbeats 400000 in
theorem lawSpoilSlots (v : Value) (base : Nat) (w : World) (hx : IntsL w base v) :
    Calls Try.prog 43 #[v] w fun e w' => e = .returned (.tuple #[]) ∧ Spoilt base w w' := by
  obtain ⟨a, L, cap, rfl, hc, hm, hx⟩ := hx
  rcases Nat.eq_zero_or_pos L with h0 | h0
  · subst h0
    go_enter Try.func43, Try.ntmps43
    go_wp2
    refine wp_loop_rounds 1 ?_
    rw [rounds_succ]
    go_wp2
    go_end0
    exact ⟨rfl, Spoilt.refl _ _⟩
  · obtain ⟨b, off, rfl, hb, hcell⟩ := hx h0
    clear hx
    go_enter Try.func43, Try.ntmps43
    go_wp2
    go_loopw [2] (fun i wr => ∃ k : Nat, k ≤ L ∧ i = .int .i64 k ∧ Spoilt base w wr) (fun i _ => L - (intOf i).toNat)
    case atStart => exact ⟨0, Nat.zero_le _, rfl, Spoilt.refl _ _⟩
    case round =>
      obtain ⟨k, hk, rfl, hsp⟩ := hrel
      by_cases hlt : k < L
      · obtain ⟨⟨x0, h1⟩, h2⟩ := hcell k hlt
        have hfz := hsp.thaw _ (World.block_lt_of_cell? w _ h1) h2
        obtain ⟨x, hcl⟩ := hsp.ints _ _ h1
        clear h1 h2 hcell
        go_wp2
        go_roundw
        case rel => exact ⟨k + 1, by omega, by go_num, hsp.trans (Spoilt.store hcl hb)⟩
        case measure => simp [intOf]; omega
      · go_wp2
        go_end0
        exact ⟨rfl, hsp⟩

theorem lawSpoilRing (v : Value) (base : Nat) (w : World) (hx : IntsR w base v) (hbase : base ≤ w.heap.size) :
    Calls Try.prog 24 #[v] w fun e w' => e = .returned (.tuple #[]) ∧ Spoilt base w w' := by
  obtain ⟨h, t, f, q, rfl, hi⟩ := hx
  have hs1 : Spoilt base w (w.alloc (.cells (cellsR h t f q) 24)) := Spoilt.le hbase (Le.alloc _ _)
  have hsp := lawSpoilSlots _ base _ (hi.spoilt hs1)
  go_enter Try.func24, Try.ntmps24
  go_wp2_with fail
  refine hsp.mono ?_
  rintro e w1 ⟨rfl, s1⟩
  go_wp2_with fail
  go_end0
  exact ⟨rfl, hs1.trans s1⟩

set_option maxHeartbeats 1000000 in
theorem lawCopyRing (h t f : Int) (q : Sl) (ss : List Slt) (w : World) (hx : HasL w (slV q) ss) (hf : ss.length * 40 ≤ 140737488351232) :
    Calls Try.prog 9 #[ringV h t f q] w fun e w' => ∃ u : Sl, e = .returned (ringV h t f u) ∧ OwnL w' w.heap.size (slV u) ss ∧ Le w w' := by
  have hb := (Box.new w (cellsR h t f q) 24).le (Le.alloc _ (.cells (cellsR 0 0 0 slZ) 24))
  have hb2 := Box.new (w.alloc (.cells (cellsR h t f q) 24)) (cellsR 0 0 0 slZ) 24
  rw [World.size_alloc] at hb2
  have hl := (Le.alloc w (.cells (cellsR h t f q) 24)).trans (Le.alloc _ (.cells (cellsR 0 0 0 slZ) 24))
  have hn1 := OwnL.lit0 ((w.alloc (.cells (cellsR h t f q) 24)).alloc (.cells (cellsR 0 0 0 slZ) 24)) (w.heap.size + 1 + 1) (by simp)
  have hl1 := hl.trans (Le.alloc _ (.cells #[] 38))
  simp only [World.size_alloc] at hn1
  have hrow : ∀ g, some (w.heap.size + 1 + 1) = some g → w.heap.size ≤ g := by intro g hg; simp at hg; omega
  go_enter Try.func9, Try.ntmps9
  go_wp2_with (at_builtin; refine wp_append_slots rfl _ _ rfl (w.heap.size + 1 + 1) _ _ [] ss rfl rfl hn1 (hx.le hl1) (by simp; omega) (by simp only [World.size_alloc]; omega) ?_; intro v' w2 hown hgrow; rw [List.nil_append] at hown; replace hgrow : World.grownBy _ w2 (some (w.heap.size + 1 + 1)) := hgrow; have hb3 := (hb.le (Le.alloc _ (.cells #[] 38))).grown hgrow (by simp only [ne_eq, Option.some.injEq]; omega); have hb4 := (hb2.le (Le.alloc _ (.cells #[] 38))).grown hgrow (by simp only [ne_eq, Option.some.injEq]; omega); have l2 : Le w w2 := Below.grown hl1 hgrow hl1.size hrow; obtain ⟨u, rfl⟩ := hown.has.sl; obtain ⟨b0, b1, b2, b3, f0, f1, f2, f3⟩ := hb3.ring; obtain ⟨p0, p1, p2, p3, g0, g1, g2, g3⟩ := hb4.ring)
  refine bodyPost_ret (v := ringV h t f u) (by simp [results, Try.results9, go_sem, p0, p1, p2, p3]) rfl ⟨u, rfl, ?_, ?_⟩
  · iterate 5 refine OwnL.set ?_ (hown.off (by omega))
    exact hown.base (by omega)
  · iterate 5 refine Le.set ?_ (by omega)
    exact l2

end Go.Proofs.Ytnncmjliehoknaa
