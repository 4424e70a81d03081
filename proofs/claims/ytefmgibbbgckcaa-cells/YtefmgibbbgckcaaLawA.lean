/-
  THE WALKS over choruslaw0's helpers for slices of numbers (Num, SameInts, LendInts, KeptInts, SpoilInts): what each does, for every slice. Condition: where memory is made, the bytes are within the reach that every row bears.
-/
import Derived.Test.YtefmgibbbgckcaaCellC
import Derived.Deep.QuietTactic
import Derived.BigQuiet
namespace Go.Proofs.Ytefmgibbbgckcaa
open Go.RowKit

/-- The later world w' has all that w had. -/
def Le (w w' : World) : Prop := Below w.heap.size w w'
theorem Le.refl (w : World) : Le w w := Below.refl _ _
theorem Le.trans {a b c : World} (h : Le a b) (k : Le b c) : Le a c := Below.trans h (Below.mono k h.size)
theorem Le.alloc (w : World) (o : Obj) : Le w (w.alloc o) := (Below.refl _ _).alloc (Nat.le_refl _) _
theorem Le.drew (w : World) : Le w w.drew := (Below.refl _ _).drew
theorem Le.drewN (w : World) (n : Nat) : Le w (w.drewN n) := below_drewN (Below.refl _ _) n
theorem Has.le {w w' : World} {v : Value} {xs : List Int} (h : Has w v xs) (hl : Le w w') : Has w' v xs := h.later hl
theorem Own.le {w w' : World} {base : Nat} {v : Value} {xs : List Int} (h : Own w base v xs) (hl : Le w w') : Own w' base v xs := h.later hl

set_option maxHeartbeats 400000 in
theorem lawNum (x : Int) (w : World) : Calls Try.prog 17 #[.int .i64 x] w fun e w' => e = .returned (.int .i64 x) ∧ w = w' := by
  go_enter Try.func17, Try.ntmps17
  go_wp2
  go_ret
  exact ⟨rfl, rfl⟩

theorem take_same {xs ys : List Int} {k : Nat} (h1 : k < xs.length) (h2 : k < ys.length) (h : xs.take k = ys.take k) (he : xs.getD k 0 = ys.getD k 0) : xs.take (k + 1) = ys.take (k + 1) := by
  rw [List.take_succ_eq_append_getElem h1, List.take_succ_eq_append_getElem h2, h]
  simp [List.getD, h1, h2] at he
  rw [he]

theorem ne_of_at {xs ys : List Int} {k : Nat} (he : ¬ xs.getD k 0 = ys.getD k 0) : ¬ xs = ys := fun h => he (by rw [h])

set_option maxHeartbeats 400000 in
theorem lawSameInts (v u : Value) (xs ys : List Int) (w : World) (hx : Has w v xs) (hy : Has w u ys) (hm : xs.length ≤ 9223372036854775807) :
    Calls Try.prog 18 #[v, u] w fun e w' => e = .returned (.bool (decide (xs = ys))) ∧ ∃ n, w' = w.drewN n := by
  obtain ⟨a, cap, rfl, hc, _, hx⟩ := hx
  obtain ⟨c, cap', rfl, hc', _, hy⟩ := hy
  by_cases hl : xs.length = ys.length
  · by_cases h0 : 0 < xs.length
    · obtain ⟨b, off, rfl, hcell⟩ := hx h0
      obtain ⟨b', off', rfl, hcell'⟩ := hy (by omega)
      have HL : Hid (xs.length = ys.length) := hl
      obtain ⟨L, hL⟩ : ∃ L, L = xs.length := ⟨_, rfl⟩
      rw [← hL] at hm ⊢
      have hL' : ys.length = L := by omega
      rw [hL']
      have HLx : Hid (xs.length = L) := hL.symm
      have HLy : Hid (ys.length = L) := hL'
      rw [← hL] at hcell h0 hc
      rw [hL'] at hcell' hc'
      clear hl hx hy hL hL'
      go_enter Try.func18, Try.ntmps18
      go_wp2
      go_loopw [5] (fun i wr => ∃ k n : Nat, k ≤ L ∧ i = .int .i64 k ∧ Hid (xs.take k = ys.take k) ∧ wr = w.drewN n) (fun i _ => L - (intOf i).toNat)
      case atStart => exact ⟨0, 0, Nat.zero_le _, rfl, rfl, rfl⟩
      case round =>
        obtain ⟨k, n, hk, rfl, HT, rfl⟩ := hrel
        by_cases hlt : k < L
        · obtain ⟨x, hxk⟩ : ∃ x, x = xs.getD k 0 := ⟨_, rfl⟩
          have hck : w.cell? ⟨b, off + k, none⟩ = some (.int .i64 x) := by rw [hxk]; exact hcell k hlt
          obtain ⟨y, hyk⟩ : ∃ y, y = ys.getD k 0 := ⟨_, rfl⟩
          have hck' : w.cell? ⟨b', off' + k, none⟩ = some (.int .i64 y) := by rw [hyk]; exact hcell' k hlt
          have HX : Hid (x = xs.getD k 0) := hxk
          have HY : Hid (y = ys.getD k 0) := hyk
          have hlt' : (k : Int) < (L : Int) := by omega
          clear hxk hyk hcell hcell'
          by_cases hxy : x = y
          · subst hxy
            go_wp2
            go_quiet (fail)
            go_wp2
            go_roundw
            case rel => exact ⟨k + 1, n + nq, by omega, by go_num, take_same (by have := HLx.out; omega) (by have := HLy.out; omega) HT.out (by rw [← HX.out, ← HY.out]), rfl⟩
            case measure => simp [intOf]; omega
          · have hne : (x != y) = true := by simp [hxy]
            have HN : Hid (¬ x = y) := hxy
            clear hxy
            go_wp2
            go_quiet (fail)
            go_wp2
            go_ret
            exact ⟨ret_bool (by have := ne_of_at (k := k) (xs := xs) (ys := ys) (by rw [← HX.out, ← HY.out]; exact HN.out); simp [this]), n + nq, World.drewN_drewN _ _ _⟩
        · go_wp2
          go_ret
          refine ⟨ret_bool ?_, _, rfl⟩
          have h1 := HLx.out
          have h2 := HLy.out
          have := HT.out
          rw [List.take_of_length_le (by omega), List.take_of_length_le (by omega)] at this
          simp [this]
    · have hxn : xs = [] := by cases xs with | nil => rfl | cons _ _ => simp at h0
      have hyn : ys = [] := by cases ys with | nil => rfl | cons _ _ => subst hxn; simp at hl
      subst hxn hyn
      go_enter Try.func18, Try.ntmps18
      go_wp2
      refine wp_loop_rounds 1 ?_
      rw [rounds_succ]
      go_wp2
      go_ret
      exact ⟨ret_bool (by simp), 0, rfl⟩
  · have hne : (((xs.length : Int)) != (ys.length : Int)) = true := by simp; omega
    have HN : Hid (¬ xs = ys) := fun h => hl (by rw [h])
    clear hl
    go_enter Try.func18, Try.ntmps18
    go_wp2
    go_ret
    exact ⟨ret_bool (by have := HN.out; simp [this]), 0, rfl⟩

/-- v is a slice of the numbers xs in the call's own memory, with the two marked numbers in the room behind them. -/
def Lent (w : World) (base : Nat) (v : Value) (xs : List Int) : Prop :=
  ∃ g cap, v = .slice (some ⟨g, 0, none⟩) xs.length cap ∧ xs.length + 2 ≤ cap ∧ Own w base (.slice (some ⟨g, 0, none⟩) (xs ++ [-7777, -8888]).length cap) (xs ++ [-7777, -8888])

theorem Lent.le {w w' : World} {base : Nat} {v : Value} {xs : List Int} (h : Lent w base v xs) (hl : Le w w') : Lent w' base v xs := by
  obtain ⟨g, cap, hv, hc, ho⟩ := h
  exact ⟨g, cap, hv, hc, ho.le hl⟩

theorem Lent.has {w : World} {base : Nat} {v : Value} {xs : List Int} (h : Lent w base v xs) : Has w v xs := by
  obtain ⟨g, cap, rfl, hc, ho⟩ := h
  refine ⟨_, cap, rfl, by omega, (fun h => by cases h), fun hp => ⟨g, 0, rfl, fun i hi => ?_⟩⟩
  have h1 : i < ((xs ++ [-7777, -8888]).length) * 1 := by simp; omega
  have := World.ownsRow.cellAt (show w.ownsRow base 3 1 _ _ _ from ho) i h1
  rw [Nat.zero_add, this]
  rw [List.getElem?_map, List.getElem?_append_left hi, List.getElem?_eq_getElem hi]
  simp [List.getD, hi]

theorem lit_news (w : World) (cs : Array Value) (e : TypeId) : ∀ j u, cs.toList[j]? = some u → (w.alloc (.cells cs e)).cell? ((⟨w.heap.size, 0, none⟩ : Addr).add j) = some u := by
  intro j u hj
  have e' : (⟨w.heap.size, 0, none⟩ : Addr).add j = ⟨w.heap.size, j, none⟩ := by
    simp only [Addr.add]; split
    · next h => subst h; rfl
    · simp
  rw [e', cell_of_row (w.alloc (.cells cs e)) w.heap.size j cs e (0, 0) (heap_alloc_new w _)]
  simpa using hj

theorem row_shape {w : World} {base n : Nat} {v : Value} {us : List Value} (h : w.ownsRow base 3 1 v n us) (hn : 0 < n) : ∃ g cap, v = .slice (some ⟨g, 0, none⟩) n cap ∧ n ≤ cap ∧ base ≤ g ∧ cap ≤ maxLen := by
  rcases h.2 with ⟨_, h0⟩ | ⟨g, cap, cur, hv, hg, _, hn, hm, _⟩
  · omega
  · exact ⟨g, cap, hv, hn, hg, hm⟩

set_option maxHeartbeats 400000 in
theorem lawLendInts (v : Value) (xs : List Int) (w : World) (hx : Has w v xs) (hr : xs.length * 8 ≤ 140737488351232) :
    Calls Try.prog 8 #[v] w fun e w' => ∃ v', e = .returned v' ∧ Lent w' w.heap.size v' xs ∧ Le w w' := by
  obtain ⟨i0, hi, hz0, hz1, hz2⟩ := info_parts info3
  obtain ⟨a, cap, rfl⟩ := hx.shape
  go_enter Try.func8, Try.ntmps8
  go_wp2_with (first | (go_at_call 22; refine (lawCopyInts _ xs _ hx (by omega)).mono ?_; rintro e w1 ⟨v1, rfl, hown, hbel⟩) | (at_builtin; refine wpList_append_own _ rfl _ _ 22 rfl w.heap.size 3 i0 (.int .i64 0) 1 8 Try.underlying22 hi hz0 hz1 hz2 rfl (by decide) _ xs.length (xs.map (Value.int .i64)) rfl (World.ownsRow.alloc hown _) ⟨w1.heap.size, 0, none⟩ 2 2 [.int .i64 (-7777), .int .i64 (-8888)] rfl rfl (lit_news _ _ _) (ints_oneCell .i64 [-7777, -8888]) (by unfold maxLen; omega) (by omega) (by have := hbel.size; simp; omega) ?_; intro v2 w2 hown2 hgrow2 _; obtain ⟨g, cap2, rfl, hn2, hg2, hm2⟩ := row_shape hown2 (by omega)))
  go_ret
  refine ⟨_, rfl, ⟨g, cap2, rfl, hn2, Own.of (by simpa using hown2) rfl (by simp)⟩, ?_⟩
  exact (hbel.alloc hbel.size _).grown hgrow2 (by have := hbel.size; simp; omega) (fun k hk => (World.ownsRow.lt hown k hk).1)

set_option maxHeartbeats 400000 in
theorem lawKeptInts (v u : Value) (xs : List Int) (base : Nat) (w : World) (hx : Lent w base v xs) (hy : Has w u xs) (hm : xs.length ≤ 9223372036854775000) :
    Calls Try.prog 20 #[v, u] w fun e w' => e = .returned (.bool true) ∧ Le w w' := by
  have hx0 := hx.has
  obtain ⟨g, cap, rfl, hc, ho⟩ := hx
  have c1 : w.cell? ⟨g, xs.length, none⟩ = some (.int .i64 (-7777)) := by
    rw [World.ownsRow.cellAt (show w.ownsRow base 3 1 _ _ _ from ho) xs.length (by simp)]; simp
  have c2 : w.cell? ⟨g, xs.length + 1, none⟩ = some (.int .i64 (-8888)) := by
    rw [World.ownsRow.cellAt (show w.ownsRow base 3 1 _ _ _ from ho) (xs.length + 1) (by simp)]; simp
  obtain ⟨a, cap', rfl⟩ := hy.shape
  have hcm : cap ≤ maxLen := by obtain ⟨_, _, h1, _, _, h2⟩ := row_shape ho (by simp); cases h1; exact h2
  unfold maxLen at hcm
  clear ho
  have hs : decide (xs = xs) = true := by simp
  go_enter Try.func20, Try.ntmps20
  go_wp2_with (go_at_call 18; refine (lawSameInts _ _ xs xs _ hx0 hy (by omega)).mono ?_; rw [hs]; rintro e w1 ⟨rfl, n1, rfl⟩)
  go_ret
  exact ⟨rfl, Le.drewN _ _⟩

theorem Own.setAt {w : World} {base g L cap p : Nat} {xs : List Int} (h : Own w base (.slice (some ⟨g, 0, none⟩) L cap) xs) (hp : p < xs.length) :
    g < w.heap.size ∧ w.frozen? ⟨g, p, none⟩ = false ∧ w.cell? ⟨g, p, none⟩ = some (.int .i64 (xs.getD p 0)) ∧
      ∀ x, Own (w.setCell ⟨g, p, none⟩ (.int .i64 x)) base (.slice (some ⟨g, 0, none⟩) L cap) (xs.set p x) := by
  have key := fun x => h.set hp x
  obtain ⟨g', cap', he, _, h1, h2, h3, _⟩ := key 0
  cases he
  refine ⟨h1, h2, h3, fun x => ?_⟩
  obtain ⟨g', cap', he, _, _, _, _, h4⟩ := key x
  cases he
  exact h4

theorem grownBy_trans {a b c : World} {row : Option Nat} (h : a.grownBy b row) (k : b.grownBy c row) : a.grownBy c row :=
  ⟨k.os.trans h.os, k.tape.trans h.tape, k.output.trans h.output, Nat.le_trans h.size k.size, fun i hi hne => (k.block i (Nat.lt_of_lt_of_le hi h.size) hne).trans (h.block i hi hne)⟩

set_option maxHeartbeats 400000 in
theorem lawSpoilInts (v : Value) (xs : List Int) (base : Nat) (w : World) (hx : Own w base v xs) :
    Calls Try.prog 19 #[v] w fun e w' => e = .returned (.tuple #[]) ∧ w.grownBy w' v.ownBlock := by
  rcases Nat.eq_zero_or_pos xs.length with h0 | h0
  · obtain ⟨a, cap, rfl⟩ := hx.has.shape
    rw [h0]
    go_enter Try.func19, Try.ntmps19
    go_wp2
    refine wp_loop_rounds 1 ?_
    rw [rounds_succ]
    go_wp2
    go_end0
    exact ⟨rfl, World.grownBy.refl _ _⟩
  · obtain ⟨g, cap, rfl, hn, hg, hcm⟩ := row_shape hx h0
    obtain ⟨L, hL⟩ : ∃ L, L = xs.length := ⟨_, rfl⟩
    rw [← hL] at hx hn h0 ⊢
    unfold maxLen at hcm
    have HL : Hid (L = xs.length) := hL
    clear hL
    go_enter Try.func19, Try.ntmps19
    go_wp2
    go_loopw [2] (fun i wr => ∃ (k : Nat) (zs : List Int), k ≤ L ∧ i = .int .i64 k ∧ Hid (zs.length = L) ∧ Own wr base (.slice (some ⟨g, 0, none⟩) L cap) zs ∧ w.grownBy wr (some g)) (fun i _ => L - (intOf i).toNat)
    case atStart => exact ⟨0, xs, Nat.zero_le _, rfl, HL.out.symm, hx, World.grownBy.refl _ _⟩
    case round =>
      obtain ⟨k, zs, hk, rfl, HZ, hown, hgr⟩ := hrel
      by_cases hlt : k < L
      · have hkz : k < zs.length := by have := HZ.out; omega
        obtain ⟨y, hy⟩ : ∃ y, y = zs.getD k 0 := ⟨_, rfl⟩
        obtain ⟨hgs, hfz, hcl, hsetx⟩ := hown.setAt hkz
        rw [← hy] at hcl
        have HY : Hid (y = zs.getD k 0) := hy
        clear hy hkz hx
        go_wp2
        go_roundw
        case rel => exact ⟨k + 1, _, by omega, by go_num, by rw [List.length_set]; exact HZ.out, hsetx _, grownBy_trans hgr ⟨rfl, rfl, rfl, by simp, fun i hi hne => heap_setCell_other _ _ _ _ (fun e => hne (by simp [e]))⟩⟩
        case measure => simp [intOf]; omega
      · go_wp2
        go_end0
        exact ⟨rfl, hgr⟩

end Go.Proofs.Ytefmgibbbgckcaa
