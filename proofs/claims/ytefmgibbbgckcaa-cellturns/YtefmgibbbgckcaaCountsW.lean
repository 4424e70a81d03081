/-
  THE WALK over choruslaw1.CellCounts: it answers true, for every slice of numbers within the reach and every place, and turns nothing that was there.
-/
import Derived.Test.YtefmgibbbgckcaaFormsW
namespace Go.Proofs.Ytefmgibbbgckcaa
open Go.RowKit

theorem Has.shapeN {w : World} {v : Value} {xs : List Int} {n : Nat} (h : Has w v xs) (hn : xs.length = n) : ∃ a cap, v = .slice a n cap := by
  obtain ⟨a, cap, hv⟩ := h.shape
  exact ⟨a, cap, by rw [hv, hn]⟩

/-- Sixteen cells, one of them s. -/
def cellsOf (q : Nat) (s : Int) : List Int := (List.replicate 16 0).set q s
theorem cellsOf_len (q : Nat) (s : Int) : (cellsOf q s).length = 16 := by simp [cellsOf]
theorem cellsOf_zero (q : Nat) : cellsOf q 0 = List.replicate 16 0 := by
  apply List.ext_getElem?
  intro i
  simp only [cellsOf, List.getElem?_set, List.getElem?_replicate, List.length_replicate]
  split
  · next h => subst h; rfl
  · rfl
theorem cellsOf_get {q : Nat} {s : Int} (h : q < 16) : (cellsOf q s).getD q 0 = s := by simp [cellsOf, List.getD, h]
theorem cellsOf_at {q : Nat} {s : Int} (h : q < 16) (h0 : 0 ≤ s) (h1 : s ≤ 1048576) : atB (cellsOf q s) q = true := by
  have hall : (cellsOf q s).all holdB = true := by
    rw [List.all_eq_true]
    intro x hx
    rcases List.mem_or_eq_of_mem_set hx with h | h
    · have := List.eq_of_mem_replicate h; subst this; decide
    · subst h; simp [holdB]; omega
  simp [atB, mayB, hall, cellsOf_len]; omega
theorem add_counts {q : Nat} {s d : Int} (h : q < 16) (h0 : 0 ≤ s) (hd : 0 ≤ d) (h1 : s + d ≤ 1048576) : addS (cellsOf q s) q d = (cellsOf q (s + d), s, 0) := by
  have hh : holdB (s + d) = true := by simp [holdB]; omega
  have hat := cellsOf_at (s := s) h h0 (by omega)
  have hg := cellsOf_get (s := s) h
  unfold addS
  rw [hat, Int.toNat_natCast, hg, hh]
  simp [cellsOf, List.set_set]
theorem load_counts {q : Nat} {s : Int} (h : q < 16) (h0 : 0 ≤ s) (h1 : s ≤ 1048576) : loadS (cellsOf q s) q = (s, 0) := by
  have hat := cellsOf_at (s := s) h h0 h1
  have hg := cellsOf_get (s := s) h
  unfold loadS
  rw [hat, Int.toNat_natCast, hg]
  simp

theorem mod16 (p : Int) : ∃ q : Nat, wrap64 ((IntKind.u64.wrap p).tmod 16) = (q : Int) ∧ q < 16 := by
  have h : 0 ≤ IntKind.u64.wrap p := by simp only [IntKind.wrap_u64]; omega
  rw [Int.tmod_eq_emod_of_nonneg h]
  refine ⟨(IntKind.u64.wrap p % 16).toNat, ?_, by omega⟩
  unfold wrap64
  omega

set_option maxHeartbeats 2000000 in
theorem lawCounts (w : World) (v : Value) (xs : List Int) (hx : Has w v xs) (hr : xs.length * 8 ≤ 140737488351232) (p : Int) (_hp : -9223372036854775808 ≤ p ∧ p ≤ 9223372036854775807) :
    Calls Try.prog 6 #[v, .int .i64 p] w fun e w' => e = .returned (.bool true) ∧ Le w w' := by
  obtain ⟨i0, hi, hz0, hz1, hz2⟩ := info_parts info3
  obtain ⟨q, hq, q1⟩ := mod16 p
  obtain ⟨a, cap, rfl, hc, _, hx⟩ := hx
  obtain ⟨L, hL⟩ : ∃ L, L = xs.length := ⟨_, rfl⟩
  rw [← hL] at hr hx hc ⊢
  clear hL
  rcases Nat.eq_zero_or_pos L with h0 | h0
  · subst h0
    go_enter Try.func6, Try.ntmps6
    go_wp2_with (first | (go_at_call 21; refine (lawAwake _).mono ?_; rintro e w1 ⟨rfl, l1⟩) | (at_make; refine wpList_make_full _ rfl _ _ 22 rfl w1.heap.size 3 i0 (.int .i64 0) 1 Try.underlying22 hi hz0 hz1 .i64 .i64 _ _ 16 rfl rfl (by omega) (by omega) (by rw [hz2]; omega) (by unfold maxLen; omega) (Nat.le_refl _) ?_; intro w2 hown2 hgrow2))
    have h2 : Has w2 _ (cellsOf q 0) := (Own.of hown2 (by simp [cellsOf]) (by rw [cellsOf_zero]; exact (toList_madeCells_one _ _).trans (by simp))).has
    have l2 := l1.trans (grown_le hgrow2)
    clear hown2 hgrow2 l1
    refine wp_loop_rounds 1 ?_
    rw [rounds_succ]
    go_wp2_with fail
    refine (cellLoad _ (cellsOf q 0) _ _ h2).mono ?_
    rw [load_counts q1 (by omega) (by omega)]
    rintro e _ ⟨rfl, rfl⟩
    go_wp2_with (go_at_call 17; refine (lawNum _ _).mono ?_; rintro e _ ⟨rfl, rfl⟩)
    go_ret
    exact ⟨rfl, l2⟩
  · obtain ⟨b, off, rfl, hcell⟩ := hx h0
    have hb : b < w.heap.size := World.block_lt_of_cell? w _ (hcell 0 h0)
    clear hx
    go_enter Try.func6, Try.ntmps6
    go_wp2_with (first | (go_at_call 21; refine (lawAwake _).mono ?_; rintro e w1 ⟨rfl, l1⟩) | (at_make; refine wpList_make_full _ rfl _ _ 22 rfl w1.heap.size 3 i0 (.int .i64 0) 1 Try.underlying22 hi hz0 hz1 .i64 .i64 _ _ 16 rfl rfl (by omega) (by omega) (by rw [hz2]; omega) (by unfold maxLen; omega) (Nat.le_refl _) ?_; intro w2 hown2 hgrow2))
    have h2 : Has w2 _ (cellsOf q 0) := (Own.of hown2 (by simp [cellsOf]) (by rw [cellsOf_zero]; exact (toList_madeCells_one _ _).trans (by simp))).has
    have l2 := l1.trans (grown_le hgrow2)
    clear hown2 hgrow2 l1
    rw [hq]
    clear hq
    go_loopw [5, 7, 8] (fun t s i wr => ∃ (k : Nat) (y : Int) (a5 : Option Addr) (c5 : Nat), k ≤ L ∧ k ≤ 30 ∧ i = .int .i64 k ∧ s = .int .i64 y ∧ t = .slice a5 16 c5 ∧ 0 ≤ y ∧ y ≤ 1023 * k ∧ Has wr (.slice a5 16 c5) (cellsOf q y) ∧ Le w wr) (fun _ _ i _ => 30 - (intOf i).toNat)
    case atStart => exact ⟨0, 0, _, _, Nat.zero_le _, by omega, rfl, rfl, rfl, by omega, by omega, h2, l2⟩
    case round =>
      obtain ⟨k, y, a5, c5, hk, hk', rfl, rfl, rfl, y0, y1, h5, l5⟩ := hrel
      clear h2 l2
      by_cases hlt : k < L ∧ k < 30
      · obtain ⟨hlt, hlt'⟩ := hlt
        obtain ⟨x, hxk⟩ : ∃ x, x = xs.getD k 0 := ⟨_, rfl⟩
        have hck : wr.cell? ⟨b, off + k, none⟩ = some (.int .i64 x) := by rw [hxk, Below.cell (p := ⟨b, off + k, none⟩) l5 hb]; exact hcell k hlt
        clear hxk
        obtain ⟨m, hm, m0, m1⟩ : ∃ m, bits .and .i64 x 1023 = m ∧ 0 ≤ m ∧ m ≤ 1023 := ⟨_, and1023 x, by omega, by omega⟩
        go_wp2_with (first | (go_at_call 15; refine (cellAdd _ (cellsOf q y) _ _ _ h5).mono ?_; rw [add_counts q1 y0 m0 (by omega)]; rintro e w3 ⟨v3, rfl, f3⟩; obtain ⟨a6, c6, rfl⟩ := f3.has.shapeN (cellsOf_len _ _); have hck3 := (Below.cell (p := ⟨b, off + k, none⟩) f3.2 (Nat.lt_of_lt_of_le hb l5.size)).trans hck) | (go_at_call 17; refine (lawNum _ _).mono ?_; rintro e _ ⟨rfl, rfl⟩))
        go_roundw
        case rel => exact ⟨k + 1, y + m, _, _, by omega, by omega, by go_num, rfl, rfl, by omega, by omega, f3.has, l5.trans f3.le⟩
        case measure => simp [intOf]; omega
      · by_cases hlt2 : k < L
        all_goals
          go_wp2_with fail
          refine (cellLoad _ (cellsOf q y) _ _ h5).mono ?_
          rw [load_counts q1 (by omega) (by omega)]
          rintro e _ ⟨rfl, rfl⟩
          go_wp2_with (go_at_call 17; refine (lawNum _ _).mono ?_; rintro e _ ⟨rfl, rfl⟩)
          go_ret
          exact ⟨rfl, l5⟩

end Go.Proofs.Ytefmgibbbgckcaa
