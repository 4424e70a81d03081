/-
  THE WALKS over chorusref1's Least and CursorsMay: the document's answers, for every ring and all numbers. Condition: that the slots can be copied.
-/
import Derived.Test.YtgjhbhnfeeleeaaCuA
import Derived.Test.YtgjhbhnfeeleeaaRfB
import Derived.Deep.QuietTactic
import Derived.BigQuiet
namespace Go.Proofs.Ytgjhbhnfeeleeaa
open Go.RowKit

theorem least_neg {xs : List Int} {k : Nat} (hk : k < xs.length) (h : xs.getD k 0 < 0) : leastS xs = (0, 1100) := by
  unfold leastS
  have : minL xs ≤ xs.getD k 0 := minL_le (by simp [List.getD, hk])
  rw [if_pos (.inr (by omega))]
theorem least_pos {xs : List Int} (h0 : 0 < xs.length) (h : ∀ i, i < xs.length → 0 ≤ xs.getD i 0) : leastS xs = (minL xs, 0) := by
  unfold leastS
  obtain ⟨i, hi, e⟩ := List.getElem_of_mem (minL_mem h0)
  have := h i hi
  simp [List.getD, hi] at this
  rw [if_neg (by omega)]

set_option maxHeartbeats 400000 in
theorem refLeast (v : Value) (xs : List Int) (w : World) (hx : Has w v xs) (hm : xs.length ≤ 9223372036854775807) :
    Calls Try.prog 9 #[v] w fun e w' => e = .returned (.tuple #[.int .i64 (leastS xs).1, .int .i64 (leastS xs).2]) ∧ w = w' := by
  by_cases h0 : 0 < xs.length
  · obtain ⟨a, cap, rfl, hc', _, hx⟩ := hx
    obtain ⟨b, off, rfl, hcell⟩ := hx h0
    clear hx
    obtain ⟨x0, hx0⟩ : ∃ x0, x0 = xs.getD 0 0 := ⟨_, rfl⟩
    have c0 := hcell 0 h0
    rw [← hx0, Nat.add_zero] at c0
    obtain ⟨L, hL⟩ : ∃ L, L = xs.length := ⟨_, rfl⟩
    have HL : Hid (L = xs.length) := hL
    have HM : Hid (minL xs = xs.foldl min x0) := by rw [hx0]; rfl
    rw [← hL] at hm h0 hc' hcell ⊢
    clear hL hx0
    have h1 : ((L : Int) == 0) = false := by simp; omega
    go_enter Try.func9, Try.ntmps9
    go_wp2
    go_loop [4, 5] (fun m i => ∃ (k : Nat) (y : Int), k ≤ L ∧ m = .int .i64 y ∧ i = .int .i64 k ∧ Hid ((xs.take k).foldl min x0 = y) ∧ Hid (∀ i, i < k → 0 ≤ xs.getD i 0)) (fun _ i => L - (intOf i).toNat)
    case atStart => exact ⟨0, x0, by omega, rfl, rfl, rfl, fun i hi => by omega⟩
    case round =>
      obtain ⟨k, y, hk, rfl, rfl, HA, HP⟩ := hrel
      by_cases hlt : k < L
      · obtain ⟨x, hx⟩ : ∃ x, x = xs.getD k 0 := ⟨_, rfl⟩
        have ck := hcell k hlt
        rw [← hx] at ck
        have HX : Hid (x = xs.getD k 0) := hx
        have HS : Hid ((xs.take (k + 1)).foldl min x0 = min y x) := by rw [hx, take_min (by have := HL.out; omega), HA.out]; rfl
        clear hx hcell HA
        have hlt' : (k : Int) < (L : Int) := by omega
        by_cases hneg : x < 0
        · have HE : Hid (leastS xs = (0, 1100)) := least_neg (k := k) (by have := HL.out; omega) (by rw [← HX.out]; exact hneg)
          go_wp2
          go_ret2
          exact ⟨by rw [HE.out]; rfl, rfl⟩
        · have HP' : Hid (∀ i, i < k + 1 → 0 ≤ xs.getD i 0) := fun i hi => by
            by_cases e : i = k
            · subst e; rw [← HX.out]; omega
            · exact HP.out i (by omega)
          by_cases hxy : x < y
          · have HS' : Hid ((xs.take (k + 1)).foldl min x0 = x) := by rw [HS.out]; show min y x = x; omega
            clear HS HP HX
            go_wp2
            go_round
            case rel => exact ⟨k + 1, x, by omega, by go_num, by go_num, HS', HP'⟩
            case measure => simp [intOf]; omega
          · have HS' : Hid ((xs.take (k + 1)).foldl min x0 = y) := by rw [HS.out]; show min y x = y; omega
            clear HS HP HX
            go_wp2
            go_round
            case rel => exact ⟨k + 1, y, by omega, by go_num, by go_num, HS', HP'⟩
            case measure => simp [intOf]; omega
      · obtain rfl : k = L := by omega
        have HE : Hid (leastS xs = (y, 0)) := by
          rw [least_pos (by have := HL.out; omega) (fun i hi => HP.out i (by have := HL.out; omega)), HM.out]
          have := HA.out
          rw [HL.out, List.take_length] at this
          rw [this]; rfl
        go_wp2
        go_ret2
        exact ⟨by rw [HE.out]; rfl, rfl⟩
  · have hxn : xs = [] := by cases xs with | nil => rfl | cons _ _ => simp at h0
    subst hxn
    obtain ⟨a, cap, rfl⟩ := hx.shape
    go_enter Try.func9, Try.ntmps9
    go_wp2
    go_ret2
    exact ⟨rfl, rfl⟩

set_option maxHeartbeats 400000 in
theorem refCursorsMay (v u : Value) (R : Rg) (xs : List Int) (w : World) (hr : HasR w v R) (hf : FitR R) (hx : Has w u xs) (hm : xs.length ≤ 9223372036854775807) :
    Calls Try.prog 12 #[v, u] w fun e w' => e = .returned (.bool (cursB R xs)) ∧ Le w w' := by
  obtain ⟨h, t, f, ss⟩ := R
  obtain ⟨q, rfl, hq⟩ := hr
  have hb := Box.new w (cellsR h t f q) 24
  have hl := Le.alloc w (.cells (cellsR h t f q) 24)
  have hq' := hq.le hl
  have m1 := fun w hq => refRingMay (ringV h t f q) ⟨h, t, f, ss⟩ w ⟨q, rfl, hq⟩ hf
  obtain ⟨y, hy⟩ : ∃ y, y = mayR ⟨h, t, f, ss⟩ := ⟨_, rfl⟩
  have HY : Hid (y = mayR ⟨h, t, f, ss⟩) := hy
  rw [← hy] at m1
  clear hy
  obtain ⟨a, cap, rfl, hc', _, hx⟩ := hx
  by_cases h0 : 0 < xs.length
  · obtain ⟨b, off, rfl, hcell⟩ := hx h0
    have hbw : b < w.heap.size := World.block_lt_of_cell? w _ (hcell 0 h0)
    clear hx
    obtain ⟨L, hL⟩ : ∃ L, L = xs.length := ⟨_, rfl⟩
    have HL : Hid (L = xs.length) := hL
    rw [← hL] at hm h0 hc' hcell ⊢
    clear hL
    go_enter Try.func12, Try.ntmps12
    go_wp2
    go_loopw [5] (fun i wr => ∃ k : Nat, k ≤ L ∧ i = .int .i64 k ∧ Hid ((xs.take k).all (insB h t) = true) ∧ Le (w.alloc (.cells (cellsR h t f q) 24)) wr) (fun i _ => L - (intOf i).toNat)
    case atStart => exact ⟨0, by omega, rfl, rfl, Le.refl _⟩
    case round =>
      obtain ⟨k, hk, rfl, HA, hle⟩ := hrel
      obtain ⟨b0, b1, b2, b3, f0, f1, f2, f3⟩ := (hb.le hle).ring
      by_cases hlt : k < L
      · obtain ⟨s, hs⟩ : ∃ s, s = xs.getD k 0 := ⟨_, rfl⟩
        have HS : Hid (s = xs.getD k 0) := hs
        have x0 : wr.cell? ⟨b, off + k, none⟩ = some (.int .i64 s) := by rw [(hl.trans hle).cell (p := ⟨b, off + k, none⟩) hbw, hs]; exact hcell k hlt
        clear hs hcell
        have hlt' : (k : Int) < (L : Int) := by omega
        by_cases h1 : s < h
        · go_wp2
          go_quiet (fail)
          go_wp2
          go_ret
          exact ⟨ret_bool (by simp only [cursB]; rw [ints_all_no (k := k) (by have := HL.out; omega) (by rw [← HS.out]; simp [insB]; omega)]; simp), (hl.trans hle).trans (Le.drewN _ _)⟩
        · by_cases h2 : t < s
          · go_wp2
            go_quiet (fail)
            go_wp2
            go_ret
            exact ⟨ret_bool (by simp only [cursB]; rw [ints_all_no (k := k) (by have := HL.out; omega) (by rw [← HS.out]; simp [insB]; omega)]; simp), (hl.trans hle).trans (Le.drewN _ _)⟩
          · have HI : Hid (insB h t s = true) := by show insB h t s = true; simp [insB]; omega
            go_wp2
            go_quiet (fail)
            go_wp2
            go_roundw
            case rel => exact ⟨k + 1, by omega, by go_num, ints_all_take (by have := HL.out; omega) HA.out (by rw [← HS.out]; exact HI.out), hle.trans (Le.drewN _ _)⟩
            case measure => simp [intOf]; omega
      · obtain rfl : k = L := by omega
        go_wp2_with fail
        refine (m1 _ (hq'.le hle)).mono ?_
        rintro e w1 ⟨rfl, l1⟩
        go_wp2
        go_ret
        exact ⟨ret_bool (by have := HA.out; rw [HL.out, List.take_length] at this; simp only [cursB]; rw [this, Bool.and_true]; exact HY.out), (hl.trans hle).trans l1⟩
  · have hxn : xs = [] := by cases xs with | nil => rfl | cons _ _ => simp at h0
    subst hxn
    go_enter Try.func12, Try.ntmps12
    go_wp2
    refine wp_loop_rounds 1 ?_
    rw [rounds_succ]
    go_wp2_with fail
    refine (m1 _ hq').mono ?_
    rintro e w1 ⟨rfl, l1⟩
    go_wp2
    go_ret
    exact ⟨ret_bool (by simp only [cursB]; rw [HY.out]; simp), hl.trans l1⟩

end Go.Proofs.Ytgjhbhnfeeleeaa
