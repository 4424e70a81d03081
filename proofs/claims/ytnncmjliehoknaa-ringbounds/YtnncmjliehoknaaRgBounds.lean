/-
  THE WALKS over choruslaw10.RingBounds: it answers true, for every three numbers, and turns nothing that was there. No condition.
-/
import Derived.Test.YtnncmjliehoknaaRgAwake
import Derived.Test.YtnncmjliehoknaaRfH
import Derived.Test.YtnncmjliehoknaaRgI
import Derived.Test.YtnncmjliehoknaaBits
namespace Go.Proofs.Ytnncmjliehoknaa
open Go.RowKit

def zs8 : List Slt := [Slt.zero, Slt.zero, Slt.zero, Slt.zero, Slt.zero, Slt.zero, Slt.zero, Slt.zero]
theorem zs8_len : zs8.length = 8 := rfl
theorem fit8 : zs8.length * 40 ≤ 140737488351232 := by decide
theorem may8 {H T f : Int} (h1 : 0 ≤ H) (h2 : H ≤ T) (h3 : T ≤ 1048576) (h4 : T ≤ H + 8) (h5 : 0 ≤ f) (h6 : f ≤ 4) : mayR ⟨H, T, f, zs8⟩ = true :=
  mayR_of (show slotsB (8 : Int) = true by decide) h1 h2 h3 h4 h5 h6 (show zs8.all slotB = true by decide)
theorem new8 : newS 8 = (⟨0, 0, 0, zs8⟩, 0) := by decide

set_option maxRecDepth 20000 in
set_option maxHeartbeats 4000000 in
theorem lawBounds0 (w : World) (head many x H K X Y : Int) (hH : bits .and .i64 head 1023 = H) (hK : bits .and .i64 many 7 = K) (hX : bits .and .i64 x 1023 = X) (hY : bits .and .i64 x 3 = Y) (H0 : 0 ≤ H) (H1 : H ≤ 1023) (K0 : 1 ≤ K) (K1 : K ≤ 7) (X0 : 0 ≤ X) (X1 : X ≤ 1023) (Y0 : 0 ≤ Y) (Y1 : Y ≤ 3) :
    Calls Try.prog 6 #[.int .i64 head, .int .i64 many, .int .i64 x] w fun e w' => e = .returned (.bool true) ∧ Le w w' := by
  have hM : mayR ⟨H, (H + K), 0, zs8⟩ = true := may8 (by omega) (by omega) (by omega) (by omega) (by omega) (by omega)
  have hM3 : mayR ⟨H, (H + K), 1 + Y, zs8⟩ = true := may8 (by omega) (by omega) (by omega) (by omega) (by omega) (by omega)
  go_enter Try.func6, Try.ntmps6
  go_wp2_with fail
  refine (lawAwake10 _).mono ?_
  rintro e w1 ⟨rfl, l1⟩
  go_wp2_with fail
  refine (refNewAs new8 _).mono ?_
  rintro e w2 ⟨q, rfl, o2, l2⟩
  replace l2 := l1.trans l2
  have hgs : w.heap.size ≤ w2.heap.size := l2.size
  have hl := l2.trans (Le.alloc w2 (.cells (cellsR H (H + K) 0 q) 24))
  have hbr := Box.new w2 (cellsR H (H + K) 0 q) 24
  have hq := o2.le (Le.alloc w2 (.cells (cellsR H (H + K) 0 q) 24))
  clear l1 l2 o2
  go_upto_region 8 with fail
  generalize hW : w2.alloc (.cells (cellsR H (H + K) 0 q) 24) = W2 at hl hbr hq ⊢
  clear hW
  obtain ⟨r0, r1, r2, r3, _, _, _, _⟩ := hbr.ring
  go_wp2_with fail
  refine (reserveAs (reserve_no hM (.inl (by omega))) fit8 q _ hq.has).mono ?_
  rintro e w3 ⟨q3, rfl, o3, l3⟩
  have a3 := Le.alloc w3 (.cells (cellsR 0 0 0 q3) 24)
  replace l3 := l3.trans a3
  replace hbr := hbr.le l3
  replace hq := hq.le l3
  replace hl := hl.trans l3
  clear l3 a3 o3 r0 r1 r2 r3
  go_upto_region 9 with fail
  generalize hW : w3.alloc (.cells (cellsR 0 0 0 q3) 24) = W3 at hbr hq hl ⊢
  clear hW
  obtain ⟨r0, r1, r2, r3, _, _, _, _⟩ := hbr.ring
  go_wp2_with fail
  refine (reserveAs (reserve_no hM (.inr (by simp only [zs8_len]; omega))) fit8 q _ hq.has).mono ?_
  rintro e w4 ⟨q4, rfl, o4, l4⟩
  have a4 := Le.alloc w4 (.cells (cellsR 0 0 0 q4) 24)
  replace l4 := l4.trans a4
  replace hbr := hbr.le l4
  replace hq := hq.le l4
  replace hl := hl.trans l4
  clear l4 a4 o4 r0 r1 r2 r3
  go_upto_region 10 with fail
  generalize hW : w4.alloc (.cells (cellsR 0 0 0 q4) 24) = W4 at hbr hq hl ⊢
  clear hW
  obtain ⟨r0, r1, r2, r3, _, _, _, _⟩ := hbr.ring
  go_wp2_with fail
  refine (reserveAs (reserve_full hM (by simp only [zs8_len]; omega) (.inr (by simp only [zs8_len]; omega))) fit8 q _ hq.has).mono ?_
  rintro e w5 ⟨q5, rfl, o5, l5⟩
  have a5 := Le.alloc w5 (.cells (cellsR 0 0 0 q5) 24)
  replace l5 := l5.trans a5
  replace hbr := hbr.le l5
  replace hq := hq.le l5
  replace hl := hl.trans l5
  clear l5 a5 o5 r0 r1 r2 r3
  go_upto_region 11 with fail
  generalize hW : w5.alloc (.cells (cellsR 0 0 0 q5) 24) = W5 at hbr hq hl ⊢
  clear hW
  obtain ⟨r0, r1, r2, r3, _, _, _, _⟩ := hbr.ring
  go_wp2_with fail
  refine (reserveAs (reserve_ok hM (by simp only [zs8_len]; omega) rfl (by simp only [zs8_len]; omega) (by simp only; omega)) fit8 q _ hq.has).mono ?_
  rintro e w6 ⟨q6, rfl, o6, l6⟩
  have a6 := Le.alloc w6 (.cells (cellsR H ((H + K) + (8 - K)) 0 q6) 24)
  have hba := Box.new w6 (cellsR H ((H + K) + (8 - K)) 0 q6) 24
  have ha := o6.has.le a6
  replace l6 := l6.trans a6
  replace hbr := hbr.le l6
  replace hq := hq.le l6
  replace hl := hl.trans l6
  clear l6 a6 o6 r0 r1 r2 r3
  go_upto_region 12 with fail
  generalize hW : w6.alloc (.cells (cellsR H ((H + K) + (8 - K)) 0 q6) 24) = W6 at hbr hba hq ha hl ⊢
  clear hW
  obtain ⟨r0, r1, r2, r3, _, _, _, _⟩ := hbr.ring
  go_wp2_with fail
  refine (publishAs (publish_off (.inr (by simp only; omega))) fit8 q _ hq.has).mono ?_
  rintro e w7 ⟨q7, rfl, o7, l7⟩
  have a7 := Le.alloc w7 (.cells (cellsR 0 0 0 q7) 24)
  replace l7 := l7.trans a7
  replace hbr := hbr.le l7
  replace hba := hba.le l7
  replace hq := hq.le l7
  replace ha := ha.le l7
  replace hl := hl.trans l7
  clear l7 a7 o7 r0 r1 r2 r3
  go_upto_region 13 with fail
  generalize hW : w7.alloc (.cells (cellsR 0 0 0 q7) 24) = W7 at hbr hba hq ha hl ⊢
  clear hW
  obtain ⟨r0, r1, r2, r3, _, _, _, _⟩ := hbr.ring
  go_wp2_with fail
  refine (publishAs (publish_off (.inl (by simp only; omega))) fit8 q _ hq.has).mono ?_
  rintro e w8 ⟨q8, rfl, o8, l8⟩
  have a8 := Le.alloc w8 (.cells (cellsR 0 0 0 q8) 24)
  replace l8 := l8.trans a8
  replace hbr := hbr.le l8
  replace hba := hba.le l8
  replace hq := hq.le l8
  replace ha := ha.le l8
  replace hl := hl.trans l8
  clear l8 a8 o8 r0 r1 r2 r3
  go_upto_region 14 with fail
  generalize hW : w8.alloc (.cells (cellsR 0 0 0 q8) 24) = W8 at hbr hba hq ha hl ⊢
  clear hW
  obtain ⟨a0, a1, a2, a3, _, _, _, _⟩ := hba.ring
  obtain ⟨r0, r1, r2, r3, _, _, _, _⟩ := hbr.ring
  go_wp2_with fail
  refine (publishAs (publish_op (R := ⟨H, (H + K) + (8 - K), 0, zs8⟩) (by decide)) fit8 q6 _ ha).mono ?_
  rintro e w9 ⟨q9, rfl, o9, l9⟩
  have a9 := Le.alloc w9 (.cells (cellsR 0 0 0 q9) 24)
  replace l9 := l9.trans a9
  replace hbr := hbr.le l9
  replace hba := hba.le l9
  replace hq := hq.le l9
  replace ha := ha.le l9
  replace hl := hl.trans l9
  clear l9 a9 o9 a0 a1 a2 a3 r0 r1 r2 r3
  go_upto_region 15 with fail
  generalize hW : w9.alloc (.cells (cellsR 0 0 0 q9) 24) = W9 at hbr hba hq ha hl ⊢
  clear hW
  obtain ⟨a0, a1, a2, a3, _, _, _, _⟩ := hba.ring
  obtain ⟨r0, r1, r2, r3, _, _, _, _⟩ := hbr.ring
  go_wp2_with fail
  refine (publishAs (publish_thread (R := ⟨H, (H + K) + (8 - K), 0, zs8⟩) (by simp [threadB]; omega)) fit8 q6 _ ha).mono ?_
  rintro e w10 ⟨q10, rfl, o10, l10⟩
  have a10 := Le.alloc w10 (.cells (cellsR 0 0 0 q10) 24)
  replace l10 := l10.trans a10
  replace hbr := hbr.le l10
  replace hba := hba.le l10
  replace hq := hq.le l10
  replace ha := ha.le l10
  replace hl := hl.trans l10
  clear l10 a10 o10 a0 a1 a2 a3 r0 r1 r2 r3
  go_upto_region 16 with fail
  generalize hW : w10.alloc (.cells (cellsR 0 0 0 q10) 24) = W10 at hbr hba hq ha hl ⊢
  clear hW
  obtain ⟨r0, r1, r2, r3, _, _, _, _⟩ := hbr.ring
  go_wp2_with fail
  refine (entryAs (entry_off hM (.inr (by simp only; omega))) fit8 q _ hq.has).mono ?_
  rintro e w11 ⟨rfl, l11⟩
  have a11 := Le.alloc w11 (.cells (#[.int .i64 0, .int .i64 0, .int .i64 0, .int .i64 0, .int .i64 0]) 38)
  replace l11 := l11.trans a11
  replace hbr := hbr.le l11
  replace hba := hba.le l11
  replace hq := hq.le l11
  replace ha := ha.le l11
  replace hl := hl.trans l11
  clear l11 a11  r0 r1 r2 r3
  go_upto_region 17 with fail
  generalize hW : w11.alloc (.cells (#[.int .i64 0, .int .i64 0, .int .i64 0, .int .i64 0, .int .i64 0]) 38) = W11 at hbr hba hq ha hl ⊢
  clear hW
  obtain ⟨r0, r1, r2, r3, _, _, _, _⟩ := hbr.ring
  go_wp2_with fail
  refine (freeAs (free_no (.inr (by simp only; omega))) fit8 q _ hq.has).mono ?_
  rintro e w12 ⟨q12, rfl, o12, l12⟩
  have a12 := Le.alloc w12 (.cells (cellsR 0 0 0 q12) 24)
  replace l12 := l12.trans a12
  replace hbr := hbr.le l12
  replace hba := hba.le l12
  replace hq := hq.le l12
  replace ha := ha.le l12
  replace hl := hl.trans l12
  clear l12 a12 o12 r0 r1 r2 r3
  go_upto_region 18 with fail
  generalize hW : w12.alloc (.cells (cellsR 0 0 0 q12) 24) = W12 at hbr hba hq ha hl ⊢
  clear hW
  obtain ⟨r0, r1, r2, r3, _, _, _, _⟩ := hbr.ring
  go_wp2_with fail
  refine (freeAs (free_no (.inl (by simp only; omega))) fit8 q _ hq.has).mono ?_
  rintro e w13 ⟨q13, rfl, o13, l13⟩
  have a13 := Le.alloc w13 (.cells (cellsR 0 0 0 q13) 24)
  replace l13 := l13.trans a13
  replace hbr := hbr.le l13
  replace hba := hba.le l13
  replace hq := hq.le l13
  replace ha := ha.le l13
  replace hl := hl.trans l13
  clear l13 a13 o13 r0 r1 r2 r3
  go_upto_region 19 with fail
  generalize hW : w13.alloc (.cells (cellsR 0 0 0 q13) 24) = W13 at hbr hba hq ha hl ⊢
  clear hW
  obtain ⟨r0, r1, r2, r3, f0, f1, f2, f3⟩ := hbr.ring
  go_upto_region 20 with fail
  have hbr2 : Box (W13.setCell ⟨w2.heap.size, 2, none⟩ (.int .i64 (1 + Y))) w2.heap.size (cellsR H (H + K) (1 + Y) q) 24 := hbr.set 2 (.int .i64 (1 + Y))
  have hq2 := hq.setBox (i := 2) (u := .int .i64 (1 + Y)) hbr (by decide)
  have hl2 := hl.set (g := w2.heap.size) (i := 2) (u := .int .i64 (1 + Y)) hgs
  generalize hW : W13.setCell ⟨w2.heap.size, 2, none⟩ (.int .i64 (1 + Y)) = W14 at hbr2 hq2 hl2 ⊢
  clear hW r0 r1 r2 r3 f0 f1 f2 f3 hbr hq hl hba ha
  obtain ⟨r0, r1, r2, r3, _, _, _, _⟩ := hbr2.ring
  go_wp2_with fail
  refine (reserveAs (reserve_full hM3 (by simp only [zs8_len]; omega) (.inl (by simp only; omega))) fit8 q _ hq2.has).mono ?_
  rintro e w15 ⟨q15, rfl, o15, l15⟩
  replace l15 := l15.trans (Le.alloc w15 (.cells (cellsR 0 0 0 q15) 24))
  replace hbr2 := hbr2.le l15
  replace hl2 := hl2.trans l15
  clear l15 o15 r0 r1 r2 r3
  go_upto_region 21 with fail
  generalize hW : w15.alloc (.cells (cellsR 0 0 0 q15) 24) = W15 at hbr2 hl2 ⊢
  clear hW
  obtain ⟨r0, r1, r2, r3, _, _, _, _⟩ := hbr2.ring
  go_wp2_with (go_at_call 21; refine (lawNum _ _).mono ?_; rintro e _ ⟨rfl, rfl⟩)
  go_ret
  exact ⟨rfl, hl2⟩

set_option maxRecDepth 20000 in
set_option maxHeartbeats 4000000 in
theorem lawBounds1 (w : World) (head many x H X Y : Int) (hH : bits .and .i64 head 1023 = H) (hK : bits .and .i64 many 7 = 0) (hX : bits .and .i64 x 1023 = X) (hY : bits .and .i64 x 3 = Y) (H0 : 0 ≤ H) (H1 : H ≤ 1023) (X0 : 0 ≤ X) (X1 : X ≤ 1023) (Y0 : 0 ≤ Y) (Y1 : Y ≤ 3) :
    Calls Try.prog 6 #[.int .i64 head, .int .i64 many, .int .i64 x] w fun e w' => e = .returned (.bool true) ∧ Le w w' := by
  have hM : mayR ⟨H, H, 0, zs8⟩ = true := may8 (by omega) (by omega) (by omega) (by omega) (by omega) (by omega)
  have hM3 : mayR ⟨H, H, 1 + Y, zs8⟩ = true := may8 (by omega) (by omega) (by omega) (by omega) (by omega) (by omega)
  go_enter Try.func6, Try.ntmps6
  go_wp2_with fail
  refine (lawAwake10 _).mono ?_
  rintro e w1 ⟨rfl, l1⟩
  go_wp2_with fail
  refine (refNewAs new8 _).mono ?_
  rintro e w2 ⟨q, rfl, o2, l2⟩
  replace l2 := l1.trans l2
  have hgs : w.heap.size ≤ w2.heap.size := l2.size
  have hl := l2.trans (Le.alloc w2 (.cells (cellsR H H 0 q) 24))
  have hbr := Box.new w2 (cellsR H H 0 q) 24
  have hq := o2.le (Le.alloc w2 (.cells (cellsR H H 0 q) 24))
  clear l1 l2 o2
  go_upto_region 8 with fail
  generalize hW : w2.alloc (.cells (cellsR H H 0 q) 24) = W2 at hl hbr hq ⊢
  clear hW
  obtain ⟨r0, r1, r2, r3, _, _, _, _⟩ := hbr.ring
  go_wp2_with fail
  refine (reserveAs (reserve_no hM (.inl (by omega))) fit8 q _ hq.has).mono ?_
  rintro e w3 ⟨q3, rfl, o3, l3⟩
  have a3 := Le.alloc w3 (.cells (cellsR 0 0 0 q3) 24)
  replace l3 := l3.trans a3
  replace hbr := hbr.le l3
  replace hq := hq.le l3
  replace hl := hl.trans l3
  clear l3 a3 o3 r0 r1 r2 r3
  go_upto_region 9 with fail
  generalize hW : w3.alloc (.cells (cellsR 0 0 0 q3) 24) = W3 at hbr hq hl ⊢
  clear hW
  obtain ⟨r0, r1, r2, r3, _, _, _, _⟩ := hbr.ring
  go_wp2_with fail
  refine (reserveAs (reserve_no hM (.inr (by simp only [zs8_len]; omega))) fit8 q _ hq.has).mono ?_
  rintro e w4 ⟨q4, rfl, o4, l4⟩
  have a4 := Le.alloc w4 (.cells (cellsR 0 0 0 q4) 24)
  replace l4 := l4.trans a4
  replace hbr := hbr.le l4
  replace hq := hq.le l4
  replace hl := hl.trans l4
  clear l4 a4 o4 r0 r1 r2 r3
  go_upto_region 10 with fail
  generalize hW : w4.alloc (.cells (cellsR 0 0 0 q4) 24) = W4 at hbr hq hl ⊢
  clear hW
  obtain ⟨r0, r1, r2, r3, _, _, _, _⟩ := hbr.ring
  go_wp2_with fail
  refine (reserveAs (reserve_no hM (.inr (by simp only [zs8_len]; omega))) fit8 q _ hq.has).mono ?_
  rintro e w5 ⟨q5, rfl, o5, l5⟩
  have a5 := Le.alloc w5 (.cells (cellsR 0 0 0 q5) 24)
  replace l5 := l5.trans a5
  replace hbr := hbr.le l5
  replace hq := hq.le l5
  replace hl := hl.trans l5
  clear l5 a5 o5 r0 r1 r2 r3
  go_upto_region 11 with fail
  generalize hW : w5.alloc (.cells (cellsR 0 0 0 q5) 24) = W5 at hbr hq hl ⊢
  clear hW
  obtain ⟨r0, r1, r2, r3, _, _, _, _⟩ := hbr.ring
  go_wp2_with fail
  refine (reserveAs (reserve_ok hM (by simp only [zs8_len]; omega) rfl (by simp only [zs8_len]; omega) (by simp only; omega)) fit8 q _ hq.has).mono ?_
  rintro e w6 ⟨q6, rfl, o6, l6⟩
  have a6 := Le.alloc w6 (.cells (cellsR H (H + 8) 0 q6) 24)
  have hba := Box.new w6 (cellsR H (H + 8) 0 q6) 24
  have ha := o6.has.le a6
  replace l6 := l6.trans a6
  replace hbr := hbr.le l6
  replace hq := hq.le l6
  replace hl := hl.trans l6
  clear l6 a6 o6 r0 r1 r2 r3
  go_upto_region 12 with fail
  generalize hW : w6.alloc (.cells (cellsR H (H + 8) 0 q6) 24) = W6 at hbr hba hq ha hl ⊢
  clear hW
  obtain ⟨r0, r1, r2, r3, _, _, _, _⟩ := hbr.ring
  go_wp2_with fail
  refine (publishAs (publish_off (.inr (by simp only; omega))) fit8 q _ hq.has).mono ?_
  rintro e w7 ⟨q7, rfl, o7, l7⟩
  have a7 := Le.alloc w7 (.cells (cellsR 0 0 0 q7) 24)
  replace l7 := l7.trans a7
  replace hbr := hbr.le l7
  replace hba := hba.le l7
  replace hq := hq.le l7
  replace ha := ha.le l7
  replace hl := hl.trans l7
  clear l7 a7 o7 r0 r1 r2 r3
  go_upto_region 13 with fail
  generalize hW : w7.alloc (.cells (cellsR 0 0 0 q7) 24) = W7 at hbr hba hq ha hl ⊢
  clear hW
  obtain ⟨r0, r1, r2, r3, _, _, _, _⟩ := hbr.ring
  go_wp2_with fail
  refine (publishAs (publish_off (.inl (by simp only; omega))) fit8 q _ hq.has).mono ?_
  rintro e w8 ⟨q8, rfl, o8, l8⟩
  have a8 := Le.alloc w8 (.cells (cellsR 0 0 0 q8) 24)
  replace l8 := l8.trans a8
  replace hbr := hbr.le l8
  replace hba := hba.le l8
  replace hq := hq.le l8
  replace ha := ha.le l8
  replace hl := hl.trans l8
  clear l8 a8 o8 r0 r1 r2 r3
  go_upto_region 14 with fail
  generalize hW : w8.alloc (.cells (cellsR 0 0 0 q8) 24) = W8 at hbr hba hq ha hl ⊢
  clear hW
  obtain ⟨a0, a1, a2, a3, _, _, _, _⟩ := hba.ring
  obtain ⟨r0, r1, r2, r3, _, _, _, _⟩ := hbr.ring
  go_wp2_with fail
  refine (publishAs (publish_op (R := ⟨H, H + 8, 0, zs8⟩) (by decide)) fit8 q6 _ ha).mono ?_
  rintro e w9 ⟨q9, rfl, o9, l9⟩
  have a9 := Le.alloc w9 (.cells (cellsR 0 0 0 q9) 24)
  replace l9 := l9.trans a9
  replace hbr := hbr.le l9
  replace hba := hba.le l9
  replace hq := hq.le l9
  replace ha := ha.le l9
  replace hl := hl.trans l9
  clear l9 a9 o9 a0 a1 a2 a3 r0 r1 r2 r3
  go_upto_region 15 with fail
  generalize hW : w9.alloc (.cells (cellsR 0 0 0 q9) 24) = W9 at hbr hba hq ha hl ⊢
  clear hW
  obtain ⟨a0, a1, a2, a3, _, _, _, _⟩ := hba.ring
  obtain ⟨r0, r1, r2, r3, _, _, _, _⟩ := hbr.ring
  go_wp2_with fail
  refine (publishAs (publish_thread (R := ⟨H, H + 8, 0, zs8⟩) (by simp [threadB]; omega)) fit8 q6 _ ha).mono ?_
  rintro e w10 ⟨q10, rfl, o10, l10⟩
  have a10 := Le.alloc w10 (.cells (cellsR 0 0 0 q10) 24)
  replace l10 := l10.trans a10
  replace hbr := hbr.le l10
  replace hba := hba.le l10
  replace hq := hq.le l10
  replace ha := ha.le l10
  replace hl := hl.trans l10
  clear l10 a10 o10 a0 a1 a2 a3 r0 r1 r2 r3
  go_upto_region 16 with fail
  generalize hW : w10.alloc (.cells (cellsR 0 0 0 q10) 24) = W10 at hbr hba hq ha hl ⊢
  clear hW
  obtain ⟨r0, r1, r2, r3, _, _, _, _⟩ := hbr.ring
  go_wp2_with fail
  refine (entryAs (entry_off hM (.inr (by simp only; omega))) fit8 q _ hq.has).mono ?_
  rintro e w11 ⟨rfl, l11⟩
  have a11 := Le.alloc w11 (.cells (#[.int .i64 0, .int .i64 0, .int .i64 0, .int .i64 0, .int .i64 0]) 38)
  replace l11 := l11.trans a11
  replace hbr := hbr.le l11
  replace hba := hba.le l11
  replace hq := hq.le l11
  replace ha := ha.le l11
  replace hl := hl.trans l11
  clear l11 a11  r0 r1 r2 r3
  go_upto_region 17 with fail
  generalize hW : w11.alloc (.cells (#[.int .i64 0, .int .i64 0, .int .i64 0, .int .i64 0, .int .i64 0]) 38) = W11 at hbr hba hq ha hl ⊢
  clear hW
  obtain ⟨r0, r1, r2, r3, _, _, _, _⟩ := hbr.ring
  go_wp2_with fail
  refine (freeAs (free_no (.inr (by simp only; omega))) fit8 q _ hq.has).mono ?_
  rintro e w12 ⟨q12, rfl, o12, l12⟩
  have a12 := Le.alloc w12 (.cells (cellsR 0 0 0 q12) 24)
  replace l12 := l12.trans a12
  replace hbr := hbr.le l12
  replace hba := hba.le l12
  replace hq := hq.le l12
  replace ha := ha.le l12
  replace hl := hl.trans l12
  clear l12 a12 o12 r0 r1 r2 r3
  go_upto_region 18 with fail
  generalize hW : w12.alloc (.cells (cellsR 0 0 0 q12) 24) = W12 at hbr hba hq ha hl ⊢
  clear hW
  obtain ⟨r0, r1, r2, r3, _, _, _, _⟩ := hbr.ring
  go_wp2_with fail
  refine (freeAs (free_no (.inl (by simp only; omega))) fit8 q _ hq.has).mono ?_
  rintro e w13 ⟨q13, rfl, o13, l13⟩
  have a13 := Le.alloc w13 (.cells (cellsR 0 0 0 q13) 24)
  replace l13 := l13.trans a13
  replace hbr := hbr.le l13
  replace hba := hba.le l13
  replace hq := hq.le l13
  replace ha := ha.le l13
  replace hl := hl.trans l13
  clear l13 a13 o13 r0 r1 r2 r3
  go_upto_region 19 with fail
  generalize hW : w13.alloc (.cells (cellsR 0 0 0 q13) 24) = W13 at hbr hba hq ha hl ⊢
  clear hW
  obtain ⟨r0, r1, r2, r3, f0, f1, f2, f3⟩ := hbr.ring
  go_upto_region 20 with fail
  have hbr2 : Box (W13.setCell ⟨w2.heap.size, 2, none⟩ (.int .i64 (1 + Y))) w2.heap.size (cellsR H H (1 + Y) q) 24 := hbr.set 2 (.int .i64 (1 + Y))
  have hq2 := hq.setBox (i := 2) (u := .int .i64 (1 + Y)) hbr (by decide)
  have hl2 := hl.set (g := w2.heap.size) (i := 2) (u := .int .i64 (1 + Y)) hgs
  generalize hW : W13.setCell ⟨w2.heap.size, 2, none⟩ (.int .i64 (1 + Y)) = W14 at hbr2 hq2 hl2 ⊢
  clear hW r0 r1 r2 r3 f0 f1 f2 f3 hbr hq hl hba ha
  obtain ⟨r0, r1, r2, r3, _, _, _, _⟩ := hbr2.ring
  go_wp2_with fail
  refine (reserveAs (reserve_full hM3 (by simp only [zs8_len]; omega) (.inl (by simp only; omega))) fit8 q _ hq2.has).mono ?_
  rintro e w15 ⟨q15, rfl, o15, l15⟩
  replace l15 := l15.trans (Le.alloc w15 (.cells (cellsR 0 0 0 q15) 24))
  replace hbr2 := hbr2.le l15
  replace hl2 := hl2.trans l15
  clear l15 o15 r0 r1 r2 r3
  go_upto_region 21 with fail
  generalize hW : w15.alloc (.cells (cellsR 0 0 0 q15) 24) = W15 at hbr2 hl2 ⊢
  clear hW
  obtain ⟨r0, r1, r2, r3, _, _, _, _⟩ := hbr2.ring
  go_wp2_with (go_at_call 21; refine (lawNum _ _).mono ?_; rintro e _ ⟨rfl, rfl⟩)
  go_ret
  exact ⟨rfl, hl2⟩

theorem lawRingBounds (w : World) (head many x : Int) : Calls Try.prog 6 #[.int .i64 head, .int .i64 many, .int .i64 x] w fun e w' => e = .returned (.bool true) ∧ Le w w' := by
  obtain ⟨H, hH, H0, H1⟩ : ∃ m, bits .and .i64 head 1023 = m ∧ 0 ≤ m ∧ m ≤ 1023 := ⟨_, and1023 head, by omega, by omega⟩
  obtain ⟨K, hK, K0, K1⟩ : ∃ m, bits .and .i64 many 7 = m ∧ 0 ≤ m ∧ m ≤ 7 := ⟨_, and7 many, by omega, by omega⟩
  obtain ⟨X, hX, X0, X1⟩ : ∃ m, bits .and .i64 x 1023 = m ∧ 0 ≤ m ∧ m ≤ 1023 := ⟨_, and1023 x, by omega, by omega⟩
  obtain ⟨Y, hY, Y0, Y1⟩ : ∃ m, bits .and .i64 x 3 = m ∧ 0 ≤ m ∧ m ≤ 3 := ⟨_, and3 x, by omega, by omega⟩
  by_cases h : K = 0
  · exact lawBounds1 w head many x H X Y hH (by rw [hK, h]) hX hY H0 H1 X0 X1 Y0 Y1
  · exact lawBounds0 w head many x H K X Y hH hK hX hY H0 H1 (by omega) K1 X0 X1 Y0 Y1

end Go.Proofs.Ytnncmjliehoknaa
