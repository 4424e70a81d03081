/-
  PARTS LAID TOGETHER, each with its own opening: SfW20, SfW21, SfW22, SfW23, SfW.
-/
import Derived.Test.YtibleipfablniaaGreatAll6
import Derived.Test.YtibleipfablniaaGreatAll5
import Derived.Deep.RegionHeld3
import Derived.Deep.RegionWith
/-
  THE WALKS over the law StartForms: each kind of machine that may not be. Condition: that the numbers are ints. (Written by program: mksf.py.)
-/
namespace Go.Proofs.YtibleipfablniaaGreat
open Go.RowKit

set_option linter.unusedVariables false in
set_option maxRecDepth 8000 in
set_option maxHeartbeats 8000000 in
theorem lawSF20 (w : World) (which x X : Int) (hw : (IntKind.u64.wrap which).tmod 24 = 20) (hX : bits .and .i64 x 1023 = X) (X0 : 0 ≤ X) (X1 : X ≤ 1023) : Calls Tryz.prog 4 #[.int .i64 which, .int .i64 x] w fun e w' => e = .returned (.bool true) ∧ Le w w' := by
  go_enter Tryz.func4, Tryz.ntmps4
  go_wp2_with fail
  refine (lawAwake14 _).mono ?_
  rintro e w1 ⟨rfl, hl⟩
  go_wp2_with fail
  refine (lawGood _).mono ?_
  rintro e w2 ⟨_, rfl, ⟨L, rfl, HM, o1, ap⟩, l2⟩
  have hbm := Box.new w2 (cells9 L.c L.qR L.qP L.qT L.qH) 29
  have a1 := Le.alloc w2 (.cells (cells9 L.c L.qR L.qP L.qT L.qH) 29)
  go_upto_region 5 with fail
  generalize hW : w2.alloc (.cells (cells9 L.c L.qR L.qP L.qT L.qH) 29) = W1 at hbm a1 ⊢
  clear hW
  have hw1 := hl.size
  have I : MoI w1.heap.size w2.heap.size W1 L := ⟨hbm, l2.size, o1.le a1, ap⟩
  have hgm : w1.heap.size ≤ w2.heap.size := l2.size
  have hwgm : w.heap.size ≤ w2.heap.size := by omega
  generalize w2.heap.size = gm at hbm I hgm hwgm ⊢
  have l12 := l2.trans a1
  have hW1 : w1.heap.size ≤ W1.heap.size := l12.size
  replace hl := hl.trans l12
  clear l2 a1 o1 ap l12 hbm
  obtain ⟨r0, r1, p0, p1, t0, t1, t2, t3, gR0, cR, gP, cP, gT, cT, uH, rfl, hr, hp, ht⟩ := good_open I HM
  obtain ⟨_, q0⟩ := r0
  obtain ⟨_, q1⟩ := r1
  obtain ⟨_, v0, c0, l0⟩ := p0
  obtain ⟨_, v1, c1, l1⟩ := p1
  obtain ⟨_, b0, s0⟩ := t0
  obtain ⟨_, b1, s1⟩ := t1
  obtain ⟨_, b2, s2⟩ := t2
  obtain ⟨_, b3, s3⟩ := t3
  simp only at hr hp ht
  obtain ⟨rfl, rfl⟩ := hr
  obtain ⟨rfl, rfl⟩ := hp
  obtain ⟨rfl, rfl, rfl, rfl⟩ := ht
  have hbm := I.bo
  have o := I.own
  obtain ⟨⟨y0, y1, y2, y3, y4⟩, y5, y6, y7, y8⟩ := (hbm).mach
  simp only [slV] at y5 y6 y7
  obtain ⟨hgne, hglt, hgB, hat, hfz⟩ := I.thAt (i := 2) rfl (by show 2 < 4; decide)
  have x11 : W1.cell? ⟨gT, 35, none⟩ = some (slV s2) := hat.2.2.2.2.2.2.2.2.2.2.2
  have f11 : W1.frozen? ⟨gT, 35, none⟩ = false := hfz 35
  clear hat hfz
  have hA := Le.alloc W1 (.cells #[.int .i64 0, .int .i64 0, .int .i64 0] 3)
  have hlit : Own (W1.alloc (.cells #[.int .i64 0, .int .i64 0, .int .i64 0] 3)) w1.heap.size (slV (some ⟨W1.heap.size, 0, none⟩, 3, 3)) [0, 0, 0] := Own.lit W1 w1.heap.size hW1 [0, 0, 0] (by simp)
  have o2 : OwnsM ((W1.alloc (.cells #[.int .i64 0, .int .i64 0, .int .i64 0] 3)).setCell ⟨gT, 35, none⟩ (slV (some ⟨W1.heap.size, 0, none⟩, 3, 3))) w1.heap.size (⟨gC, (some ⟨gR0, 0, none⟩, 2, cR), (some ⟨gP, 0, none⟩, 2, cP), (some ⟨gT, 0, none⟩, 4, cT), uH, [⟨gR, q0⟩, ⟨gR, q1⟩], [⟨gP0, v0, c0, l0⟩, ⟨gP1, v1, c1, l1⟩], [⟨gT0, b0, s0⟩, ⟨gT1, b1, s1⟩, ⟨⟨2, 0, 2, 2, 0, 0, [], 0, false, false, 0, [0, 0, 0]⟩, b2, (some ⟨W1.heap.size, 0, none⟩, 3, 3)⟩, ⟨gT3, b3, s3⟩], gE⟩ : Lay) := (o.le hA).setT (i := 2) (j := 11) (u := slV (some ⟨W1.heap.size, 0, none⟩, 3, 3)) rfl (by show 2 < 4; decide) (by decide) ⟨⟨2, 0, 2, 2, 0, 0, [], 0, false, false, 0, [0, 0, 0]⟩, b2, (some ⟨W1.heap.size, 0, none⟩, 3, 3)⟩ rfl ((o.le hA).iT ⟨gT2, b2, s2⟩ (by simp)).1 hlit
  have hb2 : Box ((W1.alloc (.cells #[.int .i64 0, .int .i64 0, .int .i64 0] 3)).setCell ⟨gT, 35, none⟩ (slV (some ⟨W1.heap.size, 0, none⟩, 3, 3))) gm (cells9 gC (some ⟨gR0, 0, none⟩, 2, cR) (some ⟨gP, 0, none⟩, 2, cP) (some ⟨gT, 0, none⟩, 4, cT) uH) 29 := (hbm.le hA).other hgne _ _
  have hl2 : Le w ((W1.alloc (.cells #[.int .i64 0, .int .i64 0, .int .i64 0] 3)).setCell ⟨gT, 35, none⟩ (slV (some ⟨W1.heap.size, 0, none⟩, 3, 3))) := (hl.trans hA).set (by omega)
  have hfit : FitM (Lay.M (⟨gC, (some ⟨gR0, 0, none⟩, 2, cR), (some ⟨gP, 0, none⟩, 2, cP), (some ⟨gT, 0, none⟩, 4, cT), uH, [⟨gR, q0⟩, ⟨gR, q1⟩], [⟨gP0, v0, c0, l0⟩, ⟨gP1, v1, c1, l1⟩], [⟨gT0, b0, s0⟩, ⟨gT1, b1, s1⟩, ⟨⟨2, 0, 2, 2, 0, 0, [], 0, false, false, 0, [0, 0, 0]⟩, b2, (some ⟨W1.heap.size, 0, none⟩, 3, 3)⟩, ⟨gT3, b3, s3⟩], gE⟩ : Lay)) := fitB_fit (by rfl)
  have hno : mayM (Lay.M (⟨gC, (some ⟨gR0, 0, none⟩, 2, cR), (some ⟨gP, 0, none⟩, 2, cP), (some ⟨gT, 0, none⟩, 4, cT), uH, [⟨gR, q0⟩, ⟨gR, q1⟩], [⟨gP0, v0, c0, l0⟩, ⟨gP1, v1, c1, l1⟩], [⟨gT0, b0, s0⟩, ⟨gT1, b1, s1⟩, ⟨⟨2, 0, 2, 2, 0, 0, [], 0, false, false, 0, [0, 0, 0]⟩, b2, (some ⟨W1.heap.size, 0, none⟩, 3, 3)⟩, ⟨gT3, b3, s3⟩], gE⟩ : Lay)) = false := no_t (T := (⟨2, 0, 2, 2, 0, 0, [], 0, false, false, 0, [0, 0, 0]⟩ : Th)) (show _ ∈ ([gT0, gT1, ⟨2, 0, 2, 2, 0, 0, [], 0, false, false, 0, [0, 0, 0]⟩, gT3] : List Th) by simp) (by rw [← Bool.not_eq_true]; intro h; obtain ⟨_, _, _, _, _, _, _, k, _⟩ := thB_cases h; change (3 : Int) ≤ 2 at k; omega)
  rw [World.setCell_alloc_past _ _ _ _ hglt] at o2 hb2 hl2
  go_upto_region 53 with fail
  generalize hW2 : (W1.setCell ⟨gT, 35, none⟩ (slV (some ⟨W1.heap.size, 0, none⟩, 3, 3))).alloc (.cells #[.int .i64 0, .int .i64 0, .int .i64 0] 3) = W2 at o2 hb2 hl2 ⊢
  clear hW2
  clear y0 y1 y2 y3 y4 y5 y6 y7 y8
  have hx2 := o2.has
  clear hX o I hbm HM
  go_wp2_with fail
  refine (lawNum _ _).mono ?_
  rintro e _ ⟨rfl, rfl⟩
  go_wp2_with fail
  refine (lawGood _).mono ?_
  rintro e w5 ⟨_, rfl, o5, l5⟩
  go_wp2_with fail
  refine (startMay _ goodM _ o5.has good_fit).mono ?_
  rw [good_may]
  rintro e w6 ⟨rfl, l6⟩
  obtain ⟨⟨y0, y1, y2, y3, y4⟩, y5, y6, y7, y8⟩ := (((hb2.le l5).le l6)).mach
  go_wp2_with fail
  refine (startMay _ (Lay.M (⟨gC, (some ⟨gR0, 0, none⟩, 2, cR), (some ⟨gP, 0, none⟩, 2, cP), (some ⟨gT, 0, none⟩, 4, cT), uH, [⟨gR, q0⟩, ⟨gR, q1⟩], [⟨gP0, v0, c0, l0⟩, ⟨gP1, v1, c1, l1⟩], [⟨gT0, b0, s0⟩, ⟨gT1, b1, s1⟩, ⟨⟨2, 0, 2, 2, 0, 0, [], 0, false, false, 0, [0, 0, 0]⟩, b2, (some ⟨W1.heap.size, 0, none⟩, 3, 3)⟩, ⟨gT3, b3, s3⟩], gE⟩ : Lay)) _ ((hx2.le l5).le l6) hfit).mono ?_
  rw [hno]
  rintro e w7 ⟨rfl, l7⟩
  go_wp2_with fail
  go_ret
  exact ⟨rfl, ((hl2.trans l5).trans l6).trans l7⟩

end Go.Proofs.YtibleipfablniaaGreat

/-
  THE WALKS over the law StartForms: each kind of machine that may not be. Condition: that the numbers are ints. (Written by program: mksf.py.)
-/
namespace Go.Proofs.YtibleipfablniaaGreat
open Go.RowKit

set_option linter.unusedVariables false in
set_option maxRecDepth 8000 in
set_option maxHeartbeats 8000000 in
theorem lawSF21 (w : World) (which x X : Int) (hw : (IntKind.u64.wrap which).tmod 24 = 21) (hX : bits .and .i64 x 1023 = X) (X0 : 0 ≤ X) (X1 : X ≤ 1023) : Calls Tryz.prog 4 #[.int .i64 which, .int .i64 x] w fun e w' => e = .returned (.bool true) ∧ Le w w' := by
  go_enter Tryz.func4, Tryz.ntmps4
  go_wp2_with fail
  refine (lawAwake14 _).mono ?_
  rintro e w1 ⟨rfl, hl⟩
  go_wp2_with fail
  refine (lawGood _).mono ?_
  rintro e w2 ⟨_, rfl, ⟨L, rfl, HM, o1, ap⟩, l2⟩
  have hbm := Box.new w2 (cells9 L.c L.qR L.qP L.qT L.qH) 29
  have a1 := Le.alloc w2 (.cells (cells9 L.c L.qR L.qP L.qT L.qH) 29)
  go_upto_region 5 with fail
  generalize hW : w2.alloc (.cells (cells9 L.c L.qR L.qP L.qT L.qH) 29) = W1 at hbm a1 ⊢
  clear hW
  have hw1 := hl.size
  have I : MoI w1.heap.size w2.heap.size W1 L := ⟨hbm, l2.size, o1.le a1, ap⟩
  have hgm : w1.heap.size ≤ w2.heap.size := l2.size
  have hwgm : w.heap.size ≤ w2.heap.size := by omega
  generalize w2.heap.size = gm at hbm I hgm hwgm ⊢
  have l12 := l2.trans a1
  have hW1 : w1.heap.size ≤ W1.heap.size := l12.size
  replace hl := hl.trans l12
  clear l2 a1 o1 ap l12 hbm
  obtain ⟨r0, r1, p0, p1, t0, t1, t2, t3, gR0, cR, gP, cP, gT, cT, uH, rfl, hr, hp, ht⟩ := good_open I HM
  obtain ⟨_, q0⟩ := r0
  obtain ⟨_, q1⟩ := r1
  obtain ⟨_, v0, c0, l0⟩ := p0
  obtain ⟨_, v1, c1, l1⟩ := p1
  obtain ⟨_, b0, s0⟩ := t0
  obtain ⟨_, b1, s1⟩ := t1
  obtain ⟨_, b2, s2⟩ := t2
  obtain ⟨_, b3, s3⟩ := t3
  simp only at hr hp ht
  obtain ⟨rfl, rfl⟩ := hr
  obtain ⟨rfl, rfl⟩ := hp
  obtain ⟨rfl, rfl, rfl, rfl⟩ := ht
  have hbm := I.bo
  have o := I.own
  obtain ⟨⟨y0, y1, y2, y3, y4⟩, y5, y6, y7, y8⟩ := (hbm).mach
  simp only [slV] at y5 y6 y7
  obtain ⟨hgne, hglt, hgB, hat, hfz⟩ := I.thAt (i := 2) rfl (by show 2 < 4; decide)
  have x11 : W1.cell? ⟨gT, 35, none⟩ = some (slV s2) := hat.2.2.2.2.2.2.2.2.2.2.2
  have f11 : W1.frozen? ⟨gT, 35, none⟩ = false := hfz 35
  clear hat hfz
  have hA := Le.alloc W1 (.cells #[.int .i64 (-(1 + X))] 3)
  have hlit : Own (W1.alloc (.cells #[.int .i64 (-(1 + X))] 3)) w1.heap.size (slV (some ⟨W1.heap.size, 0, none⟩, 1, 1)) [-(1 + X)] := Own.lit W1 w1.heap.size hW1 [-(1 + X)] (by simp)
  have o2 : OwnsM ((W1.alloc (.cells #[.int .i64 (-(1 + X))] 3)).setCell ⟨gT, 35, none⟩ (slV (some ⟨W1.heap.size, 0, none⟩, 1, 1))) w1.heap.size (⟨gC, (some ⟨gR0, 0, none⟩, 2, cR), (some ⟨gP, 0, none⟩, 2, cP), (some ⟨gT, 0, none⟩, 4, cT), uH, [⟨gR, q0⟩, ⟨gR, q1⟩], [⟨gP0, v0, c0, l0⟩, ⟨gP1, v1, c1, l1⟩], [⟨gT0, b0, s0⟩, ⟨gT1, b1, s1⟩, ⟨⟨2, 0, 2, 2, 0, 0, [], 0, false, false, 0, [-(1 + X)]⟩, b2, (some ⟨W1.heap.size, 0, none⟩, 1, 1)⟩, ⟨gT3, b3, s3⟩], gE⟩ : Lay) := (o.le hA).setT (i := 2) (j := 11) (u := slV (some ⟨W1.heap.size, 0, none⟩, 1, 1)) rfl (by show 2 < 4; decide) (by decide) ⟨⟨2, 0, 2, 2, 0, 0, [], 0, false, false, 0, [-(1 + X)]⟩, b2, (some ⟨W1.heap.size, 0, none⟩, 1, 1)⟩ rfl ((o.le hA).iT ⟨gT2, b2, s2⟩ (by simp)).1 hlit
  have hb2 : Box ((W1.alloc (.cells #[.int .i64 (-(1 + X))] 3)).setCell ⟨gT, 35, none⟩ (slV (some ⟨W1.heap.size, 0, none⟩, 1, 1))) gm (cells9 gC (some ⟨gR0, 0, none⟩, 2, cR) (some ⟨gP, 0, none⟩, 2, cP) (some ⟨gT, 0, none⟩, 4, cT) uH) 29 := (hbm.le hA).other hgne _ _
  have hl2 : Le w ((W1.alloc (.cells #[.int .i64 (-(1 + X))] 3)).setCell ⟨gT, 35, none⟩ (slV (some ⟨W1.heap.size, 0, none⟩, 1, 1))) := (hl.trans hA).set (by omega)
  have hfit : FitM (Lay.M (⟨gC, (some ⟨gR0, 0, none⟩, 2, cR), (some ⟨gP, 0, none⟩, 2, cP), (some ⟨gT, 0, none⟩, 4, cT), uH, [⟨gR, q0⟩, ⟨gR, q1⟩], [⟨gP0, v0, c0, l0⟩, ⟨gP1, v1, c1, l1⟩], [⟨gT0, b0, s0⟩, ⟨gT1, b1, s1⟩, ⟨⟨2, 0, 2, 2, 0, 0, [], 0, false, false, 0, [-(1 + X)]⟩, b2, (some ⟨W1.heap.size, 0, none⟩, 1, 1)⟩, ⟨gT3, b3, s3⟩], gE⟩ : Lay)) := fitB_fit (by rfl)
  have hno : mayM (Lay.M (⟨gC, (some ⟨gR0, 0, none⟩, 2, cR), (some ⟨gP, 0, none⟩, 2, cP), (some ⟨gT, 0, none⟩, 4, cT), uH, [⟨gR, q0⟩, ⟨gR, q1⟩], [⟨gP0, v0, c0, l0⟩, ⟨gP1, v1, c1, l1⟩], [⟨gT0, b0, s0⟩, ⟨gT1, b1, s1⟩, ⟨⟨2, 0, 2, 2, 0, 0, [], 0, false, false, 0, [-(1 + X)]⟩, b2, (some ⟨W1.heap.size, 0, none⟩, 1, 1)⟩, ⟨gT3, b3, s3⟩], gE⟩ : Lay)) = false := no_t (T := (⟨2, 0, 2, 2, 0, 0, [], 0, false, false, 0, [-(1 + X)]⟩ : Th)) (show _ ∈ ([gT0, gT1, ⟨2, 0, 2, 2, 0, 0, [], 0, false, false, 0, [-(1 + X)]⟩, gT3] : List Th) by simp) (by rw [← Bool.not_eq_true]; intro h; obtain ⟨_, _, _, _, _, _, _, _, h⟩ := thB_cases h; have k := (h (-(1 + X)) (by simp)).1; change 0 ≤ -(1 + X) at k; omega)
  rw [World.setCell_alloc_past _ _ _ _ hglt] at o2 hb2 hl2
  go_upto_region 53 with fail
  generalize hW2 : (W1.setCell ⟨gT, 35, none⟩ (slV (some ⟨W1.heap.size, 0, none⟩, 1, 1))).alloc (.cells #[.int .i64 (-(1 + X))] 3) = W2 at o2 hb2 hl2 ⊢
  clear hW2
  clear y0 y1 y2 y3 y4 y5 y6 y7 y8
  have hx2 := o2.has
  clear hX o I hbm HM
  go_wp2_with fail
  refine (lawNum _ _).mono ?_
  rintro e _ ⟨rfl, rfl⟩
  go_wp2_with fail
  refine (lawGood _).mono ?_
  rintro e w5 ⟨_, rfl, o5, l5⟩
  go_wp2_with fail
  refine (startMay _ goodM _ o5.has good_fit).mono ?_
  rw [good_may]
  rintro e w6 ⟨rfl, l6⟩
  obtain ⟨⟨y0, y1, y2, y3, y4⟩, y5, y6, y7, y8⟩ := (((hb2.le l5).le l6)).mach
  go_wp2_with fail
  refine (startMay _ (Lay.M (⟨gC, (some ⟨gR0, 0, none⟩, 2, cR), (some ⟨gP, 0, none⟩, 2, cP), (some ⟨gT, 0, none⟩, 4, cT), uH, [⟨gR, q0⟩, ⟨gR, q1⟩], [⟨gP0, v0, c0, l0⟩, ⟨gP1, v1, c1, l1⟩], [⟨gT0, b0, s0⟩, ⟨gT1, b1, s1⟩, ⟨⟨2, 0, 2, 2, 0, 0, [], 0, false, false, 0, [-(1 + X)]⟩, b2, (some ⟨W1.heap.size, 0, none⟩, 1, 1)⟩, ⟨gT3, b3, s3⟩], gE⟩ : Lay)) _ ((hx2.le l5).le l6) hfit).mono ?_
  rw [hno]
  rintro e w7 ⟨rfl, l7⟩
  go_wp2_with fail
  go_ret
  exact ⟨rfl, ((hl2.trans l5).trans l6).trans l7⟩

end Go.Proofs.YtibleipfablniaaGreat

/-
  THE WALKS over the law StartForms: each kind of machine that may not be. Condition: that the numbers are ints. (Written by program: mksf.py.)
-/
namespace Go.Proofs.YtibleipfablniaaGreat
open Go.RowKit

set_option linter.unusedVariables false in
set_option maxRecDepth 8000 in
set_option maxHeartbeats 8000000 in
theorem lawSF22 (w : World) (which x X : Int) (hw : (IntKind.u64.wrap which).tmod 24 = 22) (hX : bits .and .i64 x 1023 = X) (X0 : 0 ≤ X) (X1 : X ≤ 1023) : Calls Tryz.prog 4 #[.int .i64 which, .int .i64 x] w fun e w' => e = .returned (.bool true) ∧ Le w w' := by
  go_enter Tryz.func4, Tryz.ntmps4
  go_wp2_with fail
  refine (lawAwake14 _).mono ?_
  rintro e w1 ⟨rfl, hl⟩
  go_wp2_with fail
  refine (lawGood _).mono ?_
  rintro e w2 ⟨_, rfl, ⟨L, rfl, HM, o1, ap⟩, l2⟩
  have hbm := Box.new w2 (cells9 L.c L.qR L.qP L.qT L.qH) 29
  have a1 := Le.alloc w2 (.cells (cells9 L.c L.qR L.qP L.qT L.qH) 29)
  go_upto_region 5 with fail
  generalize hW : w2.alloc (.cells (cells9 L.c L.qR L.qP L.qT L.qH) 29) = W1 at hbm a1 ⊢
  clear hW
  have hw1 := hl.size
  have I : MoI w1.heap.size w2.heap.size W1 L := ⟨hbm, l2.size, o1.le a1, ap⟩
  have hgm : w1.heap.size ≤ w2.heap.size := l2.size
  have hwgm : w.heap.size ≤ w2.heap.size := by omega
  generalize w2.heap.size = gm at hbm I hgm hwgm ⊢
  have l12 := l2.trans a1
  have hW1 : w1.heap.size ≤ W1.heap.size := l12.size
  replace hl := hl.trans l12
  clear l2 a1 o1 ap l12 hbm
  obtain ⟨r0, r1, p0, p1, t0, t1, t2, t3, gR0, cR, gP, cP, gT, cT, uH, rfl, hr, hp, ht⟩ := good_open I HM
  obtain ⟨_, q0⟩ := r0
  obtain ⟨_, q1⟩ := r1
  obtain ⟨_, v0, c0, l0⟩ := p0
  obtain ⟨_, v1, c1, l1⟩ := p1
  obtain ⟨_, b0, s0⟩ := t0
  obtain ⟨_, b1, s1⟩ := t1
  obtain ⟨_, b2, s2⟩ := t2
  obtain ⟨_, b3, s3⟩ := t3
  simp only at hr hp ht
  obtain ⟨rfl, rfl⟩ := hr
  obtain ⟨rfl, rfl⟩ := hp
  obtain ⟨rfl, rfl, rfl, rfl⟩ := ht
  have hbm := I.bo
  have o := I.own
  obtain ⟨⟨y0, y1, y2, y3, y4⟩, y5, y6, y7, y8⟩ := (hbm).mach
  simp only [slV] at y5 y6 y7
  obtain ⟨n, hn⟩ : ∃ n : Nat, (n : Int) = 64 + (1 + X) := ⟨(64 + (1 + X)).toNat, by omega⟩
  obtain ⟨w5, hrun, oe, l5⟩ := run_make_evs W1 w1.heap.size n (by omega) hW1
  rw [hn] at hrun
  have hb5 := hbm.le l5
  have f8 := hb5.frozen 8
  have y8' := cell_le y8 l5
  have o5 := (o.le l5).box (i := 8) (u := slV (some ⟨W1.heap.size, 0, none⟩, n, n)) hb5
  have o2 : OwnsM (w5.setCell ⟨gm, 8, none⟩ (slV (some ⟨W1.heap.size, 0, none⟩, n, n))) w1.heap.size (⟨gC, (some ⟨gR0, 0, none⟩, 2, cR), (some ⟨gP, 0, none⟩, 2, cP), (some ⟨gT, 0, none⟩, 4, cT), (some ⟨W1.heap.size, 0, none⟩, n, n), [⟨gR, q0⟩, ⟨gR, q1⟩], [⟨gP0, v0, c0, l0⟩, ⟨gP1, v1, c1, l1⟩], [⟨gT0, b0, s0⟩, ⟨gT1, b1, s1⟩, ⟨gT2, b2, s2⟩, ⟨gT3, b3, s3⟩], (List.replicate n Ev.zero)⟩ : Lay) := ⟨o5.oR, o5.oP, o5.oT, own_box oe hb5 (by decide), o5.iR, o5.iP, o5.iT⟩
  have hb2 : Box (w5.setCell ⟨gm, 8, none⟩ (slV (some ⟨W1.heap.size, 0, none⟩, n, n))) gm (cells9 gC (some ⟨gR0, 0, none⟩, 2, cR) (some ⟨gP, 0, none⟩, 2, cP) (some ⟨gT, 0, none⟩, 4, cT) (some ⟨W1.heap.size, 0, none⟩, n, n)) 29 := hb5.set 8 (slV (some ⟨W1.heap.size, 0, none⟩, n, n))
  have hl2 : Le w (w5.setCell ⟨gm, 8, none⟩ (slV (some ⟨W1.heap.size, 0, none⟩, n, n))) := (hl.trans l5).set hwgm
  have hfit : FitM (Lay.M (⟨gC, (some ⟨gR0, 0, none⟩, 2, cR), (some ⟨gP, 0, none⟩, 2, cP), (some ⟨gT, 0, none⟩, 4, cT), (some ⟨W1.heap.size, 0, none⟩, n, n), [⟨gR, q0⟩, ⟨gR, q1⟩], [⟨gP0, v0, c0, l0⟩, ⟨gP1, v1, c1, l1⟩], [⟨gT0, b0, s0⟩, ⟨gT1, b1, s1⟩, ⟨gT2, b2, s2⟩, ⟨gT3, b3, s3⟩], (List.replicate n Ev.zero)⟩ : Lay)) := by
    have g : FitM ⟨gC, [gR, gR], [gP0, gP1], [gT0, gT1, gT2, gT3], gE⟩ := good_is ▸ good_fit
    exact ⟨g.rs, g.ps, g.ts, by show (List.replicate n Ev.zero).length * 48 ≤ _; rw [List.length_replicate]; omega, g.r, g.p, g.t⟩
  have hno : mayM (Lay.M (⟨gC, (some ⟨gR0, 0, none⟩, 2, cR), (some ⟨gP, 0, none⟩, 2, cP), (some ⟨gT, 0, none⟩, 4, cT), (some ⟨W1.heap.size, 0, none⟩, n, n), [⟨gR, q0⟩, ⟨gR, q1⟩], [⟨gP0, v0, c0, l0⟩, ⟨gP1, v1, c1, l1⟩], [⟨gT0, b0, s0⟩, ⟨gT1, b1, s1⟩, ⟨gT2, b2, s2⟩, ⟨gT3, b3, s3⟩], (List.replicate n Ev.zero)⟩ : Lay)) = false := no_el (by show ¬ ((List.replicate n Ev.zero).length : Int) ≤ 64; rw [List.length_replicate]; omega)
  clear hn oe o5 l5
  go_upto_region 53 with fail
  generalize hW2 : w5.setCell ⟨gm, 8, none⟩ (slV (some ⟨W1.heap.size, 0, none⟩, n, n)) = W2 at o2 hb2 hl2 ⊢
  clear hW2
  clear y0 y1 y2 y3 y4 y5 y6 y7 y8
  have hx2 := o2.has
  clear hX o I hbm HM
  go_wp2_with fail
  refine (lawNum _ _).mono ?_
  rintro e _ ⟨rfl, rfl⟩
  go_wp2_with fail
  refine (lawGood _).mono ?_
  rintro e w5 ⟨_, rfl, o5, l5⟩
  go_wp2_with fail
  refine (startMay _ goodM _ o5.has good_fit).mono ?_
  rw [good_may]
  rintro e w6 ⟨rfl, l6⟩
  obtain ⟨⟨y0, y1, y2, y3, y4⟩, y5, y6, y7, y8⟩ := (((hb2.le l5).le l6)).mach
  go_wp2_with fail
  refine (startMay _ (Lay.M (⟨gC, (some ⟨gR0, 0, none⟩, 2, cR), (some ⟨gP, 0, none⟩, 2, cP), (some ⟨gT, 0, none⟩, 4, cT), (some ⟨W1.heap.size, 0, none⟩, n, n), [⟨gR, q0⟩, ⟨gR, q1⟩], [⟨gP0, v0, c0, l0⟩, ⟨gP1, v1, c1, l1⟩], [⟨gT0, b0, s0⟩, ⟨gT1, b1, s1⟩, ⟨gT2, b2, s2⟩, ⟨gT3, b3, s3⟩], (List.replicate n Ev.zero)⟩ : Lay)) _ ((hx2.le l5).le l6) hfit).mono ?_
  rw [hno]
  rintro e w7 ⟨rfl, l7⟩
  go_wp2_with fail
  go_ret
  exact ⟨rfl, ((hl2.trans l5).trans l6).trans l7⟩

end Go.Proofs.YtibleipfablniaaGreat

/-
  THE WALKS over the law StartForms: each kind of machine that may not be. Condition: that the numbers are ints. (Written by program: mksf.py.)
-/
namespace Go.Proofs.YtibleipfablniaaGreat
open Go.RowKit

set_option linter.unusedVariables false in
set_option maxRecDepth 8000 in
set_option maxHeartbeats 8000000 in
theorem lawSF23 (w : World) (which x X : Int) (hw : (IntKind.u64.wrap which).tmod 24 = 23) (hX : bits .and .i64 x 1023 = X) (X0 : 0 ≤ X) (X1 : X ≤ 1023) : Calls Tryz.prog 4 #[.int .i64 which, .int .i64 x] w fun e w' => e = .returned (.bool true) ∧ Le w w' := by
  go_enter Tryz.func4, Tryz.ntmps4
  go_wp2_with fail
  refine (lawAwake14 _).mono ?_
  rintro e w1 ⟨rfl, hl⟩
  go_wp2_with fail
  refine (lawGood _).mono ?_
  rintro e w2 ⟨_, rfl, ⟨L, rfl, HM, o1, ap⟩, l2⟩
  have hbm := Box.new w2 (cells9 L.c L.qR L.qP L.qT L.qH) 29
  have a1 := Le.alloc w2 (.cells (cells9 L.c L.qR L.qP L.qT L.qH) 29)
  go_upto_region 5 with fail
  generalize hW : w2.alloc (.cells (cells9 L.c L.qR L.qP L.qT L.qH) 29) = W1 at hbm a1 ⊢
  clear hW
  have hw1 := hl.size
  have I : MoI w1.heap.size w2.heap.size W1 L := ⟨hbm, l2.size, o1.le a1, ap⟩
  have hgm : w1.heap.size ≤ w2.heap.size := l2.size
  have hwgm : w.heap.size ≤ w2.heap.size := by omega
  generalize w2.heap.size = gm at hbm I hgm hwgm ⊢
  have l12 := l2.trans a1
  have hW1 : w1.heap.size ≤ W1.heap.size := l12.size
  replace hl := hl.trans l12
  clear l2 a1 o1 ap l12 hbm
  obtain ⟨r0, r1, p0, p1, t0, t1, t2, t3, gR0, cR, gP, cP, gT, cT, uH, rfl, hr, hp, ht⟩ := good_open I HM
  obtain ⟨_, q0⟩ := r0
  obtain ⟨_, q1⟩ := r1
  obtain ⟨_, v0, c0, l0⟩ := p0
  obtain ⟨_, v1, c1, l1⟩ := p1
  obtain ⟨_, b0, s0⟩ := t0
  obtain ⟨_, b1, s1⟩ := t1
  obtain ⟨_, b2, s2⟩ := t2
  obtain ⟨_, b3, s3⟩ := t3
  simp only at hr hp ht
  obtain ⟨rfl, rfl⟩ := hr
  obtain ⟨rfl, rfl⟩ := hp
  obtain ⟨rfl, rfl, rfl, rfl⟩ := ht
  have hbm := I.bo
  have o := I.own
  obtain ⟨⟨y0, y1, y2, y3, y4⟩, y5, y6, y7, y8⟩ := (hbm).mach
  simp only [slV] at y5 y6 y7
  obtain ⟨gH, cH, hv, hcH, hgHB, hgHl⟩ := o.oH.shape (by show 0 < 4; decide)
  have hqH : uH = (some ⟨gH, 0, none⟩, 4, cH) := by
    simp only [slV, Value.slice.injEq] at hv
    exact Prod.ext hv.1 (Prod.ext hv.2.1 hv.2.2)
  subst hqH
  have hgne : gm ≠ gH := fun e => o.oH.apart hbm (by decide) (by rw [e]; rfl)
  obtain ⟨_, _, hv', _, _, hx⟩ := o.oH.has
  obtain ⟨b, off, ha, hcell⟩ := hx (by show 0 < 4; decide)
  simp only [slV, Value.slice.injEq] at hv'
  rw [ha] at hv'
  simp only [Option.some.injEq, Addr.mk.injEq, and_true] at hv'
  obtain ⟨⟨rfl, rfl⟩, hjunk⟩ := hv'
  clear hjunk hcH
  have x0 : W1.cell? ⟨gH, 0, none⟩ = some (.int .i64 0) := by have := hcell 0 (by show 0 < 4; decide) 0 (by decide); exact this
  have f0 : W1.frozen? ⟨gH, 0, none⟩ = false := OwnE.frozen o.oH 0
  simp only [slV] at y8
  clear hcell hx hv
  have o2 : OwnsM (W1.setCell ⟨gH, 0, none⟩ (.int .i64 (3 + (1 + X)))) w1.heap.size (⟨gC, (some ⟨gR0, 0, none⟩, 2, cR), (some ⟨gP, 0, none⟩, 2, cP), (some ⟨gT, 0, none⟩, 4, cT), (some ⟨gH, 0, none⟩, 4, cH), [⟨gR, q0⟩, ⟨gR, q1⟩], [⟨gP0, v0, c0, l0⟩, ⟨gP1, v1, c1, l1⟩], [⟨gT0, b0, s0⟩, ⟨gT1, b1, s1⟩, ⟨gT2, b2, s2⟩, ⟨gT3, b3, s3⟩], (gE.set 0 ⟨3 + (1 + X), true, 0, 0, 0, 0⟩)⟩ : Lay) := o.setE (i := 0) (j := 0) (u := .int .i64 (3 + (1 + X))) rfl (by show 0 < 4; decide) (by decide) ⟨3 + (1 + X), true, 0, 0, 0, 0⟩ rfl
  have hb2 : Box (W1.setCell ⟨gH, 0, none⟩ (.int .i64 (3 + (1 + X)))) gm (cells9 gC (some ⟨gR0, 0, none⟩, 2, cR) (some ⟨gP, 0, none⟩, 2, cP) (some ⟨gT, 0, none⟩, 4, cT) (some ⟨gH, 0, none⟩, 4, cH)) 29 := hbm.other hgne _ _
  have hl2 : Le w (W1.setCell ⟨gH, 0, none⟩ (.int .i64 (3 + (1 + X)))) := hl.set (by omega)
  have hfit : FitM (Lay.M (⟨gC, (some ⟨gR0, 0, none⟩, 2, cR), (some ⟨gP, 0, none⟩, 2, cP), (some ⟨gT, 0, none⟩, 4, cT), (some ⟨gH, 0, none⟩, 4, cH), [⟨gR, q0⟩, ⟨gR, q1⟩], [⟨gP0, v0, c0, l0⟩, ⟨gP1, v1, c1, l1⟩], [⟨gT0, b0, s0⟩, ⟨gT1, b1, s1⟩, ⟨gT2, b2, s2⟩, ⟨gT3, b3, s3⟩], (gE.set 0 ⟨3 + (1 + X), true, 0, 0, 0, 0⟩)⟩ : Lay)) := fitB_fit (by rfl)
  have hno : mayM (Lay.M (⟨gC, (some ⟨gR0, 0, none⟩, 2, cR), (some ⟨gP, 0, none⟩, 2, cP), (some ⟨gT, 0, none⟩, 4, cT), (some ⟨gH, 0, none⟩, 4, cH), [⟨gR, q0⟩, ⟨gR, q1⟩], [⟨gP0, v0, c0, l0⟩, ⟨gP1, v1, c1, l1⟩], [⟨gT0, b0, s0⟩, ⟨gT1, b1, s1⟩, ⟨gT2, b2, s2⟩, ⟨gT3, b3, s3⟩], (gE.set 0 ⟨3 + (1 + X), true, 0, 0, 0, 0⟩)⟩ : Lay)) = false := no_e (E := (⟨3 + (1 + X), true, 0, 0, 0, 0⟩ : Ev)) (show _ ∈ gE.set 0 _ by simp [gE]) (by rw [← Bool.not_eq_true]; intro h; unfold evB at h; simp only [Bool.and_eq_true] at h; have k := (inB_cases h.1).2; change 3 + (1 + X) ≤ 4 - 1 at k; omega)
  go_upto_region 53 with fail
  generalize hW2 : W1.setCell ⟨gH, 0, none⟩ (.int .i64 (3 + (1 + X))) = W2 at o2 hb2 hl2 ⊢
  clear hW2
  clear y0 y1 y2 y3 y4 y5 y6 y7 y8
  have hx2 := o2.has
  clear hX o I hbm HM
  go_wp2_with fail
  refine (lawNum _ _).mono ?_
  rintro e _ ⟨rfl, rfl⟩
  go_wp2_with fail
  refine (lawGood _).mono ?_
  rintro e w5 ⟨_, rfl, o5, l5⟩
  go_wp2_with fail
  refine (startMay _ goodM _ o5.has good_fit).mono ?_
  rw [good_may]
  rintro e w6 ⟨rfl, l6⟩
  obtain ⟨⟨y0, y1, y2, y3, y4⟩, y5, y6, y7, y8⟩ := (((hb2.le l5).le l6)).mach
  go_wp2_with fail
  refine (startMay _ (Lay.M (⟨gC, (some ⟨gR0, 0, none⟩, 2, cR), (some ⟨gP, 0, none⟩, 2, cP), (some ⟨gT, 0, none⟩, 4, cT), (some ⟨gH, 0, none⟩, 4, cH), [⟨gR, q0⟩, ⟨gR, q1⟩], [⟨gP0, v0, c0, l0⟩, ⟨gP1, v1, c1, l1⟩], [⟨gT0, b0, s0⟩, ⟨gT1, b1, s1⟩, ⟨gT2, b2, s2⟩, ⟨gT3, b3, s3⟩], (gE.set 0 ⟨3 + (1 + X), true, 0, 0, 0, 0⟩)⟩ : Lay)) _ ((hx2.le l5).le l6) hfit).mono ?_
  rw [hno]
  rintro e w7 ⟨rfl, l7⟩
  go_wp2_with fail
  go_ret
  exact ⟨rfl, ((hl2.trans l5).trans l6).trans l7⟩

end Go.Proofs.YtibleipfablniaaGreat

/-
  THE LAW StartForms: its walks, one a kind of machine that may not be, laid together. Condition: that the numbers are ints.
-/
namespace Go.Proofs.YtibleipfablniaaGreat
open Go.RowKit

theorem twentyfour (a : Int) : ∃ q : Int, (IntKind.u64.wrap a).tmod 24 = q ∧ 0 ≤ q ∧ q < 24 := by
  have h : 0 ≤ IntKind.u64.wrap a := by simp [IntKind.wrap, IntKind.bits, IntKind.signed]; omega
  rw [Int.tmod_eq_emod_of_nonneg h]
  exact ⟨_, rfl, by omega, by omega⟩

theorem lawStartForms (w : World) (which x : Int) : Calls Tryz.prog 4 #[.int .i64 which, .int .i64 x] w fun e w' => e = .returned (.bool true) ∧ Le w w' := by
  obtain ⟨X, hX, X0, X1⟩ : ∃ m, bits .and .i64 x 1023 = m ∧ 0 ≤ m ∧ m ≤ 1023 := ⟨_, and1023 x, by omega, by omega⟩
  obtain ⟨q, hq, q0, q1⟩ := twentyfour which
  rcases (by omega : q = 0 ∨ q = 1 ∨ q = 2 ∨ q = 3 ∨ q = 4 ∨ q = 5 ∨ q = 6 ∨ q = 7 ∨ q = 8 ∨ q = 9 ∨ q = 10 ∨ q = 11 ∨ q = 12 ∨ q = 13 ∨ q = 14 ∨ q = 15 ∨ q = 16 ∨ q = 17 ∨ q = 18 ∨ q = 19 ∨ q = 20 ∨ q = 21 ∨ q = 22 ∨ q = 23) with rfl | rfl | rfl | rfl | rfl | rfl | rfl | rfl | rfl | rfl | rfl | rfl | rfl | rfl | rfl | rfl | rfl | rfl | rfl | rfl | rfl | rfl | rfl | rfl
  · exact lawSF0 w which x X hq hX X0 X1
  · exact lawSF1 w which x X hq hX X0 X1
  · exact lawSF2 w which x X hq hX X0 X1
  · exact lawSF3 w which x X hq hX X0 X1
  · exact lawSF4 w which x X hq hX X0 X1
  · exact lawSF5 w which x X hq hX X0 X1
  · exact lawSF6 w which x X hq hX X0 X1
  · exact lawSF7 w which x X hq hX X0 X1
  · exact lawSF8 w which x X hq hX X0 X1
  · exact lawSF9 w which x X hq hX X0 X1
  · exact lawSF10 w which x X hq hX X0 X1
  · exact lawSF11 w which x X hq hX X0 X1
  · exact lawSF12 w which x X hq hX X0 X1
  · exact lawSF13 w which x X hq hX X0 X1
  · exact lawSF14 w which x X hq hX X0 X1
  · exact lawSF15 w which x X hq hX X0 X1
  · exact lawSF16 w which x X hq hX X0 X1
  · exact lawSF17 w which x X hq hX X0 X1
  · exact lawSF18 w which x X hq hX X0 X1
  · exact lawSF19 w which x X hq hX X0 X1
  · exact lawSF20 w which x X hq hX X0 X1
  · exact lawSF21 w which x X hq hX X0 X1
  · exact lawSF22 w which x X hq hX X0 X1
  · exact lawSF23 w which x X hq hX X0 X1

end Go.Proofs.YtibleipfablniaaGreat
