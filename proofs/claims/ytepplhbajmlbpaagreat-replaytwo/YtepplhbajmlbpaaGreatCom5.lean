/-
  PARTS LAID TOGETHER, each with its own opening: MtI, NwR, GdA, BgA, StC, LmE, LoA, LoB, HasBox, ObjA, ObjB, LoC, LoD, NwAwake, Bg18.
-/
import Derived.Test.YtepplhbajmlbpaaGreatCom4
import Derived.Test.YtepplhbajmlbpaaGreatCom3
import Derived.Test.YtepplhbajmlbpaaGreatCom2
import Derived.Test.YtepplhbajmlbpaaGreatCom1
import Derived.Deep.CutRange
import Derived.Deep.RegionHeld3
import Derived.Deep.Cut
namespace Go.Proofs.YtepplhbajmlbpaaGreat
open Go.RowKit
theorem busy_take {ts : List Th} {k : Nat} (hk : k < ts.length) : busy (ts.take (k + 1)) = busy (ts.take k) + if (ts.getD k Th.zero).st ≠ 0 then 1 else 0 := by
 unfold busy
 rw [List.take_succ_eq_append_getElem hk, List.filter_append, List.length_append]
 simp only [List.getD, List.getElem?_eq_getElem hk, Option.getD_some]
 by_cases h : ts[k].st = 0 <;> simp [h]
theorem busy_le (ts : List Th) : 0 ≤ busy ts ∧ busy ts ≤ ts.length := by
 unfold busy
 have := List.length_filter_le (fun T : Th => decide (T.st ≠ 0)) ts
 omega
set_option maxRecDepth 8000 in
set_option maxHeartbeats 8000000 in
theorem rmCallOk (v : Value) (M : Mc) (t c r a : Int) (w : World) (hx : HasM w v M) (hf : FitM M) (hmay : mayM M = true) (hop : opMay c r a = true) (ht : 0 ≤ t ∧ t < M.c.t) (h3 : (M.th t).st = 0) (h4 : (M.es.length : Int) + 2 + busy M.ts ≤ 64) : Calls Tryz.prog 21 #[v, .int .i64 t, opV c r a] w fun e w' => ∃ v', e = .returned (.tuple #[v', .int .i64 0]) ∧ OwnA w' w.heap.size v' { M with ts := M.ts.set t.toNat (newT M c r a), es := M.es ++ [⟨t, true, c, r, a, 0⟩] } ∧ Le w w' := by
 have m1 := fun w' (l : Le w w') => rmMay v M w' (hx.le l) hf
 have m2 := fun w' (l : Le w w') => rmCopy v M w' (hx.le l) hf
 have m3 := fun w' => refOperMay c r a w'
 simp only [hmay] at m1
 simp only [hop] at m3
 obtain ⟨hrs, hps, hts, hes⟩ := mayM_lens hmay
 obtain ⟨_, ⟨r2, r3⟩, ⟨l2, l3⟩, ⟨t2, t3⟩, _, _⟩ := Cfg.ok_cases (mayM_ok hmay)
 obtain ⟨t, rfl⟩ : ∃ n : Nat, t = n := ⟨t.toNat, by omega⟩
 rw [Int.toNat_natCast]
 have hti : t < M.ts.length := by omega
 have hti' : (t : Int) < (M.ts.length : Int) := by omega
 have htc : (t : Int) < M.c.t := ht.2
 obtain ⟨bR, oR, cR, bP, oP, cP, bT, oT, cT, ⟨h0, h1, h2⟩, rfl, _, _, hcT, hH⟩ := hx.opens hmay
 have hhl : h1 = M.es.length := hH.len
 obtain ⟨qb, qt, hat, _, _⟩ := hcT t hti
 rw [← Mc.th_nat] at hat
 obtain ⟨y0, _⟩ := hat
 rw [h3] at y0
 obtain ⟨n, hn⟩ : ∃ n : Nat, M.c.t = n := ⟨M.c.t.toNat, by omega⟩
 have HN : Hid (M.c.t = n) := hn
 have HTS : Hid (M.ts.length = n) := by show M.ts.length = n; omega
 have HH1 : Hid (h1 = M.es.length) := hhl
 have HBUSY : Hid ((M.es.length : Int) + 2 + busy M.ts ≤ 64) := h4
 have hh64 : (h1 : Int) ≤ 64 := by omega
 have hn4 : n ≤ 4 := by omega
 have hl0 : ¬ M.c.l = 0 := by omega
 have hr0 : 0 ≤ r := by
   unfold opMay at hop
   simp only [Bool.and_eq_true, decide_eq_true_eq] at hop
   exact hop.1.1.1.1
 obtain ⟨lg, hlg⟩ : ∃ x, x = r % M.c.l := ⟨_, rfl⟩
 have hlg1 : r.tmod M.c.l = lg := by rw [hlg]; exact Int.tmod_eq_emod_of_nonneg hr0
 have hlg2 : r % M.c.l = lg := hlg.symm
 have HLG : Hid (lg = r % M.c.l) := hlg
 clear hlg
 clear hmay hop hrs hps hts hes ht h3 hhl hn h4
 have hb := ((Box.new w (cells9 M.c (some ⟨bR, oR, none⟩, M.rs.length, cR) (some ⟨bP, oP, none⟩, M.ps.length, cP) (some ⟨bT, oT, none⟩, M.ts.length, cT) (h0, h1, h2)) 29).le (Le.alloc _ (.cells #[.int .i64 c, .int .i64 r, .int .i64 a] 48))).le (Le.alloc _ (.cells cellsZ9 29))
 have bo := (Box.new (w.alloc (.cells (cells9 M.c (some ⟨bR, oR, none⟩, M.rs.length, cR) (some ⟨bP, oP, none⟩, M.ps.length, cP) (some ⟨bT, oT, none⟩, M.ts.length, cT) (h0, h1, h2)) 29)) #[.int .i64 c, .int .i64 r, .int .i64 a] 48).le (Le.alloc _ (.cells cellsZ9 29))
 have hr := Box.new ((w.alloc (.cells (cells9 M.c (some ⟨bR, oR, none⟩, M.rs.length, cR) (some ⟨bP, oP, none⟩, M.ps.length, cP) (some ⟨bT, oT, none⟩, M.ts.length, cT) (h0, h1, h2)) 29)).alloc (.cells #[.int .i64 c, .int .i64 r, .int .i64 a] 48)) cellsZ9 29
 have hl := ((Le.alloc w (.cells (cells9 M.c (some ⟨bR, oR, none⟩, M.rs.length, cR) (some ⟨bP, oP, none⟩, M.ps.length, cP) (some ⟨bT, oT, none⟩, M.ts.length, cT) (h0, h1, h2)) 29)).trans (Le.alloc _ (.cells #[.int .i64 c, .int .i64 r, .int .i64 a] 48))).trans (Le.alloc _ (.cells cellsZ9 29))
 simp only [World.size_alloc] at hr bo
 go_enter Tryz.func21, Tryz.ntmps21
 go_upto_region 1 with fail
 generalize hW : ((w.alloc (.cells (cells9 M.c (some ⟨bR, oR, none⟩, M.rs.length, cR) (some ⟨bP, oP, none⟩, M.ps.length, cP) (some ⟨bT, oT, none⟩, M.ts.length, cT) (h0, h1, h2)) 29)).alloc (.cells #[.int .i64 c, .int .i64 r, .int .i64 a] 48)).alloc (.cells cellsZ9 29) = W at hl hb hr bo ⊢
 clear hW
 have hgr := hr.lt
 obtain ⟨⟨z0, z1, z2, z3, z4⟩, z5, z6, z7, z8⟩ := (hb).mach
 go_wp2_with fail
 refine (m1 _ hl).mono ?_
 rintro e w1 ⟨rfl, l1⟩
 clear z0 z1 z2 z3 z4 z5 z6 z7 z8
 replace hb := hb.le l1
 replace bo := bo.le l1
 replace hr := hr.le l1
 replace hl := hl.trans l1
 replace hgr := Nat.lt_of_lt_of_le hgr l1.size
 clear l1 m1
 obtain ⟨p0, p1, p2, _, _, _⟩ := bo.op
 go_wp2_with fail
 refine (m3 _).mono ?_
 rintro e w2 ⟨rfl, l1⟩
 clear p0 p1 p2 m3
 replace hb := hb.le l1
 replace bo := bo.le l1
 replace hr := hr.le l1
 replace hl := hl.trans l1
 replace hgr := Nat.lt_of_lt_of_le hgr l1.size
 clear l1
 obtain ⟨⟨z0, z1, z2, z3, z4⟩, z5, z6, z7, z8⟩ := (hb).mach
 simp only [slV] at z7 z8
 have y0' := cell_le y0 hl
 go_wp2_with fail
 clear y0'
 clear z0 z1 z2 z3 z4 z5 z6 z7 z8
 go_loopw [8, 9] (fun s i wr => ∃ (k : Nat) (S : Int), k ≤ n ∧ i = .int .i64 k ∧ s = .int .i64 S ∧ Hid (S = (h1 : Int) + 2 + busy (M.ts.take k)) ∧ (0 ≤ S ∧ S ≤ 70) ∧ w2 = wr) (fun _ i _ => n - (intOf i).toNat)
 case atStart => exact ⟨0, (h1 : Int) + 2, by omega, rfl, rfl, by show _ = _; simp [busy], by omega, rfl⟩
 case round =>
   obtain ⟨k, S, hk, rfl, rfl, HS, hS, rfl⟩ := hrel
   obtain ⟨⟨z0, z1, z2, z3, z4⟩, z5, z6, z7, z8⟩ := (hb).mach
   simp only [slV] at z7 z8
   by_cases hlt : k < n
   ·have hlt' : (k : Int) < M.c.t := by have := HN.out; omega
    have hkn : k < M.ts.length := by have := HTS.out; omega
    have hltn : (k : Int) < (M.ts.length : Int) := by omega
    obtain ⟨qb, qt, hat, _, _⟩ := hcT k hkn
    obtain ⟨x0, _⟩ := hat.le hl
    have hbt := busy_take hkn
    have hbl := busy_le (M.ts.take (k + 1))
    have hS1 : Hid ((h1 : Int) + 2 + busy (M.ts.take (k + 1)) ≤ 70) := by
      show _ ≤ _
      have := List.length_take_le (k + 1) M.ts
      have := HTS.out
      have := hbl.2
      omega
    clear hbl
    obtain ⟨st, hst⟩ : ∃ x, x = (M.ts.getD k Th.zero).st := ⟨_, rfl⟩
    rw [← hst] at x0 hbt
    have HBT : Hid (busy (M.ts.take (k + 1)) = busy (M.ts.take k) + if st ≠ 0 then 1 else 0) := hbt
    clear hst hbt hkn hat
    by_cases h0 : st = 0
    ·have hb0 : (st != 0) = false := by simp [h0]
     have HS2 : Hid (S = (h1 : Int) + 2 + busy (M.ts.take (k + 1))) := by show _ = _; rw [HBT.out, if_neg (by simp [h0])]; have := HS.out; omega
     clear h0
     go_wp2_with fail
     go_roundw
     case rel => exact ⟨k + 1, S, by omega, by go_num, rfl, HS2, hS, trivial⟩
     case measure => simp [intOf]; omega
    ·have hb0 : (st != 0) = true := by simp [h0]
     have HS2 : Hid (S + 1 = (h1 : Int) + 2 + busy (M.ts.take (k + 1))) := by show _ = _; rw [HBT.out, if_pos h0]; have := HS.out; omega
     have hS3 : 0 ≤ S + 1 ∧ S + 1 ≤ 70 := by have := HS2.out; have := hS1.out; omega
     clear h0
     go_wp2_with fail
     go_roundw
     case rel => exact ⟨k + 1, S + 1, by omega, by go_num, by go_num, HS2, hS3, trivial⟩
     case measure => simp [intOf]; omega
   ·obtain rfl : n = k := by omega
    have hge : M.c.t ≤ (n : Int) := by have := HN.out; omega
    have hS64 : S ≤ 64 := by
      have h1 := HS.out
      have h2 := HBUSY.out
      have h3 := HH1.out
      rw [List.take_of_length_le (by have := HTS.out; omega)] at h1
      omega
    clear hlt hS HS
    go_wp2_with fail
    refine (m2 _ hl).mono ?_
    rintro e w9 ⟨L, rfl, HM, o1, ap, l1⟩
    clear z0 z1 z2 z3 z4 z5 z6 z7 z8
    clear m2
    have hbu := Box.new w9 (cells9 L.c L.qR L.qP L.qT L.qH) 29
    have a1 := Le.alloc w9 (.cells (cells9 L.c L.qR L.qP L.qT L.qH) 29)
    go_upto_region 16 with fail
    generalize hW1 : w9.alloc (.cells (cells9 L.c L.qR L.qP L.qT L.qH) 29) = W3 at hbu a1 ⊢
    clear hW1
    have I : MoI w2.heap.size w9.heap.size W3 L := ⟨hbu, l1.size, o1.le a1, ap⟩
    have hgo : w2.heap.size ≤ w9.heap.size := l1.size
    generalize w9.heap.size = go at hbu I hgo ⊢
    have l01 := l1.trans a1
    clear hbu o1 ap l1 a1
    obtain ⟨c', uR, uP, uT, uH, xR, xP, xT, xH⟩ := L
    replace hr := hr.le l01
    replace hb := hb.le l01
    replace bo := bo.le l01
    have hlB : w.heap.size ≤ w2.heap.size := hl.size
    have hiT : t < xT.length := by have := lay_ts HM; simp only at this; omega
    have hiT' : (t : Int) < (xT.length : Int) := by omega
    obtain ⟨gT, capT, hqT, hcapT, hgBT, hgltT, hgneT, hatT, hfzT⟩ := I.openT hiT
    try simp only at hqT hatT hcapT
    subst hqT
    have hT0 : True := trivial
    obtain ⟨p0, p1, p2, _, _, _⟩ := bo.op
    obtain ⟨⟨z0, z1, z2, z3, z4⟩, z5, z6, z7, z8⟩ := (hb).mach
    by_cases hc2 : c = 2
    ·subst hc2
     go_upto_region 17 with fail
     have bx := Box.new W3 (cellsT ⟨1, 2, r, a, 0, 0, [], 0, false, false, 0, []⟩ slZ slZ) 59
     have lx := Le.alloc W3 (.cells (cellsT ⟨1, 2, r, a, 0, 0, [], 0, false, false, 0, []⟩ slZ slZ) 59)
     generalize hW4 : W3.alloc (.cells (cellsT ⟨1, 2, r, a, 0, 0, [], 0, false, false, 0, []⟩ slZ slZ) 59) = W4 at bx lx ⊢
     clear hW4
     have hgx : W3.heap.size ≤ W3.heap.size := Nat.le_refl _
     generalize hgg : W3.heap.size = gx at bx ⊢
     replace hgx : W3.heap.size ≤ gx := by omega
     clear hgg
     clear z0 z1 z2 z3 z4 z5 z6 z7 z8
     clear p0 p1 p2
     obtain ⟨p0, p1, p2, _, _, _⟩ := (bo.le lx).op
     obtain ⟨⟨z0, z1, z2, z3, z4⟩, z5, z6, z7, z8⟩ := ((hb.le lx)).mach
     have e0 := bx.cell 0
     have e4 := bx.cell 4
     have k0 := bx.frozen 0
     have k4 := bx.frozen 4
     go_upto_region 22 with fail
     have bx5 : Box (W4.setCell ⟨gx, 0, none⟩ (.int .i64 11)) gx (cellsT ⟨11, 2, r, a, 0, 0, [], 0, false, false, 0, []⟩ slZ slZ) 59 := by
       have := bx.set 0 (.int .i64 11)
       simpa only [Array.set!_eq_setIfInBounds, List.setIfInBounds_toArray, List.set_cons_zero, List.set_cons_succ] using this
     have lx5 := lx.set (i := 0) (u := .int .i64 11) hgx
     generalize hW5 : W4.setCell ⟨gx, 0, none⟩ (.int .i64 11) = W5 at bx5 lx5 ⊢
     clear hW5 bx lx e0 e4 k0 k4 p0 p1 p2
     have bx := bx5
     have lx := lx5
     clear bx5 lx5
     clear z0 z1 z2 z3 z4 z5 z6 z7 z8
     obtain ⟨p0, p1, p2, _, _, _⟩ := (bo.le lx).op
     obtain ⟨⟨z0, z1, z2, z3, z4⟩, z5, z6, z7, z8⟩ := ((hb.le lx)).mach
     have e0 := bx.cell 0
     have e4 := bx.cell 4
     have k0 := bx.frozen 0
     have k4 := bx.frozen 4
     go_upto_region 24 with fail
     have bx5 : Box (W5.setCell ⟨gx, 4, none⟩ (.int .i64 lg)) gx (cellsT ⟨11, 2, r, a, lg, 0, [], 0, false, false, 0, []⟩ slZ slZ) 59 := by
       have := bx.set 4 (.int .i64 lg)
       simpa only [Array.set!_eq_setIfInBounds, List.setIfInBounds_toArray, List.set_cons_zero, List.set_cons_succ] using this
     have lx5 := lx.set (i := 4) (u := .int .i64 lg) hgx
     generalize hW5 : W5.setCell ⟨gx, 4, none⟩ (.int .i64 lg) = W6 at bx5 lx5 ⊢
     clear hW5 bx lx e0 e4 k0 k4 p0 p1 p2
     have bx := bx5
     have lx := lx5
     clear bx5 lx5
     clear z0 z1 z2 z3 z4 z5 z6 z7 z8
     have HNT : Hid (newT M 2 r a = ⟨11, 2, r, a, lg, 0, [], 0, false, false, 0, []⟩) := by show _ = _; rw [HLG.out]; rfl
     replace hb := hb.le lx
     replace bo := bo.le lx
     replace hr := hr.le lx
     have l02 := l01.trans lx
     have IX := I.le lx
     clear I lx
     obtain ⟨x0, x1, x2, x3, x4, x5, x6, x7, x8, x9, x10, x11⟩ := bx.th
     obtain ⟨_, _, hgBT, hat, hfz⟩ := IX.thAt rfl hiT
     obtain ⟨q0, q1, q2, q3, q4, q5, q6, q7, q8, q9, q10, q11⟩ := hat
     have f0 := hfz (t * 12)
     have f1 := hfz (t * 12 + 1)
     have f2 := hfz (t * 12 + 2)
     have f3 := hfz (t * 12 + 3)
     have f4 := hfz (t * 12 + 4)
     have f5 := hfz (t * 12 + 5)
     have f6 := hfz (t * 12 + 6)
     have f7 := hfz (t * 12 + 7)
     have f8 := hfz (t * 12 + 8)
     have f9 := hfz (t * 12 + 9)
     have f10 := hfz (t * 12 + 10)
     have f11 := hfz (t * 12 + 11)
     obtain ⟨⟨y0, y1, y2, y3, y4⟩, y5, y6, y7, y8⟩ := (IX.bo).mach
     simp only [slV] at y7
     have I2 := IX.setTA (i := t) rfl hiT ⟨⟨11, 2, r, a, lg, 0, [], 0, false, false, 0, []⟩, slZ, slZ⟩ (Own.nil _ _) (Own.nil _ _) (IX.ap.setTn IX.own.bel hiT (.inr (.inl rfl)) (.inr (.inl rfl)) (.inl rfl))
     have hl2 := setsW_le hgBT (LT.cells ⟨⟨11, 2, r, a, lg, 0, [], 0, false, false, 0, []⟩, slZ, slZ⟩) W6 0 (off := t * 12) l02
     have hr2 := setsW_box (off := t * 12) (show w.heap.size + 1 + 1 ≠ gT by omega) (LT.cells ⟨⟨11, 2, r, a, lg, 0, [], 0, false, false, 0, []⟩, slZ, slZ⟩) W6 0 hr
     have hb2 := setsW_box (off := t * 12) (show w.heap.size ≠ gT by omega) (LT.cells ⟨⟨11, 2, r, a, lg, 0, [], 0, false, false, 0, []⟩, slZ, slZ⟩) W6 0 hb
     have bo2 := setsW_box (off := t * 12) (show w.heap.size + 1 ≠ gT by omega) (LT.cells ⟨⟨11, 2, r, a, lg, 0, [], 0, false, false, 0, []⟩, slZ, slZ⟩) W6 0 bo
     go_upto_region 25 with fail
     show Code.wp _ _ _ _ (setsW gT (t * 12) W6 0 (LT.cells ⟨⟨11, 2, r, a, lg, 0, [], 0, false, false, 0, []⟩, slZ, slZ⟩))
     generalize setsW gT (t * 12) W6 0 (LT.cells ⟨⟨11, 2, r, a, lg, 0, [], 0, false, false, 0, []⟩, slZ, slZ⟩) = W7 at I2 hl2 hr2 hb2 bo2 ⊢
     clear x0 x1 x2 x3 x4 x5 x6 x7 x8 x9 x10 x11 q0 q1 q2 q3 q4 q5 q6 q7 q8 q9 q10 q11 f0 f1 f2 f3 f4 f5 f6 f7 f8 f9 f10 f11 hfz IX hr hb bo bx
     clear y0 y1 y2 y3 y4 y5 y6 y7 y8
     have hxe : xH = M.es := lay_es HM
     have hxl : xH.length ≤ 64 := by have := HH1.out; rw [hxe]; omega
     have HXE : Hid (xH = M.es) := hxe
     clear hxe
     have hlit := OwnE.lit evK W7 W7.heap.size (Nat.le_refl _) [⟨(t : Int), true, 2, r, a, 0⟩] (by simp)
     replace hlit : OwnE evK (W7.alloc (.cells #[.int .i64 (t : Int), .bool true, .int .i64 2, .int .i64 r, .int .i64 a, .int .i64 0] 102)) W7.heap.size (.slice (some ⟨W7.heap.size, 0, none⟩) 1 1) [⟨(t : Int), true, 2, r, a, 0⟩] := hlit
     have hA := Le.alloc W7 (.cells #[.int .i64 (t : Int), .bool true, .int .i64 2, .int .i64 r, .int .i64 a, .int .i64 0] 102)
     have I3 := I2.le hA
     have hoH := I3.own.oH
     have hr3 := hr2.le hA
     have l3 := hl2.trans hA
     obtain ⟨p0, p1, p2, _, _, _⟩ := bo2.op
     obtain ⟨⟨y0, y1, y2, y3, y4⟩, y5, y6, y7, y8⟩ := (I2.bo).mach
     clear hb2
     go_upto_region 26 with (at_builtin; refine wp_append_E evIn rfl _ _ rfl w2.heap.size _ _ xH [⟨(t : Int), true, 2, r, a, 0⟩] rfl rfl hoH hlit.has (by show (xH.length + 1) * 48 ≤ _; omega) (by show xH.length + 1 ≤ _; omega) l3.size ?_; intro v' w8 o8 hg8 _; obtain ⟨q', rfl⟩ := o8.has.sl; have hb8 := I3.bo.grown hg8 (hoH.apart I3.bo (by decide)); have c8 := hb8.cell 8; have k8 := hb8.frozen 8)
     have I4 := I3.setH o8 hg8
     have hr4 := (hr3.grown hg8 (hoH.apart hr3 (by decide))).other (show w.heap.size + 1 + 1 ≠ go by omega) 8 (slV q')
     have l48 : Le w2 w8 := Below.grown l3 hg8 l3.size (fun gz e => (hoH.block e).1)
     have l4 := l48.set (g := go) (i := 8) (u := slV q') hgo
     have HM4 : Hid (Lay.M ⟨c', uR, uP, (some ⟨gT, 0, none⟩, xT.length, capT), q', xR, xP, xT.set t ⟨⟨11, 2, r, a, lg, 0, [], 0, false, false, 0, []⟩, slZ, slZ⟩, xH ++ [⟨(t : Int), true, 2, r, a, 0⟩]⟩ = { M with ts := M.ts.set t (newT M 2 r a), es := M.es ++ [⟨(t : Int), true, 2, r, a, 0⟩] }) := by
       have h1 := lay_setT HM t ⟨⟨11, 2, r, a, lg, 0, [], 0, false, false, 0, []⟩, slZ, slZ⟩
       have h2 := lay_setH h1 q' (xH ++ [⟨(t : Int), true, 2, r, a, 0⟩])
       show _ = _
       rw [HNT.out, ← HXE.out]
       refine Eq.trans h2 ?_
       simp only [Mc.putT, Int.toNat_natCast]
     generalize hW8 : w8.setCell ⟨go, 8, none⟩ (slV q') = W9 at I4 hr4 l4 ⊢
     clear hW8 I2 I3 hr2 hr3 c8 k8 p0 p1 p2
     clear y0 y1 y2 y3 y4 y5 y6 y7 y8
     obtain ⟨⟨y0, y1, y2, y3, y4⟩, y5, y6, y7, y8⟩ := (I4.bo).mach
     obtain ⟨⟨r0, r1, r2, r3, r4, r5, r6, r7, r8⟩, k0, k1, k2, k3, k4, k5, k6, k7, k8⟩ := hr4.res
     go_wp2_with fail
     refine bodyPost_ret (v := .tuple #[machV c' uR uP (some ⟨gT, 0, none⟩, xT.length, capT) q', .int .i64 0]) (by simp [results, Tryz.results21, go_sem, r0, r1, r2, r3, r4, r5, r6, r7, r8]) rfl ⟨_, rfl, ?_, (hl.trans l4).put9 (g := w.heap.size + 1 + 1) (by omega) c' uR uP (some ⟨gT, 0, none⟩, xT.length, capT) q'⟩
     have := (I4.ret hr4).base hlB
     rw [HM4.out] at this
     exact this
    by_cases hc3 : c = 3
    ·subst hc3
     go_upto_region 17 with fail
     have bx := Box.new W3 (cellsT ⟨1, 3, r, a, 0, 0, [], 0, false, false, 0, []⟩ slZ slZ) 59
     have lx := Le.alloc W3 (.cells (cellsT ⟨1, 3, r, a, 0, 0, [], 0, false, false, 0, []⟩ slZ slZ) 59)
     generalize hW4 : W3.alloc (.cells (cellsT ⟨1, 3, r, a, 0, 0, [], 0, false, false, 0, []⟩ slZ slZ) 59) = W4 at bx lx ⊢
     clear hW4
     have hgx : W3.heap.size ≤ W3.heap.size := Nat.le_refl _
     generalize hgg : W3.heap.size = gx at bx ⊢
     replace hgx : W3.heap.size ≤ gx := by omega
     clear hgg
     clear z0 z1 z2 z3 z4 z5 z6 z7 z8
     clear p0 p1 p2
     obtain ⟨p0, p1, p2, _, _, _⟩ := (bo.le lx).op
     obtain ⟨⟨z0, z1, z2, z3, z4⟩, z5, z6, z7, z8⟩ := ((hb.le lx)).mach
     have e0 := bx.cell 0
     have e4 := bx.cell 4
     have k0 := bx.frozen 0
     have k4 := bx.frozen 4
     go_upto_region 22 with fail
     have bx5 : Box (W4.setCell ⟨gx, 0, none⟩ (.int .i64 17)) gx (cellsT ⟨17, 3, r, a, 0, 0, [], 0, false, false, 0, []⟩ slZ slZ) 59 := by
       have := bx.set 0 (.int .i64 17)
       simpa only [Array.set!_eq_setIfInBounds, List.setIfInBounds_toArray, List.set_cons_zero, List.set_cons_succ] using this
     have lx5 := lx.set (i := 0) (u := .int .i64 17) hgx
     generalize hW5 : W4.setCell ⟨gx, 0, none⟩ (.int .i64 17) = W5 at bx5 lx5 ⊢
     clear hW5 bx lx e0 e4 k0 k4 p0 p1 p2
     have bx := bx5
     have lx := lx5
     clear bx5 lx5
     clear z0 z1 z2 z3 z4 z5 z6 z7 z8
     obtain ⟨p0, p1, p2, _, _, _⟩ := (bo.le lx).op
     obtain ⟨⟨z0, z1, z2, z3, z4⟩, z5, z6, z7, z8⟩ := ((hb.le lx)).mach
     have e0 := bx.cell 0
     have e4 := bx.cell 4
     have k0 := bx.frozen 0
     have k4 := bx.frozen 4
     go_upto_region 24 with fail
     clear e0 e4 k0 k4 p0 p1 p2
     clear z0 z1 z2 z3 z4 z5 z6 z7 z8
     have HNT : Hid (newT M 3 r a = ⟨17, 3, r, a, 0, 0, [], 0, false, false, 0, []⟩) := by exact rfl
     replace hb := hb.le lx
     replace bo := bo.le lx
     replace hr := hr.le lx
     have l02 := l01.trans lx
     have IX := I.le lx
     clear I lx
     obtain ⟨x0, x1, x2, x3, x4, x5, x6, x7, x8, x9, x10, x11⟩ := bx.th
     obtain ⟨_, _, hgBT, hat, hfz⟩ := IX.thAt rfl hiT
     obtain ⟨q0, q1, q2, q3, q4, q5, q6, q7, q8, q9, q10, q11⟩ := hat
     have f0 := hfz (t * 12)
     have f1 := hfz (t * 12 + 1)
     have f2 := hfz (t * 12 + 2)
     have f3 := hfz (t * 12 + 3)
     have f4 := hfz (t * 12 + 4)
     have f5 := hfz (t * 12 + 5)
     have f6 := hfz (t * 12 + 6)
     have f7 := hfz (t * 12 + 7)
     have f8 := hfz (t * 12 + 8)
     have f9 := hfz (t * 12 + 9)
     have f10 := hfz (t * 12 + 10)
     have f11 := hfz (t * 12 + 11)
     obtain ⟨⟨y0, y1, y2, y3, y4⟩, y5, y6, y7, y8⟩ := (IX.bo).mach
     simp only [slV] at y7
     have I2 := IX.setTA (i := t) rfl hiT ⟨⟨17, 3, r, a, 0, 0, [], 0, false, false, 0, []⟩, slZ, slZ⟩ (Own.nil _ _) (Own.nil _ _) (IX.ap.setTn IX.own.bel hiT (.inr (.inl rfl)) (.inr (.inl rfl)) (.inl rfl))
     have hl2 := setsW_le hgBT (LT.cells ⟨⟨17, 3, r, a, 0, 0, [], 0, false, false, 0, []⟩, slZ, slZ⟩) W5 0 (off := t * 12) l02
     have hr2 := setsW_box (off := t * 12) (show w.heap.size + 1 + 1 ≠ gT by omega) (LT.cells ⟨⟨17, 3, r, a, 0, 0, [], 0, false, false, 0, []⟩, slZ, slZ⟩) W5 0 hr
     have hb2 := setsW_box (off := t * 12) (show w.heap.size ≠ gT by omega) (LT.cells ⟨⟨17, 3, r, a, 0, 0, [], 0, false, false, 0, []⟩, slZ, slZ⟩) W5 0 hb
     have bo2 := setsW_box (off := t * 12) (show w.heap.size + 1 ≠ gT by omega) (LT.cells ⟨⟨17, 3, r, a, 0, 0, [], 0, false, false, 0, []⟩, slZ, slZ⟩) W5 0 bo
     go_upto_region 25 with fail
     show Code.wp _ _ _ _ (setsW gT (t * 12) W5 0 (LT.cells ⟨⟨17, 3, r, a, 0, 0, [], 0, false, false, 0, []⟩, slZ, slZ⟩))
     generalize setsW gT (t * 12) W5 0 (LT.cells ⟨⟨17, 3, r, a, 0, 0, [], 0, false, false, 0, []⟩, slZ, slZ⟩) = W7 at I2 hl2 hr2 hb2 bo2 ⊢
     clear x0 x1 x2 x3 x4 x5 x6 x7 x8 x9 x10 x11 q0 q1 q2 q3 q4 q5 q6 q7 q8 q9 q10 q11 f0 f1 f2 f3 f4 f5 f6 f7 f8 f9 f10 f11 hfz IX hr hb bo bx
     clear y0 y1 y2 y3 y4 y5 y6 y7 y8
     have hxe : xH = M.es := lay_es HM
     have hxl : xH.length ≤ 64 := by have := HH1.out; rw [hxe]; omega
     have HXE : Hid (xH = M.es) := hxe
     clear hxe
     have hlit := OwnE.lit evK W7 W7.heap.size (Nat.le_refl _) [⟨(t : Int), true, 3, r, a, 0⟩] (by simp)
     replace hlit : OwnE evK (W7.alloc (.cells #[.int .i64 (t : Int), .bool true, .int .i64 3, .int .i64 r, .int .i64 a, .int .i64 0] 102)) W7.heap.size (.slice (some ⟨W7.heap.size, 0, none⟩) 1 1) [⟨(t : Int), true, 3, r, a, 0⟩] := hlit
     have hA := Le.alloc W7 (.cells #[.int .i64 (t : Int), .bool true, .int .i64 3, .int .i64 r, .int .i64 a, .int .i64 0] 102)
     have I3 := I2.le hA
     have hoH := I3.own.oH
     have hr3 := hr2.le hA
     have l3 := hl2.trans hA
     obtain ⟨p0, p1, p2, _, _, _⟩ := bo2.op
     obtain ⟨⟨y0, y1, y2, y3, y4⟩, y5, y6, y7, y8⟩ := (I2.bo).mach
     clear hb2
     go_upto_region 26 with (at_builtin; refine wp_append_E evIn rfl _ _ rfl w2.heap.size _ _ xH [⟨(t : Int), true, 3, r, a, 0⟩] rfl rfl hoH hlit.has (by show (xH.length + 1) * 48 ≤ _; omega) (by show xH.length + 1 ≤ _; omega) l3.size ?_; intro v' w8 o8 hg8 _; obtain ⟨q', rfl⟩ := o8.has.sl; have hb8 := I3.bo.grown hg8 (hoH.apart I3.bo (by decide)); have c8 := hb8.cell 8; have k8 := hb8.frozen 8)
     have I4 := I3.setH o8 hg8
     have hr4 := (hr3.grown hg8 (hoH.apart hr3 (by decide))).other (show w.heap.size + 1 + 1 ≠ go by omega) 8 (slV q')
     have l48 : Le w2 w8 := Below.grown l3 hg8 l3.size (fun gz e => (hoH.block e).1)
     have l4 := l48.set (g := go) (i := 8) (u := slV q') hgo
     have HM4 : Hid (Lay.M ⟨c', uR, uP, (some ⟨gT, 0, none⟩, xT.length, capT), q', xR, xP, xT.set t ⟨⟨17, 3, r, a, 0, 0, [], 0, false, false, 0, []⟩, slZ, slZ⟩, xH ++ [⟨(t : Int), true, 3, r, a, 0⟩]⟩ = { M with ts := M.ts.set t (newT M 3 r a), es := M.es ++ [⟨(t : Int), true, 3, r, a, 0⟩] }) := by
       have h1 := lay_setT HM t ⟨⟨17, 3, r, a, 0, 0, [], 0, false, false, 0, []⟩, slZ, slZ⟩
       have h2 := lay_setH h1 q' (xH ++ [⟨(t : Int), true, 3, r, a, 0⟩])
       show _ = _
       rw [HNT.out, ← HXE.out]
       refine Eq.trans h2 ?_
       simp only [Mc.putT, Int.toNat_natCast]
     generalize hW8 : w8.setCell ⟨go, 8, none⟩ (slV q') = W9 at I4 hr4 l4 ⊢
     clear hW8 I2 I3 hr2 hr3 c8 k8 p0 p1 p2
     clear y0 y1 y2 y3 y4 y5 y6 y7 y8
     obtain ⟨⟨y0, y1, y2, y3, y4⟩, y5, y6, y7, y8⟩ := (I4.bo).mach
     obtain ⟨⟨r0, r1, r2, r3, r4, r5, r6, r7, r8⟩, k0, k1, k2, k3, k4, k5, k6, k7, k8⟩ := hr4.res
     go_wp2_with fail
     refine bodyPost_ret (v := .tuple #[machV c' uR uP (some ⟨gT, 0, none⟩, xT.length, capT) q', .int .i64 0]) (by simp [results, Tryz.results21, go_sem, r0, r1, r2, r3, r4, r5, r6, r7, r8]) rfl ⟨_, rfl, ?_, (hl.trans l4).put9 (g := w.heap.size + 1 + 1) (by omega) c' uR uP (some ⟨gT, 0, none⟩, xT.length, capT) q'⟩
     have := (I4.ret hr4).base hlB
     rw [HM4.out] at this
     exact this
    ·have hb2 : (c == 2) = false := by simp [hc2]
     have hb3 : (c == 3) = false := by simp [hc3]
     have hb4 : (c != 3) = true := by simp [hc3]
     go_upto_region 17 with fail
     have bx := Box.new W3 (cellsT ⟨1, c, r, a, 0, 0, [], 0, false, false, 0, []⟩ slZ slZ) 59
     have lx := Le.alloc W3 (.cells (cellsT ⟨1, c, r, a, 0, 0, [], 0, false, false, 0, []⟩ slZ slZ) 59)
     generalize hW4 : W3.alloc (.cells (cellsT ⟨1, c, r, a, 0, 0, [], 0, false, false, 0, []⟩ slZ slZ) 59) = W4 at bx lx ⊢
     clear hW4
     have hgx : W3.heap.size ≤ W3.heap.size := Nat.le_refl _
     generalize hgg : W3.heap.size = gx at bx ⊢
     replace hgx : W3.heap.size ≤ gx := by omega
     clear hgg
     clear z0 z1 z2 z3 z4 z5 z6 z7 z8
     clear p0 p1 p2
     obtain ⟨p0, p1, p2, _, _, _⟩ := (bo.le lx).op
     obtain ⟨⟨z0, z1, z2, z3, z4⟩, z5, z6, z7, z8⟩ := ((hb.le lx)).mach
     have e0 := bx.cell 0
     have e4 := bx.cell 4
     have k0 := bx.frozen 0
     have k4 := bx.frozen 4
     go_upto_region 24 with fail
     have bx5 : Box (W4.setCell ⟨gx, 4, none⟩ (.int .i64 lg)) gx (cellsT ⟨1, c, r, a, lg, 0, [], 0, false, false, 0, []⟩ slZ slZ) 59 := by
       have := bx.set 4 (.int .i64 lg)
       simpa only [Array.set!_eq_setIfInBounds, List.setIfInBounds_toArray, List.set_cons_zero, List.set_cons_succ] using this
     have lx5 := lx.set (i := 4) (u := .int .i64 lg) hgx
     generalize hW5 : W4.setCell ⟨gx, 4, none⟩ (.int .i64 lg) = W6 at bx5 lx5 ⊢
     clear hW5 bx lx e0 e4 k0 k4 p0 p1 p2
     have bx := bx5
     have lx := lx5
     clear bx5 lx5
     clear z0 z1 z2 z3 z4 z5 z6 z7 z8
     have HNT : Hid (newT M c r a = ⟨1, c, r, a, lg, 0, [], 0, false, false, 0, []⟩) := by show _ = _; rw [HLG.out]; unfold newT; rw [if_neg hc2, if_neg hc3, if_neg hc3]; rfl
     replace hb := hb.le lx
     replace bo := bo.le lx
     replace hr := hr.le lx
     have l02 := l01.trans lx
     have IX := I.le lx
     clear I lx
     obtain ⟨x0, x1, x2, x3, x4, x5, x6, x7, x8, x9, x10, x11⟩ := bx.th
     obtain ⟨_, _, hgBT, hat, hfz⟩ := IX.thAt rfl hiT
     obtain ⟨q0, q1, q2, q3, q4, q5, q6, q7, q8, q9, q10, q11⟩ := hat
     have f0 := hfz (t * 12)
     have f1 := hfz (t * 12 + 1)
     have f2 := hfz (t * 12 + 2)
     have f3 := hfz (t * 12 + 3)
     have f4 := hfz (t * 12 + 4)
     have f5 := hfz (t * 12 + 5)
     have f6 := hfz (t * 12 + 6)
     have f7 := hfz (t * 12 + 7)
     have f8 := hfz (t * 12 + 8)
     have f9 := hfz (t * 12 + 9)
     have f10 := hfz (t * 12 + 10)
     have f11 := hfz (t * 12 + 11)
     obtain ⟨⟨y0, y1, y2, y3, y4⟩, y5, y6, y7, y8⟩ := (IX.bo).mach
     simp only [slV] at y7
     have I2 := IX.setTA (i := t) rfl hiT ⟨⟨1, c, r, a, lg, 0, [], 0, false, false, 0, []⟩, slZ, slZ⟩ (Own.nil _ _) (Own.nil _ _) (IX.ap.setTn IX.own.bel hiT (.inr (.inl rfl)) (.inr (.inl rfl)) (.inl rfl))
     have hl2 := setsW_le hgBT (LT.cells ⟨⟨1, c, r, a, lg, 0, [], 0, false, false, 0, []⟩, slZ, slZ⟩) W6 0 (off := t * 12) l02
     have hr2 := setsW_box (off := t * 12) (show w.heap.size + 1 + 1 ≠ gT by omega) (LT.cells ⟨⟨1, c, r, a, lg, 0, [], 0, false, false, 0, []⟩, slZ, slZ⟩) W6 0 hr
     have hb2 := setsW_box (off := t * 12) (show w.heap.size ≠ gT by omega) (LT.cells ⟨⟨1, c, r, a, lg, 0, [], 0, false, false, 0, []⟩, slZ, slZ⟩) W6 0 hb
     have bo2 := setsW_box (off := t * 12) (show w.heap.size + 1 ≠ gT by omega) (LT.cells ⟨⟨1, c, r, a, lg, 0, [], 0, false, false, 0, []⟩, slZ, slZ⟩) W6 0 bo
     go_upto_region 25 with fail
     show Code.wp _ _ _ _ (setsW gT (t * 12) W6 0 (LT.cells ⟨⟨1, c, r, a, lg, 0, [], 0, false, false, 0, []⟩, slZ, slZ⟩))
     generalize setsW gT (t * 12) W6 0 (LT.cells ⟨⟨1, c, r, a, lg, 0, [], 0, false, false, 0, []⟩, slZ, slZ⟩) = W7 at I2 hl2 hr2 hb2 bo2 ⊢
     clear x0 x1 x2 x3 x4 x5 x6 x7 x8 x9 x10 x11 q0 q1 q2 q3 q4 q5 q6 q7 q8 q9 q10 q11 f0 f1 f2 f3 f4 f5 f6 f7 f8 f9 f10 f11 hfz IX hr hb bo bx
     clear y0 y1 y2 y3 y4 y5 y6 y7 y8
     have hxe : xH = M.es := lay_es HM
     have hxl : xH.length ≤ 64 := by have := HH1.out; rw [hxe]; omega
     have HXE : Hid (xH = M.es) := hxe
     clear hxe
     have hlit := OwnE.lit evK W7 W7.heap.size (Nat.le_refl _) [⟨(t : Int), true, c, r, a, 0⟩] (by simp)
     replace hlit : OwnE evK (W7.alloc (.cells #[.int .i64 (t : Int), .bool true, .int .i64 c, .int .i64 r, .int .i64 a, .int .i64 0] 102)) W7.heap.size (.slice (some ⟨W7.heap.size, 0, none⟩) 1 1) [⟨(t : Int), true, c, r, a, 0⟩] := hlit
     have hA := Le.alloc W7 (.cells #[.int .i64 (t : Int), .bool true, .int .i64 c, .int .i64 r, .int .i64 a, .int .i64 0] 102)
     have I3 := I2.le hA
     have hoH := I3.own.oH
     have hr3 := hr2.le hA
     have l3 := hl2.trans hA
     obtain ⟨p0, p1, p2, _, _, _⟩ := bo2.op
     obtain ⟨⟨y0, y1, y2, y3, y4⟩, y5, y6, y7, y8⟩ := (I2.bo).mach
     clear hb2
     go_upto_region 26 with (at_builtin; refine wp_append_E evIn rfl _ _ rfl w2.heap.size _ _ xH [⟨(t : Int), true, c, r, a, 0⟩] rfl rfl hoH hlit.has (by show (xH.length + 1) * 48 ≤ _; omega) (by show xH.length + 1 ≤ _; omega) l3.size ?_; intro v' w8 o8 hg8 _; obtain ⟨q', rfl⟩ := o8.has.sl; have hb8 := I3.bo.grown hg8 (hoH.apart I3.bo (by decide)); have c8 := hb8.cell 8; have k8 := hb8.frozen 8)
     have I4 := I3.setH o8 hg8
     have hr4 := (hr3.grown hg8 (hoH.apart hr3 (by decide))).other (show w.heap.size + 1 + 1 ≠ go by omega) 8 (slV q')
     have l48 : Le w2 w8 := Below.grown l3 hg8 l3.size (fun gz e => (hoH.block e).1)
     have l4 := l48.set (g := go) (i := 8) (u := slV q') hgo
     have HM4 : Hid (Lay.M ⟨c', uR, uP, (some ⟨gT, 0, none⟩, xT.length, capT), q', xR, xP, xT.set t ⟨⟨1, c, r, a, lg, 0, [], 0, false, false, 0, []⟩, slZ, slZ⟩, xH ++ [⟨(t : Int), true, c, r, a, 0⟩]⟩ = { M with ts := M.ts.set t (newT M c r a), es := M.es ++ [⟨(t : Int), true, c, r, a, 0⟩] }) := by
       have h1 := lay_setT HM t ⟨⟨1, c, r, a, lg, 0, [], 0, false, false, 0, []⟩, slZ, slZ⟩
       have h2 := lay_setH h1 q' (xH ++ [⟨(t : Int), true, c, r, a, 0⟩])
       show _ = _
       rw [HNT.out, ← HXE.out]
       refine Eq.trans h2 ?_
       simp only [Mc.putT, Int.toNat_natCast]
     generalize hW8 : w8.setCell ⟨go, 8, none⟩ (slV q') = W9 at I4 hr4 l4 ⊢
     clear hW8 I2 I3 hr2 hr3 c8 k8 p0 p1 p2
     clear y0 y1 y2 y3 y4 y5 y6 y7 y8
     obtain ⟨⟨y0, y1, y2, y3, y4⟩, y5, y6, y7, y8⟩ := (I4.bo).mach
     obtain ⟨⟨r0, r1, r2, r3, r4, r5, r6, r7, r8⟩, k0, k1, k2, k3, k4, k5, k6, k7, k8⟩ := hr4.res
     go_wp2_with fail
     refine bodyPost_ret (v := .tuple #[machV c' uR uP (some ⟨gT, 0, none⟩, xT.length, capT) q', .int .i64 0]) (by simp [results, Tryz.results21, go_sem, r0, r1, r2, r3, r4, r5, r6, r7, r8]) rfl ⟨_, rfl, ?_, (hl.trans l4).put9 (g := w.heap.size + 1 + 1) (by omega) c' uR uP (some ⟨gT, 0, none⟩, xT.length, capT) q'⟩
     have := (I4.ret hr4).base hlB
     rw [HM4.out] at this
     exact this
set_option maxRecDepth 8000 in
set_option maxHeartbeats 16000000 in
theorem refNew (c : Cfg) (w : World) : Calls Tryz.prog 56 #[cfgV c.o c.r c.l c.t c.s] w fun e w' => ∃ v', e = .returned (.tuple #[v', .int .i64 (newM c).2]) ∧ OwnM w' w.heap.size v' (newM c).1 ∧ Le w w' := by
 have hl := (Le.alloc w (.cells (cells5 c) 23)).trans (Le.alloc _ (.cells cellsZ9 29))
 have hb1 := (Box.new w (cells5 c) 23).le (Le.alloc _ (.cells cellsZ9 29))
 have hb2 := Box.new (w.alloc (.cells (cells5 c) 23)) cellsZ9 29
 have hWs : ((w.alloc (.cells (cells5 c) 23)).alloc (.cells cellsZ9 29)).heap.size = w.heap.size + 2 := by simp
 rw [World.size_alloc] at hb2
 have m1 := fun w' => rmConfigMay c.o c.r c.l c.t c.s w'
 cases h1 : cfgB c.o c.r c.l c.t c.s
 ·have hN : newM c = (Mc.zero, 1400) := by unfold newM Cfg.ok; rw [h1]; rfl
  rw [hN]
  simp only [h1] at m1
  go_enter Tryz.func56, Tryz.ntmps56
  go_wp2_with fail
  refine (m1 _).mono ?_
  rintro e w1 ⟨rfl, n1⟩
  replace hb2 := hb2.le n1
  have r0 := hb2.cell 0
  have r1 := hb2.cell 1
  have r2 := hb2.cell 2
  have r3 := hb2.cell 3
  have r4 := hb2.cell 4
  have r5 := hb2.cell 5
  have r6 := hb2.cell 6
  have r7 := hb2.cell 7
  have r8 := hb2.cell 8
  simp only [List.getElem?_toArray, List.getElem?_cons_succ, List.getElem?_cons_zero] at r0 r1 r2 r3 r4 r5 r6 r7 r8
  have k0 := hb2.frozen 0
  have k1 := hb2.frozen 1
  have k2 := hb2.frozen 2
  have k3 := hb2.frozen 3
  have k4 := hb2.frozen 4
  have k5 := hb2.frozen 5
  have k6 := hb2.frozen 6
  have k7 := hb2.frozen 7
  have k8 := hb2.frozen 8
  go_wp2_with fail
  refine bodyPost_ret (v := .tuple #[machZ, .int .i64 1400]) (by simp [results, Tryz.results56, go_sem, r0, r1, r2, r3, r4, r5, r6, r7, r8]) rfl ⟨_, rfl, OwnM.zero _ _, ?_⟩
  exact (hl.trans n1).put9 (c := Cfg.zero) (by omega) slZ slZ slZ slZ
 have hN : newM c = (freshM c, 0) := by unfold newM Cfg.ok; rw [h1]; rfl
 rw [hN]
 simp only [h1] at m1
 obtain ⟨_, ⟨r0, r1⟩, ⟨l0, l1⟩, ⟨t0, t1⟩, hs, _⟩ := cfgB_cases h1
 obtain ⟨nl, hnl⟩ : ∃ n : Nat, c.l = n := ⟨c.l.toNat, by omega⟩
 obtain ⟨nr, hnr⟩ : ∃ n : Nat, c.r = n := ⟨c.r.toNat, by omega⟩
 obtain ⟨nt, hnt⟩ : ∃ n : Nat, c.t = n := ⟨c.t.toNat, by omega⟩
 have HNL : Hid (c.l = nl) := hnl
 have HNR : Hid (c.r = nr) := hnr
 have HNT : Hid (c.t = nt) := hnt
 have hnl2 : nl ≤ 2 := by omega
 have hnr2 : nr ≤ 2 := by omega
 have hnt4 : nt = 1 ∨ nt = 2 ∨ nt = 3 ∨ nt = 4 := by omega
 clear h1 hnl hnr hnt
 go_enter Tryz.func56, Tryz.ntmps56
 go_wp2_with fail
 refine (m1 _).mono ?_
 rintro e w1 ⟨rfl, n1⟩
 replace hb1 := hb1.le n1
 replace hb2 := hb2.le n1
 have hsz := hWs
 have hsz2 := n1.size
 rw [hWs] at hsz2
 replace hl := hl.trans n1
 clear m1 n1 hWs hsz
 obtain ⟨z0, z1, z2, z3, z4⟩ := hb1.slot
 go_upto_region 3 with fail
 go_cut [4] from 9 (fun s4 wc => ∃ g q, s4 = .pointer (some ⟨g, 0, none⟩) ∧ CpI False w (cells5 c) 23 c g wc ⟨c, slZ, slZ, q, slZ, [], [], List.replicate nt ⟨Th.zero, slZ, slZ⟩, []⟩)
 case first =>
   refine wp_region_any (by kernel_rfl) ?_
   refine wpAny_grow [] [0, 1, 2, 3, 4, 5] [6] (by decide) (by kernel_rfl) Le (Le.refl _) (fun _ _ _ => Le.trans)
     (fun vs i x => match i with
       | 0 => vs 0 = cfgV c.o c.r c.l c.t c.s
       | 1 => vs 1 = .pointer (some ⟨w.heap.size, 3, none⟩)
       | 2 => vs 2 = .int .i64 nt
       | 3 => ∃ q, vs 3 = slV q ∧ OwnE thK x (w.heap.size + 2) (slV q) (List.replicate nt ⟨Th.zero, slZ, slZ⟩)
       | 4 => ∃ q, vs 4 = machV c slZ slZ q slZ ∧ OwnE thK x (w.heap.size + 2) (slV q) (List.replicate nt ⟨Th.zero, slZ, slZ⟩)
       | _ => ∃ g, vs 5 = .pointer (some ⟨g, 0, none⟩) ∧ w.heap.size + 2 ≤ g ∧ Box x g cellsZ9 29) ?_ ?_ (by decide) ?_ ?_
   ·intro vs i x y hi _ h hxy
    simp only [List.mem_cons, List.not_mem_nil, or_false] at hi
    rcases hi with rfl | rfl | rfl | rfl | rfl | rfl
    ·exact h
    ·exact h
    ·exact h
    ·obtain ⟨b, e, o⟩ := h; exact ⟨b, e, o.le hxy⟩
    ·obtain ⟨b, e, o⟩ := h; exact ⟨b, e, o.le hxy⟩
    ·obtain ⟨b, e, o, o'⟩ := h; exact ⟨b, e, o, o'.le hxy⟩
   ·intro vs vs' i o x hi _ hk h
    have e := hk i (.inl rfl)
    simp only [List.mem_cons, List.not_mem_nil, or_false] at hi
    rcases hi with rfl | rfl | rfl | rfl | rfl | rfl
    all_goals
      simp only at h ⊢
      rw [← e]
      exact h
   ·intro i o hi ho vs x hx hd
    have hx0 := (Le.drew w1).trans hx
    simp only [List.mem_cons, List.not_mem_nil, or_false] at hi
    generalize hρ : (putH _ _ _ vs).eval = ρ
    rcases hi with rfl | rfl | rfl | rfl | rfl | rfl
    ·cases ho
     have r1 : ρ (.tmp 1) = .pointer (some ⟨w.heap.size, 0, none⟩) := by rw [← hρ]; kernel_rfl
     have y0 := cell_le z0 hx0
     have y1 := cell_le z1 hx0
     have y2 := cell_le z2 hx0
     have y3 := cell_le z3 hx0
     have y4 := cell_le z4 hx0
     exact gives_value (w' := x) (v := cfgV c.o c.r c.l c.t c.s) (by simp [go_sem, r1, y0, y1, y2, y3, y4]) ⟨Le.refl _, rfl⟩
    ·cases ho
     have r1 : ρ (.tmp 1) = .pointer (some ⟨w.heap.size, 0, none⟩) := by rw [← hρ]; kernel_rfl
     exact gives_value (w' := x) (v := .pointer (some ⟨w.heap.size, 3, none⟩)) (by simp [go_sem, r1]) ⟨Le.refl _, rfl⟩
    ·cases ho
     have r1 : ρ (.tmp 14) = vs 1 := by rw [← hρ]; kernel_rfl
     have d := hd 1 (by decide) (by kernel_rfl)
     simp only at d
     rw [d] at r1
     have y3 := cell_le z3 hx0
     rw [HNT.out] at y3
     exact gives_value (w' := x) (v := .int .i64 nt) (by simp [go_sem, r1, y3]) ⟨Le.refl _, rfl⟩
    ·cases ho
     have r1 : ρ (.tmp 15) = vs 2 := by rw [← hρ]; kernel_rfl
     have d := hd 2 (by decide) (by kernel_rfl)
     simp only at d
     rw [d] at r1
     obtain ⟨x', hrun, o3, l3⟩ := run_make_ths x (w.heap.size + 2) nt hnt4 (Nat.le_trans hsz2 hx0.size)
     exact gives_value (w' := x') (v := slV (some ⟨x.heap.size, 0, none⟩, nt, nt)) (by simp [go_sem, r1, hrun]) ⟨l3, _, rfl, o3⟩
    ·cases ho
     have r1 : ρ (.tmp 13) = vs 0 := by rw [← hρ]; kernel_rfl
     have r2 : ρ (.tmp 16) = vs 3 := by rw [← hρ]; kernel_rfl
     have e1 := hd 0 (by decide) (by kernel_rfl)
     have hh := hd 3 (by decide) (by kernel_rfl)
     simp only at e1 hh
     obtain ⟨q, e5, o5⟩ := hh
     rw [e1] at r1
     rw [e5] at r2
     exact gives_value (w' := x) (v := machV c slZ slZ q slZ) (by simp [go_sem, r1, r2]) ⟨Le.refl _, q, rfl, o5⟩
    ·cases ho
     exact gives_value (w' := x.alloc (.cells cellsZ9 29)) (v := .pointer (some ⟨x.heap.size, 0, none⟩)) (by simp [go_sem]) ⟨Le.alloc _ _, x.heap.size, rfl, Nat.le_trans hsz2 hx0.size, Box.new _ _ _⟩
   ·intro vs x hx hd
    have hx0 := (Le.drew w1).trans hx
    have hh := hd 4 (by decide)
    simp only at hh
    replace hh := hh.choose_spec
    generalize Exists.choose _ = q at hh
    have e6 := hh.1
    have o6 := hh.2
    have hh := hd 5 (by decide)
    simp only at hh
    replace hh := hh.choose_spec
    generalize Exists.choose _ = g at hh
    have e7 := hh.1
    have hg := hh.2.1
    have b7 := hh.2.2
    generalize hf0 : putH _ _ _ vs = fr0
    refine wpSeq_cons rfl ?_
    refine wp_skip_at (w0 := put9 x g c slZ slZ q slZ) ?_ ?_
    ·generalize hρ : fr0.eval = ρ
     have r1 : ρ (.tmp 4) = vs 5 := by rw [← hρ, ← hf0]; kernel_rfl
     have r2 : ρ (.tmp 17) = vs 4 := by rw [← hρ, ← hf0]; kernel_rfl
     rw [e7] at r1
     rw [e6] at r2
     have c0 := b7.cell 0
     have c1 := b7.cell 1
     have c2 := b7.cell 2
     have c3 := b7.cell 3
     have c4 := b7.cell 4
     have c5 := b7.cell 5
     have c6 := b7.cell 6
     have c7 := b7.cell 7
     have c8 := b7.cell 8
     simp only [List.getElem?_toArray, List.getElem?_cons_succ, List.getElem?_cons_zero] at c0 c1 c2 c3 c4 c5 c6 c7 c8
     have k0 := b7.frozen 0
     have k1 := b7.frozen 1
     have k2 := b7.frozen 2
     have k3 := b7.frozen 3
     have k4 := b7.frozen 4
     have k5 := b7.frozen 5
     have k6 := b7.frozen 6
     have k7 := b7.frozen 7
     have k8 := b7.frozen 8
     simp [go_sem, r1, r2, c0, c1, c2, c3, c4, c5, c6, c7, c8, k0, k1, k2, k3, k4, k5, k6, k7, k8]
    ·subst hf0
     simp only [wpSeq, putH, List.getElem?_cons_succ, List.getElem?_cons_zero, Option.bind_some, Act.put, List.setIfInBounds_toArray, List.set_cons_zero, List.set_cons_succ, e7]
     go_wp2_with fail
     go_meet
     case rel => exact ⟨g, q, rfl, CpI.start2 id (hl.trans hx0) (hb1.le hx0) (hb2.le hx0) b7 hg o6⟩
 case rest =>
   obtain ⟨g, q0, rfl, I0⟩ := hcut
   clear hb1 hb2 hl z0 z1 z2 z3 z4
   obtain ⟨R, hR⟩ : ∃ R, R = (newS c.s).1 := ⟨_, rfl⟩
   obtain ⟨er, her⟩ : ∃ e, e = (newS c.s).2 := ⟨_, rfl⟩
   have HR : Hid (R = (newS c.s).1) := hR
   have hnew := fun w' => refNewRing c.s w'
   simp only [← hR, ← her] at hnew
   clear hR her
   obtain ⟨z0, z1, z2, z3, z4⟩ := I0.bp.slot
   go_wp2_with fail
   go_loopw [5] (fun i wr => ∃ (k : Nat) (L : Lay), k ≤ nl ∧ i = .int .i64 k ∧ CpI False w (cells5 c) 23 c g wr L ∧ Hid (L.c = c ∧ L.rs.map LR.R = List.replicate k R ∧ L.ps = [] ∧ L.ts.map LT.T = List.replicate nt Th.zero ∧ L.es = [])) (fun i _ => nl - (intOf i).toNat)
   case atStart => exact ⟨0, _, Nat.zero_le _, rfl, I0, rfl, rfl, rfl, by simp, rfl⟩
   case round =>
     clear I0 z0 z1 z2 z3 z4
     obtain ⟨k, L, hk, rfl, I, HL⟩ := hrel
     obtain ⟨z0, z1, z2, z3, z4⟩ := I.bp.slot
     by_cases hlt : k < nl
     ·have hlt' : (k : Int) < c.l := by have := HNL.out; omega
      have hLn : L.rs.length = k := by
        have := congrArg List.length HL.out.2.1
        simp at this
        exact this
      have HLn : Hid (L.rs.length = k) := hLn
      clear hLn
      go_wp2_with fail
      refine (hnew _).mono ?_
      rintro e w2 ⟨v', rfl, ⟨q, rfl, oq⟩, l2⟩
      have hA := Le.alloc w2 (.cells (cellsR R.h R.t R.f q) 55)
      have hbx := Box.new w2 (cellsR R.h R.t R.f q) 55
      clear z0 z1 z2 z3 z4
      go_upto_region 8 with fail
      generalize hW2 : w2.alloc (.cells (cellsR R.h R.t R.f q) 55) = w3 at hA hbx ⊢
      generalize w2.heap.size = gx at hbx ⊢
      clear hW2
      have l3 := l2.trans hA
      replace oq := oq.le hA
      clear hA l2
      have hlit := OwnE.lit ringK w3 wr.heap.size l3.size [⟨R, q⟩] (by simp)
      replace hlit : OwnE ringK (w3.alloc (.cells (cellsR R.h R.t R.f q) 55)) wr.heap.size (.slice (some ⟨w3.heap.size, 0, none⟩) 1 1) [⟨R, q⟩] := hlit
      have hA6 := Le.alloc w3 (.cells (cellsR R.h R.t R.f q) 55)
      have I6 := I.later l3
      have y5 := I6.bo.mach.2.1
      have hoR := I6.own.oR.le hA6
      obtain ⟨s0, s1, s2, s3, _, _, _, _⟩ := hbx.ring
      go_wp2_with (at_builtin; refine wp_append_E ringIn rfl _ _ rfl w.heap.size _ _ L.rs [⟨R, q⟩] rfl rfl hoR hlit.has (by have := HLn.out; show (L.rs.length + 1) * 48 ≤ _; omega) (by have := HLn.out; show L.rs.length + 1 ≤ _; omega) (I6.le.trans hA6).size ?_; intro v' w7 o8 hg8 _; obtain ⟨q', rfl⟩ := o8.has.sl; have hb8 := (I6.bo.le hA6).grown hg8 (hoR.apart (I6.bo.le hA6) (by decide)); have c5 := hb8.cell 5; have k5 := hb8.frozen 5)
      have IN := I.ring (by decide) (l3.trans hA6) (x := ⟨R, q⟩) (oq.le hA6) o8 hg8
      go_roundw
      case rel => exact ⟨k + 1, _, by omega, by go_num, IN, HL.out.1, by rw [List.map_append, HL.out.2.1, List.replicate_succ']; rfl, HL.out.2.2.1, HL.out.2.2.2.1, HL.out.2.2.2.2⟩
      case measure => simp [intOf]; omega
     ·have hge : c.l ≤ (k : Int) := by have := HNL.out; omega
      have hkl : k = nl := by omega
      have HL0 : Hid (L.c = c ∧ L.rs.map LR.R = List.replicate nl R ∧ L.ps.map LP.P = List.replicate 0 ⟨St.zero, List.replicate nl 0, List.replicate nl 0⟩ ∧ L.ts.map LT.T = List.replicate nt Th.zero ∧ L.es = []) := ⟨HL.out.1, by rw [HL.out.2.1, hkl], by rw [HL.out.2.2.1]; rfl, HL.out.2.2.2.1, HL.out.2.2.2.2⟩
      clear hkl hnew
      go_wp2_with fail
      go_loopw [8] (fun i wr => ∃ (k : Nat) (L : Lay), k ≤ nr ∧ i = .int .i64 k ∧ CpI False w (cells5 c) 23 c g wr L ∧ Hid (L.c = c ∧ L.rs.map LR.R = List.replicate nl R ∧ L.ps.map LP.P = List.replicate k ⟨St.zero, List.replicate nl 0, List.replicate nl 0⟩ ∧ L.ts.map LT.T = List.replicate nt Th.zero ∧ L.es = [])) (fun i _ => nr - (intOf i).toNat)
      case atStart => exact ⟨0, L, Nat.zero_le _, rfl, I, HL0⟩
      case round =>
        clear HL0 HL I z0 z1 z2 z3 z4 hlt hge hk
        rename_i _ k0 L0 _ _
        obtain ⟨k, L, hk, rfl, I, HL⟩ := hrel
        obtain ⟨z0, z1, z2, z3, z4⟩ := I.bp.slot
        by_cases hlt : k < nr
        ·have hlt' : (k : Int) < c.r := by have := HNR.out; omega
         have hLn : L.ps.length = k := by
           have := congrArg List.length HL.out.2.2.1
           simp at this
           exact this
         have HLn : Hid (L.ps.length = k) := hLn
         clear hLn
         have y6 := I.bo.mach.2.2.1
         go_upto_region 12 with fail
         refine wp_region_any (by kernel_rfl) ?_
         refine wpAny_grow [] [0, 1, 2, 3, 4, 5, 6, 7, 8, 9] [10, 11, 12] (by decide) (by kernel_rfl) Le (Le.refl _) (fun _ _ _ => Le.trans)
           (fun vs i x => match i with
             | 0 => vs 0 = .pointer (some ⟨g, 6, none⟩)
             | 1 => vs 1 = slV L.qP
             | 2 => vs 2 = .pointer (some ⟨w.heap.size, 2, none⟩)
             | 3 => vs 3 = .int .i64 nl
             | 4 => ∃ q, vs 4 = slV q ∧ Own x wr.heap.size (slV q) (List.replicate nl 0)
             | 5 => vs 5 = .pointer (some ⟨w.heap.size, 2, none⟩)
             | 6 => vs 6 = .int .i64 nl
             | 7 => ∃ q, vs 7 = slV q ∧ Own x wr.heap.size (slV q) (List.replicate nl 0)
             | 8 => ∃ qa qb, vs 8 = repV (fun _ => slZ) qa qb ∧ Own x wr.heap.size (slV qa) (List.replicate nl 0) ∧ Own x wr.heap.size (slV qb) (List.replicate nl 0)
             | _ => ∃ qa qb, OwnE repK x wr.heap.size (vs 9) [⟨⟨St.zero, List.replicate nl 0, List.replicate nl 0⟩, fun _ => slZ, qa, qb⟩] ∧ Own x wr.heap.size (slV qa) (List.replicate nl 0) ∧ Own x wr.heap.size (slV qb) (List.replicate nl 0)) ?_ ?_ (by decide) ?_ ?_
         ·intro vs i x y hi _ h hxy
          simp only [List.mem_cons, List.not_mem_nil, or_false] at hi
          rcases hi with rfl | rfl | rfl | rfl | rfl | rfl | rfl | rfl | rfl | rfl
          iterate 4
            ·exact h
          ·obtain ⟨b, e, o⟩ := h; exact ⟨b, e, o.le hxy⟩
          iterate 2
            ·exact h
          ·obtain ⟨b, e, o⟩ := h; exact ⟨b, e, o.le hxy⟩
          ·obtain ⟨a, b, e, o, o'⟩ := h; exact ⟨a, b, e, o.le hxy, o'.le hxy⟩
          ·obtain ⟨a, b, e, o, o'⟩ := h; exact ⟨a, b, e.le hxy, o.le hxy, o'.le hxy⟩
         ·intro vs vs' i o x hi _ hk h
          have e := hk i (.inl rfl)
          simp only [List.mem_cons, List.not_mem_nil, or_false] at hi
          rcases hi with rfl | rfl | rfl | rfl | rfl | rfl | rfl | rfl | rfl | rfl
          all_goals
            simp only at h ⊢
            rw [← e]
            exact h
         ·intro i o hi ho vs x hx hd
          have hx0 := (Le.drew wr).trans hx
          simp only [List.mem_cons, List.not_mem_nil, or_false] at hi
          generalize hρ : (putH _ _ _ vs).eval = ρ
          rcases hi with rfl | rfl | rfl | rfl | rfl | rfl | rfl | rfl | rfl | rfl
          ·cases ho
           have r1 : ρ (.tmp 4) = .pointer (some ⟨g, 0, none⟩) := by rw [← hρ]; kernel_rfl
           exact gives_value (w' := x) (v := .pointer (some ⟨g, 6, none⟩)) (by simp [go_sem, r1]) ⟨Le.refl _, rfl⟩
          ·cases ho
           have r1 : ρ (.tmp 42) = vs 0 := by rw [← hρ]; kernel_rfl
           have d := hd 0 (by decide) (by kernel_rfl)
           simp only at d
           rw [d] at r1
           have s6 := cell_le y6 hx0
           exact gives_value (w' := x) (v := slV L.qP) (by simp [go_sem, r1, s6]) ⟨Le.refl _, rfl⟩
          ·cases ho
           have r1 : ρ (.tmp 1) = .pointer (some ⟨w.heap.size, 0, none⟩) := by rw [← hρ]; kernel_rfl
           exact gives_value (w' := x) (v := .pointer (some ⟨w.heap.size, 2, none⟩)) (by simp [go_sem, r1]) ⟨Le.refl _, rfl⟩
          ·cases ho
           have r1 : ρ (.tmp 44) = vs 2 := by rw [← hρ]; kernel_rfl
           have d := hd 2 (by decide) (by kernel_rfl)
           simp only at d
           rw [d] at r1
           have s2 := cell_le z2 hx0
           rw [HNL.out] at s2
           exact gives_value (w' := x) (v := .int .i64 nl) (by simp [go_sem, r1, s2]) ⟨Le.refl _, rfl⟩
          ·cases ho
           have r1 : ρ (.tmp 45) = vs 3 := by rw [← hρ]; kernel_rfl
           have d := hd 3 (by decide) (by kernel_rfl)
           simp only at d
           rw [d] at r1
           obtain ⟨x', hrun, o3, l3⟩ := run_make_ints x wr.heap.size nl (by omega) hx0.size
           exact gives_value (w' := x') (v := slV (some ⟨x.heap.size, 0, none⟩, nl, nl)) (by simp [go_sem, r1, hrun]) ⟨l3, _, rfl, o3⟩
          ·cases ho
           have r1 : ρ (.tmp 1) = .pointer (some ⟨w.heap.size, 0, none⟩) := by rw [← hρ]; kernel_rfl
           exact gives_value (w' := x) (v := .pointer (some ⟨w.heap.size, 2, none⟩)) (by simp [go_sem, r1]) ⟨Le.refl _, rfl⟩
          ·cases ho
           have r1 : ρ (.tmp 47) = vs 5 := by rw [← hρ]; kernel_rfl
           have d := hd 5 (by decide) (by kernel_rfl)
           simp only at d
           rw [d] at r1
           have s2 := cell_le z2 hx0
           rw [HNL.out] at s2
           exact gives_value (w' := x) (v := .int .i64 nl) (by simp [go_sem, r1, s2]) ⟨Le.refl _, rfl⟩
          ·cases ho
           have r1 : ρ (.tmp 48) = vs 6 := by rw [← hρ]; kernel_rfl
           have d := hd 6 (by decide) (by kernel_rfl)
           simp only at d
           rw [d] at r1
           obtain ⟨x', hrun, o3, l3⟩ := run_make_ints x wr.heap.size nl (by omega) hx0.size
           exact gives_value (w' := x') (v := slV (some ⟨x.heap.size, 0, none⟩, nl, nl)) (by simp [go_sem, r1, hrun]) ⟨l3, _, rfl, o3⟩
          ·cases ho
           have r1 : ρ (.tmp 46) = vs 4 := by rw [← hρ]; kernel_rfl
           have r2 : ρ (.tmp 49) = vs 7 := by rw [← hρ]; kernel_rfl
           have h4 := hd 4 (by decide) (by kernel_rfl)
           have h7 := hd 7 (by decide) (by kernel_rfl)
           simp only at h4 h7
           obtain ⟨qa, e4, o4⟩ := h4
           obtain ⟨qb, e7, o7⟩ := h7
           rw [e4] at r1
           rw [e7] at r2
           exact gives_value (w' := x) (v := repV (fun _ => slZ) qa qb) (by simp [go_sem, r1, r2]) ⟨Le.refl _, qa, qb, rfl, o4, o7⟩
          ·cases ho
           have r1 : ρ (.tmp 50) = vs 8 := by rw [← hρ]; kernel_rfl
           have hh := hd 8 (by decide) (by kernel_rfl)
           simp only at hh
           obtain ⟨qa, qb, e8, o8, o9⟩ := hh
           rw [e8] at r1
           have hlit := OwnE.lit repK x wr.heap.size hx0.size [⟨⟨St.zero, List.replicate nl 0, List.replicate nl 0⟩, fun _ => slZ, qa, qb⟩] (by simp)
           exact gives_value (w' := x.alloc (.cells (cellsP (fun _ => slZ) qa qb) 46)) (v := .slice (some ⟨x.heap.size, 0, none⟩) 1 1) (by simp [go_sem, r1]) ⟨Le.alloc _ _, qa, qb, hlit, o8.le (Le.alloc _ _), o9.le (Le.alloc _ _)⟩
         ·intro vs x hx hd
          have hx0 := (Le.drew wr).trans hx
          have e1 := hd 1 (by decide)
          simp only at e1
          have hh := hd 9 (by decide)
          simp only at hh
          replace hh := hh.choose_spec
          generalize Exists.choose _ = qa at hh
          replace hh := hh.choose_spec
          generalize Exists.choose _ = qb at hh
          have o9 := hh.1
          have oa := hh.2.1
          have ob := hh.2.2
          have hrun := run_append_E repIn 25 x w.heap.size (slV L.qP) (vs 9) L.ps [⟨⟨St.zero, List.replicate nl 0, List.replicate nl 0⟩, fun _ => slZ, qa, qb⟩] (I.own.oP.le hx0) o9.has (by simp) (by have := HLn.out; show (L.ps.length + 1) * 144 ≤ _; omega) (by have := HLn.out; show L.ps.length + 1 ≤ _; omega) (I.le.trans hx0).size
          replace hrun := hrun.choose_spec
          generalize Exists.choose _ = q' at hrun
          replace hrun := hrun.choose_spec
          generalize Exists.choose _ = x2 at hrun
          have hrn := hrun.1
          have IN := I.rep (by decide) hx0 (x := ⟨⟨St.zero, List.replicate nl 0, List.replicate nl 0⟩, fun _ => slZ, qa, qb⟩) (fun i _ => by show Own x _ _ (St.zero.at i); rw [St.at_zero]; exact Own.nil _ _) oa ob (fun h => h.elim) hrun.2.1 hrun.2.2
          have bo2 : x2.cell? ⟨g, 6, none⟩ = some (slV L.qP) ∧ x2.frozen? ⟨g, 6, none⟩ = false := by
            have hb := (I.bo.le hx0).grown hrun.2.2 ((I.own.oP.le hx0).apart (I.bo.le hx0) (by decide))
            exact ⟨hb.cell 6, hb.frozen 6⟩
          have c6 := bo2.1
          have k6 := bo2.2
          generalize hf0 : putH _ _ _ vs = fr0
          refine wpSeq_cons rfl ?_
          refine wp_value_at (v0 := slV q') (w0 := x2) ?_ ?_
          ·have r1 : fr0.eval (.tmp 43) = vs 1 := by rw [← hf0]; kernel_rfl
           have r2 : fr0.eval (.tmp 51) = vs 9 := by rw [← hf0]; kernel_rfl
           rw [e1] at r1
           simp only [execOp, resolve, invoke, builtin, Sem.run_bind, Sem.run_pure, Result.andThen_ok, List.map_toArray, List.map_cons, List.map_nil, r1, r2, hrn]
          ·generalize hf1 : Act.put fr0 _ _ = fr1
           refine wpSeq_cons rfl ?_
           refine wp_value_at (v0 := .pointer (some ⟨g, 6, none⟩)) (w0 := x2) ?_ ?_
           ·generalize hρ : fr1.eval = ρ
            have r1 : ρ (.tmp 4) = .pointer (some ⟨g, 0, none⟩) := by rw [← hρ, ← hf1, ← hf0]; kernel_rfl
            simp [go_sem, r1]
           ·generalize hf2 : Act.put fr1 _ _ = fr2
            refine wpSeq_cons rfl ?_
            refine wp_skip_at (w0 := x2.setCell ⟨g, 6, none⟩ (slV q')) ?_ ?_
            ·generalize hρ : fr2.eval = ρ
             have r1 : ρ (.tmp 53) = .pointer (some ⟨g, 6, none⟩) := by rw [← hρ, ← hf2, ← hf1, ← hf0]; kernel_rfl
             have r2 : ρ (.tmp 52) = slV q' := by rw [← hρ, ← hf2, ← hf1, ← hf0]; kernel_rfl
             simp [go_sem, r1, r2, c6, k6]
            ·subst hf2 hf1 hf0
             simp only [wpSeq, putH, List.getElem?_cons_succ, List.getElem?_cons_zero, Option.bind_some, Act.put, List.setIfInBounds_toArray, List.set_cons_zero, List.set_cons_succ]
             go_wp2_with fail
             go_roundw
             case rel => exact ⟨k + 1, _, by omega, by go_num, IN, HL.out.1, HL.out.2.1, by rw [List.map_append, HL.out.2.2.1, List.replicate_succ']; rfl, HL.out.2.2.2.1, HL.out.2.2.2.2⟩
             case measure => simp [intOf]; omega
        ·have hge : c.r ≤ (k : Int) := by have := HNR.out; omega
         have HM : Hid (L.M = freshM c) := by
           have hkr : k = nr := by omega
           show Lay.M L = _
           unfold Lay.M freshM
           have h1 := HNL.out
           have h2 := HNR.out
           have h3 := HNT.out
           rw [HL.out.1, HL.out.2.1, HL.out.2.2.1, HL.out.2.2.2.1, HL.out.2.2.2.2, ← HR.out, h1, h2, h3, hkr]
           simp
         have HC : Hid (L.c = c) := HL.out.1
         obtain ⟨⟨m0, m1, m2, m3, m4⟩, m5, m6, m7, m8⟩ := I.bo.mach
         have r0 := I.br.cell 0
         have r1 := I.br.cell 1
         have r2 := I.br.cell 2
         have r3 := I.br.cell 3
         have r4 := I.br.cell 4
         have r5 := I.br.cell 5
         have r6 := I.br.cell 6
         have r7 := I.br.cell 7
         have r8 := I.br.cell 8
         simp only [List.getElem?_toArray, List.getElem?_cons_succ, List.getElem?_cons_zero] at r0 r1 r2 r3 r4 r5 r6 r7 r8
         have k0' := I.br.frozen 0
         have k1' := I.br.frozen 1
         have k2 := I.br.frozen 2
         have k3 := I.br.frozen 3
         have k4 := I.br.frozen 4
         have k5 := I.br.frozen 5
         have k6 := I.br.frozen 6
         have k7 := I.br.frozen 7
         have k8 := I.br.frozen 8
         clear HL
         go_wp2_with fail
         refine bodyPost_ret (v := .tuple #[machV c L.qR L.qP L.qT L.qH, .int .i64 0]) (by simp [results, Tryz.results56, go_sem, r0, r1, r2, r3, r4, r5, r6, r7, r8]) rfl ⟨_, rfl, ⟨L, by rw [← HC.out], HM.out.symm, ?_⟩, ?_⟩
         ·exact I.own.put9 I.br c L.qR L.qP L.qT L.qH
         ·exact I.le.put9 (by omega) _ _ _ _ _
def fitB (M : Mc) : Bool := decide (M.rs.length ≤ 100) && (decide (M.ps.length ≤ 100) && (decide (M.ts.length ≤ 100) && (decide (M.es.length ≤ 100) && (M.rs.all (fun R => decide (R.ss.length ≤ 100)) && (M.ps.all (fun P => (decide (P.s.r0.length ≤ 100) && (decide (P.s.r1.length ≤ 100) && (decide (P.s.r2.length ≤ 100) && decide (P.s.r3.length ≤ 100)))) && (decide (P.cs.length ≤ 100) && decide (P.ls.length ≤ 100))) && M.ts.all (fun T => decide (T.b.length ≤ 100) && decide (T.tl.length ≤ 100)))))))
theorem fitB_fit {M : Mc} (h : fitB M = true) : FitM M := by
 unfold fitB at h
 simp only [Bool.and_eq_true, decide_eq_true_eq, List.all_eq_true] at h
 obtain ⟨h1, h2, h3, h4, h5, h6, h7⟩ := h
 refine ⟨by omega, by omega, by omega, by omega, fun R hR => ?_, fun P hP => ⟨fun i hi => ?_, ?_, ?_⟩, fun T hT => ?_⟩
 ·have := h5 R hR
  show R.ss.length * 40 ≤ _
  omega
 ·obtain ⟨⟨a, b, c, d⟩, _⟩ := h6 P hP
  rcases four hi with rfl | rfl | rfl | rfl <;> simp only [St.at] <;> omega
 ·have := (h6 P hP).2.1; omega
 ·have := (h6 P hP).2.2; omega
 ·have := h7 T hT; omega
def begC : Cfg := ⟨2, 2, 2, 4, 8⟩
def begM : Mc := freshM begC
theorem beg_new : newM begC = (begM, 0) := by decide +kernel
theorem beg_may : mayM begM = true := by decide +kernel
theorem beg_fit : FitM begM := fitB_fit (by decide +kernel)
def cldM : Mc := { begM with ts := begM.ts.set 0 (newT begM 0 0 7), es := begM.es ++ [⟨0, true, 0, 0, 7, 0⟩] }
theorem cld_may : mayM cldM = true := by decide +kernel
theorem cld_fit : FitM cldM := fitB_fit (by decide +kernel)
theorem begNew (w : World) : Calls Tryz.prog 56 #[cfgV 2 2 2 4 8] w fun e w' => ∃ qR qP qT qH, e = .returned (.tuple #[machV begC qR qP qT qH, .int .i64 0]) ∧ OwnM w' w.heap.size (machV begC qR qP qT qH) begM ∧ Le w w' := by
 have := refNew begC w
 rw [beg_new] at this
 refine this.mono ?_
 rintro e w' ⟨v', rfl, o, l⟩
 obtain ⟨L, hv, hm, ho⟩ := o
 obtain ⟨c, a, b, d, e, x, y, z, t⟩ := L
 have hc : c = begC := (congrArg Mc.c hm).symm
 subst hc
 exact ⟨a, b, d, e, by rw [hv], ⟨_, rfl, hm, ho⟩, l⟩
theorem begCall (v : Value) (w : World) (hx : HasM w v begM) : Calls Tryz.prog 21 #[v, .int .i64 0, opV 0 0 7] w fun e w' => ∃ qR qP qT qH, e = .returned (.tuple #[machV begC qR qP qT qH, .int .i64 0]) ∧ OwnA w' w.heap.size (machV begC qR qP qT qH) cldM ∧ Le w w' := by
 refine (rmCallOk v begM 0 0 0 7 w hx beg_fit beg_may (by decide) (by decide) (by decide +kernel) (by decide +kernel)).mono ?_
 rintro e w' ⟨v', rfl, o, l⟩
 obtain ⟨L, hv, hm, ho, ha⟩ := o
 obtain ⟨c, a, b, d, e, x, y, z, t⟩ := L
 have hc : c = begC := congrArg Mc.c hm
 subst hc
 exact ⟨a, b, d, e, by rw [hv], ⟨_, rfl, hm, ho, ha⟩, l⟩
set_option maxHeartbeats 400000 in
theorem lawCopyState (v : Value) (s : St) (w : World) (hx : HasS w v s) (hf : Fit s) :
   Calls Tryz.prog 25 #[v] w fun e w' => ∃ v', e = .returned v' ∧ OwnS w' w.heap.size v' s ∧ Le w w' := by
 obtain ⟨vs, rfl, hr⟩ := hx
 go_enter Tryz.func25, Tryz.ntmps25
 go_wp2
 go_loopw [4] (fun i wr => ∃ (k : Nat) (us : Nat → Sl), k ≤ 4 ∧ i = .int .i64 k ∧ Cp w s vs wr k us) (fun i _ => 4 - (intOf i).toNat)
 case atStart => exact ⟨0, _, by omega, rfl, Cp.start w s vs⟩
 case round =>
   obtain ⟨k, us, hk, rfl, hcp⟩ := hrel
   by_cases hlt : k < 4
   ·have c1 : (wr.alloc (.cells #[] 3)).cell? ⟨w.heap.size, k, none⟩ = some (slV (vs k)) := ((hcp.given.le (Le.alloc wr _)).cell k).trans (cells4_at vs hlt)
    have hw1 : Has (wr.alloc (.cells #[] 3)) (slV (vs k)) (s.at k) := (hr k hlt).le (hcp.le.trans (Le.alloc wr _))
    have hn1 : Own (wr.alloc (.cells #[] 3)) wr.heap.size (.slice (some ⟨wr.heap.size, 0, none⟩) 0 0) [] := Own.lit wr _ (Nat.le_refl _) [] (by decide)
    have hfk := hf k hlt
    have hrow : ∀ g, (Value.slice (some ⟨wr.heap.size, 0, none⟩) 0 0).ownBlock = some g → wr.heap.size ≤ g := by intro g hg; cases hg; exact Nat.le_refl _
    go_wp2_with (at_builtin; refine wp_append_ints rfl _ _ rfl wr.heap.size _ _ [] (s.at k) rfl rfl hn1 hw1 (by simp; omega) (by simp) ?_; intro v' w2 hown hgrow; rw [List.nil_append] at hown; have l2 : Le wr w2 := Below.grown (Le.alloc wr _) hgrow (by simp) hrow; have c3 := (hcp.filled.le l2).cell k; rw [cells4_at us hlt] at c3; have f3 := (hcp.filled.le l2).frozen k; obtain ⟨q, rfl⟩ := hown.has.sl)
    go_roundw
    case rel => exact ⟨k + 1, _, by omega, by go_num, hcp.next hlt (Le.alloc wr _) hgrow hrow hown⟩
    case measure => simp [intOf]; omega
   ·obtain rfl : k = 4 := by omega
    obtain ⟨p0, p1, p2, p3, _, _, _, _⟩ := hcp.filled.st
    obtain ⟨b0, b1, b2, b3, f0, f1, f2, f3⟩ := hcp.result.st
    go_wp2
    refine bodyPost_ret (v := stV us) (by simp [results, Tryz.results25, go_sem, b0, b1, b2, b3]) rfl ⟨_, rfl, ⟨us, rfl, fun i hi => ?_⟩, ?_⟩
    ·exact ((((hcp.rows i hi).setBox hcp.result (by decide)).setBox (hcp.result.set _ _) (by decide)).setBox ((hcp.result.set _ _).set _ _) (by decide)).setBox (((hcp.result.set _ _).set _ _).set _ _) (by decide)
    ·exact (((Below.setCell hcp.le (by show w.heap.size ≤ w.heap.size + 1; omega) _).setCell (by show w.heap.size ≤ w.heap.size + 1; omega) _).setCell (by show w.heap.size ≤ w.heap.size + 1; omega) _).setCell (by show w.heap.size ≤ w.heap.size + 1; omega) _
set_option maxRecDepth 8000 in
set_option maxHeartbeats 16000000 in
theorem lawCopyMachine (v : Value) (M : Mc) (w : World) (hx : HasM w v M) (hf : FitM M) :
   Calls Tryz.prog 8 #[v] w fun e w' => ∃ L : Lay, e = .returned L.v ∧ L.M = M ∧ OwnsM w' w.heap.size L ∧ ApartM L ∧ Le w w' := by
 obtain ⟨c, Rs, Ps, Ts, Es⟩ := M
 obtain ⟨⟨aR, nR, cR⟩, ⟨aP, nP, cP⟩, ⟨aT, nT, cT⟩, qH, rfl, hR, hP, hT, hH⟩ := hx
 obtain ⟨f1, f2, f3, f4, fr, fp, ft⟩ := hf
 simp only at hR hP hT hH f1 f2 f3 f4 fr fp ft
 obtain ⟨a, n, hv, nc, _, oR⟩ := hR.open
 simp only [slV, Value.slice.injEq] at hv
 obtain ⟨rfl, rfl, rfl⟩ := hv
 obtain ⟨a, n, hv, pc, _, oP⟩ := hP.open
 simp only [slV, Value.slice.injEq] at hv
 obtain ⟨rfl, rfl, rfl⟩ := hv
 obtain ⟨a, n, hv, tc, _, oT⟩ := hT.open
 simp only [slV, Value.slice.injEq] at hv
 obtain ⟨rfl, rfl, rfl⟩ := hv
 clear hR hP hT
 obtain ⟨nR, hnR⟩ : ∃ n, n = Rs.length := ⟨_, rfl⟩
 obtain ⟨nP, hnP⟩ : ∃ n, n = Ps.length := ⟨_, rfl⟩
 obtain ⟨nT, hnT⟩ : ∃ n, n = Ts.length := ⟨_, rfl⟩
 have HR : Hid (nR = Rs.length) := hnR
 have HP : Hid (nP = Ps.length) := hnP
 have HT : Hid (nT = Ts.length) := hnT
 rw [← hnR] at nc oR f1 ⊢
 rw [← hnP] at pc oP f2 ⊢
 rw [← hnT] at tc oT f3 ⊢
 clear hnR hnP hnT
 have hl := (Le.alloc w (.cells (cells9 c (aR, nR, cR) (aP, nP, cP) (aT, nT, cT) qH) 29)).trans (Le.alloc _ (.cells cellsZ9 29))
 have hb1 := (Box.new w (cells9 c (aR, nR, cR) (aP, nP, cP) (aT, nT, cT) qH) 29).le (Le.alloc _ (.cells cellsZ9 29))
 have hb2 := Box.new (w.alloc (.cells (cells9 c (aR, nR, cR) (aP, nP, cP) (aT, nT, cT) qH) 29)) cellsZ9 29
 have hWs : ((w.alloc (.cells (cells9 c (aR, nR, cR) (aP, nP, cP) (aT, nT, cT) qH) 29)).alloc (.cells cellsZ9 29)).heap.size = w.heap.size + 2 := by simp
 rw [World.size_alloc] at hb2
 go_enter Tryz.func8, Tryz.ntmps8
 go_upto_region 1 with fail
 generalize hW : (w.alloc (.cells (cells9 c (aR, nR, cR) (aP, nP, cP) (aT, nT, cT) qH) 29)).alloc (.cells cellsZ9 29) = W at hl hb1 hb2 hWs ⊢
 clear hW
 go_cut [3] from 9 (fun s3 wc => ∃ g q, s3 = .pointer (some ⟨g, 0, none⟩) ∧ CpI True w (cells9 c (aR, nR, cR) (aP, nP, cP) (aT, nT, cT) qH) 29 c g wc ⟨c, slZ, slZ, slZ, q, [], [], [], Es⟩)
 case first =>
   refine wp_region_any (by kernel_rfl) ?_
   obtain ⟨⟨z0, z1, z2, z3, z4⟩, z5, z6, z7, z8⟩ := hb1.mach
   have hH' := hH.le hl
   refine wpAny_grow [] [0, 1, 2, 3, 4, 5, 6, 7] [8] (by decide) (by kernel_rfl) Le (Le.refl _) (fun _ _ _ => Le.trans)
     (fun vs i x => match i with
       | 0 => vs 0 = .pointer (some ⟨w.heap.size, 0, none⟩)
       | 1 => vs 1 = cfgV c.o c.r c.l c.t c.s
       | 2 => ∃ b, vs 2 = .slice (some ⟨b, 0, none⟩) 0 0 ∧ OwnE evK x (w.heap.size + 2) (.slice (some ⟨b, 0, none⟩) 0 0) []
       | 3 => vs 3 = .pointer (some ⟨w.heap.size, 8, none⟩)
       | 4 => vs 4 = slV qH
       | 5 => ∃ q, vs 5 = slV q ∧ OwnE evK x (w.heap.size + 2) (slV q) Es
       | 6 => ∃ q, vs 6 = machV c slZ slZ slZ q ∧ OwnE evK x (w.heap.size + 2) (slV q) Es
       | _ => ∃ g, vs 7 = .pointer (some ⟨g, 0, none⟩) ∧ w.heap.size + 2 ≤ g ∧ Box x g cellsZ9 29) ?_ ?_ (by decide) ?_ ?_
   ·intro vs i x y hi _ h hxy
    simp only [List.mem_cons, List.not_mem_nil, or_false] at hi
    rcases hi with rfl | rfl | rfl | rfl | rfl | rfl | rfl | rfl
    ·exact h
    ·exact h
    ·obtain ⟨b, e, o⟩ := h; exact ⟨b, e, o.le hxy⟩
    ·exact h
    ·exact h
    ·obtain ⟨b, e, o⟩ := h; exact ⟨b, e, o.le hxy⟩
    ·obtain ⟨b, e, o⟩ := h; exact ⟨b, e, o.le hxy⟩
    ·obtain ⟨b, e, o, o'⟩ := h; exact ⟨b, e, o, o'.le hxy⟩
   ·intro vs vs' i o x hi _ hk h
    have e := hk i (.inl rfl)
    simp only [List.mem_cons, List.not_mem_nil, or_false] at hi
    rcases hi with rfl | rfl | rfl | rfl | rfl | rfl | rfl | rfl
    all_goals
      simp only at h ⊢
      rw [← e]
      exact h
   ·intro i o hi ho vs x hx hd
    have hx0 := (Le.drew W).trans hx
    simp only [List.mem_cons, List.not_mem_nil, or_false] at hi
    generalize hρ : (putH _ _ _ vs).eval = ρ
    rcases hi with rfl | rfl | rfl | rfl | rfl | rfl | rfl | rfl
    ·cases ho
     have r1 : ρ (.tmp 1) = .pointer (some ⟨w.heap.size, 0, none⟩) := by rw [← hρ]; kernel_rfl
     exact gives_value (w' := x) (v := .pointer (some ⟨w.heap.size, 0, none⟩)) (by simp [go_sem, r1]) ⟨Le.refl _, rfl⟩
    ·cases ho
     have r1 : ρ (.tmp 9) = vs 0 := by rw [← hρ]; kernel_rfl
     have d := hd 0 (by decide) (by kernel_rfl)
     simp only at d
     rw [d] at r1
     have y0 := cell_le z0 hx0
     have y1 := cell_le z1 hx0
     have y2 := cell_le z2 hx0
     have y3 := cell_le z3 hx0
     have y4 := cell_le z4 hx0
     exact gives_value (w' := x) (v := cfgV c.o c.r c.l c.t c.s) (by simp [go_sem, r1, y0, y1, y2, y3, y4]) ⟨Le.refl _, rfl⟩
    ·cases ho
     exact gives_value (w' := x.alloc (.cells #[] 102)) (v := .slice (some ⟨x.heap.size, 0, none⟩) 0 0) (by simp [go_sem]) ⟨Le.alloc _ _, x.heap.size, rfl, OwnE.lit0 evK x _ (by have := hx0.size; omega)⟩
    ·cases ho
     have r1 : ρ (.tmp 1) = .pointer (some ⟨w.heap.size, 0, none⟩) := by rw [← hρ]; kernel_rfl
     exact gives_value (w' := x) (v := .pointer (some ⟨w.heap.size, 8, none⟩)) (by simp [go_sem, r1]) ⟨Le.refl _, rfl⟩
    ·cases ho
     have r1 : ρ (.tmp 12) = vs 3 := by rw [← hρ]; kernel_rfl
     have d := hd 3 (by decide) (by kernel_rfl)
     simp only at d
     rw [d] at r1
     have y8 := cell_le z8 hx0
     exact gives_value (w' := x) (v := slV qH) (by simp [go_sem, r1, y8]) ⟨Le.refl _, rfl⟩
    ·cases ho
     have r1 : ρ (.tmp 11) = vs 2 := by rw [← hρ]; kernel_rfl
     have r2 : ρ (.tmp 13) = vs 4 := by rw [← hρ]; kernel_rfl
     have hh := hd 2 (by decide) (by kernel_rfl)
     simp only at hh
     replace hh := hh.choose_spec
     generalize Exists.choose _ = b at hh
     have e2 := hh.1
     have o2 := hh.2
     have e4 := hd 4 (by decide) (by kernel_rfl)
     simp only at e4
     rw [e2] at r1
     rw [e4] at r2
     obtain ⟨q, x', hrun, o5, l5, _⟩ := run_append_empty evIn 27 x (w.heap.size + 2) b (slV qH) Es o2 (hH'.le hx0) (by show Es.length * 48 ≤ _; omega) (by omega) (by have := hx0.size; omega)
     exact gives_value (w' := x') (v := slV q) (by simp only [execOp, resolve, invoke, builtin, Sem.run_bind, Sem.run_pure, Result.andThen_ok, List.map_toArray, List.map_cons, List.map_nil, r1, r2, hrun]) ⟨l5, q, rfl, o5⟩
    ·cases ho
     have r1 : ρ (.tmp 10) = vs 1 := by rw [← hρ]; kernel_rfl
     have r2 : ρ (.tmp 14) = vs 5 := by rw [← hρ]; kernel_rfl
     have e1 := hd 1 (by decide) (by kernel_rfl)
     have hh := hd 5 (by decide) (by kernel_rfl)
     simp only at hh
     replace hh := hh.choose_spec
     generalize Exists.choose _ = q at hh
     have e5 := hh.1
     have o5 := hh.2
     simp only at e1
     rw [e1] at r1
     rw [e5] at r2
     exact gives_value (w' := x) (v := machV c slZ slZ slZ q) (by simp [go_sem, r1, r2]) ⟨Le.refl _, q, rfl, o5⟩
    ·cases ho
     exact gives_value (w' := x.alloc (.cells cellsZ9 29)) (v := .pointer (some ⟨x.heap.size, 0, none⟩)) (by simp [go_sem]) ⟨Le.alloc _ _, x.heap.size, rfl, by have := hx0.size; omega, Box.new _ _ _⟩
   ·intro vs x hx hd o ho
    have hx0 := (Le.drew W).trans hx
    cases ho
    have hh := hd 6 (by decide)
    simp only at hh
    replace hh := hh.choose_spec
    generalize Exists.choose _ = q at hh
    have e6 := hh.1
    have o6 := hh.2
    have hh := hd 7 (by decide)
    simp only at hh
    replace hh := hh.choose_spec
    generalize Exists.choose _ = g at hh
    have e7 := hh.1
    have hg := hh.2.1
    have b7 := hh.2.2
    refine gives_wp (K := fun v w' => v = undef ∧ w' = put9 x g c slZ slZ slZ q) ?_ ?_
    ·generalize hρ : (putH _ _ _ vs).eval = ρ
     have r1 : ρ (.tmp 3) = vs 7 := by rw [← hρ]; kernel_rfl
     have r2 : ρ (.tmp 15) = vs 6 := by rw [← hρ]; kernel_rfl
     rw [e7] at r1
     rw [e6] at r2
     have c0 := b7.cell 0
     have c1 := b7.cell 1
     have c2 := b7.cell 2
     have c3 := b7.cell 3
     have c4 := b7.cell 4
     have c5 := b7.cell 5
     have c6 := b7.cell 6
     have c7 := b7.cell 7
     have c8 := b7.cell 8
     simp only [List.getElem?_toArray, List.getElem?_cons_succ, List.getElem?_cons_zero] at c0 c1 c2 c3 c4 c5 c6 c7 c8
     have k0 := b7.frozen 0
     have k1 := b7.frozen 1
     have k2 := b7.frozen 2
     have k3 := b7.frozen 3
     have k4 := b7.frozen 4
     have k5 := b7.frozen 5
     have k6 := b7.frozen 6
     have k7 := b7.frozen 7
     have k8 := b7.frozen 8
     unfold gives
     simp [go_sem, r1, r2, c0, c1, c2, c3, c4, c5, c6, c7, c8, k0, k1, k2, k3, k4, k5, k6, k7, k8]
    ·rintro _ _ ⟨rfl, rfl⟩
     simp only [wpSeq, putH, List.getElem?_cons_succ, List.getElem?_cons_zero, Option.bind_some, Act.put, List.setIfInBounds_toArray, List.set_cons_zero, List.set_cons_succ, e7]
     go_wp2_with fail
     go_meet
     case rel => exact ⟨g, q, rfl, CpI.start (hl.trans hx0) (hb1.le hx0) (hb2.le hx0) b7 hg o6⟩
 case rest =>
   obtain ⟨g, q0, rfl, I0⟩ := hcut
   clear hb1 hb2 hWs hl hH
   have z5 := I0.bp.mach.2.1
   simp only [slV] at z5
   go_wp2_with fail
   go_loopw [4] (fun i wr => ∃ (k : Nat) (L : Lay), k ≤ nR ∧ i = .int .i64 k ∧ CpI True w (cells9 c (aR, nR, cR) (aP, nP, cP) (aT, nT, cT) qH) 29 c g wr L ∧ Hid (L.c = c ∧ L.rs.map LR.R = Rs.take k ∧ L.ps = [] ∧ L.ts = [] ∧ L.es = Es)) (fun i _ => nR - (intOf i).toNat)
   case atStart => exact ⟨0, _, Nat.zero_le _, rfl, I0, rfl, rfl, rfl, rfl, rfl⟩
   case round =>
     obtain ⟨k, L, hk, rfl, I, HL⟩ := hrel
     clear I0 z5
     have z5 := I.bp.mach.2.1
     simp only [slV] at z5
     by_cases hlt : k < nR
     ·obtain ⟨b, off, rfl, oRk⟩ := oR (by omega)
      obtain ⟨q, rA, hq⟩ := oRk k hlt
      obtain ⟨R, hRk⟩ : ∃ R, R = Rs.getD k Rg.zero := ⟨_, rfl⟩
      have HX : Hid (R = Rs.getD k Rg.zero) := hRk
      rw [← hRk] at rA hq
      have hfR : FitR R := by rw [hRk]; exact fr _ (getD_mem (by have := HR.out; omega))
      have hlt' : (k : Int) < (nR : Int) := by omega
      have hk0 : (0 : Int) ≤ (k : Int) := by omega
      clear hRk oRk oR oP oT fr fp ft
      replace hq := hq.le I.le
      obtain ⟨x0, x1, x2, x3⟩ := rA.le I.le
      have y5 := I.bo.mach.2.1
      have hLn : L.rs.length = k := by
        have := congrArg List.length HL.out.2.1
        have := HR.out
        simp at *
        omega
      have HLn : Hid (L.rs.length = k) := hLn
      clear rA hLn
      go_upto_region 5 with fail
      refine wp_region_any (by kernel_rfl) ?_
      refine wpAny_grow [] [0, 1, 2, 3, 4, 5, 6, 7, 8] [9, 10, 11] (by decide) (by kernel_rfl) Le (Le.refl _) (fun _ _ _ => Le.trans)
        (fun vs i x => match i with
          | 0 => vs 0 = .pointer (some ⟨g, 5, none⟩)
          | 1 => vs 1 = slV L.qR
          | 2 => vs 2 = .pointer (some ⟨w.heap.size, 5, none⟩)
          | 3 => vs 3 = .slice (some ⟨b, off, none⟩) nR cR
          | 4 => vs 4 = .int .i64 k
          | 5 => vs 5 = .pointer (some ⟨b, off + k * 4, none⟩)
          | 6 => vs 6 = ringV R.h R.t R.f q
          | 7 => ∃ u, vs 7 = ringV R.h R.t R.f u ∧ OwnL x wr.heap.size (slV u) R.ss
          | _ => ∃ u, OwnE ringK x wr.heap.size (vs 8) [⟨R, u⟩] ∧ OwnL x wr.heap.size (slV u) R.ss) ?_ ?_ (by decide) ?_ ?_
      ·intro vs i x y hi _ h hxy
       simp only [List.mem_cons, List.not_mem_nil, or_false] at hi
       rcases hi with rfl | rfl | rfl | rfl | rfl | rfl | rfl | rfl | rfl
       iterate 7
         ·exact h
       ·obtain ⟨u, e, o⟩ := h; exact ⟨u, e, o.le hxy⟩
       ·obtain ⟨u, o, o'⟩ := h; exact ⟨u, o.le hxy, o'.le hxy⟩
      ·intro vs vs' i o x hi _ hk h
       have e := hk i (.inl rfl)
       simp only [List.mem_cons, List.not_mem_nil, or_false] at hi
       rcases hi with rfl | rfl | rfl | rfl | rfl | rfl | rfl | rfl | rfl
       all_goals
         simp only at h ⊢
         rw [← e]
         exact h
      ·intro i o hi ho vs x hx hd
       have hx0 := (Le.drew wr).trans hx
       simp only [List.mem_cons, List.not_mem_nil, or_false] at hi
       generalize hρ : (putH _ _ _ vs).eval = ρ
       rcases hi with rfl | rfl | rfl | rfl | rfl | rfl | rfl | rfl | rfl
       ·cases ho
        have r1 : ρ (.tmp 3) = .pointer (some ⟨g, 0, none⟩) := by rw [← hρ]; kernel_rfl
        exact gives_value (w' := x) (v := .pointer (some ⟨g, 5, none⟩)) (by simp [go_sem, r1]) ⟨Le.refl _, rfl⟩
       ·cases ho
        have r1 : ρ (.tmp 23) = vs 0 := by rw [← hρ]; kernel_rfl
        have d := hd 0 (by decide) (by kernel_rfl)
        simp only at d
        rw [d] at r1
        have t5 := cell_le y5 hx0
        exact gives_value (w' := x) (v := slV L.qR) (by simp [go_sem, r1, t5]) ⟨Le.refl _, rfl⟩
       ·cases ho
        have r1 : ρ (.tmp 1) = .pointer (some ⟨w.heap.size, 0, none⟩) := by rw [← hρ]; kernel_rfl
        exact gives_value (w' := x) (v := .pointer (some ⟨w.heap.size, 5, none⟩)) (by simp [go_sem, r1]) ⟨Le.refl _, rfl⟩
       ·cases ho
        have r1 : ρ (.tmp 25) = vs 2 := by rw [← hρ]; kernel_rfl
        have d := hd 2 (by decide) (by kernel_rfl)
        simp only at d
        rw [d] at r1
        have t5 := cell_le z5 hx0
        exact gives_value (w' := x) (v := .slice (some ⟨b, off, none⟩) nR cR) (by simp [go_sem, r1, t5]) ⟨Le.refl _, rfl⟩
       ·cases ho
        have r1 : ρ (.tmp 4) = .int .i64 k := by rw [← hρ]; kernel_rfl
        exact gives_value (w' := x) (v := .int .i64 k) (by simp [go_sem, r1]) ⟨Le.refl _, rfl⟩
       ·cases ho
        have r1 : ρ (.tmp 26) = vs 3 := by rw [← hρ]; kernel_rfl
        have r2 : ρ (.tmp 27) = vs 4 := by rw [← hρ]; kernel_rfl
        have d := hd 3 (by decide) (by kernel_rfl)
        have d2 := hd 4 (by decide) (by kernel_rfl)
        simp only at d d2
        rw [d] at r1
        rw [d2] at r2
        exact gives_value (w' := x) (v := .pointer (some ⟨b, off + k * 4, none⟩)) (by simp [go_sem, r1, r2, hlt', hk0]) ⟨Le.refl _, rfl⟩
       ·cases ho
        have r1 : ρ (.tmp 28) = vs 5 := by rw [← hρ]; kernel_rfl
        have d := hd 5 (by decide) (by kernel_rfl)
        simp only at d
        rw [d] at r1
        have t0 := cell_le x0 hx0
        have t1 := cell_le x1 hx0
        have t2 := cell_le x2 hx0
        have t3 := cell_le x3 hx0
        exact gives_value (w' := x) (v := ringV R.h R.t R.f q) (by simp [go_sem, r1, t0, t1, t2, t3]) ⟨Le.refl _, rfl⟩
       ·cases ho
        have r1 : ρ (.tmp 29) = vs 6 := by rw [← hρ]; kernel_rfl
        have d := hd 6 (by decide) (by kernel_rfl)
        simp only at d
        rw [d] at r1
        have rf : ρ (.func 24) = .func (.func 24) #[] #[] := by rw [← hρ]; kernel_rfl
        have hcall := lawCopyRing R.h R.t R.f q R.ss x (hq.le hx0) hfR
        refine gives_call (f := 24) (args := #[ringV R.h R.t R.f q]) (by simp [go_sem, r1, rf]) (hcall.mono ?_)
        rintro e x' ⟨u, rfl, ou, lu⟩
        exact ⟨_, rfl, lu, u, rfl, ou.base hx0.size⟩
       ·cases ho
        have r1 : ρ (.tmp 30) = vs 7 := by rw [← hρ]; kernel_rfl
        have hh := hd 7 (by decide) (by kernel_rfl)
        simp only at hh
        replace hh := hh.choose_spec
        generalize Exists.choose _ = u at hh
        rw [hh.1] at r1
        have o7 := hh.2
        have hlit := OwnE.lit ringK x wr.heap.size hx0.size [⟨R, u⟩] (by simp)
        exact gives_value (w' := x.alloc (.cells #[.int .i64 R.h, .int .i64 R.t, .int .i64 R.f, slV u] 55)) (v := .slice (some ⟨x.heap.size, 0, none⟩) 1 1) (by simp [go_sem, r1]) ⟨Le.alloc _ _, u, hlit, o7.le (Le.alloc _ _)⟩
      ·intro vs x hx hd
       have hx0 := (Le.drew wr).trans hx
       have e1 := hd 1 (by decide)
       simp only at e1
       have hh := hd 8 (by decide)
       simp only at hh
       replace hh := hh.choose_spec
       generalize Exists.choose _ = u at hh
       have o8 := hh.1
       have o7 := hh.2
       have hrun := run_append_E ringIn 24 x w.heap.size (slV L.qR) (vs 8) L.rs [⟨R, u⟩] (I.own.oR.le hx0) o8.has (by simp) (by have := HLn.out; show (L.rs.length + 1) * 48 ≤ _; omega) (by have := HLn.out; show L.rs.length + 1 ≤ _; omega) (I.le.trans hx0).size
       replace hrun := hrun.choose_spec
       generalize Exists.choose _ = q' at hrun
       replace hrun := hrun.choose_spec
       generalize Exists.choose _ = x2 at hrun
       have hrn := hrun.1
       have IN := I.ring (by decide) hx0 (x := ⟨R, u⟩) o7 hrun.2.1 hrun.2.2
       have bo2 : x2.cell? ⟨g, 5, none⟩ = some (slV L.qR) ∧ x2.frozen? ⟨g, 5, none⟩ = false := by
         have hb := (I.bo.le hx0).grown hrun.2.2 ((I.own.oR.le hx0).apart (I.bo.le hx0) (by decide))
         exact ⟨hb.cell 5, hb.frozen 5⟩
       have c5 := bo2.1
       have k5 := bo2.2
       generalize hf0 : putH _ _ _ vs = fr0
       refine wpSeq_cons rfl ?_
       refine wp_value_at (v0 := slV q') (w0 := x2) ?_ ?_
       ·have r1 : fr0.eval (.tmp 24) = vs 1 := by rw [← hf0]; kernel_rfl
        have r2 : fr0.eval (.tmp 31) = vs 8 := by rw [← hf0]; kernel_rfl
        rw [e1] at r1
        simp only [execOp, resolve, invoke, builtin, Sem.run_bind, Sem.run_pure, Result.andThen_ok, List.map_toArray, List.map_cons, List.map_nil, r1, r2, hrn]
       ·generalize hf1 : Act.put fr0 _ _ = fr1
        refine wpSeq_cons rfl ?_
        refine wp_value_at (v0 := .pointer (some ⟨g, 5, none⟩)) (w0 := x2) ?_ ?_
        ·generalize hρ : fr1.eval = ρ
         have r1 : ρ (.tmp 3) = .pointer (some ⟨g, 0, none⟩) := by rw [← hρ, ← hf1, ← hf0]; kernel_rfl
         simp [go_sem, r1]
        ·generalize hf2 : Act.put fr1 _ _ = fr2
         refine wpSeq_cons rfl ?_
         refine wp_skip_at (w0 := x2.setCell ⟨g, 5, none⟩ (slV q')) ?_ ?_
         ·generalize hρ : fr2.eval = ρ
          have r1 : ρ (.tmp 33) = .pointer (some ⟨g, 5, none⟩) := by rw [← hρ, ← hf2, ← hf1, ← hf0]; kernel_rfl
          have r2 : ρ (.tmp 32) = slV q' := by rw [← hρ, ← hf2, ← hf1, ← hf0]; kernel_rfl
          simp [go_sem, r1, r2, c5, k5]
         ·subst hf2 hf1 hf0
          simp only [wpSeq, putH, List.getElem?_cons_succ, List.getElem?_cons_zero, Option.bind_some, Act.put, List.setIfInBounds_toArray, List.set_cons_zero, List.set_cons_succ]
          go_wp2_with fail
          go_roundw
          case rel => exact ⟨k + 1, _, by omega, by go_num, IN, HL.out.1, by rw [List.map_append, HL.out.2.1, List.take_succ_eq_append_getElem (by have := HR.out; omega)]; simp [HX.out, List.getD, show k < Rs.length by have := HR.out; omega], HL.out.2.2.1, HL.out.2.2.2.1, HL.out.2.2.2.2⟩
          case measure => simp [intOf]; omega
     ·have HR2 : Hid (L.rs.map LR.R = Rs) := by
        have h := HL.out.2.1
        rw [List.take_of_length_le (by have := HR.out; omega)] at h
        exact h
      have z6 := I.bp.mach.2.2.1
      simp only [slV] at z6
      clear oR fr
      have HL0 : Hid (L.c = c ∧ L.ps.map LP.P = Ps.take 0 ∧ L.rs.map LR.R = Rs ∧ L.ts = [] ∧ L.es = Es) := ⟨HL.out.1, by rw [HL.out.2.2.1]; rfl, HR2.out, HL.out.2.2.2.1, HL.out.2.2.2.2⟩
      go_wp2_with fail
      go_loopw [5] (fun i wq => ∃ (k : Nat) (L : Lay), k ≤ nP ∧ i = .int .i64 k ∧ CpI True w (cells9 c (aR, nR, cR) (aP, nP, cP) (aT, nT, cT) qH) 29 c g wq L ∧ Hid (L.c = c ∧ L.ps.map LP.P = Ps.take k ∧ L.rs.map LR.R = Rs ∧ L.ts = [] ∧ L.es = Es)) (fun i _ => nP - (intOf i).toNat)
      case atStart => exact ⟨0, L, Nat.zero_le _, rfl, I, HL0⟩
      case round =>
        clear HL0 HL HR2 I z5 z6 hlt hk
        rename_i _ k0 L0 _ _
        obtain ⟨k, L, hk, rfl, I, HL⟩ := hrel
        have z6 := I.bp.mach.2.2.1
        simp only [slV] at z6
        by_cases hlt : k < nP
        ·obtain ⟨b, off, rfl, oPk⟩ := oP (by omega)
         obtain ⟨rs0, qc, ql, rA, hq0, hq1, hq2⟩ := oPk k hlt
         obtain ⟨P, hPk⟩ : ∃ R, R = Ps.getD k Rp.zero := ⟨_, rfl⟩
         have HX : Hid (P = Ps.getD k Rp.zero) := hPk
         rw [← hPk] at hq0 hq1 hq2
         obtain ⟨g0, g1, g2⟩ : Fit P.s ∧ P.cs.length * 8 ≤ 140737488351232 ∧ P.ls.length * 8 ≤ 140737488351232 := by rw [hPk]; exact fp _ (getD_mem (by have := HP.out; omega))
         have hlt' : (k : Int) < (nP : Int) := by omega
         have hk0 : (0 : Int) ≤ (k : Int) := by omega
         clear hPk oPk oP oT fp ft
         obtain ⟨x0, x1, x2, x3, x4, x5⟩ := rA.le I.le
         have hLn : L.ps.length = k := by
           have := congrArg List.length HL.out.2.1
           have := HP.out
           simp at *
           omega
         have HLn : Hid (L.ps.length = k) := hLn
         have hA := Le.alloc wr (.cells (cellsP rs0 qc ql) 46)
         have hbx := Box.new wr (cellsP rs0 qc ql) 46
         have I1 := I.later hA
         clear rA hLn
         go_upto_region 10 with fail
         generalize hW2 : wr.alloc (.cells (cellsP rs0 qc ql) 46) = wq at hA hbx I1 ⊢
         clear hW2 x0 x1 x2 x3 x4 x5 z6 I
         generalize wr.heap.size = gx at hbx ⊢
         have HS : HasS wq (stV rs0) P.s := ⟨rs0, rfl, fun i hi => (hq0 i hi).le I1.le⟩
         replace hq1 := hq1.le I1.le
         replace hq2 := hq2.le I1.le
         have y6 := I1.bo.mach.2.2.1
         obtain ⟨t0, t1, t2, t3, t4, t5⟩ := hbx.rep
         clear hq0 hbx hA
         refine wp_region_any (by kernel_rfl) ?_
         refine wpAny_grow [] [0, 1, 2, 3, 4, 5, 6, 7, 8, 9, 10, 11, 12, 13, 14] [15, 16, 17] (by decide) (by kernel_rfl) Le (Le.refl _) (fun _ _ _ => Le.trans)
           (fun vs i x => match i with
             | 0 => vs 0 = .pointer (some ⟨g, 6, none⟩)
             | 1 => vs 1 = slV L.qP
             | 2 => vs 2 = .pointer (some ⟨gx, 0, none⟩)
             | 3 => vs 3 = stV rs0
             | 4 => ∃ us : Nat → Sl, vs 4 = stV us ∧ ∀ i, i < 4 → Own x wq.heap.size (slV (us i)) (P.s.at i)
             | 5 => ∃ b, vs 5 = .slice (some ⟨b, 0, none⟩) 0 0 ∧ Own x wq.heap.size (.slice (some ⟨b, 0, none⟩) 0 0) []
             | 6 => vs 6 = .pointer (some ⟨gx, 4, none⟩)
             | 7 => vs 7 = slV qc
             | 8 => ∃ q : Sl, vs 8 = slV q ∧ Own x wq.heap.size (slV q) P.cs ∧ (0 < P.cs.length → ∀ us : Nat → Sl, vs 4 = stV us → ∀ i, i < 4 → ∀ b, (slV q).ownBlock = some b → (slV (us i)).ownBlock ≠ some b)
             | 9 => ∃ b, vs 9 = .slice (some ⟨b, 0, none⟩) 0 0 ∧ Own x wq.heap.size (.slice (some ⟨b, 0, none⟩) 0 0) []
             | 10 => vs 10 = .pointer (some ⟨gx, 5, none⟩)
             | 11 => vs 11 = slV ql
             | 12 => ∃ q : Sl, vs 12 = slV q ∧ Own x wq.heap.size (slV q) P.ls ∧ (0 < P.ls.length → (∀ us : Nat → Sl, vs 4 = stV us → ∀ i, i < 4 → ∀ b, (slV q).ownBlock = some b → (slV (us i)).ownBlock ≠ some b) ∧ ∀ qa : Sl, vs 8 = slV qa → ∀ b, (slV q).ownBlock = some b → (slV qa).ownBlock ≠ some b)
             | 13 => ∃ (us : Nat → Sl) (qa qb : Sl), vs 13 = repV us qa qb ∧ RepOwn x wq.heap.size P us qa qb
             | _ => ∃ (us : Nat → Sl) (qa qb : Sl), OwnE repK x wq.heap.size (vs 14) [⟨P, us, qa, qb⟩] ∧ RepOwn x wq.heap.size P us qa qb) ?_ ?_ (by decide) ?_ ?_
         ·intro vs i x y hi _ h hxy
          simp only [List.mem_cons, List.not_mem_nil, or_false] at hi
          rcases hi with rfl | rfl | rfl | rfl | rfl | rfl | rfl | rfl | rfl | rfl | rfl | rfl | rfl | rfl | rfl
          iterate 4
            ·exact h
          ·obtain ⟨u, e, o⟩ := h; exact ⟨u, e, fun i hi => (o i hi).le hxy⟩
          ·obtain ⟨u, e, o⟩ := h; exact ⟨u, e, o.le hxy⟩
          iterate 2
            ·exact h
          ·obtain ⟨u, e, o, o'⟩ := h; exact ⟨u, e, o.le hxy, o'⟩
          ·obtain ⟨u, e, o⟩ := h; exact ⟨u, e, o.le hxy⟩
          iterate 2
            ·exact h
          ·obtain ⟨u, e, o, o'⟩ := h; exact ⟨u, e, o.le hxy, o'⟩
          ·obtain ⟨u, a, b, e, o⟩ := h; exact ⟨u, a, b, e, o.le hxy⟩
          ·obtain ⟨u, a, b, o, o'⟩ := h; exact ⟨u, a, b, o.le hxy, o'.le hxy⟩
         ·intro vs vs' i o x hi _ hk h
          have e := hk i (.inl rfl)
          simp only [List.mem_cons, List.not_mem_nil, or_false] at hi
          rcases hi with rfl | rfl | rfl | rfl | rfl | rfl | rfl | rfl | rfl | rfl | rfl | rfl | rfl | rfl | rfl
          case inr.inr.inr.inr.inr.inr.inr.inr.inl =>
            have e4 := hk 4 (.inr (by kernel_rfl))
            simp only at h ⊢
            rw [← e, ← e4]
            exact h
          case inr.inr.inr.inr.inr.inr.inr.inr.inr.inr.inr.inr.inl =>
            have e4 := hk 4 (.inr (by kernel_rfl))
            have e8 := hk 8 (.inr (by kernel_rfl))
            simp only at h ⊢
            rw [← e, ← e4, ← e8]
            exact h
          all_goals
            simp only at h ⊢
            rw [← e]
            exact h
         ·intro i o hi ho vs x hx hd
          have hx0 := (Le.drew wq).trans hx
          simp only [List.mem_cons, List.not_mem_nil, or_false] at hi
          generalize hρ : (putH _ _ _ vs).eval = ρ
          rcases hi with rfl | rfl | rfl | rfl | rfl | rfl | rfl | rfl | rfl | rfl | rfl | rfl | rfl | rfl | rfl
          ·cases ho
           have r1 : ρ (.tmp 3) = .pointer (some ⟨g, 0, none⟩) := by rw [← hρ]; kernel_rfl
           exact gives_value (w' := x) (v := .pointer (some ⟨g, 6, none⟩)) (by simp [go_sem, r1]) ⟨Le.refl _, rfl⟩
          ·cases ho
           have r1 : ρ (.tmp 46) = vs 0 := by rw [← hρ]; kernel_rfl
           have d := hd 0 (by decide) (by kernel_rfl)
           simp only at d
           rw [d] at r1
           have s6 := cell_le y6 hx0
           exact gives_value (w' := x) (v := slV L.qP) (by simp [go_sem, r1, s6]) ⟨Le.refl _, rfl⟩
          ·cases ho
           have r1 : ρ (.tmp 6) = .pointer (some ⟨gx, 0, none⟩) := by rw [← hρ]; kernel_rfl
           exact gives_value (w' := x) (v := .pointer (some ⟨gx, 0, none⟩)) (by simp [go_sem, r1]) ⟨Le.refl _, rfl⟩
          ·cases ho
           have r1 : ρ (.tmp 48) = vs 2 := by rw [← hρ]; kernel_rfl
           have d := hd 2 (by decide) (by kernel_rfl)
           simp only at d
           rw [d] at r1
           have s0 := cell_le t0 hx0
           have s1 := cell_le t1 hx0
           have s2 := cell_le t2 hx0
           have s3 := cell_le t3 hx0
           exact gives_value (w' := x) (v := stV rs0) (by simp [go_sem, r1, s0, s1, s2, s3]) ⟨Le.refl _, rfl⟩
          ·cases ho
           have r1 : ρ (.tmp 49) = vs 3 := by rw [← hρ]; kernel_rfl
           have rf : ρ (.func 25) = .func (.func 25) #[] #[] := by rw [← hρ]; kernel_rfl
           have d := hd 3 (by decide) (by kernel_rfl)
           simp only at d
           rw [d] at r1
           have hcall := lawCopyState (stV rs0) P.s x (HS.le hx0) g0
           refine gives_call (f := 25) (args := #[stV rs0]) (by simp [go_sem, r1, rf]) (hcall.mono ?_)
           rintro e x' ⟨v', rfl, ⟨us, rfl, ou⟩, lu⟩
           exact ⟨_, rfl, lu, us, rfl, fun i hi => (ou i hi).base hx0.size⟩
          ·cases ho
           exact gives_value (w' := x.alloc (.cells #[] 3)) (v := .slice (some ⟨x.heap.size, 0, none⟩) 0 0) (by simp [go_sem]) ⟨Le.alloc _ _, x.heap.size, rfl, Own.lit x _ hx0.size [] (by decide)⟩
          ·cases ho
           have r1 : ρ (.tmp 6) = .pointer (some ⟨gx, 0, none⟩) := by rw [← hρ]; kernel_rfl
           exact gives_value (w' := x) (v := .pointer (some ⟨gx, 4, none⟩)) (by simp [go_sem, r1]) ⟨Le.refl _, rfl⟩
          ·cases ho
           have r1 : ρ (.tmp 52) = vs 6 := by rw [← hρ]; kernel_rfl
           have d := hd 6 (by decide) (by kernel_rfl)
           simp only at d
           rw [d] at r1
           have s4 := cell_le t4 hx0
           exact gives_value (w' := x) (v := slV qc) (by simp [go_sem, r1, s4]) ⟨Le.refl _, rfl⟩
          ·cases ho
           have r1 : ρ (.tmp 51) = vs 5 := by rw [← hρ]; kernel_rfl
           have r2 : ρ (.tmp 53) = vs 7 := by rw [← hρ]; kernel_rfl
           have hh := hd 5 (by decide) (by kernel_rfl)
           have h4 := hd 4 (by decide) (by kernel_rfl)
           have d := hd 7 (by decide) (by kernel_rfl)
           simp only at hh h4 d
           obtain ⟨bb, e5, o5⟩ := hh
           obtain ⟨us, e4, o4⟩ := h4
           rw [e5] at r1
           rw [d] at r2
           obtain ⟨q, x', hrun, o8, l8, n8⟩ := run_append_emptyI 41 x wq.heap.size bb (slV qc) P.cs o5 (hq1.le hx0) g1 hx0.size
           refine gives_value (w' := x') (v := slV q) (by simp only [execOp, resolve, invoke, builtin, Sem.run_bind, Sem.run_pure, Result.andThen_ok, List.map_toArray, List.map_cons, List.map_nil, r1, r2, hrun]) ⟨l8, q, rfl, o8, fun hpos us' e i hi b hb hb' => ?_⟩
           have e' : stV us = stV us' := by rw [← e4]; exact e
           have hus : slV (us' i) = slV (us i) := by
             simp only [Value.agg.injEq, Array.mk.injEq, List.cons.injEq] at e'
             rcases four hi with rfl | rfl | rfl | rfl
             ·exact e'.1.symm
             ·exact e'.2.1.symm
             ·exact e'.2.2.1.symm
             ·exact e'.2.2.2.1.symm
           rw [hus] at hb'
           have h1 := ((o4 i hi).block hb').2
           rw [n8 hpos] at hb
           simp only [Option.some.injEq] at hb
           omega
          ·cases ho
           exact gives_value (w' := x.alloc (.cells #[] 3)) (v := .slice (some ⟨x.heap.size, 0, none⟩) 0 0) (by simp [go_sem]) ⟨Le.alloc _ _, x.heap.size, rfl, Own.lit x _ hx0.size [] (by decide)⟩
          ·cases ho
           have r1 : ρ (.tmp 6) = .pointer (some ⟨gx, 0, none⟩) := by rw [← hρ]; kernel_rfl
           exact gives_value (w' := x) (v := .pointer (some ⟨gx, 5, none⟩)) (by simp [go_sem, r1]) ⟨Le.refl _, rfl⟩
          ·cases ho
           have r1 : ρ (.tmp 56) = vs 10 := by rw [← hρ]; kernel_rfl
           have d := hd 10 (by decide) (by kernel_rfl)
           simp only at d
           rw [d] at r1
           have s5 := cell_le t5 hx0
           exact gives_value (w' := x) (v := slV ql) (by simp [go_sem, r1, s5]) ⟨Le.refl _, rfl⟩
          ·cases ho
           have r1 : ρ (.tmp 55) = vs 9 := by rw [← hρ]; kernel_rfl
           have r2 : ρ (.tmp 57) = vs 11 := by rw [← hρ]; kernel_rfl
           have hh := hd 9 (by decide) (by kernel_rfl)
           have h4 := hd 4 (by decide) (by kernel_rfl)
           have h8 := hd 8 (by decide) (by kernel_rfl)
           have d := hd 11 (by decide) (by kernel_rfl)
           simp only at hh h4 h8 d
           obtain ⟨bb, e5, o5⟩ := hh
           obtain ⟨us, e4, o4⟩ := h4
           obtain ⟨q8, e8, o8, _⟩ := h8
           rw [e5] at r1
           rw [d] at r2
           obtain ⟨q, x', hrun, o12, l12, n12⟩ := run_append_emptyI 41 x wq.heap.size bb (slV ql) P.ls o5 (hq2.le hx0) g2 hx0.size
           refine gives_value (w' := x') (v := slV q) (by simp only [execOp, resolve, invoke, builtin, Sem.run_bind, Sem.run_pure, Result.andThen_ok, List.map_toArray, List.map_cons, List.map_nil, r1, r2, hrun]) ⟨l12, q, rfl, o12, fun hpos => ⟨fun us' e i hi b hb hb' => ?_, fun qa e b hb hb' => ?_⟩⟩
           ·have e' : stV us = stV us' := by rw [← e4]; exact e
            have hus : slV (us' i) = slV (us i) := by
              simp only [Value.agg.injEq, Array.mk.injEq, List.cons.injEq] at e'
              rcases four hi with rfl | rfl | rfl | rfl
              ·exact e'.1.symm
              ·exact e'.2.1.symm
              ·exact e'.2.2.1.symm
              ·exact e'.2.2.2.1.symm
            rw [hus] at hb'
            have h1 := ((o4 i hi).block hb').2
            rw [n12 hpos] at hb
            simp only [Option.some.injEq] at hb
            omega
           ·have e' : slV q8 = slV qa := by rw [← e8]; exact e
            rw [← e'] at hb'
            have h1 := (o8.block hb').2
            rw [n12 hpos] at hb
            simp only [Option.some.injEq] at hb
            omega
          ·cases ho
           have r1 : ρ (.tmp 50) = vs 4 := by rw [← hρ]; kernel_rfl
           have r2 : ρ (.tmp 54) = vs 8 := by rw [← hρ]; kernel_rfl
           have r3 : ρ (.tmp 58) = vs 12 := by rw [← hρ]; kernel_rfl
           have h4 := hd 4 (by decide) (by kernel_rfl)
           have h8 := hd 8 (by decide) (by kernel_rfl)
           have h12 := hd 12 (by decide) (by kernel_rfl)
           simp only at h4 h8 h12
           obtain ⟨us, e4, o4⟩ := h4
           obtain ⟨q8, e8, o8, a8⟩ := h8
           obtain ⟨q12, e12, o12, a12⟩ := h12
           rw [e4] at r1
           rw [e8] at r2
           rw [e12] at r3
           exact gives_value (w' := x) (v := repV us q8 q12) (by simp [go_sem, r1, r2, r3]) ⟨Le.refl _, us, q8, q12, rfl, o4, o8, o12, fun hp => a8 hp us e4, fun hp => (a12 hp).1 us e4, fun hp => (a12 hp).2 q8 e8⟩
          ·cases ho
           have r1 : ρ (.tmp 59) = vs 13 := by rw [← hρ]; kernel_rfl
           have hh := hd 13 (by decide) (by kernel_rfl)
           simp only at hh
           obtain ⟨us, qa, qb, e13, o13⟩ := hh
           rw [e13] at r1
           have hlit := OwnE.lit repK x wq.heap.size hx0.size [⟨P, us, qa, qb⟩] (by simp)
           exact gives_value (w' := x.alloc (.cells (cellsP us qa qb) 46)) (v := .slice (some ⟨x.heap.size, 0, none⟩) 1 1) (by simp [go_sem, r1]) ⟨Le.alloc _ _, us, qa, qb, hlit, o13.le (Le.alloc _ _)⟩
         ·intro vs x hx hd
          have hx0 := (Le.drew wq).trans hx
          have e1 := hd 1 (by decide)
          simp only at e1
          have hh := hd 14 (by decide)
          simp only at hh
          replace hh := hh.choose_spec
          generalize Exists.choose _ = us at hh
          replace hh := hh.choose_spec
          generalize Exists.choose _ = qa at hh
          replace hh := hh.choose_spec
          generalize Exists.choose _ = qb at hh
          have o14 := hh.1
          have o13 := hh.2
          have hrun := run_append_E repIn 25 x w.heap.size (slV L.qP) (vs 14) L.ps [⟨P, us, qa, qb⟩] (I1.own.oP.le hx0) o14.has (by simp) (by have := HLn.out; show (L.ps.length + 1) * 144 ≤ _; omega) (by have := HLn.out; show L.ps.length + 1 ≤ _; omega) (I1.le.trans hx0).size
          replace hrun := hrun.choose_spec
          generalize Exists.choose _ = q' at hrun
          replace hrun := hrun.choose_spec
          generalize Exists.choose _ = x2 at hrun
          have hrn := hrun.1
          have IN := I1.rep (by decide) hx0 (x := ⟨P, us, qa, qb⟩) o13.s o13.c o13.l (fun _ => o13.apart) hrun.2.1 hrun.2.2
          have bo2 : x2.cell? ⟨g, 6, none⟩ = some (slV L.qP) ∧ x2.frozen? ⟨g, 6, none⟩ = false := by
            have hb := (I1.bo.le hx0).grown hrun.2.2 ((I1.own.oP.le hx0).apart (I1.bo.le hx0) (by decide))
            exact ⟨hb.cell 6, hb.frozen 6⟩
          have c6 := bo2.1
          have k6 := bo2.2
          generalize hf0 : putH _ _ _ vs = fr0
          refine wpSeq_cons rfl ?_
          refine wp_value_at (v0 := slV q') (w0 := x2) ?_ ?_
          ·have r1 : fr0.eval (.tmp 47) = vs 1 := by rw [← hf0]; kernel_rfl
           have r2 : fr0.eval (.tmp 60) = vs 14 := by rw [← hf0]; kernel_rfl
           rw [e1] at r1
           simp only [execOp, resolve, invoke, builtin, Sem.run_bind, Sem.run_pure, Result.andThen_ok, List.map_toArray, List.map_cons, List.map_nil, r1, r2, hrn]
          ·generalize hf1 : Act.put fr0 _ _ = fr1
           refine wpSeq_cons rfl ?_
           refine wp_value_at (v0 := .pointer (some ⟨g, 6, none⟩)) (w0 := x2) ?_ ?_
           ·generalize hρ : fr1.eval = ρ
            have r1 : ρ (.tmp 3) = .pointer (some ⟨g, 0, none⟩) := by rw [← hρ, ← hf1, ← hf0]; kernel_rfl
            simp [go_sem, r1]
           ·generalize hf2 : Act.put fr1 _ _ = fr2
            refine wpSeq_cons rfl ?_
            refine wp_skip_at (w0 := x2.setCell ⟨g, 6, none⟩ (slV q')) ?_ ?_
            ·generalize hρ : fr2.eval = ρ
             have r1 : ρ (.tmp 62) = .pointer (some ⟨g, 6, none⟩) := by rw [← hρ, ← hf2, ← hf1, ← hf0]; kernel_rfl
             have r2 : ρ (.tmp 61) = slV q' := by rw [← hρ, ← hf2, ← hf1, ← hf0]; kernel_rfl
             simp [go_sem, r1, r2, c6, k6]
            ·subst hf2 hf1 hf0
             simp only [wpSeq, putH, List.getElem?_cons_succ, List.getElem?_cons_zero, Option.bind_some, Act.put, List.setIfInBounds_toArray, List.set_cons_zero, List.set_cons_succ]
             go_wp2_with fail
             go_roundw
             case rel => exact ⟨k + 1, _, by omega, by go_num, IN, HL.out.1, by rw [List.map_append, HL.out.2.1, List.take_succ_eq_append_getElem (by have := HP.out; omega)]; simp [HX.out, List.getD, show k < Ps.length by have := HP.out; omega], HL.out.2.2.1, HL.out.2.2.2.1, HL.out.2.2.2.2⟩
             case measure => simp [intOf]; omega
        ·have HP2 : Hid (L.ps.map LP.P = Ps) := by
           have h := HL.out.2.1
           rw [List.take_of_length_le (by have := HP.out; omega)] at h
           exact h
         have z7 := I.bp.mach.2.2.2.1
         simp only [slV] at z7
         clear oP fp
         have HL0 : Hid (L.c = c ∧ L.ts.map LT.T = Ts.take 0 ∧ L.rs.map LR.R = Rs ∧ L.ps.map LP.P = Ps ∧ L.es = Es) := ⟨HL.out.1, by rw [HL.out.2.2.2.1]; rfl, HL.out.2.2.1, HP2.out, HL.out.2.2.2.2⟩
         go_wp2_with fail
         go_loopw [7] (fun i wq => ∃ (k : Nat) (L : Lay), k ≤ nT ∧ i = .int .i64 k ∧ CpI True w (cells9 c (aR, nR, cR) (aP, nP, cP) (aT, nT, cT) qH) 29 c g wq L ∧ Hid (L.c = c ∧ L.ts.map LT.T = Ts.take k ∧ L.rs.map LR.R = Rs ∧ L.ps.map LP.P = Ps ∧ L.es = Es)) (fun i _ => nT - (intOf i).toNat)
         case atStart => exact ⟨0, L, Nat.zero_le _, rfl, I, HL0⟩
         case round =>
           clear HL0 HL HP2 I z6 z7 hlt hk
           rename_i _ k1 L1 _ _
           obtain ⟨k, L, hk, rfl, I, HL⟩ := hrel
           have z7 := I.bp.mach.2.2.2.1
           simp only [slV] at z7
           by_cases hlt : k < nT
           ·obtain ⟨b, off, rfl, oTk⟩ := oT (by omega)
            obtain ⟨qb, qt, rA, hq1, hq2⟩ := oTk k hlt
            obtain ⟨T, hTk⟩ : ∃ R, R = Ts.getD k Th.zero := ⟨_, rfl⟩
            have HX : Hid (T = Ts.getD k Th.zero) := hTk
            rw [← hTk] at rA hq1 hq2
            obtain ⟨g1, g2⟩ : T.b.length * 8 ≤ 140737488351232 ∧ T.tl.length * 8 ≤ 140737488351232 := by rw [hTk]; exact ft _ (getD_mem (by have := HT.out; omega))
            have hlt' : (k : Int) < (nT : Int) := by omega
            have hk0 : (0 : Int) ≤ (k : Int) := by omega
            clear hTk oTk oT ft
            obtain ⟨x0, x1, x2, x3, x4, x5, x6, x7, x8, x9, x10, x11⟩ := rA.le I.le
            have hLn : L.ts.length = k := by
              have := congrArg List.length HL.out.2.1
              have := HT.out
              simp at *
              omega
            have HLn : Hid (L.ts.length = k) := hLn
            clear rA hLn
            have hA := Le.alloc wr (.cells (cellsT T qb qt) 59)
            have hbx := Box.new wr (cellsT T qb qt) 59
            replace hq1 := hq1.le (I.le.trans hA)
            replace hq2 := hq2.le (I.le.trans hA)
            go_upto_region 15 with fail
            generalize hW2 : wr.alloc (.cells (cellsT T qb qt) 59) = wq at hA hbx hq1 hq2 ⊢
            generalize hgx : wr.heap.size = gx at hbx ⊢
            have hBg : wr.heap.size ≤ gx := by omega
            clear hW2 hgx x0 x1 x2 x3 x4 x5 x6 x7 x8 x9 x10 x11 z7
            have s6 := (hbx.le (Le.alloc wq (.cells #[] 3))).th.2.2.2.2.2.2.1
            have hn1 : Own (wq.alloc (.cells #[] 3)) wr.heap.size (.slice (some ⟨wq.heap.size, 0, none⟩) 0 0) [] := Own.lit wq _ hA.size [] (by decide)
            have hq1' := hq1.le (Le.alloc wq (.cells #[] 3))
            have hA1 := hA.trans (Le.alloc wq (.cells #[] 3))
            go_upto_region 16 with (at_builtin; refine wp_append_emptyI rfl _ _ rfl wr.heap.size _ _ T.b rfl rfl hn1 hq1' g1 hA1.size ?_; intro q1 w3 o1 l3 n1; have hb3 := (hbx.le (Le.alloc wq (.cells #[] 3))).le l3; have c6 := hb3.th.2.2.2.2.2.2.1; have k6 := hb3.frozen 6)
            have hb4 := hb3.setT6 (q := q1)
            have l4 : Le wr (w3.setCell ⟨gx, 6, none⟩ (slV q1)) := Le.set (hA1.trans l3) hBg
            have o4 := o1.setBox (i := 6) (u := slV q1) hb3 (by decide)
            have hq4 : Has (w3.setCell ⟨gx, 6, none⟩ (slV q1)) (slV qt) T.tl := by
              have h0 := hq2.le ((Le.alloc wq (.cells #[] 3)).trans l3)
              obtain ⟨a, cap, hv, hc, hn, hx⟩ := h0
              refine ⟨a, cap, hv, hc, hn, fun hp => ?_⟩
              obtain ⟨b', off', ha, hcell⟩ := hx hp
              refine ⟨b', off', ha, fun i hi => ?_⟩
              rw [World.cell?_setCell_other _ _ _ _ (fun e => ?_)]
              ·exact hcell i hi
              ·have h1 := hcell i hi
               rw [← e, c6] at h1
               cases h1
            clear s6 hn1 hq1 hq1' hq2 c6 k6 hbx hb3 o1
            generalize hW4 : w3.setCell ⟨gx, 6, none⟩ (slV q1) = w4 at hb4 l4 o4 hq4 ⊢
            clear hW4 l3 hA1 hA
            have s11 := (hb4.le (Le.alloc w4 (.cells #[] 3))).th.2.2.2.2.2.2.2.2.2.2.2
            have hn2 : Own (w4.alloc (.cells #[] 3)) wr.heap.size (.slice (some ⟨w4.heap.size, 0, none⟩) 0 0) [] := Own.lit w4 _ l4.size [] (by decide)
            have hq4' := hq4.le (Le.alloc w4 (.cells #[] 3))
            have hA4 := l4.trans (Le.alloc w4 (.cells #[] 3))
            have o4' := o4.le (Le.alloc w4 (.cells #[] 3))
            go_upto_region 17 with (at_builtin; refine wp_append_emptyI rfl _ _ rfl wr.heap.size _ _ T.tl rfl rfl hn2 hq4' g2 hA4.size ?_; intro q2 w5 o2 l5 n2; have hb5 := (hb4.le (Le.alloc w4 (.cells #[] 3))).le l5; have c11 := hb5.th.2.2.2.2.2.2.2.2.2.2.2; have k11 := hb5.frozen 11)
            have hb6 := hb5.setT11 (q := q2)
            have l6 : Le wr (w5.setCell ⟨gx, 11, none⟩ (slV q2)) := Le.set (hA4.trans l5) hBg
            have o6 := (o4'.le l5).setBox (i := 11) (u := slV q2) hb5 (by decide)
            have o7 := o2.setBox (i := 11) (u := slV q2) hb5 (by decide)
            have hap : 0 < q1.2.1 → 0 < q2.2.1 → ∀ b, (slV q1).ownBlock = some b → (slV q2).ownBlock ≠ some b := fun _ p2 b e1 e2 => by
              have h1 := (o4'.block e1).2
              have h2 := n2 (by have := own_len o2; omega)
              rw [h2] at e2
              simp only [Option.some.injEq] at e2
              omega
            clear s11 hn2 hq4 hq4' c11 k11 hb4 hb5 o2 o4 o4' n1 n2
            generalize hW6 : w5.setCell ⟨gx, 11, none⟩ (slV q2) = w6 at hb6 l6 o6 o7 ⊢
            clear hW6 l5 hA4 l4
            obtain ⟨t0, t1, t2, t3, t4, t5, t6, t7, t8, t9, t10, t11⟩ := hb6.th
            have I6 := I.later l6
            have y7 := I6.bo.mach.2.2.2.1
            have hlit := OwnE.lit thK w6 wr.heap.size l6.size [⟨T, q1, q2⟩] (by simp)
            replace hlit : OwnE thK (w6.alloc (.cells (cellsT T q1 q2) 59)) wr.heap.size (.slice (some ⟨w6.heap.size, 0, none⟩) 1 1) [⟨T, q1, q2⟩] := hlit
            have hA6 := Le.alloc w6 (.cells (cellsT T q1 q2) 59)
            have hoT := (I6.own.oT.le hA6)
            have y7' := cell_le y7 hA6
            go_wp2_with (at_builtin; refine wp_append_E thIn rfl _ _ rfl w.heap.size _ _ L.ts [⟨T, q1, q2⟩] rfl rfl hoT hlit.has (by have := HLn.out; show (L.ts.length + 1) * 120 ≤ _; omega) (by have := HLn.out; show L.ts.length + 1 ≤ _; omega) (I6.le.trans hA6).size ?_; intro v' w7 o8 hg8 _; obtain ⟨q', rfl⟩ := o8.has.sl; have hb8 := (I6.bo.le hA6).grown hg8 (hoT.apart (I6.bo.le hA6) (by decide)); have c7 := hb8.cell 7; have k7 := hb8.frozen 7)
            have IN := I.th (by decide) (l6.trans hA6) (x := ⟨T, q1, q2⟩) (o6.le hA6) (o7.le hA6) (fun _ => hap) o8 hg8
            go_roundw
            case rel => exact ⟨k + 1, _, by omega, by go_num, IN, HL.out.1, by rw [List.map_append, HL.out.2.1, List.take_succ_eq_append_getElem (by have := HT.out; omega)]; simp [HX.out, List.getD, show k < Ts.length by have := HT.out; omega], HL.out.2.2.1, HL.out.2.2.2.1, HL.out.2.2.2.2⟩
            case measure => simp [intOf]; omega
           ·have HM : Hid (L.M = ⟨c, Rs, Ps, Ts, Es⟩) := by
              have h := HL.out.2.1
              rw [List.take_of_length_le (by have := HT.out; omega)] at h
              show Lay.M L = _
              unfold Lay.M
              rw [HL.out.1, h, HL.out.2.2.1, HL.out.2.2.2.1, HL.out.2.2.2.2]
            have HC : Hid (L.c = c) := HL.out.1
            obtain ⟨⟨m0, m1, m2, m3, m4⟩, m5, m6, m7, m8⟩ := I.bo.mach
            have r0 := I.br.cell 0
            have r1 := I.br.cell 1
            have r2 := I.br.cell 2
            have r3 := I.br.cell 3
            have r4 := I.br.cell 4
            have r5 := I.br.cell 5
            have r6 := I.br.cell 6
            have r7 := I.br.cell 7
            have r8 := I.br.cell 8
            simp only [List.getElem?_toArray, List.getElem?_cons_succ, List.getElem?_cons_zero] at r0 r1 r2 r3 r4 r5 r6 r7 r8
            have k0 := I.br.frozen 0
            have k1' := I.br.frozen 1
            have k2 := I.br.frozen 2
            have k3 := I.br.frozen 3
            have k4 := I.br.frozen 4
            have k5 := I.br.frozen 5
            have k6 := I.br.frozen 6
            have k7 := I.br.frozen 7
            have k8 := I.br.frozen 8
            clear oT ft HL
            go_wp2_with fail
            refine bodyPost_ret (v := machV c L.qR L.qP L.qT L.qH) (by simp [results, Tryz.results8, go_sem, r0, r1, r2, r3, r4, r5, r6, r7, r8]) rfl ⟨L, by rw [← HC.out], HM.out, ?_, I.ap trivial, ?_⟩
            ·have hne : ∀ {t : TypeId} {kk n : Nat} {v : Value} {us : List Value}, World.ownsRow wr w.heap.size t kk v n us → t ≠ 29 → (put9 wr (w.heap.size + 1) c L.qR L.qP L.qT L.qH).ownsRow w.heap.size t kk v n us := fun {t kk n v us} h ht => row_put9 h (fun e => by
               rcases h.2 with ⟨e2, _⟩ | ⟨g', cap, cur, hv, _, hh, _⟩
               ·rw [e2] at e; simp [Value.ownBlock] at e
               ·rw [hv] at e
                simp [Value.ownBlock] at e
                subst e
                have hb := I.br
                unfold Box at hb
                rw [hb] at hh
                simp at hh
                exact ht hh.2.symm) _ _ _ _ _
             have o := I.own
             exact ⟨hne o.oR (by decide), hne o.oP (by decide), hne o.oT (by decide), hne o.oH (by decide), fun y hy => hne (o.iR y hy) (by decide), fun y hy => ⟨fun i hi => hne ((o.iP y hy).1 i hi) (by decide), hne (o.iP y hy).2.1 (by decide), hne (o.iP y hy).2.2 (by decide)⟩, fun y hy => ⟨hne (o.iT y hy).1 (by decide), hne (o.iT y hy).2 (by decide)⟩⟩
            ·exact I.le.put9 (by omega) _ _ _ _ _
theorem allE_take {α : Type} {xs : List α} {d : α} {p : α → Bool} {k : Nat} (hk : k < xs.length) (h : (xs.take k).all p = true) (hp : p (xs.getD k d) = true) : (xs.take (k + 1)).all p = true := by
 rw [List.take_succ_eq_append_getElem hk, List.all_append, h]
 simp [List.getD, hk] at hp
 simp [hp]
theorem allE_no {α : Type} {xs : List α} {d : α} {p : α → Bool} {k : Nat} (hk : k < xs.length) (hp : p (xs.getD k d) = false) : xs.all p = false := by
 rw [← Bool.not_eq_true, List.all_eq_true]
 intro h
 have := h (xs.getD k d) (by simp [List.getD, hk])
 rw [hp] at this
 cases this
def IsSlot (_w : World) (v : Value) (s : Slt) : Prop := v = s.v
def IsEv (_w : World) (v : Value) (E : Ev) : Prop := v = evV E
def IsInt (_w : World) (v : Value) (x : Int) : Prop := v = .int .i64 x
theorem HasL.open {w : World} {v : Value} {ss : List Slt} (h : HasL w v ss) : ∃ (a : Option Addr) (cap : Nat), v = .slice a ss.length cap ∧ ss.length ≤ cap ∧ (a = none → cap = 0) ∧
   (0 < ss.length → ∃ b off, a = some ⟨b, off, none⟩ ∧ ∀ i, i < ss.length → SlotAt w b (off + i * 5) (ss.getD i Slt.zero)) := h
theorem Has.open {w : World} {v : Value} {xs : List Int} (h : Has w v xs) : ∃ (a : Option Addr) (cap : Nat), v = .slice a xs.length cap ∧ xs.length ≤ cap ∧ (a = none → cap = 0) ∧
   (0 < xs.length → ∃ b off, a = some ⟨b, off, none⟩ ∧ ∀ i, i < xs.length → w.cell? ⟨b, off + i, none⟩ = some (.int .i64 (xs.getD i 0))) := h
set_option maxHeartbeats 1000000 in
theorem allRing (f : Nat) (c : Value) (p : Rg → Bool) (hc : ∀ (u : Value) (w : World), (callFunc f #[c, u]).run Tryz.prog w = .ok (.enter f #[c, u]) w) (v : Value) (xs : List Rg) (w : World)
   (hp : ∀ w', Le w w' → ∀ (u : Value) (x : Rg), x ∈ xs → HasR w' u x → Calls Tryz.prog f #[c, u] w' fun e w'' => e = .returned (.bool (p x)) ∧ Le w' w'') (hx : HasRs w v xs) (hm : xs.length ≤ 9223372036854775807) :
   Calls Tryz.prog 125 #[v, .func (.func f) #[c] #[]] w fun e w' => e = .returned (.bool (xs.all p)) ∧ Le w w' := by
 obtain ⟨a, cap, rfl, hc', _, hx⟩ := hx.open
 by_cases h0 : 0 < xs.length
 ·obtain ⟨b, off, rfl, hcell⟩ := hx h0
  clear hx
  obtain ⟨L, hL⟩ : ∃ L, L = xs.length := ⟨_, rfl⟩
  have HL : Hid (L = xs.length) := hL
  rw [← hL] at hm h0 hc' hcell ⊢
  clear hL
  go_enter Tryz.func125, Tryz.ntmps125
  go_wp2
  go_loopw [9] (fun i wr => ∃ k : Nat, k ≤ L ∧ i = .int .i64 k ∧ Hid ((xs.take k).all p = true) ∧ Le w wr) (fun i _ => L - (intOf i).toNat)
  case atStart => exact ⟨0, by omega, rfl, rfl, Le.refl _⟩
  case round =>
    obtain ⟨k, hk, rfl, HA, hle⟩ := hrel
    by_cases hlt : k < L
    ·obtain ⟨q, rA, hq⟩ := hcell k hlt
     obtain ⟨s, hs⟩ : ∃ s, s = xs.getD k Rg.zero := ⟨_, rfl⟩
     have HS : Hid (s = xs.getD k Rg.zero) := hs
     have hmem : s ∈ xs := by rw [hs]; exact getD_mem (by have := HL.out; omega)
     rw [← hs] at rA hq
     obtain ⟨x0, x1, x2, x3⟩ := rA.le hle
     have hlt' : (k : Int) < (L : Int) := by omega
     clear hs hcell
     have hm2 := fun o => hp (wr.alloc o) (hle.trans (Le.alloc _ _)) (ringV s.h s.t s.f q) s hmem (⟨q, rfl, (hq.le hle).le (Le.alloc _ _)⟩)
     clear hp hmem
     cases hh : p s
     ·simp only [hh] at hm2
      go_wp2_with fail
      refine (hm2 _).mono ?_
      rintro e w1 ⟨rfl, l1⟩
      go_wp2
      go_ret
      exact ⟨ret_bool (allE_no (k := k) (d := Rg.zero) (by have := HL.out; omega) (by rw [← HS.out]; exact hh)).symm, (hle.trans (Le.alloc _ _)).trans l1⟩
     ·simp only [hh] at hm2
      go_wp2_with fail
      refine (hm2 _).mono ?_
      rintro e w1 ⟨rfl, l1⟩
      go_wp2
      go_roundw
      case rel => exact ⟨k + 1, by omega, by go_num, allE_take (d := Rg.zero) (by have := HL.out; omega) HA.out (by rw [← HS.out]; exact hh), (hle.trans (Le.alloc _ _)).trans l1⟩
      case measure => simp [intOf]; omega
    ·obtain rfl : k = L := by omega
     go_wp2
     go_ret
     exact ⟨ret_bool (by have := HA.out; rw [HL.out, List.take_length] at this; exact this.symm), hle⟩
 ·have hxn : xs = [] := by cases xs with | nil => rfl | cons _ _ => simp at h0
  subst hxn
  go_enter Tryz.func125, Tryz.ntmps125
  go_wp2
  refine wp_loop_rounds 1 ?_
  rw [rounds_succ]
  go_wp2
  go_ret
  exact ⟨rfl, Le.refl _⟩
theorem exactlyRing (f : Nat) (c : Value) (p : Rg → Bool) (hc : ∀ (u : Value) (w : World), (callFunc f #[c, u]).run Tryz.prog w = .ok (.enter f #[c, u]) w) (v : Value) (xs : List Rg) (n : Int) (w : World)
   (hp : ∀ w', Le w w' → ∀ (u : Value) (x : Rg), x ∈ xs → (xs.length : Int) = n → HasR w' u x → Calls Tryz.prog f #[c, u] w' fun e w'' => e = .returned (.bool (p x)) ∧ Le w' w'') (hx : HasRs w v xs) (hm : xs.length ≤ 9223372036854775807) :
   Calls Tryz.prog 95 #[v, .int .i64 n, .func (.func f) #[c] #[]] w fun e w' => e = .returned (.bool (decide ((xs.length : Int) = n) && xs.all p)) ∧ Le w w' := by
 by_cases hn : (xs.length : Int) = n
 ·have hall := allRing f c p hc v xs w (fun w' l u x hm h => hp w' l u x hm hn h) hx hm
  rw [decide_eq_true hn, Bool.true_and]
  generalize xs.all p = y at hall
  obtain ⟨a, cap, rfl, _, _, _⟩ := hx.open
  have hb : ((xs.length : Int) == n) = true := by simp [hn]
  clear hp hc hn
  go_enter Tryz.func95, Tryz.ntmps95
  go_wp2_with fail
  refine hall.mono ?_
  rintro e w1 ⟨rfl, l1⟩
  go_wp2_with fail
  go_ret
  exact ⟨rfl, l1⟩
 ·rw [decide_eq_false hn, Bool.false_and]
  obtain ⟨a, cap, rfl, _, _, _⟩ := hx.open
  have hb : ((xs.length : Int) == n) = false := by simp [hn]
  clear hp hc hn
  go_enter Tryz.func95, Tryz.ntmps95
  go_wp2_with fail
  go_ret
  exact ⟨rfl, Le.refl _⟩
set_option maxHeartbeats 1000000 in
theorem allSlot (f : Nat) (c : Value) (p : Slt → Bool) (hc : ∀ (u : Value) (w : World), (callFunc f #[c, u]).run Tryz.prog w = .ok (.enter f #[c, u]) w) (v : Value) (xs : List Slt) (w : World)
   (hp : ∀ w', Le w w' → ∀ (u : Value) (x : Slt), x ∈ xs → IsSlot w' u x → Calls Tryz.prog f #[c, u] w' fun e w'' => e = .returned (.bool (p x)) ∧ Le w' w'') (hx : HasL w v xs) (hm : xs.length ≤ 9223372036854775807) :
   Calls Tryz.prog 111 #[v, .func (.func f) #[c] #[]] w fun e w' => e = .returned (.bool (xs.all p)) ∧ Le w w' := by
 obtain ⟨a, cap, rfl, hc', _, hx⟩ := hx.open
 by_cases h0 : 0 < xs.length
 ·obtain ⟨b, off, rfl, hcell⟩ := hx h0
  clear hx
  obtain ⟨L, hL⟩ : ∃ L, L = xs.length := ⟨_, rfl⟩
  have HL : Hid (L = xs.length) := hL
  rw [← hL] at hm h0 hc' hcell ⊢
  clear hL
  go_enter Tryz.func111, Tryz.ntmps111
  go_wp2
  go_loopw [9] (fun i wr => ∃ k : Nat, k ≤ L ∧ i = .int .i64 k ∧ Hid ((xs.take k).all p = true) ∧ Le w wr) (fun i _ => L - (intOf i).toNat)
  case atStart => exact ⟨0, by omega, rfl, rfl, Le.refl _⟩
  case round =>
    obtain ⟨k, hk, rfl, HA, hle⟩ := hrel
    by_cases hlt : k < L
    ·have rA := hcell k hlt
     obtain ⟨s, hs⟩ : ∃ s, s = xs.getD k Slt.zero := ⟨_, rfl⟩
     have HS : Hid (s = xs.getD k Slt.zero) := hs
     have hmem : s ∈ xs := by rw [hs]; exact getD_mem (by have := HL.out; omega)
     rw [← hs] at rA
     obtain ⟨x0, x1, x2, x3, x4⟩ := rA.le hle
     have hlt' : (k : Int) < (L : Int) := by omega
     clear hs hcell
     have hm2 := fun o => hp (wr.alloc o) (hle.trans (Le.alloc _ _)) (s.v) s hmem (rfl)
     clear hp hmem
     cases hh : p s
     ·simp only [hh] at hm2
      go_wp2_with fail
      refine (hm2 _).mono ?_
      rintro e w1 ⟨rfl, l1⟩
      go_wp2
      go_ret
      exact ⟨ret_bool (allE_no (k := k) (d := Slt.zero) (by have := HL.out; omega) (by rw [← HS.out]; exact hh)).symm, (hle.trans (Le.alloc _ _)).trans l1⟩
     ·simp only [hh] at hm2
      go_wp2_with fail
      refine (hm2 _).mono ?_
      rintro e w1 ⟨rfl, l1⟩
      go_wp2
      go_roundw
      case rel => exact ⟨k + 1, by omega, by go_num, allE_take (d := Slt.zero) (by have := HL.out; omega) HA.out (by rw [← HS.out]; exact hh), (hle.trans (Le.alloc _ _)).trans l1⟩
      case measure => simp [intOf]; omega
    ·obtain rfl : k = L := by omega
     go_wp2
     go_ret
     exact ⟨ret_bool (by have := HA.out; rw [HL.out, List.take_length] at this; exact this.symm), hle⟩
 ·have hxn : xs = [] := by cases xs with | nil => rfl | cons _ _ => simp at h0
  subst hxn
  go_enter Tryz.func111, Tryz.ntmps111
  go_wp2
  refine wp_loop_rounds 1 ?_
  rw [rounds_succ]
  go_wp2
  go_ret
  exact ⟨rfl, Le.refl _⟩
set_option maxHeartbeats 1000000 in
theorem allRep (f : Nat) (c : Value) (p : Rp → Bool) (hc : ∀ (u : Value) (w : World), (callFunc f #[c, u]).run Tryz.prog w = .ok (.enter f #[c, u]) w) (v : Value) (xs : List Rp) (w : World)
   (hp : ∀ w', Le w w' → ∀ (u : Value) (x : Rp), x ∈ xs → HasP w' u x → Calls Tryz.prog f #[c, u] w' fun e w'' => e = .returned (.bool (p x)) ∧ Le w' w'') (hx : HasPs w v xs) (hm : xs.length ≤ 9223372036854775807) :
   Calls Tryz.prog 128 #[v, .func (.func f) #[c] #[]] w fun e w' => e = .returned (.bool (xs.all p)) ∧ Le w w' := by
 obtain ⟨a, cap, rfl, hc', _, hx⟩ := hx.open
 by_cases h0 : 0 < xs.length
 ·obtain ⟨b, off, rfl, hcell⟩ := hx h0
  clear hx
  obtain ⟨L, hL⟩ : ∃ L, L = xs.length := ⟨_, rfl⟩
  have HL : Hid (L = xs.length) := hL
  rw [← hL] at hm h0 hc' hcell ⊢
  clear hL
  go_enter Tryz.func128, Tryz.ntmps128
  go_wp2
  go_loopw [9] (fun i wr => ∃ k : Nat, k ≤ L ∧ i = .int .i64 k ∧ Hid ((xs.take k).all p = true) ∧ Le w wr) (fun i _ => L - (intOf i).toNat)
  case atStart => exact ⟨0, by omega, rfl, rfl, Le.refl _⟩
  case round =>
    obtain ⟨k, hk, rfl, HA, hle⟩ := hrel
    by_cases hlt : k < L
    ·obtain ⟨vs, c0, l0, rA, hq0, hq1, hq2⟩ := hcell k hlt
     obtain ⟨s, hs⟩ : ∃ s, s = xs.getD k Rp.zero := ⟨_, rfl⟩
     have HS : Hid (s = xs.getD k Rp.zero) := hs
     have hmem : s ∈ xs := by rw [hs]; exact getD_mem (by have := HL.out; omega)
     rw [← hs] at hq0 hq1 hq2
     obtain ⟨x0, x1, x2, x3, x4, x5⟩ := rA.le hle
     have hlt' : (k : Int) < (L : Int) := by omega
     clear hs hcell
     have hm2 := fun o => hp (wr.alloc o) (hle.trans (Le.alloc _ _)) (repV vs c0 l0) s hmem (⟨vs, c0, l0, rfl, fun i hi => ((hq0 i hi).le hle).le (Le.alloc _ _), (hq1.le hle).le (Le.alloc _ _), (hq2.le hle).le (Le.alloc _ _)⟩)
     clear hp hmem
     cases hh : p s
     ·simp only [hh] at hm2
      go_wp2_with fail
      refine (hm2 _).mono ?_
      rintro e w1 ⟨rfl, l1⟩
      go_wp2
      go_ret
      exact ⟨ret_bool (allE_no (k := k) (d := Rp.zero) (by have := HL.out; omega) (by rw [← HS.out]; exact hh)).symm, (hle.trans (Le.alloc _ _)).trans l1⟩
     ·simp only [hh] at hm2
      go_wp2_with fail
      refine (hm2 _).mono ?_
      rintro e w1 ⟨rfl, l1⟩
      go_wp2
      go_roundw
      case rel => exact ⟨k + 1, by omega, by go_num, allE_take (d := Rp.zero) (by have := HL.out; omega) HA.out (by rw [← HS.out]; exact hh), (hle.trans (Le.alloc _ _)).trans l1⟩
      case measure => simp [intOf]; omega
    ·obtain rfl : k = L := by omega
     go_wp2
     go_ret
     exact ⟨ret_bool (by have := HA.out; rw [HL.out, List.take_length] at this; exact this.symm), hle⟩
 ·have hxn : xs = [] := by cases xs with | nil => rfl | cons _ _ => simp at h0
  subst hxn
  go_enter Tryz.func128, Tryz.ntmps128
  go_wp2
  refine wp_loop_rounds 1 ?_
  rw [rounds_succ]
  go_wp2
  go_ret
  exact ⟨rfl, Le.refl _⟩
theorem exactlyRep (f : Nat) (c : Value) (p : Rp → Bool) (hc : ∀ (u : Value) (w : World), (callFunc f #[c, u]).run Tryz.prog w = .ok (.enter f #[c, u]) w) (v : Value) (xs : List Rp) (n : Int) (w : World)
   (hp : ∀ w', Le w w' → ∀ (u : Value) (x : Rp), x ∈ xs → (xs.length : Int) = n → HasP w' u x → Calls Tryz.prog f #[c, u] w' fun e w'' => e = .returned (.bool (p x)) ∧ Le w' w'') (hx : HasPs w v xs) (hm : xs.length ≤ 9223372036854775807) :
   Calls Tryz.prog 97 #[v, .int .i64 n, .func (.func f) #[c] #[]] w fun e w' => e = .returned (.bool (decide ((xs.length : Int) = n) && xs.all p)) ∧ Le w w' := by
 by_cases hn : (xs.length : Int) = n
 ·have hall := allRep f c p hc v xs w (fun w' l u x hm h => hp w' l u x hm hn h) hx hm
  rw [decide_eq_true hn, Bool.true_and]
  generalize xs.all p = y at hall
  obtain ⟨a, cap, rfl, _, _, _⟩ := hx.open
  have hb : ((xs.length : Int) == n) = true := by simp [hn]
  clear hp hc hn
  go_enter Tryz.func97, Tryz.ntmps97
  go_wp2_with fail
  refine hall.mono ?_
  rintro e w1 ⟨rfl, l1⟩
  go_wp2_with fail
  go_ret
  exact ⟨rfl, l1⟩
 ·rw [decide_eq_false hn, Bool.false_and]
  obtain ⟨a, cap, rfl, _, _, _⟩ := hx.open
  have hb : ((xs.length : Int) == n) = false := by simp [hn]
  clear hp hc hn
  go_enter Tryz.func97, Tryz.ntmps97
  go_wp2_with fail
  go_ret
  exact ⟨rfl, Le.refl _⟩
set_option maxHeartbeats 1000000 in
theorem allTh (f : Nat) (c : Value) (p : Th → Bool) (hc : ∀ (u : Value) (w : World), (callFunc f #[c, u]).run Tryz.prog w = .ok (.enter f #[c, u]) w) (v : Value) (xs : List Th) (w : World)
   (hp : ∀ w', Le w w' → ∀ (u : Value) (x : Th), x ∈ xs → HasT w' u x → Calls Tryz.prog f #[c, u] w' fun e w'' => e = .returned (.bool (p x)) ∧ Le w' w'') (hx : HasTs w v xs) (hm : xs.length ≤ 9223372036854775807) :
   Calls Tryz.prog 132 #[v, .func (.func f) #[c] #[]] w fun e w' => e = .returned (.bool (xs.all p)) ∧ Le w w' := by
 obtain ⟨a, cap, rfl, hc', _, hx⟩ := hx.open
 by_cases h0 : 0 < xs.length
 ·obtain ⟨b, off, rfl, hcell⟩ := hx h0
  clear hx
  obtain ⟨L, hL⟩ : ∃ L, L = xs.length := ⟨_, rfl⟩
  have HL : Hid (L = xs.length) := hL
  rw [← hL] at hm h0 hc' hcell ⊢
  clear hL
  go_enter Tryz.func132, Tryz.ntmps132
  go_wp2
  go_loopw [9] (fun i wr => ∃ k : Nat, k ≤ L ∧ i = .int .i64 k ∧ Hid ((xs.take k).all p = true) ∧ Le w wr) (fun i _ => L - (intOf i).toNat)
  case atStart => exact ⟨0, by omega, rfl, rfl, Le.refl _⟩
  case round =>
    obtain ⟨k, hk, rfl, HA, hle⟩ := hrel
    by_cases hlt : k < L
    ·obtain ⟨q, t, rA, hq, ht⟩ := hcell k hlt
     obtain ⟨s, hs⟩ : ∃ s, s = xs.getD k Th.zero := ⟨_, rfl⟩
     have HS : Hid (s = xs.getD k Th.zero) := hs
     have hmem : s ∈ xs := by rw [hs]; exact getD_mem (by have := HL.out; omega)
     rw [← hs] at rA hq ht
     obtain ⟨x0, x1, x2, x3, x4, x5, x6, x7, x8, x9, x10, x11⟩ := rA.le hle
     have hlt' : (k : Int) < (L : Int) := by omega
     clear hs hcell
     have hm2 := fun o => hp (wr.alloc o) (hle.trans (Le.alloc _ _)) (thV s q t) s hmem (⟨q, t, rfl, (hq.le hle).le (Le.alloc _ _), (ht.le hle).le (Le.alloc _ _)⟩)
     clear hp hmem
     cases hh : p s
     ·simp only [hh] at hm2
      go_wp2_with fail
      refine (hm2 _).mono ?_
      rintro e w1 ⟨rfl, l1⟩
      go_wp2
      go_ret
      exact ⟨ret_bool (allE_no (k := k) (d := Th.zero) (by have := HL.out; omega) (by rw [← HS.out]; exact hh)).symm, (hle.trans (Le.alloc _ _)).trans l1⟩
     ·simp only [hh] at hm2
      go_wp2_with fail
      refine (hm2 _).mono ?_
      rintro e w1 ⟨rfl, l1⟩
      go_wp2
      go_roundw
      case rel => exact ⟨k + 1, by omega, by go_num, allE_take (d := Th.zero) (by have := HL.out; omega) HA.out (by rw [← HS.out]; exact hh), (hle.trans (Le.alloc _ _)).trans l1⟩
      case measure => simp [intOf]; omega
    ·obtain rfl : k = L := by omega
     go_wp2
     go_ret
     exact ⟨ret_bool (by have := HA.out; rw [HL.out, List.take_length] at this; exact this.symm), hle⟩
 ·have hxn : xs = [] := by cases xs with | nil => rfl | cons _ _ => simp at h0
  subst hxn
  go_enter Tryz.func132, Tryz.ntmps132
  go_wp2
  refine wp_loop_rounds 1 ?_
  rw [rounds_succ]
  go_wp2
  go_ret
  exact ⟨rfl, Le.refl _⟩
theorem exactlyTh (f : Nat) (c : Value) (p : Th → Bool) (hc : ∀ (u : Value) (w : World), (callFunc f #[c, u]).run Tryz.prog w = .ok (.enter f #[c, u]) w) (v : Value) (xs : List Th) (n : Int) (w : World)
   (hp : ∀ w', Le w w' → ∀ (u : Value) (x : Th), x ∈ xs → (xs.length : Int) = n → HasT w' u x → Calls Tryz.prog f #[c, u] w' fun e w'' => e = .returned (.bool (p x)) ∧ Le w' w'') (hx : HasTs w v xs) (hm : xs.length ≤ 9223372036854775807) :
   Calls Tryz.prog 99 #[v, .int .i64 n, .func (.func f) #[c] #[]] w fun e w' => e = .returned (.bool (decide ((xs.length : Int) = n) && xs.all p)) ∧ Le w w' := by
 by_cases hn : (xs.length : Int) = n
 ·have hall := allTh f c p hc v xs w (fun w' l u x hm h => hp w' l u x hm hn h) hx hm
  rw [decide_eq_true hn, Bool.true_and]
  generalize xs.all p = y at hall
  obtain ⟨a, cap, rfl, _, _, _⟩ := hx.open
  have hb : ((xs.length : Int) == n) = true := by simp [hn]
  clear hp hc hn
  go_enter Tryz.func99, Tryz.ntmps99
  go_wp2_with fail
  refine hall.mono ?_
  rintro e w1 ⟨rfl, l1⟩
  go_wp2_with fail
  go_ret
  exact ⟨rfl, l1⟩
 ·rw [decide_eq_false hn, Bool.false_and]
  obtain ⟨a, cap, rfl, _, _, _⟩ := hx.open
  have hb : ((xs.length : Int) == n) = false := by simp [hn]
  clear hp hc hn
  go_enter Tryz.func99, Tryz.ntmps99
  go_wp2_with fail
  go_ret
  exact ⟨rfl, Le.refl _⟩
set_option maxHeartbeats 1000000 in
theorem allEv (f : Nat) (c : Value) (p : Ev → Bool) (hc : ∀ (u : Value) (w : World), (callFunc f #[c, u]).run Tryz.prog w = .ok (.enter f #[c, u]) w) (v : Value) (xs : List Ev) (w : World)
   (hp : ∀ w', Le w w' → ∀ (u : Value) (x : Ev), x ∈ xs → IsEv w' u x → Calls Tryz.prog f #[c, u] w' fun e w'' => e = .returned (.bool (p x)) ∧ Le w' w'') (hx : HasE evK w v xs) (hm : xs.length ≤ 9223372036854775807) :
   Calls Tryz.prog 138 #[v, .func (.func f) #[c] #[]] w fun e w' => e = .returned (.bool (xs.all p)) ∧ Le w w' := by
 obtain ⟨a, cap, rfl, hc', _, hx⟩ := hx.openEv
 by_cases h0 : 0 < xs.length
 ·obtain ⟨b, off, rfl, hcell⟩ := hx h0
  clear hx
  obtain ⟨L, hL⟩ : ∃ L, L = xs.length := ⟨_, rfl⟩
  have HL : Hid (L = xs.length) := hL
  rw [← hL] at hm h0 hc' hcell ⊢
  clear hL
  go_enter Tryz.func138, Tryz.ntmps138
  go_wp2
  go_loopw [9] (fun i wr => ∃ k : Nat, k ≤ L ∧ i = .int .i64 k ∧ Hid ((xs.take k).all p = true) ∧ Le w wr) (fun i _ => L - (intOf i).toNat)
  case atStart => exact ⟨0, by omega, rfl, rfl, Le.refl _⟩
  case round =>
    obtain ⟨k, hk, rfl, HA, hle⟩ := hrel
    by_cases hlt : k < L
    ·have rA := hcell k hlt
     obtain ⟨s, hs⟩ : ∃ s, s = xs.getD k Ev.zero := ⟨_, rfl⟩
     have HS : Hid (s = xs.getD k Ev.zero) := hs
     have hmem : s ∈ xs := by rw [hs]; exact getD_mem (by have := HL.out; omega)
     rw [← hs] at rA
     obtain ⟨x0, x1, x2, x3, x4, x5⟩ := rA.le hle
     have hlt' : (k : Int) < (L : Int) := by omega
     clear hs hcell
     have hm2 := fun o => hp (wr.alloc o) (hle.trans (Le.alloc _ _)) (evV s) s hmem (rfl)
     clear hp hmem
     cases hh : p s
     ·simp only [hh] at hm2
      go_wp2_with fail
      refine (hm2 _).mono ?_
      rintro e w1 ⟨rfl, l1⟩
      go_wp2
      go_ret
      exact ⟨ret_bool (allE_no (k := k) (d := Ev.zero) (by have := HL.out; omega) (by rw [← HS.out]; exact hh)).symm, (hle.trans (Le.alloc _ _)).trans l1⟩
     ·simp only [hh] at hm2
      go_wp2_with fail
      refine (hm2 _).mono ?_
      rintro e w1 ⟨rfl, l1⟩
      go_wp2
      go_roundw
      case rel => exact ⟨k + 1, by omega, by go_num, allE_take (d := Ev.zero) (by have := HL.out; omega) HA.out (by rw [← HS.out]; exact hh), (hle.trans (Le.alloc _ _)).trans l1⟩
      case measure => simp [intOf]; omega
    ·obtain rfl : k = L := by omega
     go_wp2
     go_ret
     exact ⟨ret_bool (by have := HA.out; rw [HL.out, List.take_length] at this; exact this.symm), hle⟩
 ·have hxn : xs = [] := by cases xs with | nil => rfl | cons _ _ => simp at h0
  subst hxn
  go_enter Tryz.func138, Tryz.ntmps138
  go_wp2
  refine wp_loop_rounds 1 ?_
  rw [rounds_succ]
  go_wp2
  go_ret
  exact ⟨rfl, Le.refl _⟩
theorem atMostEv (f : Nat) (c : Value) (p : Ev → Bool) (hc : ∀ (u : Value) (w : World), (callFunc f #[c, u]).run Tryz.prog w = .ok (.enter f #[c, u]) w) (v : Value) (xs : List Ev) (n : Int) (w : World)
   (hp : ∀ w', Le w w' → ∀ (u : Value) (x : Ev), x ∈ xs → (xs.length : Int) ≤ n → IsEv w' u x → Calls Tryz.prog f #[c, u] w' fun e w'' => e = .returned (.bool (p x)) ∧ Le w' w'') (hx : HasE evK w v xs) (hm : xs.length ≤ 9223372036854775807) :
   Calls Tryz.prog 101 #[v, .int .i64 n, .func (.func f) #[c] #[]] w fun e w' => e = .returned (.bool (decide ((xs.length : Int) ≤ n) && xs.all p)) ∧ Le w w' := by
 by_cases hn : (xs.length : Int) ≤ n
 ·have hall := allEv f c p hc v xs w (fun w' l u x hm h => hp w' l u x hm hn h) hx hm
  rw [decide_eq_true hn, Bool.true_and]
  generalize xs.all p = y at hall
  obtain ⟨a, cap, rfl, _, _, _⟩ := hx.openEv
  clear hp hc
  go_enter Tryz.func101, Tryz.ntmps101
  go_wp2_with fail
  refine hall.mono ?_
  rintro e w1 ⟨rfl, l1⟩
  go_wp2_with fail
  go_ret
  exact ⟨rfl, l1⟩
 ·rw [decide_eq_false hn, Bool.false_and]
  obtain ⟨a, cap, rfl, _, _, _⟩ := hx.openEv
  have hb : n < (xs.length : Int) := by omega
  clear hp hc hn
  go_enter Tryz.func101, Tryz.ntmps101
  go_wp2_with fail
  go_ret
  exact ⟨rfl, Le.refl _⟩
set_option maxHeartbeats 1000000 in
theorem allNum (f : Nat) (c : Value) (p : Int → Bool) (hc : ∀ (u : Value) (w : World), (callFunc f #[c, u]).run Tryz.prog w = .ok (.enter f #[c, u]) w) (v : Value) (xs : List Int) (w : World)
   (hp : ∀ w', Le w w' → ∀ (u : Value) (x : Int), x ∈ xs → IsInt w' u x → Calls Tryz.prog f #[c, u] w' fun e w'' => e = .returned (.bool (p x)) ∧ Le w' w'') (hx : Has w v xs) (hm : xs.length ≤ 9223372036854775807) :
   Calls Tryz.prog 146 #[v, .func (.func f) #[c] #[]] w fun e w' => e = .returned (.bool (xs.all p)) ∧ Le w w' := by
 obtain ⟨a, cap, rfl, hc', _, hx⟩ := hx.open
 by_cases h0 : 0 < xs.length
 ·obtain ⟨b, off, rfl, hcell⟩ := hx h0
  clear hx
  obtain ⟨L, hL⟩ : ∃ L, L = xs.length := ⟨_, rfl⟩
  have HL : Hid (L = xs.length) := hL
  rw [← hL] at hm h0 hc' hcell ⊢
  clear hL
  go_enter Tryz.func146, Tryz.ntmps146
  go_wp2
  go_loopw [9] (fun i wr => ∃ k : Nat, k ≤ L ∧ i = .int .i64 k ∧ Hid ((xs.take k).all p = true) ∧ Le w wr) (fun i _ => L - (intOf i).toNat)
  case atStart => exact ⟨0, by omega, rfl, rfl, Le.refl _⟩
  case round =>
    obtain ⟨k, hk, rfl, HA, hle⟩ := hrel
    by_cases hlt : k < L
    ·have rA := hcell k hlt
     obtain ⟨s, hs⟩ : ∃ s, s = xs.getD k 0 := ⟨_, rfl⟩
     have HS : Hid (s = xs.getD k 0) := hs
     have hmem : s ∈ xs := by rw [hs]; exact getD_mem (by have := HL.out; omega)
     rw [← hs] at rA
     have x0 := cell_le rA hle
     have hlt' : (k : Int) < (L : Int) := by omega
     clear hs hcell
     have hm2 := hp _ hle (.int .i64 s) s hmem (rfl)
     clear hp hmem
     cases hh : p s
     ·rw [hh] at hm2
      go_wp2_with fail
      refine hm2.mono ?_
      rintro e w1 ⟨rfl, l1⟩
      go_wp2
      go_ret
      exact ⟨ret_bool (allE_no (k := k) (d := 0) (by have := HL.out; omega) (by rw [← HS.out]; exact hh)).symm, hle.trans l1⟩
     ·rw [hh] at hm2
      go_wp2_with fail
      refine hm2.mono ?_
      rintro e w1 ⟨rfl, l1⟩
      go_wp2
      go_roundw
      case rel => exact ⟨k + 1, by omega, by go_num, allE_take (d := 0) (by have := HL.out; omega) HA.out (by rw [← HS.out]; exact hh), hle.trans l1⟩
      case measure => simp [intOf]; omega
    ·obtain rfl : k = L := by omega
     go_wp2
     go_ret
     exact ⟨ret_bool (by have := HA.out; rw [HL.out, List.take_length] at this; exact this.symm), hle⟩
 ·have hxn : xs = [] := by cases xs with | nil => rfl | cons _ _ => simp at h0
  subst hxn
  go_enter Tryz.func146, Tryz.ntmps146
  go_wp2
  refine wp_loop_rounds 1 ?_
  rw [rounds_succ]
  go_wp2
  go_ret
  exact ⟨rfl, Le.refl _⟩
theorem exactlyNum (f : Nat) (c : Value) (p : Int → Bool) (hc : ∀ (u : Value) (w : World), (callFunc f #[c, u]).run Tryz.prog w = .ok (.enter f #[c, u]) w) (v : Value) (xs : List Int) (n : Int) (w : World)
   (hp : ∀ w', Le w w' → ∀ (u : Value) (x : Int), x ∈ xs → (xs.length : Int) = n → IsInt w' u x → Calls Tryz.prog f #[c, u] w' fun e w'' => e = .returned (.bool (p x)) ∧ Le w' w'') (hx : Has w v xs) (hm : xs.length ≤ 9223372036854775807) :
   Calls Tryz.prog 131 #[v, .int .i64 n, .func (.func f) #[c] #[]] w fun e w' => e = .returned (.bool (decide ((xs.length : Int) = n) && xs.all p)) ∧ Le w w' := by
 by_cases hn : (xs.length : Int) = n
 ·have hall := allNum f c p hc v xs w (fun w' l u x hm h => hp w' l u x hm hn h) hx hm
  rw [decide_eq_true hn, Bool.true_and]
  generalize xs.all p = y at hall
  obtain ⟨a, cap, rfl, _, _, _⟩ := hx.open
  have hb : ((xs.length : Int) == n) = true := by simp [hn]
  clear hp hc hn
  go_enter Tryz.func131, Tryz.ntmps131
  go_wp2_with fail
  refine hall.mono ?_
  rintro e w1 ⟨rfl, l1⟩
  go_wp2_with fail
  go_ret
  exact ⟨rfl, l1⟩
 ·rw [decide_eq_false hn, Bool.false_and]
  obtain ⟨a, cap, rfl, _, _, _⟩ := hx.open
  have hb : ((xs.length : Int) == n) = false := by simp [hn]
  clear hp hc hn
  go_enter Tryz.func131, Tryz.ntmps131
  go_wp2_with fail
  go_ret
  exact ⟨rfl, Le.refl _⟩
theorem atMostNum (f : Nat) (c : Value) (p : Int → Bool) (hc : ∀ (u : Value) (w : World), (callFunc f #[c, u]).run Tryz.prog w = .ok (.enter f #[c, u]) w) (v : Value) (xs : List Int) (n : Int) (w : World)
   (hp : ∀ w', Le w w' → ∀ (u : Value) (x : Int), x ∈ xs → (xs.length : Int) ≤ n → IsInt w' u x → Calls Tryz.prog f #[c, u] w' fun e w'' => e = .returned (.bool (p x)) ∧ Le w' w'') (hx : Has w v xs) (hm : xs.length ≤ 9223372036854775807) :
   Calls Tryz.prog 136 #[v, .int .i64 n, .func (.func f) #[c] #[]] w fun e w' => e = .returned (.bool (decide ((xs.length : Int) ≤ n) && xs.all p)) ∧ Le w w' := by
 by_cases hn : (xs.length : Int) ≤ n
 ·have hall := allNum f c p hc v xs w (fun w' l u x hm h => hp w' l u x hm hn h) hx hm
  rw [decide_eq_true hn, Bool.true_and]
  generalize xs.all p = y at hall
  obtain ⟨a, cap, rfl, _, _, _⟩ := hx.open
  clear hp hc
  go_enter Tryz.func136, Tryz.ntmps136
  go_wp2_with fail
  refine hall.mono ?_
  rintro e w1 ⟨rfl, l1⟩
  go_wp2_with fail
  go_ret
  exact ⟨rfl, l1⟩
 ·rw [decide_eq_false hn, Bool.false_and]
  obtain ⟨a, cap, rfl, _, _, _⟩ := hx.open
  have hb : n < (xs.length : Int) := by omega
  clear hp hc hn
  go_enter Tryz.func136, Tryz.ntmps136
  go_wp2_with fail
  go_ret
  exact ⟨rfl, Le.refl _⟩
set_option maxHeartbeats 1000000 in
theorem allNum0 (f : Nat) (p : Int → Bool) (hc : ∀ (u : Value) (w : World), (callFunc f #[u]).run Tryz.prog w = .ok (.enter f #[u]) w) (v : Value) (xs : List Int) (w : World)
   (hp : ∀ w', Le w w' → ∀ (u : Value) (x : Int), x ∈ xs → IsInt w' u x → Calls Tryz.prog f #[u] w' fun e w'' => e = .returned (.bool (p x)) ∧ Le w' w'') (hx : Has w v xs) (hm : xs.length ≤ 9223372036854775807) :
   Calls Tryz.prog 146 #[v, .func (.func f) #[] #[]] w fun e w' => e = .returned (.bool (xs.all p)) ∧ Le w w' := by
 obtain ⟨a, cap, rfl, hc', _, hx⟩ := hx.open
 by_cases h0 : 0 < xs.length
 ·obtain ⟨b, off, rfl, hcell⟩ := hx h0
  clear hx
  obtain ⟨L, hL⟩ : ∃ L, L = xs.length := ⟨_, rfl⟩
  have HL : Hid (L = xs.length) := hL
  rw [← hL] at hm h0 hc' hcell ⊢
  clear hL
  go_enter Tryz.func146, Tryz.ntmps146
  go_wp2
  go_loopw [9] (fun i wr => ∃ k : Nat, k ≤ L ∧ i = .int .i64 k ∧ Hid ((xs.take k).all p = true) ∧ Le w wr) (fun i _ => L - (intOf i).toNat)
  case atStart => exact ⟨0, by omega, rfl, rfl, Le.refl _⟩
  case round =>
    obtain ⟨k, hk, rfl, HA, hle⟩ := hrel
    by_cases hlt : k < L
    ·have rA := hcell k hlt
     obtain ⟨s, hs⟩ : ∃ s, s = xs.getD k 0 := ⟨_, rfl⟩
     have HS : Hid (s = xs.getD k 0) := hs
     have hmem : s ∈ xs := by rw [hs]; exact getD_mem (by have := HL.out; omega)
     rw [← hs] at rA
     have x0 := cell_le rA hle
     have hlt' : (k : Int) < (L : Int) := by omega
     clear hs hcell
     have hm2 := hp _ hle (.int .i64 s) s hmem (rfl)
     clear hp hmem
     cases hh : p s
     ·rw [hh] at hm2
      go_wp2_with fail
      refine hm2.mono ?_
      rintro e w1 ⟨rfl, l1⟩
      go_wp2
      go_ret
      exact ⟨ret_bool (allE_no (k := k) (d := 0) (by have := HL.out; omega) (by rw [← HS.out]; exact hh)).symm, hle.trans l1⟩
     ·rw [hh] at hm2
      go_wp2_with fail
      refine hm2.mono ?_
      rintro e w1 ⟨rfl, l1⟩
      go_wp2
      go_roundw
      case rel => exact ⟨k + 1, by omega, by go_num, allE_take (d := 0) (by have := HL.out; omega) HA.out (by rw [← HS.out]; exact hh), hle.trans l1⟩
      case measure => simp [intOf]; omega
    ·obtain rfl : k = L := by omega
     go_wp2
     go_ret
     exact ⟨ret_bool (by have := HA.out; rw [HL.out, List.take_length] at this; exact this.symm), hle⟩
 ·have hxn : xs = [] := by cases xs with | nil => rfl | cons _ _ => simp at h0
  subst hxn
  go_enter Tryz.func146, Tryz.ntmps146
  go_wp2
  refine wp_loop_rounds 1 ?_
  rw [rounds_succ]
  go_wp2
  go_ret
  exact ⟨rfl, Le.refl _⟩
theorem atMostNum0 (f : Nat) (p : Int → Bool) (hc : ∀ (u : Value) (w : World), (callFunc f #[u]).run Tryz.prog w = .ok (.enter f #[u]) w) (v : Value) (xs : List Int) (n : Int) (w : World)
   (hp : ∀ w', Le w w' → ∀ (u : Value) (x : Int), x ∈ xs → (xs.length : Int) ≤ n → IsInt w' u x → Calls Tryz.prog f #[u] w' fun e w'' => e = .returned (.bool (p x)) ∧ Le w' w'') (hx : Has w v xs) (hm : xs.length ≤ 9223372036854775807) :
   Calls Tryz.prog 136 #[v, .int .i64 n, .func (.func f) #[] #[]] w fun e w' => e = .returned (.bool (decide ((xs.length : Int) ≤ n) && xs.all p)) ∧ Le w w' := by
 by_cases hn : (xs.length : Int) ≤ n
 ·have hall := allNum0 f p hc v xs w (fun w' l u x hm h => hp w' l u x hm hn h) hx hm
  rw [decide_eq_true hn, Bool.true_and]
  generalize xs.all p = y at hall
  obtain ⟨a, cap, rfl, _, _, _⟩ := hx.open
  clear hp hc
  go_enter Tryz.func136, Tryz.ntmps136
  go_wp2_with fail
  refine hall.mono ?_
  rintro e w1 ⟨rfl, l1⟩
  go_wp2_with fail
  go_ret
  exact ⟨rfl, l1⟩
 ·rw [decide_eq_false hn, Bool.false_and]
  obtain ⟨a, cap, rfl, _, _, _⟩ := hx.open
  have hb : n < (xs.length : Int) := by omega
  clear hp hc hn
  go_enter Tryz.func136, Tryz.ntmps136
  go_wp2_with fail
  go_ret
  exact ⟨rfl, Le.refl _⟩
theorem Has.len {w : World} {q : Sl} {xs : List Int} (h : Has w (slV q) xs) : q.2.1 = xs.length := by
 obtain ⟨a, cap, hv, _⟩ := h
 simp only [slV, Value.slice.injEq] at hv
 exact hv.2.1
abbrev cellsK (c : Cfg) (q : Sl) : Array Value := #[.int .i64 c.o, .int .i64 c.r, .int .i64 c.l, .int .i64 c.t, .int .i64 c.s, slV q]
abbrev lookV (c : Cfg) (q : Sl) : Value := .agg (cellsK c q)
theorem Box.look {w : World} {g : Nat} {c : Cfg} {q : Sl} {t : TypeId} (h : Box w g (cellsK c q) t) :
   w.cell? ⟨g, 0, none⟩ = some (.int .i64 c.o) ∧ w.cell? ⟨g, 1, none⟩ = some (.int .i64 c.r) ∧ w.cell? ⟨g, 2, none⟩ = some (.int .i64 c.l) ∧ w.cell? ⟨g, 3, none⟩ = some (.int .i64 c.t) ∧ w.cell? ⟨g, 4, none⟩ = some (.int .i64 c.s) ∧ w.cell? ⟨g, 5, none⟩ = some (slV q) :=
 ⟨h.cell 0, h.cell 1, h.cell 2, h.cell 3, h.cell 4, h.cell 5⟩
theorem startWithin (x a b : Int) (w : World) : Calls Tryz.prog 133 #[.int .i64 x, .int .i64 a, .int .i64 b] w fun e w' => e = .returned (.bool (inB a x b)) ∧ w = w' := by
 by_cases h : a ≤ x
 all_goals
   go_enter Tryz.func133, Tryz.ntmps133
   go_wp2
   go_ret
   exact ⟨ret_bool (by simp [inB, h]; try omega), rfl⟩
theorem startMayPlace (x : Int) (w : World) : Calls Tryz.prog 135 #[.int .i64 x] w fun e w' => e = .returned (.bool (inB 0 x 1048576)) ∧ w = w' := by
 go_enter Tryz.func135, Tryz.ntmps135
 go_wp2_with fail
 refine (startWithin _ _ _ _).mono ?_
 rintro e _ ⟨rfl, rfl⟩
 go_wp2_with fail
 go_ret
 exact ⟨rfl, rfl⟩
theorem lookIsThread (c : Cfg) (q : Sl) (x : Int) (w : World) (hc : c.ok = true) : Calls Tryz.prog 137 #[lookV c q, .int .i64 x] w fun e w' => e = .returned (.bool (inB 0 x (c.t - 1))) ∧ Le w w' := by
 obtain ⟨_, _, _, ⟨t0, t1⟩, _, _⟩ := Cfg.ok_cases hc
 have hl := Le.alloc w (.cells (cellsK c q) 134)
 have hs := fun w' => startWithin x 0 (c.t - 1) w'
 go_enter Tryz.func137, Tryz.ntmps137
 go_wp2_with fail
 refine (hs _).mono ?_
 rintro e _ ⟨rfl, rfl⟩
 go_wp2_with fail
 go_ret
 exact ⟨rfl, hl⟩
theorem lookMayHolder (c : Cfg) (q : Sl) (x : Int) (w : World) : Calls Tryz.prog 126 #[lookV c q, .int .i64 x] w fun e w' => e = .returned (.bool (inB 0 x c.t)) ∧ Le w w' := by
 have hl := Le.alloc w (.cells (cellsK c q) 134)
 go_enter Tryz.func126, Tryz.ntmps126
 go_wp2_with fail
 refine (startWithin _ _ _ _).mono ?_
 rintro e _ ⟨rfl, rfl⟩
 go_wp2_with fail
 go_ret
 exact ⟨rfl, hl⟩
theorem lookMaySlot (c : Cfg) (q : Sl) (s : Slt) (w : World) (hc : c.ok = true) : Calls Tryz.prog 127 #[lookV c q, s.v] w fun e w' => e = .returned (.bool (inB 0 s.t (c.t - 1))) ∧ Le w w' := by
 have hl := (Le.alloc w (.cells (cellsK c q) 134)).trans (Le.alloc _ (.cells #[.int .i64 s.c, .int .i64 s.r, .int .i64 s.a, .int .i64 s.t, .int .i64 s.b] 50))
 have hs := fun w' => lookIsThread c q s.t w' hc
 go_enter Tryz.func127, Tryz.ntmps127
 go_wp2_with fail
 refine (hs _).mono ?_
 rintro e w1 ⟨rfl, l1⟩
 go_wp2_with fail
 go_ret
 exact ⟨rfl, hl.trans l1⟩
set_option maxHeartbeats 400000 in
theorem lookMayEvent (c : Cfg) (q : Sl) (E : Ev) (w : World) (hc : c.ok = true) : Calls Tryz.prog 102 #[lookV c q, evV E] w fun e w' => e = .returned (.bool (evB c E)) ∧ Le w w' := by
 have hl := (Le.alloc w (.cells (cellsK c q) 134)).trans (Le.alloc _ (.cells #[.int .i64 E.t, .bool E.ca, .int .i64 E.c, .int .i64 E.r, .int .i64 E.a, .int .i64 E.an] 102))
 have hb := Box.new (w.alloc (.cells (cellsK c q) 134)) #[.int .i64 E.t, .bool E.ca, .int .i64 E.c, .int .i64 E.r, .int .i64 E.a, .int .i64 E.an] 102
 rw [World.size_alloc] at hb
 have hs := fun w' => lookIsThread c q E.t w' hc
 have ho := fun w' => operMay E.c E.r E.a w'
 simp only [evB]
 cases h1 : inB 0 E.t (c.t - 1)
 ·simp only [h1] at hs
  go_enter Tryz.func102, Tryz.ntmps102
  go_wp2_with fail
  refine (hs _).mono ?_
  rintro e w1 ⟨rfl, l1⟩
  go_wp2_with fail
  go_ret
  exact ⟨rfl, hl.trans l1⟩
 ·simp only [h1] at hs
  go_enter Tryz.func102, Tryz.ntmps102
  go_wp2_with fail
  refine (hs _).mono ?_
  rintro e w1 ⟨rfl, l1⟩
  replace hb := hb.le l1
  have y2 := hb.cell 2
  have y3 := hb.cell 3
  have y4 := hb.cell 4
  simp only [List.getElem?_toArray, List.getElem?_cons_succ, List.getElem?_cons_zero] at y2 y3 y4
  go_wp2_with fail
  refine (ho _).mono ?_
  rintro e w2 ⟨rfl, l2⟩
  go_wp2_with fail
  go_ret
  exact ⟨rfl, (hl.trans l1).trans l2⟩
set_option maxHeartbeats 1000000 in
theorem lookMayCursors (c : Cfg) (q : Sl) (v : Value) (Rs : List Rg) (cs : List Int) (w : World) (hR : HasRs w (slV q) Rs) (hx : Has w v cs) (hn : cs.length = Rs.length) (hm : Rs.length * 48 ≤ 140737488351232) :
   Calls Tryz.prog 130 #[lookV c q, v] w fun e w' => e = .returned (.bool (cursOK Rs cs)) ∧ Le w w' := by
 obtain ⟨qa, qn, qc⟩ := q
 obtain ⟨a, cap, rfl, hc, _, hx⟩ := hx.open
 obtain ⟨a', cap', hv, hc', _, hRo⟩ := hR.open
 clear hR
 simp only [slV, Value.slice.injEq] at hv
 obtain ⟨rfl, rfl, rfl⟩ := hv
 rw [← hn] at hRo hc' hm ⊢
 have HN : Hid (cs.length = Rs.length) := hn
 clear hn
 by_cases h0 : 0 < cs.length
 ·obtain ⟨b, off, rfl, hcell⟩ := hx h0
  obtain ⟨b', off', rfl, hring⟩ := hRo h0
  clear hx hRo
  obtain ⟨L, hL⟩ : ∃ L, L = cs.length := ⟨_, rfl⟩
  have HL : Hid (L = cs.length) := hL
  rw [← hL] at h0 hc hc' hm hcell hring ⊢
  clear hL
  have hb := Box.new w (cellsK c (some ⟨b', off', none⟩, L, qc)) 134
  have hl := Le.alloc w (.cells (cellsK c (some ⟨b', off', none⟩, L, qc)) 134)
  have z5 := hb.look.2.2.2.2.2
  simp only [slV] at z5
  go_enter Tryz.func130, Tryz.ntmps130
  go_wp2
  generalize hW : w.alloc (.cells (cellsK c (some ⟨b', off', none⟩, L, qc)) 134) = W at hb hl z5 ⊢
  clear hW hb
  go_loopw [10] (fun i wr => ∃ k : Nat, k ≤ L ∧ i = .int .i64 k ∧ Hid (∀ i, i < k → inB (Rs.getD i Rg.zero).h (cs.getD i 0) (Rs.getD i Rg.zero).t = true) ∧ Le W wr) (fun i _ => L - (intOf i).toNat)
  case atStart => exact ⟨0, by omega, rfl, (fun i hi => by omega), Le.refl _⟩
  case round =>
    obtain ⟨k, hk, rfl, HA, hle⟩ := hrel
    by_cases hlt : k < L
    ·obtain ⟨x, hxk⟩ : ∃ x, x = cs.getD k 0 := ⟨_, rfl⟩
     obtain ⟨R, hRk⟩ : ∃ R, R = Rs.getD k Rg.zero := ⟨_, rfl⟩
     have c0 := cell_le (cell_le (hcell k hlt) hl) hle
     obtain ⟨u, rA, _⟩ := hring k hlt
     rw [← hxk] at c0
     rw [← hRk] at rA
     have HX : Hid (x = cs.getD k 0) := hxk
     have HR : Hid (R = Rs.getD k Rg.zero) := hRk
     obtain ⟨x0, x1, x2, x3⟩ := (rA.le hl).le hle
     replace z5 := cell_le z5 hle
     have hlt' : (k : Int) < (L : Int) := by omega
     have hs := fun w' => startWithin x R.h R.t w'
     clear hxk hRk hcell hring rA
     cases hh : inB R.h x R.t
     ·simp only [hh] at hs
      go_wp2_with fail
      refine (hs _).mono ?_
      rintro e _ ⟨rfl, rfl⟩
      go_wp2_with fail
      go_ret
      exact ⟨ret_bool (cursOK_no (k := k) (by have := HL.out; omega) (by rw [← HX.out, ← HR.out]; exact hh)).symm, (hl.trans hle).trans (Le.alloc _ _)⟩
     ·simp only [hh] at hs
      go_wp2_with fail
      refine (hs _).mono ?_
      rintro e _ ⟨rfl, rfl⟩
      go_wp2_with fail
      go_roundw
      case rel =>
        refine ⟨k + 1, by omega, by go_num, fun i hi => ?_, hle.trans (Le.alloc _ _)⟩
        rcases Nat.lt_or_ge i k with h | h
        ·exact HA.out i h
        ·obtain rfl : i = k := by omega
         rw [← HX.out, ← HR.out]; exact hh
      case measure => simp [intOf]; omega
    ·obtain rfl : k = L := by omega
     go_wp2_with fail
     go_ret
     exact ⟨ret_bool (cursOK_take HA.out HL.out).symm, hl.trans hle⟩
 ·have hxn : cs = [] := by cases cs with | nil => rfl | cons _ _ => simp at h0
  subst hxn
  go_enter Tryz.func130, Tryz.ntmps130
  go_wp2
  refine wp_loop_rounds 1 ?_
  rw [rounds_succ]
  go_wp2
  go_ret
  exact ⟨rfl, Le.alloc _ _⟩
set_option maxHeartbeats 2000000 in
theorem lookMayRing (c : Cfg) (q : Sl) (v : Value) (R : Rg) (w : World) (hc : c.ok = true) (hx : HasR w v R) (hf : FitR R) :
   Calls Tryz.prog 96 #[lookV c q, v] w fun e w' => e = .returned (.bool (ringB c R)) ∧ Le w w' := by
 obtain ⟨u, rfl, hu⟩ := hx
 have hb := Box.new (w.alloc (.cells (cellsK c q) 134)) (cellsR R.h R.t R.f u) 55
 have hk := (Box.new w (cellsK c q) 134).le (Le.alloc _ (.cells (cellsR R.h R.t R.f u) 55))
 rw [World.size_alloc] at hb
 have hl := (Le.alloc w (.cells (cellsK c q) 134)).trans (Le.alloc _ (.cells (cellsR R.h R.t R.f u) 55))
 have m1 := ringMay (ringV R.h R.t R.f u) R _ ⟨u, rfl, hu.le hl⟩ hf
 have hlen := hu.len
 unfold FitR at hf
 have hss := fun w' (l : Le w w') => allSlot 127 (lookV c q) (fun s => inB 0 s.t (c.t - 1)) (fun _ _ => by kernel_rfl) (slV u) R.ss w' (fun w'' _ v s _ h => by rw [show v = s.v from h]; exact lookMaySlot c q s w'' hc) (hu.le l) (by omega)
 have m3 := fun w' => lookMayHolder c q R.f w'
 simp only [ringB]
 obtain ⟨ua, n, ucap⟩ := u
 simp only at hlen
 rw [← hlen]
 clear hlen hf hu
 cases h1 : mayR R
 ·rw [h1] at m1
  go_enter Tryz.func96, Tryz.ntmps96
  go_wp2_with fail
  refine m1.mono ?_
  rintro e w1 ⟨rfl, l1⟩
  go_wp2_with fail
  go_ret
  exact ⟨rfl, hl.trans l1⟩
 rw [h1] at m1
 by_cases h2 : (n : Int) = c.s
 case neg =>
   have h2b : ((n : Int) == c.s) = false := by simp [h2]
   rw [decide_eq_false h2]
   clear h2
   go_enter Tryz.func96, Tryz.ntmps96
   go_wp2_with fail
   refine m1.mono ?_
   rintro e w1 ⟨rfl, l1⟩
   obtain ⟨b0, b1, b2, b3, _, _, _, _⟩ := (hb.le l1).ring
   obtain ⟨k0, k1, k2, k3, k4, k5⟩ := (hk.le l1).look
   simp only [slV] at b3
   go_wp2_with fail
   go_ret
   exact ⟨rfl, hl.trans l1⟩
 have h2b : ((n : Int) == c.s) = true := by simp [h2]
 rw [decide_eq_true h2]
 clear h2
 cases h3 : inB 0 R.f c.t
 ·simp only [h3] at m3
  go_enter Tryz.func96, Tryz.ntmps96
  go_wp2_with fail
  refine m1.mono ?_
  rintro e w1 ⟨rfl, l1⟩
  obtain ⟨b0, b1, b2, b3, _, _, _, _⟩ := (hb.le l1).ring
  obtain ⟨k0, k1, k2, k3, k4, k5⟩ := (hk.le l1).look
  simp only [slV] at b3
  go_wp2_with fail
  refine (m3 _).mono ?_
  rintro e w2 ⟨rfl, l2⟩
  go_wp2_with fail
  go_ret
  exact ⟨rfl, (hl.trans l1).trans l2⟩
 ·simp only [h3] at m3
  go_enter Tryz.func96, Tryz.ntmps96
  go_wp2_with fail
  refine m1.mono ?_
  rintro e w1 ⟨rfl, l1⟩
  obtain ⟨b0, b1, b2, b3, _, _, _, _⟩ := (hb.le l1).ring
  obtain ⟨k0, k1, k2, k3, k4, k5⟩ := (hk.le l1).look
  simp only [slV] at b3
  go_wp2_with fail
  refine (m3 _).mono ?_
  rintro e w2 ⟨rfl, l2⟩
  obtain ⟨_, _, _, b3', _, _, _, _⟩ := ((hb.le l1).le l2).ring
  obtain ⟨k0', k1', k2', k3', k4', k5'⟩ := ((hk.le l1).le l2).look
  go_wp2_with fail
  refine (hss _ ((hl.trans l1).trans l2)).mono ?_
  rintro e w3 ⟨rfl, l3⟩
  go_wp2_with fail
  go_ret
  exact ⟨rfl, ((hl.trans l1).trans l2).trans l3⟩
theorem Box.all4 {w : World} {g : Nat} {vs us : Nat → Sl} {t : TypeId} (hb : Box w g (cells4 vs) t) :
   Box ((((w.setCell ⟨g, 0, none⟩ (slV (us 0))).setCell ⟨g, 1, none⟩ (slV (us 1))).setCell ⟨g, 2, none⟩ (slV (us 2))).setCell ⟨g, 3, none⟩ (slV (us 3))) g (cells4 us) t :=
 (((hb.set 0 _).set 1 _).set 2 _).set 3 _
theorem Box.other4 {w : World} {g g' : Nat} {cs : Array Value} {t : TypeId} (hb : Box w g cs t) (hne : g ≠ g') (x0 x1 x2 x3 : Value) :
   Box ((((w.setCell ⟨g', 0, none⟩ x0).setCell ⟨g', 1, none⟩ x1).setCell ⟨g', 2, none⟩ x2).setCell ⟨g', 3, none⟩ x3) g cs t :=
 (((hb.other hne 0 _).other hne 1 _).other hne 2 _).other hne 3 _
abbrev cells7 (vs : Nat → Sl) (c r a : Int) : Array Value := #[slV (vs 0), slV (vs 1), slV (vs 2), slV (vs 3), .int .i64 c, .int .i64 r, .int .i64 a]
abbrev threeV : Array Value := #[.func (.func 114) #[] #[], .func (.func 115) #[] #[], .func (.func 116) #[] #[]]
set_option maxHeartbeats 400000 in
theorem objThree (w : World) : Calls Tryz.prog 73 #[] w fun e w' => e = .returned (.slice (some ⟨w.heap.size, 0, none⟩) 3 3) ∧ w.alloc (.cells threeV 118) = w' := by
 go_enter Tryz.func73, Tryz.ntmps73
 go_wp2
 go_ret
 exact ⟨rfl, rfl⟩
set_option maxHeartbeats 1000000 in
theorem ofStore (vs : Nat → Sl) (s : St) (c r a : Int) (w : World) (hx : HasS w (stV vs) s) (hf : Fit s) :
   Calls Tryz.prog 114 #[.agg (cells7 vs c r a)] w fun e w' => ∃ v', e = .returned (.tuple #[v', .int .i64 (stoS s c r a 300).2.1, .int .i64 (stoS s c r a 300).2.2]) ∧ OwnS w' w.heap.size v' (stoS s c r a 300).1 ∧ Le w w' := by
 have hl := (Le.alloc w (.cells (cells7 vs c r a) 120)).trans (Le.alloc _ (.cells (cells4 fun _ => slZ) 44))
 have hb1 := (Box.new w (cells7 vs c r a) 120).le (Le.alloc _ (.cells (cells4 fun _ => slZ) 44))
 have hb2 := Box.new (w.alloc (.cells (cells7 vs c r a) 120)) (cells4 fun _ => slZ) 44
 simp only [World.size_alloc] at hb2
 have hap := storeApply (stV vs) s c r a _ (hx.le hl) hf
 generalize stoS s c r a 300 = S1 at hap ⊢
 go_enter Tryz.func114, Tryz.ntmps114
 go_wp2_with fail
 refine hap.mono ?_
 rintro e w1 ⟨_, rfl, ⟨q, rfl, o1⟩, l1⟩
 replace o1 := fun i hi => (o1 i hi).base (base' := w.heap.size) hl.size
 obtain ⟨z0, z1, z2, z3, f0, f1, f2, f3⟩ := (hb2.le l1).st
 go_wp2_with fail
 refine bodyPost_ret (v := .tuple #[stV q, .int .i64 S1.2.1, .int .i64 S1.2.2]) (by simp [results, Tryz.results114, go_sem, z0, z1, z2, z3]) rfl ⟨_, rfl, ⟨q, rfl, fun i hi => ?_⟩, ?_⟩
 ·exact (o1 i hi).set4 (hb2.le l1) (by decide) _ _ _ _
 ·exact (hl.trans l1).set4 (by omega) _ _ _ _
set_option maxHeartbeats 1000000 in
theorem ofFds (vs : Nat → Sl) (s : St) (c r a : Int) (w : World) (hx : HasS w (stV vs) s) (hf : Fit s) :
   Calls Tryz.prog 115 #[.agg (cells7 vs c r a)] w fun e w' => ∃ v', e = .returned (.tuple #[v', .int .i64 (fdsS s c r a 400).2.1, .int .i64 (fdsS s c r a 400).2.2]) ∧ OwnS w' w.heap.size v' (fdsS s c r a 400).1 ∧ Le w w' := by
 have hl := (Le.alloc w (.cells (cells7 vs c r a) 120)).trans (Le.alloc _ (.cells (cells4 fun _ => slZ) 44))
 have hb1 := (Box.new w (cells7 vs c r a) 120).le (Le.alloc _ (.cells (cells4 fun _ => slZ) 44))
 have hb2 := Box.new (w.alloc (.cells (cells7 vs c r a) 120)) (cells4 fun _ => slZ) 44
 simp only [World.size_alloc] at hb2
 have hap := fdsApply (stV vs) s c r a _ (hx.le hl) hf
 generalize fdsS s c r a 400 = S1 at hap ⊢
 go_enter Tryz.func115, Tryz.ntmps115
 go_wp2_with fail
 refine hap.mono ?_
 rintro e w1 ⟨_, rfl, ⟨q, rfl, o1⟩, l1⟩
 replace o1 := fun i hi => (o1 i hi).base (base' := w.heap.size) hl.size
 obtain ⟨z0, z1, z2, z3, f0, f1, f2, f3⟩ := (hb2.le l1).st
 go_wp2_with fail
 refine bodyPost_ret (v := .tuple #[stV q, .int .i64 S1.2.1, .int .i64 S1.2.2]) (by simp [results, Tryz.results115, go_sem, z0, z1, z2, z3]) rfl ⟨_, rfl, ⟨q, rfl, fun i hi => ?_⟩, ?_⟩
 ·exact (o1 i hi).set4 (hb2.le l1) (by decide) _ _ _ _
 ·exact (hl.trans l1).set4 (by omega) _ _ _ _
set_option maxHeartbeats 1000000 in
theorem ofQueue (vs : Nat → Sl) (s : St) (c r a : Int) (w : World) (hx : HasS w (stV vs) s) (hf : Fit s) :
   Calls Tryz.prog 116 #[.agg (cells7 vs c r a)] w fun e w' => ∃ v', e = .returned (.tuple #[v', .int .i64 (queS s c r a 500).2.1, .int .i64 (queS s c r a 500).2.2]) ∧ OwnS w' w.heap.size v' (queS s c r a 500).1 ∧ Le w w' := by
 have hl := (Le.alloc w (.cells (cells7 vs c r a) 120)).trans (Le.alloc _ (.cells (cells4 fun _ => slZ) 44))
 have hb1 := (Box.new w (cells7 vs c r a) 120).le (Le.alloc _ (.cells (cells4 fun _ => slZ) 44))
 have hb2 := Box.new (w.alloc (.cells (cells7 vs c r a) 120)) (cells4 fun _ => slZ) 44
 simp only [World.size_alloc] at hb2
 have hap := queApply (stV vs) s c r a _ (hx.le hl) hf
 generalize queS s c r a 500 = S1 at hap ⊢
 go_enter Tryz.func116, Tryz.ntmps116
 go_wp2_with fail
 refine hap.mono ?_
 rintro e w1 ⟨_, rfl, ⟨q, rfl, o1⟩, l1⟩
 replace o1 := fun i hi => (o1 i hi).base (base' := w.heap.size) hl.size
 obtain ⟨z0, z1, z2, z3, f0, f1, f2, f3⟩ := (hb2.le l1).st
 go_wp2_with fail
 refine bodyPost_ret (v := .tuple #[stV q, .int .i64 S1.2.1, .int .i64 S1.2.2]) (by simp [results, Tryz.results116, go_sem, z0, z1, z2, z3]) rfl ⟨_, rfl, ⟨q, rfl, fun i hi => ?_⟩, ?_⟩
 ·exact (o1 i hi).set4 (hb2.le l1) (by decide) _ _ _ _
 ·exact (hl.trans l1).set4 (by omega) _ _ _ _
set_option maxHeartbeats 4000000 in
theorem objApply0 (v : Value) (s : St) (c r a : Int) (w : World) (hx : HasS w v s) (hf : Fit s) :
   Calls Tryz.prog 29 #[.int .i64 0, v, opV c r a] w fun e w' => ∃ v', e = .returned (.tuple #[v', .int .i64 (objS 0 s c r a 600).2.1, .int .i64 (objS 0 s c r a 600).2.2]) ∧ OwnS w' w.heap.size v' (objS 0 s c r a 600).1 ∧ Le w w' := by
 have hx0 := hx
 obtain ⟨vs, rfl, hr⟩ := hx
 have hl := ((Le.alloc w (.cells (cells4 vs) 44)).trans (Le.alloc _ (.cells #[.int .i64 c, .int .i64 r, .int .i64 a] 48))).trans (Le.alloc _ (.cells (cells4 fun _ => slZ) 44))
 have hb1 := ((Box.new w (cells4 vs) 44).le (Le.alloc _ (.cells #[.int .i64 c, .int .i64 r, .int .i64 a] 48))).le (Le.alloc _ (.cells (cells4 fun _ => slZ) 44))
 have hb2 := (Box.new (w.alloc (.cells (cells4 vs) 44)) #[.int .i64 c, .int .i64 r, .int .i64 a] 48).le (Le.alloc _ (.cells (cells4 fun _ => slZ) 44))
 have hb3 := Box.new ((w.alloc (.cells (cells4 vs) 44)).alloc (.cells #[.int .i64 c, .int .i64 r, .int .i64 a] 48)) (cells4 fun _ => slZ) 44
 simp only [World.size_alloc] at hb1 hb2 hb3
 have hA := Le.alloc (((w.alloc (.cells (cells4 vs) 44)).alloc (.cells #[.int .i64 c, .int .i64 r, .int .i64 a] 48)).alloc (.cells (cells4 fun _ => slZ) 44)) (.cells threeV 118)
 have hb4 := Box.new (((w.alloc (.cells (cells4 vs) 44)).alloc (.cells #[.int .i64 c, .int .i64 r, .int .i64 a] 48)).alloc (.cells (cells4 fun _ => slZ) 44)) threeV 118
 simp only [World.size_alloc] at hb4
 replace hb1 := hb1.le hA
 replace hb2 := hb2.le hA
 replace hb3 := hb3.le hA
 replace hl := hl.trans hA
 clear hA
 have HT : Hid ((objS 0 s c r a 600 = (St.zero, 0, 600) ∧ ¬ (stoS s c r a 300).2.2 = 0) ∨ (objS 0 s c r a 600 = ((stoS s c r a 300).1, (stoS s c r a 300).2.1, 0) ∧ (stoS s c r a 300).2.2 = 0)) := by
   cases hmo : s.all rowMay1 && opMay c r a
   ·exact .inl ⟨stoS_no hmo, by rw [stoS_no hmo]; decide⟩
   ·exact .inr ⟨(stoS_err hmo).trans (by rw [stoS_err (er := 300) hmo]), by rw [stoS_err (er := 300) hmo]⟩
 have hap := fun (w' : World) (h : Le w w') => ofStore vs s c r a w' (hx0.le h) hf
 generalize objS 0 s c r a 600 = T1 at HT ⊢
 generalize stoS s c r a 300 = S1 at HT hap
 clear hx0 hr
 go_enter Tryz.func29, Tryz.ntmps29
 go_upto_region 4 with (go_at_call 73; refine (objThree _).mono ?_; rintro e _ ⟨rfl, rfl⟩)
 generalize hW : (((w.alloc (.cells (cells4 vs) 44)).alloc (.cells #[.int .i64 c, .int .i64 r, .int .i64 a] 48)).alloc (.cells (cells4 fun _ => slZ) 44)).alloc (.cells threeV 118) = W at hb1 hb2 hb3 hb4 hl ⊢
 clear hW
 obtain ⟨x0, x1, x2, x3, _, _, _, _⟩ := hb1.st
 obtain ⟨y0, y1, y2, _, _, _⟩ := hb2.op
 have u0 : W.cell? ⟨w.heap.size + 1 + 1 + 1, 0, none⟩ = some (.func (.func 114) #[] #[]) := hb4.cell 0
 have hapA := hap W.drew (hl.trans (Le.drew _))
 have hapB := hap (W.alloc (.cells (cells4 fun _ => slZ) 44)).drew (hl.trans ((Le.alloc _ _).trans (Le.drew _)))
 clear hap
 have n1 : ¬ W.heap.size = w.heap.size := by have := hb1.lt; omega
 have n2 : ¬ W.heap.size = w.heap.size + 1 := by have := hb2.lt; omega
 have n3 : ¬ W.heap.size = w.heap.size + 1 + 1 + 1 := by have := hb4.lt; omega
 go_region_held3 (fun w' => w'.cell? ⟨w.heap.size, 0, none⟩ = some (slV (vs 0)) ∧ w'.cell? ⟨w.heap.size, 1, none⟩ = some (slV (vs 1)) ∧ w'.cell? ⟨w.heap.size, 2, none⟩ = some (slV (vs 2)) ∧ w'.cell? ⟨w.heap.size, 3, none⟩ = some (slV (vs 3)) ∧ w'.cell? ⟨w.heap.size + 1, 0, none⟩ = some (.int .i64 c) ∧ w'.cell? ⟨w.heap.size + 1, 1, none⟩ = some (.int .i64 r) ∧ w'.cell? ⟨w.heap.size + 1, 2, none⟩ = some (.int .i64 a) ∧ w'.cell? ⟨w.heap.size + 1 + 1 + 1, 0, none⟩ = some (.func (.func 114) #[] #[])) (go_keep) (first
   | (go_at_call 114; refine hapA.mono ?_; rintro e w2 ⟨_, rfl, ⟨q2, rfl, ho2⟩, l2⟩; replace l2 := (Le.drew W).trans l2; obtain ⟨x0', x1', x2', x3', _, _, _, _⟩ := (hb1.le l2).st; obtain ⟨y0', y1', y2', _, _, _⟩ := (hb2.le l2).op; have u0' : w2.cell? ⟨w.heap.size + 1 + 1 + 1, 0, none⟩ = some (.func (.func 114) #[] #[]) := (hb4.le l2).cell 0; have m1 : ¬ w2.heap.size = w.heap.size := (by have := (hb1.le l2).lt; omega); have m2 : ¬ w2.heap.size = w.heap.size + 1 := (by have := (hb2.le l2).lt; omega); have m3 : ¬ w2.heap.size = w.heap.size + 1 + 1 + 1 := (by have := (hb4.le l2).lt; omega))
   | (go_at_call 114; refine hapB.mono ?_; rintro e w2 ⟨_, rfl, ⟨q2, rfl, ho2⟩, l2⟩; have hbz := ((Box.new W (cells4 fun _ => slZ) 44).le (Le.drew _)).le l2; replace l2 := ((Le.alloc W (.cells (cells4 fun _ => slZ) 44)).trans (Le.drew _)).trans l2; obtain ⟨x0', x1', x2', x3', _, _, _, _⟩ := (hb1.le l2).st; obtain ⟨y0', y1', y2', _, _, _⟩ := (hb2.le l2).op; have u0' : w2.cell? ⟨w.heap.size + 1 + 1 + 1, 0, none⟩ = some (.func (.func 114) #[] #[]) := (hb4.le l2).cell 0; obtain ⟨v0, v1, v2, v3, g0, g1, g2, g3⟩ := hbz.st))
 all_goals clear hapA hapB x0 x1 x2 x3 y0 y1 y2 u0 x0' x1' x2' x3' y0' y1' y2' u0'
 ·have ht := Box.new w2 (cells4 q2) 44
  have hz := (hb3.le l2).le (Le.alloc w2 (.cells (cells4 q2) 44))
  replace ho2 := fun i hi => ((ho2 i hi).base (base' := w.heap.size) hl.size).le (Le.alloc w2 (.cells (cells4 q2) 44))
  replace hl := (hl.trans l2).trans (Le.alloc w2 (.cells (cells4 q2) 44))
  have n9 : ¬ w.heap.size + 1 + 1 = w2.heap.size := by have := (hb3.le l2).lt; omega
  generalize hW : w2.alloc (.cells (cells4 q2) 44) = W2 at ht hz ho2 hl ⊢
  generalize w2.heap.size = g9 at n9 ht ⊢
  clear hW l2 m1 m2 m3 n1 n2 n3 hb1 hb2 hb3 hb4
  obtain ⟨z0, z1, z2, z3, f0, f1, f2, f3⟩ := hz.st
  obtain ⟨t0, t1, t2, t3, _, _, _, _⟩ := ht.st
  have n0 := hz.lt
  rcases HT.out with ⟨rfl, h0⟩ | ⟨rfl, h0⟩
  ·clear HT
   go_wp2_with fail
   refine bodyPost_ret (v := .tuple #[stZ, .int .i64 0, .int .i64 600]) (by simp [results, Tryz.results29, go_sem, z0, z1, z2, z3]) rfl ⟨_, rfl, OwnS.zero _ _, ?_⟩
   exact hl.set4 (by omega) _ _ _ _
  ·clear HT
   go_wp2_with fail
   refine bodyPost_ret (v := .tuple #[stV q2, .int .i64 S1.2.1, .int .i64 0]) (by simp [results, Tryz.results29, go_sem, z0, z1, z2, z3]) rfl ⟨_, rfl, ⟨q2, rfl, fun i hi => ?_⟩, ?_⟩
   ·exact (ho2 i hi).set4 hz (by decide) _ _ _ _
   ·exact hl.set4 (by omega) _ _ _ _
 ·have g : ∀ i, i < 4 → Own ((((w2.setCell ⟨W.heap.size, 0, none⟩ (slV (q2 0))).setCell ⟨W.heap.size, 1, none⟩ (slV (q2 1))).setCell ⟨W.heap.size, 2, none⟩ (slV (q2 2))).setCell ⟨W.heap.size, 3, none⟩ (slV (q2 3))) w.heap.size (slV (q2 i)) (S1.1.at i) :=
    fun i hi => ((ho2 i hi).base (base' := w.heap.size) (hl.trans ((Le.alloc W _).trans (Le.drew _))).size).set4 hbz (by decide) _ _ _ _
  have n9 : ¬ w.heap.size + 1 + 1 = W.heap.size := by have := hb3.lt; omega
  have ht := hbz.all4 (us := q2)
  have hz := (hb3.le l2).other4 n9 (slV (q2 0)) (slV (q2 1)) (slV (q2 2)) (slV (q2 3))
  have hs := hl.size
  replace hl := (hl.trans l2).set4 hs (slV (q2 0)) (slV (q2 1)) (slV (q2 2)) (slV (q2 3))
  clear ho2
  have ho2 := g
  clear g
  generalize hW : (((w2.setCell ⟨W.heap.size, 0, none⟩ (slV (q2 0))).setCell ⟨W.heap.size, 1, none⟩ (slV (q2 1))).setCell ⟨W.heap.size, 2, none⟩ (slV (q2 2))).setCell ⟨W.heap.size, 3, none⟩ (slV (q2 3)) = W2 at ht hz ho2 hl ⊢
  clear hW l2 n1 n2 n3 hb1 hb2 hb3 hb4 hbz v0 v1 v2 v3 g0 g1 g2 g3 hs
  generalize W.heap.size = g9 at n9 ht ⊢
  obtain ⟨z0, z1, z2, z3, f0, f1, f2, f3⟩ := hz.st
  obtain ⟨t0, t1, t2, t3, _, _, _, _⟩ := ht.st
  have n0 := hz.lt
  rcases HT.out with ⟨rfl, h0⟩ | ⟨rfl, h0⟩
  ·clear HT
   go_wp2_with fail
   refine bodyPost_ret (v := .tuple #[stZ, .int .i64 0, .int .i64 600]) (by simp [results, Tryz.results29, go_sem, z0, z1, z2, z3]) rfl ⟨_, rfl, OwnS.zero _ _, ?_⟩
   exact hl.set4 (by omega) _ _ _ _
  ·clear HT
   go_wp2_with fail
   refine bodyPost_ret (v := .tuple #[stV q2, .int .i64 S1.2.1, .int .i64 0]) (by simp [results, Tryz.results29, go_sem, z0, z1, z2, z3]) rfl ⟨_, rfl, ⟨q2, rfl, fun i hi => ?_⟩, ?_⟩
   ·exact (ho2 i hi).set4 hz (by decide) _ _ _ _
   ·exact hl.set4 (by omega) _ _ _ _
set_option maxHeartbeats 4000000 in
theorem objApply1 (v : Value) (s : St) (c r a : Int) (w : World) (hx : HasS w v s) (hf : Fit s) :
   Calls Tryz.prog 29 #[.int .i64 1, v, opV c r a] w fun e w' => ∃ v', e = .returned (.tuple #[v', .int .i64 (objS 1 s c r a 600).2.1, .int .i64 (objS 1 s c r a 600).2.2]) ∧ OwnS w' w.heap.size v' (objS 1 s c r a 600).1 ∧ Le w w' := by
 have hx0 := hx
 obtain ⟨vs, rfl, hr⟩ := hx
 have hl := ((Le.alloc w (.cells (cells4 vs) 44)).trans (Le.alloc _ (.cells #[.int .i64 c, .int .i64 r, .int .i64 a] 48))).trans (Le.alloc _ (.cells (cells4 fun _ => slZ) 44))
 have hb1 := ((Box.new w (cells4 vs) 44).le (Le.alloc _ (.cells #[.int .i64 c, .int .i64 r, .int .i64 a] 48))).le (Le.alloc _ (.cells (cells4 fun _ => slZ) 44))
 have hb2 := (Box.new (w.alloc (.cells (cells4 vs) 44)) #[.int .i64 c, .int .i64 r, .int .i64 a] 48).le (Le.alloc _ (.cells (cells4 fun _ => slZ) 44))
 have hb3 := Box.new ((w.alloc (.cells (cells4 vs) 44)).alloc (.cells #[.int .i64 c, .int .i64 r, .int .i64 a] 48)) (cells4 fun _ => slZ) 44
 simp only [World.size_alloc] at hb1 hb2 hb3
 have hA := Le.alloc (((w.alloc (.cells (cells4 vs) 44)).alloc (.cells #[.int .i64 c, .int .i64 r, .int .i64 a] 48)).alloc (.cells (cells4 fun _ => slZ) 44)) (.cells threeV 118)
 have hb4 := Box.new (((w.alloc (.cells (cells4 vs) 44)).alloc (.cells #[.int .i64 c, .int .i64 r, .int .i64 a] 48)).alloc (.cells (cells4 fun _ => slZ) 44)) threeV 118
 simp only [World.size_alloc] at hb4
 replace hb1 := hb1.le hA
 replace hb2 := hb2.le hA
 replace hb3 := hb3.le hA
 replace hl := hl.trans hA
 clear hA
 have HT : Hid ((objS 1 s c r a 600 = (St.zero, 0, 600) ∧ ¬ (fdsS s c r a 400).2.2 = 0) ∨ (objS 1 s c r a 600 = ((fdsS s c r a 400).1, (fdsS s c r a 400).2.1, 0) ∧ (fdsS s c r a 400).2.2 = 0)) := by
   cases hmo : s.all rowMay2 && opMay c r a
   ·exact .inl ⟨fdsS_no hmo, by rw [fdsS_no hmo]; decide⟩
   ·exact .inr ⟨(fdsS_err hmo).trans (by rw [fdsS_err (er := 400) hmo]), by rw [fdsS_err (er := 400) hmo]⟩
 have hap := fun (w' : World) (h : Le w w') => ofFds vs s c r a w' (hx0.le h) hf
 generalize objS 1 s c r a 600 = T1 at HT ⊢
 generalize fdsS s c r a 400 = S1 at HT hap
 clear hx0 hr
 go_enter Tryz.func29, Tryz.ntmps29
 go_upto_region 4 with (go_at_call 73; refine (objThree _).mono ?_; rintro e _ ⟨rfl, rfl⟩)
 generalize hW : (((w.alloc (.cells (cells4 vs) 44)).alloc (.cells #[.int .i64 c, .int .i64 r, .int .i64 a] 48)).alloc (.cells (cells4 fun _ => slZ) 44)).alloc (.cells threeV 118) = W at hb1 hb2 hb3 hb4 hl ⊢
 clear hW
 obtain ⟨x0, x1, x2, x3, _, _, _, _⟩ := hb1.st
 obtain ⟨y0, y1, y2, _, _, _⟩ := hb2.op
 have u0 : W.cell? ⟨w.heap.size + 1 + 1 + 1, 1, none⟩ = some (.func (.func 115) #[] #[]) := hb4.cell 1
 have hapA := hap W.drew (hl.trans (Le.drew _))
 have hapB := hap (W.alloc (.cells (cells4 fun _ => slZ) 44)).drew (hl.trans ((Le.alloc _ _).trans (Le.drew _)))
 clear hap
 have n1 : ¬ W.heap.size = w.heap.size := by have := hb1.lt; omega
 have n2 : ¬ W.heap.size = w.heap.size + 1 := by have := hb2.lt; omega
 have n3 : ¬ W.heap.size = w.heap.size + 1 + 1 + 1 := by have := hb4.lt; omega
 go_region_held3 (fun w' => w'.cell? ⟨w.heap.size, 0, none⟩ = some (slV (vs 0)) ∧ w'.cell? ⟨w.heap.size, 1, none⟩ = some (slV (vs 1)) ∧ w'.cell? ⟨w.heap.size, 2, none⟩ = some (slV (vs 2)) ∧ w'.cell? ⟨w.heap.size, 3, none⟩ = some (slV (vs 3)) ∧ w'.cell? ⟨w.heap.size + 1, 0, none⟩ = some (.int .i64 c) ∧ w'.cell? ⟨w.heap.size + 1, 1, none⟩ = some (.int .i64 r) ∧ w'.cell? ⟨w.heap.size + 1, 2, none⟩ = some (.int .i64 a) ∧ w'.cell? ⟨w.heap.size + 1 + 1 + 1, 1, none⟩ = some (.func (.func 115) #[] #[])) (go_keep) (first
   | (go_at_call 115; refine hapA.mono ?_; rintro e w2 ⟨_, rfl, ⟨q2, rfl, ho2⟩, l2⟩; replace l2 := (Le.drew W).trans l2; obtain ⟨x0', x1', x2', x3', _, _, _, _⟩ := (hb1.le l2).st; obtain ⟨y0', y1', y2', _, _, _⟩ := (hb2.le l2).op; have u0' : w2.cell? ⟨w.heap.size + 1 + 1 + 1, 1, none⟩ = some (.func (.func 115) #[] #[]) := (hb4.le l2).cell 1; have m1 : ¬ w2.heap.size = w.heap.size := (by have := (hb1.le l2).lt; omega); have m2 : ¬ w2.heap.size = w.heap.size + 1 := (by have := (hb2.le l2).lt; omega); have m3 : ¬ w2.heap.size = w.heap.size + 1 + 1 + 1 := (by have := (hb4.le l2).lt; omega))
   | (go_at_call 115; refine hapB.mono ?_; rintro e w2 ⟨_, rfl, ⟨q2, rfl, ho2⟩, l2⟩; have hbz := ((Box.new W (cells4 fun _ => slZ) 44).le (Le.drew _)).le l2; replace l2 := ((Le.alloc W (.cells (cells4 fun _ => slZ) 44)).trans (Le.drew _)).trans l2; obtain ⟨x0', x1', x2', x3', _, _, _, _⟩ := (hb1.le l2).st; obtain ⟨y0', y1', y2', _, _, _⟩ := (hb2.le l2).op; have u0' : w2.cell? ⟨w.heap.size + 1 + 1 + 1, 1, none⟩ = some (.func (.func 115) #[] #[]) := (hb4.le l2).cell 1; obtain ⟨v0, v1, v2, v3, g0, g1, g2, g3⟩ := hbz.st))
 all_goals clear hapA hapB x0 x1 x2 x3 y0 y1 y2 u0 x0' x1' x2' x3' y0' y1' y2' u0'
 ·have ht := Box.new w2 (cells4 q2) 44
  have hz := (hb3.le l2).le (Le.alloc w2 (.cells (cells4 q2) 44))
  replace ho2 := fun i hi => ((ho2 i hi).base (base' := w.heap.size) hl.size).le (Le.alloc w2 (.cells (cells4 q2) 44))
  replace hl := (hl.trans l2).trans (Le.alloc w2 (.cells (cells4 q2) 44))
  have n9 : ¬ w.heap.size + 1 + 1 = w2.heap.size := by have := (hb3.le l2).lt; omega
  generalize hW : w2.alloc (.cells (cells4 q2) 44) = W2 at ht hz ho2 hl ⊢
  generalize w2.heap.size = g9 at n9 ht ⊢
  clear hW l2 m1 m2 m3 n1 n2 n3 hb1 hb2 hb3 hb4
  obtain ⟨z0, z1, z2, z3, f0, f1, f2, f3⟩ := hz.st
  obtain ⟨t0, t1, t2, t3, _, _, _, _⟩ := ht.st
  have n0 := hz.lt
  rcases HT.out with ⟨rfl, h0⟩ | ⟨rfl, h0⟩
  ·clear HT
   go_wp2_with fail
   refine bodyPost_ret (v := .tuple #[stZ, .int .i64 0, .int .i64 600]) (by simp [results, Tryz.results29, go_sem, z0, z1, z2, z3]) rfl ⟨_, rfl, OwnS.zero _ _, ?_⟩
   exact hl.set4 (by omega) _ _ _ _
  ·clear HT
   go_wp2_with fail
   refine bodyPost_ret (v := .tuple #[stV q2, .int .i64 S1.2.1, .int .i64 0]) (by simp [results, Tryz.results29, go_sem, z0, z1, z2, z3]) rfl ⟨_, rfl, ⟨q2, rfl, fun i hi => ?_⟩, ?_⟩
   ·exact (ho2 i hi).set4 hz (by decide) _ _ _ _
   ·exact hl.set4 (by omega) _ _ _ _
 ·have g : ∀ i, i < 4 → Own ((((w2.setCell ⟨W.heap.size, 0, none⟩ (slV (q2 0))).setCell ⟨W.heap.size, 1, none⟩ (slV (q2 1))).setCell ⟨W.heap.size, 2, none⟩ (slV (q2 2))).setCell ⟨W.heap.size, 3, none⟩ (slV (q2 3))) w.heap.size (slV (q2 i)) (S1.1.at i) :=
    fun i hi => ((ho2 i hi).base (base' := w.heap.size) (hl.trans ((Le.alloc W _).trans (Le.drew _))).size).set4 hbz (by decide) _ _ _ _
  have n9 : ¬ w.heap.size + 1 + 1 = W.heap.size := by have := hb3.lt; omega
  have ht := hbz.all4 (us := q2)
  have hz := (hb3.le l2).other4 n9 (slV (q2 0)) (slV (q2 1)) (slV (q2 2)) (slV (q2 3))
  have hs := hl.size
  replace hl := (hl.trans l2).set4 hs (slV (q2 0)) (slV (q2 1)) (slV (q2 2)) (slV (q2 3))
  clear ho2
  have ho2 := g
  clear g
  generalize hW : (((w2.setCell ⟨W.heap.size, 0, none⟩ (slV (q2 0))).setCell ⟨W.heap.size, 1, none⟩ (slV (q2 1))).setCell ⟨W.heap.size, 2, none⟩ (slV (q2 2))).setCell ⟨W.heap.size, 3, none⟩ (slV (q2 3)) = W2 at ht hz ho2 hl ⊢
  clear hW l2 n1 n2 n3 hb1 hb2 hb3 hb4 hbz v0 v1 v2 v3 g0 g1 g2 g3 hs
  generalize W.heap.size = g9 at n9 ht ⊢
  obtain ⟨z0, z1, z2, z3, f0, f1, f2, f3⟩ := hz.st
  obtain ⟨t0, t1, t2, t3, _, _, _, _⟩ := ht.st
  have n0 := hz.lt
  rcases HT.out with ⟨rfl, h0⟩ | ⟨rfl, h0⟩
  ·clear HT
   go_wp2_with fail
   refine bodyPost_ret (v := .tuple #[stZ, .int .i64 0, .int .i64 600]) (by simp [results, Tryz.results29, go_sem, z0, z1, z2, z3]) rfl ⟨_, rfl, OwnS.zero _ _, ?_⟩
   exact hl.set4 (by omega) _ _ _ _
  ·clear HT
   go_wp2_with fail
   refine bodyPost_ret (v := .tuple #[stV q2, .int .i64 S1.2.1, .int .i64 0]) (by simp [results, Tryz.results29, go_sem, z0, z1, z2, z3]) rfl ⟨_, rfl, ⟨q2, rfl, fun i hi => ?_⟩, ?_⟩
   ·exact (ho2 i hi).set4 hz (by decide) _ _ _ _
   ·exact hl.set4 (by omega) _ _ _ _
set_option maxHeartbeats 4000000 in
theorem objApply2 (v : Value) (s : St) (c r a : Int) (w : World) (hx : HasS w v s) (hf : Fit s) :
   Calls Tryz.prog 29 #[.int .i64 2, v, opV c r a] w fun e w' => ∃ v', e = .returned (.tuple #[v', .int .i64 (objS 2 s c r a 600).2.1, .int .i64 (objS 2 s c r a 600).2.2]) ∧ OwnS w' w.heap.size v' (objS 2 s c r a 600).1 ∧ Le w w' := by
 have hx0 := hx
 obtain ⟨vs, rfl, hr⟩ := hx
 have hl := ((Le.alloc w (.cells (cells4 vs) 44)).trans (Le.alloc _ (.cells #[.int .i64 c, .int .i64 r, .int .i64 a] 48))).trans (Le.alloc _ (.cells (cells4 fun _ => slZ) 44))
 have hb1 := ((Box.new w (cells4 vs) 44).le (Le.alloc _ (.cells #[.int .i64 c, .int .i64 r, .int .i64 a] 48))).le (Le.alloc _ (.cells (cells4 fun _ => slZ) 44))
 have hb2 := (Box.new (w.alloc (.cells (cells4 vs) 44)) #[.int .i64 c, .int .i64 r, .int .i64 a] 48).le (Le.alloc _ (.cells (cells4 fun _ => slZ) 44))
 have hb3 := Box.new ((w.alloc (.cells (cells4 vs) 44)).alloc (.cells #[.int .i64 c, .int .i64 r, .int .i64 a] 48)) (cells4 fun _ => slZ) 44
 simp only [World.size_alloc] at hb1 hb2 hb3
 have hA := Le.alloc (((w.alloc (.cells (cells4 vs) 44)).alloc (.cells #[.int .i64 c, .int .i64 r, .int .i64 a] 48)).alloc (.cells (cells4 fun _ => slZ) 44)) (.cells threeV 118)
 have hb4 := Box.new (((w.alloc (.cells (cells4 vs) 44)).alloc (.cells #[.int .i64 c, .int .i64 r, .int .i64 a] 48)).alloc (.cells (cells4 fun _ => slZ) 44)) threeV 118
 simp only [World.size_alloc] at hb4
 replace hb1 := hb1.le hA
 replace hb2 := hb2.le hA
 replace hb3 := hb3.le hA
 replace hl := hl.trans hA
 clear hA
 have HT : Hid ((objS 2 s c r a 600 = (St.zero, 0, 600) ∧ ¬ (queS s c r a 500).2.2 = 0) ∨ (objS 2 s c r a 600 = ((queS s c r a 500).1, (queS s c r a 500).2.1, 0) ∧ (queS s c r a 500).2.2 = 0)) := by
   cases hmo : s.all rowMay3 && opMay c r a
   ·exact .inl ⟨queS_no hmo, by rw [queS_no hmo]; decide⟩
   ·exact .inr ⟨(queS_err hmo).trans (by rw [queS_err (er := 500) hmo]), by rw [queS_err (er := 500) hmo]⟩
 have hap := fun (w' : World) (h : Le w w') => ofQueue vs s c r a w' (hx0.le h) hf
 generalize objS 2 s c r a 600 = T1 at HT ⊢
 generalize queS s c r a 500 = S1 at HT hap
 clear hx0 hr
 go_enter Tryz.func29, Tryz.ntmps29
 go_upto_region 4 with (go_at_call 73; refine (objThree _).mono ?_; rintro e _ ⟨rfl, rfl⟩)
 generalize hW : (((w.alloc (.cells (cells4 vs) 44)).alloc (.cells #[.int .i64 c, .int .i64 r, .int .i64 a] 48)).alloc (.cells (cells4 fun _ => slZ) 44)).alloc (.cells threeV 118) = W at hb1 hb2 hb3 hb4 hl ⊢
 clear hW
 obtain ⟨x0, x1, x2, x3, _, _, _, _⟩ := hb1.st
 obtain ⟨y0, y1, y2, _, _, _⟩ := hb2.op
 have u0 : W.cell? ⟨w.heap.size + 1 + 1 + 1, 2, none⟩ = some (.func (.func 116) #[] #[]) := hb4.cell 2
 have hapA := hap W.drew (hl.trans (Le.drew _))
 have hapB := hap (W.alloc (.cells (cells4 fun _ => slZ) 44)).drew (hl.trans ((Le.alloc _ _).trans (Le.drew _)))
 clear hap
 have n1 : ¬ W.heap.size = w.heap.size := by have := hb1.lt; omega
 have n2 : ¬ W.heap.size = w.heap.size + 1 := by have := hb2.lt; omega
 have n3 : ¬ W.heap.size = w.heap.size + 1 + 1 + 1 := by have := hb4.lt; omega
 go_region_held3 (fun w' => w'.cell? ⟨w.heap.size, 0, none⟩ = some (slV (vs 0)) ∧ w'.cell? ⟨w.heap.size, 1, none⟩ = some (slV (vs 1)) ∧ w'.cell? ⟨w.heap.size, 2, none⟩ = some (slV (vs 2)) ∧ w'.cell? ⟨w.heap.size, 3, none⟩ = some (slV (vs 3)) ∧ w'.cell? ⟨w.heap.size + 1, 0, none⟩ = some (.int .i64 c) ∧ w'.cell? ⟨w.heap.size + 1, 1, none⟩ = some (.int .i64 r) ∧ w'.cell? ⟨w.heap.size + 1, 2, none⟩ = some (.int .i64 a) ∧ w'.cell? ⟨w.heap.size + 1 + 1 + 1, 2, none⟩ = some (.func (.func 116) #[] #[])) (go_keep) (first
   | (go_at_call 116; refine hapA.mono ?_; rintro e w2 ⟨_, rfl, ⟨q2, rfl, ho2⟩, l2⟩; replace l2 := (Le.drew W).trans l2; obtain ⟨x0', x1', x2', x3', _, _, _, _⟩ := (hb1.le l2).st; obtain ⟨y0', y1', y2', _, _, _⟩ := (hb2.le l2).op; have u0' : w2.cell? ⟨w.heap.size + 1 + 1 + 1, 2, none⟩ = some (.func (.func 116) #[] #[]) := (hb4.le l2).cell 2; have m1 : ¬ w2.heap.size = w.heap.size := (by have := (hb1.le l2).lt; omega); have m2 : ¬ w2.heap.size = w.heap.size + 1 := (by have := (hb2.le l2).lt; omega); have m3 : ¬ w2.heap.size = w.heap.size + 1 + 1 + 1 := (by have := (hb4.le l2).lt; omega))
   | (go_at_call 116; refine hapB.mono ?_; rintro e w2 ⟨_, rfl, ⟨q2, rfl, ho2⟩, l2⟩; have hbz := ((Box.new W (cells4 fun _ => slZ) 44).le (Le.drew _)).le l2; replace l2 := ((Le.alloc W (.cells (cells4 fun _ => slZ) 44)).trans (Le.drew _)).trans l2; obtain ⟨x0', x1', x2', x3', _, _, _, _⟩ := (hb1.le l2).st; obtain ⟨y0', y1', y2', _, _, _⟩ := (hb2.le l2).op; have u0' : w2.cell? ⟨w.heap.size + 1 + 1 + 1, 2, none⟩ = some (.func (.func 116) #[] #[]) := (hb4.le l2).cell 2; obtain ⟨v0, v1, v2, v3, g0, g1, g2, g3⟩ := hbz.st))
 all_goals clear hapA hapB x0 x1 x2 x3 y0 y1 y2 u0 x0' x1' x2' x3' y0' y1' y2' u0'
 ·have ht := Box.new w2 (cells4 q2) 44
  have hz := (hb3.le l2).le (Le.alloc w2 (.cells (cells4 q2) 44))
  replace ho2 := fun i hi => ((ho2 i hi).base (base' := w.heap.size) hl.size).le (Le.alloc w2 (.cells (cells4 q2) 44))
  replace hl := (hl.trans l2).trans (Le.alloc w2 (.cells (cells4 q2) 44))
  have n9 : ¬ w.heap.size + 1 + 1 = w2.heap.size := by have := (hb3.le l2).lt; omega
  generalize hW : w2.alloc (.cells (cells4 q2) 44) = W2 at ht hz ho2 hl ⊢
  generalize w2.heap.size = g9 at n9 ht ⊢
  clear hW l2 m1 m2 m3 n1 n2 n3 hb1 hb2 hb3 hb4
  obtain ⟨z0, z1, z2, z3, f0, f1, f2, f3⟩ := hz.st
  obtain ⟨t0, t1, t2, t3, _, _, _, _⟩ := ht.st
  have n0 := hz.lt
  rcases HT.out with ⟨rfl, h0⟩ | ⟨rfl, h0⟩
  ·clear HT
   go_wp2_with fail
   refine bodyPost_ret (v := .tuple #[stZ, .int .i64 0, .int .i64 600]) (by simp [results, Tryz.results29, go_sem, z0, z1, z2, z3]) rfl ⟨_, rfl, OwnS.zero _ _, ?_⟩
   exact hl.set4 (by omega) _ _ _ _
  ·clear HT
   go_wp2_with fail
   refine bodyPost_ret (v := .tuple #[stV q2, .int .i64 S1.2.1, .int .i64 0]) (by simp [results, Tryz.results29, go_sem, z0, z1, z2, z3]) rfl ⟨_, rfl, ⟨q2, rfl, fun i hi => ?_⟩, ?_⟩
   ·exact (ho2 i hi).set4 hz (by decide) _ _ _ _
   ·exact hl.set4 (by omega) _ _ _ _
 ·have g : ∀ i, i < 4 → Own ((((w2.setCell ⟨W.heap.size, 0, none⟩ (slV (q2 0))).setCell ⟨W.heap.size, 1, none⟩ (slV (q2 1))).setCell ⟨W.heap.size, 2, none⟩ (slV (q2 2))).setCell ⟨W.heap.size, 3, none⟩ (slV (q2 3))) w.heap.size (slV (q2 i)) (S1.1.at i) :=
    fun i hi => ((ho2 i hi).base (base' := w.heap.size) (hl.trans ((Le.alloc W _).trans (Le.drew _))).size).set4 hbz (by decide) _ _ _ _
  have n9 : ¬ w.heap.size + 1 + 1 = W.heap.size := by have := hb3.lt; omega
  have ht := hbz.all4 (us := q2)
  have hz := (hb3.le l2).other4 n9 (slV (q2 0)) (slV (q2 1)) (slV (q2 2)) (slV (q2 3))
  have hs := hl.size
  replace hl := (hl.trans l2).set4 hs (slV (q2 0)) (slV (q2 1)) (slV (q2 2)) (slV (q2 3))
  clear ho2
  have ho2 := g
  clear g
  generalize hW : (((w2.setCell ⟨W.heap.size, 0, none⟩ (slV (q2 0))).setCell ⟨W.heap.size, 1, none⟩ (slV (q2 1))).setCell ⟨W.heap.size, 2, none⟩ (slV (q2 2))).setCell ⟨W.heap.size, 3, none⟩ (slV (q2 3)) = W2 at ht hz ho2 hl ⊢
  clear hW l2 n1 n2 n3 hb1 hb2 hb3 hb4 hbz v0 v1 v2 v3 g0 g1 g2 g3 hs
  generalize W.heap.size = g9 at n9 ht ⊢
  obtain ⟨z0, z1, z2, z3, f0, f1, f2, f3⟩ := hz.st
  obtain ⟨t0, t1, t2, t3, _, _, _, _⟩ := ht.st
  have n0 := hz.lt
  rcases HT.out with ⟨rfl, h0⟩ | ⟨rfl, h0⟩
  ·clear HT
   go_wp2_with fail
   refine bodyPost_ret (v := .tuple #[stZ, .int .i64 0, .int .i64 600]) (by simp [results, Tryz.results29, go_sem, z0, z1, z2, z3]) rfl ⟨_, rfl, OwnS.zero _ _, ?_⟩
   exact hl.set4 (by omega) _ _ _ _
  ·clear HT
   go_wp2_with fail
   refine bodyPost_ret (v := .tuple #[stV q2, .int .i64 S1.2.1, .int .i64 0]) (by simp [results, Tryz.results29, go_sem, z0, z1, z2, z3]) rfl ⟨_, rfl, ⟨q2, rfl, fun i hi => ?_⟩, ?_⟩
   ·exact (ho2 i hi).set4 hz (by decide) _ _ _ _
   ·exact hl.set4 (by omega) _ _ _ _
set_option maxHeartbeats 1000000 in
theorem objApplyOut (o : Int) (ho : o < 0 ∨ 2 < o) (v : Value) (s : St) (c r a : Int) (w : World) (hx : HasS w v s) :
   Calls Tryz.prog 29 #[.int .i64 o, v, opV c r a] w fun e w' => e = .returned (.tuple #[stZ, .int .i64 0, .int .i64 600]) ∧ Le w w' := by
 obtain ⟨vs, rfl, hr⟩ := hx
 have hl := ((Le.alloc w (.cells (cells4 vs) 44)).trans (Le.alloc _ (.cells #[.int .i64 c, .int .i64 r, .int .i64 a] 48))).trans (Le.alloc _ (.cells (cells4 fun _ => slZ) 44))
 have hb3 := Box.new ((w.alloc (.cells (cells4 vs) 44)).alloc (.cells #[.int .i64 c, .int .i64 r, .int .i64 a] 48)) (cells4 fun _ => slZ) 44
 simp only [World.size_alloc] at hb3
 have hA := Le.alloc (((w.alloc (.cells (cells4 vs) 44)).alloc (.cells #[.int .i64 c, .int .i64 r, .int .i64 a] 48)).alloc (.cells (cells4 fun _ => slZ) 44)) (.cells threeV 118)
 replace hb3 := hb3.le hA
 replace hl := hl.trans hA
 clear hA
 by_cases h0 : o < 0
 ·go_enter Tryz.func29, Tryz.ntmps29
  go_upto_region 2 with (go_at_call 73; refine (objThree _).mono ?_; rintro e _ ⟨rfl, rfl⟩)
  generalize hW : (((w.alloc (.cells (cells4 vs) 44)).alloc (.cells #[.int .i64 c, .int .i64 r, .int .i64 a] 48)).alloc (.cells (cells4 fun _ => slZ) 44)).alloc (.cells threeV 118) = W at hb3 hl ⊢
  clear hW
  obtain ⟨z0, z1, z2, z3, f0, f1, f2, f3⟩ := hb3.st
  go_wp2_with fail
  refine bodyPost_ret (v := .tuple #[stZ, .int .i64 0, .int .i64 600]) (by simp [results, Tryz.results29, go_sem, z0, z1, z2, z3]) rfl ⟨rfl, ?_⟩
  exact hl.set4 (g := w.heap.size + 1 + 1) (by omega) _ _ _ _
 ·have h1 : 3 ≤ o := by omega
  go_enter Tryz.func29, Tryz.ntmps29
  go_upto_region 2 with (go_at_call 73; refine (objThree _).mono ?_; rintro e _ ⟨rfl, rfl⟩)
  generalize hW : (((w.alloc (.cells (cells4 vs) 44)).alloc (.cells #[.int .i64 c, .int .i64 r, .int .i64 a] 48)).alloc (.cells (cells4 fun _ => slZ) 44)).alloc (.cells threeV 118) = W at hb3 hl ⊢
  clear hW
  obtain ⟨z0, z1, z2, z3, f0, f1, f2, f3⟩ := hb3.st
  go_wp2_with fail
  refine bodyPost_ret (v := .tuple #[stZ, .int .i64 0, .int .i64 600]) (by simp [results, Tryz.results29, go_sem, z0, z1, z2, z3]) rfl ⟨rfl, ?_⟩
  exact hl.set4 (g := w.heap.size + 1 + 1) (by omega) _ _ _ _
theorem objApply (o : Int) (v : Value) (s : St) (c r a : Int) (w : World) (hx : HasS w v s) (hf : Fit s) :
   Calls Tryz.prog 29 #[.int .i64 o, v, opV c r a] w fun e w' => ∃ v', e = .returned (.tuple #[v', .int .i64 (objS o s c r a 600).2.1, .int .i64 (objS o s c r a 600).2.2]) ∧ OwnS w' w.heap.size v' (objS o s c r a 600).1 ∧ Le w w' := by
 rcases obj_cases (o := o) with rfl | rfl | rfl | ho
 ·exact objApply0 v s c r a w hx hf
 ·exact objApply1 v s c r a w hx hf
 ·exact objApply2 v s c r a w hx hf
 ·rw [objS_out ho]
  exact (objApplyOut o ho v s c r a w hx).mono fun e w' ⟨he, hl⟩ => ⟨stZ, he, OwnS.zero _ _, hl⟩
theorem objScan (o : Int) (s : St) (er : Int) (h : er ≠ 0) : ((objS o s 3 0 0 er).2.2 == 0) = objMay o s := by
 have ho : opMay 3 0 0 = true := by decide
 cases hm : objMay o s
 ·rw [objS_no (by rw [hm]; rfl)]; simpa using h
 ·rw [objS_yes _ (by rw [hm, ho]; rfl)]; rfl
set_option maxHeartbeats 1000000 in
theorem objMayC (o : Int) (v : Value) (s : St) (w : World) (hx : HasS w v s) (hf : Fit s) :
   Calls Tryz.prog 129 #[.int .i64 o, v] w fun e w' => e = .returned (.bool (objMay o s)) ∧ Le w w' := by
 have hx0 := hx
 obtain ⟨vs, rfl, hr⟩ := hx
 have hl := Le.alloc w (.cells (cells4 vs) 44)
 have hap := objApply o (stV vs) s 3 0 0 _ (hx0.le hl) hf
 have hsc := objScan o s 600 (by decide)
 generalize objS o s 3 0 0 600 = S1 at hap hsc
 generalize objMay o s = b at hsc ⊢
 go_enter Tryz.func129, Tryz.ntmps129
 go_wp2_with fail
 refine hap.mono ?_
 rintro e w1 ⟨_, rfl, ⟨q, rfl, o1⟩, l1⟩
 go_wp2_with fail
 go_ret
 exact ⟨rfl, (hl.trans l1).trans (Le.alloc _ _)⟩
set_option maxHeartbeats 4000000 in
theorem lookMayReplica (c : Cfg) (q : Sl) (v : Value) (Rs : List Rg) (P : Rp) (w : World) (hR : HasRs w (slV q) Rs) (hm : Rs.length * 48 ≤ 140737488351232) (hn : (Rs.length : Int) = c.l) (hx : HasP w v P) (hf : Fit P.s) (hf2 : P.ls.length * 8 ≤ 140737488351232) :
   Calls Tryz.prog 98 #[lookV c q, v] w fun e w' => e = .returned (.bool (repB c Rs P)) ∧ Le w w' := by
 obtain ⟨vs, qc, ql, rfl, i0, i1, i2⟩ := hx
 have hb := Box.new (w.alloc (.cells (cellsK c q) 134)) (cellsP vs qc ql) 46
 have hk := (Box.new w (cellsK c q) 134).le (Le.alloc _ (.cells (cellsP vs qc ql) 46))
 rw [World.size_alloc] at hb
 have hl := (Le.alloc w (.cells (cellsK c q) 134)).trans (Le.alloc _ (.cells (cellsP vs qc ql) 46))
 have m1 := objMayC c.o (stV vs) P.s _ (HasS.le ⟨vs, rfl, i0⟩ hl) hf
 have hlen := i1.len
 have m2 := fun w' (l : Le w w') (hh : P.cs.length = Rs.length) => lookMayCursors c q (slV qc) Rs P.cs w' (hR.le l) (i1.le l) hh hm
 have m3 := fun w' (l : Le w w') => exactlyNum 126 (lookV c q) (fun x => inB 0 x c.t) (fun _ _ => by kernel_rfl) (slV ql) P.ls c.l w' (fun w'' _ v x _ _ h => by rw [show v = .int .i64 x from h]; exact lookMayHolder c q x w'') (i2.le l) (by omega)
 simp only [repB]
 obtain ⟨ua, n, ucap⟩ := qc
 simp only at hlen
 have HN : Hid (n = P.cs.length) := hlen
 rw [← hlen]
 clear hlen hf hf2 i0 i1 i2
 cases h1 : objMay c.o P.s
 ·rw [h1] at m1
  go_enter Tryz.func98, Tryz.ntmps98
  go_wp2_with fail
  refine m1.mono ?_
  rintro e w1 ⟨rfl, l1⟩
  go_wp2_with fail
  go_ret
  exact ⟨rfl, hl.trans l1⟩
 rw [h1] at m1
 by_cases h2 : (n : Int) = c.l
 case neg =>
   have h2b : ((n : Int) == c.l) = false := by simp [h2]
   rw [decide_eq_false h2]
   clear h2
   go_enter Tryz.func98, Tryz.ntmps98
   go_wp2_with fail
   refine m1.mono ?_
   rintro e w1 ⟨rfl, l1⟩
   obtain ⟨b0, b1, b2, b3, b4, b5⟩ := (hb.le l1).rep
   obtain ⟨k0, k1, k2, k3, k4, k5⟩ := (hk.le l1).look
   simp only [slV] at b4
   go_wp2_with fail
   go_ret
   exact ⟨rfl, hl.trans l1⟩
 have h2b : ((n : Int) == c.l) = true := by simp [h2]
 replace m2 := fun w' (l : Le w w') => m2 w' l (by have := HN.out; omega)
 rw [decide_eq_true h2]
 clear h2 hn
 cases h3 : cursOK Rs P.cs
 ·simp only [h3] at m2
  go_enter Tryz.func98, Tryz.ntmps98
  go_wp2_with fail
  refine m1.mono ?_
  rintro e w1 ⟨rfl, l1⟩
  obtain ⟨b0, b1, b2, b3, b4, b5⟩ := (hb.le l1).rep
  obtain ⟨k0, k1, k2, k3, k4, k5⟩ := (hk.le l1).look
  simp only [slV] at b4
  go_wp2_with fail
  refine (m2 _ (hl.trans l1)).mono ?_
  rintro e w2 ⟨rfl, l2⟩
  go_wp2_with fail
  go_ret
  exact ⟨rfl, (hl.trans l1).trans l2⟩
 ·simp only [h3] at m2
  go_enter Tryz.func98, Tryz.ntmps98
  go_wp2_with fail
  refine m1.mono ?_
  rintro e w1 ⟨rfl, l1⟩
  obtain ⟨b0, b1, b2, b3, b4, b5⟩ := (hb.le l1).rep
  obtain ⟨k0, k1, k2, k3, k4, k5⟩ := (hk.le l1).look
  simp only [slV] at b4
  go_wp2_with fail
  refine (m2 _ (hl.trans l1)).mono ?_
  rintro e w2 ⟨rfl, l2⟩
  obtain ⟨_, _, _, _, _, b5'⟩ := ((hb.le l1).le l2).rep
  obtain ⟨k0', k1', k2', k3', k4', k5'⟩ := ((hk.le l1).le l2).look
  go_wp2_with fail
  refine (m3 _ ((hl.trans l1).trans l2)).mono ?_
  rintro e w3 ⟨rfl, l3⟩
  go_wp2_with fail
  go_ret
  exact ⟨rfl, ((hl.trans l1).trans l2).trans l3⟩
set_option maxRecDepth 4000 in
set_option maxHeartbeats 8000000 in
theorem lookMayThread (c : Cfg) (q : Sl) (v : Value) (T : Th) (w : World) (hc : c.ok = true) (hx : HasT w v T) (hf : T.b.length * 8 ≤ 140737488351232) (hf2 : T.tl.length * 8 ≤ 140737488351232) :
   Calls Tryz.prog 100 #[lookV c q, v] w fun e w' => e = .returned (.bool (thB c T)) ∧ Le w w' := by
 obtain ⟨⟨ba, bn, bc⟩, t, rfl, i1, i2⟩ := hx
 obtain ⟨_, _, ⟨l0, l1'⟩, ⟨t0, t1⟩, _, _⟩ := Cfg.ok_cases hc
 have hb := Box.new (w.alloc (.cells (cellsK c q) 134)) (cellsT T (ba, bn, bc) t) 59
 have hk := (Box.new w (cellsK c q) 134).le (Le.alloc _ (.cells (cellsT T (ba, bn, bc) t) 59))
 rw [World.size_alloc] at hb
 have hl := (Le.alloc w (.cells (cellsK c q) 134)).trans (Le.alloc _ (.cells (cellsT T (ba, bn, bc) t) 59))
 have hlen := i1.len
 simp only at hlen
 have m1 := fun w' => startWithin T.st 0 19 w'
 have m2 := fun w' => operMay T.c T.r T.a w'
 have m3 := fun w' => startWithin T.lg 0 (c.l - 1) w'
 have m4 := fun w' => startMayPlace T.sn w'
 have m5 := fun w' (l : Le w w') => atMostNum 137 (lookV c q) (fun x => inB 0 x (c.t - 1)) (fun _ _ => by kernel_rfl) (slV (ba, bn, bc)) T.b c.t w' (fun w'' _ v x _ _ h => by rw [show v = .int .i64 x from h]; exact lookIsThread c q x w'' hc) (i1.le l) (by omega)
 have m6 := fun w' => startWithin T.pl 0 bn w'
 have m7 := fun w' (l : Le w w') => atMostNum0 135 (fun x => inB 0 x 1048576) (fun _ _ => by kernel_rfl) (slV t) T.tl c.l w' (fun w'' _ v x _ _ h => by rw [show v = .int .i64 x from h]; exact (startMayPlace x w'').mono (fun _ _ ⟨he, hw⟩ => ⟨he, by rw [hw]; exact Le.refl _⟩)) (i2.le l) (by omega)
 simp only [thB]
 rw [← hlen] at m5 ⊢
 clear hlen hf hf2 i1 i2 hc
 cases h1 : inB 0 T.st 19
 ·simp only [h1] at m1
  go_enter Tryz.func100, Tryz.ntmps100
  go_wp2_with fail
  refine (m1 _).mono ?_
  rintro e _ ⟨rfl, rfl⟩
  go_wp2_with fail
  go_ret
  exact ⟨rfl, hl⟩
 simp only [h1] at m1
 cases h2 : opMay T.c T.r T.a
 ·simp only [h2] at m2
  go_enter Tryz.func100, Tryz.ntmps100
  go_wp2_with fail
  refine (m1 _).mono ?_
  rintro e _ ⟨rfl, rfl⟩
  go_wp2_with fail
  refine (m2 _).mono ?_
  rintro e w1 ⟨rfl, n1⟩
  go_wp2_with fail
  go_ret
  exact ⟨rfl, hl.trans n1⟩
 simp only [h2] at m2
 cases h3 : inB 0 T.lg (c.l - 1)
 ·simp only [h3] at m3
  go_enter Tryz.func100, Tryz.ntmps100
  go_wp2_with fail
  refine (m1 _).mono ?_
  rintro e _ ⟨rfl, rfl⟩
  go_wp2_with fail
  refine (m2 _).mono ?_
  rintro e w1 ⟨rfl, n1⟩
  obtain ⟨b10, b11, b12, b13, b14, b15, b16, b17, b18, b19, b110, b111⟩ := (hb.le n1).th
  obtain ⟨k10, k11, k12, k13, k14, k15⟩ := (hk.le n1).look
  simp only [slV] at b16
  go_wp2_with fail
  refine (m3 _).mono ?_
  rintro e _ ⟨rfl, rfl⟩
  go_wp2_with fail
  go_ret
  exact ⟨rfl, hl.trans n1⟩
 simp only [h3] at m3
 cases h4 : inB 0 T.sn 1048576
 ·simp only [h4] at m4
  go_enter Tryz.func100, Tryz.ntmps100
  go_wp2_with fail
  refine (m1 _).mono ?_
  rintro e _ ⟨rfl, rfl⟩
  go_wp2_with fail
  refine (m2 _).mono ?_
  rintro e w1 ⟨rfl, n1⟩
  obtain ⟨b10, b11, b12, b13, b14, b15, b16, b17, b18, b19, b110, b111⟩ := (hb.le n1).th
  obtain ⟨k10, k11, k12, k13, k14, k15⟩ := (hk.le n1).look
  simp only [slV] at b16
  go_wp2_with fail
  refine (m3 _).mono ?_
  rintro e _ ⟨rfl, rfl⟩
  go_wp2_with fail
  refine (m4 _).mono ?_
  rintro e _ ⟨rfl, rfl⟩
  go_wp2_with fail
  go_ret
  exact ⟨rfl, hl.trans n1⟩
 simp only [h4] at m4
 cases h5 : (decide ((bn : Int) ≤ c.t) && T.b.all (fun x => inB 0 x (c.t - 1)))
 ·simp only [h5] at m5
  go_enter Tryz.func100, Tryz.ntmps100
  go_wp2_with fail
  refine (m1 _).mono ?_
  rintro e _ ⟨rfl, rfl⟩
  go_wp2_with fail
  refine (m2 _).mono ?_
  rintro e w1 ⟨rfl, n1⟩
  obtain ⟨b10, b11, b12, b13, b14, b15, b16, b17, b18, b19, b110, b111⟩ := (hb.le n1).th
  obtain ⟨k10, k11, k12, k13, k14, k15⟩ := (hk.le n1).look
  simp only [slV] at b16
  go_wp2_with fail
  refine (m3 _).mono ?_
  rintro e _ ⟨rfl, rfl⟩
  go_wp2_with fail
  refine (m4 _).mono ?_
  rintro e _ ⟨rfl, rfl⟩
  go_wp2_with fail
  refine (m5 _ (hl.trans n1)).mono ?_
  rintro e w2 ⟨rfl, n2⟩
  go_wp2_with fail
  go_ret
  exact ⟨rfl, (hl.trans n1).trans n2⟩
 simp only [h5] at m5
 cases h6 : inB 0 T.pl bn
 ·simp only [h6] at m6
  go_enter Tryz.func100, Tryz.ntmps100
  go_wp2_with fail
  refine (m1 _).mono ?_
  rintro e _ ⟨rfl, rfl⟩
  go_wp2_with fail
  refine (m2 _).mono ?_
  rintro e w1 ⟨rfl, n1⟩
  obtain ⟨b10, b11, b12, b13, b14, b15, b16, b17, b18, b19, b110, b111⟩ := (hb.le n1).th
  obtain ⟨k10, k11, k12, k13, k14, k15⟩ := (hk.le n1).look
  simp only [slV] at b16
  go_wp2_with fail
  refine (m3 _).mono ?_
  rintro e _ ⟨rfl, rfl⟩
  go_wp2_with fail
  refine (m4 _).mono ?_
  rintro e _ ⟨rfl, rfl⟩
  go_wp2_with fail
  refine (m5 _ (hl.trans n1)).mono ?_
  rintro e w2 ⟨rfl, n2⟩
  obtain ⟨b20, b21, b22, b23, b24, b25, b26, b27, b28, b29, b210, b211⟩ := ((hb.le n1).le n2).th
  obtain ⟨k20, k21, k22, k23, k24, k25⟩ := ((hk.le n1).le n2).look
  simp only [slV] at b26
  go_wp2_with fail
  refine (m6 _).mono ?_
  rintro e _ ⟨rfl, rfl⟩
  go_wp2_with fail
  go_ret
  exact ⟨rfl, (hl.trans n1).trans n2⟩
 simp only [h6] at m6
 go_enter Tryz.func100, Tryz.ntmps100
 go_wp2_with fail
 refine (m1 _).mono ?_
 rintro e _ ⟨rfl, rfl⟩
 go_wp2_with fail
 refine (m2 _).mono ?_
 rintro e w1 ⟨rfl, n1⟩
 obtain ⟨b10, b11, b12, b13, b14, b15, b16, b17, b18, b19, b110, b111⟩ := (hb.le n1).th
 obtain ⟨k10, k11, k12, k13, k14, k15⟩ := (hk.le n1).look
 simp only [slV] at b16
 go_wp2_with fail
 refine (m3 _).mono ?_
 rintro e _ ⟨rfl, rfl⟩
 go_wp2_with fail
 refine (m4 _).mono ?_
 rintro e _ ⟨rfl, rfl⟩
 go_wp2_with fail
 refine (m5 _ (hl.trans n1)).mono ?_
 rintro e w2 ⟨rfl, n2⟩
 obtain ⟨b20, b21, b22, b23, b24, b25, b26, b27, b28, b29, b210, b211⟩ := ((hb.le n1).le n2).th
 obtain ⟨k20, k21, k22, k23, k24, k25⟩ := ((hk.le n1).le n2).look
 simp only [slV] at b26
 go_wp2_with fail
 refine (m6 _).mono ?_
 rintro e _ ⟨rfl, rfl⟩
 go_wp2_with fail
 refine (m7 _ ((hl.trans n1).trans n2)).mono ?_
 rintro e w3 ⟨rfl, n3⟩
 go_wp2_with fail
 go_ret
 exact ⟨rfl, ((hl.trans n1).trans n2).trans n3⟩
set_option maxRecDepth 4000 in
set_option maxHeartbeats 8000000 in
theorem startMay (v : Value) (M : Mc) (w : World) (hx : HasM w v M) (hf : FitM M) : Calls Tryz.prog 60 #[v] w fun e w' => e = .returned (.bool (mayM M)) ∧ Le w w' := by
 obtain ⟨c, Rs, Ps, Ts, Es⟩ := M
 obtain ⟨qR, qP, qT, qH, rfl, hR, hP, hT, hH⟩ := hx
 obtain ⟨f1, f2, f3, f4, fr, fp, ft⟩ := hf
 simp only at hR hP hT hH f1 f2 f3 f4 fr fp ft
 have hb := (Box.new w (cells9 c qR qP qT qH) 29).le (Le.alloc _ (.cells (cellsK c qR) 134))
 have hk := Box.new (w.alloc (.cells (cells9 c qR qP qT qH) 29)) (cellsK c qR) 134
 rw [World.size_alloc] at hk
 have hl := (Le.alloc w (.cells (cells9 c qR qP qT qH) 29)).trans (Le.alloc _ (.cells (cellsK c qR) 134))
 have m1 := fun w' => cfgMay c.o c.r c.l c.t c.s w'
 simp only [mayM, Cfg.ok]
 cases h1 : cfgB c.o c.r c.l c.t c.s
 ·simp only [h1] at m1
  go_enter Tryz.func60, Tryz.ntmps60
  go_wp2_with fail
  refine (m1 _).mono ?_
  rintro e w1 ⟨rfl, n1⟩
  go_wp2_with fail
  go_ret
  exact ⟨rfl, hl.trans n1⟩
 have hc : c.ok = true := h1
 simp only [h1] at m1
 have m2 := fun w' (l : Le w w') => exactlyRing 96 (lookV c qR) (ringB c) (fun _ _ => by kernel_rfl) (slV qR) Rs c.l w' (fun w'' _ u R hm _ h => lookMayRing c qR u R w'' hc h (fr R hm)) (hR.le l) (by omega)
 cases h2 : (decide ((Rs.length : Int) = c.l) && Rs.all (ringB c))
 ·simp only [h2] at m2
  go_enter Tryz.func60, Tryz.ntmps60
  go_wp2_with fail
  refine (m1 _).mono ?_
  rintro e w1 ⟨rfl, n1⟩
  obtain ⟨_, b5, b6, b7, b8⟩ := (hb.le n1).mach
  obtain ⟨k0, k1, k2, k3, k4, k5⟩ := (hk.le n1).look
  go_wp2_with fail
  refine (m2 _ (hl.trans n1)).mono ?_
  rintro e w2 ⟨rfl, n2⟩
  go_wp2_with fail
  go_ret
  exact ⟨rfl, (hl.trans n1).trans n2⟩
 simp only [h2] at m2
 have hn : (Rs.length : Int) = c.l := by simp at h2; exact h2.1
 have m3 := fun w' (l : Le w w') => exactlyRep 98 (lookV c qR) (repB c Rs) (fun _ _ => by kernel_rfl) (slV qP) Ps c.r w' (fun w'' l' u P hm _ h => lookMayReplica c qR u Rs P w'' (hR.le (l.trans l')) f1 hn h (fp P hm).1 (fp P hm).2.2) (hP.le l) (by omega)
 clear hn
 cases h3 : (decide ((Ps.length : Int) = c.r) && Ps.all (repB c Rs))
 ·simp only [h3] at m3
  go_enter Tryz.func60, Tryz.ntmps60
  go_wp2_with fail
  refine (m1 _).mono ?_
  rintro e w1 ⟨rfl, n1⟩
  obtain ⟨_, b5, b6, b7, b8⟩ := (hb.le n1).mach
  obtain ⟨k0, k1, k2, k3, k4, k5⟩ := (hk.le n1).look
  go_wp2_with fail
  refine (m2 _ (hl.trans n1)).mono ?_
  rintro e w2 ⟨rfl, n2⟩
  obtain ⟨_, b5', b6', b7', b8'⟩ := ((hb.le n1).le n2).mach
  obtain ⟨k0', k1', k2', k3', k4', k5'⟩ := ((hk.le n1).le n2).look
  go_wp2_with fail
  refine (m3 _ ((hl.trans n1).trans n2)).mono ?_
  rintro e w3 ⟨rfl, n3⟩
  go_wp2_with fail
  go_ret
  exact ⟨rfl, ((hl.trans n1).trans n2).trans n3⟩
 simp only [h3] at m3
 have m4 := fun w' (l : Le w w') => exactlyTh 100 (lookV c qR) (thB c) (fun _ _ => by kernel_rfl) (slV qT) Ts c.t w' (fun w'' _ u T hm _ h => lookMayThread c qR u T w'' hc h (ft T hm).1 (ft T hm).2) (hT.le l) (by omega)
 cases h4 : (decide ((Ts.length : Int) = c.t) && Ts.all (thB c))
 ·simp only [h4] at m4
  go_enter Tryz.func60, Tryz.ntmps60
  go_wp2_with fail
  refine (m1 _).mono ?_
  rintro e w1 ⟨rfl, n1⟩
  obtain ⟨_, b5, b6, b7, b8⟩ := (hb.le n1).mach
  obtain ⟨k0, k1, k2, k3, k4, k5⟩ := (hk.le n1).look
  go_wp2_with fail
  refine (m2 _ (hl.trans n1)).mono ?_
  rintro e w2 ⟨rfl, n2⟩
  obtain ⟨_, b5', b6', b7', b8'⟩ := ((hb.le n1).le n2).mach
  obtain ⟨k0', k1', k2', k3', k4', k5'⟩ := ((hk.le n1).le n2).look
  go_wp2_with fail
  refine (m3 _ ((hl.trans n1).trans n2)).mono ?_
  rintro e w3 ⟨rfl, n3⟩
  obtain ⟨_, _, b6'', b7'', b8''⟩ := (((hb.le n1).le n2).le n3).mach
  obtain ⟨k0'', k1'', k2'', k3'', k4'', k5''⟩ := (((hk.le n1).le n2).le n3).look
  go_wp2_with fail
  refine (m4 _ (((hl.trans n1).trans n2).trans n3)).mono ?_
  rintro e w4 ⟨rfl, n4⟩
  go_wp2_with fail
  go_ret
  exact ⟨rfl, (((hl.trans n1).trans n2).trans n3).trans n4⟩
 simp only [h4] at m4
 have m5 := fun w' (l : Le w w') => atMostEv 102 (lookV c qR) (evB c) (fun _ _ => by kernel_rfl) (slV qH) Es 64 w' (fun w'' _ u E hm _ h => by rw [show u = evV E from h]; exact lookMayEvent c qR E w'' hc) (hH.le l) (by omega)
 go_enter Tryz.func60, Tryz.ntmps60
 go_wp2_with fail
 refine (m1 _).mono ?_
 rintro e w1 ⟨rfl, n1⟩
 obtain ⟨_, b5, b6, b7, b8⟩ := (hb.le n1).mach
 obtain ⟨k0, k1, k2, k3, k4, k5⟩ := (hk.le n1).look
 go_wp2_with fail
 refine (m2 _ (hl.trans n1)).mono ?_
 rintro e w2 ⟨rfl, n2⟩
 obtain ⟨_, b5', b6', b7', b8'⟩ := ((hb.le n1).le n2).mach
 obtain ⟨k0', k1', k2', k3', k4', k5'⟩ := ((hk.le n1).le n2).look
 go_wp2_with fail
 refine (m3 _ ((hl.trans n1).trans n2)).mono ?_
 rintro e w3 ⟨rfl, n3⟩
 obtain ⟨_, _, b6'', b7'', b8''⟩ := (((hb.le n1).le n2).le n3).mach
 obtain ⟨k0'', k1'', k2'', k3'', k4'', k5''⟩ := (((hk.le n1).le n2).le n3).look
 go_wp2_with fail
 refine (m4 _ (((hl.trans n1).trans n2).trans n3)).mono ?_
 rintro e w4 ⟨rfl, n4⟩
 have b9 := ((((hb.le n1).le n2).le n3).le n4).mach.2.2.2.2
 obtain ⟨j0, j1, j2, j3, j4, j5⟩ := ((((hk.le n1).le n2).le n3).le n4).look
 go_wp2_with fail
 refine (m5 _ ((((hl.trans n1).trans n2).trans n3).trans n4)).mono ?_
 rintro e w5 ⟨rfl, n5⟩
 go_wp2_with fail
 go_ret
 exact ⟨rfl, ((((hl.trans n1).trans n2).trans n3).trans n4).trans n5⟩
theorem copyMachineAs (v : Value) (M : Mc) (w : World) (hx : HasM w v M) (hf : FitM M) : Calls Tryz.prog 8 #[v] w fun e w' => ∃ qR qP qT qH, e = .returned (machV M.c qR qP qT qH) ∧ OwnM w' w.heap.size (machV M.c qR qP qT qH) M ∧ Le w w' := by
 refine (lawCopyMachine v M w hx hf).mono ?_
 rintro e w' ⟨L, rfl, rfl, o, _, l⟩
 exact ⟨_, _, _, _, rfl, ⟨L, rfl, rfl, o⟩, l⟩
theorem HasM.lens {w : World} {M : Mc} {c : Cfg} {a b d e : Sl} (h : HasM w (machV c a b d e) M) : a.2.1 = M.rs.length ∧ b.2.1 = M.ps.length ∧ d.2.1 = M.ts.length ∧ e.2.1 = M.es.length := by
 obtain ⟨qR, qP, qT, qH, hv, h1, h2, h3, h4⟩ := h
 simp only [machV, cells9, Value.agg.injEq, Array.mk.injEq, List.cons.injEq] at hv
 obtain ⟨_, _, _, _, _, e5, e6, e7, e8, _⟩ := hv
 refine ⟨HasRs.len (w := w) (by rw [e5]; exact h1), HasPs.len (w := w) (by rw [e6]; exact h2), HasTs.len (w := w) (by rw [e7]; exact h3), HasE.len (K := evK) (w := w) (by rw [e8]; exact h4)⟩
set_option maxRecDepth 8000 in
set_option maxHeartbeats 4000000 in
theorem begun18 (w : World) : Calls Tryz.prog 20 #[] w fun e w' => ∃ qR qP qT qH, e = .returned (machV begC qR qP qT qH) ∧ OwnM w' w.heap.size (machV begC qR qP qT qH) begM ∧ Le w w' := by
 have hr := Box.new w cellsZ9 29
 have hl := Le.alloc w (.cells cellsZ9 29)
 go_enter Tryz.func20, Tryz.ntmps20
 go_upto_region 1 with fail
 generalize hW : w.alloc (.cells cellsZ9 29) = W at hl hr ⊢
 clear hW
 go_wp2_with fail
 refine (begNew _).mono ?_
 rintro e w1 ⟨qR, qP, qT, qH, rfl, o, l1⟩
 replace hr := hr.le l1
 have ho := (o.base hl.size)
 replace hl := hl.trans l1
 clear o l1
 have hb := Box.new w1 (cells9 begC qR qP qT qH) 29
 have a1 := Le.alloc w1 (.cells (cells9 begC qR qP qT qH) 29)
 go_upto_region 2 with fail
 generalize hW1 : w1.alloc (.cells (cells9 begC qR qP qT qH) 29) = W1 at hb a1 ⊢
 generalize w1.heap.size = g1 at hb ⊢
 clear hW1
 replace hr := hr.le a1
 replace ho := ho.le a1
 replace hl := hl.trans a1
 clear a1
 obtain ⟨⟨z0, z1, z2, z3, z4⟩, z5, z6, z7, z8⟩ := (hb).mach
 obtain ⟨⟨r0, r1, r2, r3, r4, r5, r6, r7, r8⟩, k0, k1, k2, k3, k4, k5, k6, k7, k8⟩ := hr.res
 go_wp2_with fail
 refine bodyPost_ret (v := machV begC qR qP qT qH) (by simp [results, Tryz.results20, go_sem, r0, r1, r2, r3, r4, r5, r6, r7, r8]) rfl ⟨qR, qP, qT, qH, rfl, ?_, hl.put9 (g := w.heap.size) (Nat.le_refl _) begC qR qP qT qH⟩
 obtain ⟨L, hv, hm, ho⟩ := ho
 exact ⟨L, hv, hm, ho.put9 hr begC qR qP qT qH⟩
set_option maxRecDepth 8000 in
set_option maxHeartbeats 4000000 in
theorem called18 (w : World) : Calls Tryz.prog 55 #[] w fun e w' => ∃ qR qP qT qH, e = .returned (machV begC qR qP qT qH) ∧ OwnA w' w.heap.size (machV begC qR qP qT qH) cldM ∧ Le w w' := by
 have hr := Box.new w cellsZ9 29
 have hl := Le.alloc w (.cells cellsZ9 29)
 go_enter Tryz.func55, Tryz.ntmps55
 go_upto_region 1 with fail
 generalize hW : w.alloc (.cells cellsZ9 29) = W at hl hr ⊢
 clear hW
 go_wp2_with fail
 refine (begun18 _).mono ?_
 rintro e w0 ⟨pR, pP, pT, pH, rfl, o0, l0⟩
 replace hr := hr.le l0
 replace hl := hl.trans l0
 clear l0
 go_wp2_with fail
 refine (begCall _ _ o0.has).mono ?_
 rintro e w1 ⟨qR, qP, qT, qH, rfl, o, l1⟩
 clear o0
 replace hr := hr.le l1
 have ho := (o.base hl.size)
 replace hl := hl.trans l1
 clear o l1
 have hb := Box.new w1 (cells9 begC qR qP qT qH) 29
 have a1 := Le.alloc w1 (.cells (cells9 begC qR qP qT qH) 29)
 go_upto_region 2 with fail
 generalize hW1 : w1.alloc (.cells (cells9 begC qR qP qT qH) 29) = W1 at hb a1 ⊢
 generalize w1.heap.size = g1 at hb ⊢
 clear hW1
 replace hr := hr.le a1
 replace ho := ho.le a1
 replace hl := hl.trans a1
 clear a1
 obtain ⟨⟨z0, z1, z2, z3, z4⟩, z5, z6, z7, z8⟩ := (hb).mach
 obtain ⟨⟨r0, r1, r2, r3, r4, r5, r6, r7, r8⟩, k0, k1, k2, k3, k4, k5, k6, k7, k8⟩ := hr.res
 go_wp2_with fail
 refine bodyPost_ret (v := machV begC qR qP qT qH) (by simp [results, Tryz.results55, go_sem, r0, r1, r2, r3, r4, r5, r6, r7, r8]) rfl ⟨qR, qP, qT, qH, rfl, ?_, hl.put9 (g := w.heap.size) (Nat.le_refl _) begC qR qP qT qH⟩
 obtain ⟨L, hv, hm, ho, ha⟩ := ho
 exact ⟨L, hv, hm, ho.put9 hr begC qR qP qT qH, ha⟩
end Go.Proofs.YtepplhbajmlbpaaGreat
