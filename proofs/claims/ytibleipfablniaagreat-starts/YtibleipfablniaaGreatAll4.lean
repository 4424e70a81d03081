/-
  PARTS LAID TOGETHER, each with its own opening: LoC, LoD, NwAwake, RfB, CfR, RmA, RefCp, RefStA, RefSum, RefApp0, RefRow1, RefRow2, RefApp1, RefRow3, RefApp2, RefObj.
-/
import Derived.Test.YtibleipfablniaaGreatAll3
import Derived.Test.YtibleipfablniaaGreatAll2
import Derived.Test.YtibleipfablniaaGreatAll1
import Derived.Deep.RegionHeld3
import Derived.Deep.Cut
/-
  THE WALKS over package start's looker (mayReplica, mayThread) and May: what each answers, for every machine. Condition: that its rows can be copied.
-/
namespace Go.Proofs.YtibleipfablniaaGreat
open Go.RowKit

set_option maxHeartbeats 4000000 in
theorem lookMayReplica (c : Cfg) (q : Sl) (v : Value) (Rs : List Rg) (P : Rp) (w : World) (hR : HasRs w (slV q) Rs) (hm : Rs.length * 48 ≤ 140737488351232) (hn : (Rs.length : Int) = c.l) (hx : HasP w v P) (hf : Fit P.s) (hf2 : P.ls.length * 8 ≤ 140737488351232) :
    Calls Tryz.prog 29 #[lookV c q, v] w fun e w' => e = .returned (.bool (repB c Rs P)) ∧ Le w w' := by
  obtain ⟨vs, qc, ql, rfl, i0, i1, i2⟩ := hx
  have hb := Box.new (w.alloc (.cells (cellsK c q) 75)) (cellsP vs qc ql) 56
  have hk := (Box.new w (cellsK c q) 75).le (Le.alloc _ (.cells (cellsP vs qc ql) 56))
  rw [World.size_alloc] at hb
  have hl := (Le.alloc w (.cells (cellsK c q) 75)).trans (Le.alloc _ (.cells (cellsP vs qc ql) 56))
  have m1 := objMayC c.o (stV vs) P.s _ (HasS.le ⟨vs, rfl, i0⟩ hl) hf
  have hlen := i1.len
  have m2 := fun w' (l : Le w w') (hh : P.cs.length = Rs.length) => lookMayCursors c q (slV qc) Rs P.cs w' (hR.le l) (i1.le l) hh hm
  have m3 := fun w' (l : Le w w') => exactlyNum 53 (lookV c q) (fun x => inB 0 x c.t) (fun _ _ => by kernel_rfl) (slV ql) P.ls c.l w' (fun w'' _ v x _ _ h => by rw [show v = .int .i64 x from h]; exact lookMayHolder c q x w'') (i2.le l) (by omega)
  simp only [repB]
  obtain ⟨ua, n, ucap⟩ := qc
  simp only at hlen
  have HN : Hid (n = P.cs.length) := hlen
  rw [← hlen]
  clear hlen hf hf2 i0 i1 i2
  cases h1 : objMay c.o P.s
  · rw [h1] at m1
    go_enter Tryz.func29, Tryz.ntmps29
    go_wp2_with fail
    refine m1.mono ?_
    rintro e w1 ⟨rfl, l1⟩
    go_wp2_with fail
    go_ret
    exact ⟨rfl, hl.trans l1⟩
  rw [h1] at m1
  by_cases h2 : (n : Int) = c.l
  case neg =>
    have h2b : ((n : Int) == c.l) = false := by simp [h2]
    rw [decide_eq_false h2]
    clear h2
    go_enter Tryz.func29, Tryz.ntmps29
    go_wp2_with fail
    refine m1.mono ?_
    rintro e w1 ⟨rfl, l1⟩
    obtain ⟨b0, b1, b2, b3, b4, b5⟩ := (hb.le l1).rep
    obtain ⟨k0, k1, k2, k3, k4, k5⟩ := (hk.le l1).look
    simp only [slV] at b4
    go_wp2_with fail
    go_ret
    exact ⟨rfl, hl.trans l1⟩
  have h2b : ((n : Int) == c.l) = true := by simp [h2]
  replace m2 := fun w' (l : Le w w') => m2 w' l (by have := HN.out; omega)
  rw [decide_eq_true h2]
  clear h2 hn
  cases h3 : cursOK Rs P.cs
  · simp only [h3] at m2
    go_enter Tryz.func29, Tryz.ntmps29
    go_wp2_with fail
    refine m1.mono ?_
    rintro e w1 ⟨rfl, l1⟩
    obtain ⟨b0, b1, b2, b3, b4, b5⟩ := (hb.le l1).rep
    obtain ⟨k0, k1, k2, k3, k4, k5⟩ := (hk.le l1).look
    simp only [slV] at b4
    go_wp2_with fail
    refine (m2 _ (hl.trans l1)).mono ?_
    rintro e w2 ⟨rfl, l2⟩
    go_wp2_with fail
    go_ret
    exact ⟨rfl, (hl.trans l1).trans l2⟩
  · simp only [h3] at m2
    go_enter Tryz.func29, Tryz.ntmps29
    go_wp2_with fail
    refine m1.mono ?_
    rintro e w1 ⟨rfl, l1⟩
    obtain ⟨b0, b1, b2, b3, b4, b5⟩ := (hb.le l1).rep
    obtain ⟨k0, k1, k2, k3, k4, k5⟩ := (hk.le l1).look
    simp only [slV] at b4
    go_wp2_with fail
    refine (m2 _ (hl.trans l1)).mono ?_
    rintro e w2 ⟨rfl, l2⟩
    obtain ⟨_, _, _, _, _, b5'⟩ := ((hb.le l1).le l2).rep
    obtain ⟨k0', k1', k2', k3', k4', k5'⟩ := ((hk.le l1).le l2).look
    go_wp2_with fail
    refine (m3 _ ((hl.trans l1).trans l2)).mono ?_
    rintro e w3 ⟨rfl, l3⟩
    go_wp2_with fail
    go_ret
    exact ⟨rfl, ((hl.trans l1).trans l2).trans l3⟩

set_option maxRecDepth 4000 in
set_option maxHeartbeats 8000000 in
theorem lookMayThread (c : Cfg) (q : Sl) (v : Value) (T : Th) (w : World) (hc : c.ok = true) (hx : HasT w v T) (hf : T.b.length * 8 ≤ 140737488351232) (hf2 : T.tl.length * 8 ≤ 140737488351232) :
    Calls Tryz.prog 31 #[lookV c q, v] w fun e w' => e = .returned (.bool (thB c T)) ∧ Le w w' := by
  obtain ⟨⟨ba, bn, bc⟩, t, rfl, i1, i2⟩ := hx
  obtain ⟨_, _, ⟨l0, l1'⟩, ⟨t0, t1⟩, _, _⟩ := Cfg.ok_cases hc
  have hb := Box.new (w.alloc (.cells (cellsK c q) 75)) (cellsT T (ba, bn, bc) t) 58
  have hk := (Box.new w (cellsK c q) 75).le (Le.alloc _ (.cells (cellsT T (ba, bn, bc) t) 58))
  rw [World.size_alloc] at hb
  have hl := (Le.alloc w (.cells (cellsK c q) 75)).trans (Le.alloc _ (.cells (cellsT T (ba, bn, bc) t) 58))
  have hlen := i1.len
  simp only at hlen
  have m1 := fun w' => startWithin T.st 0 19 w'
  have m2 := fun w' => operMay T.c T.r T.a w'
  have m3 := fun w' => startWithin T.lg 0 (c.l - 1) w'
  have m4 := fun w' => startMayPlace T.sn w'
  have m5 := fun w' (l : Le w w') => atMostNum 65 (lookV c q) (fun x => inB 0 x (c.t - 1)) (fun _ _ => by kernel_rfl) (slV (ba, bn, bc)) T.b c.t w' (fun w'' _ v x _ _ h => by rw [show v = .int .i64 x from h]; exact lookIsThread c q x w'' hc) (i1.le l) (by omega)
  have m6 := fun w' => startWithin T.pl 0 bn w'
  have m7 := fun w' (l : Le w w') => atMostNum0 63 (fun x => inB 0 x 1048576) (fun _ _ => by kernel_rfl) (slV t) T.tl c.l w' (fun w'' _ v x _ _ h => by rw [show v = .int .i64 x from h]; exact (startMayPlace x w'').mono (fun _ _ ⟨he, hw⟩ => ⟨he, by rw [hw]; exact Le.refl _⟩)) (i2.le l) (by omega)
  simp only [thB]
  rw [← hlen] at m5 ⊢
  clear hlen hf hf2 i1 i2 hc
  cases h1 : inB 0 T.st 19
  · simp only [h1] at m1
    go_enter Tryz.func31, Tryz.ntmps31
    go_wp2_with fail
    refine (m1 _).mono ?_
    rintro e _ ⟨rfl, rfl⟩
    go_wp2_with fail
    go_ret
    exact ⟨rfl, hl⟩
  simp only [h1] at m1
  cases h2 : opMay T.c T.r T.a
  · simp only [h2] at m2
    go_enter Tryz.func31, Tryz.ntmps31
    go_wp2_with fail
    refine (m1 _).mono ?_
    rintro e _ ⟨rfl, rfl⟩
    go_wp2_with fail
    refine (m2 _).mono ?_
    rintro e w1 ⟨rfl, n1⟩
    go_wp2_with fail
    go_ret
    exact ⟨rfl, hl.trans n1⟩
  simp only [h2] at m2
  cases h3 : inB 0 T.lg (c.l - 1)
  · simp only [h3] at m3
    go_enter Tryz.func31, Tryz.ntmps31
    go_wp2_with fail
    refine (m1 _).mono ?_
    rintro e _ ⟨rfl, rfl⟩
    go_wp2_with fail
    refine (m2 _).mono ?_
    rintro e w1 ⟨rfl, n1⟩
    obtain ⟨b10, b11, b12, b13, b14, b15, b16, b17, b18, b19, b110, b111⟩ := (hb.le n1).th
    obtain ⟨k10, k11, k12, k13, k14, k15⟩ := (hk.le n1).look
    simp only [slV] at b16
    go_wp2_with fail
    refine (m3 _).mono ?_
    rintro e _ ⟨rfl, rfl⟩
    go_wp2_with fail
    go_ret
    exact ⟨rfl, hl.trans n1⟩
  simp only [h3] at m3
  cases h4 : inB 0 T.sn 1048576
  · simp only [h4] at m4
    go_enter Tryz.func31, Tryz.ntmps31
    go_wp2_with fail
    refine (m1 _).mono ?_
    rintro e _ ⟨rfl, rfl⟩
    go_wp2_with fail
    refine (m2 _).mono ?_
    rintro e w1 ⟨rfl, n1⟩
    obtain ⟨b10, b11, b12, b13, b14, b15, b16, b17, b18, b19, b110, b111⟩ := (hb.le n1).th
    obtain ⟨k10, k11, k12, k13, k14, k15⟩ := (hk.le n1).look
    simp only [slV] at b16
    go_wp2_with fail
    refine (m3 _).mono ?_
    rintro e _ ⟨rfl, rfl⟩
    go_wp2_with fail
    refine (m4 _).mono ?_
    rintro e _ ⟨rfl, rfl⟩
    go_wp2_with fail
    go_ret
    exact ⟨rfl, hl.trans n1⟩
  simp only [h4] at m4
  cases h5 : (decide ((bn : Int) ≤ c.t) && T.b.all (fun x => inB 0 x (c.t - 1)))
  · simp only [h5] at m5
    go_enter Tryz.func31, Tryz.ntmps31
    go_wp2_with fail
    refine (m1 _).mono ?_
    rintro e _ ⟨rfl, rfl⟩
    go_wp2_with fail
    refine (m2 _).mono ?_
    rintro e w1 ⟨rfl, n1⟩
    obtain ⟨b10, b11, b12, b13, b14, b15, b16, b17, b18, b19, b110, b111⟩ := (hb.le n1).th
    obtain ⟨k10, k11, k12, k13, k14, k15⟩ := (hk.le n1).look
    simp only [slV] at b16
    go_wp2_with fail
    refine (m3 _).mono ?_
    rintro e _ ⟨rfl, rfl⟩
    go_wp2_with fail
    refine (m4 _).mono ?_
    rintro e _ ⟨rfl, rfl⟩
    go_wp2_with fail
    refine (m5 _ (hl.trans n1)).mono ?_
    rintro e w2 ⟨rfl, n2⟩
    go_wp2_with fail
    go_ret
    exact ⟨rfl, (hl.trans n1).trans n2⟩
  simp only [h5] at m5
  cases h6 : inB 0 T.pl bn
  · simp only [h6] at m6
    go_enter Tryz.func31, Tryz.ntmps31
    go_wp2_with fail
    refine (m1 _).mono ?_
    rintro e _ ⟨rfl, rfl⟩
    go_wp2_with fail
    refine (m2 _).mono ?_
    rintro e w1 ⟨rfl, n1⟩
    obtain ⟨b10, b11, b12, b13, b14, b15, b16, b17, b18, b19, b110, b111⟩ := (hb.le n1).th
    obtain ⟨k10, k11, k12, k13, k14, k15⟩ := (hk.le n1).look
    simp only [slV] at b16
    go_wp2_with fail
    refine (m3 _).mono ?_
    rintro e _ ⟨rfl, rfl⟩
    go_wp2_with fail
    refine (m4 _).mono ?_
    rintro e _ ⟨rfl, rfl⟩
    go_wp2_with fail
    refine (m5 _ (hl.trans n1)).mono ?_
    rintro e w2 ⟨rfl, n2⟩
    obtain ⟨b20, b21, b22, b23, b24, b25, b26, b27, b28, b29, b210, b211⟩ := ((hb.le n1).le n2).th
    obtain ⟨k20, k21, k22, k23, k24, k25⟩ := ((hk.le n1).le n2).look
    simp only [slV] at b26
    go_wp2_with fail
    refine (m6 _).mono ?_
    rintro e _ ⟨rfl, rfl⟩
    go_wp2_with fail
    go_ret
    exact ⟨rfl, (hl.trans n1).trans n2⟩
  simp only [h6] at m6
  go_enter Tryz.func31, Tryz.ntmps31
  go_wp2_with fail
  refine (m1 _).mono ?_
  rintro e _ ⟨rfl, rfl⟩
  go_wp2_with fail
  refine (m2 _).mono ?_
  rintro e w1 ⟨rfl, n1⟩
  obtain ⟨b10, b11, b12, b13, b14, b15, b16, b17, b18, b19, b110, b111⟩ := (hb.le n1).th
  obtain ⟨k10, k11, k12, k13, k14, k15⟩ := (hk.le n1).look
  simp only [slV] at b16
  go_wp2_with fail
  refine (m3 _).mono ?_
  rintro e _ ⟨rfl, rfl⟩
  go_wp2_with fail
  refine (m4 _).mono ?_
  rintro e _ ⟨rfl, rfl⟩
  go_wp2_with fail
  refine (m5 _ (hl.trans n1)).mono ?_
  rintro e w2 ⟨rfl, n2⟩
  obtain ⟨b20, b21, b22, b23, b24, b25, b26, b27, b28, b29, b210, b211⟩ := ((hb.le n1).le n2).th
  obtain ⟨k20, k21, k22, k23, k24, k25⟩ := ((hk.le n1).le n2).look
  simp only [slV] at b26
  go_wp2_with fail
  refine (m6 _).mono ?_
  rintro e _ ⟨rfl, rfl⟩
  go_wp2_with fail
  refine (m7 _ ((hl.trans n1).trans n2)).mono ?_
  rintro e w3 ⟨rfl, n3⟩
  go_wp2_with fail
  go_ret
  exact ⟨rfl, ((hl.trans n1).trans n2).trans n3⟩

end Go.Proofs.YtibleipfablniaaGreat

/-
  THE WALK over package start's May: what it answers, for every machine. Condition: that its rows can be copied.
-/
namespace Go.Proofs.YtibleipfablniaaGreat
open Go.RowKit

set_option maxRecDepth 4000 in
set_option maxHeartbeats 8000000 in
theorem startMay (v : Value) (M : Mc) (w : World) (hx : HasM w v M) (hf : FitM M) : Calls Tryz.prog 10 #[v] w fun e w' => e = .returned (.bool (mayM M)) ∧ Le w w' := by
  obtain ⟨c, Rs, Ps, Ts, Es⟩ := M
  obtain ⟨qR, qP, qT, qH, rfl, hR, hP, hT, hH⟩ := hx
  obtain ⟨f1, f2, f3, f4, fr, fp, ft⟩ := hf
  simp only at hR hP hT hH f1 f2 f3 f4 fr fp ft
  have hb := (Box.new w (cells9 c qR qP qT qH) 29).le (Le.alloc _ (.cells (cellsK c qR) 75))
  have hk := Box.new (w.alloc (.cells (cells9 c qR qP qT qH) 29)) (cellsK c qR) 75
  rw [World.size_alloc] at hk
  have hl := (Le.alloc w (.cells (cells9 c qR qP qT qH) 29)).trans (Le.alloc _ (.cells (cellsK c qR) 75))
  have m1 := fun w' => cfgMay c.o c.r c.l c.t c.s w'
  simp only [mayM, Cfg.ok]
  cases h1 : cfgB c.o c.r c.l c.t c.s
  · simp only [h1] at m1
    go_enter Tryz.func10, Tryz.ntmps10
    go_wp2_with fail
    refine (m1 _).mono ?_
    rintro e w1 ⟨rfl, n1⟩
    go_wp2_with fail
    go_ret
    exact ⟨rfl, hl.trans n1⟩
  have hc : c.ok = true := h1
  simp only [h1] at m1
  have m2 := fun w' (l : Le w w') => exactlyRing 27 (lookV c qR) (ringB c) (fun _ _ => by kernel_rfl) (slV qR) Rs c.l w' (fun w'' _ u R hm _ h => lookMayRing c qR u R w'' hc h (fr R hm)) (hR.le l) (by omega)
  cases h2 : (decide ((Rs.length : Int) = c.l) && Rs.all (ringB c))
  · simp only [h2] at m2
    go_enter Tryz.func10, Tryz.ntmps10
    go_wp2_with fail
    refine (m1 _).mono ?_
    rintro e w1 ⟨rfl, n1⟩
    obtain ⟨_, b5, b6, b7, b8⟩ := (hb.le n1).mach
    obtain ⟨k0, k1, k2, k3, k4, k5⟩ := (hk.le n1).look
    go_wp2_with fail
    refine (m2 _ (hl.trans n1)).mono ?_
    rintro e w2 ⟨rfl, n2⟩
    go_wp2_with fail
    go_ret
    exact ⟨rfl, (hl.trans n1).trans n2⟩
  simp only [h2] at m2
  have hn : (Rs.length : Int) = c.l := by simp at h2; exact h2.1
  have m3 := fun w' (l : Le w w') => exactlyRep 29 (lookV c qR) (repB c Rs) (fun _ _ => by kernel_rfl) (slV qP) Ps c.r w' (fun w'' l' u P hm _ h => lookMayReplica c qR u Rs P w'' (hR.le (l.trans l')) f1 hn h (fp P hm).1 (fp P hm).2.2) (hP.le l) (by omega)
  clear hn
  cases h3 : (decide ((Ps.length : Int) = c.r) && Ps.all (repB c Rs))
  · simp only [h3] at m3
    go_enter Tryz.func10, Tryz.ntmps10
    go_wp2_with fail
    refine (m1 _).mono ?_
    rintro e w1 ⟨rfl, n1⟩
    obtain ⟨_, b5, b6, b7, b8⟩ := (hb.le n1).mach
    obtain ⟨k0, k1, k2, k3, k4, k5⟩ := (hk.le n1).look
    go_wp2_with fail
    refine (m2 _ (hl.trans n1)).mono ?_
    rintro e w2 ⟨rfl, n2⟩
    obtain ⟨_, b5', b6', b7', b8'⟩ := ((hb.le n1).le n2).mach
    obtain ⟨k0', k1', k2', k3', k4', k5'⟩ := ((hk.le n1).le n2).look
    go_wp2_with fail
    refine (m3 _ ((hl.trans n1).trans n2)).mono ?_
    rintro e w3 ⟨rfl, n3⟩
    go_wp2_with fail
    go_ret
    exact ⟨rfl, ((hl.trans n1).trans n2).trans n3⟩
  simp only [h3] at m3
  have m4 := fun w' (l : Le w w') => exactlyTh 31 (lookV c qR) (thB c) (fun _ _ => by kernel_rfl) (slV qT) Ts c.t w' (fun w'' _ u T hm _ h => lookMayThread c qR u T w'' hc h (ft T hm).1 (ft T hm).2) (hT.le l) (by omega)
  cases h4 : (decide ((Ts.length : Int) = c.t) && Ts.all (thB c))
  · simp only [h4] at m4
    go_enter Tryz.func10, Tryz.ntmps10
    go_wp2_with fail
    refine (m1 _).mono ?_
    rintro e w1 ⟨rfl, n1⟩
    obtain ⟨_, b5, b6, b7, b8⟩ := (hb.le n1).mach
    obtain ⟨k0, k1, k2, k3, k4, k5⟩ := (hk.le n1).look
    go_wp2_with fail
    refine (m2 _ (hl.trans n1)).mono ?_
    rintro e w2 ⟨rfl, n2⟩
    obtain ⟨_, b5', b6', b7', b8'⟩ := ((hb.le n1).le n2).mach
    obtain ⟨k0', k1', k2', k3', k4', k5'⟩ := ((hk.le n1).le n2).look
    go_wp2_with fail
    refine (m3 _ ((hl.trans n1).trans n2)).mono ?_
    rintro e w3 ⟨rfl, n3⟩
    obtain ⟨_, _, b6'', b7'', b8''⟩ := (((hb.le n1).le n2).le n3).mach
    obtain ⟨k0'', k1'', k2'', k3'', k4'', k5''⟩ := (((hk.le n1).le n2).le n3).look
    go_wp2_with fail
    refine (m4 _ (((hl.trans n1).trans n2).trans n3)).mono ?_
    rintro e w4 ⟨rfl, n4⟩
    go_wp2_with fail
    go_ret
    exact ⟨rfl, (((hl.trans n1).trans n2).trans n3).trans n4⟩
  simp only [h4] at m4
  have m5 := fun w' (l : Le w w') => atMostEv 33 (lookV c qR) (evB c) (fun _ _ => by kernel_rfl) (slV qH) Es 64 w' (fun w'' _ u E hm _ h => by rw [show u = evV E from h]; exact lookMayEvent c qR E w'' hc) (hH.le l) (by omega)
  go_enter Tryz.func10, Tryz.ntmps10
  go_wp2_with fail
  refine (m1 _).mono ?_
  rintro e w1 ⟨rfl, n1⟩
  obtain ⟨_, b5, b6, b7, b8⟩ := (hb.le n1).mach
  obtain ⟨k0, k1, k2, k3, k4, k5⟩ := (hk.le n1).look
  go_wp2_with fail
  refine (m2 _ (hl.trans n1)).mono ?_
  rintro e w2 ⟨rfl, n2⟩
  obtain ⟨_, b5', b6', b7', b8'⟩ := ((hb.le n1).le n2).mach
  obtain ⟨k0', k1', k2', k3', k4', k5'⟩ := ((hk.le n1).le n2).look
  go_wp2_with fail
  refine (m3 _ ((hl.trans n1).trans n2)).mono ?_
  rintro e w3 ⟨rfl, n3⟩
  obtain ⟨_, _, b6'', b7'', b8''⟩ := (((hb.le n1).le n2).le n3).mach
  obtain ⟨k0'', k1'', k2'', k3'', k4'', k5''⟩ := (((hk.le n1).le n2).le n3).look
  go_wp2_with fail
  refine (m4 _ (((hl.trans n1).trans n2).trans n3)).mono ?_
  rintro e w4 ⟨rfl, n4⟩
  have b9 := ((((hb.le n1).le n2).le n3).le n4).mach.2.2.2.2
  obtain ⟨j0, j1, j2, j3, j4, j5⟩ := ((((hk.le n1).le n2).le n3).le n4).look
  go_wp2_with fail
  refine (m5 _ ((((hl.trans n1).trans n2).trans n3).trans n4)).mono ?_
  rintro e w5 ⟨rfl, n5⟩
  go_wp2_with fail
  go_ret
  exact ⟨rfl, ((((hl.trans n1).trans n2).trans n3).trans n4).trans n5⟩

end Go.Proofs.YtibleipfablniaaGreat

/-
  THE WALK over choruslaw14.awake: it answers true and turns nothing that was there. No condition. Beside it the contracts of package start's New and choruslaw0's CopyMachine with their answers written out.
-/
namespace Go.Proofs.YtibleipfablniaaGreat
open Go.RowKit

theorem OwnM.open {w : World} {base : Nat} {v : Value} {M : Mc} (h : OwnM w base v M) : ∃ qR qP qT qH, v = machV M.c qR qP qT qH := by
  obtain ⟨L, rfl, rfl, _⟩ := h; exact ⟨_, _, _, _, rfl⟩
theorem startNewAs {c : Cfg} {M : Mc} {er : Int} (h : newM c = (M, er)) (w : World) : Calls Tryz.prog 6 #[cfgV c.o c.r c.l c.t c.s] w fun e w' => ∃ qR qP qT qH, e = .returned (.tuple #[machV M.c qR qP qT qH, .int .i64 er]) ∧ OwnM w' w.heap.size (machV M.c qR qP qT qH) M ∧ Le w w' := by
  have := startNew c w
  rw [h] at this
  refine this.mono ?_
  rintro e w' ⟨v', rfl, o, l⟩
  obtain ⟨qR, qP, qT, qH, rfl⟩ := o.open
  exact ⟨qR, qP, qT, qH, rfl, o, l⟩
theorem copyMachineAs (v : Value) (M : Mc) (w : World) (hx : HasM w v M) (hf : FitM M) : Calls Tryz.prog 5 #[v] w fun e w' => ∃ qR qP qT qH, e = .returned (machV M.c qR qP qT qH) ∧ OwnM w' w.heap.size (machV M.c qR qP qT qH) M ∧ Le w w' := by
  refine (lawCopyMachine v M w hx hf).mono ?_
  rintro e w' ⟨L, rfl, rfl, o, _, l⟩
  exact ⟨_, _, _, _, rfl, ⟨L, rfl, rfl, o⟩, l⟩

theorem fitM_small {M : Mc} (h1 : M.rs.length ≤ 100) (h2 : M.ps.length ≤ 100) (h3 : M.ts.length ≤ 100) (h4 : M.es.length ≤ 100) (hr : ∀ R ∈ M.rs, R.ss.length ≤ 100) (hp : ∀ P ∈ M.ps, Fit P.s ∧ P.cs.length ≤ 100 ∧ P.ls.length ≤ 100) (ht : ∀ T ∈ M.ts, T.b.length ≤ 100 ∧ T.tl.length ≤ 100) : FitM M :=
  ⟨by omega, by omega, by omega, by omega, fun R h => by have := hr R h; unfold FitR; omega, fun P h => ⟨(hp P h).1, by have := (hp P h).2; omega, by have := (hp P h).2; omega⟩, fun T h => ⟨by have := ht T h; omega, by have := ht T h; omega⟩⟩
theorem fitM_fresh {c : Cfg} (h : c.ok = true) : FitM (freshM c) := by
  obtain ⟨_, ⟨r0, r1⟩, ⟨l0, l1⟩, ⟨t0, t1⟩, hs, _⟩ := Cfg.ok_cases h
  have hs' := slotsB_cases hs
  refine fitM_small (by simp [freshM]; omega) (by simp [freshM]; omega) (by simp [freshM]; omega) (by simp [freshM]) (fun R hR => ?_) (fun P hP => ?_) (fun T hT => ?_)
  · obtain rfl := List.eq_of_mem_replicate hR
    simp only [newS, hs, if_true, List.length_replicate]
    omega
  · obtain rfl := List.eq_of_mem_replicate hP
    refine ⟨fit_zero, ?_, ?_⟩ <;> simp <;> omega
  · obtain rfl := List.eq_of_mem_replicate hT
    exact ⟨by decide, by decide⟩
theorem fitM_new (c : Cfg) : FitM (newM c).1 := by
  unfold newM
  split
  · next h => exact fitM_fresh h
  · exact fitM_zero

theorem HasM.reC {w : World} {M : Mc} {c c' : Cfg} {a b d e : Sl} (h : HasM w (machV c a b d e) M) : HasM w (machV c' a b d e) { M with c := c' } := by
  obtain ⟨qR, qP, qT, qH, hv, h1, h2, h3, h4⟩ := h
  simp only [machV, cells9, Value.agg.injEq, Array.mk.injEq, List.cons.injEq] at hv
  obtain ⟨_, _, _, _, _, e5, e6, e7, e8, _⟩ := hv
  exact ⟨a, b, d, e, rfl, by rw [e5]; exact h1, by rw [e6]; exact h2, by rw [e7]; exact h3, by rw [e8]; exact h4⟩
theorem HasM.lens {w : World} {M : Mc} {c : Cfg} {a b d e : Sl} (h : HasM w (machV c a b d e) M) : a.2.1 = M.rs.length ∧ b.2.1 = M.ps.length ∧ d.2.1 = M.ts.length ∧ e.2.1 = M.es.length := by
  obtain ⟨qR, qP, qT, qH, hv, h1, h2, h3, h4⟩ := h
  simp only [machV, cells9, Value.agg.injEq, Array.mk.injEq, List.cons.injEq] at hv
  obtain ⟨_, _, _, _, _, e5, e6, e7, e8, _⟩ := hv
  refine ⟨HasRs.len (w := w) (by rw [e5]; exact h1), HasPs.len (w := w) (by rw [e6]; exact h2), HasTs.len (w := w) (by rw [e7]; exact h3), HasE.len (K := evK) (w := w) (by rw [e8]; exact h4)⟩

def awakeC : Cfg := ⟨0, 2, 2, 3, 8⟩
theorem awake_new : newM awakeC = (freshM awakeC, 0) := by decide +kernel
theorem awake_zero : newM Cfg.zero = (Mc.zero, 1400) := by decide +kernel
theorem awake_may : mayM (freshM awakeC) = true := by decide +kernel
theorem awake_not : mayM { freshM awakeC with c := ⟨0, 2, 2, 3, 16⟩ } = false := by decide +kernel

set_option maxRecDepth 4000 in
set_option maxHeartbeats 4000000 in
theorem lawAwake14 (w : World) : Calls Tryz.prog 13 #[] w fun e w' => e = .returned (.bool true) ∧ Le w w' := by
  have n1 := fun w' => startNewAs awake_new w'
  have n2 := fun w' => startNewAs awake_zero w'
  have hfit := fitM_fresh (c := awakeC) (by decide)
  have hfit2 : FitM { freshM awakeC with c := ⟨0, 2, 2, 3, 16⟩ } := ⟨hfit.rs, hfit.ps, hfit.ts, hfit.es, hfit.r, hfit.p, hfit.t⟩
  simp only [awakeC, freshM, Cfg.zero, Mc.zero] at n1 n2
  have hl := Le.alloc w (.cells #[.int .i64 0, .int .i64 2, .int .i64 2, .int .i64 3, .int .i64 8] 23)
  go_enter Tryz.func13, Tryz.ntmps13
  go_wp2_with fail
  refine (n1 _).mono ?_
  rintro e w1 ⟨qR, qP, qT, qH, rfl, o1, l1⟩
  replace hl := hl.trans l1
  have hb1 := Box.new w1 (cells9 ⟨0, 2, 2, 3, 8⟩ qR qP qT qH) 29
  have a1 := Le.alloc w1 (.cells (cells9 ⟨0, 2, 2, 3, 8⟩ qR qP qT qH) 29)
  go_upto_region 3 with fail
  generalize hW1 : w1.alloc (.cells (cells9 ⟨0, 2, 2, 3, 8⟩ qR qP qT qH) 29) = W1 at hb1 a1 ⊢
  generalize w1.heap.size = g1 at hb1 ⊢
  clear hW1
  replace o1 := o1.le a1
  replace hl := hl.trans a1
  clear a1 l1 n1
  go_wp2_with fail
  refine (n2 _).mono ?_
  rintro e w2 ⟨pR, pP, pT, pH, rfl, _, l2⟩
  have a2 := l2.trans (Le.alloc w2 (.cells (cells9 ⟨0, 0, 0, 0, 0⟩ pR pP pT pH) 29))
  go_upto_region 4 with fail
  generalize hW2 : w2.alloc (.cells (cells9 ⟨0, 0, 0, 0, 0⟩ pR pP pT pH) 29) = W2 at a2 ⊢
  clear hW2 n2 l2
  generalize w2.heap.size = g2
  replace hb1 := hb1.le a2
  replace o1 := o1.le a2
  replace hl := hl.trans a2
  clear a2
  obtain ⟨⟨z0, z1, z2, z3, z4⟩, z5, z6, z7, z8⟩ := hb1.mach
  go_wp2_with fail
  refine (copyMachineAs _ _ _ o1.has hfit).mono ?_
  rintro e w3 ⟨xR, xP, xT, xH, rfl, o3, l3⟩
  have hx3 : HasM w3 (machV ⟨0, 2, 2, 3, 16⟩ xR xP xT xH) { freshM awakeC with c := ⟨0, 2, 2, 3, 16⟩ } := HasM.reC o3.has
  have hb3 := Box.new w3 (cells9 ⟨0, 2, 2, 3, 16⟩ xR xP xT xH) 29
  have a3 := Le.alloc w3 (.cells (cells9 ⟨0, 2, 2, 3, 16⟩ xR xP xT xH) 29)
  clear z0 z1 z2 z3 z4 z5 z6 z7 z8 o3
  go_upto_region 6 with fail
  generalize hW3 : w3.alloc (.cells (cells9 ⟨0, 2, 2, 3, 16⟩ xR xP xT xH) 29) = W3 at hb3 a3 ⊢
  clear hW3
  generalize w3.heap.size = g3 at hb3 ⊢
  replace hb1 := hb1.le (l3.trans a3)
  replace o1 := o1.le (l3.trans a3)
  replace hl := (hl.trans l3).trans a3
  replace hx3 := hx3.le a3
  clear l3 a3
  obtain ⟨⟨z0, z1, z2, z3, z4⟩, z5, z6, z7, z8⟩ := hb1.mach
  obtain ⟨n1, n2, n3, _⟩ := o1.has.lens
  have e1 : ((qR.2.1 : Int) == 2) = true := by rw [n1]; rfl
  have e2 : ((qP.2.1 : Int) == 2) = true := by rw [n2]; rfl
  have e3 : ((qT.2.1 : Int) == 3) = true := by rw [n3]; rfl
  clear n1 n2 n3
  have s1 := startMay _ (freshM awakeC) _ o1.has hfit
  rw [awake_may] at s1
  go_wp2_with fail
  refine (lawNum _ _).mono ?_
  rintro e _ ⟨rfl, rfl⟩
  go_wp2_with fail
  refine (lawNum _ _).mono ?_
  rintro e _ ⟨rfl, rfl⟩
  go_wp2_with fail
  refine s1.mono ?_
  rintro e w4 ⟨rfl, l4⟩
  have s2 := startMay _ { freshM awakeC with c := ⟨0, 2, 2, 3, 16⟩ } _ (hx3.le l4) hfit2
  rw [awake_not] at s2
  obtain ⟨⟨y0, y1, y2, y3, y4⟩, y5, y6, y7, y8⟩ := (hb3.le l4).mach
  go_wp2_with fail
  refine s2.mono ?_
  rintro e w5 ⟨rfl, l5⟩
  go_wp2_with fail
  go_ret
  exact ⟨rfl, (hl.trans l4).trans l5⟩

end Go.Proofs.YtibleipfablniaaGreat

/-
  THE WALKS over the document's own RingMay and NewRing: what each answers, for every ring. Condition: that the slots can be copied.
-/
namespace Go.Proofs.YtibleipfablniaaGreat
open Go.RowKit

theorem slotB_up {s : Slt} : slotB s = (opUp s.c s.r s.a && threadB s.t && (decide (0 ≤ s.b) && decide (s.b ≤ 1))) := by
  rw [Bool.eq_iff_iff]
  simp [slotB, threadB]
  omega

theorem mayR_doc (R : Rg) : mayR R = (slotsB R.ss.length && holdB R.h && (decide (R.h ≤ R.t) && decide (R.t ≤ R.h + R.ss.length)) && holdB R.t && (decide (0 ≤ R.f) && decide (R.f ≤ 4)) && R.ss.all slotB) := by
  unfold mayR
  generalize R.ss.all slotB = z
  generalize slotsB R.ss.length = y
  cases z <;> cases y <;> simp only [Bool.and_false, Bool.false_and, Bool.true_and, Bool.and_true]
  rw [Bool.eq_iff_iff]
  simp [placesB, holdB]
  omega

set_option maxHeartbeats 1000000 in
theorem refRingMay (v : Value) (R : Rg) (w : World) (hx : HasR w v R) (hf : FitR R) : Calls Tryz.prog 67 #[v] w fun e w' => e = .returned (.bool (mayR R)) ∧ Le w w' := by
  rw [mayR_doc]
  obtain ⟨h, t, f, ss⟩ := R
  obtain ⟨q, rfl, hq⟩ := hx
  simp only [FitR] at hf hq ⊢
  have hb := Box.new w (cellsR h t f q) 46
  have hl := Le.alloc w (.cells (cellsR h t f q) 46)
  have hn := hq.len
  have hq0 : q.2.1 ≤ 4611686018427387904 := by omega
  rw [← hn]
  have HN : Hid (q.2.1 = ss.length) := hn
  clear hn
  have m1 := fun w => refSlotsMay q.2.1 w
  have m2 := fun w => refCellMay h w
  have m3 := fun w => refUpTo t h (h + q.2.1) w
  have m4 := fun w => refCellMay t w
  have m5 := fun w => refUpTo f 0 4 w
  cases h1 : slotsB q.2.1
  · rw [h1] at m1
    go_enter Tryz.func67, Tryz.ntmps67
    go_wp2_with (go_at_call 49; refine (m1 _).mono ?_; rintro e _ ⟨rfl, rfl⟩)
    go_ret
    exact ⟨ret_bool (by simp), hl⟩
  rw [h1] at m1
  have hlen := slotsB_cases h1
  cases h2 : holdB h
  · rw [h2] at m2
    go_enter Tryz.func67, Tryz.ntmps67
    go_wp2_with fail
    refine (m1 _).mono ?_
    rintro e _ ⟨rfl, rfl⟩
    go_wp2_with fail
    refine (m2 _).mono ?_
    rintro e _ ⟨rfl, rfl⟩
    go_wp2_with fail
    go_ret
    exact ⟨ret_bool (by simp), hl⟩
  rw [h2] at m2
  obtain ⟨p0, p1⟩ := holdB_cases h2
  have hsum : IntKind.i64.wrap (h + (q.2.1 : Int)) = h + (q.2.1 : Int) := by rw [IntKind.wrap_i64]; omega
  cases h3 : (decide (h ≤ t) && decide (t ≤ h + (q.2.1 : Int)))
  · rw [h3] at m3
    clear hlen
    go_enter Tryz.func67, Tryz.ntmps67
    go_wp2_with fail
    refine (m1 _).mono ?_
    rintro e _ ⟨rfl, rfl⟩
    go_wp2_with fail
    refine (m2 _).mono ?_
    rintro e _ ⟨rfl, rfl⟩
    go_wp2_with fail
    refine (m3 _).mono ?_
    rintro e _ ⟨rfl, rfl⟩
    go_wp2_with fail
    go_ret
    exact ⟨ret_bool (by simp), hl⟩
  rw [h3] at m3
  cases h4 : holdB t
  · rw [h4] at m4
    clear hlen
    go_enter Tryz.func67, Tryz.ntmps67
    go_wp2_with fail
    refine (m1 _).mono ?_
    rintro e _ ⟨rfl, rfl⟩
    go_wp2_with fail
    refine (m2 _).mono ?_
    rintro e _ ⟨rfl, rfl⟩
    go_wp2_with fail
    refine (m3 _).mono ?_
    rintro e _ ⟨rfl, rfl⟩
    go_wp2_with fail
    refine (m4 _).mono ?_
    rintro e _ ⟨rfl, rfl⟩
    go_wp2_with fail
    go_ret
    exact ⟨ret_bool (by simp), hl⟩
  rw [h4] at m4
  cases h5 : (decide (0 ≤ f) && decide (f ≤ 4))
  · rw [h5] at m5
    clear hlen
    go_enter Tryz.func67, Tryz.ntmps67
    go_wp2_with fail
    refine (m1 _).mono ?_
    rintro e _ ⟨rfl, rfl⟩
    go_wp2_with fail
    refine (m2 _).mono ?_
    rintro e _ ⟨rfl, rfl⟩
    go_wp2_with fail
    refine (m3 _).mono ?_
    rintro e _ ⟨rfl, rfl⟩
    go_wp2_with fail
    refine (m4 _).mono ?_
    rintro e _ ⟨rfl, rfl⟩
    go_wp2_with fail
    refine (m5 _).mono ?_
    rintro e _ ⟨rfl, rfl⟩
    go_wp2_with fail
    go_ret
    exact ⟨ret_bool (by simp), hl⟩
  rw [h5] at m5
  simp only [Bool.true_and]
  obtain ⟨a, cap, hqv, hcap, _, hxx⟩ := hq
  obtain ⟨b, off, rfl, hcell⟩ := hxx (by have := HN.out; omega)
  obtain ⟨qa, L, qc⟩ := q
  simp only [slV, Value.slice.injEq] at hqv
  obtain ⟨rfl, hn, rfl⟩ := hqv
  rw [← hn] at hcell
  have HL : Hid (L = ss.length) := hn
  have hL : L ≤ 16 := by simp only at hlen; omega
  clear hn HN hlen h1 h2 h3 h4 h5 hxx hcap hq0 hf
  go_enter Tryz.func67, Tryz.ntmps67
  go_wp2_with fail
  refine (m1 _).mono ?_
  rintro e _ ⟨rfl, rfl⟩
  go_wp2_with fail
  refine (m2 _).mono ?_
  rintro e _ ⟨rfl, rfl⟩
  go_wp2_with fail
  refine (m3 _).mono ?_
  rintro e _ ⟨rfl, rfl⟩
  go_wp2_with fail
  refine (m4 _).mono ?_
  rintro e _ ⟨rfl, rfl⟩
  go_wp2_with fail
  refine (m5 _).mono ?_
  rintro e _ ⟨rfl, rfl⟩
  go_wp2_with fail
  clear m1 m2 m3 m4 m5
  go_loopw [4] (fun i wr => ∃ k : Nat, k ≤ L ∧ i = .int .i64 k ∧ Hid ((ss.take k).all slotB = true) ∧ Le (w.alloc (.cells (cellsR h t f (some ⟨b, off, none⟩, L, qc)) 46)) wr) (fun i _ => L - (intOf i).toNat)
  case atStart => exact ⟨0, by omega, rfl, rfl, Le.refl _⟩
  case round =>
    obtain ⟨k, hk, rfl, HA, hle⟩ := hrel
    by_cases hlt : k < L
    · obtain ⟨s, hs⟩ : ∃ s, s = ss.getD k Slt.zero := ⟨_, rfl⟩
      have HS : Hid (s = ss.getD k Slt.zero) := hs
      obtain ⟨x0, x1, x2, x3, x4⟩ := ((hcell k hlt).le hl).le hle
      rw [← hs] at x0 x1 x2 x3 x4
      obtain ⟨b0, b1, b2, b3, _, _, _, _⟩ := (hb.le hle).ring
      replace b3 : wr.cell? ⟨w.heap.size, 3, none⟩ = some (.slice (some ⟨b, off, none⟩) L qc) := b3
      clear hs hcell
      have hlt' : (k : Int) < (L : Int) := by omega
      have hbs := Box.new wr #[.int .i64 s.c, .int .i64 s.r, .int .i64 s.a, .int .i64 s.t, .int .i64 s.b] 50
      have hls := Le.alloc wr (.cells #[.int .i64 s.c, .int .i64 s.r, .int .i64 s.a, .int .i64 s.t, .int .i64 s.b] 50)
      have r1 := fun w => refUpdates s.c s.r s.a w
      have r2 := fun w => refThreadMay s.t w
      have r3 := fun w => refUpTo s.b 0 1 w
      have HB : Hid (slotB s = (opUp s.c s.r s.a && threadB s.t && (decide (0 ≤ s.b) && decide (s.b ≤ 1)))) := slotB_up
      cases g1 : opUp s.c s.r s.a
      · rw [g1] at r1
        go_wp2_with fail
        refine (r1 _).mono ?_
        rintro e w1 ⟨rfl, l1⟩
        go_wp2_with fail
        go_ret
        exact ⟨ret_bool (all_no (k := k) (by have := HL.out; omega) (by rw [← HS.out, HB.out, g1]; rfl)).symm, ((hl.trans hle).trans hls).trans l1⟩
      rw [g1] at r1
      cases g2 : threadB s.t
      · rw [g2] at r2
        go_wp2_with fail
        refine (r1 _).mono ?_
        rintro e w1 ⟨rfl, l1⟩
        obtain ⟨y0, y1, y2, y3, y4⟩ := (hbs.le l1).slot
        go_wp2_with (go_at_call 82; refine (r2 _).mono ?_; rintro e _ ⟨rfl, rfl⟩)
        go_ret
        exact ⟨ret_bool (all_no (k := k) (by have := HL.out; omega) (by rw [← HS.out, HB.out, g1, g2]; rfl)).symm, ((hl.trans hle).trans hls).trans l1⟩
      rw [g2] at r2
      cases g3 : (decide (0 ≤ s.b) && decide (s.b ≤ 1))
      · rw [g3] at r3
        go_wp2_with fail
        refine (r1 _).mono ?_
        rintro e w1 ⟨rfl, l1⟩
        obtain ⟨y0, y1, y2, y3, y4⟩ := (hbs.le l1).slot
        go_wp2_with fail
        refine (r2 _).mono ?_
        rintro e _ ⟨rfl, rfl⟩
        go_wp2_with fail
        refine (r3 _).mono ?_
        rintro e _ ⟨rfl, rfl⟩
        go_wp2_with fail
        go_ret
        exact ⟨ret_bool (all_no (k := k) (by have := HL.out; omega) (by rw [← HS.out, HB.out, g1, g2, g3]; rfl)).symm, ((hl.trans hle).trans hls).trans l1⟩
      · rw [g3] at r3
        go_wp2_with fail
        refine (r1 _).mono ?_
        rintro e w1 ⟨rfl, l1⟩
        obtain ⟨y0, y1, y2, y3, y4⟩ := (hbs.le l1).slot
        go_wp2_with fail
        refine (r2 _).mono ?_
        rintro e _ ⟨rfl, rfl⟩
        go_wp2_with fail
        refine (r3 _).mono ?_
        rintro e _ ⟨rfl, rfl⟩
        go_wp2_with fail
        go_roundw
        case rel => exact ⟨k + 1, by omega, by go_num, allL_take (by have := HL.out; omega) HA.out (by rw [← HS.out, HB.out, g1, g2, g3]; rfl), (hle.trans hls).trans l1⟩
        case measure => simp [intOf]; omega
    · obtain rfl : k = L := by omega
      go_wp2_with fail
      go_ret
      exact ⟨ret_bool (by have := HA.out; rw [HL.out, List.take_length] at this; exact this.symm), hl.trans hle⟩

end Go.Proofs.YtibleipfablniaaGreat

/-
  THE WALKS over the document's own upTo, ConfigMay and ReplicaOf (chorusref13): what each answers, for every Config and every thread. No condition.
-/
namespace Go.Proofs.YtibleipfablniaaGreat
open Go.RowKit

theorem rmUpTo (x a b : Int) (w : World) : Calls Tryz.prog 37 #[.int .i64 x, .int .i64 a, .int .i64 b] w fun e w' => e = .returned (.bool (inB a x b)) ∧ w = w' := by
  by_cases h : a ≤ x
  all_goals
    go_enter Tryz.func37, Tryz.ntmps37
    go_wp2
    go_ret
    exact ⟨ret_bool (by simp [inB, h]; try omega), rfl⟩

set_option maxHeartbeats 2000000 in
theorem rmConfigMay (o r l t s : Int) (w : World) : Calls Tryz.prog 19 #[cfgV o r l t s] w fun e w' => e = .returned (.bool (cfgB o r l t s)) ∧ Le w w' := by
  have h1 := fun w' => rmUpTo o 0 2 w'
  have h2 := fun w' => rmUpTo r 1 2 w'
  have h3 := fun w' => rmUpTo l 1 2 w'
  have h4 := fun w' => rmUpTo t 1 4 w'
  have h5 := fun w' => refSlotsMay s w'
  cases k1 : inB 0 o 2
  · rw [k1] at h1
    go_enter Tryz.func19, Tryz.ntmps19
    go_wp2_with fail
    refine (h1 _).mono ?_; rintro e _ ⟨rfl, rfl⟩
    go_wp2_with fail
    go_ret
    exact ⟨ret_bool (by simp [cfgB, k1]), Le.alloc _ _⟩
  rw [k1] at h1
  cases k2 : inB 1 r 2
  · rw [k2] at h2
    go_enter Tryz.func19, Tryz.ntmps19
    go_wp2_with fail
    refine (h1 _).mono ?_; rintro e _ ⟨rfl, rfl⟩
    go_wp2_with fail
    refine (h2 _).mono ?_; rintro e _ ⟨rfl, rfl⟩
    go_wp2_with fail
    go_ret
    exact ⟨ret_bool (by simp [cfgB, k2]), Le.alloc _ _⟩
  rw [k2] at h2
  cases k3 : inB 1 l 2
  · rw [k3] at h3
    go_enter Tryz.func19, Tryz.ntmps19
    go_wp2_with fail
    refine (h1 _).mono ?_; rintro e _ ⟨rfl, rfl⟩
    go_wp2_with fail
    refine (h2 _).mono ?_; rintro e _ ⟨rfl, rfl⟩
    go_wp2_with fail
    refine (h3 _).mono ?_; rintro e _ ⟨rfl, rfl⟩
    go_wp2_with fail
    go_ret
    exact ⟨ret_bool (by simp [cfgB, k3]), Le.alloc _ _⟩
  rw [k3] at h3
  cases k4 : inB 1 t 4
  · rw [k4] at h4
    go_enter Tryz.func19, Tryz.ntmps19
    go_wp2_with fail
    refine (h1 _).mono ?_; rintro e _ ⟨rfl, rfl⟩
    go_wp2_with fail
    refine (h2 _).mono ?_; rintro e _ ⟨rfl, rfl⟩
    go_wp2_with fail
    refine (h3 _).mono ?_; rintro e _ ⟨rfl, rfl⟩
    go_wp2_with fail
    refine (h4 _).mono ?_; rintro e _ ⟨rfl, rfl⟩
    go_wp2_with fail
    go_ret
    exact ⟨ret_bool (by simp [cfgB, k4]), Le.alloc _ _⟩
  rw [k4] at h4
  obtain ⟨t0, t1⟩ := inB_cases k4
  have hb : cfgB o r l t s = (slotsB s && decide (2 * t ≤ s)) := by simp [cfgB, k1, k2, k3, k4]
  rw [hb]
  cases k5 : slotsB s
  all_goals
    rw [k5] at h5
    go_enter Tryz.func19, Tryz.ntmps19
    go_wp2_with fail
    refine (h1 _).mono ?_; rintro e _ ⟨rfl, rfl⟩
    go_wp2_with fail
    refine (h2 _).mono ?_; rintro e _ ⟨rfl, rfl⟩
    go_wp2_with fail
    refine (h3 _).mono ?_; rintro e _ ⟨rfl, rfl⟩
    go_wp2_with fail
    refine (h4 _).mono ?_; rintro e _ ⟨rfl, rfl⟩
    go_wp2_with fail
    refine (h5 _).mono ?_; rintro e _ ⟨rfl, rfl⟩
    go_wp2_with fail
    go_ret
    exact ⟨ret_bool (by simp), Le.alloc _ _⟩

end Go.Proofs.YtibleipfablniaaGreat

/-
  THE WALK over the document's ringMay: may it be one of a machine's logs? Condition: that the slots can be copied.
-/
namespace Go.Proofs.YtibleipfablniaaGreat
open Go.RowKit

/-- As the document asks it. -/
def ringD (c : Cfg) (R : Rg) : Bool := mayR R && (decide ((R.ss.length : Int) = c.s) && (decide (R.f ≤ c.t) && R.ss.all (fun s => decide (s.t < c.t))))
theorem ringB_doc (c : Cfg) (R : Rg) : ringB c R = ringD c R := by
  unfold ringB ringD
  cases h : mayR R
  · rfl
  simp only [Bool.true_and]
  have hf : 0 ≤ R.f := by unfold mayR at h; simp at h; exact h.1.1.2
  have hs : ∀ s ∈ R.ss, 0 ≤ s.t := by
    unfold mayR at h
    simp only [Bool.and_eq_true, List.all_eq_true] at h
    intro s hs
    have := h.2 s hs
    rw [slotB_up] at this
    simp [threadB] at this
    omega
  have e : R.ss.all (fun s => inB 0 s.t (c.t - 1)) = R.ss.all (fun s => decide (s.t < c.t)) := by
    rw [Bool.eq_iff_iff]
    simp only [List.all_eq_true, inB, Bool.and_eq_true, decide_eq_true_eq]
    constructor
    · intro h s hm; have := h s hm; omega
    · intro h s hm; have := h s hm; have := hs s hm; omega
  rw [e]
  have e2 : inB 0 R.f c.t = decide (R.f ≤ c.t) := by simp [inB, hf]
  rw [e2]

set_option maxHeartbeats 1000000 in
theorem rmRingMay (c : Cfg) (v : Value) (R : Rg) (w : World) (hx : HasR w v R) (hf : FitR R) : Calls Tryz.prog 34 #[cfgV c.o c.r c.l c.t c.s, v] w fun e w' => e = .returned (.bool (ringB c R)) ∧ Le w w' := by
  rw [ringB_doc]
  have hm := fun w' (l : Le w w') => refRingMay v R w' (hx.le l) hf
  obtain ⟨h, t, f, ss⟩ := R
  obtain ⟨q, rfl, hq⟩ := hx
  simp only [ringD] at hm hq ⊢
  have hl := (Le.alloc w (.cells #[.int .i64 c.o, .int .i64 c.r, .int .i64 c.l, .int .i64 c.t, .int .i64 c.s] 23)).trans (Le.alloc _ (.cells (cellsR h t f q) 46))
  have hb1 := (Box.new w #[.int .i64 c.o, .int .i64 c.r, .int .i64 c.l, .int .i64 c.t, .int .i64 c.s] 23).le (Le.alloc _ (.cells (cellsR h t f q) 46))
  have hb2 := Box.new (w.alloc (.cells #[.int .i64 c.o, .int .i64 c.r, .int .i64 c.l, .int .i64 c.t, .int .i64 c.s] 23)) (cellsR h t f q) 46
  rw [World.size_alloc] at hb2
  have hn := hq.len
  rw [← hn]
  have HN : Hid (q.2.1 = ss.length) := hn
  clear hn
  go_enter Tryz.func34, Tryz.ntmps34
  go_upto_region 1 with fail
  generalize hW : (w.alloc (.cells #[.int .i64 c.o, .int .i64 c.r, .int .i64 c.l, .int .i64 c.t, .int .i64 c.s] 23)).alloc (.cells (cellsR h t f q) 46) = W at hl hb1 hb2 ⊢
  clear hW
  obtain ⟨x0, x1, x2, x3, _, _, _, _⟩ := hb2.ring
  go_wp2_with fail
  refine (hm _ hl).mono ?_
  rintro e w1 ⟨rfl, l1⟩
  replace hb1 := hb1.le l1
  replace hb2 := hb2.le l1
  replace hl := hl.trans l1
  clear l1 x0 x1 x2 x3 hm
  obtain ⟨x0, x1, x2, x3, _, _, _, _⟩ := hb2.ring
  obtain ⟨z0, z1, z2, z3, z4⟩ := hb1.slot
  cases h1 : mayR ⟨h, t, f, ss⟩
  · go_wp2_with fail
    go_ret
    exact ⟨ret_bool (by rw [h1]; rfl), hl⟩
  by_cases h2 : (q.2.1 : Int) = c.s
  case neg =>
    go_wp2_with fail
    go_ret
    exact ⟨ret_bool (by rw [h1, decide_eq_false h2]; rfl), hl⟩
  by_cases h3 : f ≤ c.t
  case neg =>
    go_wp2_with fail
    go_ret
    exact ⟨ret_bool (by rw [h1, decide_eq_true h2, decide_eq_false (by omega)]; rfl), hl⟩
  obtain ⟨a, cap, hqv, hcap, _, hxx⟩ := hq
  obtain ⟨qa, L, qc⟩ := q
  simp only [slV, Value.slice.injEq] at hqv
  obtain ⟨rfl, hn, rfl⟩ := hqv
  rw [← hn] at hxx
  have HL : Hid (L = ss.length) := hn
  have HE : Hid (mayR ⟨h, t, f, ss⟩ = true ∧ (L : Int) = c.s ∧ f ≤ c.t) := ⟨h1, h2, h3⟩
  have hL0 : L ≤ 4611686018427387904 := by have := hf; simp only [FitR] at this; omega
  have b3 : w1.cell? ⟨w.heap.size + 1, 3, none⟩ = some (.slice qa L qc) := x3
  clear hn HN hcap hf x3
  go_wp2_with fail
  clear h1 h2 h3
  clear x0 x1 x2 z0 z1 z2 z3 z4 b3
  go_loopw [5] (fun i wr => ∃ k : Nat, k ≤ L ∧ i = .int .i64 k ∧ Hid ((ss.take k).all (fun s => decide (s.t < c.t)) = true) ∧ Le w1 wr) (fun i _ => L - (intOf i).toNat)
  case atStart => exact ⟨0, by omega, rfl, rfl, Le.refl _⟩
  case round =>
    obtain ⟨k, hk, rfl, HA, hle⟩ := hrel
    obtain ⟨x0, x1, x2, x3, _, _, _, _⟩ := (hb2.le hle).ring
    obtain ⟨z0, z1, z2, z3, z4⟩ := (hb1.le hle).slot
    replace x3 : wr.cell? ⟨w.heap.size + 1, 3, none⟩ = some (.slice qa L qc) := x3
    by_cases hlt : k < L
    · obtain ⟨b, off, rfl, hcell⟩ := hxx (by omega)
      obtain ⟨s, hs⟩ : ∃ s, s = ss.getD k Slt.zero := ⟨_, rfl⟩
      have HS : Hid (s = ss.getD k Slt.zero) := hs
      obtain ⟨y0, y1, y2, y3, y4⟩ := ((hcell k hlt).le hl).le hle
      rw [← hs] at y0 y1 y2 y3 y4
      clear hs hcell hxx
      have hlt' : (k : Int) < (L : Int) := by omega
      by_cases hg : c.t ≤ s.t
      · go_wp2_with fail
        go_quiet (fail)
        go_wp2_with fail
        go_ret
        have hno : ss.all (fun s => decide (s.t < c.t)) = false := all_no (k := k) (by have := HL.out; omega) (by rw [← HS.out]; exact decide_eq_false (by omega))
        have h1 := HE.out.1
        have h2 := HE.out.2.1
        have h3 := HE.out.2.2
        exact ⟨ret_bool (by rw [hno]; simp), (hl.trans hle).trans (Le.drewN _ _)⟩
      · go_wp2_with fail
        go_quiet (fail)
        go_wp2_with fail
        go_roundw
        case rel => exact ⟨k + 1, by omega, by go_num, allL_take (by have := HL.out; omega) HA.out (by rw [← HS.out]; exact decide_eq_true (by omega)), hle.trans (Le.drewN _ _)⟩
        case measure => simp [intOf]; omega
    · obtain rfl : k = L := by omega
      go_wp2_with fail
      go_ret
      have hyes := HA.out
      rw [HL.out, List.take_length] at hyes
      have h1 := HE.out.1
      have h2 := HE.out.2.1
      have h3 := HE.out.2.2
      exact ⟨ret_bool (by rw [hyes]; simp [h1, h2]), hl.trans hle⟩

end Go.Proofs.YtibleipfablniaaGreat

/-
  THE WALK over the document's own CopyState: the same rows, in memory of their own. Condition: the rows can be copied.
-/
namespace Go.Proofs.YtibleipfablniaaGreat
open Go.RowKit

set_option maxHeartbeats 400000 in
theorem refCopyState (v : Value) (s : St) (w : World) (hx : HasS w v s) (hf : Fit s) :
    Calls Tryz.prog 85 #[v] w fun e w' => ∃ v', e = .returned v' ∧ OwnS w' w.heap.size v' s ∧ Le w w' := by
  obtain ⟨vs, rfl, hr⟩ := hx
  go_enter Tryz.func85, Tryz.ntmps85
  go_wp2
  go_loopw [4] (fun i wr => ∃ (k : Nat) (us : Nat → Sl), k ≤ 4 ∧ i = .int .i64 k ∧ Cp w s vs wr k us) (fun i _ => 4 - (intOf i).toNat)
  case atStart => exact ⟨0, _, by omega, rfl, Cp.start w s vs⟩
  case round =>
    obtain ⟨k, us, hk, rfl, hcp⟩ := hrel
    by_cases hlt : k < 4
    · have c1 : (wr.alloc (.cells #[] 3)).cell? ⟨w.heap.size, k, none⟩ = some (slV (vs k)) := ((hcp.given.le (Le.alloc wr _)).cell k).trans (cells4_at vs hlt)
      have hw1 : Has (wr.alloc (.cells #[] 3)) (slV (vs k)) (s.at k) := (hr k hlt).le (hcp.le.trans (Le.alloc wr _))
      have hn1 : Own (wr.alloc (.cells #[] 3)) wr.heap.size (.slice (some ⟨wr.heap.size, 0, none⟩) 0 0) [] := Own.lit wr _ (Nat.le_refl _) [] (by decide)
      have hfk := hf k hlt
      have hrow : ∀ g, (Value.slice (some ⟨wr.heap.size, 0, none⟩) 0 0).ownBlock = some g → wr.heap.size ≤ g := by intro g hg; cases hg; exact Nat.le_refl _
      go_wp2_with (at_builtin; refine wp_append_ints rfl _ _ rfl wr.heap.size _ _ [] (s.at k) rfl rfl hn1 hw1 (by simp; omega) (by simp) ?_; intro v' w2 hown hgrow; rw [List.nil_append] at hown; have l2 : Le wr w2 := Below.grown (Le.alloc wr _) hgrow (by simp) hrow; have c3 := (hcp.filled.le l2).cell k; rw [cells4_at us hlt] at c3; have f3 := (hcp.filled.le l2).frozen k; obtain ⟨q, rfl⟩ := hown.has.sl)
      go_roundw
      case rel => exact ⟨k + 1, _, by omega, by go_num, hcp.next hlt (Le.alloc wr _) hgrow hrow hown⟩
      case measure => simp [intOf]; omega
    · obtain rfl : k = 4 := by omega
      obtain ⟨p0, p1, p2, p3, _, _, _, _⟩ := hcp.filled.st
      obtain ⟨b0, b1, b2, b3, f0, f1, f2, f3⟩ := hcp.result.st
      go_wp2
      refine bodyPost_ret (v := stV us) (by simp [results, Tryz.results85, go_sem, b0, b1, b2, b3]) rfl ⟨_, rfl, ⟨us, rfl, fun i hi => ?_⟩, ?_⟩
      · exact ((((hcp.rows i hi).setBox hcp.result (by decide)).setBox (hcp.result.set _ _) (by decide)).setBox ((hcp.result.set _ _).set _ _) (by decide)).setBox (((hcp.result.set _ _).set _ _).set _ _) (by decide)
      · exact (((Below.setCell hcp.le (by show w.heap.size ≤ w.heap.size + 1; omega) _).setCell (by show w.heap.size ≤ w.heap.size + 1; omega) _).setCell (by show w.heap.size ≤ w.heap.size + 1; omega) _).setCell (by show w.heap.size ≤ w.heap.size + 1; omega) _

end Go.Proofs.YtibleipfablniaaGreat

/-
  THE WALKS over the document's own rowMay, StateMay, CopyState, first, storeRow, at a store: what they answer, for every row and state. Condition: where memory is made, that the rows can be copied.
-/
namespace Go.Proofs.YtibleipfablniaaGreat
open Go.RowKit

theorem rowMay1_eq (xs : List Int) : rowMay1 xs = (xs.all argB && decide (xs.length ≤ 1)) := by
  match xs with
  | [] => rfl
  | [x] => simp [rowMay1, argB]
  | _ :: _ :: _ => simp [rowMay1]

set_option maxHeartbeats 400000 in
theorem refRowMay0 (v : Value) (xs : List Int) (w : World) (hx : Has w v xs) (hm : xs.length * 8 ≤ 140737488351232) :
    Calls Tryz.prog 83 #[.int .i64 0, v] w fun e w' => e = .returned (.bool (rowMay1 xs)) ∧ Le w w' := by
  have hl := Le.alloc w (.cells #[.int .i64 1, .int .i64 4, .int .i64 4] 3)
  obtain ⟨a, cap, rfl, hc, _, hx⟩ := hx
  rw [rowMay1_eq]
  by_cases h0 : 0 < xs.length
  · obtain ⟨b, off, rfl, hcell⟩ := hx h0
    obtain ⟨L, hL⟩ : ∃ L, L = xs.length := ⟨_, rfl⟩
    rw [← hL] at hm hc hcell h0 ⊢
    have HL : Hid (L = xs.length) := hL
    clear hL hx
    go_enter Tryz.func83, Tryz.ntmps83
    go_wp2
    go_loopw [6] (fun i wr => ∃ k : Nat, k ≤ L ∧ i = .int .i64 k ∧ Hid ((xs.take k).all argB = true) ∧ Le (w.alloc (.cells #[.int .i64 1, .int .i64 4, .int .i64 4] 3)) wr) (fun i _ => L - (intOf i).toNat)
    case atStart => exact ⟨0, Nat.zero_le _, rfl, rfl, Le.refl _⟩
    case round =>
      obtain ⟨k, hk, rfl, HA, hle⟩ := hrel
      by_cases hlt : k < L
      · obtain ⟨x, hxk⟩ : ∃ x, x = xs.getD k 0 := ⟨_, rfl⟩
        have hcx := hcell k hlt
        rw [← hxk] at hcx
        have c1 : ∀ X : Later wr, X.w.cell? ⟨b, off + k, none⟩ = some (.int .i64 x) := fun X => by
          have hb := World.block_lt_of_cell? w _ hcx
          rw [((hl.trans hle).trans X.le).cell (p := ⟨b, off + k, none⟩) hb]; exact hcx
        have HX : Hid (x = xs.getD k 0) := hxk
        clear hxk hcell hcx
        cases hh : argB x
        · have hup := fun w' => refUpTo x 0 255 w'
          have hh' : (decide (0 ≤ x) && decide (x ≤ 255)) = false := hh
          simp only [hh'] at hup
          go_wp2_with fail
          refine wp_region_later (by kernel_rfl) (by kernel_rfl) ?_
          repeat (go_big_quiet_step (first | (go_at_call 69; exact Calls.later_same (hup _))))
          refine wpQuiet_nil ?_
          rintro _ ⟨y, rfl⟩
          go_wp2
          go_ret
          exact ⟨ret_bool (by rw [all_bad (p := argB) (k := k) (by rw [← HL.out]; exact hlt) (HX.out ▸ hh)]; rfl), (hl.trans hle).trans y.le⟩
        · have hup := fun w' => refUpTo x 0 255 w'
          have hh' : (decide (0 ≤ x) && decide (x ≤ 255)) = true := hh
          simp only [hh'] at hup
          go_wp2_with fail
          refine wp_region_later (by kernel_rfl) (by kernel_rfl) ?_
          repeat (go_big_quiet_step (first | (go_at_call 69; exact Calls.later_same (hup _))))
          refine wpQuiet_nil ?_
          rintro _ ⟨y, rfl⟩
          go_wp2
          go_roundw
          case rel => exact ⟨k + 1, by omega, by go_num, by rw [all_take (by rw [← HL.out]; exact hlt), HA.out, ← HX.out, hh]; rfl, hle.trans y.le⟩
          case measure => simp [intOf]; omega
      · go_wp2
        go_ret
        refine ⟨ret_bool ?_, hl.trans hle⟩
        have := HA.out
        rw [List.take_of_length_le (by have := HL.out; omega)] at this
        rw [this, Bool.true_and, decide_eq_decide]
        omega
  · have hnil : xs = [] := by cases xs with | nil => rfl | cons _ _ => simp at h0
    subst hnil
    go_enter Tryz.func83, Tryz.ntmps83
    go_wp2
    refine wp_loop_rounds 1 ?_
    rw [rounds_succ]
    go_wp2
    go_ret
    exact ⟨ret_bool (by simp), hl⟩

set_option maxHeartbeats 400000 in
theorem refStateMay0 (v : Value) (s : St) (w : World) (hx : HasS w v s) (hf : Fit s) :
    Calls Tryz.prog 68 #[.int .i64 0, v] w fun e w' => e = .returned (.bool (s.all rowMay1)) ∧ Le w w' := by
  obtain ⟨vs, rfl, hr⟩ := hx
  have hl := Le.alloc w (.cells (cells4 vs) 54)
  have hb := Box.new w (cells4 vs) 54
  go_enter Tryz.func68, Tryz.ntmps68
  go_wp2
  go_loopw [5] (fun i wr => ∃ k : Nat, k ≤ 4 ∧ i = .int .i64 k ∧ Hid (∀ j, j < k → rowMay1 (s.at j) = true) ∧ Le (w.alloc (.cells (cells4 vs) 54)) wr) (fun i _ => 4 - (intOf i).toNat)
  case atStart => exact ⟨0, by omega, rfl, (fun j hj => by omega), Le.refl _⟩
  case round =>
    obtain ⟨k, hk, rfl, HA, hle⟩ := hrel
    by_cases hlt : k < 4
    · have hm := refRowMay0 (slV (vs k)) (s.at k) wr ((hr k hlt).le (hl.trans hle)) (hf k hlt)
      have c1 : wr.cell? ⟨w.heap.size, k, none⟩ = some (slV (vs k)) := ((hb.le hle).cell k).trans (cells4_at vs hlt)
      cases hh : rowMay1 (s.at k)
      · rw [hh] at hm
        go_wp2_with fail
        refine hm.mono ?_
        rintro e w1 ⟨rfl, l1⟩
        go_wp2
        go_ret
        exact ⟨ret_bool (St.all_not hlt hh).symm, (hl.trans hle).trans l1⟩
      · rw [hh] at hm
        go_wp2_with fail
        refine hm.mono ?_
        rintro e w1 ⟨rfl, l1⟩
        go_wp2
        go_roundw
        case rel => exact ⟨k + 1, by omega, by go_num, (fun j hj => by rcases Nat.lt_or_eq_of_le (Nat.le_of_lt_succ hj) with h | h; exact HA.out j h; exact h ▸ hh), hle.trans l1⟩
        case measure => simp [intOf]; omega
    · obtain rfl : k = 4 := by omega
      go_wp2
      go_ret
      exact ⟨ret_bool (St.all_of HA.out).symm, hl.trans hle⟩

set_option maxHeartbeats 400000 in
theorem refFirst (v : Value) (xs : List Int) (w : World) (hx : Has w v xs) :
    Calls Tryz.prog 101 #[v] w fun e w' => e = .returned (.int .i64 (firstS xs)) ∧ w = w' := by
  obtain ⟨a, cap, rfl, hc, _, hx⟩ := hx
  match xs, hc, hx with
  | [], hc, hx =>
    go_enter Tryz.func101, Tryz.ntmps101
    go_wp2
    go_ret
    exact ⟨rfl, rfl⟩
  | x :: zs, hc, hx =>
    obtain ⟨b, off, rfl, hcell⟩ := hx (by simp)
    have c0 : w.cell? ⟨b, off, none⟩ = some (.int .i64 x) := hcell 0 (by simp)
    simp only [List.length_cons] at hc ⊢
    have n0 : ¬ (((zs.length + 1 : Nat) : Int)) = 0 := by omega
    clear hx hcell
    go_enter Tryz.func101, Tryz.ntmps101
    go_wp2
    go_ret
    exact ⟨rfl, rfl⟩


set_option maxHeartbeats 400000 in
theorem refStoreRow0 (v : Value) (xs : List Int) (r a : Int) (w : World) (hx : Has w v xs) (base : Nat) (hbase : base ≤ w.heap.size) :
    Calls Tryz.prog 102 #[v, opV 0 r a] w fun e w' => ∃ q : Sl, e = .returned (.tuple #[slV q, .int .i64 (firstS xs)]) ∧ Own w' base (slV q) [a] ∧ Le w w' := by
  have hl := Le.alloc w (.cells #[.int .i64 0, .int .i64 r, .int .i64 a] 48)
  have hb := Box.new w #[.int .i64 0, .int .i64 r, .int .i64 a] 48
  have hfi := fun (w' : World) (h : Le w w') => refFirst v xs w' (hx.le h)
  go_enter Tryz.func102, Tryz.ntmps102
  go_wp2_with fail
  generalize hW : w.alloc (.cells #[.int .i64 0, .int .i64 r, .int .i64 a] 48) = W at hl hb ⊢
  have o2 := hb.op.2.2.1
  have hown : Own (W.alloc (.cells #[.int .i64 a] 3)) base (slV (some ⟨W.heap.size, 0, none⟩, 1, 1)) [a] := Own.lit W _ (Nat.le_trans hbase hl.size) [a] (by simp)
  clear hW hb
  go_region_held3 (fun w' => w'.cell? ⟨w.heap.size, 2, none⟩ = some (.int .i64 a)) (go_keep) (first | (go_at_call 101; refine (hfi _ (hl.trans (Le.drew _))).mono ?_; rintro e w1 ⟨rfl, rfl⟩) | (go_at_call 101; refine (hfi _ (hl.trans ((Le.alloc _ _).trans (Le.drew _)))).mono ?_; rintro e w1 ⟨rfl, rfl⟩))
  all_goals
    go_wp2_with fail
    refine bodyPost_ret (v := .tuple #[slV (some ⟨W.heap.size, 0, none⟩, 1, 1), .int .i64 (firstS xs)]) (by simp [results, Tryz.results102]) rfl ⟨_, rfl, hown.le (Le.drew _), hl.trans ((Le.alloc _ _).trans (Le.drew _))⟩

set_option maxHeartbeats 400000 in
theorem refStoreRow1 (v : Value) (xs : List Int) (r a : Int) (w : World) (hx : Has w v xs) :
    Calls Tryz.prog 102 #[v, opV 1 r a] w fun e w' => e = .returned (.tuple #[slV slZ, .int .i64 (firstS xs)]) ∧ Le w w' := by
  have hl := Le.alloc w (.cells #[.int .i64 1, .int .i64 r, .int .i64 a] 48)
  have hfi := fun (w' : World) (h : Le w w') => refFirst v xs w' (hx.le h)
  go_enter Tryz.func102, Tryz.ntmps102
  go_wp2_with (go_at_call 101; refine (hfi _ hl).mono ?_; rintro e w1 ⟨rfl, rfl⟩)
  refine bodyPost_ret (v := .tuple #[slV slZ, .int .i64 (firstS xs)]) (by simp [results, Tryz.results102]) rfl ⟨rfl, hl⟩

theorem refStoreRow1' (v : Value) (xs : List Int) (r a : Int) (w : World) (hx : Has w v xs) (base : Nat) :
    Calls Tryz.prog 102 #[v, opV 1 r a] w fun e w' => ∃ q : Sl, e = .returned (.tuple #[slV q, .int .i64 (firstS xs)]) ∧ Own w' base (slV q) [] ∧ Le w w' :=
  (refStoreRow1 v xs r a w hx).mono fun _ _ ⟨he, hl⟩ => ⟨slZ, he, Own.nil _ _, hl⟩

end Go.Proofs.YtibleipfablniaaGreat

/-
  PLAIN GROUND, NO WALK: sums of numbers of rows that are short and of small numbers. No condition.
-/
namespace Go.Proofs.YtibleipfablniaaGreat

/-- A row of at most four numbers, each from 0 to 255. -/
def Small (xs : List Int) : Prop := xs.length ≤ 4 ∧ ∀ x ∈ xs, 0 ≤ x ∧ x ≤ 255
/-- The sum of the first m numbers. -/
def sumOf (xs : List Int) (m : Nat) : Int := (xs.take m).sum

theorem sumOf_step {xs : List Int} {m : Nat} (h : m < xs.length) : sumOf xs (m + 1) = sumOf xs m + xs.getD m 0 := by
  unfold sumOf
  have e : xs.getD m 0 = xs[m] := by simp [List.getD, h]
  rw [List.take_succ_eq_append_getElem h, List.sum_append, e]
  simp only [List.sum_cons, List.sum_nil, Int.add_zero]
theorem sumOf_all (xs : List Int) : sumOf xs xs.length = xs.sum := by unfold sumOf; rw [List.take_length]
theorem Small.at {xs : List Int} (h : Small xs) {m : Nat} (hm : m < xs.length) : 0 ≤ xs.getD m 0 ∧ xs.getD m 0 ≤ 255 := by
  have := h.2 xs[m] (List.getElem_mem hm)
  simpa [List.getD, hm] using this
theorem Small.sum {xs : List Int} (h : Small xs) : ∀ m, m ≤ xs.length → 0 ≤ sumOf xs m ∧ sumOf xs m ≤ 255 * m
  | 0, _ => by simp [sumOf]
  | m + 1, hm => by
    have ih := h.sum m (by omega)
    have := h.at (m := m) (by omega)
    rw [sumOf_step (by omega)]
    omega
theorem sumTo_small {s : St} (h : ∀ k, k < 4 → Small (s.at k)) : ∀ k, k ≤ 4 → 0 ≤ sumTo s k ∧ sumTo s k ≤ 1020 * k
  | 0, _ => by simp [sumTo]
  | k + 1, hk => by
    have ih := sumTo_small h k (by omega)
    have h1 := (h k (by omega)).1
    have h2 := (h k (by omega)).sum (s.at k).length (Nat.le_refl _)
    rw [sumOf_all] at h2
    simp only [sumTo]
    omega

end Go.Proofs.YtibleipfablniaaGreat

/-
  THE WALKS over the document's own Apply, at object 0: what it answers, for every state and operation. Condition: the state's rows can be copied.
-/
namespace Go.Proofs.YtibleipfablniaaGreat
open Go.RowKit

theorem small1 {s : St} (hm : s.all rowMay1 = true) : ∀ k, k < 4 → Small (s.at k) := fun k hk => by
  rcases rowMay1_cases (St.all_at hm hk) with e | ⟨x, e, h0, h1⟩ <;> rw [e]
  · exact ⟨by simp, by simp⟩
  · exact ⟨by simp, by simp; omega⟩

set_option maxHeartbeats 2000000 in
theorem refStoreNo (v : Value) (s : St) (c r a er : Int) (w : World) (hx : HasS w v s) (hf : Fit s) (h : (s.all rowMay1 && opMay c r a) = false) :
    Calls Tryz.prog 91 #[.int .i64 0, v, opV c r a, .int .i64 er] w fun e w' => e = .returned (.tuple #[stZ, .int .i64 0, .int .i64 er]) ∧ Le w w' := by
  have hx0 := hx
  obtain ⟨vs, rfl, hr⟩ := hx
  have hl := ((Le.alloc w (.cells (cells4 vs) 54)).trans (Le.alloc _ (.cells #[.int .i64 c, .int .i64 r, .int .i64 a] 48))).trans (Le.alloc _ (.cells (cells4 fun _ => slZ) 54))
  have hb1 := ((Box.new w (cells4 vs) 54).le (Le.alloc _ (.cells #[.int .i64 c, .int .i64 r, .int .i64 a] 48))).le (Le.alloc _ (.cells (cells4 fun _ => slZ) 54))
  have hb2 := (Box.new (w.alloc (.cells (cells4 vs) 54)) #[.int .i64 c, .int .i64 r, .int .i64 a] 48).le (Le.alloc _ (.cells (cells4 fun _ => slZ) 54))
  have hb3 := Box.new ((w.alloc (.cells (cells4 vs) 54)).alloc (.cells #[.int .i64 c, .int .i64 r, .int .i64 a] 48)) (cells4 fun _ => slZ) 54
  simp only [World.size_alloc] at hb1 hb2 hb3
  have hmay := refStateMay0 (stV vs) s _ (hx0.le hl) hf
  cases hm : s.all rowMay1
  · rw [hm] at hmay
    go_enter Tryz.func91, Tryz.ntmps91
    go_wp2_with fail
    refine hmay.mono ?_
    rintro e w1 ⟨rfl, l1⟩
    obtain ⟨z0, z1, z2, z3, f0, f1, f2, f3⟩ := (hb3.le l1).st
    go_wp2_with fail
    refine bodyPost_ret (v := .tuple #[stZ, .int .i64 0, .int .i64 er]) (by simp [results, Tryz.results91, go_sem, z0, z1, z2, z3]) rfl ⟨rfl, ?_⟩
    exact (hl.trans l1).set4 (by omega) _ _ _ _
  · have hop : opMay c r a = false := by simpa [hm] using h
    rw [hm] at hmay
    go_enter Tryz.func91, Tryz.ntmps91
    go_wp2_with fail
    refine hmay.mono ?_
    rintro e w1 ⟨rfl, l1⟩
    obtain ⟨y0, y1, y2, _, _, _⟩ := (hb2.le l1).op
    go_wp2_with fail
    refine (refOperMay _ _ _ _).mono ?_
    rw [hop]
    rintro e w2 ⟨rfl, l2⟩
    obtain ⟨z0, z1, z2, z3, f0, f1, f2, f3⟩ := ((hb3.le l1).le l2).st
    go_wp2_with fail
    refine bodyPost_ret (v := .tuple #[stZ, .int .i64 0, .int .i64 er]) (by simp [results, Tryz.results91, go_sem, z0, z1, z2, z3]) rfl ⟨rfl, ?_⟩
    exact ((hl.trans l1).trans l2).set4 (by omega) _ _ _ _

set_option maxRecDepth 4000 in
set_option maxHeartbeats 4000000 in
theorem refStoreScan (v : Value) (s : St) (er : Int) (w : World) (hx : HasS w v s) (hf : Fit s) (hm : s.all rowMay1 = true) :
    Calls Tryz.prog 91 #[.int .i64 0, v, opV 3 0 0, .int .i64 er] w fun e w' => ∃ v', e = .returned (.tuple #[v', .int .i64 (sumTo s 4), .int .i64 0]) ∧ OwnS w' w.heap.size v' (s) ∧ Le w w' := by
  have hx0 := hx
  obtain ⟨vs, rfl, hr⟩ := hx
  have hl := ((Le.alloc w (.cells (cells4 vs) 54)).trans (Le.alloc _ (.cells #[.int .i64 3, .int .i64 0, .int .i64 0] 48))).trans (Le.alloc _ (.cells (cells4 fun _ => slZ) 54))
  have hb1 := ((Box.new w (cells4 vs) 54).le (Le.alloc _ (.cells #[.int .i64 3, .int .i64 0, .int .i64 0] 48))).le (Le.alloc _ (.cells (cells4 fun _ => slZ) 54))
  have hb2 := (Box.new (w.alloc (.cells (cells4 vs) 54)) #[.int .i64 3, .int .i64 0, .int .i64 0] 48).le (Le.alloc _ (.cells (cells4 fun _ => slZ) 54))
  have hb3 := Box.new ((w.alloc (.cells (cells4 vs) 54)).alloc (.cells #[.int .i64 3, .int .i64 0, .int .i64 0] 48)) (cells4 fun _ => slZ) 54
  simp only [World.size_alloc] at hb1 hb2 hb3
  have hmay := refStateMay0 (stV vs) s _ (hx0.le hl) hf
  rw [hm] at hmay
  have hop : opMay 3 0 0 = true := by decide
  have hsm := small1 hm
  go_enter Tryz.func91, Tryz.ntmps91
  go_wp2_with fail
  refine hmay.mono ?_
  rintro e w1 ⟨rfl, l1⟩
  obtain ⟨y0, y1, y2, _, _, _⟩ := (hb2.le l1).op
  clear hmay
  go_wp2_with fail
  refine (refOperMay _ _ _ _).mono ?_
  rw [hop]
  rintro e w2 ⟨rfl, l2⟩
  replace l1 := l1.trans l2
  clear l2 y0 y1 y2
  obtain ⟨y0, y1, y2, y3, _, _, _, _⟩ := (hb1.le l1).st
  go_wp2_with fail
  refine (refCopyState (stV vs) s _ (hx0.le (hl.trans l1)) hf).mono ?_
  rintro e w3 ⟨_, rfl, ⟨us, rfl, hown⟩, l3⟩
  replace hown := fun i hi => (hown i hi).base (base' := w.heap.size) (hl.trans l1).size
  replace l1 := l1.trans l3
  clear l3 y0 y1 y2 y3
  have n0 : w.heap.size + 1 + 1 < w3.heap.size := (hb3.le l1).lt
  have n1 : ¬ w.heap.size + 1 + 1 = w3.heap.size := by omega
  have n2 : ¬ w.heap.size + 1 + 1 = w.heap.size := by omega
  have n3 : ¬ w.heap.size + 1 + 1 = w.heap.size + 1 := by omega
  have hb4 := Box.new w3 (cells4 us) 54
  replace l1 := l1.trans (Le.alloc w3 (.cells (cells4 us) 54))
  replace hown := fun i hi => (hown i hi).le (Le.alloc w3 (.cells (cells4 us) 54))
  go_wp2_with fail
  generalize hW : w3.alloc (.cells (cells4 us) 54) = W at hb4 l1 hown ⊢
  clear hW
  go_loop [12, 13, 14] (fun t m i => ∃ j : Nat, j ≤ 4 ∧ i = .int .i64 j ∧ t = .int .i64 (sumTo s j) ∧ m = .int .i64 (manyTo s j)) (fun _ _ i => 4 - (intOf i).toNat)
  case atStart => exact ⟨0, by omega, rfl, rfl, rfl⟩
  case round =>
    obtain ⟨j, hj, rfl, rfl, rfl⟩ := hrel
    by_cases hlt : j < 4
    · have c1 : W.cell? ⟨w.heap.size, j, none⟩ = some (slV (vs j)) := ((hb1.le l1).cell j).trans (cells4_at vs hlt)
      obtain ⟨b0, b1⟩ := sumTo_small hsm j hj
      obtain ⟨b2, b3⟩ := manyTo_bounds (m := 4) (fun i hi => (hsm i hi).1) j hj
      obtain ⟨ad, cap, hv, hc, _, hcell⟩ := (hr j hlt).le (hl.trans l1)
      have hs : sumTo s (j + 1) = sumTo s j + sumOf (s.at j) (s.at j).length := by rw [sumOf_all]; rfl
      have hn : manyTo s (j + 1) = manyTo s j + (s.at j).length := rfl
      have hsj := hsm j hlt
      have hlj := hsj.1
      rw [hv] at c1
      obtain ⟨T, hT⟩ : ∃ T, T = sumTo s j := ⟨_, rfl⟩
      obtain ⟨M, hM⟩ : ∃ M, M = manyTo s j := ⟨_, rfl⟩
      obtain ⟨L, hL⟩ : ∃ L, L = (s.at j).length := ⟨_, rfl⟩
      rw [← hT] at b0 b1 hs ⊢
      rw [← hM] at b2 b3 hn ⊢
      rw [← hL] at c1 hc hcell hs hn hlj
      have HS : Hid (sumTo s (j + 1) = T + sumOf (s.at j) L) := hs
      have HN : Hid (manyTo s (j + 1) = M + L) := hn
      have HL : Hid (L = (s.at j).length) := hL
      clear hs hn hv hm hr hown hb1 hb2 hb3 hb4 hop n0 n1 n2 n3 hT hM hL hsm
      go_wp2
      go_loop [12, 15] (fun t i => ∃ m : Nat, m ≤ L ∧ i = .int .i64 m ∧ t = .int .i64 (T + sumOf (s.at j) m)) (fun _ i => L - (intOf i).toNat)
      case atStart => exact ⟨0, by omega, rfl, by simp [sumOf]⟩
      case round =>
        obtain ⟨m, hmL, rfl, rfl⟩ := hrel
        obtain ⟨d0, d1⟩ := hsj.sum m (by rw [← HL.out]; exact hmL)
        by_cases hlt2 : m < L
        · obtain ⟨b, off, rfl, hcl⟩ := hcell (by omega)
          have c2 := hcl m hlt2
          have hst := sumOf_step (xs := s.at j) (m := m) (by rw [← HL.out]; exact hlt2)
          obtain ⟨d2, d3⟩ := hsj.at (m := m) (by rw [← HL.out]; exact hlt2)
          obtain ⟨x, hx⟩ : ∃ x, x = (s.at j).getD m 0 := ⟨_, rfl⟩
          rw [← hx] at c2 hst d2 d3
          obtain ⟨t, ht⟩ : ∃ t, t = sumOf (s.at j) m := ⟨_, rfl⟩
          rw [← ht] at hst d0 d1 ⊢
          have HT : Hid (sumOf (s.at j) (m + 1) = t + x) := hst
          have m0 : (0 : Int) ≤ (m : Int) := by omega
          have m1 : (m : Int) < (L : Int) := by omega
          clear hst ht hx hcl hcell hsj
          go_wp2
          go_round
          case rel => exact ⟨m + 1, by omega, by go_num, by rw [HT.out, Int.add_assoc]⟩
          case measure => simp [intOf]; omega
        · obtain rfl : m = L := by omega
          clear hcell hsj
          go_wp2
          go_round
          case rel => exact ⟨j + 1, by omega, by go_num, by rw [HS.out], by rw [HN.out]⟩
          case measure => simp [intOf]; omega
    · obtain rfl : j = 4 := by omega
      clear hlt hj
      obtain ⟨y0, y1, y2, y3, _, _, _, _⟩ := hb4.st
      obtain ⟨z0, z1, z2, z3, f0, f1, f2, f3⟩ := (hb3.le l1).st
      obtain ⟨o0, o1, o2, _, _, _⟩ := (hb2.le l1).op
      go_wp2_with fail
      refine bodyPost_ret (v := .tuple #[stV us, .int .i64 (sumTo s 4), .int .i64 0]) (by simp [results, Tryz.results91, go_sem, z0, z1, z2, z3]) rfl ⟨_, rfl, ⟨us, rfl, fun i hi => ?_⟩, ?_⟩
      · exact (hown i hi).set4 (hb3.le l1) (by decide) _ _ _ _
      · exact (hl.trans l1).set4 (by omega) _ _ _ _

set_option maxRecDepth 4000 in
set_option maxHeartbeats 4000000 in
theorem refStoreLook (v : Value) (s : St) (k : Nat) (er : Int) (w : World) (hx : HasS w v s) (hf : Fit s) (hm : s.all rowMay1 = true) (hk : k < 4) :
    Calls Tryz.prog 91 #[.int .i64 0, v, opV 2 k 0, .int .i64 er] w fun e w' => ∃ v', e = .returned (.tuple #[v', .int .i64 (firstS (s.at k)), .int .i64 0]) ∧ OwnS w' w.heap.size v' (s) ∧ Le w w' := by
  have hx0 := hx
  obtain ⟨vs, rfl, hr⟩ := hx
  have hl := ((Le.alloc w (.cells (cells4 vs) 54)).trans (Le.alloc _ (.cells #[.int .i64 2, .int .i64 k, .int .i64 0] 48))).trans (Le.alloc _ (.cells (cells4 fun _ => slZ) 54))
  have hb1 := ((Box.new w (cells4 vs) 54).le (Le.alloc _ (.cells #[.int .i64 2, .int .i64 k, .int .i64 0] 48))).le (Le.alloc _ (.cells (cells4 fun _ => slZ) 54))
  have hb2 := (Box.new (w.alloc (.cells (cells4 vs) 54)) #[.int .i64 2, .int .i64 k, .int .i64 0] 48).le (Le.alloc _ (.cells (cells4 fun _ => slZ) 54))
  have hb3 := Box.new ((w.alloc (.cells (cells4 vs) 54)).alloc (.cells #[.int .i64 2, .int .i64 k, .int .i64 0] 48)) (cells4 fun _ => slZ) 54
  simp only [World.size_alloc] at hb1 hb2 hb3
  have hmay := refStateMay0 (stV vs) s _ (hx0.le hl) hf
  rw [hm] at hmay
  have hop : opMay 2 k 0 = true := by simp [opMay]; omega
  have hsm := small1 hm
  go_enter Tryz.func91, Tryz.ntmps91
  go_wp2_with fail
  refine hmay.mono ?_
  rintro e w1 ⟨rfl, l1⟩
  obtain ⟨y0, y1, y2, _, _, _⟩ := (hb2.le l1).op
  clear hmay
  go_wp2_with fail
  refine (refOperMay _ _ _ _).mono ?_
  rw [hop]
  rintro e w2 ⟨rfl, l2⟩
  replace l1 := l1.trans l2
  clear l2 y0 y1 y2
  obtain ⟨y0, y1, y2, y3, _, _, _, _⟩ := (hb1.le l1).st
  go_wp2_with fail
  refine (refCopyState (stV vs) s _ (hx0.le (hl.trans l1)) hf).mono ?_
  rintro e w3 ⟨_, rfl, ⟨us, rfl, hown⟩, l3⟩
  replace hown := fun i hi => (hown i hi).base (base' := w.heap.size) (hl.trans l1).size
  replace l1 := l1.trans l3
  clear l3 y0 y1 y2 y3
  have n0 : w.heap.size + 1 + 1 < w3.heap.size := (hb3.le l1).lt
  have n1 : ¬ w.heap.size + 1 + 1 = w3.heap.size := by omega
  have n2 : ¬ w.heap.size + 1 + 1 = w.heap.size := by omega
  have n3 : ¬ w.heap.size + 1 + 1 = w.heap.size + 1 := by omega
  have hb4 := Box.new w3 (cells4 us) 54
  replace l1 := l1.trans (Le.alloc w3 (.cells (cells4 us) 54))
  replace hown := fun i hi => (hown i hi).le (Le.alloc w3 (.cells (cells4 us) 54))
  go_wp2_with fail
  generalize hW : w3.alloc (.cells (cells4 us) 54) = W at hb4 l1 hown ⊢
  clear hW
  go_loop [12, 13, 14] (fun t m i => ∃ j : Nat, j ≤ 4 ∧ i = .int .i64 j ∧ t = .int .i64 (sumTo s j) ∧ m = .int .i64 (manyTo s j)) (fun _ _ i => 4 - (intOf i).toNat)
  case atStart => exact ⟨0, by omega, rfl, rfl, rfl⟩
  case round =>
    obtain ⟨j, hj, rfl, rfl, rfl⟩ := hrel
    by_cases hlt : j < 4
    · have c1 : W.cell? ⟨w.heap.size, j, none⟩ = some (slV (vs j)) := ((hb1.le l1).cell j).trans (cells4_at vs hlt)
      obtain ⟨b0, b1⟩ := sumTo_small hsm j hj
      obtain ⟨b2, b3⟩ := manyTo_bounds (m := 4) (fun i hi => (hsm i hi).1) j hj
      obtain ⟨ad, cap, hv, hc, _, hcell⟩ := (hr j hlt).le (hl.trans l1)
      have hs : sumTo s (j + 1) = sumTo s j + sumOf (s.at j) (s.at j).length := by rw [sumOf_all]; rfl
      have hn : manyTo s (j + 1) = manyTo s j + (s.at j).length := rfl
      have hsj := hsm j hlt
      have hlj := hsj.1
      rw [hv] at c1
      obtain ⟨T, hT⟩ : ∃ T, T = sumTo s j := ⟨_, rfl⟩
      obtain ⟨M, hM⟩ : ∃ M, M = manyTo s j := ⟨_, rfl⟩
      obtain ⟨L, hL⟩ : ∃ L, L = (s.at j).length := ⟨_, rfl⟩
      rw [← hT] at b0 b1 hs ⊢
      rw [← hM] at b2 b3 hn ⊢
      rw [← hL] at c1 hc hcell hs hn hlj
      have HS : Hid (sumTo s (j + 1) = T + sumOf (s.at j) L) := hs
      have HN : Hid (manyTo s (j + 1) = M + L) := hn
      have HL : Hid (L = (s.at j).length) := hL
      clear hs hn hv hm hr hown hb1 hb2 hb3 hb4 hop n0 n1 n2 n3 hT hM hL hsm
      go_wp2
      go_loop [12, 15] (fun t i => ∃ m : Nat, m ≤ L ∧ i = .int .i64 m ∧ t = .int .i64 (T + sumOf (s.at j) m)) (fun _ i => L - (intOf i).toNat)
      case atStart => exact ⟨0, by omega, rfl, by simp [sumOf]⟩
      case round =>
        obtain ⟨m, hmL, rfl, rfl⟩ := hrel
        obtain ⟨d0, d1⟩ := hsj.sum m (by rw [← HL.out]; exact hmL)
        by_cases hlt2 : m < L
        · obtain ⟨b, off, rfl, hcl⟩ := hcell (by omega)
          have c2 := hcl m hlt2
          have hst := sumOf_step (xs := s.at j) (m := m) (by rw [← HL.out]; exact hlt2)
          obtain ⟨d2, d3⟩ := hsj.at (m := m) (by rw [← HL.out]; exact hlt2)
          obtain ⟨x, hx⟩ : ∃ x, x = (s.at j).getD m 0 := ⟨_, rfl⟩
          rw [← hx] at c2 hst d2 d3
          obtain ⟨t, ht⟩ : ∃ t, t = sumOf (s.at j) m := ⟨_, rfl⟩
          rw [← ht] at hst d0 d1 ⊢
          have HT : Hid (sumOf (s.at j) (m + 1) = t + x) := hst
          have m0 : (0 : Int) ≤ (m : Int) := by omega
          have m1 : (m : Int) < (L : Int) := by omega
          clear hst ht hx hcl hcell hsj
          go_wp2
          go_round
          case rel => exact ⟨m + 1, by omega, by go_num, by rw [HT.out, Int.add_assoc]⟩
          case measure => simp [intOf]; omega
        · obtain rfl : m = L := by omega
          clear hcell hsj
          go_wp2
          go_round
          case rel => exact ⟨j + 1, by omega, by go_num, by rw [HS.out], by rw [HN.out]⟩
          case measure => simp [intOf]; omega
    · obtain rfl : j = 4 := by omega
      clear hlt hj
      obtain ⟨y0, y1, y2, y3, _, _, _, _⟩ := hb4.st
      obtain ⟨z0, z1, z2, z3, f0, f1, f2, f3⟩ := (hb3.le l1).st
      obtain ⟨o0, o1, o2, _, _, _⟩ := (hb2.le l1).op
      have k0 : (0 : Int) ≤ (k : Int) := by omega
      have k1 : (k : Int) < 4 := by omega
      have yk : W.cell? ⟨w3.heap.size, k, none⟩ = some (slV (us k)) := (hb4.cell k).trans (cells4_at us hk)
      have hfi := refFirst (slV (us k)) (s.at k) W.drew ((hown k hk).has.le (Le.drew _))
      go_wp2_with fail
      go_region_held3 (fun w' => w'.cell? ⟨w3.heap.size, 0, none⟩ = some (slV (us 0)) ∧ w'.cell? ⟨w3.heap.size, 1, none⟩ = some (slV (us 1)) ∧ w'.cell? ⟨w3.heap.size, 2, none⟩ = some (slV (us 2)) ∧ w'.cell? ⟨w3.heap.size, 3, none⟩ = some (slV (us 3))) (go_keep) ((go_at_call 101; refine hfi.mono ?_; rintro e w4 ⟨rfl, rfl⟩))
      all_goals
        go_wp2_with fail
        refine bodyPost_ret (v := .tuple #[stV us, .int .i64 (firstS (s.at k)), .int .i64 0]) (by simp [results, Tryz.results91, go_sem, z0, z1, z2, z3]) rfl ⟨_, rfl, ⟨us, rfl, fun i hi => ?_⟩, ?_⟩
        · exact ((hown i hi).le (Le.drew _)).set4 (hb3.le (l1.trans (Le.drew _))) (by decide) _ _ _ _
        · exact ((hl.trans l1).trans (Le.drew _)).set4 (by omega) _ _ _ _

set_option maxRecDepth 4000 in
set_option maxHeartbeats 4000000 in
theorem refStoreFirst (v : Value) (s : St) (k : Nat) (a : Int) (er : Int) (w : World) (hx : HasS w v s) (hf : Fit s) (hm : s.all rowMay1 = true) (hk : k < 4) (ha : 0 ≤ a ∧ a ≤ 255) :
    Calls Tryz.prog 91 #[.int .i64 0, v, opV 0 k a, .int .i64 er] w fun e w' => ∃ v', e = .returned (.tuple #[v', .int .i64 (firstS (s.at k)), .int .i64 0]) ∧ OwnS w' w.heap.size v' (s.put k [a]) ∧ Le w w' := by
  have hx0 := hx
  obtain ⟨vs, rfl, hr⟩ := hx
  have hl := ((Le.alloc w (.cells (cells4 vs) 54)).trans (Le.alloc _ (.cells #[.int .i64 0, .int .i64 k, .int .i64 a] 48))).trans (Le.alloc _ (.cells (cells4 fun _ => slZ) 54))
  have hb1 := ((Box.new w (cells4 vs) 54).le (Le.alloc _ (.cells #[.int .i64 0, .int .i64 k, .int .i64 a] 48))).le (Le.alloc _ (.cells (cells4 fun _ => slZ) 54))
  have hb2 := (Box.new (w.alloc (.cells (cells4 vs) 54)) #[.int .i64 0, .int .i64 k, .int .i64 a] 48).le (Le.alloc _ (.cells (cells4 fun _ => slZ) 54))
  have hb3 := Box.new ((w.alloc (.cells (cells4 vs) 54)).alloc (.cells #[.int .i64 0, .int .i64 k, .int .i64 a] 48)) (cells4 fun _ => slZ) 54
  simp only [World.size_alloc] at hb1 hb2 hb3
  have hmay := refStateMay0 (stV vs) s _ (hx0.le hl) hf
  rw [hm] at hmay
  have hop : opMay 0 k a = true := by simp [opMay]; omega
  have hsm := small1 hm
  go_enter Tryz.func91, Tryz.ntmps91
  go_wp2_with fail
  refine hmay.mono ?_
  rintro e w1 ⟨rfl, l1⟩
  obtain ⟨y0, y1, y2, _, _, _⟩ := (hb2.le l1).op
  clear hmay
  go_wp2_with fail
  refine (refOperMay _ _ _ _).mono ?_
  rw [hop]
  rintro e w2 ⟨rfl, l2⟩
  replace l1 := l1.trans l2
  clear l2 y0 y1 y2
  obtain ⟨y0, y1, y2, y3, _, _, _, _⟩ := (hb1.le l1).st
  go_wp2_with fail
  refine (refCopyState (stV vs) s _ (hx0.le (hl.trans l1)) hf).mono ?_
  rintro e w3 ⟨_, rfl, ⟨us, rfl, hown⟩, l3⟩
  replace hown := fun i hi => (hown i hi).base (base' := w.heap.size) (hl.trans l1).size
  replace l1 := l1.trans l3
  clear l3 y0 y1 y2 y3
  have n0 : w.heap.size + 1 + 1 < w3.heap.size := (hb3.le l1).lt
  have n1 : ¬ w.heap.size + 1 + 1 = w3.heap.size := by omega
  have n2 : ¬ w.heap.size + 1 + 1 = w.heap.size := by omega
  have n3 : ¬ w.heap.size + 1 + 1 = w.heap.size + 1 := by omega
  have hb4 := Box.new w3 (cells4 us) 54
  replace l1 := l1.trans (Le.alloc w3 (.cells (cells4 us) 54))
  replace hown := fun i hi => (hown i hi).le (Le.alloc w3 (.cells (cells4 us) 54))
  go_wp2_with fail
  generalize hW : w3.alloc (.cells (cells4 us) 54) = W at hb4 l1 hown ⊢
  clear hW
  go_loop [12, 13, 14] (fun t m i => ∃ j : Nat, j ≤ 4 ∧ i = .int .i64 j ∧ t = .int .i64 (sumTo s j) ∧ m = .int .i64 (manyTo s j)) (fun _ _ i => 4 - (intOf i).toNat)
  case atStart => exact ⟨0, by omega, rfl, rfl, rfl⟩
  case round =>
    obtain ⟨j, hj, rfl, rfl, rfl⟩ := hrel
    by_cases hlt : j < 4
    · have c1 : W.cell? ⟨w.heap.size, j, none⟩ = some (slV (vs j)) := ((hb1.le l1).cell j).trans (cells4_at vs hlt)
      obtain ⟨b0, b1⟩ := sumTo_small hsm j hj
      obtain ⟨b2, b3⟩ := manyTo_bounds (m := 4) (fun i hi => (hsm i hi).1) j hj
      obtain ⟨ad, cap, hv, hc, _, hcell⟩ := (hr j hlt).le (hl.trans l1)
      have hs : sumTo s (j + 1) = sumTo s j + sumOf (s.at j) (s.at j).length := by rw [sumOf_all]; rfl
      have hn : manyTo s (j + 1) = manyTo s j + (s.at j).length := rfl
      have hsj := hsm j hlt
      have hlj := hsj.1
      rw [hv] at c1
      obtain ⟨T, hT⟩ : ∃ T, T = sumTo s j := ⟨_, rfl⟩
      obtain ⟨M, hM⟩ : ∃ M, M = manyTo s j := ⟨_, rfl⟩
      obtain ⟨L, hL⟩ : ∃ L, L = (s.at j).length := ⟨_, rfl⟩
      rw [← hT] at b0 b1 hs ⊢
      rw [← hM] at b2 b3 hn ⊢
      rw [← hL] at c1 hc hcell hs hn hlj
      have HS : Hid (sumTo s (j + 1) = T + sumOf (s.at j) L) := hs
      have HN : Hid (manyTo s (j + 1) = M + L) := hn
      have HL : Hid (L = (s.at j).length) := hL
      clear hs hn hv hm hr hown hb1 hb2 hb3 hb4 hop n0 n1 n2 n3 hT hM hL hsm
      go_wp2
      go_loop [12, 15] (fun t i => ∃ m : Nat, m ≤ L ∧ i = .int .i64 m ∧ t = .int .i64 (T + sumOf (s.at j) m)) (fun _ i => L - (intOf i).toNat)
      case atStart => exact ⟨0, by omega, rfl, by simp [sumOf]⟩
      case round =>
        obtain ⟨m, hmL, rfl, rfl⟩ := hrel
        obtain ⟨d0, d1⟩ := hsj.sum m (by rw [← HL.out]; exact hmL)
        by_cases hlt2 : m < L
        · obtain ⟨b, off, rfl, hcl⟩ := hcell (by omega)
          have c2 := hcl m hlt2
          have hst := sumOf_step (xs := s.at j) (m := m) (by rw [← HL.out]; exact hlt2)
          obtain ⟨d2, d3⟩ := hsj.at (m := m) (by rw [← HL.out]; exact hlt2)
          obtain ⟨x, hx⟩ : ∃ x, x = (s.at j).getD m 0 := ⟨_, rfl⟩
          rw [← hx] at c2 hst d2 d3
          obtain ⟨t, ht⟩ : ∃ t, t = sumOf (s.at j) m := ⟨_, rfl⟩
          rw [← ht] at hst d0 d1 ⊢
          have HT : Hid (sumOf (s.at j) (m + 1) = t + x) := hst
          have m0 : (0 : Int) ≤ (m : Int) := by omega
          have m1 : (m : Int) < (L : Int) := by omega
          clear hst ht hx hcl hcell hsj
          go_wp2
          go_round
          case rel => exact ⟨m + 1, by omega, by go_num, by rw [HT.out, Int.add_assoc]⟩
          case measure => simp [intOf]; omega
        · obtain rfl : m = L := by omega
          clear hcell hsj
          go_wp2
          go_round
          case rel => exact ⟨j + 1, by omega, by go_num, by rw [HS.out], by rw [HN.out]⟩
          case measure => simp [intOf]; omega
    · obtain rfl : j = 4 := by omega
      clear hlt hj
      have k0 : (0 : Int) ≤ (k : Int) := by omega
      have k1 : (k : Int) < 4 := by omega
      have yk : W.cell? ⟨w3.heap.size, k, none⟩ = some (slV (us k)) := (hb4.cell k).trans (cells4_at us hk)
      obtain ⟨o0, o1, o2, _, _, _⟩ := (hb2.le l1).op
      have hrow := refStoreRow0 (slV (us k)) (s.at k) k a W (hown k hk).has w.heap.size (hl.trans l1).size
      go_wp2_with fail
      refine hrow.mono ?_
      rintro e w4 ⟨q, rfl, hnew, l4⟩
      clear o0 o1 o2 yk hrow
      replace l1 := l1.trans l4
      replace hb4 := hb4.le l4
      replace hown := fun i hi => (hown i hi).le l4
      have yk : w4.cell? ⟨w3.heap.size, k, none⟩ = some (slV (us k)) := (hb4.cell k).trans (cells4_at us hk)
      have yf := hb4.frozen k
      obtain ⟨o0, o1, o2, _, _, _⟩ := (hb2.le l1).op
      go_upto_region 30 with fail
      replace hown := fun i hi => (hown i hi).setBox (i := k) (u := slV q) hb4 (by decide)
      replace hnew := hnew.setBox (i := k) (u := slV q) hb4 (by decide)
      replace hb4 := hb4.set k (slV q)
      rw [cells4_upd us hk] at hb4
      replace l1 : Le _ (w4.setCell ⟨w3.heap.size, k, none⟩ (slV q)) := Below.setCell l1 (by simp only [World.size_alloc]; show w.heap.size + 1 + 1 + 1 ≤ w3.heap.size; omega) _
      clear o0 o1 o2 yk yf
      generalize hW2 : w4.setCell ⟨w3.heap.size, k, none⟩ (slV q) = W2 at hb4 l1 hown hnew ⊢
      replace hown : ∀ i, i < 4 → Own W2 w.heap.size (slV (upd us k q i)) ((s.put k [a]).at i) := by
        intro i hi
        rw [St.at_put hk hi]
        by_cases e : i = k
        · rw [if_pos e, show upd us k q i = q by simp [upd, e]]; exact hnew
        · rw [if_neg e, show upd us k q i = us i by simp [upd, e]]; exact hown i hi
      generalize upd us k q = us at hb4 hown
      clear hW2 hnew
      obtain ⟨y0, y1, y2, y3, _, _, _, _⟩ := hb4.st
      obtain ⟨z0, z1, z2, z3, f0, f1, f2, f3⟩ := (hb3.le l1).st
      go_wp2_with fail
      refine bodyPost_ret (v := .tuple #[stV us, .int .i64 (firstS (s.at k)), .int .i64 0]) (by simp [results, Tryz.results91, go_sem, z0, z1, z2, z3]) rfl ⟨_, rfl, ⟨us, rfl, fun i hi => ?_⟩, ?_⟩
      · exact (hown i hi).set4 (hb3.le l1) (by decide) _ _ _ _
      · exact (hl.trans l1).set4 (by omega) _ _ _ _

set_option maxRecDepth 4000 in
set_option maxHeartbeats 4000000 in
theorem refStoreSecond (v : Value) (s : St) (k : Nat) (a : Int) (er : Int) (w : World) (hx : HasS w v s) (hf : Fit s) (hm : s.all rowMay1 = true) (hk : k < 4) (ha : 0 ≤ a ∧ a ≤ 255) :
    Calls Tryz.prog 91 #[.int .i64 0, v, opV 1 k a, .int .i64 er] w fun e w' => ∃ v', e = .returned (.tuple #[v', .int .i64 (firstS (s.at k)), .int .i64 0]) ∧ OwnS w' w.heap.size v' (s.put k []) ∧ Le w w' := by
  have hx0 := hx
  obtain ⟨vs, rfl, hr⟩ := hx
  have hl := ((Le.alloc w (.cells (cells4 vs) 54)).trans (Le.alloc _ (.cells #[.int .i64 1, .int .i64 k, .int .i64 a] 48))).trans (Le.alloc _ (.cells (cells4 fun _ => slZ) 54))
  have hb1 := ((Box.new w (cells4 vs) 54).le (Le.alloc _ (.cells #[.int .i64 1, .int .i64 k, .int .i64 a] 48))).le (Le.alloc _ (.cells (cells4 fun _ => slZ) 54))
  have hb2 := (Box.new (w.alloc (.cells (cells4 vs) 54)) #[.int .i64 1, .int .i64 k, .int .i64 a] 48).le (Le.alloc _ (.cells (cells4 fun _ => slZ) 54))
  have hb3 := Box.new ((w.alloc (.cells (cells4 vs) 54)).alloc (.cells #[.int .i64 1, .int .i64 k, .int .i64 a] 48)) (cells4 fun _ => slZ) 54
  simp only [World.size_alloc] at hb1 hb2 hb3
  have hmay := refStateMay0 (stV vs) s _ (hx0.le hl) hf
  rw [hm] at hmay
  have hop : opMay 1 k a = true := by simp [opMay]; omega
  have hsm := small1 hm
  go_enter Tryz.func91, Tryz.ntmps91
  go_wp2_with fail
  refine hmay.mono ?_
  rintro e w1 ⟨rfl, l1⟩
  obtain ⟨y0, y1, y2, _, _, _⟩ := (hb2.le l1).op
  clear hmay
  go_wp2_with fail
  refine (refOperMay _ _ _ _).mono ?_
  rw [hop]
  rintro e w2 ⟨rfl, l2⟩
  replace l1 := l1.trans l2
  clear l2 y0 y1 y2
  obtain ⟨y0, y1, y2, y3, _, _, _, _⟩ := (hb1.le l1).st
  go_wp2_with fail
  refine (refCopyState (stV vs) s _ (hx0.le (hl.trans l1)) hf).mono ?_
  rintro e w3 ⟨_, rfl, ⟨us, rfl, hown⟩, l3⟩
  replace hown := fun i hi => (hown i hi).base (base' := w.heap.size) (hl.trans l1).size
  replace l1 := l1.trans l3
  clear l3 y0 y1 y2 y3
  have n0 : w.heap.size + 1 + 1 < w3.heap.size := (hb3.le l1).lt
  have n1 : ¬ w.heap.size + 1 + 1 = w3.heap.size := by omega
  have n2 : ¬ w.heap.size + 1 + 1 = w.heap.size := by omega
  have n3 : ¬ w.heap.size + 1 + 1 = w.heap.size + 1 := by omega
  have hb4 := Box.new w3 (cells4 us) 54
  replace l1 := l1.trans (Le.alloc w3 (.cells (cells4 us) 54))
  replace hown := fun i hi => (hown i hi).le (Le.alloc w3 (.cells (cells4 us) 54))
  go_wp2_with fail
  generalize hW : w3.alloc (.cells (cells4 us) 54) = W at hb4 l1 hown ⊢
  clear hW
  go_loop [12, 13, 14] (fun t m i => ∃ j : Nat, j ≤ 4 ∧ i = .int .i64 j ∧ t = .int .i64 (sumTo s j) ∧ m = .int .i64 (manyTo s j)) (fun _ _ i => 4 - (intOf i).toNat)
  case atStart => exact ⟨0, by omega, rfl, rfl, rfl⟩
  case round =>
    obtain ⟨j, hj, rfl, rfl, rfl⟩ := hrel
    by_cases hlt : j < 4
    · have c1 : W.cell? ⟨w.heap.size, j, none⟩ = some (slV (vs j)) := ((hb1.le l1).cell j).trans (cells4_at vs hlt)
      obtain ⟨b0, b1⟩ := sumTo_small hsm j hj
      obtain ⟨b2, b3⟩ := manyTo_bounds (m := 4) (fun i hi => (hsm i hi).1) j hj
      obtain ⟨ad, cap, hv, hc, _, hcell⟩ := (hr j hlt).le (hl.trans l1)
      have hs : sumTo s (j + 1) = sumTo s j + sumOf (s.at j) (s.at j).length := by rw [sumOf_all]; rfl
      have hn : manyTo s (j + 1) = manyTo s j + (s.at j).length := rfl
      have hsj := hsm j hlt
      have hlj := hsj.1
      rw [hv] at c1
      obtain ⟨T, hT⟩ : ∃ T, T = sumTo s j := ⟨_, rfl⟩
      obtain ⟨M, hM⟩ : ∃ M, M = manyTo s j := ⟨_, rfl⟩
      obtain ⟨L, hL⟩ : ∃ L, L = (s.at j).length := ⟨_, rfl⟩
      rw [← hT] at b0 b1 hs ⊢
      rw [← hM] at b2 b3 hn ⊢
      rw [← hL] at c1 hc hcell hs hn hlj
      have HS : Hid (sumTo s (j + 1) = T + sumOf (s.at j) L) := hs
      have HN : Hid (manyTo s (j + 1) = M + L) := hn
      have HL : Hid (L = (s.at j).length) := hL
      clear hs hn hv hm hr hown hb1 hb2 hb3 hb4 hop n0 n1 n2 n3 hT hM hL hsm
      go_wp2
      go_loop [12, 15] (fun t i => ∃ m : Nat, m ≤ L ∧ i = .int .i64 m ∧ t = .int .i64 (T + sumOf (s.at j) m)) (fun _ i => L - (intOf i).toNat)
      case atStart => exact ⟨0, by omega, rfl, by simp [sumOf]⟩
      case round =>
        obtain ⟨m, hmL, rfl, rfl⟩ := hrel
        obtain ⟨d0, d1⟩ := hsj.sum m (by rw [← HL.out]; exact hmL)
        by_cases hlt2 : m < L
        · obtain ⟨b, off, rfl, hcl⟩ := hcell (by omega)
          have c2 := hcl m hlt2
          have hst := sumOf_step (xs := s.at j) (m := m) (by rw [← HL.out]; exact hlt2)
          obtain ⟨d2, d3⟩ := hsj.at (m := m) (by rw [← HL.out]; exact hlt2)
          obtain ⟨x, hx⟩ : ∃ x, x = (s.at j).getD m 0 := ⟨_, rfl⟩
          rw [← hx] at c2 hst d2 d3
          obtain ⟨t, ht⟩ : ∃ t, t = sumOf (s.at j) m := ⟨_, rfl⟩
          rw [← ht] at hst d0 d1 ⊢
          have HT : Hid (sumOf (s.at j) (m + 1) = t + x) := hst
          have m0 : (0 : Int) ≤ (m : Int) := by omega
          have m1 : (m : Int) < (L : Int) := by omega
          clear hst ht hx hcl hcell hsj
          go_wp2
          go_round
          case rel => exact ⟨m + 1, by omega, by go_num, by rw [HT.out, Int.add_assoc]⟩
          case measure => simp [intOf]; omega
        · obtain rfl : m = L := by omega
          clear hcell hsj
          go_wp2
          go_round
          case rel => exact ⟨j + 1, by omega, by go_num, by rw [HS.out], by rw [HN.out]⟩
          case measure => simp [intOf]; omega
    · obtain rfl : j = 4 := by omega
      clear hlt hj
      have k0 : (0 : Int) ≤ (k : Int) := by omega
      have k1 : (k : Int) < 4 := by omega
      have yk : W.cell? ⟨w3.heap.size, k, none⟩ = some (slV (us k)) := (hb4.cell k).trans (cells4_at us hk)
      obtain ⟨o0, o1, o2, _, _, _⟩ := (hb2.le l1).op
      have hrow := refStoreRow1' (slV (us k)) (s.at k) k a W (hown k hk).has w.heap.size
      go_wp2_with fail
      refine hrow.mono ?_
      rintro e w4 ⟨q, rfl, hnew, l4⟩
      clear o0 o1 o2 yk hrow
      replace l1 := l1.trans l4
      replace hb4 := hb4.le l4
      replace hown := fun i hi => (hown i hi).le l4
      have yk : w4.cell? ⟨w3.heap.size, k, none⟩ = some (slV (us k)) := (hb4.cell k).trans (cells4_at us hk)
      have yf := hb4.frozen k
      obtain ⟨o0, o1, o2, _, _, _⟩ := (hb2.le l1).op
      go_upto_region 30 with fail
      replace hown := fun i hi => (hown i hi).setBox (i := k) (u := slV q) hb4 (by decide)
      replace hnew := hnew.setBox (i := k) (u := slV q) hb4 (by decide)
      replace hb4 := hb4.set k (slV q)
      rw [cells4_upd us hk] at hb4
      replace l1 : Le _ (w4.setCell ⟨w3.heap.size, k, none⟩ (slV q)) := Below.setCell l1 (by simp only [World.size_alloc]; show w.heap.size + 1 + 1 + 1 ≤ w3.heap.size; omega) _
      clear o0 o1 o2 yk yf
      generalize hW2 : w4.setCell ⟨w3.heap.size, k, none⟩ (slV q) = W2 at hb4 l1 hown hnew ⊢
      replace hown : ∀ i, i < 4 → Own W2 w.heap.size (slV (upd us k q i)) ((s.put k []).at i) := by
        intro i hi
        rw [St.at_put hk hi]
        by_cases e : i = k
        · rw [if_pos e, show upd us k q i = q by simp [upd, e]]; exact hnew
        · rw [if_neg e, show upd us k q i = us i by simp [upd, e]]; exact hown i hi
      generalize upd us k q = us at hb4 hown
      clear hW2 hnew
      obtain ⟨y0, y1, y2, y3, _, _, _, _⟩ := hb4.st
      obtain ⟨z0, z1, z2, z3, f0, f1, f2, f3⟩ := (hb3.le l1).st
      go_wp2_with fail
      refine bodyPost_ret (v := .tuple #[stV us, .int .i64 (firstS (s.at k)), .int .i64 0]) (by simp [results, Tryz.results91, go_sem, z0, z1, z2, z3]) rfl ⟨_, rfl, ⟨us, rfl, fun i hi => ?_⟩, ?_⟩
      · exact (hown i hi).set4 (hb3.le l1) (by decide) _ _ _ _
      · exact (hl.trans l1).set4 (by omega) _ _ _ _

theorem refStore (v : Value) (s : St) (c r a er : Int) (w : World) (hx : HasS w v s) (hf : Fit s) :
    Calls Tryz.prog 91 #[.int .i64 0, v, opV c r a, .int .i64 er] w fun e w' => ∃ v', e = .returned (.tuple #[v', .int .i64 (stoS s c r a er).2.1, .int .i64 (stoS s c r a er).2.2]) ∧ OwnS w' w.heap.size v' (stoS s c r a er).1 ∧ Le w w' := by
  cases h : s.all rowMay1 && opMay c r a
  · rw [stoS_no h]
    exact (refStoreNo v s c r a er w hx hf h).mono fun e w' ⟨he, hl⟩ => ⟨stZ, he, OwnS.zero _ _, hl⟩
  · obtain ⟨hm, ho⟩ := Bool.and_eq_true_iff.mp h
    rcases opMay_cases ho with ⟨k, hk, rfl, rfl, ha⟩ | ⟨k, hk, rfl, rfl, ha⟩ | ⟨k, hk, rfl, rfl, rfl⟩ | ⟨rfl, rfl, rfl⟩
    · rw [stoS_first hm hk ha]; exact refStoreFirst v s k a er w hx hf hm hk ha
    · rw [stoS_second hm hk ha]; exact refStoreSecond v s k a er w hx hf hm hk ha
    · rw [stoS_look hm hk]; exact refStoreLook v s k er w hx hf hm hk
    · rw [stoS_scan hm]; exact refStoreScan v s er w hx hf hm

end Go.Proofs.YtibleipfablniaaGreat

/-
  THE WALKS over the document's own rowMay, StateMay, has, fdsRow, at a table: what they answer, for every row and state. Condition: where memory is made, that the row may be a table's.
-/
namespace Go.Proofs.YtibleipfablniaaGreat
open Go.RowKit

set_option maxHeartbeats 4000000 in
theorem refRowMay1 (v : Value) (xs : List Int) (w : World) (hx : Has w v xs) :
    Calls Tryz.prog 83 #[.int .i64 1, v] w fun e w' => e = .returned (.bool (rowMay2 xs)) ∧ Le w w' := by
  have hl := Le.alloc w (.cells #[.int .i64 1, .int .i64 4, .int .i64 4] 3)
  obtain ⟨a, cap, rfl, hc, _, hx⟩ := hx
  obtain ⟨L, hL⟩ : ∃ L, L = xs.length := ⟨_, rfl⟩
  rw [← hL] at hc hx ⊢
  have HL : Hid (L = xs.length) := hL
  clear hL
  go_enter Tryz.func83, Tryz.ntmps83
  go_wp2
  go_loopw [6] (fun i wr => ∃ (k : Nat) (y : Int), k ≤ L ∧ (k : Int) ≤ y + 1 ∧ y < 4 ∧ i = .int .i64 k ∧ Hid ((0 < k → xs.getD (k - 1) 0 = y) ∧ (k = 0 → y = -1)) ∧ Hid (rowMay2 xs = riseFrom y (xs.drop k)) ∧ Le (w.alloc (.cells #[.int .i64 1, .int .i64 4, .int .i64 4] 3)) wr) (fun i _ => L - (intOf i).toNat)
  case atStart => exact ⟨0, -1, Nat.zero_le _, by omega, by omega, rfl, hid ⟨fun h => by omega, fun _ => rfl⟩, hid (by simp [rowMay2]), Le.refl _⟩
  case round =>
    obtain ⟨k, y, hk, hy1, hy2, rfl, HY, HA, hle⟩ := hrel
    by_cases hlt : k < L
    · obtain ⟨b, off, rfl, hcell⟩ := hx (by omega)
      obtain ⟨x, hxk⟩ : ∃ x, x = xs.getD k 0 := ⟨_, rfl⟩
      have hcx := hcell k hlt
      rw [← hxk] at hcx
      have c1 : ∀ X : Later wr, X.w.cell? ⟨b, off + k, none⟩ = some (.int .i64 x) := fun X => by
        have hb := World.block_lt_of_cell? w _ hcx
        rw [((hl.trans hle).trans X.le).cell (p := ⟨b, off + k, none⟩) hb]; exact hcx
      have hd := HA.out
      rw [drop_at (by have := HL.out; omega), ← hxk] at hd
      simp only [riseFrom] at hd
      have HX : Hid (x = xs.getD k 0) := hxk
      clear hxk
      have k0 : (0 : Int) ≤ (k : Int) := by omega
      have k1 : (k : Int) < (L : Int) := by omega
      have hup := fun w' => refUpTo x 0 255 w'
      by_cases h1 : 0 ≤ x ∧ x ≤ 255
      · have hh' : (decide (0 ≤ x) && decide (x ≤ 255)) = true := by simp [h1]
        simp only [hh'] at hup
        by_cases h2 : 4 ≤ x
        · have g2 : decide (4 ≤ x) = true := by simp [h2]
          have HD : Hid (rowMay2 xs = false) := hid (by rw [hd]; simp; omega)
          clear hd hcell hx HA HY
          go_wp2_with fail
          refine wp_region_later (by kernel_rfl) (by kernel_rfl) ?_
          repeat (go_big_quiet_step (first | (go_at_call 69; exact Calls.later_same (hup _))))
          refine wpQuiet_nil ?_
          rintro _ ⟨Y, rfl⟩
          go_wp2
          go_ret
          exact ⟨ret_bool HD.out.symm, (hl.trans hle).trans Y.le⟩
        · have g2 : decide (4 ≤ x) = false := by simp; omega
          by_cases h3 : k = 0
          · have g3 : decide (0 < k) = false := by rw [decide_eq_false_iff_not]; omega
            have hy3 := HY.out.2 h3
            have HD : Hid (rowMay2 xs = riseFrom x (xs.drop (k + 1))) := hid (by rw [hd]; simp [show x < 4 by omega, show y < x by omega])
            have hx1 : ((k + 1 : Nat) : Int) ≤ x + 1 := by omega
            clear hd hcell hx HA HY h3 hy3
            go_wp2_with fail
            refine wp_region_later (by kernel_rfl) (by kernel_rfl) ?_
            repeat (go_big_quiet_step (first | (go_at_call 69; exact Calls.later_same (hup _))))
            refine wpQuiet_nil ?_
            rintro _ ⟨Y, rfl⟩
            go_wp2
            go_roundw
            case rel => exact ⟨k + 1, x, by omega, by omega, by omega, by go_num, hid ⟨fun _ => HX.out.symm, fun h => by omega⟩, HD, hle.trans Y.le⟩
            case measure => simp [intOf]; omega
          · obtain ⟨p, rfl⟩ : ∃ p, k = p + 1 := ⟨k - 1, by omega⟩
            have g3 : decide ((0 : Int) < ((p + 1 : Nat) : Int)) = true := by rw [decide_eq_true_eq]; omega
            have g5 : (0 : Int) < (p : Int) + 1 := by omega
            have hyk := HY.out.1 (by omega)
            rw [show p + 1 - 1 = p from rfl] at hyk
            have hcy := hcell p (by omega)
            rw [hyk] at hcy
            have c2 : ∀ X : Later wr, X.w.cell? ⟨b, off + p, none⟩ = some (.int .i64 y) := fun X => by
              have hb := World.block_lt_of_cell? w _ hcy
              rw [((hl.trans hle).trans X.le).cell (p := ⟨b, off + p, none⟩) hb]; exact hcy
            have k3 : (0 : Int) ≤ (p : Int) := by omega
            have k4 : (p : Int) < (L : Int) := by omega
            clear hyk hcy
            by_cases h4 : y < x
            · have g4 : decide (x ≤ y) = false := by simp; omega
              have HD : Hid (rowMay2 xs = riseFrom x (xs.drop (p + 1 + 1))) := hid (by rw [hd]; simp [h4, show x < 4 by omega])
              clear hd hcell hx HA HY
              go_wp2_with fail
              refine wp_region_later (by kernel_rfl) (by kernel_rfl) ?_
              repeat (go_big_quiet_step (first | (go_at_call 69; exact Calls.later_same (hup _))))
              refine wpQuiet_nil ?_
              rintro _ ⟨Y, rfl⟩
              go_wp2
              go_roundw
              case rel => exact ⟨p + 1 + 1, x, by omega, by omega, by omega, by go_num, hid ⟨fun _ => HX.out.symm, fun h => by omega⟩, HD, hle.trans Y.le⟩
              case measure => simp [intOf]; omega
            · have g4 : decide (x ≤ y) = true := by simp; omega
              have HD : Hid (rowMay2 xs = false) := hid (by rw [hd]; simp [h4])
              clear hd hcell hx HA HY
              go_wp2_with fail
              refine wp_region_later (by kernel_rfl) (by kernel_rfl) ?_
              repeat (go_big_quiet_step (first | (go_at_call 69; exact Calls.later_same (hup _))))
              refine wpQuiet_nil ?_
              rintro _ ⟨Y, rfl⟩
              go_wp2
              go_ret
              exact ⟨ret_bool HD.out.symm, (hl.trans hle).trans Y.le⟩
      · have hh' : (decide (0 ≤ x) && decide (x ≤ 255)) = false := by rw [Bool.and_eq_false_iff]; simp; omega
        simp only [hh'] at hup
        have HD : Hid (rowMay2 xs = false) := hid (by rw [hd, show (decide (y < x) && decide (x < 4)) = false by rw [Bool.and_eq_false_iff]; simp; omega]; rfl)
        clear hd hcell hx HA HY
        go_wp2_with fail
        refine wp_region_later (by kernel_rfl) (by kernel_rfl) ?_
        repeat (go_big_quiet_step (first | (go_at_call 69; exact Calls.later_same (hup _))))
        refine wpQuiet_nil ?_
        rintro _ ⟨Y, rfl⟩
        go_wp2
        go_ret
        exact ⟨ret_bool HD.out.symm, (hl.trans hle).trans Y.le⟩
    · obtain rfl : k = L := by omega
      have hd := HA.out
      rw [List.drop_eq_nil_of_le (by have := HL.out; omega)] at hd
      have hlen := rowMay2_len hd
      rw [← HL.out] at hlen
      have HD : Hid (rowMay2 xs = true) := hd
      clear hd hx HA HY
      go_wp2
      go_ret
      exact ⟨ret_bool (by rw [HD.out]; simp; omega), hl.trans hle⟩

end Go.Proofs.YtibleipfablniaaGreat

/-
  THE WALKS over the document's own StateMay, has, fdsRow, at a table: what they answer, for every row and state. Condition: at fdsRow, that the row is the call's own and may be a table's.
-/
namespace Go.Proofs.YtibleipfablniaaGreat
open Go.RowKit

set_option maxHeartbeats 400000 in
theorem refStateMay1 (v : Value) (s : St) (w : World) (hx : HasS w v s) :
    Calls Tryz.prog 68 #[.int .i64 1, v] w fun e w' => e = .returned (.bool (s.all rowMay2)) ∧ Le w w' := by
  obtain ⟨vs, rfl, hr⟩ := hx
  have hl := Le.alloc w (.cells (cells4 vs) 54)
  have hb := Box.new w (cells4 vs) 54
  go_enter Tryz.func68, Tryz.ntmps68
  go_wp2
  go_loopw [5] (fun i wr => ∃ k : Nat, k ≤ 4 ∧ i = .int .i64 k ∧ Hid (∀ j, j < k → rowMay2 (s.at j) = true) ∧ Le (w.alloc (.cells (cells4 vs) 54)) wr) (fun i _ => 4 - (intOf i).toNat)
  case atStart => exact ⟨0, by omega, rfl, (fun j hj => by omega), Le.refl _⟩
  case round =>
    obtain ⟨k, hk, rfl, HA, hle⟩ := hrel
    by_cases hlt : k < 4
    · have hm := refRowMay1 (slV (vs k)) (s.at k) wr ((hr k hlt).le (hl.trans hle))
      have c1 : wr.cell? ⟨w.heap.size, k, none⟩ = some (slV (vs k)) := ((hb.le hle).cell k).trans (cells4_at vs hlt)
      cases hh : rowMay2 (s.at k)
      · rw [hh] at hm
        go_wp2_with fail
        refine hm.mono ?_
        rintro e w1 ⟨rfl, l1⟩
        go_wp2
        go_ret
        exact ⟨ret_bool (St.all_not hlt hh).symm, (hl.trans hle).trans l1⟩
      · rw [hh] at hm
        go_wp2_with fail
        refine hm.mono ?_
        rintro e w1 ⟨rfl, l1⟩
        go_wp2
        go_roundw
        case rel => exact ⟨k + 1, by omega, by go_num, (fun j hj => by rcases Nat.lt_or_eq_of_le (Nat.le_of_lt_succ hj) with h | h; exact HA.out j h; exact h ▸ hh), hle.trans l1⟩
        case measure => simp [intOf]; omega
    · obtain rfl : k = 4 := by omega
      go_wp2
      go_ret
      exact ⟨ret_bool (St.all_of HA.out).symm, hl.trans hle⟩

/-- Is a number in the row? -/
def inF (xs : List Int) (i : Nat) : Bool := decide ((i : Int) ∈ xs)

theorem not_take {xs : List Int} {x : Int} {m : Nat} (h : m < xs.length) (hn : x ∉ xs.take m) (hx : ¬ xs.getD m 0 = x) : x ∉ xs.take (m + 1) := by
  rw [List.take_succ_eq_append_getElem h, List.mem_append, not_or]
  refine ⟨hn, ?_⟩
  simp only [List.mem_singleton]
  intro e
  apply hx
  simp [List.getD, h, e]

set_option maxHeartbeats 400000 in
theorem refHas (v : Value) (xs : List Int) (x0 : Int) (w : World) (hx : Has w v xs) (hl : xs.length ≤ 1000) :
    Calls Tryz.prog 114 #[v, .int .i64 x0] w fun e w' => e = .returned (.bool (decide (x0 ∈ xs))) ∧ w = w' := by
  obtain ⟨a, cap, rfl, hc, _, hx⟩ := hx
  obtain ⟨n, hn⟩ : ∃ n, n = xs.length := ⟨_, rfl⟩
  rw [← hn] at hc hx hl ⊢
  have HN : Hid (n = xs.length) := hn
  clear hn
  obtain ⟨B, hB⟩ : ∃ B, B = decide (x0 ∈ xs) := ⟨_, rfl⟩
  rw [← hB]
  have HB : Hid (B = decide (x0 ∈ xs)) := hB
  clear hB
  go_enter Tryz.func114, Tryz.ntmps114
  go_wp2
  go_loop [5] (fun i => ∃ k : Nat, k ≤ n ∧ i = .int .i64 k ∧ Hid (x0 ∉ xs.take k)) (fun i => n - (intOf i).toNat)
  case atStart => exact ⟨0, by omega, rfl, hid (by simp)⟩
  case round =>
    obtain ⟨k, hk, rfl, HR⟩ := hrel
    by_cases hlt : k < n
    · obtain ⟨b, off, rfl, hcell⟩ := hx (by omega)
      have c0 := hcell k hlt
      obtain ⟨x, hxk⟩ : ∃ x, x = xs.getD k 0 := ⟨_, rfl⟩
      rw [← hxk] at c0
      have k0 : (0 : Int) ≤ (k : Int) := by omega
      have k1 : (k : Int) < (n : Int) := by omega
      by_cases h1 : x = x0
      · have HD : Hid (B = true) := hid (by
          have hh : k < xs.length := by rw [← HN.out]; exact hlt
          rw [HB.out, decide_eq_true_eq, ← h1, hxk]
          simp [List.getD, hh])
        clear hxk hcell hx HR HB
        subst h1
        go_wp2
        go_ret
        exact ⟨ret_bool HD.out.symm, rfl⟩
      · have HD : Hid (x0 ∉ xs.take (k + 1)) := hid (not_take (by rw [← HN.out]; exact hlt) HR.out (by rw [← hxk]; exact h1))
        clear hxk hcell hx HR
        go_wp2
        go_round
        case rel => exact ⟨k + 1, by omega, by go_num, HD⟩
        case measure => simp [intOf]; omega
    · obtain rfl : k = n := by omega
      have HD : Hid (B = false) := hid (by
        rw [HB.out, decide_eq_false_iff_not]
        have := HR.out
        rwa [List.take_of_length_le (by have := HN.out; omega)] at this)
      go_wp2
      go_ret
      exact ⟨ret_bool HD.out.symm, rfl⟩

/-- The numbers below m that are so. -/
def outTo (p : Nat → Bool) : Nat → List Int
  | 0 => []
  | m + 1 => if p m then outTo p m ++ [(m : Int)] else outTo p m

theorem outTo_len (p : Nat → Bool) : ∀ m, (outTo p m).length ≤ m
  | 0 => Nat.le_refl _
  | m + 1 => by
    have := outTo_len p m
    simp only [outTo]
    split
    · simp; omega
    · omega

theorem free_rows : ∀ xs ∈ rowsAbove 4, ∀ k : Nat, k < 5 → (∀ j, j < k → inF xs j = true) → inF xs k = false → freeS xs = k := by decide
theorem in_rows : ∀ xs ∈ rowsAbove 4, ∀ x ∈ xs, 0 ≤ x ∧ x < 4 := by decide
theorem out_put : ∀ xs ∈ rowsAbove 4, freeS xs < 4 → outTo (fun i => decide ((i : Int) = freeS xs) || inF xs i) 4 = (putS xs).1 ∧ (putS xs).2 = freeS xs := by decide
theorem out_take : ∀ xs ∈ rowsAbove 4, ∀ a ∈ xs, outTo (fun i => !decide ((i : Int) = a) && inF xs i) 4 = (takeS xs a).1 ∧ (takeS xs a).2 = 1 := by decide

set_option maxHeartbeats 2000000 in
theorem refFdsRow0 (v : Value) (xs : List Int) (r a : Int) (w : World) (base : Nat) (hown : Own w base v xs) (hbase : base ≤ w.heap.size) (hm : rowMay2 xs = true) :
    Calls Tryz.prog 103 #[v, opV 0 r a] w fun e w' => ∃ q : Sl, e = .returned (.tuple #[slV q, .int .i64 (putS xs).2]) ∧ Own w' base (slV q) (putS xs).1 ∧ Le w w' := by
  have hl := Le.alloc w (.cells #[.int .i64 0, .int .i64 r, .int .i64 a] 48)
  have hb := Box.new w #[.int .i64 0, .int .i64 r, .int .i64 a] 48
  have hlen := rowMay2_len hm
  obtain ⟨q0, rfl⟩ := hown.has.sl
  have hhas := fun (x : Int) (w' : World) (h : Le w w') => refHas (slV q0) xs x w' (hown.has.le h) (by omega)
  go_enter Tryz.func103, Tryz.ntmps103
  go_wp2
  generalize hW : w.alloc (.cells #[.int .i64 0, .int .i64 r, .int .i64 a] 48) = W at hl hb ⊢
  clear hW
  go_loop [6] (fun i => ∃ k : Nat, k ≤ 4 ∧ i = .int .i64 k ∧ Hid (∀ j, j < k → inF xs j = true)) (fun i => 4 - (intOf i).toNat)
  case atStart => exact ⟨0, by omega, rfl, hid (fun j hj => by omega)⟩
  case round =>
    obtain ⟨k, hk, rfl, HR⟩ := hrel
    have hc := hhas k W hl
    cases hin : inF xs k
    · rw [show decide ((k : Int) ∈ xs) = false from hin] at hc
      have hfree := free_rows xs (rowMay2_mem hm) k (by omega) HR.out hin
      by_cases h4 : k = 4
      · have HP : Hid (putS xs = (xs, -1)) := hid (by simp [putS, hfree, h4])
        have K4 : Hid ((k : Int) = 4) := hid (by omega)
        clear hhas hfree h4 hin HR
        go_wp2_with fail
        refine hc.mono ?_
        rintro e w1 ⟨rfl, rfl⟩
        have k4 := K4.out
        go_wp2
        go_ret2
        rw [HP.out]
        exact ⟨_, rfl, hown.le hl, hl⟩
      · have k4 : ¬ (k : Int) = 4 := by omega
        have k5 : ((k : Int) == 4) = false := by rw [beq_eq_false_iff_ne]; exact k4
        obtain ⟨hp1, hp2⟩ := out_put xs (rowMay2_mem hm) (by omega)
        rw [hfree] at hp1 hp2
        have HP : Hid (outTo (fun i => decide ((i : Int) = (k : Int)) || inF xs i) 4 = (putS xs).1) := hp1
        have HQ : Hid ((putS xs).2 = (k : Int)) := hp2
        clear hfree hp1 hp2 hin HR
        obtain ⟨o0, o1, o2, _, _, _⟩ := hb.op
        go_wp2_with fail
        refine hc.mono ?_
        rintro e w1 ⟨rfl, rfl⟩
        clear hc
        go_wp2
        clear o0 o1 o2
        go_loopw [7, 8] (fun o i wr => ∃ (m : Nat) (q : Sl), m ≤ 4 ∧ o = slV q ∧ i = .int .i64 m ∧ Own wr W.heap.size (slV q) (outTo (fun i => decide ((i : Int) = (k : Int)) || inF xs i) m) ∧ Le W wr) (fun _ i _ => 4 - (intOf i).toNat)
        case atStart => exact ⟨0, slZ, by omega, rfl, rfl, Own.nil _ _, Le.refl _⟩
        case round =>
          obtain ⟨m, q, hm4, rfl, rfl, ho, lr⟩ := hrel
          by_cases hlt : m < 4
          · have hc := hhas m wr (hl.trans lr)
            obtain ⟨o0, o1, o2, _, _, _⟩ := (hb.le lr).op
            have hol := outTo_len (fun i => decide ((i : Int) = (k : Int)) || inF xs i) m
            have hA := Le.alloc wr (.cells #[.int .i64 m] 3)
            have hone : Own (wr.alloc (.cells #[.int .i64 m] 3)) wr.heap.size (slV (some ⟨wr.heap.size, 0, none⟩, 1, 1)) [(m : Int)] := Own.lit wr _ (Nat.le_refl _) [(m : Int)] (by simp)
            have hrow : ∀ g, (slV q).ownBlock = some g → W.heap.size ≤ g := fun g e => (ho.block e).1
            by_cases hmk : (m : Int) = (k : Int)
            · have HO : Hid (outTo (fun i => decide ((i : Int) = (k : Int)) || inF xs i) (m + 1) = outTo (fun i => decide ((i : Int) = (k : Int)) || inF xs i) m ++ [(m : Int)]) := hid (by simp [outTo, hmk])
              have e1 : ((m : Int) == (k : Int)) = true := by simp [hmk]
              have hk2 : m = k := by omega
              subst hk2
              clear hc hmk hhas
              go_wp2_with (at_builtin; refine wp_append_ints rfl _ _ rfl W.heap.size _ _ (outTo (fun i => decide ((i : Int) = (m : Int)) || inF xs i) m) [(m : Int)] rfl rfl (ho.le hA) hone.has (by simp; omega) (Nat.le_trans lr.size hA.size) ?_; intro v' w2 hown2 hgrow; obtain ⟨q2, rfl⟩ := hown2.has.sl)
              go_roundw
              case rel => exact ⟨m + 1, q2, by omega, rfl, by go_num, by rw [HO.out]; exact hown2, Below.grown (lr.trans hA) hgrow (Nat.le_trans lr.size hA.size) hrow⟩
              case measure => simp [intOf]; omega
            · have e1 : ((m : Int) == (k : Int)) = false := by simp [hmk]
              have e2 : ((m : Int) != (k : Int)) = true := by simp [hmk]
              cases hin : inF xs m
              · have HO : Hid (outTo (fun i => decide ((i : Int) = (k : Int)) || inF xs i) (m + 1) = outTo (fun i => decide ((i : Int) = (k : Int)) || inF xs i) m) := hid (by simp [outTo, hmk, hin])
                rw [show decide ((m : Int) ∈ xs) = false from hin] at hc
                clear hhas hin
                go_wp2_with fail
                refine hc.mono ?_
                rintro e w1 ⟨rfl, rfl⟩
                go_wp2
                go_roundw
                case rel => exact ⟨m + 1, q, by omega, rfl, by go_num, by rw [HO.out]; exact ho, lr⟩
                case measure => simp [intOf]; omega
              · have HO : Hid (outTo (fun i => decide ((i : Int) = (k : Int)) || inF xs i) (m + 1) = outTo (fun i => decide ((i : Int) = (k : Int)) || inF xs i) m ++ [(m : Int)]) := hid (by simp [outTo, hin])
                rw [show decide ((m : Int) ∈ xs) = true from hin] at hc
                clear hhas hin
                go_wp2_with fail
                refine hc.mono ?_
                rintro e w1 ⟨rfl, rfl⟩
                go_wp2_with (at_builtin; refine wp_append_ints rfl _ _ rfl W.heap.size _ _ (outTo (fun i => decide ((i : Int) = (k : Int)) || inF xs i) m) [(m : Int)] rfl rfl (ho.le hA) hone.has (by simp; omega) (Nat.le_trans lr.size hA.size) ?_; intro v' w2 hown2 hgrow; obtain ⟨q2, rfl⟩ := hown2.has.sl)
                go_roundw
                case rel => exact ⟨m + 1, q2, by omega, rfl, by go_num, by rw [HO.out]; exact hown2, Below.grown (lr.trans hA) hgrow (Nat.le_trans lr.size hA.size) hrow⟩
                case measure => simp [intOf]; omega
          · obtain rfl : m = 4 := by omega
            obtain ⟨o0, o1, o2, _, _, _⟩ := (hb.le lr).op
            go_wp2
            go_ret2
            rw [HQ.out]
            exact ⟨q, rfl, by rw [← HP.out]; exact ho.base (Nat.le_trans hbase hl.size), hl.trans lr⟩
    · rw [show decide ((k : Int) ∈ xs) = true from hin] at hc
      have hk4 : k < 4 := by
        have := (in_rows xs (rowMay2_mem hm) k (by simpa [inF] using hin)).2
        omega
      have HD : Hid (∀ j, j < k + 1 → inF xs j = true) := hid (fun j hj => by rcases Nat.lt_or_eq_of_le (Nat.le_of_lt_succ hj) with h | h; exact HR.out j h; exact h ▸ hin)
      clear hhas hin HR
      go_wp2_with fail
      refine hc.mono ?_
      rintro e w1 ⟨rfl, rfl⟩
      go_wp2
      go_round
      case rel => exact ⟨k + 1, by omega, by go_num, HD⟩
      case measure => simp [intOf]; omega

set_option maxHeartbeats 2000000 in
theorem refFdsRow1 (v : Value) (xs : List Int) (r a : Int) (w : World) (base : Nat) (hown : Own w base v xs) (hbase : base ≤ w.heap.size) (hm : rowMay2 xs = true) :
    Calls Tryz.prog 103 #[v, opV 1 r a] w fun e w' => ∃ q : Sl, e = .returned (.tuple #[slV q, .int .i64 (takeS xs a).2]) ∧ Own w' base (slV q) (takeS xs a).1 ∧ Le w w' := by
  have hl := Le.alloc w (.cells #[.int .i64 1, .int .i64 r, .int .i64 a] 48)
  have hb := Box.new w #[.int .i64 1, .int .i64 r, .int .i64 a] 48
  have hlen := rowMay2_len hm
  obtain ⟨q0, rfl⟩ := hown.has.sl
  have hhas := fun (x : Int) (w' : World) (h : Le w w') => refHas (slV q0) xs x w' (hown.has.le h) (by omega)
  by_cases hin : a ∈ xs
  · have hc := hhas a _ hl
    rw [show decide (a ∈ xs) = true by simp [hin]] at hc
    obtain ⟨hp1, hp2⟩ := out_take xs (rowMay2_mem hm) a hin
    have HP : Hid (outTo (fun i => !decide ((i : Int) = a) && inF xs i) 4 = (takeS xs a).1) := hp1
    have HQ : Hid ((takeS xs a).2 = 1) := hp2
    clear hp1 hp2 hin
    go_enter Tryz.func103, Tryz.ntmps103
    go_wp2_with fail
    refine hc.mono ?_
    rintro e w1 ⟨rfl, rfl⟩
    clear hc
    go_wp2
    generalize hW : w.alloc (.cells #[.int .i64 1, .int .i64 r, .int .i64 a] 48) = W at hl hb ⊢
    clear hW
    go_loopw [7, 8] (fun o i wr => ∃ (m : Nat) (q : Sl), m ≤ 4 ∧ o = slV q ∧ i = .int .i64 m ∧ Own wr W.heap.size (slV q) (outTo (fun i => !decide ((i : Int) = a) && inF xs i) m) ∧ Le W wr) (fun _ i _ => 4 - (intOf i).toNat)
    case atStart => exact ⟨0, slZ, by omega, rfl, rfl, Own.nil _ _, Le.refl _⟩
    case round =>
      obtain ⟨m, q, hm4, rfl, rfl, ho, lr⟩ := hrel
      by_cases hlt : m < 4
      · have hc := hhas m wr (hl.trans lr)
        obtain ⟨o0, o1, o2, _, _, _⟩ := (hb.le lr).op
        have hol := outTo_len (fun i => !decide ((i : Int) = a) && inF xs i) m
        have hA := Le.alloc wr (.cells #[.int .i64 m] 3)
        have hone : Own (wr.alloc (.cells #[.int .i64 m] 3)) wr.heap.size (slV (some ⟨wr.heap.size, 0, none⟩, 1, 1)) [(m : Int)] := Own.lit wr _ (Nat.le_refl _) [(m : Int)] (by simp)
        have hrow : ∀ g, (slV q).ownBlock = some g → W.heap.size ≤ g := fun g e => (ho.block e).1
        by_cases hmk : (m : Int) = a
        · have HO : Hid (outTo (fun i => !decide ((i : Int) = a) && inF xs i) (m + 1) = outTo (fun i => !decide ((i : Int) = a) && inF xs i) m) := hid (by simp [outTo, hmk])
          have e1 : ((m : Int) == a) = true := by simp [hmk]
          have e2 : ((m : Int) != a) = false := by simp [hmk]
          subst hmk
          clear hc hhas
          go_wp2
          go_roundw
          case rel => exact ⟨m + 1, q, by omega, rfl, by go_num, by rw [HO.out]; exact ho, lr⟩
          case measure => simp [intOf]; omega
        · have e1 : ((m : Int) == a) = false := by simp [hmk]
          have e2 : ((m : Int) != a) = true := by simp [hmk]
          cases hin : inF xs m
          · have HO : Hid (outTo (fun i => !decide ((i : Int) = a) && inF xs i) (m + 1) = outTo (fun i => !decide ((i : Int) = a) && inF xs i) m) := hid (by simp [outTo, hin])
            rw [show decide ((m : Int) ∈ xs) = false from hin] at hc
            clear hhas hin
            go_wp2_with fail
            refine hc.mono ?_
            rintro e w1 ⟨rfl, rfl⟩
            go_wp2
            go_roundw
            case rel => exact ⟨m + 1, q, by omega, rfl, by go_num, by rw [HO.out]; exact ho, lr⟩
            case measure => simp [intOf]; omega
          · have HO : Hid (outTo (fun i => !decide ((i : Int) = a) && inF xs i) (m + 1) = outTo (fun i => !decide ((i : Int) = a) && inF xs i) m ++ [(m : Int)]) := hid (by simp [outTo, hin, hmk])
            rw [show decide ((m : Int) ∈ xs) = true from hin] at hc
            clear hhas hin
            go_wp2_with fail
            refine hc.mono ?_
            rintro e w1 ⟨rfl, rfl⟩
            go_wp2_with (at_builtin; refine wp_append_ints rfl _ _ rfl W.heap.size _ _ (outTo (fun i => !decide ((i : Int) = a) && inF xs i) m) [(m : Int)] rfl rfl (ho.le hA) hone.has (by simp; omega) (Nat.le_trans lr.size hA.size) ?_; intro v' w2 hown2 hgrow; obtain ⟨q2, rfl⟩ := hown2.has.sl)
            go_roundw
            case rel => exact ⟨m + 1, q2, by omega, rfl, by go_num, by rw [HO.out]; exact hown2, Below.grown (lr.trans hA) hgrow (Nat.le_trans lr.size hA.size) hrow⟩
            case measure => simp [intOf]; omega
      · obtain rfl : m = 4 := by omega
        obtain ⟨o0, o1, o2, _, _, _⟩ := (hb.le lr).op
        go_wp2
        go_ret2
        rw [HQ.out]
        exact ⟨q, rfl, by rw [← HP.out]; exact ho.base (Nat.le_trans hbase hl.size), hl.trans lr⟩
  · have hc := hhas a _ hl
    rw [show decide (a ∈ xs) = false by simp [hin]] at hc
    have HP : Hid (takeS xs a = (xs, 0)) := hid (take_out hin)
    clear hin hhas
    go_enter Tryz.func103, Tryz.ntmps103
    go_wp2_with fail
    refine hc.mono ?_
    rintro e w1 ⟨rfl, rfl⟩
    go_wp2
    go_ret2
    rw [HP.out]
    exact ⟨_, rfl, hown.le hl, hl⟩

end Go.Proofs.YtibleipfablniaaGreat

/-
  THE WALKS over the document's own Apply, at object 1: what it answers, for every state and operation. Condition: the state's rows can be copied.
-/
namespace Go.Proofs.YtibleipfablniaaGreat
open Go.RowKit

theorem small_rows : ∀ xs ∈ rowsAbove 4, xs.length ≤ 4 ∧ ∀ x ∈ xs, 0 ≤ x ∧ x ≤ 255 := by decide
theorem small2 {s : St} (hm : s.all rowMay2 = true) : ∀ k, k < 4 → Small (s.at k) := fun _ hk => small_rows _ (rowMay2_mem (St.all_at hm hk))

set_option maxHeartbeats 2000000 in
theorem refFdsNo (v : Value) (s : St) (c r a er : Int) (w : World) (hx : HasS w v s) (_hf : Fit s) (h : (s.all rowMay2 && opMay c r a) = false) :
    Calls Tryz.prog 91 #[.int .i64 1, v, opV c r a, .int .i64 er] w fun e w' => e = .returned (.tuple #[stZ, .int .i64 0, .int .i64 er]) ∧ Le w w' := by
  have hx0 := hx
  obtain ⟨vs, rfl, hr⟩ := hx
  have hl := ((Le.alloc w (.cells (cells4 vs) 54)).trans (Le.alloc _ (.cells #[.int .i64 c, .int .i64 r, .int .i64 a] 48))).trans (Le.alloc _ (.cells (cells4 fun _ => slZ) 54))
  have hb1 := ((Box.new w (cells4 vs) 54).le (Le.alloc _ (.cells #[.int .i64 c, .int .i64 r, .int .i64 a] 48))).le (Le.alloc _ (.cells (cells4 fun _ => slZ) 54))
  have hb2 := (Box.new (w.alloc (.cells (cells4 vs) 54)) #[.int .i64 c, .int .i64 r, .int .i64 a] 48).le (Le.alloc _ (.cells (cells4 fun _ => slZ) 54))
  have hb3 := Box.new ((w.alloc (.cells (cells4 vs) 54)).alloc (.cells #[.int .i64 c, .int .i64 r, .int .i64 a] 48)) (cells4 fun _ => slZ) 54
  simp only [World.size_alloc] at hb1 hb2 hb3
  have hmay := refStateMay1 (stV vs) s _ (hx0.le hl)
  cases hm : s.all rowMay2
  · rw [hm] at hmay
    go_enter Tryz.func91, Tryz.ntmps91
    go_wp2_with fail
    refine hmay.mono ?_
    rintro e w1 ⟨rfl, l1⟩
    obtain ⟨z0, z1, z2, z3, f0, f1, f2, f3⟩ := (hb3.le l1).st
    go_wp2_with fail
    refine bodyPost_ret (v := .tuple #[stZ, .int .i64 0, .int .i64 er]) (by simp [results, Tryz.results91, go_sem, z0, z1, z2, z3]) rfl ⟨rfl, ?_⟩
    exact (hl.trans l1).set4 (by omega) _ _ _ _
  · have hop : opMay c r a = false := by simpa [hm] using h
    rw [hm] at hmay
    go_enter Tryz.func91, Tryz.ntmps91
    go_wp2_with fail
    refine hmay.mono ?_
    rintro e w1 ⟨rfl, l1⟩
    obtain ⟨y0, y1, y2, _, _, _⟩ := (hb2.le l1).op
    go_wp2_with fail
    refine (refOperMay _ _ _ _).mono ?_
    rw [hop]
    rintro e w2 ⟨rfl, l2⟩
    obtain ⟨z0, z1, z2, z3, f0, f1, f2, f3⟩ := ((hb3.le l1).le l2).st
    go_wp2_with fail
    refine bodyPost_ret (v := .tuple #[stZ, .int .i64 0, .int .i64 er]) (by simp [results, Tryz.results91, go_sem, z0, z1, z2, z3]) rfl ⟨rfl, ?_⟩
    exact ((hl.trans l1).trans l2).set4 (by omega) _ _ _ _

set_option maxRecDepth 4000 in
set_option maxHeartbeats 4000000 in
theorem refFdsScan (v : Value) (s : St) (er : Int) (w : World) (hx : HasS w v s) (hf : Fit s) (hm : s.all rowMay2 = true) :
    Calls Tryz.prog 91 #[.int .i64 1, v, opV 3 0 0, .int .i64 er] w fun e w' => ∃ v', e = .returned (.tuple #[v', .int .i64 (manyTo s 4), .int .i64 0]) ∧ OwnS w' w.heap.size v' (s) ∧ Le w w' := by
  have hx0 := hx
  obtain ⟨vs, rfl, hr⟩ := hx
  have hl := ((Le.alloc w (.cells (cells4 vs) 54)).trans (Le.alloc _ (.cells #[.int .i64 3, .int .i64 0, .int .i64 0] 48))).trans (Le.alloc _ (.cells (cells4 fun _ => slZ) 54))
  have hb1 := ((Box.new w (cells4 vs) 54).le (Le.alloc _ (.cells #[.int .i64 3, .int .i64 0, .int .i64 0] 48))).le (Le.alloc _ (.cells (cells4 fun _ => slZ) 54))
  have hb2 := (Box.new (w.alloc (.cells (cells4 vs) 54)) #[.int .i64 3, .int .i64 0, .int .i64 0] 48).le (Le.alloc _ (.cells (cells4 fun _ => slZ) 54))
  have hb3 := Box.new ((w.alloc (.cells (cells4 vs) 54)).alloc (.cells #[.int .i64 3, .int .i64 0, .int .i64 0] 48)) (cells4 fun _ => slZ) 54
  simp only [World.size_alloc] at hb1 hb2 hb3
  have hmay := refStateMay1 (stV vs) s _ (hx0.le hl)
  rw [hm] at hmay
  have hop : opMay 3 0 0 = true := by decide
  have hsm := small2 hm
  go_enter Tryz.func91, Tryz.ntmps91
  go_wp2_with fail
  refine hmay.mono ?_
  rintro e w1 ⟨rfl, l1⟩
  obtain ⟨y0, y1, y2, _, _, _⟩ := (hb2.le l1).op
  clear hmay
  go_wp2_with fail
  refine (refOperMay _ _ _ _).mono ?_
  rw [hop]
  rintro e w2 ⟨rfl, l2⟩
  replace l1 := l1.trans l2
  clear l2 y0 y1 y2
  obtain ⟨y0, y1, y2, y3, _, _, _, _⟩ := (hb1.le l1).st
  go_wp2_with fail
  refine (refCopyState (stV vs) s _ (hx0.le (hl.trans l1)) hf).mono ?_
  rintro e w3 ⟨_, rfl, ⟨us, rfl, hown⟩, l3⟩
  replace hown := fun i hi => (hown i hi).base (base' := w.heap.size) (hl.trans l1).size
  replace l1 := l1.trans l3
  clear l3 y0 y1 y2 y3
  have n0 : w.heap.size + 1 + 1 < w3.heap.size := (hb3.le l1).lt
  have n1 : ¬ w.heap.size + 1 + 1 = w3.heap.size := by omega
  have n2 : ¬ w.heap.size + 1 + 1 = w.heap.size := by omega
  have n3 : ¬ w.heap.size + 1 + 1 = w.heap.size + 1 := by omega
  have hb4 := Box.new w3 (cells4 us) 54
  replace l1 := l1.trans (Le.alloc w3 (.cells (cells4 us) 54))
  replace hown := fun i hi => (hown i hi).le (Le.alloc w3 (.cells (cells4 us) 54))
  go_wp2_with fail
  generalize hW : w3.alloc (.cells (cells4 us) 54) = W at hb4 l1 hown ⊢
  clear hW
  go_loop [12, 13, 14] (fun t m i => ∃ j : Nat, j ≤ 4 ∧ i = .int .i64 j ∧ t = .int .i64 (sumTo s j) ∧ m = .int .i64 (manyTo s j)) (fun _ _ i => 4 - (intOf i).toNat)
  case atStart => exact ⟨0, by omega, rfl, rfl, rfl⟩
  case round =>
    obtain ⟨j, hj, rfl, rfl, rfl⟩ := hrel
    by_cases hlt : j < 4
    · have c1 : W.cell? ⟨w.heap.size, j, none⟩ = some (slV (vs j)) := ((hb1.le l1).cell j).trans (cells4_at vs hlt)
      obtain ⟨b0, b1⟩ := sumTo_small hsm j hj
      obtain ⟨b2, b3⟩ := manyTo_bounds (m := 4) (fun i hi => (hsm i hi).1) j hj
      obtain ⟨ad, cap, hv, hc, _, hcell⟩ := (hr j hlt).le (hl.trans l1)
      have hs : sumTo s (j + 1) = sumTo s j + sumOf (s.at j) (s.at j).length := by rw [sumOf_all]; rfl
      have hn : manyTo s (j + 1) = manyTo s j + (s.at j).length := rfl
      have hsj := hsm j hlt
      have hlj := hsj.1
      rw [hv] at c1
      obtain ⟨T, hT⟩ : ∃ T, T = sumTo s j := ⟨_, rfl⟩
      obtain ⟨M, hM⟩ : ∃ M, M = manyTo s j := ⟨_, rfl⟩
      obtain ⟨L, hL⟩ : ∃ L, L = (s.at j).length := ⟨_, rfl⟩
      rw [← hT] at b0 b1 hs ⊢
      rw [← hM] at b2 b3 hn ⊢
      rw [← hL] at c1 hc hcell hs hn hlj
      have HS : Hid (sumTo s (j + 1) = T + sumOf (s.at j) L) := hs
      have HN : Hid (manyTo s (j + 1) = M + L) := hn
      have HL : Hid (L = (s.at j).length) := hL
      clear hs hn hv hm hr hown hb1 hb2 hb3 hb4 hop n0 n1 n2 n3 hT hM hL hsm
      go_wp2
      go_loop [12, 15] (fun t i => ∃ m : Nat, m ≤ L ∧ i = .int .i64 m ∧ t = .int .i64 (T + sumOf (s.at j) m)) (fun _ i => L - (intOf i).toNat)
      case atStart => exact ⟨0, by omega, rfl, by simp [sumOf]⟩
      case round =>
        obtain ⟨m, hmL, rfl, rfl⟩ := hrel
        obtain ⟨d0, d1⟩ := hsj.sum m (by rw [← HL.out]; exact hmL)
        by_cases hlt2 : m < L
        · obtain ⟨b, off, rfl, hcl⟩ := hcell (by omega)
          have c2 := hcl m hlt2
          have hst := sumOf_step (xs := s.at j) (m := m) (by rw [← HL.out]; exact hlt2)
          obtain ⟨d2, d3⟩ := hsj.at (m := m) (by rw [← HL.out]; exact hlt2)
          obtain ⟨x, hx⟩ : ∃ x, x = (s.at j).getD m 0 := ⟨_, rfl⟩
          rw [← hx] at c2 hst d2 d3
          obtain ⟨t, ht⟩ : ∃ t, t = sumOf (s.at j) m := ⟨_, rfl⟩
          rw [← ht] at hst d0 d1 ⊢
          have HT : Hid (sumOf (s.at j) (m + 1) = t + x) := hst
          have m0 : (0 : Int) ≤ (m : Int) := by omega
          have m1 : (m : Int) < (L : Int) := by omega
          clear hst ht hx hcl hcell hsj
          go_wp2
          go_round
          case rel => exact ⟨m + 1, by omega, by go_num, by rw [HT.out, Int.add_assoc]⟩
          case measure => simp [intOf]; omega
        · obtain rfl : m = L := by omega
          clear hcell hsj
          go_wp2
          go_round
          case rel => exact ⟨j + 1, by omega, by go_num, by rw [HS.out], by rw [HN.out]⟩
          case measure => simp [intOf]; omega
    · obtain rfl : j = 4 := by omega
      clear hlt hj
      obtain ⟨y0, y1, y2, y3, _, _, _, _⟩ := hb4.st
      obtain ⟨z0, z1, z2, z3, f0, f1, f2, f3⟩ := (hb3.le l1).st
      obtain ⟨o0, o1, o2, _, _, _⟩ := (hb2.le l1).op
      go_wp2_with fail
      refine bodyPost_ret (v := .tuple #[stV us, .int .i64 (manyTo s 4), .int .i64 0]) (by simp [results, Tryz.results91, go_sem, z0, z1, z2, z3]) rfl ⟨_, rfl, ⟨us, rfl, fun i hi => ?_⟩, ?_⟩
      · exact (hown i hi).set4 (hb3.le l1) (by decide) _ _ _ _
      · exact (hl.trans l1).set4 (by omega) _ _ _ _

set_option maxRecDepth 4000 in
set_option maxHeartbeats 4000000 in
theorem refFdsLook (v : Value) (s : St) (k : Nat) (er : Int) (w : World) (hx : HasS w v s) (hf : Fit s) (hm : s.all rowMay2 = true) (hk : k < 4) :
    Calls Tryz.prog 91 #[.int .i64 1, v, opV 2 k 0, .int .i64 er] w fun e w' => ∃ v', e = .returned (.tuple #[v', .int .i64 ((s.at k).length : Int), .int .i64 0]) ∧ OwnS w' w.heap.size v' (s) ∧ Le w w' := by
  have hx0 := hx
  obtain ⟨vs, rfl, hr⟩ := hx
  have hl := ((Le.alloc w (.cells (cells4 vs) 54)).trans (Le.alloc _ (.cells #[.int .i64 2, .int .i64 k, .int .i64 0] 48))).trans (Le.alloc _ (.cells (cells4 fun _ => slZ) 54))
  have hb1 := ((Box.new w (cells4 vs) 54).le (Le.alloc _ (.cells #[.int .i64 2, .int .i64 k, .int .i64 0] 48))).le (Le.alloc _ (.cells (cells4 fun _ => slZ) 54))
  have hb2 := (Box.new (w.alloc (.cells (cells4 vs) 54)) #[.int .i64 2, .int .i64 k, .int .i64 0] 48).le (Le.alloc _ (.cells (cells4 fun _ => slZ) 54))
  have hb3 := Box.new ((w.alloc (.cells (cells4 vs) 54)).alloc (.cells #[.int .i64 2, .int .i64 k, .int .i64 0] 48)) (cells4 fun _ => slZ) 54
  simp only [World.size_alloc] at hb1 hb2 hb3
  have hmay := refStateMay1 (stV vs) s _ (hx0.le hl)
  rw [hm] at hmay
  have hop : opMay 2 k 0 = true := by simp [opMay]; omega
  have hsm := small2 hm
  go_enter Tryz.func91, Tryz.ntmps91
  go_wp2_with fail
  refine hmay.mono ?_
  rintro e w1 ⟨rfl, l1⟩
  obtain ⟨y0, y1, y2, _, _, _⟩ := (hb2.le l1).op
  clear hmay
  go_wp2_with fail
  refine (refOperMay _ _ _ _).mono ?_
  rw [hop]
  rintro e w2 ⟨rfl, l2⟩
  replace l1 := l1.trans l2
  clear l2 y0 y1 y2
  obtain ⟨y0, y1, y2, y3, _, _, _, _⟩ := (hb1.le l1).st
  go_wp2_with fail
  refine (refCopyState (stV vs) s _ (hx0.le (hl.trans l1)) hf).mono ?_
  rintro e w3 ⟨_, rfl, ⟨us, rfl, hown⟩, l3⟩
  replace hown := fun i hi => (hown i hi).base (base' := w.heap.size) (hl.trans l1).size
  replace l1 := l1.trans l3
  clear l3 y0 y1 y2 y3
  have n0 : w.heap.size + 1 + 1 < w3.heap.size := (hb3.le l1).lt
  have n1 : ¬ w.heap.size + 1 + 1 = w3.heap.size := by omega
  have n2 : ¬ w.heap.size + 1 + 1 = w.heap.size := by omega
  have n3 : ¬ w.heap.size + 1 + 1 = w.heap.size + 1 := by omega
  have hb4 := Box.new w3 (cells4 us) 54
  replace l1 := l1.trans (Le.alloc w3 (.cells (cells4 us) 54))
  replace hown := fun i hi => (hown i hi).le (Le.alloc w3 (.cells (cells4 us) 54))
  go_wp2_with fail
  generalize hW : w3.alloc (.cells (cells4 us) 54) = W at hb4 l1 hown ⊢
  clear hW
  go_loop [12, 13, 14] (fun t m i => ∃ j : Nat, j ≤ 4 ∧ i = .int .i64 j ∧ t = .int .i64 (sumTo s j) ∧ m = .int .i64 (manyTo s j)) (fun _ _ i => 4 - (intOf i).toNat)
  case atStart => exact ⟨0, by omega, rfl, rfl, rfl⟩
  case round =>
    obtain ⟨j, hj, rfl, rfl, rfl⟩ := hrel
    by_cases hlt : j < 4
    · have c1 : W.cell? ⟨w.heap.size, j, none⟩ = some (slV (vs j)) := ((hb1.le l1).cell j).trans (cells4_at vs hlt)
      obtain ⟨b0, b1⟩ := sumTo_small hsm j hj
      obtain ⟨b2, b3⟩ := manyTo_bounds (m := 4) (fun i hi => (hsm i hi).1) j hj
      obtain ⟨ad, cap, hv, hc, _, hcell⟩ := (hr j hlt).le (hl.trans l1)
      have hs : sumTo s (j + 1) = sumTo s j + sumOf (s.at j) (s.at j).length := by rw [sumOf_all]; rfl
      have hn : manyTo s (j + 1) = manyTo s j + (s.at j).length := rfl
      have hsj := hsm j hlt
      have hlj := hsj.1
      rw [hv] at c1
      obtain ⟨T, hT⟩ : ∃ T, T = sumTo s j := ⟨_, rfl⟩
      obtain ⟨M, hM⟩ : ∃ M, M = manyTo s j := ⟨_, rfl⟩
      obtain ⟨L, hL⟩ : ∃ L, L = (s.at j).length := ⟨_, rfl⟩
      rw [← hT] at b0 b1 hs ⊢
      rw [← hM] at b2 b3 hn ⊢
      rw [← hL] at c1 hc hcell hs hn hlj
      have HS : Hid (sumTo s (j + 1) = T + sumOf (s.at j) L) := hs
      have HN : Hid (manyTo s (j + 1) = M + L) := hn
      have HL : Hid (L = (s.at j).length) := hL
      clear hs hn hv hm hr hown hb1 hb2 hb3 hb4 hop n0 n1 n2 n3 hT hM hL hsm
      go_wp2
      go_loop [12, 15] (fun t i => ∃ m : Nat, m ≤ L ∧ i = .int .i64 m ∧ t = .int .i64 (T + sumOf (s.at j) m)) (fun _ i => L - (intOf i).toNat)
      case atStart => exact ⟨0, by omega, rfl, by simp [sumOf]⟩
      case round =>
        obtain ⟨m, hmL, rfl, rfl⟩ := hrel
        obtain ⟨d0, d1⟩ := hsj.sum m (by rw [← HL.out]; exact hmL)
        by_cases hlt2 : m < L
        · obtain ⟨b, off, rfl, hcl⟩ := hcell (by omega)
          have c2 := hcl m hlt2
          have hst := sumOf_step (xs := s.at j) (m := m) (by rw [← HL.out]; exact hlt2)
          obtain ⟨d2, d3⟩ := hsj.at (m := m) (by rw [← HL.out]; exact hlt2)
          obtain ⟨x, hx⟩ : ∃ x, x = (s.at j).getD m 0 := ⟨_, rfl⟩
          rw [← hx] at c2 hst d2 d3
          obtain ⟨t, ht⟩ : ∃ t, t = sumOf (s.at j) m := ⟨_, rfl⟩
          rw [← ht] at hst d0 d1 ⊢
          have HT : Hid (sumOf (s.at j) (m + 1) = t + x) := hst
          have m0 : (0 : Int) ≤ (m : Int) := by omega
          have m1 : (m : Int) < (L : Int) := by omega
          clear hst ht hx hcl hcell hsj
          go_wp2
          go_round
          case rel => exact ⟨m + 1, by omega, by go_num, by rw [HT.out, Int.add_assoc]⟩
          case measure => simp [intOf]; omega
        · obtain rfl : m = L := by omega
          clear hcell hsj
          go_wp2
          go_round
          case rel => exact ⟨j + 1, by omega, by go_num, by rw [HS.out], by rw [HN.out]⟩
          case measure => simp [intOf]; omega
    · obtain rfl : j = 4 := by omega
      clear hlt hj
      obtain ⟨y0, y1, y2, y3, _, _, _, _⟩ := hb4.st
      obtain ⟨z0, z1, z2, z3, f0, f1, f2, f3⟩ := (hb3.le l1).st
      obtain ⟨o0, o1, o2, _, _, _⟩ := (hb2.le l1).op
      have k0 : (0 : Int) ≤ (k : Int) := by omega
      have k1 : (k : Int) < 4 := by omega
      have yk : W.cell? ⟨w3.heap.size, k, none⟩ = some (slV (us k)) := (hb4.cell k).trans (cells4_at us hk)
      have hle : (us k).2.1 = (s.at k).length := by
        obtain ⟨ad, cap, e, _⟩ := (hown k hk).has
        simp only [Value.slice.injEq] at e
        exact e.2.1
      go_wp2_with fail
      refine bodyPost_ret (v := .tuple #[stV us, .int .i64 ((s.at k).length : Int), .int .i64 0]) (by simp [results, Tryz.results91, go_sem, z0, z1, z2, z3]) rfl ⟨_, rfl, ⟨us, rfl, fun i hi => ?_⟩, ?_⟩
      · exact (hown i hi).set4 (hb3.le l1) (by decide) _ _ _ _
      · exact (hl.trans l1).set4 (by omega) _ _ _ _

set_option maxRecDepth 4000 in
set_option maxHeartbeats 4000000 in
theorem refFdsFirst (v : Value) (s : St) (k : Nat) (a : Int) (er : Int) (w : World) (hx : HasS w v s) (hf : Fit s) (hm : s.all rowMay2 = true) (hk : k < 4) (ha : 0 ≤ a ∧ a ≤ 255) :
    Calls Tryz.prog 91 #[.int .i64 1, v, opV 0 k a, .int .i64 er] w fun e w' => ∃ v', e = .returned (.tuple #[v', .int .i64 (putS (s.at k)).2, .int .i64 0]) ∧ OwnS w' w.heap.size v' (s.put k (putS (s.at k)).1) ∧ Le w w' := by
  have hx0 := hx
  obtain ⟨vs, rfl, hr⟩ := hx
  have hl := ((Le.alloc w (.cells (cells4 vs) 54)).trans (Le.alloc _ (.cells #[.int .i64 0, .int .i64 k, .int .i64 a] 48))).trans (Le.alloc _ (.cells (cells4 fun _ => slZ) 54))
  have hb1 := ((Box.new w (cells4 vs) 54).le (Le.alloc _ (.cells #[.int .i64 0, .int .i64 k, .int .i64 a] 48))).le (Le.alloc _ (.cells (cells4 fun _ => slZ) 54))
  have hb2 := (Box.new (w.alloc (.cells (cells4 vs) 54)) #[.int .i64 0, .int .i64 k, .int .i64 a] 48).le (Le.alloc _ (.cells (cells4 fun _ => slZ) 54))
  have hb3 := Box.new ((w.alloc (.cells (cells4 vs) 54)).alloc (.cells #[.int .i64 0, .int .i64 k, .int .i64 a] 48)) (cells4 fun _ => slZ) 54
  simp only [World.size_alloc] at hb1 hb2 hb3
  have hmay := refStateMay1 (stV vs) s _ (hx0.le hl)
  rw [hm] at hmay
  have hop : opMay 0 k a = true := by simp [opMay]; omega
  have hsm := small2 hm
  go_enter Tryz.func91, Tryz.ntmps91
  go_wp2_with fail
  refine hmay.mono ?_
  rintro e w1 ⟨rfl, l1⟩
  obtain ⟨y0, y1, y2, _, _, _⟩ := (hb2.le l1).op
  clear hmay
  go_wp2_with fail
  refine (refOperMay _ _ _ _).mono ?_
  rw [hop]
  rintro e w2 ⟨rfl, l2⟩
  replace l1 := l1.trans l2
  clear l2 y0 y1 y2
  obtain ⟨y0, y1, y2, y3, _, _, _, _⟩ := (hb1.le l1).st
  go_wp2_with fail
  refine (refCopyState (stV vs) s _ (hx0.le (hl.trans l1)) hf).mono ?_
  rintro e w3 ⟨_, rfl, ⟨us, rfl, hown⟩, l3⟩
  replace hown := fun i hi => (hown i hi).base (base' := w.heap.size) (hl.trans l1).size
  replace l1 := l1.trans l3
  clear l3 y0 y1 y2 y3
  have n0 : w.heap.size + 1 + 1 < w3.heap.size := (hb3.le l1).lt
  have n1 : ¬ w.heap.size + 1 + 1 = w3.heap.size := by omega
  have n2 : ¬ w.heap.size + 1 + 1 = w.heap.size := by omega
  have n3 : ¬ w.heap.size + 1 + 1 = w.heap.size + 1 := by omega
  have hb4 := Box.new w3 (cells4 us) 54
  replace l1 := l1.trans (Le.alloc w3 (.cells (cells4 us) 54))
  replace hown := fun i hi => (hown i hi).le (Le.alloc w3 (.cells (cells4 us) 54))
  go_wp2_with fail
  generalize hW : w3.alloc (.cells (cells4 us) 54) = W at hb4 l1 hown ⊢
  clear hW
  go_loop [12, 13, 14] (fun t m i => ∃ j : Nat, j ≤ 4 ∧ i = .int .i64 j ∧ t = .int .i64 (sumTo s j) ∧ m = .int .i64 (manyTo s j)) (fun _ _ i => 4 - (intOf i).toNat)
  case atStart => exact ⟨0, by omega, rfl, rfl, rfl⟩
  case round =>
    obtain ⟨j, hj, rfl, rfl, rfl⟩ := hrel
    by_cases hlt : j < 4
    · have c1 : W.cell? ⟨w.heap.size, j, none⟩ = some (slV (vs j)) := ((hb1.le l1).cell j).trans (cells4_at vs hlt)
      obtain ⟨b0, b1⟩ := sumTo_small hsm j hj
      obtain ⟨b2, b3⟩ := manyTo_bounds (m := 4) (fun i hi => (hsm i hi).1) j hj
      obtain ⟨ad, cap, hv, hc, _, hcell⟩ := (hr j hlt).le (hl.trans l1)
      have hs : sumTo s (j + 1) = sumTo s j + sumOf (s.at j) (s.at j).length := by rw [sumOf_all]; rfl
      have hn : manyTo s (j + 1) = manyTo s j + (s.at j).length := rfl
      have hsj := hsm j hlt
      have hlj := hsj.1
      rw [hv] at c1
      obtain ⟨T, hT⟩ : ∃ T, T = sumTo s j := ⟨_, rfl⟩
      obtain ⟨M, hM⟩ : ∃ M, M = manyTo s j := ⟨_, rfl⟩
      obtain ⟨L, hL⟩ : ∃ L, L = (s.at j).length := ⟨_, rfl⟩
      rw [← hT] at b0 b1 hs ⊢
      rw [← hM] at b2 b3 hn ⊢
      rw [← hL] at c1 hc hcell hs hn hlj
      have HS : Hid (sumTo s (j + 1) = T + sumOf (s.at j) L) := hs
      have HN : Hid (manyTo s (j + 1) = M + L) := hn
      have HL : Hid (L = (s.at j).length) := hL
      clear hs hn hv hm hr hown hb1 hb2 hb3 hb4 hop n0 n1 n2 n3 hT hM hL hsm
      go_wp2
      go_loop [12, 15] (fun t i => ∃ m : Nat, m ≤ L ∧ i = .int .i64 m ∧ t = .int .i64 (T + sumOf (s.at j) m)) (fun _ i => L - (intOf i).toNat)
      case atStart => exact ⟨0, by omega, rfl, by simp [sumOf]⟩
      case round =>
        obtain ⟨m, hmL, rfl, rfl⟩ := hrel
        obtain ⟨d0, d1⟩ := hsj.sum m (by rw [← HL.out]; exact hmL)
        by_cases hlt2 : m < L
        · obtain ⟨b, off, rfl, hcl⟩ := hcell (by omega)
          have c2 := hcl m hlt2
          have hst := sumOf_step (xs := s.at j) (m := m) (by rw [← HL.out]; exact hlt2)
          obtain ⟨d2, d3⟩ := hsj.at (m := m) (by rw [← HL.out]; exact hlt2)
          obtain ⟨x, hx⟩ : ∃ x, x = (s.at j).getD m 0 := ⟨_, rfl⟩
          rw [← hx] at c2 hst d2 d3
          obtain ⟨t, ht⟩ : ∃ t, t = sumOf (s.at j) m := ⟨_, rfl⟩
          rw [← ht] at hst d0 d1 ⊢
          have HT : Hid (sumOf (s.at j) (m + 1) = t + x) := hst
          have m0 : (0 : Int) ≤ (m : Int) := by omega
          have m1 : (m : Int) < (L : Int) := by omega
          clear hst ht hx hcl hcell hsj
          go_wp2
          go_round
          case rel => exact ⟨m + 1, by omega, by go_num, by rw [HT.out, Int.add_assoc]⟩
          case measure => simp [intOf]; omega
        · obtain rfl : m = L := by omega
          clear hcell hsj
          go_wp2
          go_round
          case rel => exact ⟨j + 1, by omega, by go_num, by rw [HS.out], by rw [HN.out]⟩
          case measure => simp [intOf]; omega
    · obtain rfl : j = 4 := by omega
      clear hlt hj
      have k0 : (0 : Int) ≤ (k : Int) := by omega
      have k1 : (k : Int) < 4 := by omega
      have yk : W.cell? ⟨w3.heap.size, k, none⟩ = some (slV (us k)) := (hb4.cell k).trans (cells4_at us hk)
      obtain ⟨o0, o1, o2, _, _, _⟩ := (hb2.le l1).op
      have hrow := refFdsRow0 (slV (us k)) (s.at k) k a W w.heap.size (hown k hk) (hl.trans l1).size (St.all_at hm hk)
      go_wp2_with fail
      refine hrow.mono ?_
      rintro e w4 ⟨q, rfl, hnew, l4⟩
      clear o0 o1 o2 yk hrow
      replace l1 := l1.trans l4
      replace hb4 := hb4.le l4
      replace hown := fun i hi => (hown i hi).le l4
      have yk : w4.cell? ⟨w3.heap.size, k, none⟩ = some (slV (us k)) := (hb4.cell k).trans (cells4_at us hk)
      have yf := hb4.frozen k
      obtain ⟨o0, o1, o2, _, _, _⟩ := (hb2.le l1).op
      go_upto_region 30 with fail
      replace hown := fun i hi => (hown i hi).setBox (i := k) (u := slV q) hb4 (by decide)
      replace hnew := hnew.setBox (i := k) (u := slV q) hb4 (by decide)
      replace hb4 := hb4.set k (slV q)
      rw [cells4_upd us hk] at hb4
      replace l1 : Le _ (w4.setCell ⟨w3.heap.size, k, none⟩ (slV q)) := Below.setCell l1 (by simp only [World.size_alloc]; show w.heap.size + 1 + 1 + 1 ≤ w3.heap.size; omega) _
      clear o0 o1 o2 yk yf
      generalize hW2 : w4.setCell ⟨w3.heap.size, k, none⟩ (slV q) = W2 at hb4 l1 hown hnew ⊢
      replace hown : ∀ i, i < 4 → Own W2 w.heap.size (slV (upd us k q i)) ((s.put k (putS (s.at k)).1).at i) := by
        intro i hi
        rw [St.at_put hk hi]
        by_cases e : i = k
        · rw [if_pos e, show upd us k q i = q by simp [upd, e]]; exact hnew
        · rw [if_neg e, show upd us k q i = us i by simp [upd, e]]; exact hown i hi
      generalize upd us k q = us at hb4 hown
      clear hW2 hnew
      obtain ⟨y0, y1, y2, y3, _, _, _, _⟩ := hb4.st
      obtain ⟨z0, z1, z2, z3, f0, f1, f2, f3⟩ := (hb3.le l1).st
      go_wp2_with fail
      refine bodyPost_ret (v := .tuple #[stV us, .int .i64 (putS (s.at k)).2, .int .i64 0]) (by simp [results, Tryz.results91, go_sem, z0, z1, z2, z3]) rfl ⟨_, rfl, ⟨us, rfl, fun i hi => ?_⟩, ?_⟩
      · exact (hown i hi).set4 (hb3.le l1) (by decide) _ _ _ _
      · exact (hl.trans l1).set4 (by omega) _ _ _ _

set_option maxRecDepth 4000 in
set_option maxHeartbeats 4000000 in
theorem refFdsSecond (v : Value) (s : St) (k : Nat) (a : Int) (er : Int) (w : World) (hx : HasS w v s) (hf : Fit s) (hm : s.all rowMay2 = true) (hk : k < 4) (ha : 0 ≤ a ∧ a ≤ 255) :
    Calls Tryz.prog 91 #[.int .i64 1, v, opV 1 k a, .int .i64 er] w fun e w' => ∃ v', e = .returned (.tuple #[v', .int .i64 (takeS (s.at k) a).2, .int .i64 0]) ∧ OwnS w' w.heap.size v' (s.put k (takeS (s.at k) a).1) ∧ Le w w' := by
  have hx0 := hx
  obtain ⟨vs, rfl, hr⟩ := hx
  have hl := ((Le.alloc w (.cells (cells4 vs) 54)).trans (Le.alloc _ (.cells #[.int .i64 1, .int .i64 k, .int .i64 a] 48))).trans (Le.alloc _ (.cells (cells4 fun _ => slZ) 54))
  have hb1 := ((Box.new w (cells4 vs) 54).le (Le.alloc _ (.cells #[.int .i64 1, .int .i64 k, .int .i64 a] 48))).le (Le.alloc _ (.cells (cells4 fun _ => slZ) 54))
  have hb2 := (Box.new (w.alloc (.cells (cells4 vs) 54)) #[.int .i64 1, .int .i64 k, .int .i64 a] 48).le (Le.alloc _ (.cells (cells4 fun _ => slZ) 54))
  have hb3 := Box.new ((w.alloc (.cells (cells4 vs) 54)).alloc (.cells #[.int .i64 1, .int .i64 k, .int .i64 a] 48)) (cells4 fun _ => slZ) 54
  simp only [World.size_alloc] at hb1 hb2 hb3
  have hmay := refStateMay1 (stV vs) s _ (hx0.le hl)
  rw [hm] at hmay
  have hop : opMay 1 k a = true := by simp [opMay]; omega
  have hsm := small2 hm
  go_enter Tryz.func91, Tryz.ntmps91
  go_wp2_with fail
  refine hmay.mono ?_
  rintro e w1 ⟨rfl, l1⟩
  obtain ⟨y0, y1, y2, _, _, _⟩ := (hb2.le l1).op
  clear hmay
  go_wp2_with fail
  refine (refOperMay _ _ _ _).mono ?_
  rw [hop]
  rintro e w2 ⟨rfl, l2⟩
  replace l1 := l1.trans l2
  clear l2 y0 y1 y2
  obtain ⟨y0, y1, y2, y3, _, _, _, _⟩ := (hb1.le l1).st
  go_wp2_with fail
  refine (refCopyState (stV vs) s _ (hx0.le (hl.trans l1)) hf).mono ?_
  rintro e w3 ⟨_, rfl, ⟨us, rfl, hown⟩, l3⟩
  replace hown := fun i hi => (hown i hi).base (base' := w.heap.size) (hl.trans l1).size
  replace l1 := l1.trans l3
  clear l3 y0 y1 y2 y3
  have n0 : w.heap.size + 1 + 1 < w3.heap.size := (hb3.le l1).lt
  have n1 : ¬ w.heap.size + 1 + 1 = w3.heap.size := by omega
  have n2 : ¬ w.heap.size + 1 + 1 = w.heap.size := by omega
  have n3 : ¬ w.heap.size + 1 + 1 = w.heap.size + 1 := by omega
  have hb4 := Box.new w3 (cells4 us) 54
  replace l1 := l1.trans (Le.alloc w3 (.cells (cells4 us) 54))
  replace hown := fun i hi => (hown i hi).le (Le.alloc w3 (.cells (cells4 us) 54))
  go_wp2_with fail
  generalize hW : w3.alloc (.cells (cells4 us) 54) = W at hb4 l1 hown ⊢
  clear hW
  go_loop [12, 13, 14] (fun t m i => ∃ j : Nat, j ≤ 4 ∧ i = .int .i64 j ∧ t = .int .i64 (sumTo s j) ∧ m = .int .i64 (manyTo s j)) (fun _ _ i => 4 - (intOf i).toNat)
  case atStart => exact ⟨0, by omega, rfl, rfl, rfl⟩
  case round =>
    obtain ⟨j, hj, rfl, rfl, rfl⟩ := hrel
    by_cases hlt : j < 4
    · have c1 : W.cell? ⟨w.heap.size, j, none⟩ = some (slV (vs j)) := ((hb1.le l1).cell j).trans (cells4_at vs hlt)
      obtain ⟨b0, b1⟩ := sumTo_small hsm j hj
      obtain ⟨b2, b3⟩ := manyTo_bounds (m := 4) (fun i hi => (hsm i hi).1) j hj
      obtain ⟨ad, cap, hv, hc, _, hcell⟩ := (hr j hlt).le (hl.trans l1)
      have hs : sumTo s (j + 1) = sumTo s j + sumOf (s.at j) (s.at j).length := by rw [sumOf_all]; rfl
      have hn : manyTo s (j + 1) = manyTo s j + (s.at j).length := rfl
      have hsj := hsm j hlt
      have hlj := hsj.1
      rw [hv] at c1
      obtain ⟨T, hT⟩ : ∃ T, T = sumTo s j := ⟨_, rfl⟩
      obtain ⟨M, hM⟩ : ∃ M, M = manyTo s j := ⟨_, rfl⟩
      obtain ⟨L, hL⟩ : ∃ L, L = (s.at j).length := ⟨_, rfl⟩
      rw [← hT] at b0 b1 hs ⊢
      rw [← hM] at b2 b3 hn ⊢
      rw [← hL] at c1 hc hcell hs hn hlj
      have HS : Hid (sumTo s (j + 1) = T + sumOf (s.at j) L) := hs
      have HN : Hid (manyTo s (j + 1) = M + L) := hn
      have HL : Hid (L = (s.at j).length) := hL
      clear hs hn hv hm hr hown hb1 hb2 hb3 hb4 hop n0 n1 n2 n3 hT hM hL hsm
      go_wp2
      go_loop [12, 15] (fun t i => ∃ m : Nat, m ≤ L ∧ i = .int .i64 m ∧ t = .int .i64 (T + sumOf (s.at j) m)) (fun _ i => L - (intOf i).toNat)
      case atStart => exact ⟨0, by omega, rfl, by simp [sumOf]⟩
      case round =>
        obtain ⟨m, hmL, rfl, rfl⟩ := hrel
        obtain ⟨d0, d1⟩ := hsj.sum m (by rw [← HL.out]; exact hmL)
        by_cases hlt2 : m < L
        · obtain ⟨b, off, rfl, hcl⟩ := hcell (by omega)
          have c2 := hcl m hlt2
          have hst := sumOf_step (xs := s.at j) (m := m) (by rw [← HL.out]; exact hlt2)
          obtain ⟨d2, d3⟩ := hsj.at (m := m) (by rw [← HL.out]; exact hlt2)
          obtain ⟨x, hx⟩ : ∃ x, x = (s.at j).getD m 0 := ⟨_, rfl⟩
          rw [← hx] at c2 hst d2 d3
          obtain ⟨t, ht⟩ : ∃ t, t = sumOf (s.at j) m := ⟨_, rfl⟩
          rw [← ht] at hst d0 d1 ⊢
          have HT : Hid (sumOf (s.at j) (m + 1) = t + x) := hst
          have m0 : (0 : Int) ≤ (m : Int) := by omega
          have m1 : (m : Int) < (L : Int) := by omega
          clear hst ht hx hcl hcell hsj
          go_wp2
          go_round
          case rel => exact ⟨m + 1, by omega, by go_num, by rw [HT.out, Int.add_assoc]⟩
          case measure => simp [intOf]; omega
        · obtain rfl : m = L := by omega
          clear hcell hsj
          go_wp2
          go_round
          case rel => exact ⟨j + 1, by omega, by go_num, by rw [HS.out], by rw [HN.out]⟩
          case measure => simp [intOf]; omega
    · obtain rfl : j = 4 := by omega
      clear hlt hj
      have k0 : (0 : Int) ≤ (k : Int) := by omega
      have k1 : (k : Int) < 4 := by omega
      have yk : W.cell? ⟨w3.heap.size, k, none⟩ = some (slV (us k)) := (hb4.cell k).trans (cells4_at us hk)
      obtain ⟨o0, o1, o2, _, _, _⟩ := (hb2.le l1).op
      have hrow := refFdsRow1 (slV (us k)) (s.at k) k a W w.heap.size (hown k hk) (hl.trans l1).size (St.all_at hm hk)
      go_wp2_with fail
      refine hrow.mono ?_
      rintro e w4 ⟨q, rfl, hnew, l4⟩
      clear o0 o1 o2 yk hrow
      replace l1 := l1.trans l4
      replace hb4 := hb4.le l4
      replace hown := fun i hi => (hown i hi).le l4
      have yk : w4.cell? ⟨w3.heap.size, k, none⟩ = some (slV (us k)) := (hb4.cell k).trans (cells4_at us hk)
      have yf := hb4.frozen k
      obtain ⟨o0, o1, o2, _, _, _⟩ := (hb2.le l1).op
      go_upto_region 30 with fail
      replace hown := fun i hi => (hown i hi).setBox (i := k) (u := slV q) hb4 (by decide)
      replace hnew := hnew.setBox (i := k) (u := slV q) hb4 (by decide)
      replace hb4 := hb4.set k (slV q)
      rw [cells4_upd us hk] at hb4
      replace l1 : Le _ (w4.setCell ⟨w3.heap.size, k, none⟩ (slV q)) := Below.setCell l1 (by simp only [World.size_alloc]; show w.heap.size + 1 + 1 + 1 ≤ w3.heap.size; omega) _
      clear o0 o1 o2 yk yf
      generalize hW2 : w4.setCell ⟨w3.heap.size, k, none⟩ (slV q) = W2 at hb4 l1 hown hnew ⊢
      replace hown : ∀ i, i < 4 → Own W2 w.heap.size (slV (upd us k q i)) ((s.put k (takeS (s.at k) a).1).at i) := by
        intro i hi
        rw [St.at_put hk hi]
        by_cases e : i = k
        · rw [if_pos e, show upd us k q i = q by simp [upd, e]]; exact hnew
        · rw [if_neg e, show upd us k q i = us i by simp [upd, e]]; exact hown i hi
      generalize upd us k q = us at hb4 hown
      clear hW2 hnew
      obtain ⟨y0, y1, y2, y3, _, _, _, _⟩ := hb4.st
      obtain ⟨z0, z1, z2, z3, f0, f1, f2, f3⟩ := (hb3.le l1).st
      go_wp2_with fail
      refine bodyPost_ret (v := .tuple #[stV us, .int .i64 (takeS (s.at k) a).2, .int .i64 0]) (by simp [results, Tryz.results91, go_sem, z0, z1, z2, z3]) rfl ⟨_, rfl, ⟨us, rfl, fun i hi => ?_⟩, ?_⟩
      · exact (hown i hi).set4 (hb3.le l1) (by decide) _ _ _ _
      · exact (hl.trans l1).set4 (by omega) _ _ _ _

theorem refFds (v : Value) (s : St) (c r a er : Int) (w : World) (hx : HasS w v s) (hf : Fit s) :
    Calls Tryz.prog 91 #[.int .i64 1, v, opV c r a, .int .i64 er] w fun e w' => ∃ v', e = .returned (.tuple #[v', .int .i64 (fdsS s c r a er).2.1, .int .i64 (fdsS s c r a er).2.2]) ∧ OwnS w' w.heap.size v' (fdsS s c r a er).1 ∧ Le w w' := by
  cases h : s.all rowMay2 && opMay c r a
  · rw [fdsS_no h]
    exact (refFdsNo v s c r a er w hx hf h).mono fun e w' ⟨he, hl⟩ => ⟨stZ, he, OwnS.zero _ _, hl⟩
  · obtain ⟨hm, ho⟩ := Bool.and_eq_true_iff.mp h
    rcases opMay_cases ho with ⟨k, hk, rfl, rfl, ha⟩ | ⟨k, hk, rfl, rfl, ha⟩ | ⟨k, hk, rfl, rfl, rfl⟩ | ⟨rfl, rfl, rfl⟩
    · rw [fdsS_first hm hk ha]; exact refFdsFirst v s k a er w hx hf hm hk ha
    · rw [fdsS_second hm hk ha]; exact refFdsSecond v s k a er w hx hf hm hk ha
    · rw [fdsS_look hm hk]; exact refFdsLook v s k er w hx hf hm hk
    · rw [fdsS_scan hm]; exact refFdsScan v s er w hx hf hm

end Go.Proofs.YtibleipfablniaaGreat

/-
  THE WALKS over the document's own rowMay, StateMay, queueRow, at a queue: what they answer, for every row and state. Condition: where memory is made, that the rows can be copied, and are short.
-/
namespace Go.Proofs.YtibleipfablniaaGreat
open Go.RowKit

theorem rowMay3_eq (xs : List Int) : rowMay3 xs = (xs.all argB && decide (xs.length ≤ 4)) := by rw [rowMay3, Bool.and_comm]

set_option maxHeartbeats 400000 in
theorem refRowMay2 (v : Value) (xs : List Int) (w : World) (hx : Has w v xs) (hm : xs.length * 8 ≤ 140737488351232) :
    Calls Tryz.prog 83 #[.int .i64 2, v] w fun e w' => e = .returned (.bool (rowMay3 xs)) ∧ Le w w' := by
  have hl := Le.alloc w (.cells #[.int .i64 1, .int .i64 4, .int .i64 4] 3)
  obtain ⟨a, cap, rfl, hc, _, hx⟩ := hx
  rw [rowMay3_eq]
  by_cases h0 : 0 < xs.length
  · obtain ⟨b, off, rfl, hcell⟩ := hx h0
    obtain ⟨L, hL⟩ : ∃ L, L = xs.length := ⟨_, rfl⟩
    rw [← hL] at hm hc hcell h0 ⊢
    have HL : Hid (L = xs.length) := hL
    clear hL hx
    go_enter Tryz.func83, Tryz.ntmps83
    go_wp2
    go_loopw [6] (fun i wr => ∃ k : Nat, k ≤ L ∧ i = .int .i64 k ∧ Hid ((xs.take k).all argB = true) ∧ Le (w.alloc (.cells #[.int .i64 1, .int .i64 4, .int .i64 4] 3)) wr) (fun i _ => L - (intOf i).toNat)
    case atStart => exact ⟨0, Nat.zero_le _, rfl, rfl, Le.refl _⟩
    case round =>
      obtain ⟨k, hk, rfl, HA, hle⟩ := hrel
      by_cases hlt : k < L
      · obtain ⟨x, hxk⟩ : ∃ x, x = xs.getD k 0 := ⟨_, rfl⟩
        have hcx := hcell k hlt
        rw [← hxk] at hcx
        have c1 : ∀ X : Later wr, X.w.cell? ⟨b, off + k, none⟩ = some (.int .i64 x) := fun X => by
          have hb := World.block_lt_of_cell? w _ hcx
          rw [((hl.trans hle).trans X.le).cell (p := ⟨b, off + k, none⟩) hb]; exact hcx
        have HX : Hid (x = xs.getD k 0) := hxk
        clear hxk hcell hcx
        cases hh : argB x
        · have hup := fun w' => refUpTo x 0 255 w'
          have hh' : (decide (0 ≤ x) && decide (x ≤ 255)) = false := hh
          simp only [hh'] at hup
          go_wp2_with fail
          refine wp_region_later (by kernel_rfl) (by kernel_rfl) ?_
          repeat (go_big_quiet_step (first | (go_at_call 69; exact Calls.later_same (hup _))))
          refine wpQuiet_nil ?_
          rintro _ ⟨y, rfl⟩
          go_wp2
          go_ret
          exact ⟨ret_bool (by rw [all_bad (p := argB) (k := k) (by rw [← HL.out]; exact hlt) (HX.out ▸ hh)]; rfl), (hl.trans hle).trans y.le⟩
        · have hup := fun w' => refUpTo x 0 255 w'
          have hh' : (decide (0 ≤ x) && decide (x ≤ 255)) = true := hh
          simp only [hh'] at hup
          go_wp2_with fail
          refine wp_region_later (by kernel_rfl) (by kernel_rfl) ?_
          repeat (go_big_quiet_step (first | (go_at_call 69; exact Calls.later_same (hup _))))
          refine wpQuiet_nil ?_
          rintro _ ⟨y, rfl⟩
          go_wp2
          go_roundw
          case rel => exact ⟨k + 1, by omega, by go_num, by rw [all_take (by rw [← HL.out]; exact hlt), HA.out, ← HX.out, hh]; rfl, hle.trans y.le⟩
          case measure => simp [intOf]; omega
      · go_wp2
        go_ret
        refine ⟨ret_bool ?_, hl.trans hle⟩
        have := HA.out
        rw [List.take_of_length_le (by have := HL.out; omega)] at this
        rw [this, Bool.true_and, decide_eq_decide]
        omega
  · have hnil : xs = [] := by cases xs with | nil => rfl | cons _ _ => simp at h0
    subst hnil
    go_enter Tryz.func83, Tryz.ntmps83
    go_wp2
    refine wp_loop_rounds 1 ?_
    rw [rounds_succ]
    go_wp2
    go_ret
    exact ⟨ret_bool (by simp), hl⟩

set_option maxHeartbeats 400000 in
theorem refStateMay2 (v : Value) (s : St) (w : World) (hx : HasS w v s) (hf : Fit s) :
    Calls Tryz.prog 68 #[.int .i64 2, v] w fun e w' => e = .returned (.bool (s.all rowMay3)) ∧ Le w w' := by
  obtain ⟨vs, rfl, hr⟩ := hx
  have hl := Le.alloc w (.cells (cells4 vs) 54)
  have hb := Box.new w (cells4 vs) 54
  go_enter Tryz.func68, Tryz.ntmps68
  go_wp2
  go_loopw [5] (fun i wr => ∃ k : Nat, k ≤ 4 ∧ i = .int .i64 k ∧ Hid (∀ j, j < k → rowMay3 (s.at j) = true) ∧ Le (w.alloc (.cells (cells4 vs) 54)) wr) (fun i _ => 4 - (intOf i).toNat)
  case atStart => exact ⟨0, by omega, rfl, (fun j hj => by omega), Le.refl _⟩
  case round =>
    obtain ⟨k, hk, rfl, HA, hle⟩ := hrel
    by_cases hlt : k < 4
    · have hm := refRowMay2 (slV (vs k)) (s.at k) wr ((hr k hlt).le (hl.trans hle)) (hf k hlt)
      have c1 : wr.cell? ⟨w.heap.size, k, none⟩ = some (slV (vs k)) := ((hb.le hle).cell k).trans (cells4_at vs hlt)
      cases hh : rowMay3 (s.at k)
      · rw [hh] at hm
        go_wp2_with fail
        refine hm.mono ?_
        rintro e w1 ⟨rfl, l1⟩
        go_wp2
        go_ret
        exact ⟨ret_bool (St.all_not hlt hh).symm, (hl.trans hle).trans l1⟩
      · rw [hh] at hm
        go_wp2_with fail
        refine hm.mono ?_
        rintro e w1 ⟨rfl, l1⟩
        go_wp2
        go_roundw
        case rel => exact ⟨k + 1, by omega, by go_num, (fun j hj => by rcases Nat.lt_or_eq_of_le (Nat.le_of_lt_succ hj) with h | h; exact HA.out j h; exact h ▸ hh), hle.trans l1⟩
        case measure => simp [intOf]; omega
    · obtain rfl : k = 4 := by omega
      go_wp2
      go_ret
      exact ⟨ret_bool (St.all_of HA.out).symm, hl.trans hle⟩

set_option maxHeartbeats 1000000 in
theorem refQueueRow0 (v : Value) (xs : List Int) (r a : Int) (w : World) (base : Nat) (hown : Own w base v xs) (hbase : base ≤ w.heap.size) (hm : rowMay3 xs = true) :
    Calls Tryz.prog 104 #[v, opV 0 r a] w fun e w' => ∃ q : Sl, e = .returned (.tuple #[slV q, .int .i64 (enqS xs a).2]) ∧ Own w' base (slV q) (enqS xs a).1 ∧ Le w w' := by
  have hl := Le.alloc w (.cells #[.int .i64 0, .int .i64 r, .int .i64 a] 48)
  have hb := Box.new w #[.int .i64 0, .int .i64 r, .int .i64 a] 48
  have hlen := rowMay3_len hm
  have hown0 := hown
  obtain ⟨ad, cap, rfl, hc, _, hx⟩ := hown.has
  by_cases h4 : 4 ≤ xs.length
  · have HP : Hid (enqS xs a = (xs, 0)) := hid (by simp [enqS, h4])
    have h5 : (4 : Int) ≤ (xs.length : Int) := by omega
    clear hx
    go_enter Tryz.func104, Tryz.ntmps104
    go_wp2
    go_ret2
    rw [HP.out]
    exact ⟨(ad, xs.length, cap), rfl, hown.le hl, hl⟩
  · have HP : Hid (enqS xs a = (xs ++ [a], 1)) := hid (by simp [enqS, h4])
    have h5 : ¬ (4 : Int) ≤ (xs.length : Int) := by omega
    clear hx
    go_enter Tryz.func104, Tryz.ntmps104
    go_upto_region 4 with fail
    generalize hW : w.alloc (.cells #[.int .i64 0, .int .i64 r, .int .i64 a] 48) = W at hl hb ⊢
    clear hW
    have hA := Le.alloc W (.cells #[] 3)
    have hn1 : Own (W.alloc (.cells #[] 3)) W.heap.size (.slice (some ⟨W.heap.size, 0, none⟩) 0 0) [] := Own.lit W _ (Nat.le_refl _) [] (by decide)
    go_upto_region 5 with (at_builtin; refine wp_append_ints rfl _ _ rfl W.heap.size _ _ [] xs rfl rfl hn1 (hown0.has.le (hl.trans hA)) (by simp; omega) (by simp) ?_; intro v' w2 hown2 hgrow; rw [List.nil_append] at hown2; obtain ⟨q2, rfl⟩ := hown2.has.sl)
    have l2 : Le W w2 := Below.grown hA hgrow (by simp) (fun g e => by cases e; exact Nat.le_refl _)
    obtain ⟨o0, o1, o2, _, _, _⟩ := (hb.le l2).op
    have hA2 := Le.alloc w2 (.cells #[.int .i64 a] 3)
    have hone : Own (w2.alloc (.cells #[.int .i64 a] 3)) w2.heap.size (slV (some ⟨w2.heap.size, 0, none⟩, 1, 1)) [a] := Own.lit w2 _ (Nat.le_refl _) [a] (by simp)
    go_wp2_with (at_builtin; refine wp_append_ints rfl _ _ rfl W.heap.size _ _ xs [a] rfl rfl (hown2.le hA2) hone.has (by simp; omega) (Nat.le_trans l2.size hA2.size) ?_; intro v' w3 hown3 hgrow3; obtain ⟨q3, rfl⟩ := hown3.has.sl)
    go_ret2
    rw [HP.out]
    exact ⟨q3.1, q3.2.1, q3.2.2, rfl, hown3.base (Nat.le_trans hbase hl.size), hl.trans (Below.grown (l2.trans hA2) hgrow3 (Nat.le_trans l2.size hA2.size) (fun g e => (hown2.block e).1))⟩

set_option maxHeartbeats 1000000 in
theorem refQueueRow1 (v : Value) (xs : List Int) (r a : Int) (w : World) (base : Nat) (hown : Own w base v xs) (hbase : base ≤ w.heap.size) (hm : rowMay3 xs = true) :
    Calls Tryz.prog 104 #[v, opV 1 r a] w fun e w' => ∃ q : Sl, e = .returned (.tuple #[slV q, .int .i64 (deqS xs).2]) ∧ Own w' base (slV q) (deqS xs).1 ∧ Le w w' := by
  have hl := Le.alloc w (.cells #[.int .i64 1, .int .i64 r, .int .i64 a] 48)
  have hlen := rowMay3_len hm
  obtain ⟨ad, cap, rfl, hc, _, hx⟩ := hown.has
  match xs, hlen, hc, hx with
  | [], hlen, hc, hx =>
    go_enter Tryz.func104, Tryz.ntmps104
    go_wp2
    go_ret2
    exact ⟨slZ, rfl, Own.nil _ _, hl⟩
  | x :: zs, hlen, hc, hx =>
    obtain ⟨b, off, rfl, hcell⟩ := hx (by simp)
    have c0 : w.cell? ⟨b, off, none⟩ = some (.int .i64 x) := hcell 0 (by simp)
    obtain ⟨n, hn⟩ : ∃ n, n = zs.length := ⟨_, rfl⟩
    obtain ⟨A, hAe, hB⟩ : ∃ A, (if cap = 1 then some ⟨b, off, none⟩ else some ⟨b, off + 1, none⟩ : Option Addr) = A ∧ Has w (.slice A n (cap - 1)) zs := by
      refine ⟨_, rfl, _, _, by rw [← hn], by simp at hc; omega, (fun h => by split at h <;> cases h), fun hp => ?_⟩
      simp only [List.length_cons] at hc
      rw [if_neg (by omega)]
      refine ⟨b, off + 1, rfl, fun j hj => ?_⟩
      have := hcell (j + 1) (by simp; omega)
      rw [Nat.add_assoc, Nat.add_comm 1 j, this]
      rfl
    have HN : Hid (n = zs.length) := hn
    simp only [List.length_cons] at hc hlen ⊢
    rw [← hn] at hc hlen ⊢
    have n0 : ¬ (((n + 1 : Nat) : Int)) = 0 := by omega
    have n1 : (1 : Int) ≤ (n : Int) + 1 := by omega
    clear hx hcell hn
    go_enter Tryz.func104, Tryz.ntmps104
    go_upto_region 9 with fail
    replace c0 : (w.alloc (.cells #[.int .i64 1, .int .i64 r, .int .i64 a] 48)).cell? ⟨b, off, none⟩ = some (.int .i64 x) := by rw [hl.cell (p := ⟨b, off, none⟩) (World.block_lt_of_cell? w _ c0)]; exact c0
    replace hB := hB.le hl
    generalize hW : w.alloc (.cells #[.int .i64 1, .int .i64 r, .int .i64 a] 48) = W at hl c0 hB ⊢
    clear hW
    have hlt := World.block_lt_of_cell? W _ c0
    have hne : ¬ W.heap.size = b := by have : b < W.heap.size := hlt; omega
    have hA := (Le.drew W).trans (Le.alloc W.drew (.cells #[] 3))
    have hn1 : Own (W.drew.alloc (.cells #[] 3)) W.heap.size (.slice (some ⟨W.heap.size, 0, none⟩) 0 0) [] := Own.lit W.drew _ (Nat.le_refl _) [] (by decide)
    go_region_law ((refine step_append_ints rfl (.tmp 26) (.tmp 28) rfl W.heap.size (.slice (some ⟨W.heap.size, 0, none⟩) 0 0) (.slice A n (cap - 1)) [] zs (by simp [Act.eval]) (by simp [Act.eval]) hn1 (hB.le hA) (by simp; have := HN.out; omega) hA.size ?_; intro v1 w1 o1 g1; have l1 : Le W w1 := Below.grown hA g1 hA.size (fun g e => (by cases e; exact Nat.le_refl _)); have c1 : w1.cell? ⟨b, off, none⟩ = some (.int .i64 x) := (by rw [l1.cell (p := ⟨b, off, none⟩) hlt]; exact c0); rw [List.nil_append] at o1; obtain ⟨q1, rfl⟩ := o1.has.sl))
    all_goals
      go_wp2
      go_ret2
      exact ⟨q1.1, q1.2.1, q1.2.2, rfl, o1.base (Nat.le_trans hbase hl.size), hl.trans l1⟩

end Go.Proofs.YtibleipfablniaaGreat

/-
  THE WALKS over the document's own Apply, at object 2: what it answers, for every state and operation. Condition: the state's rows can be copied.
-/
namespace Go.Proofs.YtibleipfablniaaGreat
open Go.RowKit

theorem small3 {s : St} (hm : s.all rowMay3 = true) : ∀ k, k < 4 → Small (s.at k) := fun _ hk => ⟨rowMay3_len (St.all_at hm hk), rowMay3_all (St.all_at hm hk)⟩

set_option maxHeartbeats 2000000 in
theorem refQueueNo (v : Value) (s : St) (c r a er : Int) (w : World) (hx : HasS w v s) (hf : Fit s) (h : (s.all rowMay3 && opMay c r a) = false) :
    Calls Tryz.prog 91 #[.int .i64 2, v, opV c r a, .int .i64 er] w fun e w' => e = .returned (.tuple #[stZ, .int .i64 0, .int .i64 er]) ∧ Le w w' := by
  have hx0 := hx
  obtain ⟨vs, rfl, hr⟩ := hx
  have hl := ((Le.alloc w (.cells (cells4 vs) 54)).trans (Le.alloc _ (.cells #[.int .i64 c, .int .i64 r, .int .i64 a] 48))).trans (Le.alloc _ (.cells (cells4 fun _ => slZ) 54))
  have hb1 := ((Box.new w (cells4 vs) 54).le (Le.alloc _ (.cells #[.int .i64 c, .int .i64 r, .int .i64 a] 48))).le (Le.alloc _ (.cells (cells4 fun _ => slZ) 54))
  have hb2 := (Box.new (w.alloc (.cells (cells4 vs) 54)) #[.int .i64 c, .int .i64 r, .int .i64 a] 48).le (Le.alloc _ (.cells (cells4 fun _ => slZ) 54))
  have hb3 := Box.new ((w.alloc (.cells (cells4 vs) 54)).alloc (.cells #[.int .i64 c, .int .i64 r, .int .i64 a] 48)) (cells4 fun _ => slZ) 54
  simp only [World.size_alloc] at hb1 hb2 hb3
  have hmay := refStateMay2 (stV vs) s _ (hx0.le hl) hf
  cases hm : s.all rowMay3
  · rw [hm] at hmay
    go_enter Tryz.func91, Tryz.ntmps91
    go_wp2_with fail
    refine hmay.mono ?_
    rintro e w1 ⟨rfl, l1⟩
    obtain ⟨z0, z1, z2, z3, f0, f1, f2, f3⟩ := (hb3.le l1).st
    go_wp2_with fail
    refine bodyPost_ret (v := .tuple #[stZ, .int .i64 0, .int .i64 er]) (by simp [results, Tryz.results91, go_sem, z0, z1, z2, z3]) rfl ⟨rfl, ?_⟩
    exact (hl.trans l1).set4 (by omega) _ _ _ _
  · have hop : opMay c r a = false := by simpa [hm] using h
    rw [hm] at hmay
    go_enter Tryz.func91, Tryz.ntmps91
    go_wp2_with fail
    refine hmay.mono ?_
    rintro e w1 ⟨rfl, l1⟩
    obtain ⟨y0, y1, y2, _, _, _⟩ := (hb2.le l1).op
    go_wp2_with fail
    refine (refOperMay _ _ _ _).mono ?_
    rw [hop]
    rintro e w2 ⟨rfl, l2⟩
    obtain ⟨z0, z1, z2, z3, f0, f1, f2, f3⟩ := ((hb3.le l1).le l2).st
    go_wp2_with fail
    refine bodyPost_ret (v := .tuple #[stZ, .int .i64 0, .int .i64 er]) (by simp [results, Tryz.results91, go_sem, z0, z1, z2, z3]) rfl ⟨rfl, ?_⟩
    exact ((hl.trans l1).trans l2).set4 (by omega) _ _ _ _

set_option maxRecDepth 4000 in
set_option maxHeartbeats 4000000 in
theorem refQueueScan (v : Value) (s : St) (er : Int) (w : World) (hx : HasS w v s) (hf : Fit s) (hm : s.all rowMay3 = true) :
    Calls Tryz.prog 91 #[.int .i64 2, v, opV 3 0 0, .int .i64 er] w fun e w' => ∃ v', e = .returned (.tuple #[v', .int .i64 (manyTo s 4), .int .i64 0]) ∧ OwnS w' w.heap.size v' (s) ∧ Le w w' := by
  have hx0 := hx
  obtain ⟨vs, rfl, hr⟩ := hx
  have hl := ((Le.alloc w (.cells (cells4 vs) 54)).trans (Le.alloc _ (.cells #[.int .i64 3, .int .i64 0, .int .i64 0] 48))).trans (Le.alloc _ (.cells (cells4 fun _ => slZ) 54))
  have hb1 := ((Box.new w (cells4 vs) 54).le (Le.alloc _ (.cells #[.int .i64 3, .int .i64 0, .int .i64 0] 48))).le (Le.alloc _ (.cells (cells4 fun _ => slZ) 54))
  have hb2 := (Box.new (w.alloc (.cells (cells4 vs) 54)) #[.int .i64 3, .int .i64 0, .int .i64 0] 48).le (Le.alloc _ (.cells (cells4 fun _ => slZ) 54))
  have hb3 := Box.new ((w.alloc (.cells (cells4 vs) 54)).alloc (.cells #[.int .i64 3, .int .i64 0, .int .i64 0] 48)) (cells4 fun _ => slZ) 54
  simp only [World.size_alloc] at hb1 hb2 hb3
  have hmay := refStateMay2 (stV vs) s _ (hx0.le hl) hf
  rw [hm] at hmay
  have hop : opMay 3 0 0 = true := by decide
  have hsm := small3 hm
  go_enter Tryz.func91, Tryz.ntmps91
  go_wp2_with fail
  refine hmay.mono ?_
  rintro e w1 ⟨rfl, l1⟩
  obtain ⟨y0, y1, y2, _, _, _⟩ := (hb2.le l1).op
  clear hmay
  go_wp2_with fail
  refine (refOperMay _ _ _ _).mono ?_
  rw [hop]
  rintro e w2 ⟨rfl, l2⟩
  replace l1 := l1.trans l2
  clear l2 y0 y1 y2
  obtain ⟨y0, y1, y2, y3, _, _, _, _⟩ := (hb1.le l1).st
  go_wp2_with fail
  refine (refCopyState (stV vs) s _ (hx0.le (hl.trans l1)) hf).mono ?_
  rintro e w3 ⟨_, rfl, ⟨us, rfl, hown⟩, l3⟩
  replace hown := fun i hi => (hown i hi).base (base' := w.heap.size) (hl.trans l1).size
  replace l1 := l1.trans l3
  clear l3 y0 y1 y2 y3
  have n0 : w.heap.size + 1 + 1 < w3.heap.size := (hb3.le l1).lt
  have n1 : ¬ w.heap.size + 1 + 1 = w3.heap.size := by omega
  have n2 : ¬ w.heap.size + 1 + 1 = w.heap.size := by omega
  have n3 : ¬ w.heap.size + 1 + 1 = w.heap.size + 1 := by omega
  have hb4 := Box.new w3 (cells4 us) 54
  replace l1 := l1.trans (Le.alloc w3 (.cells (cells4 us) 54))
  replace hown := fun i hi => (hown i hi).le (Le.alloc w3 (.cells (cells4 us) 54))
  go_wp2_with fail
  generalize hW : w3.alloc (.cells (cells4 us) 54) = W at hb4 l1 hown ⊢
  clear hW
  go_loop [12, 13, 14] (fun t m i => ∃ j : Nat, j ≤ 4 ∧ i = .int .i64 j ∧ t = .int .i64 (sumTo s j) ∧ m = .int .i64 (manyTo s j)) (fun _ _ i => 4 - (intOf i).toNat)
  case atStart => exact ⟨0, by omega, rfl, rfl, rfl⟩
  case round =>
    obtain ⟨j, hj, rfl, rfl, rfl⟩ := hrel
    by_cases hlt : j < 4
    · have c1 : W.cell? ⟨w.heap.size, j, none⟩ = some (slV (vs j)) := ((hb1.le l1).cell j).trans (cells4_at vs hlt)
      obtain ⟨b0, b1⟩ := sumTo_small hsm j hj
      obtain ⟨b2, b3⟩ := manyTo_bounds (m := 4) (fun i hi => (hsm i hi).1) j hj
      obtain ⟨ad, cap, hv, hc, _, hcell⟩ := (hr j hlt).le (hl.trans l1)
      have hs : sumTo s (j + 1) = sumTo s j + sumOf (s.at j) (s.at j).length := by rw [sumOf_all]; rfl
      have hn : manyTo s (j + 1) = manyTo s j + (s.at j).length := rfl
      have hsj := hsm j hlt
      have hlj := hsj.1
      rw [hv] at c1
      obtain ⟨T, hT⟩ : ∃ T, T = sumTo s j := ⟨_, rfl⟩
      obtain ⟨M, hM⟩ : ∃ M, M = manyTo s j := ⟨_, rfl⟩
      obtain ⟨L, hL⟩ : ∃ L, L = (s.at j).length := ⟨_, rfl⟩
      rw [← hT] at b0 b1 hs ⊢
      rw [← hM] at b2 b3 hn ⊢
      rw [← hL] at c1 hc hcell hs hn hlj
      have HS : Hid (sumTo s (j + 1) = T + sumOf (s.at j) L) := hs
      have HN : Hid (manyTo s (j + 1) = M + L) := hn
      have HL : Hid (L = (s.at j).length) := hL
      clear hs hn hv hm hr hown hb1 hb2 hb3 hb4 hop n0 n1 n2 n3 hT hM hL hsm
      go_wp2
      go_loop [12, 15] (fun t i => ∃ m : Nat, m ≤ L ∧ i = .int .i64 m ∧ t = .int .i64 (T + sumOf (s.at j) m)) (fun _ i => L - (intOf i).toNat)
      case atStart => exact ⟨0, by omega, rfl, by simp [sumOf]⟩
      case round =>
        obtain ⟨m, hmL, rfl, rfl⟩ := hrel
        obtain ⟨d0, d1⟩ := hsj.sum m (by rw [← HL.out]; exact hmL)
        by_cases hlt2 : m < L
        · obtain ⟨b, off, rfl, hcl⟩ := hcell (by omega)
          have c2 := hcl m hlt2
          have hst := sumOf_step (xs := s.at j) (m := m) (by rw [← HL.out]; exact hlt2)
          obtain ⟨d2, d3⟩ := hsj.at (m := m) (by rw [← HL.out]; exact hlt2)
          obtain ⟨x, hx⟩ : ∃ x, x = (s.at j).getD m 0 := ⟨_, rfl⟩
          rw [← hx] at c2 hst d2 d3
          obtain ⟨t, ht⟩ : ∃ t, t = sumOf (s.at j) m := ⟨_, rfl⟩
          rw [← ht] at hst d0 d1 ⊢
          have HT : Hid (sumOf (s.at j) (m + 1) = t + x) := hst
          have m0 : (0 : Int) ≤ (m : Int) := by omega
          have m1 : (m : Int) < (L : Int) := by omega
          clear hst ht hx hcl hcell hsj
          go_wp2
          go_round
          case rel => exact ⟨m + 1, by omega, by go_num, by rw [HT.out, Int.add_assoc]⟩
          case measure => simp [intOf]; omega
        · obtain rfl : m = L := by omega
          clear hcell hsj
          go_wp2
          go_round
          case rel => exact ⟨j + 1, by omega, by go_num, by rw [HS.out], by rw [HN.out]⟩
          case measure => simp [intOf]; omega
    · obtain rfl : j = 4 := by omega
      clear hlt hj
      obtain ⟨y0, y1, y2, y3, _, _, _, _⟩ := hb4.st
      obtain ⟨z0, z1, z2, z3, f0, f1, f2, f3⟩ := (hb3.le l1).st
      obtain ⟨o0, o1, o2, _, _, _⟩ := (hb2.le l1).op
      go_wp2_with fail
      refine bodyPost_ret (v := .tuple #[stV us, .int .i64 (manyTo s 4), .int .i64 0]) (by simp [results, Tryz.results91, go_sem, z0, z1, z2, z3]) rfl ⟨_, rfl, ⟨us, rfl, fun i hi => ?_⟩, ?_⟩
      · exact (hown i hi).set4 (hb3.le l1) (by decide) _ _ _ _
      · exact (hl.trans l1).set4 (by omega) _ _ _ _

set_option maxRecDepth 4000 in
set_option maxHeartbeats 4000000 in
theorem refQueueLook (v : Value) (s : St) (k : Nat) (er : Int) (w : World) (hx : HasS w v s) (hf : Fit s) (hm : s.all rowMay3 = true) (hk : k < 4) :
    Calls Tryz.prog 91 #[.int .i64 2, v, opV 2 k 0, .int .i64 er] w fun e w' => ∃ v', e = .returned (.tuple #[v', .int .i64 ((s.at k).length : Int), .int .i64 0]) ∧ OwnS w' w.heap.size v' (s) ∧ Le w w' := by
  have hx0 := hx
  obtain ⟨vs, rfl, hr⟩ := hx
  have hl := ((Le.alloc w (.cells (cells4 vs) 54)).trans (Le.alloc _ (.cells #[.int .i64 2, .int .i64 k, .int .i64 0] 48))).trans (Le.alloc _ (.cells (cells4 fun _ => slZ) 54))
  have hb1 := ((Box.new w (cells4 vs) 54).le (Le.alloc _ (.cells #[.int .i64 2, .int .i64 k, .int .i64 0] 48))).le (Le.alloc _ (.cells (cells4 fun _ => slZ) 54))
  have hb2 := (Box.new (w.alloc (.cells (cells4 vs) 54)) #[.int .i64 2, .int .i64 k, .int .i64 0] 48).le (Le.alloc _ (.cells (cells4 fun _ => slZ) 54))
  have hb3 := Box.new ((w.alloc (.cells (cells4 vs) 54)).alloc (.cells #[.int .i64 2, .int .i64 k, .int .i64 0] 48)) (cells4 fun _ => slZ) 54
  simp only [World.size_alloc] at hb1 hb2 hb3
  have hmay := refStateMay2 (stV vs) s _ (hx0.le hl) hf
  rw [hm] at hmay
  have hop : opMay 2 k 0 = true := by simp [opMay]; omega
  have hsm := small3 hm
  go_enter Tryz.func91, Tryz.ntmps91
  go_wp2_with fail
  refine hmay.mono ?_
  rintro e w1 ⟨rfl, l1⟩
  obtain ⟨y0, y1, y2, _, _, _⟩ := (hb2.le l1).op
  clear hmay
  go_wp2_with fail
  refine (refOperMay _ _ _ _).mono ?_
  rw [hop]
  rintro e w2 ⟨rfl, l2⟩
  replace l1 := l1.trans l2
  clear l2 y0 y1 y2
  obtain ⟨y0, y1, y2, y3, _, _, _, _⟩ := (hb1.le l1).st
  go_wp2_with fail
  refine (refCopyState (stV vs) s _ (hx0.le (hl.trans l1)) hf).mono ?_
  rintro e w3 ⟨_, rfl, ⟨us, rfl, hown⟩, l3⟩
  replace hown := fun i hi => (hown i hi).base (base' := w.heap.size) (hl.trans l1).size
  replace l1 := l1.trans l3
  clear l3 y0 y1 y2 y3
  have n0 : w.heap.size + 1 + 1 < w3.heap.size := (hb3.le l1).lt
  have n1 : ¬ w.heap.size + 1 + 1 = w3.heap.size := by omega
  have n2 : ¬ w.heap.size + 1 + 1 = w.heap.size := by omega
  have n3 : ¬ w.heap.size + 1 + 1 = w.heap.size + 1 := by omega
  have hb4 := Box.new w3 (cells4 us) 54
  replace l1 := l1.trans (Le.alloc w3 (.cells (cells4 us) 54))
  replace hown := fun i hi => (hown i hi).le (Le.alloc w3 (.cells (cells4 us) 54))
  go_wp2_with fail
  generalize hW : w3.alloc (.cells (cells4 us) 54) = W at hb4 l1 hown ⊢
  clear hW
  go_loop [12, 13, 14] (fun t m i => ∃ j : Nat, j ≤ 4 ∧ i = .int .i64 j ∧ t = .int .i64 (sumTo s j) ∧ m = .int .i64 (manyTo s j)) (fun _ _ i => 4 - (intOf i).toNat)
  case atStart => exact ⟨0, by omega, rfl, rfl, rfl⟩
  case round =>
    obtain ⟨j, hj, rfl, rfl, rfl⟩ := hrel
    by_cases hlt : j < 4
    · have c1 : W.cell? ⟨w.heap.size, j, none⟩ = some (slV (vs j)) := ((hb1.le l1).cell j).trans (cells4_at vs hlt)
      obtain ⟨b0, b1⟩ := sumTo_small hsm j hj
      obtain ⟨b2, b3⟩ := manyTo_bounds (m := 4) (fun i hi => (hsm i hi).1) j hj
      obtain ⟨ad, cap, hv, hc, _, hcell⟩ := (hr j hlt).le (hl.trans l1)
      have hs : sumTo s (j + 1) = sumTo s j + sumOf (s.at j) (s.at j).length := by rw [sumOf_all]; rfl
      have hn : manyTo s (j + 1) = manyTo s j + (s.at j).length := rfl
      have hsj := hsm j hlt
      have hlj := hsj.1
      rw [hv] at c1
      obtain ⟨T, hT⟩ : ∃ T, T = sumTo s j := ⟨_, rfl⟩
      obtain ⟨M, hM⟩ : ∃ M, M = manyTo s j := ⟨_, rfl⟩
      obtain ⟨L, hL⟩ : ∃ L, L = (s.at j).length := ⟨_, rfl⟩
      rw [← hT] at b0 b1 hs ⊢
      rw [← hM] at b2 b3 hn ⊢
      rw [← hL] at c1 hc hcell hs hn hlj
      have HS : Hid (sumTo s (j + 1) = T + sumOf (s.at j) L) := hs
      have HN : Hid (manyTo s (j + 1) = M + L) := hn
      have HL : Hid (L = (s.at j).length) := hL
      clear hs hn hv hm hr hown hb1 hb2 hb3 hb4 hop n0 n1 n2 n3 hT hM hL hsm
      go_wp2
      go_loop [12, 15] (fun t i => ∃ m : Nat, m ≤ L ∧ i = .int .i64 m ∧ t = .int .i64 (T + sumOf (s.at j) m)) (fun _ i => L - (intOf i).toNat)
      case atStart => exact ⟨0, by omega, rfl, by simp [sumOf]⟩
      case round =>
        obtain ⟨m, hmL, rfl, rfl⟩ := hrel
        obtain ⟨d0, d1⟩ := hsj.sum m (by rw [← HL.out]; exact hmL)
        by_cases hlt2 : m < L
        · obtain ⟨b, off, rfl, hcl⟩ := hcell (by omega)
          have c2 := hcl m hlt2
          have hst := sumOf_step (xs := s.at j) (m := m) (by rw [← HL.out]; exact hlt2)
          obtain ⟨d2, d3⟩ := hsj.at (m := m) (by rw [← HL.out]; exact hlt2)
          obtain ⟨x, hx⟩ : ∃ x, x = (s.at j).getD m 0 := ⟨_, rfl⟩
          rw [← hx] at c2 hst d2 d3
          obtain ⟨t, ht⟩ : ∃ t, t = sumOf (s.at j) m := ⟨_, rfl⟩
          rw [← ht] at hst d0 d1 ⊢
          have HT : Hid (sumOf (s.at j) (m + 1) = t + x) := hst
          have m0 : (0 : Int) ≤ (m : Int) := by omega
          have m1 : (m : Int) < (L : Int) := by omega
          clear hst ht hx hcl hcell hsj
          go_wp2
          go_round
          case rel => exact ⟨m + 1, by omega, by go_num, by rw [HT.out, Int.add_assoc]⟩
          case measure => simp [intOf]; omega
        · obtain rfl : m = L := by omega
          clear hcell hsj
          go_wp2
          go_round
          case rel => exact ⟨j + 1, by omega, by go_num, by rw [HS.out], by rw [HN.out]⟩
          case measure => simp [intOf]; omega
    · obtain rfl : j = 4 := by omega
      clear hlt hj
      obtain ⟨y0, y1, y2, y3, _, _, _, _⟩ := hb4.st
      obtain ⟨z0, z1, z2, z3, f0, f1, f2, f3⟩ := (hb3.le l1).st
      obtain ⟨o0, o1, o2, _, _, _⟩ := (hb2.le l1).op
      have k0 : (0 : Int) ≤ (k : Int) := by omega
      have k1 : (k : Int) < 4 := by omega
      have yk : W.cell? ⟨w3.heap.size, k, none⟩ = some (slV (us k)) := (hb4.cell k).trans (cells4_at us hk)
      have hle : (us k).2.1 = (s.at k).length := by
        obtain ⟨ad, cap, e, _⟩ := (hown k hk).has
        simp only [Value.slice.injEq] at e
        exact e.2.1
      go_wp2_with fail
      refine bodyPost_ret (v := .tuple #[stV us, .int .i64 ((s.at k).length : Int), .int .i64 0]) (by simp [results, Tryz.results91, go_sem, z0, z1, z2, z3]) rfl ⟨_, rfl, ⟨us, rfl, fun i hi => ?_⟩, ?_⟩
      · exact (hown i hi).set4 (hb3.le l1) (by decide) _ _ _ _
      · exact (hl.trans l1).set4 (by omega) _ _ _ _

set_option maxRecDepth 4000 in
set_option maxHeartbeats 4000000 in
theorem refQueueFirst (v : Value) (s : St) (k : Nat) (a : Int) (er : Int) (w : World) (hx : HasS w v s) (hf : Fit s) (hm : s.all rowMay3 = true) (hk : k < 4) (ha : 0 ≤ a ∧ a ≤ 255) :
    Calls Tryz.prog 91 #[.int .i64 2, v, opV 0 k a, .int .i64 er] w fun e w' => ∃ v', e = .returned (.tuple #[v', .int .i64 (enqS (s.at k) a).2, .int .i64 0]) ∧ OwnS w' w.heap.size v' (s.put k (enqS (s.at k) a).1) ∧ Le w w' := by
  have hx0 := hx
  obtain ⟨vs, rfl, hr⟩ := hx
  have hl := ((Le.alloc w (.cells (cells4 vs) 54)).trans (Le.alloc _ (.cells #[.int .i64 0, .int .i64 k, .int .i64 a] 48))).trans (Le.alloc _ (.cells (cells4 fun _ => slZ) 54))
  have hb1 := ((Box.new w (cells4 vs) 54).le (Le.alloc _ (.cells #[.int .i64 0, .int .i64 k, .int .i64 a] 48))).le (Le.alloc _ (.cells (cells4 fun _ => slZ) 54))
  have hb2 := (Box.new (w.alloc (.cells (cells4 vs) 54)) #[.int .i64 0, .int .i64 k, .int .i64 a] 48).le (Le.alloc _ (.cells (cells4 fun _ => slZ) 54))
  have hb3 := Box.new ((w.alloc (.cells (cells4 vs) 54)).alloc (.cells #[.int .i64 0, .int .i64 k, .int .i64 a] 48)) (cells4 fun _ => slZ) 54
  simp only [World.size_alloc] at hb1 hb2 hb3
  have hmay := refStateMay2 (stV vs) s _ (hx0.le hl) hf
  rw [hm] at hmay
  have hop : opMay 0 k a = true := by simp [opMay]; omega
  have hsm := small3 hm
  go_enter Tryz.func91, Tryz.ntmps91
  go_wp2_with fail
  refine hmay.mono ?_
  rintro e w1 ⟨rfl, l1⟩
  obtain ⟨y0, y1, y2, _, _, _⟩ := (hb2.le l1).op
  clear hmay
  go_wp2_with fail
  refine (refOperMay _ _ _ _).mono ?_
  rw [hop]
  rintro e w2 ⟨rfl, l2⟩
  replace l1 := l1.trans l2
  clear l2 y0 y1 y2
  obtain ⟨y0, y1, y2, y3, _, _, _, _⟩ := (hb1.le l1).st
  go_wp2_with fail
  refine (refCopyState (stV vs) s _ (hx0.le (hl.trans l1)) hf).mono ?_
  rintro e w3 ⟨_, rfl, ⟨us, rfl, hown⟩, l3⟩
  replace hown := fun i hi => (hown i hi).base (base' := w.heap.size) (hl.trans l1).size
  replace l1 := l1.trans l3
  clear l3 y0 y1 y2 y3
  have n0 : w.heap.size + 1 + 1 < w3.heap.size := (hb3.le l1).lt
  have n1 : ¬ w.heap.size + 1 + 1 = w3.heap.size := by omega
  have n2 : ¬ w.heap.size + 1 + 1 = w.heap.size := by omega
  have n3 : ¬ w.heap.size + 1 + 1 = w.heap.size + 1 := by omega
  have hb4 := Box.new w3 (cells4 us) 54
  replace l1 := l1.trans (Le.alloc w3 (.cells (cells4 us) 54))
  replace hown := fun i hi => (hown i hi).le (Le.alloc w3 (.cells (cells4 us) 54))
  go_wp2_with fail
  generalize hW : w3.alloc (.cells (cells4 us) 54) = W at hb4 l1 hown ⊢
  clear hW
  go_loop [12, 13, 14] (fun t m i => ∃ j : Nat, j ≤ 4 ∧ i = .int .i64 j ∧ t = .int .i64 (sumTo s j) ∧ m = .int .i64 (manyTo s j)) (fun _ _ i => 4 - (intOf i).toNat)
  case atStart => exact ⟨0, by omega, rfl, rfl, rfl⟩
  case round =>
    obtain ⟨j, hj, rfl, rfl, rfl⟩ := hrel
    by_cases hlt : j < 4
    · have c1 : W.cell? ⟨w.heap.size, j, none⟩ = some (slV (vs j)) := ((hb1.le l1).cell j).trans (cells4_at vs hlt)
      obtain ⟨b0, b1⟩ := sumTo_small hsm j hj
      obtain ⟨b2, b3⟩ := manyTo_bounds (m := 4) (fun i hi => (hsm i hi).1) j hj
      obtain ⟨ad, cap, hv, hc, _, hcell⟩ := (hr j hlt).le (hl.trans l1)
      have hs : sumTo s (j + 1) = sumTo s j + sumOf (s.at j) (s.at j).length := by rw [sumOf_all]; rfl
      have hn : manyTo s (j + 1) = manyTo s j + (s.at j).length := rfl
      have hsj := hsm j hlt
      have hlj := hsj.1
      rw [hv] at c1
      obtain ⟨T, hT⟩ : ∃ T, T = sumTo s j := ⟨_, rfl⟩
      obtain ⟨M, hM⟩ : ∃ M, M = manyTo s j := ⟨_, rfl⟩
      obtain ⟨L, hL⟩ : ∃ L, L = (s.at j).length := ⟨_, rfl⟩
      rw [← hT] at b0 b1 hs ⊢
      rw [← hM] at b2 b3 hn ⊢
      rw [← hL] at c1 hc hcell hs hn hlj
      have HS : Hid (sumTo s (j + 1) = T + sumOf (s.at j) L) := hs
      have HN : Hid (manyTo s (j + 1) = M + L) := hn
      have HL : Hid (L = (s.at j).length) := hL
      clear hs hn hv hm hr hown hb1 hb2 hb3 hb4 hop n0 n1 n2 n3 hT hM hL hsm
      go_wp2
      go_loop [12, 15] (fun t i => ∃ m : Nat, m ≤ L ∧ i = .int .i64 m ∧ t = .int .i64 (T + sumOf (s.at j) m)) (fun _ i => L - (intOf i).toNat)
      case atStart => exact ⟨0, by omega, rfl, by simp [sumOf]⟩
      case round =>
        obtain ⟨m, hmL, rfl, rfl⟩ := hrel
        obtain ⟨d0, d1⟩ := hsj.sum m (by rw [← HL.out]; exact hmL)
        by_cases hlt2 : m < L
        · obtain ⟨b, off, rfl, hcl⟩ := hcell (by omega)
          have c2 := hcl m hlt2
          have hst := sumOf_step (xs := s.at j) (m := m) (by rw [← HL.out]; exact hlt2)
          obtain ⟨d2, d3⟩ := hsj.at (m := m) (by rw [← HL.out]; exact hlt2)
          obtain ⟨x, hx⟩ : ∃ x, x = (s.at j).getD m 0 := ⟨_, rfl⟩
          rw [← hx] at c2 hst d2 d3
          obtain ⟨t, ht⟩ : ∃ t, t = sumOf (s.at j) m := ⟨_, rfl⟩
          rw [← ht] at hst d0 d1 ⊢
          have HT : Hid (sumOf (s.at j) (m + 1) = t + x) := hst
          have m0 : (0 : Int) ≤ (m : Int) := by omega
          have m1 : (m : Int) < (L : Int) := by omega
          clear hst ht hx hcl hcell hsj
          go_wp2
          go_round
          case rel => exact ⟨m + 1, by omega, by go_num, by rw [HT.out, Int.add_assoc]⟩
          case measure => simp [intOf]; omega
        · obtain rfl : m = L := by omega
          clear hcell hsj
          go_wp2
          go_round
          case rel => exact ⟨j + 1, by omega, by go_num, by rw [HS.out], by rw [HN.out]⟩
          case measure => simp [intOf]; omega
    · obtain rfl : j = 4 := by omega
      clear hlt hj
      have k0 : (0 : Int) ≤ (k : Int) := by omega
      have k1 : (k : Int) < 4 := by omega
      have yk : W.cell? ⟨w3.heap.size, k, none⟩ = some (slV (us k)) := (hb4.cell k).trans (cells4_at us hk)
      obtain ⟨o0, o1, o2, _, _, _⟩ := (hb2.le l1).op
      have hrow := refQueueRow0 (slV (us k)) (s.at k) k a W w.heap.size (hown k hk) (hl.trans l1).size (St.all_at hm hk)
      go_wp2_with fail
      refine hrow.mono ?_
      rintro e w4 ⟨q, rfl, hnew, l4⟩
      clear o0 o1 o2 yk hrow
      replace l1 := l1.trans l4
      replace hb4 := hb4.le l4
      replace hown := fun i hi => (hown i hi).le l4
      have yk : w4.cell? ⟨w3.heap.size, k, none⟩ = some (slV (us k)) := (hb4.cell k).trans (cells4_at us hk)
      have yf := hb4.frozen k
      obtain ⟨o0, o1, o2, _, _, _⟩ := (hb2.le l1).op
      go_upto_region 30 with fail
      replace hown := fun i hi => (hown i hi).setBox (i := k) (u := slV q) hb4 (by decide)
      replace hnew := hnew.setBox (i := k) (u := slV q) hb4 (by decide)
      replace hb4 := hb4.set k (slV q)
      rw [cells4_upd us hk] at hb4
      replace l1 : Le _ (w4.setCell ⟨w3.heap.size, k, none⟩ (slV q)) := Below.setCell l1 (by simp only [World.size_alloc]; show w.heap.size + 1 + 1 + 1 ≤ w3.heap.size; omega) _
      clear o0 o1 o2 yk yf
      generalize hW2 : w4.setCell ⟨w3.heap.size, k, none⟩ (slV q) = W2 at hb4 l1 hown hnew ⊢
      replace hown : ∀ i, i < 4 → Own W2 w.heap.size (slV (upd us k q i)) ((s.put k (enqS (s.at k) a).1).at i) := by
        intro i hi
        rw [St.at_put hk hi]
        by_cases e : i = k
        · rw [if_pos e, show upd us k q i = q by simp [upd, e]]; exact hnew
        · rw [if_neg e, show upd us k q i = us i by simp [upd, e]]; exact hown i hi
      generalize upd us k q = us at hb4 hown
      clear hW2 hnew
      obtain ⟨y0, y1, y2, y3, _, _, _, _⟩ := hb4.st
      obtain ⟨z0, z1, z2, z3, f0, f1, f2, f3⟩ := (hb3.le l1).st
      go_wp2_with fail
      refine bodyPost_ret (v := .tuple #[stV us, .int .i64 (enqS (s.at k) a).2, .int .i64 0]) (by simp [results, Tryz.results91, go_sem, z0, z1, z2, z3]) rfl ⟨_, rfl, ⟨us, rfl, fun i hi => ?_⟩, ?_⟩
      · exact (hown i hi).set4 (hb3.le l1) (by decide) _ _ _ _
      · exact (hl.trans l1).set4 (by omega) _ _ _ _

set_option maxRecDepth 4000 in
set_option maxHeartbeats 4000000 in
theorem refQueueSecond (v : Value) (s : St) (k : Nat) (a : Int) (er : Int) (w : World) (hx : HasS w v s) (hf : Fit s) (hm : s.all rowMay3 = true) (hk : k < 4) (ha : 0 ≤ a ∧ a ≤ 255) :
    Calls Tryz.prog 91 #[.int .i64 2, v, opV 1 k a, .int .i64 er] w fun e w' => ∃ v', e = .returned (.tuple #[v', .int .i64 (deqS (s.at k)).2, .int .i64 0]) ∧ OwnS w' w.heap.size v' (s.put k (deqS (s.at k)).1) ∧ Le w w' := by
  have hx0 := hx
  obtain ⟨vs, rfl, hr⟩ := hx
  have hl := ((Le.alloc w (.cells (cells4 vs) 54)).trans (Le.alloc _ (.cells #[.int .i64 1, .int .i64 k, .int .i64 a] 48))).trans (Le.alloc _ (.cells (cells4 fun _ => slZ) 54))
  have hb1 := ((Box.new w (cells4 vs) 54).le (Le.alloc _ (.cells #[.int .i64 1, .int .i64 k, .int .i64 a] 48))).le (Le.alloc _ (.cells (cells4 fun _ => slZ) 54))
  have hb2 := (Box.new (w.alloc (.cells (cells4 vs) 54)) #[.int .i64 1, .int .i64 k, .int .i64 a] 48).le (Le.alloc _ (.cells (cells4 fun _ => slZ) 54))
  have hb3 := Box.new ((w.alloc (.cells (cells4 vs) 54)).alloc (.cells #[.int .i64 1, .int .i64 k, .int .i64 a] 48)) (cells4 fun _ => slZ) 54
  simp only [World.size_alloc] at hb1 hb2 hb3
  have hmay := refStateMay2 (stV vs) s _ (hx0.le hl) hf
  rw [hm] at hmay
  have hop : opMay 1 k a = true := by simp [opMay]; omega
  have hsm := small3 hm
  go_enter Tryz.func91, Tryz.ntmps91
  go_wp2_with fail
  refine hmay.mono ?_
  rintro e w1 ⟨rfl, l1⟩
  obtain ⟨y0, y1, y2, _, _, _⟩ := (hb2.le l1).op
  clear hmay
  go_wp2_with fail
  refine (refOperMay _ _ _ _).mono ?_
  rw [hop]
  rintro e w2 ⟨rfl, l2⟩
  replace l1 := l1.trans l2
  clear l2 y0 y1 y2
  obtain ⟨y0, y1, y2, y3, _, _, _, _⟩ := (hb1.le l1).st
  go_wp2_with fail
  refine (refCopyState (stV vs) s _ (hx0.le (hl.trans l1)) hf).mono ?_
  rintro e w3 ⟨_, rfl, ⟨us, rfl, hown⟩, l3⟩
  replace hown := fun i hi => (hown i hi).base (base' := w.heap.size) (hl.trans l1).size
  replace l1 := l1.trans l3
  clear l3 y0 y1 y2 y3
  have n0 : w.heap.size + 1 + 1 < w3.heap.size := (hb3.le l1).lt
  have n1 : ¬ w.heap.size + 1 + 1 = w3.heap.size := by omega
  have n2 : ¬ w.heap.size + 1 + 1 = w.heap.size := by omega
  have n3 : ¬ w.heap.size + 1 + 1 = w.heap.size + 1 := by omega
  have hb4 := Box.new w3 (cells4 us) 54
  replace l1 := l1.trans (Le.alloc w3 (.cells (cells4 us) 54))
  replace hown := fun i hi => (hown i hi).le (Le.alloc w3 (.cells (cells4 us) 54))
  go_wp2_with fail
  generalize hW : w3.alloc (.cells (cells4 us) 54) = W at hb4 l1 hown ⊢
  clear hW
  go_loop [12, 13, 14] (fun t m i => ∃ j : Nat, j ≤ 4 ∧ i = .int .i64 j ∧ t = .int .i64 (sumTo s j) ∧ m = .int .i64 (manyTo s j)) (fun _ _ i => 4 - (intOf i).toNat)
  case atStart => exact ⟨0, by omega, rfl, rfl, rfl⟩
  case round =>
    obtain ⟨j, hj, rfl, rfl, rfl⟩ := hrel
    by_cases hlt : j < 4
    · have c1 : W.cell? ⟨w.heap.size, j, none⟩ = some (slV (vs j)) := ((hb1.le l1).cell j).trans (cells4_at vs hlt)
      obtain ⟨b0, b1⟩ := sumTo_small hsm j hj
      obtain ⟨b2, b3⟩ := manyTo_bounds (m := 4) (fun i hi => (hsm i hi).1) j hj
      obtain ⟨ad, cap, hv, hc, _, hcell⟩ := (hr j hlt).le (hl.trans l1)
      have hs : sumTo s (j + 1) = sumTo s j + sumOf (s.at j) (s.at j).length := by rw [sumOf_all]; rfl
      have hn : manyTo s (j + 1) = manyTo s j + (s.at j).length := rfl
      have hsj := hsm j hlt
      have hlj := hsj.1
      rw [hv] at c1
      obtain ⟨T, hT⟩ : ∃ T, T = sumTo s j := ⟨_, rfl⟩
      obtain ⟨M, hM⟩ : ∃ M, M = manyTo s j := ⟨_, rfl⟩
      obtain ⟨L, hL⟩ : ∃ L, L = (s.at j).length := ⟨_, rfl⟩
      rw [← hT] at b0 b1 hs ⊢
      rw [← hM] at b2 b3 hn ⊢
      rw [← hL] at c1 hc hcell hs hn hlj
      have HS : Hid (sumTo s (j + 1) = T + sumOf (s.at j) L) := hs
      have HN : Hid (manyTo s (j + 1) = M + L) := hn
      have HL : Hid (L = (s.at j).length) := hL
      clear hs hn hv hm hr hown hb1 hb2 hb3 hb4 hop n0 n1 n2 n3 hT hM hL hsm
      go_wp2
      go_loop [12, 15] (fun t i => ∃ m : Nat, m ≤ L ∧ i = .int .i64 m ∧ t = .int .i64 (T + sumOf (s.at j) m)) (fun _ i => L - (intOf i).toNat)
      case atStart => exact ⟨0, by omega, rfl, by simp [sumOf]⟩
      case round =>
        obtain ⟨m, hmL, rfl, rfl⟩ := hrel
        obtain ⟨d0, d1⟩ := hsj.sum m (by rw [← HL.out]; exact hmL)
        by_cases hlt2 : m < L
        · obtain ⟨b, off, rfl, hcl⟩ := hcell (by omega)
          have c2 := hcl m hlt2
          have hst := sumOf_step (xs := s.at j) (m := m) (by rw [← HL.out]; exact hlt2)
          obtain ⟨d2, d3⟩ := hsj.at (m := m) (by rw [← HL.out]; exact hlt2)
          obtain ⟨x, hx⟩ : ∃ x, x = (s.at j).getD m 0 := ⟨_, rfl⟩
          rw [← hx] at c2 hst d2 d3
          obtain ⟨t, ht⟩ : ∃ t, t = sumOf (s.at j) m := ⟨_, rfl⟩
          rw [← ht] at hst d0 d1 ⊢
          have HT : Hid (sumOf (s.at j) (m + 1) = t + x) := hst
          have m0 : (0 : Int) ≤ (m : Int) := by omega
          have m1 : (m : Int) < (L : Int) := by omega
          clear hst ht hx hcl hcell hsj
          go_wp2
          go_round
          case rel => exact ⟨m + 1, by omega, by go_num, by rw [HT.out, Int.add_assoc]⟩
          case measure => simp [intOf]; omega
        · obtain rfl : m = L := by omega
          clear hcell hsj
          go_wp2
          go_round
          case rel => exact ⟨j + 1, by omega, by go_num, by rw [HS.out], by rw [HN.out]⟩
          case measure => simp [intOf]; omega
    · obtain rfl : j = 4 := by omega
      clear hlt hj
      have k0 : (0 : Int) ≤ (k : Int) := by omega
      have k1 : (k : Int) < 4 := by omega
      have yk : W.cell? ⟨w3.heap.size, k, none⟩ = some (slV (us k)) := (hb4.cell k).trans (cells4_at us hk)
      obtain ⟨o0, o1, o2, _, _, _⟩ := (hb2.le l1).op
      have hrow := refQueueRow1 (slV (us k)) (s.at k) k a W w.heap.size (hown k hk) (hl.trans l1).size (St.all_at hm hk)
      go_wp2_with fail
      refine hrow.mono ?_
      rintro e w4 ⟨q, rfl, hnew, l4⟩
      clear o0 o1 o2 yk hrow
      replace l1 := l1.trans l4
      replace hb4 := hb4.le l4
      replace hown := fun i hi => (hown i hi).le l4
      have yk : w4.cell? ⟨w3.heap.size, k, none⟩ = some (slV (us k)) := (hb4.cell k).trans (cells4_at us hk)
      have yf := hb4.frozen k
      obtain ⟨o0, o1, o2, _, _, _⟩ := (hb2.le l1).op
      go_upto_region 30 with fail
      replace hown := fun i hi => (hown i hi).setBox (i := k) (u := slV q) hb4 (by decide)
      replace hnew := hnew.setBox (i := k) (u := slV q) hb4 (by decide)
      replace hb4 := hb4.set k (slV q)
      rw [cells4_upd us hk] at hb4
      replace l1 : Le _ (w4.setCell ⟨w3.heap.size, k, none⟩ (slV q)) := Below.setCell l1 (by simp only [World.size_alloc]; show w.heap.size + 1 + 1 + 1 ≤ w3.heap.size; omega) _
      clear o0 o1 o2 yk yf
      generalize hW2 : w4.setCell ⟨w3.heap.size, k, none⟩ (slV q) = W2 at hb4 l1 hown hnew ⊢
      replace hown : ∀ i, i < 4 → Own W2 w.heap.size (slV (upd us k q i)) ((s.put k (deqS (s.at k)).1).at i) := by
        intro i hi
        rw [St.at_put hk hi]
        by_cases e : i = k
        · rw [if_pos e, show upd us k q i = q by simp [upd, e]]; exact hnew
        · rw [if_neg e, show upd us k q i = us i by simp [upd, e]]; exact hown i hi
      generalize upd us k q = us at hb4 hown
      clear hW2 hnew
      obtain ⟨y0, y1, y2, y3, _, _, _, _⟩ := hb4.st
      obtain ⟨z0, z1, z2, z3, f0, f1, f2, f3⟩ := (hb3.le l1).st
      go_wp2_with fail
      refine bodyPost_ret (v := .tuple #[stV us, .int .i64 (deqS (s.at k)).2, .int .i64 0]) (by simp [results, Tryz.results91, go_sem, z0, z1, z2, z3]) rfl ⟨_, rfl, ⟨us, rfl, fun i hi => ?_⟩, ?_⟩
      · exact (hown i hi).set4 (hb3.le l1) (by decide) _ _ _ _
      · exact (hl.trans l1).set4 (by omega) _ _ _ _

theorem refQueue (v : Value) (s : St) (c r a er : Int) (w : World) (hx : HasS w v s) (hf : Fit s) :
    Calls Tryz.prog 91 #[.int .i64 2, v, opV c r a, .int .i64 er] w fun e w' => ∃ v', e = .returned (.tuple #[v', .int .i64 (queS s c r a er).2.1, .int .i64 (queS s c r a er).2.2]) ∧ OwnS w' w.heap.size v' (queS s c r a er).1 ∧ Le w w' := by
  cases h : s.all rowMay3 && opMay c r a
  · rw [queS_no h]
    exact (refQueueNo v s c r a er w hx hf h).mono fun e w' ⟨he, hl⟩ => ⟨stZ, he, OwnS.zero _ _, hl⟩
  · obtain ⟨hm, ho⟩ := Bool.and_eq_true_iff.mp h
    rcases opMay_cases ho with ⟨k, hk, rfl, rfl, ha⟩ | ⟨k, hk, rfl, rfl, ha⟩ | ⟨k, hk, rfl, rfl, rfl⟩ | ⟨rfl, rfl, rfl⟩
    · rw [queS_first hm hk ha]; exact refQueueFirst v s k a er w hx hf hm hk ha
    · rw [queS_second hm hk ha]; exact refQueueSecond v s k a er w hx hf hm hk ha
    · rw [queS_look hm hk]; exact refQueueLook v s k er w hx hf hm hk
    · rw [queS_scan hm]; exact refQueueScan v s er w hx hf hm

end Go.Proofs.YtibleipfablniaaGreat

/-
  THE WALKS over the document's own StateMay and Apply, at every object: what they answer, for every state and operation. Condition: the state's rows can be copied.
-/
namespace Go.Proofs.YtibleipfablniaaGreat
open Go.RowKit

set_option maxHeartbeats 400000 in
theorem refStateMayOut (o : Int) (ho : o < 0 ∨ 2 < o) (v : Value) (s : St) (w : World) (hx : HasS w v s) :
    Calls Tryz.prog 68 #[.int .i64 o, v] w fun e w' => e = .returned (.bool false) ∧ Le w w' := by
  obtain ⟨vs, rfl, hr⟩ := hx
  have hl := Le.alloc w (.cells (cells4 vs) 54)
  by_cases h0 : o < 0
  · go_enter Tryz.func68, Tryz.ntmps68
    go_wp2
    refine wp_loop_rounds 1 ?_
    rw [rounds_succ]
    go_wp2
    go_ret
    exact ⟨rfl, hl⟩
  · have h2 : 2 < o := by omega
    go_enter Tryz.func68, Tryz.ntmps68
    go_wp2
    refine wp_loop_rounds 1 ?_
    rw [rounds_succ]
    go_wp2
    go_ret
    exact ⟨rfl, hl⟩

theorem refStateMay (o : Int) (v : Value) (s : St) (w : World) (hx : HasS w v s) (hf : Fit s) :
    Calls Tryz.prog 68 #[.int .i64 o, v] w fun e w' => e = .returned (.bool (objMay o s)) ∧ Le w w' := by
  rcases obj_cases (o := o) with rfl | rfl | rfl | ho
  · exact refStateMay0 v s w hx hf
  · exact refStateMay1 v s w hx
  · exact refStateMay2 v s w hx hf
  · rw [objMay_out ho]; exact refStateMayOut o ho v s w hx

set_option maxHeartbeats 2000000 in
theorem refApplyOut (o : Int) (ho : o < 0 ∨ 2 < o) (v : Value) (s : St) (c r a er : Int) (w : World) (hx : HasS w v s) :
    Calls Tryz.prog 91 #[.int .i64 o, v, opV c r a, .int .i64 er] w fun e w' => e = .returned (.tuple #[stZ, .int .i64 0, .int .i64 er]) ∧ Le w w' := by
  have hx0 := hx
  obtain ⟨vs, rfl, hr⟩ := hx
  have hl := ((Le.alloc w (.cells (cells4 vs) 54)).trans (Le.alloc _ (.cells #[.int .i64 c, .int .i64 r, .int .i64 a] 48))).trans (Le.alloc _ (.cells (cells4 fun _ => slZ) 54))
  have hb3 := Box.new ((w.alloc (.cells (cells4 vs) 54)).alloc (.cells #[.int .i64 c, .int .i64 r, .int .i64 a] 48)) (cells4 fun _ => slZ) 54
  simp only [World.size_alloc] at hb3
  have hmay := refStateMayOut o ho (stV vs) s _ (hx0.le hl)
  clear ho
  go_enter Tryz.func91, Tryz.ntmps91
  go_wp2_with fail
  refine hmay.mono ?_
  rintro e w1 ⟨rfl, l1⟩
  obtain ⟨z0, z1, z2, z3, f0, f1, f2, f3⟩ := (hb3.le l1).st
  go_wp2_with fail
  refine bodyPost_ret (v := .tuple #[stZ, .int .i64 0, .int .i64 er]) (by simp [results, Tryz.results91, go_sem, z0, z1, z2, z3]) rfl ⟨rfl, ?_⟩
  exact (hl.trans l1).set4 (by omega) _ _ _ _

theorem refObj (o : Int) (v : Value) (s : St) (c r a er : Int) (w : World) (hx : HasS w v s) (hf : Fit s) :
    Calls Tryz.prog 91 #[.int .i64 o, v, opV c r a, .int .i64 er] w fun e w' => ∃ v', e = .returned (.tuple #[v', .int .i64 (objS o s c r a er).2.1, .int .i64 (objS o s c r a er).2.2]) ∧ OwnS w' w.heap.size v' (objS o s c r a er).1 ∧ Le w w' := by
  rcases obj_cases (o := o) with rfl | rfl | rfl | ho
  · exact refStore v s c r a er w hx hf
  · exact refFds v s c r a er w hx hf
  · exact refQueue v s c r a er w hx hf
  · rw [objS_out ho]
    exact (refApplyOut o ho v s c r a er w hx).mono fun e w' ⟨he, hl⟩ => ⟨stZ, he, OwnS.zero _ _, hl⟩

end Go.Proofs.YtibleipfablniaaGreat
