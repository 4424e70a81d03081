/-
  PARTS LAID TOGETHER, each with its own opening: LoC, LoD, NwAwake, MpA, MpB, LmD, MpC, MpD, MoD, LkA, SpS.
-/
import Derived.Test.YtkddgpdlpjjpbaaGreatCom4
import Derived.Test.YtkddgpdlpjjpbaaGreatCom2
import Derived.Test.YtkddgpdlpjjpbaaGreatCom3
import Derived.Test.YtkddgpdlpjjpbaaGreatCom1
import Derived.Deep.RegionHeld3
import Derived.Deep.Cut
import Derived.BigRegion
/-
  THE WALKS over package start's looker (mayReplica, mayThread) and May: what each answers, for every machine. Condition: that its rows can be copied.
-/
namespace Go.Proofs.YtkddgpdlpjjpbaaGreat
open Go.RowKit

set_option maxHeartbeats 4000000 in
theorem lookMayReplica (c : Cfg) (q : Sl) (v : Value) (Rs : List Rg) (P : Rp) (w : World) (hR : HasRs w (slV q) Rs) (hm : Rs.length * 48 ≤ 140737488351232) (hn : (Rs.length : Int) = c.l) (hx : HasP w v P) (hf : Fit P.s) (hf2 : P.ls.length * 8 ≤ 140737488351232) :
    Calls Tryz.prog 83 #[lookV c q, v] w fun e w' => e = .returned (.bool (repB c Rs P)) ∧ Le w w' := by
  obtain ⟨vs, qc, ql, rfl, i0, i1, i2⟩ := hx
  have hb := Box.new (w.alloc (.cells (cellsK c q) 117)) (cellsP vs qc ql) 73
  have hk := (Box.new w (cellsK c q) 117).le (Le.alloc _ (.cells (cellsP vs qc ql) 73))
  rw [World.size_alloc] at hb
  have hl := (Le.alloc w (.cells (cellsK c q) 117)).trans (Le.alloc _ (.cells (cellsP vs qc ql) 73))
  have m1 := objMayC c.o (stV vs) P.s _ (HasS.le ⟨vs, rfl, i0⟩ hl) hf
  have hlen := i1.len
  have m2 := fun w' (l : Le w w') (hh : P.cs.length = Rs.length) => lookMayCursors c q (slV qc) Rs P.cs w' (hR.le l) (i1.le l) hh hm
  have m3 := fun w' (l : Le w w') => exactlyNum 102 (lookV c q) (fun x => inB 0 x c.t) (fun _ _ => by kernel_rfl) (slV ql) P.ls c.l w' (fun w'' _ v x _ _ h => by rw [show v = .int .i64 x from h]; exact lookMayHolder c q x w'') (i2.le l) (by omega)
  simp only [repB]
  obtain ⟨ua, n, ucap⟩ := qc
  simp only at hlen
  have HN : Hid (n = P.cs.length) := hlen
  rw [← hlen]
  clear hlen hf hf2 i0 i1 i2
  cases h1 : objMay c.o P.s
  · rw [h1] at m1
    go_enter Tryz.func83, Tryz.ntmps83
    go_wp2_with fail
    refine m1.mono ?_
    rintro e w1 ⟨rfl, l1⟩
    go_wp2_with fail
    go_ret
    exact ⟨rfl, hl.trans l1⟩
  rw [h1] at m1
  by_cases h2 : (n : Int) = c.l
  case neg =>
    have h2b : ((n : Int) == c.l) = false := by simp [h2]
    rw [decide_eq_false h2]
    clear h2
    go_enter Tryz.func83, Tryz.ntmps83
    go_wp2_with fail
    refine m1.mono ?_
    rintro e w1 ⟨rfl, l1⟩
    obtain ⟨b0, b1, b2, b3, b4, b5⟩ := (hb.le l1).rep
    obtain ⟨k0, k1, k2, k3, k4, k5⟩ := (hk.le l1).look
    simp only [slV] at b4
    go_wp2_with fail
    go_ret
    exact ⟨rfl, hl.trans l1⟩
  have h2b : ((n : Int) == c.l) = true := by simp [h2]
  replace m2 := fun w' (l : Le w w') => m2 w' l (by have := HN.out; omega)
  rw [decide_eq_true h2]
  clear h2 hn
  cases h3 : cursOK Rs P.cs
  · simp only [h3] at m2
    go_enter Tryz.func83, Tryz.ntmps83
    go_wp2_with fail
    refine m1.mono ?_
    rintro e w1 ⟨rfl, l1⟩
    obtain ⟨b0, b1, b2, b3, b4, b5⟩ := (hb.le l1).rep
    obtain ⟨k0, k1, k2, k3, k4, k5⟩ := (hk.le l1).look
    simp only [slV] at b4
    go_wp2_with fail
    refine (m2 _ (hl.trans l1)).mono ?_
    rintro e w2 ⟨rfl, l2⟩
    go_wp2_with fail
    go_ret
    exact ⟨rfl, (hl.trans l1).trans l2⟩
  · simp only [h3] at m2
    go_enter Tryz.func83, Tryz.ntmps83
    go_wp2_with fail
    refine m1.mono ?_
    rintro e w1 ⟨rfl, l1⟩
    obtain ⟨b0, b1, b2, b3, b4, b5⟩ := (hb.le l1).rep
    obtain ⟨k0, k1, k2, k3, k4, k5⟩ := (hk.le l1).look
    simp only [slV] at b4
    go_wp2_with fail
    refine (m2 _ (hl.trans l1)).mono ?_
    rintro e w2 ⟨rfl, l2⟩
    obtain ⟨_, _, _, _, _, b5'⟩ := ((hb.le l1).le l2).rep
    obtain ⟨k0', k1', k2', k3', k4', k5'⟩ := ((hk.le l1).le l2).look
    go_wp2_with fail
    refine (m3 _ ((hl.trans l1).trans l2)).mono ?_
    rintro e w3 ⟨rfl, l3⟩
    go_wp2_with fail
    go_ret
    exact ⟨rfl, ((hl.trans l1).trans l2).trans l3⟩

set_option maxRecDepth 4000 in
set_option maxHeartbeats 8000000 in
theorem lookMayThread (c : Cfg) (q : Sl) (v : Value) (T : Th) (w : World) (hc : c.ok = true) (hx : HasT w v T) (hf : T.b.length * 8 ≤ 140737488351232) (hf2 : T.tl.length * 8 ≤ 140737488351232) :
    Calls Tryz.prog 85 #[lookV c q, v] w fun e w' => e = .returned (.bool (thB c T)) ∧ Le w w' := by
  obtain ⟨⟨ba, bn, bc⟩, t, rfl, i1, i2⟩ := hx
  obtain ⟨_, _, ⟨l0, l1'⟩, ⟨t0, t1⟩, _, _⟩ := Cfg.ok_cases hc
  have hb := Box.new (w.alloc (.cells (cellsK c q) 117)) (cellsT T (ba, bn, bc) t) 63
  have hk := (Box.new w (cellsK c q) 117).le (Le.alloc _ (.cells (cellsT T (ba, bn, bc) t) 63))
  rw [World.size_alloc] at hb
  have hl := (Le.alloc w (.cells (cellsK c q) 117)).trans (Le.alloc _ (.cells (cellsT T (ba, bn, bc) t) 63))
  have hlen := i1.len
  simp only at hlen
  have m1 := fun w' => startWithin T.st 0 19 w'
  have m2 := fun w' => operMay T.c T.r T.a w'
  have m3 := fun w' => startWithin T.lg 0 (c.l - 1) w'
  have m4 := fun w' => startMayPlace T.sn w'
  have m5 := fun w' (l : Le w w') => atMostNum 113 (lookV c q) (fun x => inB 0 x (c.t - 1)) (fun _ _ => by kernel_rfl) (slV (ba, bn, bc)) T.b c.t w' (fun w'' _ v x _ _ h => by rw [show v = .int .i64 x from h]; exact lookIsThread c q x w'' hc) (i1.le l) (by omega)
  have m6 := fun w' => startWithin T.pl 0 bn w'
  have m7 := fun w' (l : Le w w') => atMostNum0 111 (fun x => inB 0 x 1048576) (fun _ _ => by kernel_rfl) (slV t) T.tl c.l w' (fun w'' _ v x _ _ h => by rw [show v = .int .i64 x from h]; exact (startMayPlace x w'').mono (fun _ _ ⟨he, hw⟩ => ⟨he, by rw [hw]; exact Le.refl _⟩)) (i2.le l) (by omega)
  simp only [thB]
  rw [← hlen] at m5 ⊢
  clear hlen hf hf2 i1 i2 hc
  cases h1 : inB 0 T.st 19
  · simp only [h1] at m1
    go_enter Tryz.func85, Tryz.ntmps85
    go_wp2_with fail
    refine (m1 _).mono ?_
    rintro e _ ⟨rfl, rfl⟩
    go_wp2_with fail
    go_ret
    exact ⟨rfl, hl⟩
  simp only [h1] at m1
  cases h2 : opMay T.c T.r T.a
  · simp only [h2] at m2
    go_enter Tryz.func85, Tryz.ntmps85
    go_wp2_with fail
    refine (m1 _).mono ?_
    rintro e _ ⟨rfl, rfl⟩
    go_wp2_with fail
    refine (m2 _).mono ?_
    rintro e w1 ⟨rfl, n1⟩
    go_wp2_with fail
    go_ret
    exact ⟨rfl, hl.trans n1⟩
  simp only [h2] at m2
  cases h3 : inB 0 T.lg (c.l - 1)
  · simp only [h3] at m3
    go_enter Tryz.func85, Tryz.ntmps85
    go_wp2_with fail
    refine (m1 _).mono ?_
    rintro e _ ⟨rfl, rfl⟩
    go_wp2_with fail
    refine (m2 _).mono ?_
    rintro e w1 ⟨rfl, n1⟩
    obtain ⟨b10, b11, b12, b13, b14, b15, b16, b17, b18, b19, b110, b111⟩ := (hb.le n1).th
    obtain ⟨k10, k11, k12, k13, k14, k15⟩ := (hk.le n1).look
    simp only [slV] at b16
    go_wp2_with fail
    refine (m3 _).mono ?_
    rintro e _ ⟨rfl, rfl⟩
    go_wp2_with fail
    go_ret
    exact ⟨rfl, hl.trans n1⟩
  simp only [h3] at m3
  cases h4 : inB 0 T.sn 1048576
  · simp only [h4] at m4
    go_enter Tryz.func85, Tryz.ntmps85
    go_wp2_with fail
    refine (m1 _).mono ?_
    rintro e _ ⟨rfl, rfl⟩
    go_wp2_with fail
    refine (m2 _).mono ?_
    rintro e w1 ⟨rfl, n1⟩
    obtain ⟨b10, b11, b12, b13, b14, b15, b16, b17, b18, b19, b110, b111⟩ := (hb.le n1).th
    obtain ⟨k10, k11, k12, k13, k14, k15⟩ := (hk.le n1).look
    simp only [slV] at b16
    go_wp2_with fail
    refine (m3 _).mono ?_
    rintro e _ ⟨rfl, rfl⟩
    go_wp2_with fail
    refine (m4 _).mono ?_
    rintro e _ ⟨rfl, rfl⟩
    go_wp2_with fail
    go_ret
    exact ⟨rfl, hl.trans n1⟩
  simp only [h4] at m4
  cases h5 : (decide ((bn : Int) ≤ c.t) && T.b.all (fun x => inB 0 x (c.t - 1)))
  · simp only [h5] at m5
    go_enter Tryz.func85, Tryz.ntmps85
    go_wp2_with fail
    refine (m1 _).mono ?_
    rintro e _ ⟨rfl, rfl⟩
    go_wp2_with fail
    refine (m2 _).mono ?_
    rintro e w1 ⟨rfl, n1⟩
    obtain ⟨b10, b11, b12, b13, b14, b15, b16, b17, b18, b19, b110, b111⟩ := (hb.le n1).th
    obtain ⟨k10, k11, k12, k13, k14, k15⟩ := (hk.le n1).look
    simp only [slV] at b16
    go_wp2_with fail
    refine (m3 _).mono ?_
    rintro e _ ⟨rfl, rfl⟩
    go_wp2_with fail
    refine (m4 _).mono ?_
    rintro e _ ⟨rfl, rfl⟩
    go_wp2_with fail
    refine (m5 _ (hl.trans n1)).mono ?_
    rintro e w2 ⟨rfl, n2⟩
    go_wp2_with fail
    go_ret
    exact ⟨rfl, (hl.trans n1).trans n2⟩
  simp only [h5] at m5
  cases h6 : inB 0 T.pl bn
  · simp only [h6] at m6
    go_enter Tryz.func85, Tryz.ntmps85
    go_wp2_with fail
    refine (m1 _).mono ?_
    rintro e _ ⟨rfl, rfl⟩
    go_wp2_with fail
    refine (m2 _).mono ?_
    rintro e w1 ⟨rfl, n1⟩
    obtain ⟨b10, b11, b12, b13, b14, b15, b16, b17, b18, b19, b110, b111⟩ := (hb.le n1).th
    obtain ⟨k10, k11, k12, k13, k14, k15⟩ := (hk.le n1).look
    simp only [slV] at b16
    go_wp2_with fail
    refine (m3 _).mono ?_
    rintro e _ ⟨rfl, rfl⟩
    go_wp2_with fail
    refine (m4 _).mono ?_
    rintro e _ ⟨rfl, rfl⟩
    go_wp2_with fail
    refine (m5 _ (hl.trans n1)).mono ?_
    rintro e w2 ⟨rfl, n2⟩
    obtain ⟨b20, b21, b22, b23, b24, b25, b26, b27, b28, b29, b210, b211⟩ := ((hb.le n1).le n2).th
    obtain ⟨k20, k21, k22, k23, k24, k25⟩ := ((hk.le n1).le n2).look
    simp only [slV] at b26
    go_wp2_with fail
    refine (m6 _).mono ?_
    rintro e _ ⟨rfl, rfl⟩
    go_wp2_with fail
    go_ret
    exact ⟨rfl, (hl.trans n1).trans n2⟩
  simp only [h6] at m6
  go_enter Tryz.func85, Tryz.ntmps85
  go_wp2_with fail
  refine (m1 _).mono ?_
  rintro e _ ⟨rfl, rfl⟩
  go_wp2_with fail
  refine (m2 _).mono ?_
  rintro e w1 ⟨rfl, n1⟩
  obtain ⟨b10, b11, b12, b13, b14, b15, b16, b17, b18, b19, b110, b111⟩ := (hb.le n1).th
  obtain ⟨k10, k11, k12, k13, k14, k15⟩ := (hk.le n1).look
  simp only [slV] at b16
  go_wp2_with fail
  refine (m3 _).mono ?_
  rintro e _ ⟨rfl, rfl⟩
  go_wp2_with fail
  refine (m4 _).mono ?_
  rintro e _ ⟨rfl, rfl⟩
  go_wp2_with fail
  refine (m5 _ (hl.trans n1)).mono ?_
  rintro e w2 ⟨rfl, n2⟩
  obtain ⟨b20, b21, b22, b23, b24, b25, b26, b27, b28, b29, b210, b211⟩ := ((hb.le n1).le n2).th
  obtain ⟨k20, k21, k22, k23, k24, k25⟩ := ((hk.le n1).le n2).look
  simp only [slV] at b26
  go_wp2_with fail
  refine (m6 _).mono ?_
  rintro e _ ⟨rfl, rfl⟩
  go_wp2_with fail
  refine (m7 _ ((hl.trans n1).trans n2)).mono ?_
  rintro e w3 ⟨rfl, n3⟩
  go_wp2_with fail
  go_ret
  exact ⟨rfl, ((hl.trans n1).trans n2).trans n3⟩

end Go.Proofs.YtkddgpdlpjjpbaaGreat

/-
  THE WALK over package start's May: what it answers, for every machine. Condition: that its rows can be copied.
-/
namespace Go.Proofs.YtkddgpdlpjjpbaaGreat
open Go.RowKit

set_option maxRecDepth 4000 in
set_option maxHeartbeats 8000000 in
theorem startMay (v : Value) (M : Mc) (w : World) (hx : HasM w v M) (hf : FitM M) : Calls Tryz.prog 59 #[v] w fun e w' => e = .returned (.bool (mayM M)) ∧ Le w w' := by
  obtain ⟨c, Rs, Ps, Ts, Es⟩ := M
  obtain ⟨qR, qP, qT, qH, rfl, hR, hP, hT, hH⟩ := hx
  obtain ⟨f1, f2, f3, f4, fr, fp, ft⟩ := hf
  simp only at hR hP hT hH f1 f2 f3 f4 fr fp ft
  have hb := (Box.new w (cells9 c qR qP qT qH) 29).le (Le.alloc _ (.cells (cellsK c qR) 117))
  have hk := Box.new (w.alloc (.cells (cells9 c qR qP qT qH) 29)) (cellsK c qR) 117
  rw [World.size_alloc] at hk
  have hl := (Le.alloc w (.cells (cells9 c qR qP qT qH) 29)).trans (Le.alloc _ (.cells (cellsK c qR) 117))
  have m1 := fun w' => cfgMay c.o c.r c.l c.t c.s w'
  simp only [mayM, Cfg.ok]
  cases h1 : cfgB c.o c.r c.l c.t c.s
  · simp only [h1] at m1
    go_enter Tryz.func59, Tryz.ntmps59
    go_wp2_with fail
    refine (m1 _).mono ?_
    rintro e w1 ⟨rfl, n1⟩
    go_wp2_with fail
    go_ret
    exact ⟨rfl, hl.trans n1⟩
  have hc : c.ok = true := h1
  simp only [h1] at m1
  have m2 := fun w' (l : Le w w') => exactlyRing 81 (lookV c qR) (ringB c) (fun _ _ => by kernel_rfl) (slV qR) Rs c.l w' (fun w'' _ u R hm _ h => lookMayRing c qR u R w'' hc h (fr R hm)) (hR.le l) (by omega)
  cases h2 : (decide ((Rs.length : Int) = c.l) && Rs.all (ringB c))
  · simp only [h2] at m2
    go_enter Tryz.func59, Tryz.ntmps59
    go_wp2_with fail
    refine (m1 _).mono ?_
    rintro e w1 ⟨rfl, n1⟩
    obtain ⟨_, b5, b6, b7, b8⟩ := (hb.le n1).mach
    obtain ⟨k0, k1, k2, k3, k4, k5⟩ := (hk.le n1).look
    go_wp2_with fail
    refine (m2 _ (hl.trans n1)).mono ?_
    rintro e w2 ⟨rfl, n2⟩
    go_wp2_with fail
    go_ret
    exact ⟨rfl, (hl.trans n1).trans n2⟩
  simp only [h2] at m2
  have hn : (Rs.length : Int) = c.l := by simp at h2; exact h2.1
  have m3 := fun w' (l : Le w w') => exactlyRep 83 (lookV c qR) (repB c Rs) (fun _ _ => by kernel_rfl) (slV qP) Ps c.r w' (fun w'' l' u P hm _ h => lookMayReplica c qR u Rs P w'' (hR.le (l.trans l')) f1 hn h (fp P hm).1 (fp P hm).2.2) (hP.le l) (by omega)
  clear hn
  cases h3 : (decide ((Ps.length : Int) = c.r) && Ps.all (repB c Rs))
  · simp only [h3] at m3
    go_enter Tryz.func59, Tryz.ntmps59
    go_wp2_with fail
    refine (m1 _).mono ?_
    rintro e w1 ⟨rfl, n1⟩
    obtain ⟨_, b5, b6, b7, b8⟩ := (hb.le n1).mach
    obtain ⟨k0, k1, k2, k3, k4, k5⟩ := (hk.le n1).look
    go_wp2_with fail
    refine (m2 _ (hl.trans n1)).mono ?_
    rintro e w2 ⟨rfl, n2⟩
    obtain ⟨_, b5', b6', b7', b8'⟩ := ((hb.le n1).le n2).mach
    obtain ⟨k0', k1', k2', k3', k4', k5'⟩ := ((hk.le n1).le n2).look
    go_wp2_with fail
    refine (m3 _ ((hl.trans n1).trans n2)).mono ?_
    rintro e w3 ⟨rfl, n3⟩
    go_wp2_with fail
    go_ret
    exact ⟨rfl, ((hl.trans n1).trans n2).trans n3⟩
  simp only [h3] at m3
  have m4 := fun w' (l : Le w w') => exactlyTh 85 (lookV c qR) (thB c) (fun _ _ => by kernel_rfl) (slV qT) Ts c.t w' (fun w'' _ u T hm _ h => lookMayThread c qR u T w'' hc h (ft T hm).1 (ft T hm).2) (hT.le l) (by omega)
  cases h4 : (decide ((Ts.length : Int) = c.t) && Ts.all (thB c))
  · simp only [h4] at m4
    go_enter Tryz.func59, Tryz.ntmps59
    go_wp2_with fail
    refine (m1 _).mono ?_
    rintro e w1 ⟨rfl, n1⟩
    obtain ⟨_, b5, b6, b7, b8⟩ := (hb.le n1).mach
    obtain ⟨k0, k1, k2, k3, k4, k5⟩ := (hk.le n1).look
    go_wp2_with fail
    refine (m2 _ (hl.trans n1)).mono ?_
    rintro e w2 ⟨rfl, n2⟩
    obtain ⟨_, b5', b6', b7', b8'⟩ := ((hb.le n1).le n2).mach
    obtain ⟨k0', k1', k2', k3', k4', k5'⟩ := ((hk.le n1).le n2).look
    go_wp2_with fail
    refine (m3 _ ((hl.trans n1).trans n2)).mono ?_
    rintro e w3 ⟨rfl, n3⟩
    obtain ⟨_, _, b6'', b7'', b8''⟩ := (((hb.le n1).le n2).le n3).mach
    obtain ⟨k0'', k1'', k2'', k3'', k4'', k5''⟩ := (((hk.le n1).le n2).le n3).look
    go_wp2_with fail
    refine (m4 _ (((hl.trans n1).trans n2).trans n3)).mono ?_
    rintro e w4 ⟨rfl, n4⟩
    go_wp2_with fail
    go_ret
    exact ⟨rfl, (((hl.trans n1).trans n2).trans n3).trans n4⟩
  simp only [h4] at m4
  have m5 := fun w' (l : Le w w') => atMostEv 87 (lookV c qR) (evB c) (fun _ _ => by kernel_rfl) (slV qH) Es 64 w' (fun w'' _ u E hm _ h => by rw [show u = evV E from h]; exact lookMayEvent c qR E w'' hc) (hH.le l) (by omega)
  go_enter Tryz.func59, Tryz.ntmps59
  go_wp2_with fail
  refine (m1 _).mono ?_
  rintro e w1 ⟨rfl, n1⟩
  obtain ⟨_, b5, b6, b7, b8⟩ := (hb.le n1).mach
  obtain ⟨k0, k1, k2, k3, k4, k5⟩ := (hk.le n1).look
  go_wp2_with fail
  refine (m2 _ (hl.trans n1)).mono ?_
  rintro e w2 ⟨rfl, n2⟩
  obtain ⟨_, b5', b6', b7', b8'⟩ := ((hb.le n1).le n2).mach
  obtain ⟨k0', k1', k2', k3', k4', k5'⟩ := ((hk.le n1).le n2).look
  go_wp2_with fail
  refine (m3 _ ((hl.trans n1).trans n2)).mono ?_
  rintro e w3 ⟨rfl, n3⟩
  obtain ⟨_, _, b6'', b7'', b8''⟩ := (((hb.le n1).le n2).le n3).mach
  obtain ⟨k0'', k1'', k2'', k3'', k4'', k5''⟩ := (((hk.le n1).le n2).le n3).look
  go_wp2_with fail
  refine (m4 _ (((hl.trans n1).trans n2).trans n3)).mono ?_
  rintro e w4 ⟨rfl, n4⟩
  have b9 := ((((hb.le n1).le n2).le n3).le n4).mach.2.2.2.2
  obtain ⟨j0, j1, j2, j3, j4, j5⟩ := ((((hk.le n1).le n2).le n3).le n4).look
  go_wp2_with fail
  refine (m5 _ ((((hl.trans n1).trans n2).trans n3).trans n4)).mono ?_
  rintro e w5 ⟨rfl, n5⟩
  go_wp2_with fail
  go_ret
  exact ⟨rfl, ((((hl.trans n1).trans n2).trans n3).trans n4).trans n5⟩

end Go.Proofs.YtkddgpdlpjjpbaaGreat

/-
  THE WALK over choruslaw14.awake: it answers true and turns nothing that was there. No condition. Beside it the contracts of package start's New and choruslaw0's CopyMachine with their answers written out.
-/
namespace Go.Proofs.YtkddgpdlpjjpbaaGreat
open Go.RowKit

theorem OwnM.open {w : World} {base : Nat} {v : Value} {M : Mc} (h : OwnM w base v M) : ∃ qR qP qT qH, v = machV M.c qR qP qT qH := by
  obtain ⟨L, rfl, rfl, _⟩ := h; exact ⟨_, _, _, _, rfl⟩
theorem copyMachineAs (v : Value) (M : Mc) (w : World) (hx : HasM w v M) (hf : FitM M) : Calls Tryz.prog 9 #[v] w fun e w' => ∃ qR qP qT qH, e = .returned (machV M.c qR qP qT qH) ∧ OwnM w' w.heap.size (machV M.c qR qP qT qH) M ∧ Le w w' := by
  refine (lawCopyMachine v M w hx hf).mono ?_
  rintro e w' ⟨L, rfl, rfl, o, _, l⟩
  exact ⟨_, _, _, _, rfl, ⟨L, rfl, rfl, o⟩, l⟩

theorem fitM_small {M : Mc} (h1 : M.rs.length ≤ 100) (h2 : M.ps.length ≤ 100) (h3 : M.ts.length ≤ 100) (h4 : M.es.length ≤ 100) (hr : ∀ R ∈ M.rs, R.ss.length ≤ 100) (hp : ∀ P ∈ M.ps, Fit P.s ∧ P.cs.length ≤ 100 ∧ P.ls.length ≤ 100) (ht : ∀ T ∈ M.ts, T.b.length ≤ 100 ∧ T.tl.length ≤ 100) : FitM M :=
  ⟨by omega, by omega, by omega, by omega, fun R h => by have := hr R h; unfold FitR; omega, fun P h => ⟨(hp P h).1, by have := (hp P h).2; omega, by have := (hp P h).2; omega⟩, fun T h => ⟨by have := ht T h; omega, by have := ht T h; omega⟩⟩
theorem fitM_fresh {c : Cfg} (h : c.ok = true) : FitM (freshM c) := by
  obtain ⟨_, ⟨r0, r1⟩, ⟨l0, l1⟩, ⟨t0, t1⟩, hs, _⟩ := Cfg.ok_cases h
  have hs' := slotsB_cases hs
  refine fitM_small (by simp [freshM]; omega) (by simp [freshM]; omega) (by simp [freshM]; omega) (by simp [freshM]) (fun R hR => ?_) (fun P hP => ?_) (fun T hT => ?_)
  · obtain rfl := List.eq_of_mem_replicate hR
    simp only [newS, hs, if_true, List.length_replicate]
    omega
  · obtain rfl := List.eq_of_mem_replicate hP
    refine ⟨fit_zero, ?_, ?_⟩ <;> simp <;> omega
  · obtain rfl := List.eq_of_mem_replicate hT
    exact ⟨by decide, by decide⟩
theorem fitM_new (c : Cfg) : FitM (newM c).1 := by
  unfold newM
  split
  · next h => exact fitM_fresh h
  · exact fitM_zero

theorem HasM.reC {w : World} {M : Mc} {c c' : Cfg} {a b d e : Sl} (h : HasM w (machV c a b d e) M) : HasM w (machV c' a b d e) { M with c := c' } := by
  obtain ⟨qR, qP, qT, qH, hv, h1, h2, h3, h4⟩ := h
  simp only [machV, cells9, Value.agg.injEq, Array.mk.injEq, List.cons.injEq] at hv
  obtain ⟨_, _, _, _, _, e5, e6, e7, e8, _⟩ := hv
  exact ⟨a, b, d, e, rfl, by rw [e5]; exact h1, by rw [e6]; exact h2, by rw [e7]; exact h3, by rw [e8]; exact h4⟩
theorem HasM.lens {w : World} {M : Mc} {c : Cfg} {a b d e : Sl} (h : HasM w (machV c a b d e) M) : a.2.1 = M.rs.length ∧ b.2.1 = M.ps.length ∧ d.2.1 = M.ts.length ∧ e.2.1 = M.es.length := by
  obtain ⟨qR, qP, qT, qH, hv, h1, h2, h3, h4⟩ := h
  simp only [machV, cells9, Value.agg.injEq, Array.mk.injEq, List.cons.injEq] at hv
  obtain ⟨_, _, _, _, _, e5, e6, e7, e8, _⟩ := hv
  refine ⟨HasRs.len (w := w) (by rw [e5]; exact h1), HasPs.len (w := w) (by rw [e6]; exact h2), HasTs.len (w := w) (by rw [e7]; exact h3), HasE.len (K := evK) (w := w) (by rw [e8]; exact h4)⟩

def awakeC : Cfg := ⟨0, 2, 2, 3, 8⟩
theorem awake_new : newM awakeC = (freshM awakeC, 0) := by decide +kernel
theorem awake_zero : newM Cfg.zero = (Mc.zero, 1400) := by decide +kernel
theorem awake_may : mayM (freshM awakeC) = true := by decide +kernel
theorem awake_not : mayM { freshM awakeC with c := ⟨0, 2, 2, 3, 16⟩ } = false := by decide +kernel

end Go.Proofs.YtkddgpdlpjjpbaaGreat

/-
  THE WALKS over package lists' Copy at logs, replicas, threads and events, and package machines' copyRing, copyReplica, copyThread: what each answers, in rows of the call's own. Condition: that the rows can be copied.
-/
namespace Go.Proofs.YtkddgpdlpjjpbaaGreat
open Go.RowKit

theorem listsCopyR (v : Value) (xs : List LR) (w : World) (hx : HasE ringK w v xs) (hf : xs.length * 48 ≤ 140737488351232) :
    Calls Tryz.prog 88 #[v] w fun e w' => ∃ q : Sl, e = .returned (slV q) ∧ OwnE ringK w' w.heap.size (slV q) xs ∧ Le w w' := by
  have hrow : ∀ g, (Value.slice none 0 0).ownBlock = some g → w.heap.size ≤ g := by intro g hg; cases hg
  go_enter Tryz.func88, Tryz.ntmps88
  go_wp2_with (at_builtin; refine wp_append_E ringIn rfl _ _ rfl w.heap.size _ _ [] xs rfl rfl (OwnE.nil _ _ _) hx (by show (([] : List LR).length + xs.length) * 48 ≤ _; simp; omega) (by simp; omega) (by simp) ?_; intro v' w2 hown hgrow _; rw [List.nil_append] at hown; have l2 : Le w w2 := Below.grown (Le.refl w) hgrow (by simp) hrow; obtain ⟨q, rfl⟩ := hown.has.sl)
  go_ret
  exact ⟨q, rfl, hown, l2⟩

theorem listsCopyP (v : Value) (xs : List LP) (w : World) (hx : HasE repK w v xs) (hf : xs.length * 144 ≤ 140737488351232) :
    Calls Tryz.prog 90 #[v] w fun e w' => ∃ q : Sl, e = .returned (slV q) ∧ OwnE repK w' w.heap.size (slV q) xs ∧ Le w w' := by
  have hrow : ∀ g, (Value.slice none 0 0).ownBlock = some g → w.heap.size ≤ g := by intro g hg; cases hg
  go_enter Tryz.func90, Tryz.ntmps90
  go_wp2_with (at_builtin; refine wp_append_E repIn rfl _ _ rfl w.heap.size _ _ [] xs rfl rfl (OwnE.nil _ _ _) hx (by show (([] : List LP).length + xs.length) * 144 ≤ _; simp; omega) (by simp; omega) (by simp) ?_; intro v' w2 hown hgrow _; rw [List.nil_append] at hown; have l2 : Le w w2 := Below.grown (Le.refl w) hgrow (by simp) hrow; obtain ⟨q, rfl⟩ := hown.has.sl)
  go_ret
  exact ⟨q, rfl, hown, l2⟩

theorem listsCopyT (v : Value) (xs : List LT) (w : World) (hx : HasE thK w v xs) (hf : xs.length * 120 ≤ 140737488351232) :
    Calls Tryz.prog 93 #[v] w fun e w' => ∃ q : Sl, e = .returned (slV q) ∧ OwnE thK w' w.heap.size (slV q) xs ∧ Le w w' := by
  have hrow : ∀ g, (Value.slice none 0 0).ownBlock = some g → w.heap.size ≤ g := by intro g hg; cases hg
  go_enter Tryz.func93, Tryz.ntmps93
  go_wp2_with (at_builtin; refine wp_append_E thIn rfl _ _ rfl w.heap.size _ _ [] xs rfl rfl (OwnE.nil _ _ _) hx (by show (([] : List LT).length + xs.length) * 120 ≤ _; simp; omega) (by simp; omega) (by simp) ?_; intro v' w2 hown hgrow _; rw [List.nil_append] at hown; have l2 : Le w w2 := Below.grown (Le.refl w) hgrow (by simp) hrow; obtain ⟨q, rfl⟩ := hown.has.sl)
  go_ret
  exact ⟨q, rfl, hown, l2⟩

theorem listsCopyE (v : Value) (xs : List Ev) (w : World) (hx : HasE evK w v xs) (hf : xs.length * 48 ≤ 140737488351232) :
    Calls Tryz.prog 68 #[v] w fun e w' => ∃ q : Sl, e = .returned (slV q) ∧ OwnE evK w' w.heap.size (slV q) xs ∧ Le w w' := by
  have hrow : ∀ g, (Value.slice none 0 0).ownBlock = some g → w.heap.size ≤ g := by intro g hg; cases hg
  go_enter Tryz.func68, Tryz.ntmps68
  go_wp2_with (at_builtin; refine wp_append_E evIn rfl _ _ rfl w.heap.size _ _ [] xs rfl rfl (OwnE.nil _ _ _) hx (by show (([] : List Ev).length + xs.length) * 48 ≤ _; simp; omega) (by simp; omega) (by simp) ?_; intro v' w2 hown hgrow _; rw [List.nil_append] at hown; have l2 : Le w w2 := Below.grown (Le.refl w) hgrow (by simp) hrow; obtain ⟨q, rfl⟩ := hown.has.sl)
  go_ret
  exact ⟨q, rfl, hown, l2⟩

theorem machCopyRing (h t f : Int) (q : Sl) (ss : List Slt) (w : World) (hx : HasL w (slV q) ss) (hf : ss.length * 40 ≤ 140737488351232) :
    Calls Tryz.prog 63 #[ringV h t f q] w fun e w' => ∃ u : Sl, e = .returned (ringV h t f u) ∧ OwnL w' w.heap.size (slV u) ss ∧ Le w w' := by
  have hb := (Box.new w (cellsR h t f q) 67).le (Le.alloc _ (.cells (cellsR 0 0 0 slZ) 67))
  have hb2 := Box.new (w.alloc (.cells (cellsR h t f q) 67)) (cellsR 0 0 0 slZ) 67
  rw [World.size_alloc] at hb2
  have hl := (Le.alloc w (.cells (cellsR h t f q) 67)).trans (Le.alloc _ (.cells (cellsR 0 0 0 slZ) 67))
  go_enter Tryz.func63, Tryz.ntmps63
  go_wp2_with fail
  refine (listsCopy _ ss _ (hx.le hl) hf).mono ?_
  rintro e w1 ⟨u, rfl, hown, l1⟩
  have hb' := hb.le l1
  have hb2' := hb2.le l1
  obtain ⟨b0, b1, b2, b3, f0, f1, f2, f3⟩ := hb'.ring
  obtain ⟨p0, p1, p2, p3, g0, g1, g2, g3⟩ := hb2'.ring
  go_wp2
  refine bodyPost_ret (v := ringV h t f u) (by simp [results, Tryz.results63, go_sem, p0, p1, p2, p3]) rfl ⟨u, rfl, ?_, ?_⟩
  · iterate 5 refine OwnL.set ?_ (hown.off (by simp only [World.size_alloc]; omega))
    exact hown.base (by simp only [World.size_alloc]; omega)
  · iterate 5 refine Le.set ?_ (by omega)
    exact hl.trans l1

theorem Own.setNe {w : World} {base g i : Nat} {v u : Value} {xs : List Int} (h : Own w base v xs) (hne : v.ownBlock ≠ some g) : Own (w.setCell ⟨g, i, none⟩ u) base v xs := ownsRow_setCell_other h hne u
theorem Own.offB {w : World} {base g : Nat} {v : Value} {xs : List Int} (h : Own w base v xs) (hg : g < base) : v.ownBlock ≠ some g := fun e => by
  have := (h.block e).1
  omega
abbrev cellsT0 : Array Value := #[.int .i64 0, .int .i64 0, .int .i64 0, .int .i64 0, .int .i64 0, .int .i64 0, .slice none 0 0, .int .i64 0, .bool false, .bool false, .int .i64 0, .slice none 0 0]
theorem Box.setATh {w : World} {g : Nat} {T : Th} {b t q : Sl} {ty : TypeId} (h : Box w g (cellsT T b t) ty) : Box (w.setCell ⟨g, 6, none⟩ (slV q)) g (cellsT T q t) ty := h.setT6
theorem Box.setBTh {w : World} {g : Nat} {T : Th} {b t q : Sl} {ty : TypeId} (h : Box w g (cellsT T b t) ty) : Box (w.setCell ⟨g, 11, none⟩ (slV q)) g (cellsT T b q) ty := h.setT11
theorem Box.setARep {w : World} {g : Nat} {us : Nat → Sl} {b t q : Sl} {ty : TypeId} (h : Box w g (cellsP us b t) ty) : Box (w.setCell ⟨g, 4, none⟩ (slV q)) g (cellsP us q t) ty := h.set 4 (slV q)
theorem Box.setBRep {w : World} {g : Nat} {us : Nat → Sl} {b t q : Sl} {ty : TypeId} (h : Box w g (cellsP us b t) ty) : Box (w.setCell ⟨g, 5, none⟩ (slV q)) g (cellsP us b q) ty := h.set 5 (slV q)

set_option maxRecDepth 4000 in
set_option maxHeartbeats 2000000 in
theorem machCopyThread (T : Th) (qb qt : Sl) (w : World) (hq1 : Has w (slV qb) T.b) (hq2 : Has w (slV qt) T.tl) (hq1f : T.b.length * 8 ≤ 140737488351232) (hq2f : T.tl.length * 8 ≤ 140737488351232) :
    Calls Tryz.prog 67 #[thV T qb qt] w fun e w' => ∃ u1 u2 : Sl, e = .returned (thV T u1 u2) ∧ Own w' w.heap.size (slV u1) T.b ∧ Own w' w.heap.size (slV u2) T.tl ∧ (∀ b, (slV u2).ownBlock = some b → (slV u1).ownBlock ≠ some b) ∧ Le w w' := by
  obtain ⟨g, hg⟩ : ∃ g, w.heap.size = g := ⟨_, rfl⟩
  have hbW := (Box.new w (cellsT T qb qt) 63).le (Le.alloc _ (.cells cellsT0 63))
  have hrW := Box.new (w.alloc (.cells (cellsT T qb qt) 63)) cellsT0 63
  rw [World.size_alloc] at hrW
  have hl := (Le.alloc w (.cells (cellsT T qb qt) 63)).trans (Le.alloc _ (.cells cellsT0 63))
  go_enter Tryz.func67, Tryz.ntmps67
  go_upto_region 1 with fail
  generalize hW : (w.alloc (.cells (cellsT T qb qt) 63)).alloc (.cells cellsT0 63) = W at hl hbW hrW ⊢
  clear hW
  rw [hg] at hbW hrW
  replace hq1 := hq1.le hl
  replace hq2 := hq2.le hl
  have hgr := hrW.lt
  obtain ⟨_, _, _, _, _, _, c6, _, _, _, _, c11⟩ := hbW.th
  refine wp_region_any (by kernel_rfl) ?_
  refine wpAny_grow [] [0, 1, 2, 3, 4, 5, 6] [7, 8, 9] (by decide) (by kernel_rfl) Le (Le.refl _) (fun _ _ _ => Le.trans)
    (fun vs i x => match i with
      | 0 => vs 0 = .pointer (some ⟨g, 6, none⟩)
      | 1 => vs 1 = slV qb
      | 2 => ∃ q, vs 2 = slV q ∧ Own x W.heap.size (slV q) T.b
      | 3 => vs 3 = .pointer (some ⟨g, 11, none⟩)
      | 4 => vs 4 = slV qt
      | 6 => vs 6 = .pointer (some ⟨g, 6, none⟩)
      | _ => ∃ q q', vs 2 = slV q ∧ vs 5 = slV q' ∧ Own x W.heap.size (slV q) T.b ∧ Own x W.heap.size (slV q') T.tl ∧ ∀ b, (slV q').ownBlock = some b → (slV q).ownBlock ≠ some b) ?_ ?_ (by decide) ?_ ?_
  · intro vs i x y hi _ h hxy
    simp only [List.mem_cons, List.not_mem_nil, or_false] at hi
    rcases hi with rfl | rfl | rfl | rfl | rfl | rfl | rfl
    · exact h
    · exact h
    · obtain ⟨q, e, o⟩ := h; exact ⟨q, e, o.le hxy⟩
    · exact h
    · exact h
    · obtain ⟨q, q', e, e', o, o', ap⟩ := h; exact ⟨q, q', e, e', o.le hxy, o'.le hxy, ap⟩
    · exact h
  · intro vs vs' i o x hi _ hk h
    have e := hk i (.inl rfl)
    simp only [List.mem_cons, List.not_mem_nil, or_false] at hi
    rcases hi with rfl | rfl | rfl | rfl | rfl | rfl | rfl
    iterate 5
      · simp only at h ⊢
        rw [← e]
        exact h
    · have e2 := hk 2 (.inr (by kernel_rfl))
      simp only at h ⊢
      rw [← e, ← e2]
      exact h
    · simp only at h ⊢
      rw [← e]
      exact h
  · intro i o hi ho vs x hx hd
    have hx0 := (Le.drew W).trans hx
    simp only [List.mem_cons, List.not_mem_nil, or_false] at hi
    generalize hρ : (putH _ _ _ vs).eval = ρ
    rcases hi with rfl | rfl | rfl | rfl | rfl | rfl | rfl
    · cases ho
      have r1 : ρ (.tmp 1) = .pointer (some ⟨g, 0, none⟩) := by rw [← hρ]; kernel_rfl
      exact gives_value (w' := x) (v := .pointer (some ⟨g, 6, none⟩)) (by simp [go_sem, r1]) ⟨Le.refl _, rfl⟩
    · cases ho
      have r1 : ρ (.tmp 3) = vs 0 := by rw [← hρ]; kernel_rfl
      have d := hd 0 (by decide) (by kernel_rfl)
      simp only at d
      rw [d] at r1
      have y := cell_le c6 hx0
      exact gives_value (w' := x) (v := slV qb) (by simp [go_sem, r1, y]) ⟨Le.refl _, rfl⟩
    · cases ho
      have r1 : ρ (.tmp 4) = vs 1 := by rw [← hρ]; kernel_rfl
      have d := hd 1 (by decide) (by kernel_rfl)
      simp only at d
      rw [d] at r1
      have m := listsCopyI (slV qb) T.b x (hq1.le hx0) hq1f
      refine gives_call (f := 92) (args := #[slV qb]) (by simp [go_sem, r1]; kernel_rfl) (m.mono ?_)
      rintro e x2 ⟨q, rfl, o, gr⟩
      have l2 : Le x x2 := Below.grown (Le.refl x) gr (by simp) (by intro g hg; cases hg)
      exact ⟨_, rfl, l2, q, rfl, o.base hx0.size⟩
    · cases ho
      have r1 : ρ (.tmp 1) = .pointer (some ⟨g, 0, none⟩) := by rw [← hρ]; kernel_rfl
      exact gives_value (w' := x) (v := .pointer (some ⟨g, 11, none⟩)) (by simp [go_sem, r1]) ⟨Le.refl _, rfl⟩
    · cases ho
      have r1 : ρ (.tmp 6) = vs 3 := by rw [← hρ]; kernel_rfl
      have d := hd 3 (by decide) (by kernel_rfl)
      simp only at d
      rw [d] at r1
      have y := cell_le c11 hx0
      exact gives_value (w' := x) (v := slV qt) (by simp [go_sem, r1, y]) ⟨Le.refl _, rfl⟩
    · cases ho
      have r1 : ρ (.tmp 7) = vs 4 := by rw [← hρ]; kernel_rfl
      have d := hd 4 (by decide) (by kernel_rfl)
      have d2 := hd 2 (by decide) (by kernel_rfl)
      simp only at d d2
      obtain ⟨q, e2, o2⟩ := d2
      rw [d] at r1
      have m := listsCopyI (slV qt) T.tl x (hq2.le hx0) hq2f
      refine gives_call (f := 92) (args := #[slV qt]) (by simp [go_sem, r1]; kernel_rfl) (m.mono ?_)
      rintro e x2 ⟨q', rfl, o, gr⟩
      have l2 : Le x x2 := Below.grown (Le.refl x) gr (by simp) (by intro g hg; cases hg)
      refine ⟨_, rfl, l2, q, q', by simp [e2], by simp, o2.le l2, o.base hx0.size, fun b h1 h2 => ?_⟩
      have := (o.block h1).1
      have := (o2.block h2).2
      omega
    · cases ho
      have r1 : ρ (.tmp 1) = .pointer (some ⟨g, 0, none⟩) := by rw [← hρ]; kernel_rfl
      exact gives_value (w' := x) (v := .pointer (some ⟨g, 6, none⟩)) (by simp [go_sem, r1]) ⟨Le.refl _, rfl⟩
  · intro vs x hx hd
    have hx0 := (Le.drew W).trans hx
    have hh := hd 5 (by decide)
    simp only at hh
    replace hh := hh.choose_spec
    generalize Exists.choose _ = q1 at hh
    replace hh := hh.choose_spec
    generalize Exists.choose _ = q2 at hh
    have e1 := hh.1
    have e2 := hh.2.1
    have o1 := hh.2.2.1
    have o2 := hh.2.2.2.1
    have ap := hh.2.2.2.2
    have e6 := hd 6 (by decide)
    simp only at e6
    clear hh hd
    have hbx := hbW.le hx0
    have hrx := hrW.le hx0
    have cA : x.cell? ⟨g, 6, none⟩ = some (slV qb) ∧ x.frozen? ⟨g, 6, none⟩ = false := ⟨cell_le c6 hx0, hbx.frozen _⟩
    have hby := hbx.setATh (q := q1)
    have cB : (x.setCell ⟨g, 6, none⟩ (slV q1)).cell? ⟨g, 11, none⟩ = some (slV qt) ∧ (x.setCell ⟨g, 6, none⟩ (slV q1)).frozen? ⟨g, 11, none⟩ = false := ⟨by rw [hby.cell]; rfl, hby.frozen _⟩
    have hbz := hby.setBTh (q := q2)
    clear hbx
    generalize hf0 : putH _ _ _ vs = fr0
    refine wpSeq_cons rfl ?_
    refine wp_skip_at (w0 := x.setCell ⟨g, 6, none⟩ (slV q1)) ?_ ?_
    · generalize hρ : fr0.eval = ρ
      have r1 : ρ (.tmp 9) = vs 6 := by rw [← hρ, ← hf0]; kernel_rfl
      have r2 : ρ (.tmp 5) = vs 2 := by rw [← hρ, ← hf0]; kernel_rfl
      rw [e1] at r2
      rw [e6] at r1
      simp [go_sem, r1, r2, cA.1, cA.2]
    · generalize hf2 : Act.put fr0 _ _ = fr2
      refine wpSeq_cons rfl ?_
      refine wp_value_at (v0 := .pointer (some ⟨g, 11, none⟩)) (w0 := x.setCell ⟨g, 6, none⟩ (slV q1)) ?_ ?_
      · generalize hρ : fr2.eval = ρ
        have r1 : ρ (.tmp 1) = .pointer (some ⟨g, 0, none⟩) := by rw [← hρ, ← hf2, ← hf0]; kernel_rfl
        simp [go_sem, r1]
      · generalize hf3 : Act.put fr2 _ _ = fr3
        refine wpSeq_cons rfl ?_
        refine wp_skip_at (w0 := (x.setCell ⟨g, 6, none⟩ (slV q1)).setCell ⟨g, 11, none⟩ (slV q2)) ?_ ?_
        · generalize hρ : fr3.eval = ρ
          have r1 : ρ (.tmp 10) = .pointer (some ⟨g, 11, none⟩) := by rw [← hρ, ← hf3, ← hf2, ← hf0]; kernel_rfl
          have r2 : ρ (.tmp 8) = vs 5 := by rw [← hρ, ← hf3, ← hf2, ← hf0]; kernel_rfl
          rw [e2] at r2
          simp [go_sem, r1, r2, cB.1, cB.2]
        · subst hf3 hf2 hf0
          simp only [wpSeq, putH, List.getElem?_cons_succ, List.getElem?_cons_zero, Option.bind_some, Act.put, List.setIfInBounds_toArray, List.set_cons_zero, List.set_cons_succ]
          have l4 : Le w ((x.setCell ⟨g, 6, none⟩ (slV q1)).setCell ⟨g, 11, none⟩ (slV q2)) := Le.set (Le.set (hl.trans hx0) (by omega)) (by omega)
          have o3 : Own ((x.setCell ⟨g, 6, none⟩ (slV q1)).setCell ⟨g, 11, none⟩ (slV q2)) W.heap.size (slV q1) T.b := (o1.setNe (o1.offB (by omega))).setNe (o1.offB (by omega))
          have o4 : Own ((x.setCell ⟨g, 6, none⟩ (slV q1)).setCell ⟨g, 11, none⟩ (slV q2)) W.heap.size (slV q2) T.tl := (o2.setNe (o2.offB (by omega))).setNe (o2.offB (by omega))
          have hrz : Box ((x.setCell ⟨g, 6, none⟩ (slV q1)).setCell ⟨g, 11, none⟩ (slV q2)) (g + 1) cellsT0 63 := (hrx.other (by omega) _ _).other (by omega) _ _
          clear e1 e2 o1 o2 hrx hby cA cB c6 c11 hbW hrW
          generalize (x.setCell ⟨g, 6, none⟩ (slV q1)).setCell ⟨g, 11, none⟩ (slV q2) = w4 at hbz l4 o3 o4 hrz ⊢
          obtain ⟨t0, t1, t2, t3, t4, t5, t6, t7, t8, t9, t10, t11⟩ := hbz.th
          have hk := fun i => hrz.frozen i
          have r0 := hrz.cell 0
          have r1 := hrz.cell 1
          have r2 := hrz.cell 2
          have r3 := hrz.cell 3
          have r4 := hrz.cell 4
          have r5 := hrz.cell 5
          have r6 := hrz.cell 6
          have r7 := hrz.cell 7
          have r8 := hrz.cell 8
          have r9 := hrz.cell 9
          have r10 := hrz.cell 10
          have r11 := hrz.cell 11
          simp only [List.getElem?_toArray, List.getElem?_cons_succ, List.getElem?_cons_zero] at r0 r1 r2 r3 r4 r5 r6 r7 r8 r9 r10 r11
          have k0 := hk 0
          have k1 := hk 1
          have k2 := hk 2
          have k3 := hk 3
          have k4 := hk 4
          have k5 := hk 5
          have k6 := hk 6
          have k7 := hk 7
          have k8 := hk 8
          have k9 := hk 9
          have k10 := hk 10
          have k11 := hk 11
          clear hk
          go_wp2_with fail
          refine bodyPost_ret (v := thV T q1 q2) (by simp [results, Tryz.results67, go_sem, r0, r1, r2, r3, r4, r5, r6, r7, r8, r9, r10, r11]) rfl ⟨q1, q2, rfl, ?_, ?_, ap, ?_⟩
          · iterate 12 refine Own.setNe ?_ (o3.offB (by omega))
            exact o3.base (by omega)
          · iterate 12 refine Own.setNe ?_ (o4.offB (by omega))
            exact o4.base (by omega)
          · iterate 12 refine Le.set ?_ (by omega)
            exact l4

set_option maxRecDepth 4000 in
set_option maxHeartbeats 2000000 in
theorem machCopyReplica (P : Rp) (vs : Nat → Sl) (qc ql : Sl) (w : World) (hs : ∀ i, i < 4 → Has w (slV (vs i)) (P.s.at i)) (hq1 : Has w (slV qc) P.cs) (hq2 : Has w (slV ql) P.ls) (hfs : Fit P.s) (hq1f : P.cs.length * 8 ≤ 140737488351232) (hq2f : P.ls.length * 8 ≤ 140737488351232) :
    Calls Tryz.prog 65 #[repV vs qc ql] w fun e w' => ∃ (us : Nat → Sl) (u1 u2 : Sl), e = .returned (repV us u1 u2) ∧ RepOwn w' w.heap.size P us u1 u2 ∧ Le w w' := by
  obtain ⟨g, hg⟩ : ∃ g, w.heap.size = g := ⟨_, rfl⟩
  have hb := (Box.new w (cellsP vs qc ql) 73).le (Le.alloc _ (.cells (cellsP (fun _ => slZ) slZ slZ) 73))
  have hr := Box.new (w.alloc (.cells (cellsP vs qc ql) 73)) (cellsP (fun _ => slZ) slZ slZ) 73
  rw [World.size_alloc] at hr
  have hl := (Le.alloc w (.cells (cellsP vs qc ql) 73)).trans (Le.alloc _ (.cells (cellsP (fun _ => slZ) slZ slZ) 73))
  go_enter Tryz.func65, Tryz.ntmps65
  go_upto_region 1 with fail
  generalize hW : (w.alloc (.cells (cellsP vs qc ql) 73)).alloc (.cells (cellsP (fun _ => slZ) slZ slZ) 73) = W0 at hl hb hr ⊢
  clear hW
  rw [hg] at hb hr
  have hgr := hr.lt
  have m1 := statesCopy (stV vs) P.s W0 ⟨vs, rfl, fun i hi => (hs i hi).le hl⟩ hfs
  obtain ⟨b0, b1, b2, b3, _, _⟩ := hb.rep
  go_wp2_with fail
  refine m1.mono ?_
  rintro e w1 ⟨us, rfl, ou, apu, l1⟩
  clear b0 b1 b2 b3 m1
  replace hb := hb.le l1
  replace hr := hr.le l1
  obtain ⟨b0, b1, b2, b3, _, _⟩ := hb.rep
  have k0 := hb.frozen 0
  have k1 := hb.frozen 1
  have k2 := hb.frozen 2
  have k3 := hb.frozen 3
  have hl1 := hl.trans l1
  have hs1 := l1.size
  go_upto_region 2 with fail
  have hbW : Box ((((w1.setCell ⟨g, 0, none⟩ (slV (us 0))).setCell ⟨g, 1, none⟩ (slV (us 1))).setCell ⟨g, 2, none⟩ (slV (us 2))).setCell ⟨g, 3, none⟩ (slV (us 3))) g (cellsP us qc ql) 73 := (((hb.set 0 _).set 1 _).set 2 _).set 3 _
  have hrW : Box ((((w1.setCell ⟨g, 0, none⟩ (slV (us 0))).setCell ⟨g, 1, none⟩ (slV (us 1))).setCell ⟨g, 2, none⟩ (slV (us 2))).setCell ⟨g, 3, none⟩ (slV (us 3))) (g + 1) (cellsP (fun _ => slZ) slZ slZ) 73 := (((hr.other (by omega) _ _).other (by omega) _ _).other (by omega) _ _).other (by omega) _ _
  have hlW := hl1.set4 (g := g) (by omega) (slV (us 0)) (slV (us 1)) (slV (us 2)) (slV (us 3))
  have hou : ∀ i, i < 4 → Own ((((w1.setCell ⟨g, 0, none⟩ (slV (us 0))).setCell ⟨g, 1, none⟩ (slV (us 1))).setCell ⟨g, 2, none⟩ (slV (us 2))).setCell ⟨g, 3, none⟩ (slV (us 3))) W0.heap.size (slV (us i)) (P.s.at i) := fun i hi => (ou i hi).set4 hb (by decide) _ _ _ _
  replace hq1 := hq1.le hlW
  replace hq2 := hq2.le hlW
  clear b0 b1 b2 b3 k0 k1 k2 k3 ou hb hr
  generalize hW : (((w1.setCell ⟨g, 0, none⟩ (slV (us 0))).setCell ⟨g, 1, none⟩ (slV (us 1))).setCell ⟨g, 2, none⟩ (slV (us 2))).setCell ⟨g, 3, none⟩ (slV (us 3)) = W at hbW hrW hlW hou hq1 hq2 ⊢
  have hWs : w1.heap.size = W.heap.size := by rw [← hW]; simp
  clear hW
  obtain ⟨_, _, _, _, c4, c5⟩ := hbW.rep
  refine wp_region_any (by kernel_rfl) ?_
  refine wpAny_grow [] [0, 1, 2, 3, 4, 5, 6] [7, 8, 9] (by decide) (by kernel_rfl) Le (Le.refl _) (fun _ _ _ => Le.trans)
    (fun vs i x => match i with
      | 0 => vs 0 = .pointer (some ⟨g, 4, none⟩)
      | 1 => vs 1 = slV qc
      | 2 => ∃ q, vs 2 = slV q ∧ Own x W.heap.size (slV q) P.cs
      | 3 => vs 3 = .pointer (some ⟨g, 5, none⟩)
      | 4 => vs 4 = slV ql
      | 6 => vs 6 = .pointer (some ⟨g, 4, none⟩)
      | _ => ∃ q q', vs 2 = slV q ∧ vs 5 = slV q' ∧ Own x W.heap.size (slV q) P.cs ∧ Own x W.heap.size (slV q') P.ls ∧ ∀ b, (slV q').ownBlock = some b → (slV q).ownBlock ≠ some b) ?_ ?_ (by decide) ?_ ?_
  · intro vs i x y hi _ h hxy
    simp only [List.mem_cons, List.not_mem_nil, or_false] at hi
    rcases hi with rfl | rfl | rfl | rfl | rfl | rfl | rfl
    · exact h
    · exact h
    · obtain ⟨q, e, o⟩ := h; exact ⟨q, e, o.le hxy⟩
    · exact h
    · exact h
    · obtain ⟨q, q', e, e', o, o', ap⟩ := h; exact ⟨q, q', e, e', o.le hxy, o'.le hxy, ap⟩
    · exact h
  · intro vs vs' i o x hi _ hk h
    have e := hk i (.inl rfl)
    simp only [List.mem_cons, List.not_mem_nil, or_false] at hi
    rcases hi with rfl | rfl | rfl | rfl | rfl | rfl | rfl
    iterate 5
      · simp only at h ⊢
        rw [← e]
        exact h
    · have e2 := hk 2 (.inr (by kernel_rfl))
      simp only at h ⊢
      rw [← e, ← e2]
      exact h
    · simp only at h ⊢
      rw [← e]
      exact h
  · intro i o hi ho vs x hx hd
    have hx0 := (Le.drew W).trans hx
    simp only [List.mem_cons, List.not_mem_nil, or_false] at hi
    generalize hρ : (putH _ _ _ vs).eval = ρ
    rcases hi with rfl | rfl | rfl | rfl | rfl | rfl | rfl
    · cases ho
      have r1 : ρ (.tmp 1) = .pointer (some ⟨g, 0, none⟩) := by rw [← hρ]; kernel_rfl
      exact gives_value (w' := x) (v := .pointer (some ⟨g, 4, none⟩)) (by simp [go_sem, r1]) ⟨Le.refl _, rfl⟩
    · cases ho
      have r1 : ρ (.tmp 7) = vs 0 := by rw [← hρ]; kernel_rfl
      have d := hd 0 (by decide) (by kernel_rfl)
      simp only at d
      rw [d] at r1
      have y := cell_le c4 hx0
      exact gives_value (w' := x) (v := slV qc) (by simp [go_sem, r1, y]) ⟨Le.refl _, rfl⟩
    · cases ho
      have r1 : ρ (.tmp 8) = vs 1 := by rw [← hρ]; kernel_rfl
      have d := hd 1 (by decide) (by kernel_rfl)
      simp only at d
      rw [d] at r1
      have m := listsCopyI (slV qc) P.cs x (hq1.le hx0) hq1f
      refine gives_call (f := 92) (args := #[slV qc]) (by simp [go_sem, r1]; kernel_rfl) (m.mono ?_)
      rintro e x2 ⟨q, rfl, o, gr⟩
      have l2 : Le x x2 := Below.grown (Le.refl x) gr (by simp) (by intro g hg; cases hg)
      exact ⟨_, rfl, l2, q, rfl, o.base hx0.size⟩
    · cases ho
      have r1 : ρ (.tmp 1) = .pointer (some ⟨g, 0, none⟩) := by rw [← hρ]; kernel_rfl
      exact gives_value (w' := x) (v := .pointer (some ⟨g, 5, none⟩)) (by simp [go_sem, r1]) ⟨Le.refl _, rfl⟩
    · cases ho
      have r1 : ρ (.tmp 10) = vs 3 := by rw [← hρ]; kernel_rfl
      have d := hd 3 (by decide) (by kernel_rfl)
      simp only at d
      rw [d] at r1
      have y := cell_le c5 hx0
      exact gives_value (w' := x) (v := slV ql) (by simp [go_sem, r1, y]) ⟨Le.refl _, rfl⟩
    · cases ho
      have r1 : ρ (.tmp 11) = vs 4 := by rw [← hρ]; kernel_rfl
      have d := hd 4 (by decide) (by kernel_rfl)
      have d2 := hd 2 (by decide) (by kernel_rfl)
      simp only at d d2
      obtain ⟨q, e2, o2⟩ := d2
      rw [d] at r1
      have m := listsCopyI (slV ql) P.ls x (hq2.le hx0) hq2f
      refine gives_call (f := 92) (args := #[slV ql]) (by simp [go_sem, r1]; kernel_rfl) (m.mono ?_)
      rintro e x2 ⟨q', rfl, o, gr⟩
      have l2 : Le x x2 := Below.grown (Le.refl x) gr (by simp) (by intro g hg; cases hg)
      refine ⟨_, rfl, l2, q, q', by simp [e2], by simp, o2.le l2, o.base hx0.size, fun b h1 h2 => ?_⟩
      have := (o.block h1).1
      have := (o2.block h2).2
      omega
    · cases ho
      have r1 : ρ (.tmp 1) = .pointer (some ⟨g, 0, none⟩) := by rw [← hρ]; kernel_rfl
      exact gives_value (w' := x) (v := .pointer (some ⟨g, 4, none⟩)) (by simp [go_sem, r1]) ⟨Le.refl _, rfl⟩
  · intro vs x hx hd
    have hx0 := (Le.drew W).trans hx
    have hh := hd 5 (by decide)
    simp only at hh
    replace hh := hh.choose_spec
    generalize Exists.choose _ = q1 at hh
    replace hh := hh.choose_spec
    generalize Exists.choose _ = q2 at hh
    have e1 := hh.1
    have e2 := hh.2.1
    have o1 := hh.2.2.1
    have o2 := hh.2.2.2.1
    have ap := hh.2.2.2.2
    have e6 := hd 6 (by decide)
    simp only at e6
    clear hh hd
    have hbx := hbW.le hx0
    have hrx := hrW.le hx0
    have cA : x.cell? ⟨g, 4, none⟩ = some (slV qc) ∧ x.frozen? ⟨g, 4, none⟩ = false := ⟨cell_le c4 hx0, hbx.frozen _⟩
    have hby := hbx.setARep (q := q1)
    have cB : (x.setCell ⟨g, 4, none⟩ (slV q1)).cell? ⟨g, 5, none⟩ = some (slV ql) ∧ (x.setCell ⟨g, 4, none⟩ (slV q1)).frozen? ⟨g, 5, none⟩ = false := ⟨by rw [hby.cell]; rfl, hby.frozen _⟩
    have hbz := hby.setBRep (q := q2)
    clear hbx
    generalize hf0 : putH _ _ _ vs = fr0
    refine wpSeq_cons rfl ?_
    refine wp_skip_at (w0 := x.setCell ⟨g, 4, none⟩ (slV q1)) ?_ ?_
    · generalize hρ : fr0.eval = ρ
      have r1 : ρ (.tmp 13) = vs 6 := by rw [← hρ, ← hf0]; kernel_rfl
      have r2 : ρ (.tmp 9) = vs 2 := by rw [← hρ, ← hf0]; kernel_rfl
      rw [e1] at r2
      rw [e6] at r1
      simp [go_sem, r1, r2, cA.1, cA.2]
    · generalize hf2 : Act.put fr0 _ _ = fr2
      refine wpSeq_cons rfl ?_
      refine wp_value_at (v0 := .pointer (some ⟨g, 5, none⟩)) (w0 := x.setCell ⟨g, 4, none⟩ (slV q1)) ?_ ?_
      · generalize hρ : fr2.eval = ρ
        have r1 : ρ (.tmp 1) = .pointer (some ⟨g, 0, none⟩) := by rw [← hρ, ← hf2, ← hf0]; kernel_rfl
        simp [go_sem, r1]
      · generalize hf3 : Act.put fr2 _ _ = fr3
        refine wpSeq_cons rfl ?_
        refine wp_skip_at (w0 := (x.setCell ⟨g, 4, none⟩ (slV q1)).setCell ⟨g, 5, none⟩ (slV q2)) ?_ ?_
        · generalize hρ : fr3.eval = ρ
          have r1 : ρ (.tmp 14) = .pointer (some ⟨g, 5, none⟩) := by rw [← hρ, ← hf3, ← hf2, ← hf0]; kernel_rfl
          have r2 : ρ (.tmp 12) = vs 5 := by rw [← hρ, ← hf3, ← hf2, ← hf0]; kernel_rfl
          rw [e2] at r2
          simp [go_sem, r1, r2, cB.1, cB.2]
        · subst hf3 hf2 hf0
          simp only [wpSeq, putH, List.getElem?_cons_succ, List.getElem?_cons_zero, Option.bind_some, Act.put, List.setIfInBounds_toArray, List.set_cons_zero, List.set_cons_succ]
          have l4 : Le w ((x.setCell ⟨g, 4, none⟩ (slV q1)).setCell ⟨g, 5, none⟩ (slV q2)) := Le.set (Le.set (hlW.trans hx0) (by omega)) (by omega)
          have o3 : Own ((x.setCell ⟨g, 4, none⟩ (slV q1)).setCell ⟨g, 5, none⟩ (slV q2)) W.heap.size (slV q1) P.cs := (o1.setNe (o1.offB (by omega))).setNe (o1.offB (by omega))
          have o4 : Own ((x.setCell ⟨g, 4, none⟩ (slV q1)).setCell ⟨g, 5, none⟩ (slV q2)) W.heap.size (slV q2) P.ls := (o2.setNe (o2.offB (by omega))).setNe (o2.offB (by omega))
          have o5 : ∀ i, i < 4 → Own ((x.setCell ⟨g, 4, none⟩ (slV q1)).setCell ⟨g, 5, none⟩ (slV q2)) W0.heap.size (slV (us i)) (P.s.at i) := fun i hi => (((hou i hi).le hx0).setNe ((hou i hi).offB (by omega))).setNe ((hou i hi).offB (by omega))
          have hrz : Box ((x.setCell ⟨g, 4, none⟩ (slV q1)).setCell ⟨g, 5, none⟩ (slV q2)) (g + 1) (cellsP (fun _ => slZ) slZ slZ) 73 := (hrx.other (by omega) _ _).other (by omega) _ _
          have a1 : ∀ i, i < 4 → ∀ b, (slV q1).ownBlock = some b → (slV (us i)).ownBlock ≠ some b := fun i hi b h1 h2 => by
            have := (o1.block h1).1
            have := ((hou i hi).block h2).2
            omega
          have a2 : ∀ i, i < 4 → ∀ b, (slV q2).ownBlock = some b → (slV (us i)).ownBlock ≠ some b := fun i hi b h1 h2 => by
            have := (o2.block h1).1
            have := ((hou i hi).block h2).2
            omega
          clear e1 e2 o1 o2 hrx hby cA cB c4 c5 hbW hrW hou
          generalize (x.setCell ⟨g, 4, none⟩ (slV q1)).setCell ⟨g, 5, none⟩ (slV q2) = w4 at hbz l4 o3 o4 o5 hrz ⊢
          obtain ⟨t0, t1, t2, t3, t4, t5⟩ := hbz.rep
          have r0 := hrz.cell 0
          have r1 := hrz.cell 1
          have r2 := hrz.cell 2
          have r3 := hrz.cell 3
          have r4 := hrz.cell 4
          have r5 := hrz.cell 5
          simp only [List.getElem?_toArray, List.getElem?_cons_succ, List.getElem?_cons_zero] at r0 r1 r2 r3 r4 r5
          have k0 := hrz.frozen 0
          have k1 := hrz.frozen 1
          have k2 := hrz.frozen 2
          have k3 := hrz.frozen 3
          have k4 := hrz.frozen 4
          have k5 := hrz.frozen 5
          go_wp2_with fail
          refine bodyPost_ret (v := repV us q1 q2) (by simp [results, Tryz.results65, go_sem, r0, r1, r2, r3, r4, r5]) rfl ⟨us, q1, q2, rfl, ⟨fun i hi => ?_, ?_, ?_, fun _ => a1, fun _ => a2, fun _ => ap⟩, ?_⟩
          · iterate 6 refine Own.setNe ?_ ((o5 i hi).offB (by omega))
            exact (o5 i hi).base (by omega)
          · iterate 6 refine Own.setNe ?_ (o3.offB (by omega))
            exact o3.base (by omega)
          · iterate 6 refine Own.setNe ?_ (o4.offB (by omega))
            exact o4.base (by omega)
          · iterate 6 refine Le.set ?_ (by omega)
            exact l4

end Go.Proofs.YtkddgpdlpjjpbaaGreat

/-
  PLAIN GROUND, NO WALK: what stands ahead of each round of package lists' CopyEach, at logs, replicas, threads, and what a round makes of it. No condition.
-/
namespace Go.Proofs.YtkddgpdlpjjpbaaGreat
open Go.RowKit

/-- What the inner rows of an element are: their blocks, when they are the call's own. -/
structure InOf {α : Type} (K : Kind α) (In : World → Nat → α → Prop) (bk : α → Nat → Prop) : Prop where
  le : ∀ {w w' : World} {B : Nat} {y : α}, In w B y → Le w w' → In w' B y
  base : ∀ {w : World} {B B' : Nat} {y : α}, In w B y → B' ≤ B → In w B' y
  blk : ∀ {w : World} {B g : Nat} {y : α}, In w B y → bk y g → B ≤ g ∧ g < w.heap.size
  set : ∀ {w : World} {B B' gq n cap off j : Nat} {y : α} {zs : List α} {us : List Value}, OwnE K w B' (.slice (some ⟨gq, 0, none⟩) n cap) zs → In w B y → In (setsW gq off w j us) B y

/-- Ahead of a round: the first ones are copied (ys), the others are as they were (of xs). -/
structure EachI {α β : Type} (K : Kind α) (In : World → Nat → α → Prop) (bk : α → Nat → Prop) (f : α → β) (w wr : World) (v : Value) (xs ys : List α) : Prop where
  own : OwnE K wr w.heap.size v (ys ++ xs.drop ys.length)
  le : Le w wr
  inn : ∀ y ∈ ys, In wr w.heap.size y
  ap : ∀ i j, i < ys.length → j < i → ∀ g, bk (ys.getD i K.d) g → ¬ bk (ys.getD j K.d) g
  same : ys.map f = (xs.map f).take ys.length
  len : ys.length ≤ xs.length

theorem EachI.next {α β : Type} {K : Kind α} {In : World → Nat → α → Prop} {bk : α → Nat → Prop} {f : α → β} {w wr : World} {gq n cap : Nat} {xs ys : List α} (hI : InOf K In bk)
    (h : EachI K In bk f w wr (.slice (some ⟨gq, 0, none⟩) n cap) xs ys) (hk : ys.length < xs.length) {w2 : World} {B2 : Nat} (l2 : Le wr w2) {y : α} (hy : In w2 B2 y) (hB : wr.heap.size ≤ B2) (hf : f y = f (xs.getD ys.length K.d)) :
    EachI K In bk f w (setsW gq (ys.length * K.k) w2 0 (K.f y)) (.slice (some ⟨gq, 0, none⟩) n cap) xs (ys ++ [y]) := by
  have ho := h.own.le l2
  have hg : w.heap.size ≤ gq := (ho.block (g := gq) rfl).1
  have hlen : ys.length < (ys ++ xs.drop ys.length).length := by simp; omega
  have hset : (ys ++ xs.drop ys.length).set ys.length y = (ys ++ [y]) ++ xs.drop (ys ++ [y]).length := by
    rw [List.set_append_right _ _ (Nat.le_refl _), Nat.sub_self, List.drop_eq_getElem_cons hk, List.set_cons_zero]
    simp
  refine ⟨?_, setsW_le hg _ _ _ (h.le.trans l2), fun z hz => ?_, fun i j hi hj g h1 h2 => ?_, ?_, by simp; omega⟩
  · rw [← hset]
    refine ho.putS hlen (by rw [K.len]; exact Nat.le_refl _) ?_
    rw [List.drop_of_length_le (by rw [K.len, K.len]; exact Nat.le_refl _), List.append_nil]
  · rcases List.mem_append.1 hz with hz | hz
    · exact hI.set ho (hI.le (h.inn z hz) l2)
    · obtain rfl := List.mem_singleton.1 hz
      exact hI.set ho (hI.base hy (Nat.le_trans h.le.size hB))
  · simp only [List.length_append, List.length_cons, List.length_nil] at hi
    have e2 : (ys ++ [y]).getD j K.d = ys.getD j K.d := by simp [List.getD, List.getElem?_append_left (show j < ys.length by omega)]
    rw [e2] at h2
    rcases Nat.lt_or_ge i ys.length with hl | hl
    · have e1 : (ys ++ [y]).getD i K.d = ys.getD i K.d := by simp [List.getD, List.getElem?_append_left hl]
      rw [e1] at h1
      exact h.ap i j hl hj g h1 h2
    · have e : i = ys.length := by omega
      subst e
      have e1 : (ys ++ [y]).getD ys.length K.d = y := by simp [List.getD]
      rw [e1] at h1
      have := (hI.blk hy h1).1
      have := (hI.blk (h.inn _ (getD_mem (d := K.d) (show j < ys.length by omega))) h2).2
      omega
  · rw [List.map_append, h.same, List.length_append]
    simp only [List.map_cons, List.map_nil, List.length_cons, List.length_nil]
    rw [List.take_succ_eq_append_getElem (by simpa using hk), hf]
    simp [List.getD, hk]

/-- What CopyEach hands back: other elements, the same but for where their rows lie. -/
structure EachR {α β : Type} (K : Kind α) (In : World → Nat → α → Prop) (bk : α → Nat → Prop) (f : α → β) (B : Nat) (w' : World) (v : Value) (zs : List β) (ys : List α) : Prop where
  own : OwnE K w' B v ys
  inn : ∀ y ∈ ys, In w' B y
  ap : ∀ i j, i < ys.length → j < i → ∀ g, bk (ys.getD i K.d) g → ¬ bk (ys.getD j K.d) g
  same : ys.map f = zs
theorem EachI.done {α β : Type} {K : Kind α} {In : World → Nat → α → Prop} {bk : α → Nat → Prop} {f : α → β} {w wr : World} {v : Value} {xs ys : List α} (h : EachI K In bk f w wr v xs ys) (hk : ys.length = xs.length) : EachR K In bk f w.heap.size wr v (xs.map f) ys := by
  refine ⟨?_, h.inn, h.ap, ?_⟩
  · have := h.own
    rw [List.drop_of_length_le (by omega), List.append_nil] at this
    exact this
  · rw [h.same, List.take_of_length_le (by simp; omega)]
theorem EachI.start {α β : Type} {K : Kind α} {In : World → Nat → α → Prop} {bk : α → Nat → Prop} {f : α → β} {w wr : World} {v : Value} {xs : List α} (h : OwnE K wr w.heap.size v xs) (l : Le w wr) : EachI K In bk f w wr v xs [] :=
  ⟨by simpa using h, l, fun _ h => by simp at h, fun i j h => by simp at h, by simp, by simp⟩
theorem EachR.le {α β : Type} {K : Kind α} {In : World → Nat → α → Prop} {bk : α → Nat → Prop} {f : α → β} {B : Nat} {w w' : World} {v : Value} {zs : List β} {ys : List α} (hI : InOf K In bk) (h : EachR K In bk f B w v zs ys) (l : Le w w') : EachR K In bk f B w' v zs ys :=
  ⟨h.own.le l, fun y hy => hI.le (h.inn y hy) l, h.ap, h.same⟩

/-- The cells of an element of the call's own are there. -/
theorem ownE_cells {α : Type} {K : Kind α} {w : World} {B g n cap i : Nat} {xs : List α} (h : OwnE K w B (.slice (some ⟨g, 0, none⟩) n cap) xs) (hi : i < xs.length) : ∀ j, j < K.k → ∃ u, w.cell? ⟨g, i * K.k + j, none⟩ = some u := by
  intro j hj
  obtain ⟨a, c, hv, _, _, hx⟩ := h.has
  obtain ⟨b, off, ha, hcell⟩ := hx (by omega)
  simp only [Value.slice.injEq] at hv
  rw [ha] at hv
  simp only [Option.some.injEq, Addr.mk.injEq, and_true] at hv
  obtain ⟨⟨rfl, rfl⟩, _⟩ := hv
  have h1 := hcell i hi j hj
  have hlt : j < (K.f (xs.getD i K.d)).length := by rw [K.len]; exact hj
  rw [List.getElem?_eq_getElem hlt, Nat.zero_add] at h1
  exact ⟨_, h1⟩

/-! At logs, replicas, threads. -/
def InR (w : World) (B : Nat) (y : LR) : Prop := OwnL w B (slV y.q) y.R.ss
def InP (w : World) (B : Nat) (y : LP) : Prop := RepOwn w B y.P y.vs y.c y.l
def InT (w : World) (B : Nat) (y : LT) : Prop := Own w B (slV y.b) y.T.b ∧ Own w B (slV y.t) y.T.tl ∧ ∀ b, (slV y.t).ownBlock = some b → (slV y.b).ownBlock ≠ some b
def bkR (y : LR) (g : Nat) : Prop := (slV y.q).ownBlock = some g
def bkP (y : LP) (g : Nat) : Prop := ∃ j, (slV (y.row j)).ownBlock = some g
def bkT (y : LT) (g : Nat) : Prop := ∃ j, (slV (y.row j)).ownBlock = some g

theorem own_sets {w : World} {B B' gq n m cap off j k k' : Nat} {t t' : TypeId} {v : Value} {us zs vs : List Value} (h : w.ownsRow B' t k (.slice (some ⟨gq, 0, none⟩) n cap) m zs) (h2 : w.ownsRow B t' k' v n vs) (ht : t ≠ t') : (setsW gq off w j us).ownsRow B t' k' v n vs :=
  setsW_own _ _ _ h2 (ownsRow_apart h h2 ht rfl)
theorem own_sets' {w : World} {B B' gq n m l cap off j k k' : Nat} {t t' : TypeId} {v : Value} {us zs vs : List Value} (h : w.ownsRow B' t k (.slice (some ⟨gq, 0, none⟩) n cap) m zs) (h2 : w.ownsRow B t' k' v l vs) (ht : t ≠ t') : (setsW gq off w j us).ownsRow B t' k' v l vs :=
  setsW_own _ _ _ h2 (ownsRow_apart h h2 ht rfl)

theorem inR : InOf ringK InR bkR where
  le := fun h l => OwnL.le h l
  base := fun h l => OwnL.base h l
  blk := fun h e => OwnL.block h e
  set := fun ho h => own_sets' ho h (by decide)
theorem rowP_cases {y : LP} {j g : Nat} {w : World} {B : Nat} (h : InP w B y) (e : (slV (y.row j)).ownBlock = some g) : B ≤ g ∧ g < w.heap.size := by
  match j, e with
  | 0, e => exact (h.s 0 (by decide)).block e
  | 1, e => exact (h.s 1 (by decide)).block e
  | 2, e => exact (h.s 2 (by decide)).block e
  | 3, e => exact (h.s 3 (by decide)).block e
  | 4, e => exact h.c.block e
  | 5, e => exact h.l.block e
  | _ + 6, e => simp [LP.row, Value.ownBlock] at e
theorem inP : InOf repK InP bkP where
  le := fun h l => RepOwn.le h l
  base := fun h l => ⟨fun i hi => (h.s i hi).base l, h.c.base l, h.l.base l, h.a1, h.a2, h.a3⟩
  blk := fun h ⟨_, e⟩ => rowP_cases h e
  set := fun ho h => ⟨fun i hi => own_sets' ho (h.s i hi) (by decide), own_sets' ho h.c (by decide), own_sets' ho h.l (by decide), h.a1, h.a2, h.a3⟩
theorem rowT_cases {y : LT} {j g : Nat} {w : World} {B : Nat} (h : InT w B y) (e : (slV (y.row j)).ownBlock = some g) : B ≤ g ∧ g < w.heap.size := by
  match j, e with
  | 0, e => exact h.1.block e
  | 1, e => exact h.2.1.block e
  | _ + 2, e => simp [LT.row, Value.ownBlock] at e
theorem inT : InOf thK InT bkT where
  le := fun h l => ⟨h.1.le l, h.2.1.le l, h.2.2⟩
  base := fun h l => ⟨h.1.base l, h.2.1.base l, h.2.2⟩
  blk := fun h ⟨_, e⟩ => rowT_cases h e
  set := fun ho h => ⟨own_sets' ho h.1 (by decide), own_sets' ho h.2.1 (by decide), h.2.2⟩

/-- A row of the call's own stays where a machine's variable is written to. -/
theorem own_setM {w : World} {B g i k n : Nat} {t : TypeId} {v u : Value} {us : List Value} {cs : Array Value} (hb : Box w g cs 29) (h : w.ownsRow B t k v n us) (ht : t ≠ 29) : (w.setCell ⟨g, i, none⟩ u).ownsRow B t k v n us := by
  refine ownsRow_setCell_other h (fun e => ?_) u
  rcases h.2 with ⟨e2, _⟩ | ⟨g', cap, cur, hv, _, hh, _⟩
  · rw [e2] at e; simp [Value.ownBlock] at e
  · rw [hv] at e
    simp [Value.ownBlock] at e
    subst e
    unfold Box at hb
    rw [hb] at hh
    simp at hh
    exact ht hh.2.symm
theorem EachR.setR {w : World} {B g i : Nat} {v u : Value} {zs : List Rg} {ys : List LR} {cs : Array Value} (h : EachR ringK InR bkR LR.R B w v zs ys) (hb : Box w g cs 29) : EachR ringK InR bkR LR.R B (w.setCell ⟨g, i, none⟩ u) v zs ys :=
  ⟨own_setM hb h.own (by decide), fun y hy => own_setM hb (h.inn y hy) (by decide), h.ap, h.same⟩
theorem EachR.setP {w : World} {B g i : Nat} {v u : Value} {zs : List Rp} {ys : List LP} {cs : Array Value} (h : EachR repK InP bkP LP.P B w v zs ys) (hb : Box w g cs 29) : EachR repK InP bkP LP.P B (w.setCell ⟨g, i, none⟩ u) v zs ys :=
  ⟨own_setM hb h.own (by decide), fun y hy => by have o := h.inn y hy; exact ⟨fun i hi => own_setM hb (o.s i hi) (by decide), own_setM hb o.c (by decide), own_setM hb o.l (by decide), o.a1, o.a2, o.a3⟩, h.ap, h.same⟩
theorem EachR.setT {w : World} {B g i : Nat} {v u : Value} {zs : List Th} {ys : List LT} {cs : Array Value} (h : EachR thK InT bkT LT.T B w v zs ys) (hb : Box w g cs 29) : EachR thK InT bkT LT.T B (w.setCell ⟨g, i, none⟩ u) v zs ys :=
  ⟨own_setM hb h.own (by decide), fun y hy => by have o := h.inn y hy; exact ⟨own_setM hb o.1 (by decide), own_setM hb o.2.1 (by decide), o.2.2⟩, h.ap, h.same⟩

/-- Copied logs, replicas, threads, one behind the other: a machine whose rows lie in blocks of their own. -/
theorem each_ownsM {w : World} {B B1 B2 : Nat} {c : Cfg} {qR qP qT qH : Sl} {Rs : List Rg} {Ps : List Rp} {Ts : List Th} {Es : List Ev} {yR : List LR} {yP : List LP} {yT : List LT} (hR : EachR ringK InR bkR LR.R B w (slV qR) Rs yR) (hP : EachR repK InP bkP LP.P B1 w (slV qP) Ps yP) (hT : EachR thK InT bkT LT.T B2 w (slV qT) Ts yT)
    (hH : OwnE evK w B (slV qH) Es) (h1 : B ≤ B1) (h2 : B1 ≤ B2) (hlt : ∀ y ∈ yP, ∀ g, bkP y g → g < B2) :
    let L : Lay := ⟨c, qR, qP, qT, qH, yR, yP, yT, Es⟩
    L.M = ⟨c, Rs, Ps, Ts, Es⟩ ∧ OwnsM w B L ∧ ApartM L := by
  intro L
  have hbp : ∀ i j g, (slV (L.at (.rep i j))).ownBlock = some g → i < yP.length ∧ bkP (yP.getD i repK.d) g := fun i j g e => by
    rcases Nat.lt_or_ge i yP.length with hi | hi
    · exact ⟨hi, j, e⟩
    · exfalso
      simp only [Lay.at, L] at e
      rw [getD_out hi] at e
      match j, e with
      | 0, e => cases e
      | 1, e => cases e
      | 2, e => cases e
      | 3, e => cases e
      | 4, e => cases e
      | 5, e => cases e
      | _ + 6, e => simp [LP.row, Value.ownBlock] at e
  have hbt : ∀ i j g, (slV (L.at (.th i j))).ownBlock = some g → i < yT.length ∧ bkT (yT.getD i thK.d) g := fun i j g e => by
    rcases Nat.lt_or_ge i yT.length with hi | hi
    · exact ⟨hi, j, e⟩
    · exfalso
      simp only [Lay.at, L] at e
      rw [getD_out hi] at e
      match j, e with
      | 0, e => cases e
      | 1, e => cases e
      | _ + 2, e => simp [LT.row, Value.ownBlock] at e
  refine ⟨?_, ⟨hR.own, hP.own.base h1, hT.own.base (Nat.le_trans h1 h2), hH, hR.inn, fun y hy => ?_, fun y hy => ?_⟩, ⟨fun i j hne g e1 e2 => ?_, fun p q hne hw n1 n2 g e1 e2 => ?_⟩⟩
  · show Lay.M L = _
    unfold Lay.M
    rw [hR.same, hP.same, hT.same]
  · have o := hP.inn y hy
    exact ⟨fun i hi => (o.s i hi).base h1, o.c.base h1, o.l.base h1⟩
  · have o := hT.inn y hy
    exact ⟨o.1.base (Nat.le_trans h1 h2), o.2.1.base (Nat.le_trans h1 h2)⟩
  · have hs : ∀ i, (slV (L.slots i)).ownBlock = some g → i < yR.length ∧ bkR (yR.getD i ringK.d) g := fun i e => by
      rcases Nat.lt_or_ge i yR.length with hi | hi
      · exact ⟨hi, e⟩
      · exfalso
        simp only [Lay.slots, L] at e
        rw [getD_out hi] at e
        cases e
    obtain ⟨a1, a2⟩ := hs i e1
    obtain ⟨b1, b2⟩ := hs j e2
    rcases Nat.lt_or_gt_of_ne hne with h | h
    · exact hR.ap j i b1 h g b2 a2
    · exact hR.ap i j a1 h g a2 b2
  · cases p with
    | rep i a =>
      obtain ⟨a1, a2⟩ := hbp i a g e1
      cases q with
      | rep j b =>
        obtain ⟨b1, b2⟩ := hbp j b g e2
        by_cases e : i = j
        · subst e
          have o := hP.inn _ (getD_mem (d := repK.d) a1)
          exact o.apart a b (fun e => hne (by rw [e])) (by simpa [Pos.wr] using hw) n1 n2 g e1 e2
        · rcases Nat.lt_or_gt_of_ne e with h | h
          · exact hP.ap j i b1 h g b2 a2
          · exact hP.ap i j a1 h g a2 b2
      | th j b =>
        obtain ⟨b1, b2⟩ := hbt j b g e2
        have := hlt _ (getD_mem (d := repK.d) a1) g a2
        have := (inT.blk (hT.inn _ (getD_mem (d := thK.d) b1)) b2).1
        omega
    | th i a =>
      obtain ⟨a1, a2⟩ := hbt i a g e1
      cases q with
      | rep j b =>
        obtain ⟨b1, b2⟩ := hbp j b g e2
        have := hlt _ (getD_mem (d := repK.d) b1) g b2
        have := (inT.blk (hT.inn _ (getD_mem (d := thK.d) a1)) a2).1
        omega
      | th j b =>
        obtain ⟨b1, b2⟩ := hbt j b g e2
        by_cases e : i = j
        · subst e
          have o := hT.inn _ (getD_mem (d := thK.d) a1)
          match a, b, e1, e2 with
          | 0, 0, _, _ => exact hne rfl
          | 1, 1, _, _ => exact hne rfl
          | 0, 1, e1, e2 => exact o.2.2 g e2 e1
          | 1, 0, e1, e2 => exact o.2.2 g e1 e2
          | _ + 2, _, e1, _ => simp [Lay.at, LT.row, Value.ownBlock] at e1
          | _, _ + 2, _, e2 => simp [Lay.at, LT.row, Value.ownBlock] at e2
        · rcases Nat.lt_or_gt_of_ne e with h | h
          · exact hT.ap j i b1 h g b2 a2
          · exact hT.ap i j a1 h g a2 b2

end Go.Proofs.YtkddgpdlpjjpbaaGreat

/-
  THE WALK over choruslaw0's SpoilMachine: it writes over the numbers of a machine of the call's own alone. No condition.
-/
namespace Go.Proofs.YtkddgpdlpjjpbaaGreat
open Go.RowKit

set_option maxHeartbeats 4000000 in
theorem lawSpoilMachine (v : Value) (base : Nat) (w : World) (hx : IntsM w base v) (hbase : base ≤ w.heap.size) :
    Calls Tryz.prog 16 #[v] w fun e w' => e = .returned (.tuple #[]) ∧ Spoilt base w w' := by
  obtain ⟨c, qR, qP, qT, qH, rfl, hR, hP, hT, hH⟩ := hx
  have hb := Box.new w (cells9 c qR qP qT qH) 29
  have hs0 : Spoilt base w (w.alloc (.cells (cells9 c qR qP qT qH) 29)) := Spoilt.le hbase (Le.alloc _ _)
  replace hR := hR.spoilt (fun _ _ h => h.spoilt hs0) hs0
  replace hP := hP.spoilt (fun _ _ h => h.spoilt hs0) hs0
  replace hT := hT.spoilt (fun _ _ h => h.spoilt hs0) hs0
  replace hH := hH.spoilt (fun _ _ h => h.spoilt hs0) hs0
  have hsz0 := Nat.le_trans hbase hs0.below.size
  obtain ⟨⟨_, _, _, _, _⟩, z5, z6, z7, z8⟩ := hb.mach
  have hev := lawSpoilEvents _ base _ hH
  clear hb
  generalize hW : w.alloc (.cells (cells9 c qR qP qT qH) 29) = W at *
  go_enter Tryz.func16, Tryz.ntmps16
  go_wp2_with fail
  refine hev.mono ?_
  rintro e w1 ⟨rfl, s1⟩
  clear hev hH
  obtain ⟨aR, nR, cR⟩ := qR
  obtain ⟨aP, nP, cP⟩ := qP
  obtain ⟨aT, nT, cT⟩ := qT
  simp only [slV] at z5 z6 z7 hR hP hT
  have y5 := s1.sl (q := (aR, nR, cR)) z5
  simp only [slV] at y5
  go_wp2_with fail
  go_loopw [2] (fun i wr => ∃ k : Nat, k ≤ nR ∧ i = .int .i64 k ∧ Spoilt base W wr) (fun i _ => nR - (intOf i).toNat)
  case atStart => exact ⟨0, Nat.zero_le _, rfl, s1⟩
  case round =>
    obtain ⟨k, hk, rfl, hsp⟩ := hrel
    clear y5 s1 w1
    have y5 := hsp.sl (q := (aR, nR, cR)) z5
    simp only [slV] at y5
    have hsz := Nat.le_trans hsz0 hsp.below.size
    by_cases hlt : k < nR
    · obtain ⟨a', n', c', hv, hnc, hm, hx⟩ := hR
      simp only [Value.slice.injEq] at hv
      obtain ⟨rfl, rfl, rfl⟩ := hv
      obtain ⟨b, off, rfl, hbb, hcell⟩ := hx (by omega)
      obtain ⟨⟨R, q, ⟨r0, r1, r2, r3⟩, hi⟩, hfz⟩ := (hcell k hlt).spoilt hsp
      have hsr := lawSpoilRing (ringV R.h R.t R.f q) base _ ⟨_, _, _, _, rfl, hi⟩ hsz
      have hlt' : (k : Int) < (nR : Int) := by omega
      have hk0 : (0 : Int) ≤ (k : Int) := by omega
      clear hP hT z6 z7 z8 hx
      go_wp2_with fail
      refine hsr.mono ?_
      rintro e w2 ⟨rfl, s2⟩
      have hsp2 := hsp.trans s2
      obtain ⟨⟨R', q', ⟨r0', r1', r2', r3'⟩, hi'⟩, hfz'⟩ := (hcell k hlt).spoilt hsp2
      have y5' := s2.sl (q := (some ⟨b, off, none⟩, nR, cR)) y5
      simp only [slV] at y5'
      clear hcell r0 r1 r2 r3 hi hfz hsr y5 hsp s2 r0' r2' r3' hi' z5
      generalize R'.t = x at r1'
      go_wp2_with fail
      go_region
      go_wp2_with fail
      go_roundw
      case rel => exact ⟨k + 1, by omega, by go_num, hsp2.trans ((Spoilt.le (Nat.le_trans hsz0 hsp2.below.size) (Le.drew _)).trans (Spoilt.store r1' hbb))⟩
      case measure => simp [intOf]; omega
    · clear hR
      have y6 := hsp.sl (q := (aP, nP, cP)) z6
      simp only [slV] at y6
      go_wp2_with fail
      go_loopw [3] (fun i wr => ∃ k : Nat, k ≤ nP ∧ i = .int .i64 k ∧ Spoilt base W wr) (fun i _ => nP - (intOf i).toNat)
      case atStart => exact ⟨0, Nat.zero_le _, rfl, hsp⟩
      case round =>
        obtain ⟨j, hj, rfl, hsp'⟩ := hrel
        clear y5 y6 hsz hsp hlt hk
        rename_i _ wq
        have y6 := hsp'.sl (q := (aP, nP, cP)) z6
        simp only [slV] at y6
        have hsz := Nat.le_trans hsz0 hsp'.below.size
        by_cases hlt : j < nP
        · obtain ⟨a', n', c', hv, hnc, hm, hx⟩ := hP
          simp only [Value.slice.injEq] at hv
          obtain ⟨rfl, rfl, rfl⟩ := hv
          obtain ⟨b, off, rfl, hbb, hcell⟩ := hx (by omega)
          have hlt' : (j : Int) < (nP : Int) := by omega
          have hj0 : (0 : Int) ≤ (j : Int) := by omega
          clear hT z5 z7 z8 hx
          obtain ⟨vs, cc, ll, ⟨r0, r1, r2, r3, r4, r5⟩, i0, i1, i2⟩ := (hcell j hlt).spoilt hsp'
          have hsr := lawSpoilState (stV vs) base _ ⟨vs, rfl, i0⟩ hsz
          go_wp2_with fail
          refine hsr.mono ?_
          rintro e w2 ⟨rfl, s2⟩
          have hsr2 := lawSpoil _ base _ (i1.spoilt s2)
          have r4' := s2.sl r4
          have y6' := s2.sl (q := (some ⟨b, off, none⟩, nP, cP)) y6
          simp only [slV] at y6'
          go_wp2_with fail
          refine hsr2.mono ?_
          rintro e w3 ⟨rfl, s3⟩
          have hsr3 := lawSpoil _ base _ ((i2.spoilt s2).spoilt s3)
          have r5' := s3.sl (s2.sl r5)
          have y6'' := s3.sl (q := (some ⟨b, off, none⟩, nP, cP)) y6'
          simp only [slV] at y6''
          go_wp2_with fail
          refine hsr3.mono ?_
          rintro e w4 ⟨rfl, s4⟩
          go_wp2_with fail
          go_roundw
          case rel => exact ⟨j + 1, by omega, by go_num, ((hsp'.trans s2).trans s3).trans s4⟩
          case measure => simp [intOf]; omega
        · clear hP
          have y7 := hsp'.sl (q := (aT, nT, cT)) z7
          simp only [slV] at y7
          go_wp2_with fail
          go_loopw [4] (fun i wr => ∃ k : Nat, k ≤ nT ∧ i = .int .i64 k ∧ Spoilt base W wr) (fun i _ => nT - (intOf i).toNat)
          case atStart => exact ⟨0, Nat.zero_le _, rfl, hsp'⟩
          case round =>
            obtain ⟨i, hi, rfl, hsp⟩ := hrel
            clear y6 y7 hsz hsp' hlt hj
            have y7 := hsp.sl (q := (aT, nT, cT)) z7
            simp only [slV] at y7
            have hsz := Nat.le_trans hsz0 hsp.below.size
            by_cases hlt : i < nT
            · obtain ⟨a', n', c', hv, hnc, hm, hx⟩ := hT
              simp only [Value.slice.injEq] at hv
              obtain ⟨rfl, rfl, rfl⟩ := hv
              obtain ⟨b, off, rfl, hbb, hcell⟩ := hx (by omega)
              have hlt' : (i : Int) < (nT : Int) := by omega
              have hi0 : (0 : Int) ≤ (i : Int) := by omega
              clear z5 z6 z8 hx
              obtain ⟨⟨T, q, t, ⟨_, _, _, _, _, _, r6, _, _, _, _, r11⟩, i0, i1⟩, _⟩ := (hcell i hlt).spoilt hsp
              have hsr := lawSpoil _ base _ i0
              go_wp2_with fail
              refine hsr.mono ?_
              rintro e w2 ⟨rfl, s2⟩
              have hsr2 := lawSpoil _ base _ (i1.spoilt s2)
              have r11' := s2.sl r11
              have y7' := s2.sl (q := (some ⟨b, off, none⟩, nT, cT)) y7
              simp only [slV] at y7'
              go_wp2_with fail
              refine hsr2.mono ?_
              rintro e w3 ⟨rfl, s3⟩
              have hsp3 := (hsp.trans s2).trans s3
              obtain ⟨⟨T', q', t', ⟨r0, _⟩, _⟩, hfz⟩ := (hcell i hlt).spoilt hsp3
              have y7'' := s3.sl (q := (some ⟨b, off, none⟩, nT, cT)) y7'
              simp only [slV] at y7''
              clear hcell hsr hsr2 y7 y7' hsp s2 s3 r6 r11 r11' i0 i1 z7
              generalize T'.st = x at r0
              go_wp2_with fail
              go_region
              go_wp2_with fail
              go_roundw
              case rel => exact ⟨i + 1, by omega, by go_num, hsp3.trans ((Spoilt.le (Nat.le_trans hsz0 hsp3.below.size) (Le.drew _)).trans (Spoilt.store r0 hbb))⟩
              case measure => simp [intOf]; omega
            · clear hT
              go_wp2_with fail
              go_end0
              exact ⟨rfl, hs0.trans hsp⟩

end Go.Proofs.YtkddgpdlpjjpbaaGreat

/-
  THE WALKS over package lists' CopyEach at logs, replicas, threads, and package machines' Copy: the same machine, each of its rows in a block of its own. Condition: that the rows can be copied.
-/
namespace Go.Proofs.YtkddgpdlpjjpbaaGreat
open Go.RowKit

set_option maxRecDepth 4000 in
set_option maxHeartbeats 2000000 in
theorem copyEachR (v : Value) (xs : List LR) (w : World) (hx : HasE ringK w v xs) (hq : ∀ x ∈ xs, HasL w (slV x.q) x.R.ss) (hfe : ∀ x ∈ xs, FitR x.R) (hf : xs.length * 48 ≤ 140737488351232) :
    Calls Tryz.prog 62 #[v, .func (.func 63) #[] #[]] w fun e w' => ∃ (q : Sl) (ys : List LR), e = .returned (slV q) ∧ EachR ringK InR bkR LR.R w.heap.size w' (slV q) (xs.map LR.R) ys ∧ Le w w' := by
  have hc : ∀ (u : Value) (w : World), (callFunc 63 #[u]).run Tryz.prog w = .ok (.enter 63 #[u]) w := fun _ _ => by kernel_rfl
  have m0 := listsCopyR v xs w hx hf
  by_cases h0 : 0 < xs.length
  · obtain ⟨L, hL⟩ : ∃ L, L = xs.length := ⟨_, rfl⟩
    have HL : Hid (L = xs.length) := hL
    have hm : L ≤ 9223372036854775807 := by omega
    have h0' : 0 < L := by omega
    go_enter Tryz.func62, Tryz.ntmps62
    go_wp2_with fail
    refine m0.mono ?_
    rintro e w1 ⟨q, rfl, oq, l1⟩
    clear m0
    obtain ⟨gq, cap, hqv, hcap, hgq, hgl⟩ := oq.shape h0
    have hqs : q = (some ⟨gq, 0, none⟩, L, cap) := by
      simp only [slV, Value.slice.injEq] at hqv
      obtain ⟨a, b, c⟩ := hqv
      rw [hL]
      exact Prod.ext a (Prod.ext b c)
    subst hqs
    have I0 : EachI ringK InR bkR LR.R w w1 (.slice (some ⟨gq, 0, none⟩) L cap) xs [] := EachI.start oq l1
    rw [← hL] at hcap
    clear oq hqv hL hf
    simp only [slV]
    go_wp2_with fail
    go_loopw [12] (fun i wr => ∃ (k : Nat) (ys : List LR), k ≤ L ∧ i = .int .i64 k ∧ Hid (ys.length = k) ∧ EachI ringK InR bkR LR.R w wr (.slice (some ⟨gq, 0, none⟩) L cap) xs ys) (fun i _ => L - (intOf i).toNat)
    case atStart => exact ⟨0, [], by omega, rfl, rfl, I0⟩
    case round =>
      clear I0
      obtain ⟨k, ys, hk, rfl, HK, I⟩ := hrel
      by_cases hlt : k < L
      · have hlt' : (k : Int) < (L : Int) := by omega
        have hkx : k < xs.length := by have := HL.out; omega
        obtain ⟨x0, hx0⟩ : ∃ x, x = xs.getD k ringK.d := ⟨_, rfl⟩
        have HX : Hid (x0 = xs.getD k ringK.d) := hx0
        have hmem : x0 ∈ xs := by rw [hx0]; exact getD_mem hkx
        obtain ⟨a', c', hv', _, _, hcell⟩ := I.own.has
        obtain ⟨b', off', ha', hcell⟩ := hcell (by have := HK.out; simp; omega)
        simp only [Value.slice.injEq] at hv'
        rw [ha'] at hv'
        simp only [Option.some.injEq, Addr.mk.injEq, and_true] at hv'
        obtain ⟨⟨hgb, hoff⟩, hjunk⟩ := hv'
        have hck := hcell k (by have := HK.out; simp; omega)
        have hget : (ys ++ xs.drop ys.length).getD k ringK.d = x0 := by
          rw [hx0, HK.out]
          simp only [List.getD]
          rw [List.getElem?_append_right (by have := HK.out; omega), List.getElem?_drop]
          congr 2
          have := HK.out
          omega
        rw [hget, ← hgb, ← hoff] at hck
        simp only [Nat.zero_add] at hck
        clear hcell hget hgb hoff ha' hx0 hjunk
        have hrow := (hq x0 hmem)
        have hfx := hfe x0 hmem
        obtain ⟨X, qx⟩ := x0
        simp only at hrow hfx
        have rA : RingAt wr gq (k * 4) X qx := ⟨hck 0 (by decide), hck 1 (by decide), hck 2 (by decide), hck 3 (by decide)⟩
        obtain ⟨x0, x1, x2, x3⟩ := rA
        simp only [FitR] at hfx
        have hbx := Box.new wr (cellsR X.h X.t X.f qx) 67
        have hA := Le.alloc wr (.cells (cellsR X.h X.t X.f qx) 67)
        clear hck
        go_upto_region 5 with fail
        generalize hW : wr.alloc (.cells (cellsR X.h X.t X.f qx) 67) = wq at hbx hA ⊢
        generalize hgx : wr.heap.size = gx at hbx ⊢
        clear hW x0 x1 x2 x3
        obtain ⟨z0, z1, z2, z3, _, _, _, _⟩ := hbx.ring
        have m1 := machCopyRing X.h X.t X.f qx X.ss wq ((hrow.le I.le).le hA) hfx
        go_wp2_with fail
        refine m1.mono ?_
        rintro e w2 ⟨u, rfl, ou, l2⟩
        clear m1 hbx z0 z1 z2 z3
        have I2 := I.own.le (hA.trans l2)
        have IN := I.next inR (by have := HK.out; omega) (hA.trans l2) (y := (⟨X, u⟩ : LR)) (show InR w2 wq.heap.size ⟨X, u⟩ from ou) hA.size (by rw [HK.out, ← HX.out])
        have f0 := I2.frozen (k * 4)
        have f1 := I2.frozen (k * 4 + 1)
        have f2 := I2.frozen (k * 4 + 2)
        have f3 := I2.frozen (k * 4 + 3)
        have hsz : ∀ j, j < 4 → ∃ u, w2.cell? ⟨gq, k * 4 + j, none⟩ = some u := ownE_cells I2 (i := k) (by have := HK.out; simp; omega)
        obtain ⟨y0, hy0⟩ := hsz 0 (by decide)
        obtain ⟨y1, hy1⟩ := hsz 1 (by decide)
        obtain ⟨y2, hy2⟩ := hsz 2 (by decide)
        obtain ⟨y3, hy3⟩ := hsz 3 (by decide)
        simp only [Nat.add_zero] at hy0
        rw [HK.out, show ringK.k = 4 from rfl] at IN
        clear hsz I2 hgx
        go_upto_region 6 with fail
        show Code.wp _ _ _ _ (setsW gq (k * 4) w2 0 (ringK.f (⟨X, u⟩ : LR)))
        generalize setsW gq (k * 4) w2 0 (ringK.f (⟨X, u⟩ : LR)) = w3 at IN ⊢
        clear hy0 hy1 hy2 hy3 f0 f1 f2 f3
        go_wp2_with fail
        go_roundw
        case rel => exact ⟨k + 1, _, by omega, by go_num, hid (by have := HK.out; simp only [List.length_append, List.length_cons, List.length_nil]; omega), IN⟩
        case measure => simp [intOf]; omega
      · obtain rfl : k = L := by omega
        have hR := I.done (by rw [HK.out, ← HL.out])
        have hle := I.le
        clear I
        go_wp2_with fail
        go_ret
        exact ⟨(some ⟨gq, 0, none⟩, k, cap), ys, rfl, hR, hle⟩
  · have hxn : xs = [] := by cases xs with | nil => rfl | cons _ _ => simp at h0
    subst hxn
    go_enter Tryz.func62, Tryz.ntmps62
    go_wp2_with fail
    refine m0.mono ?_
    rintro e w1 ⟨q, rfl, oq, l1⟩
    have hz : q.2.1 = 0 := oq.has.len
    obtain ⟨qa, qn, qcap⟩ := q
    simp only at hz
    subst hz
    go_wp2_with fail
    refine wp_loop_rounds 1 ?_
    rw [rounds_succ]
    go_wp2_with fail
    go_ret
    exact ⟨_, [], rfl, EachI.done (EachI.start oq l1) rfl, l1⟩

set_option maxRecDepth 4000 in
set_option maxHeartbeats 2000000 in
theorem copyEachP (v : Value) (xs : List LP) (w : World) (hx : HasE repK w v xs) (hq : ∀ x ∈ xs, (∀ i, i < 4 → Has w (slV (x.vs i)) (x.P.s.at i)) ∧ Has w (slV x.c) x.P.cs ∧ Has w (slV x.l) x.P.ls) (hfe : ∀ x ∈ xs, Fit x.P.s ∧ x.P.cs.length * 8 ≤ 140737488351232 ∧ x.P.ls.length * 8 ≤ 140737488351232) (hf : xs.length * 144 ≤ 140737488351232) :
    Calls Tryz.prog 64 #[v, .func (.func 65) #[] #[]] w fun e w' => ∃ (q : Sl) (ys : List LP), e = .returned (slV q) ∧ EachR repK InP bkP LP.P w.heap.size w' (slV q) (xs.map LP.P) ys ∧ Le w w' := by
  have hc : ∀ (u : Value) (w : World), (callFunc 65 #[u]).run Tryz.prog w = .ok (.enter 65 #[u]) w := fun _ _ => by kernel_rfl
  have m0 := listsCopyP v xs w hx hf
  by_cases h0 : 0 < xs.length
  · obtain ⟨L, hL⟩ : ∃ L, L = xs.length := ⟨_, rfl⟩
    have HL : Hid (L = xs.length) := hL
    have hm : L ≤ 9223372036854775807 := by omega
    have h0' : 0 < L := by omega
    go_enter Tryz.func64, Tryz.ntmps64
    go_wp2_with fail
    refine m0.mono ?_
    rintro e w1 ⟨q, rfl, oq, l1⟩
    clear m0
    obtain ⟨gq, cap, hqv, hcap, hgq, hgl⟩ := oq.shape h0
    have hqs : q = (some ⟨gq, 0, none⟩, L, cap) := by
      simp only [slV, Value.slice.injEq] at hqv
      obtain ⟨a, b, c⟩ := hqv
      rw [hL]
      exact Prod.ext a (Prod.ext b c)
    subst hqs
    have I0 : EachI repK InP bkP LP.P w w1 (.slice (some ⟨gq, 0, none⟩) L cap) xs [] := EachI.start oq l1
    rw [← hL] at hcap
    clear oq hqv hL hf
    simp only [slV]
    go_wp2_with fail
    go_loopw [12] (fun i wr => ∃ (k : Nat) (ys : List LP), k ≤ L ∧ i = .int .i64 k ∧ Hid (ys.length = k) ∧ EachI repK InP bkP LP.P w wr (.slice (some ⟨gq, 0, none⟩) L cap) xs ys) (fun i _ => L - (intOf i).toNat)
    case atStart => exact ⟨0, [], by omega, rfl, rfl, I0⟩
    case round =>
      clear I0
      obtain ⟨k, ys, hk, rfl, HK, I⟩ := hrel
      by_cases hlt : k < L
      · have hlt' : (k : Int) < (L : Int) := by omega
        have hkx : k < xs.length := by have := HL.out; omega
        obtain ⟨x0, hx0⟩ : ∃ x, x = xs.getD k repK.d := ⟨_, rfl⟩
        have HX : Hid (x0 = xs.getD k repK.d) := hx0
        have hmem : x0 ∈ xs := by rw [hx0]; exact getD_mem hkx
        obtain ⟨a', c', hv', _, _, hcell⟩ := I.own.has
        obtain ⟨b', off', ha', hcell⟩ := hcell (by have := HK.out; simp; omega)
        simp only [Value.slice.injEq] at hv'
        rw [ha'] at hv'
        simp only [Option.some.injEq, Addr.mk.injEq, and_true] at hv'
        obtain ⟨⟨hgb, hoff⟩, hjunk⟩ := hv'
        have hck := hcell k (by have := HK.out; simp; omega)
        have hget : (ys ++ xs.drop ys.length).getD k repK.d = x0 := by
          rw [hx0, HK.out]
          simp only [List.getD]
          rw [List.getElem?_append_right (by have := HK.out; omega), List.getElem?_drop]
          congr 2
          have := HK.out
          omega
        rw [hget, ← hgb, ← hoff] at hck
        simp only [Nat.zero_add] at hck
        clear hcell hget hgb hoff ha' hx0 hjunk
        have hrow := (hq x0 hmem)
        have hfx := hfe x0 hmem
        obtain ⟨X, vx, cx, lx⟩ := x0
        simp only at hrow hfx
        have rA : RepAt wr gq (k * 6) vx cx lx := ⟨hck 0 (by decide), hck 1 (by decide), hck 2 (by decide), hck 3 (by decide), hck 4 (by decide), hck 5 (by decide)⟩
        obtain ⟨x0, x1, x2, x3, x4, x5⟩ := rA
        have hbx := Box.new wr (cellsP vx cx lx) 73
        have hA := Le.alloc wr (.cells (cellsP vx cx lx) 73)
        clear hck
        go_upto_region 5 with fail
        generalize hW : wr.alloc (.cells (cellsP vx cx lx) 73) = wq at hbx hA ⊢
        generalize hgx : wr.heap.size = gx at hbx ⊢
        clear hW x0 x1 x2 x3 x4 x5
        obtain ⟨z0, z1, z2, z3, z4, z5⟩ := hbx.rep
        have m1 := machCopyReplica X vx cx lx wq (fun i hi => ((hrow.1 i hi).le I.le).le hA) ((hrow.2.1.le I.le).le hA) ((hrow.2.2.le I.le).le hA) hfx.1 hfx.2.1 hfx.2.2
        go_wp2_with fail
        refine m1.mono ?_
        rintro e w2 ⟨ux, u1, u2, rfl, ou, l2⟩
        clear m1 hbx z0 z1 z2 z3 z4 z5
        have I2 := I.own.le (hA.trans l2)
        have IN := I.next inP (by have := HK.out; omega) (hA.trans l2) (y := (⟨X, ux, u1, u2⟩ : LP)) (show InP w2 wq.heap.size ⟨X, ux, u1, u2⟩ from ou) hA.size (by rw [HK.out, ← HX.out])
        have f0 := I2.frozen (k * 6)
        have f1 := I2.frozen (k * 6 + 1)
        have f2 := I2.frozen (k * 6 + 2)
        have f3 := I2.frozen (k * 6 + 3)
        have f4 := I2.frozen (k * 6 + 4)
        have f5 := I2.frozen (k * 6 + 5)
        have hsz : ∀ j, j < 6 → ∃ u, w2.cell? ⟨gq, k * 6 + j, none⟩ = some u := ownE_cells I2 (i := k) (by have := HK.out; simp; omega)
        obtain ⟨y0, hy0⟩ := hsz 0 (by decide)
        obtain ⟨y1, hy1⟩ := hsz 1 (by decide)
        obtain ⟨y2, hy2⟩ := hsz 2 (by decide)
        obtain ⟨y3, hy3⟩ := hsz 3 (by decide)
        obtain ⟨y4, hy4⟩ := hsz 4 (by decide)
        obtain ⟨y5, hy5⟩ := hsz 5 (by decide)
        simp only [Nat.add_zero] at hy0
        rw [HK.out, show repK.k = 6 from rfl] at IN
        clear hsz I2 hgx
        go_upto_region 6 with fail
        show Code.wp _ _ _ _ (setsW gq (k * 6) w2 0 (repK.f (⟨X, ux, u1, u2⟩ : LP)))
        generalize setsW gq (k * 6) w2 0 (repK.f (⟨X, ux, u1, u2⟩ : LP)) = w3 at IN ⊢
        clear hy0 hy1 hy2 hy3 hy4 hy5 f0 f1 f2 f3 f4 f5
        go_wp2_with fail
        go_roundw
        case rel => exact ⟨k + 1, _, by omega, by go_num, hid (by have := HK.out; simp only [List.length_append, List.length_cons, List.length_nil]; omega), IN⟩
        case measure => simp [intOf]; omega
      · obtain rfl : k = L := by omega
        have hR := I.done (by rw [HK.out, ← HL.out])
        have hle := I.le
        clear I
        go_wp2_with fail
        go_ret
        exact ⟨(some ⟨gq, 0, none⟩, k, cap), ys, rfl, hR, hle⟩
  · have hxn : xs = [] := by cases xs with | nil => rfl | cons _ _ => simp at h0
    subst hxn
    go_enter Tryz.func64, Tryz.ntmps64
    go_wp2_with fail
    refine m0.mono ?_
    rintro e w1 ⟨q, rfl, oq, l1⟩
    have hz : q.2.1 = 0 := oq.has.len
    obtain ⟨qa, qn, qcap⟩ := q
    simp only at hz
    subst hz
    go_wp2_with fail
    refine wp_loop_rounds 1 ?_
    rw [rounds_succ]
    go_wp2_with fail
    go_ret
    exact ⟨_, [], rfl, EachI.done (EachI.start oq l1) rfl, l1⟩

set_option maxRecDepth 4000 in
set_option maxHeartbeats 2000000 in
theorem copyEachT (v : Value) (xs : List LT) (w : World) (hx : HasE thK w v xs) (hq : ∀ x ∈ xs, Has w (slV x.b) x.T.b ∧ Has w (slV x.t) x.T.tl) (hfe : ∀ x ∈ xs, x.T.b.length * 8 ≤ 140737488351232 ∧ x.T.tl.length * 8 ≤ 140737488351232) (hf : xs.length * 120 ≤ 140737488351232) :
    Calls Tryz.prog 66 #[v, .func (.func 67) #[] #[]] w fun e w' => ∃ (q : Sl) (ys : List LT), e = .returned (slV q) ∧ EachR thK InT bkT LT.T w.heap.size w' (slV q) (xs.map LT.T) ys ∧ Le w w' := by
  have hc : ∀ (u : Value) (w : World), (callFunc 67 #[u]).run Tryz.prog w = .ok (.enter 67 #[u]) w := fun _ _ => by kernel_rfl
  have m0 := listsCopyT v xs w hx hf
  by_cases h0 : 0 < xs.length
  · obtain ⟨L, hL⟩ : ∃ L, L = xs.length := ⟨_, rfl⟩
    have HL : Hid (L = xs.length) := hL
    have hm : L ≤ 9223372036854775807 := by omega
    have h0' : 0 < L := by omega
    go_enter Tryz.func66, Tryz.ntmps66
    go_wp2_with fail
    refine m0.mono ?_
    rintro e w1 ⟨q, rfl, oq, l1⟩
    clear m0
    obtain ⟨gq, cap, hqv, hcap, hgq, hgl⟩ := oq.shape h0
    have hqs : q = (some ⟨gq, 0, none⟩, L, cap) := by
      simp only [slV, Value.slice.injEq] at hqv
      obtain ⟨a, b, c⟩ := hqv
      rw [hL]
      exact Prod.ext a (Prod.ext b c)
    subst hqs
    have I0 : EachI thK InT bkT LT.T w w1 (.slice (some ⟨gq, 0, none⟩) L cap) xs [] := EachI.start oq l1
    rw [← hL] at hcap
    clear oq hqv hL hf
    simp only [slV]
    go_wp2_with fail
    go_loopw [12] (fun i wr => ∃ (k : Nat) (ys : List LT), k ≤ L ∧ i = .int .i64 k ∧ Hid (ys.length = k) ∧ EachI thK InT bkT LT.T w wr (.slice (some ⟨gq, 0, none⟩) L cap) xs ys) (fun i _ => L - (intOf i).toNat)
    case atStart => exact ⟨0, [], by omega, rfl, rfl, I0⟩
    case round =>
      clear I0
      obtain ⟨k, ys, hk, rfl, HK, I⟩ := hrel
      by_cases hlt : k < L
      · have hlt' : (k : Int) < (L : Int) := by omega
        have hkx : k < xs.length := by have := HL.out; omega
        obtain ⟨x0, hx0⟩ : ∃ x, x = xs.getD k thK.d := ⟨_, rfl⟩
        have HX : Hid (x0 = xs.getD k thK.d) := hx0
        have hmem : x0 ∈ xs := by rw [hx0]; exact getD_mem hkx
        obtain ⟨a', c', hv', _, _, hcell⟩ := I.own.has
        obtain ⟨b', off', ha', hcell⟩ := hcell (by have := HK.out; simp; omega)
        simp only [Value.slice.injEq] at hv'
        rw [ha'] at hv'
        simp only [Option.some.injEq, Addr.mk.injEq, and_true] at hv'
        obtain ⟨⟨hgb, hoff⟩, hjunk⟩ := hv'
        have hck := hcell k (by have := HK.out; simp; omega)
        have hget : (ys ++ xs.drop ys.length).getD k thK.d = x0 := by
          rw [hx0, HK.out]
          simp only [List.getD]
          rw [List.getElem?_append_right (by have := HK.out; omega), List.getElem?_drop]
          congr 2
          have := HK.out
          omega
        rw [hget, ← hgb, ← hoff] at hck
        simp only [Nat.zero_add] at hck
        clear hcell hget hgb hoff ha' hx0 hjunk
        have hrow := (hq x0 hmem)
        have hfx := hfe x0 hmem
        obtain ⟨X, bx, tx⟩ := x0
        simp only at hrow hfx
        have rA : ThAt wr gq (k * 12) X bx tx := ⟨hck 0 (by decide), hck 1 (by decide), hck 2 (by decide), hck 3 (by decide), hck 4 (by decide), hck 5 (by decide), hck 6 (by decide), hck 7 (by decide), hck 8 (by decide), hck 9 (by decide), hck 10 (by decide), hck 11 (by decide)⟩
        obtain ⟨x0, x1, x2, x3, x4, x5, x6, x7, x8, x9, x10, x11⟩ := rA
        have hbx := Box.new wr (cellsT X bx tx) 63
        have hA := Le.alloc wr (.cells (cellsT X bx tx) 63)
        clear hck
        go_upto_region 5 with fail
        generalize hW : wr.alloc (.cells (cellsT X bx tx) 63) = wq at hbx hA ⊢
        generalize hgx : wr.heap.size = gx at hbx ⊢
        clear hW x0 x1 x2 x3 x4 x5 x6 x7 x8 x9 x10 x11
        obtain ⟨z0, z1, z2, z3, z4, z5, z6, z7, z8, z9, z10, z11⟩ := hbx.th
        have m1 := machCopyThread X bx tx wq ((hrow.1.le I.le).le hA) ((hrow.2.le I.le).le hA) hfx.1 hfx.2
        go_wp2_with fail
        refine m1.mono ?_
        rintro e w2 ⟨u1, u2, rfl, o1, o2, ap, l2⟩
        clear m1 hbx z0 z1 z2 z3 z4 z5 z6 z7 z8 z9 z10 z11
        have I2 := I.own.le (hA.trans l2)
        have IN := I.next inT (by have := HK.out; omega) (hA.trans l2) (y := (⟨X, u1, u2⟩ : LT)) (show InT w2 wq.heap.size ⟨X, u1, u2⟩ from ⟨o1, o2, ap⟩) hA.size (by rw [HK.out, ← HX.out])
        have f0 := I2.frozen (k * 12)
        have f1 := I2.frozen (k * 12 + 1)
        have f2 := I2.frozen (k * 12 + 2)
        have f3 := I2.frozen (k * 12 + 3)
        have f4 := I2.frozen (k * 12 + 4)
        have f5 := I2.frozen (k * 12 + 5)
        have f6 := I2.frozen (k * 12 + 6)
        have f7 := I2.frozen (k * 12 + 7)
        have f8 := I2.frozen (k * 12 + 8)
        have f9 := I2.frozen (k * 12 + 9)
        have f10 := I2.frozen (k * 12 + 10)
        have f11 := I2.frozen (k * 12 + 11)
        have hsz : ∀ j, j < 12 → ∃ u, w2.cell? ⟨gq, k * 12 + j, none⟩ = some u := ownE_cells I2 (i := k) (by have := HK.out; simp; omega)
        obtain ⟨y0, hy0⟩ := hsz 0 (by decide)
        obtain ⟨y1, hy1⟩ := hsz 1 (by decide)
        obtain ⟨y2, hy2⟩ := hsz 2 (by decide)
        obtain ⟨y3, hy3⟩ := hsz 3 (by decide)
        obtain ⟨y4, hy4⟩ := hsz 4 (by decide)
        obtain ⟨y5, hy5⟩ := hsz 5 (by decide)
        obtain ⟨y6, hy6⟩ := hsz 6 (by decide)
        obtain ⟨y7, hy7⟩ := hsz 7 (by decide)
        obtain ⟨y8, hy8⟩ := hsz 8 (by decide)
        obtain ⟨y9, hy9⟩ := hsz 9 (by decide)
        obtain ⟨y10, hy10⟩ := hsz 10 (by decide)
        obtain ⟨y11, hy11⟩ := hsz 11 (by decide)
        simp only [Nat.add_zero] at hy0
        rw [HK.out, show thK.k = 12 from rfl] at IN
        clear hsz I2 hgx
        go_upto_region 6 with fail
        show Code.wp _ _ _ _ (setsW gq (k * 12) w2 0 (thK.f (⟨X, u1, u2⟩ : LT)))
        generalize setsW gq (k * 12) w2 0 (thK.f (⟨X, u1, u2⟩ : LT)) = w3 at IN ⊢
        clear hy0 hy1 hy2 hy3 hy4 hy5 hy6 hy7 hy8 hy9 hy10 hy11 f0 f1 f2 f3 f4 f5 f6 f7 f8 f9 f10 f11
        go_wp2_with fail
        go_roundw
        case rel => exact ⟨k + 1, _, by omega, by go_num, hid (by have := HK.out; simp only [List.length_append, List.length_cons, List.length_nil]; omega), IN⟩
        case measure => simp [intOf]; omega
      · obtain rfl : k = L := by omega
        have hR := I.done (by rw [HK.out, ← HL.out])
        have hle := I.le
        clear I
        go_wp2_with fail
        go_ret
        exact ⟨(some ⟨gq, 0, none⟩, k, cap), ys, rfl, hR, hle⟩
  · have hxn : xs = [] := by cases xs with | nil => rfl | cons _ _ => simp at h0
    subst hxn
    go_enter Tryz.func66, Tryz.ntmps66
    go_wp2_with fail
    refine m0.mono ?_
    rintro e w1 ⟨q, rfl, oq, l1⟩
    have hz : q.2.1 = 0 := oq.has.len
    obtain ⟨qa, qn, qcap⟩ := q
    simp only at hz
    subst hz
    go_wp2_with fail
    refine wp_loop_rounds 1 ?_
    rw [rounds_succ]
    go_wp2_with fail
    go_ret
    exact ⟨_, [], rfl, EachI.done (EachI.start oq l1) rfl, l1⟩

end Go.Proofs.YtkddgpdlpjjpbaaGreat

/-
  THE WALK over package machines' Copy: the same machine, each of its rows in a block of its own. Condition: that the machine's rows can be copied.
-/
namespace Go.Proofs.YtkddgpdlpjjpbaaGreat
open Go.RowKit

theorem Box.mset5 {w : World} {g : Nat} {c : Cfg} {a b d e q : Sl} {ty : TypeId} (h : Box w g (cells9 c a b d e) ty) : Box (w.setCell ⟨g, 5, none⟩ (slV q)) g (cells9 c q b d e) ty := h.set 5 _
theorem Box.mset6 {w : World} {g : Nat} {c : Cfg} {a b d e q : Sl} {ty : TypeId} (h : Box w g (cells9 c a b d e) ty) : Box (w.setCell ⟨g, 6, none⟩ (slV q)) g (cells9 c a q d e) ty := h.set 6 _
theorem Box.mset7 {w : World} {g : Nat} {c : Cfg} {a b d e q : Sl} {ty : TypeId} (h : Box w g (cells9 c a b d e) ty) : Box (w.setCell ⟨g, 7, none⟩ (slV q)) g (cells9 c a b q e) ty := h.set 7 _
theorem Box.mset8 {w : World} {g : Nat} {c : Cfg} {a b d e q : Sl} {ty : TypeId} (h : Box w g (cells9 c a b d e) ty) : Box (w.setCell ⟨g, 8, none⟩ (slV q)) g (cells9 c a b d q) ty := h.set 8 _

set_option maxRecDepth 8000 in
set_option maxHeartbeats 8000000 in
theorem machCopy (v : Value) (M : Mc) (w : World) (hx : HasM w v M) (hf : FitM M) :
    Calls Tryz.prog 34 #[v] w fun e w' => ∃ L : Lay, e = .returned L.v ∧ L.M = M ∧ OwnsM w' w.heap.size L ∧ ApartM L ∧ Le w w' := by
  obtain ⟨c, Rs, Ps, Ts, Es⟩ := M
  obtain ⟨qR, qP, qT, qH, rfl, ⟨xR, hxR, hER, hiR⟩, ⟨xP, hxP, hEP, hiP⟩, ⟨xT, hxT, hET, hiT⟩, hEH⟩ := hx
  obtain ⟨f1, f2, f3, f4, f5, f6, f7⟩ := hf
  simp only at hxR hxP hxT f1 f2 f3 f4 f5 f6 f7 hEH ⊢
  have hfR : ∀ x ∈ xR, FitR x.R := fun x hx => f5 _ (by rw [← hxR]; exact List.mem_map_of_mem hx)
  have hfP : ∀ x ∈ xP, Fit x.P.s ∧ x.P.cs.length * 8 ≤ 140737488351232 ∧ x.P.ls.length * 8 ≤ 140737488351232 := fun x hx => f6 _ (by rw [← hxP]; exact List.mem_map_of_mem hx)
  have hfT : ∀ x ∈ xT, x.T.b.length * 8 ≤ 140737488351232 ∧ x.T.tl.length * 8 ≤ 140737488351232 := fun x hx => f7 _ (by rw [← hxT]; exact List.mem_map_of_mem hx)
  have gR : xR.length * 48 ≤ 140737488351232 := by have := congrArg List.length hxR; simp at this; omega
  have gP : xP.length * 144 ≤ 140737488351232 := by have := congrArg List.length hxP; simp at this; omega
  have gT : xT.length * 120 ≤ 140737488351232 := by have := congrArg List.length hxT; simp at this; omega
  have m1 := fun w' (l : Le w w') => copyEachR (slV qR) xR w' (hER.le l) (fun x hx => (hiR x hx).le l) hfR gR
  have m2 := fun w' (l : Le w w') => copyEachP (slV qP) xP w' (hEP.le l) (fun x hx => ⟨fun i hi => ((hiP x hx).1 i hi).le l, (hiP x hx).2.1.le l, (hiP x hx).2.2.le l⟩) hfP gP
  have m3 := fun w' (l : Le w w') => copyEachT (slV qT) xT w' (hET.le l) (fun x hx => ⟨(hiT x hx).1.le l, (hiT x hx).2.le l⟩) hfT gT
  have m4 := fun w' (l : Le w w') => listsCopyE (slV qH) Es w' (hEH.le l) f4
  rw [hxR] at m1
  rw [hxP] at m2
  rw [hxT] at m3
  clear hER hiR hEP hiP hET hiT hEH f1 f2 f3 f4 f5 f6 f7 hfR hfP hfT gR gP gT hxR hxP hxT xR xP xT
  have hr := Box.new (w.alloc (.cells (cells9 c qR qP qT qH) 29)) cellsZ9 29
  have hb := (Box.new w (cells9 c qR qP qT qH) 29).le (Le.alloc _ (.cells cellsZ9 29))
  have hl := (Le.alloc w (.cells (cells9 c qR qP qT qH) 29)).trans (Le.alloc _ (.cells cellsZ9 29))
  rw [World.size_alloc] at hr
  have hgw : w.heap.size < ((w.alloc (.cells (cells9 c qR qP qT qH) 29)).alloc (.cells cellsZ9 29)).heap.size := by simp; omega
  go_enter Tryz.func34, Tryz.ntmps34
  go_upto_region 1 with fail
  generalize hW : (w.alloc (.cells (cells9 c qR qP qT qH) 29)).alloc (.cells cellsZ9 29) = W at hl hb hr hgw ⊢
  clear hW
  have y5 := hb.mach.2.1
  go_wp2_with fail
  refine (m1 _ hl).mono ?_
  rintro e w1 ⟨q1, yR, rfl, E1, l1⟩
  clear m1 y5
  replace hb := hb.le l1
  replace hr := hr.le l1
  replace hl := hl.trans l1
  have y5 := hb.mach.2.1
  have k5 := hb.frozen 5
  have hb2 := hb.mset5 (q := q1)
  have hr2 := hr.other (show w.heap.size + 1 ≠ w.heap.size by omega) 5 (slV q1)
  have hl2 := hl.set (g := w.heap.size) (i := 5) (u := slV q1) (Nat.le_refl _)
  have E1' := E1.setR (i := 5) (u := slV q1) hb
  have hs1 : W.heap.size ≤ (w1.setCell ⟨w.heap.size, 5, none⟩ (slV q1)).heap.size := by simp; exact l1.size
  go_upto_region 2 with fail
  clear y5 k5 hb hr hl E1
  generalize hW : w1.setCell ⟨w.heap.size, 5, none⟩ (slV q1) = W1 at hb2 hr2 hl2 E1' hs1 ⊢
  clear hW l1
  have y6 := hb2.mach.2.2.1
  go_wp2_with fail
  refine (m2 _ hl2).mono ?_
  rintro e w2 ⟨q2, yP, rfl, E2, l2⟩
  clear m2 y6
  replace hb := hb2.le l2
  replace hr := hr2.le l2
  replace hl := hl2.trans l2
  replace E1' := E1'.le inR l2
  have y6 := hb.mach.2.2.1
  have k6 := hb.frozen 6
  have hb3 := hb.mset6 (q := q2)
  have hr3 := hr.other (show w.heap.size + 1 ≠ w.heap.size by omega) 6 (slV q2)
  have hl3 := hl.set (g := w.heap.size) (i := 6) (u := slV q2) (Nat.le_refl _)
  have E1'' := E1'.setR (i := 6) (u := slV q2) hb
  have E2' := E2.setP (i := 6) (u := slV q2) hb
  have hs2 : W1.heap.size ≤ (w2.setCell ⟨w.heap.size, 6, none⟩ (slV q2)).heap.size := by simp; exact l2.size
  have hlt : ∀ y ∈ yP, ∀ g, bkP y g → g < (w2.setCell ⟨w.heap.size, 6, none⟩ (slV q2)).heap.size := fun y hy g h => (inP.blk (E2'.inn y hy) h).2
  go_upto_region 3 with fail
  clear y6 k6 hb hr hl E1' E2 hb2 hr2 hl2
  generalize hW : w2.setCell ⟨w.heap.size, 6, none⟩ (slV q2) = W2 at hb3 hr3 hl3 E1'' E2' hs2 hlt ⊢
  clear hW l2
  have y7 := hb3.mach.2.2.2.1
  go_wp2_with fail
  refine (m3 _ hl3).mono ?_
  rintro e w3 ⟨q3, yT, rfl, E3, l3⟩
  clear m3 y7
  replace hb := hb3.le l3
  replace hr := hr3.le l3
  replace hl := hl3.trans l3
  replace E1 := E1''.le inR l3
  replace E2 := E2'.le inP l3
  have y7 := hb.mach.2.2.2.1
  have k7 := hb.frozen 7
  have hb4 := hb.mset7 (q := q3)
  have hr4 := hr.other (show w.heap.size + 1 ≠ w.heap.size by omega) 7 (slV q3)
  have hl4 := hl.set (g := w.heap.size) (i := 7) (u := slV q3) (Nat.le_refl _)
  have E1' := E1.setR (i := 7) (u := slV q3) hb
  replace E2' := E2.setP (i := 7) (u := slV q3) hb
  have E3' := E3.setT (i := 7) (u := slV q3) hb
  go_upto_region 4 with fail
  clear y7 k7 hb hr hl E1 E2 E3 E1'' hb3 hr3 hl3
  generalize hW : w3.setCell ⟨w.heap.size, 7, none⟩ (slV q3) = W3 at hb4 hr4 hl4 E1' E2' E3' ⊢
  clear hW l3
  have y8 := hb4.mach.2.2.2.2
  go_wp2_with fail
  refine (m4 _ hl4).mono ?_
  rintro e w4 ⟨q4, rfl, oH, l4⟩
  clear m4 y8
  have hs4 := hl4.size
  replace hb := hb4.le l4
  replace hr := hr4.le l4
  replace hl := hl4.trans l4
  replace E1 := E1'.le inR l4
  replace E2 := E2'.le inP l4
  replace E3 := E3'.le inT l4
  have y8 := hb.mach.2.2.2.2
  have k8 := hb.frozen 8
  have hb5 := hb.mset8 (q := q4)
  have hr5 := hr.other (show w.heap.size + 1 ≠ w.heap.size by omega) 8 (slV q4)
  have hl5 := hl.set (g := w.heap.size) (i := 8) (u := slV q4) (Nat.le_refl _)
  replace E1' := E1.setR (i := 8) (u := slV q4) hb
  replace E2' := E2.setP (i := 8) (u := slV q4) hb
  replace E3' := E3.setT (i := 8) (u := slV q4) hb
  have oH' : OwnE evK (w4.setCell ⟨w.heap.size, 8, none⟩ (slV q4)) w.heap.size (slV q4) Es := own_setM hb (oH.base hs4) (by decide)
  go_upto_region 5 with fail
  clear y8 k8 hb hr hl E1 E2 E3 hb4 hr4 hl4 oH
  generalize hW : w4.setCell ⟨w.heap.size, 8, none⟩ (slV q4) = W4 at hb5 hr5 hl5 E1' E2' E3' oH' ⊢
  clear hW l4
  have hfin := each_ownsM (c := c) (B := w.heap.size) (w := W4) ⟨E1'.own.base (by omega), fun y hy => inR.base (E1'.inn y hy) (by omega), E1'.ap, E1'.same⟩ E2' E3' oH' (by omega) (by omega) hlt
  obtain ⟨⟨y0, y1, y2, y3, y4⟩, y5, y6, y7, y8⟩ := (hb5).mach
  obtain ⟨⟨r0, r1, r2, r3, r4, r5, r6, r7, r8⟩, k0, k1, k2, k3, k4, k5, k6, k7, k8⟩ := hr5.res
  clear E1' E2' E3' oH' hlt
  go_wp2_with fail
  refine bodyPost_ret (v := machV c q1 q2 q3 q4) (by simp [results, Tryz.results34, go_sem, r0, r1, r2, r3, r4, r5, r6, r7, r8]) rfl ⟨⟨c, q1, q2, q3, q4, yR, yP, yT, Es⟩, rfl, hfin.1, ?_, hfin.2.2, hl5.put9 (by omega) c q1 q2 q3 q4⟩
  have o := hfin.2.1
  have hne : ∀ {t : TypeId} {kk n : Nat} {v : Value} {us : List Value}, World.ownsRow W4 w.heap.size t kk v n us → t ≠ 29 → (put9 W4 (w.heap.size + 1) c q1 q2 q3 q4).ownsRow w.heap.size t kk v n us := fun {t kk n v us} h ht => row_put9 h (fun e => by
    rcases h.2 with ⟨e2, _⟩ | ⟨g', cap, cur, hv, _, hh, _⟩
    · rw [e2] at e; simp [Value.ownBlock] at e
    · rw [hv] at e
      simp [Value.ownBlock] at e
      subst e
      unfold Box at hr5
      rw [hr5] at hh
      simp at hh
      exact ht hh.2.symm) _ _ _ _ _
  exact ⟨hne o.oR (by decide), hne o.oP (by decide), hne o.oT (by decide), hne o.oH (by decide), fun y hy => hne (o.iR y hy) (by decide), fun y hy => ⟨fun i hi => hne ((o.iP y hy).1 i hi) (by decide), hne (o.iP y hy).2.1 (by decide), hne (o.iP y hy).2.2 (by decide)⟩, fun y hy => ⟨hne (o.iT y hy).1 (by decide), hne (o.iT y hy).2 (by decide)⟩⟩

end Go.Proofs.YtkddgpdlpjjpbaaGreat

/-
  PLAIN GROUND, NO WALK: more of the call's own machine in a variable: where a replica lies, blocks that are apart by their types. No condition.
-/
namespace Go.Proofs.YtkddgpdlpjjpbaaGreat
open Go.RowKit

theorem MoI.repIn {B g : Nat} {w : World} {L : Lay} (h : MoI B g w L) {i gP n cap : Nat} (hq : L.qP = (some ⟨gP, 0, none⟩, n, cap)) (hi : i < L.ps.length) : g ≠ gP ∧ gP < w.heap.size ∧ B ≤ gP ∧ RepAt w gP (i * 6) (L.ps.getD i repK.d).vs (L.ps.getD i repK.d).c (L.ps.getD i repK.d).l ∧ ∀ j, w.frozen? ⟨gP, j, none⟩ = false := by
  obtain ⟨g', c, hq', _, h1, h2, h3, h4, h5⟩ := h.openP hi
  rw [hq] at hq'
  simp only [Prod.mk.injEq, Option.some.injEq, Addr.mk.injEq, and_true] at hq'
  obtain ⟨rfl, _⟩ := hq'
  exact ⟨h3, h2, h1, h4, h5⟩
theorem OwnE.ne {α : Type} {K : Kind α} {w : World} {base g g' n c : Nat} {q : Sl} {xs : List α} {cs : Array Value} {t : TypeId} (h : OwnE K w base (slV q) xs) (hq : q = (some ⟨g', 0, none⟩, n, c)) (hb : Box w g cs t) (ht : t ≠ K.t) : g ≠ g' := fun e => h.apart hb ht (by rw [hq, e]; rfl)
theorem MoI.neT {B g g' gT n c : Nat} {w : World} {L : Lay} (h : MoI B g w L) {cs : Array Value} {t : TypeId} (hq : L.qT = (some ⟨gT, 0, none⟩, n, c)) (hb : Box w g' cs t) (ht : t ≠ 63) : g' ≠ gT := h.own.oT.ne hq hb ht
theorem MoI.neP {B g g' gT n c : Nat} {w : World} {L : Lay} (h : MoI B g w L) {cs : Array Value} {t : TypeId} (hq : L.qP = (some ⟨gT, 0, none⟩, n, c)) (hb : Box w g' cs t) (ht : t ≠ 73) : g' ≠ gT := h.own.oP.ne hq hb ht
theorem MoI.neR {B g g' gT n c : Nat} {w : World} {L : Lay} (h : MoI B g w L) {cs : Array Value} {t : TypeId} (hq : L.qR = (some ⟨gT, 0, none⟩, n, c)) (hb : Box w g' cs t) (ht : t ≠ 67) : g' ≠ gT := h.own.oR.ne hq hb ht
/-- .. a replica's cursors, locks. -/
theorem MoI.neC {B g g' gl n c i : Nat} {w : World} {L : Lay} (h : MoI B g w L) {cs : Array Value} {t : TypeId} (hi : i < L.ps.length) (hq : (L.ps.getD i repK.d).c = (some ⟨gl, 0, none⟩, n, c)) (hb : Box w g' cs t) (ht : t ≠ 3) : g' ≠ gl := (h.own.iP _ (getD_mem (d := repK.d) hi)).2.1.e.ne hq hb ht
theorem MoI.neL {B g g' gl n c i : Nat} {w : World} {L : Lay} (h : MoI B g w L) {cs : Array Value} {t : TypeId} (hi : i < L.ps.length) (hq : (L.ps.getD i repK.d).l = (some ⟨gl, 0, none⟩, n, c)) (hb : Box w g' cs t) (ht : t ≠ 3) : g' ≠ gl := (h.own.iP _ (getD_mem (d := repK.d) hi)).2.2.e.ne hq hb ht
theorem Box.otherO4 {w : World} {g g' o : Nat} {cs : Array Value} {t : TypeId} (h : Box w g cs t) (hne : g ≠ g') (a b c d : Value) : Box ((((w.setCell ⟨g', o, none⟩ a).setCell ⟨g', o + 1, none⟩ b).setCell ⟨g', o + 2, none⟩ c).setCell ⟨g', o + 3, none⟩ d) g cs t :=
  (((h.other hne _ _).other hne _ _).other hne _ _).other hne _ _
theorem Le.seto4 {w w' : World} {g o : Nat} (h : Le w w') (hg : w.heap.size ≤ g) (a b c d : Value) : Le w ((((w'.setCell ⟨g, o, none⟩ a).setCell ⟨g, o + 1, none⟩ b).setCell ⟨g, o + 2, none⟩ c).setCell ⟨g, o + 3, none⟩ d) :=
  (((h.set hg).set hg).set hg).set hg

end Go.Proofs.YtkddgpdlpjjpbaaGreat

/-
  THE WALKS over package lists' Has and package machines' HasLog and HasThread and package lock's with: is there such a replica and log; a copy of a machine in which one lock is another one. Condition: that the machine's rows can be copied.
-/
namespace Go.Proofs.YtkddgpdlpjjpbaaGreat
open Go.RowKit

theorem listsHasR (q : Sl) (x : Int) (w : World) (hq : q.2.1 ≤ 4611686018427387904) : Calls Tryz.prog 61 #[slV q, .int .i64 x] w fun e w' => e = .returned (.bool (inB 0 x (q.2.1 - 1))) ∧ w = w' := by
  obtain ⟨a, n, cap⟩ := q
  simp only at hq
  by_cases h1 : 0 ≤ x
  all_goals
    go_enter Tryz.func61, Tryz.ntmps61
    go_wp2
    go_ret
    exact ⟨ret_bool (by rw [Bool.eq_iff_iff]; simp [inB]; omega), rfl⟩
theorem listsHasP (q : Sl) (x : Int) (w : World) (hq : q.2.1 ≤ 4611686018427387904) : Calls Tryz.prog 60 #[slV q, .int .i64 x] w fun e w' => e = .returned (.bool (inB 0 x (q.2.1 - 1))) ∧ w = w' := by
  obtain ⟨a, n, cap⟩ := q
  simp only at hq
  by_cases h1 : 0 ≤ x
  all_goals
    go_enter Tryz.func60, Tryz.ntmps60
    go_wp2
    go_ret
    exact ⟨ret_bool (by rw [Bool.eq_iff_iff]; simp [inB]; omega), rfl⟩
theorem listsHasT (q : Sl) (x : Int) (w : World) (hq : q.2.1 ≤ 4611686018427387904) : Calls Tryz.prog 33 #[slV q, .int .i64 x] w fun e w' => e = .returned (.bool (inB 0 x (q.2.1 - 1))) ∧ w = w' := by
  obtain ⟨a, n, cap⟩ := q
  simp only at hq
  by_cases h1 : 0 ≤ x
  all_goals
    go_enter Tryz.func33, Tryz.ntmps33
    go_wp2
    go_ret
    exact ⟨ret_bool (by rw [Bool.eq_iff_iff]; simp [inB]; omega), rfl⟩

/-- May a machine be, and is there such a replica and log? -/
def atRG (M : Mc) (r g : Int) : Bool := mayM M && (inB 0 r (M.c.r - 1) && inB 0 g (M.c.l - 1))
theorem atRG_there {M : Mc} {r g t : Int} : thereB M r g t = (atRG M r g && inB 0 t (M.c.t - 1)) := by
  unfold thereB atRG
  cases mayM M <;> cases inB 0 r (M.c.r - 1) <;> cases inB 0 g (M.c.l - 1) <;> rfl
theorem atRG_zero {M : Mc} {r g : Int} : thereB M r g 0 = atRG M r g := by
  rw [atRG_there]
  cases h : atRG M r g
  · rfl
  · unfold atRG at h
    simp only [Bool.and_eq_true] at h
    obtain ⟨_, _, _, ⟨t0, t1⟩, _⟩ := Cfg.ok_cases (mayM_ok h.1)
    rw [inB_yes (by omega) (by omega)]
    rfl

theorem atT_there {M : Mc} {t : Int} : thereB M 0 0 t = (mayM M && inB 0 t (M.c.t - 1)) := by
  unfold thereB
  cases h : mayM M
  · rfl
  · obtain ⟨_, ⟨r0, r1⟩, ⟨g0, g1⟩, _⟩ := Cfg.ok_cases (mayM_ok h)
    rw [inB_yes (a := 0) (x := 0) (b := M.c.r - 1) (by omega) (by omega), inB_yes (a := 0) (x := 0) (b := M.c.l - 1) (by omega) (by omega)]
    rfl

set_option maxRecDepth 4000 in
set_option maxHeartbeats 4000000 in
theorem machHasLog (v : Value) (M : Mc) (r g : Int) (w : World) (hx : HasM w v M) (hf : FitM M) : Calls Tryz.prog 32 #[v, .int .i64 r, .int .i64 g] w fun e w' => e = .returned (.bool (atRG M r g)) ∧ Le w w' := by
  have m1 := fun w' (l : Le w w') => startMay v M w' (hx.le l) hf
  have hlen := hx
  obtain ⟨qR, qP, qT, qH, rfl, hR, hP, hT, hH⟩ := hx
  have lR := hR.len
  have lP := hP.len
  have gR : qR.2.1 ≤ 4611686018427387904 := by have := hf.rs; omega
  have gP : qP.2.1 ≤ 4611686018427387904 := by have := hf.ps; omega
  have hb := Box.new w (cells9 M.c qR qP qT qH) 29
  have hl := Le.alloc w (.cells (cells9 M.c qR qP qT qH) 29)
  have HL : Hid (qR.2.1 = M.rs.length ∧ qP.2.1 = M.ps.length) := ⟨lR, lP⟩
  clear lR lP hR hP hT hH hlen
  cases h1 : mayM M
  · rw [h1] at m1
    have hA : atRG M r g = false := by unfold atRG; rw [h1]; rfl
    rw [hA]
    go_enter Tryz.func32, Tryz.ntmps32
    go_upto_region 1 with fail
    generalize hW : w.alloc (.cells (cells9 M.c qR qP qT qH) 29) = W at hl hb ⊢
    clear hW
    obtain ⟨⟨z0, z1, z2, z3, z4⟩, z5, z6, z7, z8⟩ := (hb).mach
    go_wp2_with fail
    refine (m1 _ hl).mono ?_
    rintro e w1 ⟨rfl, l1⟩
    go_wp2_with fail
    go_ret
    exact ⟨rfl, hl.trans l1⟩
  · rw [h1] at m1
    obtain ⟨k1, k2, _, _⟩ := mayM_lens h1
    have e1 : M.c.r - 1 = (qP.2.1 : Int) - 1 := by rw [HL.out.2]; omega
    have e2 : M.c.l - 1 = (qR.2.1 : Int) - 1 := by rw [HL.out.1]; omega
    have hA : atRG M r g = (inB 0 r ((qP.2.1 : Int) - 1) && inB 0 g ((qR.2.1 : Int) - 1)) := by unfold atRG; rw [h1, e1, e2]; rfl
    rw [hA]
    clear hA e1 e2 k1 k2 h1
    have m3 := fun w' => listsHasP qP r w' gP
    have m4 := fun w' => listsHasR qR g w' gR
    obtain ⟨x1, hx1⟩ : ∃ x, x = inB 0 r ((qP.2.1 : Int) - 1) := ⟨_, rfl⟩
    obtain ⟨x2, hx2⟩ : ∃ x, x = inB 0 g ((qR.2.1 : Int) - 1) := ⟨_, rfl⟩
    rw [← hx1] at m3
    rw [← hx2] at m4
    rw [← hx1, ← hx2]
    clear hx1 hx2
    cases x1
    · go_enter Tryz.func32, Tryz.ntmps32
      go_upto_region 1 with fail
      generalize hW : w.alloc (.cells (cells9 M.c qR qP qT qH) 29) = W at hl hb ⊢
      clear hW
      obtain ⟨⟨z0, z1, z2, z3, z4⟩, z5, z6, z7, z8⟩ := (hb).mach
      go_wp2_with fail
      refine (m1 _ hl).mono ?_
      rintro e w1 ⟨rfl, l1⟩
      replace hb := hb.le l1
      clear z0 z1 z2 z3 z4 z5 z6 z7 z8
      obtain ⟨⟨z0, z1, z2, z3, z4⟩, z5, z6, z7, z8⟩ := (hb).mach
      go_wp2_with fail
      refine (m3 _).mono ?_
      rintro e _ ⟨rfl, rfl⟩
      go_wp2_with fail
      go_ret
      exact ⟨rfl, hl.trans l1⟩
    · go_enter Tryz.func32, Tryz.ntmps32
      go_upto_region 1 with fail
      generalize hW : w.alloc (.cells (cells9 M.c qR qP qT qH) 29) = W at hl hb ⊢
      clear hW
      obtain ⟨⟨z0, z1, z2, z3, z4⟩, z5, z6, z7, z8⟩ := (hb).mach
      go_wp2_with fail
      refine (m1 _ hl).mono ?_
      rintro e w1 ⟨rfl, l1⟩
      replace hb := hb.le l1
      clear z0 z1 z2 z3 z4 z5 z6 z7 z8
      obtain ⟨⟨z0, z1, z2, z3, z4⟩, z5, z6, z7, z8⟩ := (hb).mach
      go_wp2_with fail
      refine (m3 _).mono ?_
      rintro e _ ⟨rfl, rfl⟩
      go_wp2_with fail
      refine (m4 _).mono ?_
      rintro e _ ⟨rfl, rfl⟩
      go_wp2_with fail
      go_ret
      exact ⟨rfl, hl.trans l1⟩

set_option maxRecDepth 4000 in
set_option maxHeartbeats 4000000 in
theorem machHasThread (v : Value) (M : Mc) (t : Int) (w : World) (hx : HasM w v M) (hf : FitM M) : Calls Tryz.prog 47 #[v, .int .i64 t] w fun e w' => e = .returned (.bool (thereB M 0 0 t)) ∧ Le w w' := by
  have m1 := fun w' (l : Le w w') => startMay v M w' (hx.le l) hf
  obtain ⟨qR, qP, qT, qH, rfl, hR, hP, hT, hH⟩ := hx
  have lT := hT.len
  have gT : qT.2.1 ≤ 4611686018427387904 := by have := hf.ts; omega
  have hb := Box.new w (cells9 M.c qR qP qT qH) 29
  have hl := Le.alloc w (.cells (cells9 M.c qR qP qT qH) 29)
  have HL : Hid (qT.2.1 = M.ts.length) := lT
  clear lT hR hP hT hH
  cases h1 : mayM M
  · rw [h1] at m1
    have hA : thereB M 0 0 t = false := by rw [atT_there, h1]; rfl
    rw [hA]
    go_enter Tryz.func47, Tryz.ntmps47
    go_upto_region 1 with fail
    generalize hW : w.alloc (.cells (cells9 M.c qR qP qT qH) 29) = W at hl hb ⊢
    clear hW
    obtain ⟨⟨z0, z1, z2, z3, z4⟩, z5, z6, z7, z8⟩ := (hb).mach
    go_wp2_with fail
    refine (m1 _ hl).mono ?_
    rintro e w1 ⟨rfl, l1⟩
    go_wp2_with fail
    go_ret
    exact ⟨rfl, hl.trans l1⟩
  · rw [h1] at m1
    obtain ⟨_, _, k3, _⟩ := mayM_lens h1
    have e1 : M.c.t - 1 = (qT.2.1 : Int) - 1 := by rw [HL.out]; omega
    have hA : thereB M 0 0 t = inB 0 t ((qT.2.1 : Int) - 1) := by rw [atT_there, h1, e1]; rfl
    rw [hA]
    clear hA e1 k3 h1
    have m3 := fun w' => listsHasT qT t w' gT
    obtain ⟨x1, hx1⟩ : ∃ x, x = inB 0 t ((qT.2.1 : Int) - 1) := ⟨_, rfl⟩
    rw [← hx1] at m3 ⊢
    clear hx1
    go_enter Tryz.func47, Tryz.ntmps47
    go_upto_region 1 with fail
    generalize hW : w.alloc (.cells (cells9 M.c qR qP qT qH) 29) = W at hl hb ⊢
    clear hW
    obtain ⟨⟨z0, z1, z2, z3, z4⟩, z5, z6, z7, z8⟩ := (hb).mach
    go_wp2_with fail
    refine (m1 _ hl).mono ?_
    rintro e w1 ⟨rfl, l1⟩
    replace hb := hb.le l1
    clear z0 z1 z2 z3 z4 z5 z6 z7 z8
    obtain ⟨⟨z0, z1, z2, z3, z4⟩, z5, z6, z7, z8⟩ := (hb).mach
    go_wp2_with fail
    refine (m3 _).mono ?_
    rintro e _ ⟨rfl, rfl⟩
    go_wp2_with fail
    go_ret
    exact ⟨rfl, hl.trans l1⟩

set_option maxRecDepth 8000 in
set_option maxHeartbeats 8000000 in
theorem lockWith (v : Value) (M : Mc) (r g : Nat) (x : Int) (w : World) (hx : HasM w v M) (hf : FitM M) (hpi : r < M.ps.length) (hgl2 : g < (M.rp r).ls.length) : Calls Tryz.prog 35 #[v, .int .i64 r, .int .i64 g, .int .i64 x] w fun e w' => ∃ v', e = .returned v' ∧ OwnA w' w.heap.size v' (M.putP r ((M.rp r).setLock g x)) ∧ Le w w' := by
  have m2 := fun w' (l : Le w w') => machCopy v M w' (hx.le l) hf
  obtain ⟨qR, qP, qT, qH, rfl, _, _, _, _⟩ := hx
  have hr := Box.new (w.alloc (.cells (cells9 M.c qR qP qT qH) 29)) cellsZ9 29
  have hb := (Box.new w (cells9 M.c qR qP qT qH) 29).le (Le.alloc _ (.cells cellsZ9 29))
  have hl := (Le.alloc w (.cells (cells9 M.c qR qP qT qH) 29)).trans (Le.alloc _ (.cells cellsZ9 29))
  rw [World.size_alloc] at hr
  go_enter Tryz.func35, Tryz.ntmps35
  go_upto_region 1 with fail
  generalize hW : (w.alloc (.cells (cells9 M.c qR qP qT qH) 29)).alloc (.cells cellsZ9 29) = W at hl hb hr ⊢
  clear hW
  have hgr := hr.lt
  obtain ⟨⟨z0, z1, z2, z3, z4⟩, z5, z6, z7, z8⟩ := (hb).mach
  go_wp2_with fail
  refine (m2 _ hl).mono ?_
  rintro e w9 ⟨⟨c', uR, uP, uT, uH, xR, xP, xT, xH⟩, rfl, HM, o1, ap, l1⟩
  clear z0 z1 z2 z3 z4 z5 z6 z7 z8
  clear m2
  replace hb := hb.le l1
  obtain ⟨⟨z0, z1, z2, z3, z4⟩, z5, z6, z7, z8⟩ := (hb).mach
  have f0 := (hb).frozen 0
  have f1 := (hb).frozen 1
  have f2 := (hb).frozen 2
  have f3 := (hb).frozen 3
  have f4 := (hb).frozen 4
  have f5 := (hb).frozen 5
  have f6 := (hb).frozen 6
  have f7 := (hb).frozen 7
  have f8 := (hb).frozen 8
  have hlB : w.heap.size ≤ W.heap.size := hl.size
  have o2 := (o1.base hlB).put9 hb c' uR uP uT uH
  have hb2 := hb.put9 rfl c' uR uP uT uH
  have hr2 := (hr.le l1).off9 (show w.heap.size + 1 ≠ w.heap.size by omega) c' uR uP uT uH
  have l01 := (hl.trans l1).put9 (g := w.heap.size) (Nat.le_refl _) c' uR uP uT uH
  try simp only at o2
  go_upto_region 2 with fail
  clear z0 z1 z2 z3 z4 z5 z6 z7 z8 f0 f1 f2 f3 f4 f5 f6 f7 f8 hb hr hl o1 l1
  show Code.wp _ _ _ _ (put9 w9 w.heap.size c' uR uP uT uH)
  generalize hW1 : put9 w9 w.heap.size c' uR uP uT uH = W1 at o2 hb2 hr2 l01 ⊢
  clear hW1
  have I : MoI w.heap.size w.heap.size W1 ⟨c', uR, uP, uT, uH, xR, xP, xT, xH⟩ := ⟨hb2, Nat.le_refl _, o2, ap⟩
  have hr := hr2
  have hl := l01
  clear o2 hb2 hr2
  have hiP : r < xP.length := by have := lay_ps HM; simp only at this; omega
  have hiP' : (r : Int) < (xP.length : Int) := by omega
  obtain ⟨gP, capP, hqP, hcapP, hgBP, hgltP, hgneP, hatP, hfzP⟩ := I.openP hiP
  try simp only at hqP hatP hcapP
  subst hqP
  have hgl3 : g < (xP.getD r repK.d).P.ls.length := by have := lay_rp HM hiP; simp only at this; rw [this]; exact hgl2
  obtain ⟨gl, cl, hql, _, hglB, hgll, xl, fl⟩ := I.openL (k := g) hiP hgl3
  try simp only at hql xl
  have I2 := I.setLk (v := x) hiP hql hgl3
  have hne := I.neL hiP hql hr (by decide)
  try simp only at I2
  obtain ⟨_, _, _, _, _, q5⟩ := hatP
  obtain ⟨x0, hx0'⟩ : ∃ x0, x0 = xP.getD r repK.d := ⟨_, rfl⟩
  have HX0 : Hid (x0 = xP.getD r repK.d) := hx0'
  rw [← hx0'] at I2 hql xl q5 hgl3
  rw [hql] at q5
  obtain ⟨nl, hnl⟩ : ∃ n, n = x0.P.ls.length := ⟨_, rfl⟩
  rw [← hnl] at q5 hgl3
  have hgl4 : (g : Int) < (nl : Int) := by omega
  clear hx0' hnl hql hgl3
  obtain ⟨⟨y0, y1, y2, y3, y4⟩, y5, y6, y7, y8⟩ := (I.bo).mach
  simp only [slV] at y6 q5
  have l2 := l01.set (g := gl) (i := g) (u := .int .i64 x) hglB
  have hr2 := hr.other hne g (.int .i64 x)
  go_upto_region 3 with fail
  generalize hW2 : W1.setCell ⟨gl, g, none⟩ (.int .i64 x) = W2 at I2 l2 hr2 ⊢
  clear y0 y1 y2 y3 y4 y5 y6 y7 y8
  clear hW2 hr I xl q5 fl
  obtain ⟨⟨y0, y1, y2, y3, y4⟩, y5, y6, y7, y8⟩ := (I2.bo).mach
  obtain ⟨⟨r0, r1, r2, r3, r4, r5, r6, r7, r8⟩, k0, k1, k2, k3, k4, k5, k6, k7, k8⟩ := hr2.res
  go_wp2_with fail
  refine bodyPost_ret (v := machV c' uR (some ⟨gP, 0, none⟩, xP.length, capP) uT uH) (by simp [results, Tryz.results35, go_sem, r0, r1, r2, r3, r4, r5, r6, r7, r8]) rfl ⟨_, rfl, ?_, (l2).put9 (g := w.heap.size + 1) (by omega) c' uR (some ⟨gP, 0, none⟩, xP.length, capP) uT uH⟩
  have := (I2.ret hr2)
  rw [lay_setP HM] at this
  simp only [HX0.out, lay_rp HM hiP] at this
  rw [Rp.setLock, Int.toNat_natCast]
  exact this

end Go.Proofs.YtkddgpdlpjjpbaaGreat

/-
  THE WALKS over choruslaw0's SpoilInts, SpoilSlots, SpoilRing, SpoilState, SpoilEvents, SpoilMachine once more: what they write over lies in a given set of blocks; all else is as it was. Written by program out of Slc, SpoilA, StC, LwA, McB, LmA, LmD. No condition.
-/
namespace Go.Proofs.YtkddgpdlpjjpbaaGreat.Sp
open Go.RowKit Go.Proofs.YtkddgpdlpjjpbaaGreat

/-- v is a slice of whatever numbers, in blocks from S on, that may be written over. -/
def Ints (w : World) (S : Nat → Prop) (v : Value) : Prop :=
  ∃ (a : Option Addr) (n cap : Nat), v = .slice a n cap ∧ n ≤ cap ∧ n ≤ 9223372036854775807 ∧
    (0 < n → ∃ b off, a = some ⟨b, off, none⟩ ∧ S b ∧ ∀ i, i < n → (∃ x, w.cell? ⟨b, off + i, none⟩ = some (.int .i64 x)) ∧ w.frozen? ⟨b, off + i, none⟩ = false)

/-- What was there below S is as it was; numbers elsewhere may be other numbers, and all else is as it was. -/
structure Spoilt (S : Nat → Prop) (w w' : World) : Prop where
  os : w'.os = w.os
  tape : w'.tape = w.tape
  output : w'.output = w.output
  size : w.heap.size ≤ w'.heap.size
  keep : ∀ k, k < w.heap.size → ¬ S k → w'.heap[k]? = w.heap[k]?
  ints : ∀ p x, w.cell? p = some (.int .i64 x) → ∃ y, w'.cell? p = some (.int .i64 y)
  rest : ∀ p v, w.cell? p = some v → (∀ x, v ≠ .int .i64 x) → w'.cell? p = some v
  thaw : ∀ p, p.block < w.heap.size → w.frozen? p = false → w'.frozen? p = false

theorem Spoilt.refl (S : Nat → Prop) (w : World) : Spoilt S w w := ⟨rfl, rfl, rfl, Nat.le_refl _, fun _ _ _ => rfl, fun _ x h => ⟨x, h⟩, fun _ _ h _ => h, fun _ _ h => h⟩
theorem Spoilt.trans {S : Nat → Prop} {a b c : World} (h : Spoilt S a b) (k : Spoilt S b c) : Spoilt S a c :=
  ⟨k.os.trans h.os, k.tape.trans h.tape, k.output.trans h.output, Nat.le_trans h.size k.size, fun i hi hn => (k.keep i (Nat.lt_of_lt_of_le hi h.size) hn).trans (h.keep i hi hn), fun p x hp => by obtain ⟨y, hy⟩ := h.ints p x hp; exact k.ints p y hy, fun p v hp hv => k.rest p v (h.rest p v hp hv) hv, fun p hp hf => k.thaw p (Nat.lt_of_lt_of_le hp h.size) (h.thaw p hp hf)⟩

theorem Spoilt.le {S : Nat → Prop} {w w' : World} (_ : True) (h : Le w w') : Spoilt S w w' :=
  ⟨h.os, h.tape, h.output, h.size, fun k hk _ => h.block k hk, fun p x hp => ⟨x, by rw [h.cell (World.block_lt_of_cell? w _ hp)]; exact hp⟩, fun p v hp _ => by rw [h.cell (World.block_lt_of_cell? w _ hp)]; exact hp,
    fun p hp hf => by rw [h.frozen hp]; exact hf⟩

theorem Spoilt.store {S : Nat → Prop} {w : World} {p : Addr} {x y : Int} (hp : w.cell? p = some (.int .i64 x)) (hb : S p.block) : Spoilt S w (w.setCell p (.int .i64 y)) := by
  refine ⟨rfl, rfl, rfl, by simp, fun k _ hn => Below.heap_setCell _ _ _ _ (fun e => hn (by rw [e]; exact hb)), fun q z hq => ?_, fun q v hq hv => ?_, fun q _ hf => by simpa using hf⟩
  · by_cases e : p = q
    · subst e; exact ⟨y, World.cell?_setCell_same _ _ _ hp⟩
    · exact ⟨z, (World.cell?_setCell_other _ _ _ _ e).trans hq⟩
  · have e : p ≠ q := fun e => by subst e; rw [hp] at hq; exact hv x (Option.some.inj hq).symm
    exact (World.cell?_setCell_other _ _ _ _ e).trans hq

theorem Ints.spoilt {w w' : World} {S S' : Nat → Prop} {v : Value} (h : Ints w S v) (k : Spoilt S' w w') : Ints w' S v := by
  obtain ⟨a, n, cap, hv, hn, hm, hx⟩ := h
  refine ⟨a, n, cap, hv, hn, hm, fun hp => ?_⟩
  obtain ⟨b, off, ha, hb, hc⟩ := hx hp
  refine ⟨b, off, ha, hb, fun i hi => ?_⟩
  obtain ⟨⟨x, h1⟩, h2⟩ := hc i hi
  exact ⟨k.ints _ _ h1, k.thaw _ (World.block_lt_of_cell? w _ h1) h2⟩

set_option maxHeartbeats 400000 in
theorem lawSpoil (v : Value) (S : Nat → Prop) (w : World) (hx : Ints w S v) :
    Calls Tryz.prog 24 #[v] w fun e w' => e = .returned (.tuple #[]) ∧ Spoilt S w w' := by
  obtain ⟨a, L, cap, rfl, hc, hm, hx⟩ := hx
  rcases Nat.eq_zero_or_pos L with h0 | h0
  · subst h0
    go_enter Tryz.func24, Tryz.ntmps24
    go_wp2
    refine wp_loop_rounds 1 ?_
    rw [rounds_succ]
    go_wp2
    go_end0
    exact ⟨rfl, Spoilt.refl _ _⟩
  · obtain ⟨b, off, rfl, hb, hcell⟩ := hx h0
    clear hx
    go_enter Tryz.func24, Tryz.ntmps24
    go_wp2
    go_loopw [2] (fun i wr => ∃ k : Nat, k ≤ L ∧ i = .int .i64 k ∧ Spoilt S w wr) (fun i _ => L - (intOf i).toNat)
    case atStart => exact ⟨0, Nat.zero_le _, rfl, Spoilt.refl _ _⟩
    case round =>
      obtain ⟨k, hk, rfl, hsp⟩ := hrel
      by_cases hlt : k < L
      · obtain ⟨⟨x0, h1⟩, h2⟩ := hcell k hlt
        have hfz := hsp.thaw _ (World.block_lt_of_cell? w _ h1) h2
        obtain ⟨x, hcl⟩ := hsp.ints _ _ h1
        clear h1 h2 hcell
        go_wp2
        go_roundw
        case rel => exact ⟨k + 1, by omega, by go_num, hsp.trans (Spoilt.store hcl hb)⟩
        case measure => simp [intOf]; omega
      · go_wp2
        go_end0
        exact ⟨rfl, hsp⟩

/-- Rows of whatever numbers, that may be written over. -/
def IntsS (w : World) (S : Nat → Prop) (v : Value) : Prop := ∃ vs, v = stV vs ∧ ∀ i, i < 4 → Ints w S (slV (vs i))
theorem IntsS.spoilt {w w' : World} {S S' : Nat → Prop} {v : Value} (h : IntsS w S v) (k : Spoilt S' w w') : IntsS w' S v := by
  obtain ⟨vs, hv, hr⟩ := h; exact ⟨vs, hv, fun i hi => (hr i hi).spoilt k⟩
set_option maxHeartbeats 400000 in
theorem lawSpoilState (v : Value) (S : Nat → Prop) (w : World) (hx : IntsS w S v) (hbase : True) :
    Calls Tryz.prog 44 #[v] w fun e w' => e = .returned (.tuple #[]) ∧ Spoilt S w w' := by
  obtain ⟨vs, rfl, hr⟩ := hx
  have hb1 := Box.new w (cells4 vs) 71
  have hs1 : Spoilt S w (w.alloc (.cells (cells4 vs) 71)) := Spoilt.le hbase (Le.alloc _ _)
  go_enter Tryz.func44, Tryz.ntmps44
  go_wp2
  go_loopw [2] (fun i wr => ∃ k : Nat, k ≤ 4 ∧ i = .int .i64 k ∧ Spoilt S (w.alloc (.cells (cells4 vs) 71)) wr) (fun i _ => 4 - (intOf i).toNat)
  case atStart => exact ⟨0, by omega, rfl, Spoilt.refl _ _⟩
  case round =>
    obtain ⟨k, hk, rfl, hsp⟩ := hrel
    by_cases hlt : k < 4
    · have hi := (hr k hlt).spoilt (hs1.trans hsp)
      have c1 : wr.cell? ⟨w.heap.size, k, none⟩ = some (slV (vs k)) := hsp.rest _ _ ((hb1.cell k).trans (cells4_at vs hlt)) (fun x h => by cases h)
      go_wp2_with (go_at_call 24; refine (lawSpoil _ S _ hi).mono ?_; rintro e w1 ⟨rfl, s1⟩; clear hi c1)
      go_roundw
      case rel => exact ⟨k + 1, by omega, by go_num, hsp.trans s1⟩
      case measure => simp [intOf]; omega
    · obtain rfl : k = 4 := by omega
      go_wp2
      go_end0
      exact ⟨rfl, hs1.trans hsp⟩

/-- v is a slice of whatever slots, in blocks from S on, that may be written over. -/
def IntsL (w : World) (S : Nat → Prop) (v : Value) : Prop :=
  ∃ (a : Option Addr) (n cap : Nat), v = .slice a n cap ∧ n ≤ cap ∧ n ≤ 9223372036854775807 ∧
    (0 < n → ∃ b off, a = some ⟨b, off, none⟩ ∧ S b ∧ ∀ i, i < n → (∃ x, w.cell? ⟨b, off + i * 5 + 3, none⟩ = some (.int .i64 x)) ∧ w.frozen? ⟨b, off + i * 5 + 3, none⟩ = false)
def IntsR (w : World) (S : Nat → Prop) (v : Value) : Prop := ∃ h t f q, v = ringV h t f q ∧ IntsL w S (slV q)

theorem IntsL.spoilt {w w' : World} {S S' : Nat → Prop} {v : Value} (h : IntsL w S v) (k : Spoilt S' w w') : IntsL w' S v := by
  obtain ⟨a, n, cap, hv, hn, hm, hx⟩ := h
  refine ⟨a, n, cap, hv, hn, hm, fun hp => ?_⟩
  obtain ⟨b, off, ha, hb, hc⟩ := hx hp
  refine ⟨b, off, ha, hb, fun i hi => ?_⟩
  obtain ⟨⟨x, h1⟩, h2⟩ := hc i hi
  exact ⟨k.ints _ _ h1, k.thaw _ (World.block_lt_of_cell? w _ h1) h2⟩
theorem IntsR.spoilt {w w' : World} {S S' : Nat → Prop} {v : Value} (h : IntsR w S v) (k : Spoilt S' w w') : IntsR w' S v := by
  obtain ⟨h', t, f, q, hv, hi⟩ := h; exact ⟨h', t, f, q, hv, hi.spoilt k⟩

set_option maxHeartbeats 400000 in
theorem lawSpoilSlots (v : Value) (S : Nat → Prop) (w : World) (hx : IntsL w S v) :
    Calls Tryz.prog 72 #[v] w fun e w' => e = .returned (.tuple #[]) ∧ Spoilt S w w' := by
  obtain ⟨a, L, cap, rfl, hc, hm, hx⟩ := hx
  rcases Nat.eq_zero_or_pos L with h0 | h0
  · subst h0
    go_enter Tryz.func72, Tryz.ntmps72
    go_wp2
    refine wp_loop_rounds 1 ?_
    rw [rounds_succ]
    go_wp2
    go_end0
    exact ⟨rfl, Spoilt.refl _ _⟩
  · obtain ⟨b, off, rfl, hb, hcell⟩ := hx h0
    clear hx
    go_enter Tryz.func72, Tryz.ntmps72
    go_wp2
    go_loopw [2] (fun i wr => ∃ k : Nat, k ≤ L ∧ i = .int .i64 k ∧ Spoilt S w wr) (fun i _ => L - (intOf i).toNat)
    case atStart => exact ⟨0, Nat.zero_le _, rfl, Spoilt.refl _ _⟩
    case round =>
      obtain ⟨k, hk, rfl, hsp⟩ := hrel
      by_cases hlt : k < L
      · obtain ⟨⟨x0, h1⟩, h2⟩ := hcell k hlt
        have hfz := hsp.thaw _ (World.block_lt_of_cell? w _ h1) h2
        obtain ⟨x, hcl⟩ := hsp.ints _ _ h1
        clear h1 h2 hcell
        go_wp2
        go_roundw
        case rel => exact ⟨k + 1, by omega, by go_num, hsp.trans (Spoilt.store hcl hb)⟩
        case measure => simp [intOf]; omega
      · go_wp2
        go_end0
        exact ⟨rfl, hsp⟩

theorem lawSpoilRing (v : Value) (S : Nat → Prop) (w : World) (hx : IntsR w S v) (hbase : True) :
    Calls Tryz.prog 43 #[v] w fun e w' => e = .returned (.tuple #[]) ∧ Spoilt S w w' := by
  obtain ⟨h, t, f, q, rfl, hi⟩ := hx
  have hs1 : Spoilt S w (w.alloc (.cells (cellsR h t f q) 67)) := Spoilt.le hbase (Le.alloc _ _)
  have hsp := lawSpoilSlots _ S _ (hi.spoilt hs1)
  go_enter Tryz.func43, Tryz.ntmps43
  go_wp2_with fail
  refine hsp.mono ?_
  rintro e w1 ⟨rfl, s1⟩
  go_wp2_with fail
  go_end0
  exact ⟨rfl, hs1.trans s1⟩

/-- A row of elements of k cells each, each of which is as At says, in blocks from S on. -/
def IntsRow (k : Nat) (At : World → Nat → Nat → Prop) (w : World) (S : Nat → Prop) (v : Value) : Prop :=
  ∃ (a : Option Addr) (n cap : Nat), v = .slice a n cap ∧ n ≤ cap ∧ n ≤ 9223372036854775807 ∧ (0 < n → ∃ b off, a = some ⟨b, off, none⟩ ∧ S b ∧ ∀ i, i < n → At w b (off + i * k))
def RingX (S : Nat → Prop) (w : World) (b off : Nat) : Prop := (∃ R q, RingAt w b off R q ∧ IntsL w S (slV q)) ∧ w.frozen? ⟨b, off + 1, none⟩ = false
def RepX (S : Nat → Prop) (w : World) (b off : Nat) : Prop := ∃ vs c l, RepAt w b off vs c l ∧ (∀ i, i < 4 → Ints w S (slV (vs i))) ∧ Ints w S (slV c) ∧ Ints w S (slV l)
def ThX (S : Nat → Prop) (w : World) (b off : Nat) : Prop := (∃ T q t, ThAt w b off T q t ∧ Ints w S (slV q) ∧ Ints w S (slV t)) ∧ w.frozen? ⟨b, off, none⟩ = false
def EvX (w : World) (b off : Nat) : Prop := (∃ x, w.cell? ⟨b, off, none⟩ = some (.int .i64 x)) ∧ w.frozen? ⟨b, off, none⟩ = false
def IntsM (w : World) (S : Nat → Prop) (v : Value) : Prop := ∃ c qR qP qT qH, v = machV c qR qP qT qH ∧ IntsRow 4 (RingX S) w S (slV qR) ∧ IntsRow 6 (RepX S) w S (slV qP) ∧ IntsRow 12 (ThX S) w S (slV qT) ∧ IntsRow 6 EvX w S (slV qH)

theorem IntsRow.spoilt {k : Nat} {At : World → Nat → Nat → Prop} {w w' : World} {S S' : Nat → Prop} {v : Value} (h : IntsRow k At w S v) (hAt : ∀ b off, At w b off → At w' b off) (_k : Spoilt S' w w') : IntsRow k At w' S v := by
  obtain ⟨a, n, cap, hv, hn, hm, hx⟩ := h
  refine ⟨a, n, cap, hv, hn, hm, fun hp => ?_⟩
  obtain ⟨b, off, ha, hb, hc⟩ := hx hp
  exact ⟨b, off, ha, hb, fun i hi => hAt _ _ (hc i hi)⟩
theorem Spoilt.sl {S : Nat → Prop} {w w' : World} (k : Spoilt S w w') {p : Addr} {q : Sl} (h : w.cell? p = some (slV q)) : w'.cell? p = some (slV q) := k.rest p _ h (fun x e => by cases e)
theorem Spoilt.bool {S : Nat → Prop} {w w' : World} (k : Spoilt S w w') {p : Addr} {b : Bool} (h : w.cell? p = some (.bool b)) : w'.cell? p = some (.bool b) := k.rest p _ h (fun x e => by cases e)
theorem RingX.spoilt {S S' : Nat → Prop} {w w' : World} {b off : Nat} (h : RingX S w b off) (k : Spoilt S' w w') : RingX S w' b off := by
  obtain ⟨⟨R, q, ⟨h0, h1, h2, h3⟩, hi⟩, hf⟩ := h
  obtain ⟨x0, e0⟩ := k.ints _ _ h0
  obtain ⟨x1, e1⟩ := k.ints _ _ h1
  obtain ⟨x2, e2⟩ := k.ints _ _ h2
  exact ⟨⟨⟨x0, x1, x2, []⟩, q, ⟨e0, e1, e2, k.sl h3⟩, hi.spoilt k⟩, k.thaw _ (World.block_lt_of_cell? w ⟨b, off + 1, none⟩ h1) hf⟩
theorem RepX.spoilt {S S' : Nat → Prop} {w w' : World} {b off : Nat} (h : RepX S w b off) (k : Spoilt S' w w') : RepX S w' b off := by
  obtain ⟨vs, c, l, ⟨h0, h1, h2, h3, h4, h5⟩, i0, i1, i2⟩ := h
  exact ⟨vs, c, l, ⟨k.sl h0, k.sl h1, k.sl h2, k.sl h3, k.sl h4, k.sl h5⟩, fun i hi => (i0 i hi).spoilt k, i1.spoilt k, i2.spoilt k⟩
theorem ThX.spoilt {S S' : Nat → Prop} {w w' : World} {b off : Nat} (h : ThX S w b off) (k : Spoilt S' w w') : ThX S w' b off := by
  obtain ⟨⟨T, q, t, ⟨h0, h1, h2, h3, h4, h5, h6, h7, h8, h9, h10, h11⟩, i0, i1⟩, hf⟩ := h
  obtain ⟨x0, e0⟩ := k.ints _ _ h0
  obtain ⟨x1, e1⟩ := k.ints _ _ h1
  obtain ⟨x2, e2⟩ := k.ints _ _ h2
  obtain ⟨x3, e3⟩ := k.ints _ _ h3
  obtain ⟨x4, e4⟩ := k.ints _ _ h4
  obtain ⟨x5, e5⟩ := k.ints _ _ h5
  obtain ⟨x7, e7⟩ := k.ints _ _ h7
  obtain ⟨x10, e10⟩ := k.ints _ _ h10
  exact ⟨⟨⟨x0, x1, x2, x3, x4, x5, [], x7, T.po, T.re, x10, []⟩, q, t, ⟨e0, e1, e2, e3, e4, e5, k.sl h6, e7, k.bool h8, k.bool h9, e10, k.sl h11⟩, i0.spoilt k, i1.spoilt k⟩, k.thaw _ (World.block_lt_of_cell? w ⟨b, off, none⟩ h0) hf⟩
theorem EvX.spoilt {S' : Nat → Prop} {w w' : World} {b off : Nat} (h : EvX w b off) (k : Spoilt S' w w') : EvX w' b off := by
  obtain ⟨⟨x, h⟩, hf⟩ := h
  exact ⟨k.ints _ _ h, k.thaw _ (World.block_lt_of_cell? w ⟨b, off, none⟩ h) hf⟩
theorem IntsM.spoilt {w w' : World} {S S' : Nat → Prop} {v : Value} (h : IntsM w S v) (k : Spoilt S' w w') : IntsM w' S v := by
  obtain ⟨c, qR, qP, qT, qH, hv, h1, h2, h3, h4⟩ := h
  exact ⟨c, qR, qP, qT, qH, hv, h1.spoilt (fun _ _ h => h.spoilt k) k, h2.spoilt (fun _ _ h => h.spoilt k) k, h3.spoilt (fun _ _ h => h.spoilt k) k, h4.spoilt (fun _ _ h => h.spoilt k) k⟩

set_option maxHeartbeats 400000 in
theorem lawSpoilEvents (v : Value) (S : Nat → Prop) (w : World) (hx : IntsRow 6 EvX w S v) :
    Calls Tryz.prog 42 #[v] w fun e w' => e = .returned (.tuple #[]) ∧ Spoilt S w w' := by
  obtain ⟨a, L, cap, rfl, hc, hm, hx⟩ := hx
  rcases Nat.eq_zero_or_pos L with h0 | h0
  · subst h0
    go_enter Tryz.func42, Tryz.ntmps42
    go_wp2
    refine wp_loop_rounds 1 ?_
    rw [rounds_succ]
    go_wp2
    go_end0
    exact ⟨rfl, Spoilt.refl _ _⟩
  · obtain ⟨b, off, rfl, hb, hcell⟩ := hx h0
    clear hx
    go_enter Tryz.func42, Tryz.ntmps42
    go_wp2
    go_loopw [2] (fun i wr => ∃ k : Nat, k ≤ L ∧ i = .int .i64 k ∧ Spoilt S w wr) (fun i _ => L - (intOf i).toNat)
    case atStart => exact ⟨0, Nat.zero_le _, rfl, Spoilt.refl _ _⟩
    case round =>
      obtain ⟨k, hk, rfl, hsp⟩ := hrel
      by_cases hlt : k < L
      · obtain ⟨⟨x, hcl⟩, hfz⟩ := (hcell k hlt).spoilt hsp
        clear hcell
        go_wp2
        go_roundw
        case rel => exact ⟨k + 1, by omega, by go_num, hsp.trans (Spoilt.store hcl hb)⟩
        case measure => simp [intOf]; omega
      · go_wp2
        go_end0
        exact ⟨rfl, hsp⟩

set_option maxHeartbeats 4000000 in
theorem lawSpoilMachine (v : Value) (S : Nat → Prop) (w : World) (hx : IntsM w S v) (hbase : True) :
    Calls Tryz.prog 16 #[v] w fun e w' => e = .returned (.tuple #[]) ∧ Spoilt S w w' := by
  obtain ⟨c, qR, qP, qT, qH, rfl, hR, hP, hT, hH⟩ := hx
  have hb := Box.new w (cells9 c qR qP qT qH) 29
  have hs0 : Spoilt S w (w.alloc (.cells (cells9 c qR qP qT qH) 29)) := Spoilt.le hbase (Le.alloc _ _)
  replace hR := hR.spoilt (fun _ _ h => h.spoilt hs0) hs0
  replace hP := hP.spoilt (fun _ _ h => h.spoilt hs0) hs0
  replace hT := hT.spoilt (fun _ _ h => h.spoilt hs0) hs0
  replace hH := hH.spoilt (fun _ _ h => h.spoilt hs0) hs0
  have hsz0 : True := trivial
  obtain ⟨⟨_, _, _, _, _⟩, z5, z6, z7, z8⟩ := hb.mach
  have hev := lawSpoilEvents _ S _ hH
  clear hb
  generalize hW : w.alloc (.cells (cells9 c qR qP qT qH) 29) = W at *
  go_enter Tryz.func16, Tryz.ntmps16
  go_wp2_with fail
  refine hev.mono ?_
  rintro e w1 ⟨rfl, s1⟩
  clear hev hH
  obtain ⟨aR, nR, cR⟩ := qR
  obtain ⟨aP, nP, cP⟩ := qP
  obtain ⟨aT, nT, cT⟩ := qT
  simp only [slV] at z5 z6 z7 hR hP hT
  have y5 := s1.sl (q := (aR, nR, cR)) z5
  simp only [slV] at y5
  go_wp2_with fail
  go_loopw [2] (fun i wr => ∃ k : Nat, k ≤ nR ∧ i = .int .i64 k ∧ Spoilt S W wr) (fun i _ => nR - (intOf i).toNat)
  case atStart => exact ⟨0, Nat.zero_le _, rfl, s1⟩
  case round =>
    obtain ⟨k, hk, rfl, hsp⟩ := hrel
    clear y5 s1 w1
    have y5 := hsp.sl (q := (aR, nR, cR)) z5
    simp only [slV] at y5
    have hsz : True := trivial
    by_cases hlt : k < nR
    · obtain ⟨a', n', c', hv, hnc, hm, hx⟩ := hR
      simp only [Value.slice.injEq] at hv
      obtain ⟨rfl, rfl, rfl⟩ := hv
      obtain ⟨b, off, rfl, hbb, hcell⟩ := hx (by omega)
      obtain ⟨⟨R, q, ⟨r0, r1, r2, r3⟩, hi⟩, hfz⟩ := (hcell k hlt).spoilt hsp
      have hsr := lawSpoilRing (ringV R.h R.t R.f q) S _ ⟨_, _, _, _, rfl, hi⟩ hsz
      have hlt' : (k : Int) < (nR : Int) := by omega
      have hk0 : (0 : Int) ≤ (k : Int) := by omega
      clear hP hT z6 z7 z8 hx
      go_wp2_with fail
      refine hsr.mono ?_
      rintro e w2 ⟨rfl, s2⟩
      have hsp2 := hsp.trans s2
      obtain ⟨⟨R', q', ⟨r0', r1', r2', r3'⟩, hi'⟩, hfz'⟩ := (hcell k hlt).spoilt hsp2
      have y5' := s2.sl (q := (some ⟨b, off, none⟩, nR, cR)) y5
      simp only [slV] at y5'
      clear hcell r0 r1 r2 r3 hi hfz hsr y5 hsp s2 r0' r2' r3' hi' z5
      generalize R'.t = x at r1'
      go_wp2_with fail
      go_region
      go_wp2_with fail
      go_roundw
      case rel => exact ⟨k + 1, by omega, by go_num, hsp2.trans ((Spoilt.le trivial (Le.drew _)).trans (Spoilt.store r1' hbb))⟩
      case measure => simp [intOf]; omega
    · clear hR
      have y6 := hsp.sl (q := (aP, nP, cP)) z6
      simp only [slV] at y6
      go_wp2_with fail
      go_loopw [3] (fun i wr => ∃ k : Nat, k ≤ nP ∧ i = .int .i64 k ∧ Spoilt S W wr) (fun i _ => nP - (intOf i).toNat)
      case atStart => exact ⟨0, Nat.zero_le _, rfl, hsp⟩
      case round =>
        obtain ⟨j, hj, rfl, hsp'⟩ := hrel
        clear y5 y6 hsz hsp hlt hk
        rename_i _ wq
        have y6 := hsp'.sl (q := (aP, nP, cP)) z6
        simp only [slV] at y6
        have hsz : True := trivial
        by_cases hlt : j < nP
        · obtain ⟨a', n', c', hv, hnc, hm, hx⟩ := hP
          simp only [Value.slice.injEq] at hv
          obtain ⟨rfl, rfl, rfl⟩ := hv
          obtain ⟨b, off, rfl, hbb, hcell⟩ := hx (by omega)
          have hlt' : (j : Int) < (nP : Int) := by omega
          have hj0 : (0 : Int) ≤ (j : Int) := by omega
          clear hT z5 z7 z8 hx
          obtain ⟨vs, cc, ll, ⟨r0, r1, r2, r3, r4, r5⟩, i0, i1, i2⟩ := (hcell j hlt).spoilt hsp'
          have hsr := lawSpoilState (stV vs) S _ ⟨vs, rfl, i0⟩ hsz
          go_wp2_with fail
          refine hsr.mono ?_
          rintro e w2 ⟨rfl, s2⟩
          have hsr2 := lawSpoil _ S _ (i1.spoilt s2)
          have r4' := s2.sl r4
          have y6' := s2.sl (q := (some ⟨b, off, none⟩, nP, cP)) y6
          simp only [slV] at y6'
          go_wp2_with fail
          refine hsr2.mono ?_
          rintro e w3 ⟨rfl, s3⟩
          have hsr3 := lawSpoil _ S _ ((i2.spoilt s2).spoilt s3)
          have r5' := s3.sl (s2.sl r5)
          have y6'' := s3.sl (q := (some ⟨b, off, none⟩, nP, cP)) y6'
          simp only [slV] at y6''
          go_wp2_with fail
          refine hsr3.mono ?_
          rintro e w4 ⟨rfl, s4⟩
          go_wp2_with fail
          go_roundw
          case rel => exact ⟨j + 1, by omega, by go_num, ((hsp'.trans s2).trans s3).trans s4⟩
          case measure => simp [intOf]; omega
        · clear hP
          have y7 := hsp'.sl (q := (aT, nT, cT)) z7
          simp only [slV] at y7
          go_wp2_with fail
          go_loopw [4] (fun i wr => ∃ k : Nat, k ≤ nT ∧ i = .int .i64 k ∧ Spoilt S W wr) (fun i _ => nT - (intOf i).toNat)
          case atStart => exact ⟨0, Nat.zero_le _, rfl, hsp'⟩
          case round =>
            obtain ⟨i, hi, rfl, hsp⟩ := hrel
            clear y6 y7 hsz hsp' hlt hj
            have y7 := hsp.sl (q := (aT, nT, cT)) z7
            simp only [slV] at y7
            have hsz : True := trivial
            by_cases hlt : i < nT
            · obtain ⟨a', n', c', hv, hnc, hm, hx⟩ := hT
              simp only [Value.slice.injEq] at hv
              obtain ⟨rfl, rfl, rfl⟩ := hv
              obtain ⟨b, off, rfl, hbb, hcell⟩ := hx (by omega)
              have hlt' : (i : Int) < (nT : Int) := by omega
              have hi0 : (0 : Int) ≤ (i : Int) := by omega
              clear z5 z6 z8 hx
              obtain ⟨⟨T, q, t, ⟨_, _, _, _, _, _, r6, _, _, _, _, r11⟩, i0, i1⟩, _⟩ := (hcell i hlt).spoilt hsp
              have hsr := lawSpoil _ S _ i0
              go_wp2_with fail
              refine hsr.mono ?_
              rintro e w2 ⟨rfl, s2⟩
              have hsr2 := lawSpoil _ S _ (i1.spoilt s2)
              have r11' := s2.sl r11
              have y7' := s2.sl (q := (some ⟨b, off, none⟩, nT, cT)) y7
              simp only [slV] at y7'
              go_wp2_with fail
              refine hsr2.mono ?_
              rintro e w3 ⟨rfl, s3⟩
              have hsp3 := (hsp.trans s2).trans s3
              obtain ⟨⟨T', q', t', ⟨r0, _⟩, _⟩, hfz⟩ := (hcell i hlt).spoilt hsp3
              have y7'' := s3.sl (q := (some ⟨b, off, none⟩, nT, cT)) y7'
              simp only [slV] at y7''
              clear hcell hsr hsr2 y7 y7' hsp s2 s3 r6 r11 r11' i0 i1 z7
              generalize T'.st = x at r0
              go_wp2_with fail
              go_region
              go_wp2_with fail
              go_roundw
              case rel => exact ⟨i + 1, by omega, by go_num, hsp3.trans ((Spoilt.le trivial (Le.drew _)).trans (Spoilt.store r0 hbb))⟩
              case measure => simp [intOf]; omega
            · clear hT
              go_wp2_with fail
              go_end0
              exact ⟨rfl, hs0.trans hsp⟩


theorem own_ints {w : World} {base : Nat} {S : Nat → Prop} {v : Value} {xs : List Int} (h : Own w base v xs) (hS : ∀ g, base ≤ g → g < w.heap.size → S g) : Ints w S v := by
  obtain ⟨a, n, cap, hv, hn, hm, hx⟩ := Go.Proofs.YtkddgpdlpjjpbaaGreat.Own.ints h
  refine ⟨a, n, cap, hv, hn, hm, fun hp => ?_⟩
  obtain ⟨b, off, ha, hb, hc⟩ := hx hp
  obtain ⟨⟨x, h1⟩, _⟩ := hc 0 hp
  exact ⟨b, off, ha, hS b hb (World.block_lt_of_cell? w _ h1), hc⟩
theorem ownL_ints {w : World} {base : Nat} {S : Nat → Prop} {v : Value} {ss : List Slt} (h : OwnL w base v ss) (hf : ss.length * 40 ≤ 140737488351232) (hS : ∀ g, base ≤ g → g < w.heap.size → S g) : IntsL w S v := by
  obtain ⟨a, n, cap, hv, hn, hm, hx⟩ := Go.Proofs.YtkddgpdlpjjpbaaGreat.OwnL.ints h hf
  refine ⟨a, n, cap, hv, hn, hm, fun hp => ?_⟩
  obtain ⟨b, off, ha, hb, hc⟩ := hx hp
  obtain ⟨⟨x, h1⟩, _⟩ := hc 0 hp
  exact ⟨b, off, ha, hS b hb (World.block_lt_of_cell? w _ h1), hc⟩
theorem each {α : Type} {K : Kind α} {w : World} {base : Nat} {S : Nat → Prop} {v : Value} {xs : List α} (h : OwnE K w base v xs) (At : World → Nat → Nat → Prop) (hm : xs.length ≤ 9223372036854775807) (hS : ∀ g, base ≤ g → g < w.heap.size → S g)
    (hAt : ∀ b off x, x ∈ xs → (∀ j, j < K.k → w.cell? ⟨b, off + j, none⟩ = (K.f x)[j]?) → (∀ j, w.frozen? ⟨b, j, none⟩ = false) → At w b off) : IntsRow K.k At w S v := by
  obtain ⟨a, n, cap, hv, hn, hm', hx⟩ := Go.Proofs.YtkddgpdlpjjpbaaGreat.OwnE.each h At hm hAt
  refine ⟨a, n, cap, hv, hn, hm', fun hp => ?_⟩
  obtain ⟨b, off, ha, hb, hc⟩ := hx hp
  refine ⟨b, off, ha, hS b hb ?_, hc⟩
  subst ha hv
  exact (h.block (g := b) rfl).2
theorem ownsM_ints {w : World} {base : Nat} {S : Nat → Prop} {L : Lay} (h : OwnsM w base L) (hf : FitM L.M) (hS : ∀ g, base ≤ g → g < w.heap.size → S g) : IntsM w S L.v := by
  have f1 := hf.rs
  have f2 := hf.ps
  have f3 := hf.ts
  have f4 := hf.es
  simp only [Lay.M, List.length_map] at f1 f2 f3 f4
  refine ⟨L.c, L.qR, L.qP, L.qT, L.qH, rfl, ?_, ?_, ?_, ?_⟩
  · refine each h.oR (RingX S) (by omega) hS fun b off x hx hc hz => ⟨⟨x.R, x.q, ⟨hc 0 (by decide), hc 1 (by decide), hc 2 (by decide), hc 3 (by decide)⟩, ownL_ints (h.iR x hx) (hf.r x.R (List.mem_map_of_mem hx)) hS⟩, hz _⟩
  · refine each h.oP (RepX S) (by omega) hS fun b off x hx hc hz => ⟨x.vs, x.c, x.l, ⟨hc 0 (by decide), hc 1 (by decide), hc 2 (by decide), hc 3 (by decide), hc 4 (by decide), hc 5 (by decide)⟩, fun i hi => own_ints ((h.iP x hx).1 i hi) hS, own_ints (h.iP x hx).2.1 hS, own_ints (h.iP x hx).2.2 hS⟩
  · refine each h.oT (ThX S) (by omega) hS fun b off x hx hc hz => ⟨⟨x.T, x.b, x.t, ⟨hc 0 (by decide), hc 1 (by decide), hc 2 (by decide), hc 3 (by decide), hc 4 (by decide), hc 5 (by decide), hc 6 (by decide), hc 7 (by decide), hc 8 (by decide), hc 9 (by decide), hc 10 (by decide), hc 11 (by decide)⟩, own_ints (h.iT x hx).1 hS, own_ints (h.iT x hx).2 hS⟩, hz _⟩
  · refine each h.oH EvX (by omega) hS fun b off x hx hc hz => ⟨⟨x.t, hc 0 (by decide)⟩, hz _⟩
/-- A row that lies outside stays. -/
theorem Spoilt.row {S : Nat → Prop} {w w' : World} (k : Spoilt S w w') {base kk n : Nat} {t : TypeId} {v : Value} {us : List Value} (h : w.ownsRow base t kk v n us) (hS : ∀ g, base ≤ g → ¬ S g) : w'.ownsRow base t kk v n us := by
  obtain ⟨h1, h2⟩ := h
  refine ⟨h1, ?_⟩
  rcases h2 with h2 | ⟨g, cap, cur, hv, hg, hh, r⟩
  · exact .inl h2
  · exact .inr ⟨g, cap, cur, hv, hg, by rw [k.keep g (block_lt hh) (hS g hg)]; exact hh, r⟩
theorem Spoilt.ownM {S : Nat → Prop} {w w' : World} (k : Spoilt S w w') {base : Nat} {v : Value} {M : Mc} (h : OwnM w base v M) (hS : ∀ g, base ≤ g → ¬ S g) : OwnM w' base v M := by
  obtain ⟨L, hv, hm, o⟩ := h
  exact ⟨L, hv, hm, ⟨k.row o.oR hS, k.row o.oP hS, k.row o.oT hS, k.row o.oH hS, fun y hy => k.row (o.iR y hy) hS, fun y hy => ⟨fun i hi => k.row ((o.iP y hy).1 i hi) hS, k.row (o.iP y hy).2.1 hS, k.row (o.iP y hy).2.2 hS⟩, fun y hy => ⟨k.row (o.iT y hy).1 hS, k.row (o.iT y hy).2 hS⟩⟩⟩
theorem Spoilt.box {S : Nat → Prop} {w w' : World} (k : Spoilt S w w') {g : Nat} {cs : Array Value} {t : TypeId} (h : Box w g cs t) (hS : ¬ S g) : Box w' g cs t := by
  unfold Box
  rw [k.keep g h.lt hS]
  exact h
theorem Spoilt.toLe {S : Nat → Prop} {w0 w w' : World} (k : Spoilt S w w') (l : Le w0 w) (hS : ∀ g, g < w0.heap.size → ¬ S g) : Le w0 w' :=
  ⟨k.os.trans l.os, k.tape.trans l.tape, k.output.trans l.output, Nat.le_trans l.size k.size, fun i hi => (k.keep i (Nat.lt_of_lt_of_le hi l.size) (hS i hi)).trans (l.block i hi)⟩

end Go.Proofs.YtkddgpdlpjjpbaaGreat.Sp
