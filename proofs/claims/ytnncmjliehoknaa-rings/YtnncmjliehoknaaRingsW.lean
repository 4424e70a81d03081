/-
  THE WALK over choruslaw10.Rings: it answers true, for every ring, operation and numbers, and turns nothing that was there. Condition: the ring's slots can be copied.
-/
import Derived.Test.YtnncmjliehoknaaRgAwake
import Derived.Test.YtnncmjliehoknaaRfH
import Derived.Test.YtnncmjliehoknaaLwA
import Derived.Test.YtnncmjliehoknaaLater
namespace Go.Proofs.Ytnncmjliehoknaa
open Go.RowKit

set_option maxRecDepth 10000 in
set_option maxHeartbeats 4000000 in
theorem lawRings (w : World) (v : Value) (R : Rg) (hx : HasR w v R) (hf : FitR R) (p k c r a th : Int) :
    Calls Try.prog 3 #[v, .int .i64 p, .int .i64 k, opV c r a, .int .i64 th] w fun e w' => e = .returned (.bool true) ∧ Le w w' := by
  have fA := reserve_fit hf k
  have fC := publish_fit hf p c r a th
  have fU := free_fit hf p
  have fN := new_fit k
  obtain ⟨hh, t, f, ss⟩ := R
  obtain ⟨q, rfl, hq⟩ := hx
  simp only at hq ⊢
  obtain ⟨A, hA⟩ : ∃ A, reserveS ⟨hh, t, f, ss⟩ k = A := ⟨_, rfl⟩
  obtain ⟨C, hC⟩ : ∃ A, publishS ⟨hh, t, f, ss⟩ p c r a th = A := ⟨_, rfl⟩
  obtain ⟨P, hP⟩ : ∃ A, entryS ⟨hh, t, f, ss⟩ p = A := ⟨_, rfl⟩
  obtain ⟨U, hU⟩ : ∃ A, freeS ⟨hh, t, f, ss⟩ p = A := ⟨_, rfl⟩
  obtain ⟨N, hN⟩ : ∃ A, newS k = A := ⟨_, rfl⟩
  obtain ⟨y, hM⟩ : ∃ y, mayR ⟨hh, t, f, ss⟩ = y := ⟨_, rfl⟩
  rw [hA] at fA
  rw [hC] at fC
  rw [hU] at fU
  rw [hN] at fN
  obtain ⟨⟨ah, at', af, as'⟩, ax, ae⟩ := A
  obtain ⟨⟨ch, ct, cf, cs⟩, ce⟩ := C
  obtain ⟨⟨pc, pr, pa, pt, pb⟩, pe⟩ := P
  obtain ⟨⟨uh, ut, uf, us⟩, ue⟩ := U
  obtain ⟨⟨nh, nt, nf, ns⟩, ne⟩ := N
  replace hf : ss.length * 40 ≤ 140737488351232 := hf
  replace fA : as'.length * 40 ≤ 140737488351232 := fA
  replace fC : cs.length * 40 ≤ 140737488351232 := fC
  replace fU : us.length * 40 ≤ 140737488351232 := fU
  replace fN : ns.length * 40 ≤ 140737488351232 := fN
  have kA := reserveAs hA hf
  have kB := refReserveAs hA hf
  have kC := publishAs hC hf
  have kD := refPublishAs hC hf
  have kP := entryAs hP hf
  have kQ := refEntryAs hP hf
  have kU := freeAs hU hf
  have kV := refFreeAs hU hf
  have kW := newAs hN
  have kT := refNewAs hN
  have kM := mayAs hM hf
  have kL := refMayAs hM hf
  clear hA hC hP hU hN hM
  have hl := (Le.alloc w (.cells (cellsR hh t f q) 24)).trans (Le.alloc _ (.cells #[.int .i64 c, .int .i64 r, .int .i64 a] 26))
  have hbr := (Box.new w (cellsR hh t f q) 24).le (Le.alloc _ (.cells #[.int .i64 c, .int .i64 r, .int .i64 a] 26))
  have hbo := Box.new (w.alloc (.cells (cellsR hh t f q) 24)) #[.int .i64 c, .int .i64 r, .int .i64 a] 26
  simp only [World.size_alloc] at hbr hbo
  go_enter Try.func3, Try.ntmps3
  go_wp2_with fail
  refine (lawCopyRing hh t f q ss _ (hq.le hl) hf).mono ?_
  rintro e w1 ⟨u, rfl, ho1, l1⟩
  have hbs := Box.new w1 (cellsR hh t f u) 24
  replace l1 := l1.trans (Le.alloc w1 (.cells (cellsR hh t f u) 24))
  replace hbr := hbr.le l1
  replace hbo := hbo.le l1
  replace hl := hl.trans l1
  have hqs := ho1.has.le (Le.alloc w1 (.cells (cellsR hh t f u) 24))
  have hqr := hq.le hl
  clear l1 ho1 hq
  go_upto_region 2 with fail
  generalize hW : w1.alloc (.cells (cellsR hh t f u) 24) = W at hbr hbo hbs hl hqs hqr ⊢
  clear hW
  have hB := Le.refl W
  have hbr0 := hbr
  have hbs0 := hbs
  have hqs0 := hqs
  have hqr0 := hqr
  obtain ⟨x0, x1, x2, x3, _, _, _, _⟩ := hbs.ring
  go_wp2_with fail
  refine (kA u _ hqs).mono ?_
  rintro e w2 ⟨q2, rfl, o2, l2⟩
  have a2 := Le.alloc w2 (.cells (cellsR ah at' af q2) 24)
  have hba := Box.new w2 (cellsR ah at' af q2) 24
  replace l2 := l2.trans a2
  replace hbr := hbr.le l2
  replace hbo := hbo.le l2
  replace hbs := hbs.le l2
  replace hqs := hqs.le l2
  replace hqr := hqr.le l2
  replace o2 := (o2.le a2).base hB.size
  replace hB := hB.trans l2
  clear l2 a2 x0 x1 x2 x3
  go_upto_region 3 with fail
  generalize hW : w2.alloc (.cells (cellsR ah at' af q2) 24) = W2 at hbr hbo hbs hba hqs hqr o2 hB ⊢
  clear hW
  obtain ⟨x0, x1, x2, x3, _, _, _, _⟩ := hbr.ring
  go_wp2_with fail
  refine (kB q _ hqr).mono ?_
  rintro e w3 ⟨q3, rfl, o3, l3⟩
  have a3 := Le.alloc w3 (.cells (cellsR ah at' af q3) 24)
  have hbb := Box.new w3 (cellsR ah at' af q3) 24
  replace l3 := l3.trans a3
  replace hbr := hbr.le l3
  replace hbo := hbo.le l3
  replace hbs := hbs.le l3
  replace hba := hba.le l3
  replace hqs := hqs.le l3
  replace hqr := hqr.le l3
  replace o2 := o2.le l3
  replace o3 := (o3.le a3).base hB.size
  replace hB := hB.trans l3
  clear l3 a3 x0 x1 x2 x3
  go_upto_region 4 with fail
  generalize hW : w3.alloc (.cells (cellsR ah at' af q3) 24) = W3 at hbr hbo hbs hba hbb hqs hqr o2 o3 hB ⊢
  clear hW
  obtain ⟨x0, x1, x2, x3, _, _, _, _⟩ := hbs.ring
  obtain ⟨y0, y1, y2, _, _, _⟩ := hbo.op
  go_wp2_with fail
  refine (kC u _ hqs).mono ?_
  rintro e w4 ⟨q4, rfl, o4, l4⟩
  have a4 := Le.alloc w4 (.cells (cellsR ch ct cf q4) 24)
  have hbc := Box.new w4 (cellsR ch ct cf q4) 24
  replace l4 := l4.trans a4
  replace hbr := hbr.le l4
  replace hbo := hbo.le l4
  replace hbs := hbs.le l4
  replace hba := hba.le l4
  replace hbb := hbb.le l4
  replace hqs := hqs.le l4
  replace hqr := hqr.le l4
  replace o2 := o2.le l4
  replace o3 := o3.le l4
  replace o4 := (o4.le a4).base hB.size
  replace hB := hB.trans l4
  clear l4 a4 x0 x1 x2 x3 y0 y1 y2
  go_upto_region 5 with fail
  generalize hW : w4.alloc (.cells (cellsR ch ct cf q4) 24) = W4 at hbr hbo hbs hba hbb hbc hqs hqr o2 o3 o4 hB ⊢
  clear hW
  obtain ⟨x0, x1, x2, x3, _, _, _, _⟩ := hbr.ring
  obtain ⟨y0, y1, y2, _, _, _⟩ := hbo.op
  go_wp2_with fail
  refine (kD q _ hqr).mono ?_
  rintro e w5 ⟨q5, rfl, o5, l5⟩
  have a5 := Le.alloc w5 (.cells (cellsR ch ct cf q5) 24)
  have hbd := Box.new w5 (cellsR ch ct cf q5) 24
  replace l5 := l5.trans a5
  replace hbr := hbr.le l5
  replace hbo := hbo.le l5
  replace hbs := hbs.le l5
  replace hba := hba.le l5
  replace hbb := hbb.le l5
  replace hbc := hbc.le l5
  replace hqs := hqs.le l5
  replace hqr := hqr.le l5
  replace o2 := o2.le l5
  replace o3 := o3.le l5
  replace o4 := o4.le l5
  replace o5 := (o5.le a5).base hB.size
  replace hB := hB.trans l5
  clear l5 a5 x0 x1 x2 x3 y0 y1 y2
  go_upto_region 6 with fail
  generalize hW : w5.alloc (.cells (cellsR ch ct cf q5) 24) = W5 at hbr hbo hbs hba hbb hbc hbd hqs hqr o2 o3 o4 o5 hB ⊢
  clear hW
  obtain ⟨x0, x1, x2, x3, _, _, _, _⟩ := hbs.ring
  go_wp2_with fail
  refine (kP u _ hqs).mono ?_
  rintro e w6 ⟨rfl, l6⟩
  have a6 := Le.alloc w6 (.cells (#[.int .i64 pc, .int .i64 pr, .int .i64 pa, .int .i64 pt, .int .i64 pb]) 38)
  have hbp := Box.new w6 (#[.int .i64 pc, .int .i64 pr, .int .i64 pa, .int .i64 pt, .int .i64 pb]) 38
  replace l6 := l6.trans a6
  replace hbr := hbr.le l6
  replace hbo := hbo.le l6
  replace hbs := hbs.le l6
  replace hba := hba.le l6
  replace hbb := hbb.le l6
  replace hbc := hbc.le l6
  replace hbd := hbd.le l6
  replace hqs := hqs.le l6
  replace hqr := hqr.le l6
  replace o2 := o2.le l6
  replace o3 := o3.le l6
  replace o4 := o4.le l6
  replace o5 := o5.le l6
  replace hB := hB.trans l6
  clear l6 a6 x0 x1 x2 x3
  go_upto_region 7 with fail
  generalize hW : w6.alloc (.cells (#[.int .i64 pc, .int .i64 pr, .int .i64 pa, .int .i64 pt, .int .i64 pb]) 38) = W6 at hbr hbo hbs hba hbb hbc hbd hbp hqs hqr o2 o3 o4 o5 hB ⊢
  clear hW
  obtain ⟨x0, x1, x2, x3, _, _, _, _⟩ := hbr.ring
  go_wp2_with fail
  refine (kQ q _ hqr).mono ?_
  rintro e w7 ⟨rfl, l7⟩
  have a7 := Le.alloc w7 (.cells (#[.int .i64 pc, .int .i64 pr, .int .i64 pa, .int .i64 pt, .int .i64 pb]) 38)
  have hbq := Box.new w7 (#[.int .i64 pc, .int .i64 pr, .int .i64 pa, .int .i64 pt, .int .i64 pb]) 38
  replace l7 := l7.trans a7
  replace hbr := hbr.le l7
  replace hbo := hbo.le l7
  replace hbs := hbs.le l7
  replace hba := hba.le l7
  replace hbb := hbb.le l7
  replace hbc := hbc.le l7
  replace hbd := hbd.le l7
  replace hbp := hbp.le l7
  replace hqs := hqs.le l7
  replace hqr := hqr.le l7
  replace o2 := o2.le l7
  replace o3 := o3.le l7
  replace o4 := o4.le l7
  replace o5 := o5.le l7
  replace hB := hB.trans l7
  clear l7 a7 x0 x1 x2 x3
  go_upto_region 8 with fail
  generalize hW : w7.alloc (.cells (#[.int .i64 pc, .int .i64 pr, .int .i64 pa, .int .i64 pt, .int .i64 pb]) 38) = W7 at hbr hbo hbs hba hbb hbc hbd hbp hbq hqs hqr o2 o3 o4 o5 hB ⊢
  clear hW
  obtain ⟨x0, x1, x2, x3, _, _, _, _⟩ := hbs.ring
  go_wp2_with fail
  refine (kU u _ hqs).mono ?_
  rintro e w8 ⟨q8, rfl, o8, l8⟩
  have a8 := Le.alloc w8 (.cells (cellsR uh ut uf q8) 24)
  have hbu := Box.new w8 (cellsR uh ut uf q8) 24
  replace l8 := l8.trans a8
  replace hbr := hbr.le l8
  replace hbo := hbo.le l8
  replace hbs := hbs.le l8
  replace hba := hba.le l8
  replace hbb := hbb.le l8
  replace hbc := hbc.le l8
  replace hbd := hbd.le l8
  replace hbp := hbp.le l8
  replace hbq := hbq.le l8
  replace hqs := hqs.le l8
  replace hqr := hqr.le l8
  replace o2 := o2.le l8
  replace o3 := o3.le l8
  replace o4 := o4.le l8
  replace o5 := o5.le l8
  replace o8 := (o8.le a8).base hB.size
  replace hB := hB.trans l8
  clear l8 a8 x0 x1 x2 x3
  go_upto_region 9 with fail
  generalize hW : w8.alloc (.cells (cellsR uh ut uf q8) 24) = W8 at hbr hbo hbs hba hbb hbc hbd hbp hbq hbu hqs hqr o2 o3 o4 o5 o8 hB ⊢
  clear hW
  obtain ⟨x0, x1, x2, x3, _, _, _, _⟩ := hbr.ring
  go_wp2_with fail
  refine (kV q _ hqr).mono ?_
  rintro e w9 ⟨q9, rfl, o9, l9⟩
  have a9 := Le.alloc w9 (.cells (cellsR uh ut uf q9) 24)
  have hbv := Box.new w9 (cellsR uh ut uf q9) 24
  replace l9 := l9.trans a9
  replace hbr := hbr.le l9
  replace hbo := hbo.le l9
  replace hbs := hbs.le l9
  replace hba := hba.le l9
  replace hbb := hbb.le l9
  replace hbc := hbc.le l9
  replace hbd := hbd.le l9
  replace hbp := hbp.le l9
  replace hbq := hbq.le l9
  replace hbu := hbu.le l9
  replace hqs := hqs.le l9
  replace hqr := hqr.le l9
  replace o2 := o2.le l9
  replace o3 := o3.le l9
  replace o4 := o4.le l9
  replace o5 := o5.le l9
  replace o8 := o8.le l9
  replace o9 := (o9.le a9).base hB.size
  replace hB := hB.trans l9
  clear l9 a9 x0 x1 x2 x3
  go_upto_region 10 with fail
  generalize hW : w9.alloc (.cells (cellsR uh ut uf q9) 24) = W9 at hbr hbo hbs hba hbb hbc hbd hbp hbq hbu hbv hqs hqr o2 o3 o4 o5 o8 o9 hB ⊢
  clear hW
  go_wp2_with fail
  refine (kW _).mono ?_
  rintro e w10 ⟨q10, rfl, o10, l10⟩
  have a10 := Le.alloc w10 (.cells (cellsR nh nt nf q10) 24)
  have hbw := Box.new w10 (cellsR nh nt nf q10) 24
  replace l10 := l10.trans a10
  replace hbr := hbr.le l10
  replace hbo := hbo.le l10
  replace hbs := hbs.le l10
  replace hba := hba.le l10
  replace hbb := hbb.le l10
  replace hbc := hbc.le l10
  replace hbd := hbd.le l10
  replace hbp := hbp.le l10
  replace hbq := hbq.le l10
  replace hbu := hbu.le l10
  replace hbv := hbv.le l10
  replace hqs := hqs.le l10
  replace hqr := hqr.le l10
  replace o2 := o2.le l10
  replace o3 := o3.le l10
  replace o4 := o4.le l10
  replace o5 := o5.le l10
  replace o8 := o8.le l10
  replace o9 := o9.le l10
  replace o10 := (o10.le a10).base hB.size
  replace hB := hB.trans l10
  clear l10 a10 
  go_upto_region 11 with fail
  generalize hW : w10.alloc (.cells (cellsR nh nt nf q10) 24) = W10 at hbr hbo hbs hba hbb hbc hbd hbp hbq hbu hbv hbw hqs hqr o2 o3 o4 o5 o8 o9 o10 hB ⊢
  clear hW
  go_wp2_with fail
  refine (kT _).mono ?_
  rintro e w11 ⟨q11, rfl, o11, l11⟩
  have a11 := Le.alloc w11 (.cells (cellsR nh nt nf q11) 24)
  have hbt := Box.new w11 (cellsR nh nt nf q11) 24
  replace l11 := l11.trans a11
  replace hbr := hbr.le l11
  replace hbo := hbo.le l11
  replace hbs := hbs.le l11
  replace hba := hba.le l11
  replace hbb := hbb.le l11
  replace hbc := hbc.le l11
  replace hbd := hbd.le l11
  replace hbp := hbp.le l11
  replace hbq := hbq.le l11
  replace hbu := hbu.le l11
  replace hbv := hbv.le l11
  replace hbw := hbw.le l11
  replace hqs := hqs.le l11
  replace hqr := hqr.le l11
  replace o2 := o2.le l11
  replace o3 := o3.le l11
  replace o4 := o4.le l11
  replace o5 := o5.le l11
  replace o8 := o8.le l11
  replace o9 := o9.le l11
  replace o10 := o10.le l11
  replace o11 := (o11.le a11).base hB.size
  replace hB := hB.trans l11
  clear l11 a11 
  go_upto_region 12 with fail
  generalize hW : w11.alloc (.cells (cellsR nh nt nf q11) 24) = W11 at hbr hbo hbs hba hbb hbc hbd hbp hbq hbu hbv hbw hbt hqs hqr o2 o3 o4 o5 o8 o9 o10 o11 hB ⊢
  clear hW
  clear kA kB kC kD kP kQ kU kV kW kT
  have sAB := fun X : Later W11 => lawSameRing (ringV ah at' af q2) (ringV ah at' af q3) ⟨ah, at', af, as'⟩ ⟨ah, at', af, as'⟩ X.w ⟨q2, rfl, o2.has.le X.le⟩ ⟨q3, rfl, o3.has.le X.le⟩ fA
  have sCD := fun X : Later W11 => lawSameRing (ringV ch ct cf q4) (ringV ch ct cf q5) ⟨ch, ct, cf, cs⟩ ⟨ch, ct, cf, cs⟩ X.w ⟨q4, rfl, o4.has.le X.le⟩ ⟨q5, rfl, o5.has.le X.le⟩ fC
  have sUV := fun X : Later W11 => lawSameRing (ringV uh ut uf q8) (ringV uh ut uf q9) ⟨uh, ut, uf, us⟩ ⟨uh, ut, uf, us⟩ X.w ⟨q8, rfl, o8.has.le X.le⟩ ⟨q9, rfl, o9.has.le X.le⟩ fU
  have sWT := fun X : Later W11 => lawSameRing (ringV nh nt nf q10) (ringV nh nt nf q11) ⟨nh, nt, nf, ns⟩ ⟨nh, nt, nf, ns⟩ X.w ⟨q10, rfl, o10.has.le X.le⟩ ⟨q11, rfl, o11.has.le X.le⟩ fN
  simp only [decide_true] at sAB sCD sUV sWT
  have sM := fun X : Later W11 => kM u X.w (hqs.le X.le)
  have sL := fun X : Later W11 => kL q X.w (hqr.le X.le)
  clear kM kL
  obtain ⟨a0, a1, a2, a3⟩ := hba.laterR
  obtain ⟨b0, b1, b2, b3⟩ := hbb.laterR
  obtain ⟨c0, c1, c2, c3⟩ := hbc.laterR
  obtain ⟨d0, d1, d2, d3⟩ := hbd.laterR
  obtain ⟨u0, u1, u2, u3⟩ := hbu.laterR
  obtain ⟨v0, v1, v2, v3⟩ := hbv.laterR
  obtain ⟨w0, w1', w2', w3'⟩ := hbw.laterR
  obtain ⟨t0, t1, t2, t3⟩ := hbt.laterR
  obtain ⟨r0, r1, r2, r3⟩ := hbr.laterR
  obtain ⟨s0, s1, s2, s3⟩ := hbs.laterR
  obtain ⟨p0, p1, p2, p3, p4⟩ := hbp.laterS
  obtain ⟨g0, g1, g2, g3, g4⟩ := hbq.laterS
  refine wp_region_later (by kernel_rfl) (by kernel_rfl) ?_
  simp only [List.append]
  repeat (go_big_quiet_step (first | (go_at_call 21; exact Calls.later_same (lawNum _ _)) | (go_at_call 20; with_reducible exact Calls.later (sAB _)) | (go_at_call 20; with_reducible exact Calls.later (sCD _)) | (go_at_call 20; with_reducible exact Calls.later (sUV _)) | (go_at_call 20; with_reducible exact Calls.later (sWT _)) | (go_at_call 22; with_reducible exact Calls.later (sM _)) | (go_at_call 23; with_reducible exact Calls.later (sL _))))
  refine wpQuiet_nil ?_
  rintro _ ⟨x, rfl⟩
  clear a0 a1 a2 a3 b0 b1 b2 b3 c0 c1 c2 c3 d0 d1 d2 d3 u0 u1 u2 u3 v0 v1 v2 v3 w0 w1' w2' w3' t0 t1 t2 t3 r0 r1 r2 r3 s0 s1 s2 s3 p0 p1 p2 p3 p4 g0 g1 g2 g3 g4 sAB sCD sUV sWT sM sL hbb hbd hbv hbw hbt hbp hbq o3 o5 o9 o10 o11
  have hBX := hB.trans x.le
  replace hba := hba.le x.le
  replace hbc := hbc.le x.le
  replace hbu := hbu.le x.le
  replace o2 := o2.le x.le
  replace o4 := o4.le x.le
  replace o8 := o8.le x.le
  have i4 := o4.ints fC
  have i8 := o8.ints fU
  obtain ⟨x0, x1, x2, x3, _, _, _, _⟩ := hba.ring
  obtain ⟨c0, c1, c2, c3, _, _, _, _⟩ := hbc.ring
  obtain ⟨u0, u1, u2, u3, _, _, _, _⟩ := hbu.ring
  go_wp2_with fail
  refine (lawSpoilRing (ringV ah at' af q2) W.heap.size _ ⟨_, _, _, q2, rfl, o2.ints fA⟩ hBX.size).mono ?_
  rintro e w12 ⟨rfl, s12⟩
  replace hBX : Le W w12 := Below.trans hBX s12.below
  obtain ⟨k0, c0⟩ := s12.ints _ _ c0
  obtain ⟨k1, c1⟩ := s12.ints _ _ c1
  obtain ⟨k2, c2⟩ := s12.ints _ _ c2
  replace c3 := s12.rest _ _ c3 (fun x h => by cases h)
  obtain ⟨m0, u0⟩ := s12.ints _ _ u0
  obtain ⟨m1, u1⟩ := s12.ints _ _ u1
  obtain ⟨m2, u2⟩ := s12.ints _ _ u2
  replace u3 := s12.rest _ _ u3 (fun x h => by cases h)
  replace i4 := i4.spoilt s12
  replace i8 := i8.spoilt s12
  clear s12 x0 x1 x2 x3 hba hbc hbu o2 o4 o8
  go_wp2_with fail
  refine (lawSpoilRing (ringV k0 k1 k2 q4) W.heap.size _ ⟨_, _, _, q4, rfl, i4⟩ hBX.size).mono ?_
  rintro e w13 ⟨rfl, s13⟩
  replace hBX : Le W w13 := Below.trans hBX s13.below
  obtain ⟨m0, u0⟩ := s13.ints _ _ u0
  obtain ⟨m1, u1⟩ := s13.ints _ _ u1
  obtain ⟨m2, u2⟩ := s13.ints _ _ u2
  replace u3 := s13.rest _ _ u3 (fun x h => by cases h)
  replace i8 := i8.spoilt s13
  clear s13 c0 c1 c2 c3 i4
  go_wp2_with fail
  refine (lawSpoilRing (ringV m0 m1 m2 q8) W.heap.size _ ⟨_, _, _, q8, rfl, i8⟩ hBX.size).mono ?_
  rintro e w14 ⟨rfl, s14⟩
  replace hBX : Le W w14 := Below.trans hBX s14.below
  clear s14 u0 u1 u2 u3 i8 hbr hbs hqs hqr hbo
  replace hbr0 := hbr0.le hBX
  replace hbs0 := hbs0.le hBX
  obtain ⟨x0, x1, x2, x3, _, _, _, _⟩ := hbr0.ring
  obtain ⟨y0, y1, y2, y3, _, _, _, _⟩ := hbs0.ring
  go_wp2_with fail
  have hsm := lawSameRing (ringV hh t f u) (ringV hh t f q) ⟨hh, t, f, ss⟩ ⟨hh, t, f, ss⟩ w14 ⟨u, rfl, hqs0.le hBX⟩ ⟨q, rfl, hqr0.le hBX⟩ hf
  simp only [decide_true] at hsm
  refine hsm.mono ?_
  rintro e w15 ⟨rfl, l15⟩
  clear x0 x1 x2 x3 y0 y1 y2 y3
  go_wp2_with fail
  refine (lawAwake10 _).mono ?_
  rintro e w16 ⟨rfl, l16⟩
  go_wp2_with fail
  go_ret
  exact ⟨rfl, ((hl.trans hBX).trans l15).trans l16⟩

end Go.Proofs.Ytnncmjliehoknaa
