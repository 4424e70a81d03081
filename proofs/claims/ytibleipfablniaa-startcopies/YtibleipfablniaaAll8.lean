/-
  PARTS LAID TOGETHER, each with its own opening: StCopW, OpenCf.
-/
import Derived.Test.YtibleipfablniaaAll7
import Derived.Test.YtibleipfablniaaAll1
import Derived.ProofKit
import Derived.OpenShut
import Derived.SizedLaws
import Derived.Lib.SmallJoins
/-
  THE WALK over the law StartCopies: it answers true and turns nothing that was there, for every Config. No condition.
-/
namespace Go.Proofs.Ytibleipfablniaa
open Go.RowKit

set_option maxRecDepth 4000 in
set_option maxHeartbeats 4000000 in
theorem lawStartCopies (w : World) (o r l t s : Int) : Calls Try.prog 4 #[cfgV o r l t s] w fun e w' => e = .returned (.bool true) ∧ Le w w' := by
  obtain ⟨M, er, hN⟩ : ∃ M er, newM ⟨o, r, l, t, s⟩ = (M, er) := ⟨_, _, rfl⟩
  have hfit : FitM M := by have := fitM_new ⟨o, r, l, t, s⟩; rw [hN] at this; exact this
  have n1 := fun w' => startNewAs hN w'
  have hcf := fun w' => rmConfigMay o r l t s w'
  have HE : (er == 0) = cfgB o r l t s := by
    unfold newM Cfg.ok at hN
    simp only at hN
    cases hc : cfgB o r l t s
    · rw [hc] at hN
      simp at hN
      rw [← hN.2]; rfl
    · rw [hc] at hN
      simp at hN
      rw [← hN.2]; rfl
  simp only [← HE] at hcf
  clear hN HE
  simp only at n1
  have hl := Le.alloc w (.cells #[.int .i64 o, .int .i64 r, .int .i64 l, .int .i64 t, .int .i64 s] 25)
  have hb := Box.new w #[.int .i64 o, .int .i64 r, .int .i64 l, .int .i64 t, .int .i64 s] 25
  go_enter Try.func4, Try.ntmps4
  go_wp2_with fail
  refine (lawAwake14 _).mono ?_
  rintro e w0 ⟨rfl, l0⟩
  replace hl := hl.trans l0
  replace hb := hb.le l0
  clear l0
  have hlt0 := hb.lt
  obtain ⟨z0, z1, z2, z3, z4⟩ := hb.slot
  go_wp2_with fail
  refine (n1 _).mono ?_
  rintro e w1 ⟨aR, aP, aT, aH, rfl, o1, l1⟩
  have hb1 := Box.new w1 (cells9 M.c aR aP aT aH) 31
  have a1 := Le.alloc w1 (.cells (cells9 M.c aR aP aT aH) 31)
  clear z0 z1 z2 z3 z4
  go_upto_region 4 with fail
  generalize hW1 : w1.alloc (.cells (cells9 M.c aR aP aT aH) 31) = W1 at hb1 a1 ⊢
  generalize w1.heap.size = g1 at hb1 ⊢
  clear hW1
  replace o1 := o1.le a1
  have hle1 := l1.trans a1
  have hi1 : Sp.IntsM W1 (fun g => w0.heap.size ≤ g ∧ g < W1.heap.size) (machV M.c aR aP aT aH) := by
    obtain ⟨L, hv, hm, ho⟩ := o1
    rw [hv]
    exact Sp.ownsM_ints ho (hm ▸ hfit) (fun g h1 h2 => ⟨h1, h2⟩)
  replace hb := hb.le hle1
  obtain ⟨z0, z1, z2, z3, z4⟩ := hb.slot
  clear a1 l1
  go_wp2_with fail
  refine (n1 _).mono ?_
  rintro e w2 ⟨bR, bP, bT, bH, rfl, o2, l2⟩
  have hb2 := Box.new w2 (cells9 M.c bR bP bT bH) 31
  have a2 := Le.alloc w2 (.cells (cells9 M.c bR bP bT bH) 31)
  clear z0 z1 z2 z3 z4
  go_upto_region 5 with fail
  generalize hW2 : w2.alloc (.cells (cells9 M.c bR bP bT bH) 31) = W2 at hb2 a2 ⊢
  generalize hg : w2.heap.size = g2 at hb2 ⊢
  have hg2 : W1.heap.size ≤ g2 := by have := l2.size; omega
  clear hW2 hg
  replace o2 := o2.le a2
  replace hb := (hb.le l2).le a2
  replace hb1 := (hb1.le l2).le a2
  replace o1 := (o1.le l2).le a2
  have hle2 := l2.trans a2
  have hs := lawSameMachine _ _ M M W2 o1.has o2.has hfit
  simp only [decide_true] at hs
  obtain ⟨⟨y0, y1, y2, y3, y4⟩, y5, y6, y7, y8⟩ := hb1.mach
  obtain ⟨⟨x0, x1, x2, x3, x4⟩, x5, x6, x7, x8⟩ := hb2.mach
  go_wp2_with fail
  refine (lawNum _ _).mono ?_
  rintro e _ ⟨rfl, rfl⟩
  go_wp2_with fail
  refine (lawNum _ _).mono ?_
  rintro e _ ⟨rfl, rfl⟩
  go_wp2_with fail
  refine hs.mono ?_
  rintro e w3 ⟨rfl, l3⟩
  clear y0 y1 y2 y3 y4 y5 y6 y7 y8 x0 x1 x2 x3 x4 x5 x6 x7 x8 hs
  obtain ⟨⟨y0, y1, y2, y3, y4⟩, y5, y6, y7, y8⟩ := (hb1.le l3).mach
  have hi3 := hi1.spoilt (Sp.Spoilt.le (S := fun g => w0.heap.size ≤ g ∧ g < W1.heap.size) trivial (hle2.trans l3))
  go_wp2_with fail
  refine (Sp.lawSpoilMachine _ _ w3 hi3 trivial).mono ?_
  rintro e w4 ⟨rfl, k4⟩
  clear y0 y1 y2 y3 y4 y5 y6 y7 y8 hb1 hi1 hi3 o1
  replace hb := k4.box (hb.le l3) (fun h => by have := h.1; omega)
  replace hb2 := k4.box (hb2.le l3) (fun h => by have := h.2; omega)
  replace o2 := k4.ownM (o2.le l3) (fun g h1 h2 => by have := h2.2; omega)
  have lw4 : Le w0 w4 := k4.toLe ((hle1.trans hle2).trans l3) (fun g h1 h2 => by have := h2.1; omega)
  clear k4 l3 hle2 hle1 a2 l2 hg2
  obtain ⟨z0, z1, z2, z3, z4⟩ := hb.slot
  go_wp2_with fail
  refine (n1 _).mono ?_
  rintro e w5 ⟨dR, dP, dT, dH, rfl, o5, l5⟩
  have hb5 := Box.new w5 (cells9 M.c dR dP dT dH) 31
  have a5 := Le.alloc w5 (.cells (cells9 M.c dR dP dT dH) 31)
  clear z0 z1 z2 z3 z4
  go_upto_region 9 with fail
  generalize hW5 : w5.alloc (.cells (cells9 M.c dR dP dT dH) 31) = W5 at hb5 a5 ⊢
  generalize w5.heap.size = g5 at hb5 ⊢
  clear hW5
  replace o5 := o5.le a5
  replace hb := (hb.le l5).le a5
  replace hb2 := (hb2.le l5).le a5
  replace o2 := (o2.le l5).le a5
  replace lw4 := (lw4.trans l5).trans a5
  have hs := fun X : Later W5 => lawSameMachine _ _ M M X.w (o2.has.le X.le) (o5.has.le X.le) hfit
  simp only [decide_true] at hs
  obtain ⟨⟨y0, y1, y2, y3, y4⟩, y5, y6, y7, y8⟩ := hb2.mach
  obtain ⟨⟨x0, x1, x2, x3, x4⟩, x5, x6, x7, x8⟩ := hb5.mach
  obtain ⟨z0, z1, z2, z3, z4⟩ := hb.slot
  replace y0 := cell_later y0
  replace y1 := cell_later y1
  replace y2 := cell_later y2
  replace y3 := cell_later y3
  replace y4 := cell_later y4
  replace y5 := cell_later y5
  replace y6 := cell_later y6
  replace y7 := cell_later y7
  replace y8 := cell_later y8
  replace x0 := cell_later x0
  replace x1 := cell_later x1
  replace x2 := cell_later x2
  replace x3 := cell_later x3
  replace x4 := cell_later x4
  replace x5 := cell_later x5
  replace x6 := cell_later x6
  replace x7 := cell_later x7
  replace x8 := cell_later x8
  replace z0 := cell_later z0
  replace z1 := cell_later z1
  replace z2 := cell_later z2
  replace z3 := cell_later z3
  replace z4 := cell_later z4
  refine wp_region_later (by kernel_rfl) (by kernel_rfl) ?_
  repeat (go_big_quiet_step (first | (go_at_call 7; exact Calls.later_same (lawNum _ _)) | (go_at_call 13; with_reducible exact Calls.later (hs _)) | (go_at_call 15; with_reducible exact Calls.later (hcf _))))
  refine wpQuiet_nil ?_
  rintro _ ⟨x, rfl⟩
  go_wp2_with fail
  go_ret
  exact ⟨ret_bool (by simp), (hl.trans lw4).trans x.le⟩

end Go.Proofs.Ytibleipfablniaa

/-
  PLAIN GROUND: what a row's reading says of a Config that came in: five numbers. No condition.
-/
namespace Go.Proofs.Ytibleipfablniaa
open Go.ChangeShapes Go.WideShapes Go.ChangeAt Go.RowKit Go.Joins Go.Deep

theorem cellsCfg : Try.prog.cellsOf 25 = 5 := by kernel_rfl
theorem cellsInt1 : Try.prog.cellsOf 3 = 1 := by kernel_rfl

theorem array5c {α : Type} {cs : Array α} (h : cs.size = 5) : ∃ c0 c1 c2 c3 c4, cs = #[c0, c1, c2, c3, c4] := by
  obtain ⟨l⟩ := cs
  match l, h with
  | [c0, c1, c2, c3, c4], _ => exact ⟨c0, c1, c2, c3, c4, rfl⟩

theorem trod_struct5 {H : Type} {enc : TypeId × Value → H} {P : Program} {W : World} {base : Nat} {spare : Nat → Bool} {held : Bool} {t : TypeId} {f0 f1 f2 f3 f4 : Field} {fuel : Nat} {cs : List Value} {x : DataW H × List MemPlace} (ht : P.underlying t = some (.struct #[f0, f1, f2, f3, f4])) (h : DataW.trod enc P W base spare held fuel t cs = some x) :
    ∃ y0 y1 y2 y3 y4 n, x = (.agg [y0.1, y1.1, y2.1, y3.1, y4.1], y0.2 ++ (y1.2 ++ (y2.2 ++ (y3.2 ++ y4.2)))) ∧ cs.length = P.cellsOf t ∧ DataW.trod enc P W base spare held n f0.type ((cs.drop f0.offset).take (P.cellsOf f0.type)) = some y0 ∧
      DataW.trod enc P W base spare held n f1.type ((cs.drop f1.offset).take (P.cellsOf f1.type)) = some y1 ∧ DataW.trod enc P W base spare held n f2.type ((cs.drop f2.offset).take (P.cellsOf f2.type)) = some y2 ∧
      DataW.trod enc P W base spare held n f3.type ((cs.drop f3.offset).take (P.cellsOf f3.type)) = some y3 ∧ DataW.trod enc P W base spare held n f4.type ((cs.drop f4.offset).take (P.cellsOf f4.type)) = some y4 := by
  obtain ⟨xs, n, _, rfl, hl, hlen, hf⟩ := DataW.trod_struct ht h
  match xs, hlen with
  | [y0, y1, y2, y3, y4], _ => exact ⟨y0, y1, y2, y3, y4, n, by simp, hl, by simpa using hf 0 f0 rfl, by simpa using hf 1 f1 rfl, by simpa using hf 2 f2 rfl, by simpa using hf 3 f3 rfl, by simpa using hf 4 f4 rfl⟩

set_option maxRecDepth 20000 in
/-- Five cells that read as a Config are five numbers. -/
theorem trod_cfg {H : Type} {enc : TypeId × Value → H} {W : World} {n : Nat} {c0 c1 c2 c3 c4 : Value} {y : DataW H × List MemPlace} (h : DataW.trod enc Try.prog W 0 (fun _ => true) true n 25 [c0, c1, c2, c3, c4] = some y) :
    ∃ c r a t b : Int, c0 = .int .i64 c ∧ c1 = .int .i64 r ∧ c2 = .int .i64 a ∧ c3 = .int .i64 t ∧ c4 = .int .i64 b ∧ (Lit.int .i64 c).wf = true ∧ (Lit.int .i64 r).wf = true ∧ (Lit.int .i64 a).wf = true ∧ (Lit.int .i64 t).wf = true ∧ (Lit.int .i64 b).wf = true := by
  obtain ⟨y0, y1, y2, y3, y4, m, _, _, h0, h1, h2, h3, h4⟩ := trod_struct5 Try.underlying25 h
  simp [cellsInt1] at h0 h1 h2 h3 h4
  obtain ⟨c, e0, _, wc⟩ := DataW.trod_int Try.underlying3 h0
  obtain ⟨r, e1, _, wr⟩ := DataW.trod_int Try.underlying3 h1
  obtain ⟨a, e2, _, wa⟩ := DataW.trod_int Try.underlying3 h2
  obtain ⟨t, e3, _, wt⟩ := DataW.trod_int Try.underlying3 h3
  obtain ⟨b, e4, _, wb⟩ := DataW.trod_int Try.underlying3 h4
  simp at e0 e1 e2 e3 e4
  exact ⟨c, r, a, t, b, e0, e1, e2, e3, e4, wc, wr, wa, wt, wb⟩

set_option maxRecDepth 20000 in
/-- A Config, read. -/
theorem open_cfg {H : Type} {enc : TypeId × Value → H} {W : World} {base : Nat} {v : Value} {d : DataW H} {p : List MemPlace} (hv : Value.okWide Try.prog W .any base 25 v)
    (h : DataW.Trod enc Try.prog W 0 (fun _ => true) true 25 v d p) : ∃ o r l t s : Int, v = cfgV o r l t s := by
  obtain ⟨cs, rfl, hsz⟩ := okWide_struct Try.underlying25 hv
  obtain ⟨c0, c1, c2, c3, c4, rfl⟩ := array5c (hsz.trans cellsCfg)
  obtain ⟨fuel, hf⟩ := h
  obtain ⟨c, r, a, t, b, rfl, rfl, rfl, rfl, rfl, _⟩ := trod_cfg (by simpa [Value.cells] using hf)
  exact ⟨c, r, a, t, b, rfl⟩

end Go.Proofs.Ytibleipfablniaa
