/-
  THE WALKS over choruslaw10.RingKeeps where nothing is published: it answers true and turns nothing that was there. Condition: the ring's slots can be copied.
-/
import Derived.Test.YtnncmjliehoknaaRgAwake
import Derived.Test.YtnncmjliehoknaaLwA
namespace Go.Proofs.Ytnncmjliehoknaa
open Go.RowKit

set_option maxRecDepth 10000 in
set_option maxHeartbeats 2000000 in
theorem lawKeeps000 (w : World) (v : Value) (R : Rg) (hx : HasR w v R) (hf : FitR R) (k p c r a th : Int) (ae : Int) (hae : (ae == 0) = false) (hA : reserveS R k = (⟨0, 0, 0, []⟩, 0, ae)) (hB : freeS R p = (⟨0, 0, 0, []⟩, 1000)) (hC : publishS R p c r a th = (⟨0, 0, 0, []⟩, 1000)) :
    Calls Try.prog 7 #[v, .int .i64 k, .int .i64 p, opV c r a, .int .i64 th] w fun e w' => e = .returned (.bool true) ∧ Le w w' := by
  obtain ⟨hh, t, f, ss⟩ := R
  obtain ⟨q, rfl, hq⟩ := hx
  simp only at hq hA hB hC  ⊢
  replace hf : ss.length * 40 ≤ 140737488351232 := hf
  have kA := reserveAs hA hf
  have kB := freeAs hB hf
  have kC := publishAs hC hf
  clear hA hB hC
  have hl := (Le.alloc w (.cells (cellsR hh t f q) 24)).trans (Le.alloc _ (.cells #[.int .i64 c, .int .i64 r, .int .i64 a] 26))
  have hbr := (Box.new w (cellsR hh t f q) 24).le (Le.alloc _ (.cells #[.int .i64 c, .int .i64 r, .int .i64 a] 26))
  have hbo := Box.new (w.alloc (.cells (cellsR hh t f q) 24)) #[.int .i64 c, .int .i64 r, .int .i64 a] 26
  simp only [World.size_alloc] at hbr hbo
  go_enter Try.func7, Try.ntmps7
  go_wp2_with fail
  refine (lawAwake10 _).mono ?_
  rintro e w1 ⟨rfl, l1⟩
  replace hbr := hbr.le l1
  replace hbo := hbo.le l1
  replace hl := hl.trans l1
  replace hq := hq.le hl
  clear l1
  obtain ⟨x0, x1, x2, x3, _, _, _, _⟩ := hbr.ring
  go_wp2_with fail
  refine (kA q _ hq).mono ?_
  rintro e w2 ⟨q2, rfl, o2, l2⟩
  have a2 := Le.alloc w2 (.cells (cellsR 0 0 0 q2) 24)
  have hba := Box.new w2 (cellsR 0 0 0 q2) 24
  replace l2 := l2.trans a2
  replace hbr := hbr.le l2
  replace hbo := hbo.le l2
  replace hq := hq.le l2
  replace hl := hl.trans l2
  have ha := o2.has.le a2
  clear l2 a2 o2 x0 x1 x2 x3 
  go_upto_region 4 with fail
  generalize hW : w2.alloc (.cells (cellsR 0 0 0 q2) 24) = W2 at hbr hbo hba hq ha hl ⊢
  clear hW
  obtain ⟨x0, x1, x2, x3, _, _, _, _⟩ := hbr.ring
  go_wp2_with fail
  refine (kB q _ hq).mono ?_
  rintro e w3 ⟨q3, rfl, o3, l3⟩
  have a3 := Le.alloc w3 (.cells (cellsR 0 0 0 q3) 24)
  have hbb := Box.new w3 (cellsR 0 0 0 q3) 24
  replace l3 := l3.trans a3
  replace hbr := hbr.le l3
  replace hbo := hbo.le l3
  replace hba := hba.le l3
  replace hq := hq.le l3
  replace ha := ha.le l3
  replace hl := hl.trans l3
  have hb := o3.has.le a3
  clear l3 a3 o3 x0 x1 x2 x3 
  go_upto_region 5 with fail
  generalize hW : w3.alloc (.cells (cellsR 0 0 0 q3) 24) = W3 at hbr hbo hba hbb hq ha hb hl ⊢
  clear hW
  obtain ⟨x0, x1, x2, x3, _, _, _, _⟩ := hbr.ring
  obtain ⟨y0, y1, y2, _, _, _⟩ := hbo.op
  go_wp2_with fail
  refine (kC q _ hq).mono ?_
  rintro e w4 ⟨q4, rfl, o4, l4⟩
  have a4 := Le.alloc w4 (.cells (cellsR 0 0 0 q4) 24)
  have hbc := Box.new w4 (cellsR 0 0 0 q4) 24
  replace l4 := l4.trans a4
  replace hbr := hbr.le l4
  replace hbo := hbo.le l4
  replace hba := hba.le l4
  replace hbb := hbb.le l4
  replace hq := hq.le l4
  replace ha := ha.le l4
  replace hb := hb.le l4
  replace hl := hl.trans l4
  have hc := o4.has.le a4
  clear l4 a4 o4 x0 x1 x2 x3 y0 y1 y2
  go_upto_region 6 with fail
  generalize hW : w4.alloc (.cells (cellsR 0 0 0 q4) 24) = W4 at hbr hbo hba hbb hbc hq ha hb hc hl ⊢
  clear hW
  clear kA kB kC hbo
  obtain ⟨c0, c1, c2, c3, _, _, _, _⟩ := hbc.ring
  go_wp2_with (go_at_call 21; refine (lawNum _ _).mono ?_; rintro e _ ⟨rfl, rfl⟩)
  have hsm := lawSameRing (ringV 0 0 0 q4) ringZ ⟨0, 0, 0, []⟩ Rg.zero _ ⟨q4, rfl, hc⟩ (HasR.zero _) fitR_zero
  rw [show decide ((⟨0, 0, 0, []⟩ : Rg) = Rg.zero) = true by decide] at hsm
  refine hsm.mono ?_
  rintro e w9 ⟨rfl, l9⟩
  go_wp2_with fail
  go_ret
  exact ⟨rfl, hl.trans l9⟩

set_option maxRecDepth 10000 in
set_option maxHeartbeats 2000000 in
theorem lawKeeps010 (w : World) (v : Value) (R : Rg) (hx : HasR w v R) (hf : FitR R) (k p c r a th : Int) (ae : Int) (hae : (ae == 0) = false) (hA : reserveS R k = (⟨0, 0, 0, []⟩, 0, ae)) (hB : freeS R p = (⟨p, R.t, R.f, R.ss⟩, 0)) (hC : publishS R p c r a th = (⟨0, 0, 0, []⟩, 1000)) :
    Calls Try.prog 7 #[v, .int .i64 k, .int .i64 p, opV c r a, .int .i64 th] w fun e w' => e = .returned (.bool true) ∧ Le w w' := by
  obtain ⟨hh, t, f, ss⟩ := R
  obtain ⟨q, rfl, hq⟩ := hx
  simp only at hq hA hB hC  ⊢
  replace hf : ss.length * 40 ≤ 140737488351232 := hf
  have kA := reserveAs hA hf
  have kB := freeAs hB hf
  have kC := publishAs hC hf
  clear hA hB hC
  have hl := (Le.alloc w (.cells (cellsR hh t f q) 24)).trans (Le.alloc _ (.cells #[.int .i64 c, .int .i64 r, .int .i64 a] 26))
  have hbr := (Box.new w (cellsR hh t f q) 24).le (Le.alloc _ (.cells #[.int .i64 c, .int .i64 r, .int .i64 a] 26))
  have hbo := Box.new (w.alloc (.cells (cellsR hh t f q) 24)) #[.int .i64 c, .int .i64 r, .int .i64 a] 26
  simp only [World.size_alloc] at hbr hbo
  go_enter Try.func7, Try.ntmps7
  go_wp2_with fail
  refine (lawAwake10 _).mono ?_
  rintro e w1 ⟨rfl, l1⟩
  replace hbr := hbr.le l1
  replace hbo := hbo.le l1
  replace hl := hl.trans l1
  replace hq := hq.le hl
  clear l1
  obtain ⟨x0, x1, x2, x3, _, _, _, _⟩ := hbr.ring
  go_wp2_with fail
  refine (kA q _ hq).mono ?_
  rintro e w2 ⟨q2, rfl, o2, l2⟩
  have a2 := Le.alloc w2 (.cells (cellsR 0 0 0 q2) 24)
  have hba := Box.new w2 (cellsR 0 0 0 q2) 24
  replace l2 := l2.trans a2
  replace hbr := hbr.le l2
  replace hbo := hbo.le l2
  replace hq := hq.le l2
  replace hl := hl.trans l2
  have ha := o2.has.le a2
  clear l2 a2 o2 x0 x1 x2 x3 
  go_upto_region 4 with fail
  generalize hW : w2.alloc (.cells (cellsR 0 0 0 q2) 24) = W2 at hbr hbo hba hq ha hl ⊢
  clear hW
  obtain ⟨x0, x1, x2, x3, _, _, _, _⟩ := hbr.ring
  go_wp2_with fail
  refine (kB q _ hq).mono ?_
  rintro e w3 ⟨q3, rfl, o3, l3⟩
  have a3 := Le.alloc w3 (.cells (cellsR p t f q3) 24)
  have hbb := Box.new w3 (cellsR p t f q3) 24
  replace l3 := l3.trans a3
  replace hbr := hbr.le l3
  replace hbo := hbo.le l3
  replace hba := hba.le l3
  replace hq := hq.le l3
  replace ha := ha.le l3
  replace hl := hl.trans l3
  have hb := o3.has.le a3
  clear l3 a3 o3 x0 x1 x2 x3 
  go_upto_region 5 with fail
  generalize hW : w3.alloc (.cells (cellsR p t f q3) 24) = W3 at hbr hbo hba hbb hq ha hb hl ⊢
  clear hW
  obtain ⟨x0, x1, x2, x3, _, _, _, _⟩ := hbr.ring
  obtain ⟨y0, y1, y2, _, _, _⟩ := hbo.op
  go_wp2_with fail
  refine (kC q _ hq).mono ?_
  rintro e w4 ⟨q4, rfl, o4, l4⟩
  have a4 := Le.alloc w4 (.cells (cellsR 0 0 0 q4) 24)
  have hbc := Box.new w4 (cellsR 0 0 0 q4) 24
  replace l4 := l4.trans a4
  replace hbr := hbr.le l4
  replace hbo := hbo.le l4
  replace hba := hba.le l4
  replace hbb := hbb.le l4
  replace hq := hq.le l4
  replace ha := ha.le l4
  replace hb := hb.le l4
  replace hl := hl.trans l4
  have hc := o4.has.le a4
  clear l4 a4 o4 x0 x1 x2 x3 y0 y1 y2
  go_upto_region 6 with fail
  generalize hW : w4.alloc (.cells (cellsR 0 0 0 q4) 24) = W4 at hbr hbo hba hbb hbc hq ha hb hc hl ⊢
  clear hW
  clear kA kB kC hbo
  obtain ⟨r0, r1, r2, r3, _, _, _, _⟩ := hbr.ring
  obtain ⟨b0, b1, b2, b3, _, _, _, _⟩ := hbb.ring
  go_wp2_with (go_at_call 21; refine (lawNum _ _).mono ?_; rintro e _ ⟨rfl, rfl⟩)
  have hsm := lawSameS (slV q3) (slV q) ss ss _ hb hq hf
  simp only [decide_true] at hsm
  refine hsm.mono ?_
  rintro e w5 ⟨rfl, l5⟩
  clear hsm r0 r1 r2 r3 b0 b1 b2 b3
  replace hbr := hbr.le l5
  replace hba := hba.le l5
  replace hbb := hbb.le l5
  replace hbc := hbc.le l5
  replace hq := hq.le l5
  replace ha := ha.le l5
  replace hb := hb.le l5
  replace hc := hc.le l5
  replace hl := hl.trans l5
  clear l5
  obtain ⟨r0, r1, r2, r3, _, _, _, _⟩ := hbr.ring
  obtain ⟨b0, b1, b2, b3, _, _, _, _⟩ := hbb.ring
  obtain ⟨c0, c1, c2, c3, _, _, _, _⟩ := hbc.ring
  go_wp2_with (go_at_call 21; refine (lawNum _ _).mono ?_; rintro e _ ⟨rfl, rfl⟩)
  have hsm := lawSameRing (ringV 0 0 0 q4) ringZ ⟨0, 0, 0, []⟩ Rg.zero _ ⟨q4, rfl, hc⟩ (HasR.zero _) fitR_zero
  rw [show decide ((⟨0, 0, 0, []⟩ : Rg) = Rg.zero) = true by decide] at hsm
  refine hsm.mono ?_
  rintro e w9 ⟨rfl, l9⟩
  go_wp2_with fail
  go_ret
  exact ⟨rfl, hl.trans l9⟩

set_option maxRecDepth 10000 in
set_option maxHeartbeats 2000000 in
theorem lawKeeps100 (w : World) (v : Value) (R : Rg) (hx : HasR w v R) (hf : FitR R) (k p c r a th : Int) (hA : reserveS R k = (⟨R.h, R.t + k, R.f, R.ss⟩, R.t, 0)) (hsum : IntKind.i64.wrap (R.t + k) = R.t + k) (hB : freeS R p = (⟨0, 0, 0, []⟩, 1000)) (hC : publishS R p c r a th = (⟨0, 0, 0, []⟩, 1000)) :
    Calls Try.prog 7 #[v, .int .i64 k, .int .i64 p, opV c r a, .int .i64 th] w fun e w' => e = .returned (.bool true) ∧ Le w w' := by
  obtain ⟨hh, t, f, ss⟩ := R
  obtain ⟨q, rfl, hq⟩ := hx
  simp only at hq hA hB hC hsum  ⊢
  replace hf : ss.length * 40 ≤ 140737488351232 := hf
  have kA := reserveAs hA hf
  have kB := freeAs hB hf
  have kC := publishAs hC hf
  clear hA hB hC
  have hl := (Le.alloc w (.cells (cellsR hh t f q) 24)).trans (Le.alloc _ (.cells #[.int .i64 c, .int .i64 r, .int .i64 a] 26))
  have hbr := (Box.new w (cellsR hh t f q) 24).le (Le.alloc _ (.cells #[.int .i64 c, .int .i64 r, .int .i64 a] 26))
  have hbo := Box.new (w.alloc (.cells (cellsR hh t f q) 24)) #[.int .i64 c, .int .i64 r, .int .i64 a] 26
  simp only [World.size_alloc] at hbr hbo
  go_enter Try.func7, Try.ntmps7
  go_wp2_with fail
  refine (lawAwake10 _).mono ?_
  rintro e w1 ⟨rfl, l1⟩
  replace hbr := hbr.le l1
  replace hbo := hbo.le l1
  replace hl := hl.trans l1
  replace hq := hq.le hl
  clear l1
  obtain ⟨x0, x1, x2, x3, _, _, _, _⟩ := hbr.ring
  go_wp2_with fail
  refine (kA q _ hq).mono ?_
  rintro e w2 ⟨q2, rfl, o2, l2⟩
  have a2 := Le.alloc w2 (.cells (cellsR hh (t + k) f q2) 24)
  have hba := Box.new w2 (cellsR hh (t + k) f q2) 24
  replace l2 := l2.trans a2
  replace hbr := hbr.le l2
  replace hbo := hbo.le l2
  replace hq := hq.le l2
  replace hl := hl.trans l2
  have ha := o2.has.le a2
  clear l2 a2 o2 x0 x1 x2 x3 
  go_upto_region 4 with fail
  generalize hW : w2.alloc (.cells (cellsR hh (t + k) f q2) 24) = W2 at hbr hbo hba hq ha hl ⊢
  clear hW
  obtain ⟨x0, x1, x2, x3, _, _, _, _⟩ := hbr.ring
  go_wp2_with fail
  refine (kB q _ hq).mono ?_
  rintro e w3 ⟨q3, rfl, o3, l3⟩
  have a3 := Le.alloc w3 (.cells (cellsR 0 0 0 q3) 24)
  have hbb := Box.new w3 (cellsR 0 0 0 q3) 24
  replace l3 := l3.trans a3
  replace hbr := hbr.le l3
  replace hbo := hbo.le l3
  replace hba := hba.le l3
  replace hq := hq.le l3
  replace ha := ha.le l3
  replace hl := hl.trans l3
  have hb := o3.has.le a3
  clear l3 a3 o3 x0 x1 x2 x3 
  go_upto_region 5 with fail
  generalize hW : w3.alloc (.cells (cellsR 0 0 0 q3) 24) = W3 at hbr hbo hba hbb hq ha hb hl ⊢
  clear hW
  obtain ⟨x0, x1, x2, x3, _, _, _, _⟩ := hbr.ring
  obtain ⟨y0, y1, y2, _, _, _⟩ := hbo.op
  go_wp2_with fail
  refine (kC q _ hq).mono ?_
  rintro e w4 ⟨q4, rfl, o4, l4⟩
  have a4 := Le.alloc w4 (.cells (cellsR 0 0 0 q4) 24)
  have hbc := Box.new w4 (cellsR 0 0 0 q4) 24
  replace l4 := l4.trans a4
  replace hbr := hbr.le l4
  replace hbo := hbo.le l4
  replace hba := hba.le l4
  replace hbb := hbb.le l4
  replace hq := hq.le l4
  replace ha := ha.le l4
  replace hb := hb.le l4
  replace hl := hl.trans l4
  have hc := o4.has.le a4
  clear l4 a4 o4 x0 x1 x2 x3 y0 y1 y2
  go_upto_region 6 with fail
  generalize hW : w4.alloc (.cells (cellsR 0 0 0 q4) 24) = W4 at hbr hbo hba hbb hbc hq ha hb hc hl ⊢
  clear hW
  clear kA kB kC hbo
  obtain ⟨r0, r1, r2, r3, _, _, _, _⟩ := hbr.ring
  obtain ⟨a0, a1, a2, a3, _, _, _, _⟩ := hba.ring
  go_wp2_with (go_at_call 21; refine (lawNum _ _).mono ?_; rintro e _ ⟨rfl, rfl⟩)
  have hsm := lawSameS (slV q2) (slV q) ss ss _ ha hq hf
  simp only [decide_true] at hsm
  refine hsm.mono ?_
  rintro e w5 ⟨rfl, l5⟩
  clear hsm r0 r1 r2 r3 a0 a1 a2 a3
  replace hbr := hbr.le l5
  replace hba := hba.le l5
  replace hbb := hbb.le l5
  replace hbc := hbc.le l5
  replace hq := hq.le l5
  replace ha := ha.le l5
  replace hb := hb.le l5
  replace hc := hc.le l5
  replace hl := hl.trans l5
  clear l5
  obtain ⟨r0, r1, r2, r3, _, _, _, _⟩ := hbr.ring
  obtain ⟨a0, a1, a2, a3, _, _, _, _⟩ := hba.ring
  obtain ⟨c0, c1, c2, c3, _, _, _, _⟩ := hbc.ring
  go_wp2_with (go_at_call 21; refine (lawNum _ _).mono ?_; rintro e _ ⟨rfl, rfl⟩)
  have hsm := lawSameRing (ringV 0 0 0 q4) ringZ ⟨0, 0, 0, []⟩ Rg.zero _ ⟨q4, rfl, hc⟩ (HasR.zero _) fitR_zero
  rw [show decide ((⟨0, 0, 0, []⟩ : Rg) = Rg.zero) = true by decide] at hsm
  refine hsm.mono ?_
  rintro e w9 ⟨rfl, l9⟩
  go_wp2_with fail
  go_ret
  exact ⟨rfl, hl.trans l9⟩

set_option maxRecDepth 10000 in
set_option maxHeartbeats 2000000 in
theorem lawKeeps110 (w : World) (v : Value) (R : Rg) (hx : HasR w v R) (hf : FitR R) (k p c r a th : Int) (hA : reserveS R k = (⟨R.h, R.t + k, R.f, R.ss⟩, R.t, 0)) (hsum : IntKind.i64.wrap (R.t + k) = R.t + k) (hB : freeS R p = (⟨p, R.t, R.f, R.ss⟩, 0)) (hC : publishS R p c r a th = (⟨0, 0, 0, []⟩, 1000)) :
    Calls Try.prog 7 #[v, .int .i64 k, .int .i64 p, opV c r a, .int .i64 th] w fun e w' => e = .returned (.bool true) ∧ Le w w' := by
  obtain ⟨hh, t, f, ss⟩ := R
  obtain ⟨q, rfl, hq⟩ := hx
  simp only at hq hA hB hC hsum  ⊢
  replace hf : ss.length * 40 ≤ 140737488351232 := hf
  have kA := reserveAs hA hf
  have kB := freeAs hB hf
  have kC := publishAs hC hf
  clear hA hB hC
  have hl := (Le.alloc w (.cells (cellsR hh t f q) 24)).trans (Le.alloc _ (.cells #[.int .i64 c, .int .i64 r, .int .i64 a] 26))
  have hbr := (Box.new w (cellsR hh t f q) 24).le (Le.alloc _ (.cells #[.int .i64 c, .int .i64 r, .int .i64 a] 26))
  have hbo := Box.new (w.alloc (.cells (cellsR hh t f q) 24)) #[.int .i64 c, .int .i64 r, .int .i64 a] 26
  simp only [World.size_alloc] at hbr hbo
  go_enter Try.func7, Try.ntmps7
  go_wp2_with fail
  refine (lawAwake10 _).mono ?_
  rintro e w1 ⟨rfl, l1⟩
  replace hbr := hbr.le l1
  replace hbo := hbo.le l1
  replace hl := hl.trans l1
  replace hq := hq.le hl
  clear l1
  obtain ⟨x0, x1, x2, x3, _, _, _, _⟩ := hbr.ring
  go_wp2_with fail
  refine (kA q _ hq).mono ?_
  rintro e w2 ⟨q2, rfl, o2, l2⟩
  have a2 := Le.alloc w2 (.cells (cellsR hh (t + k) f q2) 24)
  have hba := Box.new w2 (cellsR hh (t + k) f q2) 24
  replace l2 := l2.trans a2
  replace hbr := hbr.le l2
  replace hbo := hbo.le l2
  replace hq := hq.le l2
  replace hl := hl.trans l2
  have ha := o2.has.le a2
  clear l2 a2 o2 x0 x1 x2 x3 
  go_upto_region 4 with fail
  generalize hW : w2.alloc (.cells (cellsR hh (t + k) f q2) 24) = W2 at hbr hbo hba hq ha hl ⊢
  clear hW
  obtain ⟨x0, x1, x2, x3, _, _, _, _⟩ := hbr.ring
  go_wp2_with fail
  refine (kB q _ hq).mono ?_
  rintro e w3 ⟨q3, rfl, o3, l3⟩
  have a3 := Le.alloc w3 (.cells (cellsR p t f q3) 24)
  have hbb := Box.new w3 (cellsR p t f q3) 24
  replace l3 := l3.trans a3
  replace hbr := hbr.le l3
  replace hbo := hbo.le l3
  replace hba := hba.le l3
  replace hq := hq.le l3
  replace ha := ha.le l3
  replace hl := hl.trans l3
  have hb := o3.has.le a3
  clear l3 a3 o3 x0 x1 x2 x3 
  go_upto_region 5 with fail
  generalize hW : w3.alloc (.cells (cellsR p t f q3) 24) = W3 at hbr hbo hba hbb hq ha hb hl ⊢
  clear hW
  obtain ⟨x0, x1, x2, x3, _, _, _, _⟩ := hbr.ring
  obtain ⟨y0, y1, y2, _, _, _⟩ := hbo.op
  go_wp2_with fail
  refine (kC q _ hq).mono ?_
  rintro e w4 ⟨q4, rfl, o4, l4⟩
  have a4 := Le.alloc w4 (.cells (cellsR 0 0 0 q4) 24)
  have hbc := Box.new w4 (cellsR 0 0 0 q4) 24
  replace l4 := l4.trans a4
  replace hbr := hbr.le l4
  replace hbo := hbo.le l4
  replace hba := hba.le l4
  replace hbb := hbb.le l4
  replace hq := hq.le l4
  replace ha := ha.le l4
  replace hb := hb.le l4
  replace hl := hl.trans l4
  have hc := o4.has.le a4
  clear l4 a4 o4 x0 x1 x2 x3 y0 y1 y2
  go_upto_region 6 with fail
  generalize hW : w4.alloc (.cells (cellsR 0 0 0 q4) 24) = W4 at hbr hbo hba hbb hbc hq ha hb hc hl ⊢
  clear hW
  clear kA kB kC hbo
  obtain ⟨r0, r1, r2, r3, _, _, _, _⟩ := hbr.ring
  obtain ⟨a0, a1, a2, a3, _, _, _, _⟩ := hba.ring
  go_wp2_with (go_at_call 21; refine (lawNum _ _).mono ?_; rintro e _ ⟨rfl, rfl⟩)
  have hsm := lawSameS (slV q2) (slV q) ss ss _ ha hq hf
  simp only [decide_true] at hsm
  refine hsm.mono ?_
  rintro e w5 ⟨rfl, l5⟩
  clear hsm r0 r1 r2 r3 a0 a1 a2 a3
  replace hbr := hbr.le l5
  replace hba := hba.le l5
  replace hbb := hbb.le l5
  replace hbc := hbc.le l5
  replace hq := hq.le l5
  replace ha := ha.le l5
  replace hb := hb.le l5
  replace hc := hc.le l5
  replace hl := hl.trans l5
  clear l5
  obtain ⟨r0, r1, r2, r3, _, _, _, _⟩ := hbr.ring
  obtain ⟨a0, a1, a2, a3, _, _, _, _⟩ := hba.ring
  obtain ⟨b0, b1, b2, b3, _, _, _, _⟩ := hbb.ring
  go_wp2_with (go_at_call 21; refine (lawNum _ _).mono ?_; rintro e _ ⟨rfl, rfl⟩)
  have hsm := lawSameS (slV q3) (slV q) ss ss _ hb hq hf
  simp only [decide_true] at hsm
  refine hsm.mono ?_
  rintro e w6 ⟨rfl, l6⟩
  clear hsm r0 r1 r2 r3 a0 a1 a2 a3 b0 b1 b2 b3
  replace hbr := hbr.le l6
  replace hba := hba.le l6
  replace hbb := hbb.le l6
  replace hbc := hbc.le l6
  replace hq := hq.le l6
  replace ha := ha.le l6
  replace hb := hb.le l6
  replace hc := hc.le l6
  replace hl := hl.trans l6
  clear l6
  obtain ⟨r0, r1, r2, r3, _, _, _, _⟩ := hbr.ring
  obtain ⟨b0, b1, b2, b3, _, _, _, _⟩ := hbb.ring
  obtain ⟨c0, c1, c2, c3, _, _, _, _⟩ := hbc.ring
  go_wp2_with (go_at_call 21; refine (lawNum _ _).mono ?_; rintro e _ ⟨rfl, rfl⟩)
  have hsm := lawSameRing (ringV 0 0 0 q4) ringZ ⟨0, 0, 0, []⟩ Rg.zero _ ⟨q4, rfl, hc⟩ (HasR.zero _) fitR_zero
  rw [show decide ((⟨0, 0, 0, []⟩ : Rg) = Rg.zero) = true by decide] at hsm
  refine hsm.mono ?_
  rintro e w9 ⟨rfl, l9⟩
  go_wp2_with fail
  go_ret
  exact ⟨rfl, hl.trans l9⟩

end Go.Proofs.Ytnncmjliehoknaa
