/-
  THE WALKS over choruslaw10.RingKeeps where something is published: it answers true and turns nothing that was there. Condition: the ring's slots can be copied.
-/
import Derived.Test.YtnncmjliehoknaaRgAwake
import Derived.Test.YtnncmjliehoknaaLwA
namespace Go.Proofs.Ytnncmjliehoknaa
open Go.RowKit

theorem getD_set_ne {ss : List Slt} {i j : Nat} {s : Slt} (h : ¬ j = i) : (ss.set i s).getD j Slt.zero = ss.getD j Slt.zero := by
  simp only [List.getD]
  rw [List.getElem?_set_ne (fun e => h e.symm)]

set_option maxRecDepth 10000 in
set_option maxHeartbeats 2000000 in
theorem lawKeeps001 (w : World) (v : Value) (R : Rg) (hx : HasR w v R) (hf : FitR R) (k p c r a th : Int) (ae : Int) (hae : (ae == 0) = false) (hA : reserveS R k = (⟨0, 0, 0, []⟩, 0, ae)) (hB : freeS R p = (⟨0, 0, 0, []⟩, 1000)) (i : Nat) (s : Slt) (hi : i < R.ss.length) (hp : 0 ≤ p) (hse : p.tmod R.ss.length = i) (hC : publishS R p c r a th = (⟨R.h, R.t, R.f, R.ss.set i s⟩, 0)) (hM : mayR ⟨R.h, R.t, R.f, R.ss.set i s⟩ = true) :
    Calls Try.prog 7 #[v, .int .i64 k, .int .i64 p, opV c r a, .int .i64 th] w fun e w' => e = .returned (.bool true) ∧ Le w w' := by
  obtain ⟨hh, t, f, ss⟩ := R
  obtain ⟨q, rfl, hq⟩ := hx
  simp only at hq hA hB hC hi hse hM ⊢
  replace hf : ss.length * 40 ≤ 140737488351232 := hf
  have kA := reserveAs hA hf
  have kB := freeAs hB hf
  have kC := publishAs hC hf
  clear hA hB hC
  have hl := (Le.alloc w (.cells (cellsR hh t f q) 24)).trans (Le.alloc _ (.cells #[.int .i64 c, .int .i64 r, .int .i64 a] 26))
  have hbr := (Box.new w (cellsR hh t f q) 24).le (Le.alloc _ (.cells #[.int .i64 c, .int .i64 r, .int .i64 a] 26))
  have hbo := Box.new (w.alloc (.cells (cellsR hh t f q) 24)) #[.int .i64 c, .int .i64 r, .int .i64 a] 26
  simp only [World.size_alloc] at hbr hbo
  have kM := mayAs hM (by rw [List.length_set]; exact hf)
  have HSE : Hid (p.tmod ss.length = i) := hse
  clear hM hse
  go_enter Try.func7, Try.ntmps7
  go_wp2_with fail
  refine (lawAwake10 _).mono ?_
  rintro e w1 ⟨rfl, l1⟩
  replace hbr := hbr.le l1
  replace hbo := hbo.le l1
  replace hl := hl.trans l1
  replace hq := hq.le hl
  clear l1
  obtain ⟨x0, x1, x2, x3, _, _, _, _⟩ := hbr.ring
  go_wp2_with fail
  refine (kA q _ hq).mono ?_
  rintro e w2 ⟨q2, rfl, o2, l2⟩
  have a2 := Le.alloc w2 (.cells (cellsR 0 0 0 q2) 24)
  have hba := Box.new w2 (cellsR 0 0 0 q2) 24
  replace l2 := l2.trans a2
  replace hbr := hbr.le l2
  replace hbo := hbo.le l2
  replace hq := hq.le l2
  replace hl := hl.trans l2
  have ha := o2.has.le a2
  clear l2 a2 o2 x0 x1 x2 x3 
  go_upto_region 4 with fail
  generalize hW : w2.alloc (.cells (cellsR 0 0 0 q2) 24) = W2 at hbr hbo hba hq ha hl ⊢
  clear hW
  obtain ⟨x0, x1, x2, x3, _, _, _, _⟩ := hbr.ring
  go_wp2_with fail
  refine (kB q _ hq).mono ?_
  rintro e w3 ⟨q3, rfl, o3, l3⟩
  have a3 := Le.alloc w3 (.cells (cellsR 0 0 0 q3) 24)
  have hbb := Box.new w3 (cellsR 0 0 0 q3) 24
  replace l3 := l3.trans a3
  replace hbr := hbr.le l3
  replace hbo := hbo.le l3
  replace hba := hba.le l3
  replace hq := hq.le l3
  replace ha := ha.le l3
  replace hl := hl.trans l3
  have hb := o3.has.le a3
  clear l3 a3 o3 x0 x1 x2 x3 
  go_upto_region 5 with fail
  generalize hW : w3.alloc (.cells (cellsR 0 0 0 q3) 24) = W3 at hbr hbo hba hbb hq ha hb hl ⊢
  clear hW
  obtain ⟨x0, x1, x2, x3, _, _, _, _⟩ := hbr.ring
  obtain ⟨y0, y1, y2, _, _, _⟩ := hbo.op
  go_wp2_with fail
  refine (kC q _ hq).mono ?_
  rintro e w4 ⟨q4, rfl, o4, l4⟩
  have a4 := Le.alloc w4 (.cells (cellsR hh t f q4) 24)
  have hbc := Box.new w4 (cellsR hh t f q4) 24
  replace l4 := l4.trans a4
  replace hbr := hbr.le l4
  replace hbo := hbo.le l4
  replace hba := hba.le l4
  replace hbb := hbb.le l4
  replace hq := hq.le l4
  replace ha := ha.le l4
  replace hb := hb.le l4
  replace hl := hl.trans l4
  have hc := o4.has.le a4
  clear l4 a4 o4 x0 x1 x2 x3 y0 y1 y2
  go_upto_region 6 with fail
  generalize hW : w4.alloc (.cells (cellsR hh t f q4) 24) = W4 at hbr hbo hba hbb hbc hq ha hb hc hl ⊢
  clear hW
  clear kA kB kC hbo
  have hnl := hc.len
  have hnq := hq.len
  rw [List.length_set] at hnl
  obtain ⟨qa, n, qc⟩ := q
  obtain ⟨ca, n', cc⟩ := q4
  simp only at hnl hnq
  obtain rfl : n = n' := by omega
  obtain ⟨b', off', hqa, hcq⟩ : ∃ b off, qa = some ⟨b, off, none⟩ ∧ ∀ j, j < n → SlotAt W4 b (off + j * 5) (ss.getD j Slt.zero) := by
    obtain ⟨a', cap', hv, _, _, hx⟩ := hq
    simp only [slV, Value.slice.injEq] at hv
    obtain ⟨b, off, e1, e2⟩ := hx (by omega)
    exact ⟨b, off, hv.1.trans e1, fun j hj => e2 j (by omega)⟩
  obtain ⟨g', og', hca, hcc⟩ : ∃ b off, ca = some ⟨b, off, none⟩ ∧ ∀ j, j < n → SlotAt W4 b (off + j * 5) ((ss.set i s).getD j Slt.zero) := by
    obtain ⟨a', cap', hv, _, _, hx⟩ := hc
    simp only [slV, Value.slice.injEq] at hv
    obtain ⟨b, off, e1, e2⟩ := hx (by rw [List.length_set]; omega)
    exact ⟨b, off, hv.1.trans e1, fun j hj => e2 j (by rw [List.length_set]; omega)⟩
  subst hqa hca
  have hse : p.tmod n = i := by rw [hnq]; exact HSE.out
  have HNQ : Hid (n = ss.length) := hnq
  have hin : i < n := by omega
  have hn16 : (n : Int) ≤ 9223372036854775807 := by omega
  have n1 : ¬ n = 0 := by omega
  have n2 : ¬ n < 1 := by omega
  have n3 : ¬ (n : Int) < 1 := by omega
  have n4 : ¬ p < 0 := by omega
  clear hnq hnl HSE hi
  obtain ⟨r0, r1, r2, r3, _, _, _, _⟩ := hbr.ring
  obtain ⟨c0, c1, c2, c3, _, _, _, _⟩ := hbc.ring
  replace r3 : W4.cell? ⟨w.heap.size, 3, none⟩ = some (.slice (some ⟨b', off', none⟩) n qc) := r3
  replace c3 : W4.cell? ⟨w4.heap.size, 3, none⟩ = some (.slice (some ⟨g', og', none⟩) n cc) := c3
  go_wp2_with (go_at_call 21; refine (lawNum _ _).mono ?_; rintro e _ ⟨rfl, rfl⟩)
  go_loopw [18] (fun i wr => ∃ (k m : Nat), k ≤ n ∧ i = .int .i64 k ∧ wr = W4.drewN m) (fun i _ => n - (intOf i).toNat)
  case atStart => exact ⟨0, 0, by omega, rfl, rfl⟩
  case round =>
    obtain ⟨j, m, hj, rfl, rfl⟩ := hrel
    by_cases hlt : j < n
    · have hlt' : (j : Int) < (n : Int) := by omega
      by_cases hji : j = i
      · subst hji
        clear hcq hcc
        go_wp2
        go_quiet (fail)
        go_wp2
        go_roundw
        case rel => exact ⟨j + 1, m + nq, by omega, by go_num, rfl⟩
        case measure => simp [intOf]; omega
      · obtain ⟨z, hz⟩ : ∃ z, z = ss.getD j Slt.zero := ⟨_, rfl⟩
        obtain ⟨x0, x1, x2, x3, x4⟩ := hcq j hlt
        obtain ⟨y0, y1, y2, y3, y4⟩ := hcc j hlt
        rw [getD_set_ne hji] at y0 y1 y2 y3 y4
        rw [← hz] at x0 x1 x2 x3 x4 y0 y1 y2 y3 y4
        have hne : ((j : Int) != (i : Int)) = true := by simp; omega
        clear hz hcq hcc hji
        go_wp2
        go_quiet (fail)
        go_wp2
        go_roundw
        case rel => exact ⟨j + 1, m + nq, by omega, by go_num, rfl⟩
        case measure => simp [intOf]; omega
    · have hlt' : ¬ (j : Int) < (n : Int) := by omega
      clear hcq hcc
      have kM' := kM (some ⟨g', og', none⟩, n, cc) (W4.drewN m) (hc.le (Le.drewN _ _))
      go_wp2_with (go_at_call 22; refine kM'.mono ?_; rintro e w9 ⟨rfl, l9⟩)
      go_ret
      exact ⟨rfl, (hl.trans (Le.drewN _ _)).trans l9⟩

set_option maxRecDepth 10000 in
set_option maxHeartbeats 2000000 in
theorem lawKeeps011 (w : World) (v : Value) (R : Rg) (hx : HasR w v R) (hf : FitR R) (k p c r a th : Int) (ae : Int) (hae : (ae == 0) = false) (hA : reserveS R k = (⟨0, 0, 0, []⟩, 0, ae)) (hB : freeS R p = (⟨p, R.t, R.f, R.ss⟩, 0)) (i : Nat) (s : Slt) (hi : i < R.ss.length) (hp : 0 ≤ p) (hse : p.tmod R.ss.length = i) (hC : publishS R p c r a th = (⟨R.h, R.t, R.f, R.ss.set i s⟩, 0)) (hM : mayR ⟨R.h, R.t, R.f, R.ss.set i s⟩ = true) :
    Calls Try.prog 7 #[v, .int .i64 k, .int .i64 p, opV c r a, .int .i64 th] w fun e w' => e = .returned (.bool true) ∧ Le w w' := by
  obtain ⟨hh, t, f, ss⟩ := R
  obtain ⟨q, rfl, hq⟩ := hx
  simp only at hq hA hB hC hi hse hM ⊢
  replace hf : ss.length * 40 ≤ 140737488351232 := hf
  have kA := reserveAs hA hf
  have kB := freeAs hB hf
  have kC := publishAs hC hf
  clear hA hB hC
  have hl := (Le.alloc w (.cells (cellsR hh t f q) 24)).trans (Le.alloc _ (.cells #[.int .i64 c, .int .i64 r, .int .i64 a] 26))
  have hbr := (Box.new w (cellsR hh t f q) 24).le (Le.alloc _ (.cells #[.int .i64 c, .int .i64 r, .int .i64 a] 26))
  have hbo := Box.new (w.alloc (.cells (cellsR hh t f q) 24)) #[.int .i64 c, .int .i64 r, .int .i64 a] 26
  simp only [World.size_alloc] at hbr hbo
  have kM := mayAs hM (by rw [List.length_set]; exact hf)
  have HSE : Hid (p.tmod ss.length = i) := hse
  clear hM hse
  go_enter Try.func7, Try.ntmps7
  go_wp2_with fail
  refine (lawAwake10 _).mono ?_
  rintro e w1 ⟨rfl, l1⟩
  replace hbr := hbr.le l1
  replace hbo := hbo.le l1
  replace hl := hl.trans l1
  replace hq := hq.le hl
  clear l1
  obtain ⟨x0, x1, x2, x3, _, _, _, _⟩ := hbr.ring
  go_wp2_with fail
  refine (kA q _ hq).mono ?_
  rintro e w2 ⟨q2, rfl, o2, l2⟩
  have a2 := Le.alloc w2 (.cells (cellsR 0 0 0 q2) 24)
  have hba := Box.new w2 (cellsR 0 0 0 q2) 24
  replace l2 := l2.trans a2
  replace hbr := hbr.le l2
  replace hbo := hbo.le l2
  replace hq := hq.le l2
  replace hl := hl.trans l2
  have ha := o2.has.le a2
  clear l2 a2 o2 x0 x1 x2 x3 
  go_upto_region 4 with fail
  generalize hW : w2.alloc (.cells (cellsR 0 0 0 q2) 24) = W2 at hbr hbo hba hq ha hl ⊢
  clear hW
  obtain ⟨x0, x1, x2, x3, _, _, _, _⟩ := hbr.ring
  go_wp2_with fail
  refine (kB q _ hq).mono ?_
  rintro e w3 ⟨q3, rfl, o3, l3⟩
  have a3 := Le.alloc w3 (.cells (cellsR p t f q3) 24)
  have hbb := Box.new w3 (cellsR p t f q3) 24
  replace l3 := l3.trans a3
  replace hbr := hbr.le l3
  replace hbo := hbo.le l3
  replace hba := hba.le l3
  replace hq := hq.le l3
  replace ha := ha.le l3
  replace hl := hl.trans l3
  have hb := o3.has.le a3
  clear l3 a3 o3 x0 x1 x2 x3 
  go_upto_region 5 with fail
  generalize hW : w3.alloc (.cells (cellsR p t f q3) 24) = W3 at hbr hbo hba hbb hq ha hb hl ⊢
  clear hW
  obtain ⟨x0, x1, x2, x3, _, _, _, _⟩ := hbr.ring
  obtain ⟨y0, y1, y2, _, _, _⟩ := hbo.op
  go_wp2_with fail
  refine (kC q _ hq).mono ?_
  rintro e w4 ⟨q4, rfl, o4, l4⟩
  have a4 := Le.alloc w4 (.cells (cellsR hh t f q4) 24)
  have hbc := Box.new w4 (cellsR hh t f q4) 24
  replace l4 := l4.trans a4
  replace hbr := hbr.le l4
  replace hbo := hbo.le l4
  replace hba := hba.le l4
  replace hbb := hbb.le l4
  replace hq := hq.le l4
  replace ha := ha.le l4
  replace hb := hb.le l4
  replace hl := hl.trans l4
  have hc := o4.has.le a4
  clear l4 a4 o4 x0 x1 x2 x3 y0 y1 y2
  go_upto_region 6 with fail
  generalize hW : w4.alloc (.cells (cellsR hh t f q4) 24) = W4 at hbr hbo hba hbb hbc hq ha hb hc hl ⊢
  clear hW
  clear kA kB kC hbo
  obtain ⟨r0, r1, r2, r3, _, _, _, _⟩ := hbr.ring
  obtain ⟨b0, b1, b2, b3, _, _, _, _⟩ := hbb.ring
  go_wp2_with (go_at_call 21; refine (lawNum _ _).mono ?_; rintro e _ ⟨rfl, rfl⟩)
  have hsm := lawSameS (slV q3) (slV q) ss ss _ hb hq hf
  simp only [decide_true] at hsm
  refine hsm.mono ?_
  rintro e w5 ⟨rfl, l5⟩
  clear hsm r0 r1 r2 r3 b0 b1 b2 b3
  replace hbr := hbr.le l5
  replace hba := hba.le l5
  replace hbb := hbb.le l5
  replace hbc := hbc.le l5
  replace hq := hq.le l5
  replace ha := ha.le l5
  replace hb := hb.le l5
  replace hc := hc.le l5
  replace hl := hl.trans l5
  clear l5
  obtain ⟨r0, r1, r2, r3, _, _, _, _⟩ := hbr.ring
  obtain ⟨b0, b1, b2, b3, _, _, _, _⟩ := hbb.ring
  have hnl := hc.len
  have hnq := hq.len
  rw [List.length_set] at hnl
  obtain ⟨qa, n, qc⟩ := q
  obtain ⟨ca, n', cc⟩ := q4
  simp only at hnl hnq
  obtain rfl : n = n' := by omega
  obtain ⟨b', off', hqa, hcq⟩ : ∃ b off, qa = some ⟨b, off, none⟩ ∧ ∀ j, j < n → SlotAt w5 b (off + j * 5) (ss.getD j Slt.zero) := by
    obtain ⟨a', cap', hv, _, _, hx⟩ := hq
    simp only [slV, Value.slice.injEq] at hv
    obtain ⟨b, off, e1, e2⟩ := hx (by omega)
    exact ⟨b, off, hv.1.trans e1, fun j hj => e2 j (by omega)⟩
  obtain ⟨g', og', hca, hcc⟩ : ∃ b off, ca = some ⟨b, off, none⟩ ∧ ∀ j, j < n → SlotAt w5 b (off + j * 5) ((ss.set i s).getD j Slt.zero) := by
    obtain ⟨a', cap', hv, _, _, hx⟩ := hc
    simp only [slV, Value.slice.injEq] at hv
    obtain ⟨b, off, e1, e2⟩ := hx (by rw [List.length_set]; omega)
    exact ⟨b, off, hv.1.trans e1, fun j hj => e2 j (by rw [List.length_set]; omega)⟩
  subst hqa hca
  have hse : p.tmod n = i := by rw [hnq]; exact HSE.out
  have HNQ : Hid (n = ss.length) := hnq
  have hin : i < n := by omega
  have hn16 : (n : Int) ≤ 9223372036854775807 := by omega
  have n1 : ¬ n = 0 := by omega
  have n2 : ¬ n < 1 := by omega
  have n3 : ¬ (n : Int) < 1 := by omega
  have n4 : ¬ p < 0 := by omega
  clear hnq hnl HSE hi
  clear r0 r1 r2 r3 b0 b1 b2 b3
  obtain ⟨r0, r1, r2, r3, _, _, _, _⟩ := hbr.ring
  obtain ⟨c0, c1, c2, c3, _, _, _, _⟩ := hbc.ring
  obtain ⟨b0, b1, b2, b3, _, _, _, _⟩ := hbb.ring
  replace r3 : w5.cell? ⟨w.heap.size, 3, none⟩ = some (.slice (some ⟨b', off', none⟩) n qc) := r3
  replace c3 : w5.cell? ⟨w4.heap.size, 3, none⟩ = some (.slice (some ⟨g', og', none⟩) n cc) := c3
  go_wp2_with (go_at_call 21; refine (lawNum _ _).mono ?_; rintro e _ ⟨rfl, rfl⟩)
  go_loopw [18] (fun i wr => ∃ (k m : Nat), k ≤ n ∧ i = .int .i64 k ∧ wr = w5.drewN m) (fun i _ => n - (intOf i).toNat)
  case atStart => exact ⟨0, 0, by omega, rfl, rfl⟩
  case round =>
    obtain ⟨j, m, hj, rfl, rfl⟩ := hrel
    by_cases hlt : j < n
    · have hlt' : (j : Int) < (n : Int) := by omega
      by_cases hji : j = i
      · subst hji
        clear hcq hcc
        go_wp2
        go_quiet (fail)
        go_wp2
        go_roundw
        case rel => exact ⟨j + 1, m + nq, by omega, by go_num, rfl⟩
        case measure => simp [intOf]; omega
      · obtain ⟨z, hz⟩ : ∃ z, z = ss.getD j Slt.zero := ⟨_, rfl⟩
        obtain ⟨x0, x1, x2, x3, x4⟩ := hcq j hlt
        obtain ⟨y0, y1, y2, y3, y4⟩ := hcc j hlt
        rw [getD_set_ne hji] at y0 y1 y2 y3 y4
        rw [← hz] at x0 x1 x2 x3 x4 y0 y1 y2 y3 y4
        have hne : ((j : Int) != (i : Int)) = true := by simp; omega
        clear hz hcq hcc hji
        go_wp2
        go_quiet (fail)
        go_wp2
        go_roundw
        case rel => exact ⟨j + 1, m + nq, by omega, by go_num, rfl⟩
        case measure => simp [intOf]; omega
    · have hlt' : ¬ (j : Int) < (n : Int) := by omega
      clear hcq hcc
      have kM' := kM (some ⟨g', og', none⟩, n, cc) (w5.drewN m) (hc.le (Le.drewN _ _))
      go_wp2_with (go_at_call 22; refine kM'.mono ?_; rintro e w9 ⟨rfl, l9⟩)
      go_ret
      exact ⟨rfl, (hl.trans (Le.drewN _ _)).trans l9⟩

set_option maxRecDepth 10000 in
set_option maxHeartbeats 2000000 in
theorem lawKeeps101 (w : World) (v : Value) (R : Rg) (hx : HasR w v R) (hf : FitR R) (k p c r a th : Int) (hA : reserveS R k = (⟨R.h, R.t + k, R.f, R.ss⟩, R.t, 0)) (hsum : IntKind.i64.wrap (R.t + k) = R.t + k) (hB : freeS R p = (⟨0, 0, 0, []⟩, 1000)) (i : Nat) (s : Slt) (hi : i < R.ss.length) (hp : 0 ≤ p) (hse : p.tmod R.ss.length = i) (hC : publishS R p c r a th = (⟨R.h, R.t, R.f, R.ss.set i s⟩, 0)) (hM : mayR ⟨R.h, R.t, R.f, R.ss.set i s⟩ = true) :
    Calls Try.prog 7 #[v, .int .i64 k, .int .i64 p, opV c r a, .int .i64 th] w fun e w' => e = .returned (.bool true) ∧ Le w w' := by
  obtain ⟨hh, t, f, ss⟩ := R
  obtain ⟨q, rfl, hq⟩ := hx
  simp only at hq hA hB hC hsum hi hse hM ⊢
  replace hf : ss.length * 40 ≤ 140737488351232 := hf
  have kA := reserveAs hA hf
  have kB := freeAs hB hf
  have kC := publishAs hC hf
  clear hA hB hC
  have hl := (Le.alloc w (.cells (cellsR hh t f q) 24)).trans (Le.alloc _ (.cells #[.int .i64 c, .int .i64 r, .int .i64 a] 26))
  have hbr := (Box.new w (cellsR hh t f q) 24).le (Le.alloc _ (.cells #[.int .i64 c, .int .i64 r, .int .i64 a] 26))
  have hbo := Box.new (w.alloc (.cells (cellsR hh t f q) 24)) #[.int .i64 c, .int .i64 r, .int .i64 a] 26
  simp only [World.size_alloc] at hbr hbo
  have kM := mayAs hM (by rw [List.length_set]; exact hf)
  have HSE : Hid (p.tmod ss.length = i) := hse
  clear hM hse
  go_enter Try.func7, Try.ntmps7
  go_wp2_with fail
  refine (lawAwake10 _).mono ?_
  rintro e w1 ⟨rfl, l1⟩
  replace hbr := hbr.le l1
  replace hbo := hbo.le l1
  replace hl := hl.trans l1
  replace hq := hq.le hl
  clear l1
  obtain ⟨x0, x1, x2, x3, _, _, _, _⟩ := hbr.ring
  go_wp2_with fail
  refine (kA q _ hq).mono ?_
  rintro e w2 ⟨q2, rfl, o2, l2⟩
  have a2 := Le.alloc w2 (.cells (cellsR hh (t + k) f q2) 24)
  have hba := Box.new w2 (cellsR hh (t + k) f q2) 24
  replace l2 := l2.trans a2
  replace hbr := hbr.le l2
  replace hbo := hbo.le l2
  replace hq := hq.le l2
  replace hl := hl.trans l2
  have ha := o2.has.le a2
  clear l2 a2 o2 x0 x1 x2 x3 
  go_upto_region 4 with fail
  generalize hW : w2.alloc (.cells (cellsR hh (t + k) f q2) 24) = W2 at hbr hbo hba hq ha hl ⊢
  clear hW
  obtain ⟨x0, x1, x2, x3, _, _, _, _⟩ := hbr.ring
  go_wp2_with fail
  refine (kB q _ hq).mono ?_
  rintro e w3 ⟨q3, rfl, o3, l3⟩
  have a3 := Le.alloc w3 (.cells (cellsR 0 0 0 q3) 24)
  have hbb := Box.new w3 (cellsR 0 0 0 q3) 24
  replace l3 := l3.trans a3
  replace hbr := hbr.le l3
  replace hbo := hbo.le l3
  replace hba := hba.le l3
  replace hq := hq.le l3
  replace ha := ha.le l3
  replace hl := hl.trans l3
  have hb := o3.has.le a3
  clear l3 a3 o3 x0 x1 x2 x3 
  go_upto_region 5 with fail
  generalize hW : w3.alloc (.cells (cellsR 0 0 0 q3) 24) = W3 at hbr hbo hba hbb hq ha hb hl ⊢
  clear hW
  obtain ⟨x0, x1, x2, x3, _, _, _, _⟩ := hbr.ring
  obtain ⟨y0, y1, y2, _, _, _⟩ := hbo.op
  go_wp2_with fail
  refine (kC q _ hq).mono ?_
  rintro e w4 ⟨q4, rfl, o4, l4⟩
  have a4 := Le.alloc w4 (.cells (cellsR hh t f q4) 24)
  have hbc := Box.new w4 (cellsR hh t f q4) 24
  replace l4 := l4.trans a4
  replace hbr := hbr.le l4
  replace hbo := hbo.le l4
  replace hba := hba.le l4
  replace hbb := hbb.le l4
  replace hq := hq.le l4
  replace ha := ha.le l4
  replace hb := hb.le l4
  replace hl := hl.trans l4
  have hc := o4.has.le a4
  clear l4 a4 o4 x0 x1 x2 x3 y0 y1 y2
  go_upto_region 6 with fail
  generalize hW : w4.alloc (.cells (cellsR hh t f q4) 24) = W4 at hbr hbo hba hbb hbc hq ha hb hc hl ⊢
  clear hW
  clear kA kB kC hbo
  obtain ⟨r0, r1, r2, r3, _, _, _, _⟩ := hbr.ring
  obtain ⟨a0, a1, a2, a3, _, _, _, _⟩ := hba.ring
  go_wp2_with (go_at_call 21; refine (lawNum _ _).mono ?_; rintro e _ ⟨rfl, rfl⟩)
  have hsm := lawSameS (slV q2) (slV q) ss ss _ ha hq hf
  simp only [decide_true] at hsm
  refine hsm.mono ?_
  rintro e w5 ⟨rfl, l5⟩
  clear hsm r0 r1 r2 r3 a0 a1 a2 a3
  replace hbr := hbr.le l5
  replace hba := hba.le l5
  replace hbb := hbb.le l5
  replace hbc := hbc.le l5
  replace hq := hq.le l5
  replace ha := ha.le l5
  replace hb := hb.le l5
  replace hc := hc.le l5
  replace hl := hl.trans l5
  clear l5
  obtain ⟨r0, r1, r2, r3, _, _, _, _⟩ := hbr.ring
  obtain ⟨a0, a1, a2, a3, _, _, _, _⟩ := hba.ring
  have hnl := hc.len
  have hnq := hq.len
  rw [List.length_set] at hnl
  obtain ⟨qa, n, qc⟩ := q
  obtain ⟨ca, n', cc⟩ := q4
  simp only at hnl hnq
  obtain rfl : n = n' := by omega
  obtain ⟨b', off', hqa, hcq⟩ : ∃ b off, qa = some ⟨b, off, none⟩ ∧ ∀ j, j < n → SlotAt w5 b (off + j * 5) (ss.getD j Slt.zero) := by
    obtain ⟨a', cap', hv, _, _, hx⟩ := hq
    simp only [slV, Value.slice.injEq] at hv
    obtain ⟨b, off, e1, e2⟩ := hx (by omega)
    exact ⟨b, off, hv.1.trans e1, fun j hj => e2 j (by omega)⟩
  obtain ⟨g', og', hca, hcc⟩ : ∃ b off, ca = some ⟨b, off, none⟩ ∧ ∀ j, j < n → SlotAt w5 b (off + j * 5) ((ss.set i s).getD j Slt.zero) := by
    obtain ⟨a', cap', hv, _, _, hx⟩ := hc
    simp only [slV, Value.slice.injEq] at hv
    obtain ⟨b, off, e1, e2⟩ := hx (by rw [List.length_set]; omega)
    exact ⟨b, off, hv.1.trans e1, fun j hj => e2 j (by rw [List.length_set]; omega)⟩
  subst hqa hca
  have hse : p.tmod n = i := by rw [hnq]; exact HSE.out
  have HNQ : Hid (n = ss.length) := hnq
  have hin : i < n := by omega
  have hn16 : (n : Int) ≤ 9223372036854775807 := by omega
  have n1 : ¬ n = 0 := by omega
  have n2 : ¬ n < 1 := by omega
  have n3 : ¬ (n : Int) < 1 := by omega
  have n4 : ¬ p < 0 := by omega
  clear hnq hnl HSE hi
  clear r0 r1 r2 r3 a0 a1 a2 a3
  obtain ⟨r0, r1, r2, r3, _, _, _, _⟩ := hbr.ring
  obtain ⟨c0, c1, c2, c3, _, _, _, _⟩ := hbc.ring
  obtain ⟨a0, a1, a2, a3, _, _, _, _⟩ := hba.ring
  replace r3 : w5.cell? ⟨w.heap.size, 3, none⟩ = some (.slice (some ⟨b', off', none⟩) n qc) := r3
  replace c3 : w5.cell? ⟨w4.heap.size, 3, none⟩ = some (.slice (some ⟨g', og', none⟩) n cc) := c3
  go_wp2_with (go_at_call 21; refine (lawNum _ _).mono ?_; rintro e _ ⟨rfl, rfl⟩)
  go_loopw [18] (fun i wr => ∃ (k m : Nat), k ≤ n ∧ i = .int .i64 k ∧ wr = w5.drewN m) (fun i _ => n - (intOf i).toNat)
  case atStart => exact ⟨0, 0, by omega, rfl, rfl⟩
  case round =>
    obtain ⟨j, m, hj, rfl, rfl⟩ := hrel
    by_cases hlt : j < n
    · have hlt' : (j : Int) < (n : Int) := by omega
      by_cases hji : j = i
      · subst hji
        clear hcq hcc
        go_wp2
        go_quiet (fail)
        go_wp2
        go_roundw
        case rel => exact ⟨j + 1, m + nq, by omega, by go_num, rfl⟩
        case measure => simp [intOf]; omega
      · obtain ⟨z, hz⟩ : ∃ z, z = ss.getD j Slt.zero := ⟨_, rfl⟩
        obtain ⟨x0, x1, x2, x3, x4⟩ := hcq j hlt
        obtain ⟨y0, y1, y2, y3, y4⟩ := hcc j hlt
        rw [getD_set_ne hji] at y0 y1 y2 y3 y4
        rw [← hz] at x0 x1 x2 x3 x4 y0 y1 y2 y3 y4
        have hne : ((j : Int) != (i : Int)) = true := by simp; omega
        clear hz hcq hcc hji
        go_wp2
        go_quiet (fail)
        go_wp2
        go_roundw
        case rel => exact ⟨j + 1, m + nq, by omega, by go_num, rfl⟩
        case measure => simp [intOf]; omega
    · have hlt' : ¬ (j : Int) < (n : Int) := by omega
      clear hcq hcc
      have kM' := kM (some ⟨g', og', none⟩, n, cc) (w5.drewN m) (hc.le (Le.drewN _ _))
      go_wp2_with (go_at_call 22; refine kM'.mono ?_; rintro e w9 ⟨rfl, l9⟩)
      go_ret
      exact ⟨rfl, (hl.trans (Le.drewN _ _)).trans l9⟩

set_option maxRecDepth 10000 in
set_option maxHeartbeats 2000000 in
theorem lawKeeps111 (w : World) (v : Value) (R : Rg) (hx : HasR w v R) (hf : FitR R) (k p c r a th : Int) (hA : reserveS R k = (⟨R.h, R.t + k, R.f, R.ss⟩, R.t, 0)) (hsum : IntKind.i64.wrap (R.t + k) = R.t + k) (hB : freeS R p = (⟨p, R.t, R.f, R.ss⟩, 0)) (i : Nat) (s : Slt) (hi : i < R.ss.length) (hp : 0 ≤ p) (hse : p.tmod R.ss.length = i) (hC : publishS R p c r a th = (⟨R.h, R.t, R.f, R.ss.set i s⟩, 0)) (hM : mayR ⟨R.h, R.t, R.f, R.ss.set i s⟩ = true) :
    Calls Try.prog 7 #[v, .int .i64 k, .int .i64 p, opV c r a, .int .i64 th] w fun e w' => e = .returned (.bool true) ∧ Le w w' := by
  obtain ⟨hh, t, f, ss⟩ := R
  obtain ⟨q, rfl, hq⟩ := hx
  simp only at hq hA hB hC hsum hi hse hM ⊢
  replace hf : ss.length * 40 ≤ 140737488351232 := hf
  have kA := reserveAs hA hf
  have kB := freeAs hB hf
  have kC := publishAs hC hf
  clear hA hB hC
  have hl := (Le.alloc w (.cells (cellsR hh t f q) 24)).trans (Le.alloc _ (.cells #[.int .i64 c, .int .i64 r, .int .i64 a] 26))
  have hbr := (Box.new w (cellsR hh t f q) 24).le (Le.alloc _ (.cells #[.int .i64 c, .int .i64 r, .int .i64 a] 26))
  have hbo := Box.new (w.alloc (.cells (cellsR hh t f q) 24)) #[.int .i64 c, .int .i64 r, .int .i64 a] 26
  simp only [World.size_alloc] at hbr hbo
  have kM := mayAs hM (by rw [List.length_set]; exact hf)
  have HSE : Hid (p.tmod ss.length = i) := hse
  clear hM hse
  go_enter Try.func7, Try.ntmps7
  go_wp2_with fail
  refine (lawAwake10 _).mono ?_
  rintro e w1 ⟨rfl, l1⟩
  replace hbr := hbr.le l1
  replace hbo := hbo.le l1
  replace hl := hl.trans l1
  replace hq := hq.le hl
  clear l1
  obtain ⟨x0, x1, x2, x3, _, _, _, _⟩ := hbr.ring
  go_wp2_with fail
  refine (kA q _ hq).mono ?_
  rintro e w2 ⟨q2, rfl, o2, l2⟩
  have a2 := Le.alloc w2 (.cells (cellsR hh (t + k) f q2) 24)
  have hba := Box.new w2 (cellsR hh (t + k) f q2) 24
  replace l2 := l2.trans a2
  replace hbr := hbr.le l2
  replace hbo := hbo.le l2
  replace hq := hq.le l2
  replace hl := hl.trans l2
  have ha := o2.has.le a2
  clear l2 a2 o2 x0 x1 x2 x3 
  go_upto_region 4 with fail
  generalize hW : w2.alloc (.cells (cellsR hh (t + k) f q2) 24) = W2 at hbr hbo hba hq ha hl ⊢
  clear hW
  obtain ⟨x0, x1, x2, x3, _, _, _, _⟩ := hbr.ring
  go_wp2_with fail
  refine (kB q _ hq).mono ?_
  rintro e w3 ⟨q3, rfl, o3, l3⟩
  have a3 := Le.alloc w3 (.cells (cellsR p t f q3) 24)
  have hbb := Box.new w3 (cellsR p t f q3) 24
  replace l3 := l3.trans a3
  replace hbr := hbr.le l3
  replace hbo := hbo.le l3
  replace hba := hba.le l3
  replace hq := hq.le l3
  replace ha := ha.le l3
  replace hl := hl.trans l3
  have hb := o3.has.le a3
  clear l3 a3 o3 x0 x1 x2 x3 
  go_upto_region 5 with fail
  generalize hW : w3.alloc (.cells (cellsR p t f q3) 24) = W3 at hbr hbo hba hbb hq ha hb hl ⊢
  clear hW
  obtain ⟨x0, x1, x2, x3, _, _, _, _⟩ := hbr.ring
  obtain ⟨y0, y1, y2, _, _, _⟩ := hbo.op
  go_wp2_with fail
  refine (kC q _ hq).mono ?_
  rintro e w4 ⟨q4, rfl, o4, l4⟩
  have a4 := Le.alloc w4 (.cells (cellsR hh t f q4) 24)
  have hbc := Box.new w4 (cellsR hh t f q4) 24
  replace l4 := l4.trans a4
  replace hbr := hbr.le l4
  replace hbo := hbo.le l4
  replace hba := hba.le l4
  replace hbb := hbb.le l4
  replace hq := hq.le l4
  replace ha := ha.le l4
  replace hb := hb.le l4
  replace hl := hl.trans l4
  have hc := o4.has.le a4
  clear l4 a4 o4 x0 x1 x2 x3 y0 y1 y2
  go_upto_region 6 with fail
  generalize hW : w4.alloc (.cells (cellsR hh t f q4) 24) = W4 at hbr hbo hba hbb hbc hq ha hb hc hl ⊢
  clear hW
  clear kA kB kC hbo
  obtain ⟨r0, r1, r2, r3, _, _, _, _⟩ := hbr.ring
  obtain ⟨a0, a1, a2, a3, _, _, _, _⟩ := hba.ring
  go_wp2_with (go_at_call 21; refine (lawNum _ _).mono ?_; rintro e _ ⟨rfl, rfl⟩)
  have hsm := lawSameS (slV q2) (slV q) ss ss _ ha hq hf
  simp only [decide_true] at hsm
  refine hsm.mono ?_
  rintro e w5 ⟨rfl, l5⟩
  clear hsm r0 r1 r2 r3 a0 a1 a2 a3
  replace hbr := hbr.le l5
  replace hba := hba.le l5
  replace hbb := hbb.le l5
  replace hbc := hbc.le l5
  replace hq := hq.le l5
  replace ha := ha.le l5
  replace hb := hb.le l5
  replace hc := hc.le l5
  replace hl := hl.trans l5
  clear l5
  obtain ⟨r0, r1, r2, r3, _, _, _, _⟩ := hbr.ring
  obtain ⟨a0, a1, a2, a3, _, _, _, _⟩ := hba.ring
  obtain ⟨b0, b1, b2, b3, _, _, _, _⟩ := hbb.ring
  go_wp2_with (go_at_call 21; refine (lawNum _ _).mono ?_; rintro e _ ⟨rfl, rfl⟩)
  have hsm := lawSameS (slV q3) (slV q) ss ss _ hb hq hf
  simp only [decide_true] at hsm
  refine hsm.mono ?_
  rintro e w6 ⟨rfl, l6⟩
  clear hsm r0 r1 r2 r3 a0 a1 a2 a3 b0 b1 b2 b3
  replace hbr := hbr.le l6
  replace hba := hba.le l6
  replace hbb := hbb.le l6
  replace hbc := hbc.le l6
  replace hq := hq.le l6
  replace ha := ha.le l6
  replace hb := hb.le l6
  replace hc := hc.le l6
  replace hl := hl.trans l6
  clear l6
  obtain ⟨r0, r1, r2, r3, _, _, _, _⟩ := hbr.ring
  obtain ⟨b0, b1, b2, b3, _, _, _, _⟩ := hbb.ring
  have hnl := hc.len
  have hnq := hq.len
  rw [List.length_set] at hnl
  obtain ⟨qa, n, qc⟩ := q
  obtain ⟨ca, n', cc⟩ := q4
  simp only at hnl hnq
  obtain rfl : n = n' := by omega
  obtain ⟨b', off', hqa, hcq⟩ : ∃ b off, qa = some ⟨b, off, none⟩ ∧ ∀ j, j < n → SlotAt w6 b (off + j * 5) (ss.getD j Slt.zero) := by
    obtain ⟨a', cap', hv, _, _, hx⟩ := hq
    simp only [slV, Value.slice.injEq] at hv
    obtain ⟨b, off, e1, e2⟩ := hx (by omega)
    exact ⟨b, off, hv.1.trans e1, fun j hj => e2 j (by omega)⟩
  obtain ⟨g', og', hca, hcc⟩ : ∃ b off, ca = some ⟨b, off, none⟩ ∧ ∀ j, j < n → SlotAt w6 b (off + j * 5) ((ss.set i s).getD j Slt.zero) := by
    obtain ⟨a', cap', hv, _, _, hx⟩ := hc
    simp only [slV, Value.slice.injEq] at hv
    obtain ⟨b, off, e1, e2⟩ := hx (by rw [List.length_set]; omega)
    exact ⟨b, off, hv.1.trans e1, fun j hj => e2 j (by rw [List.length_set]; omega)⟩
  subst hqa hca
  have hse : p.tmod n = i := by rw [hnq]; exact HSE.out
  have HNQ : Hid (n = ss.length) := hnq
  have hin : i < n := by omega
  have hn16 : (n : Int) ≤ 9223372036854775807 := by omega
  have n1 : ¬ n = 0 := by omega
  have n2 : ¬ n < 1 := by omega
  have n3 : ¬ (n : Int) < 1 := by omega
  have n4 : ¬ p < 0 := by omega
  clear hnq hnl HSE hi
  clear r0 r1 r2 r3 b0 b1 b2 b3
  obtain ⟨r0, r1, r2, r3, _, _, _, _⟩ := hbr.ring
  obtain ⟨c0, c1, c2, c3, _, _, _, _⟩ := hbc.ring
  obtain ⟨b0, b1, b2, b3, _, _, _, _⟩ := hbb.ring
  replace r3 : w6.cell? ⟨w.heap.size, 3, none⟩ = some (.slice (some ⟨b', off', none⟩) n qc) := r3
  replace c3 : w6.cell? ⟨w4.heap.size, 3, none⟩ = some (.slice (some ⟨g', og', none⟩) n cc) := c3
  go_wp2_with (go_at_call 21; refine (lawNum _ _).mono ?_; rintro e _ ⟨rfl, rfl⟩)
  go_loopw [18] (fun i wr => ∃ (k m : Nat), k ≤ n ∧ i = .int .i64 k ∧ wr = w6.drewN m) (fun i _ => n - (intOf i).toNat)
  case atStart => exact ⟨0, 0, by omega, rfl, rfl⟩
  case round =>
    obtain ⟨j, m, hj, rfl, rfl⟩ := hrel
    by_cases hlt : j < n
    · have hlt' : (j : Int) < (n : Int) := by omega
      by_cases hji : j = i
      · subst hji
        clear hcq hcc
        go_wp2
        go_quiet (fail)
        go_wp2
        go_roundw
        case rel => exact ⟨j + 1, m + nq, by omega, by go_num, rfl⟩
        case measure => simp [intOf]; omega
      · obtain ⟨z, hz⟩ : ∃ z, z = ss.getD j Slt.zero := ⟨_, rfl⟩
        obtain ⟨x0, x1, x2, x3, x4⟩ := hcq j hlt
        obtain ⟨y0, y1, y2, y3, y4⟩ := hcc j hlt
        rw [getD_set_ne hji] at y0 y1 y2 y3 y4
        rw [← hz] at x0 x1 x2 x3 x4 y0 y1 y2 y3 y4
        have hne : ((j : Int) != (i : Int)) = true := by simp; omega
        clear hz hcq hcc hji
        go_wp2
        go_quiet (fail)
        go_wp2
        go_roundw
        case rel => exact ⟨j + 1, m + nq, by omega, by go_num, rfl⟩
        case measure => simp [intOf]; omega
    · have hlt' : ¬ (j : Int) < (n : Int) := by omega
      clear hcq hcc
      have kM' := kM (some ⟨g', og', none⟩, n, cc) (w6.drewN m) (hc.le (Le.drewN _ _))
      go_wp2_with (go_at_call 22; refine kM'.mono ?_; rintro e w9 ⟨rfl, l9⟩)
      go_ret
      exact ⟨rfl, (hl.trans (Le.drewN _ _)).trans l9⟩

end Go.Proofs.Ytnncmjliehoknaa
