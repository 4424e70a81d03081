/-
  PARTS LAID TOGETHER, each with its own opening: Bg16, BoD, BoA, BoB, BoW, MsU, BoY, OpenSl, OpenR, OpenSt, OpenCf, OpenM.
-/
import Derived.Test.YtkddgpdlpjjpbaaGreatCom5
import Derived.Test.YtkddgpdlpjjpbaaGreatCom4
import Derived.Test.YtkddgpdlpjjpbaaGreatCom3
import Derived.Test.YtkddgpdlpjjpbaaGreatCom1
import Derived.ProofKit
import Derived.OpenShut
import Derived.SizedLaws
import Derived.Lib.SmallJoins
import Derived.Deep.Slices
import Derived.Deep.Strs
import Derived.Laws.IdiomArrays
/-
  THE WALKS over choruslaw16's begun and called: a machine that begins, and one that thread 0 has called. No condition.
-/
namespace Go.Proofs.YtkddgpdlpjjpbaaGreat
open Go.RowKit

set_option maxRecDepth 8000 in
set_option maxHeartbeats 4000000 in
theorem begun16 (w : World) : Calls Tryz.prog 26 #[] w fun e w' => ∃ qR qP qT qH, e = .returned (machV begC qR qP qT qH) ∧ OwnM w' w.heap.size (machV begC qR qP qT qH) begM ∧ Le w w' := by
  have hr := Box.new w cellsZ9 29
  have hl := Le.alloc w (.cells cellsZ9 29)
  go_enter Tryz.func26, Tryz.ntmps26
  go_upto_region 1 with fail
  generalize hW : w.alloc (.cells cellsZ9 29) = W at hl hr ⊢
  clear hW
  go_wp2_with fail
  refine (begNew _).mono ?_
  rintro e w1 ⟨qR, qP, qT, qH, rfl, o, l1⟩
  replace hr := hr.le l1
  have ho := (o.base hl.size)
  replace hl := hl.trans l1
  clear o l1
  have hb := Box.new w1 (cells9 begC qR qP qT qH) 29
  have a1 := Le.alloc w1 (.cells (cells9 begC qR qP qT qH) 29)
  go_upto_region 2 with fail
  generalize hW1 : w1.alloc (.cells (cells9 begC qR qP qT qH) 29) = W1 at hb a1 ⊢
  generalize w1.heap.size = g1 at hb ⊢
  clear hW1
  replace hr := hr.le a1
  replace ho := ho.le a1
  replace hl := hl.trans a1
  clear a1
  obtain ⟨⟨z0, z1, z2, z3, z4⟩, z5, z6, z7, z8⟩ := (hb).mach
  obtain ⟨⟨r0, r1, r2, r3, r4, r5, r6, r7, r8⟩, k0, k1, k2, k3, k4, k5, k6, k7, k8⟩ := hr.res
  go_wp2_with fail
  refine bodyPost_ret (v := machV begC qR qP qT qH) (by simp [results, Tryz.results26, go_sem, r0, r1, r2, r3, r4, r5, r6, r7, r8]) rfl ⟨qR, qP, qT, qH, rfl, ?_, hl.put9 (g := w.heap.size) (Nat.le_refl _) begC qR qP qT qH⟩
  obtain ⟨L, hv, hm, ho⟩ := ho
  exact ⟨L, hv, hm, ho.put9 hr begC qR qP qT qH⟩

set_option maxRecDepth 8000 in
set_option maxHeartbeats 4000000 in
theorem called16 (w : World) : Calls Tryz.prog 28 #[] w fun e w' => ∃ qR qP qT qH, e = .returned (machV begC qR qP qT qH) ∧ OwnA w' w.heap.size (machV begC qR qP qT qH) cldM ∧ Le w w' := by
  have hr := Box.new w cellsZ9 29
  have hl := Le.alloc w (.cells cellsZ9 29)
  go_enter Tryz.func28, Tryz.ntmps28
  go_upto_region 1 with fail
  generalize hW : w.alloc (.cells cellsZ9 29) = W at hl hr ⊢
  clear hW
  go_wp2_with fail
  refine (begun16 _).mono ?_
  rintro e w0 ⟨pR, pP, pT, pH, rfl, o0, l0⟩
  replace hr := hr.le l0
  replace hl := hl.trans l0
  clear l0
  go_wp2_with fail
  refine (begCall _ _ o0.has).mono ?_
  rintro e w1 ⟨qR, qP, qT, qH, rfl, o, l1⟩
  clear o0
  replace hr := hr.le l1
  have ho := (o.base hl.size)
  replace hl := hl.trans l1
  clear o l1
  have hb := Box.new w1 (cells9 begC qR qP qT qH) 29
  have a1 := Le.alloc w1 (.cells (cells9 begC qR qP qT qH) 29)
  go_upto_region 2 with fail
  generalize hW1 : w1.alloc (.cells (cells9 begC qR qP qT qH) 29) = W1 at hb a1 ⊢
  generalize w1.heap.size = g1 at hb ⊢
  clear hW1
  replace hr := hr.le a1
  replace ho := ho.le a1
  replace hl := hl.trans a1
  clear a1
  obtain ⟨⟨z0, z1, z2, z3, z4⟩, z5, z6, z7, z8⟩ := (hb).mach
  obtain ⟨⟨r0, r1, r2, r3, r4, r5, r6, r7, r8⟩, k0, k1, k2, k3, k4, k5, k6, k7, k8⟩ := hr.res
  go_wp2_with fail
  refine bodyPost_ret (v := machV begC qR qP qT qH) (by simp [results, Tryz.results28, go_sem, r0, r1, r2, r3, r4, r5, r6, r7, r8]) rfl ⟨qR, qP, qT, qH, rfl, ?_, hl.put9 (g := w.heap.size) (Nat.le_refl _) begC qR qP qT qH⟩
  obtain ⟨L, hv, hm, ho, ha⟩ := ho
  exact ⟨L, hv, hm, ho.put9 hr begC qR qP qT qH, ha⟩

/-- .. as its history tells. -/
theorem calledL16 (w : World) : Calls Tryz.prog 28 #[] w fun e w' => ∃ qR qP qT a c, e = .returned (.agg #[.int .i64 2, .int .i64 2, .int .i64 2, .int .i64 4, .int .i64 8, slV qR, slV qP, slV qT, .slice a 1 c]) ∧ Le w w' := by
  refine (called16 w).mono ?_
  rintro e w' ⟨qR, qP, qT, qH, rfl, o, l⟩
  have hh : qH.2.1 = 1 := o.has.lens.2.2.2
  obtain ⟨a, n, c⟩ := qH
  simp only at hh
  subst hh
  exact ⟨qR, qP, qT, a, c, rfl, l⟩

end Go.Proofs.YtkddgpdlpjjpbaaGreat

/-
  PLAIN GROUND, NO WALK: package board's answers as data: what it answers of a machine that begins and of one that thread 0 has called. No condition.
-/
namespace Go.Proofs.YtkddgpdlpjjpbaaGreat
open Go.RowKit

theorem fitM_post {M : Mc} (h : FitM M) (t : Int) : FitM (postM M t).1 := by
  unfold postM
  split
  · exact h.putT t (h.th t)
  · exact fitM_zero
/-- Thread 0 waits. -/
def bo1 : Mc := cldM.putT 0 { cldM.th 0 with po := true, re := false }
theorem bo_1 : postM cldM 0 = (bo1, 0) := by decide +kernel
theorem bo_2 : waitM bo1 0 0 = ([0], 0) := by decide +kernel
theorem bo_3 : waitM bo1 0 1 = ([], 0) := by decide +kernel
theorem bo_4 : postM begM 4 = (Mc.zero, 1600) := by decide +kernel
theorem bo_5 : waitM begM 0 2 = ([], 1600) := by decide +kernel
theorem bo_may : mayM bo1 = true := by decide +kernel
theorem bo_fit : FitM bo1 := fitB_fit (by decide +kernel)
theorem bo_open {w : World} {v : Value} (h : HasM w v bo1) : ∃ qR qP bT oT cT qH, v = machV begC qR qP (some ⟨bT, oT, none⟩, 4, cT) qH ∧ w.cell? ⟨bT, oT + 8, none⟩ = some (.bool true) := by
  obtain ⟨bR, oR, cR, bP, oP, cP, bT, oT, cT, qH, rfl, _, _, hcT, _⟩ := h.opens bo_may
  obtain ⟨qb, qt, ⟨_, _, _, _, _, _, _, _, x8, _⟩, _⟩ := hcT 0 (by decide +kernel)
  have h4 : (bo1.ts.getD 0 Th.zero).po = true := by decide +kernel
  rw [h4, Nat.zero_mul, Nat.add_zero] at x8
  have h3 : bo1.ts.length = 4 := by decide +kernel
  rw [h3]
  exact ⟨_, _, bT, oT, cT, qH, rfl, x8⟩

end Go.Proofs.YtkddgpdlpjjpbaaGreat

/-
  THE WALKS over lists.Which at threads (with a function that holds three variables) and package board's Post and Waiting: what each answers, for every machine, thread and place. Condition: that the machine's rows can be copied.
-/
namespace Go.Proofs.YtkddgpdlpjjpbaaGreat
open Go.RowKit

set_option maxRecDepth 8000 in
set_option maxHeartbeats 8000000 in
theorem boardPost (v : Value) (M : Mc) (t : Int) (w : World) (hx : HasM w v M) (hf : FitM M) : Calls Tryz.prog 19 #[v, .int .i64 t] w fun e w' => ∃ v', e = .returned (.tuple #[v', .int .i64 (postM M t).2]) ∧ OwnA w' w.heap.size v' (postM M t).1 ∧ Le w w' := by
  have m1 := fun w' (l : Le w w') => machHasThread v M t w' (hx.le l) hf
  have m2 := fun w' (l : Le w w') => machCopy v M w' (hx.le l) hf
  obtain ⟨qR, qP, qT, qH, rfl, _, _, _, _⟩ := hx
  cases h1 : thereB M 0 0 t
  · have hP : postM M t = (Mc.zero, 1600) := by unfold postM; rw [h1]; rfl
    rw [hP]
    simp only [h1] at m1
    clear h1
    have hr := Box.new (w.alloc (.cells (cells9 M.c qR qP qT qH) 29)) cellsZ9 29
    have hb := (Box.new w (cells9 M.c qR qP qT qH) 29).le (Le.alloc _ (.cells cellsZ9 29))
    have hl := (Le.alloc w (.cells (cells9 M.c qR qP qT qH) 29)).trans (Le.alloc _ (.cells cellsZ9 29))
    rw [World.size_alloc] at hr
    go_enter Tryz.func19, Tryz.ntmps19
    go_upto_region 1 with fail
    generalize hW : (w.alloc (.cells (cells9 M.c qR qP qT qH) 29)).alloc (.cells cellsZ9 29) = W at hl hb hr ⊢
    clear hW
    have hgr := hr.lt
    obtain ⟨⟨z0, z1, z2, z3, z4⟩, z5, z6, z7, z8⟩ := (hb).mach
    go_wp2_with fail
    refine (m1 _ hl).mono ?_
    rintro e w1 ⟨rfl, l1⟩
    clear z0 z1 z2 z3 z4 z5 z6 z7 z8
    clear m1
    replace hb := hb.le l1
    replace hl := hl.trans l1
    have hgr := Nat.lt_of_lt_of_le hgr l1.size
    replace hr := hr.le l1
    clear l1
    obtain ⟨⟨r0, r1, r2, r3, r4, r5, r6, r7, r8⟩, k0, k1, k2, k3, k4, k5, k6, k7, k8⟩ := hr.res
    go_wp2_with fail
    refine bodyPost_ret (v := .tuple #[machZ, .int .i64 1600]) (by simp [results, Tryz.results19, go_sem, r0, r1, r2, r3, r4, r5, r6, r7, r8]) rfl ⟨_, rfl, OwnA.zero _ _, ?_⟩
    exact hl.put9 (c := Cfg.zero) (by omega) slZ slZ slZ slZ
  · have hP : postM M t = (M.putT t { M.th t with po := true, re := false }, 0) := by unfold postM; rw [h1]; rfl
    rw [hP]
    obtain ⟨hmay, _, _, ⟨t0, t1⟩⟩ := thereB_cases h1
    obtain ⟨_, _, hts, _⟩ := mayM_lens hmay
    obtain ⟨t, rfl⟩ : ∃ n : Nat, t = n := ⟨t.toNat, by omega⟩
    simp only [h1] at m1
    have hti : t < M.ts.length := by omega
    clear h1 hmay t1 hts hP
    have hr := Box.new (w.alloc (.cells (cells9 M.c qR qP qT qH) 29)) cellsZ9 29
    have hb := (Box.new w (cells9 M.c qR qP qT qH) 29).le (Le.alloc _ (.cells cellsZ9 29))
    have hl := (Le.alloc w (.cells (cells9 M.c qR qP qT qH) 29)).trans (Le.alloc _ (.cells cellsZ9 29))
    rw [World.size_alloc] at hr
    go_enter Tryz.func19, Tryz.ntmps19
    go_upto_region 1 with fail
    generalize hW : (w.alloc (.cells (cells9 M.c qR qP qT qH) 29)).alloc (.cells cellsZ9 29) = W at hl hb hr ⊢
    clear hW
    have hgr := hr.lt
    obtain ⟨⟨z0, z1, z2, z3, z4⟩, z5, z6, z7, z8⟩ := (hb).mach
    go_wp2_with fail
    refine (m1 _ hl).mono ?_
    rintro e w1 ⟨rfl, l1⟩
    clear z0 z1 z2 z3 z4 z5 z6 z7 z8
    clear m1
    replace hb := hb.le l1
    replace hl := hl.trans l1
    have hgr := Nat.lt_of_lt_of_le hgr l1.size
    replace hr := hr.le l1
    clear l1
    have hl1 := hl
    obtain ⟨⟨z0, z1, z2, z3, z4⟩, z5, z6, z7, z8⟩ := (hb).mach
    go_wp2_with fail
    refine (m2 _ hl).mono ?_
    rintro e w9 ⟨⟨c', uR, uP, uT, uH, xR, xP, xT, xH⟩, rfl, HM, o1, ap, l1⟩
    clear z0 z1 z2 z3 z4 z5 z6 z7 z8
    clear m2
    replace hb := hb.le l1
    obtain ⟨⟨z0, z1, z2, z3, z4⟩, z5, z6, z7, z8⟩ := (hb).mach
    have f0 := (hb).frozen 0
    have f1 := (hb).frozen 1
    have f2 := (hb).frozen 2
    have f3 := (hb).frozen 3
    have f4 := (hb).frozen 4
    have f5 := (hb).frozen 5
    have f6 := (hb).frozen 6
    have f7 := (hb).frozen 7
    have f8 := (hb).frozen 8
    have hlB : w.heap.size ≤ w1.heap.size := hl.size
    have o2 := (o1.base hlB).put9 hb c' uR uP uT uH
    have hb2 := hb.put9 rfl c' uR uP uT uH
    have hr2 := (hr.le l1).off9 (show w.heap.size + 1 ≠ w.heap.size by omega) c' uR uP uT uH
    have l01 := (hl.trans l1).put9 (g := w.heap.size) (Nat.le_refl _) c' uR uP uT uH
    try simp only at o2
    go_upto_region 4 with fail
    clear z0 z1 z2 z3 z4 z5 z6 z7 z8 f0 f1 f2 f3 f4 f5 f6 f7 f8 hb hr hl o1 l1
    show Code.wp _ _ _ _ (put9 w9 w.heap.size c' uR uP uT uH)
    generalize hW1 : put9 w9 w.heap.size c' uR uP uT uH = W1 at o2 hb2 hr2 l01 ⊢
    clear hW1
    have I : MoI w.heap.size w.heap.size W1 ⟨c', uR, uP, uT, uH, xR, xP, xT, xH⟩ := ⟨hb2, Nat.le_refl _, o2, ap⟩
    have hr := hr2
    have hl := l01
    clear o2 hb2 hr2
    have hiT : t < xT.length := by have := lay_ts HM; simp only at this; omega
    have hiT' : (t : Int) < (xT.length : Int) := by omega
    obtain ⟨gT, capT, hqT, hcapT, hgBT, hgltT, hgneT, hatT, hfzT⟩ := I.openT hiT
    try simp only at hqT hatT hcapT
    subst hqT
    obtain ⟨⟨y0, y1, y2, y3, y4⟩, y5, y6, y7, y8⟩ := (I.bo).mach
    simp only [slV] at y7
    obtain ⟨_, _, _, _, _, _, _, _, x8, x9, _, _⟩ := hatT
    have f8 := hfzT (t * 12 + 8)
    have f9 := hfzT (t * 12 + 9)
    clear hfzT
    obtain ⟨x0, hx0⟩ : ∃ x0, x0 = xT.getD t thK.d := ⟨_, rfl⟩
    have I2 := I.setTx (j := 8) (u := .bool true) rfl hiT (by decide) x0 hx0.symm { x0.T with po := true } rfl rfl rfl
    have I3 := I2.setTy (j := 9) (u := .bool false) rfl hiT (by decide) { x0.T with po := true, re := false } rfl rfl rfl
    have l2 := (hl.set (g := gT) (i := t * 12 + 8) (u := .bool true) hgBT).set (g := gT) (i := t * 12 + 9) (u := .bool false) hgBT
    have hne : w.heap.size + 1 ≠ gT := I.neT rfl hr (by decide)
    have hr2 := (hr.other hne (t * 12 + 8) (.bool true)).other hne (t * 12 + 9) (.bool false)
    go_upto_region 6 with fail
    generalize hW2 : (W1.setCell ⟨gT, t * 12 + 8, none⟩ (.bool true)).setCell ⟨gT, t * 12 + 9, none⟩ (.bool false) = W2 at I3 l2 hr2 ⊢
    clear y0 y1 y2 y3 y4 y5 y6 y7 y8
    clear hW2 hr I I2 x8 x9 f8 f9
    obtain ⟨⟨y0, y1, y2, y3, y4⟩, y5, y6, y7, y8⟩ := (I3.bo).mach
    obtain ⟨⟨r0, r1, r2, r3, r4, r5, r6, r7, r8⟩, k0, k1, k2, k3, k4, k5, k6, k7, k8⟩ := hr2.res
    go_wp2_with fail
    refine bodyPost_ret (v := .tuple #[machV c' uR uP (some ⟨gT, 0, none⟩, xT.length, capT) uH, .int .i64 0]) (by simp [results, Tryz.results19, go_sem, r0, r1, r2, r3, r4, r5, r6, r7, r8]) rfl ⟨_, rfl, ?_, (l2).put9 (g := w.heap.size + 1) (by omega) c' uR uP (some ⟨gT, 0, none⟩, xT.length, capT) uH⟩
    have := (I3.ret hr2)
    rw [lay_setT HM] at this
    simp only [hx0, lay_th HM hiT] at this
    exact this

/-- The numbers of those of which it is so. -/
def whichL (p : Nat → Bool) (n : Nat) : List Int := ((List.range n).filter p).map Int.ofNat
theorem whichL_no {p : Nat → Bool} {k : Nat} (h : p k = false) : whichL p (k + 1) = whichL p k := by
  unfold whichL
  rw [List.range_succ, List.filter_append, List.map_append]
  simp [h]
theorem whichL_yes {p : Nat → Bool} {k : Nat} (h : p k = true) : whichL p (k + 1) = whichL p k ++ [(k : Int)] := by
  unfold whichL
  rw [List.range_succ, List.filter_append, List.map_append]
  simp [h]
theorem whichL_len (p : Nat → Bool) (k : Nat) : (whichL p k).length ≤ k := by
  unfold whichL
  rw [List.length_map]
  exact Nat.le_trans (List.length_filter_le _ _) (by simp)

set_option maxRecDepth 8000 in
set_option maxHeartbeats 8000000 in
theorem listsWhich (f : Nat) (c1 c2 c3 : Value) (p : Nat → Bool) (hc : ∀ (a u : Value) (w : World), (callFunc f #[a, u, c1, c2, c3]).run Tryz.prog w = .ok (.enter f #[a, u, c1, c2, c3]) w) (v : Value) (xs : List Th) (w : World)
    (hp : ∀ w', Le w w' → ∀ (k : Nat) (u : Value), k < xs.length → HasT w' u (xs.getD k Th.zero) → Calls Tryz.prog f #[.int .i64 k, u, c1, c2, c3] w' fun e w'' => e = .returned (.bool (p k)) ∧ Le w' w'') (hx : HasTs w v xs) (hm : xs.length ≤ 4) :
    Calls Tryz.prog 51 #[v, .func (.func f) #[] #[c1, c2, c3]] w fun e w' => ∃ q : Sl, e = .returned (slV q) ∧ Own w' w.heap.size (slV q) (whichL p xs.length) ∧ Le w w' := by
  obtain ⟨a, cap, rfl, hc', _, hx⟩ := hx.open
  by_cases h0 : 0 < xs.length
  · obtain ⟨b, off, rfl, hcell⟩ := hx h0
    clear hx
    obtain ⟨L, hL⟩ : ∃ L, L = xs.length := ⟨_, rfl⟩
    have HL : Hid (L = xs.length) := hL
    rw [← hL] at hm h0 hc' hcell ⊢
    clear hL
    go_enter Tryz.func51, Tryz.ntmps51
    go_wp2
    go_loopw [5, 10] (fun o i wr => ∃ (k : Nat) (q : Sl), k ≤ L ∧ o = slV q ∧ i = .int .i64 k ∧ Hid (Own wr w.heap.size (slV q) (whichL p k)) ∧ Le w wr) (fun _ i _ => L - (intOf i).toNat)
    case atStart => exact ⟨0, slZ, by omega, rfl, rfl, Own.nil _ _, Le.refl _⟩
    case round =>
      obtain ⟨k, q, hk, rfl, rfl, HO, hle⟩ := hrel
      by_cases hlt : k < L
      · obtain ⟨qb, qt, rA, hqb, hqt⟩ := hcell k hlt
        obtain ⟨s, hs⟩ : ∃ s, s = xs.getD k Th.zero := ⟨_, rfl⟩
        have HS : Hid (s = xs.getD k Th.zero) := hs
        have hm2 := fun w' (l : Le w w') => hp w' l k (thV s qb qt) (by have := HL.out; omega) (by rw [← hs]; exact ⟨qb, qt, rfl, by rw [hs]; exact hqb.le l, by rw [hs]; exact hqt.le l⟩)
        rw [← hs] at rA
        obtain ⟨x0, x1, x2, x3, x4, x5, x6, x7, x8, x9, x10, x11⟩ := rA.le hle
        have hlt' : (k : Int) < (L : Int) := by omega
        clear hs hcell hp hqb hqt rA
        cases hh : p k
        · simp only [hh] at hm2
          have HN : Hid (whichL p (k + 1) = whichL p k) := whichL_no hh
          clear hh
          go_wp2_with fail
          refine (hm2 _ (hle.trans (Le.alloc _ _))).mono ?_
          rintro e w1 ⟨rfl, l1⟩
          go_wp2
          go_roundw
          case rel => exact ⟨k + 1, q, by omega, rfl, by go_num, by rw [HN.out]; exact (HO.out.le (Le.alloc _ _)).le l1, (hle.trans (Le.alloc _ _)).trans l1⟩
          case measure => simp [intOf]; omega
        · simp only [hh] at hm2
          have HN : Hid (whichL p (k + 1) = whichL p k ++ [(k : Int)]) := whichL_yes hh
          clear hh
          go_wp2_with fail
          refine (hm2 _ (hle.trans (Le.alloc _ _))).mono ?_
          rintro e w3 ⟨rfl, l3⟩
          have h13 := (hle.trans (Le.alloc _ _)).trans l3
          have ho := (HO.out.le (Le.alloc _ _)).le l3
          have hlit := Own.lit w3 w3.heap.size (Nat.le_refl _) [(k : Int)] (by simp)
          replace hlit : Own (w3.alloc (.cells #[.int .i64 (k : Int)] 3)) w3.heap.size (.slice (some ⟨w3.heap.size, 0, none⟩) 1 1) [(k : Int)] := hlit
          have hA4 := Le.alloc w3 (.cells #[.int .i64 (k : Int)] 3)
          have ho4 := ho.le hA4
          have h14 := h13.trans hA4
          have hwl := whichL_len p k
          go_wp2_with (at_builtin; refine wp_append_ints rfl _ _ rfl w.heap.size _ _ (whichL p k) [(k : Int)] rfl rfl ho4 hlit.has (by show ((whichL p k).length + 1) * 8 ≤ _; omega) h14.size ?_; intro v' w7 o8 hg8; obtain ⟨q', rfl⟩ := o8.has.sl)
          go_roundw
          case rel => exact ⟨k + 1, q', by omega, rfl, by go_num, by rw [HN.out]; exact o8, Below.grown h14 hg8 h14.size (fun gz e => (ho4.block e).1)⟩
          case measure => simp [intOf]; omega
      · obtain rfl : k = L := by omega
        go_wp2
        go_ret
        exact ⟨q, rfl, HO.out, hle⟩
  · have hxn : xs = [] := by cases xs with | nil => rfl | cons _ _ => simp at h0
    subst hxn
    go_enter Tryz.func51, Tryz.ntmps51
    go_wp2
    refine wp_loop_rounds 1 ?_
    rw [rounds_succ]
    go_wp2
    go_ret
    exact ⟨slZ, rfl, Own.nil _ _, Le.refl _⟩

set_option maxRecDepth 8000 in
set_option maxHeartbeats 8000000 in
theorem boardWaits (M : Mc) (r g : Int) (k gm gr gg : Nat) (qR qP qT qH qb qt : Sl) (w : World) (hmay : mayM M = true) (hk : k < M.ts.length) (bm : Box w gm (cells9 M.c qR qP qT qH) 29) (br : Box w gr #[.int .i64 r] 3) (bg : Box w gg #[.int .i64 g] 3) :
    Calls Tryz.prog 48 #[.int .i64 k, thV (M.ts.getD k Th.zero) qb qt, .pointer (some ⟨gm, 0, none⟩), .pointer (some ⟨gr, 0, none⟩), .pointer (some ⟨gg, 0, none⟩)] w fun e w' => e = .returned (.bool (waitsB M r g k)) ∧ Le w w' := by
  obtain ⟨_, _, hts, _⟩ := mayM_lens hmay
  obtain ⟨_, ⟨_, _⟩, _⟩ := Cfg.ok_cases (mayM_ok hmay)
  have hrep : repS M.c.o M.c.r M.c.l M.c.t M.c.s (k : Int) = ((k : Int) % M.c.r, 0) := repS_yes (mayM_ok hmay) (by omega) (by omega)
  have m2 := fun w' => repAs hrep w'
  obtain ⟨T, hT⟩ : ∃ x, x = M.ts.getD k Th.zero := ⟨_, rfl⟩
  have HV : Hid (waitsB M r g k = (decide ((k : Int) % M.c.r = r) && (opUp T.c T.r T.a && (decide (T.lg = g) && T.po)))) := by unfold waitsB; rw [Mc.th_nat, ← hT]; exact rfl
  rw [← hT]
  obtain ⟨hm, hhm⟩ : ∃ x, x = (k : Int) % M.c.r := ⟨_, rfl⟩
  rw [← hhm] at m2 HV
  clear hhm hT hts hrep hmay hk
  have hbx := Box.new w (cellsT T qb qt) 63
  have hA := Le.alloc w (.cells (cellsT T qb qt) 63)
  have br0 := br.cell 0
  have bg0 := bg.cell 0
  simp only [List.getElem?_toArray, List.getElem?_cons_zero] at br0 bg0
  go_enter Tryz.func48, Tryz.ntmps48
  go_upto_region 1 with fail
  generalize hW : w.alloc (.cells (cellsT T qb qt) 63) = W at hbx hA ⊢
  clear hW
  obtain ⟨⟨z0, z1, z2, z3, z4⟩, z5, z6, z7, z8⟩ := ((bm.le hA)).mach
  replace br0 := cell_le br0 hA
  replace bg0 := cell_le bg0 hA
  obtain ⟨x0, x1, x2, x3, x4, x5, x6, x7, x8, x9, x10, x11⟩ := hbx.th
  go_wp2_with fail
  refine (m2 _).mono ?_
  rintro e w3 ⟨rfl, l3⟩
  clear z0 z1 z2 z3 z4 z5 z6 z7 z8
  clear x0 x1 x2 x3 x4 x5 x6 x7 x8 x9 x10 x11
  obtain ⟨x0, x1, x2, x3, x4, x5, x6, x7, x8, x9, x10, x11⟩ := (hbx.le l3).th
  replace br0 := cell_le br0 l3
  replace bg0 := cell_le bg0 l3
  have hl := hA.trans l3
  by_cases e1 : hm = r
  case neg =>
    have hb1 : (hm == r) = false := by simp [e1]
    have hV : Hid _ := (show waitsB M r g k = false by rw [HV.out, decide_eq_false e1]; rfl)
    clear e1
    go_wp2_with fail
    go_ret
    exact ⟨ret_bool hV.out.symm, hl⟩
  have hb1 : (hm == r) = true := by simp [e1]
  have HE1 : Hid (decide (hm = r) = true) := decide_eq_true e1
  clear e1
  by_cases e3 : T.lg = g
  case neg =>
    have hb3 : (T.lg == g) = false := by simp [e3]
    have hV : Hid _ := (show waitsB M r g k = false by rw [HV.out, HE1.out, decide_eq_false e3]; simp)
    clear e3
    go_wp2_with fail
    go_ret
    exact ⟨ret_bool hV.out.symm, hl⟩
  have HE3 : Hid (decide (T.lg = g) = true) := decide_eq_true e3
  have hb3 : (T.lg == g) = true := by simp [e3]
  clear e3
  cases e4 : T.po
  · rw [e4] at x8
    have hV : Hid _ := (show waitsB M r g k = false by rw [HV.out, e4]; simp)
    clear e4
    go_wp2_with fail
    go_ret
    exact ⟨ret_bool hV.out.symm, hl⟩
  rw [e4] at x8
  have hV : Hid _ := (show waitsB M r g k = opUp T.c T.r T.a by rw [HV.out, HE1.out, HE3.out, e4]; simp)
  clear e4 HV HE1 HE3
  have m4 := fun w' => operUpdates T.c T.r T.a w'
  obtain ⟨y, hy⟩ : ∃ y, y = opUp T.c T.r T.a := ⟨_, rfl⟩
  rw [← hy] at m4
  have hV2 : Hid _ := (show waitsB M r g k = y by rw [hV.out, hy])
  clear hy hV
  go_wp2_with fail
  refine (m4 _).mono ?_
  rintro e w5 ⟨rfl, l5⟩
  go_wp2_with fail
  go_ret
  exact ⟨ret_bool hV2.out.symm, hl.trans l5⟩

set_option maxRecDepth 8000 in
set_option maxHeartbeats 8000000 in
theorem boardWaiting (v : Value) (M : Mc) (r g : Int) (w : World) (hx : HasM w v M) (hf : FitM M) : Calls Tryz.prog 21 #[v, .int .i64 r, .int .i64 g] w fun e w' => ∃ q : Sl, e = .returned (.tuple #[slV q, .int .i64 (waitM M r g).2]) ∧ Own w' w.heap.size (slV q) (waitM M r g).1 ∧ Le w w' := by
  have m1 := fun w' (l : Le w w') => machHasLog v M r g w' (hx.le l) hf
  obtain ⟨qR, qP, qT, qH, rfl, _, _, hT, _⟩ := hx
  obtain ⟨W0, hW0⟩ : ∃ W0, W0 = w.alloc (.cells (cells9 M.c qR qP qT qH) 29) := ⟨_, rfl⟩
  have a0 : Le w W0 := by rw [hW0]; exact Le.alloc _ _
  have b0 : Box W0 w.heap.size (cells9 M.c qR qP qT qH) 29 := by rw [hW0]; exact Box.new _ _ _
  have s0 : W0.heap.size = w.heap.size + 1 := by rw [hW0, World.size_alloc]
  have hb := (b0.le (Le.alloc _ (.cells #[.int .i64 r] 3))).le (Le.alloc _ (.cells #[.int .i64 g] 3))
  have hr := (Box.new W0 #[.int .i64 r] 3).le (Le.alloc _ (.cells #[.int .i64 g] 3))
  have hg := Box.new (W0.alloc (.cells #[.int .i64 r] 3)) #[.int .i64 g] 3
  have hl := (a0.trans (Le.alloc W0 (.cells #[.int .i64 r] 3))).trans (Le.alloc _ (.cells #[.int .i64 g] 3))
  rw [World.size_alloc] at hg
  rw [s0] at hr hg
  rw [hW0] at hb hr hg hl
  clear b0 a0 s0 hW0 W0
  cases h1 : atRG M r g
  · have hP : waitM M r g = ([], 1600) := by unfold waitM; rw [atRG_zero, h1]; rfl
    rw [hP]
    simp only [h1] at m1
    clear h1
    go_enter Tryz.func21, Tryz.ntmps21
    go_upto_region 1 with fail
    generalize hW : ((w.alloc (.cells (cells9 M.c qR qP qT qH) 29)).alloc (.cells #[.int .i64 r] 3)).alloc (.cells #[.int .i64 g] 3) = W at hl hb hr hg ⊢
    clear hW
    have r0 := hr.cell 0
    have g0 := hg.cell 0
    simp only [List.getElem?_toArray, List.getElem?_cons_zero] at r0 g0
    obtain ⟨⟨z0, z1, z2, z3, z4⟩, z5, z6, z7, z8⟩ := (hb).mach
    go_wp2_with fail
    refine (m1 _ hl).mono ?_
    rintro e w1 ⟨rfl, l1⟩
    go_wp2_with fail
    refine bodyPost_ret (v := .tuple #[.slice none 0 0, .int .i64 1600]) (by simp [results, Tryz.results21, go_sem]) rfl ⟨slZ, rfl, Own.nil _ _, hl.trans l1⟩
  · have hmay : mayM M = true := by unfold atRG at h1; simp only [Bool.and_eq_true] at h1; exact h1.1
    obtain ⟨_, _, hts, _⟩ := mayM_lens hmay
    obtain ⟨_, _, _, ⟨_, t3⟩, _, _⟩ := Cfg.ok_cases (mayM_ok hmay)
    have hP : waitM M r g = (whichL (waitsB M r g) M.ts.length, 0) := by
      unfold waitM
      rw [atRG_zero, h1, show M.ts.length = M.c.t.toNat by omega]
      rfl
    rw [hP]
    simp only [h1] at m1
    have m3 := fun W (l : Le w W) (bm : Box W w.heap.size (cells9 M.c qR qP qT qH) 29) (br : Box W (w.heap.size + 1) #[.int .i64 r] 3) (bg : Box W (w.heap.size + 1 + 1) #[.int .i64 g] 3) =>
      listsWhich 48 (.pointer (some ⟨w.heap.size, 0, none⟩)) (.pointer (some ⟨w.heap.size + 1, 0, none⟩)) (.pointer (some ⟨w.heap.size + 1 + 1, 0, none⟩)) (waitsB M r g) (fun _ _ _ => by kernel_rfl) (slV qT) M.ts W
        (fun w' l' k u hk hu => by obtain ⟨qb, qt, rfl, _, _⟩ := hu; exact boardWaits M r g k _ _ _ qR qP qT qH qb qt w' hmay hk (bm.le l') (br.le l') (bg.le l')) (hT.le l) (by omega)
    clear h1 hts t3 hP hmay hT
    go_enter Tryz.func21, Tryz.ntmps21
    go_upto_region 1 with fail
    generalize hW : ((w.alloc (.cells (cells9 M.c qR qP qT qH) 29)).alloc (.cells #[.int .i64 r] 3)).alloc (.cells #[.int .i64 g] 3) = W at hl hb hr hg ⊢
    clear hW
    have r0 := hr.cell 0
    have g0 := hg.cell 0
    simp only [List.getElem?_toArray, List.getElem?_cons_zero] at r0 g0
    obtain ⟨⟨z0, z1, z2, z3, z4⟩, z5, z6, z7, z8⟩ := (hb).mach
    go_wp2_with fail
    refine (m1 _ hl).mono ?_
    rintro e w1 ⟨rfl, l1⟩
    clear z0 z1 z2 z3 z4 z5 z6 z7 z8
    clear r0 g0
    replace hl := hl.trans l1
    replace hb := hb.le l1
    have m4 := m3 _ hl hb (hr.le l1) (hg.le l1)
    clear m3
    obtain ⟨⟨z0, z1, z2, z3, z4⟩, z5, z6, z7, z8⟩ := (hb).mach
    go_wp2_with fail
    refine m4.mono ?_
    rintro e w2 ⟨q, rfl, o, l2⟩
    go_wp2_with fail
    refine bodyPost_ret (v := .tuple #[slV q, .int .i64 0]) (by simp [results, Tryz.results21, go_sem]) rfl ⟨q, rfl, o.base hl.size, hl.trans l2⟩

end Go.Proofs.YtkddgpdlpjjpbaaGreat

/-
  THE WALKS over package board's Post and Waiting and the document's, their answers written out. Condition: that the machine's rows can be copied.
-/
namespace Go.Proofs.YtkddgpdlpjjpbaaGreat
open Go.RowKit

theorem boardPostAs {M N : Mc} {t er : Int} (h : postM M t = (N, er)) (v : Value) (w : World) (hx : HasM w v M) (hf : FitM M) : Calls Tryz.prog 19 #[v, .int .i64 t] w fun e w' => ∃ qR qP qT qH, e = .returned (.tuple #[machV N.c qR qP qT qH, .int .i64 er]) ∧ OwnA w' w.heap.size (machV N.c qR qP qT qH) N ∧ Le w w' := by
  have := boardPost v M t w hx hf
  rw [h] at this
  refine this.mono ?_
  rintro e w' ⟨v', rfl, o, l⟩
  obtain ⟨qR, qP, qT, qH, rfl⟩ := o.open
  exact ⟨_, _, _, _, rfl, o, l⟩
theorem rmPostAs {M N : Mc} {t er : Int} (h : postM M t = (N, er)) (v : Value) (w : World) (hx : HasM w v M) (hf : FitM M) : Calls Tryz.prog 20 #[v, .int .i64 t] w fun e w' => ∃ qR qP qT qH, e = .returned (.tuple #[machV N.c qR qP qT qH, .int .i64 er]) ∧ OwnA w' w.heap.size (machV N.c qR qP qT qH) N ∧ Le w w' := by
  have := rmPost v M t w hx hf
  rw [h] at this
  refine this.mono ?_
  rintro e w' ⟨v', rfl, o, l⟩
  obtain ⟨qR, qP, qT, qH, rfl⟩ := o.open
  exact ⟨_, _, _, _, rfl, o, l⟩
theorem boardWaitAs {M : Mc} {r g er : Int} {xs : List Int} (h : waitM M r g = (xs, er)) (v : Value) (w : World) (hx : HasM w v M) (hf : FitM M) : Calls Tryz.prog 21 #[v, .int .i64 r, .int .i64 g] w fun e w' => ∃ a c, e = .returned (.tuple #[.slice a xs.length c, .int .i64 er]) ∧ Own w' w.heap.size (.slice a xs.length c) xs ∧ Le w w' := by
  have := boardWaiting v M r g w hx hf
  rw [h] at this
  refine this.mono ?_
  rintro e w' ⟨⟨a, n, c⟩, rfl, o, l⟩
  have hn : n = xs.length := o.has.len
  subst hn
  exact ⟨a, c, rfl, o, l⟩
theorem rmWaitAs {M : Mc} {r g er : Int} {xs : List Int} (h : waitM M r g = (xs, er)) (v : Value) (w : World) (hx : HasM w v M) (hf : FitM M) : Calls Tryz.prog 22 #[v, .int .i64 r, .int .i64 g] w fun e w' => ∃ a c, e = .returned (.tuple #[.slice a xs.length c, .int .i64 er]) ∧ Own w' w.heap.size (.slice a xs.length c) xs ∧ Le w w' := by
  have := rmWaiting v M r g w hx hf
  rw [h] at this
  refine this.mono ?_
  rintro e w' ⟨⟨a, n, c⟩, rfl, o, l⟩
  have hn : n = xs.length := o.has.len
  subst hn
  exact ⟨a, c, rfl, o, l⟩

end Go.Proofs.YtkddgpdlpjjpbaaGreat

/-
  THE WALK over choruslaw16's awake. No condition.
-/
namespace Go.Proofs.YtkddgpdlpjjpbaaGreat
open Go.RowKit

set_option maxRecDepth 8000 in
set_option maxHeartbeats 4000000 in
theorem lawAwake16 (w : World) : Calls Tryz.prog 25 #[] w fun e w' => e = .returned (.bool true) ∧ Le w w' := by
  have hl := Le.refl w
  go_enter Tryz.func25, Tryz.ntmps25
  go_upto_region 1 with fail
  go_wp2_with fail
  refine (called16 _).mono ?_
  rintro e w0 ⟨pR, pP, pT, pH, rfl, o0, l0⟩
  go_wp2_with fail
  refine (boardPostAs bo_1 _ _ o0.has cld_fit).mono ?_
  rintro e w1 ⟨aR, aP, aT, aH, rfl, oA, l1⟩
  obtain ⟨xR, xP, bT, oT, cT, xH, hv, c8⟩ := bo_open oA.has
  have hbc : bo1.c = begC := rfl
  rw [hbc] at hv oA ⊢
  rw [hv] at oA ⊢
  clear hv hbc aR aP aT aH o0
  obtain ⟨xT, hxT⟩ : ∃ q : Sl, q = (some ⟨bT, oT, none⟩, 4, cT) := ⟨_, rfl⟩
  rw [← hxT] at oA ⊢
  have HXT : Hid (xT = (some ⟨bT, oT, none⟩, 4, cT)) := hxT
  clear hxT
  replace hl := (hl.trans l0).trans l1
  clear l0 l1
  have hbA := Box.new w1 (cells9 begC xR xP xT xH) 29
  have a1 := Le.alloc w1 (.cells (cells9 begC xR xP xT xH) 29)
  go_upto_region 2 with fail
  generalize hW1 : w1.alloc (.cells (cells9 begC xR xP xT xH) 29) = W1 at hbA a1 ⊢
  clear hW1
  have hggA : w1.heap.size ≤ w1.heap.size := Nat.le_refl _
  generalize hgg : w1.heap.size = gA at hbA hggA ⊢
  have hsgA : w1.heap.size ≤ gA := by omega
  clear hgg hggA
  replace hl := hl.trans a1
  replace oA := oA.le a1
  replace c8 := cell_le c8 a1
  clear a1
  have hA := oA.has
  clear oA
  obtain ⟨⟨z0, z1, z2, z3, z4⟩, z5, z6, z7, z8⟩ := (hbA).mach
  go_wp2_with fail
  refine (boardWaitAs bo_2 _ _ hA bo_fit).mono ?_
  rintro e w2 ⟨y2, d2, rfl, o2, l2⟩
  have x2 := o2.has
  clear z0 z1 z2 z3 z4 z5 z6 z7 z8
  replace hl := hl.trans l2
  replace hbA := hbA.le l2
  replace hA := hA.le l2
  replace c8 := cell_le c8 l2
  clear l2 o2
  obtain ⟨⟨z0, z1, z2, z3, z4⟩, z5, z6, z7, z8⟩ := (hbA).mach
  go_wp2_with fail
  refine (boardWaitAs bo_3 _ _ hA bo_fit).mono ?_
  rintro e w3 ⟨y3, d3, rfl, _, l3⟩
  clear z0 z1 z2 z3 z4 z5 z6 z7 z8
  clear hA
  replace hl := hl.trans l3
  replace hbA := hbA.le l3
  replace c8 := cell_le c8 l3
  replace x2 := x2.le l3
  clear l3
  go_wp2_with fail
  refine (begun16 _).mono ?_
  rintro e w4 ⟨pR, pP, pT, pH, rfl, o4, l4⟩
  go_wp2_with fail
  refine (boardPostAs bo_4 _ _ o4.has beg_fit).mono ?_
  rintro e w5 ⟨uR, uP, uT, uH, rfl, _, l5⟩
  replace l4 := l4.trans l5
  clear o4 l5
  replace hl := hl.trans l4
  replace hbA := hbA.le l4
  replace c8 := cell_le c8 l4
  replace x2 := x2.le l4
  clear l4
  have hbD := Box.new w5 (cells9 Mc.zero.c uR uP uT uH) 29
  have a1 := Le.alloc w5 (.cells (cells9 Mc.zero.c uR uP uT uH) 29)
  go_upto_region 5 with fail
  generalize hW1 : w5.alloc (.cells (cells9 Mc.zero.c uR uP uT uH) 29) = W5 at hbD a1 ⊢
  clear hW1
  have hggD : w5.heap.size ≤ w5.heap.size := Nat.le_refl _
  generalize hgg : w5.heap.size = gD at hbD hggD ⊢
  have hsgD : w5.heap.size ≤ gD := by omega
  clear hgg hggD
  replace hl := hl.trans a1
  replace hbA := hbA.le a1
  replace c8 := cell_le c8 a1
  replace x2 := x2.le a1
  clear a1 hbD
  go_wp2_with fail
  refine (begun16 _).mono ?_
  rintro e w6 ⟨pR, pP, pT, pH, rfl, o6, l6⟩
  go_wp2_with fail
  refine (boardWaitAs bo_5 _ _ o6.has beg_fit).mono ?_
  rintro e w7 ⟨y7, d7, rfl, _, l7⟩
  replace l6 := l6.trans l7
  clear o6 l7
  replace hl := hl.trans l6
  replace hbA := hbA.le l6
  replace c8 := cell_le c8 l6
  replace x2 := x2.le l6
  clear l6
  have hlit := (Own.lit w7 w7.heap.size (Nat.le_refl _) [0] (by simp)).has
  have hs1 := lawSameInts _ _ [0] [0] _ (x2.le (Le.alloc _ _)) hlit (by simp)
  simp only [decide_true, List.length_cons, List.length_nil, List.map_cons, List.map_nil, Nat.zero_add] at hs1
  clear hlit x2
  obtain ⟨⟨z0, z1, z2, z3, z4⟩, z5, z6, z7, z8⟩ := (hbA).mach
  rw [HXT.out] at z7
  simp only [slV] at z7
  go_wp2_with (first | (go_at_call 15; refine (lawNum _ _).mono ?_; rintro e _ ⟨rfl, rfl⟩) | (go_at_call 23; refine Calls.mono hs1 ?_; rintro e _ ⟨rfl, n8, rfl⟩))
  go_ret
  exact ⟨rfl, (hl.trans (Le.alloc _ _)).trans (Le.drewN _ _)⟩

end Go.Proofs.YtkddgpdlpjjpbaaGreat

/-
  PLAIN GROUND, NO WALK: what of a machine may be turned so that it may be still. No condition.
-/
namespace Go.Proofs.YtkddgpdlpjjpbaaGreat
open Go.RowKit

structure MayP (M : Mc) : Prop where
  ok : M.c.ok = true
  lr : (M.rs.length : Int) = M.c.l
  rs : ∀ R ∈ M.rs, ringB M.c R = true
  lp : (M.ps.length : Int) = M.c.r
  ps : ∀ P ∈ M.ps, repB M.c M.rs P = true
  lt : (M.ts.length : Int) = M.c.t
  ts : ∀ T ∈ M.ts, thB M.c T = true
  le : (M.es.length : Int) ≤ 64
  es : ∀ E ∈ M.es, evB M.c E = true
theorem mayM_iff {M : Mc} : mayM M = true ↔ MayP M := by
  constructor
  · intro h
    obtain ⟨a, b, c, d⟩ := mayM_lens h
    exact ⟨mayM_ok h, a, mayM_rs h, b, mayM_ps h, c, mayM_ts h, d, mayM_es h⟩
  · intro h
    unfold mayM
    simp only [Bool.and_eq_true, decide_eq_true_eq, List.all_eq_true]
    exact ⟨h.ok, ⟨h.lr, h.rs⟩, ⟨h.lp, h.ps⟩, ⟨h.lt, h.ts⟩, h.le, h.es⟩
theorem thB_yes {c : Cfg} {T : Th} (h1 : 0 ≤ T.st ∧ T.st ≤ 19) (h2 : opMay T.c T.r T.a = true) (h3 : 0 ≤ T.lg ∧ T.lg ≤ c.l - 1) (h4 : 0 ≤ T.sn ∧ T.sn ≤ 1048576) (h5 : (T.b.length : Int) ≤ c.t) (h6 : ∀ x ∈ T.b, 0 ≤ x ∧ x ≤ c.t - 1) (h7 : 0 ≤ T.pl ∧ T.pl ≤ T.b.length) (h8 : (T.tl.length : Int) ≤ c.l) (h9 : ∀ x ∈ T.tl, 0 ≤ x ∧ x ≤ 1048576) : thB c T = true := by
  unfold thB
  simp only [Bool.and_eq_true, decide_eq_true_eq, List.all_eq_true]
  exact ⟨inB_yes h1.1 h1.2, h2, inB_yes h3.1 h3.2, inB_yes h4.1 h4.2, ⟨h5, fun x hx => inB_yes (h6 x hx).1 (h6 x hx).2⟩, inB_yes h7.1 h7.2, h8, fun x hx => inB_yes (h9 x hx).1 (h9 x hx).2⟩
theorem repB_yes {c : Cfg} {Rs : List Rg} {P : Rp} (h1 : objMay c.o P.s = true) (h2 : (P.cs.length : Int) = c.l) (h3 : cursOK Rs P.cs = true) (h4 : (P.ls.length : Int) = c.l) (h5 : ∀ x ∈ P.ls, 0 ≤ x ∧ x ≤ c.t) : repB c Rs P = true := by
  unfold repB
  simp only [Bool.and_eq_true, decide_eq_true_eq, List.all_eq_true]
  exact ⟨h1, h2, h3, h4, fun x hx => inB_yes (h5 x hx).1 (h5 x hx).2⟩
theorem ringB_yes {c : Cfg} {R : Rg} (h1 : mayR R = true) (h2 : (R.ss.length : Int) = c.s) (h3 : 0 ≤ R.f ∧ R.f ≤ c.t) (h4 : ∀ s ∈ R.ss, 0 ≤ s.t ∧ s.t ≤ c.t - 1) : ringB c R = true := by
  unfold ringB
  simp only [Bool.and_eq_true, decide_eq_true_eq, List.all_eq_true]
  exact ⟨h1, h2, inB_yes h3.1 h3.2, fun x hx => inB_yes (h4 x hx).1 (h4 x hx).2⟩
theorem mayM_putT {M : Mc} (h : mayM M = true) {t : Int} {x : Th} (hx : thB M.c x = true) : mayM (M.putT t x) = true := by
  obtain ⟨a, b, c, d, e, f, g, i, j⟩ := mayM_iff.1 h
  refine mayM_iff.2 ⟨a, b, c, d, e, by simpa [Mc.putT] using f, fun T hT => ?_, i, j⟩
  rcases List.mem_or_eq_of_mem_set hT with hT | rfl
  · exact g T hT
  · exact hx
theorem mayM_putP {M : Mc} (h : mayM M = true) {r : Int} {x : Rp} (hx : repB M.c M.rs x = true) : mayM (M.putP r x) = true := by
  obtain ⟨a, b, c, d, e, f, g, i, j⟩ := mayM_iff.1 h
  refine mayM_iff.2 ⟨a, b, c, by simpa [Mc.putP] using d, fun P hP => ?_, f, g, i, j⟩
  rcases List.mem_or_eq_of_mem_set hP with hP | rfl
  · exact e P hP
  · exact hx
theorem cursOK_yes {Rs : List Rg} {cs : List Int} (h : ∀ k, k < cs.length → (Rs.getD k Rg.zero).h ≤ cs.getD k 0 ∧ cs.getD k 0 ≤ (Rs.getD k Rg.zero).t) : cursOK Rs cs = true := by
  unfold cursOK
  simp only [List.all_eq_true, List.mem_range]
  exact fun k hk => inB_yes (h k hk).1 (h k hk).2
theorem mayM_putR {M : Mc} (h : mayM M = true) {g : Nat} {x : Rg} (hx : ringB M.c x = true) (hc : ∀ P ∈ M.ps, g < P.cs.length → x.h ≤ P.cs.getD g 0 ∧ P.cs.getD g 0 ≤ x.t) : mayM (M.putR g x) = true := by
  obtain ⟨a, b, c, d, e, f, gg, i, j⟩ := mayM_iff.1 h
  refine mayM_iff.2 ⟨a, by simpa [Mc.putR] using b, fun R hR => ?_, d, fun P hP => ?_, f, gg, i, j⟩
  · rcases List.mem_or_eq_of_mem_set hR with hR | rfl
    · exact c R hR
    · exact hx
  · obtain ⟨p1, p2, p3, p4, p5⟩ := repB_cases (e P hP)
    refine repB_yes p1 p2 (cursOK_yes fun k hk => ?_) p4 p5
    simp only [Mc.putR, Int.toNat_natCast]
    rcases Nat.lt_or_ge g M.rs.length with hg | hg
    · rw [getD_set _ _ _ _ _ hg]
      by_cases ek : k = g
      · subst ek
        rw [if_pos rfl]
        exact hc P hP hk
      · rw [if_neg ek]
        exact cursOK_at p3 hk
    · rw [List.set_eq_of_length_le hg]
      exact cursOK_at p3 hk
theorem th_in {M : Mc} {t : Int} (ht : 0 ≤ t ∧ t.toNat < M.ts.length) : M.th t ∈ M.ts := getD_mem ht.2
/-- A thread that is idle may be. -/
theorem thB_zero {c : Cfg} (h : c.ok = true) : thB c Th.zero = true := by
  obtain ⟨_, _, ⟨l0, _⟩, ⟨t0, _⟩, _, _⟩ := Cfg.ok_cases h
  exact thB_yes (by decide) (by decide) (by simp [Th.zero]; omega) (by decide) (by simp [Th.zero]; omega) (by simp [Th.zero]) (by simp [Th.zero]) (by simp [Th.zero]; omega) (by simp [Th.zero])
theorem th_may {M : Mc} (h : mayM M = true) (t : Int) : thB M.c (M.th t) = true := by
  unfold Mc.th
  rcases Nat.lt_or_ge t.toNat M.ts.length with ht | ht
  · exact mayM_ts h _ (getD_mem ht)
  · rw [getD_out ht]; exact thB_zero (mayM_ok h)
theorem mayM_step {M : Mc} (h : mayM M = true) (t : Int) {st : Int} (hs : 0 ≤ st ∧ st ≤ 19) : mayM (stepM M t st) = true := by
  obtain ⟨_, b, c, d, e, f, g, i, j⟩ := thB_cases (th_may h t)
  exact mayM_putT h (thB_yes hs b c d e f g i j)
theorem mayM_setLock {M : Mc} (h : mayM M = true) {r g x : Int} (hr : 0 ≤ r ∧ r ≤ M.c.r - 1) (hx : 0 ≤ x ∧ x ≤ M.c.t) : mayM (M.putP r ((M.rp r).setLock g x)) = true := by
  obtain ⟨_, hps, _, _⟩ := mayM_lens h
  obtain ⟨p1, p2, p3, p4, p5⟩ := repB_cases (mayM_ps h (M.rp r) (getD_mem (by omega)))
  refine mayM_putP h (repB_yes p1 p2 p3 (by simpa [Rp.setLock] using p4) fun y hy => ?_)
  rcases List.mem_or_eq_of_mem_set hy with hy | rfl
  · exact p5 y hy
  · exact hx
theorem mayM_try {M : Mc} {r g t : Int} (h : thereB M r g t = true) : mayM (tryM M r g t).1 = true := by
  obtain ⟨hm, hr, hg, ht⟩ := thereB_cases h
  unfold tryM
  rw [if_pos h]
  split
  · exact mayM_setLock hm hr (by omega)
  · exact hm
theorem mayM_free {M : Mc} {r g : Int} (h : thereB M r g 0 = true) : mayM (freeM M r g).1 = true := by
  obtain ⟨hm, hr, hg, ht⟩ := thereB_cases h
  unfold freeM
  rw [if_pos h]
  obtain ⟨_, _, _, ⟨t0, _⟩, _⟩ := Cfg.ok_cases (mayM_ok hm)
  exact mayM_setLock hm hr (by omega)
theorem mayM_post {M : Mc} {t : Int} (h : thereB M 0 0 t = true) : mayM (postM M t).1 = true := by
  obtain ⟨hm, _, _, _⟩ := thereB_cases h
  unfold postM
  rw [if_pos h]
  obtain ⟨a, b, c, d, e, f, g, i, j⟩ := thB_cases (th_may hm t)
  exact mayM_putT hm (thB_yes a b c d e f g i j)

end Go.Proofs.YtkddgpdlpjjpbaaGreat

/-
  THE WALK over the law BoardAlone: it answers true and turns nothing that was there, for every machine and thread. Condition: that the machine's rows can be copied.
-/
namespace Go.Proofs.YtkddgpdlpjjpbaaGreat
open Go.RowKit

theorem Mc.putT_th (M : Mc) (t : Int) (x : Th) (h : t.toNat < M.ts.length) : (M.putT t x).th t = x := by
  unfold Mc.putT Mc.th
  simp [List.getD, h]
theorem Mc.putT_put (M : Mc) (t : Int) (x y : Th) : (M.putT t x).putT t y = M.putT t y := by
  unfold Mc.putT
  simp
theorem Mc.putT_same (M : Mc) (t : Int) (h : t.toNat < M.ts.length) : M.putT t (M.th t) = M := by
  unfold Mc.putT Mc.th
  rw [List.getD_eq_getElem?_getD, List.getElem?_eq_getElem h]
  simp

set_option maxRecDepth 8000 in
set_option maxHeartbeats 4000000 in
theorem lawBoardAlone (w : World) (v : Value) (M : Mc) (hx : HasM w v M) (hf : FitM M) (t : Int) : Calls Tryz.prog 8 #[v, .int .i64 t] w fun e w' => e = .returned (.bool true) ∧ Le w w' := by
  cases h1 : thereB M 0 0 t
  · have hP : postM M t = (Mc.zero, 1600) := by unfold postM; rw [h1]; rfl
    have t1 := fun v w' (h : HasM w' v M) => boardPostAs hP v w' h hf
    have m2 := fun v w' (h : HasM w' v M) => rmMay v M w' h hf
    rw [atT_there] at h1
    have hx0 := hx
    obtain ⟨qR, qP, ⟨kT, nT, cT⟩, qH, rfl, _, _, hT, _⟩ := hx
    have hn : nT = M.ts.length := hT.len
    subst hn
    have hb0 := Box.new w (cells9 M.c qR qP (kT, M.ts.length, cT) qH) 29
    have hl := Le.alloc w (.cells (cells9 M.c qR qP (kT, M.ts.length, cT) qH) 29)
    go_enter Tryz.func8, Tryz.ntmps8
    go_upto_region 1 with fail
    generalize hW : w.alloc (.cells (cells9 M.c qR qP (kT, M.ts.length, cT) qH) 29) = W at hl hb0 ⊢
    clear hW hT hP
    go_wp2_with fail
    refine (lawAwake16 _).mono ?_
    rintro e w0 ⟨rfl, l0⟩
    replace hb0 := hb0.le l0
    replace hl := hl.trans l0
    clear l0
    obtain ⟨⟨y0, y1, y2, y3, y4⟩, y5, y6, y7, y8⟩ := (hb0).mach
    go_wp2_with fail
    refine (t1 _ _ (hx0.le hl)).mono ?_
    rintro e w1 ⟨aR, aP, aT, aH, rfl, oA, l1⟩
    clear y0 y1 y2 y3 y4 y5 y6 y7 y8
    replace hb0 := hb0.le l1
    replace hl := hl.trans l1
    clear l1 t1
    have hbA := Box.new w1 (cells9 Mc.zero.c aR aP aT aH) 29
    have a1 := Le.alloc w1 (.cells (cells9 Mc.zero.c aR aP aT aH) 29)
    go_upto_region 4 with fail
    generalize hW1 : w1.alloc (.cells (cells9 Mc.zero.c aR aP aT aH) 29) = W1 at hbA a1 ⊢
    clear hW1
    have hggA : w1.heap.size ≤ w1.heap.size := Nat.le_refl _
    generalize hgg : w1.heap.size = gA at hbA hggA ⊢
    have hsgA : w1.heap.size ≤ gA := by omega
    clear hgg hggA
    replace hl := hl.trans a1
    replace hb0 := hb0.le a1
    replace oA := oA.le a1
    clear a1
    go_wp2_with fail
    refine (lawNum _ _).mono ?_
    rintro e _ ⟨rfl, rfl⟩
    have s1 := lawSameMachine _ _ Mc.zero Mc.zero W1 oA.has (HasM.zero W1) fitM_zero
    simp only [decide_true] at s1
    obtain ⟨⟨y0, y1, y2, y3, y4⟩, y5, y6, y7, y8⟩ := (hbA).mach
    go_wp2_with fail
    refine s1.mono ?_
    rintro e w2 ⟨rfl, l2⟩
    clear y0 y1 y2 y3 y4 y5 y6 y7 y8
    replace hb0 := hb0.le l2
    replace hl := hl.trans l2
    clear l2 s1 hbA oA
    have m3 := m2 _ _ (hx0.le hl)
    clear m2
    cases h2 : mayM M
    · rw [h2] at m3
      clear h1 h2
      obtain ⟨⟨y0, y1, y2, y3, y4⟩, y5, y6, y7, y8⟩ := (hb0).mach
      go_wp2_with fail
      refine m3.mono ?_
      rintro e w3 ⟨rfl, l3⟩
      go_wp2_with fail
      go_ret
      exact ⟨rfl, hl.trans l3⟩
    · rw [h2] at m3 h1
      obtain ⟨_, _, hts, _⟩ := mayM_lens h2
      have ho : t < 0 ∨ (M.ts.length : Int) ≤ t := by
        rcases inB_no h1 with h | h <;> omega
      clear h1 h2 hts
      rcases ho with ho | ho
      ·
        obtain ⟨⟨y0, y1, y2, y3, y4⟩, y5, y6, y7, y8⟩ := (hb0).mach
        go_wp2_with fail
        refine m3.mono ?_
        rintro e w3 ⟨rfl, l3⟩
        clear y0 y1 y2 y3 y4 y5 y6 y7 y8
        obtain ⟨⟨y0, y1, y2, y3, y4⟩, y5, y6, y7, y8⟩ := (hb0.le l3).mach
        go_wp2_with fail
        go_ret
        exact ⟨rfl, hl.trans l3⟩
      · have h0 : 0 ≤ t := by omega
        obtain ⟨⟨y0, y1, y2, y3, y4⟩, y5, y6, y7, y8⟩ := (hb0).mach
        go_wp2_with fail
        refine m3.mono ?_
        rintro e w3 ⟨rfl, l3⟩
        clear y0 y1 y2 y3 y4 y5 y6 y7 y8
        obtain ⟨⟨y0, y1, y2, y3, y4⟩, y5, y6, y7, y8⟩ := (hb0.le l3).mach
        simp only [slV] at y7
        go_wp2_with fail
        go_ret
        exact ⟨rfl, hl.trans l3⟩
  · have hmN : mayM (postM M t).1 = true := mayM_post h1
    have fN : FitM (postM M t).1 := fitM_post hf t
    have hP : postM M t = (M.putT t { M.th t with po := true, re := false }, 0) := by unfold postM; rw [h1]; rfl
    rw [hP] at hmN fN
    obtain ⟨hmay, _, _, ⟨t0, t1'⟩⟩ := thereB_cases h1
    obtain ⟨_, _, hts, _⟩ := mayM_lens hmay
    obtain ⟨t, rfl⟩ : ∃ n : Nat, t = n := ⟨t.toNat, by omega⟩
    have hti : t < M.ts.length := by omega
    obtain ⟨N1, hN1⟩ : ∃ N1, N1 = M.putT t { M.th t with po := true, re := false } := ⟨_, rfl⟩
    rw [← hN1] at hmN fN hP
    have HN : Hid (N1.putT t { N1.th t with po := (M.th t).po, re := (M.th t).re } = M) := by
      show N1.putT t { N1.th t with po := (M.th t).po, re := (M.th t).re } = M
      rw [hN1, Mc.putT_th _ _ _ (by rw [Int.toNat_natCast]; exact hti), Mc.putT_put]
      exact Mc.putT_same _ _ (by rw [Int.toNat_natCast]; exact hti)
    have hN3 : N1.ts.getD t Th.zero = { M.th t with po := true, re := false } := by
      have := Mc.putT_th M t { M.th t with po := true, re := false } (by rw [Int.toNat_natCast]; exact hti)
      rw [← hN1] at this
      rw [Mc.th_nat] at this
      exact this
    have hN2 : N1.ts.length = M.ts.length := by rw [hN1]; simp [Mc.putT]
    have t1 := fun v w' (h : HasM w' v M) => boardPostAs hP v w' h hf
    have m2 := fun v w' (h : HasM w' v N1) => lawCopyMachine v N1 w' h fN
    clear hN1 hP h1 hts t0 t1'
    have hx0 := hx
    obtain ⟨bR, oR, cR, bP, oP, cP, bT, oT, cT, qH, rfl, _, _, hcT, _⟩ := hx.opens hmay
    obtain ⟨qb, qt, hat, _, _⟩ := hcT t hti
    have hth : M.ts.getD t Th.zero = M.th t := (Mc.th_nat M t).symm
    rw [hth] at hat
    obtain ⟨T, hT⟩ : ∃ T, T = M.th t := ⟨_, rfl⟩
    have HT : Hid (T = M.th t) := hT
    rw [← hT] at hat hN3
    obtain ⟨_, _, _, _, _, _, _, _, k8, k9, _, _⟩ := hat
    obtain ⟨nT, hnT⟩ : ∃ n, n = M.ts.length := ⟨_, rfl⟩
    have hti' : (t : Int) < (nT : Int) := by omega
    have hln : nT ≤ 4611686018427387904 := by have := hf.ts; omega
    have HLN : Hid (nT = M.ts.length) := hnT
    rw [← hnT] at hx0
    have HHX : Hid (HasM w (machV M.c (some ⟨bR, oR, none⟩, M.rs.length, cR) (some ⟨bP, oP, none⟩, M.ps.length, cP) (some ⟨bT, oT, none⟩, nT, cT) qH) M) := hx0
    have hb0 := Box.new w (cells9 M.c (some ⟨bR, oR, none⟩, M.rs.length, cR) (some ⟨bP, oP, none⟩, M.ps.length, cP) (some ⟨bT, oT, none⟩, nT, cT) qH) 29
    have hl := Le.alloc w (.cells (cells9 M.c (some ⟨bR, oR, none⟩, M.rs.length, cR) (some ⟨bP, oP, none⟩, M.ps.length, cP) (some ⟨bT, oT, none⟩, nT, cT) qH) 29)
    rw [← hnT]
    rw [← hnT] at hN2
    clear hth hT hnT hcT
    go_enter Tryz.func8, Tryz.ntmps8
    go_upto_region 1 with fail
    generalize hW : w.alloc (.cells (cells9 M.c (some ⟨bR, oR, none⟩, M.rs.length, cR) (some ⟨bP, oP, none⟩, M.ps.length, cP) (some ⟨bT, oT, none⟩, nT, cT) qH) 29) = W at hl hb0 ⊢
    clear hW
    go_wp2_with fail
    refine (lawAwake16 _).mono ?_
    rintro e w0 ⟨rfl, l0⟩
    replace hb0 := hb0.le l0
    replace hl := hl.trans l0
    clear l0
    obtain ⟨⟨y0, y1, y2, y3, y4⟩, y5, y6, y7, y8⟩ := (hb0).mach
    go_wp2_with fail
    refine (t1 _ _ (hx0.le hl)).mono ?_
    rintro e w1 ⟨aR, aP, aT, aH, rfl, oA, l1⟩
    clear y0 y1 y2 y3 y4 y5 y6 y7 y8
    replace hb0 := hb0.le l1
    replace hl := hl.trans l1
    clear l1 t1
    have hA := oA.has
    clear oA
    obtain ⟨dR, pR, eR, dP, pP, eP, dT, pT, eT, rH, hv, _, _, hdT, _⟩ := hA.opens hmN
    rw [hv] at hA ⊢
    clear hv aR aP aT aH
    obtain ⟨qb2, qt2, hat2, _, _⟩ := hdT t (by omega)
    rw [hN3] at hat2
    clear hdT hN3
    rw [hN2] at hA ⊢
    obtain ⟨aR, hxR⟩ : ∃ q : Sl, q = (some ⟨dR, pR, none⟩, N1.rs.length, eR) := ⟨_, rfl⟩
    obtain ⟨aP, hxP⟩ : ∃ q : Sl, q = (some ⟨dP, pP, none⟩, N1.ps.length, eP) := ⟨_, rfl⟩
    obtain ⟨aT, hxT⟩ : ∃ q : Sl, q = (some ⟨dT, pT, none⟩, nT, eT) := ⟨_, rfl⟩
    rw [← hxR, ← hxP, ← hxT] at hA ⊢
    have HXT : Hid (aT = (some ⟨dT, pT, none⟩, nT, eT)) := hxT
    clear hxR hxP hxT
    obtain ⟨aH, haH⟩ : ∃ q : Sl, q = rH := ⟨_, rfl⟩
    rw [← haH] at hA ⊢
    clear haH
    have hbA := Box.new w1 (cells9 N1.c aR aP aT aH) 29
    have a1 := Le.alloc w1 (.cells (cells9 N1.c aR aP aT aH) 29)
    go_upto_region 4 with fail
    generalize hW1 : w1.alloc (.cells (cells9 N1.c aR aP aT aH) 29) = W1 at hbA a1 ⊢
    clear hW1
    have hggA : w1.heap.size ≤ w1.heap.size := Nat.le_refl _
    generalize hgg : w1.heap.size = gA at hbA hggA ⊢
    have hsgA : w1.heap.size ≤ gA := by omega
    clear hgg hggA
    replace hl := hl.trans a1
    replace hb0 := hb0.le a1
    replace hA := hA.le a1
    replace hat2 := hat2.le a1
    clear a1
    go_wp2_with fail
    refine (lawNum _ _).mono ?_
    rintro e _ ⟨rfl, rfl⟩
    have hge : ¬ (t : Int) < 0 := by omega
    obtain ⟨m0, m1, m2', m3, m4, m5, m6, m7, m8, m9, m10, m11⟩ := hat2
    obtain ⟨⟨y0, y1, y2, y3, y4⟩, y5, y6, y7, y8⟩ := (hbA).mach
    rw [HXT.out] at y7
    simp only [slV] at y7
    obtain ⟨⟨z0, z1, z2, z3, z4⟩, z5, z6, z7, z8⟩ := (hb0).mach
    simp only [slV] at z7
    go_upto_region 8 with fail
    have hbx := Box.new W1 (cellsT { T with po := true, re := false } qb2 qt2) 63
    have ax := Le.alloc W1 (.cells (cellsT { T with po := true, re := false } qb2 qt2) 63)
    go_upto_region 9 with fail
    generalize hW2 : W1.alloc (.cells (cellsT { T with po := true, re := false } qb2 qt2) 63) = W2 at hbx ax ⊢
    generalize W1.heap.size = gx at hbx ⊢
    clear y0 y1 y2 y3 y4 y5 y6 y7 y8 z0 z1 z2 z3 z4 z5 z6 z7 z8
    clear hW2 m0 m1 m2' m3 m4 m5 m6 m7 m8 m9 m10 m11
    replace hb0 := hb0.le ax
    replace hA := hA.le ax
    replace hbA := hbA.le ax
    replace hl := hl.trans ax
    clear ax
    have hl2 := hl
    obtain ⟨⟨y0, y1, y2, y3, y4⟩, y5, y6, y7, y8⟩ := (hbA).mach
    go_wp2_with fail
    refine (m2 _ _ hA).mono ?_
    rintro e w3 ⟨L, rfl, HM, o1, ap, l3⟩
    clear y0 y1 y2 y3 y4 y5 y6 y7 y8
    clear m2 hbA hA
    have hbo := Box.new w3 (cells9 L.c L.qR L.qP L.qT L.qH) 29
    have a1 := Le.alloc w3 (.cells (cells9 L.c L.qR L.qP L.qT L.qH) 29)
    go_upto_region 10 with fail
    generalize hW3 : w3.alloc (.cells (cells9 L.c L.qR L.qP L.qT L.qH) 29) = W3 at hbo a1 ⊢
    clear hW3
    have I : MoI W2.heap.size w3.heap.size W3 L := ⟨hbo, l3.size, o1.le a1, ap⟩
    generalize w3.heap.size = go at hbo I ⊢
    have l23 := l3.trans a1
    clear hbo o1 ap l3 a1
    obtain ⟨c', uR, uP, uT, uH, xR, xP, xT, xH⟩ := L
    try simp only at I ⊢
    have hiT : t < xT.length := by have := lay_ts HM; simp only at this; rw [this, hN2]; omega
    have hiT' : (t : Int) < (xT.length : Int) := by omega
    obtain ⟨gT, capT, hqT, hcapT, hgBT, hgltT, hgneT, hatT, hfzT⟩ := I.openT hiT
    try simp only at hqT hatT hcapT
    subst hqT
    obtain ⟨x0, hx0'⟩ : ∃ x0, x0 = xT.getD t thK.d := ⟨_, rfl⟩
    have HX0 : Hid (x0.T = N1.th t) := by rw [hx0']; exact lay_th HM hiT
    obtain ⟨_, _, _, _, _, _, _, _, x8, _, _, _⟩ := hatT
    rw [← hx0'] at x8
    have f8 := hfzT (t * 12 + 8)
    have hsz := hl2.size
    have hb2 := hb0.le l23
    obtain ⟨⟨y0, y1, y2, y3, y4⟩, y5, y6, y7, y8⟩ := (I.bo).mach
    simp only [slV] at y7
    obtain ⟨⟨z0, z1, z2, z3, z4⟩, z5, z6, z7, z8⟩ := (hb2).mach
    simp only [slV] at z7
    have p8 := cell_le k8 (hl2.trans l23)
    have hkb : bT < W2.heap.size := Nat.lt_of_lt_of_le (World.block_lt_of_cell? w _ k8) hl2.size
    have hlt2 := hb0.lt
    have n1 : ¬ gT = go := fun e => hgneT e.symm
    have n2 : ¬ go = gT := hgneT
    have n3 : ¬ gT = w.heap.size := by omega
    have n4 : ¬ w.heap.size = gT := by omega
    have n5 : ¬ gT = bT := by omega
    have n6 : ¬ bT = gT := by omega
    have I2 := (I.setTx (j := 8) (u := .bool T.po) rfl hiT (by decide) x0 hx0'.symm { x0.T with po := T.po } rfl rfl rfl).le (Le.drew _)
    have l24 := (l23.set (g := gT) (i := t * 12 + 8) (u := .bool T.po) hgBT).trans (Le.drew _)
    clear hfzT I hx0' hb2
    go_region_held3 (fun w' => w'.cell? ⟨go, 7, none⟩ = some (.slice (some ⟨gT, 0, none⟩) xT.length capT) ∧ w'.cell? ⟨w.heap.size, 7, none⟩ = some (.slice (some ⟨bT, oT, none⟩) nT cT) ∧ w'.cell? ⟨bT, oT + t * 12 + 8, none⟩ = some (.bool T.po)) (go_keep) (fail)
    go_upto_region 11 with fail
    generalize hW4 : (W3.setCell ⟨gT, t * 12 + 8, none⟩ (.bool T.po)).drew = W4 at I2 l24 ⊢
    clear y0 y1 y2 y3 y4 y5 y6 y7 y8 z0 z1 z2 z3 z4 z5 z6 z7 z8
    clear hW4 x8 f8 p8 l23
    obtain ⟨_, _, _, ⟨_, _, _, _, _, _, _, _, _, x9, _, _⟩, hfz2⟩ := I2.thAt (i := t) rfl (by simp only [List.length_set]; exact hiT)
    have f9 := hfz2 (t * 12 + 9)
    clear hfz2
    obtain ⟨x9v, hx9v⟩ : ∃ b, b = ((xT.set t ⟨{ x0.T with po := T.po }, x0.b, x0.t⟩).getD t thK.d).T.re := ⟨_, rfl⟩
    simp only at x9
    rw [← hx9v] at x9
    clear hx9v
    have hb2 := hb0.le l24
    obtain ⟨⟨y0, y1, y2, y3, y4⟩, y5, y6, y7, y8⟩ := (I2.bo).mach
    simp only [slV] at y7
    obtain ⟨⟨z0, z1, z2, z3, z4⟩, z5, z6, z7, z8⟩ := (hb2).mach
    simp only [slV] at z7
    have p9 := cell_le k9 (hl2.trans l24)
    have I3 := (I2.setTy (j := 9) (u := .bool T.re) rfl hiT (by decide) { x0.T with po := T.po, re := T.re } rfl rfl rfl).le (Le.drew _)
    have l25 := (l24.set (g := gT) (i := t * 12 + 9) (u := .bool T.re) hgBT).trans (Le.drew _)
    clear I2 hb2
    go_region_held3 (fun w' => w'.cell? ⟨go, 7, none⟩ = some (.slice (some ⟨gT, 0, none⟩) xT.length capT) ∧ w'.cell? ⟨w.heap.size, 7, none⟩ = some (.slice (some ⟨bT, oT, none⟩) nT cT) ∧ w'.cell? ⟨bT, oT + t * 12 + 9, none⟩ = some (.bool T.re)) (go_keep) (fail)
    go_upto_region 12 with fail
    generalize hW5 : (W4.setCell ⟨gT, t * 12 + 9, none⟩ (.bool T.re)).drew = W5 at I3 l25 ⊢
    clear y0 y1 y2 y3 y4 y5 y6 y7 y8 z0 z1 z2 z3 z4 z5 z6 z7 z8
    clear hW5 x9 f9 p9 l24 n1 n2 n3 n4 n5 n6
    have hM3 := I3.has
    rw [lay_setT HM] at hM3
    simp only [HX0.out] at hM3
    rw [HT.out, HN.out] at hM3
    have s3 := lawSameMachine _ _ M M W5 hM3 (HHX.out.le (hl2.trans l25)) hf
    simp only [decide_true] at s3
    obtain ⟨_, _, _, _, _, _, _, _, v8, v9, _, _⟩ := (hbx.le l25).th
    have hb2 := hb0.le l25
    obtain ⟨⟨y0, y1, y2, y3, y4⟩, y5, y6, y7, y8⟩ := (I3.bo).mach
    obtain ⟨⟨z0, z1, z2, z3, z4⟩, z5, z6, z7, z8⟩ := (hb2).mach
    go_wp2_with fail
    refine s3.mono ?_
    rintro e w6 ⟨rfl, l6⟩
    go_wp2_with fail
    go_ret
    exact ⟨rfl, (hl2.trans l25).trans l6⟩

end Go.Proofs.YtkddgpdlpjjpbaaGreat

/-
  PLAIN GROUND: what a row's reading says of a slot that came in: five numbers. No condition.
-/
namespace Go.Proofs.YtkddgpdlpjjpbaaGreat
open Go.ChangeShapes Go.WideShapes Go.ChangeAt Go.RowKit Go.Joins Go.Deep

theorem cellsOp : Tryz.prog.cellsOf 59 = 3 := by kernel_rfl
theorem cellsInt : Tryz.prog.cellsOf 3 = 1 := by kernel_rfl
theorem cellsSlot : Tryz.prog.cellsOf 114 = 5 := by kernel_rfl

theorem array5 {α : Type} {cs : Array α} (h : cs.size = 5) : ∃ c0 c1 c2 c3 c4, cs = #[c0, c1, c2, c3, c4] := by
  obtain ⟨l⟩ := cs
  match l, h with
  | [c0, c1, c2, c3, c4], _ => exact ⟨c0, c1, c2, c3, c4, rfl⟩

set_option maxRecDepth 20000 in
/-- Five cells that read as a slot are five numbers. -/
theorem trod_slot {H : Type} {enc : TypeId × Value → H} {W : World} {n : Nat} {c0 c1 c2 c3 c4 : Value} {y : DataW H × List MemPlace} (h : DataW.trod enc Tryz.prog W 0 (fun _ => true) true n 114 [c0, c1, c2, c3, c4] = some y) :
    ∃ c r a t b : Int, c0 = .int .i64 c ∧ c1 = .int .i64 r ∧ c2 = .int .i64 a ∧ c3 = .int .i64 t ∧ c4 = .int .i64 b ∧ (Lit.int .i64 c).wf = true ∧ (Lit.int .i64 r).wf = true ∧ (Lit.int .i64 a).wf = true ∧ (Lit.int .i64 t).wf = true ∧ (Lit.int .i64 b).wf = true := by
  obtain ⟨y0, y1, y2, m, _, _, h0, h1, h2⟩ := trod_struct3 Tryz.underlying114 h
  simp [cellsOp, cellsInt] at h0 h1 h2
  obtain ⟨z0, z1, z2, m', _, _, g0, g1, g2⟩ := trod_struct3 Tryz.underlying59 h0
  simp [cellsInt] at g0 g1 g2
  obtain ⟨c, e0, _, wc⟩ := DataW.trod_int Tryz.underlying3 g0
  obtain ⟨r, e1, _, wr⟩ := DataW.trod_int Tryz.underlying3 g1
  obtain ⟨a, e2, _, wa⟩ := DataW.trod_int Tryz.underlying3 g2
  obtain ⟨t, e3, _, wt⟩ := DataW.trod_int Tryz.underlying3 h1
  obtain ⟨b, e4, _, wb⟩ := DataW.trod_int Tryz.underlying3 h2
  simp at e0 e1 e2 e3 e4
  exact ⟨c, r, a, t, b, e0, e1, e2, e3, e4, wc, wr, wa, wt, wb⟩

set_option maxRecDepth 20000 in
/-- A slot, read. -/
theorem open_slot {H : Type} {enc : TypeId × Value → H} {W : World} {base : Nat} {v : Value} {d : DataW H} {p : List MemPlace} (hv : Value.okWide Tryz.prog W .any base 114 v)
    (h : DataW.Trod enc Tryz.prog W 0 (fun _ => true) true 114 v d p) : ∃ c r a t b : Int, v = slotV c r a t b := by
  obtain ⟨cs, rfl, hsz⟩ := okWide_struct Tryz.underlying114 hv
  obtain ⟨c0, c1, c2, c3, c4, rfl⟩ := array5 (hsz.trans cellsSlot)
  obtain ⟨fuel, hf⟩ := h
  obtain ⟨c, r, a, t, b, rfl, rfl, rfl, rfl, rfl, _⟩ := trod_slot (by simpa [Value.cells] using hf)
  exact ⟨c, r, a, t, b, rfl⟩

end Go.Proofs.YtkddgpdlpjjpbaaGreat

/-
  PLAIN GROUND: what a row's reading says of a ring that came in: its three numbers and its slots, and that the slots can be copied. No condition.
-/
namespace Go.Proofs.YtkddgpdlpjjpbaaGreat
open Go.ChangeShapes Go.WideShapes Go.ChangeAt Go.RowKit Go.Joins Go.Deep

theorem bytesSlot : Tryz.prog.bytesOf 114 = 40 := by kernel_rfl
theorem cellsRing : Tryz.prog.cellsOf 67 = 4 := by kernel_rfl
theorem cellsSlots : Tryz.prog.cellsOf 65 = 1 := by kernel_rfl

set_option maxRecDepth 20000 in
/-- A slice of slots, read. -/
theorem open_slots {H : Type} {enc : TypeId × Value → H} {W : World} {n : Nat} {c : Value} {y : DataW H × List MemPlace} (h : DataW.trod enc Tryz.prog W 0 (fun _ => true) true n 65 [c] = some y)
    (hs : ∀ k ∈ y.1.weights Tryz.prog 65, k ≤ reachBytes) : ∃ ss, HasL W c ss ∧ ss.length * 40 ≤ 140737488351232 := by
  rcases open_slice Tryz.underlying65 h with ⟨hcs, _⟩ | ⟨a, len, cap, m, n', D, Pl, hcs, _, hl, hm, hmm, rfl, hx⟩
  · simp at hcs
    subst hcs
    exact ⟨[], HasL.nil _, by decide⟩
  · simp at hcs
    subst hcs
    simp only [if_true] at hmm
    subst hmm
    rw [cellsSlot] at hx
    have hw := hs _ (by simp [DataW.weights, Tryz.underlying65]; exact Or.inl rfl)
    rw [bytesSlot] at hw
    have each : ∀ i, i < m → ∃ s : Slt, ∀ j, j < 5 → W.cell? ((a.add (i * 5)).add j) = s.vals[j]? := by
      intro i hi
      obtain ⟨cs', h1, h2⟩ := hx i hi
      obtain ⟨_, hlen, hcell⟩ := World.cells?_some h1
      match cs', hlen with
      | [c0, c1, c2, c3, c4], _ =>
        obtain ⟨c, r, a', t, b, rfl, rfl, rfl, rfl, rfl, _⟩ := trod_slot h2
        exact ⟨⟨c, r, a', t, b⟩, fun j hj => by rw [hcell j (by omega)]; rfl⟩
    have : Inhabited Slt := ⟨Slt.zero⟩
    obtain ⟨s, hsl⟩ := choose_lt each
    refine ⟨(List.range len).map s, ?_, by rw [List.length_map, List.length_range]; simp only [reachBytes] at hw; omega⟩
    have hlen : ((List.range len).map s).length = len := by simp
    refine ⟨some a, m, by rw [hlen], by rw [hlen]; exact hl, (fun h => by cases h), fun hp => ?_⟩
    rw [hlen] at hp ⊢
    obtain ⟨b, off, spot⟩ := a
    have hc := hsl 0 (by omega) 0 (by omega)
    have hspot : spot = none := by simpa [Addr.add] using World.cell?_spot hc
    subst hspot
    refine ⟨b, off, rfl, fun i hi => SlotAt.of fun j hj => ?_⟩
    have h1 := hsl i (by omega) j hj
    rw [add_plain, add_plain] at h1
    rw [h1]
    simp [List.getD, hi]

set_option maxRecDepth 20000 in
/-- A ring, read. -/
theorem open_ring {H : Type} {enc : TypeId × Value → H} {W : World} {base : Nat} {v : Value} {d : DataW H} {p : List MemPlace} (hv : Value.okWide Tryz.prog W .any base 67 v)
    (h : DataW.Trod enc Tryz.prog W 0 (fun _ => true) true 67 v d p) (hs : ∀ k ∈ d.weights Tryz.prog 67, k ≤ reachBytes) : ∃ R, HasR W v R ∧ FitR R ∧ (Lit.int .i64 R.h).wf = true ∧ (Lit.int .i64 R.t).wf = true ∧ (Lit.int .i64 R.f).wf = true := by
  obtain ⟨cs, rfl, hsz⟩ := okWide_struct Tryz.underlying67 hv
  obtain ⟨c0, c1, c2, c3, rfl⟩ := array4 (hsz.trans cellsRing)
  obtain ⟨fuel, hf⟩ := h
  obtain ⟨y0, y1, y2, y3, n, hx, _, h0, h1, h2, h3⟩ := trod_struct4 Tryz.underlying67 hf
  simp [Value.cells, cellsInt, cellsSlots] at h0 h1 h2 h3
  have hd : d = .agg [y0.1, y1.1, y2.1, y3.1] := congrArg Prod.fst hx
  obtain ⟨x0, e0, _, w0⟩ := DataW.trod_int Tryz.underlying3 h0
  obtain ⟨x1, e1, _, w1⟩ := DataW.trod_int Tryz.underlying3 h1
  obtain ⟨x2, e2, _, w2⟩ := DataW.trod_int Tryz.underlying3 h2
  simp at e0 e1 e2
  subst e0 e1 e2
  obtain ⟨ss, a0, b0⟩ := open_slots h3 (fun k hk => hs k (by
    rw [hd]
    simp [DataW.weights, DataW.weightsEach, Tryz.underlying67]
    exact Or.inr (Or.inr (Or.inr hk))))
  obtain ⟨q, rfl⟩ := a0.sl
  exact ⟨⟨x0, x1, x2, ss⟩, ⟨q, rfl, a0⟩, b0, w0, w1, w2⟩

end Go.Proofs.YtkddgpdlpjjpbaaGreat

/-
  PLAIN GROUND: what a row's reading says of a slice of numbers and of a state that came in: the numbers that each row holds, and that its bytes are within the reach. No condition.
-/
namespace Go.Proofs.YtkddgpdlpjjpbaaGreat
open Go.ChangeShapes Go.WideShapes Go.ChangeAt Go.RowKit Go.Joins

theorem bytesInt : Tryz.prog.bytesOf 3 = 8 := by kernel_rfl
theorem cellsState : Tryz.prog.cellsOf 71 = 4 := by kernel_rfl
theorem cellsRows : Tryz.prog.cellsOf 69 = 4 := by kernel_rfl
theorem cellsInts : Tryz.prog.cellsOf 50 = 1 := by kernel_rfl

theorem has_of_ints {w : World} {a : Addr} {len cap : Nat} {zs : List Int} (hl : len ≤ cap) (hz : zs.length = cap) (hcell : ∀ i, i < zs.length → w.cell? (a.add i) = some (.int .i64 (zs.getD i 0))) : Has w (.slice (some a) len cap) (zs.take len) := by
  have hlen : (zs.take len).length = len := by rw [List.length_take]; omega
  refine ⟨some a, cap, by rw [hlen], by rw [hlen]; exact hl, (fun h => by cases h), fun hp => ?_⟩
  rw [hlen] at hp ⊢
  obtain ⟨b, off, spot⟩ := a
  have hc := hcell 0 (by omega)
  have hspot : spot = none := by simpa [Addr.add] using World.cell?_spot hc
  subst hspot
  refine ⟨b, off, rfl, fun i hi => ?_⟩
  have h1 := hcell i (by omega)
  rw [add_plain] at h1
  rw [h1]
  simp [List.getD, hi]

set_option maxRecDepth 20000 in
/-- A slice of numbers, read. -/
theorem open_nums {H : Type} {enc : TypeId × Value → H} {W : World} {n : Nat} {c : Value} {y : DataW H × List MemPlace} (h : DataW.trod enc Tryz.prog W 0 (fun _ => true) true n 50 [c] = some y)
    (hs : ∀ k ∈ y.1.weights Tryz.prog 50, k ≤ reachBytes) : ∃ xs, Has W c xs ∧ xs.length * 8 ≤ 140737488351232 := by
  rcases open_ints Tryz.underlying50 Tryz.underlying3 (by kernel_rfl) h with ⟨hcs, _⟩ | ⟨x, l, cp, zs, hcs, _, hl, hm, hz, hd, hcell, hwz⟩
  · simp at hcs
    subst hcs
    exact ⟨[], Has.nil _, by decide⟩
  · simp at hcs
    subst hcs
    have hd0 : y.1 = .slice (lits .i64 (zs.take l)) (lits .i64 (zs.drop l)) := congrArg Prod.fst hd
    have := hs _ (by rw [hd0]; simp [DataW.weights, Tryz.underlying50]; exact Or.inl rfl)
    rw [bytesInt] at this
    simp only [lits, List.length_map, List.length_take, List.length_drop, reachBytes] at this
    exact ⟨zs.take l, has_of_ints hl (by simpa using hz) hcell, by rw [List.length_take]; omega⟩

set_option maxRecDepth 20000 in
/-- A state, read. -/
theorem open_state {H : Type} {enc : TypeId × Value → H} {W : World} {base : Nat} {v : Value} {d : DataW H} {p : List MemPlace} (hv : Value.okWide Tryz.prog W .any base 71 v)
    (h : DataW.Trod enc Tryz.prog W 0 (fun _ => true) true 71 v d p) (hs : ∀ k ∈ d.weights Tryz.prog 71, k ≤ reachBytes) : ∃ s, HasS W v s ∧ Fit s := by
  obtain ⟨cs, rfl, hsz⟩ := okWide_struct Tryz.underlying71 hv
  obtain ⟨c0, c1, c2, c3, rfl⟩ := array4 (hsz.trans cellsState)
  obtain ⟨fuel, hf⟩ := h
  obtain ⟨y, n, hx, _, h1⟩ := trod_struct1 Tryz.underlying71 hf
  simp [Value.cells, cellsRows] at h1
  obtain ⟨y0, y1, y2, y3, m, hy, t0, t1, t2, t3⟩ := trod_array4 Tryz.underlying69 cellsInts h1
  have hd : d = .agg [.agg [y0.1, y1.1, y2.1, y3.1]] := by
    have := congrArg Prod.fst hx
    simp only [hy] at this
    exact this
  have hw : ∀ k, k ∈ y0.1.weights Tryz.prog 50 ∨ k ∈ y1.1.weights Tryz.prog 50 ∨ k ∈ y2.1.weights Tryz.prog 50 ∨ k ∈ y3.1.weights Tryz.prog 50 → k ≤ reachBytes := by
    intro k hk
    refine hs k ?_
    rw [hd]
    simp [DataW.weights, DataW.weightsEach, DataW.weightsAll, Tryz.underlying71, Tryz.underlying69]
    exact hk
  obtain ⟨x0, a0, b0⟩ := open_nums t0 (fun k hk => hw k (.inl hk))
  obtain ⟨x1, a1, b1⟩ := open_nums t1 (fun k hk => hw k (.inr (.inl hk)))
  obtain ⟨x2, a2, b2⟩ := open_nums t2 (fun k hk => hw k (.inr (.inr (.inl hk))))
  obtain ⟨x3, a3, b3⟩ := open_nums t3 (fun k hk => hw k (.inr (.inr (.inr hk))))
  obtain ⟨q0, rfl⟩ := a0.sl
  obtain ⟨q1, rfl⟩ := a1.sl
  obtain ⟨q2, rfl⟩ := a2.sl
  obtain ⟨q3, rfl⟩ := a3.sl
  refine ⟨⟨x0, x1, x2, x3⟩, ⟨fun i => match i with | 0 => q0 | 1 => q1 | 2 => q2 | _ => q3, rfl, fun i hi => ?_⟩, fun i hi => ?_⟩
  · rcases four hi with rfl | rfl | rfl | rfl
    · exact a0
    · exact a1
    · exact a2
    · exact a3
  · rcases four hi with rfl | rfl | rfl | rfl
    · exact b0
    · exact b1
    · exact b2
    · exact b3

end Go.Proofs.YtkddgpdlpjjpbaaGreat

/-
  PLAIN GROUND: what a row's reading says of a Config that came in: five numbers. No condition.
-/
namespace Go.Proofs.YtkddgpdlpjjpbaaGreat
open Go.ChangeShapes Go.WideShapes Go.ChangeAt Go.RowKit Go.Joins Go.Deep

theorem cellsCfg : Tryz.prog.cellsOf 23 = 5 := by kernel_rfl
theorem cellsInt1 : Tryz.prog.cellsOf 3 = 1 := by kernel_rfl

theorem array5c {α : Type} {cs : Array α} (h : cs.size = 5) : ∃ c0 c1 c2 c3 c4, cs = #[c0, c1, c2, c3, c4] := by
  obtain ⟨l⟩ := cs
  match l, h with
  | [c0, c1, c2, c3, c4], _ => exact ⟨c0, c1, c2, c3, c4, rfl⟩

theorem trod_struct5 {H : Type} {enc : TypeId × Value → H} {P : Program} {W : World} {base : Nat} {spare : Nat → Bool} {held : Bool} {t : TypeId} {f0 f1 f2 f3 f4 : Field} {fuel : Nat} {cs : List Value} {x : DataW H × List MemPlace} (ht : P.underlying t = some (.struct #[f0, f1, f2, f3, f4])) (h : DataW.trod enc P W base spare held fuel t cs = some x) :
    ∃ y0 y1 y2 y3 y4 n, x = (.agg [y0.1, y1.1, y2.1, y3.1, y4.1], y0.2 ++ (y1.2 ++ (y2.2 ++ (y3.2 ++ y4.2)))) ∧ cs.length = P.cellsOf t ∧ DataW.trod enc P W base spare held n f0.type ((cs.drop f0.offset).take (P.cellsOf f0.type)) = some y0 ∧
      DataW.trod enc P W base spare held n f1.type ((cs.drop f1.offset).take (P.cellsOf f1.type)) = some y1 ∧ DataW.trod enc P W base spare held n f2.type ((cs.drop f2.offset).take (P.cellsOf f2.type)) = some y2 ∧
      DataW.trod enc P W base spare held n f3.type ((cs.drop f3.offset).take (P.cellsOf f3.type)) = some y3 ∧ DataW.trod enc P W base spare held n f4.type ((cs.drop f4.offset).take (P.cellsOf f4.type)) = some y4 := by
  obtain ⟨xs, n, _, rfl, hl, hlen, hf⟩ := DataW.trod_struct ht h
  match xs, hlen with
  | [y0, y1, y2, y3, y4], _ => exact ⟨y0, y1, y2, y3, y4, n, by simp, hl, by simpa using hf 0 f0 rfl, by simpa using hf 1 f1 rfl, by simpa using hf 2 f2 rfl, by simpa using hf 3 f3 rfl, by simpa using hf 4 f4 rfl⟩

set_option maxRecDepth 20000 in
/-- Five cells that read as a Config are five numbers. -/
theorem trod_cfg {H : Type} {enc : TypeId × Value → H} {W : World} {n : Nat} {c0 c1 c2 c3 c4 : Value} {y : DataW H × List MemPlace} (h : DataW.trod enc Tryz.prog W 0 (fun _ => true) true n 23 [c0, c1, c2, c3, c4] = some y) :
    ∃ c r a t b : Int, c0 = .int .i64 c ∧ c1 = .int .i64 r ∧ c2 = .int .i64 a ∧ c3 = .int .i64 t ∧ c4 = .int .i64 b ∧ (Lit.int .i64 c).wf = true ∧ (Lit.int .i64 r).wf = true ∧ (Lit.int .i64 a).wf = true ∧ (Lit.int .i64 t).wf = true ∧ (Lit.int .i64 b).wf = true := by
  obtain ⟨y0, y1, y2, y3, y4, m, _, _, h0, h1, h2, h3, h4⟩ := trod_struct5 Tryz.underlying23 h
  simp [cellsInt1] at h0 h1 h2 h3 h4
  obtain ⟨c, e0, _, wc⟩ := DataW.trod_int Tryz.underlying3 h0
  obtain ⟨r, e1, _, wr⟩ := DataW.trod_int Tryz.underlying3 h1
  obtain ⟨a, e2, _, wa⟩ := DataW.trod_int Tryz.underlying3 h2
  obtain ⟨t, e3, _, wt⟩ := DataW.trod_int Tryz.underlying3 h3
  obtain ⟨b, e4, _, wb⟩ := DataW.trod_int Tryz.underlying3 h4
  simp at e0 e1 e2 e3 e4
  exact ⟨c, r, a, t, b, e0, e1, e2, e3, e4, wc, wr, wa, wt, wb⟩

set_option maxRecDepth 20000 in
/-- A Config, read. -/
theorem open_cfg {H : Type} {enc : TypeId × Value → H} {W : World} {base : Nat} {v : Value} {d : DataW H} {p : List MemPlace} (hv : Value.okWide Tryz.prog W .any base 23 v)
    (h : DataW.Trod enc Tryz.prog W 0 (fun _ => true) true 23 v d p) : ∃ o r l t s : Int, v = cfgV o r l t s := by
  obtain ⟨cs, rfl, hsz⟩ := okWide_struct Tryz.underlying23 hv
  obtain ⟨c0, c1, c2, c3, c4, rfl⟩ := array5c (hsz.trans cellsCfg)
  obtain ⟨fuel, hf⟩ := h
  obtain ⟨c, r, a, t, b, rfl, rfl, rfl, rfl, rfl, _⟩ := trod_cfg (by simpa [Value.cells] using hf)
  exact ⟨c, r, a, t, b, rfl⟩

end Go.Proofs.YtkddgpdlpjjpbaaGreat

/-
  PLAIN GROUND: what a row's reading says of a machine that came in: its Config's numbers, its logs, replicas, threads and events, and that all of it can be copied. No condition.
-/
namespace Go.Proofs.YtkddgpdlpjjpbaaGreat
open Go.ChangeShapes Go.WideShapes Go.ChangeAt Go.RowKit Go.Joins Go.Deep

theorem weightsAll_mem {H : Type} {P : Program} {e : TypeId} {d : DataW H} {k : Nat} (hk : k ∈ d.weights P e) : ∀ l : List (DataW H), d ∈ l → k ∈ DataW.weightsAll P e l
  | [], h => by cases h
  | x :: l, h => by
    unfold DataW.weightsAll
    rcases List.mem_cons.1 h with rfl | h
    · exact List.mem_append.2 (.inl hk)
    · exact List.mem_append.2 (.inr (weightsAll_mem hk l h))

/-- A slice of elements, read. -/
theorem open_row {α : Type} (K : Kind α) {tS : TypeId} (hu : Tryz.prog.underlying tS = some (.slice K.t)) (hc : Tryz.prog.cellsOf K.t = K.k) (hb : Tryz.prog.bytesOf K.t = K.by') {H : Type} {enc : TypeId × Value → H} {W : World} (G : α → Prop)
    (hel : ∀ (n : Nat) (cs : List Value) (y : DataW H × List MemPlace), cs.length = K.k → DataW.trod enc Tryz.prog W 0 (fun _ => true) true n K.t cs = some y → (∀ k ∈ y.1.weights Tryz.prog K.t, k ≤ reachBytes) → ∃ x : α, cs = K.f x ∧ G x)
    {n : Nat} {c : Value} {y : DataW H × List MemPlace} (h : DataW.trod enc Tryz.prog W 0 (fun _ => true) true n tS [c] = some y) (hs : ∀ k ∈ y.1.weights Tryz.prog tS, k ≤ reachBytes) : ∃ xs, HasE K W c xs ∧ (∀ x ∈ xs, G x) ∧ xs.length * K.by' ≤ 140737488351232 := by
  rcases open_slice hu h with ⟨hcs, _⟩ | ⟨a, len, cap, m, n', D, Pl, hcs, _, hl, hm, hmm, rfl, hx⟩
  · simp at hcs
    subst hcs
    exact ⟨[], HasE.nil _ _, (fun x h => by cases h), by simp⟩
  · simp at hcs
    subst hcs
    simp only [if_true] at hmm
    subst hmm
    rw [hc] at hx
    have hw := hs _ (by simp [DataW.weights, hu]; exact Or.inl rfl)
    rw [hb] at hw
    have each : ∀ i, i < len → ∃ x : α, (∀ j, j < K.k → W.cell? ((a.add (i * K.k)).add j) = (K.f x)[j]?) ∧ G x := by
      intro i hi
      obtain ⟨cs', h1, h2⟩ := hx i (by omega)
      obtain ⟨_, hlen, hcell⟩ := World.cells?_some h1
      obtain ⟨x, rfl, hg⟩ := hel n' cs' _ hlen h2 (fun k hk => hs k (by
        simp only [DataW.weights, hu]
        refine List.mem_cons_of_mem _ (List.mem_append.2 (.inl (weightsAll_mem hk _ ?_)))
        exact List.mem_map.2 ⟨i, List.mem_range.2 hi, rfl⟩))
      exact ⟨x, fun j hj => hcell j (by omega), hg⟩
    have : Inhabited α := ⟨K.d⟩
    obtain ⟨s, hsl⟩ := choose_lt each
    have hlen : ((List.range len).map s).length = len := by simp
    refine ⟨(List.range len).map s, ?_, fun x hx => ?_, ?_⟩
    · refine ⟨some a, m, by rw [hlen], by rw [hlen]; exact hl, (fun h => by cases h), fun hp => ?_⟩
      rw [hlen] at hp ⊢
      obtain ⟨b, off, spot⟩ := a
      have hk := K.pos
      have hc0 := (hsl 0 (by omega)).1 0 hk
      have hlt : 0 < (K.f (s 0)).length := by rw [K.len]; exact hk
      rw [List.getElem?_eq_getElem hlt] at hc0
      have hspot : spot = none := by simpa [Addr.add] using World.cell?_spot hc0
      subst hspot
      refine ⟨b, off, rfl, fun i hi j hj => ?_⟩
      have h1 := (hsl i hi).1 j hj
      rw [add_plain, add_plain] at h1
      rw [h1]
      simp [List.getD, hi]
    · obtain ⟨i, hi, rfl⟩ := List.mem_map.1 hx
      exact (hsl i (List.mem_range.1 hi)).2
    · rw [hlen]
      simp only [reachBytes] at hw
      have : len * K.by' ≤ (len + (m - len)) * K.by' := Nat.mul_le_mul_right _ (by omega)
      omega

theorem cellsInt2 : Tryz.prog.cellsOf 3 = 1 := by kernel_rfl
theorem cellsBool : Tryz.prog.cellsOf 4 = 1 := by kernel_rfl
theorem cellsOp2 : Tryz.prog.cellsOf 59 = 3 := by kernel_rfl

/-- Four cells that read as a ring. -/
theorem open_ringE {H : Type} {enc : TypeId × Value → H} {W : World} (n : Nat) (cs : List Value) (y : DataW H × List MemPlace) (hlen : cs.length = 4) (h : DataW.trod enc Tryz.prog W 0 (fun _ => true) true n 67 cs = some y) (hs : ∀ k ∈ y.1.weights Tryz.prog 67, k ≤ reachBytes) :
    ∃ x : LR, cs = LR.cells x ∧ HasL W (slV x.q) x.R.ss ∧ FitR x.R := by
  match cs, hlen with
  | [c0, c1, c2, c3], _ =>
    obtain ⟨y0, y1, y2, y3, n, hx, _, h0, h1, h2, h3⟩ := trod_struct4 Tryz.underlying67 h
    simp [cellsInt2, cellsSlots] at h0 h1 h2 h3
    have hd : y.1 = .agg [y0.1, y1.1, y2.1, y3.1] := congrArg Prod.fst hx
    obtain ⟨x0, e0, _, w0⟩ := DataW.trod_int Tryz.underlying3 h0
    obtain ⟨x1, e1, _, w1⟩ := DataW.trod_int Tryz.underlying3 h1
    obtain ⟨x2, e2, _, w2⟩ := DataW.trod_int Tryz.underlying3 h2
    simp at e0 e1 e2
    subst e0 e1 e2
    obtain ⟨ss, a0, b0⟩ := open_slots h3 (fun k hk => hs k (by
      rw [hd]
      simp [DataW.weights, DataW.weightsEach, Tryz.underlying67]
      exact Or.inr (Or.inr (Or.inr hk))))
    obtain ⟨q, rfl⟩ := a0.sl
    exact ⟨⟨⟨x0, x1, x2, ss⟩, q⟩, rfl, a0, b0⟩

/-- Six cells that read as a replica. -/
theorem open_repE {H : Type} {enc : TypeId × Value → H} {W : World} (n : Nat) (cs : List Value) (y : DataW H × List MemPlace) (hlen : cs.length = 6) (h : DataW.trod enc Tryz.prog W 0 (fun _ => true) true n 73 cs = some y) (hs : ∀ k ∈ y.1.weights Tryz.prog 73, k ≤ reachBytes) :
    ∃ x : LP, cs = LP.cells x ∧ (∀ i, i < 4 → Has W (slV (x.vs i)) (x.P.s.at i)) ∧ Has W (slV x.c) x.P.cs ∧ Has W (slV x.l) x.P.ls ∧ Fit x.P.s ∧ x.P.cs.length * 8 ≤ 140737488351232 ∧ x.P.ls.length * 8 ≤ 140737488351232 := by
  match cs, hlen with
  | [c0, c1, c2, c3, c4, c5], _ =>
    obtain ⟨ys, m, _, hx, _, hlen', hf⟩ := DataW.trod_struct Tryz.underlying73 h
    match ys, hlen' with
    | [y0, y1, y2], _ =>
      have hd : y.1 = .agg [y0.1, y1.1, y2.1] := congrArg Prod.fst hx
      have h0 := hf 0 _ rfl
      have h1 := hf 1 _ rfl
      have h2 := hf 2 _ rfl
      simp [cellsState, cellsInts] at h0 h1 h2
      have hw : ∀ k, k ∈ y0.1.weights Tryz.prog 71 ∨ k ∈ y1.1.weights Tryz.prog 50 ∨ k ∈ y2.1.weights Tryz.prog 50 → k ≤ reachBytes := fun k hk => hs k (by
        rw [hd]
        simp [DataW.weights, DataW.weightsEach, Tryz.underlying73]
        exact hk)
      obtain ⟨z, m1, hz, _, g1⟩ := trod_struct1 Tryz.underlying71 h0
      simp [cellsRows] at g1
      obtain ⟨z0, z1, z2, z3, m2, hy, t0, t1, t2, t3⟩ := trod_array4 Tryz.underlying69 cellsInts g1
      have hd0 : y0.1 = .agg [.agg [z0.1, z1.1, z2.1, z3.1]] := by
        have := congrArg Prod.fst hz
        simp only [hy] at this
        exact this
      have hw0 : ∀ k, k ∈ z0.1.weights Tryz.prog 50 ∨ k ∈ z1.1.weights Tryz.prog 50 ∨ k ∈ z2.1.weights Tryz.prog 50 ∨ k ∈ z3.1.weights Tryz.prog 50 → k ≤ reachBytes := fun k hk => hw k (.inl (by
        rw [hd0]
        simp [DataW.weights, DataW.weightsEach, DataW.weightsAll, Tryz.underlying71, Tryz.underlying69]
        exact hk))
      obtain ⟨x0, a0, b0⟩ := open_nums t0 (fun k hk => hw0 k (.inl hk))
      obtain ⟨x1, a1, b1⟩ := open_nums t1 (fun k hk => hw0 k (.inr (.inl hk)))
      obtain ⟨x2, a2, b2⟩ := open_nums t2 (fun k hk => hw0 k (.inr (.inr (.inl hk))))
      obtain ⟨x3, a3, b3⟩ := open_nums t3 (fun k hk => hw0 k (.inr (.inr (.inr hk))))
      obtain ⟨x4, a4, b4⟩ := open_nums h1 (fun k hk => hw k (.inr (.inl hk)))
      obtain ⟨x5, a5, b5⟩ := open_nums h2 (fun k hk => hw k (.inr (.inr hk)))
      obtain ⟨q0, rfl⟩ := a0.sl
      obtain ⟨q1, rfl⟩ := a1.sl
      obtain ⟨q2, rfl⟩ := a2.sl
      obtain ⟨q3, rfl⟩ := a3.sl
      obtain ⟨q4, rfl⟩ := a4.sl
      obtain ⟨q5, rfl⟩ := a5.sl
      refine ⟨⟨⟨⟨x0, x1, x2, x3⟩, x4, x5⟩, fun i => match i with | 0 => q0 | 1 => q1 | 2 => q2 | _ => q3, q4, q5⟩, rfl, fun i hi => ?_, a4, a5, fun i hi => ?_, b4, b5⟩
      · rcases four hi with rfl | rfl | rfl | rfl
        · exact a0
        · exact a1
        · exact a2
        · exact a3
      · rcases four hi with rfl | rfl | rfl | rfl
        · exact b0
        · exact b1
        · exact b2
        · exact b3

/-- Three cells that read as an operation. -/
theorem trod_op {H : Type} {enc : TypeId × Value → H} {W : World} {n : Nat} {c0 c1 c2 : Value} {y : DataW H × List MemPlace} (h : DataW.trod enc Tryz.prog W 0 (fun _ => true) true n 59 [c0, c1, c2] = some y) : ∃ c r a : Int, c0 = .int .i64 c ∧ c1 = .int .i64 r ∧ c2 = .int .i64 a := by
  obtain ⟨ys, m, _, hx, _, hlen', hf⟩ := DataW.trod_struct Tryz.underlying59 h
  match ys, hlen' with
  | [y0, y1, y2], _ =>
    have h0 := hf 0 _ rfl
    have h1 := hf 1 _ rfl
    have h2 := hf 2 _ rfl
    simp [cellsInt2] at h0 h1 h2
    obtain ⟨x0, e0, _, _⟩ := DataW.trod_int Tryz.underlying3 h0
    obtain ⟨x1, e1, _, _⟩ := DataW.trod_int Tryz.underlying3 h1
    obtain ⟨x2, e2, _, _⟩ := DataW.trod_int Tryz.underlying3 h2
    simp at e0 e1 e2
    exact ⟨x0, x1, x2, e0, e1, e2⟩

/-- Six cells that read as an event. -/
theorem open_evE {H : Type} {enc : TypeId × Value → H} {W : World} (n : Nat) (cs : List Value) (y : DataW H × List MemPlace) (hlen : cs.length = 6) (h : DataW.trod enc Tryz.prog W 0 (fun _ => true) true n 93 cs = some y) (_hs : ∀ k ∈ y.1.weights Tryz.prog 93, k ≤ reachBytes) :
    ∃ x : Ev, cs = Ev.cells x ∧ True := by
  match cs, hlen with
  | [c0, c1, c2, c3, c4, c5], _ =>
    obtain ⟨ys, m, _, hx, _, hlen', hf⟩ := DataW.trod_struct Tryz.underlying93 h
    match ys, hlen' with
    | [y0, y1, y2, y3], _ =>
      have h0 := hf 0 _ rfl
      have h1 := hf 1 _ rfl
      have h2 := hf 2 _ rfl
      have h3 := hf 3 _ rfl
      simp [cellsInt2, cellsBool, cellsOp2] at h0 h1 h2 h3
      obtain ⟨x0, e0, _, _⟩ := DataW.trod_int Tryz.underlying3 h0
      obtain ⟨x1, e1, _⟩ := DataW.trod_bool Tryz.underlying4 h1
      obtain ⟨x2, x3, x4, e2, e3, e4⟩ := trod_op h2
      obtain ⟨x5, e5, _, _⟩ := DataW.trod_int Tryz.underlying3 h3
      simp at e0 e1 e5
      subst e0 e1 e2 e3 e4 e5
      exact ⟨⟨x0, x1, x2, x3, x4, x5⟩, rfl, trivial⟩

/-- Twelve cells that read as a thread. -/
theorem open_thE {H : Type} {enc : TypeId × Value → H} {W : World} (n : Nat) (cs : List Value) (y : DataW H × List MemPlace) (hlen : cs.length = 12) (h : DataW.trod enc Tryz.prog W 0 (fun _ => true) true n 63 cs = some y) (hs : ∀ k ∈ y.1.weights Tryz.prog 63, k ≤ reachBytes) :
    ∃ x : LT, cs = LT.cells x ∧ Has W (slV x.b) x.T.b ∧ Has W (slV x.t) x.T.tl ∧ x.T.b.length * 8 ≤ 140737488351232 ∧ x.T.tl.length * 8 ≤ 140737488351232 := by
  match cs, hlen with
  | [c0, c1, c2, c3, c4, c5, c6, c7, c8, c9, c10, c11], _ =>
    obtain ⟨ys, m, _, hx, _, hlen', hf⟩ := DataW.trod_struct Tryz.underlying63 h
    match ys, hlen' with
    | [y0, y1, y2, y3, y4, y5, y6, y7, y8, y9], _ =>
      have hd : y.1 = .agg [y0.1, y1.1, y2.1, y3.1, y4.1, y5.1, y6.1, y7.1, y8.1, y9.1] := congrArg Prod.fst hx
      have h0 := hf 0 _ rfl
      have h1 := hf 1 _ rfl
      have h2 := hf 2 _ rfl
      have h3 := hf 3 _ rfl
      have h4 := hf 4 _ rfl
      have h5 := hf 5 _ rfl
      have h6 := hf 6 _ rfl
      have h7 := hf 7 _ rfl
      have h8 := hf 8 _ rfl
      have h9 := hf 9 _ rfl
      simp [cellsInt2, cellsBool, cellsOp2, cellsInts] at h0 h1 h2 h3 h4 h5 h6 h7 h8 h9
      have hw : ∀ k, k ∈ y4.1.weights Tryz.prog 50 ∨ k ∈ y9.1.weights Tryz.prog 50 → k ≤ reachBytes := fun k hk => hs k (by
        rw [hd]
        simp only [DataW.weights, DataW.weightsEach, Tryz.underlying63, List.map_cons, List.map_nil, List.mem_append]
        rcases hk with hk | hk
        · exact .inr (.inr (.inr (.inr (.inl hk))))
        · exact .inr (.inr (.inr (.inr (.inr (.inr (.inr (.inr (.inr (.inl hk))))))))))
      obtain ⟨x0, e0, _, _⟩ := DataW.trod_int Tryz.underlying3 h0
      obtain ⟨x1, x2, x3, e1, e2, e3⟩ := trod_op h1
      obtain ⟨x4, e4, _, _⟩ := DataW.trod_int Tryz.underlying3 h2
      obtain ⟨x5, e5, _, _⟩ := DataW.trod_int Tryz.underlying3 h3
      obtain ⟨x6, a6, b6⟩ := open_nums h4 (fun k hk => hw k (.inl hk))
      obtain ⟨x7, e7, _, _⟩ := DataW.trod_int Tryz.underlying3 h5
      obtain ⟨x8, e8, _⟩ := DataW.trod_bool Tryz.underlying4 h6
      obtain ⟨x9, e9, _⟩ := DataW.trod_bool Tryz.underlying4 h7
      obtain ⟨x10, e10, _, _⟩ := DataW.trod_int Tryz.underlying3 h8
      obtain ⟨x11, a11, b11⟩ := open_nums h9 (fun k hk => hw k (.inr hk))
      simp at e0 e4 e5 e7 e8 e9 e10
      subst e0 e1 e2 e3 e4 e5 e7 e8 e9 e10
      obtain ⟨q6, rfl⟩ := a6.sl
      obtain ⟨q11, rfl⟩ := a11.sl
      exact ⟨⟨⟨x0, x1, x2, x3, x4, x5, x6, x7, x8, x9, x10, x11⟩, q6, q11⟩, rfl, a6, a11, b6, b11⟩

theorem cellsMach : Tryz.prog.cellsOf 29 = 9 := by kernel_rfl
theorem cellsS1 : Tryz.prog.cellsOf 24 = 1 := by kernel_rfl
theorem cellsS2 : Tryz.prog.cellsOf 25 = 1 := by kernel_rfl
theorem cellsS3 : Tryz.prog.cellsOf 26 = 1 := by kernel_rfl
theorem cellsS4 : Tryz.prog.cellsOf 27 = 1 := by kernel_rfl
theorem array9 {α : Type} {cs : Array α} (h : cs.size = 9) : ∃ c0 c1 c2 c3 c4 c5 c6 c7 c8, cs = #[c0, c1, c2, c3, c4, c5, c6, c7, c8] := by
  obtain ⟨l⟩ := cs
  match l, h with
  | [c0, c1, c2, c3, c4, c5, c6, c7, c8], _ => exact ⟨c0, c1, c2, c3, c4, c5, c6, c7, c8, rfl⟩

set_option maxRecDepth 20000 in
/-- A machine, read. -/
theorem open_mach {H : Type} {enc : TypeId × Value → H} {W : World} {base : Nat} {v : Value} {d : DataW H} {p : List MemPlace} (hv : Value.okWide Tryz.prog W .any base 29 v)
    (h : DataW.Trod enc Tryz.prog W 0 (fun _ => true) true 29 v d p) (hs : ∀ k ∈ d.weights Tryz.prog 29, k ≤ reachBytes) : ∃ M, HasM W v M ∧ FitM M := by
  obtain ⟨cs, rfl, hsz⟩ := okWide_struct Tryz.underlying29 hv
  obtain ⟨c0, c1, c2, c3, c4, c5, c6, c7, c8, rfl⟩ := array9 (hsz.trans cellsMach)
  obtain ⟨fuel, hf⟩ := h
  obtain ⟨y0, y1, y2, y3, y4, n, hx, _, h0, h1, h2, h3, h4⟩ := trod_struct5 Tryz.underlying29 hf
  simp [Value.cells, cellsCfg, cellsS1, cellsS2, cellsS3, cellsS4] at h0 h1 h2 h3 h4
  have hd : d = .agg [y0.1, y1.1, y2.1, y3.1, y4.1] := congrArg Prod.fst hx
  have hw : ∀ k, k ∈ y1.1.weights Tryz.prog 24 ∨ k ∈ y2.1.weights Tryz.prog 25 ∨ k ∈ y3.1.weights Tryz.prog 26 ∨ k ∈ y4.1.weights Tryz.prog 27 → k ≤ reachBytes := fun k hk => hs k (by
    rw [hd]
    simp [DataW.weights, DataW.weightsEach, Tryz.underlying29]
    exact Or.inr hk)
  obtain ⟨o, r, l, t, s, rfl, rfl, rfl, rfl, rfl, _⟩ := trod_cfg h0
  obtain ⟨rs, hR, gR, fR⟩ := open_row ringK (tS := 24) Tryz.underlying24 (by kernel_rfl) (by kernel_rfl) (fun x => HasL W (slV x.q) x.R.ss ∧ FitR x.R) (fun n cs y hl h hs => open_ringE n cs y hl h hs) h1 (fun k hk => hw k (.inl hk))
  obtain ⟨ps, hP, gP, fP⟩ := open_row repK (tS := 25) Tryz.underlying25 (by kernel_rfl) (by kernel_rfl) (fun x => (∀ i, i < 4 → Has W (slV (x.vs i)) (x.P.s.at i)) ∧ Has W (slV x.c) x.P.cs ∧ Has W (slV x.l) x.P.ls ∧ Fit x.P.s ∧ x.P.cs.length * 8 ≤ 140737488351232 ∧ x.P.ls.length * 8 ≤ 140737488351232) (fun n cs y hl h hs => open_repE n cs y hl h hs) h2 (fun k hk => hw k (.inr (.inl hk)))
  obtain ⟨ts, hT, gT, fT⟩ := open_row thK (tS := 26) Tryz.underlying26 (by kernel_rfl) (by kernel_rfl) (fun x => Has W (slV x.b) x.T.b ∧ Has W (slV x.t) x.T.tl ∧ x.T.b.length * 8 ≤ 140737488351232 ∧ x.T.tl.length * 8 ≤ 140737488351232) (fun n cs y hl h hs => open_thE n cs y hl h hs) h3 (fun k hk => hw k (.inr (.inr (.inl hk))))
  obtain ⟨es, hE, _, fE⟩ := open_row evK (tS := 27) Tryz.underlying27 (by kernel_rfl) (by kernel_rfl) (fun _ => True) (fun n cs y hl h hs => open_evE n cs y hl h hs) h4 (fun k hk => hw k (.inr (.inr (.inr hk))))
  obtain ⟨qR, rfl⟩ := hR.sl
  obtain ⟨qP, rfl⟩ := hP.sl
  obtain ⟨qT, rfl⟩ := hT.sl
  obtain ⟨qH, rfl⟩ := hE.sl
  refine ⟨⟨⟨o, r, l, t, s⟩, rs.map LR.R, ps.map LP.P, ts.map LT.T, es⟩, ⟨qR, qP, qT, qH, rfl, ⟨rs, rfl, hR, fun x hx => (gR x hx).1⟩, ⟨ps, rfl, hP, fun x hx => ⟨(gP x hx).1, (gP x hx).2.1, (gP x hx).2.2.1⟩⟩, ⟨ts, rfl, hT, fun x hx => ⟨(gT x hx).1, (gT x hx).2.1⟩⟩, hE⟩, ⟨by rw [List.length_map]; exact fR, by rw [List.length_map]; exact fP, by rw [List.length_map]; exact fT, fE, fun R hR' => ?_, fun P hP' => ?_, fun T hT' => ?_⟩⟩
  · obtain ⟨x, hx, rfl⟩ := List.mem_map.1 hR'
    exact (gR x hx).2
  · obtain ⟨x, hx, rfl⟩ := List.mem_map.1 hP'
    exact (gP x hx).2.2.2
  · obtain ⟨x, hx, rfl⟩ := List.mem_map.1 hT'
    exact (gT x hx).2.2

end Go.Proofs.YtkddgpdlpjjpbaaGreat
