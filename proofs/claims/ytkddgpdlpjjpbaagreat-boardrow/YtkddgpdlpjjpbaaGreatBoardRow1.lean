/-
  PARTS LAID TOGETHER, each with its own opening: Bg16, BoD, BoA, BoB, BoW, MsU, BoS, Bits, BoR.
-/
import Derived.Test.YtkddgpdlpjjpbaaGreatCom5
import Derived.Test.YtkddgpdlpjjpbaaGreatCom4
import Derived.Test.YtkddgpdlpjjpbaaGreatCom3
import Derived.Test.YtkddgpdlpjjpbaaGreatCom1
import Derived.Laws.BitsLemmas
/-
  THE WALKS over choruslaw16's begun and called: a machine that begins, and one that thread 0 has called. No condition.
-/
namespace Go.Proofs.YtkddgpdlpjjpbaaGreat
open Go.RowKit

set_option maxRecDepth 8000 in
set_option maxHeartbeats 4000000 in
theorem begun16 (w : World) : Calls Tryz.prog 26 #[] w fun e w' => ∃ qR qP qT qH, e = .returned (machV begC qR qP qT qH) ∧ OwnM w' w.heap.size (machV begC qR qP qT qH) begM ∧ Le w w' := by
  have hr := Box.new w cellsZ9 29
  have hl := Le.alloc w (.cells cellsZ9 29)
  go_enter Tryz.func26, Tryz.ntmps26
  go_upto_region 1 with fail
  generalize hW : w.alloc (.cells cellsZ9 29) = W at hl hr ⊢
  clear hW
  go_wp2_with fail
  refine (begNew _).mono ?_
  rintro e w1 ⟨qR, qP, qT, qH, rfl, o, l1⟩
  replace hr := hr.le l1
  have ho := (o.base hl.size)
  replace hl := hl.trans l1
  clear o l1
  have hb := Box.new w1 (cells9 begC qR qP qT qH) 29
  have a1 := Le.alloc w1 (.cells (cells9 begC qR qP qT qH) 29)
  go_upto_region 2 with fail
  generalize hW1 : w1.alloc (.cells (cells9 begC qR qP qT qH) 29) = W1 at hb a1 ⊢
  generalize w1.heap.size = g1 at hb ⊢
  clear hW1
  replace hr := hr.le a1
  replace ho := ho.le a1
  replace hl := hl.trans a1
  clear a1
  obtain ⟨⟨z0, z1, z2, z3, z4⟩, z5, z6, z7, z8⟩ := (hb).mach
  obtain ⟨⟨r0, r1, r2, r3, r4, r5, r6, r7, r8⟩, k0, k1, k2, k3, k4, k5, k6, k7, k8⟩ := hr.res
  go_wp2_with fail
  refine bodyPost_ret (v := machV begC qR qP qT qH) (by simp [results, Tryz.results26, go_sem, r0, r1, r2, r3, r4, r5, r6, r7, r8]) rfl ⟨qR, qP, qT, qH, rfl, ?_, hl.put9 (g := w.heap.size) (Nat.le_refl _) begC qR qP qT qH⟩
  obtain ⟨L, hv, hm, ho⟩ := ho
  exact ⟨L, hv, hm, ho.put9 hr begC qR qP qT qH⟩

set_option maxRecDepth 8000 in
set_option maxHeartbeats 4000000 in
theorem called16 (w : World) : Calls Tryz.prog 28 #[] w fun e w' => ∃ qR qP qT qH, e = .returned (machV begC qR qP qT qH) ∧ OwnA w' w.heap.size (machV begC qR qP qT qH) cldM ∧ Le w w' := by
  have hr := Box.new w cellsZ9 29
  have hl := Le.alloc w (.cells cellsZ9 29)
  go_enter Tryz.func28, Tryz.ntmps28
  go_upto_region 1 with fail
  generalize hW : w.alloc (.cells cellsZ9 29) = W at hl hr ⊢
  clear hW
  go_wp2_with fail
  refine (begun16 _).mono ?_
  rintro e w0 ⟨pR, pP, pT, pH, rfl, o0, l0⟩
  replace hr := hr.le l0
  replace hl := hl.trans l0
  clear l0
  go_wp2_with fail
  refine (begCall _ _ o0.has).mono ?_
  rintro e w1 ⟨qR, qP, qT, qH, rfl, o, l1⟩
  clear o0
  replace hr := hr.le l1
  have ho := (o.base hl.size)
  replace hl := hl.trans l1
  clear o l1
  have hb := Box.new w1 (cells9 begC qR qP qT qH) 29
  have a1 := Le.alloc w1 (.cells (cells9 begC qR qP qT qH) 29)
  go_upto_region 2 with fail
  generalize hW1 : w1.alloc (.cells (cells9 begC qR qP qT qH) 29) = W1 at hb a1 ⊢
  generalize w1.heap.size = g1 at hb ⊢
  clear hW1
  replace hr := hr.le a1
  replace ho := ho.le a1
  replace hl := hl.trans a1
  clear a1
  obtain ⟨⟨z0, z1, z2, z3, z4⟩, z5, z6, z7, z8⟩ := (hb).mach
  obtain ⟨⟨r0, r1, r2, r3, r4, r5, r6, r7, r8⟩, k0, k1, k2, k3, k4, k5, k6, k7, k8⟩ := hr.res
  go_wp2_with fail
  refine bodyPost_ret (v := machV begC qR qP qT qH) (by simp [results, Tryz.results28, go_sem, r0, r1, r2, r3, r4, r5, r6, r7, r8]) rfl ⟨qR, qP, qT, qH, rfl, ?_, hl.put9 (g := w.heap.size) (Nat.le_refl _) begC qR qP qT qH⟩
  obtain ⟨L, hv, hm, ho, ha⟩ := ho
  exact ⟨L, hv, hm, ho.put9 hr begC qR qP qT qH, ha⟩

/-- .. as its history tells. -/
theorem calledL16 (w : World) : Calls Tryz.prog 28 #[] w fun e w' => ∃ qR qP qT a c, e = .returned (.agg #[.int .i64 2, .int .i64 2, .int .i64 2, .int .i64 4, .int .i64 8, slV qR, slV qP, slV qT, .slice a 1 c]) ∧ Le w w' := by
  refine (called16 w).mono ?_
  rintro e w' ⟨qR, qP, qT, qH, rfl, o, l⟩
  have hh : qH.2.1 = 1 := o.has.lens.2.2.2
  obtain ⟨a, n, c⟩ := qH
  simp only at hh
  subst hh
  exact ⟨qR, qP, qT, a, c, rfl, l⟩

end Go.Proofs.YtkddgpdlpjjpbaaGreat

/-
  PLAIN GROUND, NO WALK: package board's answers as data: what it answers of a machine that begins and of one that thread 0 has called. No condition.
-/
namespace Go.Proofs.YtkddgpdlpjjpbaaGreat
open Go.RowKit

theorem fitM_post {M : Mc} (h : FitM M) (t : Int) : FitM (postM M t).1 := by
  unfold postM
  split
  · exact h.putT t (h.th t)
  · exact fitM_zero
/-- Thread 0 waits. -/
def bo1 : Mc := cldM.putT 0 { cldM.th 0 with po := true, re := false }
theorem bo_1 : postM cldM 0 = (bo1, 0) := by decide +kernel
theorem bo_2 : waitM bo1 0 0 = ([0], 0) := by decide +kernel
theorem bo_3 : waitM bo1 0 1 = ([], 0) := by decide +kernel
theorem bo_4 : postM begM 4 = (Mc.zero, 1600) := by decide +kernel
theorem bo_5 : waitM begM 0 2 = ([], 1600) := by decide +kernel
theorem bo_may : mayM bo1 = true := by decide +kernel
theorem bo_fit : FitM bo1 := fitB_fit (by decide +kernel)
theorem bo_open {w : World} {v : Value} (h : HasM w v bo1) : ∃ qR qP bT oT cT qH, v = machV begC qR qP (some ⟨bT, oT, none⟩, 4, cT) qH ∧ w.cell? ⟨bT, oT + 8, none⟩ = some (.bool true) := by
  obtain ⟨bR, oR, cR, bP, oP, cP, bT, oT, cT, qH, rfl, _, _, hcT, _⟩ := h.opens bo_may
  obtain ⟨qb, qt, ⟨_, _, _, _, _, _, _, _, x8, _⟩, _⟩ := hcT 0 (by decide +kernel)
  have h4 : (bo1.ts.getD 0 Th.zero).po = true := by decide +kernel
  rw [h4, Nat.zero_mul, Nat.add_zero] at x8
  have h3 : bo1.ts.length = 4 := by decide +kernel
  rw [h3]
  exact ⟨_, _, bT, oT, cT, qH, rfl, x8⟩

end Go.Proofs.YtkddgpdlpjjpbaaGreat

/-
  THE WALKS over lists.Which at threads (with a function that holds three variables) and package board's Post and Waiting: what each answers, for every machine, thread and place. Condition: that the machine's rows can be copied.
-/
namespace Go.Proofs.YtkddgpdlpjjpbaaGreat
open Go.RowKit

set_option maxRecDepth 8000 in
set_option maxHeartbeats 8000000 in
theorem boardPost (v : Value) (M : Mc) (t : Int) (w : World) (hx : HasM w v M) (hf : FitM M) : Calls Tryz.prog 19 #[v, .int .i64 t] w fun e w' => ∃ v', e = .returned (.tuple #[v', .int .i64 (postM M t).2]) ∧ OwnA w' w.heap.size v' (postM M t).1 ∧ Le w w' := by
  have m1 := fun w' (l : Le w w') => machHasThread v M t w' (hx.le l) hf
  have m2 := fun w' (l : Le w w') => machCopy v M w' (hx.le l) hf
  obtain ⟨qR, qP, qT, qH, rfl, _, _, _, _⟩ := hx
  cases h1 : thereB M 0 0 t
  · have hP : postM M t = (Mc.zero, 1600) := by unfold postM; rw [h1]; rfl
    rw [hP]
    simp only [h1] at m1
    clear h1
    have hr := Box.new (w.alloc (.cells (cells9 M.c qR qP qT qH) 29)) cellsZ9 29
    have hb := (Box.new w (cells9 M.c qR qP qT qH) 29).le (Le.alloc _ (.cells cellsZ9 29))
    have hl := (Le.alloc w (.cells (cells9 M.c qR qP qT qH) 29)).trans (Le.alloc _ (.cells cellsZ9 29))
    rw [World.size_alloc] at hr
    go_enter Tryz.func19, Tryz.ntmps19
    go_upto_region 1 with fail
    generalize hW : (w.alloc (.cells (cells9 M.c qR qP qT qH) 29)).alloc (.cells cellsZ9 29) = W at hl hb hr ⊢
    clear hW
    have hgr := hr.lt
    obtain ⟨⟨z0, z1, z2, z3, z4⟩, z5, z6, z7, z8⟩ := (hb).mach
    go_wp2_with fail
    refine (m1 _ hl).mono ?_
    rintro e w1 ⟨rfl, l1⟩
    clear z0 z1 z2 z3 z4 z5 z6 z7 z8
    clear m1
    replace hb := hb.le l1
    replace hl := hl.trans l1
    have hgr := Nat.lt_of_lt_of_le hgr l1.size
    replace hr := hr.le l1
    clear l1
    obtain ⟨⟨r0, r1, r2, r3, r4, r5, r6, r7, r8⟩, k0, k1, k2, k3, k4, k5, k6, k7, k8⟩ := hr.res
    go_wp2_with fail
    refine bodyPost_ret (v := .tuple #[machZ, .int .i64 1600]) (by simp [results, Tryz.results19, go_sem, r0, r1, r2, r3, r4, r5, r6, r7, r8]) rfl ⟨_, rfl, OwnA.zero _ _, ?_⟩
    exact hl.put9 (c := Cfg.zero) (by omega) slZ slZ slZ slZ
  · have hP : postM M t = (M.putT t { M.th t with po := true, re := false }, 0) := by unfold postM; rw [h1]; rfl
    rw [hP]
    obtain ⟨hmay, _, _, ⟨t0, t1⟩⟩ := thereB_cases h1
    obtain ⟨_, _, hts, _⟩ := mayM_lens hmay
    obtain ⟨t, rfl⟩ : ∃ n : Nat, t = n := ⟨t.toNat, by omega⟩
    simp only [h1] at m1
    have hti : t < M.ts.length := by omega
    clear h1 hmay t1 hts hP
    have hr := Box.new (w.alloc (.cells (cells9 M.c qR qP qT qH) 29)) cellsZ9 29
    have hb := (Box.new w (cells9 M.c qR qP qT qH) 29).le (Le.alloc _ (.cells cellsZ9 29))
    have hl := (Le.alloc w (.cells (cells9 M.c qR qP qT qH) 29)).trans (Le.alloc _ (.cells cellsZ9 29))
    rw [World.size_alloc] at hr
    go_enter Tryz.func19, Tryz.ntmps19
    go_upto_region 1 with fail
    generalize hW : (w.alloc (.cells (cells9 M.c qR qP qT qH) 29)).alloc (.cells cellsZ9 29) = W at hl hb hr ⊢
    clear hW
    have hgr := hr.lt
    obtain ⟨⟨z0, z1, z2, z3, z4⟩, z5, z6, z7, z8⟩ := (hb).mach
    go_wp2_with fail
    refine (m1 _ hl).mono ?_
    rintro e w1 ⟨rfl, l1⟩
    clear z0 z1 z2 z3 z4 z5 z6 z7 z8
    clear m1
    replace hb := hb.le l1
    replace hl := hl.trans l1
    have hgr := Nat.lt_of_lt_of_le hgr l1.size
    replace hr := hr.le l1
    clear l1
    have hl1 := hl
    obtain ⟨⟨z0, z1, z2, z3, z4⟩, z5, z6, z7, z8⟩ := (hb).mach
    go_wp2_with fail
    refine (m2 _ hl).mono ?_
    rintro e w9 ⟨⟨c', uR, uP, uT, uH, xR, xP, xT, xH⟩, rfl, HM, o1, ap, l1⟩
    clear z0 z1 z2 z3 z4 z5 z6 z7 z8
    clear m2
    replace hb := hb.le l1
    obtain ⟨⟨z0, z1, z2, z3, z4⟩, z5, z6, z7, z8⟩ := (hb).mach
    have f0 := (hb).frozen 0
    have f1 := (hb).frozen 1
    have f2 := (hb).frozen 2
    have f3 := (hb).frozen 3
    have f4 := (hb).frozen 4
    have f5 := (hb).frozen 5
    have f6 := (hb).frozen 6
    have f7 := (hb).frozen 7
    have f8 := (hb).frozen 8
    have hlB : w.heap.size ≤ w1.heap.size := hl.size
    have o2 := (o1.base hlB).put9 hb c' uR uP uT uH
    have hb2 := hb.put9 rfl c' uR uP uT uH
    have hr2 := (hr.le l1).off9 (show w.heap.size + 1 ≠ w.heap.size by omega) c' uR uP uT uH
    have l01 := (hl.trans l1).put9 (g := w.heap.size) (Nat.le_refl _) c' uR uP uT uH
    try simp only at o2
    go_upto_region 4 with fail
    clear z0 z1 z2 z3 z4 z5 z6 z7 z8 f0 f1 f2 f3 f4 f5 f6 f7 f8 hb hr hl o1 l1
    show Code.wp _ _ _ _ (put9 w9 w.heap.size c' uR uP uT uH)
    generalize hW1 : put9 w9 w.heap.size c' uR uP uT uH = W1 at o2 hb2 hr2 l01 ⊢
    clear hW1
    have I : MoI w.heap.size w.heap.size W1 ⟨c', uR, uP, uT, uH, xR, xP, xT, xH⟩ := ⟨hb2, Nat.le_refl _, o2, ap⟩
    have hr := hr2
    have hl := l01
    clear o2 hb2 hr2
    have hiT : t < xT.length := by have := lay_ts HM; simp only at this; omega
    have hiT' : (t : Int) < (xT.length : Int) := by omega
    obtain ⟨gT, capT, hqT, hcapT, hgBT, hgltT, hgneT, hatT, hfzT⟩ := I.openT hiT
    try simp only at hqT hatT hcapT
    subst hqT
    obtain ⟨⟨y0, y1, y2, y3, y4⟩, y5, y6, y7, y8⟩ := (I.bo).mach
    simp only [slV] at y7
    obtain ⟨_, _, _, _, _, _, _, _, x8, x9, _, _⟩ := hatT
    have f8 := hfzT (t * 12 + 8)
    have f9 := hfzT (t * 12 + 9)
    clear hfzT
    obtain ⟨x0, hx0⟩ : ∃ x0, x0 = xT.getD t thK.d := ⟨_, rfl⟩
    have I2 := I.setTx (j := 8) (u := .bool true) rfl hiT (by decide) x0 hx0.symm { x0.T with po := true } rfl rfl rfl
    have I3 := I2.setTy (j := 9) (u := .bool false) rfl hiT (by decide) { x0.T with po := true, re := false } rfl rfl rfl
    have l2 := (hl.set (g := gT) (i := t * 12 + 8) (u := .bool true) hgBT).set (g := gT) (i := t * 12 + 9) (u := .bool false) hgBT
    have hne : w.heap.size + 1 ≠ gT := I.neT rfl hr (by decide)
    have hr2 := (hr.other hne (t * 12 + 8) (.bool true)).other hne (t * 12 + 9) (.bool false)
    go_upto_region 6 with fail
    generalize hW2 : (W1.setCell ⟨gT, t * 12 + 8, none⟩ (.bool true)).setCell ⟨gT, t * 12 + 9, none⟩ (.bool false) = W2 at I3 l2 hr2 ⊢
    clear y0 y1 y2 y3 y4 y5 y6 y7 y8
    clear hW2 hr I I2 x8 x9 f8 f9
    obtain ⟨⟨y0, y1, y2, y3, y4⟩, y5, y6, y7, y8⟩ := (I3.bo).mach
    obtain ⟨⟨r0, r1, r2, r3, r4, r5, r6, r7, r8⟩, k0, k1, k2, k3, k4, k5, k6, k7, k8⟩ := hr2.res
    go_wp2_with fail
    refine bodyPost_ret (v := .tuple #[machV c' uR uP (some ⟨gT, 0, none⟩, xT.length, capT) uH, .int .i64 0]) (by simp [results, Tryz.results19, go_sem, r0, r1, r2, r3, r4, r5, r6, r7, r8]) rfl ⟨_, rfl, ?_, (l2).put9 (g := w.heap.size + 1) (by omega) c' uR uP (some ⟨gT, 0, none⟩, xT.length, capT) uH⟩
    have := (I3.ret hr2)
    rw [lay_setT HM] at this
    simp only [hx0, lay_th HM hiT] at this
    exact this

/-- The numbers of those of which it is so. -/
def whichL (p : Nat → Bool) (n : Nat) : List Int := ((List.range n).filter p).map Int.ofNat
theorem whichL_no {p : Nat → Bool} {k : Nat} (h : p k = false) : whichL p (k + 1) = whichL p k := by
  unfold whichL
  rw [List.range_succ, List.filter_append, List.map_append]
  simp [h]
theorem whichL_yes {p : Nat → Bool} {k : Nat} (h : p k = true) : whichL p (k + 1) = whichL p k ++ [(k : Int)] := by
  unfold whichL
  rw [List.range_succ, List.filter_append, List.map_append]
  simp [h]
theorem whichL_len (p : Nat → Bool) (k : Nat) : (whichL p k).length ≤ k := by
  unfold whichL
  rw [List.length_map]
  exact Nat.le_trans (List.length_filter_le _ _) (by simp)

set_option maxRecDepth 8000 in
set_option maxHeartbeats 8000000 in
theorem listsWhich (f : Nat) (c1 c2 c3 : Value) (p : Nat → Bool) (hc : ∀ (a u : Value) (w : World), (callFunc f #[a, u, c1, c2, c3]).run Tryz.prog w = .ok (.enter f #[a, u, c1, c2, c3]) w) (v : Value) (xs : List Th) (w : World)
    (hp : ∀ w', Le w w' → ∀ (k : Nat) (u : Value), k < xs.length → HasT w' u (xs.getD k Th.zero) → Calls Tryz.prog f #[.int .i64 k, u, c1, c2, c3] w' fun e w'' => e = .returned (.bool (p k)) ∧ Le w' w'') (hx : HasTs w v xs) (hm : xs.length ≤ 4) :
    Calls Tryz.prog 51 #[v, .func (.func f) #[] #[c1, c2, c3]] w fun e w' => ∃ q : Sl, e = .returned (slV q) ∧ Own w' w.heap.size (slV q) (whichL p xs.length) ∧ Le w w' := by
  obtain ⟨a, cap, rfl, hc', _, hx⟩ := hx.open
  by_cases h0 : 0 < xs.length
  · obtain ⟨b, off, rfl, hcell⟩ := hx h0
    clear hx
    obtain ⟨L, hL⟩ : ∃ L, L = xs.length := ⟨_, rfl⟩
    have HL : Hid (L = xs.length) := hL
    rw [← hL] at hm h0 hc' hcell ⊢
    clear hL
    go_enter Tryz.func51, Tryz.ntmps51
    go_wp2
    go_loopw [5, 10] (fun o i wr => ∃ (k : Nat) (q : Sl), k ≤ L ∧ o = slV q ∧ i = .int .i64 k ∧ Hid (Own wr w.heap.size (slV q) (whichL p k)) ∧ Le w wr) (fun _ i _ => L - (intOf i).toNat)
    case atStart => exact ⟨0, slZ, by omega, rfl, rfl, Own.nil _ _, Le.refl _⟩
    case round =>
      obtain ⟨k, q, hk, rfl, rfl, HO, hle⟩ := hrel
      by_cases hlt : k < L
      · obtain ⟨qb, qt, rA, hqb, hqt⟩ := hcell k hlt
        obtain ⟨s, hs⟩ : ∃ s, s = xs.getD k Th.zero := ⟨_, rfl⟩
        have HS : Hid (s = xs.getD k Th.zero) := hs
        have hm2 := fun w' (l : Le w w') => hp w' l k (thV s qb qt) (by have := HL.out; omega) (by rw [← hs]; exact ⟨qb, qt, rfl, by rw [hs]; exact hqb.le l, by rw [hs]; exact hqt.le l⟩)
        rw [← hs] at rA
        obtain ⟨x0, x1, x2, x3, x4, x5, x6, x7, x8, x9, x10, x11⟩ := rA.le hle
        have hlt' : (k : Int) < (L : Int) := by omega
        clear hs hcell hp hqb hqt rA
        cases hh : p k
        · simp only [hh] at hm2
          have HN : Hid (whichL p (k + 1) = whichL p k) := whichL_no hh
          clear hh
          go_wp2_with fail
          refine (hm2 _ (hle.trans (Le.alloc _ _))).mono ?_
          rintro e w1 ⟨rfl, l1⟩
          go_wp2
          go_roundw
          case rel => exact ⟨k + 1, q, by omega, rfl, by go_num, by rw [HN.out]; exact (HO.out.le (Le.alloc _ _)).le l1, (hle.trans (Le.alloc _ _)).trans l1⟩
          case measure => simp [intOf]; omega
        · simp only [hh] at hm2
          have HN : Hid (whichL p (k + 1) = whichL p k ++ [(k : Int)]) := whichL_yes hh
          clear hh
          go_wp2_with fail
          refine (hm2 _ (hle.trans (Le.alloc _ _))).mono ?_
          rintro e w3 ⟨rfl, l3⟩
          have h13 := (hle.trans (Le.alloc _ _)).trans l3
          have ho := (HO.out.le (Le.alloc _ _)).le l3
          have hlit := Own.lit w3 w3.heap.size (Nat.le_refl _) [(k : Int)] (by simp)
          replace hlit : Own (w3.alloc (.cells #[.int .i64 (k : Int)] 3)) w3.heap.size (.slice (some ⟨w3.heap.size, 0, none⟩) 1 1) [(k : Int)] := hlit
          have hA4 := Le.alloc w3 (.cells #[.int .i64 (k : Int)] 3)
          have ho4 := ho.le hA4
          have h14 := h13.trans hA4
          have hwl := whichL_len p k
          go_wp2_with (at_builtin; refine wp_append_ints rfl _ _ rfl w.heap.size _ _ (whichL p k) [(k : Int)] rfl rfl ho4 hlit.has (by show ((whichL p k).length + 1) * 8 ≤ _; omega) h14.size ?_; intro v' w7 o8 hg8; obtain ⟨q', rfl⟩ := o8.has.sl)
          go_roundw
          case rel => exact ⟨k + 1, q', by omega, rfl, by go_num, by rw [HN.out]; exact o8, Below.grown h14 hg8 h14.size (fun gz e => (ho4.block e).1)⟩
          case measure => simp [intOf]; omega
      · obtain rfl : k = L := by omega
        go_wp2
        go_ret
        exact ⟨q, rfl, HO.out, hle⟩
  · have hxn : xs = [] := by cases xs with | nil => rfl | cons _ _ => simp at h0
    subst hxn
    go_enter Tryz.func51, Tryz.ntmps51
    go_wp2
    refine wp_loop_rounds 1 ?_
    rw [rounds_succ]
    go_wp2
    go_ret
    exact ⟨slZ, rfl, Own.nil _ _, Le.refl _⟩

set_option maxRecDepth 8000 in
set_option maxHeartbeats 8000000 in
theorem boardWaits (M : Mc) (r g : Int) (k gm gr gg : Nat) (qR qP qT qH qb qt : Sl) (w : World) (hmay : mayM M = true) (hk : k < M.ts.length) (bm : Box w gm (cells9 M.c qR qP qT qH) 29) (br : Box w gr #[.int .i64 r] 3) (bg : Box w gg #[.int .i64 g] 3) :
    Calls Tryz.prog 48 #[.int .i64 k, thV (M.ts.getD k Th.zero) qb qt, .pointer (some ⟨gm, 0, none⟩), .pointer (some ⟨gr, 0, none⟩), .pointer (some ⟨gg, 0, none⟩)] w fun e w' => e = .returned (.bool (waitsB M r g k)) ∧ Le w w' := by
  obtain ⟨_, _, hts, _⟩ := mayM_lens hmay
  obtain ⟨_, ⟨_, _⟩, _⟩ := Cfg.ok_cases (mayM_ok hmay)
  have hrep : repS M.c.o M.c.r M.c.l M.c.t M.c.s (k : Int) = ((k : Int) % M.c.r, 0) := repS_yes (mayM_ok hmay) (by omega) (by omega)
  have m2 := fun w' => repAs hrep w'
  obtain ⟨T, hT⟩ : ∃ x, x = M.ts.getD k Th.zero := ⟨_, rfl⟩
  have HV : Hid (waitsB M r g k = (decide ((k : Int) % M.c.r = r) && (opUp T.c T.r T.a && (decide (T.lg = g) && T.po)))) := by unfold waitsB; rw [Mc.th_nat, ← hT]; exact rfl
  rw [← hT]
  obtain ⟨hm, hhm⟩ : ∃ x, x = (k : Int) % M.c.r := ⟨_, rfl⟩
  rw [← hhm] at m2 HV
  clear hhm hT hts hrep hmay hk
  have hbx := Box.new w (cellsT T qb qt) 63
  have hA := Le.alloc w (.cells (cellsT T qb qt) 63)
  have br0 := br.cell 0
  have bg0 := bg.cell 0
  simp only [List.getElem?_toArray, List.getElem?_cons_zero] at br0 bg0
  go_enter Tryz.func48, Tryz.ntmps48
  go_upto_region 1 with fail
  generalize hW : w.alloc (.cells (cellsT T qb qt) 63) = W at hbx hA ⊢
  clear hW
  obtain ⟨⟨z0, z1, z2, z3, z4⟩, z5, z6, z7, z8⟩ := ((bm.le hA)).mach
  replace br0 := cell_le br0 hA
  replace bg0 := cell_le bg0 hA
  obtain ⟨x0, x1, x2, x3, x4, x5, x6, x7, x8, x9, x10, x11⟩ := hbx.th
  go_wp2_with fail
  refine (m2 _).mono ?_
  rintro e w3 ⟨rfl, l3⟩
  clear z0 z1 z2 z3 z4 z5 z6 z7 z8
  clear x0 x1 x2 x3 x4 x5 x6 x7 x8 x9 x10 x11
  obtain ⟨x0, x1, x2, x3, x4, x5, x6, x7, x8, x9, x10, x11⟩ := (hbx.le l3).th
  replace br0 := cell_le br0 l3
  replace bg0 := cell_le bg0 l3
  have hl := hA.trans l3
  by_cases e1 : hm = r
  case neg =>
    have hb1 : (hm == r) = false := by simp [e1]
    have hV : Hid _ := (show waitsB M r g k = false by rw [HV.out, decide_eq_false e1]; rfl)
    clear e1
    go_wp2_with fail
    go_ret
    exact ⟨ret_bool hV.out.symm, hl⟩
  have hb1 : (hm == r) = true := by simp [e1]
  have HE1 : Hid (decide (hm = r) = true) := decide_eq_true e1
  clear e1
  by_cases e3 : T.lg = g
  case neg =>
    have hb3 : (T.lg == g) = false := by simp [e3]
    have hV : Hid _ := (show waitsB M r g k = false by rw [HV.out, HE1.out, decide_eq_false e3]; simp)
    clear e3
    go_wp2_with fail
    go_ret
    exact ⟨ret_bool hV.out.symm, hl⟩
  have HE3 : Hid (decide (T.lg = g) = true) := decide_eq_true e3
  have hb3 : (T.lg == g) = true := by simp [e3]
  clear e3
  cases e4 : T.po
  · rw [e4] at x8
    have hV : Hid _ := (show waitsB M r g k = false by rw [HV.out, e4]; simp)
    clear e4
    go_wp2_with fail
    go_ret
    exact ⟨ret_bool hV.out.symm, hl⟩
  rw [e4] at x8
  have hV : Hid _ := (show waitsB M r g k = opUp T.c T.r T.a by rw [HV.out, HE1.out, HE3.out, e4]; simp)
  clear e4 HV HE1 HE3
  have m4 := fun w' => operUpdates T.c T.r T.a w'
  obtain ⟨y, hy⟩ : ∃ y, y = opUp T.c T.r T.a := ⟨_, rfl⟩
  rw [← hy] at m4
  have hV2 : Hid _ := (show waitsB M r g k = y by rw [hV.out, hy])
  clear hy hV
  go_wp2_with fail
  refine (m4 _).mono ?_
  rintro e w5 ⟨rfl, l5⟩
  go_wp2_with fail
  go_ret
  exact ⟨ret_bool hV2.out.symm, hl.trans l5⟩

set_option maxRecDepth 8000 in
set_option maxHeartbeats 8000000 in
theorem boardWaiting (v : Value) (M : Mc) (r g : Int) (w : World) (hx : HasM w v M) (hf : FitM M) : Calls Tryz.prog 21 #[v, .int .i64 r, .int .i64 g] w fun e w' => ∃ q : Sl, e = .returned (.tuple #[slV q, .int .i64 (waitM M r g).2]) ∧ Own w' w.heap.size (slV q) (waitM M r g).1 ∧ Le w w' := by
  have m1 := fun w' (l : Le w w') => machHasLog v M r g w' (hx.le l) hf
  obtain ⟨qR, qP, qT, qH, rfl, _, _, hT, _⟩ := hx
  obtain ⟨W0, hW0⟩ : ∃ W0, W0 = w.alloc (.cells (cells9 M.c qR qP qT qH) 29) := ⟨_, rfl⟩
  have a0 : Le w W0 := by rw [hW0]; exact Le.alloc _ _
  have b0 : Box W0 w.heap.size (cells9 M.c qR qP qT qH) 29 := by rw [hW0]; exact Box.new _ _ _
  have s0 : W0.heap.size = w.heap.size + 1 := by rw [hW0, World.size_alloc]
  have hb := (b0.le (Le.alloc _ (.cells #[.int .i64 r] 3))).le (Le.alloc _ (.cells #[.int .i64 g] 3))
  have hr := (Box.new W0 #[.int .i64 r] 3).le (Le.alloc _ (.cells #[.int .i64 g] 3))
  have hg := Box.new (W0.alloc (.cells #[.int .i64 r] 3)) #[.int .i64 g] 3
  have hl := (a0.trans (Le.alloc W0 (.cells #[.int .i64 r] 3))).trans (Le.alloc _ (.cells #[.int .i64 g] 3))
  rw [World.size_alloc] at hg
  rw [s0] at hr hg
  rw [hW0] at hb hr hg hl
  clear b0 a0 s0 hW0 W0
  cases h1 : atRG M r g
  · have hP : waitM M r g = ([], 1600) := by unfold waitM; rw [atRG_zero, h1]; rfl
    rw [hP]
    simp only [h1] at m1
    clear h1
    go_enter Tryz.func21, Tryz.ntmps21
    go_upto_region 1 with fail
    generalize hW : ((w.alloc (.cells (cells9 M.c qR qP qT qH) 29)).alloc (.cells #[.int .i64 r] 3)).alloc (.cells #[.int .i64 g] 3) = W at hl hb hr hg ⊢
    clear hW
    have r0 := hr.cell 0
    have g0 := hg.cell 0
    simp only [List.getElem?_toArray, List.getElem?_cons_zero] at r0 g0
    obtain ⟨⟨z0, z1, z2, z3, z4⟩, z5, z6, z7, z8⟩ := (hb).mach
    go_wp2_with fail
    refine (m1 _ hl).mono ?_
    rintro e w1 ⟨rfl, l1⟩
    go_wp2_with fail
    refine bodyPost_ret (v := .tuple #[.slice none 0 0, .int .i64 1600]) (by simp [results, Tryz.results21, go_sem]) rfl ⟨slZ, rfl, Own.nil _ _, hl.trans l1⟩
  · have hmay : mayM M = true := by unfold atRG at h1; simp only [Bool.and_eq_true] at h1; exact h1.1
    obtain ⟨_, _, hts, _⟩ := mayM_lens hmay
    obtain ⟨_, _, _, ⟨_, t3⟩, _, _⟩ := Cfg.ok_cases (mayM_ok hmay)
    have hP : waitM M r g = (whichL (waitsB M r g) M.ts.length, 0) := by
      unfold waitM
      rw [atRG_zero, h1, show M.ts.length = M.c.t.toNat by omega]
      rfl
    rw [hP]
    simp only [h1] at m1
    have m3 := fun W (l : Le w W) (bm : Box W w.heap.size (cells9 M.c qR qP qT qH) 29) (br : Box W (w.heap.size + 1) #[.int .i64 r] 3) (bg : Box W (w.heap.size + 1 + 1) #[.int .i64 g] 3) =>
      listsWhich 48 (.pointer (some ⟨w.heap.size, 0, none⟩)) (.pointer (some ⟨w.heap.size + 1, 0, none⟩)) (.pointer (some ⟨w.heap.size + 1 + 1, 0, none⟩)) (waitsB M r g) (fun _ _ _ => by kernel_rfl) (slV qT) M.ts W
        (fun w' l' k u hk hu => by obtain ⟨qb, qt, rfl, _, _⟩ := hu; exact boardWaits M r g k _ _ _ qR qP qT qH qb qt w' hmay hk (bm.le l') (br.le l') (bg.le l')) (hT.le l) (by omega)
    clear h1 hts t3 hP hmay hT
    go_enter Tryz.func21, Tryz.ntmps21
    go_upto_region 1 with fail
    generalize hW : ((w.alloc (.cells (cells9 M.c qR qP qT qH) 29)).alloc (.cells #[.int .i64 r] 3)).alloc (.cells #[.int .i64 g] 3) = W at hl hb hr hg ⊢
    clear hW
    have r0 := hr.cell 0
    have g0 := hg.cell 0
    simp only [List.getElem?_toArray, List.getElem?_cons_zero] at r0 g0
    obtain ⟨⟨z0, z1, z2, z3, z4⟩, z5, z6, z7, z8⟩ := (hb).mach
    go_wp2_with fail
    refine (m1 _ hl).mono ?_
    rintro e w1 ⟨rfl, l1⟩
    clear z0 z1 z2 z3 z4 z5 z6 z7 z8
    clear r0 g0
    replace hl := hl.trans l1
    replace hb := hb.le l1
    have m4 := m3 _ hl hb (hr.le l1) (hg.le l1)
    clear m3
    obtain ⟨⟨z0, z1, z2, z3, z4⟩, z5, z6, z7, z8⟩ := (hb).mach
    go_wp2_with fail
    refine m4.mono ?_
    rintro e w2 ⟨q, rfl, o, l2⟩
    go_wp2_with fail
    refine bodyPost_ret (v := .tuple #[slV q, .int .i64 0]) (by simp [results, Tryz.results21, go_sem]) rfl ⟨q, rfl, o.base hl.size, hl.trans l2⟩

end Go.Proofs.YtkddgpdlpjjpbaaGreat

/-
  THE WALKS over package board's Post and Waiting and the document's, their answers written out. Condition: that the machine's rows can be copied.
-/
namespace Go.Proofs.YtkddgpdlpjjpbaaGreat
open Go.RowKit

theorem boardPostAs {M N : Mc} {t er : Int} (h : postM M t = (N, er)) (v : Value) (w : World) (hx : HasM w v M) (hf : FitM M) : Calls Tryz.prog 19 #[v, .int .i64 t] w fun e w' => ∃ qR qP qT qH, e = .returned (.tuple #[machV N.c qR qP qT qH, .int .i64 er]) ∧ OwnA w' w.heap.size (machV N.c qR qP qT qH) N ∧ Le w w' := by
  have := boardPost v M t w hx hf
  rw [h] at this
  refine this.mono ?_
  rintro e w' ⟨v', rfl, o, l⟩
  obtain ⟨qR, qP, qT, qH, rfl⟩ := o.open
  exact ⟨_, _, _, _, rfl, o, l⟩
theorem rmPostAs {M N : Mc} {t er : Int} (h : postM M t = (N, er)) (v : Value) (w : World) (hx : HasM w v M) (hf : FitM M) : Calls Tryz.prog 20 #[v, .int .i64 t] w fun e w' => ∃ qR qP qT qH, e = .returned (.tuple #[machV N.c qR qP qT qH, .int .i64 er]) ∧ OwnA w' w.heap.size (machV N.c qR qP qT qH) N ∧ Le w w' := by
  have := rmPost v M t w hx hf
  rw [h] at this
  refine this.mono ?_
  rintro e w' ⟨v', rfl, o, l⟩
  obtain ⟨qR, qP, qT, qH, rfl⟩ := o.open
  exact ⟨_, _, _, _, rfl, o, l⟩
theorem boardWaitAs {M : Mc} {r g er : Int} {xs : List Int} (h : waitM M r g = (xs, er)) (v : Value) (w : World) (hx : HasM w v M) (hf : FitM M) : Calls Tryz.prog 21 #[v, .int .i64 r, .int .i64 g] w fun e w' => ∃ a c, e = .returned (.tuple #[.slice a xs.length c, .int .i64 er]) ∧ Own w' w.heap.size (.slice a xs.length c) xs ∧ Le w w' := by
  have := boardWaiting v M r g w hx hf
  rw [h] at this
  refine this.mono ?_
  rintro e w' ⟨⟨a, n, c⟩, rfl, o, l⟩
  have hn : n = xs.length := o.has.len
  subst hn
  exact ⟨a, c, rfl, o, l⟩
theorem rmWaitAs {M : Mc} {r g er : Int} {xs : List Int} (h : waitM M r g = (xs, er)) (v : Value) (w : World) (hx : HasM w v M) (hf : FitM M) : Calls Tryz.prog 22 #[v, .int .i64 r, .int .i64 g] w fun e w' => ∃ a c, e = .returned (.tuple #[.slice a xs.length c, .int .i64 er]) ∧ Own w' w.heap.size (.slice a xs.length c) xs ∧ Le w w' := by
  have := rmWaiting v M r g w hx hf
  rw [h] at this
  refine this.mono ?_
  rintro e w' ⟨⟨a, n, c⟩, rfl, o, l⟩
  have hn : n = xs.length := o.has.len
  subst hn
  exact ⟨a, c, rfl, o, l⟩

end Go.Proofs.YtkddgpdlpjjpbaaGreat

/-
  THE WALK over choruslaw16's awake. No condition.
-/
namespace Go.Proofs.YtkddgpdlpjjpbaaGreat
open Go.RowKit

set_option maxRecDepth 8000 in
set_option maxHeartbeats 4000000 in
theorem lawAwake16 (w : World) : Calls Tryz.prog 25 #[] w fun e w' => e = .returned (.bool true) ∧ Le w w' := by
  have hl := Le.refl w
  go_enter Tryz.func25, Tryz.ntmps25
  go_upto_region 1 with fail
  go_wp2_with fail
  refine (called16 _).mono ?_
  rintro e w0 ⟨pR, pP, pT, pH, rfl, o0, l0⟩
  go_wp2_with fail
  refine (boardPostAs bo_1 _ _ o0.has cld_fit).mono ?_
  rintro e w1 ⟨aR, aP, aT, aH, rfl, oA, l1⟩
  obtain ⟨xR, xP, bT, oT, cT, xH, hv, c8⟩ := bo_open oA.has
  have hbc : bo1.c = begC := rfl
  rw [hbc] at hv oA ⊢
  rw [hv] at oA ⊢
  clear hv hbc aR aP aT aH o0
  obtain ⟨xT, hxT⟩ : ∃ q : Sl, q = (some ⟨bT, oT, none⟩, 4, cT) := ⟨_, rfl⟩
  rw [← hxT] at oA ⊢
  have HXT : Hid (xT = (some ⟨bT, oT, none⟩, 4, cT)) := hxT
  clear hxT
  replace hl := (hl.trans l0).trans l1
  clear l0 l1
  have hbA := Box.new w1 (cells9 begC xR xP xT xH) 29
  have a1 := Le.alloc w1 (.cells (cells9 begC xR xP xT xH) 29)
  go_upto_region 2 with fail
  generalize hW1 : w1.alloc (.cells (cells9 begC xR xP xT xH) 29) = W1 at hbA a1 ⊢
  clear hW1
  have hggA : w1.heap.size ≤ w1.heap.size := Nat.le_refl _
  generalize hgg : w1.heap.size = gA at hbA hggA ⊢
  have hsgA : w1.heap.size ≤ gA := by omega
  clear hgg hggA
  replace hl := hl.trans a1
  replace oA := oA.le a1
  replace c8 := cell_le c8 a1
  clear a1
  have hA := oA.has
  clear oA
  obtain ⟨⟨z0, z1, z2, z3, z4⟩, z5, z6, z7, z8⟩ := (hbA).mach
  go_wp2_with fail
  refine (boardWaitAs bo_2 _ _ hA bo_fit).mono ?_
  rintro e w2 ⟨y2, d2, rfl, o2, l2⟩
  have x2 := o2.has
  clear z0 z1 z2 z3 z4 z5 z6 z7 z8
  replace hl := hl.trans l2
  replace hbA := hbA.le l2
  replace hA := hA.le l2
  replace c8 := cell_le c8 l2
  clear l2 o2
  obtain ⟨⟨z0, z1, z2, z3, z4⟩, z5, z6, z7, z8⟩ := (hbA).mach
  go_wp2_with fail
  refine (boardWaitAs bo_3 _ _ hA bo_fit).mono ?_
  rintro e w3 ⟨y3, d3, rfl, _, l3⟩
  clear z0 z1 z2 z3 z4 z5 z6 z7 z8
  clear hA
  replace hl := hl.trans l3
  replace hbA := hbA.le l3
  replace c8 := cell_le c8 l3
  replace x2 := x2.le l3
  clear l3
  go_wp2_with fail
  refine (begun16 _).mono ?_
  rintro e w4 ⟨pR, pP, pT, pH, rfl, o4, l4⟩
  go_wp2_with fail
  refine (boardPostAs bo_4 _ _ o4.has beg_fit).mono ?_
  rintro e w5 ⟨uR, uP, uT, uH, rfl, _, l5⟩
  replace l4 := l4.trans l5
  clear o4 l5
  replace hl := hl.trans l4
  replace hbA := hbA.le l4
  replace c8 := cell_le c8 l4
  replace x2 := x2.le l4
  clear l4
  have hbD := Box.new w5 (cells9 Mc.zero.c uR uP uT uH) 29
  have a1 := Le.alloc w5 (.cells (cells9 Mc.zero.c uR uP uT uH) 29)
  go_upto_region 5 with fail
  generalize hW1 : w5.alloc (.cells (cells9 Mc.zero.c uR uP uT uH) 29) = W5 at hbD a1 ⊢
  clear hW1
  have hggD : w5.heap.size ≤ w5.heap.size := Nat.le_refl _
  generalize hgg : w5.heap.size = gD at hbD hggD ⊢
  have hsgD : w5.heap.size ≤ gD := by omega
  clear hgg hggD
  replace hl := hl.trans a1
  replace hbA := hbA.le a1
  replace c8 := cell_le c8 a1
  replace x2 := x2.le a1
  clear a1 hbD
  go_wp2_with fail
  refine (begun16 _).mono ?_
  rintro e w6 ⟨pR, pP, pT, pH, rfl, o6, l6⟩
  go_wp2_with fail
  refine (boardWaitAs bo_5 _ _ o6.has beg_fit).mono ?_
  rintro e w7 ⟨y7, d7, rfl, _, l7⟩
  replace l6 := l6.trans l7
  clear o6 l7
  replace hl := hl.trans l6
  replace hbA := hbA.le l6
  replace c8 := cell_le c8 l6
  replace x2 := x2.le l6
  clear l6
  have hlit := (Own.lit w7 w7.heap.size (Nat.le_refl _) [0] (by simp)).has
  have hs1 := lawSameInts _ _ [0] [0] _ (x2.le (Le.alloc _ _)) hlit (by simp)
  simp only [decide_true, List.length_cons, List.length_nil, List.map_cons, List.map_nil, Nat.zero_add] at hs1
  clear hlit x2
  obtain ⟨⟨z0, z1, z2, z3, z4⟩, z5, z6, z7, z8⟩ := (hbA).mach
  rw [HXT.out] at z7
  simp only [slV] at z7
  go_wp2_with (first | (go_at_call 15; refine (lawNum _ _).mono ?_; rintro e _ ⟨rfl, rfl⟩) | (go_at_call 23; refine Calls.mono hs1 ?_; rintro e _ ⟨rfl, n8, rfl⟩))
  go_ret
  exact ⟨rfl, (hl.trans (Le.alloc _ _)).trans (Le.drewN _ _)⟩

end Go.Proofs.YtkddgpdlpjjpbaaGreat

/-
  PLAIN GROUND, NO WALK: what of a machine may be turned so that it may be still. No condition.
-/
namespace Go.Proofs.YtkddgpdlpjjpbaaGreat
open Go.RowKit

structure MayP (M : Mc) : Prop where
  ok : M.c.ok = true
  lr : (M.rs.length : Int) = M.c.l
  rs : ∀ R ∈ M.rs, ringB M.c R = true
  lp : (M.ps.length : Int) = M.c.r
  ps : ∀ P ∈ M.ps, repB M.c M.rs P = true
  lt : (M.ts.length : Int) = M.c.t
  ts : ∀ T ∈ M.ts, thB M.c T = true
  le : (M.es.length : Int) ≤ 64
  es : ∀ E ∈ M.es, evB M.c E = true
theorem mayM_iff {M : Mc} : mayM M = true ↔ MayP M := by
  constructor
  · intro h
    obtain ⟨a, b, c, d⟩ := mayM_lens h
    exact ⟨mayM_ok h, a, mayM_rs h, b, mayM_ps h, c, mayM_ts h, d, mayM_es h⟩
  · intro h
    unfold mayM
    simp only [Bool.and_eq_true, decide_eq_true_eq, List.all_eq_true]
    exact ⟨h.ok, ⟨h.lr, h.rs⟩, ⟨h.lp, h.ps⟩, ⟨h.lt, h.ts⟩, h.le, h.es⟩
theorem thB_yes {c : Cfg} {T : Th} (h1 : 0 ≤ T.st ∧ T.st ≤ 19) (h2 : opMay T.c T.r T.a = true) (h3 : 0 ≤ T.lg ∧ T.lg ≤ c.l - 1) (h4 : 0 ≤ T.sn ∧ T.sn ≤ 1048576) (h5 : (T.b.length : Int) ≤ c.t) (h6 : ∀ x ∈ T.b, 0 ≤ x ∧ x ≤ c.t - 1) (h7 : 0 ≤ T.pl ∧ T.pl ≤ T.b.length) (h8 : (T.tl.length : Int) ≤ c.l) (h9 : ∀ x ∈ T.tl, 0 ≤ x ∧ x ≤ 1048576) : thB c T = true := by
  unfold thB
  simp only [Bool.and_eq_true, decide_eq_true_eq, List.all_eq_true]
  exact ⟨inB_yes h1.1 h1.2, h2, inB_yes h3.1 h3.2, inB_yes h4.1 h4.2, ⟨h5, fun x hx => inB_yes (h6 x hx).1 (h6 x hx).2⟩, inB_yes h7.1 h7.2, h8, fun x hx => inB_yes (h9 x hx).1 (h9 x hx).2⟩
theorem repB_yes {c : Cfg} {Rs : List Rg} {P : Rp} (h1 : objMay c.o P.s = true) (h2 : (P.cs.length : Int) = c.l) (h3 : cursOK Rs P.cs = true) (h4 : (P.ls.length : Int) = c.l) (h5 : ∀ x ∈ P.ls, 0 ≤ x ∧ x ≤ c.t) : repB c Rs P = true := by
  unfold repB
  simp only [Bool.and_eq_true, decide_eq_true_eq, List.all_eq_true]
  exact ⟨h1, h2, h3, h4, fun x hx => inB_yes (h5 x hx).1 (h5 x hx).2⟩
theorem ringB_yes {c : Cfg} {R : Rg} (h1 : mayR R = true) (h2 : (R.ss.length : Int) = c.s) (h3 : 0 ≤ R.f ∧ R.f ≤ c.t) (h4 : ∀ s ∈ R.ss, 0 ≤ s.t ∧ s.t ≤ c.t - 1) : ringB c R = true := by
  unfold ringB
  simp only [Bool.and_eq_true, decide_eq_true_eq, List.all_eq_true]
  exact ⟨h1, h2, inB_yes h3.1 h3.2, fun x hx => inB_yes (h4 x hx).1 (h4 x hx).2⟩
theorem mayM_putT {M : Mc} (h : mayM M = true) {t : Int} {x : Th} (hx : thB M.c x = true) : mayM (M.putT t x) = true := by
  obtain ⟨a, b, c, d, e, f, g, i, j⟩ := mayM_iff.1 h
  refine mayM_iff.2 ⟨a, b, c, d, e, by simpa [Mc.putT] using f, fun T hT => ?_, i, j⟩
  rcases List.mem_or_eq_of_mem_set hT with hT | rfl
  · exact g T hT
  · exact hx
theorem mayM_putP {M : Mc} (h : mayM M = true) {r : Int} {x : Rp} (hx : repB M.c M.rs x = true) : mayM (M.putP r x) = true := by
  obtain ⟨a, b, c, d, e, f, g, i, j⟩ := mayM_iff.1 h
  refine mayM_iff.2 ⟨a, b, c, by simpa [Mc.putP] using d, fun P hP => ?_, f, g, i, j⟩
  rcases List.mem_or_eq_of_mem_set hP with hP | rfl
  · exact e P hP
  · exact hx
theorem cursOK_yes {Rs : List Rg} {cs : List Int} (h : ∀ k, k < cs.length → (Rs.getD k Rg.zero).h ≤ cs.getD k 0 ∧ cs.getD k 0 ≤ (Rs.getD k Rg.zero).t) : cursOK Rs cs = true := by
  unfold cursOK
  simp only [List.all_eq_true, List.mem_range]
  exact fun k hk => inB_yes (h k hk).1 (h k hk).2
theorem mayM_putR {M : Mc} (h : mayM M = true) {g : Nat} {x : Rg} (hx : ringB M.c x = true) (hc : ∀ P ∈ M.ps, g < P.cs.length → x.h ≤ P.cs.getD g 0 ∧ P.cs.getD g 0 ≤ x.t) : mayM (M.putR g x) = true := by
  obtain ⟨a, b, c, d, e, f, gg, i, j⟩ := mayM_iff.1 h
  refine mayM_iff.2 ⟨a, by simpa [Mc.putR] using b, fun R hR => ?_, d, fun P hP => ?_, f, gg, i, j⟩
  · rcases List.mem_or_eq_of_mem_set hR with hR | rfl
    · exact c R hR
    · exact hx
  · obtain ⟨p1, p2, p3, p4, p5⟩ := repB_cases (e P hP)
    refine repB_yes p1 p2 (cursOK_yes fun k hk => ?_) p4 p5
    simp only [Mc.putR, Int.toNat_natCast]
    rcases Nat.lt_or_ge g M.rs.length with hg | hg
    · rw [getD_set _ _ _ _ _ hg]
      by_cases ek : k = g
      · subst ek
        rw [if_pos rfl]
        exact hc P hP hk
      · rw [if_neg ek]
        exact cursOK_at p3 hk
    · rw [List.set_eq_of_length_le hg]
      exact cursOK_at p3 hk
theorem th_in {M : Mc} {t : Int} (ht : 0 ≤ t ∧ t.toNat < M.ts.length) : M.th t ∈ M.ts := getD_mem ht.2
/-- A thread that is idle may be. -/
theorem thB_zero {c : Cfg} (h : c.ok = true) : thB c Th.zero = true := by
  obtain ⟨_, _, ⟨l0, _⟩, ⟨t0, _⟩, _, _⟩ := Cfg.ok_cases h
  exact thB_yes (by decide) (by decide) (by simp [Th.zero]; omega) (by decide) (by simp [Th.zero]; omega) (by simp [Th.zero]) (by simp [Th.zero]) (by simp [Th.zero]; omega) (by simp [Th.zero])
theorem th_may {M : Mc} (h : mayM M = true) (t : Int) : thB M.c (M.th t) = true := by
  unfold Mc.th
  rcases Nat.lt_or_ge t.toNat M.ts.length with ht | ht
  · exact mayM_ts h _ (getD_mem ht)
  · rw [getD_out ht]; exact thB_zero (mayM_ok h)
theorem mayM_step {M : Mc} (h : mayM M = true) (t : Int) {st : Int} (hs : 0 ≤ st ∧ st ≤ 19) : mayM (stepM M t st) = true := by
  obtain ⟨_, b, c, d, e, f, g, i, j⟩ := thB_cases (th_may h t)
  exact mayM_putT h (thB_yes hs b c d e f g i j)
theorem mayM_setLock {M : Mc} (h : mayM M = true) {r g x : Int} (hr : 0 ≤ r ∧ r ≤ M.c.r - 1) (hx : 0 ≤ x ∧ x ≤ M.c.t) : mayM (M.putP r ((M.rp r).setLock g x)) = true := by
  obtain ⟨_, hps, _, _⟩ := mayM_lens h
  obtain ⟨p1, p2, p3, p4, p5⟩ := repB_cases (mayM_ps h (M.rp r) (getD_mem (by omega)))
  refine mayM_putP h (repB_yes p1 p2 p3 (by simpa [Rp.setLock] using p4) fun y hy => ?_)
  rcases List.mem_or_eq_of_mem_set hy with hy | rfl
  · exact p5 y hy
  · exact hx
theorem mayM_try {M : Mc} {r g t : Int} (h : thereB M r g t = true) : mayM (tryM M r g t).1 = true := by
  obtain ⟨hm, hr, hg, ht⟩ := thereB_cases h
  unfold tryM
  rw [if_pos h]
  split
  · exact mayM_setLock hm hr (by omega)
  · exact hm
theorem mayM_free {M : Mc} {r g : Int} (h : thereB M r g 0 = true) : mayM (freeM M r g).1 = true := by
  obtain ⟨hm, hr, hg, ht⟩ := thereB_cases h
  unfold freeM
  rw [if_pos h]
  obtain ⟨_, _, _, ⟨t0, _⟩, _⟩ := Cfg.ok_cases (mayM_ok hm)
  exact mayM_setLock hm hr (by omega)
theorem mayM_post {M : Mc} {t : Int} (h : thereB M 0 0 t = true) : mayM (postM M t).1 = true := by
  obtain ⟨hm, _, _, _⟩ := thereB_cases h
  unfold postM
  rw [if_pos h]
  obtain ⟨a, b, c, d, e, f, g, i, j⟩ := thB_cases (th_may hm t)
  exact mayM_putT hm (thB_yes a b c d e f g i j)

end Go.Proofs.YtkddgpdlpjjpbaaGreat

/-
  PLAIN GROUND, NO WALK: a machine whose four threads are called one behind the other, each with a row of its own, and posted: who waits where. No condition.
-/
namespace Go.Proofs.YtkddgpdlpjjpbaaGreat
open Go.RowKit

/-- A thread's row: its number's last two bits, 0 where there is none. -/
def rowN (rs : List Int) (t : Nat) : Int := if t < rs.length then rs.getD t 0 % 4 else 0
theorem rowN_bounds (rs : List Int) (t : Nat) : 0 ≤ rowN rs t ∧ rowN rs t ≤ 3 := by
  unfold rowN
  split <;> omega
theorem rowN_four (rs : List Int) (t : Nat) : rowN rs t = 0 ∨ rowN rs t = 1 ∨ rowN rs t = 2 ∨ rowN rs t = 3 := by
  have := rowN_bounds rs t
  omega

/-- k threads are called. -/
structure CallI (rs : List Int) (k : Nat) (M : Mc) : Prop where
  may : mayM M = true
  fit : FitM M
  c : M.c = begC
  es : M.es.length = k
  old : ∀ i : Nat, i < k → (M.th i).lg = rowN rs i % 2 ∧ opUp (M.th i).c (M.th i).r (M.th i).a = true ∧ (M.th i).po = false
  new : ∀ i : Nat, k ≤ i → i < 4 → (M.th i).st = 0
/-- The machine behind a call. -/
def callN (M : Mc) (k : Nat) (r : Int) : Mc := { M with ts := M.ts.set (k : Int).toNat (newT M 0 r 5), es := M.es ++ [⟨(k : Int), true, 0, r, 5, 0⟩] }
theorem callI_beg (rs : List Int) : CallI rs 0 begM := by
  refine ⟨beg_may, beg_fit, rfl, by decide +kernel, fun i h => by omega, fun i _ h => ?_⟩
  rcases (by omega : i = 0 ∨ i = 1 ∨ i = 2 ∨ i = 3) with rfl | rfl | rfl | rfl <;> decide +kernel
theorem CallI.ts {rs : List Int} {k : Nat} {M : Mc} (h : CallI rs k M) : M.ts.length = 4 := by
  obtain ⟨_, _, t, _⟩ := mayM_lens h.may
  rw [h.c] at t
  have : (begC.t : Int) = 4 := rfl
  omega
theorem newT_begC {M : Mc} (h : M.c = begC) (r : Int) : newT M 0 r 5 = { Th.zero with st := 1, c := 0, r := r, a := 5, lg := r % 2 } := by
  unfold newT
  rw [h]
  rfl
theorem callN_th {M : Mc} {k : Nat} {r : Int} (hk : k < M.ts.length) (i : Nat) : (callN M k r).th i = if i = k then newT M 0 r 5 else M.th i := by
  unfold callN Mc.th
  simp only [Int.toNat_natCast]
  by_cases e : i = k
  · subst e; simp [List.getD, hk]
  · rw [if_neg e]; simp [List.getD, Ne.symm e]
theorem CallI.next {rs : List Int} {k : Nat} {M : Mc} (h : CallI rs k M) (hk : k < 4) : CallI rs (k + 1) (callN M k (rowN rs k)) := by
  have hts := h.ts
  have hT : thB M.c (newT M 0 (rowN rs k) 5) = true ∧ opUp 0 (rowN rs k) 5 = true := by
    rw [newT_begC h.c, h.c]
    rcases rowN_four rs k with e | e | e | e <;> rw [e] <;> decide +kernel
  have hE : evB M.c ⟨(k : Int), true, 0, rowN rs k, 5, 0⟩ = true := by
    rw [h.c]
    rcases (by omega : k = 0 ∨ k = 1 ∨ k = 2 ∨ k = 3) with e | e | e | e <;> rcases rowN_four rs k with f | f | f | f <;> rw [f] <;> subst e <;> decide +kernel
  have hp := mayM_iff.1 h.may
  refine ⟨mayM_iff.2 ⟨hp.ok, hp.lr, hp.rs, hp.lp, hp.ps, by simpa [callN] using hp.lt, fun T hT' => ?_, ?_, fun E hE' => ?_⟩, ⟨h.fit.rs, h.fit.ps, by simpa [callN] using h.fit.ts, ?_, h.fit.r, h.fit.p, fun T hT' => ?_⟩, h.c, by simp [callN, h.es], fun i hi => ?_, fun i hi h4 => ?_⟩
  · rcases List.mem_or_eq_of_mem_set hT' with e | rfl
    · exact hp.ts T e
    · exact hT.1
  · simp only [callN, List.length_append, List.length_cons, List.length_nil, h.es]; omega
  · rcases List.mem_append.1 hE' with e | e
    · exact hp.es E e
    · rw [List.mem_singleton.1 e]; exact hE
  · simp only [callN, List.length_append, List.length_cons, List.length_nil, h.es]; omega
  · rcases List.mem_or_eq_of_mem_set hT' with e | rfl
    · exact h.fit.t T e
    · rw [newT_begC h.c]; exact ⟨by simp [Th.zero], by simp [Th.zero]⟩
  · rw [callN_th (by omega)]
    by_cases e : i = k
    · subst e
      rw [if_pos rfl, newT_begC h.c]
      exact ⟨rfl, hT.2, rfl⟩
    · rw [if_neg e]
      exact h.old i (by omega)
  · rw [callN_th (by omega), if_neg (by omega)]
    exact h.new i (by omega) h4
theorem CallI.room {rs : List Int} {k : Nat} {M : Mc} (h : CallI rs k M) (hk : k < 4) : opMay 0 (rowN rs k) 5 = true ∧ (0 ≤ (k : Int) ∧ (k : Int) < M.c.t) ∧ (M.th (k : Int)).st = 0 ∧ (M.es.length : Int) + 2 + busy M.ts ≤ 64 := by
  have hc : M.c.t = 4 := by rw [h.c]; rfl
  have hb := busy_le M.ts
  have hts := h.ts
  have hes := h.es
  refine ⟨?_, ⟨by omega, by omega⟩, h.new k (Nat.le_refl _) hk, by omega⟩
  rcases rowN_four rs k with e | e | e | e <;> rw [e] <;> decide +kernel

/-- All four are called; those of which on says so are posted. -/
structure PostI (rs : List Int) (on : Nat → Bool) (M : Mc) : Prop where
  may : mayM M = true
  fit : FitM M
  c : M.c = begC
  th : ∀ i : Nat, i < 4 → (M.th i).lg = rowN rs i % 2 ∧ opUp (M.th i).c (M.th i).r (M.th i).a = true ∧ (M.th i).po = on i
theorem CallI.post {rs : List Int} {M : Mc} (h : CallI rs 4 M) : PostI rs (fun _ => false) M := ⟨h.may, h.fit, h.c, fun i hi => h.old i hi⟩
def onPut (on : Nat → Bool) (t : Nat) : Nat → Bool := fun i => if i = t then true else on i
theorem PostI.next {rs : List Int} {on : Nat → Bool} {M : Mc} (h : PostI rs on M) {t : Nat} (ht : t < 4) : ∃ N, postM M (t : Int) = (N, 0) ∧ PostI rs (onPut on t) N := by
  have hc : M.c.t = 4 := by rw [h.c]; rfl
  have hcr : M.c.r = 2 := by rw [h.c]; rfl
  have hcl : M.c.l = 2 := by rw [h.c]; rfl
  have h1 : thereB M 0 0 (t : Int) = true := thereB_yes h.may ⟨by omega, by omega⟩ ⟨by omega, by omega⟩ ⟨by omega, by omega⟩
  have hm := mayM_post h1
  have hf := fitM_post h.fit (t : Int)
  have hP : postM M (t : Int) = (M.putT t { M.th t with po := true, re := false }, 0) := by unfold postM; rw [h1]; rfl
  rw [hP] at hm hf
  obtain ⟨_, _, tl, _⟩ := mayM_lens h.may
  refine ⟨_, hP, hm, hf, h.c, fun i hi => ?_⟩
  obtain ⟨a, b, d⟩ := h.th i hi
  unfold onPut
  by_cases e : i = t
  · subst e
    have e2 : (M.putT (i : Int) { M.th i with po := true, re := false }).th i = { M.th i with po := true, re := false } := by
      unfold Mc.putT Mc.th
      have : i < M.ts.length := by omega
      simp [List.getD, this]
    rw [e2, if_pos rfl]
    exact ⟨a, b, rfl⟩
  · have e2 : (M.putT (t : Int) { M.th t with po := true, re := false }).th i = M.th i := by
      unfold Mc.putT Mc.th
      simp [List.getD, Ne.symm e]
    rw [e2, if_neg e]
    exact ⟨a, b, d⟩
/-- Who waits at replica r for log g. -/
def waitN (rs : List Int) (on : Nat → Bool) (r g : Int) (i : Nat) : Bool := decide ((i : Int) % 2 = r) && (decide (rowN rs i % 2 = g) && on i)
theorem whichL_congr {p q : Nat → Bool} : ∀ n : Nat, (∀ i, i < n → p i = q i) → whichL p n = whichL q n := by
  intro n
  induction n with
  | zero => intro _; rfl
  | succ n ih =>
    intro h
    have e := h n (by omega)
    cases hp : p n
    · rw [whichL_no hp, whichL_no (by rw [← e]; exact hp)]; exact ih (fun i hi => h i (by omega))
    · rw [whichL_yes hp, whichL_yes (by rw [← e]; exact hp), ih (fun i hi => h i (by omega))]
theorem PostI.wait {rs : List Int} {on : Nat → Bool} {M : Mc} (h : PostI rs on M) {r g : Int} (hr : 0 ≤ r ∧ r < 2) (hg : 0 ≤ g ∧ g < 2) : waitM M r g = (whichL (waitN rs on r g) 4, 0) := by
  have hc : M.c.t = 4 := by rw [h.c]; rfl
  have hcr : M.c.r = 2 := by rw [h.c]; rfl
  have hcl : M.c.l = 2 := by rw [h.c]; rfl
  have h1 : thereB M r g 0 = true := thereB_yes h.may ⟨by omega, by omega⟩ ⟨by omega, by omega⟩ ⟨by omega, by omega⟩
  have e : waitM M r g = (whichL (waitsB M r g) M.c.t.toNat, 0) := by unfold waitM; rw [h1]; rfl
  rw [e, hc]
  congr 1
  refine whichL_congr 4 fun i hi => ?_
  obtain ⟨a, b, d⟩ := h.th i hi
  unfold waitsB waitN
  rw [hcr, a, b, d]
  rfl
theorem whichL_more (p : Nat → Bool) (k : Nat) : ∀ n : Nat, ∃ zs, whichL p (k + n) = whichL p k ++ zs
  | 0 => ⟨[], by simp⟩
  | n + 1 => by
    obtain ⟨zs, e⟩ := whichL_more p k n
    cases h : p (k + n)
    · exact ⟨zs, by rw [← Nat.add_assoc, whichL_no h, e]⟩
    · exact ⟨zs ++ [((k + n : Nat) : Int)], by rw [← Nat.add_assoc, whichL_yes h, e, List.append_assoc]⟩
theorem whichL_at {p : Nat → Bool} {k n : Nat} (hk : k < n) (h : p k = true) : (whichL p k).length < (whichL p n).length ∧ (whichL p n).getD (whichL p k).length 0 = (k : Int) := by
  obtain ⟨m, rfl⟩ : ∃ m, n = (k + 1) + m := ⟨n - (k + 1), by omega⟩
  obtain ⟨zs, e⟩ := whichL_more p (k + 1) m
  rw [e, whichL_yes h]
  constructor
  · simp
  · rw [List.append_assoc, List.getD_eq_getElem?_getD, List.getElem?_append_right (Nat.le_refl _)]
    simp
/-- The marks, as an array of four. -/
abbrev onV (on : Nat → Bool) : Array Value := #[.bool (on 0), .bool (on 1), .bool (on 2), .bool (on 3)]
theorem onV_at (on : Nat → Bool) {t : Nat} (h : t < 4) : (onV on)[t]? = some (.bool (on t)) := by
  rcases (by omega : t = 0 ∨ t = 1 ∨ t = 2 ∨ t = 3) with rfl | rfl | rfl | rfl <;> rfl
theorem Box.onPut {w : World} {g : Nat} {on : Nat → Bool} {ty : TypeId} (hb : Box w g (onV on) ty) {t : Nat} (h : t < 4) : Box (w.setCell ⟨g, t, none⟩ (.bool true)) g (onV (Go.Proofs.YtkddgpdlpjjpbaaGreat.onPut on t)) ty := by
  have := hb.set t (.bool true)
  rcases (by omega : t = 0 ∨ t = 1 ∨ t = 2 ∨ t = 3) with rfl | rfl | rfl | rfl <;> exact this

end Go.Proofs.YtkddgpdlpjjpbaaGreat

/-
  PLAIN GROUND, NO WALK: an int and a mask, for every int. No condition.
-/
namespace Go.Proofs.YtkddgpdlpjjpbaaGreat

theorem and1 (n : Int) : bits .and .i64 n 1 = n % 2 := by
  have h : (BitVec.ofInt 64 1).toNat = 2 ^ 1 - 1 := by decide
  have key : (BitVec.ofInt 64 n &&& BitVec.ofInt 64 1).toNat = (n % ((2 ^ 64 : Nat) : Int)).toNat % 2 ^ 1 := by
    rw [BitVec.toNat_and, BitVec.toNat_ofInt, h, Nat.and_two_pow_sub_one_eq_mod]
  show IntKind.i64.wrap ((BitVec.ofInt 64 n &&& BitVec.ofInt 64 1).toNat : Nat) = n % 2
  rw [key, IntKind.wrap_i64]
  omega

theorem and3 (n : Int) : bits .and .i64 n 3 = n % 4 := by
  have h : (BitVec.ofInt 64 3).toNat = 2 ^ 2 - 1 := by decide
  have key : (BitVec.ofInt 64 n &&& BitVec.ofInt 64 3).toNat = (n % ((2 ^ 64 : Nat) : Int)).toNat % 2 ^ 2 := by
    rw [BitVec.toNat_and, BitVec.toNat_ofInt, h, Nat.and_two_pow_sub_one_eq_mod]
  show IntKind.i64.wrap ((BitVec.ofInt 64 n &&& BitVec.ofInt 64 3).toNat : Nat) = n % 4
  rw [key, IntKind.wrap_i64]
  omega

theorem and7 (n : Int) : bits .and .i64 n 7 = n % 8 := by
  have h : (BitVec.ofInt 64 7).toNat = 2 ^ 3 - 1 := by decide
  have key : (BitVec.ofInt 64 n &&& BitVec.ofInt 64 7).toNat = (n % ((2 ^ 64 : Nat) : Int)).toNat % 2 ^ 3 := by
    rw [BitVec.toNat_and, BitVec.toNat_ofInt, h, Nat.and_two_pow_sub_one_eq_mod]
  show IntKind.i64.wrap ((BitVec.ofInt 64 n &&& BitVec.ofInt 64 7).toNat : Nat) = n % 8
  rw [key, IntKind.wrap_i64]
  omega

theorem and255 (n : Int) : bits .and .i64 n 255 = n % 256 := by
  have h : (BitVec.ofInt 64 255).toNat = 2 ^ 8 - 1 := by decide
  have key : (BitVec.ofInt 64 n &&& BitVec.ofInt 64 255).toNat = (n % ((2 ^ 64 : Nat) : Int)).toNat % 2 ^ 8 := by
    rw [BitVec.toNat_and, BitVec.toNat_ofInt, h, Nat.and_two_pow_sub_one_eq_mod]
  show IntKind.i64.wrap ((BitVec.ofInt 64 n &&& BitVec.ofInt 64 255).toNat : Nat) = n % 256
  rw [key, IntKind.wrap_i64]
  omega

theorem and1023 (n : Int) : bits .and .i64 n 1023 = n % 1024 := by
  have h : (BitVec.ofInt 64 1023).toNat = 2 ^ 10 - 1 := by decide
  have key : (BitVec.ofInt 64 n &&& BitVec.ofInt 64 1023).toNat = (n % ((2 ^ 64 : Nat) : Int)).toNat % 2 ^ 10 := by
    rw [BitVec.toNat_and, BitVec.toNat_ofInt, h, Nat.and_two_pow_sub_one_eq_mod]
  show IntKind.i64.wrap ((BitVec.ofInt 64 n &&& BitVec.ofInt 64 1023).toNat : Nat) = n % 1024
  rw [key, IntKind.wrap_i64]
  omega

theorem and65535 (n : Int) : bits .and .i64 n 65535 = n % 65536 := by
  have h : (BitVec.ofInt 64 65535).toNat = 2 ^ 16 - 1 := by decide
  have key : (BitVec.ofInt 64 n &&& BitVec.ofInt 64 65535).toNat = (n % ((2 ^ 64 : Nat) : Int)).toNat % 2 ^ 16 := by
    rw [BitVec.toNat_and, BitVec.toNat_ofInt, h, Nat.and_two_pow_sub_one_eq_mod]
  show IntKind.i64.wrap ((BitVec.ofInt 64 n &&& BitVec.ofInt 64 65535).toNat : Nat) = n % 65536
  rw [key, IntKind.wrap_i64]
  omega

end Go.Proofs.YtkddgpdlpjjpbaaGreat

/-
  THE WALK over the law BoardRow: it answers true, for every row of rows and picks, and turns nothing that was there. Condition: the rows' lengths are within the reach.
-/
namespace Go.Proofs.YtkddgpdlpjjpbaaGreat
open Go.RowKit

theorem OwnA.ownM {w : World} {base : Nat} {v : Value} {M : Mc} (h : OwnA w base v M) : OwnM w base v M := by
  obtain ⟨L, hv, hm, ho, _⟩ := h
  exact ⟨L, hv, hm.symm, ho⟩
theorem OwnM.put9 {w : World} {B g : Nat} {v : Value} {M : Mc} {cs : Array Value} (h : OwnM w B v M) (hb : Box w g cs 29) (c : Cfg) (a b d e : Sl) : OwnM (Go.Proofs.YtkddgpdlpjjpbaaGreat.put9 w g c a b d e) B v M := by
  obtain ⟨L, hv, hm, ho⟩ := h
  exact ⟨L, hv, hm, ho.put9 hb c a b d e⟩
theorem OwnM.setB {w : World} {B g i : Nat} {v u : Value} {M : Mc} {cs : Array Value} {ty : TypeId} (h : OwnM w B v M) (hb : Box w g cs ty) (hty : ty = 60) : OwnM (w.setCell ⟨g, i, none⟩ u) B v M := by
  subst hty
  obtain ⟨L, hv, hm, o⟩ := h
  have k : ∀ {t : TypeId} {kk n : Nat} {v : Value} {us : List Value}, World.ownsRow w B t kk v n us → t ≠ 60 → (w.setCell ⟨g, i, none⟩ u).ownsRow B t kk v n us := fun {t kk n v us} h ht => ownsRow_setCell_other h (fun e => by
    rcases h.2 with ⟨e2, _⟩ | ⟨g', cap, cur, hv, _, hh, _⟩
    · rw [e2] at e; simp [Value.ownBlock] at e
    · rw [hv] at e
      simp [Value.ownBlock] at e
      subst e
      unfold Box at hb
      rw [hb] at hh
      simp at hh
      exact ht hh.2.symm) _
  exact ⟨L, hv, hm, ⟨k o.oR (by decide), k o.oP (by decide), k o.oT (by decide), k o.oH (by decide), fun y hy => k (o.iR y hy) (by decide), fun y hy => ⟨fun i hi => k ((o.iP y hy).1 i hi) (by decide), k (o.iP y hy).2.1 (by decide), k (o.iP y hy).2.2 (by decide)⟩, fun y hy => ⟨k (o.iT y hy).1 (by decide), k (o.iT y hy).2 (by decide)⟩⟩⟩
/-- The threads of a machine's value. -/
theorem fieldT (x0 x1 x2 x3 x4 x5 x6 x8 : Value) (a : Option Addr) (n c : Nat) (w : World) : (Instr.field 29 (.agg #[x0, x1, x2, x3, x4, x5, x6, .slice a n c, x8]) 3).run Tryz.prog w = .ok (.slice a n c) w := by kernel_rfl
theorem calledT16 (w : World) : Calls Tryz.prog 28 #[] w fun e w' => ∃ qR qP a c qH, e = .returned (.agg #[.int .i64 2, .int .i64 2, .int .i64 2, .int .i64 4, .int .i64 8, slV qR, slV qP, .slice a 4 c, slV qH]) ∧ Le w w' := by
  refine (called16 w).mono ?_
  rintro e w' ⟨qR, qP, qT, qH, rfl, o, l⟩
  have hh : qT.2.1 = 4 := o.has.lens.2.2.1
  obtain ⟨a, n, c⟩ := qT
  simp only at hh
  subst hh
  exact ⟨qR, qP, a, c, qH, rfl, l⟩
theorem callAs {M : Mc} {rs : List Int} {k : Nat} (h : CallI rs k M) (hk : k < 4) (v : Value) (w : World) (hx : HasM w v M) : Calls Tryz.prog 27 #[v, .int .i64 k, opV 0 (rowN rs k) 5] w fun e w' => ∃ qR qP qT qH, e = .returned (.tuple #[machV begC qR qP qT qH, .int .i64 0]) ∧ OwnM w' w.heap.size (machV begC qR qP qT qH) (callN M k (rowN rs k)) ∧ Le w w' := by
  obtain ⟨h1, h2, h3, h4⟩ := h.room hk
  refine (rmCallOk v M k 0 (rowN rs k) 5 w hx h.fit h.may h1 h2 h3 h4).mono ?_
  rintro e w' ⟨v', rfl, o, l⟩
  have hc : (callN M k (rowN rs k)).c = begC := h.c
  have o' : OwnA w' w.heap.size v' (callN M k (rowN rs k)) := o
  obtain ⟨qR, qP, qT, qH, rfl⟩ := o'.open
  rw [hc] at o' ⊢
  exact ⟨qR, qP, qT, qH, rfl, o'.ownM, l⟩

set_option maxRecDepth 8000 in
set_option maxHeartbeats 16000000 in
theorem lawBoardRow (w : World) (v0 : Value) (rs : List Int) (hx : Has w v0 rs) (hrs : rs.length * 8 ≤ 140737488351232) (v1 : Value) (ps : List Int) (hy : Has w v1 ps) (hps : ps.length * 8 ≤ 140737488351232) : Calls Tryz.prog 6 #[v0, v1] w fun e w' => e = .returned (.bool true) ∧ Le w w' := by
  obtain ⟨ra, rc, rfl, hrc, _, hrx⟩ := hx
  obtain ⟨pa, pc, rfl, hpc, _, hpx⟩ := hy
  obtain ⟨nr, hnr⟩ : ∃ n, n = rs.length := ⟨_, rfl⟩
  obtain ⟨np, hnp⟩ : ∃ n, n = ps.length := ⟨_, rfl⟩
  have HNR : Hid (nr = rs.length) := hnr
  have HNP : Hid (np = ps.length) := hnp
  rw [← hnr] at hrc hrx hrs ⊢
  rw [← hnp] at hpc hpx hps ⊢
  clear hnr hnp
  have hl := Le.refl w
  go_enter Tryz.func6, Tryz.ntmps6
  go_wp2_with fail
  refine (lawAwake16 _).mono ?_
  rintro e w0 ⟨rfl, l0⟩
  replace hl := hl.trans l0
  go_wp2_with fail
  refine (begun16 _).mono ?_
  rintro e w1 ⟨qR, qP, qT, qH, rfl, oM, l1⟩
  replace hl := hl.trans l1
  have hsw := hl.size
  have hbM := Box.new w1 (cells9 begC qR qP qT qH) 29
  have a1 := Le.alloc w1 (.cells (cells9 begC qR qP qT qH) 29)
  go_upto_region 4 with fail
  generalize hW1 : w1.alloc (.cells (cells9 begC qR qP qT qH) 29) = W1 at hbM a1 ⊢
  clear hW1
  have hggM : w1.heap.size ≤ w1.heap.size := Nat.le_refl _
  generalize hgg : w1.heap.size = gM at hbM hggM ⊢
  have hsgM : w1.heap.size ≤ gM := by omega
  clear hgg hggM
  replace hl := hl.trans a1
  replace oM := (oM.le a1).base (Nat.zero_le _)
  clear a1 l0 l1
  have hgM : w.heap.size ≤ gM := by omega
  go_wp2_with fail
  go_loopw [6] (fun i wr => ∃ (k : Nat) (M : Mc) (qR qP qT qH : Sl), k ≤ 4 ∧ i = .int .i64 k ∧ Box wr gM (cells9 begC qR qP qT qH) 29 ∧ Hid (OwnM wr 0 (machV begC qR qP qT qH) M) ∧ Hid (CallI rs k M) ∧ Le w wr) (fun i _ => 4 - (intOf i).toNat)
  case atStart => exact ⟨0, begM, qR, qP, qT, qH, by omega, rfl, hbM, oM, callI_beg rs, hl⟩
  case round =>
    clear hbM oM hl
    obtain ⟨k, M, xR, xP, xT, xH, hk, rfl, hbM, oM, HC, hl⟩ := hrel
    by_cases hlt : k < 4
    · have hlt' : (k : Int) < 4 := by omega
      obtain ⟨rw', hrw⟩ : ∃ r, r = rowN rs k := ⟨_, rfl⟩
      have HRW : Hid (rw' = rowN rs k) := hrw
      have m1 := fun w' (l : Le wr w') => callAs HC.out hlt _ w' (oM.out.has.le l)
      rw [← hrw] at m1
      clear hrw
      by_cases hkr : k < nr
      · have hkr' : (k : Int) < (nr : Int) := by omega
        obtain ⟨b, off, rfl, hcell⟩ := hrx (by omega)
        have ck := cell_le (hcell k hkr) hl
        obtain ⟨x, hxk⟩ : ∃ x, x = rs.getD k 0 := ⟨_, rfl⟩
        rw [← hxk] at ck
        have hb3 : bits .and .i64 x 3 = rw' := by
          rw [HRW.out, hxk, and3]
          unfold rowN
          rw [if_pos (by have := HNR.out; omega)]
        clear hxk hcell
        obtain ⟨⟨y0, y1, y2, y3, y4⟩, y5, y6, y7, y8⟩ := (hbM).mach
        go_wp2_with fail
        refine (m1 _ (Le.refl _)).mono ?_
        rintro e w2 ⟨uR, uP, uT, uH, rfl, o2, l2⟩
        clear y0 y1 y2 y3 y4 y5 y6 y7 y8
        have hb2 := hbM.le l2
        obtain ⟨⟨y0, y1, y2, y3, y4⟩, y5, y6, y7, y8⟩ := (hb2).mach
        have f0 := (hb2).frozen 0
        have f1 := (hb2).frozen 1
        have f2 := (hb2).frozen 2
        have f3 := (hb2).frozen 3
        have f4 := (hb2).frozen 4
        have f5 := (hb2).frozen 5
        have f6 := (hb2).frozen 6
        have f7 := (hb2).frozen 7
        have f8 := (hb2).frozen 8
        go_upto_region 6 with fail
        have hb3' := hb2.put9 rfl begC uR uP uT uH
        have o3 := (o2.base (Nat.zero_le _)).put9 hb2 begC uR uP uT uH
        have l3 := (hl.trans l2).put9 hgM begC uR uP uT uH
        show Code.wp _ _ _ _ (put9 w2 gM begC uR uP uT uH)
        clear y0 y1 y2 y3 y4 y5 y6 y7 y8
        clear f0 f1 f2 f3 f4 f5 f6 f7 f8
        generalize hW : put9 w2 gM begC uR uP uT uH = W2 at hb3' o3 l3 ⊢
        clear hW
        have HC2 := HC.out.next hlt
        rw [← HRW.out] at HC2
        go_wp2_with fail
        go_roundw
        case rel => exact ⟨k + 1, _, uR, uP, uT, uH, by omega, by go_num, hb3', o3, HC2, l3⟩
        case measure => simp [intOf]; omega
      · have hkr' : ¬ (k : Int) < (nr : Int) := by omega
        have hb3 : rw' = 0 := by
          rw [HRW.out]
          unfold rowN
          rw [if_neg (by have := HNR.out; omega)]
        have HRW2 : Hid (rw' = 0) := hb3
        rw [hb3] at m1
        clear hb3
        obtain ⟨⟨y0, y1, y2, y3, y4⟩, y5, y6, y7, y8⟩ := (hbM).mach
        go_wp2_with fail
        refine (m1 _ (Le.refl _)).mono ?_
        rintro e w2 ⟨uR, uP, uT, uH, rfl, o2, l2⟩
        clear y0 y1 y2 y3 y4 y5 y6 y7 y8
        have hb2 := hbM.le l2
        obtain ⟨⟨y0, y1, y2, y3, y4⟩, y5, y6, y7, y8⟩ := (hb2).mach
        have f0 := (hb2).frozen 0
        have f1 := (hb2).frozen 1
        have f2 := (hb2).frozen 2
        have f3 := (hb2).frozen 3
        have f4 := (hb2).frozen 4
        have f5 := (hb2).frozen 5
        have f6 := (hb2).frozen 6
        have f7 := (hb2).frozen 7
        have f8 := (hb2).frozen 8
        go_upto_region 6 with fail
        have hb3' := hb2.put9 rfl begC uR uP uT uH
        have o3 := (o2.base (Nat.zero_le _)).put9 hb2 begC uR uP uT uH
        have l3 := (hl.trans l2).put9 hgM begC uR uP uT uH
        show Code.wp _ _ _ _ (put9 w2 gM begC uR uP uT uH)
        clear y0 y1 y2 y3 y4 y5 y6 y7 y8
        clear f0 f1 f2 f3 f4 f5 f6 f7 f8
        generalize hW : put9 w2 gM begC uR uP uT uH = W2 at hb3' o3 l3 ⊢
        clear hW
        have HC2 := HC.out.next hlt
        rw [← HRW.out, HRW2.out] at HC2
        go_wp2_with fail
        go_roundw
        case rel => exact ⟨k + 1, _, uR, uP, uT, uH, by omega, by go_num, hb3', o3, HC2, l3⟩
        case measure => simp [intOf]; omega
    · have e4 : k = 4 := by omega
      have HP : Hid (PostI rs (fun _ => false) M) := (show PostI rs (fun _ => false) M from by have h := HC.out; rw [e4] at h; exact h.post)
      have hlt' : ¬ (k : Int) < 4 := by omega
      clear HC hk e4 hlt
      have hg8 : wr.heap.size ≤ wr.heap.size := Nat.le_refl _
      have h8 := Box.new wr (onV (fun _ => false)) 60
      have a8 := Le.alloc wr (.cells (onV (fun _ => false)) 60)
      go_upto_region 12 with fail
      generalize hW8 : wr.alloc (.cells (onV (fun _ => false)) 60) = W8 at h8 a8 ⊢
      clear hW8
      generalize hgg : wr.heap.size = g8 at h8 hg8 ⊢
      have hs8 : w.heap.size ≤ g8 := by have := hl.size; omega
      have hne8 : gM ≠ g8 := by have := hbM.lt; omega
      clear hgg hg8
      replace hbM := hbM.le a8
      have oM8 : Hid (OwnM W8 0 (machV begC xR xP xT xH) M) := oM.out.le a8
      replace hl := hl.trans a8
      clear oM a8
      go_wp2_with fail
      go_loopw [9] (fun i wq => ∃ (k : Nat) (M : Mc) (on : Nat → Bool) (qR qP qT qH : Sl), k ≤ 8 ∧ k ≤ np ∧ i = .int .i64 k ∧ Box wq gM (cells9 begC qR qP qT qH) 29 ∧ Box wq g8 (onV on) 60 ∧ Hid (OwnM wq 0 (machV begC qR qP qT qH) M) ∧ Hid (PostI rs on M) ∧ Le w wq) (fun i _ => 8 - (intOf i).toNat)
      case atStart => exact ⟨0, M, _, xR, xP, xT, xH, by omega, by omega, rfl, hbM, h8, oM8, HP, hl⟩
      case round =>
        clear hbM h8 oM8 HP hl
        obtain ⟨k, N, on, yR, yP, yT, yH, hk, hkp, rfl, hbM, h8, oM, HP, hl⟩ := hrel
        by_cases hlt : k < np ∧ k < 8
        · have hlt1 : (k : Int) < (np : Int) := by omega
          have hlt2 : (k : Int) < 8 := by omega
          obtain ⟨b, off, rfl, hcell⟩ := hpx (by omega)
          have ck := cell_le (hcell k hlt.1) hl
          obtain ⟨x, hxk⟩ : ∃ x, x = ps.getD k 0 := ⟨_, rfl⟩
          rw [← hxk] at ck
          obtain ⟨t, ht⟩ : ∃ t : Nat, bits .and .i64 x 3 = (t : Int) := ⟨(x % 4).toNat, by rw [and3]; omega⟩
          have ht4 : t < 4 := by have := and3 x; omega
          have ht4' : (t : Int) < 4 := by omega
          clear hxk hcell
          obtain ⟨N2, hN2, HP2⟩ := HP.out.next ht4
          have hc2 : N2.c = begC := HP2.c
          have m1 := boardPostAs hN2 _ wr oM.out.has HP.out.fit
          rw [hc2] at m1
          have HP2' : Hid (PostI rs (onPut on t) N2) := HP2
          clear hN2 HP2 hc2
          obtain ⟨⟨y0, y1, y2, y3, y4⟩, y5, y6, y7, y8⟩ := (hbM).mach
          go_wp2_with fail
          refine m1.mono ?_
          rintro e w2 ⟨uR, uP, uT, uH, rfl, o2, l2⟩
          clear m1 oM
          clear y0 y1 y2 y3 y4 y5 y6 y7 y8
          replace hbM := hbM.le l2
          replace h8 := h8.le l2
          replace hl := hl.trans l2
          clear l2
          have hbA := Box.new w2 (cells9 begC uR uP uT uH) 29
          have a1 := Le.alloc w2 (.cells (cells9 begC uR uP uT uH) 29)
          go_upto_region 17 with fail
          generalize hW1 : w2.alloc (.cells (cells9 begC uR uP uT uH) 29) = W2 at hbA a1 ⊢
          clear hW1
          have hggA : w2.heap.size ≤ w2.heap.size := Nat.le_refl _
          generalize hgg : w2.heap.size = gA at hbA hggA ⊢
          have hsgA : w2.heap.size ≤ gA := by omega
          clear hgg hggA
          replace hl := hl.trans a1
          replace hbM := hbM.le a1
          replace h8 := h8.le a1
          have o3 := (o2.ownM.le a1).base (Nat.zero_le _)
          clear a1 o2
          go_wp2_with fail
          refine (lawNum _ _).mono ?_
          rintro e _ ⟨rfl, rfl⟩
          obtain ⟨⟨z0, z1, z2, z3, z4⟩, z5, z6, z7, z8⟩ := (hbA).mach
          obtain ⟨⟨y0, y1, y2, y3, y4⟩, y5, y6, y7, y8⟩ := (hbM).mach
          have f0 := (hbM).frozen 0
          have f1 := (hbM).frozen 1
          have f2 := (hbM).frozen 2
          have f3 := (hbM).frozen 3
          have f4 := (hbM).frozen 4
          have f5 := (hbM).frozen 5
          have f6 := (hbM).frozen 6
          have f7 := (hbM).frozen 7
          have f8 := (hbM).frozen 8
          go_upto_region 20 with fail
          have hb3' := hbM.put9 rfl begC uR uP uT uH
          have o4 := o3.put9 hbM begC uR uP uT uH
          have l3 := hl.put9 hgM begC uR uP uT uH
          have h83 := h8.off9 hne8.symm begC uR uP uT uH
          show Code.wp _ _ _ _ (put9 W2 gM begC uR uP uT uH)
          clear y0 y1 y2 y3 y4 y5 y6 y7 y8 z0 z1 z2 z3 z4 z5 z6 z7 z8
          clear f0 f1 f2 f3 f4 f5 f6 f7 f8
          generalize hW : put9 W2 gM begC uR uP uT uH = W3 at hb3' o4 l3 h83 ⊢
          clear hW hbA hbM h8 o3 hl
          have c8 := (h83.cell t).trans (onV_at on ht4)
          have f8 := h83.frozen t
          have h84 := h83.onPut ht4
          have hb4 := hb3'.other hne8 t (.bool true)
          have o5 : OwnM (W3.setCell ⟨g8, t, none⟩ (.bool true)) 0 (machV begC uR uP uT uH) N2 := o4.setB h83 rfl
          have l4 := l3.set (i := t) (u := .bool true) hs8
          go_upto_region 14 with fail
          clear c8 f8 h83 hb3' o4 l3
          generalize hW4 : W3.setCell ⟨g8, t, none⟩ (.bool true) = W4 at h84 hb4 o5 l4 ⊢
          clear hW4
          go_wp2_with fail
          go_roundw
          case rel => exact ⟨k + 1, N2, _, uR, uP, uT, uH, by omega, by omega, by go_num, hb4, h84, o5, HP2', l4⟩
          case measure => simp [intOf]; omega
        · by_cases hlt1 : k < np
          · have hlt2 : ¬ (k : Int) < 8 := by omega
            have hlt3 : (k : Int) < (np : Int) := by omega
            clear hlt hlt1 hk hkp
            have hN : Hid (HasM wr (machV begC yR yP yT yH) N) := oM.out.has
            clear oM
            go_wp2_with fail
            go_loopw [13] (fun i wa => ∃ r : Nat, r ≤ 2 ∧ i = .int .i64 r ∧ Le wr wa) (fun i _ => 2 - (intOf i).toNat)
            case atStart => exact ⟨0, by omega, rfl, Le.refl _⟩
            case round =>
              obtain ⟨r, hr, rfl, la⟩ := hrel
              by_cases hlr : r < 2
              · have hlr' : (r : Int) < 2 := by omega
                go_wp2_with fail
                go_loopw [14] (fun i wb => ∃ g : Nat, g ≤ 2 ∧ i = .int .i64 g ∧ Le _ wb) (fun i _ => 2 - (intOf i).toNat)
                case atStart => exact ⟨0, by omega, rfl, la⟩
                case round =>
                  obtain ⟨g, hg, rfl, lb⟩ := hrel
                  by_cases hlg : g < 2
                  · have hlg' : (g : Int) < 2 := by omega
                    have hbm := hbM.le lb
                    have m1 := boardWaitAs (HP.out.wait (r := r) (g := g) ⟨by omega, by omega⟩ ⟨by omega, by omega⟩) _ _ (hN.out.le lb) HP.out.fit
                    obtain ⟨p, hp⟩ : ∃ p, p = waitN rs on r g := ⟨_, rfl⟩
                    have HPD : Hid (p = waitN rs on r g) := hp
                    rw [← hp] at m1
                    obtain ⟨xs, hxs⟩ : ∃ xs, xs = whichL p 4 := ⟨_, rfl⟩
                    have HXS : Hid (xs = whichL p 4) := hxs
                    rw [← hxs] at m1
                    obtain ⟨nx, hnx⟩ : ∃ n, n = xs.length := ⟨_, rfl⟩
                    have HNX : Hid (nx = xs.length) := hnx
                    rw [← hnx] at m1
                    clear hp hxs hnx
                    obtain ⟨⟨y0, y1, y2, y3, y4⟩, y5, y6, y7, y8⟩ := (hbm).mach
                    go_wp2_with fail
                    refine m1.mono ?_
                    rintro e w2 ⟨ca, cc, rfl, o2, l2⟩
                    clear y0 y1 y2 y3 y4 y5 y6 y7 y8
                    clear m1 hbm
                    obtain ⟨a', cap', hv, hcap, _, hxx⟩ := o2.has
                    simp only [Value.slice.injEq] at hv
                    obtain ⟨rfl, hn, rfl⟩ := hv
                    rw [← hn] at hcap hxx
                    have hnx4 : nx ≤ 4 := by rw [hn, HXS.out]; exact whichL_len p 4
                    clear o2 hn
                    have l2c := lb.trans l2
                    have hb8 := h8.le l2c
                    go_wp2_with fail
                    go_loopw [17, 18] (fun kk tt wd => ∃ j : Nat, j ≤ 4 ∧ kk = .int .i64 ((whichL p j).length : Nat) ∧ tt = .int .i64 j ∧ wd = w2) (fun _ tt _ => 4 - (intOf tt).toNat)
                    case atStart => exact ⟨0, by omega, rfl, rfl, rfl⟩
                    case round =>
                      obtain ⟨j, hj, rfl, rfl, hwd⟩ := hrel
                      subst hwd
                      obtain ⟨kk, hkk⟩ : ∃ n, n = (whichL p j).length := ⟨_, rfl⟩
                      rw [← hkk]
                      have HKK : Hid (kk = (whichL p j).length) := hkk
                      clear hkk
                      by_cases hlj : j < 4
                      · have hlj' : (j : Int) < 4 := by omega
                        have c8 := (hb8.cell j).trans (onV_at on hlj)
                        obtain ⟨jq, hjq⟩ : ∃ q, q = (j : Int) % 2 := ⟨_, rfl⟩
                        have hb1 : bits .and .i64 (j : Int) 1 = jq := by rw [hjq]; exact and1 _
                        obtain ⟨rq, hrq⟩ : ∃ q, q = rowN rs j % 2 := ⟨_, rfl⟩
                        have HPJ : Hid (p j = (decide (jq = r) && (decide (rq = g) && on j))) := (show p j = _ by rw [HPD.out, hjq, hrq]; rfl)
                        have HJQ : Hid (jq = (j : Int) % 2) := hjq
                        have HRQ : Hid (rq = rowN rs j % 2) := hrq
                        clear hjq hrq
                        by_cases hjr : j < nr
                        · have hjr' : (j : Int) < (nr : Int) := by omega
                          obtain ⟨b, off, rfl, hcell⟩ := hrx (by omega)
                          have cj := cell_le (hcell j hjr) (hl.trans l2c)
                          obtain ⟨x, hxk⟩ : ∃ x, x = rs.getD j 0 := ⟨_, rfl⟩
                          rw [← hxk] at cj
                          obtain ⟨rw', hrw⟩ : ∃ r, r = bits .and .i64 x 3 := ⟨_, rfl⟩
                          have hb3 : bits .and .i64 x 3 = rw' := hrw.symm
                          have hb2 : bits .and .i64 rw' 1 = rq := by
                            rw [and1, HRQ.out, hrw, hxk, and3]
                            unfold rowN
                            rw [if_pos (by have := HNR.out; omega)]
                          clear hxk hcell hrw
                          cases hon : on j
                          · rw [hon] at c8
                            have hpj : p j = false := by rw [HPJ.out, hon]; simp
                            have HW : Hid ((whichL p (j + 1)).length = kk) := (show (whichL p (j + 1)).length = kk by rw [whichL_no hpj, HKK.out])
                            clear hon hpj
                            go_wp2_with fail
                            go_roundw
                            case rel => exact ⟨j + 1, by omega, by rw [HW.out], by go_num, trivial⟩
                            case measure => simp [intOf]; omega
                          rw [hon] at c8
                          by_cases e1 : jq = r
                          case neg =>
                            have hpj : p j = false := by rw [HPJ.out, decide_eq_false e1]; simp
                            have HW : Hid ((whichL p (j + 1)).length = kk) := (show (whichL p (j + 1)).length = kk by rw [whichL_no hpj, HKK.out])
                            have hq1 : (jq != (r : Int)) = true := by simp [e1]
                            clear hon hpj e1
                            go_wp2_with fail
                            go_roundw
                            case rel => exact ⟨j + 1, by omega, by rw [HW.out], by go_num, trivial⟩
                            case measure => simp [intOf]; omega
                          have hq1 : (jq != (r : Int)) = false := by simp [e1]
                          by_cases e2 : rq = (g : Int)
                          case neg =>
                            have hpj : p j = false := by rw [HPJ.out, decide_eq_false e2]; simp
                            have HW : Hid ((whichL p (j + 1)).length = kk) := (show (whichL p (j + 1)).length = kk by rw [whichL_no hpj, HKK.out])
                            have hq2 : (rq != (g : Int)) = true := by simp only [bne_iff_ne, ne_eq]; exact e2
                            clear hon hpj e1 e2
                            go_wp2_with fail
                            go_roundw
                            case rel => exact ⟨j + 1, by omega, by rw [HW.out], by go_num, trivial⟩
                            case measure => simp [intOf]; omega
                          have hq2 : (rq != (g : Int)) = false := by rw [e2]; simp
                          have hpj : p j = true := by rw [HPJ.out, decide_eq_true e1, decide_eq_true e2, hon]; rfl
                          obtain ⟨hk1, hk2⟩ := whichL_at hlj hpj
                          rw [← HKK.out, ← HXS.out] at hk1 hk2
                          rw [← HNX.out] at hk1
                          have HW : Hid ((whichL p (j + 1)).length = kk + 1) := (show (whichL p (j + 1)).length = kk + 1 by rw [whichL_yes hpj, HKK.out]; simp)
                          obtain ⟨b2, off2, rfl, hc2⟩ := hxx (by omega)
                          have c2 := hc2 kk hk1
                          rw [hk2] at c2
                          have hk3 : ¬ (kk : Int) ≥ (nx : Int) := by omega
                          have hk4 : (kk : Int) < (nx : Int) := by omega
                          have hk5 : ((j : Int) != (j : Int)) = false := by simp
                          clear hon hpj e1 e2 hk1 hk2 hc2
                          go_wp2_with fail
                          go_roundw
                          case rel => exact ⟨j + 1, by omega, by rw [HW.out]; go_num, by go_num, trivial⟩
                          case measure => simp [intOf]; omega
                        · have hjr' : ¬ (j : Int) < (nr : Int) := by omega
                          have hrq0 : rq = 0 := by
                            rw [HRQ.out]
                            unfold rowN
                            rw [if_neg (by have := HNR.out; omega)]
                            rfl
                          subst hrq0
                          have hb2 : bits .and .i64 0 1 = 0 := and1 0
                          cases hon : on j
                          · rw [hon] at c8
                            have hpj : p j = false := by rw [HPJ.out, hon]; simp
                            have HW : Hid ((whichL p (j + 1)).length = kk) := (show (whichL p (j + 1)).length = kk by rw [whichL_no hpj, HKK.out])
                            clear hon hpj
                            go_wp2_with fail
                            go_roundw
                            case rel => exact ⟨j + 1, by omega, by rw [HW.out], by go_num, trivial⟩
                            case measure => simp [intOf]; omega
                          rw [hon] at c8
                          by_cases e1 : jq = r
                          case neg =>
                            have hpj : p j = false := by rw [HPJ.out, decide_eq_false e1]; simp
                            have HW : Hid ((whichL p (j + 1)).length = kk) := (show (whichL p (j + 1)).length = kk by rw [whichL_no hpj, HKK.out])
                            have hq1 : (jq != (r : Int)) = true := by simp [e1]
                            clear hon hpj e1
                            go_wp2_with fail
                            go_roundw
                            case rel => exact ⟨j + 1, by omega, by rw [HW.out], by go_num, trivial⟩
                            case measure => simp [intOf]; omega
                          have hq1 : (jq != (r : Int)) = false := by simp [e1]
                          by_cases e2 : (0 : Int) = (g : Int)
                          case neg =>
                            have hpj : p j = false := by rw [HPJ.out, decide_eq_false e2]; simp
                            have HW : Hid ((whichL p (j + 1)).length = kk) := (show (whichL p (j + 1)).length = kk by rw [whichL_no hpj, HKK.out])
                            have hq2 : ((0 : Int) != (g : Int)) = true := by simp only [bne_iff_ne, ne_eq]; exact e2
                            clear hon hpj e1 e2
                            go_wp2_with fail
                            go_roundw
                            case rel => exact ⟨j + 1, by omega, by rw [HW.out], by go_num, trivial⟩
                            case measure => simp [intOf]; omega
                          have hq2 : ((0 : Int) != (g : Int)) = false := by rw [e2]; simp
                          have hpj : p j = true := by rw [HPJ.out, decide_eq_true e1, decide_eq_true e2, hon]; rfl
                          obtain ⟨hk1, hk2⟩ := whichL_at hlj hpj
                          rw [← HKK.out, ← HXS.out] at hk1 hk2
                          rw [← HNX.out] at hk1
                          have HW : Hid ((whichL p (j + 1)).length = kk + 1) := (show (whichL p (j + 1)).length = kk + 1 by rw [whichL_yes hpj, HKK.out]; simp)
                          obtain ⟨b2, off2, rfl, hc2⟩ := hxx (by omega)
                          have c2 := hc2 kk hk1
                          rw [hk2] at c2
                          have hk3 : ¬ (kk : Int) ≥ (nx : Int) := by omega
                          have hk4 : (kk : Int) < (nx : Int) := by omega
                          have hk5 : ((j : Int) != (j : Int)) = false := by simp
                          clear hon hpj e1 e2 hk1 hk2 hc2
                          go_wp2_with fail
                          go_roundw
                          case rel => exact ⟨j + 1, by omega, by rw [HW.out]; go_num, by go_num, trivial⟩
                          case measure => simp [intOf]; omega
                      · have hj4 : j = 4 := by omega
                        have hlj' : ¬ (j : Int) < 4 := by omega
                        have hkn : kk = nx := by rw [HKK.out, HNX.out, HXS.out, hj4]
                        have hkn' : ((kk : Int) != (nx : Int)) = false := by simp [hkn]
                        clear hkn hj4 hlj hj
                        go_wp2_with fail
                        refine (lawNum _ _).mono ?_
                        rintro e _ ⟨rfl, rfl⟩
                        go_wp2_with fail
                        go_roundw
                        case rel => exact ⟨g + 1, by omega, by go_num, l2c⟩
                        case measure => simp [intOf]; omega
                  · have hlg' : ¬ (g : Int) < 2 := by omega
                    go_wp2_with fail
                    go_roundw
                    case rel => exact ⟨r + 1, by omega, by go_num, lb⟩
                    case measure => simp [intOf]; omega
              · have hlr' : ¬ (r : Int) < 2 := by omega
                have hfld := fieldT
                go_wp2_with fail
                refine (calledT16 _).mono ?_
                rintro e w9 ⟨pR, pP, ha, hc, pH, rfl, l9⟩
                go_wp2_with fail
                go_ret
                exact ⟨rfl, (hl.trans la).trans l9⟩
          · have hlt3 : ¬ (k : Int) < (np : Int) := by omega
            clear hlt hlt1 hk hkp
            have hN : Hid (HasM wr (machV begC yR yP yT yH) N) := oM.out.has
            clear oM
            go_wp2_with fail
            go_loopw [13] (fun i wa => ∃ r : Nat, r ≤ 2 ∧ i = .int .i64 r ∧ Le wr wa) (fun i _ => 2 - (intOf i).toNat)
            case atStart => exact ⟨0, by omega, rfl, Le.refl _⟩
            case round =>
              obtain ⟨r, hr, rfl, la⟩ := hrel
              by_cases hlr : r < 2
              · have hlr' : (r : Int) < 2 := by omega
                go_wp2_with fail
                go_loopw [14] (fun i wb => ∃ g : Nat, g ≤ 2 ∧ i = .int .i64 g ∧ Le _ wb) (fun i _ => 2 - (intOf i).toNat)
                case atStart => exact ⟨0, by omega, rfl, la⟩
                case round =>
                  obtain ⟨g, hg, rfl, lb⟩ := hrel
                  by_cases hlg : g < 2
                  · have hlg' : (g : Int) < 2 := by omega
                    have hbm := hbM.le lb
                    have m1 := boardWaitAs (HP.out.wait (r := r) (g := g) ⟨by omega, by omega⟩ ⟨by omega, by omega⟩) _ _ (hN.out.le lb) HP.out.fit
                    obtain ⟨p, hp⟩ : ∃ p, p = waitN rs on r g := ⟨_, rfl⟩
                    have HPD : Hid (p = waitN rs on r g) := hp
                    rw [← hp] at m1
                    obtain ⟨xs, hxs⟩ : ∃ xs, xs = whichL p 4 := ⟨_, rfl⟩
                    have HXS : Hid (xs = whichL p 4) := hxs
                    rw [← hxs] at m1
                    obtain ⟨nx, hnx⟩ : ∃ n, n = xs.length := ⟨_, rfl⟩
                    have HNX : Hid (nx = xs.length) := hnx
                    rw [← hnx] at m1
                    clear hp hxs hnx
                    obtain ⟨⟨y0, y1, y2, y3, y4⟩, y5, y6, y7, y8⟩ := (hbm).mach
                    go_wp2_with fail
                    refine m1.mono ?_
                    rintro e w2 ⟨ca, cc, rfl, o2, l2⟩
                    clear y0 y1 y2 y3 y4 y5 y6 y7 y8
                    clear m1 hbm
                    obtain ⟨a', cap', hv, hcap, _, hxx⟩ := o2.has
                    simp only [Value.slice.injEq] at hv
                    obtain ⟨rfl, hn, rfl⟩ := hv
                    rw [← hn] at hcap hxx
                    have hnx4 : nx ≤ 4 := by rw [hn, HXS.out]; exact whichL_len p 4
                    clear o2 hn
                    have l2c := lb.trans l2
                    have hb8 := h8.le l2c
                    go_wp2_with fail
                    go_loopw [17, 18] (fun kk tt wd => ∃ j : Nat, j ≤ 4 ∧ kk = .int .i64 ((whichL p j).length : Nat) ∧ tt = .int .i64 j ∧ wd = w2) (fun _ tt _ => 4 - (intOf tt).toNat)
                    case atStart => exact ⟨0, by omega, rfl, rfl, rfl⟩
                    case round =>
                      obtain ⟨j, hj, rfl, rfl, hwd⟩ := hrel
                      subst hwd
                      obtain ⟨kk, hkk⟩ : ∃ n, n = (whichL p j).length := ⟨_, rfl⟩
                      rw [← hkk]
                      have HKK : Hid (kk = (whichL p j).length) := hkk
                      clear hkk
                      by_cases hlj : j < 4
                      · have hlj' : (j : Int) < 4 := by omega
                        have c8 := (hb8.cell j).trans (onV_at on hlj)
                        obtain ⟨jq, hjq⟩ : ∃ q, q = (j : Int) % 2 := ⟨_, rfl⟩
                        have hb1 : bits .and .i64 (j : Int) 1 = jq := by rw [hjq]; exact and1 _
                        obtain ⟨rq, hrq⟩ : ∃ q, q = rowN rs j % 2 := ⟨_, rfl⟩
                        have HPJ : Hid (p j = (decide (jq = r) && (decide (rq = g) && on j))) := (show p j = _ by rw [HPD.out, hjq, hrq]; rfl)
                        have HJQ : Hid (jq = (j : Int) % 2) := hjq
                        have HRQ : Hid (rq = rowN rs j % 2) := hrq
                        clear hjq hrq
                        by_cases hjr : j < nr
                        · have hjr' : (j : Int) < (nr : Int) := by omega
                          obtain ⟨b, off, rfl, hcell⟩ := hrx (by omega)
                          have cj := cell_le (hcell j hjr) (hl.trans l2c)
                          obtain ⟨x, hxk⟩ : ∃ x, x = rs.getD j 0 := ⟨_, rfl⟩
                          rw [← hxk] at cj
                          obtain ⟨rw', hrw⟩ : ∃ r, r = bits .and .i64 x 3 := ⟨_, rfl⟩
                          have hb3 : bits .and .i64 x 3 = rw' := hrw.symm
                          have hb2 : bits .and .i64 rw' 1 = rq := by
                            rw [and1, HRQ.out, hrw, hxk, and3]
                            unfold rowN
                            rw [if_pos (by have := HNR.out; omega)]
                          clear hxk hcell hrw
                          cases hon : on j
                          · rw [hon] at c8
                            have hpj : p j = false := by rw [HPJ.out, hon]; simp
                            have HW : Hid ((whichL p (j + 1)).length = kk) := (show (whichL p (j + 1)).length = kk by rw [whichL_no hpj, HKK.out])
                            clear hon hpj
                            go_wp2_with fail
                            go_roundw
                            case rel => exact ⟨j + 1, by omega, by rw [HW.out], by go_num, trivial⟩
                            case measure => simp [intOf]; omega
                          rw [hon] at c8
                          by_cases e1 : jq = r
                          case neg =>
                            have hpj : p j = false := by rw [HPJ.out, decide_eq_false e1]; simp
                            have HW : Hid ((whichL p (j + 1)).length = kk) := (show (whichL p (j + 1)).length = kk by rw [whichL_no hpj, HKK.out])
                            have hq1 : (jq != (r : Int)) = true := by simp [e1]
                            clear hon hpj e1
                            go_wp2_with fail
                            go_roundw
                            case rel => exact ⟨j + 1, by omega, by rw [HW.out], by go_num, trivial⟩
                            case measure => simp [intOf]; omega
                          have hq1 : (jq != (r : Int)) = false := by simp [e1]
                          by_cases e2 : rq = (g : Int)
                          case neg =>
                            have hpj : p j = false := by rw [HPJ.out, decide_eq_false e2]; simp
                            have HW : Hid ((whichL p (j + 1)).length = kk) := (show (whichL p (j + 1)).length = kk by rw [whichL_no hpj, HKK.out])
                            have hq2 : (rq != (g : Int)) = true := by simp only [bne_iff_ne, ne_eq]; exact e2
                            clear hon hpj e1 e2
                            go_wp2_with fail
                            go_roundw
                            case rel => exact ⟨j + 1, by omega, by rw [HW.out], by go_num, trivial⟩
                            case measure => simp [intOf]; omega
                          have hq2 : (rq != (g : Int)) = false := by rw [e2]; simp
                          have hpj : p j = true := by rw [HPJ.out, decide_eq_true e1, decide_eq_true e2, hon]; rfl
                          obtain ⟨hk1, hk2⟩ := whichL_at hlj hpj
                          rw [← HKK.out, ← HXS.out] at hk1 hk2
                          rw [← HNX.out] at hk1
                          have HW : Hid ((whichL p (j + 1)).length = kk + 1) := (show (whichL p (j + 1)).length = kk + 1 by rw [whichL_yes hpj, HKK.out]; simp)
                          obtain ⟨b2, off2, rfl, hc2⟩ := hxx (by omega)
                          have c2 := hc2 kk hk1
                          rw [hk2] at c2
                          have hk3 : ¬ (kk : Int) ≥ (nx : Int) := by omega
                          have hk4 : (kk : Int) < (nx : Int) := by omega
                          have hk5 : ((j : Int) != (j : Int)) = false := by simp
                          clear hon hpj e1 e2 hk1 hk2 hc2
                          go_wp2_with fail
                          go_roundw
                          case rel => exact ⟨j + 1, by omega, by rw [HW.out]; go_num, by go_num, trivial⟩
                          case measure => simp [intOf]; omega
                        · have hjr' : ¬ (j : Int) < (nr : Int) := by omega
                          have hrq0 : rq = 0 := by
                            rw [HRQ.out]
                            unfold rowN
                            rw [if_neg (by have := HNR.out; omega)]
                            rfl
                          subst hrq0
                          have hb2 : bits .and .i64 0 1 = 0 := and1 0
                          cases hon : on j
                          · rw [hon] at c8
                            have hpj : p j = false := by rw [HPJ.out, hon]; simp
                            have HW : Hid ((whichL p (j + 1)).length = kk) := (show (whichL p (j + 1)).length = kk by rw [whichL_no hpj, HKK.out])
                            clear hon hpj
                            go_wp2_with fail
                            go_roundw
                            case rel => exact ⟨j + 1, by omega, by rw [HW.out], by go_num, trivial⟩
                            case measure => simp [intOf]; omega
                          rw [hon] at c8
                          by_cases e1 : jq = r
                          case neg =>
                            have hpj : p j = false := by rw [HPJ.out, decide_eq_false e1]; simp
                            have HW : Hid ((whichL p (j + 1)).length = kk) := (show (whichL p (j + 1)).length = kk by rw [whichL_no hpj, HKK.out])
                            have hq1 : (jq != (r : Int)) = true := by simp [e1]
                            clear hon hpj e1
                            go_wp2_with fail
                            go_roundw
                            case rel => exact ⟨j + 1, by omega, by rw [HW.out], by go_num, trivial⟩
                            case measure => simp [intOf]; omega
                          have hq1 : (jq != (r : Int)) = false := by simp [e1]
                          by_cases e2 : (0 : Int) = (g : Int)
                          case neg =>
                            have hpj : p j = false := by rw [HPJ.out, decide_eq_false e2]; simp
                            have HW : Hid ((whichL p (j + 1)).length = kk) := (show (whichL p (j + 1)).length = kk by rw [whichL_no hpj, HKK.out])
                            have hq2 : ((0 : Int) != (g : Int)) = true := by simp only [bne_iff_ne, ne_eq]; exact e2
                            clear hon hpj e1 e2
                            go_wp2_with fail
                            go_roundw
                            case rel => exact ⟨j + 1, by omega, by rw [HW.out], by go_num, trivial⟩
                            case measure => simp [intOf]; omega
                          have hq2 : ((0 : Int) != (g : Int)) = false := by rw [e2]; simp
                          have hpj : p j = true := by rw [HPJ.out, decide_eq_true e1, decide_eq_true e2, hon]; rfl
                          obtain ⟨hk1, hk2⟩ := whichL_at hlj hpj
                          rw [← HKK.out, ← HXS.out] at hk1 hk2
                          rw [← HNX.out] at hk1
                          have HW : Hid ((whichL p (j + 1)).length = kk + 1) := (show (whichL p (j + 1)).length = kk + 1 by rw [whichL_yes hpj, HKK.out]; simp)
                          obtain ⟨b2, off2, rfl, hc2⟩ := hxx (by omega)
                          have c2 := hc2 kk hk1
                          rw [hk2] at c2
                          have hk3 : ¬ (kk : Int) ≥ (nx : Int) := by omega
                          have hk4 : (kk : Int) < (nx : Int) := by omega
                          have hk5 : ((j : Int) != (j : Int)) = false := by simp
                          clear hon hpj e1 e2 hk1 hk2 hc2
                          go_wp2_with fail
                          go_roundw
                          case rel => exact ⟨j + 1, by omega, by rw [HW.out]; go_num, by go_num, trivial⟩
                          case measure => simp [intOf]; omega
                      · have hj4 : j = 4 := by omega
                        have hlj' : ¬ (j : Int) < 4 := by omega
                        have hkn : kk = nx := by rw [HKK.out, HNX.out, HXS.out, hj4]
                        have hkn' : ((kk : Int) != (nx : Int)) = false := by simp [hkn]
                        clear hkn hj4 hlj hj
                        go_wp2_with fail
                        refine (lawNum _ _).mono ?_
                        rintro e _ ⟨rfl, rfl⟩
                        go_wp2_with fail
                        go_roundw
                        case rel => exact ⟨g + 1, by omega, by go_num, l2c⟩
                        case measure => simp [intOf]; omega
                  · have hlg' : ¬ (g : Int) < 2 := by omega
                    go_wp2_with fail
                    go_roundw
                    case rel => exact ⟨r + 1, by omega, by go_num, lb⟩
                    case measure => simp [intOf]; omega
              · have hlr' : ¬ (r : Int) < 2 := by omega
                have hfld := fieldT
                go_wp2_with fail
                refine (calledT16 _).mono ?_
                rintro e w9 ⟨pR, pP, ha, hc, pH, rfl, l9⟩
                go_wp2_with fail
                go_ret
                exact ⟨rfl, (hl.trans la).trans l9⟩

end Go.Proofs.YtkddgpdlpjjpbaaGreat
