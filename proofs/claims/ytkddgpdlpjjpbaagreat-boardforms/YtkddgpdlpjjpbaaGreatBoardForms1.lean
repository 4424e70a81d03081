/-
  PARTS LAID TOGETHER, each with its own opening: Bg16, BoD, BoA, BoB, BoW, OwA, Bits, Grow3, BoZ.
-/
import Derived.Test.YtkddgpdlpjjpbaaGreatCom5
import Derived.Test.YtkddgpdlpjjpbaaGreatCom4
import Derived.Test.YtkddgpdlpjjpbaaGreatCom3
import Derived.Test.YtkddgpdlpjjpbaaGreatCom1
import Derived.Laws.BitsLemmas
/-
  THE WALKS over choruslaw16's begun and called: a machine that begins, and one that thread 0 has called. No condition.
-/
namespace Go.Proofs.YtkddgpdlpjjpbaaGreat
open Go.RowKit

set_option maxRecDepth 8000 in
set_option maxHeartbeats 4000000 in
theorem begun16 (w : World) : Calls Tryz.prog 26 #[] w fun e w' => ∃ qR qP qT qH, e = .returned (machV begC qR qP qT qH) ∧ OwnM w' w.heap.size (machV begC qR qP qT qH) begM ∧ Le w w' := by
  have hr := Box.new w cellsZ9 29
  have hl := Le.alloc w (.cells cellsZ9 29)
  go_enter Tryz.func26, Tryz.ntmps26
  go_upto_region 1 with fail
  generalize hW : w.alloc (.cells cellsZ9 29) = W at hl hr ⊢
  clear hW
  go_wp2_with fail
  refine (begNew _).mono ?_
  rintro e w1 ⟨qR, qP, qT, qH, rfl, o, l1⟩
  replace hr := hr.le l1
  have ho := (o.base hl.size)
  replace hl := hl.trans l1
  clear o l1
  have hb := Box.new w1 (cells9 begC qR qP qT qH) 29
  have a1 := Le.alloc w1 (.cells (cells9 begC qR qP qT qH) 29)
  go_upto_region 2 with fail
  generalize hW1 : w1.alloc (.cells (cells9 begC qR qP qT qH) 29) = W1 at hb a1 ⊢
  generalize w1.heap.size = g1 at hb ⊢
  clear hW1
  replace hr := hr.le a1
  replace ho := ho.le a1
  replace hl := hl.trans a1
  clear a1
  obtain ⟨⟨z0, z1, z2, z3, z4⟩, z5, z6, z7, z8⟩ := (hb).mach
  obtain ⟨⟨r0, r1, r2, r3, r4, r5, r6, r7, r8⟩, k0, k1, k2, k3, k4, k5, k6, k7, k8⟩ := hr.res
  go_wp2_with fail
  refine bodyPost_ret (v := machV begC qR qP qT qH) (by simp [results, Tryz.results26, go_sem, r0, r1, r2, r3, r4, r5, r6, r7, r8]) rfl ⟨qR, qP, qT, qH, rfl, ?_, hl.put9 (g := w.heap.size) (Nat.le_refl _) begC qR qP qT qH⟩
  obtain ⟨L, hv, hm, ho⟩ := ho
  exact ⟨L, hv, hm, ho.put9 hr begC qR qP qT qH⟩

set_option maxRecDepth 8000 in
set_option maxHeartbeats 4000000 in
theorem called16 (w : World) : Calls Tryz.prog 28 #[] w fun e w' => ∃ qR qP qT qH, e = .returned (machV begC qR qP qT qH) ∧ OwnA w' w.heap.size (machV begC qR qP qT qH) cldM ∧ Le w w' := by
  have hr := Box.new w cellsZ9 29
  have hl := Le.alloc w (.cells cellsZ9 29)
  go_enter Tryz.func28, Tryz.ntmps28
  go_upto_region 1 with fail
  generalize hW : w.alloc (.cells cellsZ9 29) = W at hl hr ⊢
  clear hW
  go_wp2_with fail
  refine (begun16 _).mono ?_
  rintro e w0 ⟨pR, pP, pT, pH, rfl, o0, l0⟩
  replace hr := hr.le l0
  replace hl := hl.trans l0
  clear l0
  go_wp2_with fail
  refine (begCall _ _ o0.has).mono ?_
  rintro e w1 ⟨qR, qP, qT, qH, rfl, o, l1⟩
  clear o0
  replace hr := hr.le l1
  have ho := (o.base hl.size)
  replace hl := hl.trans l1
  clear o l1
  have hb := Box.new w1 (cells9 begC qR qP qT qH) 29
  have a1 := Le.alloc w1 (.cells (cells9 begC qR qP qT qH) 29)
  go_upto_region 2 with fail
  generalize hW1 : w1.alloc (.cells (cells9 begC qR qP qT qH) 29) = W1 at hb a1 ⊢
  generalize w1.heap.size = g1 at hb ⊢
  clear hW1
  replace hr := hr.le a1
  replace ho := ho.le a1
  replace hl := hl.trans a1
  clear a1
  obtain ⟨⟨z0, z1, z2, z3, z4⟩, z5, z6, z7, z8⟩ := (hb).mach
  obtain ⟨⟨r0, r1, r2, r3, r4, r5, r6, r7, r8⟩, k0, k1, k2, k3, k4, k5, k6, k7, k8⟩ := hr.res
  go_wp2_with fail
  refine bodyPost_ret (v := machV begC qR qP qT qH) (by simp [results, Tryz.results28, go_sem, r0, r1, r2, r3, r4, r5, r6, r7, r8]) rfl ⟨qR, qP, qT, qH, rfl, ?_, hl.put9 (g := w.heap.size) (Nat.le_refl _) begC qR qP qT qH⟩
  obtain ⟨L, hv, hm, ho, ha⟩ := ho
  exact ⟨L, hv, hm, ho.put9 hr begC qR qP qT qH, ha⟩

/-- .. as its history tells. -/
theorem calledL16 (w : World) : Calls Tryz.prog 28 #[] w fun e w' => ∃ qR qP qT a c, e = .returned (.agg #[.int .i64 2, .int .i64 2, .int .i64 2, .int .i64 4, .int .i64 8, slV qR, slV qP, slV qT, .slice a 1 c]) ∧ Le w w' := by
  refine (called16 w).mono ?_
  rintro e w' ⟨qR, qP, qT, qH, rfl, o, l⟩
  have hh : qH.2.1 = 1 := o.has.lens.2.2.2
  obtain ⟨a, n, c⟩ := qH
  simp only at hh
  subst hh
  exact ⟨qR, qP, qT, a, c, rfl, l⟩

end Go.Proofs.YtkddgpdlpjjpbaaGreat

/-
  PLAIN GROUND, NO WALK: package board's answers as data: what it answers of a machine that begins and of one that thread 0 has called. No condition.
-/
namespace Go.Proofs.YtkddgpdlpjjpbaaGreat
open Go.RowKit

theorem fitM_post {M : Mc} (h : FitM M) (t : Int) : FitM (postM M t).1 := by
  unfold postM
  split
  · exact h.putT t (h.th t)
  · exact fitM_zero
/-- Thread 0 waits. -/
def bo1 : Mc := cldM.putT 0 { cldM.th 0 with po := true, re := false }
theorem bo_1 : postM cldM 0 = (bo1, 0) := by decide +kernel
theorem bo_2 : waitM bo1 0 0 = ([0], 0) := by decide +kernel
theorem bo_3 : waitM bo1 0 1 = ([], 0) := by decide +kernel
theorem bo_4 : postM begM 4 = (Mc.zero, 1600) := by decide +kernel
theorem bo_5 : waitM begM 0 2 = ([], 1600) := by decide +kernel
theorem bo_may : mayM bo1 = true := by decide +kernel
theorem bo_fit : FitM bo1 := fitB_fit (by decide +kernel)
theorem bo_open {w : World} {v : Value} (h : HasM w v bo1) : ∃ qR qP bT oT cT qH, v = machV begC qR qP (some ⟨bT, oT, none⟩, 4, cT) qH ∧ w.cell? ⟨bT, oT + 8, none⟩ = some (.bool true) := by
  obtain ⟨bR, oR, cR, bP, oP, cP, bT, oT, cT, qH, rfl, _, _, hcT, _⟩ := h.opens bo_may
  obtain ⟨qb, qt, ⟨_, _, _, _, _, _, _, _, x8, _⟩, _⟩ := hcT 0 (by decide +kernel)
  have h4 : (bo1.ts.getD 0 Th.zero).po = true := by decide +kernel
  rw [h4, Nat.zero_mul, Nat.add_zero] at x8
  have h3 : bo1.ts.length = 4 := by decide +kernel
  rw [h3]
  exact ⟨_, _, bT, oT, cT, qH, rfl, x8⟩

end Go.Proofs.YtkddgpdlpjjpbaaGreat

/-
  THE WALKS over lists.Which at threads (with a function that holds three variables) and package board's Post and Waiting: what each answers, for every machine, thread and place. Condition: that the machine's rows can be copied.
-/
namespace Go.Proofs.YtkddgpdlpjjpbaaGreat
open Go.RowKit

set_option maxRecDepth 8000 in
set_option maxHeartbeats 8000000 in
theorem boardPost (v : Value) (M : Mc) (t : Int) (w : World) (hx : HasM w v M) (hf : FitM M) : Calls Tryz.prog 19 #[v, .int .i64 t] w fun e w' => ∃ v', e = .returned (.tuple #[v', .int .i64 (postM M t).2]) ∧ OwnA w' w.heap.size v' (postM M t).1 ∧ Le w w' := by
  have m1 := fun w' (l : Le w w') => machHasThread v M t w' (hx.le l) hf
  have m2 := fun w' (l : Le w w') => machCopy v M w' (hx.le l) hf
  obtain ⟨qR, qP, qT, qH, rfl, _, _, _, _⟩ := hx
  cases h1 : thereB M 0 0 t
  · have hP : postM M t = (Mc.zero, 1600) := by unfold postM; rw [h1]; rfl
    rw [hP]
    simp only [h1] at m1
    clear h1
    have hr := Box.new (w.alloc (.cells (cells9 M.c qR qP qT qH) 29)) cellsZ9 29
    have hb := (Box.new w (cells9 M.c qR qP qT qH) 29).le (Le.alloc _ (.cells cellsZ9 29))
    have hl := (Le.alloc w (.cells (cells9 M.c qR qP qT qH) 29)).trans (Le.alloc _ (.cells cellsZ9 29))
    rw [World.size_alloc] at hr
    go_enter Tryz.func19, Tryz.ntmps19
    go_upto_region 1 with fail
    generalize hW : (w.alloc (.cells (cells9 M.c qR qP qT qH) 29)).alloc (.cells cellsZ9 29) = W at hl hb hr ⊢
    clear hW
    have hgr := hr.lt
    obtain ⟨⟨z0, z1, z2, z3, z4⟩, z5, z6, z7, z8⟩ := (hb).mach
    go_wp2_with fail
    refine (m1 _ hl).mono ?_
    rintro e w1 ⟨rfl, l1⟩
    clear z0 z1 z2 z3 z4 z5 z6 z7 z8
    clear m1
    replace hb := hb.le l1
    replace hl := hl.trans l1
    have hgr := Nat.lt_of_lt_of_le hgr l1.size
    replace hr := hr.le l1
    clear l1
    obtain ⟨⟨r0, r1, r2, r3, r4, r5, r6, r7, r8⟩, k0, k1, k2, k3, k4, k5, k6, k7, k8⟩ := hr.res
    go_wp2_with fail
    refine bodyPost_ret (v := .tuple #[machZ, .int .i64 1600]) (by simp [results, Tryz.results19, go_sem, r0, r1, r2, r3, r4, r5, r6, r7, r8]) rfl ⟨_, rfl, OwnA.zero _ _, ?_⟩
    exact hl.put9 (c := Cfg.zero) (by omega) slZ slZ slZ slZ
  · have hP : postM M t = (M.putT t { M.th t with po := true, re := false }, 0) := by unfold postM; rw [h1]; rfl
    rw [hP]
    obtain ⟨hmay, _, _, ⟨t0, t1⟩⟩ := thereB_cases h1
    obtain ⟨_, _, hts, _⟩ := mayM_lens hmay
    obtain ⟨t, rfl⟩ : ∃ n : Nat, t = n := ⟨t.toNat, by omega⟩
    simp only [h1] at m1
    have hti : t < M.ts.length := by omega
    clear h1 hmay t1 hts hP
    have hr := Box.new (w.alloc (.cells (cells9 M.c qR qP qT qH) 29)) cellsZ9 29
    have hb := (Box.new w (cells9 M.c qR qP qT qH) 29).le (Le.alloc _ (.cells cellsZ9 29))
    have hl := (Le.alloc w (.cells (cells9 M.c qR qP qT qH) 29)).trans (Le.alloc _ (.cells cellsZ9 29))
    rw [World.size_alloc] at hr
    go_enter Tryz.func19, Tryz.ntmps19
    go_upto_region 1 with fail
    generalize hW : (w.alloc (.cells (cells9 M.c qR qP qT qH) 29)).alloc (.cells cellsZ9 29) = W at hl hb hr ⊢
    clear hW
    have hgr := hr.lt
    obtain ⟨⟨z0, z1, z2, z3, z4⟩, z5, z6, z7, z8⟩ := (hb).mach
    go_wp2_with fail
    refine (m1 _ hl).mono ?_
    rintro e w1 ⟨rfl, l1⟩
    clear z0 z1 z2 z3 z4 z5 z6 z7 z8
    clear m1
    replace hb := hb.le l1
    replace hl := hl.trans l1
    have hgr := Nat.lt_of_lt_of_le hgr l1.size
    replace hr := hr.le l1
    clear l1
    have hl1 := hl
    obtain ⟨⟨z0, z1, z2, z3, z4⟩, z5, z6, z7, z8⟩ := (hb).mach
    go_wp2_with fail
    refine (m2 _ hl).mono ?_
    rintro e w9 ⟨⟨c', uR, uP, uT, uH, xR, xP, xT, xH⟩, rfl, HM, o1, ap, l1⟩
    clear z0 z1 z2 z3 z4 z5 z6 z7 z8
    clear m2
    replace hb := hb.le l1
    obtain ⟨⟨z0, z1, z2, z3, z4⟩, z5, z6, z7, z8⟩ := (hb).mach
    have f0 := (hb).frozen 0
    have f1 := (hb).frozen 1
    have f2 := (hb).frozen 2
    have f3 := (hb).frozen 3
    have f4 := (hb).frozen 4
    have f5 := (hb).frozen 5
    have f6 := (hb).frozen 6
    have f7 := (hb).frozen 7
    have f8 := (hb).frozen 8
    have hlB : w.heap.size ≤ w1.heap.size := hl.size
    have o2 := (o1.base hlB).put9 hb c' uR uP uT uH
    have hb2 := hb.put9 rfl c' uR uP uT uH
    have hr2 := (hr.le l1).off9 (show w.heap.size + 1 ≠ w.heap.size by omega) c' uR uP uT uH
    have l01 := (hl.trans l1).put9 (g := w.heap.size) (Nat.le_refl _) c' uR uP uT uH
    try simp only at o2
    go_upto_region 4 with fail
    clear z0 z1 z2 z3 z4 z5 z6 z7 z8 f0 f1 f2 f3 f4 f5 f6 f7 f8 hb hr hl o1 l1
    show Code.wp _ _ _ _ (put9 w9 w.heap.size c' uR uP uT uH)
    generalize hW1 : put9 w9 w.heap.size c' uR uP uT uH = W1 at o2 hb2 hr2 l01 ⊢
    clear hW1
    have I : MoI w.heap.size w.heap.size W1 ⟨c', uR, uP, uT, uH, xR, xP, xT, xH⟩ := ⟨hb2, Nat.le_refl _, o2, ap⟩
    have hr := hr2
    have hl := l01
    clear o2 hb2 hr2
    have hiT : t < xT.length := by have := lay_ts HM; simp only at this; omega
    have hiT' : (t : Int) < (xT.length : Int) := by omega
    obtain ⟨gT, capT, hqT, hcapT, hgBT, hgltT, hgneT, hatT, hfzT⟩ := I.openT hiT
    try simp only at hqT hatT hcapT
    subst hqT
    obtain ⟨⟨y0, y1, y2, y3, y4⟩, y5, y6, y7, y8⟩ := (I.bo).mach
    simp only [slV] at y7
    obtain ⟨_, _, _, _, _, _, _, _, x8, x9, _, _⟩ := hatT
    have f8 := hfzT (t * 12 + 8)
    have f9 := hfzT (t * 12 + 9)
    clear hfzT
    obtain ⟨x0, hx0⟩ : ∃ x0, x0 = xT.getD t thK.d := ⟨_, rfl⟩
    have I2 := I.setTx (j := 8) (u := .bool true) rfl hiT (by decide) x0 hx0.symm { x0.T with po := true } rfl rfl rfl
    have I3 := I2.setTy (j := 9) (u := .bool false) rfl hiT (by decide) { x0.T with po := true, re := false } rfl rfl rfl
    have l2 := (hl.set (g := gT) (i := t * 12 + 8) (u := .bool true) hgBT).set (g := gT) (i := t * 12 + 9) (u := .bool false) hgBT
    have hne : w.heap.size + 1 ≠ gT := I.neT rfl hr (by decide)
    have hr2 := (hr.other hne (t * 12 + 8) (.bool true)).other hne (t * 12 + 9) (.bool false)
    go_upto_region 6 with fail
    generalize hW2 : (W1.setCell ⟨gT, t * 12 + 8, none⟩ (.bool true)).setCell ⟨gT, t * 12 + 9, none⟩ (.bool false) = W2 at I3 l2 hr2 ⊢
    clear y0 y1 y2 y3 y4 y5 y6 y7 y8
    clear hW2 hr I I2 x8 x9 f8 f9
    obtain ⟨⟨y0, y1, y2, y3, y4⟩, y5, y6, y7, y8⟩ := (I3.bo).mach
    obtain ⟨⟨r0, r1, r2, r3, r4, r5, r6, r7, r8⟩, k0, k1, k2, k3, k4, k5, k6, k7, k8⟩ := hr2.res
    go_wp2_with fail
    refine bodyPost_ret (v := .tuple #[machV c' uR uP (some ⟨gT, 0, none⟩, xT.length, capT) uH, .int .i64 0]) (by simp [results, Tryz.results19, go_sem, r0, r1, r2, r3, r4, r5, r6, r7, r8]) rfl ⟨_, rfl, ?_, (l2).put9 (g := w.heap.size + 1) (by omega) c' uR uP (some ⟨gT, 0, none⟩, xT.length, capT) uH⟩
    have := (I3.ret hr2)
    rw [lay_setT HM] at this
    simp only [hx0, lay_th HM hiT] at this
    exact this

/-- The numbers of those of which it is so. -/
def whichL (p : Nat → Bool) (n : Nat) : List Int := ((List.range n).filter p).map Int.ofNat
theorem whichL_no {p : Nat → Bool} {k : Nat} (h : p k = false) : whichL p (k + 1) = whichL p k := by
  unfold whichL
  rw [List.range_succ, List.filter_append, List.map_append]
  simp [h]
theorem whichL_yes {p : Nat → Bool} {k : Nat} (h : p k = true) : whichL p (k + 1) = whichL p k ++ [(k : Int)] := by
  unfold whichL
  rw [List.range_succ, List.filter_append, List.map_append]
  simp [h]
theorem whichL_len (p : Nat → Bool) (k : Nat) : (whichL p k).length ≤ k := by
  unfold whichL
  rw [List.length_map]
  exact Nat.le_trans (List.length_filter_le _ _) (by simp)

set_option maxRecDepth 8000 in
set_option maxHeartbeats 8000000 in
theorem listsWhich (f : Nat) (c1 c2 c3 : Value) (p : Nat → Bool) (hc : ∀ (a u : Value) (w : World), (callFunc f #[a, u, c1, c2, c3]).run Tryz.prog w = .ok (.enter f #[a, u, c1, c2, c3]) w) (v : Value) (xs : List Th) (w : World)
    (hp : ∀ w', Le w w' → ∀ (k : Nat) (u : Value), k < xs.length → HasT w' u (xs.getD k Th.zero) → Calls Tryz.prog f #[.int .i64 k, u, c1, c2, c3] w' fun e w'' => e = .returned (.bool (p k)) ∧ Le w' w'') (hx : HasTs w v xs) (hm : xs.length ≤ 4) :
    Calls Tryz.prog 51 #[v, .func (.func f) #[] #[c1, c2, c3]] w fun e w' => ∃ q : Sl, e = .returned (slV q) ∧ Own w' w.heap.size (slV q) (whichL p xs.length) ∧ Le w w' := by
  obtain ⟨a, cap, rfl, hc', _, hx⟩ := hx.open
  by_cases h0 : 0 < xs.length
  · obtain ⟨b, off, rfl, hcell⟩ := hx h0
    clear hx
    obtain ⟨L, hL⟩ : ∃ L, L = xs.length := ⟨_, rfl⟩
    have HL : Hid (L = xs.length) := hL
    rw [← hL] at hm h0 hc' hcell ⊢
    clear hL
    go_enter Tryz.func51, Tryz.ntmps51
    go_wp2
    go_loopw [5, 10] (fun o i wr => ∃ (k : Nat) (q : Sl), k ≤ L ∧ o = slV q ∧ i = .int .i64 k ∧ Hid (Own wr w.heap.size (slV q) (whichL p k)) ∧ Le w wr) (fun _ i _ => L - (intOf i).toNat)
    case atStart => exact ⟨0, slZ, by omega, rfl, rfl, Own.nil _ _, Le.refl _⟩
    case round =>
      obtain ⟨k, q, hk, rfl, rfl, HO, hle⟩ := hrel
      by_cases hlt : k < L
      · obtain ⟨qb, qt, rA, hqb, hqt⟩ := hcell k hlt
        obtain ⟨s, hs⟩ : ∃ s, s = xs.getD k Th.zero := ⟨_, rfl⟩
        have HS : Hid (s = xs.getD k Th.zero) := hs
        have hm2 := fun w' (l : Le w w') => hp w' l k (thV s qb qt) (by have := HL.out; omega) (by rw [← hs]; exact ⟨qb, qt, rfl, by rw [hs]; exact hqb.le l, by rw [hs]; exact hqt.le l⟩)
        rw [← hs] at rA
        obtain ⟨x0, x1, x2, x3, x4, x5, x6, x7, x8, x9, x10, x11⟩ := rA.le hle
        have hlt' : (k : Int) < (L : Int) := by omega
        clear hs hcell hp hqb hqt rA
        cases hh : p k
        · simp only [hh] at hm2
          have HN : Hid (whichL p (k + 1) = whichL p k) := whichL_no hh
          clear hh
          go_wp2_with fail
          refine (hm2 _ (hle.trans (Le.alloc _ _))).mono ?_
          rintro e w1 ⟨rfl, l1⟩
          go_wp2
          go_roundw
          case rel => exact ⟨k + 1, q, by omega, rfl, by go_num, by rw [HN.out]; exact (HO.out.le (Le.alloc _ _)).le l1, (hle.trans (Le.alloc _ _)).trans l1⟩
          case measure => simp [intOf]; omega
        · simp only [hh] at hm2
          have HN : Hid (whichL p (k + 1) = whichL p k ++ [(k : Int)]) := whichL_yes hh
          clear hh
          go_wp2_with fail
          refine (hm2 _ (hle.trans (Le.alloc _ _))).mono ?_
          rintro e w3 ⟨rfl, l3⟩
          have h13 := (hle.trans (Le.alloc _ _)).trans l3
          have ho := (HO.out.le (Le.alloc _ _)).le l3
          have hlit := Own.lit w3 w3.heap.size (Nat.le_refl _) [(k : Int)] (by simp)
          replace hlit : Own (w3.alloc (.cells #[.int .i64 (k : Int)] 3)) w3.heap.size (.slice (some ⟨w3.heap.size, 0, none⟩) 1 1) [(k : Int)] := hlit
          have hA4 := Le.alloc w3 (.cells #[.int .i64 (k : Int)] 3)
          have ho4 := ho.le hA4
          have h14 := h13.trans hA4
          have hwl := whichL_len p k
          go_wp2_with (at_builtin; refine wp_append_ints rfl _ _ rfl w.heap.size _ _ (whichL p k) [(k : Int)] rfl rfl ho4 hlit.has (by show ((whichL p k).length + 1) * 8 ≤ _; omega) h14.size ?_; intro v' w7 o8 hg8; obtain ⟨q', rfl⟩ := o8.has.sl)
          go_roundw
          case rel => exact ⟨k + 1, q', by omega, rfl, by go_num, by rw [HN.out]; exact o8, Below.grown h14 hg8 h14.size (fun gz e => (ho4.block e).1)⟩
          case measure => simp [intOf]; omega
      · obtain rfl : k = L := by omega
        go_wp2
        go_ret
        exact ⟨q, rfl, HO.out, hle⟩
  · have hxn : xs = [] := by cases xs with | nil => rfl | cons _ _ => simp at h0
    subst hxn
    go_enter Tryz.func51, Tryz.ntmps51
    go_wp2
    refine wp_loop_rounds 1 ?_
    rw [rounds_succ]
    go_wp2
    go_ret
    exact ⟨slZ, rfl, Own.nil _ _, Le.refl _⟩

set_option maxRecDepth 8000 in
set_option maxHeartbeats 8000000 in
theorem boardWaits (M : Mc) (r g : Int) (k gm gr gg : Nat) (qR qP qT qH qb qt : Sl) (w : World) (hmay : mayM M = true) (hk : k < M.ts.length) (bm : Box w gm (cells9 M.c qR qP qT qH) 29) (br : Box w gr #[.int .i64 r] 3) (bg : Box w gg #[.int .i64 g] 3) :
    Calls Tryz.prog 48 #[.int .i64 k, thV (M.ts.getD k Th.zero) qb qt, .pointer (some ⟨gm, 0, none⟩), .pointer (some ⟨gr, 0, none⟩), .pointer (some ⟨gg, 0, none⟩)] w fun e w' => e = .returned (.bool (waitsB M r g k)) ∧ Le w w' := by
  obtain ⟨_, _, hts, _⟩ := mayM_lens hmay
  obtain ⟨_, ⟨_, _⟩, _⟩ := Cfg.ok_cases (mayM_ok hmay)
  have hrep : repS M.c.o M.c.r M.c.l M.c.t M.c.s (k : Int) = ((k : Int) % M.c.r, 0) := repS_yes (mayM_ok hmay) (by omega) (by omega)
  have m2 := fun w' => repAs hrep w'
  obtain ⟨T, hT⟩ : ∃ x, x = M.ts.getD k Th.zero := ⟨_, rfl⟩
  have HV : Hid (waitsB M r g k = (decide ((k : Int) % M.c.r = r) && (opUp T.c T.r T.a && (decide (T.lg = g) && T.po)))) := by unfold waitsB; rw [Mc.th_nat, ← hT]; exact rfl
  rw [← hT]
  obtain ⟨hm, hhm⟩ : ∃ x, x = (k : Int) % M.c.r := ⟨_, rfl⟩
  rw [← hhm] at m2 HV
  clear hhm hT hts hrep hmay hk
  have hbx := Box.new w (cellsT T qb qt) 63
  have hA := Le.alloc w (.cells (cellsT T qb qt) 63)
  have br0 := br.cell 0
  have bg0 := bg.cell 0
  simp only [List.getElem?_toArray, List.getElem?_cons_zero] at br0 bg0
  go_enter Tryz.func48, Tryz.ntmps48
  go_upto_region 1 with fail
  generalize hW : w.alloc (.cells (cellsT T qb qt) 63) = W at hbx hA ⊢
  clear hW
  obtain ⟨⟨z0, z1, z2, z3, z4⟩, z5, z6, z7, z8⟩ := ((bm.le hA)).mach
  replace br0 := cell_le br0 hA
  replace bg0 := cell_le bg0 hA
  obtain ⟨x0, x1, x2, x3, x4, x5, x6, x7, x8, x9, x10, x11⟩ := hbx.th
  go_wp2_with fail
  refine (m2 _).mono ?_
  rintro e w3 ⟨rfl, l3⟩
  clear z0 z1 z2 z3 z4 z5 z6 z7 z8
  clear x0 x1 x2 x3 x4 x5 x6 x7 x8 x9 x10 x11
  obtain ⟨x0, x1, x2, x3, x4, x5, x6, x7, x8, x9, x10, x11⟩ := (hbx.le l3).th
  replace br0 := cell_le br0 l3
  replace bg0 := cell_le bg0 l3
  have hl := hA.trans l3
  by_cases e1 : hm = r
  case neg =>
    have hb1 : (hm == r) = false := by simp [e1]
    have hV : Hid _ := (show waitsB M r g k = false by rw [HV.out, decide_eq_false e1]; rfl)
    clear e1
    go_wp2_with fail
    go_ret
    exact ⟨ret_bool hV.out.symm, hl⟩
  have hb1 : (hm == r) = true := by simp [e1]
  have HE1 : Hid (decide (hm = r) = true) := decide_eq_true e1
  clear e1
  by_cases e3 : T.lg = g
  case neg =>
    have hb3 : (T.lg == g) = false := by simp [e3]
    have hV : Hid _ := (show waitsB M r g k = false by rw [HV.out, HE1.out, decide_eq_false e3]; simp)
    clear e3
    go_wp2_with fail
    go_ret
    exact ⟨ret_bool hV.out.symm, hl⟩
  have HE3 : Hid (decide (T.lg = g) = true) := decide_eq_true e3
  have hb3 : (T.lg == g) = true := by simp [e3]
  clear e3
  cases e4 : T.po
  · rw [e4] at x8
    have hV : Hid _ := (show waitsB M r g k = false by rw [HV.out, e4]; simp)
    clear e4
    go_wp2_with fail
    go_ret
    exact ⟨ret_bool hV.out.symm, hl⟩
  rw [e4] at x8
  have hV : Hid _ := (show waitsB M r g k = opUp T.c T.r T.a by rw [HV.out, HE1.out, HE3.out, e4]; simp)
  clear e4 HV HE1 HE3
  have m4 := fun w' => operUpdates T.c T.r T.a w'
  obtain ⟨y, hy⟩ : ∃ y, y = opUp T.c T.r T.a := ⟨_, rfl⟩
  rw [← hy] at m4
  have hV2 : Hid _ := (show waitsB M r g k = y by rw [hV.out, hy])
  clear hy hV
  go_wp2_with fail
  refine (m4 _).mono ?_
  rintro e w5 ⟨rfl, l5⟩
  go_wp2_with fail
  go_ret
  exact ⟨ret_bool hV2.out.symm, hl.trans l5⟩

set_option maxRecDepth 8000 in
set_option maxHeartbeats 8000000 in
theorem boardWaiting (v : Value) (M : Mc) (r g : Int) (w : World) (hx : HasM w v M) (hf : FitM M) : Calls Tryz.prog 21 #[v, .int .i64 r, .int .i64 g] w fun e w' => ∃ q : Sl, e = .returned (.tuple #[slV q, .int .i64 (waitM M r g).2]) ∧ Own w' w.heap.size (slV q) (waitM M r g).1 ∧ Le w w' := by
  have m1 := fun w' (l : Le w w') => machHasLog v M r g w' (hx.le l) hf
  obtain ⟨qR, qP, qT, qH, rfl, _, _, hT, _⟩ := hx
  obtain ⟨W0, hW0⟩ : ∃ W0, W0 = w.alloc (.cells (cells9 M.c qR qP qT qH) 29) := ⟨_, rfl⟩
  have a0 : Le w W0 := by rw [hW0]; exact Le.alloc _ _
  have b0 : Box W0 w.heap.size (cells9 M.c qR qP qT qH) 29 := by rw [hW0]; exact Box.new _ _ _
  have s0 : W0.heap.size = w.heap.size + 1 := by rw [hW0, World.size_alloc]
  have hb := (b0.le (Le.alloc _ (.cells #[.int .i64 r] 3))).le (Le.alloc _ (.cells #[.int .i64 g] 3))
  have hr := (Box.new W0 #[.int .i64 r] 3).le (Le.alloc _ (.cells #[.int .i64 g] 3))
  have hg := Box.new (W0.alloc (.cells #[.int .i64 r] 3)) #[.int .i64 g] 3
  have hl := (a0.trans (Le.alloc W0 (.cells #[.int .i64 r] 3))).trans (Le.alloc _ (.cells #[.int .i64 g] 3))
  rw [World.size_alloc] at hg
  rw [s0] at hr hg
  rw [hW0] at hb hr hg hl
  clear b0 a0 s0 hW0 W0
  cases h1 : atRG M r g
  · have hP : waitM M r g = ([], 1600) := by unfold waitM; rw [atRG_zero, h1]; rfl
    rw [hP]
    simp only [h1] at m1
    clear h1
    go_enter Tryz.func21, Tryz.ntmps21
    go_upto_region 1 with fail
    generalize hW : ((w.alloc (.cells (cells9 M.c qR qP qT qH) 29)).alloc (.cells #[.int .i64 r] 3)).alloc (.cells #[.int .i64 g] 3) = W at hl hb hr hg ⊢
    clear hW
    have r0 := hr.cell 0
    have g0 := hg.cell 0
    simp only [List.getElem?_toArray, List.getElem?_cons_zero] at r0 g0
    obtain ⟨⟨z0, z1, z2, z3, z4⟩, z5, z6, z7, z8⟩ := (hb).mach
    go_wp2_with fail
    refine (m1 _ hl).mono ?_
    rintro e w1 ⟨rfl, l1⟩
    go_wp2_with fail
    refine bodyPost_ret (v := .tuple #[.slice none 0 0, .int .i64 1600]) (by simp [results, Tryz.results21, go_sem]) rfl ⟨slZ, rfl, Own.nil _ _, hl.trans l1⟩
  · have hmay : mayM M = true := by unfold atRG at h1; simp only [Bool.and_eq_true] at h1; exact h1.1
    obtain ⟨_, _, hts, _⟩ := mayM_lens hmay
    obtain ⟨_, _, _, ⟨_, t3⟩, _, _⟩ := Cfg.ok_cases (mayM_ok hmay)
    have hP : waitM M r g = (whichL (waitsB M r g) M.ts.length, 0) := by
      unfold waitM
      rw [atRG_zero, h1, show M.ts.length = M.c.t.toNat by omega]
      rfl
    rw [hP]
    simp only [h1] at m1
    have m3 := fun W (l : Le w W) (bm : Box W w.heap.size (cells9 M.c qR qP qT qH) 29) (br : Box W (w.heap.size + 1) #[.int .i64 r] 3) (bg : Box W (w.heap.size + 1 + 1) #[.int .i64 g] 3) =>
      listsWhich 48 (.pointer (some ⟨w.heap.size, 0, none⟩)) (.pointer (some ⟨w.heap.size + 1, 0, none⟩)) (.pointer (some ⟨w.heap.size + 1 + 1, 0, none⟩)) (waitsB M r g) (fun _ _ _ => by kernel_rfl) (slV qT) M.ts W
        (fun w' l' k u hk hu => by obtain ⟨qb, qt, rfl, _, _⟩ := hu; exact boardWaits M r g k _ _ _ qR qP qT qH qb qt w' hmay hk (bm.le l') (br.le l') (bg.le l')) (hT.le l) (by omega)
    clear h1 hts t3 hP hmay hT
    go_enter Tryz.func21, Tryz.ntmps21
    go_upto_region 1 with fail
    generalize hW : ((w.alloc (.cells (cells9 M.c qR qP qT qH) 29)).alloc (.cells #[.int .i64 r] 3)).alloc (.cells #[.int .i64 g] 3) = W at hl hb hr hg ⊢
    clear hW
    have r0 := hr.cell 0
    have g0 := hg.cell 0
    simp only [List.getElem?_toArray, List.getElem?_cons_zero] at r0 g0
    obtain ⟨⟨z0, z1, z2, z3, z4⟩, z5, z6, z7, z8⟩ := (hb).mach
    go_wp2_with fail
    refine (m1 _ hl).mono ?_
    rintro e w1 ⟨rfl, l1⟩
    clear z0 z1 z2 z3 z4 z5 z6 z7 z8
    clear r0 g0
    replace hl := hl.trans l1
    replace hb := hb.le l1
    have m4 := m3 _ hl hb (hr.le l1) (hg.le l1)
    clear m3
    obtain ⟨⟨z0, z1, z2, z3, z4⟩, z5, z6, z7, z8⟩ := (hb).mach
    go_wp2_with fail
    refine m4.mono ?_
    rintro e w2 ⟨q, rfl, o, l2⟩
    go_wp2_with fail
    refine bodyPost_ret (v := .tuple #[slV q, .int .i64 0]) (by simp [results, Tryz.results21, go_sem]) rfl ⟨q, rfl, o.base hl.size, hl.trans l2⟩

end Go.Proofs.YtkddgpdlpjjpbaaGreat

/-
  THE WALKS over package board's Post and Waiting and the document's, their answers written out. Condition: that the machine's rows can be copied.
-/
namespace Go.Proofs.YtkddgpdlpjjpbaaGreat
open Go.RowKit

theorem boardPostAs {M N : Mc} {t er : Int} (h : postM M t = (N, er)) (v : Value) (w : World) (hx : HasM w v M) (hf : FitM M) : Calls Tryz.prog 19 #[v, .int .i64 t] w fun e w' => ∃ qR qP qT qH, e = .returned (.tuple #[machV N.c qR qP qT qH, .int .i64 er]) ∧ OwnA w' w.heap.size (machV N.c qR qP qT qH) N ∧ Le w w' := by
  have := boardPost v M t w hx hf
  rw [h] at this
  refine this.mono ?_
  rintro e w' ⟨v', rfl, o, l⟩
  obtain ⟨qR, qP, qT, qH, rfl⟩ := o.open
  exact ⟨_, _, _, _, rfl, o, l⟩
theorem rmPostAs {M N : Mc} {t er : Int} (h : postM M t = (N, er)) (v : Value) (w : World) (hx : HasM w v M) (hf : FitM M) : Calls Tryz.prog 20 #[v, .int .i64 t] w fun e w' => ∃ qR qP qT qH, e = .returned (.tuple #[machV N.c qR qP qT qH, .int .i64 er]) ∧ OwnA w' w.heap.size (machV N.c qR qP qT qH) N ∧ Le w w' := by
  have := rmPost v M t w hx hf
  rw [h] at this
  refine this.mono ?_
  rintro e w' ⟨v', rfl, o, l⟩
  obtain ⟨qR, qP, qT, qH, rfl⟩ := o.open
  exact ⟨_, _, _, _, rfl, o, l⟩
theorem boardWaitAs {M : Mc} {r g er : Int} {xs : List Int} (h : waitM M r g = (xs, er)) (v : Value) (w : World) (hx : HasM w v M) (hf : FitM M) : Calls Tryz.prog 21 #[v, .int .i64 r, .int .i64 g] w fun e w' => ∃ a c, e = .returned (.tuple #[.slice a xs.length c, .int .i64 er]) ∧ Own w' w.heap.size (.slice a xs.length c) xs ∧ Le w w' := by
  have := boardWaiting v M r g w hx hf
  rw [h] at this
  refine this.mono ?_
  rintro e w' ⟨⟨a, n, c⟩, rfl, o, l⟩
  have hn : n = xs.length := o.has.len
  subst hn
  exact ⟨a, c, rfl, o, l⟩
theorem rmWaitAs {M : Mc} {r g er : Int} {xs : List Int} (h : waitM M r g = (xs, er)) (v : Value) (w : World) (hx : HasM w v M) (hf : FitM M) : Calls Tryz.prog 22 #[v, .int .i64 r, .int .i64 g] w fun e w' => ∃ a c, e = .returned (.tuple #[.slice a xs.length c, .int .i64 er]) ∧ Own w' w.heap.size (.slice a xs.length c) xs ∧ Le w w' := by
  have := rmWaiting v M r g w hx hf
  rw [h] at this
  refine this.mono ?_
  rintro e w' ⟨⟨a, n, c⟩, rfl, o, l⟩
  have hn : n = xs.length := o.has.len
  subst hn
  exact ⟨a, c, rfl, o, l⟩

end Go.Proofs.YtkddgpdlpjjpbaaGreat

/-
  THE WALK over choruslaw16's awake. No condition.
-/
namespace Go.Proofs.YtkddgpdlpjjpbaaGreat
open Go.RowKit

set_option maxRecDepth 8000 in
set_option maxHeartbeats 4000000 in
theorem lawAwake16 (w : World) : Calls Tryz.prog 25 #[] w fun e w' => e = .returned (.bool true) ∧ Le w w' := by
  have hl := Le.refl w
  go_enter Tryz.func25, Tryz.ntmps25
  go_upto_region 1 with fail
  go_wp2_with fail
  refine (called16 _).mono ?_
  rintro e w0 ⟨pR, pP, pT, pH, rfl, o0, l0⟩
  go_wp2_with fail
  refine (boardPostAs bo_1 _ _ o0.has cld_fit).mono ?_
  rintro e w1 ⟨aR, aP, aT, aH, rfl, oA, l1⟩
  obtain ⟨xR, xP, bT, oT, cT, xH, hv, c8⟩ := bo_open oA.has
  have hbc : bo1.c = begC := rfl
  rw [hbc] at hv oA ⊢
  rw [hv] at oA ⊢
  clear hv hbc aR aP aT aH o0
  obtain ⟨xT, hxT⟩ : ∃ q : Sl, q = (some ⟨bT, oT, none⟩, 4, cT) := ⟨_, rfl⟩
  rw [← hxT] at oA ⊢
  have HXT : Hid (xT = (some ⟨bT, oT, none⟩, 4, cT)) := hxT
  clear hxT
  replace hl := (hl.trans l0).trans l1
  clear l0 l1
  have hbA := Box.new w1 (cells9 begC xR xP xT xH) 29
  have a1 := Le.alloc w1 (.cells (cells9 begC xR xP xT xH) 29)
  go_upto_region 2 with fail
  generalize hW1 : w1.alloc (.cells (cells9 begC xR xP xT xH) 29) = W1 at hbA a1 ⊢
  clear hW1
  have hggA : w1.heap.size ≤ w1.heap.size := Nat.le_refl _
  generalize hgg : w1.heap.size = gA at hbA hggA ⊢
  have hsgA : w1.heap.size ≤ gA := by omega
  clear hgg hggA
  replace hl := hl.trans a1
  replace oA := oA.le a1
  replace c8 := cell_le c8 a1
  clear a1
  have hA := oA.has
  clear oA
  obtain ⟨⟨z0, z1, z2, z3, z4⟩, z5, z6, z7, z8⟩ := (hbA).mach
  go_wp2_with fail
  refine (boardWaitAs bo_2 _ _ hA bo_fit).mono ?_
  rintro e w2 ⟨y2, d2, rfl, o2, l2⟩
  have x2 := o2.has
  clear z0 z1 z2 z3 z4 z5 z6 z7 z8
  replace hl := hl.trans l2
  replace hbA := hbA.le l2
  replace hA := hA.le l2
  replace c8 := cell_le c8 l2
  clear l2 o2
  obtain ⟨⟨z0, z1, z2, z3, z4⟩, z5, z6, z7, z8⟩ := (hbA).mach
  go_wp2_with fail
  refine (boardWaitAs bo_3 _ _ hA bo_fit).mono ?_
  rintro e w3 ⟨y3, d3, rfl, _, l3⟩
  clear z0 z1 z2 z3 z4 z5 z6 z7 z8
  clear hA
  replace hl := hl.trans l3
  replace hbA := hbA.le l3
  replace c8 := cell_le c8 l3
  replace x2 := x2.le l3
  clear l3
  go_wp2_with fail
  refine (begun16 _).mono ?_
  rintro e w4 ⟨pR, pP, pT, pH, rfl, o4, l4⟩
  go_wp2_with fail
  refine (boardPostAs bo_4 _ _ o4.has beg_fit).mono ?_
  rintro e w5 ⟨uR, uP, uT, uH, rfl, _, l5⟩
  replace l4 := l4.trans l5
  clear o4 l5
  replace hl := hl.trans l4
  replace hbA := hbA.le l4
  replace c8 := cell_le c8 l4
  replace x2 := x2.le l4
  clear l4
  have hbD := Box.new w5 (cells9 Mc.zero.c uR uP uT uH) 29
  have a1 := Le.alloc w5 (.cells (cells9 Mc.zero.c uR uP uT uH) 29)
  go_upto_region 5 with fail
  generalize hW1 : w5.alloc (.cells (cells9 Mc.zero.c uR uP uT uH) 29) = W5 at hbD a1 ⊢
  clear hW1
  have hggD : w5.heap.size ≤ w5.heap.size := Nat.le_refl _
  generalize hgg : w5.heap.size = gD at hbD hggD ⊢
  have hsgD : w5.heap.size ≤ gD := by omega
  clear hgg hggD
  replace hl := hl.trans a1
  replace hbA := hbA.le a1
  replace c8 := cell_le c8 a1
  replace x2 := x2.le a1
  clear a1 hbD
  go_wp2_with fail
  refine (begun16 _).mono ?_
  rintro e w6 ⟨pR, pP, pT, pH, rfl, o6, l6⟩
  go_wp2_with fail
  refine (boardWaitAs bo_5 _ _ o6.has beg_fit).mono ?_
  rintro e w7 ⟨y7, d7, rfl, _, l7⟩
  replace l6 := l6.trans l7
  clear o6 l7
  replace hl := hl.trans l6
  replace hbA := hbA.le l6
  replace c8 := cell_le c8 l6
  replace x2 := x2.le l6
  clear l6
  have hlit := (Own.lit w7 w7.heap.size (Nat.le_refl _) [0] (by simp)).has
  have hs1 := lawSameInts _ _ [0] [0] _ (x2.le (Le.alloc _ _)) hlit (by simp)
  simp only [decide_true, List.length_cons, List.length_nil, List.map_cons, List.map_nil, Nat.zero_add] at hs1
  clear hlit x2
  obtain ⟨⟨z0, z1, z2, z3, z4⟩, z5, z6, z7, z8⟩ := (hbA).mach
  rw [HXT.out] at z7
  simp only [slV] at z7
  go_wp2_with (first | (go_at_call 15; refine (lawNum _ _).mono ?_; rintro e _ ⟨rfl, rfl⟩) | (go_at_call 23; refine Calls.mono hs1 ?_; rintro e _ ⟨rfl, n8, rfl⟩))
  go_ret
  exact ⟨rfl, (hl.trans (Le.alloc _ _)).trans (Le.drewN _ _)⟩

end Go.Proofs.YtkddgpdlpjjpbaaGreat

/-
  PLAIN GROUND, NO WALK: a machine of the call's own may be written over, in the blocks that the call made; and it stands behind a store into another machine's variable. No condition but that its rows can be copied.
-/
namespace Go.Proofs.YtkddgpdlpjjpbaaGreat
open Go.RowKit

theorem OwnA.sp {w : World} {base : Nat} {v : Value} {M : Mc} (h : OwnA w base v M) (hf : FitM M) : Sp.IntsM w (fun g => base ≤ g ∧ g < w.heap.size) v := by
  obtain ⟨L, rfl, rfl, ho, _⟩ := h
  exact Sp.ownsM_ints ho hf (fun g h1 h2 => ⟨h1, h2⟩)

theorem OwnM.setM {w : World} {B g i : Nat} {v u : Value} {M : Mc} {cs : Array Value} (h : OwnM w B v M) (hb : Box w g cs 29) : OwnM (w.setCell ⟨g, i, none⟩ u) B v M := by
  obtain ⟨L, hv, hm, o⟩ := h
  exact ⟨L, hv, hm, ⟨own_setM hb o.oR (by decide), own_setM hb o.oP (by decide), own_setM hb o.oT (by decide), own_setM hb o.oH (by decide), fun y hy => own_setM hb (o.iR y hy) (by decide), fun y hy => ⟨fun i hi => own_setM hb ((o.iP y hy).1 i hi) (by decide), own_setM hb (o.iP y hy).2.1 (by decide), own_setM hb (o.iP y hy).2.2 (by decide)⟩, fun y hy => ⟨own_setM hb (o.iT y hy).1 (by decide), own_setM hb (o.iT y hy).2 (by decide)⟩⟩⟩


end Go.Proofs.YtkddgpdlpjjpbaaGreat

/-
  PLAIN GROUND, NO WALK: an int and a mask, for every int. No condition.
-/
namespace Go.Proofs.YtkddgpdlpjjpbaaGreat

theorem and1 (n : Int) : bits .and .i64 n 1 = n % 2 := by
  have h : (BitVec.ofInt 64 1).toNat = 2 ^ 1 - 1 := by decide
  have key : (BitVec.ofInt 64 n &&& BitVec.ofInt 64 1).toNat = (n % ((2 ^ 64 : Nat) : Int)).toNat % 2 ^ 1 := by
    rw [BitVec.toNat_and, BitVec.toNat_ofInt, h, Nat.and_two_pow_sub_one_eq_mod]
  show IntKind.i64.wrap ((BitVec.ofInt 64 n &&& BitVec.ofInt 64 1).toNat : Nat) = n % 2
  rw [key, IntKind.wrap_i64]
  omega

theorem and3 (n : Int) : bits .and .i64 n 3 = n % 4 := by
  have h : (BitVec.ofInt 64 3).toNat = 2 ^ 2 - 1 := by decide
  have key : (BitVec.ofInt 64 n &&& BitVec.ofInt 64 3).toNat = (n % ((2 ^ 64 : Nat) : Int)).toNat % 2 ^ 2 := by
    rw [BitVec.toNat_and, BitVec.toNat_ofInt, h, Nat.and_two_pow_sub_one_eq_mod]
  show IntKind.i64.wrap ((BitVec.ofInt 64 n &&& BitVec.ofInt 64 3).toNat : Nat) = n % 4
  rw [key, IntKind.wrap_i64]
  omega

theorem and7 (n : Int) : bits .and .i64 n 7 = n % 8 := by
  have h : (BitVec.ofInt 64 7).toNat = 2 ^ 3 - 1 := by decide
  have key : (BitVec.ofInt 64 n &&& BitVec.ofInt 64 7).toNat = (n % ((2 ^ 64 : Nat) : Int)).toNat % 2 ^ 3 := by
    rw [BitVec.toNat_and, BitVec.toNat_ofInt, h, Nat.and_two_pow_sub_one_eq_mod]
  show IntKind.i64.wrap ((BitVec.ofInt 64 n &&& BitVec.ofInt 64 7).toNat : Nat) = n % 8
  rw [key, IntKind.wrap_i64]
  omega

theorem and255 (n : Int) : bits .and .i64 n 255 = n % 256 := by
  have h : (BitVec.ofInt 64 255).toNat = 2 ^ 8 - 1 := by decide
  have key : (BitVec.ofInt 64 n &&& BitVec.ofInt 64 255).toNat = (n % ((2 ^ 64 : Nat) : Int)).toNat % 2 ^ 8 := by
    rw [BitVec.toNat_and, BitVec.toNat_ofInt, h, Nat.and_two_pow_sub_one_eq_mod]
  show IntKind.i64.wrap ((BitVec.ofInt 64 n &&& BitVec.ofInt 64 255).toNat : Nat) = n % 256
  rw [key, IntKind.wrap_i64]
  omega

theorem and1023 (n : Int) : bits .and .i64 n 1023 = n % 1024 := by
  have h : (BitVec.ofInt 64 1023).toNat = 2 ^ 10 - 1 := by decide
  have key : (BitVec.ofInt 64 n &&& BitVec.ofInt 64 1023).toNat = (n % ((2 ^ 64 : Nat) : Int)).toNat % 2 ^ 10 := by
    rw [BitVec.toNat_and, BitVec.toNat_ofInt, h, Nat.and_two_pow_sub_one_eq_mod]
  show IntKind.i64.wrap ((BitVec.ofInt 64 n &&& BitVec.ofInt 64 1023).toNat : Nat) = n % 1024
  rw [key, IntKind.wrap_i64]
  omega

theorem and65535 (n : Int) : bits .and .i64 n 65535 = n % 65536 := by
  have h : (BitVec.ofInt 64 65535).toNat = 2 ^ 16 - 1 := by decide
  have key : (BitVec.ofInt 64 n &&& BitVec.ofInt 64 65535).toNat = (n % ((2 ^ 64 : Nat) : Int)).toNat % 2 ^ 16 := by
    rw [BitVec.toNat_and, BitVec.toNat_ofInt, h, Nat.and_two_pow_sub_one_eq_mod]
  show IntKind.i64.wrap ((BitVec.ofInt 64 n &&& BitVec.ofInt 64 65535).toNat : Nat) = n % 65536
  rw [key, IntKind.wrap_i64]
  omega

end Go.Proofs.YtkddgpdlpjjpbaaGreat

/-
  PLAIN GROUND, NO WALK: Grow's law once more, where one of the first operations may be a store (it has no place of its own), and what a machine's variable that is stored into keeps: all blocks of other types. No condition but that.
-/
namespace Go.Proofs.YtkddgpdlpjjpbaaGreat.Gr3
open Go.RowKit

/-- What the law asks. T: those that have come up; H: those that may come up in any order; late: the last ones. -/
def growB (l : List Oper) (T H late : List Nat) (listed : Array Bool) : Bool :=
  decide (listed.size = l.length) && (List.range l.length).all (fun i => atL l i (plainB i) && (T.contains i || H.contains i || late.contains i) && ((listed.getD i true) == T.contains i)) &&
  T.all (fun i => atL l i (fun o => o.after.all (fun e => !Region.binds .any e || T.contains e.on))) &&
  H.all (fun i => !T.contains i && !late.contains i && atL l i (fun o => H.all (fun j => atL l j (pairB o i j)))) &&
  late.all (fun i => !T.contains i) && lateB l H [] late

structure GrowS (l : List Oper) (T H late : List Nat) : Prop where
  plain : ∀ i o, l[i]? = some o → o.guard = none ∧ notSelect o = true ∧ ∀ e ∈ o.after, Region.binds .any e = true → e.on < i
  cover : ∀ i o, l[i]? = some o → i ∈ T ∨ i ∈ H ∨ i ∈ late
  off : ∀ i, i ∈ H → i ∉ T ∧ i ∉ late
  offT : ∀ i, i ∈ late → i ∉ T
  dist : ∀ i j o oj, i ∈ H → j ∈ H → l[i]? = some o → l[j]? = some oj → j ≠ i → oj.dst ≠ o.dst
  dep : ∀ i j o oj t, i ∈ H → j ∈ H → l[i]? = some o → l[j]? = some oj → t ∈ tmpsOf o → oj.dst = some t → waitsFor o j = true
  lateS : lateB l H [] late = true
  inH : ∀ i, i ∈ H → ∃ o, l[i]? = some o

theorem growS {l : List Oper} {T H late : List Nat} {listed : Array Bool} (h : growB l T H late listed = true) : GrowS l T H late ∧ listed.size = l.length ∧ (∀ i, i < l.length → (listed.getD i true = true ↔ i ∈ T)) ∧ (∀ i o, i ∈ T → l[i]? = some o → ∀ e ∈ o.after, Region.binds .any e = true → e.on ∈ T) := by
  unfold growB at h
  simp only [Bool.and_eq_true, decide_eq_true_eq, List.all_eq_true, List.mem_range] at h
  obtain ⟨⟨⟨⟨⟨h0, h1⟩, h2⟩, h3⟩, h4⟩, h5⟩ := h
  refine ⟨⟨fun i o hi => ?_, fun i o hi => ?_, fun i hi => ?_, fun i hi => ?_, fun i j o oj hi hj ho hoj hne e => ?_, fun i j o oj t hi hj ho hoj ht hd => ?_, h5, fun i hi => ?_⟩, h0, fun i hi => ?_, fun i o hi ho e he hb => ?_⟩
  · have := atL_spec hi (h1 i (lt_of_at hi)).1.1
    unfold plainB at this
    simp only [Bool.and_eq_true, Option.isNone_iff_eq_none] at this
    refine ⟨this.1.1, this.1.2, fun e he hb => ?_⟩
    have h6 := this.2
    rw [Array.all_eq_true'] at h6
    have := h6 e he
    simp [hb] at this
    exact this
  · have := (h1 i (lt_of_at hi)).1.2
    simp at this
    rcases this with (h | h) | h
    · exact .inl h
    · exact .inr (.inl h)
    · exact .inr (.inr h)
  · have := (h3 i hi).1
    simp at this
    exact this
  · have := h4 i hi
    simpa using this
  · have h6 := atL_spec ho (h3 i hi).2
    simp only [List.all_eq_true] at h6
    have h7 := atL_spec hoj (h6 j hj)
    unfold pairB at h7
    simp [hne, e] at h7
  · have h6 := atL_spec ho (h3 i hi).2
    simp only [List.all_eq_true] at h6
    have h7 := atL_spec hoj (h6 j hj)
    unfold pairB at h7
    simp only [Bool.and_eq_true, Bool.or_eq_true, Bool.not_eq_true'] at h7
    rcases h7.2 with h8 | h8
    · exfalso
      rw [← Bool.not_eq_true, List.any_eq_true] at h8
      exact h8 ⟨t, ht, by simp [hd]⟩
    · exact h8
  · exact atL_some (h3 i hi).2
  · have := (h1 i hi).2
    simp only [beq_iff_eq] at this
    rw [this]
    simp
  · have h6 := atL_spec ho (h2 i hi)
    rw [Array.all_eq_true'] at h6
    have := h6 e he
    simpa [hb] using this

/-- What stands while the operations of H come up. -/
structure GrowI (l : List Oper) (T H late : List Nat) (a0 : Act) (A : (Nat → Value) → Nat → World → Prop) (Rel : World → World → Prop) (w0 : World) (listed : Array Bool) (vs : Nat → Value) (a : Act) (w : World) : Prop where
  ls : listed.size = l.length
  shut : Shut l listed
  t : ∀ i o, l[i]? = some o → i ∈ T → listed.getD i false = true
  lt : ∀ i o, l[i]? = some o → i ∈ late → listed.getD i true = false
  rel : Rel w0 w
  df : a.defers = a0.defers
  sz : a.tmps.size = a0.tmps.size
  at' : ∀ i o t, i ∈ H → l[i]? = some o → o.dst = some t → listed.getD i false = true → t < a0.tmps.size → a.tmps[t]? = some (vs i)
  off : ∀ t, (∀ i o, i ∈ H → l[i]? = some o → listed.getD i false = true → o.dst ≠ some t) → a.tmps[t]? = a0.tmps[t]?
  fact : ∀ i, i ∈ H → listed.getD i false = true → A vs i w

theorem GrowI.look {l : List Oper} {T H late : List Nat} {a0 : Act} {A : (Nat → Value) → Nat → World → Prop} {Rel : World → World → Prop} {w0 w : World} {listed : Array Bool} {vs : Nat → Value} {a : Act} (I : GrowI l T H late a0 A Rel w0 listed vs a w) (g : GrowS l T H late)
    (t : Tmp) (hl : ∀ j oj, j ∈ H → l[j]? = some oj → oj.dst = some t → listed.getD j false = true) : a.tmps[t]? = (putH l H a0 vs).tmps[t]? := by
  by_cases hd : ∃ j oj, j ∈ H ∧ l[j]? = some oj ∧ oj.dst = some t
  · obtain ⟨j, oj, hj, hoj, hdj⟩ := hd
    rcases Nat.lt_or_ge t a0.tmps.size with ht | ht
    · rw [I.at' _ oj t hj hoj hdj (hl j oj hj hoj hdj) ht]
      rw [putH_at l H a0 vs t j hj (by rw [hoj]; exact hdj) (fun k hk hne hdk => by
        obtain ⟨ok, hok⟩ := g.inH k hk
        rw [hok] at hdk
        exact g.dist j k oj ok hj hk hoj hok hne (by rw [hdj]; exact hdk)) ht]
    · rw [Array.getElem?_eq_none (by rw [I.sz]; exact ht), Array.getElem?_eq_none (by rw [putH_size]; exact ht)]
  · rw [I.off t (fun j oj hj hoj _ e => hd ⟨j, oj, hj, hoj, e⟩), putH_off]
    intro j hj e
    obtain ⟨oj, hoj⟩ := g.inH j hj
    rw [hoj] at e
    exact hd ⟨j, oj, hj, hoj, e⟩

theorem GrowI.eval {l : List Oper} {T H late : List Nat} {a0 : Act} {A : (Nat → Value) → Nat → World → Prop} {Rel : World → World → Prop} {w0 w : World} {listed : Array Bool} {vs : Nat → Value} {a : Act} (I : GrowI l T H late a0 A Rel w0 listed vs a w) (g : GrowS l T H late)
    {i : Nat} {o : Oper} (hi : i ∈ H) (ho : l[i]? = some o) (hr : ∀ e ∈ o.after, Region.binds .any e = true → listed.getD e.on false = true) : ∀ x ∈ o.op.operands, a.eval x = (putH l H a0 vs).eval x := by
  intro x hx
  cases x with
  | tmp t =>
    have hmem : t ∈ tmpsOf o := List.mem_filterMap.2 ⟨.tmp t, by simpa using hx, rfl⟩
    have h := I.look g t (fun j oj hj hoj hdj => by
      obtain ⟨e, he, hb, rfl⟩ := waitsFor_spec (g.dep i j o oj t hi hj ho hoj hmem hdj)
      exact hr e he hb)
    simp [Act.eval, h]
  | _ => rfl

theorem GrowI.frame {l : List Oper} {T H late : List Nat} {a0 : Act} {A : (Nat → Value) → Nat → World → Prop} {Rel : World → World → Prop} {w0 w : World} {listed : Array Bool} {vs : Nat → Value} {a : Act} (I : GrowI l T H late a0 A Rel w0 listed vs a w) (g : GrowS l T H late)
    (hall : ∀ j, j ∈ H → listed.getD j false = true) : a = putH l H a0 vs := by
  have h : a.tmps = (putH l H a0 vs).tmps := Array.ext_getElem? fun t => I.look g t (fun j _ hj _ _ => hall j hj)
  have h2 : a.defers = (putH l H a0 vs).defers := by rw [putH_defers]; exact I.df
  cases a
  cases hp : putH l H a0 vs
  rw [hp] at h h2
  simp only at h h2
  subst h h2
  rfl

theorem GrowI.next {l : List Oper} {T H late : List Nat} {a0 : Act} {A : (Nat → Value) → Nat → World → Prop} {Rel : World → World → Prop} {w0 w w' : World} {listed : Array Bool} {vs : Nat → Value} {a : Act} (I : GrowI l T H late a0 A Rel w0 listed vs a w) (g : GrowS l T H late)
    (ht : ∀ x y z, Rel x y → Rel y z → Rel x z) (hA : ∀ vs i x y, i ∈ H → Rel w0 x → A vs i x → Rel x y → A vs i y) (hC : ∀ vs vs' i o x, i ∈ H → l[i]? = some o → (∀ k, k = i ∨ (need l.length l i).contains k = true → vs k = vs' k) → A vs i x → A vs' i x) {i : Nat} {o : Oper} {v : Value} (hi : i ∈ H) (ho : l[i]? = some o) (hun : listed.getD i true = false) (hr : ∀ e ∈ o.after, Region.binds .any e = true → listed.getD e.on false = true) (hrel : Rel w w') (hv : A (fun j => if j = i then v else vs j) i w') :
    GrowI l T H late a0 A Rel w0 (listed.setIfInBounds i true) (fun j => if j = i then v else vs j) (a.put o.dst v) w' := by
  have hil : i < listed.size := by rw [I.ls]; exact lt_of_at ho
  have up : ∀ j, listed.getD j false = true → (listed.setIfInBounds i true).getD j false = true := fun j h => by
    by_cases e : j = i
    · subst e; exact getD_set_same _ hil
    · rw [getD_set_other _ e]; exact h
  have dn : ∀ j, (listed.setIfInBounds i true).getD j false = true → j = i ∨ (j ≠ i ∧ listed.getD j false = true) := fun j h => by
    by_cases e : j = i
    · exact .inl e
    · rw [getD_set_other _ e] at h; exact .inr ⟨e, h⟩
  refine ⟨by simpa using I.ls, fun j oj hoj hl e he hb => ?_, fun j oj hoj hj => up _ (I.t j oj hoj hj), fun j oj hoj hj => ?_, ht _ _ _ I.rel hrel, by rw [put_defers]; exact I.df, by rw [put_size]; exact I.sz, fun j oj t hj hoj hd hl hlt => ?_, fun t hno => ?_, fun j hj hl => ?_⟩
  · rcases dn j hl with rfl | ⟨_, hl'⟩
    · rw [ho] at hoj
      cases hoj
      exact up _ (hr e he hb)
    · exact up _ (I.shut j oj hoj hl' e he hb)
  · have hji : j ≠ i := fun e => by subst e; exact (g.off j hi).2 hj
    rw [getD_set_other _ hji]
    exact I.lt j oj hoj hj
  · rcases dn j hl with rfl | ⟨hne, hl'⟩
    · rw [ho] at hoj
      cases hoj
      rw [hd, put_same _ _ (by rw [I.sz]; exact hlt)]
      simp
    · rw [put_other _ _ _ (fun e => g.dist i j o oj hi hj ho hoj hne (by rw [hd, e])), I.at' j oj t hj hoj hd hl' hlt]
      simp [hne]
  · have hdi : o.dst ≠ some t := hno i o hi ho (getD_set_same _ hil)
    rw [put_other _ _ _ hdi]
    exact I.off t fun j oj hj hoj hl => hno j oj hj hoj (up j hl)
  · rcases dn j hl with rfl | ⟨hne, hl'⟩
    · exact hv
    · obtain ⟨oj, hoj⟩ := g.inH j hj
      refine hC vs _ j oj w' hj hoj (fun k hk => ?_) (hA vs j _ _ hj I.rel (I.fact j hj hl') hrel)
      have hki : k ≠ i := by
        rcases hk with rfl | hk
        · exact hne
        · rintro rfl
          exact getD_both (need_listed I.shut _ j (fun ok hok => I.shut j ok hok hl') k (by simpa using hk)) hun
      simp [hki]

theorem wpAny_growI {P : Program} {l : List Oper} {T H late : List Nat} {Q : Exit → Act → World → Prop} {a0 : Act} {w0 : World} (g : GrowS l T H late) (hne : late ≠ [])
    (Rel : World → World → Prop) (ht : ∀ x y z, Rel x y → Rel y z → Rel x z) (A : (Nat → Value) → Nat → World → Prop) (hA : ∀ vs i x y, i ∈ H → Rel w0 x → A vs i x → Rel x y → A vs i y) (hC : ∀ vs vs' i o x, i ∈ H → l[i]? = some o → (∀ k, k = i ∨ (need l.length l i).contains k = true → vs k = vs' k) → A vs i x → A vs' i x)
    (steps : ∀ i o, i ∈ H → l[i]? = some o → ∀ vs w, Rel w0 w → (∀ j, j ∈ H → (need l.length l i).contains j = true → A vs j w) → gives P (putH l H a0 vs).eval o w (fun v w' => Rel w w' ∧ A (fun j => if j = i then v else vs j) i w'))
    (rest : ∀ vs w, Rel w0 w → (∀ j, j ∈ H → A vs j w) → wpSeq P l Q late (putH l H a0 vs) w) :
    ∀ (fuel : Nat) (U : List Nat) (listed : Array Bool) (vs : Nat → Value) (a : Act) (w : World), (∀ i o, l[i]? = some o → i ∉ late → listed.getD i true = false → i ∈ U) → U.length + late.length ≤ fuel → GrowI l T H late a0 A Rel w0 listed vs a w → wpAny P .any l.toArray Q fuel listed a w := by
  intro fuel
  have lfst : ∃ i0, i0 ∈ late := by cases late with | nil => exact absurd rfl hne | cons x _ => exact ⟨x, List.mem_cons_self⟩
  obtain ⟨i0, hi0⟩ := lfst
  have hi0l : ∃ o, l[i0]? = some o := ⟨_, List.getElem?_eq_getElem (lateB_lt _ _ _ g.lateS hi0)⟩
  obtain ⟨o0, ho0⟩ := hi0l
  induction fuel with
  | zero =>
    intro U listed vs a w _ hlen _
    cases late with
    | nil => exact absurd rfl hne
    | cons _ _ => simp at hlen
  | succ fuel ih =>
    intro U listed vs a w hU hlen I
    by_cases hall : ∀ j, j ∈ H → listed.getD j false = true
    · -- all of H have come up
      rw [I.frame g hall]
      refine wpAny_late g.plain late [] (fuel + 1) listed _ w g.lateS I.ls I.shut (fun i hi => ?_) (fun i o hi hf => ?_) (by omega) (rest vs w I.rel (fun j hj => I.fact j hj (hall j hj)))
      · exact I.lt i _ (List.getElem?_eq_getElem (lateB_lt _ _ _ g.lateS hi)) hi
      · rcases g.cover i o hi with h | h | h
        · exact (getD_both (I.t i o hi h) hf).elim
        · exact (getD_both (hall i h) hf).elim
        · exact h
    · refine ⟨fun hr => absurd hr (ready_some (fun i o hi => (g.plain i o hi).2.2) I.ls (I.lt i0 o0 ho0 hi0)), fun i hi => ?_⟩
      obtain ⟨h1, o, ho, hr⟩ := mem_ready.1 hi
      have hol : l[i]? = some o := by simpa using ho
      obtain ⟨hg, hs, _⟩ := g.plain i o hol
      rcases g.cover i o hol with hT | hH | hL
      · exact (getD_both (I.t i o hol hT) h1).elim
      · have hUi := hU i o hol (g.off i hH).2 h1
        unfold wpOp
        simp only [ho]
        rw [if_pos (by unfold Region.wanted; rw [hg])]
        left
        have hst := steps i o hH hol vs w I.rel (fun j hj hw => I.fact j hj (need_listed I.shut _ i (fun oi hoi e he hb => by rw [hol] at hoi; cases hoi; exact hr e he hb) j (by simpa using hw)))
        unfold gives at hst
        rw [← execOp_congr o (notSelect_spec hs) (I.eval g hH hol hr)] at hst
        refine gives_wp (K := fun v w' => Rel w w' ∧ A (fun j => if j = i then v else vs j) i w') hst fun v w' ⟨hrel, hv⟩ => ?_
        have hil : i < listed.size := by rw [I.ls]; exact lt_of_at hol
        refine ih (U.erase i) _ (fun j => if j = i then v else vs j) _ _ (fun j oj hoj hj hf => ?_) ?_ (I.next g ht hA hC hH hol h1 hr hrel hv)
        · have hne : j ≠ i := fun e => by
            subst e
            rw [getD_set_same _ hil] at hf
            cases hf
          rw [getD_set_other _ hne] at hf
          exact (List.mem_erase_of_ne hne).2 (hU j oj hoj hj hf)
        · rw [List.length_erase_of_mem hUi]
          have := List.length_pos_of_mem hUi
          omega
      · exfalso
        refine hall fun j hj => ?_
        exact need_listed I.shut _ i (fun oi hoi e he hb => by rw [hol] at hoi; cases hoi; exact hr e he hb) j (lateB_need _ _ _ g.lateS hL j hj)

/-- **The law**, from where some have come up already. -/
theorem wpAny_grow {P : Program} {l : List Oper} {Q : Exit → Act → World → Prop} {a0 : Act} {w0 : World} {listed : Array Bool} {fuel : Nat} (T H late : List Nat) (hne : late ≠ []) (hB : growB l T H late listed = true)
    (Rel : World → World → Prop) (hr : Rel w0 w0) (ht : ∀ x y z, Rel x y → Rel y z → Rel x z) (A : (Nat → Value) → Nat → World → Prop) (hA : ∀ vs i x y, i ∈ H → Rel w0 x → A vs i x → Rel x y → A vs i y) (hC : ∀ vs vs' i o x, i ∈ H → l[i]? = some o → (∀ k, k = i ∨ (need l.length l i).contains k = true → vs k = vs' k) → A vs i x → A vs' i x)
    (hlen : H.length + late.length ≤ fuel)
    (steps : ∀ i o, i ∈ H → l[i]? = some o → ∀ vs w, Rel w0 w → (∀ j, j ∈ H → (need l.length l i).contains j = true → A vs j w) → gives P (putH l H a0 vs).eval o w (fun v w' => Rel w w' ∧ A (fun j => if j = i then v else vs j) i w'))
    (rest : ∀ vs w, Rel w0 w → (∀ j, j ∈ H → A vs j w) → wpSeq P l Q late (putH l H a0 vs) w) : wpAny P .any l.toArray Q fuel listed a0 w0 := by
  obtain ⟨g, hls, hT, hTs⟩ := growS hB
  have hlT : ∀ i o, l[i]? = some o → listed.getD i false = true → i ∈ T := fun i o ho h => by
    have hi := lt_of_at ho
    refine (hT i hi).1 ?_
    have := getD_size h
    simp [Array.getD, this] at h ⊢
    exact h
  have hTl : ∀ i, i < l.length → i ∈ T → listed.getD i false = true := fun i hi h => by
    have := (hT i hi).2 h
    have hsz : i < listed.size := by omega
    simp [Array.getD, hsz] at this ⊢
    exact this
  refine wpAny_growI g hne Rel ht A hA hC steps rest fuel H listed (fun _ => undef) a0 w0 (fun i o ho hl hf => ?_) hlen ⟨hls, fun i o ho hl e he hb => ?_, fun i o ho h => hTl i (lt_of_at ho) h, fun i o ho h => ?_, hr, rfl, rfl, fun i o t hi ho _ hl _ => ?_, fun _ _ => rfl, fun i hi hl => ?_⟩
  · rcases g.cover i o ho with h | h | h
    · exact (getD_both (hTl i (lt_of_at ho) h) hf).elim
    · exact h
    · exact absurd h hl
  · have h1 := hTs i o (hlT i o ho hl) ho e he hb
    have h2 := (g.plain i o ho).2.2 e he hb
    exact hTl _ (by have := lt_of_at ho; omega) h1
  · have hi := lt_of_at ho
    have hnT := g.offT i h
    cases hx : listed.getD i true with
    | false => rfl
    | true => exact absurd ((hT i hi).1 hx) hnT
  · exact absurd (hlT i o ho hl) (g.off i hi).1
  · obtain ⟨o, ho⟩ := g.inH i hi
    exact absurd (hlT i o ho hl) (g.off i hi).1

theorem gives_skip {P : Program} {ρ : Operand → Value} {o : Oper} {w w' : World} {K : Value → World → Prop} (h : (execOp ρ o).run P w = .ok .skip w') (hk : K undef w') : gives P ρ o w K := by
  unfold gives; rw [h]; exact hk

end Go.Proofs.YtkddgpdlpjjpbaaGreat.Gr3
namespace Go.Proofs.YtkddgpdlpjjpbaaGreat
open Go.RowKit

/-- All is as it was, but for machines' variables in blocks from B on: they may hold another machine. -/
structure LeX (B : Nat) (x y : World) : Prop where
  os : y.os = x.os
  tape : y.tape = x.tape
  output : y.output = x.output
  size : x.heap.size ≤ y.heap.size
  block : ∀ k, k < x.heap.size → y.heap[k]? = x.heap[k]? ∨ (B ≤ k ∧ (∃ cs, Box x k cs 29) ∧ ∃ c a b d e, Box y k (cells9 c a b d e) 29)
theorem LeX.of {B : Nat} {x y : World} (h : Le x y) : LeX B x y := ⟨h.os, h.tape, h.output, h.size, fun k hk => .inl (h.block k hk)⟩
theorem LeX.trans {B : Nat} {x y z : World} (h : LeX B x y) (j : LeX B y z) : LeX B x z := by
  refine ⟨j.os.trans h.os, j.tape.trans h.tape, j.output.trans h.output, Nat.le_trans h.size j.size, fun k hk => ?_⟩
  have hk2 := Nat.lt_of_lt_of_le hk h.size
  rcases h.block k hk with e | ⟨hb, hx, c, a, b, d, f, hy⟩
  · rcases j.block k hk2 with e2 | ⟨hb, ⟨cs, hy⟩, hz⟩
    · exact .inl (e2.trans e)
    · exact .inr ⟨hb, ⟨cs, by unfold Box at hy ⊢; rw [← e]; exact hy⟩, hz⟩
  · rcases j.block k hk2 with e2 | ⟨_, _, hz⟩
    · exact .inr ⟨hb, hx, c, a, b, d, f, by unfold Box at hy ⊢; rw [e2]; exact hy⟩
    · exact .inr ⟨hb, hx, hz⟩
theorem LeX.le {B : Nat} {w0 x y : World} (h : LeX B x y) (l : Le w0 x) (hB : w0.heap.size ≤ B) : Le w0 y := by
  refine ⟨h.os.trans l.os, h.tape.trans l.tape, h.output.trans l.output, Nat.le_trans l.size h.size, fun k hk => ?_⟩
  rcases h.block k (Nat.lt_of_lt_of_le hk l.size) with e | ⟨hb, _⟩
  · exact e.trans (l.block k hk)
  · omega
theorem LeX.heap {B : Nat} {x y : World} (h : LeX B x y) {g : Nat} {cs : Array Value} {t : TypeId} {o : Nat × Nat} (hb : x.heap[g]? = some (.cells cs t o)) (ht : t ≠ 29) : y.heap[g]? = some (.cells cs t o) := by
  rcases h.block g (block_lt hb) with e | ⟨_, ⟨cs', hx⟩, _⟩
  · rw [e]; exact hb
  · unfold Box at hx
    rw [hb] at hx
    simp at hx
    exact absurd hx.2.1 ht
theorem LeX.box {B : Nat} {x y : World} (h : LeX B x y) {g : Nat} {cs : Array Value} {t : TypeId} (hb : Box x g cs t) (ht : t ≠ 29) : Box y g cs t := h.heap hb ht
theorem LeX.row {B : Nat} {x y : World} (k : LeX B x y) {base kk n : Nat} {t : TypeId} {v : Value} {us : List Value} (h : x.ownsRow base t kk v n us) (ht : t ≠ 29) : y.ownsRow base t kk v n us := by
  obtain ⟨h1, h2⟩ := h
  refine ⟨h1, ?_⟩
  rcases h2 with h2 | ⟨g, cap, cur, hv, hg, hh, r⟩
  · exact .inl h2
  · exact .inr ⟨g, cap, cur, hv, hg, k.heap hh ht, r⟩
theorem LeX.ownM {B : Nat} {x y : World} (k : LeX B x y) {base : Nat} {v : Value} {M : Mc} (h : OwnM x base v M) : OwnM y base v M := by
  obtain ⟨L, hv, hm, o⟩ := h
  exact ⟨L, hv, hm, ⟨k.row o.oR (by decide), k.row o.oP (by decide), k.row o.oT (by decide), k.row o.oH (by decide), fun y hy => k.row (o.iR y hy) (by decide), fun y hy => ⟨fun i hi => k.row ((o.iP y hy).1 i hi) (by decide), k.row (o.iP y hy).2.1 (by decide), k.row (o.iP y hy).2.2 (by decide)⟩, fun y hy => ⟨k.row (o.iT y hy).1 (by decide), k.row (o.iT y hy).2 (by decide)⟩⟩⟩
theorem LeX.var {B : Nat} {x y : World} (h : LeX B x y) {g : Nat} {c : Cfg} {a b d e : Sl} (hb : Box x g (cells9 c a b d e) 29) : ∃ c a b d e, Box y g (cells9 c a b d e) 29 := by
  rcases h.block g hb.lt with e' | ⟨_, _, hy⟩
  · exact ⟨c, a, b, d, e, by unfold Box at hb ⊢; rw [e']; exact hb⟩
  · exact hy
theorem LeX.store {B : Nat} {x : World} {g : Nat} {c : Cfg} {a b d e : Sl} (hg : B ≤ g) (hb : Box x g (cells9 c a b d e) 29) (c' : Cfg) (a' b' d' e' : Sl) : LeX B x (put9 x g c' a' b' d' e') := by
  have ho : ∀ (w : World) (i : Nat) (u : Value), (w.setCell ⟨g, i, none⟩ u).os = w.os := fun _ _ _ => rfl
  have ht : ∀ (w : World) (i : Nat) (u : Value), (w.setCell ⟨g, i, none⟩ u).tape = w.tape := fun _ _ _ => rfl
  have hp : ∀ (w : World) (i : Nat) (u : Value), (w.setCell ⟨g, i, none⟩ u).output = w.output := fun _ _ _ => rfl
  have hz : ∀ (w : World) (i : Nat) (u : Value), (w.setCell ⟨g, i, none⟩ u).heap.size = w.heap.size := fun w i u => by simp
  refine ⟨(ho _ 8 _).trans ((ho _ 7 _).trans ((ho _ 6 _).trans ((ho _ 5 _).trans ((ho _ 4 _).trans ((ho _ 3 _).trans ((ho _ 2 _).trans ((ho _ 1 _).trans (ho _ 0 _)))))))), (ht _ 8 _).trans ((ht _ 7 _).trans ((ht _ 6 _).trans ((ht _ 5 _).trans ((ht _ 4 _).trans ((ht _ 3 _).trans ((ht _ 2 _).trans ((ht _ 1 _).trans (ht _ 0 _)))))))), (hp _ 8 _).trans ((hp _ 7 _).trans ((hp _ 6 _).trans ((hp _ 5 _).trans ((hp _ 4 _).trans ((hp _ 3 _).trans ((hp _ 2 _).trans ((hp _ 1 _).trans (hp _ 0 _)))))))), Nat.le_of_eq ((hz _ 8 _).trans ((hz _ 7 _).trans ((hz _ 6 _).trans ((hz _ 5 _).trans ((hz _ 4 _).trans ((hz _ 3 _).trans ((hz _ 2 _).trans ((hz _ 1 _).trans (hz _ 0 _))))))))).symm, fun k hk => ?_⟩
  by_cases e : k = g
  · subst e
    exact .inr ⟨hg, ⟨_, hb⟩, c', a', b', d', e', hb.put9 rfl c' a' b' d' e'⟩
  · refine .inl ?_
    have hs : ∀ (w : World) (i : Nat) (u : Value), (w.setCell ⟨g, i, none⟩ u).heap[k]? = w.heap[k]? := fun w i u => Below.heap_setCell w ⟨g, i, none⟩ u k e
    exact (hs _ 8 _).trans ((hs _ 7 _).trans ((hs _ 6 _).trans ((hs _ 5 _).trans ((hs _ 4 _).trans ((hs _ 3 _).trans ((hs _ 2 _).trans ((hs _ 1 _).trans (hs _ 0 _))))))))

end Go.Proofs.YtkddgpdlpjjpbaaGreat

/-
  THE WALK over the law BoardForms: it answers true, for every two numbers, and turns nothing that was there. No condition.
-/
namespace Go.Proofs.YtkddgpdlpjjpbaaGreat
open Go.RowKit

/-- A machine that begins, told of one log alone. -/
def bgL : Mc := { begM with c := ⟨2, 2, 1, 4, 8⟩ }
theorem bgL_fit : FitM bgL := ⟨beg_fit.rs, beg_fit.ps, beg_fit.ts, beg_fit.es, beg_fit.r, beg_fit.p, beg_fit.t⟩
theorem bgL_post : postM bgL 0 = (Mc.zero, 1600) := by decide +kernel
theorem bgL_wait : waitM bgL 0 0 = ([], 1600) := by decide +kernel
/-- Thread 0 looks at a row. -/
def bgK : Mc := { begM with ts := begM.ts.set 0 (newT begM 2 0 0), es := begM.es ++ [⟨0, true, 2, 0, 0, 0⟩] }
theorem bgK_fit : FitM bgK := fitB_fit (by decide +kernel)
def bgP : Mc := bgK.putT 0 { bgK.th 0 with po := true, re := false }
theorem bgP_fit : FitM bgP := fitB_fit (by decide +kernel)
theorem bgK_post : postM bgK 0 = (bgP, 0) := by decide +kernel
theorem bgP_wait : waitM bgP 0 0 = ([], 0) := by decide +kernel
theorem beg_post_no {t : Int} (h : t < 0 ∨ 4 ≤ t) : postM begM t = (Mc.zero, 1600) := by
  have e : thereB begM 0 0 t = false := by
    rw [atT_there, inB_off (a := 0) (x := t) (b := begM.c.t - 1) (by rcases h with h | h; exact .inl h; exact .inr (by show (4 : Int) - 1 < t; omega))]
    simp
  unfold postM
  rw [e]
  rfl
theorem beg_wait_no {r g : Int} (h : r < 0 ∨ 2 ≤ r ∨ g < 0 ∨ 2 ≤ g) : waitM begM r g = ([], 1600) := by
  have e : thereB begM r g 0 = false := by
    unfold thereB
    rcases h with h | h | h | h
    · rw [inB_off (b := begM.c.r - 1) (.inl h)]; simp
    · rw [inB_off (b := begM.c.r - 1) (.inr (by show (2 : Int) - 1 < r; omega))]; simp
    · rw [inB_off (b := begM.c.l - 1) (.inl h)]; simp
    · rw [inB_off (b := begM.c.l - 1) (.inr (by show (2 : Int) - 1 < g; omega))]; simp
  unfold waitM
  rw [e]
  rfl
theorem neg_run (d : Int) (h : -1024 ≤ d ∧ d ≤ 1024) : IntKind.i64.wrap (-d) = -d := by
  simp [IntKind.wrap, IntKind.bits, IntKind.signed]; omega
theorem add_run (k d : Int) (h0 : -8 ≤ k ∧ k ≤ 8) (h : -1024 ≤ d ∧ d ≤ 1024) : IntKind.i64.wrap (k + d) = k + d := by
  simp [IntKind.wrap, IntKind.bits, IntKind.signed]; omega
/-- A slice of two numbers stands in a world, in a block of its own. -/
def TwoAt (x : World) (v : Value) (a b : Int) : Prop := ∃ g : Nat, v = .slice (some ⟨g, 0, none⟩) 2 2 ∧ Box x g #[.int .i64 a, .int .i64 b] 3
theorem TwoAt.le {x y : World} {v : Value} {a b : Int} (h : TwoAt x v a b) (l : Le x y) : TwoAt y v a b := by
  obtain ⟨g, hv, h0⟩ := h; exact ⟨g, hv, h0.le l⟩
theorem TwoAt.lx {B : Nat} {x y : World} {v : Value} {a b : Int} (h : TwoAt x v a b) (l : LeX B x y) : TwoAt y v a b := by
  obtain ⟨g, hv, h0⟩ := h; exact ⟨g, hv, l.box h0 (by decide)⟩
def PtAt (x : World) (v : Value) (i : Nat) (a b : Int) : Prop := ∃ g : Nat, v = .pointer (some ⟨g, i, none⟩) ∧ Box x g #[.int .i64 a, .int .i64 b] 3
theorem PtAt.le {x y : World} {v : Value} {i : Nat} {a b : Int} (h : PtAt x v i a b) (l : Le x y) : PtAt y v i a b := by
  obtain ⟨g, hv, h0⟩ := h; exact ⟨g, hv, h0.le l⟩
theorem PtAt.lx {B : Nat} {x y : World} {v : Value} {i : Nat} {a b : Int} (h : PtAt x v i a b) (l : LeX B x y) : PtAt y v i a b := by
  obtain ⟨g, hv, h0⟩ := h; exact ⟨g, hv, l.box h0 (by decide)⟩
def BegAt (x : World) (v : Value) : Prop := ∃ qR qP qT qH, v = machV begC qR qP qT qH ∧ OwnM x 0 v begM
theorem BegAt.le {x y : World} {v : Value} (h : BegAt x v) (l : Le x y) : BegAt y v := by
  obtain ⟨qR, qP, qT, qH, hv, h⟩ := h; exact ⟨qR, qP, qT, qH, hv, h.le l⟩
theorem BegAt.lx {B : Nat} {x y : World} {v : Value} (h : BegAt x v) (l : LeX B x y) : BegAt y v := by
  obtain ⟨qR, qP, qT, qH, hv, h⟩ := h; exact ⟨qR, qP, qT, qH, hv, l.ownM h⟩
/-- What a Post answers that may not be. -/
def ErrAt (v : Value) : Prop := ∃ qR qP qT qH, v = .tuple #[machV Mc.zero.c qR qP qT qH, .int .i64 1600]
def ErrWt (v : Value) : Prop := ∃ u, v = .tuple #[u, .int .i64 1600]
def MchAt (v : Value) : Prop := ∃ qR qP qT qH, v = machV Mc.zero.c qR qP qT qH
def VarAt (B : Nat) (x : World) (v : Value) : Prop := ∃ g : Nat, v = .pointer (some ⟨g, 0, none⟩) ∧ B ≤ g ∧ ∃ c a b d e, Box x g (cells9 c a b d e) 29
theorem VarAt.lx {B : Nat} {x y : World} {v : Value} (h : VarAt B x v) (l : LeX B x y) : VarAt B y v := by
  obtain ⟨g, hv, hg, c, a, b, d, e, hb⟩ := h; exact ⟨g, hv, hg, l.var hb⟩


set_option maxRecDepth 8000 in
set_option maxHeartbeats 16000000 in
theorem boForms0 (w : World) (a0 a1 : Int) (hq : bits .and .i64 a0 1 = 0) : Calls Tryz.prog 7 #[.int .i64 a0, .int .i64 a1] w fun e w' => e = .returned (.bool true) ∧ Le w w' := by
  obtain ⟨m, hm, m0, m1⟩ : ∃ m, bits .and .i64 a1 1023 = m ∧ 0 ≤ m ∧ m ≤ 1023 := ⟨_, and1023 a1, by omega, by omega⟩
  obtain ⟨d, hd⟩ : ∃ d, 1 + m = d := ⟨_, rfl⟩
  obtain ⟨d0, d1⟩ : 1 ≤ d ∧ d ≤ 1024 := by omega
  have hl := Le.refl w
  go_enter Tryz.func7, Tryz.ntmps7
  go_wp2_with fail
  refine (lawAwake16 _).mono ?_
  rintro e w0 ⟨rfl, l0⟩
  replace hl := hl.trans l0
  go_wp2_with fail
  refine (begun16 _).mono ?_
  rintro e w1 ⟨qR, qP, qT, qH, rfl, oM, l1⟩
  replace hl := hl.trans l1
  have hsw := hl.size
  have hbM := Box.new w1 (cells9 begC qR qP qT qH) 29
  have a1 := Le.alloc w1 (.cells (cells9 begC qR qP qT qH) 29)
  go_upto_region 5 with fail
  generalize hW1 : w1.alloc (.cells (cells9 begC qR qP qT qH) 29) = W1 at hbM a1 ⊢
  clear hW1
  have hggM : w1.heap.size ≤ w1.heap.size := Nat.le_refl _
  generalize hgg : w1.heap.size = gM at hbM hggM ⊢
  have hsgM : w1.heap.size ≤ gM := by omega
  clear hgg hggM
  replace hl := hl.trans a1
  replace oM := oM.le a1
  clear a1 l0 l1
  have k2 := hbM.frozen 2
  have c2 := hbM.cell 2
  simp only [List.getElem?_toArray, List.getElem?_cons_succ, List.getElem?_cons_zero] at c2
  have hM4 : HasM (W1.setCell ⟨gM, 2, none⟩ (.int .i64 1)) (machV ⟨2, 2, 1, 4, 8⟩ qR qP qT qH) bgL := ((oM.setM (i := 2) (u := .int .i64 1) hbM).has).reC
  have hb4 : Box (W1.setCell ⟨gM, 2, none⟩ (.int .i64 1)) gM (cells9 ⟨2, 2, 1, 4, 8⟩ qR qP qT qH) 29 := hbM.set 2 _
  have hl4 : Le w (W1.setCell ⟨gM, 2, none⟩ (.int .i64 1)) := hl.set (by omega)
  go_upto_region 6 with fail
  clear hm
  clear k2 c2 oM hbM hl
  generalize hW4 : W1.setCell ⟨gM, 2, none⟩ (.int .i64 1) = W2 at hb4 hl4 hM4 ⊢
  clear hW4
  have hl := hl4
  have hbM := hb4
  have oM := hM4
  clear hl4 hb4 hM4
  obtain ⟨⟨y0, y1, y2, y3, y4⟩, y5, y6, y7, y8⟩ := (hbM).mach
  go_wp2_with fail
  refine (boardPostAs bgL_post _ _ oM bgL_fit).mono ?_
  rintro e w2 ⟨aR, aP, aT, aH, rfl, _, l2⟩
  clear y0 y1 y2 y3 y4 y5 y6 y7 y8
  replace hl := hl.trans l2
  replace hbM := hbM.le l2
  replace oM := oM.le l2
  have hbA := Box.new w2 (cells9 Mc.zero.c aR aP aT aH) 29
  have a1 := Le.alloc w2 (.cells (cells9 Mc.zero.c aR aP aT aH) 29)
  go_upto_region 7 with fail
  generalize hW1 : w2.alloc (.cells (cells9 Mc.zero.c aR aP aT aH) 29) = V1 at hbA a1 ⊢
  clear hW1
  have hggA : w2.heap.size ≤ w2.heap.size := Nat.le_refl _
  generalize hgg : w2.heap.size = gA at hbA hggA ⊢
  have hsgA : w2.heap.size ≤ gA := by omega
  clear hgg hggA
  replace hl := hl.trans a1
  replace hbM := hbM.le a1
  replace oM := oM.le a1
  clear a1 l2 hbA
  refine wp_region_any (by kernel_rfl) ?_
  refine Gr3.wpAny_grow [] [0, 1, 2, 3, 4, 5, 6, 7, 8, 9, 10, 11, 12, 13, 14, 15] [16] (by decide) (by kernel_rfl) (LeX V1.heap.size) (LeX.of (Le.refl _)) (fun _ _ _ => LeX.trans)
    (fun vs i x => match i with
      | 0 => BegAt x (vs 0)
      | 1 => vs 1 = .int .i64 d
      | 2 => vs 2 = .int .i64 (-d)
      | 3 => vs 3 = .int .i64 d
      | 4 => vs 4 = .int .i64 (3 + d)
      | 5 => TwoAt x (vs 5) (-d) (3 + d)
      | 6 => vs 6 = .int .i64 a0
      | 7 => vs 7 = .int .i64 0
      | 8 => PtAt x (vs 8) 0 (-d) (3 + d)
      | 9 => vs 9 = .int .i64 (-d)
      | 10 => ErrAt (vs 10)
      | 11 => ErrAt (vs 11)
      | 12 => MchAt (vs 12)
      | 13 => vs 13 = .int .i64 1600
      | 14 => VarAt V1.heap.size x (vs 14)
      | _ => True) ?_ ?_ (by decide) ?_ ?_
  · intro vs i x y hi _ h hxy
    simp only [List.mem_cons, List.not_mem_nil, or_false] at hi
    rcases hi with rfl | rfl | rfl | rfl | rfl | rfl | rfl | rfl | rfl | rfl | rfl | rfl | rfl | rfl | rfl | rfl
    · exact h.lx hxy
    · exact h
    · exact h
    · exact h
    · exact h
    · exact h.lx hxy
    · exact h
    · exact h
    · exact h.lx hxy
    · exact h
    · exact h
    · exact h
    · exact h
    · exact h
    · exact h.lx hxy
    · exact h
  · intro vs vs' i o x hi _ hk h
    have e := hk i (.inl rfl)
    simp only [List.mem_cons, List.not_mem_nil, or_false] at hi
    rcases hi with rfl | rfl | rfl | rfl | rfl | rfl | rfl | rfl | rfl | rfl | rfl | rfl | rfl | rfl | rfl | rfl
    all_goals
      simp only at h ⊢
      try (rw [← e]; exact h)
  · intro i o hi ho vs x hx hd
    have hx0 : Le V1 x := hx.le (Le.drew V1) (Nat.le_refl _)
    simp only [List.mem_cons, List.not_mem_nil, or_false] at hi
    generalize hρ : (putH _ _ _ vs).eval = ρ
    rcases hi with rfl | rfl | rfl | rfl | rfl | rfl | rfl | rfl | rfl | rfl | rfl | rfl | rfl | rfl | rfl | rfl
    · cases ho
      have rf : ρ (.func 26) = .func (.func 26) #[] #[] := by rw [← hρ]; kernel_rfl
      refine gives_call (f := 26) (args := #[]) (by simp [go_sem, rf]) ((begun16 x).mono ?_)
      rintro e x2 ⟨uR, uP, uT, uH, rfl, o, l2⟩
      exact ⟨_, rfl, LeX.of (l2), uR, uP, uT, uH, rfl, o.base (Nat.zero_le _)⟩
    · cases ho
      have r1 : ρ (.tmp 5) = .int .i64 d := by rw [← hρ]; kernel_rfl
      exact gives_value (w' := x) (v := .int .i64 d) (by simp [go_sem, r1]) ⟨LeX.of (Le.refl _), rfl⟩
    · cases ho
      have r1 : ρ (.tmp 38) = vs 1 := by rw [← hρ]; kernel_rfl
      have d1 := hd 1 (by decide) (by kernel_rfl)
      simp only at d1
      rw [d1] at r1
      exact gives_value (w' := x) (v := .int .i64 (-d)) (by simp [go_sem, r1, neg_run d (by omega)]) ⟨LeX.of (Le.refl _), rfl⟩
    · cases ho
      have r1 : ρ (.tmp 5) = .int .i64 d := by rw [← hρ]; kernel_rfl
      exact gives_value (w' := x) (v := .int .i64 d) (by simp [go_sem, r1]) ⟨LeX.of (Le.refl _), rfl⟩
    · cases ho
      have r1 : ρ (.tmp 40) = vs 3 := by rw [← hρ]; kernel_rfl
      have d3 := hd 3 (by decide) (by kernel_rfl)
      simp only at d3
      rw [d3] at r1
      have rc : ρ (.const (.int .i64 3)) = .int .i64 3 := by rw [← hρ]; kernel_rfl
      exact gives_value (w' := x) (v := .int .i64 (3 + d)) (by simp [go_sem, r1, rc, add_run 3 d (by omega) (by omega)]) ⟨LeX.of (Le.refl _), rfl⟩
    · cases ho
      have r1 : ρ (.tmp 39) = vs 2 := by rw [← hρ]; kernel_rfl
      have d2 := hd 2 (by decide) (by kernel_rfl)
      simp only at d2
      rw [d2] at r1
      have r2 : ρ (.tmp 41) = vs 4 := by rw [← hρ]; kernel_rfl
      have d4 := hd 4 (by decide) (by kernel_rfl)
      simp only at d4
      rw [d4] at r2
      exact gives_value (w' := x.alloc (.cells #[.int .i64 (-d), .int .i64 (3 + d)] 3)) (v := .slice (some ⟨x.heap.size, 0, none⟩) 2 2) (by simp [go_sem, r1, r2]) ⟨LeX.of (Le.alloc _ _), x.heap.size, rfl, Box.new _ _ _⟩
    · cases ho
      have r1 : ρ (.tmp 0) = .int .i64 a0 := by rw [← hρ]; kernel_rfl
      exact gives_value (w' := x) (v := .int .i64 a0) (by simp [go_sem, r1]) ⟨LeX.of (Le.refl _), rfl⟩
    · cases ho
      have r1 : ρ (.tmp 43) = vs 6 := by rw [← hρ]; kernel_rfl
      have d6 := hd 6 (by decide) (by kernel_rfl)
      simp only at d6
      rw [d6] at r1
      have rc : ρ (.const (.int .i64 1)) = .int .i64 1 := by rw [← hρ]; kernel_rfl
      exact gives_value (w' := x) (v := .int .i64 0) (by simp [go_sem, r1, rc, hq]) ⟨LeX.of (Le.refl _), rfl⟩
    · cases ho
      have r1 : ρ (.tmp 42) = vs 5 := by rw [← hρ]; kernel_rfl
      have d5 := hd 5 (by decide) (by kernel_rfl)
      simp only at d5
      have r2 : ρ (.tmp 44) = vs 7 := by rw [← hρ]; kernel_rfl
      have d7 := hd 7 (by decide) (by kernel_rfl)
      simp only at d7
      rw [d7] at r2
      obtain ⟨g, e5, c0⟩ := d5
      rw [e5] at r1
      exact gives_value (w' := x) (v := .pointer (some ⟨g, 0, none⟩)) (by simp [go_sem, r1, r2]) ⟨LeX.of (Le.refl _), g, rfl, c0⟩
    · cases ho
      have r1 : ρ (.tmp 45) = vs 8 := by rw [← hρ]; kernel_rfl
      have d8 := hd 8 (by decide) (by kernel_rfl)
      simp only at d8
      obtain ⟨g, e8, hb⟩ := d8
      rw [e8] at r1
      have c0 := hb.cell 0
      simp only [List.getElem?_toArray, List.getElem?_cons_zero] at c0
      exact gives_value (w' := x) (v := .int .i64 (-d)) (by simp [go_sem, r1, c0]) ⟨LeX.of (Le.refl _), rfl⟩
    · cases ho
      have r1 : ρ (.tmp 37) = vs 0 := by rw [← hρ]; kernel_rfl
      have d0 := hd 0 (by decide) (by kernel_rfl)
      simp only at d0
      have r2 : ρ (.tmp 46) = vs 9 := by rw [← hρ]; kernel_rfl
      have d9 := hd 9 (by decide) (by kernel_rfl)
      simp only at d9
      rw [d9] at r2
      obtain ⟨qR, qP, qT, qH, e0, d0⟩ := d0
      rw [e0] at r1 d0
      have rf : ρ (.func 19) = .func (.func 19) #[] #[] := by rw [← hρ]; kernel_rfl
      refine gives_call (f := 19) (args := #[machV begC qR qP qT qH, .int .i64 (-d)]) (by simp [go_sem, rf, r1, r2]) ((boardPostAs (beg_post_no (t := (-d)) (by omega)) _ x d0.has beg_fit).mono ?_)
      rintro e x2 ⟨uR, uP, uT, uH, rfl, _, l2⟩
      exact ⟨_, rfl, LeX.of l2, uR, uP, uT, uH, rfl⟩
    · cases ho
      have r1 : ρ (.tmp 47) = vs 10 := by rw [← hρ]; kernel_rfl
      have d10 := hd 10 (by decide) (by kernel_rfl)
      simp only at d10
      obtain ⟨qR, qP, qT, qH, e0⟩ := d10
      rw [e0] at r1
      exact gives_value (w' := x) (v := .tuple #[machV Mc.zero.c qR qP qT qH, .int .i64 1600]) (by simp [go_sem, r1]) ⟨LeX.of (Le.refl _), qR, qP, qT, qH, rfl⟩
    · cases ho
      have r1 : ρ (.tmp 36) = vs 11 := by rw [← hρ]; kernel_rfl
      have d11 := hd 11 (by decide) (by kernel_rfl)
      simp only at d11
      obtain ⟨qR, qP, qT, qH, e0⟩ := d11
      rw [e0] at r1
      exact gives_value (w' := x) (v := machV Mc.zero.c qR qP qT qH) (by simp [go_sem, r1]) ⟨LeX.of (Le.refl _), qR, qP, qT, qH, rfl⟩
    · cases ho
      have r1 : ρ (.tmp 36) = vs 11 := by rw [← hρ]; kernel_rfl
      have d11 := hd 11 (by decide) (by kernel_rfl)
      simp only at d11
      obtain ⟨qR, qP, qT, qH, e0⟩ := d11
      rw [e0] at r1
      exact gives_value (w' := x) (v := .int .i64 1600) (by simp [go_sem, r1]) ⟨LeX.of (Le.refl _), rfl⟩
    · cases ho
      exact gives_value (w' := x.alloc (.cells cellsZ9 29)) (v := .pointer (some ⟨x.heap.size, 0, none⟩)) (by simp [go_sem]) ⟨LeX.of (Le.alloc _ _), x.heap.size, rfl, hx0.size, Cfg.zero, slZ, slZ, slZ, slZ, Box.new _ _ _⟩
    · cases ho
      have r2 : ρ (.tmp 48) = vs 12 := by rw [← hρ]; kernel_rfl
      have d12 := hd 12 (by decide) (by kernel_rfl)
      simp only at d12
      have r1 : ρ (.tmp 9) = vs 14 := by rw [← hρ]; kernel_rfl
      have d14 := hd 14 (by decide) (by kernel_rfl)
      simp only at d14
      obtain ⟨mR, mP, mT, mH, e12⟩ := d12
      obtain ⟨g, e14, hg, c, a, b, f, e, hb⟩ := d14
      rw [e12] at r2
      rw [e14] at r1
      have c0 := hb.cell 0
      have c1 := hb.cell 1
      have c2 := hb.cell 2
      have c3 := hb.cell 3
      have c4 := hb.cell 4
      have c5 := hb.cell 5
      have c6 := hb.cell 6
      have c7 := hb.cell 7
      have c8 := hb.cell 8
      simp only [List.getElem?_toArray, List.getElem?_cons_succ, List.getElem?_cons_zero] at c0 c1 c2 c3 c4 c5 c6 c7 c8
      have k0 := hb.frozen 0
      have k1 := hb.frozen 1
      have k2 := hb.frozen 2
      have k3 := hb.frozen 3
      have k4 := hb.frozen 4
      have k5 := hb.frozen 5
      have k6 := hb.frozen 6
      have k7 := hb.frozen 7
      have k8 := hb.frozen 8
      refine Gr3.gives_skip (w' := put9 x g Mc.zero.c mR mP mT mH) ?_ ⟨LeX.store hg hb _ _ _ _ _, trivial⟩
      simp [go_sem, r1, r2, c0, c1, c2, c3, c4, c5, c6, c7, c8, k0, k1, k2, k3, k4, k5, k6, k7, k8, put9]
  · intro vs1 X1 hx hd
    have hx0 : Le V1 X1 := hx.le (Le.drew V1) (Nat.le_refl _)
    have e13 := hd 13 (by decide)
    simp only at e13
    clear hd
    generalize hf0 : putH _ _ _ vs1 = fr0
    refine wpSeq_cons rfl ?_
    refine wp_value_at (v0 := .int .i64 1600) (w0 := X1) ?_ ?_
    · generalize hρ : fr0.eval = ρ
      have r1 : ρ (.tmp 49) = vs1 13 := by rw [← hρ, ← hf0]; kernel_rfl
      rw [e13] at r1
      simp [go_sem, r1]
    · subst hf0
      simp only [wpSeq, putH, List.getElem?_cons_succ, List.getElem?_cons_zero, Option.bind_some, Act.put, List.setIfInBounds_toArray, List.set_cons_zero, List.set_cons_succ]
      have hlp : Le V1 X1 := hx0
      clear e13 hx hx0
      replace hl := hl.trans hlp
      replace hbM := hbM.le hlp
      replace oM := oM.le hlp
      clear hlp
      obtain ⟨⟨y0, y1, y2, y3, y4⟩, y5, y6, y7, y8⟩ := (hbM).mach
      go_wp2_with fail
      refine (boardWaitAs bgL_wait _ _ oM bgL_fit).mono ?_
      rintro e w3 ⟨ba, bc, rfl, _, l3⟩
      clear y0 y1 y2 y3 y4 y5 y6 y7 y8
      replace hl := hl.trans l3
      clear l3 hbM oM
      go_upto_region 9 with fail
      refine wp_region_any (by kernel_rfl) ?_
      refine Gr3.wpAny_grow [] [0, 1, 2, 3, 4, 5, 6, 7, 8, 9, 10, 11, 12, 13, 14] [15] (by decide) (by kernel_rfl) Le (Le.refl _) (fun _ _ _ => Le.trans)
        (fun vs i x => match i with
          | 0 => BegAt x (vs 0)
          | 1 => vs 1 = .int .i64 d
          | 2 => vs 2 = .int .i64 (-d)
          | 3 => vs 3 = .int .i64 d
          | 4 => vs 4 = .int .i64 (1 + d)
          | 5 => TwoAt x (vs 5) (-d) (1 + d)
          | 6 => vs 6 = .int .i64 a0
          | 7 => vs 7 = .int .i64 0
          | 8 => PtAt x (vs 8) 0 (-d) (1 + d)
          | 9 => vs 9 = .int .i64 (-d)
          | 10 => ErrWt (vs 10)
          | 11 => ErrWt (vs 11)
          | 12 => True
          | 13 => vs 13 = .int .i64 1600
          | _ => True) ?_ ?_ (by decide) ?_ ?_
      · intro vs i x y hi _ h hxy
        simp only [List.mem_cons, List.not_mem_nil, or_false] at hi
        rcases hi with rfl | rfl | rfl | rfl | rfl | rfl | rfl | rfl | rfl | rfl | rfl | rfl | rfl | rfl | rfl
        · exact h.le hxy
        · exact h
        · exact h
        · exact h
        · exact h
        · exact h.le hxy
        · exact h
        · exact h
        · exact h.le hxy
        · exact h
        · exact h
        · exact h
        · exact h
        · exact h
        · exact h
      · intro vs vs' i o x hi _ hk h
        have e := hk i (.inl rfl)
        simp only [List.mem_cons, List.not_mem_nil, or_false] at hi
        rcases hi with rfl | rfl | rfl | rfl | rfl | rfl | rfl | rfl | rfl | rfl | rfl | rfl | rfl | rfl | rfl
        all_goals
          simp only at h ⊢
          try (rw [← e]; exact h)
      · intro i o hi ho vs x hx hd
        have hx0 := (Le.drew w3).trans hx
        simp only [List.mem_cons, List.not_mem_nil, or_false] at hi
        generalize hρ : (putH _ _ _ vs).eval = ρ
        rcases hi with rfl | rfl | rfl | rfl | rfl | rfl | rfl | rfl | rfl | rfl | rfl | rfl | rfl | rfl | rfl
        · cases ho
          have rf : ρ (.func 26) = .func (.func 26) #[] #[] := by rw [← hρ]; kernel_rfl
          refine gives_call (f := 26) (args := #[]) (by simp [go_sem, rf]) ((begun16 x).mono ?_)
          rintro e x2 ⟨uR, uP, uT, uH, rfl, o, l2⟩
          exact ⟨_, rfl, l2, uR, uP, uT, uH, rfl, o.base (Nat.zero_le _)⟩
        · cases ho
          have r1 : ρ (.tmp 5) = .int .i64 d := by rw [← hρ]; kernel_rfl
          exact gives_value (w' := x) (v := .int .i64 d) (by simp [go_sem, r1]) ⟨Le.refl _, rfl⟩
        · cases ho
          have r1 : ρ (.tmp 57) = vs 1 := by rw [← hρ]; kernel_rfl
          have d1 := hd 1 (by decide) (by kernel_rfl)
          simp only at d1
          rw [d1] at r1
          exact gives_value (w' := x) (v := .int .i64 (-d)) (by simp [go_sem, r1, neg_run d (by omega)]) ⟨Le.refl _, rfl⟩
        · cases ho
          have r1 : ρ (.tmp 5) = .int .i64 d := by rw [← hρ]; kernel_rfl
          exact gives_value (w' := x) (v := .int .i64 d) (by simp [go_sem, r1]) ⟨Le.refl _, rfl⟩
        · cases ho
          have r1 : ρ (.tmp 59) = vs 3 := by rw [← hρ]; kernel_rfl
          have d3 := hd 3 (by decide) (by kernel_rfl)
          simp only at d3
          rw [d3] at r1
          have rc : ρ (.const (.int .i64 1)) = .int .i64 1 := by rw [← hρ]; kernel_rfl
          exact gives_value (w' := x) (v := .int .i64 (1 + d)) (by simp [go_sem, r1, rc, add_run 1 d (by omega) (by omega)]) ⟨Le.refl _, rfl⟩
        · cases ho
          have r1 : ρ (.tmp 58) = vs 2 := by rw [← hρ]; kernel_rfl
          have d2 := hd 2 (by decide) (by kernel_rfl)
          simp only at d2
          rw [d2] at r1
          have r2 : ρ (.tmp 60) = vs 4 := by rw [← hρ]; kernel_rfl
          have d4 := hd 4 (by decide) (by kernel_rfl)
          simp only at d4
          rw [d4] at r2
          exact gives_value (w' := x.alloc (.cells #[.int .i64 (-d), .int .i64 (1 + d)] 3)) (v := .slice (some ⟨x.heap.size, 0, none⟩) 2 2) (by simp [go_sem, r1, r2]) ⟨Le.alloc _ _, x.heap.size, rfl, Box.new _ _ _⟩
        · cases ho
          have r1 : ρ (.tmp 0) = .int .i64 a0 := by rw [← hρ]; kernel_rfl
          exact gives_value (w' := x) (v := .int .i64 a0) (by simp [go_sem, r1]) ⟨Le.refl _, rfl⟩
        · cases ho
          have r1 : ρ (.tmp 62) = vs 6 := by rw [← hρ]; kernel_rfl
          have d6 := hd 6 (by decide) (by kernel_rfl)
          simp only at d6
          rw [d6] at r1
          have rc : ρ (.const (.int .i64 1)) = .int .i64 1 := by rw [← hρ]; kernel_rfl
          exact gives_value (w' := x) (v := .int .i64 0) (by simp [go_sem, r1, rc, hq]) ⟨Le.refl _, rfl⟩
        · cases ho
          have r1 : ρ (.tmp 61) = vs 5 := by rw [← hρ]; kernel_rfl
          have d5 := hd 5 (by decide) (by kernel_rfl)
          simp only at d5
          have r2 : ρ (.tmp 63) = vs 7 := by rw [← hρ]; kernel_rfl
          have d7 := hd 7 (by decide) (by kernel_rfl)
          simp only at d7
          rw [d7] at r2
          obtain ⟨g, e5, c0⟩ := d5
          rw [e5] at r1
          exact gives_value (w' := x) (v := .pointer (some ⟨g, 0, none⟩)) (by simp [go_sem, r1, r2]) ⟨Le.refl _, g, rfl, c0⟩
        · cases ho
          have r1 : ρ (.tmp 64) = vs 8 := by rw [← hρ]; kernel_rfl
          have d8 := hd 8 (by decide) (by kernel_rfl)
          simp only at d8
          obtain ⟨g, e8, hb⟩ := d8
          rw [e8] at r1
          have c0 := hb.cell 0
          simp only [List.getElem?_toArray, List.getElem?_cons_zero] at c0
          exact gives_value (w' := x) (v := .int .i64 (-d)) (by simp [go_sem, r1, c0]) ⟨Le.refl _, rfl⟩
        · cases ho
          have r1 : ρ (.tmp 56) = vs 0 := by rw [← hρ]; kernel_rfl
          have d0 := hd 0 (by decide) (by kernel_rfl)
          simp only at d0
          have r2 : ρ (.tmp 65) = vs 9 := by rw [← hρ]; kernel_rfl
          have d9 := hd 9 (by decide) (by kernel_rfl)
          simp only at d9
          rw [d9] at r2
          obtain ⟨qR, qP, qT, qH, e0, d0⟩ := d0
          rw [e0] at r1 d0
          have rf : ρ (.func 21) = .func (.func 21) #[] #[] := by rw [← hρ]; kernel_rfl
          have rc : ρ (.const (.int .i64 0)) = .int .i64 0 := by rw [← hρ]; kernel_rfl
          refine gives_call (f := 21) (args := #[machV begC qR qP qT qH, .int .i64 (-d), .int .i64 0]) (by simp [go_sem, rf, r1, r2, rc]) ((boardWaitAs (beg_wait_no (r := (-d)) (g := 0) (by omega)) _ x d0.has beg_fit).mono ?_)
          rintro e x2 ⟨ua, uc, rfl, _, l2⟩
          exact ⟨_, rfl, l2, _, rfl⟩
        · cases ho
          have r1 : ρ (.tmp 66) = vs 10 := by rw [← hρ]; kernel_rfl
          have d10 := hd 10 (by decide) (by kernel_rfl)
          simp only at d10
          obtain ⟨u, e0⟩ := d10
          rw [e0] at r1
          exact gives_value (w' := x) (v := .tuple #[u, .int .i64 1600]) (by simp [go_sem, r1]) ⟨Le.refl _, u, rfl⟩
        · cases ho
          have r1 : ρ (.tmp 55) = vs 11 := by rw [← hρ]; kernel_rfl
          have d11 := hd 11 (by decide) (by kernel_rfl)
          simp only at d11
          obtain ⟨u, e0⟩ := d11
          rw [e0] at r1
          exact gives_value (w' := x) (v := u) (by simp [go_sem, r1]) ⟨Le.refl _, trivial⟩
        · cases ho
          have r1 : ρ (.tmp 55) = vs 11 := by rw [← hρ]; kernel_rfl
          have d11 := hd 11 (by decide) (by kernel_rfl)
          simp only at d11
          obtain ⟨u, e0⟩ := d11
          rw [e0] at r1
          exact gives_value (w' := x) (v := .int .i64 1600) (by simp [go_sem, r1]) ⟨Le.refl _, rfl⟩
        · cases ho
          have r1 : ρ (.tmp 67) = vs 12 := by rw [← hρ]; kernel_rfl
          exact gives_value (w' := x) (v := vs 12) (by simp [go_sem, r1]) ⟨Le.refl _, trivial⟩
      · intro vs2 X2 hx hd
        have hx0 := (Le.drew w3).trans hx
        have e13 := hd 13 (by decide)
        simp only at e13
        clear hd
        generalize hf0 : putH _ _ _ vs2 = fr0
        refine wpSeq_cons rfl ?_
        refine wp_value_at (v0 := .int .i64 1600) (w0 := X2) ?_ ?_
        · generalize hρ : fr0.eval = ρ
          have r1 : ρ (.tmp 68) = vs2 13 := by rw [← hρ, ← hf0]; kernel_rfl
          rw [e13] at r1
          simp [go_sem, r1]
        · subst hf0
          simp only [wpSeq, putH, List.getElem?_cons_succ, List.getElem?_cons_zero, Option.bind_some, Act.put, List.setIfInBounds_toArray, List.set_cons_zero, List.set_cons_succ]
          have hlp : Le w3 X2 := hx0
          clear e13 hx hx0
          replace hl := hl.trans hlp
          clear hlp
          go_upto_region 10 with fail
          refine wp_region_any (by kernel_rfl) ?_
          refine Gr3.wpAny_grow [] [0, 1, 2, 3, 4, 5, 6, 7, 8, 9, 10, 11, 12, 13, 14] [15] (by decide) (by kernel_rfl) Le (Le.refl _) (fun _ _ _ => Le.trans)
            (fun vs i x => match i with
              | 0 => BegAt x (vs 0)
              | 1 => vs 1 = .int .i64 d
              | 2 => vs 2 = .int .i64 (-d)
              | 3 => vs 3 = .int .i64 d
              | 4 => vs 4 = .int .i64 (1 + d)
              | 5 => TwoAt x (vs 5) (-d) (1 + d)
              | 6 => vs 6 = .int .i64 a0
              | 7 => vs 7 = .int .i64 0
              | 8 => PtAt x (vs 8) 0 (-d) (1 + d)
              | 9 => vs 9 = .int .i64 (-d)
              | 10 => ErrWt (vs 10)
              | 11 => ErrWt (vs 11)
              | 12 => True
              | 13 => vs 13 = .int .i64 1600
              | _ => True) ?_ ?_ (by decide) ?_ ?_
          · intro vs i x y hi _ h hxy
            simp only [List.mem_cons, List.not_mem_nil, or_false] at hi
            rcases hi with rfl | rfl | rfl | rfl | rfl | rfl | rfl | rfl | rfl | rfl | rfl | rfl | rfl | rfl | rfl
            · exact h.le hxy
            · exact h
            · exact h
            · exact h
            · exact h
            · exact h.le hxy
            · exact h
            · exact h
            · exact h.le hxy
            · exact h
            · exact h
            · exact h
            · exact h
            · exact h
            · exact h
          · intro vs vs' i o x hi _ hk h
            have e := hk i (.inl rfl)
            simp only [List.mem_cons, List.not_mem_nil, or_false] at hi
            rcases hi with rfl | rfl | rfl | rfl | rfl | rfl | rfl | rfl | rfl | rfl | rfl | rfl | rfl | rfl | rfl
            all_goals
              simp only at h ⊢
              try (rw [← e]; exact h)
          · intro i o hi ho vs x hx hd
            have hx0 := (Le.drew X2).trans hx
            simp only [List.mem_cons, List.not_mem_nil, or_false] at hi
            generalize hρ : (putH _ _ _ vs).eval = ρ
            rcases hi with rfl | rfl | rfl | rfl | rfl | rfl | rfl | rfl | rfl | rfl | rfl | rfl | rfl | rfl | rfl
            · cases ho
              have rf : ρ (.func 26) = .func (.func 26) #[] #[] := by rw [← hρ]; kernel_rfl
              refine gives_call (f := 26) (args := #[]) (by simp [go_sem, rf]) ((begun16 x).mono ?_)
              rintro e x2 ⟨uR, uP, uT, uH, rfl, o, l2⟩
              exact ⟨_, rfl, l2, uR, uP, uT, uH, rfl, o.base (Nat.zero_le _)⟩
            · cases ho
              have r1 : ρ (.tmp 5) = .int .i64 d := by rw [← hρ]; kernel_rfl
              exact gives_value (w' := x) (v := .int .i64 d) (by simp [go_sem, r1]) ⟨Le.refl _, rfl⟩
            · cases ho
              have r1 : ρ (.tmp 71) = vs 1 := by rw [← hρ]; kernel_rfl
              have d1 := hd 1 (by decide) (by kernel_rfl)
              simp only at d1
              rw [d1] at r1
              exact gives_value (w' := x) (v := .int .i64 (-d)) (by simp [go_sem, r1, neg_run d (by omega)]) ⟨Le.refl _, rfl⟩
            · cases ho
              have r1 : ρ (.tmp 5) = .int .i64 d := by rw [← hρ]; kernel_rfl
              exact gives_value (w' := x) (v := .int .i64 d) (by simp [go_sem, r1]) ⟨Le.refl _, rfl⟩
            · cases ho
              have r1 : ρ (.tmp 73) = vs 3 := by rw [← hρ]; kernel_rfl
              have d3 := hd 3 (by decide) (by kernel_rfl)
              simp only at d3
              rw [d3] at r1
              have rc : ρ (.const (.int .i64 1)) = .int .i64 1 := by rw [← hρ]; kernel_rfl
              exact gives_value (w' := x) (v := .int .i64 (1 + d)) (by simp [go_sem, r1, rc, add_run 1 d (by omega) (by omega)]) ⟨Le.refl _, rfl⟩
            · cases ho
              have r1 : ρ (.tmp 72) = vs 2 := by rw [← hρ]; kernel_rfl
              have d2 := hd 2 (by decide) (by kernel_rfl)
              simp only at d2
              rw [d2] at r1
              have r2 : ρ (.tmp 74) = vs 4 := by rw [← hρ]; kernel_rfl
              have d4 := hd 4 (by decide) (by kernel_rfl)
              simp only at d4
              rw [d4] at r2
              exact gives_value (w' := x.alloc (.cells #[.int .i64 (-d), .int .i64 (1 + d)] 3)) (v := .slice (some ⟨x.heap.size, 0, none⟩) 2 2) (by simp [go_sem, r1, r2]) ⟨Le.alloc _ _, x.heap.size, rfl, Box.new _ _ _⟩
            · cases ho
              have r1 : ρ (.tmp 0) = .int .i64 a0 := by rw [← hρ]; kernel_rfl
              exact gives_value (w' := x) (v := .int .i64 a0) (by simp [go_sem, r1]) ⟨Le.refl _, rfl⟩
            · cases ho
              have r1 : ρ (.tmp 76) = vs 6 := by rw [← hρ]; kernel_rfl
              have d6 := hd 6 (by decide) (by kernel_rfl)
              simp only at d6
              rw [d6] at r1
              have rc : ρ (.const (.int .i64 1)) = .int .i64 1 := by rw [← hρ]; kernel_rfl
              exact gives_value (w' := x) (v := .int .i64 0) (by simp [go_sem, r1, rc, hq]) ⟨Le.refl _, rfl⟩
            · cases ho
              have r1 : ρ (.tmp 75) = vs 5 := by rw [← hρ]; kernel_rfl
              have d5 := hd 5 (by decide) (by kernel_rfl)
              simp only at d5
              have r2 : ρ (.tmp 77) = vs 7 := by rw [← hρ]; kernel_rfl
              have d7 := hd 7 (by decide) (by kernel_rfl)
              simp only at d7
              rw [d7] at r2
              obtain ⟨g, e5, c0⟩ := d5
              rw [e5] at r1
              exact gives_value (w' := x) (v := .pointer (some ⟨g, 0, none⟩)) (by simp [go_sem, r1, r2]) ⟨Le.refl _, g, rfl, c0⟩
            · cases ho
              have r1 : ρ (.tmp 78) = vs 8 := by rw [← hρ]; kernel_rfl
              have d8 := hd 8 (by decide) (by kernel_rfl)
              simp only at d8
              obtain ⟨g, e8, hb⟩ := d8
              rw [e8] at r1
              have c0 := hb.cell 0
              simp only [List.getElem?_toArray, List.getElem?_cons_zero] at c0
              exact gives_value (w' := x) (v := .int .i64 (-d)) (by simp [go_sem, r1, c0]) ⟨Le.refl _, rfl⟩
            · cases ho
              have r1 : ρ (.tmp 70) = vs 0 := by rw [← hρ]; kernel_rfl
              have d0 := hd 0 (by decide) (by kernel_rfl)
              simp only at d0
              have r2 : ρ (.tmp 79) = vs 9 := by rw [← hρ]; kernel_rfl
              have d9 := hd 9 (by decide) (by kernel_rfl)
              simp only at d9
              rw [d9] at r2
              obtain ⟨qR, qP, qT, qH, e0, d0⟩ := d0
              rw [e0] at r1 d0
              have rf : ρ (.func 21) = .func (.func 21) #[] #[] := by rw [← hρ]; kernel_rfl
              have rc : ρ (.const (.int .i64 0)) = .int .i64 0 := by rw [← hρ]; kernel_rfl
              refine gives_call (f := 21) (args := #[machV begC qR qP qT qH, .int .i64 0, .int .i64 (-d)]) (by simp [go_sem, rf, r1, r2, rc]) ((boardWaitAs (beg_wait_no (r := 0) (g := (-d)) (by omega)) _ x d0.has beg_fit).mono ?_)
              rintro e x2 ⟨ua, uc, rfl, _, l2⟩
              exact ⟨_, rfl, l2, _, rfl⟩
            · cases ho
              have r1 : ρ (.tmp 80) = vs 10 := by rw [← hρ]; kernel_rfl
              have d10 := hd 10 (by decide) (by kernel_rfl)
              simp only at d10
              obtain ⟨u, e0⟩ := d10
              rw [e0] at r1
              exact gives_value (w' := x) (v := .tuple #[u, .int .i64 1600]) (by simp [go_sem, r1]) ⟨Le.refl _, u, rfl⟩
            · cases ho
              have r1 : ρ (.tmp 69) = vs 11 := by rw [← hρ]; kernel_rfl
              have d11 := hd 11 (by decide) (by kernel_rfl)
              simp only at d11
              obtain ⟨u, e0⟩ := d11
              rw [e0] at r1
              exact gives_value (w' := x) (v := u) (by simp [go_sem, r1]) ⟨Le.refl _, trivial⟩
            · cases ho
              have r1 : ρ (.tmp 69) = vs 11 := by rw [← hρ]; kernel_rfl
              have d11 := hd 11 (by decide) (by kernel_rfl)
              simp only at d11
              obtain ⟨u, e0⟩ := d11
              rw [e0] at r1
              exact gives_value (w' := x) (v := .int .i64 1600) (by simp [go_sem, r1]) ⟨Le.refl _, rfl⟩
            · cases ho
              have r1 : ρ (.tmp 81) = vs 12 := by rw [← hρ]; kernel_rfl
              exact gives_value (w' := x) (v := vs 12) (by simp [go_sem, r1]) ⟨Le.refl _, trivial⟩
          · intro vs3 X3 hx hd
            have hx0 := (Le.drew X2).trans hx
            have e13 := hd 13 (by decide)
            simp only at e13
            clear hd
            generalize hf0 : putH _ _ _ vs3 = fr0
            refine wpSeq_cons rfl ?_
            refine wp_value_at (v0 := .int .i64 1600) (w0 := X3) ?_ ?_
            · generalize hρ : fr0.eval = ρ
              have r1 : ρ (.tmp 82) = vs3 13 := by rw [← hρ, ← hf0]; kernel_rfl
              rw [e13] at r1
              simp [go_sem, r1]
            · subst hf0
              simp only [wpSeq, putH, List.getElem?_cons_succ, List.getElem?_cons_zero, Option.bind_some, Act.put, List.setIfInBounds_toArray, List.set_cons_zero, List.set_cons_succ]
              have hlp : Le X2 X3 := hx0
              clear e13 hx hx0
              replace hl := hl.trans hlp
              clear hlp
              go_wp2_with fail
              refine (begun16 _).mono ?_
              rintro e w5 ⟨pR, pP, pT, pH, rfl, o5, l5⟩
              go_wp2_with fail
              refine (rmCallOk _ begM 0 2 0 0 _ o5.has beg_fit beg_may (by decide) (by decide) (by decide +kernel) (by decide +kernel)).mono ?_
              rintro e w6 ⟨v6, rfl, o6, l6⟩
              have o6' : OwnA w6 w5.heap.size v6 bgK := o6
              obtain ⟨nR, nP, nT, nH, rfl⟩ := o6'.open
              clear o5 o6
              replace hl := (hl.trans l5).trans l6
              clear l5 l6
              have hbN := Box.new w6 (cells9 bgK.c nR nP nT nH) 29
              have a1 := Le.alloc w6 (.cells (cells9 bgK.c nR nP nT nH) 29)
              go_upto_region 12 with fail
              generalize hW1 : w6.alloc (.cells (cells9 bgK.c nR nP nT nH) 29) = V6 at hbN a1 ⊢
              clear hW1
              have hggN : w6.heap.size ≤ w6.heap.size := Nat.le_refl _
              generalize hgg : w6.heap.size = gN at hbN hggN ⊢
              have hsgN : w6.heap.size ≤ gN := by omega
              clear hgg hggN
              replace hl := hl.trans a1
              have oN := (o6'.le a1).has
              clear a1 o6'
              obtain ⟨⟨y0, y1, y2, y3, y4⟩, y5, y6, y7, y8⟩ := (hbN).mach
              go_wp2_with fail
              refine (boardPostAs bgK_post _ _ oN bgK_fit).mono ?_
              rintro e w7 ⟨sR, sP, sT, sH, rfl, oS, l7⟩
              clear y0 y1 y2 y3 y4 y5 y6 y7 y8
              clear oN hbN
              replace hl := hl.trans l7
              clear l7
              have hbS := Box.new w7 (cells9 bgP.c sR sP sT sH) 29
              have a1 := Le.alloc w7 (.cells (cells9 bgP.c sR sP sT sH) 29)
              go_upto_region 13 with fail
              generalize hW1 : w7.alloc (.cells (cells9 bgP.c sR sP sT sH) 29) = V7 at hbS a1 ⊢
              clear hW1
              have hggS : w7.heap.size ≤ w7.heap.size := Nat.le_refl _
              generalize hgg : w7.heap.size = gS at hbS hggS ⊢
              have hsgS : w7.heap.size ≤ gS := by omega
              clear hgg hggS
              replace hl := hl.trans a1
              have hS := (oS.le a1).has
              clear a1 oS
              obtain ⟨⟨y0, y1, y2, y3, y4⟩, y5, y6, y7, y8⟩ := (hbS).mach
              go_wp2_with fail
              refine (boardWaitAs bgP_wait _ _ hS bgP_fit).mono ?_
              rintro e w8 ⟨ca, cc, rfl, _, l8⟩
              clear y0 y1 y2 y3 y4 y5 y6 y7 y8
              clear hS hbS
              replace hl := hl.trans l8
              clear l8
              go_wp2_with (go_at_call 15; refine (lawNum _ _).mono ?_; rintro e _ ⟨rfl, rfl⟩)
              go_ret
              exact ⟨rfl, hl⟩

set_option maxRecDepth 8000 in
set_option maxHeartbeats 16000000 in
theorem boForms1 (w : World) (a0 a1 : Int) (hq : bits .and .i64 a0 1 = 1) : Calls Tryz.prog 7 #[.int .i64 a0, .int .i64 a1] w fun e w' => e = .returned (.bool true) ∧ Le w w' := by
  obtain ⟨m, hm, m0, m1⟩ : ∃ m, bits .and .i64 a1 1023 = m ∧ 0 ≤ m ∧ m ≤ 1023 := ⟨_, and1023 a1, by omega, by omega⟩
  obtain ⟨d, hd⟩ : ∃ d, 1 + m = d := ⟨_, rfl⟩
  obtain ⟨d0, d1⟩ : 1 ≤ d ∧ d ≤ 1024 := by omega
  have hl := Le.refl w
  go_enter Tryz.func7, Tryz.ntmps7
  go_wp2_with fail
  refine (lawAwake16 _).mono ?_
  rintro e w0 ⟨rfl, l0⟩
  replace hl := hl.trans l0
  go_wp2_with fail
  refine (begun16 _).mono ?_
  rintro e w1 ⟨qR, qP, qT, qH, rfl, oM, l1⟩
  replace hl := hl.trans l1
  have hsw := hl.size
  have hbM := Box.new w1 (cells9 begC qR qP qT qH) 29
  have a1 := Le.alloc w1 (.cells (cells9 begC qR qP qT qH) 29)
  go_upto_region 5 with fail
  generalize hW1 : w1.alloc (.cells (cells9 begC qR qP qT qH) 29) = W1 at hbM a1 ⊢
  clear hW1
  have hggM : w1.heap.size ≤ w1.heap.size := Nat.le_refl _
  generalize hgg : w1.heap.size = gM at hbM hggM ⊢
  have hsgM : w1.heap.size ≤ gM := by omega
  clear hgg hggM
  replace hl := hl.trans a1
  replace oM := oM.le a1
  clear a1 l0 l1
  have k2 := hbM.frozen 2
  have c2 := hbM.cell 2
  simp only [List.getElem?_toArray, List.getElem?_cons_succ, List.getElem?_cons_zero] at c2
  have hM4 : HasM (W1.setCell ⟨gM, 2, none⟩ (.int .i64 1)) (machV ⟨2, 2, 1, 4, 8⟩ qR qP qT qH) bgL := ((oM.setM (i := 2) (u := .int .i64 1) hbM).has).reC
  have hb4 : Box (W1.setCell ⟨gM, 2, none⟩ (.int .i64 1)) gM (cells9 ⟨2, 2, 1, 4, 8⟩ qR qP qT qH) 29 := hbM.set 2 _
  have hl4 : Le w (W1.setCell ⟨gM, 2, none⟩ (.int .i64 1)) := hl.set (by omega)
  go_upto_region 6 with fail
  clear hm
  clear k2 c2 oM hbM hl
  generalize hW4 : W1.setCell ⟨gM, 2, none⟩ (.int .i64 1) = W2 at hb4 hl4 hM4 ⊢
  clear hW4
  have hl := hl4
  have hbM := hb4
  have oM := hM4
  clear hl4 hb4 hM4
  obtain ⟨⟨y0, y1, y2, y3, y4⟩, y5, y6, y7, y8⟩ := (hbM).mach
  go_wp2_with fail
  refine (boardPostAs bgL_post _ _ oM bgL_fit).mono ?_
  rintro e w2 ⟨aR, aP, aT, aH, rfl, _, l2⟩
  clear y0 y1 y2 y3 y4 y5 y6 y7 y8
  replace hl := hl.trans l2
  replace hbM := hbM.le l2
  replace oM := oM.le l2
  have hbA := Box.new w2 (cells9 Mc.zero.c aR aP aT aH) 29
  have a1 := Le.alloc w2 (.cells (cells9 Mc.zero.c aR aP aT aH) 29)
  go_upto_region 7 with fail
  generalize hW1 : w2.alloc (.cells (cells9 Mc.zero.c aR aP aT aH) 29) = V1 at hbA a1 ⊢
  clear hW1
  have hggA : w2.heap.size ≤ w2.heap.size := Nat.le_refl _
  generalize hgg : w2.heap.size = gA at hbA hggA ⊢
  have hsgA : w2.heap.size ≤ gA := by omega
  clear hgg hggA
  replace hl := hl.trans a1
  replace hbM := hbM.le a1
  replace oM := oM.le a1
  clear a1 l2 hbA
  refine wp_region_any (by kernel_rfl) ?_
  refine Gr3.wpAny_grow [] [0, 1, 2, 3, 4, 5, 6, 7, 8, 9, 10, 11, 12, 13, 14, 15] [16] (by decide) (by kernel_rfl) (LeX V1.heap.size) (LeX.of (Le.refl _)) (fun _ _ _ => LeX.trans)
    (fun vs i x => match i with
      | 0 => BegAt x (vs 0)
      | 1 => vs 1 = .int .i64 d
      | 2 => vs 2 = .int .i64 (-d)
      | 3 => vs 3 = .int .i64 d
      | 4 => vs 4 = .int .i64 (3 + d)
      | 5 => TwoAt x (vs 5) (-d) (3 + d)
      | 6 => vs 6 = .int .i64 a0
      | 7 => vs 7 = .int .i64 1
      | 8 => PtAt x (vs 8) 1 (-d) (3 + d)
      | 9 => vs 9 = .int .i64 (3 + d)
      | 10 => ErrAt (vs 10)
      | 11 => ErrAt (vs 11)
      | 12 => MchAt (vs 12)
      | 13 => vs 13 = .int .i64 1600
      | 14 => VarAt V1.heap.size x (vs 14)
      | _ => True) ?_ ?_ (by decide) ?_ ?_
  · intro vs i x y hi _ h hxy
    simp only [List.mem_cons, List.not_mem_nil, or_false] at hi
    rcases hi with rfl | rfl | rfl | rfl | rfl | rfl | rfl | rfl | rfl | rfl | rfl | rfl | rfl | rfl | rfl | rfl
    · exact h.lx hxy
    · exact h
    · exact h
    · exact h
    · exact h
    · exact h.lx hxy
    · exact h
    · exact h
    · exact h.lx hxy
    · exact h
    · exact h
    · exact h
    · exact h
    · exact h
    · exact h.lx hxy
    · exact h
  · intro vs vs' i o x hi _ hk h
    have e := hk i (.inl rfl)
    simp only [List.mem_cons, List.not_mem_nil, or_false] at hi
    rcases hi with rfl | rfl | rfl | rfl | rfl | rfl | rfl | rfl | rfl | rfl | rfl | rfl | rfl | rfl | rfl | rfl
    all_goals
      simp only at h ⊢
      try (rw [← e]; exact h)
  · intro i o hi ho vs x hx hd
    have hx0 : Le V1 x := hx.le (Le.drew V1) (Nat.le_refl _)
    simp only [List.mem_cons, List.not_mem_nil, or_false] at hi
    generalize hρ : (putH _ _ _ vs).eval = ρ
    rcases hi with rfl | rfl | rfl | rfl | rfl | rfl | rfl | rfl | rfl | rfl | rfl | rfl | rfl | rfl | rfl | rfl
    · cases ho
      have rf : ρ (.func 26) = .func (.func 26) #[] #[] := by rw [← hρ]; kernel_rfl
      refine gives_call (f := 26) (args := #[]) (by simp [go_sem, rf]) ((begun16 x).mono ?_)
      rintro e x2 ⟨uR, uP, uT, uH, rfl, o, l2⟩
      exact ⟨_, rfl, LeX.of (l2), uR, uP, uT, uH, rfl, o.base (Nat.zero_le _)⟩
    · cases ho
      have r1 : ρ (.tmp 5) = .int .i64 d := by rw [← hρ]; kernel_rfl
      exact gives_value (w' := x) (v := .int .i64 d) (by simp [go_sem, r1]) ⟨LeX.of (Le.refl _), rfl⟩
    · cases ho
      have r1 : ρ (.tmp 38) = vs 1 := by rw [← hρ]; kernel_rfl
      have d1 := hd 1 (by decide) (by kernel_rfl)
      simp only at d1
      rw [d1] at r1
      exact gives_value (w' := x) (v := .int .i64 (-d)) (by simp [go_sem, r1, neg_run d (by omega)]) ⟨LeX.of (Le.refl _), rfl⟩
    · cases ho
      have r1 : ρ (.tmp 5) = .int .i64 d := by rw [← hρ]; kernel_rfl
      exact gives_value (w' := x) (v := .int .i64 d) (by simp [go_sem, r1]) ⟨LeX.of (Le.refl _), rfl⟩
    · cases ho
      have r1 : ρ (.tmp 40) = vs 3 := by rw [← hρ]; kernel_rfl
      have d3 := hd 3 (by decide) (by kernel_rfl)
      simp only at d3
      rw [d3] at r1
      have rc : ρ (.const (.int .i64 3)) = .int .i64 3 := by rw [← hρ]; kernel_rfl
      exact gives_value (w' := x) (v := .int .i64 (3 + d)) (by simp [go_sem, r1, rc, add_run 3 d (by omega) (by omega)]) ⟨LeX.of (Le.refl _), rfl⟩
    · cases ho
      have r1 : ρ (.tmp 39) = vs 2 := by rw [← hρ]; kernel_rfl
      have d2 := hd 2 (by decide) (by kernel_rfl)
      simp only at d2
      rw [d2] at r1
      have r2 : ρ (.tmp 41) = vs 4 := by rw [← hρ]; kernel_rfl
      have d4 := hd 4 (by decide) (by kernel_rfl)
      simp only at d4
      rw [d4] at r2
      exact gives_value (w' := x.alloc (.cells #[.int .i64 (-d), .int .i64 (3 + d)] 3)) (v := .slice (some ⟨x.heap.size, 0, none⟩) 2 2) (by simp [go_sem, r1, r2]) ⟨LeX.of (Le.alloc _ _), x.heap.size, rfl, Box.new _ _ _⟩
    · cases ho
      have r1 : ρ (.tmp 0) = .int .i64 a0 := by rw [← hρ]; kernel_rfl
      exact gives_value (w' := x) (v := .int .i64 a0) (by simp [go_sem, r1]) ⟨LeX.of (Le.refl _), rfl⟩
    · cases ho
      have r1 : ρ (.tmp 43) = vs 6 := by rw [← hρ]; kernel_rfl
      have d6 := hd 6 (by decide) (by kernel_rfl)
      simp only at d6
      rw [d6] at r1
      have rc : ρ (.const (.int .i64 1)) = .int .i64 1 := by rw [← hρ]; kernel_rfl
      exact gives_value (w' := x) (v := .int .i64 1) (by simp [go_sem, r1, rc, hq]) ⟨LeX.of (Le.refl _), rfl⟩
    · cases ho
      have r1 : ρ (.tmp 42) = vs 5 := by rw [← hρ]; kernel_rfl
      have d5 := hd 5 (by decide) (by kernel_rfl)
      simp only at d5
      have r2 : ρ (.tmp 44) = vs 7 := by rw [← hρ]; kernel_rfl
      have d7 := hd 7 (by decide) (by kernel_rfl)
      simp only at d7
      rw [d7] at r2
      obtain ⟨g, e5, c0⟩ := d5
      rw [e5] at r1
      exact gives_value (w' := x) (v := .pointer (some ⟨g, 1, none⟩)) (by simp [go_sem, r1, r2]) ⟨LeX.of (Le.refl _), g, rfl, c0⟩
    · cases ho
      have r1 : ρ (.tmp 45) = vs 8 := by rw [← hρ]; kernel_rfl
      have d8 := hd 8 (by decide) (by kernel_rfl)
      simp only at d8
      obtain ⟨g, e8, hb⟩ := d8
      rw [e8] at r1
      have c0 := hb.cell 1
      simp only [List.getElem?_toArray, List.getElem?_cons_succ, List.getElem?_cons_zero] at c0
      exact gives_value (w' := x) (v := .int .i64 (3 + d)) (by simp [go_sem, r1, c0]) ⟨LeX.of (Le.refl _), rfl⟩
    · cases ho
      have r1 : ρ (.tmp 37) = vs 0 := by rw [← hρ]; kernel_rfl
      have d0 := hd 0 (by decide) (by kernel_rfl)
      simp only at d0
      have r2 : ρ (.tmp 46) = vs 9 := by rw [← hρ]; kernel_rfl
      have d9 := hd 9 (by decide) (by kernel_rfl)
      simp only at d9
      rw [d9] at r2
      obtain ⟨qR, qP, qT, qH, e0, d0⟩ := d0
      rw [e0] at r1 d0
      have rf : ρ (.func 19) = .func (.func 19) #[] #[] := by rw [← hρ]; kernel_rfl
      refine gives_call (f := 19) (args := #[machV begC qR qP qT qH, .int .i64 (3 + d)]) (by simp [go_sem, rf, r1, r2]) ((boardPostAs (beg_post_no (t := (3 + d)) (by omega)) _ x d0.has beg_fit).mono ?_)
      rintro e x2 ⟨uR, uP, uT, uH, rfl, _, l2⟩
      exact ⟨_, rfl, LeX.of l2, uR, uP, uT, uH, rfl⟩
    · cases ho
      have r1 : ρ (.tmp 47) = vs 10 := by rw [← hρ]; kernel_rfl
      have d10 := hd 10 (by decide) (by kernel_rfl)
      simp only at d10
      obtain ⟨qR, qP, qT, qH, e0⟩ := d10
      rw [e0] at r1
      exact gives_value (w' := x) (v := .tuple #[machV Mc.zero.c qR qP qT qH, .int .i64 1600]) (by simp [go_sem, r1]) ⟨LeX.of (Le.refl _), qR, qP, qT, qH, rfl⟩
    · cases ho
      have r1 : ρ (.tmp 36) = vs 11 := by rw [← hρ]; kernel_rfl
      have d11 := hd 11 (by decide) (by kernel_rfl)
      simp only at d11
      obtain ⟨qR, qP, qT, qH, e0⟩ := d11
      rw [e0] at r1
      exact gives_value (w' := x) (v := machV Mc.zero.c qR qP qT qH) (by simp [go_sem, r1]) ⟨LeX.of (Le.refl _), qR, qP, qT, qH, rfl⟩
    · cases ho
      have r1 : ρ (.tmp 36) = vs 11 := by rw [← hρ]; kernel_rfl
      have d11 := hd 11 (by decide) (by kernel_rfl)
      simp only at d11
      obtain ⟨qR, qP, qT, qH, e0⟩ := d11
      rw [e0] at r1
      exact gives_value (w' := x) (v := .int .i64 1600) (by simp [go_sem, r1]) ⟨LeX.of (Le.refl _), rfl⟩
    · cases ho
      exact gives_value (w' := x.alloc (.cells cellsZ9 29)) (v := .pointer (some ⟨x.heap.size, 0, none⟩)) (by simp [go_sem]) ⟨LeX.of (Le.alloc _ _), x.heap.size, rfl, hx0.size, Cfg.zero, slZ, slZ, slZ, slZ, Box.new _ _ _⟩
    · cases ho
      have r2 : ρ (.tmp 48) = vs 12 := by rw [← hρ]; kernel_rfl
      have d12 := hd 12 (by decide) (by kernel_rfl)
      simp only at d12
      have r1 : ρ (.tmp 9) = vs 14 := by rw [← hρ]; kernel_rfl
      have d14 := hd 14 (by decide) (by kernel_rfl)
      simp only at d14
      obtain ⟨mR, mP, mT, mH, e12⟩ := d12
      obtain ⟨g, e14, hg, c, a, b, f, e, hb⟩ := d14
      rw [e12] at r2
      rw [e14] at r1
      have c0 := hb.cell 0
      have c1 := hb.cell 1
      have c2 := hb.cell 2
      have c3 := hb.cell 3
      have c4 := hb.cell 4
      have c5 := hb.cell 5
      have c6 := hb.cell 6
      have c7 := hb.cell 7
      have c8 := hb.cell 8
      simp only [List.getElem?_toArray, List.getElem?_cons_succ, List.getElem?_cons_zero] at c0 c1 c2 c3 c4 c5 c6 c7 c8
      have k0 := hb.frozen 0
      have k1 := hb.frozen 1
      have k2 := hb.frozen 2
      have k3 := hb.frozen 3
      have k4 := hb.frozen 4
      have k5 := hb.frozen 5
      have k6 := hb.frozen 6
      have k7 := hb.frozen 7
      have k8 := hb.frozen 8
      refine Gr3.gives_skip (w' := put9 x g Mc.zero.c mR mP mT mH) ?_ ⟨LeX.store hg hb _ _ _ _ _, trivial⟩
      simp [go_sem, r1, r2, c0, c1, c2, c3, c4, c5, c6, c7, c8, k0, k1, k2, k3, k4, k5, k6, k7, k8, put9]
  · intro vs1 X1 hx hd
    have hx0 : Le V1 X1 := hx.le (Le.drew V1) (Nat.le_refl _)
    have e13 := hd 13 (by decide)
    simp only at e13
    clear hd
    generalize hf0 : putH _ _ _ vs1 = fr0
    refine wpSeq_cons rfl ?_
    refine wp_value_at (v0 := .int .i64 1600) (w0 := X1) ?_ ?_
    · generalize hρ : fr0.eval = ρ
      have r1 : ρ (.tmp 49) = vs1 13 := by rw [← hρ, ← hf0]; kernel_rfl
      rw [e13] at r1
      simp [go_sem, r1]
    · subst hf0
      simp only [wpSeq, putH, List.getElem?_cons_succ, List.getElem?_cons_zero, Option.bind_some, Act.put, List.setIfInBounds_toArray, List.set_cons_zero, List.set_cons_succ]
      have hlp : Le V1 X1 := hx0
      clear e13 hx hx0
      replace hl := hl.trans hlp
      replace hbM := hbM.le hlp
      replace oM := oM.le hlp
      clear hlp
      obtain ⟨⟨y0, y1, y2, y3, y4⟩, y5, y6, y7, y8⟩ := (hbM).mach
      go_wp2_with fail
      refine (boardWaitAs bgL_wait _ _ oM bgL_fit).mono ?_
      rintro e w3 ⟨ba, bc, rfl, _, l3⟩
      clear y0 y1 y2 y3 y4 y5 y6 y7 y8
      replace hl := hl.trans l3
      clear l3 hbM oM
      go_upto_region 9 with fail
      refine wp_region_any (by kernel_rfl) ?_
      refine Gr3.wpAny_grow [] [0, 1, 2, 3, 4, 5, 6, 7, 8, 9, 10, 11, 12, 13, 14] [15] (by decide) (by kernel_rfl) Le (Le.refl _) (fun _ _ _ => Le.trans)
        (fun vs i x => match i with
          | 0 => BegAt x (vs 0)
          | 1 => vs 1 = .int .i64 d
          | 2 => vs 2 = .int .i64 (-d)
          | 3 => vs 3 = .int .i64 d
          | 4 => vs 4 = .int .i64 (1 + d)
          | 5 => TwoAt x (vs 5) (-d) (1 + d)
          | 6 => vs 6 = .int .i64 a0
          | 7 => vs 7 = .int .i64 1
          | 8 => PtAt x (vs 8) 1 (-d) (1 + d)
          | 9 => vs 9 = .int .i64 (1 + d)
          | 10 => ErrWt (vs 10)
          | 11 => ErrWt (vs 11)
          | 12 => True
          | 13 => vs 13 = .int .i64 1600
          | _ => True) ?_ ?_ (by decide) ?_ ?_
      · intro vs i x y hi _ h hxy
        simp only [List.mem_cons, List.not_mem_nil, or_false] at hi
        rcases hi with rfl | rfl | rfl | rfl | rfl | rfl | rfl | rfl | rfl | rfl | rfl | rfl | rfl | rfl | rfl
        · exact h.le hxy
        · exact h
        · exact h
        · exact h
        · exact h
        · exact h.le hxy
        · exact h
        · exact h
        · exact h.le hxy
        · exact h
        · exact h
        · exact h
        · exact h
        · exact h
        · exact h
      · intro vs vs' i o x hi _ hk h
        have e := hk i (.inl rfl)
        simp only [List.mem_cons, List.not_mem_nil, or_false] at hi
        rcases hi with rfl | rfl | rfl | rfl | rfl | rfl | rfl | rfl | rfl | rfl | rfl | rfl | rfl | rfl | rfl
        all_goals
          simp only at h ⊢
          try (rw [← e]; exact h)
      · intro i o hi ho vs x hx hd
        have hx0 := (Le.drew w3).trans hx
        simp only [List.mem_cons, List.not_mem_nil, or_false] at hi
        generalize hρ : (putH _ _ _ vs).eval = ρ
        rcases hi with rfl | rfl | rfl | rfl | rfl | rfl | rfl | rfl | rfl | rfl | rfl | rfl | rfl | rfl | rfl
        · cases ho
          have rf : ρ (.func 26) = .func (.func 26) #[] #[] := by rw [← hρ]; kernel_rfl
          refine gives_call (f := 26) (args := #[]) (by simp [go_sem, rf]) ((begun16 x).mono ?_)
          rintro e x2 ⟨uR, uP, uT, uH, rfl, o, l2⟩
          exact ⟨_, rfl, l2, uR, uP, uT, uH, rfl, o.base (Nat.zero_le _)⟩
        · cases ho
          have r1 : ρ (.tmp 5) = .int .i64 d := by rw [← hρ]; kernel_rfl
          exact gives_value (w' := x) (v := .int .i64 d) (by simp [go_sem, r1]) ⟨Le.refl _, rfl⟩
        · cases ho
          have r1 : ρ (.tmp 57) = vs 1 := by rw [← hρ]; kernel_rfl
          have d1 := hd 1 (by decide) (by kernel_rfl)
          simp only at d1
          rw [d1] at r1
          exact gives_value (w' := x) (v := .int .i64 (-d)) (by simp [go_sem, r1, neg_run d (by omega)]) ⟨Le.refl _, rfl⟩
        · cases ho
          have r1 : ρ (.tmp 5) = .int .i64 d := by rw [← hρ]; kernel_rfl
          exact gives_value (w' := x) (v := .int .i64 d) (by simp [go_sem, r1]) ⟨Le.refl _, rfl⟩
        · cases ho
          have r1 : ρ (.tmp 59) = vs 3 := by rw [← hρ]; kernel_rfl
          have d3 := hd 3 (by decide) (by kernel_rfl)
          simp only at d3
          rw [d3] at r1
          have rc : ρ (.const (.int .i64 1)) = .int .i64 1 := by rw [← hρ]; kernel_rfl
          exact gives_value (w' := x) (v := .int .i64 (1 + d)) (by simp [go_sem, r1, rc, add_run 1 d (by omega) (by omega)]) ⟨Le.refl _, rfl⟩
        · cases ho
          have r1 : ρ (.tmp 58) = vs 2 := by rw [← hρ]; kernel_rfl
          have d2 := hd 2 (by decide) (by kernel_rfl)
          simp only at d2
          rw [d2] at r1
          have r2 : ρ (.tmp 60) = vs 4 := by rw [← hρ]; kernel_rfl
          have d4 := hd 4 (by decide) (by kernel_rfl)
          simp only at d4
          rw [d4] at r2
          exact gives_value (w' := x.alloc (.cells #[.int .i64 (-d), .int .i64 (1 + d)] 3)) (v := .slice (some ⟨x.heap.size, 0, none⟩) 2 2) (by simp [go_sem, r1, r2]) ⟨Le.alloc _ _, x.heap.size, rfl, Box.new _ _ _⟩
        · cases ho
          have r1 : ρ (.tmp 0) = .int .i64 a0 := by rw [← hρ]; kernel_rfl
          exact gives_value (w' := x) (v := .int .i64 a0) (by simp [go_sem, r1]) ⟨Le.refl _, rfl⟩
        · cases ho
          have r1 : ρ (.tmp 62) = vs 6 := by rw [← hρ]; kernel_rfl
          have d6 := hd 6 (by decide) (by kernel_rfl)
          simp only at d6
          rw [d6] at r1
          have rc : ρ (.const (.int .i64 1)) = .int .i64 1 := by rw [← hρ]; kernel_rfl
          exact gives_value (w' := x) (v := .int .i64 1) (by simp [go_sem, r1, rc, hq]) ⟨Le.refl _, rfl⟩
        · cases ho
          have r1 : ρ (.tmp 61) = vs 5 := by rw [← hρ]; kernel_rfl
          have d5 := hd 5 (by decide) (by kernel_rfl)
          simp only at d5
          have r2 : ρ (.tmp 63) = vs 7 := by rw [← hρ]; kernel_rfl
          have d7 := hd 7 (by decide) (by kernel_rfl)
          simp only at d7
          rw [d7] at r2
          obtain ⟨g, e5, c0⟩ := d5
          rw [e5] at r1
          exact gives_value (w' := x) (v := .pointer (some ⟨g, 1, none⟩)) (by simp [go_sem, r1, r2]) ⟨Le.refl _, g, rfl, c0⟩
        · cases ho
          have r1 : ρ (.tmp 64) = vs 8 := by rw [← hρ]; kernel_rfl
          have d8 := hd 8 (by decide) (by kernel_rfl)
          simp only at d8
          obtain ⟨g, e8, hb⟩ := d8
          rw [e8] at r1
          have c0 := hb.cell 1
          simp only [List.getElem?_toArray, List.getElem?_cons_succ, List.getElem?_cons_zero] at c0
          exact gives_value (w' := x) (v := .int .i64 (1 + d)) (by simp [go_sem, r1, c0]) ⟨Le.refl _, rfl⟩
        · cases ho
          have r1 : ρ (.tmp 56) = vs 0 := by rw [← hρ]; kernel_rfl
          have d0 := hd 0 (by decide) (by kernel_rfl)
          simp only at d0
          have r2 : ρ (.tmp 65) = vs 9 := by rw [← hρ]; kernel_rfl
          have d9 := hd 9 (by decide) (by kernel_rfl)
          simp only at d9
          rw [d9] at r2
          obtain ⟨qR, qP, qT, qH, e0, d0⟩ := d0
          rw [e0] at r1 d0
          have rf : ρ (.func 21) = .func (.func 21) #[] #[] := by rw [← hρ]; kernel_rfl
          have rc : ρ (.const (.int .i64 0)) = .int .i64 0 := by rw [← hρ]; kernel_rfl
          refine gives_call (f := 21) (args := #[machV begC qR qP qT qH, .int .i64 (1 + d), .int .i64 0]) (by simp [go_sem, rf, r1, r2, rc]) ((boardWaitAs (beg_wait_no (r := (1 + d)) (g := 0) (by omega)) _ x d0.has beg_fit).mono ?_)
          rintro e x2 ⟨ua, uc, rfl, _, l2⟩
          exact ⟨_, rfl, l2, _, rfl⟩
        · cases ho
          have r1 : ρ (.tmp 66) = vs 10 := by rw [← hρ]; kernel_rfl
          have d10 := hd 10 (by decide) (by kernel_rfl)
          simp only at d10
          obtain ⟨u, e0⟩ := d10
          rw [e0] at r1
          exact gives_value (w' := x) (v := .tuple #[u, .int .i64 1600]) (by simp [go_sem, r1]) ⟨Le.refl _, u, rfl⟩
        · cases ho
          have r1 : ρ (.tmp 55) = vs 11 := by rw [← hρ]; kernel_rfl
          have d11 := hd 11 (by decide) (by kernel_rfl)
          simp only at d11
          obtain ⟨u, e0⟩ := d11
          rw [e0] at r1
          exact gives_value (w' := x) (v := u) (by simp [go_sem, r1]) ⟨Le.refl _, trivial⟩
        · cases ho
          have r1 : ρ (.tmp 55) = vs 11 := by rw [← hρ]; kernel_rfl
          have d11 := hd 11 (by decide) (by kernel_rfl)
          simp only at d11
          obtain ⟨u, e0⟩ := d11
          rw [e0] at r1
          exact gives_value (w' := x) (v := .int .i64 1600) (by simp [go_sem, r1]) ⟨Le.refl _, rfl⟩
        · cases ho
          have r1 : ρ (.tmp 67) = vs 12 := by rw [← hρ]; kernel_rfl
          exact gives_value (w' := x) (v := vs 12) (by simp [go_sem, r1]) ⟨Le.refl _, trivial⟩
      · intro vs2 X2 hx hd
        have hx0 := (Le.drew w3).trans hx
        have e13 := hd 13 (by decide)
        simp only at e13
        clear hd
        generalize hf0 : putH _ _ _ vs2 = fr0
        refine wpSeq_cons rfl ?_
        refine wp_value_at (v0 := .int .i64 1600) (w0 := X2) ?_ ?_
        · generalize hρ : fr0.eval = ρ
          have r1 : ρ (.tmp 68) = vs2 13 := by rw [← hρ, ← hf0]; kernel_rfl
          rw [e13] at r1
          simp [go_sem, r1]
        · subst hf0
          simp only [wpSeq, putH, List.getElem?_cons_succ, List.getElem?_cons_zero, Option.bind_some, Act.put, List.setIfInBounds_toArray, List.set_cons_zero, List.set_cons_succ]
          have hlp : Le w3 X2 := hx0
          clear e13 hx hx0
          replace hl := hl.trans hlp
          clear hlp
          go_upto_region 10 with fail
          refine wp_region_any (by kernel_rfl) ?_
          refine Gr3.wpAny_grow [] [0, 1, 2, 3, 4, 5, 6, 7, 8, 9, 10, 11, 12, 13, 14] [15] (by decide) (by kernel_rfl) Le (Le.refl _) (fun _ _ _ => Le.trans)
            (fun vs i x => match i with
              | 0 => BegAt x (vs 0)
              | 1 => vs 1 = .int .i64 d
              | 2 => vs 2 = .int .i64 (-d)
              | 3 => vs 3 = .int .i64 d
              | 4 => vs 4 = .int .i64 (1 + d)
              | 5 => TwoAt x (vs 5) (-d) (1 + d)
              | 6 => vs 6 = .int .i64 a0
              | 7 => vs 7 = .int .i64 1
              | 8 => PtAt x (vs 8) 1 (-d) (1 + d)
              | 9 => vs 9 = .int .i64 (1 + d)
              | 10 => ErrWt (vs 10)
              | 11 => ErrWt (vs 11)
              | 12 => True
              | 13 => vs 13 = .int .i64 1600
              | _ => True) ?_ ?_ (by decide) ?_ ?_
          · intro vs i x y hi _ h hxy
            simp only [List.mem_cons, List.not_mem_nil, or_false] at hi
            rcases hi with rfl | rfl | rfl | rfl | rfl | rfl | rfl | rfl | rfl | rfl | rfl | rfl | rfl | rfl | rfl
            · exact h.le hxy
            · exact h
            · exact h
            · exact h
            · exact h
            · exact h.le hxy
            · exact h
            · exact h
            · exact h.le hxy
            · exact h
            · exact h
            · exact h
            · exact h
            · exact h
            · exact h
          · intro vs vs' i o x hi _ hk h
            have e := hk i (.inl rfl)
            simp only [List.mem_cons, List.not_mem_nil, or_false] at hi
            rcases hi with rfl | rfl | rfl | rfl | rfl | rfl | rfl | rfl | rfl | rfl | rfl | rfl | rfl | rfl | rfl
            all_goals
              simp only at h ⊢
              try (rw [← e]; exact h)
          · intro i o hi ho vs x hx hd
            have hx0 := (Le.drew X2).trans hx
            simp only [List.mem_cons, List.not_mem_nil, or_false] at hi
            generalize hρ : (putH _ _ _ vs).eval = ρ
            rcases hi with rfl | rfl | rfl | rfl | rfl | rfl | rfl | rfl | rfl | rfl | rfl | rfl | rfl | rfl | rfl
            · cases ho
              have rf : ρ (.func 26) = .func (.func 26) #[] #[] := by rw [← hρ]; kernel_rfl
              refine gives_call (f := 26) (args := #[]) (by simp [go_sem, rf]) ((begun16 x).mono ?_)
              rintro e x2 ⟨uR, uP, uT, uH, rfl, o, l2⟩
              exact ⟨_, rfl, l2, uR, uP, uT, uH, rfl, o.base (Nat.zero_le _)⟩
            · cases ho
              have r1 : ρ (.tmp 5) = .int .i64 d := by rw [← hρ]; kernel_rfl
              exact gives_value (w' := x) (v := .int .i64 d) (by simp [go_sem, r1]) ⟨Le.refl _, rfl⟩
            · cases ho
              have r1 : ρ (.tmp 71) = vs 1 := by rw [← hρ]; kernel_rfl
              have d1 := hd 1 (by decide) (by kernel_rfl)
              simp only at d1
              rw [d1] at r1
              exact gives_value (w' := x) (v := .int .i64 (-d)) (by simp [go_sem, r1, neg_run d (by omega)]) ⟨Le.refl _, rfl⟩
            · cases ho
              have r1 : ρ (.tmp 5) = .int .i64 d := by rw [← hρ]; kernel_rfl
              exact gives_value (w' := x) (v := .int .i64 d) (by simp [go_sem, r1]) ⟨Le.refl _, rfl⟩
            · cases ho
              have r1 : ρ (.tmp 73) = vs 3 := by rw [← hρ]; kernel_rfl
              have d3 := hd 3 (by decide) (by kernel_rfl)
              simp only at d3
              rw [d3] at r1
              have rc : ρ (.const (.int .i64 1)) = .int .i64 1 := by rw [← hρ]; kernel_rfl
              exact gives_value (w' := x) (v := .int .i64 (1 + d)) (by simp [go_sem, r1, rc, add_run 1 d (by omega) (by omega)]) ⟨Le.refl _, rfl⟩
            · cases ho
              have r1 : ρ (.tmp 72) = vs 2 := by rw [← hρ]; kernel_rfl
              have d2 := hd 2 (by decide) (by kernel_rfl)
              simp only at d2
              rw [d2] at r1
              have r2 : ρ (.tmp 74) = vs 4 := by rw [← hρ]; kernel_rfl
              have d4 := hd 4 (by decide) (by kernel_rfl)
              simp only at d4
              rw [d4] at r2
              exact gives_value (w' := x.alloc (.cells #[.int .i64 (-d), .int .i64 (1 + d)] 3)) (v := .slice (some ⟨x.heap.size, 0, none⟩) 2 2) (by simp [go_sem, r1, r2]) ⟨Le.alloc _ _, x.heap.size, rfl, Box.new _ _ _⟩
            · cases ho
              have r1 : ρ (.tmp 0) = .int .i64 a0 := by rw [← hρ]; kernel_rfl
              exact gives_value (w' := x) (v := .int .i64 a0) (by simp [go_sem, r1]) ⟨Le.refl _, rfl⟩
            · cases ho
              have r1 : ρ (.tmp 76) = vs 6 := by rw [← hρ]; kernel_rfl
              have d6 := hd 6 (by decide) (by kernel_rfl)
              simp only at d6
              rw [d6] at r1
              have rc : ρ (.const (.int .i64 1)) = .int .i64 1 := by rw [← hρ]; kernel_rfl
              exact gives_value (w' := x) (v := .int .i64 1) (by simp [go_sem, r1, rc, hq]) ⟨Le.refl _, rfl⟩
            · cases ho
              have r1 : ρ (.tmp 75) = vs 5 := by rw [← hρ]; kernel_rfl
              have d5 := hd 5 (by decide) (by kernel_rfl)
              simp only at d5
              have r2 : ρ (.tmp 77) = vs 7 := by rw [← hρ]; kernel_rfl
              have d7 := hd 7 (by decide) (by kernel_rfl)
              simp only at d7
              rw [d7] at r2
              obtain ⟨g, e5, c0⟩ := d5
              rw [e5] at r1
              exact gives_value (w' := x) (v := .pointer (some ⟨g, 1, none⟩)) (by simp [go_sem, r1, r2]) ⟨Le.refl _, g, rfl, c0⟩
            · cases ho
              have r1 : ρ (.tmp 78) = vs 8 := by rw [← hρ]; kernel_rfl
              have d8 := hd 8 (by decide) (by kernel_rfl)
              simp only at d8
              obtain ⟨g, e8, hb⟩ := d8
              rw [e8] at r1
              have c0 := hb.cell 1
              simp only [List.getElem?_toArray, List.getElem?_cons_succ, List.getElem?_cons_zero] at c0
              exact gives_value (w' := x) (v := .int .i64 (1 + d)) (by simp [go_sem, r1, c0]) ⟨Le.refl _, rfl⟩
            · cases ho
              have r1 : ρ (.tmp 70) = vs 0 := by rw [← hρ]; kernel_rfl
              have d0 := hd 0 (by decide) (by kernel_rfl)
              simp only at d0
              have r2 : ρ (.tmp 79) = vs 9 := by rw [← hρ]; kernel_rfl
              have d9 := hd 9 (by decide) (by kernel_rfl)
              simp only at d9
              rw [d9] at r2
              obtain ⟨qR, qP, qT, qH, e0, d0⟩ := d0
              rw [e0] at r1 d0
              have rf : ρ (.func 21) = .func (.func 21) #[] #[] := by rw [← hρ]; kernel_rfl
              have rc : ρ (.const (.int .i64 0)) = .int .i64 0 := by rw [← hρ]; kernel_rfl
              refine gives_call (f := 21) (args := #[machV begC qR qP qT qH, .int .i64 0, .int .i64 (1 + d)]) (by simp [go_sem, rf, r1, r2, rc]) ((boardWaitAs (beg_wait_no (r := 0) (g := (1 + d)) (by omega)) _ x d0.has beg_fit).mono ?_)
              rintro e x2 ⟨ua, uc, rfl, _, l2⟩
              exact ⟨_, rfl, l2, _, rfl⟩
            · cases ho
              have r1 : ρ (.tmp 80) = vs 10 := by rw [← hρ]; kernel_rfl
              have d10 := hd 10 (by decide) (by kernel_rfl)
              simp only at d10
              obtain ⟨u, e0⟩ := d10
              rw [e0] at r1
              exact gives_value (w' := x) (v := .tuple #[u, .int .i64 1600]) (by simp [go_sem, r1]) ⟨Le.refl _, u, rfl⟩
            · cases ho
              have r1 : ρ (.tmp 69) = vs 11 := by rw [← hρ]; kernel_rfl
              have d11 := hd 11 (by decide) (by kernel_rfl)
              simp only at d11
              obtain ⟨u, e0⟩ := d11
              rw [e0] at r1
              exact gives_value (w' := x) (v := u) (by simp [go_sem, r1]) ⟨Le.refl _, trivial⟩
            · cases ho
              have r1 : ρ (.tmp 69) = vs 11 := by rw [← hρ]; kernel_rfl
              have d11 := hd 11 (by decide) (by kernel_rfl)
              simp only at d11
              obtain ⟨u, e0⟩ := d11
              rw [e0] at r1
              exact gives_value (w' := x) (v := .int .i64 1600) (by simp [go_sem, r1]) ⟨Le.refl _, rfl⟩
            · cases ho
              have r1 : ρ (.tmp 81) = vs 12 := by rw [← hρ]; kernel_rfl
              exact gives_value (w' := x) (v := vs 12) (by simp [go_sem, r1]) ⟨Le.refl _, trivial⟩
          · intro vs3 X3 hx hd
            have hx0 := (Le.drew X2).trans hx
            have e13 := hd 13 (by decide)
            simp only at e13
            clear hd
            generalize hf0 : putH _ _ _ vs3 = fr0
            refine wpSeq_cons rfl ?_
            refine wp_value_at (v0 := .int .i64 1600) (w0 := X3) ?_ ?_
            · generalize hρ : fr0.eval = ρ
              have r1 : ρ (.tmp 82) = vs3 13 := by rw [← hρ, ← hf0]; kernel_rfl
              rw [e13] at r1
              simp [go_sem, r1]
            · subst hf0
              simp only [wpSeq, putH, List.getElem?_cons_succ, List.getElem?_cons_zero, Option.bind_some, Act.put, List.setIfInBounds_toArray, List.set_cons_zero, List.set_cons_succ]
              have hlp : Le X2 X3 := hx0
              clear e13 hx hx0
              replace hl := hl.trans hlp
              clear hlp
              go_wp2_with fail
              refine (begun16 _).mono ?_
              rintro e w5 ⟨pR, pP, pT, pH, rfl, o5, l5⟩
              go_wp2_with fail
              refine (rmCallOk _ begM 0 2 0 0 _ o5.has beg_fit beg_may (by decide) (by decide) (by decide +kernel) (by decide +kernel)).mono ?_
              rintro e w6 ⟨v6, rfl, o6, l6⟩
              have o6' : OwnA w6 w5.heap.size v6 bgK := o6
              obtain ⟨nR, nP, nT, nH, rfl⟩ := o6'.open
              clear o5 o6
              replace hl := (hl.trans l5).trans l6
              clear l5 l6
              have hbN := Box.new w6 (cells9 bgK.c nR nP nT nH) 29
              have a1 := Le.alloc w6 (.cells (cells9 bgK.c nR nP nT nH) 29)
              go_upto_region 12 with fail
              generalize hW1 : w6.alloc (.cells (cells9 bgK.c nR nP nT nH) 29) = V6 at hbN a1 ⊢
              clear hW1
              have hggN : w6.heap.size ≤ w6.heap.size := Nat.le_refl _
              generalize hgg : w6.heap.size = gN at hbN hggN ⊢
              have hsgN : w6.heap.size ≤ gN := by omega
              clear hgg hggN
              replace hl := hl.trans a1
              have oN := (o6'.le a1).has
              clear a1 o6'
              obtain ⟨⟨y0, y1, y2, y3, y4⟩, y5, y6, y7, y8⟩ := (hbN).mach
              go_wp2_with fail
              refine (boardPostAs bgK_post _ _ oN bgK_fit).mono ?_
              rintro e w7 ⟨sR, sP, sT, sH, rfl, oS, l7⟩
              clear y0 y1 y2 y3 y4 y5 y6 y7 y8
              clear oN hbN
              replace hl := hl.trans l7
              clear l7
              have hbS := Box.new w7 (cells9 bgP.c sR sP sT sH) 29
              have a1 := Le.alloc w7 (.cells (cells9 bgP.c sR sP sT sH) 29)
              go_upto_region 13 with fail
              generalize hW1 : w7.alloc (.cells (cells9 bgP.c sR sP sT sH) 29) = V7 at hbS a1 ⊢
              clear hW1
              have hggS : w7.heap.size ≤ w7.heap.size := Nat.le_refl _
              generalize hgg : w7.heap.size = gS at hbS hggS ⊢
              have hsgS : w7.heap.size ≤ gS := by omega
              clear hgg hggS
              replace hl := hl.trans a1
              have hS := (oS.le a1).has
              clear a1 oS
              obtain ⟨⟨y0, y1, y2, y3, y4⟩, y5, y6, y7, y8⟩ := (hbS).mach
              go_wp2_with fail
              refine (boardWaitAs bgP_wait _ _ hS bgP_fit).mono ?_
              rintro e w8 ⟨ca, cc, rfl, _, l8⟩
              clear y0 y1 y2 y3 y4 y5 y6 y7 y8
              clear hS hbS
              replace hl := hl.trans l8
              clear l8
              go_wp2_with (go_at_call 15; refine (lawNum _ _).mono ?_; rintro e _ ⟨rfl, rfl⟩)
              go_ret
              exact ⟨rfl, hl⟩

theorem lawBoardForms (w : World) (a0 a1 : Int) : Calls Tryz.prog 7 #[.int .i64 a0, .int .i64 a1] w fun e w' => e = .returned (.bool true) ∧ Le w w' := by
  have h := and1 a0
  rcases (by omega : a0 % 2 = 0 ∨ a0 % 2 = 1) with e | e
  · exact boForms0 w a0 a1 (by rw [h, e])
  · exact boForms1 w a0 a1 (by rw [h, e])

end Go.Proofs.YtkddgpdlpjjpbaaGreat
