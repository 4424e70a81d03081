/-
  PARTS LAID TOGETHER, each with its own opening: Bg15, LkB, LkW, OwA, LkX, Bits, LkF.
-/
import Derived.Test.YtkddgpdlpjjpbaaGreatCom5
import Derived.Test.YtkddgpdlpjjpbaaGreatCom4
import Derived.Test.YtkddgpdlpjjpbaaGreatCom3
import Derived.Test.YtkddgpdlpjjpbaaGreatCom1
import Derived.Laws.BitsLemmas
/-
  THE WALKS over choruslaw15's begun and called: a machine that begins, and one that thread 0 has called. No condition.
-/
namespace Go.Proofs.YtkddgpdlpjjpbaaGreat
open Go.RowKit

set_option maxRecDepth 8000 in
set_option maxHeartbeats 4000000 in
theorem begun15 (w : World) : Calls Tryz.prog 18 #[] w fun e w' => ∃ qR qP qT qH, e = .returned (machV begC qR qP qT qH) ∧ OwnM w' w.heap.size (machV begC qR qP qT qH) begM ∧ Le w w' := by
  have hr := Box.new w cellsZ9 29
  have hl := Le.alloc w (.cells cellsZ9 29)
  go_enter Tryz.func18, Tryz.ntmps18
  go_upto_region 1 with fail
  generalize hW : w.alloc (.cells cellsZ9 29) = W at hl hr ⊢
  clear hW
  go_wp2_with fail
  refine (begNew _).mono ?_
  rintro e w1 ⟨qR, qP, qT, qH, rfl, o, l1⟩
  replace hr := hr.le l1
  have ho := (o.base hl.size)
  replace hl := hl.trans l1
  clear o l1
  have hb := Box.new w1 (cells9 begC qR qP qT qH) 29
  have a1 := Le.alloc w1 (.cells (cells9 begC qR qP qT qH) 29)
  go_upto_region 2 with fail
  generalize hW1 : w1.alloc (.cells (cells9 begC qR qP qT qH) 29) = W1 at hb a1 ⊢
  generalize w1.heap.size = g1 at hb ⊢
  clear hW1
  replace hr := hr.le a1
  replace ho := ho.le a1
  replace hl := hl.trans a1
  clear a1
  obtain ⟨⟨z0, z1, z2, z3, z4⟩, z5, z6, z7, z8⟩ := (hb).mach
  have r0 := (hr).cell 0
  have r1 := (hr).cell 1
  have r2 := (hr).cell 2
  have r3 := (hr).cell 3
  have r4 := (hr).cell 4
  have r5 := (hr).cell 5
  have r6 := (hr).cell 6
  have r7 := (hr).cell 7
  have r8 := (hr).cell 8
  simp only [List.getElem?_toArray, List.getElem?_cons_succ, List.getElem?_cons_zero] at r0 r1 r2 r3 r4 r5 r6 r7 r8
  have k0 := (hr).frozen 0
  have k1 := (hr).frozen 1
  have k2 := (hr).frozen 2
  have k3 := (hr).frozen 3
  have k4 := (hr).frozen 4
  have k5 := (hr).frozen 5
  have k6 := (hr).frozen 6
  have k7 := (hr).frozen 7
  have k8 := (hr).frozen 8
  go_wp2_with fail
  refine bodyPost_ret (v := machV begC qR qP qT qH) (by simp [results, Tryz.results18, go_sem, r0, r1, r2, r3, r4, r5, r6, r7, r8]) rfl ⟨qR, qP, qT, qH, rfl, ?_, hl.put9 (g := w.heap.size) (Nat.le_refl _) begC qR qP qT qH⟩
  obtain ⟨L, hv, hm, ho⟩ := ho
  exact ⟨L, hv, hm, ho.put9 hr begC qR qP qT qH⟩

set_option maxRecDepth 8000 in
set_option maxHeartbeats 4000000 in
theorem called15 (w : World) : Calls Tryz.prog 45 #[] w fun e w' => ∃ qR qP qT qH, e = .returned (machV begC qR qP qT qH) ∧ OwnA w' w.heap.size (machV begC qR qP qT qH) cldM ∧ Le w w' := by
  have hr := Box.new w cellsZ9 29
  have hl := Le.alloc w (.cells cellsZ9 29)
  go_enter Tryz.func45, Tryz.ntmps45
  go_upto_region 1 with fail
  generalize hW : w.alloc (.cells cellsZ9 29) = W at hl hr ⊢
  clear hW
  go_wp2_with fail
  refine (begun15 _).mono ?_
  rintro e w0 ⟨pR, pP, pT, pH, rfl, o0, l0⟩
  replace hr := hr.le l0
  replace hl := hl.trans l0
  clear l0
  go_wp2_with fail
  refine (begCall _ _ o0.has).mono ?_
  rintro e w1 ⟨qR, qP, qT, qH, rfl, o, l1⟩
  clear o0
  replace hr := hr.le l1
  have ho := (o.base hl.size)
  replace hl := hl.trans l1
  clear o l1
  have hb := Box.new w1 (cells9 begC qR qP qT qH) 29
  have a1 := Le.alloc w1 (.cells (cells9 begC qR qP qT qH) 29)
  go_upto_region 2 with fail
  generalize hW1 : w1.alloc (.cells (cells9 begC qR qP qT qH) 29) = W1 at hb a1 ⊢
  generalize w1.heap.size = g1 at hb ⊢
  clear hW1
  replace hr := hr.le a1
  replace ho := ho.le a1
  replace hl := hl.trans a1
  clear a1
  obtain ⟨⟨z0, z1, z2, z3, z4⟩, z5, z6, z7, z8⟩ := (hb).mach
  have r0 := (hr).cell 0
  have r1 := (hr).cell 1
  have r2 := (hr).cell 2
  have r3 := (hr).cell 3
  have r4 := (hr).cell 4
  have r5 := (hr).cell 5
  have r6 := (hr).cell 6
  have r7 := (hr).cell 7
  have r8 := (hr).cell 8
  simp only [List.getElem?_toArray, List.getElem?_cons_succ, List.getElem?_cons_zero] at r0 r1 r2 r3 r4 r5 r6 r7 r8
  have k0 := (hr).frozen 0
  have k1 := (hr).frozen 1
  have k2 := (hr).frozen 2
  have k3 := (hr).frozen 3
  have k4 := (hr).frozen 4
  have k5 := (hr).frozen 5
  have k6 := (hr).frozen 6
  have k7 := (hr).frozen 7
  have k8 := (hr).frozen 8
  go_wp2_with fail
  refine bodyPost_ret (v := machV begC qR qP qT qH) (by simp [results, Tryz.results45, go_sem, r0, r1, r2, r3, r4, r5, r6, r7, r8]) rfl ⟨qR, qP, qT, qH, rfl, ?_, hl.put9 (g := w.heap.size) (Nat.le_refl _) begC qR qP qT qH⟩
  obtain ⟨L, hv, hm, ho, ha⟩ := ho
  exact ⟨L, hv, hm, ho.put9 hr begC qR qP qT qH, ha⟩

/-- .. as its history tells. -/
theorem calledL15 (w : World) : Calls Tryz.prog 45 #[] w fun e w' => ∃ qR qP qT a c, e = .returned (.agg #[.int .i64 2, .int .i64 2, .int .i64 2, .int .i64 4, .int .i64 8, slV qR, slV qP, slV qT, .slice a 1 c]) ∧ Le w w' := by
  refine (called15 w).mono ?_
  rintro e w' ⟨qR, qP, qT, qH, rfl, o, l⟩
  have hh : qH.2.1 = 1 := o.has.lens.2.2.2
  obtain ⟨a, n, c⟩ := qH
  simp only at hh
  subst hh
  exact ⟨qR, qP, qT, a, c, rfl, l⟩

end Go.Proofs.YtkddgpdlpjjpbaaGreat

/-
  THE WALKS over package lock's Try and Free: what each answers, for every machine and place. Condition: that the machine's rows can be copied.
-/
namespace Go.Proofs.YtkddgpdlpjjpbaaGreat
open Go.RowKit

theorem machCopyA {N M : Mc} (h : N = M) (v : Value) (w : World) (hx : HasM w v M) (hf : FitM M) : Calls Tryz.prog 34 #[v] w fun e w' => ∃ v', e = .returned v' ∧ OwnA w' w.heap.size v' N ∧ Le w w' := by
  subst h
  refine (machCopy v N w hx hf).mono ?_
  rintro e w' ⟨L, rfl, hM, o, a, l⟩
  exact ⟨_, rfl, ⟨L, rfl, hM, o, a⟩, l⟩

set_option maxRecDepth 8000 in
set_option maxHeartbeats 8000000 in
theorem lockTry (v : Value) (M : Mc) (r g t : Int) (w : World) (hx : HasM w v M) (hf : FitM M) : Calls Tryz.prog 10 #[v, .int .i64 r, .int .i64 g, .int .i64 t] w fun e w' => ∃ v', e = .returned (.tuple #[v', .bool (tryM M r g t).2.1, .int .i64 (tryM M r g t).2.2]) ∧ OwnA w' w.heap.size v' (tryM M r g t).1 ∧ Le w w' := by
  have m1 := fun w' (l : Le w w') => machHasLog v M r g w' (hx.le l) hf
  have m2 := fun w' (l : Le w w') => machCopyA (rfl : M = M) v w' (hx.le l) hf
  have m3 := fun (r g : Nat) (x : Int) (hp : r < M.ps.length) (hg : g < (M.rp r).ls.length) w' (l : Le w w') => lockWith v M r g x w' (hx.le l) hf hp hg
  cases h1 : atRG M r g
  · have hP : tryM M r g t = (Mc.zero, false, 1500) := by unfold tryM; rw [atRG_there, h1]; rfl
    rw [hP]
    simp only [h1] at m1
    clear h1
    obtain ⟨qR, qP, qT, qH, rfl, _, _, _, _⟩ := hx
    have hr := Box.new (w.alloc (.cells (cells9 M.c qR qP qT qH) 29)) cellsZ9 29
    have hb := (Box.new w (cells9 M.c qR qP qT qH) 29).le (Le.alloc _ (.cells cellsZ9 29))
    have hl := (Le.alloc w (.cells (cells9 M.c qR qP qT qH) 29)).trans (Le.alloc _ (.cells cellsZ9 29))
    rw [World.size_alloc] at hr
    go_enter Tryz.func10, Tryz.ntmps10
    go_upto_region 1 with fail
    generalize hW : (w.alloc (.cells (cells9 M.c qR qP qT qH) 29)).alloc (.cells cellsZ9 29) = W at hl hb hr ⊢
    clear hW
    have hgr := hr.lt
    obtain ⟨⟨z0, z1, z2, z3, z4⟩, z5, z6, z7, z8⟩ := (hb).mach
    go_wp2_with fail
    refine (m1 _ hl).mono ?_
    rintro e w1 ⟨rfl, l1⟩
    clear z0 z1 z2 z3 z4 z5 z6 z7 z8
    clear m1
    replace hb := hb.le l1
    replace hl := hl.trans l1
    have hgr := Nat.lt_of_lt_of_le hgr l1.size
    replace hr := hr.le l1
    clear l1
    obtain ⟨⟨r0, r1, r2, r3, r4, r5, r6, r7, r8⟩, k0, k1, k2, k3, k4, k5, k6, k7, k8⟩ := hr.res
    go_wp2_with fail
    refine bodyPost_ret (v := .tuple #[machZ, .bool false, .int .i64 1500]) (by simp [results, Tryz.results10, go_sem, r0, r1, r2, r3, r4, r5, r6, r7, r8]) rfl ⟨_, rfl, OwnA.zero _ _, ?_⟩
    exact hl.put9 (c := Cfg.zero) (by omega) slZ slZ slZ slZ
  · have hmay : mayM M = true := by unfold atRG at h1; simp only [Bool.and_eq_true] at h1; exact h1.1
    obtain ⟨ra, rb⟩ : 0 ≤ r ∧ r ≤ M.c.r - 1 := by unfold atRG at h1; simp only [Bool.and_eq_true] at h1; exact inB_cases h1.2.1
    obtain ⟨g0, g1⟩ : 0 ≤ g ∧ g ≤ M.c.l - 1 := by unfold atRG at h1; simp only [Bool.and_eq_true] at h1; exact inB_cases h1.2.2
    obtain ⟨hrs, hps, hts, _⟩ := mayM_lens hmay
    obtain ⟨_, ⟨_, r3⟩, ⟨_, l3⟩, ⟨_, t3⟩, _, _⟩ := Cfg.ok_cases (mayM_ok hmay)
    obtain ⟨r, rfl⟩ : ∃ n : Nat, r = n := ⟨r.toNat, by omega⟩
    obtain ⟨g, rfl⟩ : ∃ n : Nat, g = n := ⟨g.toNat, by omega⟩
    have hpi : r < M.ps.length := by omega
    obtain ⟨_, _, _, hll, _⟩ := repB_cases (mayM_ps hmay _ (getD_mem (d := Rp.zero) hpi))
    have hgl : g < (M.ps.getD r Rp.zero).ls.length := by omega
    have hgl2 : g < (M.rp r).ls.length := by rw [Mc.rp, Int.toNat_natCast]; exact hgl
    replace m3 := fun x => m3 r g x hpi hgl2
    simp only [h1] at m1
    cases h2 : inB 0 t (M.c.t - 1)
    · have hP : tryM M r g t = (Mc.zero, false, 1500) := by unfold tryM; rw [atRG_there, h1, h2]; rfl
      rw [hP]
      obtain ⟨bR, oR, cR, bP, oP, cP, bT, oT, cT, qH, rfl, _, hcP, _, _⟩ := hx.opens hmay
      have hE : M.c.t - 1 = (M.ts.length : Int) - 1 := by omega
      have m4 := fun w' => listsHasT (some ⟨bT, oT, none⟩, M.ts.length, cT) t w' (by simp only; omega)
      simp only [slV] at m4
      rw [← hE, h2] at m4
      clear h1 h2 hE hcP hP hrs hps hts hll hgl hgl2 m2 m3
      have hr := Box.new (w.alloc (.cells (cells9 M.c (some ⟨bR, oR, none⟩, M.rs.length, cR) (some ⟨bP, oP, none⟩, M.ps.length, cP) (some ⟨bT, oT, none⟩, M.ts.length, cT) qH) 29)) cellsZ9 29
      have hb := (Box.new w (cells9 M.c (some ⟨bR, oR, none⟩, M.rs.length, cR) (some ⟨bP, oP, none⟩, M.ps.length, cP) (some ⟨bT, oT, none⟩, M.ts.length, cT) qH) 29).le (Le.alloc _ (.cells cellsZ9 29))
      have hl := (Le.alloc w (.cells (cells9 M.c (some ⟨bR, oR, none⟩, M.rs.length, cR) (some ⟨bP, oP, none⟩, M.ps.length, cP) (some ⟨bT, oT, none⟩, M.ts.length, cT) qH) 29)).trans (Le.alloc _ (.cells cellsZ9 29))
      rw [World.size_alloc] at hr
      go_enter Tryz.func10, Tryz.ntmps10
      go_upto_region 1 with fail
      generalize hW : (w.alloc (.cells (cells9 M.c (some ⟨bR, oR, none⟩, M.rs.length, cR) (some ⟨bP, oP, none⟩, M.ps.length, cP) (some ⟨bT, oT, none⟩, M.ts.length, cT) qH) 29)).alloc (.cells cellsZ9 29) = W at hl hb hr ⊢
      clear hW
      have hgr := hr.lt
      obtain ⟨⟨z0, z1, z2, z3, z4⟩, z5, z6, z7, z8⟩ := (hb).mach
      go_wp2_with fail
      refine (m1 _ hl).mono ?_
      rintro e w1 ⟨rfl, l1⟩
      clear z0 z1 z2 z3 z4 z5 z6 z7 z8
      clear m1
      replace hb := hb.le l1
      replace hl := hl.trans l1
      have hgr := Nat.lt_of_lt_of_le hgr l1.size
      replace hr := hr.le l1
      clear l1
      obtain ⟨⟨z0, z1, z2, z3, z4⟩, z5, z6, z7, z8⟩ := (hb).mach
      simp only [slV] at z7
      go_wp2_with fail
      refine (m4 _).mono ?_
      rintro e _ ⟨rfl, rfl⟩
      clear z0 z1 z2 z3 z4 z5 z6 z7 z8
      obtain ⟨⟨r0, r1, r2, r3, r4, r5, r6, r7, r8⟩, k0, k1, k2, k3, k4, k5, k6, k7, k8⟩ := hr.res
      go_wp2_with fail
      refine bodyPost_ret (v := .tuple #[machZ, .bool false, .int .i64 1500]) (by simp [results, Tryz.results10, go_sem, r0, r1, r2, r3, r4, r5, r6, r7, r8]) rfl ⟨_, rfl, OwnA.zero _ _, ?_⟩
      exact hl.put9 (c := Cfg.zero) (by omega) slZ slZ slZ slZ
    · have hT : tryM M r g t = if (M.rp r).lock g = 0 then (M.putP r ((M.rp r).setLock g (t + 1)), true, 0) else (M, false, 0) := by unfold tryM; rw [atRG_there, h1, h2]; rfl
      obtain ⟨t0, t1⟩ := inB_cases h2
      obtain ⟨t, rfl⟩ : ∃ n : Nat, t = n := ⟨t.toNat, by omega⟩
      have ht4 : (t : Int) < 4 := by omega
      have hlk : (M.rp r).lock g = (M.ps.getD r Rp.zero).ls.getD g 0 := by rw [Rp.lock, Mc.rp, Int.toNat_natCast, Int.toNat_natCast]
      rw [hlk] at hT
      obtain ⟨x, hxx⟩ : ∃ x, x = (M.ps.getD r Rp.zero).ls.getD g 0 := ⟨_, rfl⟩
      rw [← hxx] at hT
      obtain ⟨bR, oR, cR, bP, oP, cP, bT, oT, cT, qH, rfl, _, hcP, _, _⟩ := hx.opens hmay
      have hE : M.c.t - 1 = (M.ts.length : Int) - 1 := by omega
      have m4 := fun w' => listsHasT (some ⟨bT, oT, none⟩, M.ts.length, cT) t w' (by simp only; omega)
      simp only [slV] at m4
      rw [← hE, h2] at m4
      obtain ⟨vs, qc, ql, hatp, _, _, hlx⟩ := hcP r hpi
      obtain ⟨bL, offL, nL, cL, rfl, hgn, xL⟩ := hlx.at hgl
      rw [← hxx] at xL
      have hpi' : (r : Int) < (M.ps.length : Int) := by omega
      clear hlx hlk h1 h2 hE hcP hxx hll hmay hrs hps hts hgl
      replace m3 := m3 ((t : Int) + 1)
      by_cases hx0 : x = 0
      · rw [hT, if_pos hx0]
        have hxb : (x != 0) = false := by simp [hx0]
        clear hT m2
        have hr := Box.new (w.alloc (.cells (cells9 M.c (some ⟨bR, oR, none⟩, M.rs.length, cR) (some ⟨bP, oP, none⟩, M.ps.length, cP) (some ⟨bT, oT, none⟩, M.ts.length, cT) qH) 29)) cellsZ9 29
        have hb := (Box.new w (cells9 M.c (some ⟨bR, oR, none⟩, M.rs.length, cR) (some ⟨bP, oP, none⟩, M.ps.length, cP) (some ⟨bT, oT, none⟩, M.ts.length, cT) qH) 29).le (Le.alloc _ (.cells cellsZ9 29))
        have hl := (Le.alloc w (.cells (cells9 M.c (some ⟨bR, oR, none⟩, M.rs.length, cR) (some ⟨bP, oP, none⟩, M.ps.length, cP) (some ⟨bT, oT, none⟩, M.ts.length, cT) qH) 29)).trans (Le.alloc _ (.cells cellsZ9 29))
        rw [World.size_alloc] at hr
        go_enter Tryz.func10, Tryz.ntmps10
        go_upto_region 1 with fail
        generalize hW : (w.alloc (.cells (cells9 M.c (some ⟨bR, oR, none⟩, M.rs.length, cR) (some ⟨bP, oP, none⟩, M.ps.length, cP) (some ⟨bT, oT, none⟩, M.ts.length, cT) qH) 29)).alloc (.cells cellsZ9 29) = W at hl hb hr ⊢
        clear hW
        have hgr := hr.lt
        obtain ⟨⟨z0, z1, z2, z3, z4⟩, z5, z6, z7, z8⟩ := (hb).mach
        go_wp2_with fail
        refine (m1 _ hl).mono ?_
        rintro e w1 ⟨rfl, l1⟩
        clear z0 z1 z2 z3 z4 z5 z6 z7 z8
        clear m1
        replace hb := hb.le l1
        replace hl := hl.trans l1
        have hgr := Nat.lt_of_lt_of_le hgr l1.size
        replace hr := hr.le l1
        clear l1
        have xL' := cell_le xL hl
        obtain ⟨p0, p1, p2, p3, p4, p5⟩ := hatp.le hl
        obtain ⟨⟨z0, z1, z2, z3, z4⟩, z5, z6, z7, z8⟩ := (hb).mach
        simp only [slV] at z7 z6 p5
        go_wp2_with fail
        refine (m4 _).mono ?_
        rintro e _ ⟨rfl, rfl⟩
        go_wp2_with fail
        refine (m3 _ hl).mono ?_
        rintro e w9 ⟨_, rfl, ⟨⟨c', uR, uP, uT, uH, xR, xP, xT, xH⟩, rfl, HM, o1, ap⟩, l1⟩
        clear m3 m4
        replace hr := hr.le l1
        obtain ⟨⟨r0, r1, r2, r3, r4, r5, r6, r7, r8⟩, k0, k1, k2, k3, k4, k5, k6, k7, k8⟩ := hr.res
        go_wp2_with fail
        refine bodyPost_ret (v := .tuple #[machV c' uR uP uT uH, .bool true, .int .i64 0]) (by simp [results, Tryz.results10, go_sem, r0, r1, r2, r3, r4, r5, r6, r7, r8]) rfl ⟨_, rfl, ?_, (hl.trans l1).put9 (g := w.heap.size + 1) (by omega) c' uR uP uT uH⟩
        refine ⟨⟨c', uR, uP, uT, uH, xR, xP, xT, xH⟩, rfl, HM, ?_, ap⟩
        exact (o1.base hl.size).put9 hr c' uR uP uT uH
      · rw [hT, if_neg hx0]
        have hxb : (x != 0) = true := by simp [hx0]
        clear hT m3
        have hr := Box.new (w.alloc (.cells (cells9 M.c (some ⟨bR, oR, none⟩, M.rs.length, cR) (some ⟨bP, oP, none⟩, M.ps.length, cP) (some ⟨bT, oT, none⟩, M.ts.length, cT) qH) 29)) cellsZ9 29
        have hb := (Box.new w (cells9 M.c (some ⟨bR, oR, none⟩, M.rs.length, cR) (some ⟨bP, oP, none⟩, M.ps.length, cP) (some ⟨bT, oT, none⟩, M.ts.length, cT) qH) 29).le (Le.alloc _ (.cells cellsZ9 29))
        have hl := (Le.alloc w (.cells (cells9 M.c (some ⟨bR, oR, none⟩, M.rs.length, cR) (some ⟨bP, oP, none⟩, M.ps.length, cP) (some ⟨bT, oT, none⟩, M.ts.length, cT) qH) 29)).trans (Le.alloc _ (.cells cellsZ9 29))
        rw [World.size_alloc] at hr
        go_enter Tryz.func10, Tryz.ntmps10
        go_upto_region 1 with fail
        generalize hW : (w.alloc (.cells (cells9 M.c (some ⟨bR, oR, none⟩, M.rs.length, cR) (some ⟨bP, oP, none⟩, M.ps.length, cP) (some ⟨bT, oT, none⟩, M.ts.length, cT) qH) 29)).alloc (.cells cellsZ9 29) = W at hl hb hr ⊢
        clear hW
        have hgr := hr.lt
        obtain ⟨⟨z0, z1, z2, z3, z4⟩, z5, z6, z7, z8⟩ := (hb).mach
        go_wp2_with fail
        refine (m1 _ hl).mono ?_
        rintro e w1 ⟨rfl, l1⟩
        clear z0 z1 z2 z3 z4 z5 z6 z7 z8
        clear m1
        replace hb := hb.le l1
        replace hl := hl.trans l1
        have hgr := Nat.lt_of_lt_of_le hgr l1.size
        replace hr := hr.le l1
        clear l1
        have xL' := cell_le xL hl
        obtain ⟨p0, p1, p2, p3, p4, p5⟩ := hatp.le hl
        obtain ⟨⟨z0, z1, z2, z3, z4⟩, z5, z6, z7, z8⟩ := (hb).mach
        simp only [slV] at z7 z6 p5
        go_wp2_with fail
        refine (m4 _).mono ?_
        rintro e _ ⟨rfl, rfl⟩
        go_wp2_with fail
        refine (m2 _ hl).mono ?_
        rintro e w9 ⟨_, rfl, ⟨⟨c', uR, uP, uT, uH, xR, xP, xT, xH⟩, rfl, HM, o1, ap⟩, l1⟩
        clear m2 m4
        replace hr := hr.le l1
        obtain ⟨⟨r0, r1, r2, r3, r4, r5, r6, r7, r8⟩, k0, k1, k2, k3, k4, k5, k6, k7, k8⟩ := hr.res
        go_wp2_with fail
        refine bodyPost_ret (v := .tuple #[machV c' uR uP uT uH, .bool false, .int .i64 0]) (by simp [results, Tryz.results10, go_sem, r0, r1, r2, r3, r4, r5, r6, r7, r8]) rfl ⟨_, rfl, ?_, (hl.trans l1).put9 (g := w.heap.size + 1) (by omega) c' uR uP uT uH⟩
        refine ⟨⟨c', uR, uP, uT, uH, xR, xP, xT, xH⟩, rfl, HM, ?_, ap⟩
        exact (o1.base hl.size).put9 hr c' uR uP uT uH

set_option maxRecDepth 8000 in
set_option maxHeartbeats 8000000 in
theorem lockFree (v : Value) (M : Mc) (r g : Int) (w : World) (hx : HasM w v M) (hf : FitM M) : Calls Tryz.prog 12 #[v, .int .i64 r, .int .i64 g] w fun e w' => ∃ v', e = .returned (.tuple #[v', .int .i64 (freeM M r g).2]) ∧ OwnA w' w.heap.size v' (freeM M r g).1 ∧ Le w w' := by
  have m1 := fun w' (l : Le w w') => machHasLog v M r g w' (hx.le l) hf
  have m3 := fun (r g : Nat) (x : Int) (hp : r < M.ps.length) (hg : g < (M.rp r).ls.length) w' (l : Le w w') => lockWith v M r g x w' (hx.le l) hf hp hg
  cases h1 : atRG M r g
  · have hP : freeM M r g = (Mc.zero, 1500) := by unfold freeM; rw [atRG_zero, h1]; rfl
    rw [hP]
    simp only [h1] at m1
    clear h1
    obtain ⟨qR, qP, qT, qH, rfl, _, _, _, _⟩ := hx
    have hr := Box.new (w.alloc (.cells (cells9 M.c qR qP qT qH) 29)) cellsZ9 29
    have hb := (Box.new w (cells9 M.c qR qP qT qH) 29).le (Le.alloc _ (.cells cellsZ9 29))
    have hl := (Le.alloc w (.cells (cells9 M.c qR qP qT qH) 29)).trans (Le.alloc _ (.cells cellsZ9 29))
    rw [World.size_alloc] at hr
    go_enter Tryz.func12, Tryz.ntmps12
    go_upto_region 1 with fail
    generalize hW : (w.alloc (.cells (cells9 M.c qR qP qT qH) 29)).alloc (.cells cellsZ9 29) = W at hl hb hr ⊢
    clear hW
    have hgr := hr.lt
    obtain ⟨⟨z0, z1, z2, z3, z4⟩, z5, z6, z7, z8⟩ := (hb).mach
    go_wp2_with fail
    refine (m1 _ hl).mono ?_
    rintro e w1 ⟨rfl, l1⟩
    clear z0 z1 z2 z3 z4 z5 z6 z7 z8
    clear m1
    replace hb := hb.le l1
    replace hl := hl.trans l1
    have hgr := Nat.lt_of_lt_of_le hgr l1.size
    replace hr := hr.le l1
    clear l1
    obtain ⟨⟨r0, r1, r2, r3, r4, r5, r6, r7, r8⟩, k0, k1, k2, k3, k4, k5, k6, k7, k8⟩ := hr.res
    go_wp2_with fail
    refine bodyPost_ret (v := .tuple #[machZ, .int .i64 1500]) (by simp [results, Tryz.results12, go_sem, r0, r1, r2, r3, r4, r5, r6, r7, r8]) rfl ⟨_, rfl, OwnA.zero _ _, ?_⟩
    exact hl.put9 (c := Cfg.zero) (by omega) slZ slZ slZ slZ
  · have hmay : mayM M = true := by unfold atRG at h1; simp only [Bool.and_eq_true] at h1; exact h1.1
    obtain ⟨ra, rb⟩ : 0 ≤ r ∧ r ≤ M.c.r - 1 := by unfold atRG at h1; simp only [Bool.and_eq_true] at h1; exact inB_cases h1.2.1
    obtain ⟨g0, g1⟩ : 0 ≤ g ∧ g ≤ M.c.l - 1 := by unfold atRG at h1; simp only [Bool.and_eq_true] at h1; exact inB_cases h1.2.2
    obtain ⟨hrs, hps, hts, _⟩ := mayM_lens hmay
    obtain ⟨r, rfl⟩ : ∃ n : Nat, r = n := ⟨r.toNat, by omega⟩
    obtain ⟨g, rfl⟩ : ∃ n : Nat, g = n := ⟨g.toNat, by omega⟩
    have hpi : r < M.ps.length := by omega
    obtain ⟨_, _, _, hll, _⟩ := repB_cases (mayM_ps hmay _ (getD_mem (d := Rp.zero) hpi))
    have hgl2 : g < (M.rp r).ls.length := by rw [Mc.rp, Int.toNat_natCast]; omega
    replace m3 := m3 r g 0 hpi hgl2
    simp only [h1] at m1
    have hT : freeM M r g = (M.putP r ((M.rp r).setLock g 0), 0) := by unfold freeM; rw [atRG_zero, h1]; rfl
    rw [hT]
    clear hT h1 hll hmay hrs hps hts
    obtain ⟨qR, qP, qT, qH, rfl, _, _, _, _⟩ := hx
    have hr := Box.new (w.alloc (.cells (cells9 M.c qR qP qT qH) 29)) cellsZ9 29
    have hb := (Box.new w (cells9 M.c qR qP qT qH) 29).le (Le.alloc _ (.cells cellsZ9 29))
    have hl := (Le.alloc w (.cells (cells9 M.c qR qP qT qH) 29)).trans (Le.alloc _ (.cells cellsZ9 29))
    rw [World.size_alloc] at hr
    go_enter Tryz.func12, Tryz.ntmps12
    go_upto_region 1 with fail
    generalize hW : (w.alloc (.cells (cells9 M.c qR qP qT qH) 29)).alloc (.cells cellsZ9 29) = W at hl hb hr ⊢
    clear hW
    have hgr := hr.lt
    obtain ⟨⟨z0, z1, z2, z3, z4⟩, z5, z6, z7, z8⟩ := (hb).mach
    go_wp2_with fail
    refine (m1 _ hl).mono ?_
    rintro e w1 ⟨rfl, l1⟩
    clear z0 z1 z2 z3 z4 z5 z6 z7 z8
    clear m1
    replace hb := hb.le l1
    replace hl := hl.trans l1
    have hgr := Nat.lt_of_lt_of_le hgr l1.size
    replace hr := hr.le l1
    clear l1
    obtain ⟨⟨z0, z1, z2, z3, z4⟩, z5, z6, z7, z8⟩ := (hb).mach
    go_wp2_with fail
    refine (m3 _ hl).mono ?_
    rintro e w9 ⟨_, rfl, ⟨⟨c', uR, uP, uT, uH, xR, xP, xT, xH⟩, rfl, HM, o1, ap⟩, l1⟩
    clear m3
    replace hr := hr.le l1
    obtain ⟨⟨r0, r1, r2, r3, r4, r5, r6, r7, r8⟩, k0, k1, k2, k3, k4, k5, k6, k7, k8⟩ := hr.res
    go_wp2_with fail
    refine bodyPost_ret (v := .tuple #[machV c' uR uP uT uH, .int .i64 0]) (by simp [results, Tryz.results12, go_sem, r0, r1, r2, r3, r4, r5, r6, r7, r8]) rfl ⟨_, rfl, ?_, (hl.trans l1).put9 (g := w.heap.size + 1) (by omega) c' uR uP uT uH⟩
    refine ⟨⟨c', uR, uP, uT, uH, xR, xP, xT, xH⟩, rfl, HM, ?_, ap⟩
    exact (o1.base hl.size).put9 hr c' uR uP uT uH

end Go.Proofs.YtkddgpdlpjjpbaaGreat

/-
  THE WALKS over choruslaw15's awake and the law Locks. Condition: that the machine's rows can be copied.
-/
namespace Go.Proofs.YtkddgpdlpjjpbaaGreat
open Go.RowKit

theorem lockTryAs {M N : Mc} {r g t er : Int} {b : Bool} (h : tryM M r g t = (N, b, er)) (v : Value) (w : World) (hx : HasM w v M) (hf : FitM M) : Calls Tryz.prog 10 #[v, .int .i64 r, .int .i64 g, .int .i64 t] w fun e w' => ∃ qR qP qT qH, e = .returned (.tuple #[machV N.c qR qP qT qH, .bool b, .int .i64 er]) ∧ OwnA w' w.heap.size (machV N.c qR qP qT qH) N ∧ Le w w' := by
  have := lockTry v M r g t w hx hf
  rw [h] at this
  refine this.mono ?_
  rintro e w' ⟨v', rfl, o, l⟩
  obtain ⟨qR, qP, qT, qH, rfl⟩ := o.open
  exact ⟨_, _, _, _, rfl, o, l⟩
theorem rmTryAs {M N : Mc} {r g t er : Int} {b : Bool} (h : tryM M r g t = (N, b, er)) (v : Value) (w : World) (hx : HasM w v M) (hf : FitM M) : Calls Tryz.prog 11 #[v, .int .i64 r, .int .i64 g, .int .i64 t] w fun e w' => ∃ qR qP qT qH, e = .returned (.tuple #[machV N.c qR qP qT qH, .bool b, .int .i64 er]) ∧ OwnA w' w.heap.size (machV N.c qR qP qT qH) N ∧ Le w w' := by
  have := rmTry v M r g t w hx hf
  rw [h] at this
  refine this.mono ?_
  rintro e w' ⟨v', rfl, o, l⟩
  obtain ⟨qR, qP, qT, qH, rfl⟩ := o.open
  exact ⟨_, _, _, _, rfl, o, l⟩
theorem lockFreeAs {M N : Mc} {r g er : Int} (h : freeM M r g = (N, er)) (v : Value) (w : World) (hx : HasM w v M) (hf : FitM M) : Calls Tryz.prog 12 #[v, .int .i64 r, .int .i64 g] w fun e w' => ∃ qR qP qT qH, e = .returned (.tuple #[machV N.c qR qP qT qH, .int .i64 er]) ∧ OwnA w' w.heap.size (machV N.c qR qP qT qH) N ∧ Le w w' := by
  have := lockFree v M r g w hx hf
  rw [h] at this
  refine this.mono ?_
  rintro e w' ⟨v', rfl, o, l⟩
  obtain ⟨qR, qP, qT, qH, rfl⟩ := o.open
  exact ⟨_, _, _, _, rfl, o, l⟩
theorem rmFreeAs {M N : Mc} {r g er : Int} (h : freeM M r g = (N, er)) (v : Value) (w : World) (hx : HasM w v M) (hf : FitM M) : Calls Tryz.prog 13 #[v, .int .i64 r, .int .i64 g] w fun e w' => ∃ qR qP qT qH, e = .returned (.tuple #[machV N.c qR qP qT qH, .int .i64 er]) ∧ OwnA w' w.heap.size (machV N.c qR qP qT qH) N ∧ Le w w' := by
  have := rmFree v M r g w hx hf
  rw [h] at this
  refine this.mono ?_
  rintro e w' ⟨v', rfl, o, l⟩
  obtain ⟨qR, qP, qT, qH, rfl⟩ := o.open
  exact ⟨_, _, _, _, rfl, o, l⟩

/-- What it answers can be copied. -/
theorem fitM_lock {M : Mc} (h : FitM M) (r g x : Int) : FitM (M.putP r ((M.rp r).setLock g x)) := by
  refine ⟨h.rs, by simpa [Mc.putP] using h.ps, h.ts, h.es, h.r, fun P hP => ?_, h.t⟩
  rcases List.mem_or_eq_of_mem_set hP with hP | rfl
  · exact h.p P hP
  · have hz : Fit (M.rp r).s ∧ (M.rp r).cs.length * 8 ≤ 140737488351232 ∧ (M.rp r).ls.length * 8 ≤ 140737488351232 := by
      unfold Mc.rp
      rcases Nat.lt_or_ge r.toNat M.ps.length with hi | hi
      · exact h.p _ (getD_mem hi)
      · rw [getD_out hi]; exact ⟨fit_zero, by decide, by decide⟩
    exact ⟨hz.1, hz.2.1, by simpa [Rp.setLock] using hz.2.2⟩
theorem fitM_try {M : Mc} (h : FitM M) (r g t : Int) : FitM (tryM M r g t).1 := by
  unfold tryM
  split
  · split
    · exact fitM_lock h _ _ _
    · exact h
  · exact fitM_zero
theorem fitM_free {M : Mc} (h : FitM M) (r g : Int) : FitM (freeM M r g).1 := by
  unfold freeM
  split
  · exact fitM_lock h _ _ _
  · exact fitM_zero

def lk1 : Mc := begM.putP 1 ((begM.rp 1).setLock 0 4)
theorem lk_1 : tryM begM 1 0 3 = (lk1, true, 0) := by decide +kernel
theorem lk_2 : tryM lk1 1 0 1 = (lk1, false, 0) := by decide +kernel
theorem lk_3 : freeM lk1 1 0 = (begM, 0) := by decide +kernel
theorem lk_4 : tryM begM 2 0 0 = (Mc.zero, false, 1500) := by decide +kernel
theorem lk_5 : freeM begM 0 2 = (Mc.zero, 1500) := by decide +kernel
theorem lk_may : mayM lk1 = true := by decide +kernel
theorem lk_fit : FitM lk1 := fitB_fit (by decide +kernel)
theorem lk_open {w : World} {v : Value} (h : HasM w v lk1) : ∃ qR bP oP cP qT qH bL oL cL, v = machV begC qR (some ⟨bP, oP, none⟩, 2, cP) qT qH ∧ w.cell? ⟨bP, oP + 6 + 5, none⟩ = some (.slice (some ⟨bL, oL, none⟩) 2 cL) ∧ w.cell? ⟨bL, oL, none⟩ = some (.int .i64 4) := by
  obtain ⟨bR, oR, cR, bP, oP, cP, bT, oT, cT, qH, rfl, _, hcP, _, _⟩ := h.opens lk_may
  obtain ⟨vs, qc, ql, ⟨_, _, _, _, _, p5⟩, _, _, hlx⟩ := hcP 1 (by decide +kernel)
  obtain ⟨bL, offL, nL, cL, rfl, hgn, xL⟩ := hlx.at (g := 0) (by decide +kernel)
  have hl := hlx.len
  have h2 : ((lk1.ps.getD 1 Rp.zero).ls.length) = 2 := by decide +kernel
  have h4 : ((lk1.ps.getD 1 Rp.zero).ls.getD 0 0) = 4 := by decide +kernel
  rw [h4] at xL
  simp only at hl
  rw [h2] at hl
  have h3 : lk1.ps.length = 2 := by decide +kernel
  rw [h3]
  refine ⟨_, bP, oP, cP, _, qH, bL, offL, cL, rfl, ?_, xL⟩
  rw [Nat.one_mul] at p5
  simp only [slV] at p5
  rw [p5, hl]

set_option maxRecDepth 8000 in
set_option maxHeartbeats 4000000 in
theorem lawAwake15 (w : World) : Calls Tryz.prog 17 #[] w fun e w' => e = .returned (.bool true) ∧ Le w w' := by
  have hl := Le.refl w
  go_enter Tryz.func17, Tryz.ntmps17
  go_upto_region 1 with fail
  go_wp2_with fail
  refine (begun15 _).mono ?_
  rintro e w0 ⟨pR, pP, pT, pH, rfl, o0, l0⟩
  go_wp2_with fail
  refine (lockTryAs lk_1 _ _ o0.has beg_fit).mono ?_
  rintro e w1 ⟨aR, aP, aT, aH, rfl, oA, l1⟩
  obtain ⟨xR, bP, oP, cP, xT, xH, bL, oL, cL, hv, c5, c6⟩ := lk_open oA.has
  rw [hv] at oA ⊢
  clear hv aR aP aT aH o0
  obtain ⟨xP, hxP⟩ : ∃ q : Sl, q = (some ⟨bP, oP, none⟩, 2, cP) := ⟨_, rfl⟩
  rw [← hxP] at oA ⊢
  have HXP : Hid (xP = (some ⟨bP, oP, none⟩, 2, cP)) := hxP
  clear hxP
  replace hl := (hl.trans l0).trans l1
  clear l0 l1
  have hbA := Box.new w1 (cells9 begC xR xP xT xH) 29
  have a1 := Le.alloc w1 (.cells (cells9 begC xR xP xT xH) 29)
  go_upto_region 2 with fail
  generalize hW1 : w1.alloc (.cells (cells9 begC xR xP xT xH) 29) = W1 at hbA a1 ⊢
  clear hW1
  have hggA : w1.heap.size ≤ w1.heap.size := Nat.le_refl _
  generalize hgg : w1.heap.size = gA at hbA hggA ⊢
  have hsgA : w1.heap.size ≤ gA := by omega
  clear hgg hggA
  replace hl := hl.trans a1
  replace oA := oA.le a1
  replace c5 := cell_le c5 a1
  replace c6 := cell_le c6 a1
  clear a1
  obtain ⟨⟨z0, z1, z2, z3, z4⟩, z5, z6, z7, z8⟩ := (hbA).mach
  go_wp2_with fail
  refine (lockTryAs lk_2 _ _ oA.has lk_fit).mono ?_
  rintro e w2 ⟨bR, bP2, bT, bH, rfl, oB, l2⟩
  obtain ⟨yR, yP, yT, yH, hy⟩ : ∃ yR yP yT yH, (yR, yP, yT, yH) = (bR, bP2, bT, bH) := ⟨_, _, _, _, rfl⟩
  simp only [Prod.mk.injEq] at hy
  obtain ⟨rfl, rfl, rfl, rfl⟩ := hy
  clear z0 z1 z2 z3 z4 z5 z6 z7 z8
  replace hl := hl.trans l2
  replace hbA := hbA.le l2
  replace oA := oA.le l2
  replace c5 := cell_le c5 l2
  replace c6 := cell_le c6 l2
  clear l2
  have hbB := Box.new w2 (cells9 lk1.c yR yP yT yH) 29
  have a1 := Le.alloc w2 (.cells (cells9 lk1.c yR yP yT yH) 29)
  go_upto_region 3 with fail
  generalize hW1 : w2.alloc (.cells (cells9 lk1.c yR yP yT yH) 29) = W2 at hbB a1 ⊢
  clear hW1
  have hggB : w2.heap.size ≤ w2.heap.size := Nat.le_refl _
  generalize hgg : w2.heap.size = gB at hbB hggB ⊢
  have hsgB : w2.heap.size ≤ gB := by omega
  clear hgg hggB
  replace hl := hl.trans a1
  replace hbA := hbA.le a1
  replace oA := oA.le a1
  replace oB := oB.le a1
  replace c5 := cell_le c5 a1
  replace c6 := cell_le c6 a1
  clear a1
  obtain ⟨⟨z0, z1, z2, z3, z4⟩, z5, z6, z7, z8⟩ := (hbB).mach
  go_wp2_with fail
  refine (lockFreeAs lk_3 _ _ oB.has lk_fit).mono ?_
  rintro e w3 ⟨tR, tP, tT, tH, rfl, oC, l3⟩
  clear z0 z1 z2 z3 z4 z5 z6 z7 z8
  replace hl := hl.trans l3
  replace hbA := hbA.le l3
  replace hbB := hbB.le l3
  replace oA := oA.le l3
  replace oB := oB.le l3
  replace c5 := cell_le c5 l3
  replace c6 := cell_le c6 l3
  clear l3
  have hbC := Box.new w3 (cells9 begM.c tR tP tT tH) 29
  have a1 := Le.alloc w3 (.cells (cells9 begM.c tR tP tT tH) 29)
  go_upto_region 4 with fail
  generalize hW1 : w3.alloc (.cells (cells9 begM.c tR tP tT tH) 29) = W3 at hbC a1 ⊢
  clear hW1
  have hggC : w3.heap.size ≤ w3.heap.size := Nat.le_refl _
  generalize hgg : w3.heap.size = gC at hbC hggC ⊢
  have hsgC : w3.heap.size ≤ gC := by omega
  clear hgg hggC
  replace hl := hl.trans a1
  replace hbA := hbA.le a1
  replace hbB := hbB.le a1
  replace oA := oA.le a1
  replace oB := oB.le a1
  replace oC := oC.le a1
  replace c5 := cell_le c5 a1
  replace c6 := cell_le c6 a1
  clear a1
  go_wp2_with fail
  refine (begun15 _).mono ?_
  rintro e w4 ⟨pR, pP, pT, pH, rfl, o4, l4⟩
  go_wp2_with fail
  refine (lockTryAs lk_4 _ _ o4.has beg_fit).mono ?_
  rintro e w5 ⟨uR, uP, uT, uH, rfl, _, l5⟩
  replace l4 := l4.trans l5
  clear o4 l5
  replace hl := hl.trans l4
  replace hbA := hbA.le l4
  replace hbB := hbB.le l4
  replace hbC := hbC.le l4
  replace oA := oA.le l4
  replace oB := oB.le l4
  replace oC := oC.le l4
  replace c5 := cell_le c5 l4
  replace c6 := cell_le c6 l4
  clear l4
  have hbD := Box.new w5 (cells9 Mc.zero.c uR uP uT uH) 29
  have a1 := Le.alloc w5 (.cells (cells9 Mc.zero.c uR uP uT uH) 29)
  go_upto_region 5 with fail
  generalize hW1 : w5.alloc (.cells (cells9 Mc.zero.c uR uP uT uH) 29) = W5 at hbD a1 ⊢
  clear hW1
  have hggD : w5.heap.size ≤ w5.heap.size := Nat.le_refl _
  generalize hgg : w5.heap.size = gD at hbD hggD ⊢
  have hsgD : w5.heap.size ≤ gD := by omega
  clear hgg hggD
  replace hl := hl.trans a1
  replace hbA := hbA.le a1
  replace hbB := hbB.le a1
  replace hbC := hbC.le a1
  replace oA := oA.le a1
  replace oB := oB.le a1
  replace oC := oC.le a1
  replace c5 := cell_le c5 a1
  replace c6 := cell_le c6 a1
  clear a1 hbD
  go_wp2_with fail
  refine (begun15 _).mono ?_
  rintro e w6 ⟨pR, pP, pT, pH, rfl, o6, l6⟩
  go_wp2_with fail
  refine (lockFreeAs lk_5 _ _ o6.has beg_fit).mono ?_
  rintro e w7 ⟨sR, sP, sT, sH, rfl, _, l7⟩
  replace l6 := l6.trans l7
  clear o6 l7
  replace hl := hl.trans l6
  replace hbA := hbA.le l6
  replace hbB := hbB.le l6
  replace hbC := hbC.le l6
  replace oA := oA.le l6
  replace oB := oB.le l6
  replace oC := oC.le l6
  replace c5 := cell_le c5 l6
  replace c6 := cell_le c6 l6
  clear l6
  have hbE := Box.new w7 (cells9 Mc.zero.c sR sP sT sH) 29
  have a1 := Le.alloc w7 (.cells (cells9 Mc.zero.c sR sP sT sH) 29)
  go_upto_region 6 with fail
  generalize hW1 : w7.alloc (.cells (cells9 Mc.zero.c sR sP sT sH) 29) = W7 at hbE a1 ⊢
  clear hW1
  have hggE : w7.heap.size ≤ w7.heap.size := Nat.le_refl _
  generalize hgg : w7.heap.size = gE at hbE hggE ⊢
  have hsgE : w7.heap.size ≤ gE := by omega
  clear hgg hggE
  replace hl := hl.trans a1
  replace hbA := hbA.le a1
  replace hbB := hbB.le a1
  replace hbC := hbC.le a1
  replace oA := oA.le a1
  replace oB := oB.le a1
  replace oC := oC.le a1
  replace c5 := cell_le c5 a1
  replace c6 := cell_le c6 a1
  clear a1 hbE
  have hs1 := fun w' (l : Le W7 w') => lawSameMachine _ _ lk1 lk1 w' (oA.has.le l) (oB.has.le l) lk_fit
  simp only [decide_true] at hs1
  obtain ⟨⟨z0, z1, z2, z3, z4⟩, z5, z6, z7, z8⟩ := (hbA.le (Le.refl W7)).mach
  rw [HXP.out] at z6; simp only [slV] at z6
  obtain ⟨⟨y0, y1, y2, y3, y4⟩, y5, y6, y7, y8⟩ := (hbB.le (Le.refl W7)).mach
  obtain ⟨⟨u0, u1, u2, u3, u4⟩, u5, u6, u7, u8⟩ := (hbC.le (Le.refl W7)).mach
  rw [HXP.out] at hs1
  have hfld := fieldH
  go_upto_region 8 with fail
  go_region_held3 (fun w' => w'.cell? ⟨gA, 0, none⟩ = some (.int .i64 begC.o) ∧ w'.cell? ⟨gA, 1, none⟩ = some (.int .i64 begC.r) ∧ w'.cell? ⟨gA, 2, none⟩ = some (.int .i64 begC.l) ∧ w'.cell? ⟨gA, 3, none⟩ = some (.int .i64 begC.t) ∧ w'.cell? ⟨gA, 4, none⟩ = some (.int .i64 begC.s) ∧ w'.cell? ⟨gA, 5, none⟩ = some (slV xR) ∧ w'.cell? ⟨gA, 6, none⟩ = some (.slice (some ⟨bP, oP, none⟩) 2 cP) ∧ w'.cell? ⟨gA, 7, none⟩ = some (slV xT) ∧ w'.cell? ⟨gA, 8, none⟩ = some (slV xH) ∧ w'.cell? ⟨gB, 0, none⟩ = some (.int .i64 lk1.c.o) ∧ w'.cell? ⟨gB, 1, none⟩ = some (.int .i64 lk1.c.r) ∧ w'.cell? ⟨gB, 2, none⟩ = some (.int .i64 lk1.c.l) ∧ w'.cell? ⟨gB, 3, none⟩ = some (.int .i64 lk1.c.t) ∧ w'.cell? ⟨gB, 4, none⟩ = some (.int .i64 lk1.c.s) ∧ w'.cell? ⟨gB, 5, none⟩ = some (slV yR) ∧ w'.cell? ⟨gB, 6, none⟩ = some (slV yP) ∧ w'.cell? ⟨gB, 7, none⟩ = some (slV yT) ∧ w'.cell? ⟨gB, 8, none⟩ = some (slV yH) ∧ w'.cell? ⟨gC, 0, none⟩ = some (.int .i64 begM.c.o) ∧ w'.cell? ⟨gC, 1, none⟩ = some (.int .i64 begM.c.r) ∧ w'.cell? ⟨gC, 2, none⟩ = some (.int .i64 begM.c.l) ∧ w'.cell? ⟨gC, 3, none⟩ = some (.int .i64 begM.c.t) ∧ w'.cell? ⟨gC, 4, none⟩ = some (.int .i64 begM.c.s) ∧ w'.cell? ⟨gC, 5, none⟩ = some (slV tR) ∧ w'.cell? ⟨gC, 6, none⟩ = some (slV tP) ∧ w'.cell? ⟨gC, 7, none⟩ = some (slV tT) ∧ w'.cell? ⟨gC, 8, none⟩ = some (slV tH) ∧ w'.cell? ⟨bP, oP + 6 + 5, none⟩ = some (.slice (some ⟨bL, oL, none⟩) 2 cL) ∧ w'.cell? ⟨bL, oL, none⟩ = some (.int .i64 4)) (go_keep) (first
    | (go_at_call 15; refine (lawNum _ _).mono ?_; rintro e _ ⟨rfl, rfl⟩)
    | (go_at_call 14; with_reducible refine Calls.mono (hs1 _ (Le.drew W7)) ?_; rintro e w8 ⟨rfl, l8⟩; have l8' := (Le.drew W7).trans l8; obtain ⟨⟨z0, z1, z2, z3, z4⟩, z5, z6, z7, z8⟩ := (hbA.le l8').mach; rw [HXP.out] at z6; simp only [slV] at z6; obtain ⟨⟨y0, y1, y2, y3, y4⟩, y5, y6, y7, y8⟩ := (hbB.le l8').mach; obtain ⟨⟨u0, u1, u2, u3, u4⟩, u5, u6, u7, u8⟩ := (hbC.le l8').mach; have d5 := cell_le c5 l8'; have d6 := cell_le c6 l8')
    | (go_at_call 18; refine (begun15 _).mono ?_; rintro e w9 ⟨pR, pP, pT, pH, rfl, o9, l9⟩; have l9' := l8'.trans l9; have hs2 := lawSameMachine _ _ begM begM w9 (oC.has.le l9') o9.has beg_fit; simp only [decide_true] at hs2; obtain ⟨⟨z0, z1, z2, z3, z4⟩, z5, z6, z7, z8⟩ := (hbA.le l9').mach; rw [HXP.out] at z6; simp only [slV] at z6; obtain ⟨⟨y0, y1, y2, y3, y4⟩, y5, y6, y7, y8⟩ := (hbB.le l9').mach; obtain ⟨⟨u0, u1, u2, u3, u4⟩, u5, u6, u7, u8⟩ := (hbC.le l9').mach; have d5 := cell_le c5 l9'; have d6 := cell_le c6 l9')
    | (go_at_call 14; with_reducible refine Calls.mono hs2 ?_; rintro e w10 ⟨rfl, l10⟩; have l10' := l9'.trans l10; obtain ⟨⟨z0, z1, z2, z3, z4⟩, z5, z6, z7, z8⟩ := (hbA.le l10').mach; rw [HXP.out] at z6; simp only [slV] at z6; obtain ⟨⟨y0, y1, y2, y3, y4⟩, y5, y6, y7, y8⟩ := (hbB.le l10').mach; obtain ⟨⟨u0, u1, u2, u3, u4⟩, u5, u6, u7, u8⟩ := (hbC.le l10').mach; have d5 := cell_le c5 l10'; have d6 := cell_le c6 l10')
    | (go_at_call 45; refine (calledL15 _).mono ?_; rintro e w11 ⟨pR', pP', pT', ha, hc, rfl, l11⟩; have l11' := l10'.trans l11; obtain ⟨⟨z0, z1, z2, z3, z4⟩, z5, z6, z7, z8⟩ := (hbA.le l11').mach; rw [HXP.out] at z6; simp only [slV] at z6; obtain ⟨⟨y0, y1, y2, y3, y4⟩, y5, y6, y7, y8⟩ := (hbB.le l11').mach; obtain ⟨⟨u0, u1, u2, u3, u4⟩, u5, u6, u7, u8⟩ := (hbC.le l11').mach; have d5 := cell_le c5 l11'; have d6 := cell_le c6 l11'))
  go_wp2_with fail
  go_ret
  exact ⟨rfl, hl.trans l11'⟩

end Go.Proofs.YtkddgpdlpjjpbaaGreat

/-
  PLAIN GROUND, NO WALK: a machine of the call's own may be written over, in the blocks that the call made; and it stands behind a store into another machine's variable. No condition but that its rows can be copied.
-/
namespace Go.Proofs.YtkddgpdlpjjpbaaGreat
open Go.RowKit

theorem OwnA.sp {w : World} {base : Nat} {v : Value} {M : Mc} (h : OwnA w base v M) (hf : FitM M) : Sp.IntsM w (fun g => base ≤ g ∧ g < w.heap.size) v := by
  obtain ⟨L, rfl, rfl, ho, _⟩ := h
  exact Sp.ownsM_ints ho hf (fun g h1 h2 => ⟨h1, h2⟩)

theorem OwnM.setM {w : World} {B g i : Nat} {v u : Value} {M : Mc} {cs : Array Value} (h : OwnM w B v M) (hb : Box w g cs 29) : OwnM (w.setCell ⟨g, i, none⟩ u) B v M := by
  obtain ⟨L, hv, hm, o⟩ := h
  exact ⟨L, hv, hm, ⟨own_setM hb o.oR (by decide), own_setM hb o.oP (by decide), own_setM hb o.oT (by decide), own_setM hb o.oH (by decide), fun y hy => own_setM hb (o.iR y hy) (by decide), fun y hy => ⟨fun i hi => own_setM hb ((o.iP y hy).1 i hi) (by decide), own_setM hb (o.iP y hy).2.1 (by decide), own_setM hb (o.iP y hy).2.2 (by decide)⟩, fun y hy => ⟨own_setM hb (o.iT y hy).1 (by decide), own_setM hb (o.iT y hy).2 (by decide)⟩⟩⟩


end Go.Proofs.YtkddgpdlpjjpbaaGreat

/-
  THE WALK over the law Locks: it answers true and turns nothing that was there, for every machine and place. Condition: that the machine's rows can be copied.
-/
namespace Go.Proofs.YtkddgpdlpjjpbaaGreat
open Go.RowKit

set_option maxRecDepth 8000 in
set_option maxHeartbeats 4000000 in
theorem lawLocks (w : World) (v : Value) (M : Mc) (hx : HasM w v M) (hf : FitM M) (r g t : Int) : Calls Tryz.prog 3 #[v, .int .i64 r, .int .i64 g, .int .i64 t] w fun e w' => e = .returned (.bool true) ∧ Le w w' := by
  obtain ⟨N1, b1, e1, hN1⟩ : ∃ N b e, tryM M r g t = (N, b, e) := ⟨_, _, _, rfl⟩
  obtain ⟨N2, e2, hN2⟩ : ∃ N e, freeM M r g = (N, e) := ⟨_, _, rfl⟩
  have f1 : FitM N1 := by have := fitM_try hf r g t; rw [hN1] at this; exact this
  have f2 : FitM N2 := by have := fitM_free hf r g; rw [hN2] at this; exact this
  have t1 := fun v w' (h : HasM w' v M) => lockTryAs hN1 v w' h hf
  have t2 := fun v w' (h : HasM w' v M) => rmTryAs hN1 v w' h hf
  have t3 := fun v w' (h : HasM w' v M) => lockFreeAs hN2 v w' h hf
  have t4 := fun v w' (h : HasM w' v M) => rmFreeAs hN2 v w' h hf
  clear hN1 hN2
  have hx0 := hx
  obtain ⟨qR, qP, qT, qH, rfl, _, _, _, _⟩ := hx
  have hb0 := Box.new w (cells9 M.c qR qP qT qH) 29
  have hl := Le.alloc w (.cells (cells9 M.c qR qP qT qH) 29)
  have hbb : (b1 != b1) = false := by simp
  have hee : (e1 != e1) = false := by simp
  have hee2 : (e2 != e2) = false := by simp
  go_enter Tryz.func3, Tryz.ntmps3
  go_upto_region 1 with fail
  generalize hW : w.alloc (.cells (cells9 M.c qR qP qT qH) 29) = W at hl hb0 ⊢
  clear hW
  obtain ⟨⟨y0, y1, y2, y3, y4⟩, y5, y6, y7, y8⟩ := (hb0).mach
  go_wp2_with fail
  refine (copyMachineAs _ _ _ (hx0.le hl) hf).mono ?_
  rintro e w1 ⟨xR, xP, xT, xH, rfl, oX, l1⟩
  clear y0 y1 y2 y3 y4 y5 y6 y7 y8
  replace hb0 := hb0.le l1
  replace hl := hl.trans l1
  clear l1
  have hbX := Box.new w1 (cells9 M.c xR xP xT xH) 29
  have a1 := Le.alloc w1 (.cells (cells9 M.c xR xP xT xH) 29)
  go_upto_region 2 with fail
  generalize hW1 : w1.alloc (.cells (cells9 M.c xR xP xT xH) 29) = W1 at hbX a1 ⊢
  clear hW1
  have hggX : w1.heap.size ≤ w1.heap.size := Nat.le_refl _
  generalize hgg : w1.heap.size = gX at hbX hggX ⊢
  have hsgX : w1.heap.size ≤ gX := by omega
  clear hgg hggX
  replace hl := hl.trans a1
  replace hb0 := hb0.le a1
  replace oX := oX.le a1
  clear a1
  have L1 := Le.refl W1
  obtain ⟨⟨y0, y1, y2, y3, y4⟩, y5, y6, y7, y8⟩ := (hbX).mach
  have hl1 := hl
  go_wp2_with fail
  refine (t1 _ _ oX.has).mono ?_
  rintro e w2 ⟨aR, aP, aT, aH, rfl, oA, l2⟩
  clear y0 y1 y2 y3 y4 y5 y6 y7 y8
  replace hl := hl.trans l2
  replace L1 := L1.trans l2
  have iA := oA.sp f1
  have hn2 := l2.size
  clear l2 t1
  have hbA := Box.new w2 (cells9 N1.c aR aP aT aH) 29
  have a1 := Le.alloc w2 (.cells (cells9 N1.c aR aP aT aH) 29)
  go_upto_region 3 with fail
  generalize hW1 : w2.alloc (.cells (cells9 N1.c aR aP aT aH) 29) = W2 at hbA a1 ⊢
  clear hW1
  have hggA : w2.heap.size ≤ w2.heap.size := Nat.le_refl _
  generalize hgg : w2.heap.size = gA at hbA hggA ⊢
  have hsgA : w2.heap.size ≤ gA := by omega
  clear hgg hggA
  replace hl := hl.trans a1
  replace oA := oA.le a1
  replace iA := iA.spoilt (Sp.Spoilt.le (S := fun g => W1.heap.size ≤ g ∧ g < w2.heap.size) trivial a1)
  replace L1 := L1.trans a1
  clear a1
  have n12 := L1.size
  have nA := hbA.lt
  have L2 := Le.refl W2
  obtain ⟨⟨y0, y1, y2, y3, y4⟩, y5, y6, y7, y8⟩ := (hb0.le L1).mach
  go_wp2_with fail
  refine (t2 _ _ (hx0.le hl)).mono ?_
  rintro e w3 ⟨bR, bP, bT, bH, rfl, oB, l3⟩
  clear y0 y1 y2 y3 y4 y5 y6 y7 y8
  replace hl := hl.trans l3
  replace L1 := L1.trans l3
  replace L2 := L2.trans l3
  have hn3 := l3.size
  clear l3 t2
  have hbB := Box.new w3 (cells9 N1.c bR bP bT bH) 29
  have a1 := Le.alloc w3 (.cells (cells9 N1.c bR bP bT bH) 29)
  go_upto_region 4 with fail
  generalize hW1 : w3.alloc (.cells (cells9 N1.c bR bP bT bH) 29) = W3 at hbB a1 ⊢
  clear hW1
  have hggB : w3.heap.size ≤ w3.heap.size := Nat.le_refl _
  generalize hgg : w3.heap.size = gB at hbB hggB ⊢
  have hsgB : w3.heap.size ≤ gB := by omega
  clear hgg hggB
  replace hl := hl.trans a1
  replace oB := oB.le a1
  replace L1 := L1.trans a1
  replace L2 := L2.trans a1
  clear a1
  have n23 := L2.size
  have L3 := Le.refl W3
  obtain ⟨⟨y0, y1, y2, y3, y4⟩, y5, y6, y7, y8⟩ := (hbX.le L1).mach
  go_wp2_with fail
  refine (t3 _ _ (oX.has.le L1)).mono ?_
  rintro e w4 ⟨cR, cP, cT, cH, rfl, oC, l4⟩
  clear y0 y1 y2 y3 y4 y5 y6 y7 y8
  replace hl := hl.trans l4
  replace L1 := L1.trans l4
  replace L2 := L2.trans l4
  replace L3 := L3.trans l4
  have iC := oC.sp f2
  have hn4 := l4.size
  clear l4 t3
  have hbC := Box.new w4 (cells9 N2.c cR cP cT cH) 29
  have a1 := Le.alloc w4 (.cells (cells9 N2.c cR cP cT cH) 29)
  go_upto_region 5 with fail
  generalize hW1 : w4.alloc (.cells (cells9 N2.c cR cP cT cH) 29) = W4 at hbC a1 ⊢
  clear hW1
  have hggC : w4.heap.size ≤ w4.heap.size := Nat.le_refl _
  generalize hgg : w4.heap.size = gC at hbC hggC ⊢
  have hsgC : w4.heap.size ≤ gC := by omega
  clear hgg hggC
  replace hl := hl.trans a1
  replace oC := oC.le a1
  replace iC := iC.spoilt (Sp.Spoilt.le (S := fun g => W3.heap.size ≤ g ∧ g < w4.heap.size) trivial a1)
  replace L1 := L1.trans a1
  replace L2 := L2.trans a1
  replace L3 := L3.trans a1
  clear a1
  have L4 := Le.refl W4
  obtain ⟨⟨y0, y1, y2, y3, y4⟩, y5, y6, y7, y8⟩ := (hb0.le L1).mach
  go_wp2_with fail
  refine (t4 _ _ (hx0.le hl)).mono ?_
  rintro e w5 ⟨dR, dP, dT, dH, rfl, oD, l5⟩
  clear y0 y1 y2 y3 y4 y5 y6 y7 y8
  replace hl := hl.trans l5
  replace L1 := L1.trans l5
  replace L2 := L2.trans l5
  replace L3 := L3.trans l5
  replace L4 := L4.trans l5
  clear l5 t4
  have hbD := Box.new w5 (cells9 N2.c dR dP dT dH) 29
  have a1 := Le.alloc w5 (.cells (cells9 N2.c dR dP dT dH) 29)
  go_upto_region 6 with fail
  generalize hW1 : w5.alloc (.cells (cells9 N2.c dR dP dT dH) 29) = W5 at hbD a1 ⊢
  clear hW1
  have hggD : w5.heap.size ≤ w5.heap.size := Nat.le_refl _
  generalize hgg : w5.heap.size = gD at hbD hggD ⊢
  have hsgD : w5.heap.size ≤ gD := by omega
  clear hgg hggD
  replace hl := hl.trans a1
  replace oD := oD.le a1
  replace L1 := L1.trans a1
  replace L2 := L2.trans a1
  replace L3 := L3.trans a1
  replace L4 := L4.trans a1
  clear a1
  have hs1 := lawSameMachine _ _ N1 N1 W5 (oA.has.le L2) (oB.has.le L3) f1
  simp only [decide_true] at hs1
  obtain ⟨⟨y0, y1, y2, y3, y4⟩, y5, y6, y7, y8⟩ := (hbA.le L2).mach
  obtain ⟨⟨z0, z1, z2, z3, z4⟩, z5, z6, z7, z8⟩ := (hbB.le L3).mach
  go_wp2_with fail
  refine hs1.mono ?_
  rintro e w6 ⟨rfl, l6⟩
  clear y0 y1 y2 y3 y4 y5 y6 y7 y8 z0 z1 z2 z3 z4 z5 z6 z7 z8
  clear hs1 oB hbB
  go_wp2_with fail
  refine (lawNum _ _).mono ?_
  rintro e _ ⟨rfl, rfl⟩
  have hs2 := lawSameMachine _ _ N2 N2 w6 ((oC.has.le L4).le l6) (oD.has.le l6) f2
  simp only [decide_true] at hs2
  obtain ⟨⟨y0, y1, y2, y3, y4⟩, y5, y6, y7, y8⟩ := ((hbC.le L4).le l6).mach
  obtain ⟨⟨z0, z1, z2, z3, z4⟩, z5, z6, z7, z8⟩ := (hbD.le l6).mach
  go_wp2_with fail
  refine hs2.mono ?_
  rintro e w7 ⟨rfl, l7⟩
  clear y0 y1 y2 y3 y4 y5 y6 y7 y8 z0 z1 z2 z3 z4 z5 z6 z7 z8
  clear hs2 oD hbD
  go_wp2_with fail
  refine (lawNum _ _).mono ?_
  rintro e _ ⟨rfl, rfl⟩
  have l57 := l6.trans l7
  obtain ⟨⟨y0, y1, y2, y3, y4⟩, y5, y6, y7, y8⟩ := ((hbA.le L2).le l57).mach
  go_upto_region 8 with fail
  go_wp2_with fail
  refine (Sp.lawSpoilMachine _ _ w7 (iA.spoilt (Sp.Spoilt.le (S := fun g => W1.heap.size ≤ g ∧ g < w2.heap.size) trivial (L2.trans l57))) trivial).mono ?_
  rintro e w8 ⟨rfl, k8⟩
  clear y0 y1 y2 y3 y4 y5 y6 y7 y8
  have hbC' := k8.box ((hbC.le L4).le l57) (fun h => by have := h.2; omega)
  have iC' := (iC.spoilt (Sp.Spoilt.le (S := fun g => W1.heap.size ≤ g ∧ g < w2.heap.size) trivial (L4.trans l57))).spoilt k8
  have L8 : Le W1 w8 := k8.toLe (L1.trans l57) (fun g h1 h2 => by have := h2.1; omega)
  obtain ⟨⟨y0, y1, y2, y3, y4⟩, y5, y6, y7, y8⟩ := (hbC').mach
  go_wp2_with fail
  refine (Sp.lawSpoilMachine _ _ w8 iC' trivial).mono ?_
  rintro e w9 ⟨rfl, k9⟩
  clear y0 y1 y2 y3 y4 y5 y6 y7 y8
  have L9 : Le W1 w9 := k9.toLe L8 (fun g h1 h2 => by have := h2.1; omega)
  have hs3 := lawSameMachine _ _ M M w9 (oX.has.le L9) ((hx0.le hl1).le L9) hf
  simp only [decide_true] at hs3
  obtain ⟨⟨y0, y1, y2, y3, y4⟩, y5, y6, y7, y8⟩ := (hbX.le L9).mach
  obtain ⟨⟨z0, z1, z2, z3, z4⟩, z5, z6, z7, z8⟩ := (hb0.le L9).mach
  go_wp2_with fail
  refine hs3.mono ?_
  rintro e w10 ⟨rfl, l10⟩
  clear y0 y1 y2 y3 y4 y5 y6 y7 y8 z0 z1 z2 z3 z4 z5 z6 z7 z8
  go_wp2_with fail
  refine (lawAwake15 _).mono ?_
  rintro e w11 ⟨rfl, l11⟩
  go_wp2_with fail
  go_ret
  exact ⟨rfl, ((hl1.trans L9).trans l10).trans l11⟩

end Go.Proofs.YtkddgpdlpjjpbaaGreat

/-
  PLAIN GROUND, NO WALK: an int and a mask, for every int. No condition.
-/
namespace Go.Proofs.YtkddgpdlpjjpbaaGreat

theorem and1 (n : Int) : bits .and .i64 n 1 = n % 2 := by
  have h : (BitVec.ofInt 64 1).toNat = 2 ^ 1 - 1 := by decide
  have key : (BitVec.ofInt 64 n &&& BitVec.ofInt 64 1).toNat = (n % ((2 ^ 64 : Nat) : Int)).toNat % 2 ^ 1 := by
    rw [BitVec.toNat_and, BitVec.toNat_ofInt, h, Nat.and_two_pow_sub_one_eq_mod]
  show IntKind.i64.wrap ((BitVec.ofInt 64 n &&& BitVec.ofInt 64 1).toNat : Nat) = n % 2
  rw [key, IntKind.wrap_i64]
  omega

theorem and3 (n : Int) : bits .and .i64 n 3 = n % 4 := by
  have h : (BitVec.ofInt 64 3).toNat = 2 ^ 2 - 1 := by decide
  have key : (BitVec.ofInt 64 n &&& BitVec.ofInt 64 3).toNat = (n % ((2 ^ 64 : Nat) : Int)).toNat % 2 ^ 2 := by
    rw [BitVec.toNat_and, BitVec.toNat_ofInt, h, Nat.and_two_pow_sub_one_eq_mod]
  show IntKind.i64.wrap ((BitVec.ofInt 64 n &&& BitVec.ofInt 64 3).toNat : Nat) = n % 4
  rw [key, IntKind.wrap_i64]
  omega

theorem and7 (n : Int) : bits .and .i64 n 7 = n % 8 := by
  have h : (BitVec.ofInt 64 7).toNat = 2 ^ 3 - 1 := by decide
  have key : (BitVec.ofInt 64 n &&& BitVec.ofInt 64 7).toNat = (n % ((2 ^ 64 : Nat) : Int)).toNat % 2 ^ 3 := by
    rw [BitVec.toNat_and, BitVec.toNat_ofInt, h, Nat.and_two_pow_sub_one_eq_mod]
  show IntKind.i64.wrap ((BitVec.ofInt 64 n &&& BitVec.ofInt 64 7).toNat : Nat) = n % 8
  rw [key, IntKind.wrap_i64]
  omega

theorem and255 (n : Int) : bits .and .i64 n 255 = n % 256 := by
  have h : (BitVec.ofInt 64 255).toNat = 2 ^ 8 - 1 := by decide
  have key : (BitVec.ofInt 64 n &&& BitVec.ofInt 64 255).toNat = (n % ((2 ^ 64 : Nat) : Int)).toNat % 2 ^ 8 := by
    rw [BitVec.toNat_and, BitVec.toNat_ofInt, h, Nat.and_two_pow_sub_one_eq_mod]
  show IntKind.i64.wrap ((BitVec.ofInt 64 n &&& BitVec.ofInt 64 255).toNat : Nat) = n % 256
  rw [key, IntKind.wrap_i64]
  omega

theorem and1023 (n : Int) : bits .and .i64 n 1023 = n % 1024 := by
  have h : (BitVec.ofInt 64 1023).toNat = 2 ^ 10 - 1 := by decide
  have key : (BitVec.ofInt 64 n &&& BitVec.ofInt 64 1023).toNat = (n % ((2 ^ 64 : Nat) : Int)).toNat % 2 ^ 10 := by
    rw [BitVec.toNat_and, BitVec.toNat_ofInt, h, Nat.and_two_pow_sub_one_eq_mod]
  show IntKind.i64.wrap ((BitVec.ofInt 64 n &&& BitVec.ofInt 64 1023).toNat : Nat) = n % 1024
  rw [key, IntKind.wrap_i64]
  omega

theorem and65535 (n : Int) : bits .and .i64 n 65535 = n % 65536 := by
  have h : (BitVec.ofInt 64 65535).toNat = 2 ^ 16 - 1 := by decide
  have key : (BitVec.ofInt 64 n &&& BitVec.ofInt 64 65535).toNat = (n % ((2 ^ 64 : Nat) : Int)).toNat % 2 ^ 16 := by
    rw [BitVec.toNat_and, BitVec.toNat_ofInt, h, Nat.and_two_pow_sub_one_eq_mod]
  show IntKind.i64.wrap ((BitVec.ofInt 64 n &&& BitVec.ofInt 64 65535).toNat : Nat) = n % 65536
  rw [key, IntKind.wrap_i64]
  omega

end Go.Proofs.YtkddgpdlpjjpbaaGreat

/-
  THE WALK over choruslaw15.LockForms: it answers true, for every two numbers, and turns nothing that was there. No condition.
-/
namespace Go.Proofs.YtkddgpdlpjjpbaaGreat
open Go.RowKit

theorem seven (a : Int) : ∃ q : Int, (IntKind.u64.wrap a).tmod 7 = q ∧ 0 ≤ q ∧ q < 7 := by
  have h : 0 ≤ IntKind.u64.wrap a := by simp [IntKind.wrap, IntKind.bits, IntKind.signed]; omega
  rw [Int.tmod_eq_emod_of_nonneg h]
  exact ⟨_, rfl, by omega, by omega⟩
theorem there_not {M : Mc} {r g t : Int} (h : mayM M = false ∨ r < 0 ∨ M.c.r ≤ r ∨ g < 0 ∨ M.c.l ≤ g ∨ t < 0 ∨ M.c.t ≤ t) : thereB M r g t = false := by
  unfold thereB
  rcases h with h | h | h | h | h | h | h
  · rw [h]; rfl
  · rw [inB_off (b := M.c.r - 1) (.inl h)]; simp
  · rw [inB_off (b := M.c.r - 1) (.inr (by omega))]; simp
  · rw [inB_off (b := M.c.l - 1) (.inl h)]; simp
  · rw [inB_off (b := M.c.l - 1) (.inr (by omega))]; simp
  · rw [inB_off (b := M.c.t - 1) (.inl h)]; simp
  · rw [inB_off (b := M.c.t - 1) (.inr (by omega))]; simp
theorem try_not {M : Mc} {r g t : Int} (h : mayM M = false ∨ r < 0 ∨ M.c.r ≤ r ∨ g < 0 ∨ M.c.l ≤ g ∨ t < 0 ∨ M.c.t ≤ t) : tryM M r g t = (Mc.zero, false, 1500) := by
  unfold tryM
  rw [there_not h]
  rfl
theorem free_not {M : Mc} {r g : Int} (h : mayM M = false ∨ r < 0 ∨ M.c.r ≤ r ∨ g < 0 ∨ M.c.l ≤ g) : freeM M r g = (Mc.zero, 1500) := by
  unfold freeM
  rw [there_not (by rcases h with h | h | h | h | h; exact .inl h; exact .inr (.inl h); exact .inr (.inr (.inl h)); exact .inr (.inr (.inr (.inl h))); exact .inr (.inr (.inr (.inr (.inl h)))))]
  rfl
/-- A machine that begins, of four slots: fewer than two a thread. -/
def bg4 : Mc := { begM with c := ⟨2, 2, 2, 4, 4⟩ }
theorem bg4_not : mayM bg4 = false := by decide +kernel
theorem bg4_fit : FitM bg4 := ⟨beg_fit.rs, beg_fit.ps, beg_fit.ts, beg_fit.es, beg_fit.r, beg_fit.p, beg_fit.t⟩
theorem beg_free : freeM begM 1 1 = (begM, 0) := by decide +kernel
theorem has_zero (w : World) : HasM w machZ Mc.zero := (OwnA.zero w 0).has


set_option maxRecDepth 8000 in
set_option maxHeartbeats 4000000 in
theorem lkForms0 (w : World) (a0 a1 : Int) (hq : (IntKind.u64.wrap a0).tmod 7 = 0) : Calls Tryz.prog 4 #[.int .i64 a0, .int .i64 a1] w fun e w' => e = .returned (.bool true) ∧ Le w w' := by
  obtain ⟨m, hm, m0, m1⟩ : ∃ m, bits .and .i64 a1 1023 = m ∧ 0 ≤ m ∧ m ≤ 1023 := ⟨_, and1023 a1, by omega, by omega⟩
  obtain ⟨d, hd⟩ : ∃ d, 1 + m = d := ⟨_, rfl⟩
  obtain ⟨d0, d1⟩ : 1 ≤ d ∧ d ≤ 1024 := by omega
  have t1 := fun v w' (h : HasM w' v begM) => lockTryAs (M := begM) (r := (-d)) (g := 1) (t := 3) (try_not (.inr (.inl (by omega)))) v w' h beg_fit
  have t2 := fun v w' (h : HasM w' v begM) => lockFreeAs (M := begM) (r := (-d)) (g := 1) (free_not (.inr (.inl (by omega)))) v w' h beg_fit
  have hl := Le.refl w
  go_enter Tryz.func4, Tryz.ntmps4
  go_wp2_with fail
  refine (lawAwake15 _).mono ?_
  rintro e w0 ⟨rfl, l0⟩
  replace hl := hl.trans l0
  go_wp2_with fail
  refine (begun15 _).mono ?_
  rintro e w1 ⟨qR, qP, qT, qH, rfl, oM, l1⟩
  replace hl := hl.trans l1
  have hsw := hl.size
  have hbM := Box.new w1 (cells9 begC qR qP qT qH) 29
  have a1 := Le.alloc w1 (.cells (cells9 begC qR qP qT qH) 29)
  go_upto_region 5 with fail
  generalize hW1 : w1.alloc (.cells (cells9 begC qR qP qT qH) 29) = W1 at hbM a1 ⊢
  clear hW1
  have hggM : w1.heap.size ≤ w1.heap.size := Nat.le_refl _
  generalize hgg : w1.heap.size = gM at hbM hggM ⊢
  have hsgM : w1.heap.size ≤ gM := by omega
  clear hgg hggM
  replace hl := hl.trans a1
  replace oM := (oM.le a1).has
  clear a1 l0 l1
  go_upto_region 19 with fail
  clear hm
  obtain ⟨⟨y0, y1, y2, y3, y4⟩, y5, y6, y7, y8⟩ := (hbM).mach
  go_wp2_with fail
  refine (t1 _ _ oM).mono ?_
  rintro e w2 ⟨aR, aP, aT, aH, rfl, oA, l2⟩
  clear y0 y1 y2 y3 y4 y5 y6 y7 y8
  replace hl := hl.trans l2
  replace hbM := hbM.le l2
  replace oM := oM.le l2
  have hbA := Box.new w2 (cells9 Mc.zero.c aR aP aT aH) 29
  have a1 := Le.alloc w2 (.cells (cells9 Mc.zero.c aR aP aT aH) 29)
  go_upto_region 20 with fail
  generalize hW1 : w2.alloc (.cells (cells9 Mc.zero.c aR aP aT aH) 29) = V1 at hbA a1 ⊢
  clear hW1
  have hggA : w2.heap.size ≤ w2.heap.size := Nat.le_refl _
  generalize hgg : w2.heap.size = gA at hbA hggA ⊢
  have hsgA : w2.heap.size ≤ gA := by omega
  clear hgg hggA
  replace hl := hl.trans a1
  replace hbM := hbM.le a1
  replace oM := oM.le a1
  replace oA := oA.le a1
  clear a1 l2 t1
  obtain ⟨⟨y0, y1, y2, y3, y4⟩, y5, y6, y7, y8⟩ := (hbM).mach
  go_wp2_with fail
  refine (t2 _ _ oM).mono ?_
  rintro e w3 ⟨bR, bP, bT, bH, rfl, oB, l3⟩
  clear y0 y1 y2 y3 y4 y5 y6 y7 y8
  clear hbM oM t2
  replace hl := hl.trans l3
  replace hbA := hbA.le l3
  replace oA := oA.le l3
  have hbB := Box.new w3 (cells9 Mc.zero.c bR bP bT bH) 29
  have a1 := Le.alloc w3 (.cells (cells9 Mc.zero.c bR bP bT bH) 29)
  go_upto_region 21 with fail
  generalize hW1 : w3.alloc (.cells (cells9 Mc.zero.c bR bP bT bH) 29) = V2 at hbB a1 ⊢
  clear hW1
  have hggB : w3.heap.size ≤ w3.heap.size := Nat.le_refl _
  generalize hgg : w3.heap.size = gB at hbB hggB ⊢
  have hsgB : w3.heap.size ≤ gB := by omega
  clear hgg hggB
  replace hl := hl.trans a1
  replace hbA := hbA.le a1
  replace oA := oA.le a1
  replace oB := oB.le a1
  clear a1 l3
  have s1 := lawSameMachine _ _ Mc.zero Mc.zero V2 oA.has (has_zero V2) fitM_zero
  simp only [decide_true] at s1
  obtain ⟨⟨y0, y1, y2, y3, y4⟩, y5, y6, y7, y8⟩ := (hbA).mach
  obtain ⟨⟨z0, z1, z2, z3, z4⟩, z5, z6, z7, z8⟩ := (hbB).mach
  go_wp2_with fail
  refine s1.mono ?_
  rintro e w4 ⟨rfl, l4⟩
  clear y0 y1 y2 y3 y4 y5 y6 y7 y8 z0 z1 z2 z3 z4 z5 z6 z7 z8
  go_wp2_with fail
  refine (lawNum _ _).mono ?_
  rintro e _ ⟨rfl, rfl⟩
  go_wp2_with fail
  refine (lawNum _ _).mono ?_
  rintro e _ ⟨rfl, rfl⟩
  have s2 := lawSameMachine _ _ Mc.zero Mc.zero w4 (oB.has.le l4) (has_zero w4) fitM_zero
  simp only [decide_true] at s2
  obtain ⟨⟨y0, y1, y2, y3, y4⟩, y5, y6, y7, y8⟩ := (hbB.le l4).mach
  go_wp2_with fail
  refine s2.mono ?_
  rintro e w5 ⟨rfl, l5⟩
  clear y0 y1 y2 y3 y4 y5 y6 y7 y8
  go_wp2_with fail
  go_ret
  exact ⟨rfl, (hl.trans l4).trans l5⟩

set_option maxRecDepth 8000 in
set_option maxHeartbeats 4000000 in
theorem lkForms1 (w : World) (a0 a1 : Int) (hq : (IntKind.u64.wrap a0).tmod 7 = 1) : Calls Tryz.prog 4 #[.int .i64 a0, .int .i64 a1] w fun e w' => e = .returned (.bool true) ∧ Le w w' := by
  obtain ⟨m, hm, m0, m1⟩ : ∃ m, bits .and .i64 a1 1023 = m ∧ 0 ≤ m ∧ m ≤ 1023 := ⟨_, and1023 a1, by omega, by omega⟩
  obtain ⟨d, hd⟩ : ∃ d, 1 + m = d := ⟨_, rfl⟩
  obtain ⟨d0, d1⟩ : 1 ≤ d ∧ d ≤ 1024 := by omega
  have t1 := fun v w' (h : HasM w' v begM) => lockTryAs (M := begM) (r := (1 + d)) (g := 1) (t := 3) (try_not (.inr (.inr (.inl (by show (2 : Int) ≤ _; omega))))) v w' h beg_fit
  have t2 := fun v w' (h : HasM w' v begM) => lockFreeAs (M := begM) (r := (1 + d)) (g := 1) (free_not (.inr (.inr (.inl (by show (2 : Int) ≤ _; omega))))) v w' h beg_fit
  have hl := Le.refl w
  go_enter Tryz.func4, Tryz.ntmps4
  go_wp2_with fail
  refine (lawAwake15 _).mono ?_
  rintro e w0 ⟨rfl, l0⟩
  replace hl := hl.trans l0
  go_wp2_with fail
  refine (begun15 _).mono ?_
  rintro e w1 ⟨qR, qP, qT, qH, rfl, oM, l1⟩
  replace hl := hl.trans l1
  have hsw := hl.size
  have hbM := Box.new w1 (cells9 begC qR qP qT qH) 29
  have a1 := Le.alloc w1 (.cells (cells9 begC qR qP qT qH) 29)
  go_upto_region 5 with fail
  generalize hW1 : w1.alloc (.cells (cells9 begC qR qP qT qH) 29) = W1 at hbM a1 ⊢
  clear hW1
  have hggM : w1.heap.size ≤ w1.heap.size := Nat.le_refl _
  generalize hgg : w1.heap.size = gM at hbM hggM ⊢
  have hsgM : w1.heap.size ≤ gM := by omega
  clear hgg hggM
  replace hl := hl.trans a1
  replace oM := (oM.le a1).has
  clear a1 l0 l1
  go_upto_region 19 with fail
  clear hm
  obtain ⟨⟨y0, y1, y2, y3, y4⟩, y5, y6, y7, y8⟩ := (hbM).mach
  go_wp2_with fail
  refine (t1 _ _ oM).mono ?_
  rintro e w2 ⟨aR, aP, aT, aH, rfl, oA, l2⟩
  clear y0 y1 y2 y3 y4 y5 y6 y7 y8
  replace hl := hl.trans l2
  replace hbM := hbM.le l2
  replace oM := oM.le l2
  have hbA := Box.new w2 (cells9 Mc.zero.c aR aP aT aH) 29
  have a1 := Le.alloc w2 (.cells (cells9 Mc.zero.c aR aP aT aH) 29)
  go_upto_region 20 with fail
  generalize hW1 : w2.alloc (.cells (cells9 Mc.zero.c aR aP aT aH) 29) = V1 at hbA a1 ⊢
  clear hW1
  have hggA : w2.heap.size ≤ w2.heap.size := Nat.le_refl _
  generalize hgg : w2.heap.size = gA at hbA hggA ⊢
  have hsgA : w2.heap.size ≤ gA := by omega
  clear hgg hggA
  replace hl := hl.trans a1
  replace hbM := hbM.le a1
  replace oM := oM.le a1
  replace oA := oA.le a1
  clear a1 l2 t1
  obtain ⟨⟨y0, y1, y2, y3, y4⟩, y5, y6, y7, y8⟩ := (hbM).mach
  go_wp2_with fail
  refine (t2 _ _ oM).mono ?_
  rintro e w3 ⟨bR, bP, bT, bH, rfl, oB, l3⟩
  clear y0 y1 y2 y3 y4 y5 y6 y7 y8
  clear hbM oM t2
  replace hl := hl.trans l3
  replace hbA := hbA.le l3
  replace oA := oA.le l3
  have hbB := Box.new w3 (cells9 Mc.zero.c bR bP bT bH) 29
  have a1 := Le.alloc w3 (.cells (cells9 Mc.zero.c bR bP bT bH) 29)
  go_upto_region 21 with fail
  generalize hW1 : w3.alloc (.cells (cells9 Mc.zero.c bR bP bT bH) 29) = V2 at hbB a1 ⊢
  clear hW1
  have hggB : w3.heap.size ≤ w3.heap.size := Nat.le_refl _
  generalize hgg : w3.heap.size = gB at hbB hggB ⊢
  have hsgB : w3.heap.size ≤ gB := by omega
  clear hgg hggB
  replace hl := hl.trans a1
  replace hbA := hbA.le a1
  replace oA := oA.le a1
  replace oB := oB.le a1
  clear a1 l3
  have s1 := lawSameMachine _ _ Mc.zero Mc.zero V2 oA.has (has_zero V2) fitM_zero
  simp only [decide_true] at s1
  obtain ⟨⟨y0, y1, y2, y3, y4⟩, y5, y6, y7, y8⟩ := (hbA).mach
  obtain ⟨⟨z0, z1, z2, z3, z4⟩, z5, z6, z7, z8⟩ := (hbB).mach
  go_wp2_with fail
  refine s1.mono ?_
  rintro e w4 ⟨rfl, l4⟩
  clear y0 y1 y2 y3 y4 y5 y6 y7 y8 z0 z1 z2 z3 z4 z5 z6 z7 z8
  go_wp2_with fail
  refine (lawNum _ _).mono ?_
  rintro e _ ⟨rfl, rfl⟩
  go_wp2_with fail
  refine (lawNum _ _).mono ?_
  rintro e _ ⟨rfl, rfl⟩
  have s2 := lawSameMachine _ _ Mc.zero Mc.zero w4 (oB.has.le l4) (has_zero w4) fitM_zero
  simp only [decide_true] at s2
  obtain ⟨⟨y0, y1, y2, y3, y4⟩, y5, y6, y7, y8⟩ := (hbB.le l4).mach
  go_wp2_with fail
  refine s2.mono ?_
  rintro e w5 ⟨rfl, l5⟩
  clear y0 y1 y2 y3 y4 y5 y6 y7 y8
  go_wp2_with fail
  go_ret
  exact ⟨rfl, (hl.trans l4).trans l5⟩

set_option maxRecDepth 8000 in
set_option maxHeartbeats 4000000 in
theorem lkForms2 (w : World) (a0 a1 : Int) (hq : (IntKind.u64.wrap a0).tmod 7 = 2) : Calls Tryz.prog 4 #[.int .i64 a0, .int .i64 a1] w fun e w' => e = .returned (.bool true) ∧ Le w w' := by
  obtain ⟨m, hm, m0, m1⟩ : ∃ m, bits .and .i64 a1 1023 = m ∧ 0 ≤ m ∧ m ≤ 1023 := ⟨_, and1023 a1, by omega, by omega⟩
  obtain ⟨d, hd⟩ : ∃ d, 1 + m = d := ⟨_, rfl⟩
  obtain ⟨d0, d1⟩ : 1 ≤ d ∧ d ≤ 1024 := by omega
  have t1 := fun v w' (h : HasM w' v begM) => lockTryAs (M := begM) (r := 1) (g := (-d)) (t := 3) (try_not (.inr (.inr (.inr (.inl (by omega)))))) v w' h beg_fit
  have t2 := fun v w' (h : HasM w' v begM) => lockFreeAs (M := begM) (r := 1) (g := (-d)) (free_not (.inr (.inr (.inr (.inl (by omega)))))) v w' h beg_fit
  have hl := Le.refl w
  go_enter Tryz.func4, Tryz.ntmps4
  go_wp2_with fail
  refine (lawAwake15 _).mono ?_
  rintro e w0 ⟨rfl, l0⟩
  replace hl := hl.trans l0
  go_wp2_with fail
  refine (begun15 _).mono ?_
  rintro e w1 ⟨qR, qP, qT, qH, rfl, oM, l1⟩
  replace hl := hl.trans l1
  have hsw := hl.size
  have hbM := Box.new w1 (cells9 begC qR qP qT qH) 29
  have a1 := Le.alloc w1 (.cells (cells9 begC qR qP qT qH) 29)
  go_upto_region 5 with fail
  generalize hW1 : w1.alloc (.cells (cells9 begC qR qP qT qH) 29) = W1 at hbM a1 ⊢
  clear hW1
  have hggM : w1.heap.size ≤ w1.heap.size := Nat.le_refl _
  generalize hgg : w1.heap.size = gM at hbM hggM ⊢
  have hsgM : w1.heap.size ≤ gM := by omega
  clear hgg hggM
  replace hl := hl.trans a1
  replace oM := (oM.le a1).has
  clear a1 l0 l1
  go_upto_region 19 with fail
  clear hm
  obtain ⟨⟨y0, y1, y2, y3, y4⟩, y5, y6, y7, y8⟩ := (hbM).mach
  go_wp2_with fail
  refine (t1 _ _ oM).mono ?_
  rintro e w2 ⟨aR, aP, aT, aH, rfl, oA, l2⟩
  clear y0 y1 y2 y3 y4 y5 y6 y7 y8
  replace hl := hl.trans l2
  replace hbM := hbM.le l2
  replace oM := oM.le l2
  have hbA := Box.new w2 (cells9 Mc.zero.c aR aP aT aH) 29
  have a1 := Le.alloc w2 (.cells (cells9 Mc.zero.c aR aP aT aH) 29)
  go_upto_region 20 with fail
  generalize hW1 : w2.alloc (.cells (cells9 Mc.zero.c aR aP aT aH) 29) = V1 at hbA a1 ⊢
  clear hW1
  have hggA : w2.heap.size ≤ w2.heap.size := Nat.le_refl _
  generalize hgg : w2.heap.size = gA at hbA hggA ⊢
  have hsgA : w2.heap.size ≤ gA := by omega
  clear hgg hggA
  replace hl := hl.trans a1
  replace hbM := hbM.le a1
  replace oM := oM.le a1
  replace oA := oA.le a1
  clear a1 l2 t1
  obtain ⟨⟨y0, y1, y2, y3, y4⟩, y5, y6, y7, y8⟩ := (hbM).mach
  go_wp2_with fail
  refine (t2 _ _ oM).mono ?_
  rintro e w3 ⟨bR, bP, bT, bH, rfl, oB, l3⟩
  clear y0 y1 y2 y3 y4 y5 y6 y7 y8
  clear hbM oM t2
  replace hl := hl.trans l3
  replace hbA := hbA.le l3
  replace oA := oA.le l3
  have hbB := Box.new w3 (cells9 Mc.zero.c bR bP bT bH) 29
  have a1 := Le.alloc w3 (.cells (cells9 Mc.zero.c bR bP bT bH) 29)
  go_upto_region 21 with fail
  generalize hW1 : w3.alloc (.cells (cells9 Mc.zero.c bR bP bT bH) 29) = V2 at hbB a1 ⊢
  clear hW1
  have hggB : w3.heap.size ≤ w3.heap.size := Nat.le_refl _
  generalize hgg : w3.heap.size = gB at hbB hggB ⊢
  have hsgB : w3.heap.size ≤ gB := by omega
  clear hgg hggB
  replace hl := hl.trans a1
  replace hbA := hbA.le a1
  replace oA := oA.le a1
  replace oB := oB.le a1
  clear a1 l3
  have s1 := lawSameMachine _ _ Mc.zero Mc.zero V2 oA.has (has_zero V2) fitM_zero
  simp only [decide_true] at s1
  obtain ⟨⟨y0, y1, y2, y3, y4⟩, y5, y6, y7, y8⟩ := (hbA).mach
  obtain ⟨⟨z0, z1, z2, z3, z4⟩, z5, z6, z7, z8⟩ := (hbB).mach
  go_wp2_with fail
  refine s1.mono ?_
  rintro e w4 ⟨rfl, l4⟩
  clear y0 y1 y2 y3 y4 y5 y6 y7 y8 z0 z1 z2 z3 z4 z5 z6 z7 z8
  go_wp2_with fail
  refine (lawNum _ _).mono ?_
  rintro e _ ⟨rfl, rfl⟩
  go_wp2_with fail
  refine (lawNum _ _).mono ?_
  rintro e _ ⟨rfl, rfl⟩
  have s2 := lawSameMachine _ _ Mc.zero Mc.zero w4 (oB.has.le l4) (has_zero w4) fitM_zero
  simp only [decide_true] at s2
  obtain ⟨⟨y0, y1, y2, y3, y4⟩, y5, y6, y7, y8⟩ := (hbB.le l4).mach
  go_wp2_with fail
  refine s2.mono ?_
  rintro e w5 ⟨rfl, l5⟩
  clear y0 y1 y2 y3 y4 y5 y6 y7 y8
  go_wp2_with fail
  go_ret
  exact ⟨rfl, (hl.trans l4).trans l5⟩

set_option maxRecDepth 8000 in
set_option maxHeartbeats 4000000 in
theorem lkForms3 (w : World) (a0 a1 : Int) (hq : (IntKind.u64.wrap a0).tmod 7 = 3) : Calls Tryz.prog 4 #[.int .i64 a0, .int .i64 a1] w fun e w' => e = .returned (.bool true) ∧ Le w w' := by
  obtain ⟨m, hm, m0, m1⟩ : ∃ m, bits .and .i64 a1 1023 = m ∧ 0 ≤ m ∧ m ≤ 1023 := ⟨_, and1023 a1, by omega, by omega⟩
  obtain ⟨d, hd⟩ : ∃ d, 1 + m = d := ⟨_, rfl⟩
  obtain ⟨d0, d1⟩ : 1 ≤ d ∧ d ≤ 1024 := by omega
  have t1 := fun v w' (h : HasM w' v begM) => lockTryAs (M := begM) (r := 1) (g := (1 + d)) (t := 3) (try_not (.inr (.inr (.inr (.inr (.inl (by show (2 : Int) ≤ _; omega))))))) v w' h beg_fit
  have t2 := fun v w' (h : HasM w' v begM) => lockFreeAs (M := begM) (r := 1) (g := (1 + d)) (free_not (.inr (.inr (.inr (.inr (by show (2 : Int) ≤ _; omega)))))) v w' h beg_fit
  have hl := Le.refl w
  go_enter Tryz.func4, Tryz.ntmps4
  go_wp2_with fail
  refine (lawAwake15 _).mono ?_
  rintro e w0 ⟨rfl, l0⟩
  replace hl := hl.trans l0
  go_wp2_with fail
  refine (begun15 _).mono ?_
  rintro e w1 ⟨qR, qP, qT, qH, rfl, oM, l1⟩
  replace hl := hl.trans l1
  have hsw := hl.size
  have hbM := Box.new w1 (cells9 begC qR qP qT qH) 29
  have a1 := Le.alloc w1 (.cells (cells9 begC qR qP qT qH) 29)
  go_upto_region 5 with fail
  generalize hW1 : w1.alloc (.cells (cells9 begC qR qP qT qH) 29) = W1 at hbM a1 ⊢
  clear hW1
  have hggM : w1.heap.size ≤ w1.heap.size := Nat.le_refl _
  generalize hgg : w1.heap.size = gM at hbM hggM ⊢
  have hsgM : w1.heap.size ≤ gM := by omega
  clear hgg hggM
  replace hl := hl.trans a1
  replace oM := (oM.le a1).has
  clear a1 l0 l1
  go_upto_region 19 with fail
  clear hm
  obtain ⟨⟨y0, y1, y2, y3, y4⟩, y5, y6, y7, y8⟩ := (hbM).mach
  go_wp2_with fail
  refine (t1 _ _ oM).mono ?_
  rintro e w2 ⟨aR, aP, aT, aH, rfl, oA, l2⟩
  clear y0 y1 y2 y3 y4 y5 y6 y7 y8
  replace hl := hl.trans l2
  replace hbM := hbM.le l2
  replace oM := oM.le l2
  have hbA := Box.new w2 (cells9 Mc.zero.c aR aP aT aH) 29
  have a1 := Le.alloc w2 (.cells (cells9 Mc.zero.c aR aP aT aH) 29)
  go_upto_region 20 with fail
  generalize hW1 : w2.alloc (.cells (cells9 Mc.zero.c aR aP aT aH) 29) = V1 at hbA a1 ⊢
  clear hW1
  have hggA : w2.heap.size ≤ w2.heap.size := Nat.le_refl _
  generalize hgg : w2.heap.size = gA at hbA hggA ⊢
  have hsgA : w2.heap.size ≤ gA := by omega
  clear hgg hggA
  replace hl := hl.trans a1
  replace hbM := hbM.le a1
  replace oM := oM.le a1
  replace oA := oA.le a1
  clear a1 l2 t1
  obtain ⟨⟨y0, y1, y2, y3, y4⟩, y5, y6, y7, y8⟩ := (hbM).mach
  go_wp2_with fail
  refine (t2 _ _ oM).mono ?_
  rintro e w3 ⟨bR, bP, bT, bH, rfl, oB, l3⟩
  clear y0 y1 y2 y3 y4 y5 y6 y7 y8
  clear hbM oM t2
  replace hl := hl.trans l3
  replace hbA := hbA.le l3
  replace oA := oA.le l3
  have hbB := Box.new w3 (cells9 Mc.zero.c bR bP bT bH) 29
  have a1 := Le.alloc w3 (.cells (cells9 Mc.zero.c bR bP bT bH) 29)
  go_upto_region 21 with fail
  generalize hW1 : w3.alloc (.cells (cells9 Mc.zero.c bR bP bT bH) 29) = V2 at hbB a1 ⊢
  clear hW1
  have hggB : w3.heap.size ≤ w3.heap.size := Nat.le_refl _
  generalize hgg : w3.heap.size = gB at hbB hggB ⊢
  have hsgB : w3.heap.size ≤ gB := by omega
  clear hgg hggB
  replace hl := hl.trans a1
  replace hbA := hbA.le a1
  replace oA := oA.le a1
  replace oB := oB.le a1
  clear a1 l3
  have s1 := lawSameMachine _ _ Mc.zero Mc.zero V2 oA.has (has_zero V2) fitM_zero
  simp only [decide_true] at s1
  obtain ⟨⟨y0, y1, y2, y3, y4⟩, y5, y6, y7, y8⟩ := (hbA).mach
  obtain ⟨⟨z0, z1, z2, z3, z4⟩, z5, z6, z7, z8⟩ := (hbB).mach
  go_wp2_with fail
  refine s1.mono ?_
  rintro e w4 ⟨rfl, l4⟩
  clear y0 y1 y2 y3 y4 y5 y6 y7 y8 z0 z1 z2 z3 z4 z5 z6 z7 z8
  go_wp2_with fail
  refine (lawNum _ _).mono ?_
  rintro e _ ⟨rfl, rfl⟩
  go_wp2_with fail
  refine (lawNum _ _).mono ?_
  rintro e _ ⟨rfl, rfl⟩
  have s2 := lawSameMachine _ _ Mc.zero Mc.zero w4 (oB.has.le l4) (has_zero w4) fitM_zero
  simp only [decide_true] at s2
  obtain ⟨⟨y0, y1, y2, y3, y4⟩, y5, y6, y7, y8⟩ := (hbB.le l4).mach
  go_wp2_with fail
  refine s2.mono ?_
  rintro e w5 ⟨rfl, l5⟩
  clear y0 y1 y2 y3 y4 y5 y6 y7 y8
  go_wp2_with fail
  go_ret
  exact ⟨rfl, (hl.trans l4).trans l5⟩

set_option maxRecDepth 8000 in
set_option maxHeartbeats 4000000 in
theorem lkForms4 (w : World) (a0 a1 : Int) (hq : (IntKind.u64.wrap a0).tmod 7 = 4) : Calls Tryz.prog 4 #[.int .i64 a0, .int .i64 a1] w fun e w' => e = .returned (.bool true) ∧ Le w w' := by
  obtain ⟨m, hm, m0, m1⟩ : ∃ m, bits .and .i64 a1 1023 = m ∧ 0 ≤ m ∧ m ≤ 1023 := ⟨_, and1023 a1, by omega, by omega⟩
  obtain ⟨d, hd⟩ : ∃ d, 1 + m = d := ⟨_, rfl⟩
  obtain ⟨d0, d1⟩ : 1 ≤ d ∧ d ≤ 1024 := by omega
  have t1 := fun v w' (h : HasM w' v bg4) => lockTryAs (M := bg4) (r := 1) (g := 1) (t := 3) (try_not (.inl bg4_not)) v w' h bg4_fit
  have t2 := fun v w' (h : HasM w' v bg4) => lockFreeAs (M := bg4) (r := 1) (g := 1) (free_not (.inl bg4_not)) v w' h bg4_fit
  have hl := Le.refl w
  go_enter Tryz.func4, Tryz.ntmps4
  go_wp2_with fail
  refine (lawAwake15 _).mono ?_
  rintro e w0 ⟨rfl, l0⟩
  replace hl := hl.trans l0
  go_wp2_with fail
  refine (begun15 _).mono ?_
  rintro e w1 ⟨qR, qP, qT, qH, rfl, oM, l1⟩
  replace hl := hl.trans l1
  have hsw := hl.size
  have hbM := Box.new w1 (cells9 begC qR qP qT qH) 29
  have a1 := Le.alloc w1 (.cells (cells9 begC qR qP qT qH) 29)
  go_upto_region 5 with fail
  generalize hW1 : w1.alloc (.cells (cells9 begC qR qP qT qH) 29) = W1 at hbM a1 ⊢
  clear hW1
  have hggM : w1.heap.size ≤ w1.heap.size := Nat.le_refl _
  generalize hgg : w1.heap.size = gM at hbM hggM ⊢
  have hsgM : w1.heap.size ≤ gM := by omega
  clear hgg hggM
  replace hl := hl.trans a1
  replace oM := oM.le a1
  clear a1 l0 l1
  have k4 := hbM.frozen 4
  have c4 := hbM.cell 4
  simp only [List.getElem?_toArray, List.getElem?_cons_succ, List.getElem?_cons_zero] at c4
  have hM4 : HasM (W1.setCell ⟨gM, 4, none⟩ (.int .i64 4)) (machV ⟨2, 2, 2, 4, 4⟩ qR qP qT qH) bg4 := ((oM.setM (i := 4) (u := .int .i64 4) hbM).has).reC
  have hb4 : Box (W1.setCell ⟨gM, 4, none⟩ (.int .i64 4)) gM (cells9 ⟨2, 2, 2, 4, 4⟩ qR qP qT qH) 29 := hbM.set 4 _
  have hl4 : Le w (W1.setCell ⟨gM, 4, none⟩ (.int .i64 4)) := hl.set (by omega)
  go_upto_region 19 with fail
  clear hm
  clear k4 c4 oM hbM hl
  generalize hW4 : W1.setCell ⟨gM, 4, none⟩ (.int .i64 4) = W2 at hb4 hl4 hM4 ⊢
  clear hW4
  have hl := hl4
  have hbM := hb4
  have oM := hM4
  clear hl4 hb4 hM4
  obtain ⟨⟨y0, y1, y2, y3, y4⟩, y5, y6, y7, y8⟩ := (hbM).mach
  go_wp2_with fail
  refine (t1 _ _ oM).mono ?_
  rintro e w2 ⟨aR, aP, aT, aH, rfl, oA, l2⟩
  clear y0 y1 y2 y3 y4 y5 y6 y7 y8
  replace hl := hl.trans l2
  replace hbM := hbM.le l2
  replace oM := oM.le l2
  have hbA := Box.new w2 (cells9 Mc.zero.c aR aP aT aH) 29
  have a1 := Le.alloc w2 (.cells (cells9 Mc.zero.c aR aP aT aH) 29)
  go_upto_region 20 with fail
  generalize hW1 : w2.alloc (.cells (cells9 Mc.zero.c aR aP aT aH) 29) = V1 at hbA a1 ⊢
  clear hW1
  have hggA : w2.heap.size ≤ w2.heap.size := Nat.le_refl _
  generalize hgg : w2.heap.size = gA at hbA hggA ⊢
  have hsgA : w2.heap.size ≤ gA := by omega
  clear hgg hggA
  replace hl := hl.trans a1
  replace hbM := hbM.le a1
  replace oM := oM.le a1
  replace oA := oA.le a1
  clear a1 l2 t1
  obtain ⟨⟨y0, y1, y2, y3, y4⟩, y5, y6, y7, y8⟩ := (hbM).mach
  go_wp2_with fail
  refine (t2 _ _ oM).mono ?_
  rintro e w3 ⟨bR, bP, bT, bH, rfl, oB, l3⟩
  clear y0 y1 y2 y3 y4 y5 y6 y7 y8
  clear hbM oM t2
  replace hl := hl.trans l3
  replace hbA := hbA.le l3
  replace oA := oA.le l3
  have hbB := Box.new w3 (cells9 Mc.zero.c bR bP bT bH) 29
  have a1 := Le.alloc w3 (.cells (cells9 Mc.zero.c bR bP bT bH) 29)
  go_upto_region 21 with fail
  generalize hW1 : w3.alloc (.cells (cells9 Mc.zero.c bR bP bT bH) 29) = V2 at hbB a1 ⊢
  clear hW1
  have hggB : w3.heap.size ≤ w3.heap.size := Nat.le_refl _
  generalize hgg : w3.heap.size = gB at hbB hggB ⊢
  have hsgB : w3.heap.size ≤ gB := by omega
  clear hgg hggB
  replace hl := hl.trans a1
  replace hbA := hbA.le a1
  replace oA := oA.le a1
  replace oB := oB.le a1
  clear a1 l3
  have s1 := lawSameMachine _ _ Mc.zero Mc.zero V2 oA.has (has_zero V2) fitM_zero
  simp only [decide_true] at s1
  obtain ⟨⟨y0, y1, y2, y3, y4⟩, y5, y6, y7, y8⟩ := (hbA).mach
  obtain ⟨⟨z0, z1, z2, z3, z4⟩, z5, z6, z7, z8⟩ := (hbB).mach
  go_wp2_with fail
  refine s1.mono ?_
  rintro e w4 ⟨rfl, l4⟩
  clear y0 y1 y2 y3 y4 y5 y6 y7 y8 z0 z1 z2 z3 z4 z5 z6 z7 z8
  go_wp2_with fail
  refine (lawNum _ _).mono ?_
  rintro e _ ⟨rfl, rfl⟩
  go_wp2_with fail
  refine (lawNum _ _).mono ?_
  rintro e _ ⟨rfl, rfl⟩
  have s2 := lawSameMachine _ _ Mc.zero Mc.zero w4 (oB.has.le l4) (has_zero w4) fitM_zero
  simp only [decide_true] at s2
  obtain ⟨⟨y0, y1, y2, y3, y4⟩, y5, y6, y7, y8⟩ := (hbB.le l4).mach
  go_wp2_with fail
  refine s2.mono ?_
  rintro e w5 ⟨rfl, l5⟩
  clear y0 y1 y2 y3 y4 y5 y6 y7 y8
  go_wp2_with fail
  go_ret
  exact ⟨rfl, (hl.trans l4).trans l5⟩

set_option maxRecDepth 8000 in
set_option maxHeartbeats 4000000 in
theorem lkForms5 (w : World) (a0 a1 : Int) (hq : (IntKind.u64.wrap a0).tmod 7 = 5) : Calls Tryz.prog 4 #[.int .i64 a0, .int .i64 a1] w fun e w' => e = .returned (.bool true) ∧ Le w w' := by
  obtain ⟨m, hm, m0, m1⟩ : ∃ m, bits .and .i64 a1 1023 = m ∧ 0 ≤ m ∧ m ≤ 1023 := ⟨_, and1023 a1, by omega, by omega⟩
  obtain ⟨d, hd⟩ : ∃ d, 1 + m = d := ⟨_, rfl⟩
  obtain ⟨d0, d1⟩ : 1 ≤ d ∧ d ≤ 1024 := by omega
  have t1 := fun v w' (h : HasM w' v begM) => lockTryAs (M := begM) (r := 1) (g := 1) (t := (-d)) (try_not (.inr (.inr (.inr (.inr (.inr (.inl (by omega)))))))) v w' h beg_fit
  have t2 := fun v w' (h : HasM w' v begM) => lockFreeAs beg_free v w' h beg_fit
  have hl := Le.refl w
  go_enter Tryz.func4, Tryz.ntmps4
  go_wp2_with fail
  refine (lawAwake15 _).mono ?_
  rintro e w0 ⟨rfl, l0⟩
  replace hl := hl.trans l0
  go_wp2_with fail
  refine (begun15 _).mono ?_
  rintro e w1 ⟨qR, qP, qT, qH, rfl, oM, l1⟩
  replace hl := hl.trans l1
  have hsw := hl.size
  have hbM := Box.new w1 (cells9 begC qR qP qT qH) 29
  have a1 := Le.alloc w1 (.cells (cells9 begC qR qP qT qH) 29)
  go_upto_region 5 with fail
  generalize hW1 : w1.alloc (.cells (cells9 begC qR qP qT qH) 29) = W1 at hbM a1 ⊢
  clear hW1
  have hggM : w1.heap.size ≤ w1.heap.size := Nat.le_refl _
  generalize hgg : w1.heap.size = gM at hbM hggM ⊢
  have hsgM : w1.heap.size ≤ gM := by omega
  clear hgg hggM
  replace hl := hl.trans a1
  replace oM := (oM.le a1).has
  clear a1 l0 l1
  go_upto_region 19 with fail
  clear hm
  obtain ⟨⟨y0, y1, y2, y3, y4⟩, y5, y6, y7, y8⟩ := (hbM).mach
  go_wp2_with fail
  refine (t1 _ _ oM).mono ?_
  rintro e w2 ⟨aR, aP, aT, aH, rfl, oA, l2⟩
  clear y0 y1 y2 y3 y4 y5 y6 y7 y8
  replace hl := hl.trans l2
  replace hbM := hbM.le l2
  replace oM := oM.le l2
  have hbA := Box.new w2 (cells9 Mc.zero.c aR aP aT aH) 29
  have a1 := Le.alloc w2 (.cells (cells9 Mc.zero.c aR aP aT aH) 29)
  go_upto_region 20 with fail
  generalize hW1 : w2.alloc (.cells (cells9 Mc.zero.c aR aP aT aH) 29) = V1 at hbA a1 ⊢
  clear hW1
  have hggA : w2.heap.size ≤ w2.heap.size := Nat.le_refl _
  generalize hgg : w2.heap.size = gA at hbA hggA ⊢
  have hsgA : w2.heap.size ≤ gA := by omega
  clear hgg hggA
  replace hl := hl.trans a1
  replace hbM := hbM.le a1
  replace oM := oM.le a1
  replace oA := oA.le a1
  clear a1 l2 t1
  obtain ⟨⟨y0, y1, y2, y3, y4⟩, y5, y6, y7, y8⟩ := (hbM).mach
  go_wp2_with fail
  refine (t2 _ _ oM).mono ?_
  rintro e w3 ⟨bR, bP, bT, bH, rfl, oB, l3⟩
  clear y0 y1 y2 y3 y4 y5 y6 y7 y8
  clear hbM oM t2
  replace hl := hl.trans l3
  replace hbA := hbA.le l3
  replace oA := oA.le l3
  have hbB := Box.new w3 (cells9 begM.c bR bP bT bH) 29
  have a1 := Le.alloc w3 (.cells (cells9 begM.c bR bP bT bH) 29)
  go_upto_region 21 with fail
  generalize hW1 : w3.alloc (.cells (cells9 begM.c bR bP bT bH) 29) = V2 at hbB a1 ⊢
  clear hW1
  have hggB : w3.heap.size ≤ w3.heap.size := Nat.le_refl _
  generalize hgg : w3.heap.size = gB at hbB hggB ⊢
  have hsgB : w3.heap.size ≤ gB := by omega
  clear hgg hggB
  replace hl := hl.trans a1
  replace hbA := hbA.le a1
  replace oA := oA.le a1
  replace oB := oB.le a1
  clear a1 l3
  have s1 := lawSameMachine _ _ Mc.zero Mc.zero V2 oA.has (has_zero V2) fitM_zero
  simp only [decide_true] at s1
  obtain ⟨⟨y0, y1, y2, y3, y4⟩, y5, y6, y7, y8⟩ := (hbA).mach
  obtain ⟨⟨z0, z1, z2, z3, z4⟩, z5, z6, z7, z8⟩ := (hbB).mach
  go_wp2_with fail
  refine s1.mono ?_
  rintro e w4 ⟨rfl, l4⟩
  clear y0 y1 y2 y3 y4 y5 y6 y7 y8 z0 z1 z2 z3 z4 z5 z6 z7 z8
  go_wp2_with fail
  refine (lawNum _ _).mono ?_
  rintro e _ ⟨rfl, rfl⟩
  go_wp2_with fail
  refine (lawNum _ _).mono ?_
  rintro e _ ⟨rfl, rfl⟩
  go_wp2_with fail
  go_ret
  exact ⟨rfl, hl.trans l4⟩

set_option maxRecDepth 8000 in
set_option maxHeartbeats 4000000 in
theorem lkForms6 (w : World) (a0 a1 : Int) (hq : (IntKind.u64.wrap a0).tmod 7 = 6) : Calls Tryz.prog 4 #[.int .i64 a0, .int .i64 a1] w fun e w' => e = .returned (.bool true) ∧ Le w w' := by
  obtain ⟨m, hm, m0, m1⟩ : ∃ m, bits .and .i64 a1 1023 = m ∧ 0 ≤ m ∧ m ≤ 1023 := ⟨_, and1023 a1, by omega, by omega⟩
  obtain ⟨d, hd⟩ : ∃ d, 1 + m = d := ⟨_, rfl⟩
  obtain ⟨d0, d1⟩ : 1 ≤ d ∧ d ≤ 1024 := by omega
  have t1 := fun v w' (h : HasM w' v begM) => lockTryAs (M := begM) (r := 1) (g := 1) (t := (3 + d)) (try_not (.inr (.inr (.inr (.inr (.inr (.inr (by show (4 : Int) ≤ _; omega)))))))) v w' h beg_fit
  have t2 := fun v w' (h : HasM w' v begM) => lockFreeAs beg_free v w' h beg_fit
  have hl := Le.refl w
  go_enter Tryz.func4, Tryz.ntmps4
  go_wp2_with fail
  refine (lawAwake15 _).mono ?_
  rintro e w0 ⟨rfl, l0⟩
  replace hl := hl.trans l0
  go_wp2_with fail
  refine (begun15 _).mono ?_
  rintro e w1 ⟨qR, qP, qT, qH, rfl, oM, l1⟩
  replace hl := hl.trans l1
  have hsw := hl.size
  have hbM := Box.new w1 (cells9 begC qR qP qT qH) 29
  have a1 := Le.alloc w1 (.cells (cells9 begC qR qP qT qH) 29)
  go_upto_region 5 with fail
  generalize hW1 : w1.alloc (.cells (cells9 begC qR qP qT qH) 29) = W1 at hbM a1 ⊢
  clear hW1
  have hggM : w1.heap.size ≤ w1.heap.size := Nat.le_refl _
  generalize hgg : w1.heap.size = gM at hbM hggM ⊢
  have hsgM : w1.heap.size ≤ gM := by omega
  clear hgg hggM
  replace hl := hl.trans a1
  replace oM := (oM.le a1).has
  clear a1 l0 l1
  go_upto_region 19 with fail
  clear hm
  obtain ⟨⟨y0, y1, y2, y3, y4⟩, y5, y6, y7, y8⟩ := (hbM).mach
  go_wp2_with fail
  refine (t1 _ _ oM).mono ?_
  rintro e w2 ⟨aR, aP, aT, aH, rfl, oA, l2⟩
  clear y0 y1 y2 y3 y4 y5 y6 y7 y8
  replace hl := hl.trans l2
  replace hbM := hbM.le l2
  replace oM := oM.le l2
  have hbA := Box.new w2 (cells9 Mc.zero.c aR aP aT aH) 29
  have a1 := Le.alloc w2 (.cells (cells9 Mc.zero.c aR aP aT aH) 29)
  go_upto_region 20 with fail
  generalize hW1 : w2.alloc (.cells (cells9 Mc.zero.c aR aP aT aH) 29) = V1 at hbA a1 ⊢
  clear hW1
  have hggA : w2.heap.size ≤ w2.heap.size := Nat.le_refl _
  generalize hgg : w2.heap.size = gA at hbA hggA ⊢
  have hsgA : w2.heap.size ≤ gA := by omega
  clear hgg hggA
  replace hl := hl.trans a1
  replace hbM := hbM.le a1
  replace oM := oM.le a1
  replace oA := oA.le a1
  clear a1 l2 t1
  obtain ⟨⟨y0, y1, y2, y3, y4⟩, y5, y6, y7, y8⟩ := (hbM).mach
  go_wp2_with fail
  refine (t2 _ _ oM).mono ?_
  rintro e w3 ⟨bR, bP, bT, bH, rfl, oB, l3⟩
  clear y0 y1 y2 y3 y4 y5 y6 y7 y8
  clear hbM oM t2
  replace hl := hl.trans l3
  replace hbA := hbA.le l3
  replace oA := oA.le l3
  have hbB := Box.new w3 (cells9 begM.c bR bP bT bH) 29
  have a1 := Le.alloc w3 (.cells (cells9 begM.c bR bP bT bH) 29)
  go_upto_region 21 with fail
  generalize hW1 : w3.alloc (.cells (cells9 begM.c bR bP bT bH) 29) = V2 at hbB a1 ⊢
  clear hW1
  have hggB : w3.heap.size ≤ w3.heap.size := Nat.le_refl _
  generalize hgg : w3.heap.size = gB at hbB hggB ⊢
  have hsgB : w3.heap.size ≤ gB := by omega
  clear hgg hggB
  replace hl := hl.trans a1
  replace hbA := hbA.le a1
  replace oA := oA.le a1
  replace oB := oB.le a1
  clear a1 l3
  have s1 := lawSameMachine _ _ Mc.zero Mc.zero V2 oA.has (has_zero V2) fitM_zero
  simp only [decide_true] at s1
  obtain ⟨⟨y0, y1, y2, y3, y4⟩, y5, y6, y7, y8⟩ := (hbA).mach
  obtain ⟨⟨z0, z1, z2, z3, z4⟩, z5, z6, z7, z8⟩ := (hbB).mach
  go_wp2_with fail
  refine s1.mono ?_
  rintro e w4 ⟨rfl, l4⟩
  clear y0 y1 y2 y3 y4 y5 y6 y7 y8 z0 z1 z2 z3 z4 z5 z6 z7 z8
  go_wp2_with fail
  refine (lawNum _ _).mono ?_
  rintro e _ ⟨rfl, rfl⟩
  go_wp2_with fail
  refine (lawNum _ _).mono ?_
  rintro e _ ⟨rfl, rfl⟩
  go_wp2_with fail
  go_ret
  exact ⟨rfl, hl.trans l4⟩

theorem lawLockForms (w : World) (a0 a1 : Int) : Calls Tryz.prog 4 #[.int .i64 a0, .int .i64 a1] w fun e w' => e = .returned (.bool true) ∧ Le w w' := by
  obtain ⟨q, hq, q0, q1⟩ := seven a0
  rcases (by omega : q = 0 ∨ q = 1 ∨ q = 2 ∨ q = 3 ∨ q = 4 ∨ q = 5 ∨ q = 6) with rfl | rfl | rfl | rfl | rfl | rfl | rfl
  · exact lkForms0 w a0 a1 hq
  · exact lkForms1 w a0 a1 hq
  · exact lkForms2 w a0 a1 hq
  · exact lkForms3 w a0 a1 hq
  · exact lkForms4 w a0 a1 hq
  · exact lkForms5 w a0 a1 hq
  · exact lkForms6 w a0 a1 hq

end Go.Proofs.YtkddgpdlpjjpbaaGreat
