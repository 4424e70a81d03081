/-
  PARTS LAID TOGETHER, each with its own opening: Bg15, LkB, LkW, OwA, LkX, OpenSl, OpenR, OpenSt, OpenCf, OpenM.
-/
import Derived.Test.YtkddgpdlpjjpbaaGreatCom5
import Derived.Test.YtkddgpdlpjjpbaaGreatCom4
import Derived.Test.YtkddgpdlpjjpbaaGreatCom3
import Derived.Test.YtkddgpdlpjjpbaaGreatCom1
import Derived.ProofKit
import Derived.OpenShut
import Derived.SizedLaws
import Derived.Lib.SmallJoins
import Derived.Deep.Slices
import Derived.Deep.Strs
import Derived.Laws.IdiomArrays
/-
  THE WALKS over choruslaw15's begun and called: a machine that begins, and one that thread 0 has called. No condition.
-/
namespace Go.Proofs.YtkddgpdlpjjpbaaGreat
open Go.RowKit

set_option maxRecDepth 8000 in
set_option maxHeartbeats 4000000 in
theorem begun15 (w : World) : Calls Tryz.prog 18 #[] w fun e w' => ∃ qR qP qT qH, e = .returned (machV begC qR qP qT qH) ∧ OwnM w' w.heap.size (machV begC qR qP qT qH) begM ∧ Le w w' := by
  have hr := Box.new w cellsZ9 29
  have hl := Le.alloc w (.cells cellsZ9 29)
  go_enter Tryz.func18, Tryz.ntmps18
  go_upto_region 1 with fail
  generalize hW : w.alloc (.cells cellsZ9 29) = W at hl hr ⊢
  clear hW
  go_wp2_with fail
  refine (begNew _).mono ?_
  rintro e w1 ⟨qR, qP, qT, qH, rfl, o, l1⟩
  replace hr := hr.le l1
  have ho := (o.base hl.size)
  replace hl := hl.trans l1
  clear o l1
  have hb := Box.new w1 (cells9 begC qR qP qT qH) 29
  have a1 := Le.alloc w1 (.cells (cells9 begC qR qP qT qH) 29)
  go_upto_region 2 with fail
  generalize hW1 : w1.alloc (.cells (cells9 begC qR qP qT qH) 29) = W1 at hb a1 ⊢
  generalize w1.heap.size = g1 at hb ⊢
  clear hW1
  replace hr := hr.le a1
  replace ho := ho.le a1
  replace hl := hl.trans a1
  clear a1
  obtain ⟨⟨z0, z1, z2, z3, z4⟩, z5, z6, z7, z8⟩ := (hb).mach
  have r0 := (hr).cell 0
  have r1 := (hr).cell 1
  have r2 := (hr).cell 2
  have r3 := (hr).cell 3
  have r4 := (hr).cell 4
  have r5 := (hr).cell 5
  have r6 := (hr).cell 6
  have r7 := (hr).cell 7
  have r8 := (hr).cell 8
  simp only [List.getElem?_toArray, List.getElem?_cons_succ, List.getElem?_cons_zero] at r0 r1 r2 r3 r4 r5 r6 r7 r8
  have k0 := (hr).frozen 0
  have k1 := (hr).frozen 1
  have k2 := (hr).frozen 2
  have k3 := (hr).frozen 3
  have k4 := (hr).frozen 4
  have k5 := (hr).frozen 5
  have k6 := (hr).frozen 6
  have k7 := (hr).frozen 7
  have k8 := (hr).frozen 8
  go_wp2_with fail
  refine bodyPost_ret (v := machV begC qR qP qT qH) (by simp [results, Tryz.results18, go_sem, r0, r1, r2, r3, r4, r5, r6, r7, r8]) rfl ⟨qR, qP, qT, qH, rfl, ?_, hl.put9 (g := w.heap.size) (Nat.le_refl _) begC qR qP qT qH⟩
  obtain ⟨L, hv, hm, ho⟩ := ho
  exact ⟨L, hv, hm, ho.put9 hr begC qR qP qT qH⟩

set_option maxRecDepth 8000 in
set_option maxHeartbeats 4000000 in
theorem called15 (w : World) : Calls Tryz.prog 45 #[] w fun e w' => ∃ qR qP qT qH, e = .returned (machV begC qR qP qT qH) ∧ OwnA w' w.heap.size (machV begC qR qP qT qH) cldM ∧ Le w w' := by
  have hr := Box.new w cellsZ9 29
  have hl := Le.alloc w (.cells cellsZ9 29)
  go_enter Tryz.func45, Tryz.ntmps45
  go_upto_region 1 with fail
  generalize hW : w.alloc (.cells cellsZ9 29) = W at hl hr ⊢
  clear hW
  go_wp2_with fail
  refine (begun15 _).mono ?_
  rintro e w0 ⟨pR, pP, pT, pH, rfl, o0, l0⟩
  replace hr := hr.le l0
  replace hl := hl.trans l0
  clear l0
  go_wp2_with fail
  refine (begCall _ _ o0.has).mono ?_
  rintro e w1 ⟨qR, qP, qT, qH, rfl, o, l1⟩
  clear o0
  replace hr := hr.le l1
  have ho := (o.base hl.size)
  replace hl := hl.trans l1
  clear o l1
  have hb := Box.new w1 (cells9 begC qR qP qT qH) 29
  have a1 := Le.alloc w1 (.cells (cells9 begC qR qP qT qH) 29)
  go_upto_region 2 with fail
  generalize hW1 : w1.alloc (.cells (cells9 begC qR qP qT qH) 29) = W1 at hb a1 ⊢
  generalize w1.heap.size = g1 at hb ⊢
  clear hW1
  replace hr := hr.le a1
  replace ho := ho.le a1
  replace hl := hl.trans a1
  clear a1
  obtain ⟨⟨z0, z1, z2, z3, z4⟩, z5, z6, z7, z8⟩ := (hb).mach
  have r0 := (hr).cell 0
  have r1 := (hr).cell 1
  have r2 := (hr).cell 2
  have r3 := (hr).cell 3
  have r4 := (hr).cell 4
  have r5 := (hr).cell 5
  have r6 := (hr).cell 6
  have r7 := (hr).cell 7
  have r8 := (hr).cell 8
  simp only [List.getElem?_toArray, List.getElem?_cons_succ, List.getElem?_cons_zero] at r0 r1 r2 r3 r4 r5 r6 r7 r8
  have k0 := (hr).frozen 0
  have k1 := (hr).frozen 1
  have k2 := (hr).frozen 2
  have k3 := (hr).frozen 3
  have k4 := (hr).frozen 4
  have k5 := (hr).frozen 5
  have k6 := (hr).frozen 6
  have k7 := (hr).frozen 7
  have k8 := (hr).frozen 8
  go_wp2_with fail
  refine bodyPost_ret (v := machV begC qR qP qT qH) (by simp [results, Tryz.results45, go_sem, r0, r1, r2, r3, r4, r5, r6, r7, r8]) rfl ⟨qR, qP, qT, qH, rfl, ?_, hl.put9 (g := w.heap.size) (Nat.le_refl _) begC qR qP qT qH⟩
  obtain ⟨L, hv, hm, ho, ha⟩ := ho
  exact ⟨L, hv, hm, ho.put9 hr begC qR qP qT qH, ha⟩

/-- .. as its history tells. -/
theorem calledL15 (w : World) : Calls Tryz.prog 45 #[] w fun e w' => ∃ qR qP qT a c, e = .returned (.agg #[.int .i64 2, .int .i64 2, .int .i64 2, .int .i64 4, .int .i64 8, slV qR, slV qP, slV qT, .slice a 1 c]) ∧ Le w w' := by
  refine (called15 w).mono ?_
  rintro e w' ⟨qR, qP, qT, qH, rfl, o, l⟩
  have hh : qH.2.1 = 1 := o.has.lens.2.2.2
  obtain ⟨a, n, c⟩ := qH
  simp only at hh
  subst hh
  exact ⟨qR, qP, qT, a, c, rfl, l⟩

end Go.Proofs.YtkddgpdlpjjpbaaGreat

/-
  THE WALKS over package lock's Try and Free: what each answers, for every machine and place. Condition: that the machine's rows can be copied.
-/
namespace Go.Proofs.YtkddgpdlpjjpbaaGreat
open Go.RowKit

theorem machCopyA {N M : Mc} (h : N = M) (v : Value) (w : World) (hx : HasM w v M) (hf : FitM M) : Calls Tryz.prog 34 #[v] w fun e w' => ∃ v', e = .returned v' ∧ OwnA w' w.heap.size v' N ∧ Le w w' := by
  subst h
  refine (machCopy v N w hx hf).mono ?_
  rintro e w' ⟨L, rfl, hM, o, a, l⟩
  exact ⟨_, rfl, ⟨L, rfl, hM, o, a⟩, l⟩

set_option maxRecDepth 8000 in
set_option maxHeartbeats 8000000 in
theorem lockTry (v : Value) (M : Mc) (r g t : Int) (w : World) (hx : HasM w v M) (hf : FitM M) : Calls Tryz.prog 10 #[v, .int .i64 r, .int .i64 g, .int .i64 t] w fun e w' => ∃ v', e = .returned (.tuple #[v', .bool (tryM M r g t).2.1, .int .i64 (tryM M r g t).2.2]) ∧ OwnA w' w.heap.size v' (tryM M r g t).1 ∧ Le w w' := by
  have m1 := fun w' (l : Le w w') => machHasLog v M r g w' (hx.le l) hf
  have m2 := fun w' (l : Le w w') => machCopyA (rfl : M = M) v w' (hx.le l) hf
  have m3 := fun (r g : Nat) (x : Int) (hp : r < M.ps.length) (hg : g < (M.rp r).ls.length) w' (l : Le w w') => lockWith v M r g x w' (hx.le l) hf hp hg
  cases h1 : atRG M r g
  · have hP : tryM M r g t = (Mc.zero, false, 1500) := by unfold tryM; rw [atRG_there, h1]; rfl
    rw [hP]
    simp only [h1] at m1
    clear h1
    obtain ⟨qR, qP, qT, qH, rfl, _, _, _, _⟩ := hx
    have hr := Box.new (w.alloc (.cells (cells9 M.c qR qP qT qH) 29)) cellsZ9 29
    have hb := (Box.new w (cells9 M.c qR qP qT qH) 29).le (Le.alloc _ (.cells cellsZ9 29))
    have hl := (Le.alloc w (.cells (cells9 M.c qR qP qT qH) 29)).trans (Le.alloc _ (.cells cellsZ9 29))
    rw [World.size_alloc] at hr
    go_enter Tryz.func10, Tryz.ntmps10
    go_upto_region 1 with fail
    generalize hW : (w.alloc (.cells (cells9 M.c qR qP qT qH) 29)).alloc (.cells cellsZ9 29) = W at hl hb hr ⊢
    clear hW
    have hgr := hr.lt
    obtain ⟨⟨z0, z1, z2, z3, z4⟩, z5, z6, z7, z8⟩ := (hb).mach
    go_wp2_with fail
    refine (m1 _ hl).mono ?_
    rintro e w1 ⟨rfl, l1⟩
    clear z0 z1 z2 z3 z4 z5 z6 z7 z8
    clear m1
    replace hb := hb.le l1
    replace hl := hl.trans l1
    have hgr := Nat.lt_of_lt_of_le hgr l1.size
    replace hr := hr.le l1
    clear l1
    obtain ⟨⟨r0, r1, r2, r3, r4, r5, r6, r7, r8⟩, k0, k1, k2, k3, k4, k5, k6, k7, k8⟩ := hr.res
    go_wp2_with fail
    refine bodyPost_ret (v := .tuple #[machZ, .bool false, .int .i64 1500]) (by simp [results, Tryz.results10, go_sem, r0, r1, r2, r3, r4, r5, r6, r7, r8]) rfl ⟨_, rfl, OwnA.zero _ _, ?_⟩
    exact hl.put9 (c := Cfg.zero) (by omega) slZ slZ slZ slZ
  · have hmay : mayM M = true := by unfold atRG at h1; simp only [Bool.and_eq_true] at h1; exact h1.1
    obtain ⟨ra, rb⟩ : 0 ≤ r ∧ r ≤ M.c.r - 1 := by unfold atRG at h1; simp only [Bool.and_eq_true] at h1; exact inB_cases h1.2.1
    obtain ⟨g0, g1⟩ : 0 ≤ g ∧ g ≤ M.c.l - 1 := by unfold atRG at h1; simp only [Bool.and_eq_true] at h1; exact inB_cases h1.2.2
    obtain ⟨hrs, hps, hts, _⟩ := mayM_lens hmay
    obtain ⟨_, ⟨_, r3⟩, ⟨_, l3⟩, ⟨_, t3⟩, _, _⟩ := Cfg.ok_cases (mayM_ok hmay)
    obtain ⟨r, rfl⟩ : ∃ n : Nat, r = n := ⟨r.toNat, by omega⟩
    obtain ⟨g, rfl⟩ : ∃ n : Nat, g = n := ⟨g.toNat, by omega⟩
    have hpi : r < M.ps.length := by omega
    obtain ⟨_, _, _, hll, _⟩ := repB_cases (mayM_ps hmay _ (getD_mem (d := Rp.zero) hpi))
    have hgl : g < (M.ps.getD r Rp.zero).ls.length := by omega
    have hgl2 : g < (M.rp r).ls.length := by rw [Mc.rp, Int.toNat_natCast]; exact hgl
    replace m3 := fun x => m3 r g x hpi hgl2
    simp only [h1] at m1
    cases h2 : inB 0 t (M.c.t - 1)
    · have hP : tryM M r g t = (Mc.zero, false, 1500) := by unfold tryM; rw [atRG_there, h1, h2]; rfl
      rw [hP]
      obtain ⟨bR, oR, cR, bP, oP, cP, bT, oT, cT, qH, rfl, _, hcP, _, _⟩ := hx.opens hmay
      have hE : M.c.t - 1 = (M.ts.length : Int) - 1 := by omega
      have m4 := fun w' => listsHasT (some ⟨bT, oT, none⟩, M.ts.length, cT) t w' (by simp only; omega)
      simp only [slV] at m4
      rw [← hE, h2] at m4
      clear h1 h2 hE hcP hP hrs hps hts hll hgl hgl2 m2 m3
      have hr := Box.new (w.alloc (.cells (cells9 M.c (some ⟨bR, oR, none⟩, M.rs.length, cR) (some ⟨bP, oP, none⟩, M.ps.length, cP) (some ⟨bT, oT, none⟩, M.ts.length, cT) qH) 29)) cellsZ9 29
      have hb := (Box.new w (cells9 M.c (some ⟨bR, oR, none⟩, M.rs.length, cR) (some ⟨bP, oP, none⟩, M.ps.length, cP) (some ⟨bT, oT, none⟩, M.ts.length, cT) qH) 29).le (Le.alloc _ (.cells cellsZ9 29))
      have hl := (Le.alloc w (.cells (cells9 M.c (some ⟨bR, oR, none⟩, M.rs.length, cR) (some ⟨bP, oP, none⟩, M.ps.length, cP) (some ⟨bT, oT, none⟩, M.ts.length, cT) qH) 29)).trans (Le.alloc _ (.cells cellsZ9 29))
      rw [World.size_alloc] at hr
      go_enter Tryz.func10, Tryz.ntmps10
      go_upto_region 1 with fail
      generalize hW : (w.alloc (.cells (cells9 M.c (some ⟨bR, oR, none⟩, M.rs.length, cR) (some ⟨bP, oP, none⟩, M.ps.length, cP) (some ⟨bT, oT, none⟩, M.ts.length, cT) qH) 29)).alloc (.cells cellsZ9 29) = W at hl hb hr ⊢
      clear hW
      have hgr := hr.lt
      obtain ⟨⟨z0, z1, z2, z3, z4⟩, z5, z6, z7, z8⟩ := (hb).mach
      go_wp2_with fail
      refine (m1 _ hl).mono ?_
      rintro e w1 ⟨rfl, l1⟩
      clear z0 z1 z2 z3 z4 z5 z6 z7 z8
      clear m1
      replace hb := hb.le l1
      replace hl := hl.trans l1
      have hgr := Nat.lt_of_lt_of_le hgr l1.size
      replace hr := hr.le l1
      clear l1
      obtain ⟨⟨z0, z1, z2, z3, z4⟩, z5, z6, z7, z8⟩ := (hb).mach
      simp only [slV] at z7
      go_wp2_with fail
      refine (m4 _).mono ?_
      rintro e _ ⟨rfl, rfl⟩
      clear z0 z1 z2 z3 z4 z5 z6 z7 z8
      obtain ⟨⟨r0, r1, r2, r3, r4, r5, r6, r7, r8⟩, k0, k1, k2, k3, k4, k5, k6, k7, k8⟩ := hr.res
      go_wp2_with fail
      refine bodyPost_ret (v := .tuple #[machZ, .bool false, .int .i64 1500]) (by simp [results, Tryz.results10, go_sem, r0, r1, r2, r3, r4, r5, r6, r7, r8]) rfl ⟨_, rfl, OwnA.zero _ _, ?_⟩
      exact hl.put9 (c := Cfg.zero) (by omega) slZ slZ slZ slZ
    · have hT : tryM M r g t = if (M.rp r).lock g = 0 then (M.putP r ((M.rp r).setLock g (t + 1)), true, 0) else (M, false, 0) := by unfold tryM; rw [atRG_there, h1, h2]; rfl
      obtain ⟨t0, t1⟩ := inB_cases h2
      obtain ⟨t, rfl⟩ : ∃ n : Nat, t = n := ⟨t.toNat, by omega⟩
      have ht4 : (t : Int) < 4 := by omega
      have hlk : (M.rp r).lock g = (M.ps.getD r Rp.zero).ls.getD g 0 := by rw [Rp.lock, Mc.rp, Int.toNat_natCast, Int.toNat_natCast]
      rw [hlk] at hT
      obtain ⟨x, hxx⟩ : ∃ x, x = (M.ps.getD r Rp.zero).ls.getD g 0 := ⟨_, rfl⟩
      rw [← hxx] at hT
      obtain ⟨bR, oR, cR, bP, oP, cP, bT, oT, cT, qH, rfl, _, hcP, _, _⟩ := hx.opens hmay
      have hE : M.c.t - 1 = (M.ts.length : Int) - 1 := by omega
      have m4 := fun w' => listsHasT (some ⟨bT, oT, none⟩, M.ts.length, cT) t w' (by simp only; omega)
      simp only [slV] at m4
      rw [← hE, h2] at m4
      obtain ⟨vs, qc, ql, hatp, _, _, hlx⟩ := hcP r hpi
      obtain ⟨bL, offL, nL, cL, rfl, hgn, xL⟩ := hlx.at hgl
      rw [← hxx] at xL
      have hpi' : (r : Int) < (M.ps.length : Int) := by omega
      clear hlx hlk h1 h2 hE hcP hxx hll hmay hrs hps hts hgl
      replace m3 := m3 ((t : Int) + 1)
      by_cases hx0 : x = 0
      · rw [hT, if_pos hx0]
        have hxb : (x != 0) = false := by simp [hx0]
        clear hT m2
        have hr := Box.new (w.alloc (.cells (cells9 M.c (some ⟨bR, oR, none⟩, M.rs.length, cR) (some ⟨bP, oP, none⟩, M.ps.length, cP) (some ⟨bT, oT, none⟩, M.ts.length, cT) qH) 29)) cellsZ9 29
        have hb := (Box.new w (cells9 M.c (some ⟨bR, oR, none⟩, M.rs.length, cR) (some ⟨bP, oP, none⟩, M.ps.length, cP) (some ⟨bT, oT, none⟩, M.ts.length, cT) qH) 29).le (Le.alloc _ (.cells cellsZ9 29))
        have hl := (Le.alloc w (.cells (cells9 M.c (some ⟨bR, oR, none⟩, M.rs.length, cR) (some ⟨bP, oP, none⟩, M.ps.length, cP) (some ⟨bT, oT, none⟩, M.ts.length, cT) qH) 29)).trans (Le.alloc _ (.cells cellsZ9 29))
        rw [World.size_alloc] at hr
        go_enter Tryz.func10, Tryz.ntmps10
        go_upto_region 1 with fail
        generalize hW : (w.alloc (.cells (cells9 M.c (some ⟨bR, oR, none⟩, M.rs.length, cR) (some ⟨bP, oP, none⟩, M.ps.length, cP) (some ⟨bT, oT, none⟩, M.ts.length, cT) qH) 29)).alloc (.cells cellsZ9 29) = W at hl hb hr ⊢
        clear hW
        have hgr := hr.lt
        obtain ⟨⟨z0, z1, z2, z3, z4⟩, z5, z6, z7, z8⟩ := (hb).mach
        go_wp2_with fail
        refine (m1 _ hl).mono ?_
        rintro e w1 ⟨rfl, l1⟩
        clear z0 z1 z2 z3 z4 z5 z6 z7 z8
        clear m1
        replace hb := hb.le l1
        replace hl := hl.trans l1
        have hgr := Nat.lt_of_lt_of_le hgr l1.size
        replace hr := hr.le l1
        clear l1
        have xL' := cell_le xL hl
        obtain ⟨p0, p1, p2, p3, p4, p5⟩ := hatp.le hl
        obtain ⟨⟨z0, z1, z2, z3, z4⟩, z5, z6, z7, z8⟩ := (hb).mach
        simp only [slV] at z7 z6 p5
        go_wp2_with fail
        refine (m4 _).mono ?_
        rintro e _ ⟨rfl, rfl⟩
        go_wp2_with fail
        refine (m3 _ hl).mono ?_
        rintro e w9 ⟨_, rfl, ⟨⟨c', uR, uP, uT, uH, xR, xP, xT, xH⟩, rfl, HM, o1, ap⟩, l1⟩
        clear m3 m4
        replace hr := hr.le l1
        obtain ⟨⟨r0, r1, r2, r3, r4, r5, r6, r7, r8⟩, k0, k1, k2, k3, k4, k5, k6, k7, k8⟩ := hr.res
        go_wp2_with fail
        refine bodyPost_ret (v := .tuple #[machV c' uR uP uT uH, .bool true, .int .i64 0]) (by simp [results, Tryz.results10, go_sem, r0, r1, r2, r3, r4, r5, r6, r7, r8]) rfl ⟨_, rfl, ?_, (hl.trans l1).put9 (g := w.heap.size + 1) (by omega) c' uR uP uT uH⟩
        refine ⟨⟨c', uR, uP, uT, uH, xR, xP, xT, xH⟩, rfl, HM, ?_, ap⟩
        exact (o1.base hl.size).put9 hr c' uR uP uT uH
      · rw [hT, if_neg hx0]
        have hxb : (x != 0) = true := by simp [hx0]
        clear hT m3
        have hr := Box.new (w.alloc (.cells (cells9 M.c (some ⟨bR, oR, none⟩, M.rs.length, cR) (some ⟨bP, oP, none⟩, M.ps.length, cP) (some ⟨bT, oT, none⟩, M.ts.length, cT) qH) 29)) cellsZ9 29
        have hb := (Box.new w (cells9 M.c (some ⟨bR, oR, none⟩, M.rs.length, cR) (some ⟨bP, oP, none⟩, M.ps.length, cP) (some ⟨bT, oT, none⟩, M.ts.length, cT) qH) 29).le (Le.alloc _ (.cells cellsZ9 29))
        have hl := (Le.alloc w (.cells (cells9 M.c (some ⟨bR, oR, none⟩, M.rs.length, cR) (some ⟨bP, oP, none⟩, M.ps.length, cP) (some ⟨bT, oT, none⟩, M.ts.length, cT) qH) 29)).trans (Le.alloc _ (.cells cellsZ9 29))
        rw [World.size_alloc] at hr
        go_enter Tryz.func10, Tryz.ntmps10
        go_upto_region 1 with fail
        generalize hW : (w.alloc (.cells (cells9 M.c (some ⟨bR, oR, none⟩, M.rs.length, cR) (some ⟨bP, oP, none⟩, M.ps.length, cP) (some ⟨bT, oT, none⟩, M.ts.length, cT) qH) 29)).alloc (.cells cellsZ9 29) = W at hl hb hr ⊢
        clear hW
        have hgr := hr.lt
        obtain ⟨⟨z0, z1, z2, z3, z4⟩, z5, z6, z7, z8⟩ := (hb).mach
        go_wp2_with fail
        refine (m1 _ hl).mono ?_
        rintro e w1 ⟨rfl, l1⟩
        clear z0 z1 z2 z3 z4 z5 z6 z7 z8
        clear m1
        replace hb := hb.le l1
        replace hl := hl.trans l1
        have hgr := Nat.lt_of_lt_of_le hgr l1.size
        replace hr := hr.le l1
        clear l1
        have xL' := cell_le xL hl
        obtain ⟨p0, p1, p2, p3, p4, p5⟩ := hatp.le hl
        obtain ⟨⟨z0, z1, z2, z3, z4⟩, z5, z6, z7, z8⟩ := (hb).mach
        simp only [slV] at z7 z6 p5
        go_wp2_with fail
        refine (m4 _).mono ?_
        rintro e _ ⟨rfl, rfl⟩
        go_wp2_with fail
        refine (m2 _ hl).mono ?_
        rintro e w9 ⟨_, rfl, ⟨⟨c', uR, uP, uT, uH, xR, xP, xT, xH⟩, rfl, HM, o1, ap⟩, l1⟩
        clear m2 m4
        replace hr := hr.le l1
        obtain ⟨⟨r0, r1, r2, r3, r4, r5, r6, r7, r8⟩, k0, k1, k2, k3, k4, k5, k6, k7, k8⟩ := hr.res
        go_wp2_with fail
        refine bodyPost_ret (v := .tuple #[machV c' uR uP uT uH, .bool false, .int .i64 0]) (by simp [results, Tryz.results10, go_sem, r0, r1, r2, r3, r4, r5, r6, r7, r8]) rfl ⟨_, rfl, ?_, (hl.trans l1).put9 (g := w.heap.size + 1) (by omega) c' uR uP uT uH⟩
        refine ⟨⟨c', uR, uP, uT, uH, xR, xP, xT, xH⟩, rfl, HM, ?_, ap⟩
        exact (o1.base hl.size).put9 hr c' uR uP uT uH

set_option maxRecDepth 8000 in
set_option maxHeartbeats 8000000 in
theorem lockFree (v : Value) (M : Mc) (r g : Int) (w : World) (hx : HasM w v M) (hf : FitM M) : Calls Tryz.prog 12 #[v, .int .i64 r, .int .i64 g] w fun e w' => ∃ v', e = .returned (.tuple #[v', .int .i64 (freeM M r g).2]) ∧ OwnA w' w.heap.size v' (freeM M r g).1 ∧ Le w w' := by
  have m1 := fun w' (l : Le w w') => machHasLog v M r g w' (hx.le l) hf
  have m3 := fun (r g : Nat) (x : Int) (hp : r < M.ps.length) (hg : g < (M.rp r).ls.length) w' (l : Le w w') => lockWith v M r g x w' (hx.le l) hf hp hg
  cases h1 : atRG M r g
  · have hP : freeM M r g = (Mc.zero, 1500) := by unfold freeM; rw [atRG_zero, h1]; rfl
    rw [hP]
    simp only [h1] at m1
    clear h1
    obtain ⟨qR, qP, qT, qH, rfl, _, _, _, _⟩ := hx
    have hr := Box.new (w.alloc (.cells (cells9 M.c qR qP qT qH) 29)) cellsZ9 29
    have hb := (Box.new w (cells9 M.c qR qP qT qH) 29).le (Le.alloc _ (.cells cellsZ9 29))
    have hl := (Le.alloc w (.cells (cells9 M.c qR qP qT qH) 29)).trans (Le.alloc _ (.cells cellsZ9 29))
    rw [World.size_alloc] at hr
    go_enter Tryz.func12, Tryz.ntmps12
    go_upto_region 1 with fail
    generalize hW : (w.alloc (.cells (cells9 M.c qR qP qT qH) 29)).alloc (.cells cellsZ9 29) = W at hl hb hr ⊢
    clear hW
    have hgr := hr.lt
    obtain ⟨⟨z0, z1, z2, z3, z4⟩, z5, z6, z7, z8⟩ := (hb).mach
    go_wp2_with fail
    refine (m1 _ hl).mono ?_
    rintro e w1 ⟨rfl, l1⟩
    clear z0 z1 z2 z3 z4 z5 z6 z7 z8
    clear m1
    replace hb := hb.le l1
    replace hl := hl.trans l1
    have hgr := Nat.lt_of_lt_of_le hgr l1.size
    replace hr := hr.le l1
    clear l1
    obtain ⟨⟨r0, r1, r2, r3, r4, r5, r6, r7, r8⟩, k0, k1, k2, k3, k4, k5, k6, k7, k8⟩ := hr.res
    go_wp2_with fail
    refine bodyPost_ret (v := .tuple #[machZ, .int .i64 1500]) (by simp [results, Tryz.results12, go_sem, r0, r1, r2, r3, r4, r5, r6, r7, r8]) rfl ⟨_, rfl, OwnA.zero _ _, ?_⟩
    exact hl.put9 (c := Cfg.zero) (by omega) slZ slZ slZ slZ
  · have hmay : mayM M = true := by unfold atRG at h1; simp only [Bool.and_eq_true] at h1; exact h1.1
    obtain ⟨ra, rb⟩ : 0 ≤ r ∧ r ≤ M.c.r - 1 := by unfold atRG at h1; simp only [Bool.and_eq_true] at h1; exact inB_cases h1.2.1
    obtain ⟨g0, g1⟩ : 0 ≤ g ∧ g ≤ M.c.l - 1 := by unfold atRG at h1; simp only [Bool.and_eq_true] at h1; exact inB_cases h1.2.2
    obtain ⟨hrs, hps, hts, _⟩ := mayM_lens hmay
    obtain ⟨r, rfl⟩ : ∃ n : Nat, r = n := ⟨r.toNat, by omega⟩
    obtain ⟨g, rfl⟩ : ∃ n : Nat, g = n := ⟨g.toNat, by omega⟩
    have hpi : r < M.ps.length := by omega
    obtain ⟨_, _, _, hll, _⟩ := repB_cases (mayM_ps hmay _ (getD_mem (d := Rp.zero) hpi))
    have hgl2 : g < (M.rp r).ls.length := by rw [Mc.rp, Int.toNat_natCast]; omega
    replace m3 := m3 r g 0 hpi hgl2
    simp only [h1] at m1
    have hT : freeM M r g = (M.putP r ((M.rp r).setLock g 0), 0) := by unfold freeM; rw [atRG_zero, h1]; rfl
    rw [hT]
    clear hT h1 hll hmay hrs hps hts
    obtain ⟨qR, qP, qT, qH, rfl, _, _, _, _⟩ := hx
    have hr := Box.new (w.alloc (.cells (cells9 M.c qR qP qT qH) 29)) cellsZ9 29
    have hb := (Box.new w (cells9 M.c qR qP qT qH) 29).le (Le.alloc _ (.cells cellsZ9 29))
    have hl := (Le.alloc w (.cells (cells9 M.c qR qP qT qH) 29)).trans (Le.alloc _ (.cells cellsZ9 29))
    rw [World.size_alloc] at hr
    go_enter Tryz.func12, Tryz.ntmps12
    go_upto_region 1 with fail
    generalize hW : (w.alloc (.cells (cells9 M.c qR qP qT qH) 29)).alloc (.cells cellsZ9 29) = W at hl hb hr ⊢
    clear hW
    have hgr := hr.lt
    obtain ⟨⟨z0, z1, z2, z3, z4⟩, z5, z6, z7, z8⟩ := (hb).mach
    go_wp2_with fail
    refine (m1 _ hl).mono ?_
    rintro e w1 ⟨rfl, l1⟩
    clear z0 z1 z2 z3 z4 z5 z6 z7 z8
    clear m1
    replace hb := hb.le l1
    replace hl := hl.trans l1
    have hgr := Nat.lt_of_lt_of_le hgr l1.size
    replace hr := hr.le l1
    clear l1
    obtain ⟨⟨z0, z1, z2, z3, z4⟩, z5, z6, z7, z8⟩ := (hb).mach
    go_wp2_with fail
    refine (m3 _ hl).mono ?_
    rintro e w9 ⟨_, rfl, ⟨⟨c', uR, uP, uT, uH, xR, xP, xT, xH⟩, rfl, HM, o1, ap⟩, l1⟩
    clear m3
    replace hr := hr.le l1
    obtain ⟨⟨r0, r1, r2, r3, r4, r5, r6, r7, r8⟩, k0, k1, k2, k3, k4, k5, k6, k7, k8⟩ := hr.res
    go_wp2_with fail
    refine bodyPost_ret (v := .tuple #[machV c' uR uP uT uH, .int .i64 0]) (by simp [results, Tryz.results12, go_sem, r0, r1, r2, r3, r4, r5, r6, r7, r8]) rfl ⟨_, rfl, ?_, (hl.trans l1).put9 (g := w.heap.size + 1) (by omega) c' uR uP uT uH⟩
    refine ⟨⟨c', uR, uP, uT, uH, xR, xP, xT, xH⟩, rfl, HM, ?_, ap⟩
    exact (o1.base hl.size).put9 hr c' uR uP uT uH

end Go.Proofs.YtkddgpdlpjjpbaaGreat

/-
  THE WALKS over choruslaw15's awake and the law Locks. Condition: that the machine's rows can be copied.
-/
namespace Go.Proofs.YtkddgpdlpjjpbaaGreat
open Go.RowKit

theorem lockTryAs {M N : Mc} {r g t er : Int} {b : Bool} (h : tryM M r g t = (N, b, er)) (v : Value) (w : World) (hx : HasM w v M) (hf : FitM M) : Calls Tryz.prog 10 #[v, .int .i64 r, .int .i64 g, .int .i64 t] w fun e w' => ∃ qR qP qT qH, e = .returned (.tuple #[machV N.c qR qP qT qH, .bool b, .int .i64 er]) ∧ OwnA w' w.heap.size (machV N.c qR qP qT qH) N ∧ Le w w' := by
  have := lockTry v M r g t w hx hf
  rw [h] at this
  refine this.mono ?_
  rintro e w' ⟨v', rfl, o, l⟩
  obtain ⟨qR, qP, qT, qH, rfl⟩ := o.open
  exact ⟨_, _, _, _, rfl, o, l⟩
theorem rmTryAs {M N : Mc} {r g t er : Int} {b : Bool} (h : tryM M r g t = (N, b, er)) (v : Value) (w : World) (hx : HasM w v M) (hf : FitM M) : Calls Tryz.prog 11 #[v, .int .i64 r, .int .i64 g, .int .i64 t] w fun e w' => ∃ qR qP qT qH, e = .returned (.tuple #[machV N.c qR qP qT qH, .bool b, .int .i64 er]) ∧ OwnA w' w.heap.size (machV N.c qR qP qT qH) N ∧ Le w w' := by
  have := rmTry v M r g t w hx hf
  rw [h] at this
  refine this.mono ?_
  rintro e w' ⟨v', rfl, o, l⟩
  obtain ⟨qR, qP, qT, qH, rfl⟩ := o.open
  exact ⟨_, _, _, _, rfl, o, l⟩
theorem lockFreeAs {M N : Mc} {r g er : Int} (h : freeM M r g = (N, er)) (v : Value) (w : World) (hx : HasM w v M) (hf : FitM M) : Calls Tryz.prog 12 #[v, .int .i64 r, .int .i64 g] w fun e w' => ∃ qR qP qT qH, e = .returned (.tuple #[machV N.c qR qP qT qH, .int .i64 er]) ∧ OwnA w' w.heap.size (machV N.c qR qP qT qH) N ∧ Le w w' := by
  have := lockFree v M r g w hx hf
  rw [h] at this
  refine this.mono ?_
  rintro e w' ⟨v', rfl, o, l⟩
  obtain ⟨qR, qP, qT, qH, rfl⟩ := o.open
  exact ⟨_, _, _, _, rfl, o, l⟩
theorem rmFreeAs {M N : Mc} {r g er : Int} (h : freeM M r g = (N, er)) (v : Value) (w : World) (hx : HasM w v M) (hf : FitM M) : Calls Tryz.prog 13 #[v, .int .i64 r, .int .i64 g] w fun e w' => ∃ qR qP qT qH, e = .returned (.tuple #[machV N.c qR qP qT qH, .int .i64 er]) ∧ OwnA w' w.heap.size (machV N.c qR qP qT qH) N ∧ Le w w' := by
  have := rmFree v M r g w hx hf
  rw [h] at this
  refine this.mono ?_
  rintro e w' ⟨v', rfl, o, l⟩
  obtain ⟨qR, qP, qT, qH, rfl⟩ := o.open
  exact ⟨_, _, _, _, rfl, o, l⟩

/-- What it answers can be copied. -/
theorem fitM_lock {M : Mc} (h : FitM M) (r g x : Int) : FitM (M.putP r ((M.rp r).setLock g x)) := by
  refine ⟨h.rs, by simpa [Mc.putP] using h.ps, h.ts, h.es, h.r, fun P hP => ?_, h.t⟩
  rcases List.mem_or_eq_of_mem_set hP with hP | rfl
  · exact h.p P hP
  · have hz : Fit (M.rp r).s ∧ (M.rp r).cs.length * 8 ≤ 140737488351232 ∧ (M.rp r).ls.length * 8 ≤ 140737488351232 := by
      unfold Mc.rp
      rcases Nat.lt_or_ge r.toNat M.ps.length with hi | hi
      · exact h.p _ (getD_mem hi)
      · rw [getD_out hi]; exact ⟨fit_zero, by decide, by decide⟩
    exact ⟨hz.1, hz.2.1, by simpa [Rp.setLock] using hz.2.2⟩
theorem fitM_try {M : Mc} (h : FitM M) (r g t : Int) : FitM (tryM M r g t).1 := by
  unfold tryM
  split
  · split
    · exact fitM_lock h _ _ _
    · exact h
  · exact fitM_zero
theorem fitM_free {M : Mc} (h : FitM M) (r g : Int) : FitM (freeM M r g).1 := by
  unfold freeM
  split
  · exact fitM_lock h _ _ _
  · exact fitM_zero

def lk1 : Mc := begM.putP 1 ((begM.rp 1).setLock 0 4)
theorem lk_1 : tryM begM 1 0 3 = (lk1, true, 0) := by decide +kernel
theorem lk_2 : tryM lk1 1 0 1 = (lk1, false, 0) := by decide +kernel
theorem lk_3 : freeM lk1 1 0 = (begM, 0) := by decide +kernel
theorem lk_4 : tryM begM 2 0 0 = (Mc.zero, false, 1500) := by decide +kernel
theorem lk_5 : freeM begM 0 2 = (Mc.zero, 1500) := by decide +kernel
theorem lk_may : mayM lk1 = true := by decide +kernel
theorem lk_fit : FitM lk1 := fitB_fit (by decide +kernel)
theorem lk_open {w : World} {v : Value} (h : HasM w v lk1) : ∃ qR bP oP cP qT qH bL oL cL, v = machV begC qR (some ⟨bP, oP, none⟩, 2, cP) qT qH ∧ w.cell? ⟨bP, oP + 6 + 5, none⟩ = some (.slice (some ⟨bL, oL, none⟩) 2 cL) ∧ w.cell? ⟨bL, oL, none⟩ = some (.int .i64 4) := by
  obtain ⟨bR, oR, cR, bP, oP, cP, bT, oT, cT, qH, rfl, _, hcP, _, _⟩ := h.opens lk_may
  obtain ⟨vs, qc, ql, ⟨_, _, _, _, _, p5⟩, _, _, hlx⟩ := hcP 1 (by decide +kernel)
  obtain ⟨bL, offL, nL, cL, rfl, hgn, xL⟩ := hlx.at (g := 0) (by decide +kernel)
  have hl := hlx.len
  have h2 : ((lk1.ps.getD 1 Rp.zero).ls.length) = 2 := by decide +kernel
  have h4 : ((lk1.ps.getD 1 Rp.zero).ls.getD 0 0) = 4 := by decide +kernel
  rw [h4] at xL
  simp only at hl
  rw [h2] at hl
  have h3 : lk1.ps.length = 2 := by decide +kernel
  rw [h3]
  refine ⟨_, bP, oP, cP, _, qH, bL, offL, cL, rfl, ?_, xL⟩
  rw [Nat.one_mul] at p5
  simp only [slV] at p5
  rw [p5, hl]

set_option maxRecDepth 8000 in
set_option maxHeartbeats 4000000 in
theorem lawAwake15 (w : World) : Calls Tryz.prog 17 #[] w fun e w' => e = .returned (.bool true) ∧ Le w w' := by
  have hl := Le.refl w
  go_enter Tryz.func17, Tryz.ntmps17
  go_upto_region 1 with fail
  go_wp2_with fail
  refine (begun15 _).mono ?_
  rintro e w0 ⟨pR, pP, pT, pH, rfl, o0, l0⟩
  go_wp2_with fail
  refine (lockTryAs lk_1 _ _ o0.has beg_fit).mono ?_
  rintro e w1 ⟨aR, aP, aT, aH, rfl, oA, l1⟩
  obtain ⟨xR, bP, oP, cP, xT, xH, bL, oL, cL, hv, c5, c6⟩ := lk_open oA.has
  rw [hv] at oA ⊢
  clear hv aR aP aT aH o0
  obtain ⟨xP, hxP⟩ : ∃ q : Sl, q = (some ⟨bP, oP, none⟩, 2, cP) := ⟨_, rfl⟩
  rw [← hxP] at oA ⊢
  have HXP : Hid (xP = (some ⟨bP, oP, none⟩, 2, cP)) := hxP
  clear hxP
  replace hl := (hl.trans l0).trans l1
  clear l0 l1
  have hbA := Box.new w1 (cells9 begC xR xP xT xH) 29
  have a1 := Le.alloc w1 (.cells (cells9 begC xR xP xT xH) 29)
  go_upto_region 2 with fail
  generalize hW1 : w1.alloc (.cells (cells9 begC xR xP xT xH) 29) = W1 at hbA a1 ⊢
  clear hW1
  have hggA : w1.heap.size ≤ w1.heap.size := Nat.le_refl _
  generalize hgg : w1.heap.size = gA at hbA hggA ⊢
  have hsgA : w1.heap.size ≤ gA := by omega
  clear hgg hggA
  replace hl := hl.trans a1
  replace oA := oA.le a1
  replace c5 := cell_le c5 a1
  replace c6 := cell_le c6 a1
  clear a1
  obtain ⟨⟨z0, z1, z2, z3, z4⟩, z5, z6, z7, z8⟩ := (hbA).mach
  go_wp2_with fail
  refine (lockTryAs lk_2 _ _ oA.has lk_fit).mono ?_
  rintro e w2 ⟨bR, bP2, bT, bH, rfl, oB, l2⟩
  obtain ⟨yR, yP, yT, yH, hy⟩ : ∃ yR yP yT yH, (yR, yP, yT, yH) = (bR, bP2, bT, bH) := ⟨_, _, _, _, rfl⟩
  simp only [Prod.mk.injEq] at hy
  obtain ⟨rfl, rfl, rfl, rfl⟩ := hy
  clear z0 z1 z2 z3 z4 z5 z6 z7 z8
  replace hl := hl.trans l2
  replace hbA := hbA.le l2
  replace oA := oA.le l2
  replace c5 := cell_le c5 l2
  replace c6 := cell_le c6 l2
  clear l2
  have hbB := Box.new w2 (cells9 lk1.c yR yP yT yH) 29
  have a1 := Le.alloc w2 (.cells (cells9 lk1.c yR yP yT yH) 29)
  go_upto_region 3 with fail
  generalize hW1 : w2.alloc (.cells (cells9 lk1.c yR yP yT yH) 29) = W2 at hbB a1 ⊢
  clear hW1
  have hggB : w2.heap.size ≤ w2.heap.size := Nat.le_refl _
  generalize hgg : w2.heap.size = gB at hbB hggB ⊢
  have hsgB : w2.heap.size ≤ gB := by omega
  clear hgg hggB
  replace hl := hl.trans a1
  replace hbA := hbA.le a1
  replace oA := oA.le a1
  replace oB := oB.le a1
  replace c5 := cell_le c5 a1
  replace c6 := cell_le c6 a1
  clear a1
  obtain ⟨⟨z0, z1, z2, z3, z4⟩, z5, z6, z7, z8⟩ := (hbB).mach
  go_wp2_with fail
  refine (lockFreeAs lk_3 _ _ oB.has lk_fit).mono ?_
  rintro e w3 ⟨tR, tP, tT, tH, rfl, oC, l3⟩
  clear z0 z1 z2 z3 z4 z5 z6 z7 z8
  replace hl := hl.trans l3
  replace hbA := hbA.le l3
  replace hbB := hbB.le l3
  replace oA := oA.le l3
  replace oB := oB.le l3
  replace c5 := cell_le c5 l3
  replace c6 := cell_le c6 l3
  clear l3
  have hbC := Box.new w3 (cells9 begM.c tR tP tT tH) 29
  have a1 := Le.alloc w3 (.cells (cells9 begM.c tR tP tT tH) 29)
  go_upto_region 4 with fail
  generalize hW1 : w3.alloc (.cells (cells9 begM.c tR tP tT tH) 29) = W3 at hbC a1 ⊢
  clear hW1
  have hggC : w3.heap.size ≤ w3.heap.size := Nat.le_refl _
  generalize hgg : w3.heap.size = gC at hbC hggC ⊢
  have hsgC : w3.heap.size ≤ gC := by omega
  clear hgg hggC
  replace hl := hl.trans a1
  replace hbA := hbA.le a1
  replace hbB := hbB.le a1
  replace oA := oA.le a1
  replace oB := oB.le a1
  replace oC := oC.le a1
  replace c5 := cell_le c5 a1
  replace c6 := cell_le c6 a1
  clear a1
  go_wp2_with fail
  refine (begun15 _).mono ?_
  rintro e w4 ⟨pR, pP, pT, pH, rfl, o4, l4⟩
  go_wp2_with fail
  refine (lockTryAs lk_4 _ _ o4.has beg_fit).mono ?_
  rintro e w5 ⟨uR, uP, uT, uH, rfl, _, l5⟩
  replace l4 := l4.trans l5
  clear o4 l5
  replace hl := hl.trans l4
  replace hbA := hbA.le l4
  replace hbB := hbB.le l4
  replace hbC := hbC.le l4
  replace oA := oA.le l4
  replace oB := oB.le l4
  replace oC := oC.le l4
  replace c5 := cell_le c5 l4
  replace c6 := cell_le c6 l4
  clear l4
  have hbD := Box.new w5 (cells9 Mc.zero.c uR uP uT uH) 29
  have a1 := Le.alloc w5 (.cells (cells9 Mc.zero.c uR uP uT uH) 29)
  go_upto_region 5 with fail
  generalize hW1 : w5.alloc (.cells (cells9 Mc.zero.c uR uP uT uH) 29) = W5 at hbD a1 ⊢
  clear hW1
  have hggD : w5.heap.size ≤ w5.heap.size := Nat.le_refl _
  generalize hgg : w5.heap.size = gD at hbD hggD ⊢
  have hsgD : w5.heap.size ≤ gD := by omega
  clear hgg hggD
  replace hl := hl.trans a1
  replace hbA := hbA.le a1
  replace hbB := hbB.le a1
  replace hbC := hbC.le a1
  replace oA := oA.le a1
  replace oB := oB.le a1
  replace oC := oC.le a1
  replace c5 := cell_le c5 a1
  replace c6 := cell_le c6 a1
  clear a1 hbD
  go_wp2_with fail
  refine (begun15 _).mono ?_
  rintro e w6 ⟨pR, pP, pT, pH, rfl, o6, l6⟩
  go_wp2_with fail
  refine (lockFreeAs lk_5 _ _ o6.has beg_fit).mono ?_
  rintro e w7 ⟨sR, sP, sT, sH, rfl, _, l7⟩
  replace l6 := l6.trans l7
  clear o6 l7
  replace hl := hl.trans l6
  replace hbA := hbA.le l6
  replace hbB := hbB.le l6
  replace hbC := hbC.le l6
  replace oA := oA.le l6
  replace oB := oB.le l6
  replace oC := oC.le l6
  replace c5 := cell_le c5 l6
  replace c6 := cell_le c6 l6
  clear l6
  have hbE := Box.new w7 (cells9 Mc.zero.c sR sP sT sH) 29
  have a1 := Le.alloc w7 (.cells (cells9 Mc.zero.c sR sP sT sH) 29)
  go_upto_region 6 with fail
  generalize hW1 : w7.alloc (.cells (cells9 Mc.zero.c sR sP sT sH) 29) = W7 at hbE a1 ⊢
  clear hW1
  have hggE : w7.heap.size ≤ w7.heap.size := Nat.le_refl _
  generalize hgg : w7.heap.size = gE at hbE hggE ⊢
  have hsgE : w7.heap.size ≤ gE := by omega
  clear hgg hggE
  replace hl := hl.trans a1
  replace hbA := hbA.le a1
  replace hbB := hbB.le a1
  replace hbC := hbC.le a1
  replace oA := oA.le a1
  replace oB := oB.le a1
  replace oC := oC.le a1
  replace c5 := cell_le c5 a1
  replace c6 := cell_le c6 a1
  clear a1 hbE
  have hs1 := fun w' (l : Le W7 w') => lawSameMachine _ _ lk1 lk1 w' (oA.has.le l) (oB.has.le l) lk_fit
  simp only [decide_true] at hs1
  obtain ⟨⟨z0, z1, z2, z3, z4⟩, z5, z6, z7, z8⟩ := (hbA.le (Le.refl W7)).mach
  rw [HXP.out] at z6; simp only [slV] at z6
  obtain ⟨⟨y0, y1, y2, y3, y4⟩, y5, y6, y7, y8⟩ := (hbB.le (Le.refl W7)).mach
  obtain ⟨⟨u0, u1, u2, u3, u4⟩, u5, u6, u7, u8⟩ := (hbC.le (Le.refl W7)).mach
  rw [HXP.out] at hs1
  have hfld := fieldH
  go_upto_region 8 with fail
  go_region_held3 (fun w' => w'.cell? ⟨gA, 0, none⟩ = some (.int .i64 begC.o) ∧ w'.cell? ⟨gA, 1, none⟩ = some (.int .i64 begC.r) ∧ w'.cell? ⟨gA, 2, none⟩ = some (.int .i64 begC.l) ∧ w'.cell? ⟨gA, 3, none⟩ = some (.int .i64 begC.t) ∧ w'.cell? ⟨gA, 4, none⟩ = some (.int .i64 begC.s) ∧ w'.cell? ⟨gA, 5, none⟩ = some (slV xR) ∧ w'.cell? ⟨gA, 6, none⟩ = some (.slice (some ⟨bP, oP, none⟩) 2 cP) ∧ w'.cell? ⟨gA, 7, none⟩ = some (slV xT) ∧ w'.cell? ⟨gA, 8, none⟩ = some (slV xH) ∧ w'.cell? ⟨gB, 0, none⟩ = some (.int .i64 lk1.c.o) ∧ w'.cell? ⟨gB, 1, none⟩ = some (.int .i64 lk1.c.r) ∧ w'.cell? ⟨gB, 2, none⟩ = some (.int .i64 lk1.c.l) ∧ w'.cell? ⟨gB, 3, none⟩ = some (.int .i64 lk1.c.t) ∧ w'.cell? ⟨gB, 4, none⟩ = some (.int .i64 lk1.c.s) ∧ w'.cell? ⟨gB, 5, none⟩ = some (slV yR) ∧ w'.cell? ⟨gB, 6, none⟩ = some (slV yP) ∧ w'.cell? ⟨gB, 7, none⟩ = some (slV yT) ∧ w'.cell? ⟨gB, 8, none⟩ = some (slV yH) ∧ w'.cell? ⟨gC, 0, none⟩ = some (.int .i64 begM.c.o) ∧ w'.cell? ⟨gC, 1, none⟩ = some (.int .i64 begM.c.r) ∧ w'.cell? ⟨gC, 2, none⟩ = some (.int .i64 begM.c.l) ∧ w'.cell? ⟨gC, 3, none⟩ = some (.int .i64 begM.c.t) ∧ w'.cell? ⟨gC, 4, none⟩ = some (.int .i64 begM.c.s) ∧ w'.cell? ⟨gC, 5, none⟩ = some (slV tR) ∧ w'.cell? ⟨gC, 6, none⟩ = some (slV tP) ∧ w'.cell? ⟨gC, 7, none⟩ = some (slV tT) ∧ w'.cell? ⟨gC, 8, none⟩ = some (slV tH) ∧ w'.cell? ⟨bP, oP + 6 + 5, none⟩ = some (.slice (some ⟨bL, oL, none⟩) 2 cL) ∧ w'.cell? ⟨bL, oL, none⟩ = some (.int .i64 4)) (go_keep) (first
    | (go_at_call 15; refine (lawNum _ _).mono ?_; rintro e _ ⟨rfl, rfl⟩)
    | (go_at_call 14; with_reducible refine Calls.mono (hs1 _ (Le.drew W7)) ?_; rintro e w8 ⟨rfl, l8⟩; have l8' := (Le.drew W7).trans l8; obtain ⟨⟨z0, z1, z2, z3, z4⟩, z5, z6, z7, z8⟩ := (hbA.le l8').mach; rw [HXP.out] at z6; simp only [slV] at z6; obtain ⟨⟨y0, y1, y2, y3, y4⟩, y5, y6, y7, y8⟩ := (hbB.le l8').mach; obtain ⟨⟨u0, u1, u2, u3, u4⟩, u5, u6, u7, u8⟩ := (hbC.le l8').mach; have d5 := cell_le c5 l8'; have d6 := cell_le c6 l8')
    | (go_at_call 18; refine (begun15 _).mono ?_; rintro e w9 ⟨pR, pP, pT, pH, rfl, o9, l9⟩; have l9' := l8'.trans l9; have hs2 := lawSameMachine _ _ begM begM w9 (oC.has.le l9') o9.has beg_fit; simp only [decide_true] at hs2; obtain ⟨⟨z0, z1, z2, z3, z4⟩, z5, z6, z7, z8⟩ := (hbA.le l9').mach; rw [HXP.out] at z6; simp only [slV] at z6; obtain ⟨⟨y0, y1, y2, y3, y4⟩, y5, y6, y7, y8⟩ := (hbB.le l9').mach; obtain ⟨⟨u0, u1, u2, u3, u4⟩, u5, u6, u7, u8⟩ := (hbC.le l9').mach; have d5 := cell_le c5 l9'; have d6 := cell_le c6 l9')
    | (go_at_call 14; with_reducible refine Calls.mono hs2 ?_; rintro e w10 ⟨rfl, l10⟩; have l10' := l9'.trans l10; obtain ⟨⟨z0, z1, z2, z3, z4⟩, z5, z6, z7, z8⟩ := (hbA.le l10').mach; rw [HXP.out] at z6; simp only [slV] at z6; obtain ⟨⟨y0, y1, y2, y3, y4⟩, y5, y6, y7, y8⟩ := (hbB.le l10').mach; obtain ⟨⟨u0, u1, u2, u3, u4⟩, u5, u6, u7, u8⟩ := (hbC.le l10').mach; have d5 := cell_le c5 l10'; have d6 := cell_le c6 l10')
    | (go_at_call 45; refine (calledL15 _).mono ?_; rintro e w11 ⟨pR', pP', pT', ha, hc, rfl, l11⟩; have l11' := l10'.trans l11; obtain ⟨⟨z0, z1, z2, z3, z4⟩, z5, z6, z7, z8⟩ := (hbA.le l11').mach; rw [HXP.out] at z6; simp only [slV] at z6; obtain ⟨⟨y0, y1, y2, y3, y4⟩, y5, y6, y7, y8⟩ := (hbB.le l11').mach; obtain ⟨⟨u0, u1, u2, u3, u4⟩, u5, u6, u7, u8⟩ := (hbC.le l11').mach; have d5 := cell_le c5 l11'; have d6 := cell_le c6 l11'))
  go_wp2_with fail
  go_ret
  exact ⟨rfl, hl.trans l11'⟩

end Go.Proofs.YtkddgpdlpjjpbaaGreat

/-
  PLAIN GROUND, NO WALK: a machine of the call's own may be written over, in the blocks that the call made; and it stands behind a store into another machine's variable. No condition but that its rows can be copied.
-/
namespace Go.Proofs.YtkddgpdlpjjpbaaGreat
open Go.RowKit

theorem OwnA.sp {w : World} {base : Nat} {v : Value} {M : Mc} (h : OwnA w base v M) (hf : FitM M) : Sp.IntsM w (fun g => base ≤ g ∧ g < w.heap.size) v := by
  obtain ⟨L, rfl, rfl, ho, _⟩ := h
  exact Sp.ownsM_ints ho hf (fun g h1 h2 => ⟨h1, h2⟩)

theorem OwnM.setM {w : World} {B g i : Nat} {v u : Value} {M : Mc} {cs : Array Value} (h : OwnM w B v M) (hb : Box w g cs 29) : OwnM (w.setCell ⟨g, i, none⟩ u) B v M := by
  obtain ⟨L, hv, hm, o⟩ := h
  exact ⟨L, hv, hm, ⟨own_setM hb o.oR (by decide), own_setM hb o.oP (by decide), own_setM hb o.oT (by decide), own_setM hb o.oH (by decide), fun y hy => own_setM hb (o.iR y hy) (by decide), fun y hy => ⟨fun i hi => own_setM hb ((o.iP y hy).1 i hi) (by decide), own_setM hb (o.iP y hy).2.1 (by decide), own_setM hb (o.iP y hy).2.2 (by decide)⟩, fun y hy => ⟨own_setM hb (o.iT y hy).1 (by decide), own_setM hb (o.iT y hy).2 (by decide)⟩⟩⟩


end Go.Proofs.YtkddgpdlpjjpbaaGreat

/-
  THE WALK over the law Locks: it answers true and turns nothing that was there, for every machine and place. Condition: that the machine's rows can be copied.
-/
namespace Go.Proofs.YtkddgpdlpjjpbaaGreat
open Go.RowKit

set_option maxRecDepth 8000 in
set_option maxHeartbeats 4000000 in
theorem lawLocks (w : World) (v : Value) (M : Mc) (hx : HasM w v M) (hf : FitM M) (r g t : Int) : Calls Tryz.prog 3 #[v, .int .i64 r, .int .i64 g, .int .i64 t] w fun e w' => e = .returned (.bool true) ∧ Le w w' := by
  obtain ⟨N1, b1, e1, hN1⟩ : ∃ N b e, tryM M r g t = (N, b, e) := ⟨_, _, _, rfl⟩
  obtain ⟨N2, e2, hN2⟩ : ∃ N e, freeM M r g = (N, e) := ⟨_, _, rfl⟩
  have f1 : FitM N1 := by have := fitM_try hf r g t; rw [hN1] at this; exact this
  have f2 : FitM N2 := by have := fitM_free hf r g; rw [hN2] at this; exact this
  have t1 := fun v w' (h : HasM w' v M) => lockTryAs hN1 v w' h hf
  have t2 := fun v w' (h : HasM w' v M) => rmTryAs hN1 v w' h hf
  have t3 := fun v w' (h : HasM w' v M) => lockFreeAs hN2 v w' h hf
  have t4 := fun v w' (h : HasM w' v M) => rmFreeAs hN2 v w' h hf
  clear hN1 hN2
  have hx0 := hx
  obtain ⟨qR, qP, qT, qH, rfl, _, _, _, _⟩ := hx
  have hb0 := Box.new w (cells9 M.c qR qP qT qH) 29
  have hl := Le.alloc w (.cells (cells9 M.c qR qP qT qH) 29)
  have hbb : (b1 != b1) = false := by simp
  have hee : (e1 != e1) = false := by simp
  have hee2 : (e2 != e2) = false := by simp
  go_enter Tryz.func3, Tryz.ntmps3
  go_upto_region 1 with fail
  generalize hW : w.alloc (.cells (cells9 M.c qR qP qT qH) 29) = W at hl hb0 ⊢
  clear hW
  obtain ⟨⟨y0, y1, y2, y3, y4⟩, y5, y6, y7, y8⟩ := (hb0).mach
  go_wp2_with fail
  refine (copyMachineAs _ _ _ (hx0.le hl) hf).mono ?_
  rintro e w1 ⟨xR, xP, xT, xH, rfl, oX, l1⟩
  clear y0 y1 y2 y3 y4 y5 y6 y7 y8
  replace hb0 := hb0.le l1
  replace hl := hl.trans l1
  clear l1
  have hbX := Box.new w1 (cells9 M.c xR xP xT xH) 29
  have a1 := Le.alloc w1 (.cells (cells9 M.c xR xP xT xH) 29)
  go_upto_region 2 with fail
  generalize hW1 : w1.alloc (.cells (cells9 M.c xR xP xT xH) 29) = W1 at hbX a1 ⊢
  clear hW1
  have hggX : w1.heap.size ≤ w1.heap.size := Nat.le_refl _
  generalize hgg : w1.heap.size = gX at hbX hggX ⊢
  have hsgX : w1.heap.size ≤ gX := by omega
  clear hgg hggX
  replace hl := hl.trans a1
  replace hb0 := hb0.le a1
  replace oX := oX.le a1
  clear a1
  have L1 := Le.refl W1
  obtain ⟨⟨y0, y1, y2, y3, y4⟩, y5, y6, y7, y8⟩ := (hbX).mach
  have hl1 := hl
  go_wp2_with fail
  refine (t1 _ _ oX.has).mono ?_
  rintro e w2 ⟨aR, aP, aT, aH, rfl, oA, l2⟩
  clear y0 y1 y2 y3 y4 y5 y6 y7 y8
  replace hl := hl.trans l2
  replace L1 := L1.trans l2
  have iA := oA.sp f1
  have hn2 := l2.size
  clear l2 t1
  have hbA := Box.new w2 (cells9 N1.c aR aP aT aH) 29
  have a1 := Le.alloc w2 (.cells (cells9 N1.c aR aP aT aH) 29)
  go_upto_region 3 with fail
  generalize hW1 : w2.alloc (.cells (cells9 N1.c aR aP aT aH) 29) = W2 at hbA a1 ⊢
  clear hW1
  have hggA : w2.heap.size ≤ w2.heap.size := Nat.le_refl _
  generalize hgg : w2.heap.size = gA at hbA hggA ⊢
  have hsgA : w2.heap.size ≤ gA := by omega
  clear hgg hggA
  replace hl := hl.trans a1
  replace oA := oA.le a1
  replace iA := iA.spoilt (Sp.Spoilt.le (S := fun g => W1.heap.size ≤ g ∧ g < w2.heap.size) trivial a1)
  replace L1 := L1.trans a1
  clear a1
  have n12 := L1.size
  have nA := hbA.lt
  have L2 := Le.refl W2
  obtain ⟨⟨y0, y1, y2, y3, y4⟩, y5, y6, y7, y8⟩ := (hb0.le L1).mach
  go_wp2_with fail
  refine (t2 _ _ (hx0.le hl)).mono ?_
  rintro e w3 ⟨bR, bP, bT, bH, rfl, oB, l3⟩
  clear y0 y1 y2 y3 y4 y5 y6 y7 y8
  replace hl := hl.trans l3
  replace L1 := L1.trans l3
  replace L2 := L2.trans l3
  have hn3 := l3.size
  clear l3 t2
  have hbB := Box.new w3 (cells9 N1.c bR bP bT bH) 29
  have a1 := Le.alloc w3 (.cells (cells9 N1.c bR bP bT bH) 29)
  go_upto_region 4 with fail
  generalize hW1 : w3.alloc (.cells (cells9 N1.c bR bP bT bH) 29) = W3 at hbB a1 ⊢
  clear hW1
  have hggB : w3.heap.size ≤ w3.heap.size := Nat.le_refl _
  generalize hgg : w3.heap.size = gB at hbB hggB ⊢
  have hsgB : w3.heap.size ≤ gB := by omega
  clear hgg hggB
  replace hl := hl.trans a1
  replace oB := oB.le a1
  replace L1 := L1.trans a1
  replace L2 := L2.trans a1
  clear a1
  have n23 := L2.size
  have L3 := Le.refl W3
  obtain ⟨⟨y0, y1, y2, y3, y4⟩, y5, y6, y7, y8⟩ := (hbX.le L1).mach
  go_wp2_with fail
  refine (t3 _ _ (oX.has.le L1)).mono ?_
  rintro e w4 ⟨cR, cP, cT, cH, rfl, oC, l4⟩
  clear y0 y1 y2 y3 y4 y5 y6 y7 y8
  replace hl := hl.trans l4
  replace L1 := L1.trans l4
  replace L2 := L2.trans l4
  replace L3 := L3.trans l4
  have iC := oC.sp f2
  have hn4 := l4.size
  clear l4 t3
  have hbC := Box.new w4 (cells9 N2.c cR cP cT cH) 29
  have a1 := Le.alloc w4 (.cells (cells9 N2.c cR cP cT cH) 29)
  go_upto_region 5 with fail
  generalize hW1 : w4.alloc (.cells (cells9 N2.c cR cP cT cH) 29) = W4 at hbC a1 ⊢
  clear hW1
  have hggC : w4.heap.size ≤ w4.heap.size := Nat.le_refl _
  generalize hgg : w4.heap.size = gC at hbC hggC ⊢
  have hsgC : w4.heap.size ≤ gC := by omega
  clear hgg hggC
  replace hl := hl.trans a1
  replace oC := oC.le a1
  replace iC := iC.spoilt (Sp.Spoilt.le (S := fun g => W3.heap.size ≤ g ∧ g < w4.heap.size) trivial a1)
  replace L1 := L1.trans a1
  replace L2 := L2.trans a1
  replace L3 := L3.trans a1
  clear a1
  have L4 := Le.refl W4
  obtain ⟨⟨y0, y1, y2, y3, y4⟩, y5, y6, y7, y8⟩ := (hb0.le L1).mach
  go_wp2_with fail
  refine (t4 _ _ (hx0.le hl)).mono ?_
  rintro e w5 ⟨dR, dP, dT, dH, rfl, oD, l5⟩
  clear y0 y1 y2 y3 y4 y5 y6 y7 y8
  replace hl := hl.trans l5
  replace L1 := L1.trans l5
  replace L2 := L2.trans l5
  replace L3 := L3.trans l5
  replace L4 := L4.trans l5
  clear l5 t4
  have hbD := Box.new w5 (cells9 N2.c dR dP dT dH) 29
  have a1 := Le.alloc w5 (.cells (cells9 N2.c dR dP dT dH) 29)
  go_upto_region 6 with fail
  generalize hW1 : w5.alloc (.cells (cells9 N2.c dR dP dT dH) 29) = W5 at hbD a1 ⊢
  clear hW1
  have hggD : w5.heap.size ≤ w5.heap.size := Nat.le_refl _
  generalize hgg : w5.heap.size = gD at hbD hggD ⊢
  have hsgD : w5.heap.size ≤ gD := by omega
  clear hgg hggD
  replace hl := hl.trans a1
  replace oD := oD.le a1
  replace L1 := L1.trans a1
  replace L2 := L2.trans a1
  replace L3 := L3.trans a1
  replace L4 := L4.trans a1
  clear a1
  have hs1 := lawSameMachine _ _ N1 N1 W5 (oA.has.le L2) (oB.has.le L3) f1
  simp only [decide_true] at hs1
  obtain ⟨⟨y0, y1, y2, y3, y4⟩, y5, y6, y7, y8⟩ := (hbA.le L2).mach
  obtain ⟨⟨z0, z1, z2, z3, z4⟩, z5, z6, z7, z8⟩ := (hbB.le L3).mach
  go_wp2_with fail
  refine hs1.mono ?_
  rintro e w6 ⟨rfl, l6⟩
  clear y0 y1 y2 y3 y4 y5 y6 y7 y8 z0 z1 z2 z3 z4 z5 z6 z7 z8
  clear hs1 oB hbB
  go_wp2_with fail
  refine (lawNum _ _).mono ?_
  rintro e _ ⟨rfl, rfl⟩
  have hs2 := lawSameMachine _ _ N2 N2 w6 ((oC.has.le L4).le l6) (oD.has.le l6) f2
  simp only [decide_true] at hs2
  obtain ⟨⟨y0, y1, y2, y3, y4⟩, y5, y6, y7, y8⟩ := ((hbC.le L4).le l6).mach
  obtain ⟨⟨z0, z1, z2, z3, z4⟩, z5, z6, z7, z8⟩ := (hbD.le l6).mach
  go_wp2_with fail
  refine hs2.mono ?_
  rintro e w7 ⟨rfl, l7⟩
  clear y0 y1 y2 y3 y4 y5 y6 y7 y8 z0 z1 z2 z3 z4 z5 z6 z7 z8
  clear hs2 oD hbD
  go_wp2_with fail
  refine (lawNum _ _).mono ?_
  rintro e _ ⟨rfl, rfl⟩
  have l57 := l6.trans l7
  obtain ⟨⟨y0, y1, y2, y3, y4⟩, y5, y6, y7, y8⟩ := ((hbA.le L2).le l57).mach
  go_upto_region 8 with fail
  go_wp2_with fail
  refine (Sp.lawSpoilMachine _ _ w7 (iA.spoilt (Sp.Spoilt.le (S := fun g => W1.heap.size ≤ g ∧ g < w2.heap.size) trivial (L2.trans l57))) trivial).mono ?_
  rintro e w8 ⟨rfl, k8⟩
  clear y0 y1 y2 y3 y4 y5 y6 y7 y8
  have hbC' := k8.box ((hbC.le L4).le l57) (fun h => by have := h.2; omega)
  have iC' := (iC.spoilt (Sp.Spoilt.le (S := fun g => W1.heap.size ≤ g ∧ g < w2.heap.size) trivial (L4.trans l57))).spoilt k8
  have L8 : Le W1 w8 := k8.toLe (L1.trans l57) (fun g h1 h2 => by have := h2.1; omega)
  obtain ⟨⟨y0, y1, y2, y3, y4⟩, y5, y6, y7, y8⟩ := (hbC').mach
  go_wp2_with fail
  refine (Sp.lawSpoilMachine _ _ w8 iC' trivial).mono ?_
  rintro e w9 ⟨rfl, k9⟩
  clear y0 y1 y2 y3 y4 y5 y6 y7 y8
  have L9 : Le W1 w9 := k9.toLe L8 (fun g h1 h2 => by have := h2.1; omega)
  have hs3 := lawSameMachine _ _ M M w9 (oX.has.le L9) ((hx0.le hl1).le L9) hf
  simp only [decide_true] at hs3
  obtain ⟨⟨y0, y1, y2, y3, y4⟩, y5, y6, y7, y8⟩ := (hbX.le L9).mach
  obtain ⟨⟨z0, z1, z2, z3, z4⟩, z5, z6, z7, z8⟩ := (hb0.le L9).mach
  go_wp2_with fail
  refine hs3.mono ?_
  rintro e w10 ⟨rfl, l10⟩
  clear y0 y1 y2 y3 y4 y5 y6 y7 y8 z0 z1 z2 z3 z4 z5 z6 z7 z8
  go_wp2_with fail
  refine (lawAwake15 _).mono ?_
  rintro e w11 ⟨rfl, l11⟩
  go_wp2_with fail
  go_ret
  exact ⟨rfl, ((hl1.trans L9).trans l10).trans l11⟩

end Go.Proofs.YtkddgpdlpjjpbaaGreat

/-
  PLAIN GROUND: what a row's reading says of a slot that came in: five numbers. No condition.
-/
namespace Go.Proofs.YtkddgpdlpjjpbaaGreat
open Go.ChangeShapes Go.WideShapes Go.ChangeAt Go.RowKit Go.Joins Go.Deep

theorem cellsOp : Tryz.prog.cellsOf 59 = 3 := by kernel_rfl
theorem cellsInt : Tryz.prog.cellsOf 3 = 1 := by kernel_rfl
theorem cellsSlot : Tryz.prog.cellsOf 114 = 5 := by kernel_rfl

theorem array5 {α : Type} {cs : Array α} (h : cs.size = 5) : ∃ c0 c1 c2 c3 c4, cs = #[c0, c1, c2, c3, c4] := by
  obtain ⟨l⟩ := cs
  match l, h with
  | [c0, c1, c2, c3, c4], _ => exact ⟨c0, c1, c2, c3, c4, rfl⟩

set_option maxRecDepth 20000 in
/-- Five cells that read as a slot are five numbers. -/
theorem trod_slot {H : Type} {enc : TypeId × Value → H} {W : World} {n : Nat} {c0 c1 c2 c3 c4 : Value} {y : DataW H × List MemPlace} (h : DataW.trod enc Tryz.prog W 0 (fun _ => true) true n 114 [c0, c1, c2, c3, c4] = some y) :
    ∃ c r a t b : Int, c0 = .int .i64 c ∧ c1 = .int .i64 r ∧ c2 = .int .i64 a ∧ c3 = .int .i64 t ∧ c4 = .int .i64 b ∧ (Lit.int .i64 c).wf = true ∧ (Lit.int .i64 r).wf = true ∧ (Lit.int .i64 a).wf = true ∧ (Lit.int .i64 t).wf = true ∧ (Lit.int .i64 b).wf = true := by
  obtain ⟨y0, y1, y2, m, _, _, h0, h1, h2⟩ := trod_struct3 Tryz.underlying114 h
  simp [cellsOp, cellsInt] at h0 h1 h2
  obtain ⟨z0, z1, z2, m', _, _, g0, g1, g2⟩ := trod_struct3 Tryz.underlying59 h0
  simp [cellsInt] at g0 g1 g2
  obtain ⟨c, e0, _, wc⟩ := DataW.trod_int Tryz.underlying3 g0
  obtain ⟨r, e1, _, wr⟩ := DataW.trod_int Tryz.underlying3 g1
  obtain ⟨a, e2, _, wa⟩ := DataW.trod_int Tryz.underlying3 g2
  obtain ⟨t, e3, _, wt⟩ := DataW.trod_int Tryz.underlying3 h1
  obtain ⟨b, e4, _, wb⟩ := DataW.trod_int Tryz.underlying3 h2
  simp at e0 e1 e2 e3 e4
  exact ⟨c, r, a, t, b, e0, e1, e2, e3, e4, wc, wr, wa, wt, wb⟩

set_option maxRecDepth 20000 in
/-- A slot, read. -/
theorem open_slot {H : Type} {enc : TypeId × Value → H} {W : World} {base : Nat} {v : Value} {d : DataW H} {p : List MemPlace} (hv : Value.okWide Tryz.prog W .any base 114 v)
    (h : DataW.Trod enc Tryz.prog W 0 (fun _ => true) true 114 v d p) : ∃ c r a t b : Int, v = slotV c r a t b := by
  obtain ⟨cs, rfl, hsz⟩ := okWide_struct Tryz.underlying114 hv
  obtain ⟨c0, c1, c2, c3, c4, rfl⟩ := array5 (hsz.trans cellsSlot)
  obtain ⟨fuel, hf⟩ := h
  obtain ⟨c, r, a, t, b, rfl, rfl, rfl, rfl, rfl, _⟩ := trod_slot (by simpa [Value.cells] using hf)
  exact ⟨c, r, a, t, b, rfl⟩

end Go.Proofs.YtkddgpdlpjjpbaaGreat

/-
  PLAIN GROUND: what a row's reading says of a ring that came in: its three numbers and its slots, and that the slots can be copied. No condition.
-/
namespace Go.Proofs.YtkddgpdlpjjpbaaGreat
open Go.ChangeShapes Go.WideShapes Go.ChangeAt Go.RowKit Go.Joins Go.Deep

theorem bytesSlot : Tryz.prog.bytesOf 114 = 40 := by kernel_rfl
theorem cellsRing : Tryz.prog.cellsOf 67 = 4 := by kernel_rfl
theorem cellsSlots : Tryz.prog.cellsOf 65 = 1 := by kernel_rfl

set_option maxRecDepth 20000 in
/-- A slice of slots, read. -/
theorem open_slots {H : Type} {enc : TypeId × Value → H} {W : World} {n : Nat} {c : Value} {y : DataW H × List MemPlace} (h : DataW.trod enc Tryz.prog W 0 (fun _ => true) true n 65 [c] = some y)
    (hs : ∀ k ∈ y.1.weights Tryz.prog 65, k ≤ reachBytes) : ∃ ss, HasL W c ss ∧ ss.length * 40 ≤ 140737488351232 := by
  rcases open_slice Tryz.underlying65 h with ⟨hcs, _⟩ | ⟨a, len, cap, m, n', D, Pl, hcs, _, hl, hm, hmm, rfl, hx⟩
  · simp at hcs
    subst hcs
    exact ⟨[], HasL.nil _, by decide⟩
  · simp at hcs
    subst hcs
    simp only [if_true] at hmm
    subst hmm
    rw [cellsSlot] at hx
    have hw := hs _ (by simp [DataW.weights, Tryz.underlying65]; exact Or.inl rfl)
    rw [bytesSlot] at hw
    have each : ∀ i, i < m → ∃ s : Slt, ∀ j, j < 5 → W.cell? ((a.add (i * 5)).add j) = s.vals[j]? := by
      intro i hi
      obtain ⟨cs', h1, h2⟩ := hx i hi
      obtain ⟨_, hlen, hcell⟩ := World.cells?_some h1
      match cs', hlen with
      | [c0, c1, c2, c3, c4], _ =>
        obtain ⟨c, r, a', t, b, rfl, rfl, rfl, rfl, rfl, _⟩ := trod_slot h2
        exact ⟨⟨c, r, a', t, b⟩, fun j hj => by rw [hcell j (by omega)]; rfl⟩
    have : Inhabited Slt := ⟨Slt.zero⟩
    obtain ⟨s, hsl⟩ := choose_lt each
    refine ⟨(List.range len).map s, ?_, by rw [List.length_map, List.length_range]; simp only [reachBytes] at hw; omega⟩
    have hlen : ((List.range len).map s).length = len := by simp
    refine ⟨some a, m, by rw [hlen], by rw [hlen]; exact hl, (fun h => by cases h), fun hp => ?_⟩
    rw [hlen] at hp ⊢
    obtain ⟨b, off, spot⟩ := a
    have hc := hsl 0 (by omega) 0 (by omega)
    have hspot : spot = none := by simpa [Addr.add] using World.cell?_spot hc
    subst hspot
    refine ⟨b, off, rfl, fun i hi => SlotAt.of fun j hj => ?_⟩
    have h1 := hsl i (by omega) j hj
    rw [add_plain, add_plain] at h1
    rw [h1]
    simp [List.getD, hi]

set_option maxRecDepth 20000 in
/-- A ring, read. -/
theorem open_ring {H : Type} {enc : TypeId × Value → H} {W : World} {base : Nat} {v : Value} {d : DataW H} {p : List MemPlace} (hv : Value.okWide Tryz.prog W .any base 67 v)
    (h : DataW.Trod enc Tryz.prog W 0 (fun _ => true) true 67 v d p) (hs : ∀ k ∈ d.weights Tryz.prog 67, k ≤ reachBytes) : ∃ R, HasR W v R ∧ FitR R ∧ (Lit.int .i64 R.h).wf = true ∧ (Lit.int .i64 R.t).wf = true ∧ (Lit.int .i64 R.f).wf = true := by
  obtain ⟨cs, rfl, hsz⟩ := okWide_struct Tryz.underlying67 hv
  obtain ⟨c0, c1, c2, c3, rfl⟩ := array4 (hsz.trans cellsRing)
  obtain ⟨fuel, hf⟩ := h
  obtain ⟨y0, y1, y2, y3, n, hx, _, h0, h1, h2, h3⟩ := trod_struct4 Tryz.underlying67 hf
  simp [Value.cells, cellsInt, cellsSlots] at h0 h1 h2 h3
  have hd : d = .agg [y0.1, y1.1, y2.1, y3.1] := congrArg Prod.fst hx
  obtain ⟨x0, e0, _, w0⟩ := DataW.trod_int Tryz.underlying3 h0
  obtain ⟨x1, e1, _, w1⟩ := DataW.trod_int Tryz.underlying3 h1
  obtain ⟨x2, e2, _, w2⟩ := DataW.trod_int Tryz.underlying3 h2
  simp at e0 e1 e2
  subst e0 e1 e2
  obtain ⟨ss, a0, b0⟩ := open_slots h3 (fun k hk => hs k (by
    rw [hd]
    simp [DataW.weights, DataW.weightsEach, Tryz.underlying67]
    exact Or.inr (Or.inr (Or.inr hk))))
  obtain ⟨q, rfl⟩ := a0.sl
  exact ⟨⟨x0, x1, x2, ss⟩, ⟨q, rfl, a0⟩, b0, w0, w1, w2⟩

end Go.Proofs.YtkddgpdlpjjpbaaGreat

/-
  PLAIN GROUND: what a row's reading says of a slice of numbers and of a state that came in: the numbers that each row holds, and that its bytes are within the reach. No condition.
-/
namespace Go.Proofs.YtkddgpdlpjjpbaaGreat
open Go.ChangeShapes Go.WideShapes Go.ChangeAt Go.RowKit Go.Joins

theorem bytesInt : Tryz.prog.bytesOf 3 = 8 := by kernel_rfl
theorem cellsState : Tryz.prog.cellsOf 71 = 4 := by kernel_rfl
theorem cellsRows : Tryz.prog.cellsOf 69 = 4 := by kernel_rfl
theorem cellsInts : Tryz.prog.cellsOf 50 = 1 := by kernel_rfl

theorem has_of_ints {w : World} {a : Addr} {len cap : Nat} {zs : List Int} (hl : len ≤ cap) (hz : zs.length = cap) (hcell : ∀ i, i < zs.length → w.cell? (a.add i) = some (.int .i64 (zs.getD i 0))) : Has w (.slice (some a) len cap) (zs.take len) := by
  have hlen : (zs.take len).length = len := by rw [List.length_take]; omega
  refine ⟨some a, cap, by rw [hlen], by rw [hlen]; exact hl, (fun h => by cases h), fun hp => ?_⟩
  rw [hlen] at hp ⊢
  obtain ⟨b, off, spot⟩ := a
  have hc := hcell 0 (by omega)
  have hspot : spot = none := by simpa [Addr.add] using World.cell?_spot hc
  subst hspot
  refine ⟨b, off, rfl, fun i hi => ?_⟩
  have h1 := hcell i (by omega)
  rw [add_plain] at h1
  rw [h1]
  simp [List.getD, hi]

set_option maxRecDepth 20000 in
/-- A slice of numbers, read. -/
theorem open_nums {H : Type} {enc : TypeId × Value → H} {W : World} {n : Nat} {c : Value} {y : DataW H × List MemPlace} (h : DataW.trod enc Tryz.prog W 0 (fun _ => true) true n 50 [c] = some y)
    (hs : ∀ k ∈ y.1.weights Tryz.prog 50, k ≤ reachBytes) : ∃ xs, Has W c xs ∧ xs.length * 8 ≤ 140737488351232 := by
  rcases open_ints Tryz.underlying50 Tryz.underlying3 (by kernel_rfl) h with ⟨hcs, _⟩ | ⟨x, l, cp, zs, hcs, _, hl, hm, hz, hd, hcell, hwz⟩
  · simp at hcs
    subst hcs
    exact ⟨[], Has.nil _, by decide⟩
  · simp at hcs
    subst hcs
    have hd0 : y.1 = .slice (lits .i64 (zs.take l)) (lits .i64 (zs.drop l)) := congrArg Prod.fst hd
    have := hs _ (by rw [hd0]; simp [DataW.weights, Tryz.underlying50]; exact Or.inl rfl)
    rw [bytesInt] at this
    simp only [lits, List.length_map, List.length_take, List.length_drop, reachBytes] at this
    exact ⟨zs.take l, has_of_ints hl (by simpa using hz) hcell, by rw [List.length_take]; omega⟩

set_option maxRecDepth 20000 in
/-- A state, read. -/
theorem open_state {H : Type} {enc : TypeId × Value → H} {W : World} {base : Nat} {v : Value} {d : DataW H} {p : List MemPlace} (hv : Value.okWide Tryz.prog W .any base 71 v)
    (h : DataW.Trod enc Tryz.prog W 0 (fun _ => true) true 71 v d p) (hs : ∀ k ∈ d.weights Tryz.prog 71, k ≤ reachBytes) : ∃ s, HasS W v s ∧ Fit s := by
  obtain ⟨cs, rfl, hsz⟩ := okWide_struct Tryz.underlying71 hv
  obtain ⟨c0, c1, c2, c3, rfl⟩ := array4 (hsz.trans cellsState)
  obtain ⟨fuel, hf⟩ := h
  obtain ⟨y, n, hx, _, h1⟩ := trod_struct1 Tryz.underlying71 hf
  simp [Value.cells, cellsRows] at h1
  obtain ⟨y0, y1, y2, y3, m, hy, t0, t1, t2, t3⟩ := trod_array4 Tryz.underlying69 cellsInts h1
  have hd : d = .agg [.agg [y0.1, y1.1, y2.1, y3.1]] := by
    have := congrArg Prod.fst hx
    simp only [hy] at this
    exact this
  have hw : ∀ k, k ∈ y0.1.weights Tryz.prog 50 ∨ k ∈ y1.1.weights Tryz.prog 50 ∨ k ∈ y2.1.weights Tryz.prog 50 ∨ k ∈ y3.1.weights Tryz.prog 50 → k ≤ reachBytes := by
    intro k hk
    refine hs k ?_
    rw [hd]
    simp [DataW.weights, DataW.weightsEach, DataW.weightsAll, Tryz.underlying71, Tryz.underlying69]
    exact hk
  obtain ⟨x0, a0, b0⟩ := open_nums t0 (fun k hk => hw k (.inl hk))
  obtain ⟨x1, a1, b1⟩ := open_nums t1 (fun k hk => hw k (.inr (.inl hk)))
  obtain ⟨x2, a2, b2⟩ := open_nums t2 (fun k hk => hw k (.inr (.inr (.inl hk))))
  obtain ⟨x3, a3, b3⟩ := open_nums t3 (fun k hk => hw k (.inr (.inr (.inr hk))))
  obtain ⟨q0, rfl⟩ := a0.sl
  obtain ⟨q1, rfl⟩ := a1.sl
  obtain ⟨q2, rfl⟩ := a2.sl
  obtain ⟨q3, rfl⟩ := a3.sl
  refine ⟨⟨x0, x1, x2, x3⟩, ⟨fun i => match i with | 0 => q0 | 1 => q1 | 2 => q2 | _ => q3, rfl, fun i hi => ?_⟩, fun i hi => ?_⟩
  · rcases four hi with rfl | rfl | rfl | rfl
    · exact a0
    · exact a1
    · exact a2
    · exact a3
  · rcases four hi with rfl | rfl | rfl | rfl
    · exact b0
    · exact b1
    · exact b2
    · exact b3

end Go.Proofs.YtkddgpdlpjjpbaaGreat

/-
  PLAIN GROUND: what a row's reading says of a Config that came in: five numbers. No condition.
-/
namespace Go.Proofs.YtkddgpdlpjjpbaaGreat
open Go.ChangeShapes Go.WideShapes Go.ChangeAt Go.RowKit Go.Joins Go.Deep

theorem cellsCfg : Tryz.prog.cellsOf 23 = 5 := by kernel_rfl
theorem cellsInt1 : Tryz.prog.cellsOf 3 = 1 := by kernel_rfl

theorem array5c {α : Type} {cs : Array α} (h : cs.size = 5) : ∃ c0 c1 c2 c3 c4, cs = #[c0, c1, c2, c3, c4] := by
  obtain ⟨l⟩ := cs
  match l, h with
  | [c0, c1, c2, c3, c4], _ => exact ⟨c0, c1, c2, c3, c4, rfl⟩

theorem trod_struct5 {H : Type} {enc : TypeId × Value → H} {P : Program} {W : World} {base : Nat} {spare : Nat → Bool} {held : Bool} {t : TypeId} {f0 f1 f2 f3 f4 : Field} {fuel : Nat} {cs : List Value} {x : DataW H × List MemPlace} (ht : P.underlying t = some (.struct #[f0, f1, f2, f3, f4])) (h : DataW.trod enc P W base spare held fuel t cs = some x) :
    ∃ y0 y1 y2 y3 y4 n, x = (.agg [y0.1, y1.1, y2.1, y3.1, y4.1], y0.2 ++ (y1.2 ++ (y2.2 ++ (y3.2 ++ y4.2)))) ∧ cs.length = P.cellsOf t ∧ DataW.trod enc P W base spare held n f0.type ((cs.drop f0.offset).take (P.cellsOf f0.type)) = some y0 ∧
      DataW.trod enc P W base spare held n f1.type ((cs.drop f1.offset).take (P.cellsOf f1.type)) = some y1 ∧ DataW.trod enc P W base spare held n f2.type ((cs.drop f2.offset).take (P.cellsOf f2.type)) = some y2 ∧
      DataW.trod enc P W base spare held n f3.type ((cs.drop f3.offset).take (P.cellsOf f3.type)) = some y3 ∧ DataW.trod enc P W base spare held n f4.type ((cs.drop f4.offset).take (P.cellsOf f4.type)) = some y4 := by
  obtain ⟨xs, n, _, rfl, hl, hlen, hf⟩ := DataW.trod_struct ht h
  match xs, hlen with
  | [y0, y1, y2, y3, y4], _ => exact ⟨y0, y1, y2, y3, y4, n, by simp, hl, by simpa using hf 0 f0 rfl, by simpa using hf 1 f1 rfl, by simpa using hf 2 f2 rfl, by simpa using hf 3 f3 rfl, by simpa using hf 4 f4 rfl⟩

set_option maxRecDepth 20000 in
/-- Five cells that read as a Config are five numbers. -/
theorem trod_cfg {H : Type} {enc : TypeId × Value → H} {W : World} {n : Nat} {c0 c1 c2 c3 c4 : Value} {y : DataW H × List MemPlace} (h : DataW.trod enc Tryz.prog W 0 (fun _ => true) true n 23 [c0, c1, c2, c3, c4] = some y) :
    ∃ c r a t b : Int, c0 = .int .i64 c ∧ c1 = .int .i64 r ∧ c2 = .int .i64 a ∧ c3 = .int .i64 t ∧ c4 = .int .i64 b ∧ (Lit.int .i64 c).wf = true ∧ (Lit.int .i64 r).wf = true ∧ (Lit.int .i64 a).wf = true ∧ (Lit.int .i64 t).wf = true ∧ (Lit.int .i64 b).wf = true := by
  obtain ⟨y0, y1, y2, y3, y4, m, _, _, h0, h1, h2, h3, h4⟩ := trod_struct5 Tryz.underlying23 h
  simp [cellsInt1] at h0 h1 h2 h3 h4
  obtain ⟨c, e0, _, wc⟩ := DataW.trod_int Tryz.underlying3 h0
  obtain ⟨r, e1, _, wr⟩ := DataW.trod_int Tryz.underlying3 h1
  obtain ⟨a, e2, _, wa⟩ := DataW.trod_int Tryz.underlying3 h2
  obtain ⟨t, e3, _, wt⟩ := DataW.trod_int Tryz.underlying3 h3
  obtain ⟨b, e4, _, wb⟩ := DataW.trod_int Tryz.underlying3 h4
  simp at e0 e1 e2 e3 e4
  exact ⟨c, r, a, t, b, e0, e1, e2, e3, e4, wc, wr, wa, wt, wb⟩

set_option maxRecDepth 20000 in
/-- A Config, read. -/
theorem open_cfg {H : Type} {enc : TypeId × Value → H} {W : World} {base : Nat} {v : Value} {d : DataW H} {p : List MemPlace} (hv : Value.okWide Tryz.prog W .any base 23 v)
    (h : DataW.Trod enc Tryz.prog W 0 (fun _ => true) true 23 v d p) : ∃ o r l t s : Int, v = cfgV o r l t s := by
  obtain ⟨cs, rfl, hsz⟩ := okWide_struct Tryz.underlying23 hv
  obtain ⟨c0, c1, c2, c3, c4, rfl⟩ := array5c (hsz.trans cellsCfg)
  obtain ⟨fuel, hf⟩ := h
  obtain ⟨c, r, a, t, b, rfl, rfl, rfl, rfl, rfl, _⟩ := trod_cfg (by simpa [Value.cells] using hf)
  exact ⟨c, r, a, t, b, rfl⟩

end Go.Proofs.YtkddgpdlpjjpbaaGreat

/-
  PLAIN GROUND: what a row's reading says of a machine that came in: its Config's numbers, its logs, replicas, threads and events, and that all of it can be copied. No condition.
-/
namespace Go.Proofs.YtkddgpdlpjjpbaaGreat
open Go.ChangeShapes Go.WideShapes Go.ChangeAt Go.RowKit Go.Joins Go.Deep

theorem weightsAll_mem {H : Type} {P : Program} {e : TypeId} {d : DataW H} {k : Nat} (hk : k ∈ d.weights P e) : ∀ l : List (DataW H), d ∈ l → k ∈ DataW.weightsAll P e l
  | [], h => by cases h
  | x :: l, h => by
    unfold DataW.weightsAll
    rcases List.mem_cons.1 h with rfl | h
    · exact List.mem_append.2 (.inl hk)
    · exact List.mem_append.2 (.inr (weightsAll_mem hk l h))

/-- A slice of elements, read. -/
theorem open_row {α : Type} (K : Kind α) {tS : TypeId} (hu : Tryz.prog.underlying tS = some (.slice K.t)) (hc : Tryz.prog.cellsOf K.t = K.k) (hb : Tryz.prog.bytesOf K.t = K.by') {H : Type} {enc : TypeId × Value → H} {W : World} (G : α → Prop)
    (hel : ∀ (n : Nat) (cs : List Value) (y : DataW H × List MemPlace), cs.length = K.k → DataW.trod enc Tryz.prog W 0 (fun _ => true) true n K.t cs = some y → (∀ k ∈ y.1.weights Tryz.prog K.t, k ≤ reachBytes) → ∃ x : α, cs = K.f x ∧ G x)
    {n : Nat} {c : Value} {y : DataW H × List MemPlace} (h : DataW.trod enc Tryz.prog W 0 (fun _ => true) true n tS [c] = some y) (hs : ∀ k ∈ y.1.weights Tryz.prog tS, k ≤ reachBytes) : ∃ xs, HasE K W c xs ∧ (∀ x ∈ xs, G x) ∧ xs.length * K.by' ≤ 140737488351232 := by
  rcases open_slice hu h with ⟨hcs, _⟩ | ⟨a, len, cap, m, n', D, Pl, hcs, _, hl, hm, hmm, rfl, hx⟩
  · simp at hcs
    subst hcs
    exact ⟨[], HasE.nil _ _, (fun x h => by cases h), by simp⟩
  · simp at hcs
    subst hcs
    simp only [if_true] at hmm
    subst hmm
    rw [hc] at hx
    have hw := hs _ (by simp [DataW.weights, hu]; exact Or.inl rfl)
    rw [hb] at hw
    have each : ∀ i, i < len → ∃ x : α, (∀ j, j < K.k → W.cell? ((a.add (i * K.k)).add j) = (K.f x)[j]?) ∧ G x := by
      intro i hi
      obtain ⟨cs', h1, h2⟩ := hx i (by omega)
      obtain ⟨_, hlen, hcell⟩ := World.cells?_some h1
      obtain ⟨x, rfl, hg⟩ := hel n' cs' _ hlen h2 (fun k hk => hs k (by
        simp only [DataW.weights, hu]
        refine List.mem_cons_of_mem _ (List.mem_append.2 (.inl (weightsAll_mem hk _ ?_)))
        exact List.mem_map.2 ⟨i, List.mem_range.2 hi, rfl⟩))
      exact ⟨x, fun j hj => hcell j (by omega), hg⟩
    have : Inhabited α := ⟨K.d⟩
    obtain ⟨s, hsl⟩ := choose_lt each
    have hlen : ((List.range len).map s).length = len := by simp
    refine ⟨(List.range len).map s, ?_, fun x hx => ?_, ?_⟩
    · refine ⟨some a, m, by rw [hlen], by rw [hlen]; exact hl, (fun h => by cases h), fun hp => ?_⟩
      rw [hlen] at hp ⊢
      obtain ⟨b, off, spot⟩ := a
      have hk := K.pos
      have hc0 := (hsl 0 (by omega)).1 0 hk
      have hlt : 0 < (K.f (s 0)).length := by rw [K.len]; exact hk
      rw [List.getElem?_eq_getElem hlt] at hc0
      have hspot : spot = none := by simpa [Addr.add] using World.cell?_spot hc0
      subst hspot
      refine ⟨b, off, rfl, fun i hi j hj => ?_⟩
      have h1 := (hsl i hi).1 j hj
      rw [add_plain, add_plain] at h1
      rw [h1]
      simp [List.getD, hi]
    · obtain ⟨i, hi, rfl⟩ := List.mem_map.1 hx
      exact (hsl i (List.mem_range.1 hi)).2
    · rw [hlen]
      simp only [reachBytes] at hw
      have : len * K.by' ≤ (len + (m - len)) * K.by' := Nat.mul_le_mul_right _ (by omega)
      omega

theorem cellsInt2 : Tryz.prog.cellsOf 3 = 1 := by kernel_rfl
theorem cellsBool : Tryz.prog.cellsOf 4 = 1 := by kernel_rfl
theorem cellsOp2 : Tryz.prog.cellsOf 59 = 3 := by kernel_rfl

/-- Four cells that read as a ring. -/
theorem open_ringE {H : Type} {enc : TypeId × Value → H} {W : World} (n : Nat) (cs : List Value) (y : DataW H × List MemPlace) (hlen : cs.length = 4) (h : DataW.trod enc Tryz.prog W 0 (fun _ => true) true n 67 cs = some y) (hs : ∀ k ∈ y.1.weights Tryz.prog 67, k ≤ reachBytes) :
    ∃ x : LR, cs = LR.cells x ∧ HasL W (slV x.q) x.R.ss ∧ FitR x.R := by
  match cs, hlen with
  | [c0, c1, c2, c3], _ =>
    obtain ⟨y0, y1, y2, y3, n, hx, _, h0, h1, h2, h3⟩ := trod_struct4 Tryz.underlying67 h
    simp [cellsInt2, cellsSlots] at h0 h1 h2 h3
    have hd : y.1 = .agg [y0.1, y1.1, y2.1, y3.1] := congrArg Prod.fst hx
    obtain ⟨x0, e0, _, w0⟩ := DataW.trod_int Tryz.underlying3 h0
    obtain ⟨x1, e1, _, w1⟩ := DataW.trod_int Tryz.underlying3 h1
    obtain ⟨x2, e2, _, w2⟩ := DataW.trod_int Tryz.underlying3 h2
    simp at e0 e1 e2
    subst e0 e1 e2
    obtain ⟨ss, a0, b0⟩ := open_slots h3 (fun k hk => hs k (by
      rw [hd]
      simp [DataW.weights, DataW.weightsEach, Tryz.underlying67]
      exact Or.inr (Or.inr (Or.inr hk))))
    obtain ⟨q, rfl⟩ := a0.sl
    exact ⟨⟨⟨x0, x1, x2, ss⟩, q⟩, rfl, a0, b0⟩

/-- Six cells that read as a replica. -/
theorem open_repE {H : Type} {enc : TypeId × Value → H} {W : World} (n : Nat) (cs : List Value) (y : DataW H × List MemPlace) (hlen : cs.length = 6) (h : DataW.trod enc Tryz.prog W 0 (fun _ => true) true n 73 cs = some y) (hs : ∀ k ∈ y.1.weights Tryz.prog 73, k ≤ reachBytes) :
    ∃ x : LP, cs = LP.cells x ∧ (∀ i, i < 4 → Has W (slV (x.vs i)) (x.P.s.at i)) ∧ Has W (slV x.c) x.P.cs ∧ Has W (slV x.l) x.P.ls ∧ Fit x.P.s ∧ x.P.cs.length * 8 ≤ 140737488351232 ∧ x.P.ls.length * 8 ≤ 140737488351232 := by
  match cs, hlen with
  | [c0, c1, c2, c3, c4, c5], _ =>
    obtain ⟨ys, m, _, hx, _, hlen', hf⟩ := DataW.trod_struct Tryz.underlying73 h
    match ys, hlen' with
    | [y0, y1, y2], _ =>
      have hd : y.1 = .agg [y0.1, y1.1, y2.1] := congrArg Prod.fst hx
      have h0 := hf 0 _ rfl
      have h1 := hf 1 _ rfl
      have h2 := hf 2 _ rfl
      simp [cellsState, cellsInts] at h0 h1 h2
      have hw : ∀ k, k ∈ y0.1.weights Tryz.prog 71 ∨ k ∈ y1.1.weights Tryz.prog 50 ∨ k ∈ y2.1.weights Tryz.prog 50 → k ≤ reachBytes := fun k hk => hs k (by
        rw [hd]
        simp [DataW.weights, DataW.weightsEach, Tryz.underlying73]
        exact hk)
      obtain ⟨z, m1, hz, _, g1⟩ := trod_struct1 Tryz.underlying71 h0
      simp [cellsRows] at g1
      obtain ⟨z0, z1, z2, z3, m2, hy, t0, t1, t2, t3⟩ := trod_array4 Tryz.underlying69 cellsInts g1
      have hd0 : y0.1 = .agg [.agg [z0.1, z1.1, z2.1, z3.1]] := by
        have := congrArg Prod.fst hz
        simp only [hy] at this
        exact this
      have hw0 : ∀ k, k ∈ z0.1.weights Tryz.prog 50 ∨ k ∈ z1.1.weights Tryz.prog 50 ∨ k ∈ z2.1.weights Tryz.prog 50 ∨ k ∈ z3.1.weights Tryz.prog 50 → k ≤ reachBytes := fun k hk => hw k (.inl (by
        rw [hd0]
        simp [DataW.weights, DataW.weightsEach, DataW.weightsAll, Tryz.underlying71, Tryz.underlying69]
        exact hk))
      obtain ⟨x0, a0, b0⟩ := open_nums t0 (fun k hk => hw0 k (.inl hk))
      obtain ⟨x1, a1, b1⟩ := open_nums t1 (fun k hk => hw0 k (.inr (.inl hk)))
      obtain ⟨x2, a2, b2⟩ := open_nums t2 (fun k hk => hw0 k (.inr (.inr (.inl hk))))
      obtain ⟨x3, a3, b3⟩ := open_nums t3 (fun k hk => hw0 k (.inr (.inr (.inr hk))))
      obtain ⟨x4, a4, b4⟩ := open_nums h1 (fun k hk => hw k (.inr (.inl hk)))
      obtain ⟨x5, a5, b5⟩ := open_nums h2 (fun k hk => hw k (.inr (.inr hk)))
      obtain ⟨q0, rfl⟩ := a0.sl
      obtain ⟨q1, rfl⟩ := a1.sl
      obtain ⟨q2, rfl⟩ := a2.sl
      obtain ⟨q3, rfl⟩ := a3.sl
      obtain ⟨q4, rfl⟩ := a4.sl
      obtain ⟨q5, rfl⟩ := a5.sl
      refine ⟨⟨⟨⟨x0, x1, x2, x3⟩, x4, x5⟩, fun i => match i with | 0 => q0 | 1 => q1 | 2 => q2 | _ => q3, q4, q5⟩, rfl, fun i hi => ?_, a4, a5, fun i hi => ?_, b4, b5⟩
      · rcases four hi with rfl | rfl | rfl | rfl
        · exact a0
        · exact a1
        · exact a2
        · exact a3
      · rcases four hi with rfl | rfl | rfl | rfl
        · exact b0
        · exact b1
        · exact b2
        · exact b3

/-- Three cells that read as an operation. -/
theorem trod_op {H : Type} {enc : TypeId × Value → H} {W : World} {n : Nat} {c0 c1 c2 : Value} {y : DataW H × List MemPlace} (h : DataW.trod enc Tryz.prog W 0 (fun _ => true) true n 59 [c0, c1, c2] = some y) : ∃ c r a : Int, c0 = .int .i64 c ∧ c1 = .int .i64 r ∧ c2 = .int .i64 a := by
  obtain ⟨ys, m, _, hx, _, hlen', hf⟩ := DataW.trod_struct Tryz.underlying59 h
  match ys, hlen' with
  | [y0, y1, y2], _ =>
    have h0 := hf 0 _ rfl
    have h1 := hf 1 _ rfl
    have h2 := hf 2 _ rfl
    simp [cellsInt2] at h0 h1 h2
    obtain ⟨x0, e0, _, _⟩ := DataW.trod_int Tryz.underlying3 h0
    obtain ⟨x1, e1, _, _⟩ := DataW.trod_int Tryz.underlying3 h1
    obtain ⟨x2, e2, _, _⟩ := DataW.trod_int Tryz.underlying3 h2
    simp at e0 e1 e2
    exact ⟨x0, x1, x2, e0, e1, e2⟩

/-- Six cells that read as an event. -/
theorem open_evE {H : Type} {enc : TypeId × Value → H} {W : World} (n : Nat) (cs : List Value) (y : DataW H × List MemPlace) (hlen : cs.length = 6) (h : DataW.trod enc Tryz.prog W 0 (fun _ => true) true n 93 cs = some y) (_hs : ∀ k ∈ y.1.weights Tryz.prog 93, k ≤ reachBytes) :
    ∃ x : Ev, cs = Ev.cells x ∧ True := by
  match cs, hlen with
  | [c0, c1, c2, c3, c4, c5], _ =>
    obtain ⟨ys, m, _, hx, _, hlen', hf⟩ := DataW.trod_struct Tryz.underlying93 h
    match ys, hlen' with
    | [y0, y1, y2, y3], _ =>
      have h0 := hf 0 _ rfl
      have h1 := hf 1 _ rfl
      have h2 := hf 2 _ rfl
      have h3 := hf 3 _ rfl
      simp [cellsInt2, cellsBool, cellsOp2] at h0 h1 h2 h3
      obtain ⟨x0, e0, _, _⟩ := DataW.trod_int Tryz.underlying3 h0
      obtain ⟨x1, e1, _⟩ := DataW.trod_bool Tryz.underlying4 h1
      obtain ⟨x2, x3, x4, e2, e3, e4⟩ := trod_op h2
      obtain ⟨x5, e5, _, _⟩ := DataW.trod_int Tryz.underlying3 h3
      simp at e0 e1 e5
      subst e0 e1 e2 e3 e4 e5
      exact ⟨⟨x0, x1, x2, x3, x4, x5⟩, rfl, trivial⟩

/-- Twelve cells that read as a thread. -/
theorem open_thE {H : Type} {enc : TypeId × Value → H} {W : World} (n : Nat) (cs : List Value) (y : DataW H × List MemPlace) (hlen : cs.length = 12) (h : DataW.trod enc Tryz.prog W 0 (fun _ => true) true n 63 cs = some y) (hs : ∀ k ∈ y.1.weights Tryz.prog 63, k ≤ reachBytes) :
    ∃ x : LT, cs = LT.cells x ∧ Has W (slV x.b) x.T.b ∧ Has W (slV x.t) x.T.tl ∧ x.T.b.length * 8 ≤ 140737488351232 ∧ x.T.tl.length * 8 ≤ 140737488351232 := by
  match cs, hlen with
  | [c0, c1, c2, c3, c4, c5, c6, c7, c8, c9, c10, c11], _ =>
    obtain ⟨ys, m, _, hx, _, hlen', hf⟩ := DataW.trod_struct Tryz.underlying63 h
    match ys, hlen' with
    | [y0, y1, y2, y3, y4, y5, y6, y7, y8, y9], _ =>
      have hd : y.1 = .agg [y0.1, y1.1, y2.1, y3.1, y4.1, y5.1, y6.1, y7.1, y8.1, y9.1] := congrArg Prod.fst hx
      have h0 := hf 0 _ rfl
      have h1 := hf 1 _ rfl
      have h2 := hf 2 _ rfl
      have h3 := hf 3 _ rfl
      have h4 := hf 4 _ rfl
      have h5 := hf 5 _ rfl
      have h6 := hf 6 _ rfl
      have h7 := hf 7 _ rfl
      have h8 := hf 8 _ rfl
      have h9 := hf 9 _ rfl
      simp [cellsInt2, cellsBool, cellsOp2, cellsInts] at h0 h1 h2 h3 h4 h5 h6 h7 h8 h9
      have hw : ∀ k, k ∈ y4.1.weights Tryz.prog 50 ∨ k ∈ y9.1.weights Tryz.prog 50 → k ≤ reachBytes := fun k hk => hs k (by
        rw [hd]
        simp only [DataW.weights, DataW.weightsEach, Tryz.underlying63, List.map_cons, List.map_nil, List.mem_append]
        rcases hk with hk | hk
        · exact .inr (.inr (.inr (.inr (.inl hk))))
        · exact .inr (.inr (.inr (.inr (.inr (.inr (.inr (.inr (.inr (.inl hk))))))))))
      obtain ⟨x0, e0, _, _⟩ := DataW.trod_int Tryz.underlying3 h0
      obtain ⟨x1, x2, x3, e1, e2, e3⟩ := trod_op h1
      obtain ⟨x4, e4, _, _⟩ := DataW.trod_int Tryz.underlying3 h2
      obtain ⟨x5, e5, _, _⟩ := DataW.trod_int Tryz.underlying3 h3
      obtain ⟨x6, a6, b6⟩ := open_nums h4 (fun k hk => hw k (.inl hk))
      obtain ⟨x7, e7, _, _⟩ := DataW.trod_int Tryz.underlying3 h5
      obtain ⟨x8, e8, _⟩ := DataW.trod_bool Tryz.underlying4 h6
      obtain ⟨x9, e9, _⟩ := DataW.trod_bool Tryz.underlying4 h7
      obtain ⟨x10, e10, _, _⟩ := DataW.trod_int Tryz.underlying3 h8
      obtain ⟨x11, a11, b11⟩ := open_nums h9 (fun k hk => hw k (.inr hk))
      simp at e0 e4 e5 e7 e8 e9 e10
      subst e0 e1 e2 e3 e4 e5 e7 e8 e9 e10
      obtain ⟨q6, rfl⟩ := a6.sl
      obtain ⟨q11, rfl⟩ := a11.sl
      exact ⟨⟨⟨x0, x1, x2, x3, x4, x5, x6, x7, x8, x9, x10, x11⟩, q6, q11⟩, rfl, a6, a11, b6, b11⟩

theorem cellsMach : Tryz.prog.cellsOf 29 = 9 := by kernel_rfl
theorem cellsS1 : Tryz.prog.cellsOf 24 = 1 := by kernel_rfl
theorem cellsS2 : Tryz.prog.cellsOf 25 = 1 := by kernel_rfl
theorem cellsS3 : Tryz.prog.cellsOf 26 = 1 := by kernel_rfl
theorem cellsS4 : Tryz.prog.cellsOf 27 = 1 := by kernel_rfl
theorem array9 {α : Type} {cs : Array α} (h : cs.size = 9) : ∃ c0 c1 c2 c3 c4 c5 c6 c7 c8, cs = #[c0, c1, c2, c3, c4, c5, c6, c7, c8] := by
  obtain ⟨l⟩ := cs
  match l, h with
  | [c0, c1, c2, c3, c4, c5, c6, c7, c8], _ => exact ⟨c0, c1, c2, c3, c4, c5, c6, c7, c8, rfl⟩

set_option maxRecDepth 20000 in
/-- A machine, read. -/
theorem open_mach {H : Type} {enc : TypeId × Value → H} {W : World} {base : Nat} {v : Value} {d : DataW H} {p : List MemPlace} (hv : Value.okWide Tryz.prog W .any base 29 v)
    (h : DataW.Trod enc Tryz.prog W 0 (fun _ => true) true 29 v d p) (hs : ∀ k ∈ d.weights Tryz.prog 29, k ≤ reachBytes) : ∃ M, HasM W v M ∧ FitM M := by
  obtain ⟨cs, rfl, hsz⟩ := okWide_struct Tryz.underlying29 hv
  obtain ⟨c0, c1, c2, c3, c4, c5, c6, c7, c8, rfl⟩ := array9 (hsz.trans cellsMach)
  obtain ⟨fuel, hf⟩ := h
  obtain ⟨y0, y1, y2, y3, y4, n, hx, _, h0, h1, h2, h3, h4⟩ := trod_struct5 Tryz.underlying29 hf
  simp [Value.cells, cellsCfg, cellsS1, cellsS2, cellsS3, cellsS4] at h0 h1 h2 h3 h4
  have hd : d = .agg [y0.1, y1.1, y2.1, y3.1, y4.1] := congrArg Prod.fst hx
  have hw : ∀ k, k ∈ y1.1.weights Tryz.prog 24 ∨ k ∈ y2.1.weights Tryz.prog 25 ∨ k ∈ y3.1.weights Tryz.prog 26 ∨ k ∈ y4.1.weights Tryz.prog 27 → k ≤ reachBytes := fun k hk => hs k (by
    rw [hd]
    simp [DataW.weights, DataW.weightsEach, Tryz.underlying29]
    exact Or.inr hk)
  obtain ⟨o, r, l, t, s, rfl, rfl, rfl, rfl, rfl, _⟩ := trod_cfg h0
  obtain ⟨rs, hR, gR, fR⟩ := open_row ringK (tS := 24) Tryz.underlying24 (by kernel_rfl) (by kernel_rfl) (fun x => HasL W (slV x.q) x.R.ss ∧ FitR x.R) (fun n cs y hl h hs => open_ringE n cs y hl h hs) h1 (fun k hk => hw k (.inl hk))
  obtain ⟨ps, hP, gP, fP⟩ := open_row repK (tS := 25) Tryz.underlying25 (by kernel_rfl) (by kernel_rfl) (fun x => (∀ i, i < 4 → Has W (slV (x.vs i)) (x.P.s.at i)) ∧ Has W (slV x.c) x.P.cs ∧ Has W (slV x.l) x.P.ls ∧ Fit x.P.s ∧ x.P.cs.length * 8 ≤ 140737488351232 ∧ x.P.ls.length * 8 ≤ 140737488351232) (fun n cs y hl h hs => open_repE n cs y hl h hs) h2 (fun k hk => hw k (.inr (.inl hk)))
  obtain ⟨ts, hT, gT, fT⟩ := open_row thK (tS := 26) Tryz.underlying26 (by kernel_rfl) (by kernel_rfl) (fun x => Has W (slV x.b) x.T.b ∧ Has W (slV x.t) x.T.tl ∧ x.T.b.length * 8 ≤ 140737488351232 ∧ x.T.tl.length * 8 ≤ 140737488351232) (fun n cs y hl h hs => open_thE n cs y hl h hs) h3 (fun k hk => hw k (.inr (.inr (.inl hk))))
  obtain ⟨es, hE, _, fE⟩ := open_row evK (tS := 27) Tryz.underlying27 (by kernel_rfl) (by kernel_rfl) (fun _ => True) (fun n cs y hl h hs => open_evE n cs y hl h hs) h4 (fun k hk => hw k (.inr (.inr (.inr hk))))
  obtain ⟨qR, rfl⟩ := hR.sl
  obtain ⟨qP, rfl⟩ := hP.sl
  obtain ⟨qT, rfl⟩ := hT.sl
  obtain ⟨qH, rfl⟩ := hE.sl
  refine ⟨⟨⟨o, r, l, t, s⟩, rs.map LR.R, ps.map LP.P, ts.map LT.T, es⟩, ⟨qR, qP, qT, qH, rfl, ⟨rs, rfl, hR, fun x hx => (gR x hx).1⟩, ⟨ps, rfl, hP, fun x hx => ⟨(gP x hx).1, (gP x hx).2.1, (gP x hx).2.2.1⟩⟩, ⟨ts, rfl, hT, fun x hx => ⟨(gT x hx).1, (gT x hx).2.1⟩⟩, hE⟩, ⟨by rw [List.length_map]; exact fR, by rw [List.length_map]; exact fP, by rw [List.length_map]; exact fT, fE, fun R hR' => ?_, fun P hP' => ?_, fun T hT' => ?_⟩⟩
  · obtain ⟨x, hx, rfl⟩ := List.mem_map.1 hR'
    exact (gR x hx).2
  · obtain ⟨x, hx, rfl⟩ := List.mem_map.1 hP'
    exact (gP x hx).2.2.2
  · obtain ⟨x, hx, rfl⟩ := List.mem_map.1 hT'
    exact (gT x hx).2.2

end Go.Proofs.YtkddgpdlpjjpbaaGreat
