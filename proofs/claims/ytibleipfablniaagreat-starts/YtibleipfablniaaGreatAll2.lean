/-
  PARTS LAID TOGETHER, each with its own opening: LmF, Grow, LmG, LmH, Obj, Sts, StoreA, StoreB, StoreC, Ins, InsA, FdsA, App, StPut2, Cnt, FdsB, FdsC, FdsD.
-/
import Derived.Test.YtibleipfablniaaGreatAll1
import Derived.BigRegion
import Derived.Orders
import Derived.Deep.RegionHeld3
import Derived.Deep.Cut
import Derived.Shelf.Spec.SlicesInsertGrow
import Derived.Deep.RegionLaw
/-
  THE WALK over choruslaw0's SameMachine, the rest of it: machines whose Configs, numbers of parts and histories are the same. Condition: that the first one's rows can be copied.
-/
namespace Go.Proofs.YtibleipfablniaaGreat
open Go.RowKit

abbrev cellsP (vs : Nat → Sl) (c l : Sl) : Array Value := #[slV (vs 0), slV (vs 1), slV (vs 2), slV (vs 3), slV c, slV l]
theorem Box.rep {w : World} {g : Nat} {vs : Nat → Sl} {c l : Sl} {ty : TypeId} (h : Box w g (cellsP vs c l) ty) :
    w.cell? ⟨g, 0, none⟩ = some (slV (vs 0)) ∧ w.cell? ⟨g, 1, none⟩ = some (slV (vs 1)) ∧ w.cell? ⟨g, 2, none⟩ = some (slV (vs 2)) ∧ w.cell? ⟨g, 3, none⟩ = some (slV (vs 3)) ∧ w.cell? ⟨g, 4, none⟩ = some (slV c) ∧ w.cell? ⟨g, 5, none⟩ = some (slV l) :=
  ⟨h.cell 0, h.cell 1, h.cell 2, h.cell 3, h.cell 4, h.cell 5⟩
theorem rp_eq {P S : Rp} : decide (P = S) = (decide (P.s = S.s) && decide (P.cs = S.cs) && decide (P.ls = S.ls)) := by
  obtain ⟨_, _, _⟩ := P
  obtain ⟨_, _, _⟩ := S
  simp [Bool.and_assoc]
theorem eq_of_takes {α : Type} {xs ys : List α} {n : Nat} (h1 : xs.length = n) (h2 : ys.length = n) (h : xs.take n = ys.take n) : xs = ys := by
  rw [List.take_of_length_le (by omega), List.take_of_length_le (by omega)] at h
  exact h

theorem two_boxes (w : World) (xs ys : Array Value) (t : TypeId) : Box ((w.alloc (.cells xs t)).alloc (.cells ys t)).drew w.heap.size xs t ∧ Box ((w.alloc (.cells xs t)).alloc (.cells ys t)).drew (w.heap.size + 1) ys t ∧ Le w ((w.alloc (.cells xs t)).alloc (.cells ys t)).drew := by
  refine ⟨((Box.new w xs t).le (Le.alloc _ _)).le (Le.drew _), ?_, ((Le.alloc _ _).trans (Le.alloc _ _)).trans (Le.drew _)⟩
  have := (Box.new (w.alloc (.cells xs t)) ys t).le (Le.drew _)
  rw [World.size_alloc] at this
  exact this

set_option maxRecDepth 4000 in
set_option maxHeartbeats 16000000 in
theorem lawSameMachineYes (v u : Value) (M N : Mc) (w : World) (hx : HasM w v M) (hy : HasM w u N) (hf : FitM M) (hc : M.c = N.c) (h1 : M.rs.length = N.rs.length) (h2 : M.ps.length = N.ps.length) (h3 : M.ts.length = N.ts.length) (h4 : M.es = N.es) :
    Calls Tryz.prog 8 #[v, u] w fun e w' => e = .returned (.bool (decide (M = N))) ∧ Le w w' := by
  obtain ⟨c, Rs, Ps, Ts, Es⟩ := M
  obtain ⟨c', Rs', Ps', Ts', Es'⟩ := N
  simp only at hc h1 h2 h3 h4
  subst hc h4
  obtain ⟨⟨aR, nR, cR⟩, ⟨aP, nP, cP⟩, ⟨aT, nT, cT⟩, qH, rfl, hR, hP, hT, hH⟩ := hx
  obtain ⟨⟨aR', nR', cR'⟩, ⟨aP', nP', cP'⟩, ⟨aT', nT', cT'⟩, qH', rfl, hR', hP', hT', hH'⟩ := hy
  obtain ⟨f1, f2, f3, f4, fr, fp, ft⟩ := hf
  simp only at hR hP hT hH hR' hP' hT' hH' f1 f2 f3 f4 fr fp ft
  obtain ⟨a, n, hv, nc, _, oR⟩ := hR.open
  simp only [slV, Value.slice.injEq] at hv
  obtain ⟨rfl, rfl, rfl⟩ := hv
  obtain ⟨a, n, hv, nc', _, oR'⟩ := hR'.open
  simp only [slV, Value.slice.injEq] at hv
  obtain ⟨rfl, rfl, rfl⟩ := hv
  obtain ⟨a, n, hv, pc, _, oP⟩ := hP.open
  simp only [slV, Value.slice.injEq] at hv
  obtain ⟨rfl, rfl, rfl⟩ := hv
  obtain ⟨a, n, hv, pc', _, oP'⟩ := hP'.open
  simp only [slV, Value.slice.injEq] at hv
  obtain ⟨rfl, rfl, rfl⟩ := hv
  obtain ⟨a, n, hv, tc, _, oT⟩ := hT.open
  simp only [slV, Value.slice.injEq] at hv
  obtain ⟨rfl, rfl, rfl⟩ := hv
  obtain ⟨a, n, hv, tc', _, oT'⟩ := hT'.open
  simp only [slV, Value.slice.injEq] at hv
  obtain ⟨rfl, rfl, rfl⟩ := hv
  rw [← h1] at nc' oR' ⊢
  rw [← h2] at pc' oP' ⊢
  rw [← h3] at tc' oT' ⊢
  have HR' : Hid (Rs'.length = Rs.length) := h1.symm
  have HP' : Hid (Ps'.length = Ps.length) := h2.symm
  have HT' : Hid (Ts'.length = Ts.length) := h3.symm
  have HD : Hid (∀ b, (Rs = Rs' ∧ Ps = Ps' ∧ Ts = Ts' ↔ b = true) → decide ((⟨c, Rs, Ps, Ts, Es⟩ : Mc) = ⟨c, Rs', Ps', Ts', Es⟩) = b) := fun b hb => by
    rw [Bool.eq_iff_iff, ← hb]; simp
  clear h1 h2 h3 hR hR' hP hP' hT hT'
  obtain ⟨nR, hnR⟩ : ∃ n, n = Rs.length := ⟨_, rfl⟩
  obtain ⟨nP, hnP⟩ : ∃ n, n = Ps.length := ⟨_, rfl⟩
  obtain ⟨nT, hnT⟩ : ∃ n, n = Ts.length := ⟨_, rfl⟩
  have HR : Hid (nR = Rs.length) := hnR
  have HP : Hid (nP = Ps.length) := hnP
  have HT : Hid (nT = Ts.length) := hnT
  rw [← hnR] at nc nc' oR oR' f1 ⊢
  rw [← hnP] at pc pc' oP oP' f2 ⊢
  rw [← hnT] at tc tc' oT oT' f3 ⊢
  clear hnR hnP hnT
  have hl := (Le.alloc w (.cells (cells9 c (aR, nR, cR) (aP, nP, cP) (aT, nT, cT) qH) 29)).trans (Le.alloc _ (.cells (cells9 c (aR', nR, cR') (aP', nP, cP') (aT', nT, cT') qH') 29))
  have hb1 := (Box.new w (cells9 c (aR, nR, cR) (aP, nP, cP) (aT, nT, cT) qH) 29).le (Le.alloc _ (.cells (cells9 c (aR', nR, cR') (aP', nP, cP') (aT', nT, cT') qH') 29))
  have hb2 := Box.new (w.alloc (.cells (cells9 c (aR, nR, cR) (aP, nP, cP) (aT, nT, cT) qH) 29)) (cells9 c (aR', nR, cR') (aP', nP, cP') (aT', nT, cT') qH') 29
  rw [World.size_alloc] at hb2
  have hev := lawSameEvents _ _ Es Es _ (hH.le hl) (hH'.le hl) (by omega)
  rw [decide_eq_true rfl] at hev
  clear hH hH' f4
  go_enter Tryz.func8, Tryz.ntmps8
  go_wp2_with fail
  refine hev.mono ?_
  rintro e w1 ⟨rfl, m1⟩
  clear hev
  replace hl := hl.trans m1
  replace hb1 := hb1.le m1
  replace hb2 := hb2.le m1
  clear m1
  obtain ⟨_, z5, z6, z7, _⟩ := hb1.mach
  obtain ⟨_, y5, y6, y7, _⟩ := hb2.mach
  simp only [slV] at z5 z6 z7 y5 y6 y7
  go_wp2_with fail
  go_loopw [5] (fun i wr => ∃ k : Nat, k ≤ nR ∧ i = .int .i64 k ∧ Hid (Rs.take k = Rs'.take k) ∧ Le w1 wr) (fun i _ => nR - (intOf i).toNat)
  case atStart => exact ⟨0, Nat.zero_le _, rfl, rfl, Le.refl _⟩
  case round =>
    obtain ⟨k, hk, rfl, HA, hle⟩ := hrel
    by_cases hlt : k < nR
    · obtain ⟨b, off, rfl, oRk⟩ := oR (by omega)
      obtain ⟨b', off', rfl, oRk'⟩ := oR' (by omega)
      obtain ⟨q, rA, hq⟩ := oRk k hlt
      obtain ⟨q', rA', hq'⟩ := oRk' k hlt
      obtain ⟨R, hRk⟩ : ∃ R, R = Rs.getD k Rg.zero := ⟨_, rfl⟩
      obtain ⟨R', hRk'⟩ : ∃ R, R = Rs'.getD k Rg.zero := ⟨_, rfl⟩
      have HX : Hid (R = Rs.getD k Rg.zero) := hRk
      have HX' : Hid (R' = Rs'.getD k Rg.zero) := hRk'
      rw [← hRk] at rA hq
      rw [← hRk'] at rA' hq'
      have hfR : FitR R := by rw [hRk]; exact fr _ (getD_mem (by have := HR.out; omega))
      clear hRk hRk' oR oR' oRk oRk' oP oP' oT oT'
      replace hq := (hq.le hl).le hle
      replace hq' := (hq'.le hl).le hle
      obtain ⟨x0, x1, x2, x3⟩ := ((rA.le hl).le hle).later
      obtain ⟨x0', x1', x2', x3'⟩ := ((rA'.le hl).le hle).later
      replace z5 := cell_le z5 hle
      have u5 := cell_later z5
      have u5' := cell_later (cell_le y5 hle)
      have hlt' : (k : Int) < (nR : Int) := by omega
      have hk0 : (0 : Int) ≤ (k : Int) := by omega
      have hs := fun X : Later wr => lawSameRing (ringV R.h R.t R.f q) (ringV R'.h R'.t R'.f q') R R' X.w ⟨q, rfl, hq.le X.le⟩ ⟨q', rfl, hq'.le X.le⟩ hfR
      clear rA rA' hq hq' z6 z7 y5 y6 y7 fr fp ft hfR
      by_cases hRR : R = R'
      · simp only [decide_eq_true hRR] at hs
        have HRR : Hid (R = R') := hRR
        clear hRR
        go_wp2_with fail
        refine wp_region_later (by kernel_rfl) (by kernel_rfl) ?_
        repeat (go_big_quiet_step (first | (go_at_call 22; with_reducible exact Calls.later (hs _))))
        refine wpQuiet_nil ?_
        rintro _ ⟨x, rfl⟩
        go_wp2_with fail
        go_roundw
        case rel => exact ⟨k + 1, by omega, by go_num, take_sameE (d := Rg.zero) (by have := HR.out; omega) (by have := HR.out; have := HR'.out; omega) HA.out (by rw [← HX.out, ← HX'.out]; exact HRR.out), hle.trans x.le⟩
        case measure => simp [intOf]; omega
      · simp only [decide_eq_false hRR] at hs
        have HRR : Hid (¬ R = R') := hRR
        clear hRR
        go_wp2_with fail
        refine wp_region_later (by kernel_rfl) (by kernel_rfl) ?_
        repeat (go_big_quiet_step (first | (go_at_call 22; with_reducible exact Calls.later (hs _))))
        refine wpQuiet_nil ?_
        rintro _ ⟨x, rfl⟩
        go_wp2_with fail
        go_ret
        refine ⟨ret_bool (HD.out false ?_).symm, (hl.trans hle).trans x.le⟩
        have hn := ne_of_atE (k := k) (d := Rg.zero) (xs := Rs) (ys := Rs') (by rw [← HX.out, ← HX'.out]; exact HRR.out)
        exact ⟨fun h => absurd h.1 hn, fun h => by cases h⟩
    · have HRs : Hid (Rs = Rs') := by
        have e : k = nR := by omega
        subst e
        exact eq_of_takes HR.out.symm (HR'.out.trans HR.out.symm) HA.out
      clear HA oR oR' y5 fr
      replace hl := hl.trans hle
      replace z5 := cell_le z5 hle
      replace z6 := cell_le z6 hle
      replace z7 := cell_le z7 hle
      replace y6 := cell_le y6 hle
      replace y7 := cell_le y7 hle
      clear hle hb1 hb2
      go_wp2_with fail
      go_loopw [6] (fun i wq => ∃ k : Nat, k ≤ nP ∧ i = .int .i64 k ∧ Hid (Ps.take k = Ps'.take k) ∧ Le wr wq) (fun i _ => nP - (intOf i).toNat)
      case atStart => exact ⟨0, Nat.zero_le _, rfl, rfl, Le.refl _⟩
      case round =>
        obtain ⟨j, hj, rfl, HA, hle⟩ := hrel
        by_cases hlt2 : j < nP
        · obtain ⟨b, off, rfl, oPk⟩ := oP (by omega)
          obtain ⟨b', off', rfl, oPk'⟩ := oP' (by omega)
          obtain ⟨vs, qc, ql, rA, hq0, hq1, hq2⟩ := oPk j hlt2
          obtain ⟨vs', qc', ql', rA', hq0', hq1', hq2'⟩ := oPk' j hlt2
          obtain ⟨P, hPk⟩ : ∃ R, R = Ps.getD j Rp.zero := ⟨_, rfl⟩
          obtain ⟨P', hPk'⟩ : ∃ R, R = Ps'.getD j Rp.zero := ⟨_, rfl⟩
          have HX : Hid (P = Ps.getD j Rp.zero) := hPk
          have HX' : Hid (P' = Ps'.getD j Rp.zero) := hPk'
          rw [← hPk] at hq0 hq1 hq2
          rw [← hPk'] at hq0' hq1' hq2'
          obtain ⟨g0, g1, g2⟩ : Fit P.s ∧ P.cs.length * 8 ≤ 140737488351232 ∧ P.ls.length * 8 ≤ 140737488351232 := by rw [hPk]; exact fp _ (getD_mem (by have := HP.out; omega))
          clear hPk hPk' oP oP' oPk oPk' oT oT'
          have hlw := hl.trans hle
          have HS : HasS wr (stV vs) P.s := ⟨vs, rfl, fun i hi => (hq0 i hi).le hlw⟩
          have HS' : HasS wr (stV vs') P'.s := ⟨vs', rfl, fun i hi => (hq0' i hi).le hlw⟩
          replace hq1 := hq1.le hlw
          replace hq1' := hq1'.le hlw
          replace hq2 := hq2.le hlw
          replace hq2' := hq2'.le hlw
          obtain ⟨x0, x1, x2, x3, x4, x5⟩ := rA.le hlw
          obtain ⟨x0', x1', x2', x3', x4', x5'⟩ := rA'.le hlw
          replace z6 := cell_le z6 hle
          replace y6 := cell_le y6 hle
          have hlt' : (j : Int) < (nP : Int) := by omega
          have hj0 : (0 : Int) ≤ (j : Int) := by omega
          clear rA rA' z5 z7 y7 fp ft hq0 hq0'
          have n1 := World.new_ne wr _ z6
          have n2 := World.new_ne wr _ y6
          have n3 := World.new_ne wr _ x0
          have n4 := World.new_ne wr _ x0'
          simp only at n1 n2 n3 n4
          go_upto_region 11 with fail
          go_cut [7, 8] from 76 to 107 (fun s7 s8 wc => ∃ ga gb, s7 = .pointer (some ⟨ga, 0, none⟩) ∧ s8 = .pointer (some ⟨gb, 0, none⟩) ∧ Box wc ga (cellsP vs qc ql) 56 ∧ Box wc gb (cellsP vs' qc' ql') 56 ∧ Le wr wc)
          case first =>
            go_region_held3 (fun w' => w'.cell? ⟨w.heap.size, 6, none⟩ = some (.slice (some ⟨b, off, none⟩) nP cP) ∧ w'.cell? ⟨w.heap.size + 1, 6, none⟩ = some (.slice (some ⟨b', off', none⟩) nP cP') ∧ w'.cell? ⟨b, off + j * 6, none⟩ = some (slV (vs 0)) ∧ w'.cell? ⟨b, off + j * 6 + 1, none⟩ = some (slV (vs 1)) ∧ w'.cell? ⟨b, off + j * 6 + 2, none⟩ = some (slV (vs 2)) ∧ w'.cell? ⟨b, off + j * 6 + 3, none⟩ = some (slV (vs 3)) ∧ w'.cell? ⟨b, off + j * 6 + 4, none⟩ = some (slV qc) ∧ w'.cell? ⟨b, off + j * 6 + 5, none⟩ = some (slV ql) ∧ w'.cell? ⟨b', off' + j * 6, none⟩ = some (slV (vs' 0)) ∧ w'.cell? ⟨b', off' + j * 6 + 1, none⟩ = some (slV (vs' 1)) ∧ w'.cell? ⟨b', off' + j * 6 + 2, none⟩ = some (slV (vs' 2)) ∧ w'.cell? ⟨b', off' + j * 6 + 3, none⟩ = some (slV (vs' 3)) ∧ w'.cell? ⟨b', off' + j * 6 + 4, none⟩ = some (slV qc') ∧ w'.cell? ⟨b', off' + j * 6 + 5, none⟩ = some (slV ql')) (go_keep) (fail)
            all_goals
              go_wp2_with fail
              go_meet
              case rel => first | exact ⟨_, _, rfl, rfl, (two_boxes wr _ _ _).1, (two_boxes wr _ _ _).2.1, (two_boxes wr _ _ _).2.2⟩ | exact ⟨_, _, rfl, rfl, (two_boxes wr _ _ _).2.1, (two_boxes wr _ _ _).1, (two_boxes wr _ _ _).2.2⟩
          case rest =>
            obtain ⟨ga, gb, rfl, rfl, ba, bb, lc⟩ := hcut
            clear x0 x1 x2 x3 x4 x5 x0' x1' x2' x3' x4' x5' n1 n2 n3 n4 z6 y6
            have s1 := lawSameState (stV vs) (stV vs') P.s P'.s wc (HS.le lc) (HS'.le lc) g0
            have s2 := fun w' (l : Le wr w') => lawSameI _ _ P.cs P'.cs w' (hq1.le l) (hq1'.le l) g1
            have s3 := fun w' (l : Le wr w') => lawSameI _ _ P.ls P'.ls w' (hq2.le l) (hq2'.le l) g2
            have HW : Hid (¬ P = P' → decide ((⟨c, Rs, Ps, Ts, Es⟩ : Mc) = ⟨c, Rs', Ps', Ts', Es⟩) = false) := fun hn => HD.out false ⟨fun h => absurd h.2.1 (ne_of_atE (k := j) (d := Rp.zero) (by rw [← HX.out, ← HX'.out]; exact hn)), fun h => by cases h⟩
            obtain ⟨t0, t1, t2, t3, t4, t5⟩ := ba.rep
            obtain ⟨r0, r1, r2, r3, r4, r5⟩ := bb.rep
            by_cases d1 : P.s = P'.s
            · rw [decide_eq_true d1] at s1
              by_cases d2 : P.cs = P'.cs
              · simp only [decide_eq_true d2] at s2
                by_cases d3 : P.ls = P'.ls
                · simp only [decide_eq_true d3] at s3
                  have HPP : Hid (P = P') := by
                    obtain ⟨_, _, _⟩ := P
                    obtain ⟨_, _, _⟩ := P'
                    simp only at d1 d2 d3
                    subst d1 d2 d3
                    rfl
                  clear d1 d2 d3
                  go_wp2_with fail
                  refine s1.mono ?_
                  rintro e wd ⟨rfl, ld⟩
                  obtain ⟨t0', t1', t2', t3', t4', t5'⟩ := (ba.le ld).rep
                  obtain ⟨r0', r1', r2', r3', r4', r5'⟩ := (bb.le ld).rep
                  go_wp2_with fail
                  refine (s2 _ (lc.trans ld)).mono ?_
                  rintro e we ⟨rfl, le'⟩
                  obtain ⟨_, _, _, _, _, t6⟩ := ((ba.le ld).le le').rep
                  obtain ⟨_, _, _, _, _, r6⟩ := ((bb.le ld).le le').rep
                  go_wp2_with fail
                  refine (s3 _ ((lc.trans ld).trans le')).mono ?_
                  rintro e wf ⟨rfl, lf⟩
                  go_wp2_with fail
                  go_roundw
                  case rel => exact ⟨j + 1, by omega, by go_num, take_sameE (d := Rp.zero) (by have := HP.out; omega) (by have := HP.out; have := HP'.out; omega) HA.out (by rw [← HX.out, ← HX'.out]; exact HPP.out), (((hle.trans lc).trans ld).trans le').trans lf⟩
                  case measure => simp [intOf]; omega
                · simp only [decide_eq_false d3] at s3
                  have HN : Hid (decide ((⟨c, Rs, Ps, Ts, Es⟩ : Mc) = ⟨c, Rs', Ps', Ts', Es⟩) = false) := HW.out (fun h => d3 (by rw [h]))
                  clear d1 d2 d3
                  go_wp2_with fail
                  refine s1.mono ?_
                  rintro e wd ⟨rfl, ld⟩
                  obtain ⟨t0', t1', t2', t3', t4', t5'⟩ := (ba.le ld).rep
                  obtain ⟨r0', r1', r2', r3', r4', r5'⟩ := (bb.le ld).rep
                  go_wp2_with fail
                  refine (s2 _ (lc.trans ld)).mono ?_
                  rintro e we ⟨rfl, le'⟩
                  obtain ⟨_, _, _, _, _, t6⟩ := ((ba.le ld).le le').rep
                  obtain ⟨_, _, _, _, _, r6⟩ := ((bb.le ld).le le').rep
                  go_wp2_with fail
                  refine (s3 _ ((lc.trans ld).trans le')).mono ?_
                  rintro e wf ⟨rfl, lf⟩
                  go_wp2_with fail
                  go_ret
                  exact ⟨ret_bool HN.out.symm, ((((hl.trans hle).trans lc).trans ld).trans le').trans lf⟩
              · simp only [decide_eq_false d2] at s2
                have HN : Hid (decide ((⟨c, Rs, Ps, Ts, Es⟩ : Mc) = ⟨c, Rs', Ps', Ts', Es⟩) = false) := HW.out (fun h => d2 (by rw [h]))
                clear d1 d2 s3
                go_wp2_with fail
                refine s1.mono ?_
                rintro e wd ⟨rfl, ld⟩
                obtain ⟨t0', t1', t2', t3', t4', t5'⟩ := (ba.le ld).rep
                obtain ⟨r0', r1', r2', r3', r4', r5'⟩ := (bb.le ld).rep
                go_wp2_with fail
                refine (s2 _ (lc.trans ld)).mono ?_
                rintro e we ⟨rfl, le'⟩
                go_wp2_with fail
                go_ret
                exact ⟨ret_bool HN.out.symm, (((hl.trans hle).trans lc).trans ld).trans le'⟩
            · rw [decide_eq_false d1] at s1
              have HN : Hid (decide ((⟨c, Rs, Ps, Ts, Es⟩ : Mc) = ⟨c, Rs', Ps', Ts', Es⟩) = false) := HW.out (fun h => d1 (by rw [h]))
              clear d1 s2 s3
              go_wp2_with fail
              refine s1.mono ?_
              rintro e wd ⟨rfl, ld⟩
              go_wp2_with fail
              go_ret
              exact ⟨ret_bool HN.out.symm, ((hl.trans hle).trans lc).trans ld⟩
        · have HPs : Hid (Ps = Ps') := by
            have e : j = nP := by omega
            subst e
            exact eq_of_takes HP.out.symm (HP'.out.trans HP.out.symm) HA.out
          clear HA oP oP' y6 fp z5
          replace hl := hl.trans hle
          replace z6 := cell_le z6 hle
          replace z7 := cell_le z7 hle
          replace y7 := cell_le y7 hle
          clear hle
          go_wp2_with fail
          go_loopw [9] (fun i wq => ∃ k : Nat, k ≤ nT ∧ i = .int .i64 k ∧ Hid (Ts.take k = Ts'.take k) ∧ Le wr wq) (fun i _ => nT - (intOf i).toNat)
          case atStart => exact ⟨0, Nat.zero_le _, rfl, rfl, Le.refl _⟩
          case round =>
            obtain ⟨i, hi, rfl, HA, hle⟩ := hrel
            by_cases hlt3 : i < nT
            · obtain ⟨b, off, rfl, oTk⟩ := oT (by omega)
              obtain ⟨b', off', rfl, oTk'⟩ := oT' (by omega)
              obtain ⟨q, t, rA, hq, ht⟩ := oTk i hlt3
              obtain ⟨q', t', rA', hq', ht'⟩ := oTk' i hlt3
              obtain ⟨T, hTk⟩ : ∃ R, R = Ts.getD i Th.zero := ⟨_, rfl⟩
              obtain ⟨T', hTk'⟩ : ∃ R, R = Ts'.getD i Th.zero := ⟨_, rfl⟩
              have HX : Hid (T = Ts.getD i Th.zero) := hTk
              have HX' : Hid (T' = Ts'.getD i Th.zero) := hTk'
              rw [← hTk] at rA hq ht
              rw [← hTk'] at rA' hq' ht'
              obtain ⟨g0, g1⟩ : T.b.length * 8 ≤ 140737488351232 ∧ T.tl.length * 8 ≤ 140737488351232 := by rw [hTk]; exact ft _ (getD_mem (by have := HT.out; omega))
              clear hTk hTk' oT oT' oTk oTk'
              have hlw := hl.trans hle
              obtain ⟨x0, x1, x2, x3, x4, x5, x6, x7, x8, x9, x10, x11⟩ := (rA.le hlw).later
              obtain ⟨y0, y1, y2, y3, y4, y5', y6', y7', y8, y9, y10, y11⟩ := (rA'.le hlw).later
              replace z7 := cell_le z7 hle
              have u7 := cell_later z7
              have u7' := cell_later (cell_le y7 hle)
              have hlt' : (i : Int) < (nT : Int) := by omega
              have hi0 : (0 : Int) ≤ (i : Int) := by omega
              have hs := fun X : Later wr => lawSameThread (thV T q t) (thV T' q' t') T T' X.w ⟨q, t, rfl, hq.le (hlw.trans X.le), ht.le (hlw.trans X.le)⟩ ⟨q', t', rfl, hq'.le (hlw.trans X.le), ht'.le (hlw.trans X.le)⟩ g0 g1
              clear rA rA' hq hq' ht ht' z6 y7 ft g0 g1
              by_cases hTT : T = T'
              · simp only [decide_eq_true hTT] at hs
                have HTT : Hid (T = T') := hTT
                clear hTT
                go_wp2_with fail
                refine wp_region_later (by kernel_rfl) (by kernel_rfl) ?_
                repeat (go_big_quiet_step (first | (go_at_call 25; with_reducible exact Calls.later (hs _))))
                refine wpQuiet_nil ?_
                rintro _ ⟨x, rfl⟩
                go_wp2_with fail
                go_roundw
                case rel => exact ⟨i + 1, by omega, by go_num, take_sameE (d := Th.zero) (by have := HT.out; omega) (by have := HT.out; have := HT'.out; omega) HA.out (by rw [← HX.out, ← HX'.out]; exact HTT.out), hle.trans x.le⟩
                case measure => simp [intOf]; omega
              · simp only [decide_eq_false hTT] at hs
                have HTT : Hid (¬ T = T') := hTT
                clear hTT
                go_wp2_with fail
                refine wp_region_later (by kernel_rfl) (by kernel_rfl) ?_
                repeat (go_big_quiet_step (first | (go_at_call 25; with_reducible exact Calls.later (hs _))))
                refine wpQuiet_nil ?_
                rintro _ ⟨x, rfl⟩
                go_wp2_with fail
                go_ret
                refine ⟨ret_bool (HD.out false ?_).symm, (hl.trans hle).trans x.le⟩
                have hn := ne_of_atE (k := i) (d := Th.zero) (xs := Ts) (ys := Ts') (by rw [← HX.out, ← HX'.out]; exact HTT.out)
                exact ⟨fun h => absurd h.2.2 hn, fun h => by cases h⟩
            · have HTs : Hid (Ts = Ts') := by
                have e : i = nT := by omega
                subst e
                exact eq_of_takes HT.out.symm (HT'.out.trans HT.out.symm) HA.out
              replace z7 := cell_le z7 hle
              clear oT oT' y7 z6
              go_wp2_with fail
              go_ret
              exact ⟨ret_bool (HD.out true ⟨fun _ => rfl, fun _ => ⟨HRs.out, HPs.out, HTs.out⟩⟩).symm, hl.trans hle⟩

theorem lawSameMachine (v u : Value) (M N : Mc) (w : World) (hx : HasM w v M) (hy : HasM w u N) (hf : FitM M) :
    Calls Tryz.prog 8 #[v, u] w fun e w' => e = .returned (.bool (decide (M = N))) ∧ Le w w' := by
  by_cases h : M.c = N.c ∧ M.rs.length = N.rs.length ∧ M.ps.length = N.ps.length ∧ M.ts.length = N.ts.length ∧ M.es = N.es
  · obtain ⟨h0, h1, h2, h3, h4⟩ := h
    exact lawSameMachineYes v u M N w hx hy hf h0 h1 h2 h3 h4
  · rw [decide_eq_false (fun e => h (by rw [e]; exact ⟨rfl, rfl, rfl, rfl, rfl⟩))]
    exact lawSameMachineNo v u M N w hx hy hf h

end Go.Proofs.YtibleipfablniaaGreat

/-
  PLAIN GROUND, NO WALK: a statement that leaves its order open, whose first operations only make memory and read what no other one writes, and whose last ones wait for all of them: each of the first is looked at once, in whatever world it may come up in; what it gives is told by an assertion that the others keep; the last ones are walked in a row. No condition but that.
-/
namespace Go.Proofs.YtibleipfablniaaGreat
open Go.RowKit

/-- What an operation gives, where it neither panics nor defers. -/
def gives (P : Program) (ρ : Operand → Value) (o : Oper) (w : World) (K : Value → World → Prop) : Prop :=
  match (execOp ρ o).run P w with
  | .ok (.value v) w' => K v w'
  | .ok .skip w' => K undef w'
  | .ok (.enter f args) w' => Calls P f args w' fun e w'' => ∃ v, e = .returned v ∧ K v w''
  | _ => False

theorem gives_wp {P : Program} {o : Oper} {a : Act} {w : World} {K : Value → World → Prop} {K' : Act → World → Prop} {Q : Exit → Act → World → Prop} (h : gives P a.eval o w K) (hK : ∀ v w', K v w' → K' (a.put o.dst v) w') : o.wp P a w K' Q := by
  unfold gives at h
  unfold Oper.wp
  generalize (execOp a.eval o).run P w = r at h ⊢
  cases r with
  | ok n w' =>
    cases n <;> simp only [Oper.upon] at h ⊢
    case value v => exact hK _ _ h
    case skip => exact hK _ _ h
    case enter f args =>
      refine Calls.mono h fun e w'' he => ?_
      obtain ⟨v, rfl, hk⟩ := he
      exact hK _ _ hk
  | halt x w' => simp only at h

theorem put_size (a : Act) (d : Option Tmp) (v : Value) : (a.put d v).tmps.size = a.tmps.size := by cases d <;> simp [Act.put]
theorem put_defers (a : Act) (d : Option Tmp) (v : Value) : (a.put d v).defers = a.defers := by cases d <;> rfl
theorem put_other (a : Act) (d : Option Tmp) (v : Value) {t : Tmp} (h : d ≠ some t) : (a.put d v).tmps[t]? = a.tmps[t]? := by
  cases d with
  | none => rfl
  | some e =>
    have hne : e ≠ t := fun x => h (by rw [x])
    simp [Act.put, Array.getElem?_setIfInBounds_ne hne]
theorem put_same (a : Act) (v : Value) {t : Tmp} (h : t < a.tmps.size) : (a.put (some t) v).tmps[t]? = some v := by
  simp [Act.put, h]

/-- The places that an operation looks at. -/
def tmpsOf (o : Oper) : List Tmp := o.op.operands.toList.filterMap fun | .tmp t => some t | _ => none
def notSelect (o : Oper) : Bool := match o.op with | .select _ _ => false | _ => true
def waitsFor (o : Oper) (j : Nat) : Bool := o.after.any fun e => Region.binds .any e && e.on == j
/-- Is there such an operation, and is it so of it? -/
def atL (l : List Oper) (i : Nat) (p : Oper → Bool) : Bool := match l[i]? with
  | none => false
  | some o => p o
theorem atL_spec {l : List Oper} {i : Nat} {p : Oper → Bool} {o : Oper} (ho : l[i]? = some o) (h : atL l i p = true) : p o = true := by
  unfold atL at h
  rw [ho] at h
  exact h
def plainB (i : Nat) (o : Oper) : Bool := o.guard.isNone && notSelect o && o.after.all (fun e => !Region.binds .any e || decide (e.on < i))
def pairB (o : Oper) (i j : Nat) (oj : Oper) : Bool := (decide (j = i) || !(oj.dst == o.dst)) && (!((tmpsOf o).any fun t => oj.dst == some t) || waitsFor o j)
/-- All that an operation waits for, one behind the other. -/
def need : Nat → List Oper → Nat → List Nat
  | 0, _, _ => []
  | f + 1, l, i => match l[i]? with
    | none => []
    | some o => (o.after.toList.filter (fun e => Region.binds .any e)).flatMap fun e => e.on :: need f l e.on
/-- Each of the last ones waits for all of H and for the last ones ahead of it, and stands behind them. -/
def lateB (l : List Oper) (H : List Nat) : List Nat → List Nat → Bool
  | _, [] => true
  | done, i :: rest => (H ++ done).all (fun j => (need l.length l i).contains j) && rest.all (fun j => decide (i < j)) && decide (i < l.length) && lateB l H (done ++ [i]) rest
/-- What the law asks. T: those that have come up; H: those that may come up in any order; late: the last ones. -/
def growB (l : List Oper) (T H late : List Nat) (listed : Array Bool) : Bool :=
  decide (listed.size = l.length) && (List.range l.length).all (fun i => atL l i (plainB i) && (T.contains i || H.contains i || late.contains i) && ((listed.getD i true) == T.contains i)) &&
  T.all (fun i => atL l i (fun o => o.after.all (fun e => !Region.binds .any e || T.contains e.on))) &&
  H.all (fun i => !T.contains i && !late.contains i && atL l i (fun o => o.dst.isSome && H.all (fun j => atL l j (pairB o i j)))) &&
  late.all (fun i => !T.contains i) && lateB l H [] late

theorem waitsFor_spec {o : Oper} {j : Nat} (h : waitsFor o j = true) : ∃ e ∈ o.after, Region.binds .any e = true ∧ e.on = j := by
  unfold waitsFor at h
  rw [Array.any_eq_true'] at h
  obtain ⟨e, he, hh⟩ := h
  simp at hh
  exact ⟨e, he, hh.1, hh.2⟩

/-- What has come up holds all that it waits for. -/
def Shut (l : List Oper) (listed : Array Bool) : Prop := ∀ i o, l[i]? = some o → listed.getD i false = true → ∀ e ∈ o.after, Region.binds .any e = true → listed.getD e.on false = true

theorem need_listed {l : List Oper} {listed : Array Bool} (hs : Shut l listed) : ∀ (f i : Nat), (∀ o, l[i]? = some o → ∀ e ∈ o.after, Region.binds .any e = true → listed.getD e.on false = true) → ∀ j ∈ need f l i, listed.getD j false = true
  | 0, _, _, j, hj => by simp [need] at hj
  | f + 1, i, h, j, hj => by
    unfold need at hj
    cases ho : l[i]? with
    | none => rw [ho] at hj; simp at hj
    | some o =>
      rw [ho] at hj
      simp only [List.mem_flatMap, List.mem_filter, List.mem_cons] at hj
      obtain ⟨e, ⟨he, hb⟩, hj⟩ := hj
      have hl := h o ho e (by simpa using he) hb
      rcases hj with rfl | hj
      · exact hl
      · exact need_listed hs f e.on (fun oe hoe => hs e.on oe hoe hl) j hj

structure GrowS (l : List Oper) (T H late : List Nat) : Prop where
  plain : ∀ i o, l[i]? = some o → o.guard = none ∧ notSelect o = true ∧ ∀ e ∈ o.after, Region.binds .any e = true → e.on < i
  cover : ∀ i o, l[i]? = some o → i ∈ T ∨ i ∈ H ∨ i ∈ late
  off : ∀ i, i ∈ H → i ∉ T ∧ i ∉ late
  offT : ∀ i, i ∈ late → i ∉ T
  dst : ∀ i o, i ∈ H → l[i]? = some o → ∃ t, o.dst = some t
  dist : ∀ i j o oj, i ∈ H → j ∈ H → l[i]? = some o → l[j]? = some oj → j ≠ i → oj.dst ≠ o.dst
  dep : ∀ i j o oj t, i ∈ H → j ∈ H → l[i]? = some o → l[j]? = some oj → t ∈ tmpsOf o → oj.dst = some t → waitsFor o j = true
  lateS : lateB l H [] late = true
  inH : ∀ i, i ∈ H → ∃ o, l[i]? = some o

theorem lt_of_at {l : List Oper} {i : Nat} {o : Oper} (hi : l[i]? = some o) : i < l.length := by
  rcases Nat.lt_or_ge i l.length with h' | h'
  · exact h'
  · rw [List.getElem?_eq_none h'] at hi; cases hi
theorem atL_some {l : List Oper} {i : Nat} {p : Oper → Bool} (h : atL l i p = true) : ∃ o, l[i]? = some o := by
  unfold atL at h
  cases ho : l[i]? with
  | none => rw [ho] at h; cases h
  | some o => exact ⟨o, rfl⟩

theorem growS {l : List Oper} {T H late : List Nat} {listed : Array Bool} (h : growB l T H late listed = true) : GrowS l T H late ∧ listed.size = l.length ∧ (∀ i, i < l.length → (listed.getD i true = true ↔ i ∈ T)) ∧ (∀ i o, i ∈ T → l[i]? = some o → ∀ e ∈ o.after, Region.binds .any e = true → e.on ∈ T) := by
  unfold growB at h
  simp only [Bool.and_eq_true, decide_eq_true_eq, List.all_eq_true, List.mem_range] at h
  obtain ⟨⟨⟨⟨⟨h0, h1⟩, h2⟩, h3⟩, h4⟩, h5⟩ := h
  refine ⟨⟨fun i o hi => ?_, fun i o hi => ?_, fun i hi => ?_, fun i hi => ?_, fun i o hi ho => ?_, fun i j o oj hi hj ho hoj hne e => ?_, fun i j o oj t hi hj ho hoj ht hd => ?_, h5, fun i hi => ?_⟩, h0, fun i hi => ?_, fun i o hi ho e he hb => ?_⟩
  · have := atL_spec hi (h1 i (lt_of_at hi)).1.1
    unfold plainB at this
    simp only [Bool.and_eq_true, Option.isNone_iff_eq_none] at this
    refine ⟨this.1.1, this.1.2, fun e he hb => ?_⟩
    have h6 := this.2
    rw [Array.all_eq_true'] at h6
    have := h6 e he
    simp [hb] at this
    exact this
  · have := (h1 i (lt_of_at hi)).1.2
    simp at this
    rcases this with (h | h) | h
    · exact .inl h
    · exact .inr (.inl h)
    · exact .inr (.inr h)
  · have := (h3 i hi).1
    simp at this
    exact this
  · have := h4 i hi
    simpa using this
  · have h6 := atL_spec ho (h3 i hi).2
    simp only [Bool.and_eq_true] at h6
    exact Option.isSome_iff_exists.1 h6.1
  · have h6 := atL_spec ho (h3 i hi).2
    simp only [Bool.and_eq_true, List.all_eq_true] at h6
    have h7 := atL_spec hoj (h6.2 j hj)
    unfold pairB at h7
    simp [hne, e] at h7
  · have h6 := atL_spec ho (h3 i hi).2
    simp only [Bool.and_eq_true, List.all_eq_true] at h6
    have h7 := atL_spec hoj (h6.2 j hj)
    unfold pairB at h7
    simp only [Bool.and_eq_true, Bool.or_eq_true, Bool.not_eq_true'] at h7
    rcases h7.2 with h8 | h8
    · exfalso
      rw [← Bool.not_eq_true, List.any_eq_true] at h8
      exact h8 ⟨t, ht, by simp [hd]⟩
    · exact h8
  · exact atL_some (h3 i hi).2
  · have := (h1 i hi).2
    simp only [beq_iff_eq] at this
    rw [this]
    simp
  · have h6 := atL_spec ho (h2 i hi)
    rw [Array.all_eq_true'] at h6
    have := h6 e he
    simpa [hb] using this

theorem notSelect_spec {o : Oper} (h : notSelect o = true) : ∀ cs b, o.op ≠ .select cs b := by
  intro cs b e
  unfold notSelect at h
  rw [e] at h
  cases h

/-- The values of the operations of H, laid into their places. -/
def putH (l : List Oper) : List Nat → Act → (Nat → Value) → Act
  | [], a, _ => a
  | i :: is, a, vs => putH l is (a.put ((l[i]?).bind (·.dst)) (vs i)) vs

theorem putH_size (l : List Oper) : ∀ (is : List Nat) (a : Act) (vs : Nat → Value), (putH l is a vs).tmps.size = a.tmps.size
  | [], _, _ => rfl
  | i :: is, a, vs => by rw [putH, putH_size l is, put_size]
theorem putH_defers (l : List Oper) : ∀ (is : List Nat) (a : Act) (vs : Nat → Value), (putH l is a vs).defers = a.defers
  | [], _, _ => rfl
  | i :: is, a, vs => by rw [putH, putH_defers l is, put_defers]
theorem putH_off (l : List Oper) : ∀ (is : List Nat) (a : Act) (vs : Nat → Value) (t : Tmp), (∀ i ∈ is, (l[i]?).bind (·.dst) ≠ some t) → (putH l is a vs).tmps[t]? = a.tmps[t]?
  | [], _, _, _, _ => rfl
  | i :: is, a, vs, t, h => by
    rw [putH, putH_off l is _ _ t (fun x hx => h x (List.mem_cons_of_mem _ hx)), put_other _ _ _ (h i List.mem_cons_self)]
theorem putH_at (l : List Oper) : ∀ (is : List Nat) (a : Act) (vs : Nat → Value) (t : Tmp) (i : Nat), i ∈ is → (l[i]?).bind (·.dst) = some t → (∀ j ∈ is, j ≠ i → (l[j]?).bind (·.dst) ≠ some t) → t < a.tmps.size → (putH l is a vs).tmps[t]? = some (vs i)
  | [], _, _, _, i, h, _, _, _ => by simp at h
  | x :: is, a, vs, t, i, h, hd, hn, ht => by
    by_cases hi : i ∈ is
    · rw [putH, putH_at l is _ vs t i hi hd (fun j hj hne => hn j (List.mem_cons_of_mem _ hj) hne) (by rw [put_size]; exact ht)]
    · have : i = x := (List.mem_cons.1 h).resolve_right hi
      subst this
      rw [putH, putH_off l is _ _ t (fun j hj => hn j (List.mem_cons_of_mem _ hj) (fun e => hi (e ▸ hj))), hd, put_same _ _ ht]

/-- What stands while the operations of H come up. -/
structure GrowI (l : List Oper) (T H late : List Nat) (a0 : Act) (A : (Nat → Value) → Nat → World → Prop) (Rel : World → World → Prop) (w0 : World) (listed : Array Bool) (vs : Nat → Value) (a : Act) (w : World) : Prop where
  ls : listed.size = l.length
  shut : Shut l listed
  t : ∀ i o, l[i]? = some o → i ∈ T → listed.getD i false = true
  lt : ∀ i o, l[i]? = some o → i ∈ late → listed.getD i true = false
  rel : Rel w0 w
  df : a.defers = a0.defers
  sz : a.tmps.size = a0.tmps.size
  at' : ∀ i o t, i ∈ H → l[i]? = some o → o.dst = some t → listed.getD i false = true → t < a0.tmps.size → a.tmps[t]? = some (vs i)
  off : ∀ t, (∀ i o, i ∈ H → l[i]? = some o → listed.getD i false = true → o.dst ≠ some t) → a.tmps[t]? = a0.tmps[t]?
  fact : ∀ i, i ∈ H → listed.getD i false = true → A vs i w

theorem getD_false_true {b : Array Bool} {i : Nat} (hi : i < b.size) (h : b.getD i true ≠ false) : b.getD i false = true := by
  simp [Array.getD, hi] at h ⊢
  exact h
theorem getD_size {b : Array Bool} {i : Nat} (h : b.getD i false = true) : i < b.size := by
  rcases Nat.lt_or_ge i b.size with h' | h'
  · exact h'
  · simp [Array.getD, Nat.not_lt.2 h'] at h
theorem getD_both {b : Array Bool} {i : Nat} (h : b.getD i false = true) (k : b.getD i true = false) : False := by
  have := getD_size h
  simp [Array.getD, this] at h k
  rw [h] at k
  cases k
theorem getD_set_other {b : Array Bool} {i j : Nat} (d : Bool) (h : j ≠ i) : (b.setIfInBounds i true).getD j d = b.getD j d := by
  rw [Array.getD_eq_getD_getElem?, Array.getElem?_setIfInBounds_ne (fun e => h e.symm), ← Array.getD_eq_getD_getElem?]
theorem getD_set_same {b : Array Bool} {i : Nat} (d : Bool) (h : i < b.size) : (b.setIfInBounds i true).getD i d = true := by
  simp [Array.getD_eq_getD_getElem?, h]

theorem GrowI.look {l : List Oper} {T H late : List Nat} {a0 : Act} {A : (Nat → Value) → Nat → World → Prop} {Rel : World → World → Prop} {w0 w : World} {listed : Array Bool} {vs : Nat → Value} {a : Act} (I : GrowI l T H late a0 A Rel w0 listed vs a w) (g : GrowS l T H late)
    (t : Tmp) (hl : ∀ j oj, j ∈ H → l[j]? = some oj → oj.dst = some t → listed.getD j false = true) : a.tmps[t]? = (putH l H a0 vs).tmps[t]? := by
  by_cases hd : ∃ j oj, j ∈ H ∧ l[j]? = some oj ∧ oj.dst = some t
  · obtain ⟨j, oj, hj, hoj, hdj⟩ := hd
    rcases Nat.lt_or_ge t a0.tmps.size with ht | ht
    · rw [I.at' _ oj t hj hoj hdj (hl j oj hj hoj hdj) ht]
      rw [putH_at l H a0 vs t j hj (by rw [hoj]; exact hdj) (fun k hk hne hdk => by
        obtain ⟨ok, hok⟩ := g.inH k hk
        rw [hok] at hdk
        exact g.dist j k oj ok hj hk hoj hok hne (by rw [hdj]; exact hdk)) ht]
    · rw [Array.getElem?_eq_none (by rw [I.sz]; exact ht), Array.getElem?_eq_none (by rw [putH_size]; exact ht)]
  · rw [I.off t (fun j oj hj hoj _ e => hd ⟨j, oj, hj, hoj, e⟩), putH_off]
    intro j hj e
    obtain ⟨oj, hoj⟩ := g.inH j hj
    rw [hoj] at e
    exact hd ⟨j, oj, hj, hoj, e⟩

theorem GrowI.eval {l : List Oper} {T H late : List Nat} {a0 : Act} {A : (Nat → Value) → Nat → World → Prop} {Rel : World → World → Prop} {w0 w : World} {listed : Array Bool} {vs : Nat → Value} {a : Act} (I : GrowI l T H late a0 A Rel w0 listed vs a w) (g : GrowS l T H late)
    {i : Nat} {o : Oper} (hi : i ∈ H) (ho : l[i]? = some o) (hr : ∀ e ∈ o.after, Region.binds .any e = true → listed.getD e.on false = true) : ∀ x ∈ o.op.operands, a.eval x = (putH l H a0 vs).eval x := by
  intro x hx
  cases x with
  | tmp t =>
    have hmem : t ∈ tmpsOf o := List.mem_filterMap.2 ⟨.tmp t, by simpa using hx, rfl⟩
    have h := I.look g t (fun j oj hj hoj hdj => by
      obtain ⟨e, he, hb, rfl⟩ := waitsFor_spec (g.dep i j o oj t hi hj ho hoj hmem hdj)
      exact hr e he hb)
    simp [Act.eval, h]
  | _ => rfl

theorem GrowI.frame {l : List Oper} {T H late : List Nat} {a0 : Act} {A : (Nat → Value) → Nat → World → Prop} {Rel : World → World → Prop} {w0 w : World} {listed : Array Bool} {vs : Nat → Value} {a : Act} (I : GrowI l T H late a0 A Rel w0 listed vs a w) (g : GrowS l T H late)
    (hall : ∀ j, j ∈ H → listed.getD j false = true) : a = putH l H a0 vs := by
  have h : a.tmps = (putH l H a0 vs).tmps := Array.ext_getElem? fun t => I.look g t (fun j _ hj _ _ => hall j hj)
  have h2 : a.defers = (putH l H a0 vs).defers := by rw [putH_defers]; exact I.df
  cases a
  cases hp : putH l H a0 vs
  rw [hp] at h h2
  simp only at h h2
  subst h h2
  rfl

theorem GrowI.next {l : List Oper} {T H late : List Nat} {a0 : Act} {A : (Nat → Value) → Nat → World → Prop} {Rel : World → World → Prop} {w0 w w' : World} {listed : Array Bool} {vs : Nat → Value} {a : Act} (I : GrowI l T H late a0 A Rel w0 listed vs a w) (g : GrowS l T H late)
    (ht : ∀ x y z, Rel x y → Rel y z → Rel x z) (hA : ∀ vs i x y, i ∈ H → Rel w0 x → A vs i x → Rel x y → A vs i y) (hC : ∀ vs vs' i o x, i ∈ H → l[i]? = some o → (∀ k, k = i ∨ (need l.length l i).contains k = true → vs k = vs' k) → A vs i x → A vs' i x) {i : Nat} {o : Oper} {v : Value} (hi : i ∈ H) (ho : l[i]? = some o) (hun : listed.getD i true = false) (hr : ∀ e ∈ o.after, Region.binds .any e = true → listed.getD e.on false = true) (hrel : Rel w w') (hv : A (fun j => if j = i then v else vs j) i w') :
    GrowI l T H late a0 A Rel w0 (listed.setIfInBounds i true) (fun j => if j = i then v else vs j) (a.put o.dst v) w' := by
  have hil : i < listed.size := by rw [I.ls]; exact lt_of_at ho
  have up : ∀ j, listed.getD j false = true → (listed.setIfInBounds i true).getD j false = true := fun j h => by
    by_cases e : j = i
    · subst e; exact getD_set_same _ hil
    · rw [getD_set_other _ e]; exact h
  have dn : ∀ j, (listed.setIfInBounds i true).getD j false = true → j = i ∨ (j ≠ i ∧ listed.getD j false = true) := fun j h => by
    by_cases e : j = i
    · exact .inl e
    · rw [getD_set_other _ e] at h; exact .inr ⟨e, h⟩
  refine ⟨by simpa using I.ls, fun j oj hoj hl e he hb => ?_, fun j oj hoj hj => up _ (I.t j oj hoj hj), fun j oj hoj hj => ?_, ht _ _ _ I.rel hrel, by rw [put_defers]; exact I.df, by rw [put_size]; exact I.sz, fun j oj t hj hoj hd hl hlt => ?_, fun t hno => ?_, fun j hj hl => ?_⟩
  · rcases dn j hl with rfl | ⟨_, hl'⟩
    · rw [ho] at hoj
      cases hoj
      exact up _ (hr e he hb)
    · exact up _ (I.shut j oj hoj hl' e he hb)
  · have hji : j ≠ i := fun e => by subst e; exact (g.off j hi).2 hj
    rw [getD_set_other _ hji]
    exact I.lt j oj hoj hj
  · rcases dn j hl with rfl | ⟨hne, hl'⟩
    · rw [ho] at hoj
      cases hoj
      rw [hd, put_same _ _ (by rw [I.sz]; exact hlt)]
      simp
    · rw [put_other _ _ _ (fun e => g.dist i j o oj hi hj ho hoj hne (by rw [hd, e])), I.at' j oj t hj hoj hd hl' hlt]
      simp [hne]
  · have hdi : o.dst ≠ some t := hno i o hi ho (getD_set_same _ hil)
    rw [put_other _ _ _ hdi]
    exact I.off t fun j oj hj hoj hl => hno j oj hj hoj (up j hl)
  · rcases dn j hl with rfl | ⟨hne, hl'⟩
    · exact hv
    · obtain ⟨oj, hoj⟩ := g.inH j hj
      refine hC vs _ j oj w' hj hoj (fun k hk => ?_) (hA vs j _ _ hj I.rel (I.fact j hj hl') hrel)
      have hki : k ≠ i := by
        rcases hk with rfl | hk
        · exact hne
        · rintro rfl
          exact getD_both (need_listed I.shut _ j (fun ok hok => I.shut j ok hok hl') k (by simpa using hk)) hun
      simp [hki]

theorem least_unlisted {listed : Array Bool} : ∀ (n : Nat), listed.getD n true = false → ∃ i, i ≤ n ∧ listed.getD i true = false ∧ ∀ j, j < i → listed.getD j true ≠ false := by
  intro n
  induction n using Nat.strongRecOn with
  | _ n ih =>
    intro h
    by_cases hx : ∃ j, j < n ∧ listed.getD j true = false
    · obtain ⟨j, hj, hjf⟩ := hx
      obtain ⟨i, hi, h1, h2⟩ := ih j hj hjf
      exact ⟨i, by omega, h1, h2⟩
    · exact ⟨n, Nat.le_refl _, h, fun j hj hf => hx ⟨j, hj, hf⟩⟩

theorem unlisted_lt {b : Array Bool} {i : Nat} (h : b.getD i true = false) : i < b.size := by
  rcases Nat.lt_or_ge i b.size with h' | h'
  · exact h'
  · simp [Array.getD, Nat.not_lt.2 h'] at h

/-- Something may come up while something has not. -/
theorem ready_some {l : List Oper} {listed : Array Bool} (plain : ∀ i o, l[i]? = some o → ∀ e ∈ o.after, Region.binds .any e = true → e.on < i) (hls : listed.size = l.length) {n : Nat} (hn : listed.getD n true = false) : Region.ready .any l.toArray listed ≠ [] := by
  intro hr
  obtain ⟨i, hi, h1, h2⟩ := least_unlisted n hn
  have hlt : i < l.length := by rw [← hls]; exact unlisted_lt h1
  have : i ∈ Region.ready .any l.toArray listed := mem_ready.2 ⟨h1, l[i], by simp [hlt], fun e he hb => by
    have := plain i l[i] (by simp [hlt]) e he hb
    exact getD_false_true (by omega) (h2 _ this)⟩
  rw [hr] at this
  cases this

theorem wpAny_all {P : Program} {ops : Array Oper} {Q : Exit → Act → World → Prop} {listed : Array Bool} {a : Act} {w : World} (hr : Region.ready .any ops listed = []) (h : Q .normal a w) : ∀ fuel, wpAny P .any ops Q fuel listed a w
  | 0 => ⟨hr, h⟩
  | _ + 1 => ⟨fun _ => h, by rw [hr]; simp⟩

/-- The last operations, one behind the other. -/
def wpSeq (P : Program) (l : List Oper) (Q : Exit → Act → World → Prop) : List Nat → Act → World → Prop
  | [], a, w => Q .normal a w
  | i :: is, a, w => ∀ o, l[i]? = some o → o.wp P a w (wpSeq P l Q is) Q

theorem wpSeq_cons {P : Program} {l : List Oper} {Q : Exit → Act → World → Prop} {i : Nat} {is : List Nat} {o : Oper} {a : Act} {w : World} (h : l[i]? = some o) (hh : o.wp P a w (wpSeq P l Q is) Q) : wpSeq P l Q (i :: is) a w := by
  intro o' ho'
  rw [h] at ho'
  cases ho'
  exact hh

theorem wpAny_late {P : Program} {l : List Oper} {H : List Nat} {Q : Exit → Act → World → Prop} (plain : ∀ i o, l[i]? = some o → o.guard = none ∧ notSelect o = true ∧ ∀ e ∈ o.after, Region.binds .any e = true → e.on < i) :
    ∀ (todo done : List Nat) (fuel : Nat) (listed : Array Bool) (a : Act) (w : World), lateB l H done todo = true → listed.size = l.length → Shut l listed → (∀ i, i ∈ todo → listed.getD i true = false) → (∀ i o, l[i]? = some o → listed.getD i true = false → i ∈ todo) → todo.length ≤ fuel → wpSeq P l Q todo a w → wpAny P .any l.toArray Q fuel listed a w
  | [], done, fuel, listed, a, w, _, hls, _, _, hun, _, h => by
    refine wpAny_all ?_ h fuel
    rw [List.eq_nil_iff_forall_not_mem]
    intro j hj
    obtain ⟨h1, oj, hoj, _⟩ := mem_ready.1 hj
    have := hun j oj (by simpa using hoj) h1
    cases this
  | i :: rest, done, 0, listed, a, w, _, _, _, _, _, hf, _ => by simp at hf
  | i :: rest, done, fuel + 1, listed, a, w, hB, hls, hsh, hin, hun, hf, h => by
    unfold lateB at hB
    simp only [Bool.and_eq_true, List.all_eq_true, decide_eq_true_eq] at hB
    obtain ⟨⟨⟨hneed, hlt⟩, hil⟩, hB⟩ := hB
    refine ⟨fun hr => absurd hr (ready_some (fun i o hi => (plain i o hi).2.2) hls (hin i List.mem_cons_self)), fun j hj => ?_⟩
    obtain ⟨h1, o, ho, hr⟩ := mem_ready.1 hj
    have hol : l[j]? = some o := by simpa using ho
    have hji : j = i := by
      rcases List.mem_cons.1 (hun j o hol h1) with e | hm
      · exact e
      · exfalso
        -- j waits for i, which has not come up
        have : listed.getD i false = true := by
          have hlB : ∀ (rest : List Nat) (d : List Nat), lateB l H d rest = true → i ∈ d → j ∈ rest → i ∈ need l.length l j := by
            intro rest
            induction rest with
            | nil => intro d _ _ hm; cases hm
            | cons x xs ih =>
              intro d hB hd hm
              unfold lateB at hB
              simp only [Bool.and_eq_true, List.all_eq_true, decide_eq_true_eq] at hB
              obtain ⟨⟨⟨hn, _⟩, _⟩, hB⟩ := hB
              rcases List.mem_cons.1 hm with rfl | hm
              · have := hn i (List.mem_append.2 (.inr hd))
                simpa using this
              · exact ih _ hB (List.mem_append.2 (.inl hd)) hm
          exact need_listed hsh _ j (fun oj hoj e he hb => by rw [hol] at hoj; cases hoj; exact hr e he hb) i (hlB rest (done ++ [i]) hB (by simp) hm)
        exact getD_both this (hin i List.mem_cons_self)
    subst hji
    obtain ⟨hg, _, _⟩ := plain j o hol
    unfold wpOp
    simp only [ho]
    rw [if_pos (by unfold Region.wanted; rw [hg])]
    left
    refine Oper.wp_mono (fun a' w' hq => ?_) (h o hol)
    have hjs : j < listed.size := by rw [hls]; exact lt_of_at hol
    refine wpAny_late plain rest (done ++ [j]) fuel _ a' w' hB (by simpa using hls) (fun k ok hok hl e he hb => ?_) (fun k hk => ?_) (fun k ok hok hk => ?_) (by simp at hf; exact hf) hq
    · by_cases e1 : e.on = j
      · rw [e1]; exact getD_set_same _ hjs
      · rw [getD_set_other _ e1]
        by_cases e2 : k = j
        · subst e2
          rw [hol] at hok
          cases hok
          exact hr e he hb
        · rw [getD_set_other _ e2] at hl
          exact hsh k ok hok hl e he hb
    · have : j < k := hlt k hk
      rw [getD_set_other _ (by omega)]
      exact hin k (List.mem_cons_of_mem _ hk)
    · have hne : k ≠ j := fun e => by
        subst e
        rw [getD_set_same _ hjs] at hk
        cases hk
      rw [getD_set_other _ hne] at hk
      rcases List.mem_cons.1 (hun k ok hok hk) with e | hm
      · exact absurd e hne
      · exact hm

theorem lateB_need {l : List Oper} {H : List Nat} : ∀ (late done : List Nat) (i : Nat), lateB l H done late = true → i ∈ late → ∀ j ∈ H, j ∈ need l.length l i
  | [], _, _, _, h, _, _ => by cases h
  | x :: xs, done, i, hB, hm, j, hj => by
    unfold lateB at hB
    simp only [Bool.and_eq_true, List.all_eq_true, decide_eq_true_eq] at hB
    obtain ⟨⟨⟨hn, _⟩, _⟩, hB⟩ := hB
    rcases List.mem_cons.1 hm with rfl | hm
    · have := hn j (List.mem_append.2 (.inl hj))
      simpa using this
    · exact lateB_need xs _ i hB hm j hj
theorem lateB_lt {l : List Oper} {H : List Nat} : ∀ (late done : List Nat) (i : Nat), lateB l H done late = true → i ∈ late → i < l.length
  | [], _, _, _, h => by cases h
  | x :: xs, done, i, hB, hm => by
    unfold lateB at hB
    simp only [Bool.and_eq_true, List.all_eq_true, decide_eq_true_eq] at hB
    obtain ⟨⟨⟨_, _⟩, hl⟩, hB⟩ := hB
    rcases List.mem_cons.1 hm with rfl | hm
    · exact hl
    · exact lateB_lt xs _ i hB hm

theorem wpAny_growI {P : Program} {l : List Oper} {T H late : List Nat} {Q : Exit → Act → World → Prop} {a0 : Act} {w0 : World} (g : GrowS l T H late) (hne : late ≠ [])
    (Rel : World → World → Prop) (ht : ∀ x y z, Rel x y → Rel y z → Rel x z) (A : (Nat → Value) → Nat → World → Prop) (hA : ∀ vs i x y, i ∈ H → Rel w0 x → A vs i x → Rel x y → A vs i y) (hC : ∀ vs vs' i o x, i ∈ H → l[i]? = some o → (∀ k, k = i ∨ (need l.length l i).contains k = true → vs k = vs' k) → A vs i x → A vs' i x)
    (steps : ∀ i o, i ∈ H → l[i]? = some o → ∀ vs w, Rel w0 w → (∀ j, j ∈ H → (need l.length l i).contains j = true → A vs j w) → gives P (putH l H a0 vs).eval o w (fun v w' => Rel w w' ∧ A (fun j => if j = i then v else vs j) i w'))
    (rest : ∀ vs w, Rel w0 w → (∀ j, j ∈ H → A vs j w) → wpSeq P l Q late (putH l H a0 vs) w) :
    ∀ (fuel : Nat) (U : List Nat) (listed : Array Bool) (vs : Nat → Value) (a : Act) (w : World), (∀ i o, l[i]? = some o → i ∉ late → listed.getD i true = false → i ∈ U) → U.length + late.length ≤ fuel → GrowI l T H late a0 A Rel w0 listed vs a w → wpAny P .any l.toArray Q fuel listed a w := by
  intro fuel
  have lfst : ∃ i0, i0 ∈ late := by cases late with | nil => exact absurd rfl hne | cons x _ => exact ⟨x, List.mem_cons_self⟩
  obtain ⟨i0, hi0⟩ := lfst
  have hi0l : ∃ o, l[i0]? = some o := ⟨_, List.getElem?_eq_getElem (lateB_lt _ _ _ g.lateS hi0)⟩
  obtain ⟨o0, ho0⟩ := hi0l
  induction fuel with
  | zero =>
    intro U listed vs a w _ hlen _
    cases late with
    | nil => exact absurd rfl hne
    | cons _ _ => simp at hlen
  | succ fuel ih =>
    intro U listed vs a w hU hlen I
    by_cases hall : ∀ j, j ∈ H → listed.getD j false = true
    · -- all of H have come up
      rw [I.frame g hall]
      refine wpAny_late g.plain late [] (fuel + 1) listed _ w g.lateS I.ls I.shut (fun i hi => ?_) (fun i o hi hf => ?_) (by omega) (rest vs w I.rel (fun j hj => I.fact j hj (hall j hj)))
      · exact I.lt i _ (List.getElem?_eq_getElem (lateB_lt _ _ _ g.lateS hi)) hi
      · rcases g.cover i o hi with h | h | h
        · exact (getD_both (I.t i o hi h) hf).elim
        · exact (getD_both (hall i h) hf).elim
        · exact h
    · refine ⟨fun hr => absurd hr (ready_some (fun i o hi => (g.plain i o hi).2.2) I.ls (I.lt i0 o0 ho0 hi0)), fun i hi => ?_⟩
      obtain ⟨h1, o, ho, hr⟩ := mem_ready.1 hi
      have hol : l[i]? = some o := by simpa using ho
      obtain ⟨hg, hs, _⟩ := g.plain i o hol
      rcases g.cover i o hol with hT | hH | hL
      · exact (getD_both (I.t i o hol hT) h1).elim
      · have hUi := hU i o hol (g.off i hH).2 h1
        unfold wpOp
        simp only [ho]
        rw [if_pos (by unfold Region.wanted; rw [hg])]
        left
        have hst := steps i o hH hol vs w I.rel (fun j hj hw => I.fact j hj (need_listed I.shut _ i (fun oi hoi e he hb => by rw [hol] at hoi; cases hoi; exact hr e he hb) j (by simpa using hw)))
        unfold gives at hst
        rw [← execOp_congr o (notSelect_spec hs) (I.eval g hH hol hr)] at hst
        refine gives_wp (K := fun v w' => Rel w w' ∧ A (fun j => if j = i then v else vs j) i w') hst fun v w' ⟨hrel, hv⟩ => ?_
        have hil : i < listed.size := by rw [I.ls]; exact lt_of_at hol
        refine ih (U.erase i) _ (fun j => if j = i then v else vs j) _ _ (fun j oj hoj hj hf => ?_) ?_ (I.next g ht hA hC hH hol h1 hr hrel hv)
        · have hne : j ≠ i := fun e => by
            subst e
            rw [getD_set_same _ hil] at hf
            cases hf
          rw [getD_set_other _ hne] at hf
          exact (List.mem_erase_of_ne hne).2 (hU j oj hoj hj hf)
        · rw [List.length_erase_of_mem hUi]
          have := List.length_pos_of_mem hUi
          omega
      · exfalso
        refine hall fun j hj => ?_
        exact need_listed I.shut _ i (fun oi hoi e he hb => by rw [hol] at hoi; cases hoi; exact hr e he hb) j (lateB_need _ _ _ g.lateS hL j hj)

/-- **The law**, from where some have come up already. -/
theorem wpAny_grow {P : Program} {l : List Oper} {Q : Exit → Act → World → Prop} {a0 : Act} {w0 : World} {listed : Array Bool} {fuel : Nat} (T H late : List Nat) (hne : late ≠ []) (hB : growB l T H late listed = true)
    (Rel : World → World → Prop) (hr : Rel w0 w0) (ht : ∀ x y z, Rel x y → Rel y z → Rel x z) (A : (Nat → Value) → Nat → World → Prop) (hA : ∀ vs i x y, i ∈ H → Rel w0 x → A vs i x → Rel x y → A vs i y) (hC : ∀ vs vs' i o x, i ∈ H → l[i]? = some o → (∀ k, k = i ∨ (need l.length l i).contains k = true → vs k = vs' k) → A vs i x → A vs' i x)
    (hlen : H.length + late.length ≤ fuel)
    (steps : ∀ i o, i ∈ H → l[i]? = some o → ∀ vs w, Rel w0 w → (∀ j, j ∈ H → (need l.length l i).contains j = true → A vs j w) → gives P (putH l H a0 vs).eval o w (fun v w' => Rel w w' ∧ A (fun j => if j = i then v else vs j) i w'))
    (rest : ∀ vs w, Rel w0 w → (∀ j, j ∈ H → A vs j w) → wpSeq P l Q late (putH l H a0 vs) w) : wpAny P .any l.toArray Q fuel listed a0 w0 := by
  obtain ⟨g, hls, hT, hTs⟩ := growS hB
  have hlT : ∀ i o, l[i]? = some o → listed.getD i false = true → i ∈ T := fun i o ho h => by
    have hi := lt_of_at ho
    refine (hT i hi).1 ?_
    have := getD_size h
    simp [Array.getD, this] at h ⊢
    exact h
  have hTl : ∀ i, i < l.length → i ∈ T → listed.getD i false = true := fun i hi h => by
    have := (hT i hi).2 h
    have hsz : i < listed.size := by omega
    simp [Array.getD, hsz] at this ⊢
    exact this
  refine wpAny_growI g hne Rel ht A hA hC steps rest fuel H listed (fun _ => undef) a0 w0 (fun i o ho hl hf => ?_) hlen ⟨hls, fun i o ho hl e he hb => ?_, fun i o ho h => hTl i (lt_of_at ho) h, fun i o ho h => ?_, hr, rfl, rfl, fun i o t hi ho _ hl _ => ?_, fun _ _ => rfl, fun i hi hl => ?_⟩
  · rcases g.cover i o ho with h | h | h
    · exact (getD_both (hTl i (lt_of_at ho) h) hf).elim
    · exact h
    · exact absurd h hl
  · have h1 := hTs i o (hlT i o ho hl) ho e he hb
    have h2 := (g.plain i o ho).2.2 e he hb
    exact hTl _ (by have := lt_of_at ho; omega) h1
  · have hi := lt_of_at ho
    have hnT := g.offT i h
    cases hx : listed.getD i true with
    | false => rfl
    | true => exact absurd ((hT i hi).1 hx) hnT
  · exact absurd (hlT i o ho hl) (g.off i hi).1
  · obtain ⟨o, ho⟩ := g.inH i hi
    exact absurd (hlT i o ho hl) (g.off i hi).1

end Go.Proofs.YtibleipfablniaaGreat

/-
  PLAIN GROUND: a machine that is copied part by part: what stands ahead of each round, and that its rows lie in blocks of their own. Condition: at an append, that the bytes are within the reach that every row bears.
-/
namespace Go.Proofs.YtibleipfablniaaGreat
open Go.RowKit

theorem gives_value {P : Program} {ρ : Operand → Value} {o : Oper} {w w' : World} {v : Value} {K : Value → World → Prop} (h : (execOp ρ o).run P w = .ok (.value v) w') (hk : K v w') : gives P ρ o w K := by
  unfold gives; rw [h]; exact hk
theorem gives_call {P : Program} {ρ : Operand → Value} {o : Oper} {w : World} {f : FuncId} {args : Array Value} {K : Value → World → Prop} (h : (execOp ρ o).run P w = .ok (.enter f args) w) (hk : Calls P f args w fun e w'' => ∃ v, e = .returned v ∧ K v w'') : gives P ρ o w K := by
  unfold gives; rw [h]; exact hk

theorem wp_value_at {P : Program} {o : Oper} {a : Act} {w w0 : World} {v0 : Value} {K' : Act → World → Prop} {Q : Exit → Act → World → Prop} (h : (execOp a.eval o).run P w = .ok (.value v0) w0) (hk : K' (a.put o.dst v0) w0) : o.wp P a w K' Q := by
  unfold Oper.wp; rw [h]; exact hk
theorem wp_skip_at {P : Program} {o : Oper} {a : Act} {w w0 : World} {K' : Act → World → Prop} {Q : Exit → Act → World → Prop} (h : (execOp a.eval o).run P w = .ok .skip w0) (hk : K' (a.put o.dst undef) w0) : o.wp P a w K' Q := by
  unfold Oper.wp; rw [h]; exact hk

/-- An append to an empty slice without room: its row lies in a new block, or nothing is appended. -/
theorem run_append_empty {α : Type} {K : Kind α} {tS : TypeId} (hK : K.In Tryz.prog tS) (ty : TypeId) (w : World) (base b : Nat) (u : Value) (ys : List α) (hown : OwnE K w base (.slice (some ⟨b, 0, none⟩) 0 0) []) (hu : HasE K w u ys) (hr : ys.length * K.by' ≤ 140737488355328) (hr' : ys.length ≤ 140737488355328) (hbase : base ≤ w.heap.size) :
    ∃ q w', (Builtin.append_ #[tS, tS] ty #[.slice (some ⟨b, 0, none⟩) 0 0, u]).run Tryz.prog w = .ok (slV q) w' ∧ OwnE K w' base (slV q) ys ∧ Le w w' ∧ (0 < ys.length → (slV q).ownBlock = some w.heap.size) := by
  obtain ⟨z, hinfo, hzs⟩ := hK.info
  obtain ⟨i0, hi, hz0, hz1, hz2⟩ := info_parts hinfo
  have hu0 := hu
  obtain ⟨ad, cap, rfl, hc, hn, _⟩ := hu
  cases ad with
  | none =>
    have hc0 := hn rfl
    have hy : ys = [] := List.length_eq_zero_iff.1 (by omega)
    subst hy hc0
    exact ⟨(some ⟨b, 0, none⟩, 0, 0), w, run_append_owned_none (P := Tryz.prog) (w := w) base tS ty K.t i0 K.k hK.und hi _ _ _ hown, hown, Le.refl _, fun h => by simp at h⟩
  | some ad =>
    rcases Nat.eq_zero_or_pos ys.length with h0 | h0
    · have hy : ys = [] := List.length_eq_zero_iff.1 h0
      subst hy
      obtain ⟨g, cap', cur, hv, hg, hh, r⟩ := hown.2.resolve_left (fun h => by cases h.1)
      simp only [Value.slice.injEq, Option.some.injEq, Addr.mk.injEq, and_true] at hv
      obtain ⟨rfl, _, rfl⟩ := hv
      have hrun := run_append_room (P := Tryz.prog) w tS ty K.t i0 hK.und hi b 0 0 cur hh ad 0 cap [] (by simp) (by simp) (by simp) (by omega) (by simp)
      have hle : Le w (w.setRow b (cur.toList.take (0 * i0.size) ++ [] ++ cur.toList.drop (0 * i0.size + ([] : List Value).length)).toArray) := by
        refine ⟨rfl, rfl, rfl, by simp, fun k hk => ?_⟩
        by_cases e : k = b
        · subst e
          rw [setRow_heap w k cur _ K.t _ hh, hh]
          simp
        · exact setRow_other w b k _ e
      exact ⟨(some ⟨b, 0, none⟩, 0, 0), _, hrun, hown.le hle, hle, fun h => by simp at h⟩
    · have hr1 := run_append_grow (P := Tryz.prog) w tS ty K.t i0 z hK.und hi hz0 ⟨b, 0, none⟩ 0 0 [] (by simp) (by simp) ad ys.length cap (rowC K.f ys) (by rw [hz1, rowC_len K.len]) hu0.cells (by omega) (by omega) (by rw [hz2]; unfold Builtin.nextslicecap; rw [if_pos (by omega), Nat.zero_add]; omega)
      simp only [Nat.zero_add] at hr1
      have hge := grownCap_ge w ys.length 0 K.t
      have hcm := grownCap_le_maxLen w ys.length 0 K.t (by unfold maxLen; omega)
      refine ⟨(some ⟨w.heap.size, 0, none⟩, ys.length, grownCap w ys.length 0 K.t), _, hr1, ⟨by rw [rowC_len K.len], .inr ⟨w.heap.size, _, _, rfl, hbase, heap_alloc_new w.drew _, hge, hcm, ?_, ?_⟩⟩, (Le.drew w).trans (Le.alloc _ _), fun _ => rfl⟩
      · simp only [Array.size_append, List.size_toArray, size_zeroCells, hzs, rowC_len K.len, List.length_nil, Nat.zero_add]
        rw [← Nat.add_mul, Nat.add_sub_cancel' hge]
      · simp only [Array.toList_append, List.nil_append]
        exact List.take_left' (rowC_len K.len ys)

/-- An append of some elements to a row of the call's own, as a run. -/
theorem run_append_E {α : Type} {K : Kind α} {tS : TypeId} (hK : K.In Tryz.prog tS) (ty : TypeId) (w : World) (base : Nat) (v u : Value) (xs ys : List α) (hown : OwnE K w base v xs) (hu : HasE K w u ys) (h0 : 0 < ys.length) (hr : (xs.length + ys.length) * K.by' ≤ 140737488355328) (hr' : xs.length + ys.length ≤ 140737488355328) (hbase : base ≤ w.heap.size) :
    ∃ q w', (Builtin.append_ #[tS, tS] ty #[v, u]).run Tryz.prog w = .ok (slV q) w' ∧ OwnE K w' base (slV q) (xs ++ ys) ∧ w.grownBy w' v.ownBlock := by
  obtain ⟨z, hinfo, hzs⟩ := hK.info
  obtain ⟨i0, hi, hz0, hz1, hz2⟩ := info_parts hinfo
  have hu0 := hu
  obtain ⟨ad, cap, rfl, hc, hn, hx⟩ := hu
  obtain ⟨b, off, rfl, _⟩ := hx h0
  obtain ⟨v', w', hrun, h1, h2, _, _⟩ := run_append_own_at (P := Tryz.prog) w base tS ty K.t i0 z K.k K.by' hK.und hi hz0 hz1 hz2 hzs K.pos v xs.length (rowC K.f xs) hown ⟨b, off, none⟩ ys.length cap (rowC K.f ys) (rowC_len K.len ys) hu0.cells (fun u hu => by obtain ⟨y, _, hy⟩ := rowC_mem ys u hu; exact K.one y u hy) (by unfold maxLen; omega) hr hbase
  have ho : OwnE K w' base v' (xs ++ ys) := OwnE.of h1 (by simp) (by rw [rowC_append])
  obtain ⟨q, rfl⟩ := ho.has.sl
  exact ⟨q, w', hrun, ho, h2⟩

/-- Numbers are a kind of element. -/
def intK : Kind Int := ⟨3, 1, 8, fun x => [.int .i64 x], 0, by decide, fun _ => rfl, fun x u hu => by simp at hu; subst hu; rfl⟩
theorem intIn : intK.In Tryz.prog 51 := ⟨Tryz.underlying51, _, info3, rfl⟩
theorem rowC_int : ∀ xs : List Int, rowC intK.f xs = xs.map (Value.int .i64)
  | [] => rfl
  | x :: xs => by rw [rowC, rowC_int xs]; rfl
theorem Own.e {w : World} {base : Nat} {v : Value} {xs : List Int} (h : Own w base v xs) : OwnE intK w base v xs := by
  unfold OwnE; rw [rowC_int]; exact h
theorem OwnE.i {w : World} {base : Nat} {v : Value} {xs : List Int} (h : OwnE intK w base v xs) : Own w base v xs := by
  unfold OwnE at h; rw [rowC_int] at h; exact h
theorem Has.e {w : World} {v : Value} {xs : List Int} (h : Has w v xs) : HasE intK w v xs := by
  obtain ⟨a, cap, hv, hc, hn, hx⟩ := h
  refine ⟨a, cap, hv, hc, hn, fun hp => ?_⟩
  obtain ⟨b, off, ha, hcell⟩ := hx hp
  refine ⟨b, off, ha, fun i hi j hj => ?_⟩
  have hj0 : j = 0 := by have : intK.k = 1 := rfl; omega
  subst hj0
  have := hcell i hi
  simpa [intK] using this
theorem run_append_emptyI (ty : TypeId) (w : World) (base b : Nat) (u : Value) (ys : List Int) (hown : Own w base (.slice (some ⟨b, 0, none⟩) 0 0) []) (hu : Has w u ys) (hr : ys.length * 8 ≤ 140737488351232) (hbase : base ≤ w.heap.size) :
    ∃ q w', (Builtin.append_ #[51, 51] ty #[.slice (some ⟨b, 0, none⟩) 0 0, u]).run Tryz.prog w = .ok (slV q) w' ∧ Own w' base (slV q) ys ∧ Le w w' ∧ (0 < ys.length → (slV q).ownBlock = some w.heap.size) := by
  obtain ⟨q, w', h1, h2, h3, h4⟩ := run_append_empty intIn ty w base b u ys hown.e hu.e (by have : intK.by' = 8 := rfl; rw [this]; omega) (by omega) hbase
  exact ⟨q, w', h1, h2.i, h3, h4⟩

/-- .. in a walk. -/
theorem wp_append_emptyI {ops : Array Oper} {rest : List Oper} {o : Oper} {a : Act} {Q : Exit → Act → World → Prop} {w : World} (hgd : o.guard = none) (s x : Operand)
    (ho : o.op = .call { callee := .builtin .append, args := #[s, x], argTypes := #[51, 51] }) (base b : Nat) (u : Value) (ys : List Int)
    (hs : a.eval s = .slice (some ⟨b, 0, none⟩) 0 0) (hx : a.eval x = u) (hown : Own w base (.slice (some ⟨b, 0, none⟩) 0 0) []) (hu : Has w u ys) (hr : ys.length * 8 ≤ 140737488351232) (hbase : base ≤ w.heap.size)
    (h : ∀ q w', Own w' base (slV q) ys → Le w w' → (0 < ys.length → (slV q).ownBlock = some w.heap.size) → wpList Tryz.prog ops Q rest (a.put o.dst (slV q)) w') : wpList Tryz.prog ops Q (o :: rest) a w := by
  refine wpList_plain hgd fun K hK => ?_
  obtain ⟨q, w', hrun, h1, h2, h3⟩ := run_append_emptyI o.type w base b u ys hown hu hr hbase
  unfold Oper.wp execOp
  simp only [ho, resolve, invoke, builtin, Sem.run_bind, Sem.run_pure, Result.andThen_ok, List.map_toArray, List.map_cons, List.map_nil, hs, hx, hrun]
  exact hK _ _ (h q w' h1 h2 h3)

/-! Rows of a machine that lie in blocks of their own. -/
inductive Pos where
  | rep (i j : Nat)
  | th (i j : Nat)
deriving DecidableEq
/-- Not a state's row: one that may be written to in its place. -/
def Pos.wr : Pos → Bool
  | .rep _ j => decide (4 ≤ j)
  | .th _ _ => true
def LP.row (x : LP) : Nat → Sl
  | 0 => x.vs 0
  | 1 => x.vs 1
  | 2 => x.vs 2
  | 3 => x.vs 3
  | 4 => x.c
  | 5 => x.l
  | _ => slZ
def LT.row (x : LT) : Nat → Sl
  | 0 => x.b
  | 1 => x.t
  | _ => slZ
def Lay.at (L : Lay) : Pos → Sl
  | .rep i j => (L.ps.getD i repK.d).row j
  | .th i j => (L.ts.getD i thK.d).row j
def Lay.slots (L : Lay) (i : Nat) : Sl := (L.rs.getD i ringK.d).q
structure ApartM (L : Lay) : Prop where
  s : ∀ i j, i ≠ j → ∀ g, (slV (L.slots i)).ownBlock = some g → (slV (L.slots j)).ownBlock ≠ some g
  n : ∀ p q, p ≠ q → p.wr = true → 0 < (L.at p).2.1 → 0 < (L.at q).2.1 → ∀ g, (slV (L.at p)).ownBlock = some g → (slV (L.at q)).ownBlock ≠ some g

theorem getD_out {α : Type} {xs : List α} {i : Nat} {d : α} (h : xs.length ≤ i) : xs.getD i d = d := by simp [List.getD, List.getElem?_eq_none h]
theorem OwnsM.slots_lt {w : World} {base : Nat} {L : Lay} (h : OwnsM w base L) {i g : Nat} (e : (slV (L.slots i)).ownBlock = some g) : g < w.heap.size := by
  unfold Lay.slots at e
  rcases Nat.lt_or_ge i L.rs.length with hi | hi
  · exact ((h.iR _ (getD_mem hi)).block e).2
  · rw [getD_out hi] at e; cases e
theorem OwnsM.at_lt {w : World} {base : Nat} {L : Lay} (h : OwnsM w base L) {p : Pos} {g : Nat} (e : (slV (L.at p)).ownBlock = some g) : g < w.heap.size := by
  cases p with
  | rep i j =>
    rcases Nat.lt_or_ge i L.ps.length with hi | hi
    · have hp := h.iP _ (getD_mem (d := repK.d) hi)
      simp only [Lay.at] at e
      match j, e with
      | 0, e => exact ((hp.1 0 (by decide)).block e).2
      | 1, e => exact ((hp.1 1 (by decide)).block e).2
      | 2, e => exact ((hp.1 2 (by decide)).block e).2
      | 3, e => exact ((hp.1 3 (by decide)).block e).2
      | 4, e => exact (hp.2.1.block e).2
      | 5, e => exact (hp.2.2.block e).2
      | _ + 6, e => simp [LP.row, Value.ownBlock] at e
    · simp only [Lay.at] at e
      rw [getD_out hi] at e
      match j, e with
      | 0, e => cases e
      | 1, e => cases e
      | 2, e => cases e
      | 3, e => cases e
      | 4, e => cases e
      | 5, e => cases e
      | _ + 6, e => simp [LP.row, Value.ownBlock] at e
  | th i j =>
    rcases Nat.lt_or_ge i L.ts.length with hi | hi
    · have hp := h.iT _ (getD_mem (d := thK.d) hi)
      simp only [Lay.at] at e
      match j, e with
      | 0, e => exact (hp.1.block e).2
      | 1, e => exact (hp.2.block e).2
      | _ + 2, e => simp [LT.row, Value.ownBlock] at e
    · simp only [Lay.at] at e
      rw [getD_out hi] at e
      match j, e with
      | 0, e => cases e
      | 1, e => cases e
      | _ + 2, e => simp [LT.row, Value.ownBlock] at e

/-- What is elsewhere than a row that has grown and a box that is written to stays. -/
theorem row_kept {w1 w2 : World} {base g i : Nat} {u : Value} {row : Option Nat} {T : TypeId} {cs : Array Value} (hg : w1.grownBy w2 row) (hrow : ∀ r, row = some r → ∃ cur, w1.heap[r]? = some (.cells cur T (0, 0))) (hb : Box w2 g cs 29) {t : TypeId} {k n : Nat} {v : Value} {us : List Value}
    (h : w1.ownsRow base t k v n us) (h1 : t ≠ T) (h2 : t ≠ 29) : (w2.setCell ⟨g, i, none⟩ u).ownsRow base t k v n us := by
  have hk : w2.ownsRow base t k v n us := by
    obtain ⟨e1, e2⟩ := h
    refine ⟨e1, ?_⟩
    rcases e2 with e2 | ⟨g', cap, cur, hv, hbb, hh, r⟩
    · exact .inl e2
    · refine .inr ⟨g', cap, cur, hv, hbb, ?_, r⟩
      rw [hg.block g' (block_lt hh) (fun e => ?_)]
      · exact hh
      · obtain ⟨cur', hc⟩ := hrow g' e.symm
        rw [hh] at hc
        simp at hc
        exact h1 hc.2
  refine ownsRow_setCell_other hk (fun e => ?_) u
  rcases hk.2 with ⟨e2, _⟩ | ⟨g', cap, cur, hv, _, hh, _⟩
  · rw [e2] at e; simp [Value.ownBlock] at e
  · rw [hv] at e
    simp [Value.ownBlock] at e
    subst e
    unfold Box at hb
    rw [hb] at hh
    simp at hh
    exact h2 hh.2.symm
theorem OwnE.rowT {α : Type} {K : Kind α} {w : World} {base : Nat} {v : Value} {xs : List α} (h : OwnE K w base v xs) : ∀ r, v.ownBlock = some r → ∃ cur, w.heap[r]? = some (.cells cur K.t (0, 0)) := by
  intro r e
  rcases h.2 with ⟨e2, _⟩ | ⟨g', cap, cur, hv, _, hh, _⟩
  · rw [e2] at e; simp [Value.ownBlock] at e
  · rw [hv] at e
    simp [Value.ownBlock] at e
    subst e
    exact ⟨cur, hh⟩

end Go.Proofs.YtibleipfablniaaGreat

/-
  PLAIN GROUND, NO WALK: what stands ahead of each round of a machine's copying, and what a round makes of it. No condition.
-/
namespace Go.Proofs.YtibleipfablniaaGreat
open Go.RowKit

/-- No machine's cells. -/
abbrev cellsZ9 : Array Value := #[.int .i64 0, .int .i64 0, .int .i64 0, .int .i64 0, .int .i64 0, .slice none 0 0, .slice none 0 0, .slice none 0 0, .slice none 0 0]
/-- The given machine in its variable, the result's variable, the copy so far in its own. -/
structure CpI (F : Prop) (w : World) (cp : Array Value) (tp : TypeId) (c : Cfg) (g : Nat) (wr : World) (L : Lay) : Prop where
  le : Le w wr
  bp : Box wr w.heap.size cp tp
  br : Box wr (w.heap.size + 1) cellsZ9 29
  bo : Box wr g (cells9 c L.qR L.qP L.qT L.qH) 29
  gb : w.heap.size + 1 < g
  own : OwnsM wr w.heap.size L
  ap : F → ApartM L

theorem CpI.later {F : Prop} {w : World} {cp : Array Value} {tp : TypeId} {c : Cfg} {g : Nat} {wr w' : World} {L : Lay} (h : CpI F w cp tp c g wr L) (l : Le wr w') : CpI F w cp tp c g w' L :=
  ⟨h.le.trans l, h.bp.le l, h.br.le l, h.bo.le l, h.gb, h.own.le l, h.ap⟩

theorem slots_app (L : Lay) (q : Sl) (x : LR) (i : Nat) : ({ L with qR := q, rs := L.rs ++ [x] } : Lay).slots i = if i < L.rs.length then L.slots i else if i = L.rs.length then x.q else slZ := by
  unfold Lay.slots
  simp only [List.getD]
  rcases Nat.lt_trichotomy i L.rs.length with h | h | h
  · rw [if_pos h, List.getElem?_append_left h]
  · subst h; simp
  · rw [if_neg (by omega), if_neg (by omega), List.getElem?_eq_none (by simp; omega)]; rfl
theorem at_appP (L : Lay) (q : Sl) (x : LP) (p : Pos) : ({ L with qP := q, ps := L.ps ++ [x] } : Lay).at p = match p with | .rep i j => if i < L.ps.length then L.at (.rep i j) else if i = L.ps.length then x.row j else slZ | .th i j => L.at (.th i j) := by
  cases p with
  | rep i j =>
    simp only [Lay.at, List.getD]
    rcases Nat.lt_trichotomy i L.ps.length with h | h | h
    · rw [if_pos h, List.getElem?_append_left h]
    · subst h; simp
    · rw [if_neg (by omega), if_neg (by omega), List.getElem?_eq_none (by simp; omega)]
      match j with
      | 0 => rfl
      | 1 => rfl
      | 2 => rfl
      | 3 => rfl
      | 4 => rfl
      | 5 => rfl
      | _ + 6 => rfl
  | th i j => rfl
theorem at_appT (L : Lay) (q : Sl) (x : LT) (p : Pos) : ({ L with qT := q, ts := L.ts ++ [x] } : Lay).at p = match p with | .rep i j => L.at (.rep i j) | .th i j => if i < L.ts.length then L.at (.th i j) else if i = L.ts.length then x.row j else slZ := by
  cases p with
  | rep i j => rfl
  | th i j =>
    simp only [Lay.at, List.getD]
    rcases Nat.lt_trichotomy i L.ts.length with h | h | h
    · rw [if_pos h, List.getElem?_append_left h]
    · subst h; simp
    · rw [if_neg (by omega), if_neg (by omega), List.getElem?_eq_none (by simp; omega)]
      match j with
      | 0 => rfl
      | 1 => rfl
      | _ + 2 => rfl

/-- The worlds and boxes of a step: something is made, a row grows, the copy's variable is written to. -/
theorem CpI.worlds {F : Prop} {α : Type} {K : Kind α} {w : World} {cp : Array Value} {tp : TypeId} {c : Cfg} {g : Nat} {wr w1 w2 : World} {L : Lay} (h : CpI F w cp tp c g wr L) (l : Le wr w1) {v u : Value} {xs : List α} {j : Nat} (ho : OwnE K wr w.heap.size v xs) (hK : 29 ≠ K.t) (htp : tp ≠ K.t) (hg : w1.grownBy w2 v.ownBlock) :
    Le w (w2.setCell ⟨g, j, none⟩ u) ∧ Box (w2.setCell ⟨g, j, none⟩ u) w.heap.size cp tp ∧ Box (w2.setCell ⟨g, j, none⟩ u) (w.heap.size + 1) cellsZ9 29 ∧ Box w2 g (cells9 c L.qR L.qP L.qT L.qH) 29 := by
  have ho1 := ho.le l
  have gb := h.gb
  refine ⟨Le.set (Below.grown (h.le.trans l) hg (h.le.trans l).size (fun k hk => (ho.block hk).1)) (by omega), ?_, ?_, ?_⟩
  · exact ((h.bp.le l).grown hg (ho1.apart (h.bp.le l) htp)).other (by omega) _ _
  · exact ((h.br.le l).grown hg (ho1.apart (h.br.le l) hK)).other (by omega) _ _
  · exact (h.bo.le l).grown hg (ho1.apart (h.bo.le l) hK)

theorem CpI.ring {F : Prop} {w : World} {cp : Array Value} {tp : TypeId} {c : Cfg} {g : Nat} {wr w1 w2 : World} {L : Lay} (h : CpI F w cp tp c g wr L) (htp : tp ≠ ringK.t) (l : Le wr w1) {x : LR} (hx : OwnL w1 wr.heap.size (slV x.q) x.R.ss) {q' : Sl} (ho : OwnE ringK w2 w.heap.size (slV q') (L.rs ++ [x])) (hg : w1.grownBy w2 (slV L.qR).ownBlock) :
    CpI F w cp tp c g (w2.setCell ⟨g, 5, none⟩ (slV q')) { L with qR := q', rs := L.rs ++ [x] } := by
  obtain ⟨le, bp, br, bo⟩ := h.worlds (u := slV q') (j := 5) l h.own.oR (by decide) htp hg
  have hb5 := bo.set 5 (slV q')
  have hrow := (h.own.oR.le l).rowT
  have o := h.own.le l
  have hsz := h.le.size
  refine ⟨le, bp, br, hb5, h.gb, ⟨?_, ?_, ?_, ?_, fun y hy => ?_, fun y hy => ?_, fun y hy => ?_⟩, fun hF => ⟨fun i j hne b e1 e2 => ?_, (h.ap hF).n⟩⟩
  · exact ho.set (ho.apart bo (by decide))
  · exact row_kept hg hrow bo o.oP (by decide) (by decide)
  · exact row_kept hg hrow bo o.oT (by decide) (by decide)
  · exact row_kept hg hrow bo o.oH (by decide) (by decide)
  · rcases List.mem_append.1 hy with hy | hy
    · exact row_kept hg hrow bo (o.iR y hy) (by decide) (by decide)
    · obtain rfl := List.mem_singleton.1 hy
      exact row_kept hg hrow bo (hx.base hsz) (by decide) (by decide)
  · exact ⟨fun i hi => row_kept hg hrow bo ((o.iP y hy).1 i hi) (by decide) (by decide), row_kept hg hrow bo (o.iP y hy).2.1 (by decide) (by decide), row_kept hg hrow bo (o.iP y hy).2.2 (by decide) (by decide)⟩
  · exact ⟨row_kept hg hrow bo (o.iT y hy).1 (by decide) (by decide), row_kept hg hrow bo (o.iT y hy).2 (by decide) (by decide)⟩
  · rw [slots_app] at e1 e2
    have hxb : ∀ b, (slV x.q).ownBlock = some b → wr.heap.size ≤ b := fun b e => (hx.block e).1
    split at e1
    · have b1 := h.own.slots_lt e1
      split at e2
      · exact (h.ap hF).s i j hne b e1 e2
      · split at e2
        · have := hxb b e2; omega
        · cases e2
    · split at e1
      · have b1 := hxb b e1
        split at e2
        · have := h.own.slots_lt e2; omega
        · split at e2
          · omega
          · cases e2
      · cases e1

theorem CpI.rep {F : Prop} {w : World} {cp : Array Value} {tp : TypeId} {c : Cfg} {g : Nat} {wr w1 w2 : World} {L : Lay} (h : CpI F w cp tp c g wr L) (htp : tp ≠ repK.t) (l : Le wr w1) {x : LP} (hx0 : ∀ i, i < 4 → Own w1 wr.heap.size (slV (x.vs i)) (x.P.s.at i)) (hx1 : Own w1 wr.heap.size (slV x.c) x.P.cs) (hx2 : Own w1 wr.heap.size (slV x.l) x.P.ls)
    (hxa : F → ∀ i j, i ≠ j → 4 ≤ i → 0 < (x.row i).2.1 → 0 < (x.row j).2.1 → ∀ b, (slV (x.row i)).ownBlock = some b → (slV (x.row j)).ownBlock ≠ some b) {q' : Sl} (ho : OwnE repK w2 w.heap.size (slV q') (L.ps ++ [x])) (hg : w1.grownBy w2 (slV L.qP).ownBlock) :
    CpI F w cp tp c g (w2.setCell ⟨g, 6, none⟩ (slV q')) { L with qP := q', ps := L.ps ++ [x] } := by
  obtain ⟨le, bp, br, bo⟩ := h.worlds (u := slV q') (j := 6) l h.own.oP (by decide) htp hg
  have hb5 := bo.set 6 (slV q')
  have hrow := (h.own.oP.le l).rowT
  have o := h.own.le l
  have hsz := h.le.size
  refine ⟨le, bp, br, hb5, h.gb, ⟨?_, ?_, ?_, ?_, fun y hy => ?_, fun y hy => ?_, fun y hy => ?_⟩, fun hF => ⟨(h.ap hF).s, fun p r hne hw n1 n2 b e1 e2 => ?_⟩⟩
  · exact row_kept hg hrow bo o.oR (by decide) (by decide)
  · exact ho.set (ho.apart bo (by decide))
  · exact row_kept hg hrow bo o.oT (by decide) (by decide)
  · exact row_kept hg hrow bo o.oH (by decide) (by decide)
  · exact row_kept hg hrow bo (o.iR y hy) (by decide) (by decide)
  · rcases List.mem_append.1 hy with hy | hy
    · exact ⟨fun i hi => row_kept hg hrow bo ((o.iP y hy).1 i hi) (by decide) (by decide), row_kept hg hrow bo (o.iP y hy).2.1 (by decide) (by decide), row_kept hg hrow bo (o.iP y hy).2.2 (by decide) (by decide)⟩
    · obtain rfl := List.mem_singleton.1 hy
      exact ⟨fun i hi => row_kept hg hrow bo ((hx0 i hi).base hsz) (by decide) (by decide), row_kept hg hrow bo (hx1.base hsz) (by decide) (by decide), row_kept hg hrow bo (hx2.base hsz) (by decide) (by decide)⟩
  · exact ⟨row_kept hg hrow bo (o.iT y hy).1 (by decide) (by decide), row_kept hg hrow bo (o.iT y hy).2 (by decide) (by decide)⟩
  · have hxb : ∀ j b, (slV (x.row j)).ownBlock = some b → wr.heap.size ≤ b := fun j b e => by
      match j, e with
      | 0, e => exact ((hx0 0 (by decide)).block e).1
      | 1, e => exact ((hx0 1 (by decide)).block e).1
      | 2, e => exact ((hx0 2 (by decide)).block e).1
      | 3, e => exact ((hx0 3 (by decide)).block e).1
      | 4, e => exact (hx1.block e).1
      | 5, e => exact (hx2.block e).1
      | _ + 6, e => simp [LP.row, Value.ownBlock] at e
    have key : ∀ p, (∃ j, p = .rep L.ps.length j ∧ ({ L with qP := q', ps := L.ps ++ [x] } : Lay).at p = x.row j) ∨ ({ L with qP := q', ps := L.ps ++ [x] } : Lay).at p = L.at p ∨ ({ L with qP := q', ps := L.ps ++ [x] } : Lay).at p = slZ := fun p => by
      rw [at_appP]
      cases p with
      | rep i j =>
        by_cases h1 : i < L.ps.length
        · right; left; simp only [h1, if_true]
        · by_cases h2 : i = L.ps.length
          · left; subst h2; exact ⟨j, rfl, by simp⟩
          · right; right; simp only [h1, h2, if_false]
      | th i j => right; left; rfl
    rcases key p with ⟨i, rfl, k1⟩ | k1 | k1
    · rw [k1] at e1 n1
      rcases key r with ⟨j, rfl, k2⟩ | k2 | k2
      · rw [k2] at e2 n2
        exact hxa hF i j (fun e => hne (by rw [e])) (by simpa [Pos.wr] using hw) n1 n2 b e1 e2
      · rw [k2] at e2
        have := hxb i b e1
        have := h.own.at_lt e2
        omega
      · rw [k2] at e2; cases e2
    · rw [k1] at e1 n1
      rcases key r with ⟨j, rfl, k2⟩ | k2 | k2
      · rw [k2] at e2
        have := hxb j b e2
        have := h.own.at_lt e1
        omega
      · rw [k2] at e2 n2
        exact (h.ap hF).n p r hne hw n1 n2 b e1 e2
      · rw [k2] at e2; cases e2
    · rw [k1] at e1; cases e1

theorem CpI.th {F : Prop} {w : World} {cp : Array Value} {tp : TypeId} {c : Cfg} {g : Nat} {wr w1 w2 : World} {L : Lay} (h : CpI F w cp tp c g wr L) (htp : tp ≠ thK.t) (l : Le wr w1) {x : LT} (hx1 : Own w1 wr.heap.size (slV x.b) x.T.b) (hx2 : Own w1 wr.heap.size (slV x.t) x.T.tl)
    (hxa : F → 0 < x.b.2.1 → 0 < x.t.2.1 → ∀ b, (slV x.b).ownBlock = some b → (slV x.t).ownBlock ≠ some b) {q' : Sl} (ho : OwnE thK w2 w.heap.size (slV q') (L.ts ++ [x])) (hg : w1.grownBy w2 (slV L.qT).ownBlock) :
    CpI F w cp tp c g (w2.setCell ⟨g, 7, none⟩ (slV q')) { L with qT := q', ts := L.ts ++ [x] } := by
  obtain ⟨le, bp, br, bo⟩ := h.worlds (u := slV q') (j := 7) l h.own.oT (by decide) htp hg
  have hb5 := bo.set 7 (slV q')
  have hrow := (h.own.oT.le l).rowT
  have o := h.own.le l
  have hsz := h.le.size
  refine ⟨le, bp, br, hb5, h.gb, ⟨?_, ?_, ?_, ?_, fun y hy => ?_, fun y hy => ?_, fun y hy => ?_⟩, fun hF => ⟨(h.ap hF).s, fun p r hne hw n1 n2 b e1 e2 => ?_⟩⟩
  · exact row_kept hg hrow bo o.oR (by decide) (by decide)
  · exact row_kept hg hrow bo o.oP (by decide) (by decide)
  · exact ho.set (ho.apart bo (by decide))
  · exact row_kept hg hrow bo o.oH (by decide) (by decide)
  · exact row_kept hg hrow bo (o.iR y hy) (by decide) (by decide)
  · exact ⟨fun i hi => row_kept hg hrow bo ((o.iP y hy).1 i hi) (by decide) (by decide), row_kept hg hrow bo (o.iP y hy).2.1 (by decide) (by decide), row_kept hg hrow bo (o.iP y hy).2.2 (by decide) (by decide)⟩
  · rcases List.mem_append.1 hy with hy | hy
    · exact ⟨row_kept hg hrow bo (o.iT y hy).1 (by decide) (by decide), row_kept hg hrow bo (o.iT y hy).2 (by decide) (by decide)⟩
    · obtain rfl := List.mem_singleton.1 hy
      exact ⟨row_kept hg hrow bo (hx1.base hsz) (by decide) (by decide), row_kept hg hrow bo (hx2.base hsz) (by decide) (by decide)⟩
  · have hxb : ∀ j b, (slV (x.row j)).ownBlock = some b → wr.heap.size ≤ b := fun j b e => by
      match j, e with
      | 0, e => exact (hx1.block e).1
      | 1, e => exact (hx2.block e).1
      | _ + 2, e => simp [LT.row, Value.ownBlock] at e
    have key : ∀ p, (∃ j, p = .th L.ts.length j ∧ ({ L with qT := q', ts := L.ts ++ [x] } : Lay).at p = x.row j) ∨ ({ L with qT := q', ts := L.ts ++ [x] } : Lay).at p = L.at p ∨ ({ L with qT := q', ts := L.ts ++ [x] } : Lay).at p = slZ := fun p => by
      rw [at_appT]
      cases p with
      | th i j =>
        by_cases h1 : i < L.ts.length
        · right; left; simp only [h1, if_true]
        · by_cases h2 : i = L.ts.length
          · left; subst h2; exact ⟨j, rfl, by simp⟩
          · right; right; simp only [h1, h2, if_false]
      | rep i j => right; left; rfl
    rcases key p with ⟨i, rfl, k1⟩ | k1 | k1
    · rw [k1] at e1 n1
      rcases key r with ⟨j, rfl, k2⟩ | k2 | k2
      · rw [k2] at e2 n2
        have hij : i ≠ j := fun e => hne (by rw [e])
        match i, j, e1, n1, e2, n2, hij with
        | 0, 0, _, _, _, _, hij => exact hij rfl
        | 0, 1, e1, n1, e2, n2, _ => exact hxa hF n1 n2 b e1 e2
        | 1, 0, e1, n1, e2, n2, _ => exact hxa hF n2 n1 b e2 e1
        | 1, 1, _, _, _, _, hij => exact hij rfl
        | 0, _ + 2, _, _, e2, _, _ => simp [LT.row, Value.ownBlock] at e2
        | 1, _ + 2, _, _, e2, _, _ => simp [LT.row, Value.ownBlock] at e2
        | _ + 2, _, e1, _, _, _, _ => simp [LT.row, Value.ownBlock] at e1
      · rw [k2] at e2
        have := hxb i b e1
        have := h.own.at_lt e2
        omega
      · rw [k2] at e2; cases e2
    · rw [k1] at e1 n1
      rcases key r with ⟨j, rfl, k2⟩ | k2 | k2
      · rw [k2] at e2
        have := hxb j b e2
        have := h.own.at_lt e1
        omega
      · rw [k2] at e2 n2
        exact (h.ap hF).n p r hne hw n1 n2 b e1 e2
      · rw [k2] at e2; cases e2
    · rw [k1] at e1; cases e1

/-- Nine cells, stored one behind the other. -/
abbrev put9 (x : World) (g : Nat) (c : Cfg) (a b d e : Sl) : World := ((((((((x.setCell ⟨g, 0, none⟩ (.int .i64 c.o)).setCell ⟨g, 1, none⟩ (.int .i64 c.r)).setCell ⟨g, 2, none⟩ (.int .i64 c.l)).setCell ⟨g, 3, none⟩ (.int .i64 c.t)).setCell ⟨g, 4, none⟩ (.int .i64 c.s)).setCell ⟨g, 5, none⟩ (slV a)).setCell ⟨g, 6, none⟩ (slV b)).setCell ⟨g, 7, none⟩ (slV d)).setCell ⟨g, 8, none⟩ (slV e)
theorem Box.put9 {w : World} {g : Nat} {cs : Array Value} {t : TypeId} (h : Box w g cs t) (hs : cs.size = 9) (c : Cfg) (a b d e : Sl) : Box (put9 w g c a b d e) g (cells9 c a b d e) t := by
  obtain ⟨l⟩ := cs
  match l, hs with
  | [x0, x1, x2, x3, x4, x5, x6, x7, x8], _ =>
    have h9 := ((((((((h.set 0 (.int .i64 c.o)).set 1 (.int .i64 c.r)).set 2 (.int .i64 c.l)).set 3 (.int .i64 c.t)).set 4 (.int .i64 c.s)).set 5 (slV a)).set 6 (slV b)).set 7 (slV d)).set 8 (slV e)
    simpa only [Array.set!_eq_setIfInBounds, List.setIfInBounds_toArray, List.set_cons_zero, List.set_cons_succ] using h9
theorem Box.off9 {w : World} {g g' : Nat} {cs : Array Value} {t : TypeId} (h : Box w g cs t) (hne : g ≠ g') (c : Cfg) (a b d e : Sl) : Box (Go.Proofs.YtibleipfablniaaGreat.put9 w g' c a b d e) g cs t :=
  ((((((((h.other hne _ _).other hne _ _).other hne _ _).other hne _ _).other hne _ _).other hne _ _).other hne _ _).other hne _ _).other hne _ _
theorem Le.put9 {w w' : World} {g : Nat} (h : Le w w') (hg : w.heap.size ≤ g) (c : Cfg) (a b d e : Sl) : Le w (Go.Proofs.YtibleipfablniaaGreat.put9 w' g c a b d e) :=
  ((((((((h.set hg).set hg).set hg).set hg).set hg).set hg).set hg).set hg).set hg
theorem row_put9 {w : World} {base g k n : Nat} {t : TypeId} {v : Value} {us : List Value} (h : w.ownsRow base t k v n us) (hne : v.ownBlock ≠ some g) (c : Cfg) (a b d e : Sl) : (put9 w g c a b d e).ownsRow base t k v n us := by
  iterate 9 refine ownsRow_setCell_other ?_ hne _
  exact h

theorem CpI.start {F : Prop} {w x : World} {cp : Array Value} {tp : TypeId} {c : Cfg} {q : Sl} {g : Nat} {Es : List Ev} (hl : Le w x) (bp : Box x w.heap.size cp tp) (br : Box x (w.heap.size + 1) cellsZ9 29) (bo : Box x g cellsZ9 29) (hg : w.heap.size + 2 ≤ g) (ho : OwnE evK x (w.heap.size + 2) (slV q) Es) :
    CpI F w cp tp c g (put9 x g c slZ slZ slZ q) ⟨c, slZ, slZ, slZ, q, [], [], [], Es⟩ := by
  refine ⟨hl.put9 (by omega) _ _ _ _ _, bp.off9 (by omega) _ _ _ _ _, br.off9 (by omega) _ _ _ _ _, bo.put9 rfl _ _ _ _ _, by omega, ⟨OwnE.nil _ _ _, OwnE.nil _ _ _, OwnE.nil _ _ _, ?_, (fun x h => by cases h), (fun x h => by cases h), (fun x h => by cases h)⟩, fun _ => ⟨fun i j _ b e _ => ?_, fun p r _ _ n1 _ b _ _ => ?_⟩⟩
  · exact row_put9 (ho.base (base' := w.heap.size) (by omega)) (ho.apart bo (by decide)) _ _ _ _ _
  · simp [Lay.slots, ringK, Value.ownBlock] at e
  · cases p with
    | rep i j =>
      match j, n1 with
      | 0, n1 => simp [Lay.at, repK, LP.row] at n1
      | 1, n1 => simp [Lay.at, repK, LP.row] at n1
      | 2, n1 => simp [Lay.at, repK, LP.row] at n1
      | 3, n1 => simp [Lay.at, repK, LP.row] at n1
      | 4, n1 => simp [Lay.at, repK, LP.row] at n1
      | 5, n1 => simp [Lay.at, repK, LP.row] at n1
      | _ + 6, n1 => simp [Lay.at, LP.row] at n1
    | th i j =>
      match j, n1 with
      | 0, n1 => simp [Lay.at, thK, LT.row] at n1
      | 1, n1 => simp [Lay.at, thK, LT.row] at n1
      | _ + 2, n1 => simp [Lay.at, LT.row] at n1

/-- A replica's rows, the call's own, its cursors and locks in blocks of their own. -/
structure RepOwn (x : World) (B : Nat) (P : Rp) (us : Nat → Sl) (qa qb : Sl) : Prop where
  s : ∀ i, i < 4 → Own x B (slV (us i)) (P.s.at i)
  c : Own x B (slV qa) P.cs
  l : Own x B (slV qb) P.ls
  a1 : 0 < P.cs.length → ∀ i, i < 4 → ∀ b, (slV qa).ownBlock = some b → (slV (us i)).ownBlock ≠ some b
  a2 : 0 < P.ls.length → ∀ i, i < 4 → ∀ b, (slV qb).ownBlock = some b → (slV (us i)).ownBlock ≠ some b
  a3 : 0 < P.ls.length → ∀ b, (slV qb).ownBlock = some b → (slV qa).ownBlock ≠ some b
theorem RepOwn.le {x y : World} {B : Nat} {P : Rp} {us : Nat → Sl} {qa qb : Sl} (h : RepOwn x B P us qa qb) (l : Le x y) : RepOwn y B P us qa qb :=
  ⟨fun i hi => (h.s i hi).le l, h.c.le l, h.l.le l, h.a1, h.a2, h.a3⟩
theorem own_len {w : World} {B : Nat} {q : Sl} {xs : List Int} (h : Own w B (slV q) xs) : q.2.1 = xs.length := by
  obtain ⟨a, cap, hv, _⟩ := h.has
  simp only [slV, Value.slice.injEq] at hv
  exact hv.2.1
theorem RepOwn.apart {x : World} {B : Nat} {P : Rp} {us : Nat → Sl} {qa qb : Sl} (h : RepOwn x B P us qa qb) : ∀ i j, i ≠ j → 4 ≤ i → 0 < ((⟨P, us, qa, qb⟩ : LP).row i).2.1 → 0 < ((⟨P, us, qa, qb⟩ : LP).row j).2.1 → ∀ b, (slV ((⟨P, us, qa, qb⟩ : LP).row i)).ownBlock = some b → (slV ((⟨P, us, qa, qb⟩ : LP).row j)).ownBlock ≠ some b := by
  intro i j hne hi n1 n2 b e1 e2
  have l4 := own_len h.c
  have l5 := own_len h.l
  match i, hi, n1, e1 with
  | 4, _, n1, e1 =>
    have n1' : 0 < P.cs.length := by simp only [LP.row] at n1; omega
    match j, n2, e2 with
    | 0, _, e2 => exact h.a1 n1' 0 (by decide) b e1 e2
    | 1, _, e2 => exact h.a1 n1' 1 (by decide) b e1 e2
    | 2, _, e2 => exact h.a1 n1' 2 (by decide) b e1 e2
    | 3, _, e2 => exact h.a1 n1' 3 (by decide) b e1 e2
    | 4, _, _ => exact hne rfl
    | 5, n2, e2 => exact h.a3 (by simp only [LP.row] at n2; omega) b e2 e1
    | _ + 6, n2, _ => simp [LP.row] at n2
  | 5, _, n1, e1 =>
    have n1' : 0 < P.ls.length := by simp only [LP.row] at n1; omega
    match j, n2, e2 with
    | 0, _, e2 => exact h.a2 n1' 0 (by decide) b e1 e2
    | 1, _, e2 => exact h.a2 n1' 1 (by decide) b e1 e2
    | 2, _, e2 => exact h.a2 n1' 2 (by decide) b e1 e2
    | 3, _, e2 => exact h.a2 n1' 3 (by decide) b e1 e2
    | 4, _, e2 => exact h.a3 n1' b e1 e2
    | 5, _, _ => exact hne rfl
    | _ + 6, n2, _ => simp [LP.row] at n2
  | _ + 6, _, n1, _ => simp [LP.row] at n1

theorem Box.setT6 {w : World} {g : Nat} {T : Th} {b t q : Sl} {ty : TypeId} (h : Box w g (cellsT T b t) ty) : Box (w.setCell ⟨g, 6, none⟩ (slV q)) g (cellsT T q t) ty := by
  have h9 := h.set 6 (slV q)
  simpa only [Array.set!_eq_setIfInBounds, List.setIfInBounds_toArray, List.set_cons_zero, List.set_cons_succ] using h9
theorem Box.setT11 {w : World} {g : Nat} {T : Th} {b t q : Sl} {ty : TypeId} (h : Box w g (cellsT T b t) ty) : Box (w.setCell ⟨g, 11, none⟩ (slV q)) g (cellsT T b q) ty := by
  have h9 := h.set 11 (slV q)
  simpa only [Array.set!_eq_setIfInBounds, List.setIfInBounds_toArray, List.set_cons_zero, List.set_cons_succ] using h9

end Go.Proofs.YtibleipfablniaaGreat

/-
  PLAIN GROUND, NO WALK: what the layers of objects share: a condition on each row of a state, how many numbers and which sum the rows have, the operations that may be. No condition.
-/
namespace Go.Proofs.YtibleipfablniaaGreat
open Go.RowKit

/-- Is it so of each row? -/
def St.all (p : List Int → Bool) (s : St) : Bool := p s.r0 && p s.r1 && p s.r2 && p s.r3

theorem St.all_of {p : List Int → Bool} {s : St} (h : ∀ j, j < 4 → p (s.at j) = true) : s.all p = true := by
  have h0 := h 0 (by omega)
  have h1 := h 1 (by omega)
  have h2 := h 2 (by omega)
  have h3 := h 3 (by omega)
  simp only [St.at] at h0 h1 h2 h3
  simp [St.all, h0, h1, h2, h3]

theorem St.all_not {p : List Int → Bool} {s : St} {k : Nat} (hk : k < 4) (h : p (s.at k) = false) : s.all p = false := by
  rcases four hk with rfl | rfl | rfl | rfl <;> simp only [St.at] at h <;> simp [St.all, h]

theorem St.all_at {p : List Int → Bool} {s : St} (h : s.all p = true) {k : Nat} (hk : k < 4) : p (s.at k) = true := by
  simp [St.all] at h
  rcases four hk with rfl | rfl | rfl | rfl <;> simp [St.at, h]

theorem St.all_put {p : List Int → Bool} {s : St} (h : s.all p = true) {k : Nat} (hk : k < 4) {x : List Int} (hx : p x = true) : (s.put k x).all p = true :=
  St.all_of fun j hj => by rw [St.at_put hk hj]; split; exact hx; exact St.all_at h hj

/-- A row of a state's value, read at an index. -/
theorem run_row (vs : Nat → Sl) (k : Nat) (hk : k < 4) (w : World) : (Instr.index 52 (.agg (cells4 vs)) (.int .i64 k)).run Tryz.prog w = .ok (slV (vs k)) w := by
  rcases four hk with rfl | rfl | rfl | rfl <;> simp [Instr.index, go_sem]

/-- The sum of the numbers of the rows below k. -/
def sumTo (s : St) : Nat → Int
  | 0 => 0
  | k + 1 => sumTo s k + (s.at k).sum

/-- How many numbers the rows below k have. -/
def manyTo (s : St) : Nat → Int
  | 0 => 0
  | k + 1 => manyTo s k + (s.at k).length

theorem Le.set4 {w w1 : World} {g : Nat} (h : Le w w1) (hg : w.heap.size ≤ g) (x0 x1 x2 x3 : Value) :
    Le w ((((w1.setCell ⟨g, 0, none⟩ x0).setCell ⟨g, 1, none⟩ x1).setCell ⟨g, 2, none⟩ x2).setCell ⟨g, 3, none⟩ x3) :=
  (((Below.setCell h hg _).setCell hg _).setCell hg _).setCell hg _

theorem Own.set4 {w : World} {base g : Nat} {v : Value} {xs : List Int} {cs : Array Value} {t : TypeId} (h : Own w base v xs) (hb : Box w g cs t) (ht : t ≠ 3) (x0 x1 x2 x3 : Value) :
    Own ((((w.setCell ⟨g, 0, none⟩ x0).setCell ⟨g, 1, none⟩ x1).setCell ⟨g, 2, none⟩ x2).setCell ⟨g, 3, none⟩ x3) base v xs :=
  (((h.setBox hb ht).setBox (hb.set _ _) ht).setBox ((hb.set _ _).set _ _) ht).setBox (((hb.set _ _).set _ _).set _ _) ht

theorem opMay_bounds {c r a : Int} (h : opMay c r a = true) : 0 ≤ c ∧ c ≤ 3 ∧ 0 ≤ r ∧ r ≤ 3 ∧ 0 ≤ a ∧ a ≤ 255 := by
  simp [opMay] at h; omega

/-- The operations that may be. -/
theorem opMay_cases {c r a : Int} (h : opMay c r a = true) :
    (∃ k : Nat, k < 4 ∧ c = 0 ∧ r = k ∧ 0 ≤ a ∧ a ≤ 255) ∨ (∃ k : Nat, k < 4 ∧ c = 1 ∧ r = k ∧ 0 ≤ a ∧ a ≤ 255) ∨ (∃ k : Nat, k < 4 ∧ c = 2 ∧ r = k ∧ a = 0) ∨ (c = 3 ∧ r = 0 ∧ a = 0) := by
  obtain ⟨h0, h1, h2, h3, h4, h5⟩ := opMay_bounds h
  simp [opMay] at h
  rcases (by omega : c = 0 ∨ c = 1 ∨ c = 2 ∨ c = 3) with e | e | e | e
  · exact .inl ⟨r.toNat, by omega, e, by omega, h4, h5⟩
  · exact .inr (.inl ⟨r.toNat, by omega, e, by omega, h4, h5⟩)
  · exact .inr (.inr (.inl ⟨r.toNat, by omega, e, by omega, by omega⟩))
  · exact .inr (.inr (.inr ⟨e, by omega, by omega⟩))

theorem Fit.put {s : St} (h : Fit s) {k : Nat} (hk : k < 4) {x : List Int} (hx : x.length ≤ 4) : Fit (s.put k x) := by
  intro i hi
  rw [St.at_put hk hi]
  have := h i hi
  split <;> omega

theorem hid {p : Prop} (h : p) : Hid p := h

theorem drop_at {xs : List Int} {k : Nat} (hk : k < xs.length) : xs.drop k = xs.getD k 0 :: xs.drop (k + 1) := by
  rw [List.drop_eq_getElem_cons hk]
  simp [List.getD, hk]

theorem getD_drop (xs : List Int) (i j : Nat) : (xs.drop i).getD j 0 = xs.getD (i + j) 0 := by
  simp [List.getD, List.getElem?_drop]

/-- Is it a number of a row? -/
def argB (x : Int) : Bool := decide (0 ≤ x) && decide (x ≤ 255)

theorem all_take {p : Int → Bool} {xs : List Int} {k : Nat} (h : k < xs.length) : (xs.take (k + 1)).all p = ((xs.take k).all p && p (xs.getD k 0)) := by
  rw [List.take_succ_eq_append_getElem h, List.all_append]
  simp [List.getD, h]

theorem all_bad {p : Int → Bool} {xs : List Int} {k : Nat} (h : k < xs.length) (hb : p (xs.getD k 0) = false) : xs.all p = false := by
  rw [List.all_eq_false]
  exact ⟨xs[k], List.getElem_mem h, by simpa [List.getD, h] using hb⟩

end Go.Proofs.YtibleipfablniaaGreat

/-
  THE WALKS over package states' May, Copy, Count: what each answers, for every state. Condition: where memory is made, that the rows can be copied; where numbers are counted, that there are not too many for an int.
-/
namespace Go.Proofs.YtibleipfablniaaGreat
open Go.RowKit

set_option maxHeartbeats 400000 in
theorem listsAllRows (f : Nat) (p : List Int → Bool) (hc : ∀ (u : Value) (w : World), (callFunc f #[u]).run Tryz.prog w = .ok (.enter f #[u]) w) (hp : ∀ v xs w, Has w v xs → Calls Tryz.prog f #[v] w fun e w' => e = .returned (.bool (p xs)) ∧ w = w') (g : Nat) (vs : Nat → Sl) (s : St) (w : World) (hb : Box w g (cells4 vs) 54) (hr : ∀ i, i < 4 → Has w (slV (vs i)) (s.at i)) :
    Calls Tryz.prog 133 #[.slice (some ⟨g, 0, none⟩) 4 4, .func (.func f) #[] #[]] w fun e w' => e = .returned (.bool (s.all p)) ∧ w = w' := by
  go_enter Tryz.func133, Tryz.ntmps133
  go_wp2
  go_loop [9] (fun i => ∃ k : Nat, k ≤ 4 ∧ i = .int .i64 k ∧ Hid (∀ j, j < k → p (s.at j) = true)) (fun i => 4 - (intOf i).toNat)
  case atStart => exact ⟨0, by omega, rfl, fun j hj => by omega⟩
  case round =>
    obtain ⟨k, hk, rfl, HA⟩ := hrel
    by_cases hlt : k < 4
    · have hm := hp (slV (vs k)) (s.at k) _ (hr k hlt)
      have c1 : w.cell? ⟨g, k, none⟩ = some (slV (vs k)) := (hb.cell k).trans (cells4_at vs hlt)
      cases hh : p (s.at k)
      · rw [hh] at hm
        go_wp2_with fail
        refine hm.mono ?_
        rintro e w1 ⟨rfl, rfl⟩
        go_wp2
        go_ret
        exact ⟨ret_bool (St.all_not hlt hh).symm, rfl⟩
      · rw [hh] at hm
        go_wp2_with fail
        refine hm.mono ?_
        rintro e w1 ⟨rfl, rfl⟩
        go_wp2
        go_round
        case rel => exact ⟨k + 1, by omega, by go_num, fun j hj => by rcases Nat.lt_or_eq_of_le (Nat.le_of_lt_succ hj) with h | h; exact HA.out j h; exact h ▸ hh⟩
        case measure => simp [intOf]; omega
    · obtain rfl : k = 4 := by omega
      go_wp2
      go_ret
      exact ⟨ret_bool (St.all_of HA.out).symm, rfl⟩

theorem statesMay (f : Nat) (p : List Int → Bool) (hc : ∀ (u : Value) (w : World), (callFunc f #[u]).run Tryz.prog w = .ok (.enter f #[u]) w) (hp : ∀ v xs w, Has w v xs → Calls Tryz.prog f #[v] w fun e w' => e = .returned (.bool (p xs)) ∧ w = w') (v : Value) (s : St) (w : World) (hx : HasS w v s) :
    Calls Tryz.prog 121 #[v, .func (.func f) #[] #[]] w fun e w' => e = .returned (.bool (s.all p)) ∧ Le w w' := by
  obtain ⟨vs, rfl, hr⟩ := hx
  have hl := Le.alloc w (.cells (cells4 vs) 54)
  have hm := listsAllRows f p hc hp _ vs s _ (Box.new w (cells4 vs) 54) (fun i hi => (hr i hi).le hl)
  go_enter Tryz.func121, Tryz.ntmps121
  go_wp2_with (go_at_call 133; refine hm.mono ?_; rintro e _ ⟨rfl, rfl⟩)
  go_ret
  exact ⟨rfl, hl⟩

theorem listsCopyI (v : Value) (xs : List Int) (w : World) (hx : Has w v xs) (hf : xs.length * 8 ≤ 140737488351232) :
    Calls Tryz.prog 134 #[v] w fun e w' => ∃ q : Sl, e = .returned (slV q) ∧ Own w' w.heap.size (slV q) xs ∧ w.grownBy w' none := by
  go_enter Tryz.func134, Tryz.ntmps134
  go_wp2_with (at_builtin; refine wp_append_ints rfl _ _ rfl w.heap.size _ _ [] xs rfl rfl (Own.nil _ _) hx (by simp; omega) (by simp) ?_; intro v' w2 hown hgrow; rw [List.nil_append] at hown; obtain ⟨q, rfl⟩ := hown.has.sl)
  go_ret
  exact ⟨q, rfl, hown, hgrow⟩

set_option maxHeartbeats 400000 in
theorem statesCopy (v : Value) (s : St) (w : World) (hx : HasS w v s) (hf : Fit s) :
    Calls Tryz.prog 123 #[v] w fun e w' => ∃ us : Nat → Sl, e = .returned (stV us) ∧ (∀ i, i < 4 → Own w' w.heap.size (slV (us i)) (s.at i)) ∧ Apart us 4 ∧ Le w w' := by
  obtain ⟨vs, rfl, hr⟩ := hx
  go_enter Tryz.func123, Tryz.ntmps123
  go_wp2
  go_loopw [8] (fun i wr => ∃ (k : Nat) (us : Nat → Sl), k ≤ 4 ∧ i = .int .i64 k ∧ Cp w s vs wr k us) (fun i _ => 4 - (intOf i).toNat)
  case atStart => exact ⟨0, _, by omega, rfl, Cp.start w s vs⟩
  case round =>
    obtain ⟨k, us, hk, rfl, hcp⟩ := hrel
    by_cases hlt : k < 4
    · have hix := run_row vs k hlt
      have hw1 : Has wr (slV (vs k)) (s.at k) := (hr k hlt).le hcp.le
      have hfk := hf k hlt
      have hrow : ∀ g, (none : Option Nat) = some g → wr.heap.size ≤ g := by intro g hg; cases hg
      go_wp2_with (go_at_call 134; refine (listsCopyI _ (s.at k) _ hw1 hfk).mono ?_; rintro e w2 ⟨q, rfl, hown, hgrow⟩; have l2 : Le wr w2 := Below.grown (Le.refl wr) hgrow (by simp) hrow; have c3 := (hcp.filled.le l2).cell k; rw [cells4_at us hlt] at c3; have f3 := (hcp.filled.le l2).frozen k)
      go_roundw
      case rel => exact ⟨k + 1, _, by omega, by go_num, hcp.next hlt (Le.refl wr) hgrow hrow hown⟩
      case measure => simp [intOf]; omega
    · obtain rfl : k = 4 := by omega
      obtain ⟨p0, p1, p2, p3, _, _, _, _⟩ := hcp.filled.st
      obtain ⟨b0, b1, b2, b3, f0, f1, f2, f3⟩ := hcp.result.st
      go_wp2
      refine bodyPost_ret (v := stV us) (by simp [results, Tryz.results123, go_sem, b0, b1, b2, b3]) rfl ⟨us, rfl, fun i hi => ?_, hcp.apart, ?_⟩
      · exact ((((hcp.rows i hi).setBox hcp.result (by decide)).setBox (hcp.result.set _ _) (by decide)).setBox ((hcp.result.set _ _).set _ _) (by decide)).setBox (((hcp.result.set _ _).set _ _).set _ _) (by decide)
      · exact (((Below.setCell hcp.le (by show w.heap.size ≤ w.heap.size + 1; omega) _).setCell (by show w.heap.size ≤ w.heap.size + 1; omega) _).setCell (by show w.heap.size ≤ w.heap.size + 1; omega) _).setCell (by show w.heap.size ≤ w.heap.size + 1; omega) _

theorem manyTo_bounds {s : St} {m : Nat} (h : ∀ k, k < 4 → (s.at k).length ≤ m) : ∀ k, k ≤ 4 → 0 ≤ manyTo s k ∧ manyTo s k ≤ k * m
  | 0, _ => by simp [manyTo]
  | k + 1, hk => by
    have ih := manyTo_bounds h k (by omega)
    have := h k (by omega)
    have e : ((k + 1 : Nat) : Int) * m = k * m + m := by rw [Int.natCast_add, Int.add_mul]; simp
    simp only [manyTo]
    rw [e]
    omega

set_option maxHeartbeats 400000 in
theorem statesCount (v : Value) (s : St) (w : World) (hx : HasS w v s) (hm : ∀ k, k < 4 → (s.at k).length ≤ 1000) :
    Calls Tryz.prog 135 #[v] w fun e w' => e = .returned (.int .i64 (manyTo s 4)) ∧ Le w w' := by
  obtain ⟨vs, rfl, hr⟩ := hx
  have hl := Le.alloc w (.cells (cells4 vs) 54)
  have hr1 := fun i hi => (hr i hi).le hl
  go_enter Tryz.func135, Tryz.ntmps135
  go_wp2
  go_loop [3, 8] (fun t i => ∃ k : Nat, k ≤ 4 ∧ i = .int .i64 k ∧ t = .int .i64 (manyTo s k)) (fun _ i => 4 - (intOf i).toNat)
  case atStart => exact ⟨0, by omega, rfl, rfl⟩
  case round =>
    obtain ⟨k, hk, rfl, rfl⟩ := hrel
    by_cases hlt : k < 4
    · have hix := run_row vs k hlt
      obtain ⟨b0, b1⟩ := manyTo_bounds hm k hk
      obtain ⟨a, cap, hv, hc, _, hcell⟩ := hr1 k hlt
      have hs : manyTo s (k + 1) = manyTo s k + (s.at k).length := rfl
      have hlk := hm k hlt
      rw [hv] at hix
      obtain ⟨n, hn⟩ : ∃ n, n = (s.at k).length := ⟨_, rfl⟩
      obtain ⟨t, ht⟩ : ∃ t, t = manyTo s k := ⟨_, rfl⟩
      rw [← hn, ← ht] at hs
      rw [← hn] at hix hlk
      rw [← ht] at b0 b1 ⊢
      have HS : Hid (manyTo s (k + 1) = t + n) := hs
      clear hs hcell hc hv hm hr hr1 hn ht
      go_wp2
      go_round
      case rel => exact ⟨k + 1, by omega, by go_num, by rw [HS.out]⟩
      case measure => simp [intOf]; omega
    · obtain rfl : k = 4 := by omega
      go_wp2
      go_ret
      exact ⟨rfl, hl⟩

end Go.Proofs.YtibleipfablniaaGreat

/-
  THE WALKS over package store's mayRow, number, sum: what each answers, for every row and state. Condition: where numbers are summed, that the state may be a store; where memory is made, that the rows can be copied.
-/
namespace Go.Proofs.YtibleipfablniaaGreat
open Go.RowKit

/-- May a row be a store's? -/
def rowMay1 (xs : List Int) : Bool :=
  match xs with
  | [] => true
  | [x] => decide (0 ≤ x) && decide (x ≤ 255)
  | _ => false

/-- A row's first number, or -1. -/
def firstS (xs : List Int) : Int := xs.headD (-1)

theorem rowMay1_cases {xs : List Int} (h : rowMay1 xs = true) : xs = [] ∨ ∃ x, xs = [x] ∧ 0 ≤ x ∧ x ≤ 255 := by
  match xs with
  | [] => exact .inl rfl
  | [x] => simp [rowMay1] at h; exact .inr ⟨x, rfl, h.1, h.2⟩
  | _ :: _ :: _ => simp [rowMay1] at h

set_option maxHeartbeats 400000 in
theorem storeMayRow (v : Value) (xs : List Int) (w : World) (hx : Has w v xs) :
    Calls Tryz.prog 122 #[v] w fun e w' => e = .returned (.bool (rowMay1 xs)) ∧ w = w' := by
  obtain ⟨a, cap, rfl, hc, _, hx⟩ := hx
  match xs, hc, hx with
  | [], hc, hx =>
    go_enter Tryz.func122, Tryz.ntmps122
    go_wp2
    go_ret
    exact ⟨rfl, rfl⟩
  | [x], hc, hx =>
    obtain ⟨b, off, rfl, hcell⟩ := hx (by simp)
    have c0 : w.cell? ⟨b, off, none⟩ = some (.int .i64 x) := hcell 0 (by simp)
    clear hx hcell
    by_cases h0 : 0 ≤ x
    all_goals
      go_enter Tryz.func122, Tryz.ntmps122
      go_wp2
      go_ret
      exact ⟨ret_bool (by simp [rowMay1, h0]; try omega), rfl⟩
  | x :: y :: zs, hc, hx =>
    have n0 : ¬ (((zs.length + 1 + 1 : Nat) : Int)) = 0 := by omega
    have n1 : ¬ (((zs.length + 1 + 1 : Nat) : Int)) = 1 := by omega
    simp only [List.length_cons] at hc hx ⊢
    go_enter Tryz.func122, Tryz.ntmps122
    go_wp2
    go_ret
    exact ⟨ret_bool (by simp [rowMay1]), rfl⟩

set_option maxHeartbeats 400000 in
theorem storeNumber (v : Value) (xs : List Int) (w : World) (hx : Has w v xs) :
    Calls Tryz.prog 125 #[v] w fun e w' => e = .returned (.int .i64 (firstS xs)) ∧ w = w' := by
  obtain ⟨a, cap, rfl, hc, _, hx⟩ := hx
  match xs, hc, hx with
  | [], hc, hx =>
    go_enter Tryz.func125, Tryz.ntmps125
    go_wp2
    go_ret
    exact ⟨rfl, rfl⟩
  | x :: zs, hc, hx =>
    obtain ⟨b, off, rfl, hcell⟩ := hx (by simp)
    have c0 : w.cell? ⟨b, off, none⟩ = some (.int .i64 x) := hcell 0 (by simp)
    simp only [List.length_cons] at hc ⊢
    have n0 : ¬ (((zs.length + 1 : Nat) : Int)) = 0 := by omega
    clear hx hcell
    go_enter Tryz.func125, Tryz.ntmps125
    go_wp2
    go_ret
    exact ⟨rfl, rfl⟩

theorem storeMay (v : Value) (s : St) (w : World) (hx : HasS w v s) :
    Calls Tryz.prog 121 #[v, .func (.func 122) #[] #[]] w fun e w' => e = .returned (.bool (s.all rowMay1)) ∧ Le w w' :=
  statesMay 122 rowMay1 (fun _ _ => by kernel_rfl) storeMayRow v s w hx

theorem sumTo_bounds {s : St} (h : s.all rowMay1 = true) : ∀ k, k ≤ 4 → 0 ≤ sumTo s k ∧ sumTo s k ≤ 255 * k
  | 0, _ => by simp [sumTo]
  | k + 1, hk => by
    have ih := sumTo_bounds h k (by omega)
    rcases rowMay1_cases (St.all_at h (k := k) (by omega)) with e | ⟨x, e, h0, h1⟩ <;> simp [sumTo, e] <;> omega

set_option maxHeartbeats 400000 in
theorem storeSum (v : Value) (s : St) (w : World) (hx : HasS w v s) (hm : s.all rowMay1 = true) :
    Calls Tryz.prog 124 #[v] w fun e w' => e = .returned (.int .i64 (sumTo s 4)) ∧ Le w w' := by
  obtain ⟨vs, rfl, hr⟩ := hx
  have hl := Le.alloc w (.cells (cells4 vs) 54)
  have hr1 := fun i hi => (hr i hi).le hl
  go_enter Tryz.func124, Tryz.ntmps124
  go_wp2
  go_loop [3, 10] (fun t i => ∃ k : Nat, k ≤ 4 ∧ i = .int .i64 k ∧ t = .int .i64 (sumTo s k)) (fun _ i => 4 - (intOf i).toNat)
  case atStart => exact ⟨0, by omega, rfl, rfl⟩
  case round =>
    obtain ⟨k, hk, rfl, rfl⟩ := hrel
    by_cases hlt : k < 4
    · have hix := run_row vs k hlt
      obtain ⟨b0, b1⟩ := sumTo_bounds hm k hk
      obtain ⟨a, cap, hv, hc, _, hcell⟩ := hr1 k hlt
      have hs : sumTo s (k + 1) = sumTo s k + (s.at k).sum := rfl
      rw [hv] at hix
      rcases rowMay1_cases (St.all_at hm hlt) with e | ⟨x, e, h0, h1⟩
      · rw [e] at hix hs
        simp at hs
        have HS : Hid (sumTo s (k + 1) = sumTo s k) := hs
        clear hs e hcell hc hv hm hr hr1
        go_wp2
        refine wp_loop_rounds 1 ?_
        rw [rounds_succ]
        go_wp2
        go_round
        case rel => exact ⟨k + 1, by omega, by go_num, by rw [HS.out]⟩
        case measure => simp [intOf]; omega
      · rw [e] at hix hs hcell
        obtain ⟨b, off, ha, hcl⟩ := hcell (by simp)
        clear hcell
        subst ha
        have c0 := hcl 0 (by simp)
        simp at hs c0
        have HS : Hid (sumTo s (k + 1) = sumTo s k + x) := hs
        clear hs e hcl hc hv hm hr hr1
        go_wp2
        refine wp_loop_rounds 2 ?_
        rw [rounds_succ]
        go_wp2
        rw [rounds_succ]
        go_wp2
        go_round
        case rel => exact ⟨k + 1, by omega, by go_num, by rw [HS.out]⟩
        case measure => simp [intOf]; omega
    · obtain rfl : k = 4 := by omega
      go_wp2
      go_ret
      exact ⟨rfl, hl⟩

theorem storeCopied (v : Value) (s : St) (w : World) (hx : HasS w v s) (hf : Fit s) :
    Calls Tryz.prog 123 #[v] w fun e w' => ∃ v', e = .returned v' ∧ OwnS w' w.heap.size v' s ∧ Le w w' :=
  (statesCopy v s w hx hf).mono fun _ _ ⟨us, he, ho, _, hl⟩ => ⟨stV us, he, ⟨us, rfl, ho⟩, hl⟩

end Go.Proofs.YtibleipfablniaaGreat

/-
  THE WALK over store.Apply: what it answers, for every state and operation, and that what it hands back lies in memory of its own. Condition: the state's rows can be copied.
-/
namespace Go.Proofs.YtibleipfablniaaGreat
open Go.RowKit

/-- The document's answer: the state, the answer, the error. -/
def stoS (s : St) (c r a e : Int) : St × Int × Int :=
  if s.all rowMay1 && opMay c r a then
    (if c = 3 then (s, sumTo s 4, 0)
    else (if c = 0 then s.put r.toNat [a] else if c = 1 then s.put r.toNat [] else s, firstS (s.at r.toNat), 0))
  else (St.zero, 0, e)

set_option maxHeartbeats 2000000 in
theorem storeApplyNo (v : Value) (s : St) (c r a : Int) (w : World) (hx : HasS w v s) (h : (s.all rowMay1 && opMay c r a) = false) :
    Calls Tryz.prog 117 #[v, opV c r a] w fun e w' => e = .returned (.tuple #[stZ, .int .i64 0, .int .i64 300]) ∧ Le w w' := by
  have hx0 := hx
  obtain ⟨vs, rfl, hr⟩ := hx
  have hl := ((Le.alloc w (.cells (cells4 vs) 54)).trans (Le.alloc _ (.cells #[.int .i64 c, .int .i64 r, .int .i64 a] 48))).trans (Le.alloc _ (.cells (cells4 fun _ => slZ) 54))
  have hb1 := ((Box.new w (cells4 vs) 54).le (Le.alloc _ (.cells #[.int .i64 c, .int .i64 r, .int .i64 a] 48))).le (Le.alloc _ (.cells (cells4 fun _ => slZ) 54))
  have hb2 := (Box.new (w.alloc (.cells (cells4 vs) 54)) #[.int .i64 c, .int .i64 r, .int .i64 a] 48).le (Le.alloc _ (.cells (cells4 fun _ => slZ) 54))
  have hb3 := Box.new ((w.alloc (.cells (cells4 vs) 54)).alloc (.cells #[.int .i64 c, .int .i64 r, .int .i64 a] 48)) (cells4 fun _ => slZ) 54
  simp only [World.size_alloc] at hb1 hb2 hb3
  cases hm : s.all rowMay1
  · have hmay := storeMay (stV vs) s _ (hx0.le hl)
    rw [hm] at hmay
    go_enter Tryz.func117, Tryz.ntmps117
    go_wp2_with fail
    refine hmay.mono ?_
    rintro e w1 ⟨rfl, l1⟩
    obtain ⟨z0, z1, z2, z3, f0, f1, f2, f3⟩ := (hb3.le l1).st
    go_wp2_with fail
    refine bodyPost_ret (v := .tuple #[stZ, .int .i64 0, .int .i64 300]) (by simp [results, Tryz.results117, go_sem, z0, z1, z2, z3]) rfl ⟨rfl, ?_⟩
    exact (hl.trans l1).set4 (by omega) _ _ _ _
  · have hop : opMay c r a = false := by simpa [hm] using h
    have hmay := storeMay (stV vs) s _ (hx0.le hl)
    rw [hm] at hmay
    go_enter Tryz.func117, Tryz.ntmps117
    go_wp2_with fail
    refine hmay.mono ?_
    rintro e w1 ⟨rfl, l1⟩
    obtain ⟨y0, y1, y2, _, _, _⟩ := (hb2.le l1).op
    go_wp2_with fail
    refine (operMay _ _ _ _).mono ?_
    rw [hop]
    rintro e w2 ⟨rfl, l2⟩
    obtain ⟨z0, z1, z2, z3, f0, f1, f2, f3⟩ := ((hb3.le l1).le l2).st
    go_wp2_with fail
    refine bodyPost_ret (v := .tuple #[stZ, .int .i64 0, .int .i64 300]) (by simp [results, Tryz.results117, go_sem, z0, z1, z2, z3]) rfl ⟨rfl, ?_⟩
    exact ((hl.trans l1).trans l2).set4 (by omega) _ _ _ _

set_option maxHeartbeats 2000000 in
theorem storeApplyScan (v : Value) (s : St) (w : World) (hx : HasS w v s) (hf : Fit s) (hm : s.all rowMay1 = true) :
    Calls Tryz.prog 117 #[v, opV 3 0 0] w fun e w' => ∃ v', e = .returned (.tuple #[v', .int .i64 (sumTo s 4), .int .i64 0]) ∧ OwnS w' w.heap.size v' (s) ∧ Le w w' := by
  have hx0 := hx
  obtain ⟨vs, rfl, hr⟩ := hx
  have hl := ((Le.alloc w (.cells (cells4 vs) 54)).trans (Le.alloc _ (.cells #[.int .i64 3, .int .i64 0, .int .i64 0] 48))).trans (Le.alloc _ (.cells (cells4 fun _ => slZ) 54))
  have hb1 := ((Box.new w (cells4 vs) 54).le (Le.alloc _ (.cells #[.int .i64 3, .int .i64 0, .int .i64 0] 48))).le (Le.alloc _ (.cells (cells4 fun _ => slZ) 54))
  have hb2 := (Box.new (w.alloc (.cells (cells4 vs) 54)) #[.int .i64 3, .int .i64 0, .int .i64 0] 48).le (Le.alloc _ (.cells (cells4 fun _ => slZ) 54))
  have hb3 := Box.new ((w.alloc (.cells (cells4 vs) 54)).alloc (.cells #[.int .i64 3, .int .i64 0, .int .i64 0] 48)) (cells4 fun _ => slZ) 54
  simp only [World.size_alloc] at hb1 hb2 hb3
  have hmay := storeMay (stV vs) s _ (hx0.le hl)
  rw [hm] at hmay
  have hop : opMay 3 0 0 = true := by decide
  go_enter Tryz.func117, Tryz.ntmps117
  go_wp2_with fail
  refine hmay.mono ?_
  rintro e w1 ⟨rfl, l1⟩
  obtain ⟨y0, y1, y2, _, _, _⟩ := (hb2.le l1).op
  clear hmay
  go_wp2_with fail
  refine (operMay _ _ _ _).mono ?_
  rw [hop]
  rintro e w2 ⟨rfl, l2⟩
  replace l1 := l1.trans l2
  clear l2 y0 y1 y2
  obtain ⟨y0, y1, y2, y3, _, _, _, _⟩ := (hb1.le l1).st
  go_wp2_with fail
  refine (storeCopied (stV vs) s _ (hx0.le (hl.trans l1)) hf).mono ?_
  rintro e w3 ⟨_, rfl, ⟨us, rfl, hown⟩, l3⟩
  replace hown := fun i hi => (hown i hi).base (base' := w.heap.size) (hl.trans l1).size
  replace l1 := l1.trans l3
  clear l3 y0 y1 y2 y3
  have n0 : w.heap.size + 1 + 1 < w3.heap.size := (hb3.le l1).lt
  have n1 : ¬ w.heap.size + 1 + 1 = w3.heap.size := by omega
  have n2 : ¬ w.heap.size + 1 + 1 = w.heap.size := by omega
  have n3 : ¬ w.heap.size + 1 + 1 = w.heap.size + 1 := by omega
  have hb4 := Box.new w3 (cells4 us) 54
  replace l1 := l1.trans (Le.alloc w3 (.cells (cells4 us) 54))
  replace hown := fun i hi => (hown i hi).le (Le.alloc w3 (.cells (cells4 us) 54))
  obtain ⟨y0, y1, y2, _, _, _⟩ := (hb2.le l1).op
  go_upto_region 6 with fail
  generalize hW : w3.alloc (.cells (cells4 us) 54) = W at hb4 l1 hown ⊢
  clear y0 y1 y2 hW
  obtain ⟨y0, y1, y2, y3, _, _, _, _⟩ := hb4.st
  obtain ⟨x0, x1, x2, x3, _, _, _, _⟩ := (hb1.le l1).st
  obtain ⟨z0, z1, z2, z3, f0, f1, f2, f3⟩ := (hb3.le l1).st
  have hsum := fun (w' : World) (h : Le W w') => storeSum (stV vs) s w' (hx0.le ((hl.trans l1).trans h)) hm
  go_region_held3 (fun w' => w'.cell? ⟨w3.heap.size, 0, none⟩ = some (slV (us 0)) ∧ w'.cell? ⟨w3.heap.size, 1, none⟩ = some (slV (us 1)) ∧ w'.cell? ⟨w3.heap.size, 2, none⟩ = some (slV (us 2)) ∧ w'.cell? ⟨w3.heap.size, 3, none⟩ = some (slV (us 3)) ∧ w'.cell? ⟨w.heap.size, 0, none⟩ = some (slV (vs 0)) ∧ w'.cell? ⟨w.heap.size, 1, none⟩ = some (slV (vs 1)) ∧ w'.cell? ⟨w.heap.size, 2, none⟩ = some (slV (vs 2)) ∧ w'.cell? ⟨w.heap.size, 3, none⟩ = some (slV (vs 3))) (go_keep) ((go_at_call 124; refine (hsum _ (Le.drew _)).mono ?_; rintro e w4 ⟨rfl, l4⟩; replace l4 := (Le.drew W).trans l4; obtain ⟨y0', y1', y2', y3', _, _, _, _⟩ := (hb4.le l4).st; obtain ⟨x0', x1', x2', x3', _, _, _, _⟩ := (hb1.le (l1.trans l4)).st; obtain ⟨z0', z1', z2', z3', f0', f1', f2', f3'⟩ := (hb3.le (l1.trans l4)).st))
  all_goals
    go_wp2_with fail
    refine bodyPost_ret (v := .tuple #[stV us, .int .i64 (sumTo s 4), .int .i64 0]) (by simp [results, Tryz.results117, go_sem, z0', z1', z2', z3']) rfl ⟨_, rfl, ⟨us, rfl, fun i hi => ?_⟩, ?_⟩
    · exact ((hown i hi).le l4).set4 (hb3.le (l1.trans l4)) (by decide) _ _ _ _
    · exact ((hl.trans l1).trans l4).set4 (by omega) _ _ _ _

set_option maxHeartbeats 2000000 in
theorem storeApplyLook (v : Value) (s : St) (k : Nat) (w : World) (hx : HasS w v s) (hf : Fit s) (hm : s.all rowMay1 = true) (hk : k < 4) :
    Calls Tryz.prog 117 #[v, opV 2 k 0] w fun e w' => ∃ v', e = .returned (.tuple #[v', .int .i64 (firstS (s.at k)), .int .i64 0]) ∧ OwnS w' w.heap.size v' (s) ∧ Le w w' := by
  have hx0 := hx
  obtain ⟨vs, rfl, hr⟩ := hx
  have hl := ((Le.alloc w (.cells (cells4 vs) 54)).trans (Le.alloc _ (.cells #[.int .i64 2, .int .i64 k, .int .i64 0] 48))).trans (Le.alloc _ (.cells (cells4 fun _ => slZ) 54))
  have hb1 := ((Box.new w (cells4 vs) 54).le (Le.alloc _ (.cells #[.int .i64 2, .int .i64 k, .int .i64 0] 48))).le (Le.alloc _ (.cells (cells4 fun _ => slZ) 54))
  have hb2 := (Box.new (w.alloc (.cells (cells4 vs) 54)) #[.int .i64 2, .int .i64 k, .int .i64 0] 48).le (Le.alloc _ (.cells (cells4 fun _ => slZ) 54))
  have hb3 := Box.new ((w.alloc (.cells (cells4 vs) 54)).alloc (.cells #[.int .i64 2, .int .i64 k, .int .i64 0] 48)) (cells4 fun _ => slZ) 54
  simp only [World.size_alloc] at hb1 hb2 hb3
  have hmay := storeMay (stV vs) s _ (hx0.le hl)
  rw [hm] at hmay
  have hop : opMay 2 k 0 = true := by simp [opMay]; omega
  go_enter Tryz.func117, Tryz.ntmps117
  go_wp2_with fail
  refine hmay.mono ?_
  rintro e w1 ⟨rfl, l1⟩
  obtain ⟨y0, y1, y2, _, _, _⟩ := (hb2.le l1).op
  clear hmay
  go_wp2_with fail
  refine (operMay _ _ _ _).mono ?_
  rw [hop]
  rintro e w2 ⟨rfl, l2⟩
  replace l1 := l1.trans l2
  clear l2 y0 y1 y2
  obtain ⟨y0, y1, y2, y3, _, _, _, _⟩ := (hb1.le l1).st
  go_wp2_with fail
  refine (storeCopied (stV vs) s _ (hx0.le (hl.trans l1)) hf).mono ?_
  rintro e w3 ⟨_, rfl, ⟨us, rfl, hown⟩, l3⟩
  replace hown := fun i hi => (hown i hi).base (base' := w.heap.size) (hl.trans l1).size
  replace l1 := l1.trans l3
  clear l3 y0 y1 y2 y3
  have n0 : w.heap.size + 1 + 1 < w3.heap.size := (hb3.le l1).lt
  have n1 : ¬ w.heap.size + 1 + 1 = w3.heap.size := by omega
  have n2 : ¬ w.heap.size + 1 + 1 = w.heap.size := by omega
  have n3 : ¬ w.heap.size + 1 + 1 = w.heap.size + 1 := by omega
  have hb4 := Box.new w3 (cells4 us) 54
  replace l1 := l1.trans (Le.alloc w3 (.cells (cells4 us) 54))
  replace hown := fun i hi => (hown i hi).le (Le.alloc w3 (.cells (cells4 us) 54))
  obtain ⟨y0, y1, y2, _, _, _⟩ := (hb2.le l1).op
  go_upto_region 11 with fail
  generalize hW : w3.alloc (.cells (cells4 us) 54) = W at hb4 l1 hown ⊢
  clear y0 y1 y2 hW
  obtain ⟨y0, y1, y2, y3, _, _, _, _⟩ := hb4.st
  obtain ⟨z0, z1, z2, z3, f0, f1, f2, f3⟩ := (hb3.le l1).st
  have k0 : (0 : Int) ≤ (k : Int) := by omega
  have k1 : (k : Int) < 4 := by omega
  have o1 := (hb2.le l1).op.2.1
  have x1 : W.cell? ⟨w.heap.size, k, none⟩ = some (slV (vs k)) := ((hb1.le l1).cell k).trans (cells4_at vs hk)
  have hnum := storeNumber (slV (vs k)) (s.at k) W.drew ((hr k hk).le ((hl.trans l1).trans (Le.drew _)))
  go_region_held3 (fun w' => w'.cell? ⟨w3.heap.size, 0, none⟩ = some (slV (us 0)) ∧ w'.cell? ⟨w3.heap.size, 1, none⟩ = some (slV (us 1)) ∧ w'.cell? ⟨w3.heap.size, 2, none⟩ = some (slV (us 2)) ∧ w'.cell? ⟨w3.heap.size, 3, none⟩ = some (slV (us 3)) ∧ w'.cell? ⟨w.heap.size + 1, 1, none⟩ = some (.int .i64 k) ∧ w'.cell? ⟨w.heap.size, k, none⟩ = some (slV (vs k))) (go_keep) ((go_at_call 125; refine hnum.mono ?_; rintro e w4 ⟨rfl, rfl⟩))
  all_goals
    go_wp2_with fail
    refine bodyPost_ret (v := .tuple #[stV us, .int .i64 (firstS (s.at k)), .int .i64 0]) (by simp [results, Tryz.results117, go_sem, z0, z1, z2, z3]) rfl ⟨_, rfl, ⟨us, rfl, fun i hi => ?_⟩, ?_⟩
    · exact ((hown i hi).le (Le.drew _)).set4 (hb3.le (l1.trans (Le.drew _))) (by decide) _ _ _ _
    · exact ((hl.trans l1).trans (Le.drew _)).set4 (by omega) _ _ _ _

set_option maxHeartbeats 2000000 in
theorem storeApplyFirst (v : Value) (s : St) (k : Nat) (a : Int) (w : World) (hx : HasS w v s) (hf : Fit s) (hm : s.all rowMay1 = true) (hk : k < 4) (ha : 0 ≤ a ∧ a ≤ 255) :
    Calls Tryz.prog 117 #[v, opV 0 k a] w fun e w' => ∃ v', e = .returned (.tuple #[v', .int .i64 (firstS (s.at k)), .int .i64 0]) ∧ OwnS w' w.heap.size v' (s.put k [a]) ∧ Le w w' := by
  have hx0 := hx
  obtain ⟨vs, rfl, hr⟩ := hx
  have hl := ((Le.alloc w (.cells (cells4 vs) 54)).trans (Le.alloc _ (.cells #[.int .i64 0, .int .i64 k, .int .i64 a] 48))).trans (Le.alloc _ (.cells (cells4 fun _ => slZ) 54))
  have hb1 := ((Box.new w (cells4 vs) 54).le (Le.alloc _ (.cells #[.int .i64 0, .int .i64 k, .int .i64 a] 48))).le (Le.alloc _ (.cells (cells4 fun _ => slZ) 54))
  have hb2 := (Box.new (w.alloc (.cells (cells4 vs) 54)) #[.int .i64 0, .int .i64 k, .int .i64 a] 48).le (Le.alloc _ (.cells (cells4 fun _ => slZ) 54))
  have hb3 := Box.new ((w.alloc (.cells (cells4 vs) 54)).alloc (.cells #[.int .i64 0, .int .i64 k, .int .i64 a] 48)) (cells4 fun _ => slZ) 54
  simp only [World.size_alloc] at hb1 hb2 hb3
  have hmay := storeMay (stV vs) s _ (hx0.le hl)
  rw [hm] at hmay
  have hop : opMay 0 k a = true := by simp [opMay]; omega
  go_enter Tryz.func117, Tryz.ntmps117
  go_wp2_with fail
  refine hmay.mono ?_
  rintro e w1 ⟨rfl, l1⟩
  obtain ⟨y0, y1, y2, _, _, _⟩ := (hb2.le l1).op
  clear hmay
  go_wp2_with fail
  refine (operMay _ _ _ _).mono ?_
  rw [hop]
  rintro e w2 ⟨rfl, l2⟩
  replace l1 := l1.trans l2
  clear l2 y0 y1 y2
  obtain ⟨y0, y1, y2, y3, _, _, _, _⟩ := (hb1.le l1).st
  go_wp2_with fail
  refine (storeCopied (stV vs) s _ (hx0.le (hl.trans l1)) hf).mono ?_
  rintro e w3 ⟨_, rfl, ⟨us, rfl, hown⟩, l3⟩
  replace hown := fun i hi => (hown i hi).base (base' := w.heap.size) (hl.trans l1).size
  replace l1 := l1.trans l3
  clear l3 y0 y1 y2 y3
  have n0 : w.heap.size + 1 + 1 < w3.heap.size := (hb3.le l1).lt
  have n1 : ¬ w.heap.size + 1 + 1 = w3.heap.size := by omega
  have n2 : ¬ w.heap.size + 1 + 1 = w.heap.size := by omega
  have n3 : ¬ w.heap.size + 1 + 1 = w.heap.size + 1 := by omega
  have hb4 := Box.new w3 (cells4 us) 54
  replace l1 := l1.trans (Le.alloc w3 (.cells (cells4 us) 54))
  replace hown := fun i hi => (hown i hi).le (Le.alloc w3 (.cells (cells4 us) 54))
  obtain ⟨y0, y1, y2, _, _, _⟩ := (hb2.le l1).op
  go_upto_region 8 with fail
  generalize hW : w3.alloc (.cells (cells4 us) 54) = W at hb4 l1 hown ⊢
  clear y0 y1 y2 hW
  have o1 := (hb2.le l1).op.2.1
  have o2 := (hb2.le l1).op.2.2.1
  have t1 : (W.alloc (.cells #[.int .i64 a] 3)).cell? ⟨w3.heap.size, k, none⟩ = some (slV (us k)) := ((hb4.le (Le.alloc W _)).cell k).trans (cells4_at us hk)
  have tf := (hb4.le (Le.alloc W (.cells #[.int .i64 a] 3))).frozen k
  have hnew : Own (W.alloc (.cells #[.int .i64 a] 3)) w.heap.size (slV (some ⟨W.heap.size, 0, none⟩, 1, 1)) [a] := Own.lit W _ (hl.trans l1).size [a] (by simp)
  go_upto_region 11 with fail
  replace hnew := hnew.setBox (i := k) (u := slV (some ⟨W.heap.size, 0, none⟩, 1, 1)) (hb4.le (Le.alloc W _)) (by decide)
  replace hown := fun i hi => ((hown i hi).le (Le.alloc W (.cells #[.int .i64 a] 3))).setBox (i := k) (u := slV (some ⟨W.heap.size, 0, none⟩, 1, 1)) (hb4.le (Le.alloc W _)) (by decide)
  replace hb4 := (hb4.le (Le.alloc W (.cells #[.int .i64 a] 3))).set k (slV (some ⟨W.heap.size, 0, none⟩, 1, 1))
  rw [cells4_upd us hk] at hb4
  replace l1 : Le _ ((W.alloc (.cells #[.int .i64 a] 3)).setCell ⟨w3.heap.size, k, none⟩ (slV (some ⟨W.heap.size, 0, none⟩, 1, 1))) := Below.setCell (l1.trans (Le.alloc W _)) (by simp only [World.size_alloc]; show w.heap.size + 1 + 1 + 1 ≤ w3.heap.size; omega) _
  generalize hW2 : (W.alloc (.cells #[.int .i64 a] 3)).setCell ⟨w3.heap.size, k, none⟩ (slV (some ⟨W.heap.size, 0, none⟩, 1, 1)) = W2 at hb4 l1 hown hnew ⊢
  replace hown : ∀ i, i < 4 → Own W2 w.heap.size (slV (upd us k (some ⟨W.heap.size, 0, none⟩, 1, 1) i)) ((s.put k [a]).at i) := by
    intro i hi
    rw [St.at_put hk hi]
    by_cases e : i = k
    · rw [if_pos e, show upd us k (some ⟨W.heap.size, 0, none⟩, 1, 1) i = (some ⟨W.heap.size, 0, none⟩, 1, 1) by simp [upd, e]]; exact hnew
    · rw [if_neg e, show upd us k (some ⟨W.heap.size, 0, none⟩, 1, 1) i = us i by simp [upd, e]]; exact hown i hi
  generalize upd us k (some ⟨W.heap.size, 0, none⟩, 1, 1) = us at hb4 hown
  clear hW2 hnew t1 tf o1 o2
  generalize W2 = W at hb4 l1 hown ⊢
  obtain ⟨y0, y1, y2, y3, _, _, _, _⟩ := hb4.st
  obtain ⟨z0, z1, z2, z3, f0, f1, f2, f3⟩ := (hb3.le l1).st
  have k0 : (0 : Int) ≤ (k : Int) := by omega
  have k1 : (k : Int) < 4 := by omega
  have o1 := (hb2.le l1).op.2.1
  have x1 : W.cell? ⟨w.heap.size, k, none⟩ = some (slV (vs k)) := ((hb1.le l1).cell k).trans (cells4_at vs hk)
  have hnum := storeNumber (slV (vs k)) (s.at k) W.drew ((hr k hk).le ((hl.trans l1).trans (Le.drew _)))
  go_region_held3 (fun w' => w'.cell? ⟨w3.heap.size, 0, none⟩ = some (slV (us 0)) ∧ w'.cell? ⟨w3.heap.size, 1, none⟩ = some (slV (us 1)) ∧ w'.cell? ⟨w3.heap.size, 2, none⟩ = some (slV (us 2)) ∧ w'.cell? ⟨w3.heap.size, 3, none⟩ = some (slV (us 3)) ∧ w'.cell? ⟨w.heap.size + 1, 1, none⟩ = some (.int .i64 k) ∧ w'.cell? ⟨w.heap.size, k, none⟩ = some (slV (vs k))) (go_keep) ((go_at_call 125; refine hnum.mono ?_; rintro e w4 ⟨rfl, rfl⟩))
  all_goals
    go_wp2_with fail
    refine bodyPost_ret (v := .tuple #[stV us, .int .i64 (firstS (s.at k)), .int .i64 0]) (by simp [results, Tryz.results117, go_sem, z0, z1, z2, z3]) rfl ⟨_, rfl, ⟨us, rfl, fun i hi => ?_⟩, ?_⟩
    · exact ((hown i hi).le (Le.drew _)).set4 (hb3.le (l1.trans (Le.drew _))) (by decide) _ _ _ _
    · exact ((hl.trans l1).trans (Le.drew _)).set4 (by omega) _ _ _ _

set_option maxHeartbeats 2000000 in
theorem storeApplySecond (v : Value) (s : St) (k : Nat) (a : Int) (w : World) (hx : HasS w v s) (hf : Fit s) (hm : s.all rowMay1 = true) (hk : k < 4) (ha : 0 ≤ a ∧ a ≤ 255) :
    Calls Tryz.prog 117 #[v, opV 1 k a] w fun e w' => ∃ v', e = .returned (.tuple #[v', .int .i64 (firstS (s.at k)), .int .i64 0]) ∧ OwnS w' w.heap.size v' (s.put k []) ∧ Le w w' := by
  have hx0 := hx
  obtain ⟨vs, rfl, hr⟩ := hx
  have hl := ((Le.alloc w (.cells (cells4 vs) 54)).trans (Le.alloc _ (.cells #[.int .i64 1, .int .i64 k, .int .i64 a] 48))).trans (Le.alloc _ (.cells (cells4 fun _ => slZ) 54))
  have hb1 := ((Box.new w (cells4 vs) 54).le (Le.alloc _ (.cells #[.int .i64 1, .int .i64 k, .int .i64 a] 48))).le (Le.alloc _ (.cells (cells4 fun _ => slZ) 54))
  have hb2 := (Box.new (w.alloc (.cells (cells4 vs) 54)) #[.int .i64 1, .int .i64 k, .int .i64 a] 48).le (Le.alloc _ (.cells (cells4 fun _ => slZ) 54))
  have hb3 := Box.new ((w.alloc (.cells (cells4 vs) 54)).alloc (.cells #[.int .i64 1, .int .i64 k, .int .i64 a] 48)) (cells4 fun _ => slZ) 54
  simp only [World.size_alloc] at hb1 hb2 hb3
  have hmay := storeMay (stV vs) s _ (hx0.le hl)
  rw [hm] at hmay
  have hop : opMay 1 k a = true := by simp [opMay]; omega
  go_enter Tryz.func117, Tryz.ntmps117
  go_wp2_with fail
  refine hmay.mono ?_
  rintro e w1 ⟨rfl, l1⟩
  obtain ⟨y0, y1, y2, _, _, _⟩ := (hb2.le l1).op
  clear hmay
  go_wp2_with fail
  refine (operMay _ _ _ _).mono ?_
  rw [hop]
  rintro e w2 ⟨rfl, l2⟩
  replace l1 := l1.trans l2
  clear l2 y0 y1 y2
  obtain ⟨y0, y1, y2, y3, _, _, _, _⟩ := (hb1.le l1).st
  go_wp2_with fail
  refine (storeCopied (stV vs) s _ (hx0.le (hl.trans l1)) hf).mono ?_
  rintro e w3 ⟨_, rfl, ⟨us, rfl, hown⟩, l3⟩
  replace hown := fun i hi => (hown i hi).base (base' := w.heap.size) (hl.trans l1).size
  replace l1 := l1.trans l3
  clear l3 y0 y1 y2 y3
  have n0 : w.heap.size + 1 + 1 < w3.heap.size := (hb3.le l1).lt
  have n1 : ¬ w.heap.size + 1 + 1 = w3.heap.size := by omega
  have n2 : ¬ w.heap.size + 1 + 1 = w.heap.size := by omega
  have n3 : ¬ w.heap.size + 1 + 1 = w.heap.size + 1 := by omega
  have hb4 := Box.new w3 (cells4 us) 54
  replace l1 := l1.trans (Le.alloc w3 (.cells (cells4 us) 54))
  replace hown := fun i hi => (hown i hi).le (Le.alloc w3 (.cells (cells4 us) 54))
  obtain ⟨y0, y1, y2, _, _, _⟩ := (hb2.le l1).op
  go_upto_region 10 with fail
  generalize hW : w3.alloc (.cells (cells4 us) 54) = W at hb4 l1 hown ⊢
  clear y0 y1 y2 hW
  have o1 := (hb2.le l1).op.2.1
  have t1 : W.cell? ⟨w3.heap.size, k, none⟩ = some (slV (us k)) := (hb4.cell k).trans (cells4_at us hk)
  have tf := hb4.frozen k
  go_upto_region 11 with fail
  replace hown := fun i hi => (hown i hi).setBox (i := k) (u := slV slZ) hb4 (by decide)
  replace hb4 := hb4.set k (slV slZ)
  rw [cells4_upd us hk] at hb4
  replace l1 : Le _ (W.setCell ⟨w3.heap.size, k, none⟩ (slV slZ)) := Below.setCell l1 (by simp only [World.size_alloc]; show w.heap.size + 1 + 1 + 1 ≤ w3.heap.size; omega) _
  generalize hW2 : W.setCell ⟨w3.heap.size, k, none⟩ (slV slZ) = W2 at hb4 l1 hown ⊢
  replace hown : ∀ i, i < 4 → Own W2 w.heap.size (slV (upd us k slZ i)) ((s.put k []).at i) := by
    intro i hi
    rw [St.at_put hk hi]
    by_cases e : i = k
    · rw [if_pos e, show upd us k slZ i = slZ by simp [upd, e]]; exact Own.nil _ _
    · rw [if_neg e, show upd us k slZ i = us i by simp [upd, e]]; exact hown i hi
  generalize upd us k slZ = us at hb4 hown
  clear hW2 t1 tf o1
  generalize W2 = W at hb4 l1 hown ⊢
  obtain ⟨y0, y1, y2, y3, _, _, _, _⟩ := hb4.st
  obtain ⟨z0, z1, z2, z3, f0, f1, f2, f3⟩ := (hb3.le l1).st
  have k0 : (0 : Int) ≤ (k : Int) := by omega
  have k1 : (k : Int) < 4 := by omega
  have o1 := (hb2.le l1).op.2.1
  have x1 : W.cell? ⟨w.heap.size, k, none⟩ = some (slV (vs k)) := ((hb1.le l1).cell k).trans (cells4_at vs hk)
  have hnum := storeNumber (slV (vs k)) (s.at k) W.drew ((hr k hk).le ((hl.trans l1).trans (Le.drew _)))
  go_region_held3 (fun w' => w'.cell? ⟨w3.heap.size, 0, none⟩ = some (slV (us 0)) ∧ w'.cell? ⟨w3.heap.size, 1, none⟩ = some (slV (us 1)) ∧ w'.cell? ⟨w3.heap.size, 2, none⟩ = some (slV (us 2)) ∧ w'.cell? ⟨w3.heap.size, 3, none⟩ = some (slV (us 3)) ∧ w'.cell? ⟨w.heap.size + 1, 1, none⟩ = some (.int .i64 k) ∧ w'.cell? ⟨w.heap.size, k, none⟩ = some (slV (vs k))) (go_keep) ((go_at_call 125; refine hnum.mono ?_; rintro e w4 ⟨rfl, rfl⟩))
  all_goals
    go_wp2_with fail
    refine bodyPost_ret (v := .tuple #[stV us, .int .i64 (firstS (s.at k)), .int .i64 0]) (by simp [results, Tryz.results117, go_sem, z0, z1, z2, z3]) rfl ⟨_, rfl, ⟨us, rfl, fun i hi => ?_⟩, ?_⟩
    · exact ((hown i hi).le (Le.drew _)).set4 (hb3.le (l1.trans (Le.drew _))) (by decide) _ _ _ _
    · exact ((hl.trans l1).trans (Le.drew _)).set4 (by omega) _ _ _ _

end Go.Proofs.YtibleipfablniaaGreat

/-
  PLAIN GROUND: store.Apply's contract in one, and that what it answers can be copied. Condition: the state's rows can be copied.
-/
namespace Go.Proofs.YtibleipfablniaaGreat
open Go.RowKit

theorem stoS_no {s : St} {c r a er : Int} (h : (s.all rowMay1 && opMay c r a) = false) : stoS s c r a er = (St.zero, 0, er) := by simp [stoS, h]
theorem stoS_scan {s : St} {er : Int} (h : s.all rowMay1 = true) : stoS s 3 0 0 er = (s, sumTo s 4, 0) := by
  have : opMay 3 0 0 = true := by decide
  simp [stoS, h, this]
theorem stoS_look {s : St} {k : Nat} {er : Int} (h : s.all rowMay1 = true) (hk : k < 4) : stoS s 2 k 0 er = (s, firstS (s.at k), 0) := by
  have : opMay 2 k 0 = true := by simp [opMay]; omega
  simp [stoS, h, this]
theorem stoS_first {s : St} {k : Nat} {a er : Int} (h : s.all rowMay1 = true) (hk : k < 4) (ha : 0 ≤ a ∧ a ≤ 255) : stoS s 0 k a er = (s.put k [a], firstS (s.at k), 0) := by
  have : opMay 0 k a = true := by simp [opMay]; omega
  simp [stoS, h, this]
theorem stoS_second {s : St} {k : Nat} {a er : Int} (h : s.all rowMay1 = true) (hk : k < 4) (ha : 0 ≤ a ∧ a ≤ 255) : stoS s 1 k a er = (s.put k [], firstS (s.at k), 0) := by
  have : opMay 1 k a = true := by simp [opMay]; omega
  simp [stoS, h, this]

theorem storeApply (v : Value) (s : St) (c r a : Int) (w : World) (hx : HasS w v s) (hf : Fit s) :
    Calls Tryz.prog 117 #[v, opV c r a] w fun e w' => ∃ v', e = .returned (.tuple #[v', .int .i64 (stoS s c r a 300).2.1, .int .i64 (stoS s c r a 300).2.2]) ∧ OwnS w' w.heap.size v' (stoS s c r a 300).1 ∧ Le w w' := by
  cases h : s.all rowMay1 && opMay c r a
  · rw [stoS_no h]
    exact (storeApplyNo v s c r a w hx h).mono fun e w' ⟨he, hl⟩ => ⟨stZ, he, OwnS.zero _ _, hl⟩
  · obtain ⟨hm, ho⟩ := Bool.and_eq_true_iff.mp h
    rcases opMay_cases ho with ⟨k, hk, rfl, rfl, ha⟩ | ⟨k, hk, rfl, rfl, ha⟩ | ⟨k, hk, rfl, rfl, rfl⟩ | ⟨rfl, rfl, rfl⟩
    · rw [stoS_first hm hk ha]; exact storeApplyFirst v s k a w hx hf hm hk ha
    · rw [stoS_second hm hk ha]; exact storeApplySecond v s k a w hx hf hm hk ha
    · rw [stoS_look hm hk]; exact storeApplyLook v s k w hx hf hm hk
    · rw [stoS_scan hm]; exact storeApplyScan v s w hx hf hm

theorem Fit.sto {s : St} (h : Fit s) (c r a er : Int) : Fit (stoS s c r a er).1 := by
  cases hh : s.all rowMay1 && opMay c r a
  · rw [stoS_no hh]; exact fit_zero
  · obtain ⟨hm, ho⟩ := Bool.and_eq_true_iff.mp hh
    rcases opMay_cases ho with ⟨k, hk, rfl, rfl, ha⟩ | ⟨k, hk, rfl, rfl, ha⟩ | ⟨k, hk, rfl, rfl, rfl⟩ | ⟨rfl, rfl, rfl⟩
    · rw [stoS_first hm hk ha]; exact h.put hk (by simp)
    · rw [stoS_second hm hk ha]; exact h.put hk (by simp)
    · rw [stoS_look hm hk]; exact h
    · rw [stoS_scan hm]; exact h

end Go.Proofs.YtibleipfablniaaGreat

/-
  THE SHELF'S CONTRACTS OF slices.Insert AT []int, LAID AT THIS PROGRAM. No condition.
-/
namespace Go.Proofs.YtibleipfablniaaGreat
open Go.RowKit Go.Shelf

/-- The shelf's numbers of functions and types, and this program's. -/
def insRen : Ren where
  f := fun x => match x with
    | 21 => 137
    | 27 => 141
    | 28 => 142
    | 35 => 144
    | 39 => 145
    | x => x
  t := fun x => match x with
    | 3 => 3
    | 4 => 4
    | 22 => 51
    | x => x
  g := fun x => x

theorem insLays : Lays2.n21 Tryz.prog insRen where
  mixed := by kernel_rfl
  f21 := by kernel_rfl
  f27 := by kernel_rfl
  f28 := by kernel_rfl
  f35 := by kernel_rfl
  f39 := by kernel_rfl
  t0 := by kernel_rfl
  a0 := fun _ => by kernel_rfl
  z0 := fun _ => by kernel_rfl
  v0 := fun _ => by kernel_rfl
  t3 := by kernel_rfl
  a3 := fun _ => by kernel_rfl
  z3 := fun _ => by kernel_rfl
  v3 := fun _ => by kernel_rfl
  t4 := by kernel_rfl
  a4 := fun _ => by kernel_rfl
  z4 := fun _ => by kernel_rfl
  v4 := fun _ => by kernel_rfl
  t22 := by kernel_rfl
  a22 := fun _ => by kernel_rfl
  z22 := fun _ => by kernel_rfl
  v22 := fun _ => by kernel_rfl
  i3 := by kernel_rfl

end Go.Proofs.YtibleipfablniaaGreat

/-
  slices.Insert OF ONE NUMBER INTO A ROW OF THE CALL'S OWN: the row with that number at that place, in the row's own memory or in new memory, and nothing else turned. Condition: the place is within the row, and the row has at most a thousand numbers.
-/
namespace Go.Proofs.YtibleipfablniaaGreat
open Go.RowKit Go.Shelf

theorem grown_set (w : World) (g i : Nat) (v : Value) : w.grownBy (w.setCell ⟨g, i, none⟩ v) (some g) :=
  ⟨rfl, rfl, rfl, by simp, fun k _ hne => Below.heap_setCell _ _ _ _ (fun e => hne (by rw [e]))⟩

theorem grown_drew (w : World) (row : Option Nat) : w.grownBy w.drew row := ⟨rfl, rfl, rfl, Nat.le_refl _, fun _ _ _ => rfl⟩

theorem grown_sets (g : Nat) : ∀ (vs : List Value) (o : Nat) (w : World), w.grownBy (w.setCells g o vs) (some g)
  | [], _, _ => World.grownBy.refl _ _
  | v :: r, o, w => grownBy_trans (grown_set w g o v) (grown_sets g r (o + 1) _)

theorem Box.sets {g : Nat} {t : TypeId} : ∀ (vs : List Value) (o : Nat) (w : World) (cur : Array Value), Box w g cur t → ∃ cur' : Array Value, cur'.size = cur.size ∧ Box (w.setCells g o vs) g cur' t
  | [], _, _, cur, h => ⟨cur, rfl, h⟩
  | v :: r, o, w, cur, h => by
    obtain ⟨c, hc, hb⟩ := Box.sets r (o + 1) (w.setCell ⟨g, o, none⟩ v) _ (h.set o v)
    exact ⟨c, by rw [hc]; simp, hb⟩

/-- A row of the call's own, told by its cells. -/
theorem Own.ofCells {w : World} {base g n cap : Nat} {cur : Array Value} {xs : List Int} (hb : Box w g cur 3) (hg : base ≤ g) (hn : n = xs.length) (hc : n ≤ cap) (hm : cap ≤ maxLen) (hs : cur.size = cap)
    (hx : ∀ j, j < n → w.cell? ⟨g, j, none⟩ = some (.int .i64 (xs.getD j 0))) : Own w base (.slice (some ⟨g, 0, none⟩) n cap) xs := by
  subst hn
  refine ⟨by simp, .inr ⟨g, cap, cur, rfl, hg, hb, hc, hm, by simp [hs], ?_⟩⟩
  apply List.ext_getElem?
  intro j
  rw [Nat.mul_one, List.getElem?_take]
  by_cases hj : j < xs.length
  · have := hx j hj
    rw [hb.cell j] at this
    rw [if_pos hj, Array.getElem?_toList, this]
    simp [hj, List.getD]
  · rw [if_neg hj, List.getElem?_eq_none (by simpa using hj)]

theorem getD_ins {xs : List Int} {i : Nat} {x : Int} (hi : i ≤ xs.length) (j : Nat) : (xs.take i ++ x :: xs.drop i).getD j 0 = if j < i then xs.getD j 0 else if j = i then x else xs.getD (j - 1) 0 := by
  have hl : (xs.take i).length = i := by rw [List.length_take]; omega
  simp only [List.getD]
  by_cases h1 : j < i
  · rw [if_pos h1, List.getElem?_append_left (by omega), List.getElem?_take, if_pos h1]
  · rw [if_neg h1, List.getElem?_append_right (by omega), hl]
    by_cases h2 : j = i
    · rw [if_pos h2, h2]; simp
    · rw [if_neg h2]
      obtain ⟨d, rfl⟩ : ∃ d, j = i + d + 1 := ⟨j - i - 1, by omega⟩
      rw [show i + d + 1 - i = d + 1 by omega, List.getElem?_cons_succ, List.getElem?_drop, show i + d + 1 - 1 = i + d by omega]

theorem map_at {xs : List Int} {j : Nat} {v : Value} (h : (xs.map (Value.int .i64))[j]? = some v) : j < xs.length ∧ v = .int .i64 (xs.getD j 0) := by
  rw [List.getElem?_map] at h
  have hlt : j < xs.length := by
    rcases Nat.lt_or_ge j xs.length with h' | h'
    · exact h'
    · rw [List.getElem?_eq_none h'] at h; cases h
  refine ⟨hlt, ?_⟩
  rw [List.getElem?_eq_getElem hlt] at h
  simp at h
  rw [← h]
  simp [List.getD, hlt]

theorem oneCell_ints (xs : List Int) : ∀ v ∈ xs.map (Value.int .i64), v.oneCell' = true := by
  intro v hv
  obtain ⟨x, _, rfl⟩ := List.mem_map.mp hv
  rfl

theorem slicesInsert (v : Value) (base : Nat) (xs : List Int) (i : Nat) (x : Int) (vb : Nat) (w : World) (hown : Own w base v xs) (hbase : base ≤ w.heap.size) (hi : i ≤ xs.length) (hl : xs.length ≤ 1000)
    (hv : Box w vb #[.int .i64 x] 3) (hvb : v.ownBlock ≠ some vb) :
    Calls Tryz.prog 137 #[v, .int .i64 i, .slice (some ⟨vb, 0, none⟩) 1 1] w fun e w' => ∃ v', e = .returned v' ∧ Own w' base v' (xs.take i ++ x :: xs.drop i) ∧ w.grownBy w' v.ownBlock := by
  have hvs : ∀ j u, [Value.int .i64 x][j]? = some u → w.cell? ⟨vb, 0 + j, none⟩ = some u := by
    intro j u hj
    rw [Nat.zero_add, hv.cell j]
    cases j with
    | zero => simpa using hj
    | succ j => simp at hj
  have h1v : ∀ u ∈ [Value.int .i64 x], u.oneCell' = true := by intro u hu; simp at hu; subst hu; rfl
  have hlen : (xs.take i ++ x :: xs.drop i).length = xs.length + 1 := by simp; omega
  have hmap : (xs.map (Value.int .i64)).length = xs.length := by simp
  have hcell := hown.has
  by_cases hend : i = xs.length
  · subst hend
    have htd : xs.take xs.length ++ x :: xs.drop xs.length = xs ++ [x] := by simp
    -- at the end
    by_cases hroom : ∃ g cap cur, v = .slice (some ⟨g, 0, none⟩) xs.length cap ∧ base ≤ g ∧ Box w g cur 3 ∧ xs.length + 1 ≤ cap ∧ cap ≤ maxLen ∧ cur.size = cap
    · obtain ⟨g, cap, cur, rfl, hg, hb, hc, hm, hs⟩ := hroom
      have hm' : cap ≤ 9223372036854775807 := by unfold maxLen at hm; omega
      have hc0 : ∀ j, j < xs.length → w.cell? ⟨g, j, none⟩ = some (.int .i64 (xs.getD j 0)) := by
        intro j hj
        obtain ⟨a, c', hv', _, _, hx⟩ := hcell
        obtain ⟨b, off, ha, hx⟩ := hx (by omega)
        cases hv'
        cases ha
        simpa using hx j hj
      refine (Any2.slices_Insert_int_end_room insLays g 0 xs.length cap vb 0 1 1 [.int .i64 x] w (by omega) hc hm' rfl (fun j hj => ?_) (fun j _ => hb.frozen _) hvs h1v).mono ?_
      · rw [hb.cell, Array.getElem?_eq_getElem (by omega)]; rfl
      rintro e w' ⟨rfl, rfl⟩
      obtain ⟨cur', hs', hb'⟩ := hb.sets [.int .i64 x] (0 + xs.length) w
      refine ⟨_, rfl, Own.ofCells hb' hg (by rw [hlen]) hc hm (by omega) (fun j hj => ?_), grown_sets g _ _ w⟩
      rw [getD_ins (Nat.le_refl _)]
      by_cases hj' : j < xs.length
      · rw [if_pos hj', World.cell?_setCells_out _ _ _ _ _ (fun _ _ => by simp; omega)]
        exact hc0 j hj'
      · obtain rfl : j = xs.length := by omega
        have := World.cell?_setCells_in g [.int .i64 x] (0 + xs.length) w (fun j hj => by simp at hj; subst hj; rw [hb.cell, Array.getElem?_eq_getElem (by omega)]; rfl) 0 (by simp)
        simpa using this
    · -- no room
      have hsh : ∃ (a : Option Addr) (cap : Nat), v = .slice a xs.length cap ∧ xs.length ≤ cap ∧ cap < xs.length + 1 ∧ (a = none → xs.length = 0) := by
        rcases hown.2 with ⟨h2, h3⟩ | ⟨g, cap, cur, h2, hg, hb, hc, hm, hs, _⟩
        · exact ⟨none, 0, by rw [h3]; exact h2, by omega, by omega, fun _ => h3⟩
        · refine ⟨_, cap, h2, hc, ?_, fun h => by cases h⟩
          rcases Nat.lt_or_ge cap (xs.length + 1) with h | h
          · exact h
          · exact absurd ⟨g, cap, cur, h2, hg, hb, h, hm, by omega⟩ hroom
      obtain ⟨a, cap, rfl, hc, hc', hnil⟩ := hsh
      refine (Any2.slices_Insert_int_end_grow insLays a xs.length cap vb 0 1 1 (xs.map (Value.int .i64)) [.int .i64 x] w (by omega) hc hc' (by omega) hmap rfl hnil (fun ad ha j u hj => ?_) hvs h1v).mono ?_
      · subst ha; exact hcell.cells j u hj
      rintro e w' ⟨rfl, rfl⟩
      have hG := grownCap_ge w (xs.length + 1) cap 3
      have hGm := grownCap_le_maxLen w (xs.length + 1) cap 3 (by unfold maxLen; omega)
      generalize hGG : grownCap w (xs.length + 1) cap (insRen.t 3) = G
      rw [show grownCap w (xs.length + 1) cap 3 = G from hGG] at hG hGm
      obtain ⟨ROW, hROW⟩ : ∃ ROW : Array Value, ROW = (xs.map (Value.int .i64) ++ [Value.int .i64 x]).toArray ++ Builtin.zeroCells (Value.int .i64 0).cells (G - (xs.length + 1)) := ⟨_, rfl⟩
      rw [← hROW]
      have hb0 : Box (w.drew.alloc (.cells ROW (insRen.t 3))) w.heap.size ROW 3 := Box.new w.drew ROW 3
      refine ⟨_, rfl, Own.ofCells hb0 hbase (by rw [hlen]) hG hGm ?_ (fun j hj => ?_), grownBy_trans (grown_drew w _) (World.grownBy_alloc _ _ _)⟩
      · rw [hROW, Array.size_append, size_zeroCells]
        simp [Value.cells]
        omega
      · rw [htd, hb0.cell j, hROW]
        rw [Array.getElem?_append_left (by simp; omega)]
        simp only [List.getElem?_toArray, List.getD]
        rw [show xs.map (Value.int .i64) ++ [Value.int .i64 x] = (xs ++ [x]).map (Value.int .i64) by simp, List.getElem?_map, List.getElem?_eq_getElem (by simp; omega)]
        rfl
  · have hlt : i < xs.length := by omega
    obtain ⟨g, cap, cur, rfl, hg, hb, hc, hm, hs⟩ : ∃ g cap cur, v = .slice (some ⟨g, 0, none⟩) xs.length cap ∧ base ≤ g ∧ Box w g cur 3 ∧ xs.length ≤ cap ∧ cap ≤ maxLen ∧ cur.size = cap := by
      rcases hown.2 with ⟨h2, h3⟩ | ⟨g, cap, cur, h2, hg, hb, hc, hm, hs, _⟩
      · omega
      · exact ⟨g, cap, cur, h2, hg, hb, hc, hm, by omega⟩
    have hm' : cap ≤ 9223372036854775807 := by unfold maxLen at hm; omega
    have hc0 : ∀ j, j < xs.length → w.cell? ⟨g, j, none⟩ = some (.int .i64 (xs.getD j 0)) := by
      intro j hj
      obtain ⟨a, c', hv', _, _, hx⟩ := hcell
      obtain ⟨b, off, ha, hx⟩ := hx (by omega)
      cases hv'
      cases ha
      simpa using hx j hj
    have hcs : ∀ j u, (xs.map (Value.int .i64))[j]? = some u → w.cell? ⟨g, 0 + j, none⟩ = some u := by
      intro j u hj
      obtain ⟨h1, rfl⟩ := map_at hj
      rw [Nat.zero_add]
      exact hc0 j h1
    have hdl : ((xs.map (Value.int .i64)).drop i).length = xs.length - i := by simp
    have hdat : ∀ j (h : j < ((xs.map (Value.int .i64)).drop i).length), ((xs.map (Value.int .i64)).drop i)[j] = .int .i64 (xs.getD (i + j) 0) := by
      intro j h
      have hh : i + j < xs.length := by omega
      simp [List.getD, hh]
    by_cases hroom : xs.length + 1 ≤ cap
    · refine (Any2.slices_Insert_int_shift insLays g 0 xs.length cap i vb 0 1 1 (xs.map (Value.int .i64)) [.int .i64 x] w hlt (by omega) hroom hm' (fun e => hvb (by rw [e]; rfl)) hmap rfl hcs (fun j hj => ?_) (fun j _ => hb.frozen _) hvs (oneCell_ints xs) h1v 3 3 1 cap ?_ ?_ (by omega) (hv.frozen _) (hv.frozen _)).mono ?_
      · rw [hb.cell, Array.getElem?_eq_getElem (by omega)]; rfl
      · unfold World.shape?; rw [show w.heap[vb]? = _ from hv]; rfl
      · unfold World.shape?; rw [show w.heap[g]? = _ from hb]; simp [hs]
      rintro e w' ⟨rfl, rfl⟩
      have hbd : Box w.drew g cur 3 := hb
      obtain ⟨c1, hs1, hb1⟩ := hbd.sets ((xs.map (Value.int .i64)).drop i) (0 + (i + 1)) w.drew
      obtain ⟨c2, hs2, hb2⟩ := hb1.sets [.int .i64 x] (0 + i) _
      refine ⟨_, rfl, Own.ofCells hb2 hg (by rw [hlen]) hroom hm (by omega) (fun j hj => ?_), grownBy_trans (grownBy_trans (grown_drew w _) (grown_sets g _ _ _)) (grown_sets g _ _ _)⟩
      rw [getD_ins hi]
      by_cases h1 : j = i
      · subst h1
        have := World.cell?_setCells_in g [.int .i64 x] (0 + j) (w.drew.setCells g (0 + (j + 1)) ((xs.map (Value.int .i64)).drop j)) (fun t ht => by simp at ht; subst ht; rw [hb1.cell, Array.getElem?_eq_getElem (by omega)]; rfl) 0 (by simp)
        simpa using this
      · rw [World.cell?_setCells_out _ _ _ _ _ (fun _ _ => by simp; omega)]
        by_cases h2 : j < i
        · rw [if_pos h2, World.cell?_setCells_out _ _ _ _ _ (fun _ _ => by left; show j < 0 + (i + 1); omega)]
          exact hc0 j (by omega)
        · rw [if_neg h2, if_neg h1]
          obtain ⟨d, rfl⟩ : ∃ d, j = i + 1 + d := ⟨j - i - 1, by omega⟩
          have := World.cell?_setCells_in g ((xs.map (Value.int .i64)).drop i) (0 + (i + 1)) w.drew (fun t ht => by rw [hbd.cell, Array.getElem?_eq_getElem (by omega)]; rfl) d (by omega)
          rw [hdat d (by omega), Nat.zero_add] at this
          rw [Nat.zero_add, this, show i + 1 + d - 1 = i + d by omega]
    · have hgw : g < w.heap.size := hb.lt
      refine (Any2.slices_Insert_int_grow insLays g 0 xs.length cap i vb 0 1 1 (xs.map (Value.int .i64)) [.int .i64 x] w hlt (by omega) hc (by omega) (by omega) hmap rfl hcs hvs (oneCell_ints xs) h1v).mono ?_
      rintro e w' ⟨rfl, rfl⟩
      have hG := grownCap_ge w (xs.length + 1) cap 3
      have hGm := grownCap_le_maxLen w (xs.length + 1) cap 3 (by unfold maxLen; omega)
      generalize hGG : grownCap w (xs.length + 1) cap (insRen.t 3) = G
      rw [show grownCap w (xs.length + 1) cap 3 = G from hGG] at hG hGm
      obtain ⟨ROW, hROW⟩ : ∃ ROW : Array Value, ROW = ((xs.map (Value.int .i64)).take i).toArray ++ Builtin.zeroCells (Value.int .i64 0).cells (xs.length + 1 - i) ++ Builtin.zeroCells (Value.int .i64 0).cells (G - (xs.length + 1)) := ⟨_, rfl⟩
      rw [← hROW]
      have hRs : ROW.size = G := by
        rw [hROW, Array.size_append, Array.size_append, size_zeroCells, size_zeroCells]
        simp [Value.cells]
        omega
      have hRat : ∀ j, j < i → ROW[j]? = some (.int .i64 (xs.getD j 0)) := by
        intro j hj
        rw [hROW, Array.getElem?_append_left (by simp; omega), Array.getElem?_append_left (by simp; omega)]
        simp only [List.getElem?_toArray]
        rw [List.getElem?_take, if_pos hj, List.getElem?_map, List.getElem?_eq_getElem (by omega)]
        simp [List.getD, show j < xs.length by omega]
      clear hROW
      have hb0 : Box (w.alloc (.cells ROW (insRen.t 3))).drew w.heap.size ROW 3 := Box.new w ROW 3
      obtain ⟨c1, hs1, hb1⟩ := hb0.sets [.int .i64 x] i _
      have hb1' : Box (((w.alloc (.cells ROW (insRen.t 3))).drew.setCells w.heap.size i [.int .i64 x]).drew) w.heap.size c1 3 := hb1
      obtain ⟨c2, hs2, hb2⟩ := hb1'.sets ((xs.map (Value.int .i64)).drop i) (i + 1) _
      refine ⟨_, rfl, Own.ofCells hb2 hbase (by rw [hlen]) hG hGm (by omega) (fun j hj => ?_), ?_⟩
      · rw [getD_ins hi]
        by_cases h2 : j < i
        · rw [if_pos h2, World.cell?_setCells_out _ _ _ _ _ (fun _ _ => by left; show j < i + 1; omega)]
          show ((w.alloc (.cells ROW (insRen.t 3))).drew.setCells w.heap.size i [.int .i64 x]).cell? ⟨w.heap.size, j, none⟩ = _
          rw [World.cell?_setCells_out _ _ _ _ _ (fun _ _ => by left; exact h2), hb0.cell j]
          exact hRat j h2
        · rw [if_neg h2]
          by_cases h1 : j = i
          · subst h1
            rw [if_pos rfl, World.cell?_setCells_out _ _ _ _ _ (fun _ _ => by left; show j < j + 1; omega)]
            have := World.cell?_setCells_in w.heap.size [.int .i64 x] j (w.alloc (.cells ROW (insRen.t 3))).drew (fun t ht => by simp at ht; subst ht; rw [hb0.cell, Array.getElem?_eq_getElem (by omega)]; rfl) 0 (by simp)
            simpa using this
          · rw [if_neg h1]
            obtain ⟨d, rfl⟩ : ∃ d, j = i + 1 + d := ⟨j - i - 1, by omega⟩
            have := World.cell?_setCells_in w.heap.size ((xs.map (Value.int .i64)).drop i) (i + 1) (((w.alloc (.cells ROW (insRen.t 3))).drew.setCells w.heap.size i [.int .i64 x]).drew) (fun t ht => by rw [hb1'.cell, Array.getElem?_eq_getElem (by omega)]; rfl) d (by omega)
            rw [hdat d (by omega)] at this
            rw [this, show i + 1 + d - 1 = i + d by omega]
      · have l1 : Le w (((((w.alloc (.cells ROW (insRen.t 3))).drew.setCells w.heap.size i [.int .i64 x]).drew).setCells w.heap.size (i + 1) ((xs.map (Value.int .i64)).drop i))) :=
          Below.grown (Below.grown ((Le.alloc w _).trans (Le.drew _)) (grownBy_trans (grown_sets w.heap.size [.int .i64 x] i _) (grown_drew _ _)) (by simp) (fun g e => by cases e; exact Nat.le_refl _)) (grown_sets w.heap.size _ _ _) (Nat.le_trans (show w.heap.size ≤ (w.alloc (.cells ROW (insRen.t 3))).drew.heap.size by simp) (grown_sets w.heap.size [.int .i64 x] i (w.alloc (.cells ROW (insRen.t 3))).drew).size) (fun g e => by cases e; exact Nat.le_refl _)
        exact ⟨l1.os, l1.tape, l1.output, l1.size, fun k hk _ => l1.block k hk⟩

end Go.Proofs.YtibleipfablniaaGreat

/-
  PLAIN GROUND AND THE WALKS over package fds' mayRow, free, put, and over slices.Index at []int: what each answers, for every row. Condition: at put, that the row is the call's own and may be a table's.
-/
namespace Go.Proofs.YtibleipfablniaaGreat
open Go.RowKit

/-- Do the numbers rise, above l, below 4? -/
def riseFrom (l : Int) : List Int → Bool
  | [] => true
  | x :: r => decide (l < x) && decide (x < 4) && riseFrom x r
/-- May a row be a table's? -/
def rowMay2 (xs : List Int) : Bool := riseFrom (-1) xs

/-- The rows whose numbers rise from 4 - k on. -/
def rowsAbove : Nat → List (List Int)
  | 0 => [[]]
  | k + 1 => rowsAbove k ++ (rowsAbove k).map (List.cons (3 - (k : Int)))

theorem nil_above : ∀ k, ([] : List Int) ∈ rowsAbove k
  | 0 => by simp [rowsAbove]
  | k + 1 => by simp [rowsAbove, nil_above k]

theorem rise_above : ∀ (k : Nat) (l : Int) (xs : List Int), 3 - (k : Int) ≤ l → riseFrom l xs = true → xs ∈ rowsAbove k
  | 0, _, [], _, _ => by simp [rowsAbove]
  | 0, l, x :: r, hl, h => by simp [riseFrom] at h; omega
  | k + 1, _, [], _, _ => nil_above _
  | k + 1, l, x :: r, hl, h => by
    simp only [riseFrom, Bool.and_eq_true, decide_eq_true_eq] at h
    obtain ⟨⟨h1, h2⟩, h3⟩ := h
    rw [rowsAbove, List.mem_append]
    by_cases e : x = 3 - k
    · right
      subst e
      exact List.mem_map.mpr ⟨r, rise_above k _ r (Int.le_refl _) h3, rfl⟩
    · left
      refine rise_above k (3 - k) (x :: r) (Int.le_refl _) ?_
      simp only [riseFrom, Bool.and_eq_true, decide_eq_true_eq]
      exact ⟨⟨by omega, h2⟩, h3⟩

/-- There are sixteen rows that may be a table's. -/
theorem rowMay2_mem {xs : List Int} (h : rowMay2 xs = true) : xs ∈ rowsAbove 4 := rise_above 4 (-1) xs (by omega) h

theorem rows_len : ∀ xs ∈ rowsAbove 4, xs.length ≤ 4 := by decide
theorem rowMay2_len {xs : List Int} (h : rowMay2 xs = true) : xs.length ≤ 4 := rows_len xs (rowMay2_mem h)

/-- The first place, from i on, that does not hold its own number. -/
def freeFrom (i : Int) : List Int → Int
  | [] => i
  | x :: r => if x = i then freeFrom (i + 1) r else i
/-- The least number that is free. -/
def freeS (xs : List Int) : Int := freeFrom 0 xs
/-- The place of a number, counted from i; else -1. -/
def idxFrom (i : Int) (a : Int) : List Int → Int
  | [] => -1
  | x :: r => if a = x then i else idxFrom (i + 1) a r
def idxS (xs : List Int) (a : Int) : Int := idxFrom 0 a xs

theorem freeFrom_bounds : ∀ (i : Int) (xs : List Int), i ≤ freeFrom i xs ∧ freeFrom i xs ≤ i + xs.length
  | i, [] => by simp [freeFrom]
  | i, x :: r => by
    have := freeFrom_bounds (i + 1) r
    simp only [freeFrom, List.length_cons]
    split <;> omega
theorem idxFrom_bounds (a : Int) : ∀ (i : Int) (xs : List Int), idxFrom i a xs = -1 ∨ (i ≤ idxFrom i a xs ∧ idxFrom i a xs < i + xs.length)
  | i, [] => by simp [idxFrom]
  | i, x :: r => by
    have := idxFrom_bounds a (i + 1) r
    simp only [idxFrom, List.length_cons]
    split <;> omega

/-- The row with the least number that is free; that number, or -1. -/
def putS (xs : List Int) : List Int × Int := if 4 ≤ freeS xs then (xs, -1) else (xs.take (freeS xs).toNat ++ freeS xs :: xs.drop (freeS xs).toNat, freeS xs)
/-- The row without a number; 1, or 0 if it was not there. -/
def takeS (xs : List Int) (a : Int) : List Int × Int := if idxS xs a < 0 then (xs, 0) else (xs.take (idxS xs a).toNat ++ xs.drop ((idxS xs a).toNat + 1), 1)

set_option maxHeartbeats 400000 in
theorem fdsMayRow (v : Value) (xs : List Int) (w : World) (hx : Has w v xs) :
    Calls Tryz.prog 126 #[v] w fun e w' => e = .returned (.bool (rowMay2 xs)) ∧ w = w' := by
  obtain ⟨a, cap, rfl, hc, _, hx⟩ := hx
  obtain ⟨n, hn⟩ : ∃ n, n = xs.length := ⟨_, rfl⟩
  rw [← hn] at hc hx ⊢
  have HN : Hid (n = xs.length) := hn
  clear hn
  go_enter Tryz.func126, Tryz.ntmps126
  go_wp2
  go_loop [3, 8] (fun l i => ∃ (k : Nat) (y : Int), k ≤ n ∧ (k : Int) ≤ y + 1 ∧ y < 4 ∧ i = .int .i64 k ∧ l = .int .i64 y ∧ Hid (rowMay2 xs = riseFrom y (xs.drop k))) (fun _ i => n - (intOf i).toNat)
  case atStart => exact ⟨0, -1, by omega, by omega, by omega, rfl, rfl, hid (by simp [rowMay2])⟩
  case round =>
    obtain ⟨k, y, hk, hy1, hy2, rfl, rfl, HR⟩ := hrel
    by_cases hlt : k < n
    · obtain ⟨b, off, rfl, hcell⟩ := hx (by omega)
      have c0 := hcell k hlt
      have hd := HR.out
      rw [drop_at (by have := HN.out; omega)] at hd
      obtain ⟨x, hxk⟩ : ∃ x, x = xs.getD k 0 := ⟨_, rfl⟩
      rw [← hxk] at c0 hd
      simp only [riseFrom] at hd
      have k0 : (0 : Int) ≤ (k : Int) := by omega
      have k1 : (k : Int) < (n : Int) := by omega
      by_cases h1 : y < x
      · by_cases h2 : x < 4
        · have HD : Hid (rowMay2 xs = riseFrom x (xs.drop (k + 1))) := hid (by rw [hd]; simp [h1, h2])
          clear hd hxk hcell hx HR
          go_wp2
          go_round
          case rel => exact ⟨k + 1, x, by omega, by omega, by omega, by go_num, rfl, HD⟩
          case measure => simp [intOf]; omega
        · have HD : Hid (rowMay2 xs = false) := hid (by rw [hd]; simp [h2])
          clear hd hxk hcell hx HR
          go_wp2
          go_ret
          exact ⟨ret_bool HD.out.symm, rfl⟩
      · have HD : Hid (rowMay2 xs = false) := hid (by rw [hd]; simp [h1])
        clear hd hxk hcell hx HR
        go_wp2
        go_ret
        exact ⟨ret_bool HD.out.symm, rfl⟩
    · obtain rfl : k = n := by omega
      have HD : Hid (rowMay2 xs = true) := hid (by have := HR.out; rw [List.drop_eq_nil_of_le (by have := HN.out; omega)] at this; exact this)
      go_wp2
      go_ret
      exact ⟨ret_bool HD.out.symm, rfl⟩

set_option maxHeartbeats 400000 in
theorem fdsFree (v : Value) (xs : List Int) (w : World) (hx : Has w v xs) (hl : xs.length ≤ 1000) :
    Calls Tryz.prog 136 #[v] w fun e w' => e = .returned (.int .i64 (freeS xs)) ∧ w = w' := by
  obtain ⟨a, cap, rfl, hc, _, hx⟩ := hx
  obtain ⟨n, hn⟩ : ∃ n, n = xs.length := ⟨_, rfl⟩
  rw [← hn] at hc hx hl ⊢
  have HN : Hid (n = xs.length) := hn
  clear hn
  go_enter Tryz.func136, Tryz.ntmps136
  go_wp2
  go_loop [7] (fun i => ∃ k : Nat, k ≤ n ∧ i = .int .i64 k ∧ Hid (freeS xs = freeFrom k (xs.drop k))) (fun i => n - (intOf i).toNat)
  case atStart => exact ⟨0, by omega, rfl, hid (by simp [freeS])⟩
  case round =>
    obtain ⟨k, hk, rfl, HR⟩ := hrel
    by_cases hlt : k < n
    · obtain ⟨b, off, rfl, hcell⟩ := hx (by omega)
      have c0 := hcell k hlt
      have hd := HR.out
      rw [drop_at (by have := HN.out; omega)] at hd
      obtain ⟨x, hxk⟩ : ∃ x, x = xs.getD k 0 := ⟨_, rfl⟩
      rw [← hxk] at c0 hd
      simp only [freeFrom] at hd
      have k0 : (0 : Int) ≤ (k : Int) := by omega
      have k1 : (k : Int) < (n : Int) := by omega
      by_cases h1 : x = k
      · have HD : Hid (freeS xs = freeFrom ((k + 1 : Nat) : Int) (xs.drop (k + 1))) := hid (by rw [hd]; simp [h1])
        clear hd hxk hcell hx HR
        go_wp2
        go_round
        case rel => exact ⟨k + 1, by omega, by go_num, HD⟩
        case measure => simp [intOf]; omega
      · have HD : Hid (freeS xs = k) := hid (by rw [hd]; simp [h1])
        clear hd hxk hcell hx HR
        go_wp2
        go_ret
        exact ⟨by rw [HD.out]; rfl, rfl⟩
    · obtain rfl : k = n := by omega
      have HD : Hid (freeS xs = k) := hid (by have := HR.out; rw [List.drop_eq_nil_of_le (by have := HN.out; omega)] at this; exact this)
      go_wp2
      go_ret
      exact ⟨by rw [HD.out]; rfl, rfl⟩

set_option maxHeartbeats 400000 in
theorem slicesIndex (v : Value) (xs : List Int) (x0 : Int) (w : World) (hx : Has w v xs) (hl : xs.length ≤ 1000) :
    Calls Tryz.prog 138 #[v, .int .i64 x0] w fun e w' => e = .returned (.int .i64 (idxS xs x0)) ∧ w = w' := by
  obtain ⟨a, cap, rfl, hc, _, hx⟩ := hx
  obtain ⟨n, hn⟩ : ∃ n, n = xs.length := ⟨_, rfl⟩
  rw [← hn] at hc hx hl ⊢
  have HN : Hid (n = xs.length) := hn
  clear hn
  go_enter Tryz.func138, Tryz.ntmps138
  go_wp2
  go_loop [8] (fun i => ∃ k : Nat, k ≤ n ∧ i = .int .i64 k ∧ Hid (idxS xs x0 = idxFrom k x0 (xs.drop k))) (fun i => n - (intOf i).toNat)
  case atStart => exact ⟨0, by omega, rfl, hid (by simp [idxS])⟩
  case round =>
    obtain ⟨k, hk, rfl, HR⟩ := hrel
    by_cases hlt : k < n
    · obtain ⟨b, off, rfl, hcell⟩ := hx (by omega)
      have c0 := hcell k hlt
      have hd := HR.out
      rw [drop_at (by have := HN.out; omega)] at hd
      obtain ⟨x, hxk⟩ : ∃ x, x = xs.getD k 0 := ⟨_, rfl⟩
      rw [← hxk] at c0 hd
      simp only [idxFrom] at hd
      have k0 : (0 : Int) ≤ (k : Int) := by omega
      have k1 : (k : Int) < (n : Int) := by omega
      by_cases h1 : x0 = x
      · subst h1
        have HD : Hid (idxS xs x0 = k) := hid (by rw [hd]; simp)
        clear hd hxk hcell hx HR
        go_wp2
        go_ret
        exact ⟨by rw [HD.out]; rfl, rfl⟩
      · have HD : Hid (idxS xs x0 = idxFrom ((k + 1 : Nat) : Int) x0 (xs.drop (k + 1))) := hid (by rw [hd]; simp [h1])
        clear hd hxk hcell hx HR
        go_wp2
        go_round
        case rel => exact ⟨k + 1, by omega, by go_num, HD⟩
        case measure => simp [intOf]; omega
    · obtain rfl : k = n := by omega
      have HD : Hid (idxS xs x0 = -1) := hid (by have := HR.out; rw [List.drop_eq_nil_of_le (by have := HN.out; omega)] at this; exact this)
      go_wp2
      go_ret
      exact ⟨by rw [HD.out]; rfl, rfl⟩

set_option maxHeartbeats 400000 in
theorem fdsPut (v : Value) (base : Nat) (xs : List Int) (a : Int) (w : World) (hown : Own w base v xs) (hbase : base ≤ w.heap.size) (hl : xs.length ≤ 1000) :
    Calls Tryz.prog 128 #[v, .int .i64 a] w fun e w' => ∃ v', e = .returned (.tuple #[v', .int .i64 (putS xs).2]) ∧ Own w' base v' (putS xs).1 ∧ w.grownBy w' v.ownBlock := by
  have hfree := fdsFree v xs w hown.has hl
  obtain ⟨b0, b1⟩ := freeFrom_bounds 0 xs
  rw [show freeFrom 0 xs = freeS xs from rfl] at b0 b1
  by_cases h4 : 4 ≤ freeS xs
  · have HP : Hid (putS xs = (xs, -1)) := hid (by simp [putS, h4])
    go_enter Tryz.func128, Tryz.ntmps128
    go_wp2_with fail
    refine hfree.mono ?_
    rintro e w1 ⟨rfl, rfl⟩
    go_wp2
    go_ret2
    rw [HP.out]
    exact ⟨_, rfl, hown, World.grownBy.refl _ _⟩
  · have HP : Hid (putS xs = (xs.take (freeS xs).toNat ++ freeS xs :: xs.drop (freeS xs).toNat, freeS xs)) := hid (by simp [putS, h4])
    obtain ⟨i, hi⟩ : ∃ i : Nat, freeS xs = i := ⟨(freeS xs).toNat, by omega⟩
    rw [hi] at h4 hfree b0 b1
    have hnb : v.ownBlock ≠ some w.heap.size := fun e => by have := (hown.block e).2; omega
    have hins := slicesInsert v base xs i i w.heap.size (w.alloc (.cells #[.int .i64 i] 3)) (hown.le (Le.alloc _ _)) (by simp; omega) (by omega) hl (Box.new w _ _) hnb
    go_enter Tryz.func128, Tryz.ntmps128
    go_wp2_with fail
    refine hfree.mono ?_
    rintro e w1 ⟨rfl, rfl⟩
    go_wp2_with fail
    refine hins.mono ?_
    rintro e w2 ⟨v', rfl, ho, hg⟩
    go_wp2
    go_ret2
    rw [HP.out, hi]
    exact ⟨_, rfl, ho, grownBy_trans (World.grownBy_alloc _ _ _) hg⟩

end Go.Proofs.YtibleipfablniaaGreat

/-
  PLAIN GROUND: an append of numbers to a row of the call's own, inside a statement that draws its order. Condition: that the bytes are within the reach that every row bears.
-/
namespace Go.Proofs.YtibleipfablniaaGreat
open Go.RowKit

/-- An append of a slice of numbers to one of the call's own, as one step of a region that draws its order. -/
theorem step_append_ints {ops : Array Oper} {o : Oper} {a : Act} {K : Act → World → Prop} {Q : Exit → Act → World → Prop} {E : Prop} {w : World} (hgd : o.guard = none) (s x : Operand)
    (ho : o.op = .call { callee := .builtin .append, args := #[s, x], argTypes := #[51, 51] }) (base : Nat) (v u : Value) (xs ys : List Int)
    (hs : a.eval s = v) (hx : a.eval x = u) (hown : Own w base v xs) (hu : Has w u ys) (hr : (xs.length + ys.length) * 8 ≤ 140737488355328) (hbase : base ≤ w.heap.size)
    (h : ∀ v' w', Own w' base v' (xs ++ ys) → w.grownBy w' v.ownBlock → K (a.put o.dst v') w') :
    if Region.wanted o (yielded ops a.tmps) = true then Oper.wp Tryz.prog o a w K Q else E := by
  have hw : Region.wanted o (yielded ops a.tmps) = true := by simp [Region.wanted, hgd]
  rw [if_pos hw]
  obtain ⟨i0, hi, hz0, hz1, hz2⟩ := info_parts info3
  have hu0 := hu
  obtain ⟨ad, cap, rfl, hc, hn, _⟩ := hu
  cases ad with
  | none =>
    have h0 := hn rfl
    have hnil : ys = [] := by cases ys with | nil => rfl | cons _ _ => simp at hc; omega
    subst hnil h0
    have hrun := run_append_owned_none (P := Tryz.prog) (w := w) base 51 o.type 3 i0 1 Tryz.underlying51 hi v _ _ hown
    unfold Oper.wp
    simp only [List.length_nil] at hx
    simp [execOp, ho, resolve, invoke, builtin, hs, hx, hrun, Result.andThen]
    exact h _ _ (by simpa using hown) (World.grownBy.refl _ _)
  | some ad =>
    refine wp_append_own w s x 51 ho base 3 i0 (.int .i64 0) 1 8 Tryz.underlying51 hi hz0 hz1 hz2 rfl (by decide) v _ _ hs hown ad ys.length cap (ys.map (Value.int .i64)) hx (by simp) hu0.cells (ints_oneCell _ _) (by unfold maxLen; omega) hr hbase ?_
    intro v' w' h1 h2 _
    exact h _ _ (Own.of h1 (by simp) (by simp)) h2

end Go.Proofs.YtibleipfablniaaGreat

/-
  PLAIN GROUND, NO WALK: a state with another row, again and again. No condition.
-/
namespace Go.Proofs.YtibleipfablniaaGreat

theorem St.put_put {s : St} {k : Nat} {x y : List Int} : (s.put k x).put k y = s.put k y := by
  match k with
  | 0 => rfl
  | 1 => rfl
  | 2 => rfl
  | _ + 3 => rfl
theorem St.zero_put {k : Nat} : St.zero.put k [] = St.zero := by
  unfold St.put; split <;> rfl
theorem St.put_at {s : St} {k : Nat} (hk : k < 4) {x : List Int} : (s.put k x).at k = x := by
  rw [St.at_put hk hk]; simp
theorem St.put_same {s : St} {k : Nat} (hk : k < 4) : s.put k (s.at k) = s :=
  St.ext_at fun i hi => by rw [St.at_put hk hi]; split <;> simp_all
theorem fit_small {s : St} (h : s.r0.length ≤ 100 ∧ s.r1.length ≤ 100 ∧ s.r2.length ≤ 100 ∧ s.r3.length ≤ 100) : Fit s := by
  intro i hi
  rcases four hi with rfl | rfl | rfl | rfl <;> simp only [St.at] <;> omega

end Go.Proofs.YtibleipfablniaaGreat

/-
  THE WALKS over package states' Counted: the state that an operation makes, and its answer, for every two functions that make another row of one, in the call's own memory. Condition: the state's rows can be copied, and are short.
-/
namespace Go.Proofs.YtibleipfablniaaGreat
open Go.RowKit

/-- The function f makes the row F of a row of the call's own, and answers a number; nothing else turns. -/
structure TurnsRow (f : Nat) (F : List Int → Int → List Int × Int) : Prop where
  enter : ∀ (u x : Value) (w : World), (callFunc f #[u, x]).run Tryz.prog w = .ok (.enter f #[u, x]) w
  calls : ∀ (v : Value) (base : Nat) (xs : List Int) (a : Int) (w : World), Own w base v xs → base ≤ w.heap.size → xs.length ≤ 4 → 0 ≤ a ∧ a ≤ 255 →
    Calls Tryz.prog f #[v, .int .i64 a] w fun e w' => ∃ v', e = .returned (.tuple #[v', .int .i64 (F xs a).2]) ∧ Own w' base v' (F xs a).1 ∧ w.grownBy w' v.ownBlock

theorem Le.grownBy {w w' : World} (h : Le w w') (row : Option Nat) : w.grownBy w' row := ⟨h.os, h.tape, h.output, h.size, fun k hk _ => h.block k hk⟩

set_option maxHeartbeats 2000000 in
theorem countedFirst (f g : Nat) (F : List Int → Int → List Int × Int) (hF : TurnsRow f F) (v : Value) (s : St) (k : Nat) (a : Int) (w : World) (hx : HasS w v s) (hf : Fit s) (hlen : ∀ j, j < 4 → (s.at j).length ≤ 4) (hk : k < 4) (ha : 0 ≤ a ∧ a ≤ 255) :
    Calls Tryz.prog 127 #[v, opV 0 k a, .func (.func f) #[] #[], .func (.func g) #[] #[]] w fun e w' => ∃ v', e = .returned (.tuple #[v', .int .i64 (F (s.at k) a).2]) ∧ OwnS w' w.heap.size v' (s.put k (F (s.at k) a).1) ∧ Le w w' := by
  have hx0 := hx
  obtain ⟨vs, rfl, hr⟩ := hx
  have hl := ((Le.alloc w (.cells (cells4 vs) 54)).trans (Le.alloc _ (.cells #[.int .i64 0, .int .i64 k, .int .i64 a] 48))).trans (Le.alloc _ (.cells (cells4 fun _ => slZ) 54))
  have hb2 := (Box.new (w.alloc (.cells (cells4 vs) 54)) #[.int .i64 0, .int .i64 k, .int .i64 a] 48).le (Le.alloc _ (.cells (cells4 fun _ => slZ) 54))
  have hb3 := Box.new ((w.alloc (.cells (cells4 vs) 54)).alloc (.cells #[.int .i64 0, .int .i64 k, .int .i64 a] 48)) (cells4 fun _ => slZ) 54
  simp only [World.size_alloc] at hb2 hb3
  go_enter Tryz.func127, Tryz.ntmps127
  go_wp2_with fail
  refine (statesCopy (stV vs) s _ (hx0.le hl) hf).mono ?_
  rintro e w3 ⟨us, rfl, hown, hap, l1⟩
  replace hown := fun i hi => (hown i hi).base (base' := w.heap.size + 1 + 1 + 1) (by simp)
  have n0 : w.heap.size + 1 + 1 < w3.heap.size := (hb3.le l1).lt
  have n1 : ¬ w.heap.size + 1 + 1 = w3.heap.size := by omega
  have n2 : ¬ w.heap.size + 1 + 1 = w.heap.size := by omega
  have n3 : ¬ w.heap.size + 1 + 1 = w.heap.size + 1 := by omega
  have n4 : ¬ w.heap.size + 1 = w3.heap.size := by omega
  have n5 : ¬ w3.heap.size = w.heap.size + 1 := by omega
  have hb4 := Box.new w3 (cells4 us) 54
  replace l1 := l1.trans (Le.alloc w3 (.cells (cells4 us) 54))
  replace hown := fun i hi => (hown i hi).le (Le.alloc w3 (.cells (cells4 us) 54))
  go_upto_region 2 with fail
  generalize hW : w3.alloc (.cells (cells4 us) 54) = W at hb4 l1 hown ⊢
  clear hW
  have o0 := (hb2.le l1).op.1
  have o1 := (hb2.le l1).op.2.1
  have o2 := (hb2.le l1).op.2.2.1
  have t1 : W.cell? ⟨w3.heap.size, k, none⟩ = some (slV (us k)) := (hb4.cell k).trans (cells4_at us hk)
  have k0 : (0 : Int) ≤ ((k : Nat) : Int) := by omega
  have k1 : ((k : Nat) : Int) < 4 := by omega
  have hcall := hF.calls (slV (us k)) (w.heap.size + 1 + 1 + 1) (s.at k) a W (hown k hk) (by have := l1.size; simpa using this) (hlen k hk) ha
  have hin := hF.enter
  go_wp2_with fail
  refine hcall.mono ?_
  rintro e w4 ⟨v', rfl, ho, hg⟩
  obtain ⟨q, rfl⟩ := ho.has.sl
  have hb5 : Box w4 w3.heap.size (cells4 us) 54 := Box.grown hb4 hg (fun e => (hown k hk).apart hb4 (by decide) e)
  have l5 : Le _ w4 := Below.grown l1 hg l1.size (fun g e => by have := ((hown k hk).block e).1; simpa using this)
  clear o0 o1 o2 t1 hcall hin
  have p1 := (hb2.le l5).op.2.1
  have c5 : w4.cell? ⟨w3.heap.size, k, none⟩ = some (slV (us k)) := (hb5.cell k).trans (cells4_at us hk)
  have f5 := hb5.frozen k
  have hown5 : ∀ i, i < 4 → Own (w4.setCell ⟨w3.heap.size, k, none⟩ (slV q)) (w.heap.size + 1 + 1 + 1) (slV (upd us k q i)) ((s.put k (F (s.at k) a).1).at i) := by
    intro i hi
    rw [St.at_put hk hi]
    by_cases e : i = k
    · rw [if_pos e, show upd us k q i = q by simp [upd, e]]; exact ho.setBox hb5 (by decide)
    · rw [if_neg e, show upd us k q i = us i by simp [upd, e]]; exact ((hown i hi).grown hg (fun g e1 e2 => hap i k hi hk e g e1 e2)).setBox hb5 (by decide)
  have hb6 := hb5.set k (slV q)
  rw [cells4_upd us hk] at hb6
  have l6 : Le _ (w4.setCell ⟨w3.heap.size, k, none⟩ (slV q)) := Below.setCell l5 (by simp only [World.size_alloc]; show w.heap.size + 1 + 1 + 1 ≤ w3.heap.size; omega) _
  go_upto_region 13 with fail
  generalize hW2 : w4.setCell ⟨w3.heap.size, k, none⟩ (slV q) = W2 at hb6 l6 hown5 ⊢
  generalize upd us k q = us' at hb6 hown5
  clear hW2 p1 c5 f5
  obtain ⟨y0, y1, y2, y3, _, _, _, _⟩ := hb6.st
  obtain ⟨z0, z1, z2, z3, f0, f1, f2, f3⟩ := (hb3.le l6).st
  go_wp2_with fail
  refine bodyPost_ret (v := .tuple #[stV us', .int .i64 (F (s.at k) a).2]) (by simp [results, Tryz.results127, go_sem, z0, z1, z2, z3]) rfl ⟨_, rfl, ⟨us', rfl, fun i hi => ?_⟩, ?_⟩
  · exact ((hown5 i hi).base (by omega)).set4 (hb3.le l6) (by decide) _ _ _ _
  · exact (hl.trans l6).set4 (by omega) _ _ _ _

set_option maxHeartbeats 2000000 in
theorem countedSecond (f g : Nat) (G : List Int → Int → List Int × Int) (hG : TurnsRow g G) (v : Value) (s : St) (k : Nat) (a : Int) (w : World) (hx : HasS w v s) (hf : Fit s) (hlen : ∀ j, j < 4 → (s.at j).length ≤ 4) (hk : k < 4) (ha : 0 ≤ a ∧ a ≤ 255) :
    Calls Tryz.prog 127 #[v, opV 1 k a, .func (.func f) #[] #[], .func (.func g) #[] #[]] w fun e w' => ∃ v', e = .returned (.tuple #[v', .int .i64 (G (s.at k) a).2]) ∧ OwnS w' w.heap.size v' (s.put k (G (s.at k) a).1) ∧ Le w w' := by
  have hx0 := hx
  obtain ⟨vs, rfl, hr⟩ := hx
  have hl := ((Le.alloc w (.cells (cells4 vs) 54)).trans (Le.alloc _ (.cells #[.int .i64 1, .int .i64 k, .int .i64 a] 48))).trans (Le.alloc _ (.cells (cells4 fun _ => slZ) 54))
  have hb2 := (Box.new (w.alloc (.cells (cells4 vs) 54)) #[.int .i64 1, .int .i64 k, .int .i64 a] 48).le (Le.alloc _ (.cells (cells4 fun _ => slZ) 54))
  have hb3 := Box.new ((w.alloc (.cells (cells4 vs) 54)).alloc (.cells #[.int .i64 1, .int .i64 k, .int .i64 a] 48)) (cells4 fun _ => slZ) 54
  simp only [World.size_alloc] at hb2 hb3
  go_enter Tryz.func127, Tryz.ntmps127
  go_wp2_with fail
  refine (statesCopy (stV vs) s _ (hx0.le hl) hf).mono ?_
  rintro e w3 ⟨us, rfl, hown, hap, l1⟩
  replace hown := fun i hi => (hown i hi).base (base' := w.heap.size + 1 + 1 + 1) (by simp)
  have n0 : w.heap.size + 1 + 1 < w3.heap.size := (hb3.le l1).lt
  have n1 : ¬ w.heap.size + 1 + 1 = w3.heap.size := by omega
  have n2 : ¬ w.heap.size + 1 + 1 = w.heap.size := by omega
  have n3 : ¬ w.heap.size + 1 + 1 = w.heap.size + 1 := by omega
  have n4 : ¬ w.heap.size + 1 = w3.heap.size := by omega
  have n5 : ¬ w3.heap.size = w.heap.size + 1 := by omega
  have hb4 := Box.new w3 (cells4 us) 54
  replace l1 := l1.trans (Le.alloc w3 (.cells (cells4 us) 54))
  replace hown := fun i hi => (hown i hi).le (Le.alloc w3 (.cells (cells4 us) 54))
  go_upto_region 2 with fail
  generalize hW : w3.alloc (.cells (cells4 us) 54) = W at hb4 l1 hown ⊢
  clear hW
  have o0 := (hb2.le l1).op.1
  have o1 := (hb2.le l1).op.2.1
  have o2 := (hb2.le l1).op.2.2.1
  have t1 : W.cell? ⟨w3.heap.size, k, none⟩ = some (slV (us k)) := (hb4.cell k).trans (cells4_at us hk)
  have k0 : (0 : Int) ≤ ((k : Nat) : Int) := by omega
  have k1 : ((k : Nat) : Int) < 4 := by omega
  have hcall := hG.calls (slV (us k)) (w.heap.size + 1 + 1 + 1) (s.at k) a W (hown k hk) (by have := l1.size; simpa using this) (hlen k hk) ha
  have hin := hG.enter
  go_wp2_with fail
  refine hcall.mono ?_
  rintro e w4 ⟨v', rfl, ho, hg⟩
  obtain ⟨q, rfl⟩ := ho.has.sl
  have hb5 : Box w4 w3.heap.size (cells4 us) 54 := Box.grown hb4 hg (fun e => (hown k hk).apart hb4 (by decide) e)
  have l5 : Le _ w4 := Below.grown l1 hg l1.size (fun g e => by have := ((hown k hk).block e).1; simpa using this)
  clear o0 o1 o2 t1 hcall hin
  have p1 := (hb2.le l5).op.2.1
  have c5 : w4.cell? ⟨w3.heap.size, k, none⟩ = some (slV (us k)) := (hb5.cell k).trans (cells4_at us hk)
  have f5 := hb5.frozen k
  have hown5 : ∀ i, i < 4 → Own (w4.setCell ⟨w3.heap.size, k, none⟩ (slV q)) (w.heap.size + 1 + 1 + 1) (slV (upd us k q i)) ((s.put k (G (s.at k) a).1).at i) := by
    intro i hi
    rw [St.at_put hk hi]
    by_cases e : i = k
    · rw [if_pos e, show upd us k q i = q by simp [upd, e]]; exact ho.setBox hb5 (by decide)
    · rw [if_neg e, show upd us k q i = us i by simp [upd, e]]; exact ((hown i hi).grown hg (fun g e1 e2 => hap i k hi hk e g e1 e2)).setBox hb5 (by decide)
  have hb6 := hb5.set k (slV q)
  rw [cells4_upd us hk] at hb6
  have l6 : Le _ (w4.setCell ⟨w3.heap.size, k, none⟩ (slV q)) := Below.setCell l5 (by simp only [World.size_alloc]; show w.heap.size + 1 + 1 + 1 ≤ w3.heap.size; omega) _
  go_upto_region 13 with fail
  generalize hW2 : w4.setCell ⟨w3.heap.size, k, none⟩ (slV q) = W2 at hb6 l6 hown5 ⊢
  generalize upd us k q = us' at hb6 hown5
  clear hW2 p1 c5 f5
  obtain ⟨y0, y1, y2, y3, _, _, _, _⟩ := hb6.st
  obtain ⟨z0, z1, z2, z3, f0, f1, f2, f3⟩ := (hb3.le l6).st
  go_wp2_with fail
  refine bodyPost_ret (v := .tuple #[stV us', .int .i64 (G (s.at k) a).2]) (by simp [results, Tryz.results127, go_sem, z0, z1, z2, z3]) rfl ⟨_, rfl, ⟨us', rfl, fun i hi => ?_⟩, ?_⟩
  · exact ((hown5 i hi).base (by omega)).set4 (hb3.le l6) (by decide) _ _ _ _
  · exact (hl.trans l6).set4 (by omega) _ _ _ _

set_option maxHeartbeats 2000000 in
theorem countedLook (f g : Nat) (v : Value) (s : St) (k : Nat) (w : World) (hx : HasS w v s) (hf : Fit s) (_hlen : ∀ j, j < 4 → (s.at j).length ≤ 4) (hk : k < 4) :
    Calls Tryz.prog 127 #[v, opV 2 k 0, .func (.func f) #[] #[], .func (.func g) #[] #[]] w fun e w' => ∃ v', e = .returned (.tuple #[v', .int .i64 ((s.at k).length : Int)]) ∧ OwnS w' w.heap.size v' (s) ∧ Le w w' := by
  have hx0 := hx
  obtain ⟨vs, rfl, hr⟩ := hx
  have hl := ((Le.alloc w (.cells (cells4 vs) 54)).trans (Le.alloc _ (.cells #[.int .i64 2, .int .i64 k, .int .i64 0] 48))).trans (Le.alloc _ (.cells (cells4 fun _ => slZ) 54))
  have hb2 := (Box.new (w.alloc (.cells (cells4 vs) 54)) #[.int .i64 2, .int .i64 k, .int .i64 0] 48).le (Le.alloc _ (.cells (cells4 fun _ => slZ) 54))
  have hb3 := Box.new ((w.alloc (.cells (cells4 vs) 54)).alloc (.cells #[.int .i64 2, .int .i64 k, .int .i64 0] 48)) (cells4 fun _ => slZ) 54
  simp only [World.size_alloc] at hb2 hb3
  go_enter Tryz.func127, Tryz.ntmps127
  go_wp2_with fail
  refine (statesCopy (stV vs) s _ (hx0.le hl) hf).mono ?_
  rintro e w3 ⟨us, rfl, hown, hap, l1⟩
  replace hown := fun i hi => (hown i hi).base (base' := w.heap.size + 1 + 1 + 1) (by simp)
  have n0 : w.heap.size + 1 + 1 < w3.heap.size := (hb3.le l1).lt
  have n1 : ¬ w.heap.size + 1 + 1 = w3.heap.size := by omega
  have n2 : ¬ w.heap.size + 1 + 1 = w.heap.size := by omega
  have n3 : ¬ w.heap.size + 1 + 1 = w.heap.size + 1 := by omega
  have n4 : ¬ w.heap.size + 1 = w3.heap.size := by omega
  have n5 : ¬ w3.heap.size = w.heap.size + 1 := by omega
  have hb4 := Box.new w3 (cells4 us) 54
  replace l1 := l1.trans (Le.alloc w3 (.cells (cells4 us) 54))
  replace hown := fun i hi => (hown i hi).le (Le.alloc w3 (.cells (cells4 us) 54))
  go_upto_region 2 with fail
  generalize hW : w3.alloc (.cells (cells4 us) 54) = W at hb4 l1 hown ⊢
  clear hW
  have o0 := (hb2.le l1).op.1
  have o1 := (hb2.le l1).op.2.1
  have o2 := (hb2.le l1).op.2.2.1
  have t1 : W.cell? ⟨w3.heap.size, k, none⟩ = some (slV (us k)) := (hb4.cell k).trans (cells4_at us hk)
  have k0 : (0 : Int) ≤ ((k : Nat) : Int) := by omega
  have k1 : ((k : Nat) : Int) < 4 := by omega
  have hle : (us k).2.1 = (s.at k).length := by
    obtain ⟨ad, cap, e, _⟩ := (hown k hk).has
    simp only [Value.slice.injEq] at e
    exact e.2.1
  have p1 := o1
  have c5 := t1
  have f5 := hb4.frozen k
  have hb5 := hb4
  have l5 := l1
  have ho := hown k hk
  have hg : W.grownBy W none := World.grownBy.refl _ _
  have hap : ∀ i j : Nat, i < 4 → j < 4 → i ≠ j → ∀ g : Nat, (slV (us i)).ownBlock = some g → (none : Option Nat) ≠ some g := fun _ _ _ _ _ _ _ h => by cases h
  have HLE : Hid ((us k).2.1 = (s.at k).length) := hle
  clear hle
  generalize hq : us k = q at ho t1 c5 HLE ⊢
  obtain ⟨w4, hw4⟩ : ∃ w4, w4 = W := ⟨_, rfl⟩
  subst hw4
  have hown5 : ∀ i, i < 4 → Own (w4.setCell ⟨w3.heap.size, k, none⟩ (slV q)) (w.heap.size + 1 + 1 + 1) (slV (upd us k q i)) ((s.put k (s.at k)).at i) := by
    intro i hi
    rw [St.at_put hk hi]
    by_cases e : i = k
    · rw [if_pos e, show upd us k q i = q by simp [upd, e]]; exact ho.setBox hb5 (by decide)
    · rw [if_neg e, show upd us k q i = us i by simp [upd, e]]; exact ((hown i hi).grown hg (fun g e1 e2 => hap i k hi hk e g e1 e2)).setBox hb5 (by decide)
  have hb6 := hb5.set k (slV q)
  rw [cells4_upd us hk] at hb6
  have l6 : Le _ (w4.setCell ⟨w3.heap.size, k, none⟩ (slV q)) := Below.setCell l5 (by simp only [World.size_alloc]; show w.heap.size + 1 + 1 + 1 ≤ w3.heap.size; omega) _
  go_upto_region 13 with fail
  generalize hW2 : w4.setCell ⟨w3.heap.size, k, none⟩ (slV q) = W2 at hb6 l6 hown5 ⊢
  generalize upd us k q = us' at hb6 hown5
  clear hW2 p1 c5 f5
  obtain ⟨y0, y1, y2, y3, _, _, _, _⟩ := hb6.st
  obtain ⟨z0, z1, z2, z3, f0, f1, f2, f3⟩ := (hb3.le l6).st
  go_wp2_with fail
  refine bodyPost_ret (v := .tuple #[stV us', .int .i64 (q.2.1 : Int)]) (by simp [results, Tryz.results127, go_sem, z0, z1, z2, z3]) rfl ⟨stV us', by rw [HLE.out], ⟨us', rfl, fun i hi => ?_⟩, ?_⟩
  · rw [← St.put_same (s := s) hk]; exact ((hown5 i hi).base (by omega)).set4 (hb3.le l6) (by decide) _ _ _ _
  · exact (hl.trans l6).set4 (by omega) _ _ _ _

set_option maxHeartbeats 2000000 in
theorem countedScan (f g : Nat) (v : Value) (s : St) (w : World) (hx : HasS w v s) (hf : Fit s) (hlen : ∀ j, j < 4 → (s.at j).length ≤ 4) :
    Calls Tryz.prog 127 #[v, opV 3 0 0, .func (.func f) #[] #[], .func (.func g) #[] #[]] w fun e w' => ∃ v', e = .returned (.tuple #[v', .int .i64 (manyTo s 4)]) ∧ OwnS w' w.heap.size v' (s) ∧ Le w w' := by
  have hk : (0 : Nat) < 4 := by omega
  have hx0 := hx
  obtain ⟨vs, rfl, hr⟩ := hx
  have hl := ((Le.alloc w (.cells (cells4 vs) 54)).trans (Le.alloc _ (.cells #[.int .i64 3, .int .i64 0, .int .i64 0] 48))).trans (Le.alloc _ (.cells (cells4 fun _ => slZ) 54))
  have hb2 := (Box.new (w.alloc (.cells (cells4 vs) 54)) #[.int .i64 3, .int .i64 0, .int .i64 0] 48).le (Le.alloc _ (.cells (cells4 fun _ => slZ) 54))
  have hb3 := Box.new ((w.alloc (.cells (cells4 vs) 54)).alloc (.cells #[.int .i64 3, .int .i64 0, .int .i64 0] 48)) (cells4 fun _ => slZ) 54
  simp only [World.size_alloc] at hb2 hb3
  go_enter Tryz.func127, Tryz.ntmps127
  go_wp2_with fail
  refine (statesCopy (stV vs) s _ (hx0.le hl) hf).mono ?_
  rintro e w3 ⟨us, rfl, hown, hap, l1⟩
  replace hown := fun i hi => (hown i hi).base (base' := w.heap.size + 1 + 1 + 1) (by simp)
  have n0 : w.heap.size + 1 + 1 < w3.heap.size := (hb3.le l1).lt
  have n1 : ¬ w.heap.size + 1 + 1 = w3.heap.size := by omega
  have n2 : ¬ w.heap.size + 1 + 1 = w.heap.size := by omega
  have n3 : ¬ w.heap.size + 1 + 1 = w.heap.size + 1 := by omega
  have n4 : ¬ w.heap.size + 1 = w3.heap.size := by omega
  have n5 : ¬ w3.heap.size = w.heap.size + 1 := by omega
  have hb4 := Box.new w3 (cells4 us) 54
  replace l1 := l1.trans (Le.alloc w3 (.cells (cells4 us) 54))
  replace hown := fun i hi => (hown i hi).le (Le.alloc w3 (.cells (cells4 us) 54))
  go_upto_region 2 with fail
  generalize hW : w3.alloc (.cells (cells4 us) 54) = W at hb4 l1 hown ⊢
  clear hW
  have o0 := (hb2.le l1).op.1
  have o1 := (hb2.le l1).op.2.1
  have o2 := (hb2.le l1).op.2.2.1
  have t1 : W.cell? ⟨w3.heap.size, 0, none⟩ = some (slV (us 0)) := (hb4.cell 0).trans (cells4_at us hk)
  have k0 : (0 : Int) ≤ ((0 : Nat) : Int) := by omega
  have k1 : ((0 : Nat) : Int) < 4 := by omega
  obtain ⟨x0, x1, x2, x3, _, _, _, _⟩ := hb4.st
  have hcount := statesCount (stV us) s W (OwnS.has ⟨us, rfl, hown⟩) (fun j hj => by have := hlen j hj; omega)
  go_wp2_with fail
  refine hcount.mono ?_
  rintro e w4 ⟨rfl, l4⟩
  have hb5 := hb4.le l4
  have l5 := l1.trans l4
  have ho := (hown 0 hk).le l4
  have hg := l4.grownBy none
  have hap : ∀ i j : Nat, i < 4 → j < 4 → i ≠ j → ∀ g : Nat, (slV (us i)).ownBlock = some g → (none : Option Nat) ≠ some g := fun _ _ _ _ _ _ _ h => by cases h
  clear o0 o1 o2 t1 x0 x1 x2 x3 hcount
  have p1 := (hb2.le l5).op.2.1
  have c5 : w4.cell? ⟨w3.heap.size, 0, none⟩ = some (slV (us 0)) := (hb5.cell 0).trans (cells4_at us hk)
  have f5 := hb5.frozen 0
  generalize hq : us 0 = q at ho c5 ⊢
  have hown5 : ∀ i, i < 4 → Own (w4.setCell ⟨w3.heap.size, 0, none⟩ (slV q)) (w.heap.size + 1 + 1 + 1) (slV (upd us 0 q i)) ((s.put 0 (s.at 0)).at i) := by
    intro i hi
    rw [St.at_put hk hi]
    by_cases e : i = 0
    · rw [if_pos e, show upd us 0 q i = q by simp [upd, e]]; exact ho.setBox hb5 (by decide)
    · rw [if_neg e, show upd us 0 q i = us i by simp [upd, e]]; exact ((hown i hi).grown hg (fun g e1 e2 => hap i 0 hi hk e g e1 e2)).setBox hb5 (by decide)
  have hb6 := hb5.set 0 (slV q)
  rw [cells4_upd us hk] at hb6
  have l6 : Le _ (w4.setCell ⟨w3.heap.size, 0, none⟩ (slV q)) := Below.setCell l5 (by simp only [World.size_alloc]; show w.heap.size + 1 + 1 + 1 ≤ w3.heap.size; omega) _
  go_upto_region 13 with fail
  generalize hW2 : w4.setCell ⟨w3.heap.size, 0, none⟩ (slV q) = W2 at hb6 l6 hown5 ⊢
  generalize upd us 0 q = us' at hb6 hown5
  clear hW2 p1 c5 f5
  obtain ⟨y0, y1, y2, y3, _, _, _, _⟩ := hb6.st
  obtain ⟨z0, z1, z2, z3, f0, f1, f2, f3⟩ := (hb3.le l6).st
  go_wp2_with fail
  refine bodyPost_ret (v := .tuple #[stV us', .int .i64 (manyTo s 4)]) (by simp [results, Tryz.results127, go_sem, z0, z1, z2, z3]) rfl ⟨_, rfl, ⟨us', rfl, fun i hi => ?_⟩, ?_⟩
  · rw [← St.put_same (s := s) hk]; exact ((hown5 i hi).base (by omega)).set4 (hb3.le l6) (by decide) _ _ _ _
  · exact (hl.trans l6).set4 (by omega) _ _ _ _

/-- What an operation that may be makes of a state, where looks and scans count. -/
def cntY (F G : List Int → Int → List Int × Int) (s : St) (c r a : Int) : St × Int :=
  if c = 3 then (s, manyTo s 4)
  else if c = 2 then (s, ((s.at r.toNat).length : Int))
  else if c = 1 then (s.put r.toNat (G (s.at r.toNat) a).1, (G (s.at r.toNat) a).2)
  else (s.put r.toNat (F (s.at r.toNat) a).1, (F (s.at r.toNat) a).2)

/-- .. the document's answer: the state, the answer, the error. -/
def cntS (p : List Int → Bool) (F G : List Int → Int → List Int × Int) (s : St) (c r a e : Int) : St × Int × Int :=
  if s.all p && opMay c r a then ((cntY F G s c r a).1, (cntY F G s c r a).2, 0) else (St.zero, 0, e)

theorem countedAll (f g : Nat) (F G : List Int → Int → List Int × Int) (hF : TurnsRow f F) (hG : TurnsRow g G) (v : Value) (s : St) (c r a : Int) (w : World) (hx : HasS w v s) (hf : Fit s) (hlen : ∀ j, j < 4 → (s.at j).length ≤ 4) (ho : opMay c r a = true) :
    Calls Tryz.prog 127 #[v, opV c r a, .func (.func f) #[] #[], .func (.func g) #[] #[]] w fun e w' => ∃ v', e = .returned (.tuple #[v', .int .i64 (cntY F G s c r a).2]) ∧ OwnS w' w.heap.size v' (cntY F G s c r a).1 ∧ Le w w' := by
  rcases opMay_cases ho with ⟨k, hk, rfl, rfl, ha⟩ | ⟨k, hk, rfl, rfl, ha⟩ | ⟨k, hk, rfl, rfl, rfl⟩ | ⟨rfl, rfl, rfl⟩
  · exact countedFirst f g F hF v s k a w hx hf hlen hk ha
  · exact countedSecond f g G hG v s k a w hx hf hlen hk ha
  · exact countedLook f g v s k w hx hf hlen hk
  · exact countedScan f g v s w hx hf hlen

theorem cntS_no {p : List Int → Bool} {F G : List Int → Int → List Int × Int} {s : St} {c r a er : Int} (h : (s.all p && opMay c r a) = false) : cntS p F G s c r a er = (St.zero, 0, er) := by simp [cntS, h]
theorem cntS_yes {p : List Int → Bool} {F G : List Int → Int → List Int × Int} {s : St} {c r a er : Int} (h : (s.all p && opMay c r a) = true) : cntS p F G s c r a er = ((cntY F G s c r a).1, (cntY F G s c r a).2, 0) := by simp [cntS, h]
theorem cntS_scan {p : List Int → Bool} {F G : List Int → Int → List Int × Int} {s : St} {er : Int} (h : s.all p = true) : cntS p F G s 3 0 0 er = (s, manyTo s 4, 0) := by
  have : opMay 3 0 0 = true := by decide
  simp [cntS, cntY, h, this]
theorem cntS_look {p : List Int → Bool} {F G : List Int → Int → List Int × Int} {s : St} {k : Nat} {er : Int} (h : s.all p = true) (hk : k < 4) : cntS p F G s 2 k 0 er = (s, ((s.at k).length : Int), 0) := by
  have : opMay 2 k 0 = true := by simp [opMay]; omega
  simp [cntS, cntY, h, this]
theorem cntS_first {p : List Int → Bool} {F G : List Int → Int → List Int × Int} {s : St} {k : Nat} {a er : Int} (h : s.all p = true) (hk : k < 4) (ha : 0 ≤ a ∧ a ≤ 255) : cntS p F G s 0 k a er = (s.put k (F (s.at k) a).1, (F (s.at k) a).2, 0) := by
  have : opMay 0 k a = true := by simp [opMay]; omega
  simp [cntS, cntY, h, this]
theorem cntS_second {p : List Int → Bool} {F G : List Int → Int → List Int × Int} {s : St} {k : Nat} {a er : Int} (h : s.all p = true) (hk : k < 4) (ha : 0 ≤ a ∧ a ≤ 255) : cntS p F G s 1 k a er = (s.put k (G (s.at k) a).1, (G (s.at k) a).2, 0) := by
  have : opMay 1 k a = true := by simp [opMay]; omega
  simp [cntS, cntY, h, this]

end Go.Proofs.YtibleipfablniaaGreat

/-
  THE WALK over fds.take: the row without a number, in memory of its own. Condition: the row is the call's own, and has at most a thousand numbers.
-/
namespace Go.Proofs.YtibleipfablniaaGreat
open Go.RowKit

set_option maxHeartbeats 1000000 in
theorem fdsTake (v : Value) (base : Nat) (xs : List Int) (a0 : Int) (w : World) (hown : Own w base v xs) (hbase : base ≤ w.heap.size) (hl : xs.length ≤ 1000) :
    Calls Tryz.prog 129 #[v, .int .i64 a0] w fun e w' => ∃ v', e = .returned (.tuple #[v', .int .i64 (takeS xs a0).2]) ∧ Own w' base v' (takeS xs a0).1 ∧ Le w w' := by
  have hidx := slicesIndex v xs a0 w hown.has hl
  have hb := idxFrom_bounds a0 0 xs
  rw [show idxFrom 0 a0 xs = idxS xs a0 from rfl] at hb
  by_cases h4 : idxS xs a0 < 0
  · have HP : Hid (takeS xs a0 = (xs, 0)) := hid (by simp [takeS, h4])
    clear hb
    go_enter Tryz.func129, Tryz.ntmps129
    go_wp2_with fail
    refine hidx.mono ?_
    rintro e w1 ⟨rfl, rfl⟩
    go_wp2
    go_ret2
    rw [HP.out]
    exact ⟨_, rfl, hown, Le.refl _⟩
  · have HP : Hid (takeS xs a0 = (xs.take (idxS xs a0).toNat ++ xs.drop ((idxS xs a0).toNat + 1), 1)) := hid (by simp [takeS, h4])
    obtain ⟨i, hi⟩ : ∃ i : Nat, idxS xs a0 = i := ⟨(idxS xs a0).toNat, by omega⟩
    rw [hi] at h4 hidx hb
    rw [show Hid (takeS xs a0 = (xs.take (idxS xs a0).toNat ++ xs.drop ((idxS xs a0).toNat + 1), 1)) = Hid (takeS xs a0 = (xs.take i ++ xs.drop (i + 1), 1)) by rw [hi]; rfl] at HP
    have hlt : i < xs.length := by omega
    obtain ⟨ad, cap, rfl, hc, _, hx⟩ := hown.has
    obtain ⟨b, off, rfl, hcell⟩ := hx (by omega)
    obtain ⟨n, hn⟩ : ∃ n, n = xs.length := ⟨_, rfl⟩
    have hA : Has w (.slice (some ⟨b, off, none⟩) i cap) (xs.take i) := by
      refine ⟨_, cap, by rw [List.length_take, Nat.min_eq_left (by omega)], by rw [List.length_take]; omega, (fun h => by cases h), fun _ => ⟨b, off, rfl, fun j hj => ?_⟩⟩
      rw [List.length_take] at hj
      rw [hcell j (by omega)]
      simp [List.getD, show j < i by omega]
    obtain ⟨A, hAe, hB⟩ : ∃ A, (if cap = i + 1 then some ⟨b, off, none⟩ else some ⟨b, off + (i + 1), none⟩ : Option Addr) = A ∧ Has w (.slice A (n - (i + 1)) (cap - (i + 1))) (xs.drop (i + 1)) := by
      refine ⟨_, rfl, _, _, by rw [List.length_drop, ← hn], by rw [List.length_drop]; omega, (fun h => by split at h <;> cases h), fun hp => ?_⟩
      rw [List.length_drop] at hp
      rw [if_neg (by omega)]
      refine ⟨b, off + (i + 1), rfl, fun j hj => ?_⟩
      rw [List.length_drop] at hj
      rw [getD_drop, Nat.add_assoc, hcell (i + 1 + j) (by omega)]
    have HN : Hid (n = xs.length) := hn
    have hown0 := hown
    rw [← hn] at hc hlt hidx ⊢
    clear hx hcell hb hown hn h4
    have i0 : (0 : Int) ≤ (i : Int) := by omega
    have i1 : (i : Int) < (n : Int) := by omega
    have i2 : (i : Int) + 1 ≤ (n : Int) := by omega
    have i3 : i ≤ cap := by omega
    have i4 : i + 1 ≤ n := by omega
    have i5 : (i : Int) ≤ (cap : Int) := by omega
    have i6 : ((i : Int) + 1).toNat = i + 1 := by omega
    have i7 : IntKind.i64.wrap ((i : Int) + 1) = (i : Int) + 1 := by rw [IntKind.wrap_i64]; have := HN.out; omega
    have i8 : (0 : Int) ≤ (i : Int) + 1 := by omega
    go_enter Tryz.func129, Tryz.ntmps129
    go_wp2_with fail
    refine hidx.mono ?_
    rintro e w1 ⟨rfl, rfl⟩
    go_wp2_with fail
    go_region_law (first
      | (refine step_append_ints rfl (.const (.slice none 0 0)) (.tmp 15) rfl w.heap.size (.slice none 0 0) (.slice (some ⟨b, off, none⟩) i cap) [] (xs.take i) (by simp [Act.eval]) (by simp [Act.eval, Act.put]) (Own.nil _ _) hA (by simp; omega) (Nat.le_refl _) ?_; intro v1 w1 o1 g1)
      | (refine step_append_ints rfl (.tmp 16) (.tmp 20) rfl w.heap.size v1 (.slice A (n - (i + 1)) (cap - (i + 1))) _ (xs.drop (i + 1)) (by simp [Act.eval]) (by simp [Act.eval]) o1 (hB.le (Below.grown (Le.drew w) g1 (Nat.le_refl _) (fun g e => by cases e))) (by simp; omega) g1.size ?_; intro v2 w2 o2 g2))
    all_goals
      go_wp2
      go_ret2
      rw [HP.out]
      rw [List.nil_append] at o2
      exact ⟨_, rfl, o2.base hbase, Below.grown (Below.grown (Le.drew w) g1 (Nat.le_refl _) (fun g e => by cases e)) g2 g1.size (fun g e => (o1.block e).1)⟩

theorem fdsPutT : TurnsRow 128 (fun xs _ => putS xs) :=
  ⟨fun _ _ _ => by kernel_rfl, fun v base xs a w ho hb hl _ => fdsPut v base xs a w ho hb (by omega)⟩
theorem fdsTakeT : TurnsRow 129 takeS :=
  ⟨fun _ _ _ => by kernel_rfl, fun v base xs a w ho hb hl _ => (fdsTake v base xs a w ho hb (by omega)).mono fun _ _ ⟨v', he, h1, h2⟩ => ⟨v', he, h1, h2.grownBy _⟩⟩

end Go.Proofs.YtibleipfablniaaGreat

/-
  THE WALK over fds.Apply: what it answers, for every state and operation, and that what it hands back lies in memory of its own. Condition: the state's rows can be copied.
-/
namespace Go.Proofs.YtibleipfablniaaGreat
open Go.RowKit

theorem fdsMay (v : Value) (s : St) (w : World) (hx : HasS w v s) :
    Calls Tryz.prog 121 #[v, .func (.func 126) #[] #[]] w fun e w' => e = .returned (.bool (s.all rowMay2)) ∧ Le w w' :=
  statesMay 126 rowMay2 (fun _ _ => by kernel_rfl) fdsMayRow v s w hx

/-- The document's answer: the state, the answer, the error. -/
def fdsS (s : St) (c r a e : Int) : St × Int × Int := cntS rowMay2 (fun xs _ => putS xs) takeS s c r a e

set_option maxHeartbeats 2000000 in
theorem fdsApplyNo (v : Value) (s : St) (c r a : Int) (w : World) (hx : HasS w v s) (h : (s.all rowMay2 && opMay c r a) = false) :
    Calls Tryz.prog 118 #[v, opV c r a] w fun e w' => e = .returned (.tuple #[stZ, .int .i64 0, .int .i64 400]) ∧ Le w w' := by
  have hx0 := hx
  obtain ⟨vs, rfl, hr⟩ := hx
  have hl := ((Le.alloc w (.cells (cells4 vs) 54)).trans (Le.alloc _ (.cells #[.int .i64 c, .int .i64 r, .int .i64 a] 48))).trans (Le.alloc _ (.cells (cells4 fun _ => slZ) 54))
  have hb1 := ((Box.new w (cells4 vs) 54).le (Le.alloc _ (.cells #[.int .i64 c, .int .i64 r, .int .i64 a] 48))).le (Le.alloc _ (.cells (cells4 fun _ => slZ) 54))
  have hb2 := (Box.new (w.alloc (.cells (cells4 vs) 54)) #[.int .i64 c, .int .i64 r, .int .i64 a] 48).le (Le.alloc _ (.cells (cells4 fun _ => slZ) 54))
  have hb3 := Box.new ((w.alloc (.cells (cells4 vs) 54)).alloc (.cells #[.int .i64 c, .int .i64 r, .int .i64 a] 48)) (cells4 fun _ => slZ) 54
  simp only [World.size_alloc] at hb1 hb2 hb3
  have hmay := fdsMay (stV vs) s _ (hx0.le hl)
  cases hm : s.all rowMay2
  · rw [hm] at hmay
    go_enter Tryz.func118, Tryz.ntmps118
    go_wp2_with fail
    refine hmay.mono ?_
    rintro e w1 ⟨rfl, l1⟩
    obtain ⟨z0, z1, z2, z3, f0, f1, f2, f3⟩ := (hb3.le l1).st
    go_wp2_with fail
    refine bodyPost_ret (v := .tuple #[stZ, .int .i64 0, .int .i64 400]) (by simp [results, Tryz.results118, go_sem, z0, z1, z2, z3]) rfl ⟨rfl, ?_⟩
    exact (hl.trans l1).set4 (by omega) _ _ _ _
  · have hop : opMay c r a = false := by simpa [hm] using h
    rw [hm] at hmay
    go_enter Tryz.func118, Tryz.ntmps118
    go_wp2_with fail
    refine hmay.mono ?_
    rintro e w1 ⟨rfl, l1⟩
    obtain ⟨y0, y1, y2, _, _, _⟩ := (hb2.le l1).op
    go_wp2_with fail
    refine (operMay _ _ _ _).mono ?_
    rw [hop]
    rintro e w2 ⟨rfl, l2⟩
    obtain ⟨z0, z1, z2, z3, f0, f1, f2, f3⟩ := ((hb3.le l1).le l2).st
    go_wp2_with fail
    refine bodyPost_ret (v := .tuple #[stZ, .int .i64 0, .int .i64 400]) (by simp [results, Tryz.results118, go_sem, z0, z1, z2, z3]) rfl ⟨rfl, ?_⟩
    exact ((hl.trans l1).trans l2).set4 (by omega) _ _ _ _

set_option maxHeartbeats 2000000 in
theorem fdsApplyYes (v : Value) (s : St) (c r a : Int) (w : World) (hx : HasS w v s) (hf : Fit s) (hm : s.all rowMay2 = true) (hop : opMay c r a = true) :
    Calls Tryz.prog 118 #[v, opV c r a] w fun e w' => ∃ v', e = .returned (.tuple #[v', .int .i64 (cntY (fun xs _ => putS xs) takeS s c r a).2, .int .i64 0]) ∧ OwnS w' w.heap.size v' (cntY (fun xs _ => putS xs) takeS s c r a).1 ∧ Le w w' := by
  have hx0 := hx
  obtain ⟨vs, rfl, hr⟩ := hx
  have hl := ((Le.alloc w (.cells (cells4 vs) 54)).trans (Le.alloc _ (.cells #[.int .i64 c, .int .i64 r, .int .i64 a] 48))).trans (Le.alloc _ (.cells (cells4 fun _ => slZ) 54))
  have hb1 := ((Box.new w (cells4 vs) 54).le (Le.alloc _ (.cells #[.int .i64 c, .int .i64 r, .int .i64 a] 48))).le (Le.alloc _ (.cells (cells4 fun _ => slZ) 54))
  have hb2 := (Box.new (w.alloc (.cells (cells4 vs) 54)) #[.int .i64 c, .int .i64 r, .int .i64 a] 48).le (Le.alloc _ (.cells (cells4 fun _ => slZ) 54))
  have hb3 := Box.new ((w.alloc (.cells (cells4 vs) 54)).alloc (.cells #[.int .i64 c, .int .i64 r, .int .i64 a] 48)) (cells4 fun _ => slZ) 54
  simp only [World.size_alloc] at hb1 hb2 hb3
  have hmay := fdsMay (stV vs) s _ (hx0.le hl)
  rw [hm] at hmay
  go_enter Tryz.func118, Tryz.ntmps118
  go_wp2_with fail
  refine hmay.mono ?_
  rintro e w1 ⟨rfl, l1⟩
  obtain ⟨y0, y1, y2, _, _, _⟩ := (hb2.le l1).op
  clear hmay
  go_wp2_with fail
  refine (operMay _ _ _ _).mono ?_
  rw [hop]
  rintro e w2 ⟨rfl, l2⟩
  replace l1 := l1.trans l2
  clear l2 y0 y1 y2
  obtain ⟨x0, x1, x2, x3, _, _, _, _⟩ := (hb1.le l1).st
  obtain ⟨y0, y1, y2, _, _, _⟩ := (hb2.le l1).op
  go_wp2_with fail
  refine (countedAll 128 129 (fun xs _ => putS xs) takeS fdsPutT fdsTakeT (stV vs) s c r a _ (hx0.le (hl.trans l1)) hf (fun j hj => rowMay2_len (St.all_at hm hj)) hop).mono ?_
  obtain ⟨Y, hY⟩ : ∃ Y, Y = cntY (fun xs _ => putS xs) takeS s c r a := ⟨_, rfl⟩
  rw [← hY]
  have HY : Hid (Y = cntY (fun xs _ => putS xs) takeS s c r a) := hY
  clear hY
  rintro e w3 ⟨_, rfl, ⟨us, rfl, hown⟩, l3⟩
  replace hown := fun i hi => (hown i hi).base (base' := w.heap.size) (hl.trans l1).size
  replace l1 := l1.trans l3
  clear l3 y0 y1 y2 x0 x1 x2 x3
  have n0 : w.heap.size + 1 + 1 < w3.heap.size := (hb3.le l1).lt
  have n1 : ¬ w.heap.size + 1 + 1 = w3.heap.size := by omega
  have hb4 := Box.new w3 (cells4 us) 54
  replace l1 := l1.trans (Le.alloc w3 (.cells (cells4 us) 54))
  replace hown := fun i hi => (hown i hi).le (Le.alloc w3 (.cells (cells4 us) 54))
  go_upto_region 4 with fail
  generalize hW : w3.alloc (.cells (cells4 us) 54) = W at hb4 l1 hown ⊢
  clear hW
  obtain ⟨y0, y1, y2, y3, _, _, _, _⟩ := hb4.st
  obtain ⟨z0, z1, z2, z3, f0, f1, f2, f3⟩ := (hb3.le l1).st
  go_wp2_with fail
  refine bodyPost_ret (v := .tuple #[stV us, .int .i64 Y.2, .int .i64 0]) (by simp [results, Tryz.results118, go_sem, z0, z1, z2, z3]) rfl ⟨stV us, by rw [HY.out], ⟨us, rfl, fun i hi => ?_⟩, ?_⟩
  · rw [← HY.out]; exact (hown i hi).set4 (hb3.le l1) (by decide) _ _ _ _
  · exact (hl.trans l1).set4 (by omega) _ _ _ _

theorem fdsS_no {s : St} {c r a er : Int} (h : (s.all rowMay2 && opMay c r a) = false) : fdsS s c r a er = (St.zero, 0, er) := cntS_no h
theorem fdsS_scan {s : St} {er : Int} (h : s.all rowMay2 = true) : fdsS s 3 0 0 er = (s, manyTo s 4, 0) := cntS_scan h
theorem fdsS_look {s : St} {k : Nat} {er : Int} (h : s.all rowMay2 = true) (hk : k < 4) : fdsS s 2 k 0 er = (s, ((s.at k).length : Int), 0) := cntS_look h hk

theorem fdsApply (v : Value) (s : St) (c r a : Int) (w : World) (hx : HasS w v s) (hf : Fit s) :
    Calls Tryz.prog 118 #[v, opV c r a] w fun e w' => ∃ v', e = .returned (.tuple #[v', .int .i64 (fdsS s c r a 400).2.1, .int .i64 (fdsS s c r a 400).2.2]) ∧ OwnS w' w.heap.size v' (fdsS s c r a 400).1 ∧ Le w w' := by
  cases h : s.all rowMay2 && opMay c r a
  · rw [fdsS_no h]
    exact (fdsApplyNo v s c r a w hx h).mono fun e w' ⟨he, hl⟩ => ⟨stZ, he, OwnS.zero _ _, hl⟩
  · obtain ⟨hm, ho⟩ := Bool.and_eq_true_iff.mp h
    rw [show fdsS s c r a 400 = _ from cntS_yes h]
    exact fdsApplyYes v s c r a w hx hf hm ho

end Go.Proofs.YtibleipfablniaaGreat

/-
  PLAIN GROUND: what the answers of fds.Apply keep. No condition.
-/
namespace Go.Proofs.YtibleipfablniaaGreat
open Go.RowKit

theorem fdsS_first {s : St} {k : Nat} {a er : Int} (h : s.all rowMay2 = true) (hk : k < 4) (ha : 0 ≤ a ∧ a ≤ 255) : fdsS s 0 k a er = (s.put k (putS (s.at k)).1, (putS (s.at k)).2, 0) := cntS_first h hk ha
theorem fdsS_second {s : St} {k : Nat} {a er : Int} (h : s.all rowMay2 = true) (hk : k < 4) (ha : 0 ≤ a ∧ a ≤ 255) : fdsS s 1 k a er = (s.put k (takeS (s.at k) a).1, (takeS (s.at k) a).2, 0) := cntS_second h hk ha

theorem idx_out {a : Int} : ∀ {i : Int} {xs : List Int}, a ∉ xs → idxFrom i a xs = -1
  | _, [], _ => rfl
  | i, x :: r, h => by
    simp only [List.mem_cons, not_or] at h
    simp only [idxFrom, if_neg h.1]
    exact idx_out h.2
theorem take_out {xs : List Int} {a : Int} (h : a ∉ xs) : takeS xs a = (xs, 0) := by
  have : idxS xs a = -1 := idx_out h
  simp [takeS, this]

theorem put_rows : ∀ xs ∈ rowsAbove 4, rowMay2 (putS xs).1 = true := by decide
theorem take_rows : ∀ xs ∈ rowsAbove 4, ∀ a ∈ xs, rowMay2 (takeS xs a).1 = true := by decide
theorem put_may {xs : List Int} (h : rowMay2 xs = true) : rowMay2 (putS xs).1 = true := put_rows xs (rowMay2_mem h)
theorem take_may {xs : List Int} {a : Int} (h : rowMay2 xs = true) : rowMay2 (takeS xs a).1 = true := by
  by_cases ha : a ∈ xs
  · exact take_rows xs (rowMay2_mem h) a ha
  · rw [take_out ha]; exact h

theorem may_all2 {s : St} (h : s.all rowMay2 = true) : Fit s := fun i hi => by
  have := rowMay2_len (St.all_at h hi)
  omega

theorem Fit.fds {s : St} (h : Fit s) (c r a er : Int) : Fit (fdsS s c r a er).1 := by
  cases hh : s.all rowMay2 && opMay c r a
  · rw [fdsS_no hh]; exact fit_zero
  · obtain ⟨hm, ho⟩ := Bool.and_eq_true_iff.mp hh
    rcases opMay_cases ho with ⟨k, hk, rfl, rfl, ha⟩ | ⟨k, hk, rfl, rfl, ha⟩ | ⟨k, hk, rfl, rfl, rfl⟩ | ⟨rfl, rfl, rfl⟩
    · rw [fdsS_first hm hk ha]; exact h.put hk (rowMay2_len (put_may (St.all_at hm hk)))
    · rw [fdsS_second hm hk ha]; exact h.put hk (rowMay2_len (take_may (St.all_at hm hk)))
    · rw [fdsS_look hm hk]; exact h
    · rw [fdsS_scan hm]; exact h

end Go.Proofs.YtibleipfablniaaGreat
