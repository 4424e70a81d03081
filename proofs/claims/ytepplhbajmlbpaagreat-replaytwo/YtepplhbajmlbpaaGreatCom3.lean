/-
  PARTS LAID TOGETHER, each with its own opening: LmB, LmC, LmF, RmB, RmC, RmD, RgG, MsS, MsT, MtA, Grow, LmG, LmH, LmGt, RmT, RmE, NwA, RgH, CfAwake, NwB, MoA.
-/
import Derived.Test.YtepplhbajmlbpaaGreatCom2
import Derived.Deep.RegionHeld3
import Derived.Deep.CutRange
import Derived.BigRegion
import Derived.Test.YtepplhbajmlbpaaGreatCom1
import Derived.Orders
import Derived.Deep.Cut
namespace Go.Proofs.YtepplhbajmlbpaaGreat
open Go.RowKit
theorem lawSameThread (v u : Value) (T S : Th) (w : World) (hx : HasT w v T) (hy : HasT w u S) (hf : T.b.length * 8 ≤ 140737488351232) (hf2 : T.tl.length * 8 ≤ 140737488351232) :
   Calls Tryz.prog 36 #[v, u] w fun e w' => e = .returned (.bool (decide (T = S))) ∧ Le w w' := by
 by_cases e0 : T.st = S.st
 case neg => exact sameTh0 v u T S w hx hy hf hf2 e0
 by_cases e1 : T.c = S.c
 case neg => exact sameTh1 v u T S w hx hy hf hf2 e0 e1
 by_cases e2 : T.r = S.r
 case neg => exact sameTh2 v u T S w hx hy hf hf2 e0 e1 e2
 by_cases e3 : T.a = S.a
 case neg => exact sameTh3 v u T S w hx hy hf hf2 e0 e1 e2 e3
 by_cases e4 : T.lg = S.lg
 case neg => exact sameTh4 v u T S w hx hy hf hf2 e0 e1 e2 e3 e4
 by_cases e5 : T.sn = S.sn
 case neg => exact sameTh5 v u T S w hx hy hf hf2 e0 e1 e2 e3 e4 e5
 by_cases e6 : T.b = S.b
 case neg => exact sameTh6 v u T S w hx hy hf hf2 e0 e1 e2 e3 e4 e5 e6
 by_cases e7 : T.pl = S.pl
 case neg => exact sameTh7 v u T S w hx hy hf hf2 e0 e1 e2 e3 e4 e5 e6 e7
 by_cases e8 : T.po = S.po
 case neg => exact sameTh8 v u T S w hx hy hf hf2 e0 e1 e2 e3 e4 e5 e6 e7 e8
 by_cases e9 : T.re = S.re
 case neg => exact sameTh9 v u T S w hx hy hf hf2 e0 e1 e2 e3 e4 e5 e6 e7 e8 e9
 by_cases e10 : T.an = S.an
 case neg => exact sameTh10 v u T S w hx hy hf hf2 e0 e1 e2 e3 e4 e5 e6 e7 e8 e9 e10
 by_cases e11 : T.tl = S.tl
 case neg => exact sameTh11 v u T S w hx hy hf hf2 e0 e1 e2 e3 e4 e5 e6 e7 e8 e9 e10 e11
 exact sameTh12 v u T S w hx hy hf hf2 e0 e1 e2 e3 e4 e5 e6 e7 e8 e9 e10 e11
theorem cell_later {w : World} {p : Addr} {v : Value} (h : w.cell? p = some v) : ∀ X : Later w, X.w.cell? p = some v := fun X => cell_le h X.le
theorem RingAt.later {w : World} {b off : Nat} {R : Rg} {q : Sl} (h : RingAt w b off R q) :
   (∀ X : Later w, X.w.cell? ⟨b, off, none⟩ = some (.int .i64 R.h)) ∧ (∀ X : Later w, X.w.cell? ⟨b, off + 1, none⟩ = some (.int .i64 R.t)) ∧ (∀ X : Later w, X.w.cell? ⟨b, off + 2, none⟩ = some (.int .i64 R.f)) ∧ (∀ X : Later w, X.w.cell? ⟨b, off + 3, none⟩ = some (slV q)) :=
 ⟨cell_later h.1, cell_later h.2.1, cell_later h.2.2.1, cell_later h.2.2.2⟩
theorem ThAt.later {w : World} {b off : Nat} {T : Th} {q t : Sl} (h : ThAt w b off T q t) :
   (∀ X : Later w, X.w.cell? ⟨b, off, none⟩ = some (.int .i64 T.st)) ∧ (∀ X : Later w, X.w.cell? ⟨b, off + 1, none⟩ = some (.int .i64 T.c)) ∧ (∀ X : Later w, X.w.cell? ⟨b, off + 2, none⟩ = some (.int .i64 T.r)) ∧ (∀ X : Later w, X.w.cell? ⟨b, off + 3, none⟩ = some (.int .i64 T.a)) ∧
   (∀ X : Later w, X.w.cell? ⟨b, off + 4, none⟩ = some (.int .i64 T.lg)) ∧ (∀ X : Later w, X.w.cell? ⟨b, off + 5, none⟩ = some (.int .i64 T.sn)) ∧ (∀ X : Later w, X.w.cell? ⟨b, off + 6, none⟩ = some (slV q)) ∧ (∀ X : Later w, X.w.cell? ⟨b, off + 7, none⟩ = some (.int .i64 T.pl)) ∧
   (∀ X : Later w, X.w.cell? ⟨b, off + 8, none⟩ = some (.bool T.po)) ∧ (∀ X : Later w, X.w.cell? ⟨b, off + 9, none⟩ = some (.bool T.re)) ∧ (∀ X : Later w, X.w.cell? ⟨b, off + 10, none⟩ = some (.int .i64 T.an)) ∧ (∀ X : Later w, X.w.cell? ⟨b, off + 11, none⟩ = some (slV t)) := by
 obtain ⟨h0, h1, h2, h3, h4, h5, h6, h7, h8, h9, h10, h11⟩ := h
 exact ⟨cell_later h0, cell_later h1, cell_later h2, cell_later h3, cell_later h4, cell_later h5, cell_later h6, cell_later h7, cell_later h8, cell_later h9, cell_later h10, cell_later h11⟩
theorem cfg_ne {x y : Cfg} (h : ¬ x = y) : (x.o == y.o) = false ∨ ((x.o == y.o) = true ∧ (x.r == y.r) = false) ∨ ((x.o == y.o) = true ∧ (x.r == y.r) = true ∧ (x.l == y.l) = false) ∨ ((x.o == y.o) = true ∧ (x.r == y.r) = true ∧ (x.l == y.l) = true ∧ (x.t == y.t) = false) ∨ ((x.o == y.o) = true ∧ (x.r == y.r) = true ∧ (x.l == y.l) = true ∧ (x.t == y.t) = true ∧ (x.s == y.s) = false) := by
 cases e0 : x.o == y.o
 ·exact .inl rfl
 cases e1 : x.r == y.r
 ·exact .inr (.inl ⟨rfl, rfl⟩)
 cases e2 : x.l == y.l
 ·exact .inr (.inr (.inl ⟨rfl, rfl, rfl⟩))
 cases e3 : x.t == y.t
 ·exact .inr (.inr (.inr (.inl ⟨rfl, rfl, rfl, rfl⟩)))
 cases e4 : x.s == y.s
 ·exact .inr (.inr (.inr (.inr ⟨rfl, rfl, rfl, rfl, rfl⟩)))
 exfalso
 obtain ⟨_, _, _, _, _⟩ := x
 obtain ⟨_, _, _, _, _⟩ := y
 simp at e0 e1 e2 e3 e4
 subst e0 e1 e2 e3 e4
 exact h rfl
set_option maxRecDepth 4000 in
set_option maxHeartbeats 8000000 in
theorem lawSameMachineNo (v u : Value) (M N : Mc) (w : World) (hx : HasM w v M) (hy : HasM w u N) (hf : FitM M) (hne : ¬ (M.c = N.c ∧ M.rs.length = N.rs.length ∧ M.ps.length = N.ps.length ∧ M.ts.length = N.ts.length ∧ M.es = N.es)) :
   Calls Tryz.prog 11 #[v, u] w fun e w' => e = .returned (.bool false) ∧ Le w w' := by
 obtain ⟨c, Rs, Ps, Ts, Es⟩ := M
 obtain ⟨c', Rs', Ps', Ts', Es'⟩ := N
 obtain ⟨⟨aR, nR, cR⟩, ⟨aP, nP, cP⟩, ⟨aT, nT, cT⟩, qH, rfl, hR, hP, hT, hH⟩ := hx
 obtain ⟨⟨aR', nR', cR'⟩, ⟨aP', nP', cP'⟩, ⟨aT', nT', cT'⟩, qH', rfl, hR', hP', hT', hH'⟩ := hy
 have f4 := hf.es
 simp only at hR hP hT hH hR' hP' hT' hH' hne f4 ⊢
 have l1 := hR.len
 have l2 := hP.len
 have l3 := hT.len
 have l1' := hR'.len
 have l2' := hP'.len
 have l3' := hT'.len
 simp only at l1 l2 l3 l1' l2' l3'
 rw [← l1, ← l2, ← l3, ← l1', ← l2', ← l3'] at hne
 clear l1 l2 l3 l1' l2' l3' hR hP hT hR' hP' hT' hf
 have hl := (Le.alloc w (.cells (cells9 c (aR, nR, cR) (aP, nP, cP) (aT, nT, cT) qH) 29)).trans (Le.alloc _ (.cells (cells9 c' (aR', nR', cR') (aP', nP', cP') (aT', nT', cT') qH') 29))
 have hev := lawSameEvents _ _ Es Es' _ (hH.le hl) (hH'.le hl) (by omega)
 clear hH hH' f4
 by_cases ec : c = c'
 ·subst ec
  by_cases e1 : nR = nR'
  ·subst e1
   by_cases e2 : nP = nP'
   ·subst e2
    by_cases e3 : nT = nT'
    ·subst e3
     have e4 : ¬ Es = Es' := fun h => hne ⟨rfl, rfl, rfl, rfl, h⟩
     rw [decide_eq_false e4] at hev
     clear hne e4
     go_enter Tryz.func11, Tryz.ntmps11
     go_wp2_with fail
     refine hev.mono ?_
     rintro e w1 ⟨rfl, m1⟩
     go_wp2_with fail
     go_ret
     exact ⟨rfl, hl.trans m1⟩
    ·have hn : ((nT : Int) != (nT' : Int)) = true := by simp; omega
     clear hne e3 hev
     go_enter Tryz.func11, Tryz.ntmps11
     go_wp2_with fail
     go_ret
     exact ⟨rfl, hl⟩
   ·have hn : ((nP : Int) != (nP' : Int)) = true := by simp; omega
    clear hne e2 hev
    go_enter Tryz.func11, Tryz.ntmps11
    go_wp2_with fail
    go_ret
    exact ⟨rfl, hl⟩
  ·have hn : ((nR : Int) != (nR' : Int)) = true := by simp; omega
   clear hne e1 hev
   go_enter Tryz.func11, Tryz.ntmps11
   go_wp2_with fail
   go_ret
   exact ⟨rfl, hl⟩
 ·rcases cfg_ne ec with e0 | ⟨e0, e1⟩ | ⟨e0, e1, e2⟩ | ⟨e0, e1, e2, e3⟩ | ⟨e0, e1, e2, e3, e4⟩
  all_goals
    clear hne ec hev
    go_enter Tryz.func11, Tryz.ntmps11
    go_wp2_with fail
    go_ret
    exact ⟨rfl, hl⟩
abbrev cellsP (vs : Nat → Sl) (c l : Sl) : Array Value := #[slV (vs 0), slV (vs 1), slV (vs 2), slV (vs 3), slV c, slV l]
theorem Box.rep {w : World} {g : Nat} {vs : Nat → Sl} {c l : Sl} {ty : TypeId} (h : Box w g (cellsP vs c l) ty) :
   w.cell? ⟨g, 0, none⟩ = some (slV (vs 0)) ∧ w.cell? ⟨g, 1, none⟩ = some (slV (vs 1)) ∧ w.cell? ⟨g, 2, none⟩ = some (slV (vs 2)) ∧ w.cell? ⟨g, 3, none⟩ = some (slV (vs 3)) ∧ w.cell? ⟨g, 4, none⟩ = some (slV c) ∧ w.cell? ⟨g, 5, none⟩ = some (slV l) :=
 ⟨h.cell 0, h.cell 1, h.cell 2, h.cell 3, h.cell 4, h.cell 5⟩
theorem eq_of_takes {α : Type} {xs ys : List α} {n : Nat} (h1 : xs.length = n) (h2 : ys.length = n) (h : xs.take n = ys.take n) : xs = ys := by
 rw [List.take_of_length_le (by omega), List.take_of_length_le (by omega)] at h
 exact h
theorem two_boxes (w : World) (xs ys : Array Value) (t : TypeId) : Box ((w.alloc (.cells xs t)).alloc (.cells ys t)).drew w.heap.size xs t ∧ Box ((w.alloc (.cells xs t)).alloc (.cells ys t)).drew (w.heap.size + 1) ys t ∧ Le w ((w.alloc (.cells xs t)).alloc (.cells ys t)).drew := by
 refine ⟨((Box.new w xs t).le (Le.alloc _ _)).le (Le.drew _), ?_, ((Le.alloc _ _).trans (Le.alloc _ _)).trans (Le.drew _)⟩
 have := (Box.new (w.alloc (.cells xs t)) ys t).le (Le.drew _)
 rw [World.size_alloc] at this
 exact this
set_option maxRecDepth 4000 in
set_option maxHeartbeats 16000000 in
theorem lawSameMachineYes (v u : Value) (M N : Mc) (w : World) (hx : HasM w v M) (hy : HasM w u N) (hf : FitM M) (hc : M.c = N.c) (h1 : M.rs.length = N.rs.length) (h2 : M.ps.length = N.ps.length) (h3 : M.ts.length = N.ts.length) (h4 : M.es = N.es) :
   Calls Tryz.prog 11 #[v, u] w fun e w' => e = .returned (.bool (decide (M = N))) ∧ Le w w' := by
 obtain ⟨c, Rs, Ps, Ts, Es⟩ := M
 obtain ⟨c', Rs', Ps', Ts', Es'⟩ := N
 simp only at hc h1 h2 h3 h4
 subst hc h4
 obtain ⟨⟨aR, nR, cR⟩, ⟨aP, nP, cP⟩, ⟨aT, nT, cT⟩, qH, rfl, hR, hP, hT, hH⟩ := hx
 obtain ⟨⟨aR', nR', cR'⟩, ⟨aP', nP', cP'⟩, ⟨aT', nT', cT'⟩, qH', rfl, hR', hP', hT', hH'⟩ := hy
 obtain ⟨f1, f2, f3, f4, fr, fp, ft⟩ := hf
 simp only at hR hP hT hH hR' hP' hT' hH' f1 f2 f3 f4 fr fp ft
 obtain ⟨a, n, hv, nc, _, oR⟩ := hR.open
 simp only [slV, Value.slice.injEq] at hv
 obtain ⟨rfl, rfl, rfl⟩ := hv
 obtain ⟨a, n, hv, nc', _, oR'⟩ := hR'.open
 simp only [slV, Value.slice.injEq] at hv
 obtain ⟨rfl, rfl, rfl⟩ := hv
 obtain ⟨a, n, hv, pc, _, oP⟩ := hP.open
 simp only [slV, Value.slice.injEq] at hv
 obtain ⟨rfl, rfl, rfl⟩ := hv
 obtain ⟨a, n, hv, pc', _, oP'⟩ := hP'.open
 simp only [slV, Value.slice.injEq] at hv
 obtain ⟨rfl, rfl, rfl⟩ := hv
 obtain ⟨a, n, hv, tc, _, oT⟩ := hT.open
 simp only [slV, Value.slice.injEq] at hv
 obtain ⟨rfl, rfl, rfl⟩ := hv
 obtain ⟨a, n, hv, tc', _, oT'⟩ := hT'.open
 simp only [slV, Value.slice.injEq] at hv
 obtain ⟨rfl, rfl, rfl⟩ := hv
 rw [← h1] at nc' oR' ⊢
 rw [← h2] at pc' oP' ⊢
 rw [← h3] at tc' oT' ⊢
 have HR' : Hid (Rs'.length = Rs.length) := h1.symm
 have HP' : Hid (Ps'.length = Ps.length) := h2.symm
 have HT' : Hid (Ts'.length = Ts.length) := h3.symm
 have HD : Hid (∀ b, (Rs = Rs' ∧ Ps = Ps' ∧ Ts = Ts' ↔ b = true) → decide ((⟨c, Rs, Ps, Ts, Es⟩ : Mc) = ⟨c, Rs', Ps', Ts', Es⟩) = b) := fun b hb => by
   rw [Bool.eq_iff_iff, ← hb]; simp
 clear h1 h2 h3 hR hR' hP hP' hT hT'
 obtain ⟨nR, hnR⟩ : ∃ n, n = Rs.length := ⟨_, rfl⟩
 obtain ⟨nP, hnP⟩ : ∃ n, n = Ps.length := ⟨_, rfl⟩
 obtain ⟨nT, hnT⟩ : ∃ n, n = Ts.length := ⟨_, rfl⟩
 have HR : Hid (nR = Rs.length) := hnR
 have HP : Hid (nP = Ps.length) := hnP
 have HT : Hid (nT = Ts.length) := hnT
 rw [← hnR] at nc nc' oR oR' f1 ⊢
 rw [← hnP] at pc pc' oP oP' f2 ⊢
 rw [← hnT] at tc tc' oT oT' f3 ⊢
 clear hnR hnP hnT
 have hl := (Le.alloc w (.cells (cells9 c (aR, nR, cR) (aP, nP, cP) (aT, nT, cT) qH) 29)).trans (Le.alloc _ (.cells (cells9 c (aR', nR, cR') (aP', nP, cP') (aT', nT, cT') qH') 29))
 have hb1 := (Box.new w (cells9 c (aR, nR, cR) (aP, nP, cP) (aT, nT, cT) qH) 29).le (Le.alloc _ (.cells (cells9 c (aR', nR, cR') (aP', nP, cP') (aT', nT, cT') qH') 29))
 have hb2 := Box.new (w.alloc (.cells (cells9 c (aR, nR, cR) (aP, nP, cP) (aT, nT, cT) qH) 29)) (cells9 c (aR', nR, cR') (aP', nP, cP') (aT', nT, cT') qH') 29
 rw [World.size_alloc] at hb2
 have hev := lawSameEvents _ _ Es Es _ (hH.le hl) (hH'.le hl) (by omega)
 rw [decide_eq_true rfl] at hev
 clear hH hH' f4
 go_enter Tryz.func11, Tryz.ntmps11
 go_wp2_with fail
 refine hev.mono ?_
 rintro e w1 ⟨rfl, m1⟩
 clear hev
 replace hl := hl.trans m1
 replace hb1 := hb1.le m1
 replace hb2 := hb2.le m1
 clear m1
 obtain ⟨_, z5, z6, z7, _⟩ := hb1.mach
 obtain ⟨_, y5, y6, y7, _⟩ := hb2.mach
 simp only [slV] at z5 z6 z7 y5 y6 y7
 go_wp2_with fail
 go_loopw [5] (fun i wr => ∃ k : Nat, k ≤ nR ∧ i = .int .i64 k ∧ Hid (Rs.take k = Rs'.take k) ∧ Le w1 wr) (fun i _ => nR - (intOf i).toNat)
 case atStart => exact ⟨0, Nat.zero_le _, rfl, rfl, Le.refl _⟩
 case round =>
   obtain ⟨k, hk, rfl, HA, hle⟩ := hrel
   by_cases hlt : k < nR
   ·obtain ⟨b, off, rfl, oRk⟩ := oR (by omega)
    obtain ⟨b', off', rfl, oRk'⟩ := oR' (by omega)
    obtain ⟨q, rA, hq⟩ := oRk k hlt
    obtain ⟨q', rA', hq'⟩ := oRk' k hlt
    obtain ⟨R, hRk⟩ : ∃ R, R = Rs.getD k Rg.zero := ⟨_, rfl⟩
    obtain ⟨R', hRk'⟩ : ∃ R, R = Rs'.getD k Rg.zero := ⟨_, rfl⟩
    have HX : Hid (R = Rs.getD k Rg.zero) := hRk
    have HX' : Hid (R' = Rs'.getD k Rg.zero) := hRk'
    rw [← hRk] at rA hq
    rw [← hRk'] at rA' hq'
    have hfR : FitR R := by rw [hRk]; exact fr _ (getD_mem (by have := HR.out; omega))
    clear hRk hRk' oR oR' oRk oRk' oP oP' oT oT'
    replace hq := (hq.le hl).le hle
    replace hq' := (hq'.le hl).le hle
    obtain ⟨x0, x1, x2, x3⟩ := ((rA.le hl).le hle).later
    obtain ⟨x0', x1', x2', x3'⟩ := ((rA'.le hl).le hle).later
    replace z5 := cell_le z5 hle
    have u5 := cell_later z5
    have u5' := cell_later (cell_le y5 hle)
    have hlt' : (k : Int) < (nR : Int) := by omega
    have hk0 : (0 : Int) ≤ (k : Int) := by omega
    have hs := fun X : Later wr => lawSameRing (ringV R.h R.t R.f q) (ringV R'.h R'.t R'.f q') R R' X.w ⟨q, rfl, hq.le X.le⟩ ⟨q', rfl, hq'.le X.le⟩ hfR
    clear rA rA' hq hq' z6 z7 y5 y6 y7 fr fp ft hfR
    by_cases hRR : R = R'
    ·simp only [decide_eq_true hRR] at hs
     have HRR : Hid (R = R') := hRR
     clear hRR
     go_wp2_with fail
     refine wp_region_later (by kernel_rfl) (by kernel_rfl) ?_
     repeat (go_big_quiet_step (first | (go_at_call 35; with_reducible exact Calls.later (hs _))))
     refine wpQuiet_nil ?_
     rintro _ ⟨x, rfl⟩
     go_wp2_with fail
     go_roundw
     case rel => exact ⟨k + 1, by omega, by go_num, take_sameE (d := Rg.zero) (by have := HR.out; omega) (by have := HR.out; have := HR'.out; omega) HA.out (by rw [← HX.out, ← HX'.out]; exact HRR.out), hle.trans x.le⟩
     case measure => simp [intOf]; omega
    ·simp only [decide_eq_false hRR] at hs
     have HRR : Hid (¬ R = R') := hRR
     clear hRR
     go_wp2_with fail
     refine wp_region_later (by kernel_rfl) (by kernel_rfl) ?_
     repeat (go_big_quiet_step (first | (go_at_call 35; with_reducible exact Calls.later (hs _))))
     refine wpQuiet_nil ?_
     rintro _ ⟨x, rfl⟩
     go_wp2_with fail
     go_ret
     refine ⟨ret_bool (HD.out false ?_).symm, (hl.trans hle).trans x.le⟩
     have hn := ne_of_atE (k := k) (d := Rg.zero) (xs := Rs) (ys := Rs') (by rw [← HX.out, ← HX'.out]; exact HRR.out)
     exact ⟨fun h => absurd h.1 hn, fun h => by cases h⟩
   ·have HRs : Hid (Rs = Rs') := by
      have e : k = nR := by omega
      subst e
      exact eq_of_takes HR.out.symm (HR'.out.trans HR.out.symm) HA.out
    clear HA oR oR' y5 fr
    replace hl := hl.trans hle
    replace z5 := cell_le z5 hle
    replace z6 := cell_le z6 hle
    replace z7 := cell_le z7 hle
    replace y6 := cell_le y6 hle
    replace y7 := cell_le y7 hle
    clear hle hb1 hb2
    go_wp2_with fail
    go_loopw [6] (fun i wq => ∃ k : Nat, k ≤ nP ∧ i = .int .i64 k ∧ Hid (Ps.take k = Ps'.take k) ∧ Le wr wq) (fun i _ => nP - (intOf i).toNat)
    case atStart => exact ⟨0, Nat.zero_le _, rfl, rfl, Le.refl _⟩
    case round =>
      obtain ⟨j, hj, rfl, HA, hle⟩ := hrel
      by_cases hlt2 : j < nP
      ·obtain ⟨b, off, rfl, oPk⟩ := oP (by omega)
       obtain ⟨b', off', rfl, oPk'⟩ := oP' (by omega)
       obtain ⟨vs, qc, ql, rA, hq0, hq1, hq2⟩ := oPk j hlt2
       obtain ⟨vs', qc', ql', rA', hq0', hq1', hq2'⟩ := oPk' j hlt2
       obtain ⟨P, hPk⟩ : ∃ R, R = Ps.getD j Rp.zero := ⟨_, rfl⟩
       obtain ⟨P', hPk'⟩ : ∃ R, R = Ps'.getD j Rp.zero := ⟨_, rfl⟩
       have HX : Hid (P = Ps.getD j Rp.zero) := hPk
       have HX' : Hid (P' = Ps'.getD j Rp.zero) := hPk'
       rw [← hPk] at hq0 hq1 hq2
       rw [← hPk'] at hq0' hq1' hq2'
       obtain ⟨g0, g1, g2⟩ : Fit P.s ∧ P.cs.length * 8 ≤ 140737488351232 ∧ P.ls.length * 8 ≤ 140737488351232 := by rw [hPk]; exact fp _ (getD_mem (by have := HP.out; omega))
       clear hPk hPk' oP oP' oPk oPk' oT oT'
       have hlw := hl.trans hle
       have HS : HasS wr (stV vs) P.s := ⟨vs, rfl, fun i hi => (hq0 i hi).le hlw⟩
       have HS' : HasS wr (stV vs') P'.s := ⟨vs', rfl, fun i hi => (hq0' i hi).le hlw⟩
       replace hq1 := hq1.le hlw
       replace hq1' := hq1'.le hlw
       replace hq2 := hq2.le hlw
       replace hq2' := hq2'.le hlw
       obtain ⟨x0, x1, x2, x3, x4, x5⟩ := rA.le hlw
       obtain ⟨x0', x1', x2', x3', x4', x5'⟩ := rA'.le hlw
       replace z6 := cell_le z6 hle
       replace y6 := cell_le y6 hle
       have hlt' : (j : Int) < (nP : Int) := by omega
       have hj0 : (0 : Int) ≤ (j : Int) := by omega
       clear rA rA' z5 z7 y7 fp ft hq0 hq0'
       have n1 := World.new_ne wr _ z6
       have n2 := World.new_ne wr _ y6
       have n3 := World.new_ne wr _ x0
       have n4 := World.new_ne wr _ x0'
       simp only at n1 n2 n3 n4
       go_upto_region 11 with fail
       go_cut [7, 8] from 76 to 107 (fun s7 s8 wc => ∃ ga gb, s7 = .pointer (some ⟨ga, 0, none⟩) ∧ s8 = .pointer (some ⟨gb, 0, none⟩) ∧ Box wc ga (cellsP vs qc ql) 46 ∧ Box wc gb (cellsP vs' qc' ql') 46 ∧ Le wr wc)
       case first =>
         go_region_held3 (fun w' => w'.cell? ⟨w.heap.size, 6, none⟩ = some (.slice (some ⟨b, off, none⟩) nP cP) ∧ w'.cell? ⟨w.heap.size + 1, 6, none⟩ = some (.slice (some ⟨b', off', none⟩) nP cP') ∧ w'.cell? ⟨b, off + j * 6, none⟩ = some (slV (vs 0)) ∧ w'.cell? ⟨b, off + j * 6 + 1, none⟩ = some (slV (vs 1)) ∧ w'.cell? ⟨b, off + j * 6 + 2, none⟩ = some (slV (vs 2)) ∧ w'.cell? ⟨b, off + j * 6 + 3, none⟩ = some (slV (vs 3)) ∧ w'.cell? ⟨b, off + j * 6 + 4, none⟩ = some (slV qc) ∧ w'.cell? ⟨b, off + j * 6 + 5, none⟩ = some (slV ql) ∧ w'.cell? ⟨b', off' + j * 6, none⟩ = some (slV (vs' 0)) ∧ w'.cell? ⟨b', off' + j * 6 + 1, none⟩ = some (slV (vs' 1)) ∧ w'.cell? ⟨b', off' + j * 6 + 2, none⟩ = some (slV (vs' 2)) ∧ w'.cell? ⟨b', off' + j * 6 + 3, none⟩ = some (slV (vs' 3)) ∧ w'.cell? ⟨b', off' + j * 6 + 4, none⟩ = some (slV qc') ∧ w'.cell? ⟨b', off' + j * 6 + 5, none⟩ = some (slV ql')) (go_keep) (fail)
         all_goals
           go_wp2_with fail
           go_meet
           case rel => first | exact ⟨_, _, rfl, rfl, (two_boxes wr _ _ _).1, (two_boxes wr _ _ _).2.1, (two_boxes wr _ _ _).2.2⟩ | exact ⟨_, _, rfl, rfl, (two_boxes wr _ _ _).2.1, (two_boxes wr _ _ _).1, (two_boxes wr _ _ _).2.2⟩
       case rest =>
         obtain ⟨ga, gb, rfl, rfl, ba, bb, lc⟩ := hcut
         clear x0 x1 x2 x3 x4 x5 x0' x1' x2' x3' x4' x5' n1 n2 n3 n4 z6 y6
         have s1 := lawSameState (stV vs) (stV vs') P.s P'.s wc (HS.le lc) (HS'.le lc) g0
         have s2 := fun w' (l : Le wr w') => lawSameI _ _ P.cs P'.cs w' (hq1.le l) (hq1'.le l) g1
         have s3 := fun w' (l : Le wr w') => lawSameI _ _ P.ls P'.ls w' (hq2.le l) (hq2'.le l) g2
         have HW : Hid (¬ P = P' → decide ((⟨c, Rs, Ps, Ts, Es⟩ : Mc) = ⟨c, Rs', Ps', Ts', Es⟩) = false) := fun hn => HD.out false ⟨fun h => absurd h.2.1 (ne_of_atE (k := j) (d := Rp.zero) (by rw [← HX.out, ← HX'.out]; exact hn)), fun h => by cases h⟩
         obtain ⟨t0, t1, t2, t3, t4, t5⟩ := ba.rep
         obtain ⟨r0, r1, r2, r3, r4, r5⟩ := bb.rep
         by_cases d1 : P.s = P'.s
         ·rw [decide_eq_true d1] at s1
          by_cases d2 : P.cs = P'.cs
          ·simp only [decide_eq_true d2] at s2
           by_cases d3 : P.ls = P'.ls
           ·simp only [decide_eq_true d3] at s3
            have HPP : Hid (P = P') := by
              obtain ⟨_, _, _⟩ := P
              obtain ⟨_, _, _⟩ := P'
              simp only at d1 d2 d3
              subst d1 d2 d3
              rfl
            clear d1 d2 d3
            go_wp2_with fail
            refine s1.mono ?_
            rintro e wd ⟨rfl, ld⟩
            obtain ⟨t0', t1', t2', t3', t4', t5'⟩ := (ba.le ld).rep
            obtain ⟨r0', r1', r2', r3', r4', r5'⟩ := (bb.le ld).rep
            go_wp2_with fail
            refine (s2 _ (lc.trans ld)).mono ?_
            rintro e we ⟨rfl, le'⟩
            obtain ⟨_, _, _, _, _, t6⟩ := ((ba.le ld).le le').rep
            obtain ⟨_, _, _, _, _, r6⟩ := ((bb.le ld).le le').rep
            go_wp2_with fail
            refine (s3 _ ((lc.trans ld).trans le')).mono ?_
            rintro e wf ⟨rfl, lf⟩
            go_wp2_with fail
            go_roundw
            case rel => exact ⟨j + 1, by omega, by go_num, take_sameE (d := Rp.zero) (by have := HP.out; omega) (by have := HP.out; have := HP'.out; omega) HA.out (by rw [← HX.out, ← HX'.out]; exact HPP.out), (((hle.trans lc).trans ld).trans le').trans lf⟩
            case measure => simp [intOf]; omega
           ·simp only [decide_eq_false d3] at s3
            have HN : Hid (decide ((⟨c, Rs, Ps, Ts, Es⟩ : Mc) = ⟨c, Rs', Ps', Ts', Es⟩) = false) := HW.out (fun h => d3 (by rw [h]))
            clear d1 d2 d3
            go_wp2_with fail
            refine s1.mono ?_
            rintro e wd ⟨rfl, ld⟩
            obtain ⟨t0', t1', t2', t3', t4', t5'⟩ := (ba.le ld).rep
            obtain ⟨r0', r1', r2', r3', r4', r5'⟩ := (bb.le ld).rep
            go_wp2_with fail
            refine (s2 _ (lc.trans ld)).mono ?_
            rintro e we ⟨rfl, le'⟩
            obtain ⟨_, _, _, _, _, t6⟩ := ((ba.le ld).le le').rep
            obtain ⟨_, _, _, _, _, r6⟩ := ((bb.le ld).le le').rep
            go_wp2_with fail
            refine (s3 _ ((lc.trans ld).trans le')).mono ?_
            rintro e wf ⟨rfl, lf⟩
            go_wp2_with fail
            go_ret
            exact ⟨ret_bool HN.out.symm, ((((hl.trans hle).trans lc).trans ld).trans le').trans lf⟩
          ·simp only [decide_eq_false d2] at s2
           have HN : Hid (decide ((⟨c, Rs, Ps, Ts, Es⟩ : Mc) = ⟨c, Rs', Ps', Ts', Es⟩) = false) := HW.out (fun h => d2 (by rw [h]))
           clear d1 d2 s3
           go_wp2_with fail
           refine s1.mono ?_
           rintro e wd ⟨rfl, ld⟩
           obtain ⟨t0', t1', t2', t3', t4', t5'⟩ := (ba.le ld).rep
           obtain ⟨r0', r1', r2', r3', r4', r5'⟩ := (bb.le ld).rep
           go_wp2_with fail
           refine (s2 _ (lc.trans ld)).mono ?_
           rintro e we ⟨rfl, le'⟩
           go_wp2_with fail
           go_ret
           exact ⟨ret_bool HN.out.symm, (((hl.trans hle).trans lc).trans ld).trans le'⟩
         ·rw [decide_eq_false d1] at s1
          have HN : Hid (decide ((⟨c, Rs, Ps, Ts, Es⟩ : Mc) = ⟨c, Rs', Ps', Ts', Es⟩) = false) := HW.out (fun h => d1 (by rw [h]))
          clear d1 s2 s3
          go_wp2_with fail
          refine s1.mono ?_
          rintro e wd ⟨rfl, ld⟩
          go_wp2_with fail
          go_ret
          exact ⟨ret_bool HN.out.symm, ((hl.trans hle).trans lc).trans ld⟩
      ·have HPs : Hid (Ps = Ps') := by
         have e : j = nP := by omega
         subst e
         exact eq_of_takes HP.out.symm (HP'.out.trans HP.out.symm) HA.out
       clear HA oP oP' y6 fp z5
       replace hl := hl.trans hle
       replace z6 := cell_le z6 hle
       replace z7 := cell_le z7 hle
       replace y7 := cell_le y7 hle
       clear hle
       go_wp2_with fail
       go_loopw [9] (fun i wq => ∃ k : Nat, k ≤ nT ∧ i = .int .i64 k ∧ Hid (Ts.take k = Ts'.take k) ∧ Le wr wq) (fun i _ => nT - (intOf i).toNat)
       case atStart => exact ⟨0, Nat.zero_le _, rfl, rfl, Le.refl _⟩
       case round =>
         obtain ⟨i, hi, rfl, HA, hle⟩ := hrel
         by_cases hlt3 : i < nT
         ·obtain ⟨b, off, rfl, oTk⟩ := oT (by omega)
          obtain ⟨b', off', rfl, oTk'⟩ := oT' (by omega)
          obtain ⟨q, t, rA, hq, ht⟩ := oTk i hlt3
          obtain ⟨q', t', rA', hq', ht'⟩ := oTk' i hlt3
          obtain ⟨T, hTk⟩ : ∃ R, R = Ts.getD i Th.zero := ⟨_, rfl⟩
          obtain ⟨T', hTk'⟩ : ∃ R, R = Ts'.getD i Th.zero := ⟨_, rfl⟩
          have HX : Hid (T = Ts.getD i Th.zero) := hTk
          have HX' : Hid (T' = Ts'.getD i Th.zero) := hTk'
          rw [← hTk] at rA hq ht
          rw [← hTk'] at rA' hq' ht'
          obtain ⟨g0, g1⟩ : T.b.length * 8 ≤ 140737488351232 ∧ T.tl.length * 8 ≤ 140737488351232 := by rw [hTk]; exact ft _ (getD_mem (by have := HT.out; omega))
          clear hTk hTk' oT oT' oTk oTk'
          have hlw := hl.trans hle
          obtain ⟨x0, x1, x2, x3, x4, x5, x6, x7, x8, x9, x10, x11⟩ := (rA.le hlw).later
          obtain ⟨y0, y1, y2, y3, y4, y5', y6', y7', y8, y9, y10, y11⟩ := (rA'.le hlw).later
          replace z7 := cell_le z7 hle
          have u7 := cell_later z7
          have u7' := cell_later (cell_le y7 hle)
          have hlt' : (i : Int) < (nT : Int) := by omega
          have hi0 : (0 : Int) ≤ (i : Int) := by omega
          have hs := fun X : Later wr => lawSameThread (thV T q t) (thV T' q' t') T T' X.w ⟨q, t, rfl, hq.le (hlw.trans X.le), ht.le (hlw.trans X.le)⟩ ⟨q', t', rfl, hq'.le (hlw.trans X.le), ht'.le (hlw.trans X.le)⟩ g0 g1
          clear rA rA' hq hq' ht ht' z6 y7 ft g0 g1
          by_cases hTT : T = T'
          ·simp only [decide_eq_true hTT] at hs
           have HTT : Hid (T = T') := hTT
           clear hTT
           go_wp2_with fail
           refine wp_region_later (by kernel_rfl) (by kernel_rfl) ?_
           repeat (go_big_quiet_step (first | (go_at_call 36; with_reducible exact Calls.later (hs _))))
           refine wpQuiet_nil ?_
           rintro _ ⟨x, rfl⟩
           go_wp2_with fail
           go_roundw
           case rel => exact ⟨i + 1, by omega, by go_num, take_sameE (d := Th.zero) (by have := HT.out; omega) (by have := HT.out; have := HT'.out; omega) HA.out (by rw [← HX.out, ← HX'.out]; exact HTT.out), hle.trans x.le⟩
           case measure => simp [intOf]; omega
          ·simp only [decide_eq_false hTT] at hs
           have HTT : Hid (¬ T = T') := hTT
           clear hTT
           go_wp2_with fail
           refine wp_region_later (by kernel_rfl) (by kernel_rfl) ?_
           repeat (go_big_quiet_step (first | (go_at_call 36; with_reducible exact Calls.later (hs _))))
           refine wpQuiet_nil ?_
           rintro _ ⟨x, rfl⟩
           go_wp2_with fail
           go_ret
           refine ⟨ret_bool (HD.out false ?_).symm, (hl.trans hle).trans x.le⟩
           have hn := ne_of_atE (k := i) (d := Th.zero) (xs := Ts) (ys := Ts') (by rw [← HX.out, ← HX'.out]; exact HTT.out)
           exact ⟨fun h => absurd h.2.2 hn, fun h => by cases h⟩
         ·have HTs : Hid (Ts = Ts') := by
            have e : i = nT := by omega
            subst e
            exact eq_of_takes HT.out.symm (HT'.out.trans HT.out.symm) HA.out
          replace z7 := cell_le z7 hle
          clear oT oT' y7 z6
          go_wp2_with fail
          go_ret
          exact ⟨ret_bool (HD.out true ⟨fun _ => rfl, fun _ => ⟨HRs.out, HPs.out, HTs.out⟩⟩).symm, hl.trans hle⟩
theorem lawSameMachine (v u : Value) (M N : Mc) (w : World) (hx : HasM w v M) (hy : HasM w u N) (hf : FitM M) :
   Calls Tryz.prog 11 #[v, u] w fun e w' => e = .returned (.bool (decide (M = N))) ∧ Le w w' := by
 by_cases h : M.c = N.c ∧ M.rs.length = N.rs.length ∧ M.ps.length = N.ps.length ∧ M.ts.length = N.ts.length ∧ M.es = N.es
 ·obtain ⟨h0, h1, h2, h3, h4⟩ := h
  exact lawSameMachineYes v u M N w hx hy hf h0 h1 h2 h3 h4
 ·rw [decide_eq_false (fun e => h (by rw [e]; exact ⟨rfl, rfl, rfl, rfl, rfl⟩))]
  exact lawSameMachineNo v u M N w hx hy hf h
theorem cell_later' {w : World} {p : Addr} {v : Value} (h : w.cell? p = some v) : ∀ X : Later w, X.w.cell? p = some v := fun X => cell_le h X.le
def repD (c : Cfg) (Rs : List Rg) (P : Rp) : Bool := objMay c.o P.s && (decide ((P.cs.length : Int) = c.l) && (decide ((P.ls.length : Int) = c.l) && (List.range P.cs.length).all fun i => inB (Rs.getD i Rg.zero).h (P.cs.getD i 0) (Rs.getD i Rg.zero).t && inB 0 (P.ls.getD i 0) c.t))
theorem repB_doc (c : Cfg) (Rs : List Rg) (P : Rp) : repB c Rs P = repD c Rs P := by
 unfold repB repD
 cases objMay c.o P.s
 ·rfl
 by_cases h1 : (P.cs.length : Int) = c.l
 ·by_cases h2 : (P.ls.length : Int) = c.l
  ·simp only [h1, h2, decide_true, Bool.true_and, cursOK]
   rw [Bool.eq_iff_iff]
   simp only [Bool.and_eq_true, List.all_eq_true, List.mem_range]
   constructor
   ·rintro ⟨h3, h4⟩ i hi
    exact ⟨h3 i hi, h4 _ (getD_mem (by omega))⟩
   ·intro h
    refine ⟨fun i hi => (h i hi).1, fun x hx => ?_⟩
    obtain ⟨i, hi, rfl⟩ := List.mem_iff_getElem.1 hx
    have := (h i (by omega)).2
    rw [show P.ls.getD i 0 = P.ls[i] by simp [List.getD, hi]] at this
    exact this
  ·simp [h2]
 ·simp [h1]
theorem repD_take {c : Cfg} {Rs : List Rg} {P : Rp} {k : Nat} (h : ∀ i, i < k → (inB (Rs.getD i Rg.zero).h (P.cs.getD i 0) (Rs.getD i Rg.zero).t && inB 0 (P.ls.getD i 0) c.t) = true) (hk : (k : Int) = c.l) (h0 : objMay c.o P.s = true) (h1 : (P.cs.length : Int) = c.l) (h2 : (P.ls.length : Int) = c.l) : repD c Rs P = true := by
 unfold repD
 rw [h0, decide_eq_true h1, decide_eq_true h2]
 simp only [Bool.true_and, List.all_eq_true, List.mem_range]
 intro i hi
 exact h i (by omega)
theorem repD_no {c : Cfg} {Rs : List Rg} {P : Rp} {k : Nat} (hk : k < P.cs.length) (h : (inB (Rs.getD k Rg.zero).h (P.cs.getD k 0) (Rs.getD k Rg.zero).t && inB 0 (P.ls.getD k 0) c.t) = false) : repD c Rs P = false := by
 unfold repD
 rw [Bool.and_eq_false_iff]; right
 rw [Bool.and_eq_false_iff]; right
 rw [Bool.and_eq_false_iff]; right
 rw [← Bool.not_eq_true]
 simp only [List.all_eq_true, List.mem_range]
 intro hh
 have := hh k hk
 rw [h] at this
 cases this
set_option maxRecDepth 4000 in
set_option maxHeartbeats 4000000 in
theorem rmReplicaMay (M : Mc) (v u : Value) (P : Rp) (w : World) (hM : HasM w v M) (hn : (M.rs.length : Int) = M.c.l) (hx : HasP w u P) (hf : Fit P.s) (hm : M.rs.length * 48 ≤ 140737488351232) (hfc : P.cs.length * 8 ≤ 140737488351232) (hfl : P.ls.length * 8 ≤ 140737488351232) :
   Calls Tryz.prog 52 #[v, u] w fun e w' => e = .returned (.bool (repB M.c M.rs P)) ∧ Le w w' := by
 rw [repB_doc]
 obtain ⟨c, Rs, Ps, Ts, Es⟩ := M
 obtain ⟨⟨ra, rn, rc⟩, qP, qT, qH, rfl, hR, _, _, _⟩ := hM
 obtain ⟨vs, ⟨ca, cn, cc⟩, ⟨la, ln, lc⟩, rfl, i0, i1, i2⟩ := hx
 simp only at hR hn hm ⊢
 have hb1 := (Box.new w (cells9 c (ra, rn, rc) qP qT qH) 29).le (Le.alloc _ (.cells (cellsP vs (ca, cn, cc) (la, ln, lc)) 46))
 have hb2 := Box.new (w.alloc (.cells (cells9 c (ra, rn, rc) qP qT qH) 29)) (cellsP vs (ca, cn, cc) (la, ln, lc)) 46
 rw [World.size_alloc] at hb2
 have hl := (Le.alloc w (.cells (cells9 c (ra, rn, rc) qP qT qH) 29)).trans (Le.alloc _ (.cells (cellsP vs (ca, cn, cc) (la, ln, lc)) 46))
 have m1 := fun w' (l : Le w w') => refStateMay c.o (stV vs) P.s w' (HasS.le ⟨vs, rfl, i0⟩ l) hf
 obtain ⟨a, n, hv, rcap, _, oR⟩ := hR.open
 simp only [slV, Value.slice.injEq] at hv
 obtain ⟨rfl, hrn, rfl⟩ := hv
 obtain ⟨a, n, hv, ccap, _, oC⟩ := i1
 simp only [slV, Value.slice.injEq] at hv
 obtain ⟨rfl, hcn, rfl⟩ := hv
 obtain ⟨a, n, hv, lcap, _, oL⟩ := i2
 simp only [slV, Value.slice.injEq] at hv
 obtain ⟨rfl, hln, rfl⟩ := hv
 rw [← hrn] at hn hm oR rcap
 rw [← hcn] at oC ccap hfc
 rw [← hln] at oL lcap hfl
 have HCN : Hid (cn = P.cs.length) := hcn
 have HLN : Hid (ln = P.ls.length) := hln
 have HRN : Hid ((rn : Int) = c.l) := hn
 clear hrn hcn hln hR i0 hn
 go_enter Tryz.func52, Tryz.ntmps52
 go_upto_region 1 with fail
 generalize hW : (w.alloc (.cells (cells9 c (ra, rn, rc) qP qT qH) 29)).alloc (.cells (cellsP vs (ca, cn, cc) (la, ln, lc)) 46) = W at hl hb1 hb2 ⊢
 clear hW
 obtain ⟨⟨z0, z1, z2, z3, z4⟩, z5, z6, z7, z8⟩ := hb1.mach
 obtain ⟨y0, y1, y2, y3, y4, y5⟩ := hb2.rep
 go_wp2_with fail
 refine (m1 _ hl).mono ?_
 rintro e w1 ⟨rfl, l1⟩
 clear z0 z1 z2 z3 z4 z5 z6 z7 z8 y0 y1 y2 y3 y4 y5
 replace hb1 := hb1.le l1
 replace hb2 := hb2.le l1
 replace hl := hl.trans l1
 clear l1 m1
 obtain ⟨⟨z0, z1, z2, z3, z4⟩, z5, z6, z7, z8⟩ := hb1.mach
 obtain ⟨y0, y1, y2, y3, y4, y5⟩ := hb2.rep
 simp only [slV] at y4 y5 z5
 cases h1 : objMay c.o P.s
 ·go_wp2_with fail
  go_ret
  exact ⟨ret_bool (by unfold repD; rw [h1]; rfl), hl⟩
 by_cases h2 : (cn : Int) = c.l
 case neg =>
   go_wp2_with fail
   go_ret
   exact ⟨ret_bool (by unfold repD; rw [← HCN.out, decide_eq_false h2]; simp), hl⟩
 by_cases h3 : (ln : Int) = c.l
 case neg =>
   go_wp2_with fail
   go_ret
   exact ⟨ret_bool (by unfold repD; rw [← HLN.out, decide_eq_false h3]; simp), hl⟩
 have HE : Hid (objMay c.o P.s = true ∧ (cn : Int) = c.l ∧ (ln : Int) = c.l) := ⟨h1, h2, h3⟩
 go_wp2_with fail
 clear h1 h2 h3
 clear z0 z1 z2 z3 z4 z5 z6 z7 z8 y0 y1 y2 y3 y4 y5
 go_loopw [5] (fun i wr => ∃ k : Nat, (k : Int) ≤ cn ∧ i = .int .i64 k ∧ Hid (∀ i, i < k → (inB (Rs.getD i Rg.zero).h (P.cs.getD i 0) (Rs.getD i Rg.zero).t && inB 0 (P.ls.getD i 0) c.t) = true) ∧ Le w1 wr) (fun i _ => cn - (intOf i).toNat)
 case atStart => exact ⟨0, by omega, rfl, fun i hi => by omega, Le.refl _⟩
 case round =>
   obtain ⟨k, hk, rfl, HA, hle⟩ := hrel
   obtain ⟨⟨z0, z1, z2, z3, z4⟩, z5, z6, z7, z8⟩ := (hb1.le hle).mach
   obtain ⟨y0, y1, y2, y3, y4, y5⟩ := (hb2.le hle).rep
   simp only [slV] at y4 y5 z5
   by_cases hlt : (k : Int) < c.l
   ·have hlc : (k : Int) < (cn : Int) := by have := HE.out.2.1; omega
    have hll : (k : Int) < (ln : Int) := by have := HE.out.2.2; omega
    have hlr : (k : Int) < (rn : Int) := by have := HRN.out; omega
    obtain ⟨b, off, rfl, hcell⟩ := oC (by omega)
    obtain ⟨b', off', rfl, hcell'⟩ := oL (by omega)
    obtain ⟨b'', off'', rfl, hcell''⟩ := oR (by omega)
    obtain ⟨x, hxk⟩ : ∃ x, x = P.cs.getD k 0 := ⟨_, rfl⟩
    obtain ⟨y, hyk⟩ : ∃ x, x = P.ls.getD k 0 := ⟨_, rfl⟩
    obtain ⟨R, hRk⟩ : ∃ x, x = Rs.getD k Rg.zero := ⟨_, rfl⟩
    have x0 := cell_le (cell_le (hcell k (by omega)) hl) hle
    have x1 := cell_le (cell_le (hcell' k (by omega)) hl) hle
    obtain ⟨q, hR0, _⟩ := hcell'' k (by omega)
    obtain ⟨x2, x3, _, _⟩ := (hR0.le hl).le hle
    rw [← hxk] at x0
    rw [← hyk] at x1
    rw [← hRk] at x2 x3
    have HX : Hid (x = P.cs.getD k 0) := hxk
    have HY : Hid (y = P.ls.getD k 0) := hyk
    have HR : Hid (R = Rs.getD k Rg.zero) := hRk
    clear hxk hyk hRk hR0 hcell hcell' hcell'' oC oL oR
    go_upto_region 6 with fail
    replace z0 := cell_later' z0
    replace z1 := cell_later' z1
    replace z2 := cell_later' z2
    replace z3 := cell_later' z3
    replace z4 := cell_later' z4
    replace z5 := cell_later' z5
    replace z6 := cell_later' z6
    replace z7 := cell_later' z7
    replace z8 := cell_later' z8
    replace y4 := cell_later' y4
    replace y5 := cell_later' y5
    replace x0 := cell_later' x0
    replace x1 := cell_later' x1
    replace x2 := cell_later' x2
    replace x3 := cell_later' x3
    clear y0 y1 y2 y3
    have u1 := fun w' => rmUpTo x R.h R.t w'
    have u2 := fun w' => rmUpTo y 0 c.t w'
    cases h1 : inB R.h x R.t
    ·simp only [h1] at u1
     have HB : Hid (inB R.h x R.t = false) := h1
     clear h1
     refine wp_region_later (by kernel_rfl) (by kernel_rfl) ?_
     repeat (go_big_quiet_step (first | (go_at_call 54; first | (with_reducible exact Calls.later_same (u1 _)) | (with_reducible exact Calls.later_same (u2 _)))))
     refine wpQuiet_nil ?_
     rintro _ ⟨X, rfl⟩
     go_wp2_with fail
     go_ret
     exact ⟨ret_bool (by rw [repD_no (k := k) (by have := HCN.out; omega) (by rw [← HR.out, ← HX.out, HB.out]; rfl)]), (hl.trans hle).trans X.le⟩
    simp only [h1] at u1
    have HB : Hid (inB R.h x R.t = true) := h1
    clear h1
    cases h2 : inB 0 y c.t
    ·simp only [h2] at u2
     have HB2 : Hid (inB 0 y c.t = false) := h2
     clear h2
     refine wp_region_later (by kernel_rfl) (by kernel_rfl) ?_
     repeat (go_big_quiet_step (first | (go_at_call 54; first | (with_reducible exact Calls.later_same (u1 _)) | (with_reducible exact Calls.later_same (u2 _)))))
     refine wpQuiet_nil ?_
     rintro _ ⟨X, rfl⟩
     go_wp2_with fail
     go_ret
     exact ⟨ret_bool (by rw [repD_no (k := k) (by have := HCN.out; omega) (by rw [← HR.out, ← HX.out, ← HY.out, HB.out, HB2.out]; rfl)]), (hl.trans hle).trans X.le⟩
    ·simp only [h2] at u2
     have HB2 : Hid (inB 0 y c.t = true) := h2
     clear h2
     refine wp_region_later (by kernel_rfl) (by kernel_rfl) ?_
     repeat (go_big_quiet_step (first | (go_at_call 54; first | (with_reducible exact Calls.later_same (u1 _)) | (with_reducible exact Calls.later_same (u2 _)))))
     refine wpQuiet_nil ?_
     rintro _ ⟨X, rfl⟩
     go_wp2_with fail
     go_roundw
     case rel => exact ⟨k + 1, by omega, by go_num, (fun j hj => by rcases Nat.lt_or_eq_of_le (Nat.le_of_lt_succ hj) with h | h; exact HA.out j h; rw [h, ← HR.out, ← HX.out, ← HY.out, HB.out, HB2.out]; rfl), hle.trans X.le⟩
     case measure => simp [intOf]; omega
   ·have hkl : (k : Int) = c.l := by have := HE.out.2.1; omega
    have hg : repD c Rs P = true := repD_take HA.out hkl HE.out.1 (by rw [← HCN.out]; exact HE.out.2.1) (by rw [← HLN.out]; exact HE.out.2.2)
    have HG : Hid (repD c Rs P = true) := hg
    clear hkl hg
    go_wp2_with fail
    go_ret
    exact ⟨ret_bool HG.out.symm, hl.trans hle⟩
def thD (c : Cfg) (T : Th) : Bool := inB 0 T.st 19 && (opMay T.c T.r T.a && (inB 0 T.lg (c.l - 1) && (inB 0 T.sn 1048576 && (decide ((T.b.length : Int) ≤ c.t) && (inB 0 T.pl T.b.length && (decide ((T.tl.length : Int) ≤ c.l) && (T.b.all (fun x => inB 0 x (c.t - 1)) && T.tl.all (fun x => inB 0 x 1048576))))))))
theorem thB_doc (c : Cfg) (T : Th) : thB c T = thD c T := by
 unfold thB thD
 cases T.b.all (fun x => inB 0 x (c.t - 1)) <;> simp
set_option maxRecDepth 4000 in
set_option maxHeartbeats 8000000 in
theorem rmThreadMay (c : Cfg) (v : Value) (T : Th) (w : World) (hc : c.ok = true) (hx : HasT w v T) (hf : T.b.length * 8 ≤ 140737488351232) (hf2 : T.tl.length * 8 ≤ 140737488351232) :
   Calls Tryz.prog 53 #[cfgV c.o c.r c.l c.t c.s, v] w fun e w' => e = .returned (.bool (thB c T)) ∧ Le w w' := by
 rw [thB_doc]
 obtain ⟨⟨ba, bn, bc⟩, ⟨ta, tn, tc⟩, rfl, i1, i2⟩ := hx
 obtain ⟨_, _, ⟨l0, l1'⟩, ⟨t0, t1⟩, _, _⟩ := Cfg.ok_cases hc
 have hb1 := (Box.new w (#[.int .i64 c.o, .int .i64 c.r, .int .i64 c.l, .int .i64 c.t, .int .i64 c.s]) 23).le (Le.alloc _ (.cells (cellsT T (ba, bn, bc) (ta, tn, tc)) 59))
 have hb2 := Box.new (w.alloc (.cells (#[.int .i64 c.o, .int .i64 c.r, .int .i64 c.l, .int .i64 c.t, .int .i64 c.s]) 23)) (cellsT T (ba, bn, bc) (ta, tn, tc)) 59
 rw [World.size_alloc] at hb2
 have hl := (Le.alloc w (.cells (#[.int .i64 c.o, .int .i64 c.r, .int .i64 c.l, .int .i64 c.t, .int .i64 c.s]) 23)).trans (Le.alloc _ (.cells (cellsT T (ba, bn, bc) (ta, tn, tc)) 59))
 obtain ⟨a, n, hv, bcap, _, oB⟩ := i1
 simp only [slV, Value.slice.injEq] at hv
 obtain ⟨rfl, hbn, rfl⟩ := hv
 obtain ⟨a, n, hv, tcap, _, oT⟩ := i2
 simp only [slV, Value.slice.injEq] at hv
 obtain ⟨rfl, htn, rfl⟩ := hv
 simp only [thD]
 rw [← hbn] at oB bcap hf ⊢
 rw [← htn] at oT tcap hf2 ⊢
 have HBN : Hid (bn = T.b.length) := hbn
 have HTN : Hid (tn = T.tl.length) := htn
 clear hbn htn
 go_enter Tryz.func53, Tryz.ntmps53
 go_upto_region 1 with fail
 generalize hW : (w.alloc (.cells (#[.int .i64 c.o, .int .i64 c.r, .int .i64 c.l, .int .i64 c.t, .int .i64 c.s]) 23)).alloc (.cells (cellsT T (ba, bn, bc) (ta, tn, tc)) 59) = W at hl hb1 hb2 ⊢
 clear hW
 obtain ⟨z0, z1, z2, z3, z4⟩ := hb1.slot
 obtain ⟨b0, b1, b2, b3, b4, b5, b6, b7, b8, b9, b10, b11⟩ := hb2.th
 simp only [slV] at b6 b11
 go_wp2_with fail
 refine (rmUpTo _ _ _ _).mono ?_
 rintro e _ ⟨rfl, rfl⟩
 cases h1 : inB 0 T.st 19
 ·go_wp2_with fail
  go_ret
  exact ⟨ret_bool (by rw [h1]; simp), hl⟩
 have H1 : Hid (inB 0 T.st 19 = true) := h1
 clear h1
 go_wp2_with fail
 refine (refOperMay _ _ _ _).mono ?_
 rintro e w1 ⟨rfl, n1⟩
 replace hb1 := hb1.le n1
 replace hb2 := hb2.le n1
 replace hl := hl.trans n1
 clear n1 z0 z1 z2 z3 z4 b0 b1 b2 b3 b4 b5 b6 b7 b8 b9 b10 b11
 obtain ⟨z0, z1, z2, z3, z4⟩ := hb1.slot
 obtain ⟨b0, b1, b2, b3, b4, b5, b6, b7, b8, b9, b10, b11⟩ := hb2.th
 simp only [slV] at b6 b11
 cases h2 : opMay T.c T.r T.a
 ·go_wp2_with fail
  go_ret
  exact ⟨ret_bool (by rw [h2]; simp), hl⟩
 have H2 : Hid (opMay T.c T.r T.a = true) := h2
 clear h2
 go_wp2_with fail
 refine (rmUpTo _ _ _ _).mono ?_
 rintro e _ ⟨rfl, rfl⟩
 cases h3 : inB 0 T.lg (c.l - 1)
 ·go_wp2_with fail
  go_ret
  exact ⟨ret_bool (by rw [h3]; simp), hl⟩
 have H3 : Hid (inB 0 T.lg (c.l - 1) = true) := h3
 clear h3
 go_wp2_with fail
 refine (rmUpTo _ _ _ _).mono ?_
 rintro e _ ⟨rfl, rfl⟩
 cases h4 : inB 0 T.sn 1048576
 ·go_wp2_with fail
  go_ret
  exact ⟨ret_bool (by rw [h4]; simp), hl⟩
 have H4 : Hid (inB 0 T.sn 1048576 = true) := h4
 clear h4
 by_cases h5 : (bn : Int) ≤ c.t
 case neg =>
   go_wp2_with fail
   go_ret
   exact ⟨ret_bool (by rw [decide_eq_false (p := (bn : Int) ≤ c.t) (by omega)]; simp), hl⟩
 have H5 : Hid ((bn : Int) ≤ c.t) := h5
 go_wp2_with fail
 refine (rmUpTo _ _ _ _).mono ?_
 rintro e _ ⟨rfl, rfl⟩
 cases h6 : inB 0 T.pl bn
 ·go_wp2_with fail
  go_ret
  exact ⟨ret_bool (by rw [h6]; simp), hl⟩
 have H6 : Hid (inB 0 T.pl bn = true) := h6
 clear h6
 by_cases h7 : (tn : Int) ≤ c.l
 case neg =>
   go_wp2_with fail
   go_ret
   exact ⟨ret_bool (by rw [decide_eq_false (p := (tn : Int) ≤ c.l) (by omega)]; simp), hl⟩
 have H7 : Hid ((tn : Int) ≤ c.l) := h7
 go_wp2_with fail
 clear h5 h7
 clear z0 z1 z2 z3 z4 b0 b1 b2 b3 b4 b5 b6 b7 b8 b9 b10 b11
 go_loopw [5] (fun i wr => ∃ k : Nat, k ≤ bn ∧ i = .int .i64 k ∧ Hid ((T.b.take k).all (fun x => inB 0 x (c.t - 1)) = true) ∧ Le w1 wr) (fun i _ => bn - (intOf i).toNat)
 case atStart => exact ⟨0, by omega, rfl, rfl, Le.refl _⟩
 case round =>
   obtain ⟨k, hk, rfl, HA, hle⟩ := hrel
   obtain ⟨z0, z1, z2, z3, z4⟩ := (hb1.le hle).slot
   obtain ⟨b0, b1, b2, b3, b4, b5, b6, b7, b8, b9, b10, b11⟩ := (hb2.le hle).th
   simp only [slV] at b6 b11
   by_cases hlt : k < bn
   ·have hlt' : (k : Int) < (bn : Int) := by omega
    obtain ⟨b, off, rfl, hcell⟩ := oB (by omega)
    obtain ⟨x, hxk⟩ : ∃ x, x = T.b.getD k 0 := ⟨_, rfl⟩
    have x0 := cell_le (cell_le (hcell k hlt) hl) hle
    rw [← hxk] at x0
    have HX : Hid (x = T.b.getD k 0) := hxk
    clear hxk hcell oB oT
    go_upto_region 6 with fail
    replace z0 := cell_later' z0
    replace z1 := cell_later' z1
    replace z2 := cell_later' z2
    replace z3 := cell_later' z3
    replace z4 := cell_later' z4
    replace b6 := cell_later' b6
    replace x0 := cell_later' x0
    have u1 := fun w' => rmUpTo x 0 (c.t - 1) w'
    cases h1 : inB 0 x (c.t - 1)
    ·simp only [h1] at u1
     have HB : Hid (inB 0 x (c.t - 1) = false) := h1
     clear h1
     refine wp_region_later (by kernel_rfl) (by kernel_rfl) ?_
     repeat (go_big_quiet_step (first | (go_at_call 54; with_reducible exact Calls.later_same (u1 _))))
     refine wpQuiet_nil ?_
     rintro _ ⟨X, rfl⟩
     go_wp2_with fail
     go_ret
     exact ⟨ret_bool (by rw [Go.Proofs.YtepplhbajmlbpaaGreat.all_bad (xs := T.b) (k := k) (p := fun x => inB 0 x (c.t - 1)) (by have := HBN.out; omega) (by rw [← HX.out]; exact HB.out)]; simp), (hl.trans hle).trans X.le⟩
    ·simp only [h1] at u1
     have HB : Hid (inB 0 x (c.t - 1) = true) := h1
     clear h1
     refine wp_region_later (by kernel_rfl) (by kernel_rfl) ?_
     repeat (go_big_quiet_step (first | (go_at_call 54; with_reducible exact Calls.later_same (u1 _))))
     refine wpQuiet_nil ?_
     rintro _ ⟨X, rfl⟩
     go_wp2_with fail
     go_roundw
     case rel => exact ⟨k + 1, by omega, by go_num, (by rw [Go.Proofs.YtepplhbajmlbpaaGreat.all_take (by have := HBN.out; omega), HA.out, ← HX.out, HB.out]; rfl), hle.trans X.le⟩
     case measure => simp [intOf]; omega
   ·obtain rfl : k = bn := by omega
    have hall : T.b.all (fun x => inB 0 x (c.t - 1)) = true := by
      have := HA.out
      rwa [HBN.out, List.take_length] at this
    have HALL : Hid (T.b.all (fun x => inB 0 x (c.t - 1)) = true) := hall
    clear hall
    go_wp2_with fail
    clear z0 z1 z2 z3 z4 b0 b1 b2 b3 b4 b5 b6 b7 b8 b9 b10 b11
    go_loopw [6] (fun i wr' => ∃ k : Nat, k ≤ tn ∧ i = .int .i64 k ∧ Hid ((T.tl.take k).all (fun x => inB 0 x 1048576) = true) ∧ Le wr wr') (fun i _ => tn - (intOf i).toNat)
    case atStart => exact ⟨0, by omega, rfl, rfl, Le.refl _⟩
    case round =>
      clear HA hk hlt
      obtain ⟨k, hk, rfl, HA, hle2⟩ := hrel
      have hle0 := hle.trans hle2
      clear hle
      have hle := hle0
      clear hle0
      obtain ⟨z0, z1, z2, z3, z4⟩ := (hb1.le hle).slot
      obtain ⟨b0, b1, b2, b3, b4, b5, b6, b7, b8, b9, b10, b11⟩ := (hb2.le hle).th
      simp only [slV] at b6 b11
      by_cases hlt : k < tn
      ·have hlt' : (k : Int) < (tn : Int) := by omega
       obtain ⟨b, off, rfl, hcell⟩ := oT (by omega)
       obtain ⟨x, hxk⟩ : ∃ x, x = T.tl.getD k 0 := ⟨_, rfl⟩
       have x0 := cell_le (cell_le (hcell k hlt) hl) hle
       rw [← hxk] at x0
       have HX : Hid (x = T.tl.getD k 0) := hxk
       clear hxk hcell oB oT
       go_wp2_with fail
       refine (rmUpTo _ _ _ _).mono ?_
       rintro e _ ⟨rfl, rfl⟩
       cases h1 : inB 0 x 1048576
       ·have HB : Hid (inB 0 x 1048576 = false) := h1
        clear h1
        go_wp2_with fail
        go_ret
        exact ⟨ret_bool (by rw [Go.Proofs.YtepplhbajmlbpaaGreat.all_bad (xs := T.tl) (k := k) (p := fun x => inB 0 x 1048576) (by have := HTN.out; omega) (by rw [← HX.out]; exact HB.out)]; simp), hl.trans hle⟩
       ·have HB : Hid (inB 0 x 1048576 = true) := h1
        clear h1
        go_wp2_with fail
        go_roundw
        case rel => exact ⟨k + 1, by omega, by go_num, (by rw [Go.Proofs.YtepplhbajmlbpaaGreat.all_take (by have := HTN.out; omega), HA.out, ← HX.out, HB.out]; rfl), hle2⟩
        case measure => simp [intOf]; omega
      ·obtain rfl : k = tn := by omega
       have hall : T.tl.all (fun x => inB 0 x 1048576) = true := by
         have := HA.out
         rwa [HTN.out, List.take_length] at this
       have HALL2 : Hid (T.tl.all (fun x => inB 0 x 1048576) = true) := hall
       clear hall
       go_wp2_with fail
       go_ret
       exact ⟨ret_bool (by rw [H1.out, H2.out, H3.out, H4.out, decide_eq_true H5.out, H6.out, decide_eq_true H7.out, HALL.out, HALL2.out]; rfl), hl.trans hle⟩
theorem allG_take {α : Type} {xs : List α} {p : α → Bool} {k : Nat} (d : α) (hk : k < xs.length) (h : (xs.take k).all p = true) (hp : p (xs.getD k d) = true) : (xs.take (k + 1)).all p = true := by
 rw [List.take_succ_eq_append_getElem hk, List.all_append, h]
 simp only [List.getD, List.getElem?_eq_getElem hk, Option.getD_some] at hp
 simp [hp]
theorem allG_no {α : Type} {xs : List α} {p : α → Bool} {k : Nat} (d : α) (hk : k < xs.length) (hp : p (xs.getD k d) = false) : xs.all p = false := by
 rw [← Bool.not_eq_true, List.all_eq_true]
 intro h
 have := h _ (getD_mem (d := d) hk)
 rw [hp] at this
 cases this
def mayD (M : Mc) : Bool := M.c.ok && (decide ((M.rs.length : Int) = M.c.l) && (decide ((M.ps.length : Int) = M.c.r) && (decide ((M.ts.length : Int) = M.c.t) && (decide ((M.es.length : Int) ≤ 64) && (M.rs.all (ringB M.c) && (M.ps.all (repB M.c M.rs) && (M.ts.all (thB M.c) && M.es.all (evB M.c))))))))
theorem mayM_doc (M : Mc) : mayM M = mayD M := by
 unfold mayM mayD
 cases M.rs.all (ringB M.c) <;> cases M.ps.all (repB M.c M.rs) <;> cases M.ts.all (thB M.c) <;> simp
set_option maxRecDepth 4000 in
set_option maxHeartbeats 16000000 in
theorem rmMay (v : Value) (M : Mc) (w : World) (hx : HasM w v M) (hf : FitM M) : Calls Tryz.prog 17 #[v] w fun e w' => e = .returned (.bool (mayM M)) ∧ Le w w' := by
 rw [mayM_doc]
 have hx0 := hx
 obtain ⟨c, Rs, Ps, Ts, Es⟩ := M
 obtain ⟨⟨ra, rn, rc⟩, ⟨pa, pn, pc⟩, ⟨ta, tn, tc⟩, ⟨ea, en, ec⟩, rfl, hR, hP, hT, hH⟩ := hx
 obtain ⟨f1, f2, f3, f4, fr, fp, ft⟩ := hf
 simp only at hR hP hT hH f1 f2 f3 f4 fr fp ft
 obtain ⟨a, n, hv, _, _, oR⟩ := hR.open
 simp only [slV, Value.slice.injEq] at hv
 obtain ⟨rfl, hrn, rfl⟩ := hv
 obtain ⟨a, n, hv, _, _, oP⟩ := hP.open
 simp only [slV, Value.slice.injEq] at hv
 obtain ⟨rfl, hpn, rfl⟩ := hv
 obtain ⟨a, n, hv, _, _, oT⟩ := hT.open
 simp only [slV, Value.slice.injEq] at hv
 obtain ⟨rfl, htn, rfl⟩ := hv
 obtain ⟨a, n, hv, _, _, oE⟩ := hH.openEv
 simp only [slV, Value.slice.injEq] at hv
 obtain ⟨rfl, hen, rfl⟩ := hv
 clear hR hP hT hH
 simp only [mayD]
 rw [← hrn] at oR f1 ⊢
 rw [← hpn] at oP f2 ⊢
 rw [← htn] at oT f3 ⊢
 rw [← hen] at oE f4 ⊢
 have HRN : Hid (rn = Rs.length) := hrn
 have HPN : Hid (pn = Ps.length) := hpn
 have HTN : Hid (tn = Ts.length) := htn
 have HEN : Hid (en = Es.length) := hen
 clear hrn hpn htn hen
 have hb := Box.new w (cells9 c (ra, rn, rc) (pa, pn, pc) (ta, tn, tc) (ea, en, ec)) 29
 have hl := Le.alloc w (.cells (cells9 c (ra, rn, rc) (pa, pn, pc) (ta, tn, tc) (ea, en, ec)) 29)
 have m1 := fun w' => rmConfigMay c.o c.r c.l c.t c.s w'
 obtain ⟨⟨z0, z1, z2, z3, z4⟩, z5, z6, z7, z8⟩ := hb.mach
 go_enter Tryz.func17, Tryz.ntmps17
 go_upto_region 2 with fail
 have hb2 := Box.new (w.alloc (.cells (cells9 c (ra, rn, rc) (pa, pn, pc) (ta, tn, tc) (ea, en, ec)) 29)) #[.int .i64 c.o, .int .i64 c.r, .int .i64 c.l, .int .i64 c.t, .int .i64 c.s] 23
 rw [World.size_alloc] at hb2
 have hA := Le.alloc (w.alloc (.cells (cells9 c (ra, rn, rc) (pa, pn, pc) (ta, tn, tc) (ea, en, ec)) 29)) (.cells #[.int .i64 c.o, .int .i64 c.r, .int .i64 c.l, .int .i64 c.t, .int .i64 c.s] 23)
 replace hl := hl.trans hA
 replace hb := hb.le hA
 clear hA z0 z1 z2 z3 z4 z5 z6 z7 z8
 generalize hW : (w.alloc (.cells (cells9 c (ra, rn, rc) (pa, pn, pc) (ta, tn, tc) (ea, en, ec)) 29)).alloc (.cells #[.int .i64 c.o, .int .i64 c.r, .int .i64 c.l, .int .i64 c.t, .int .i64 c.s] 23) = W at hl hb hb2 ⊢
 clear hW
 obtain ⟨⟨z0, z1, z2, z3, z4⟩, z5, z6, z7, z8⟩ := hb.mach
 obtain ⟨y0, y1, y2, y3, y4⟩ := hb2.slot
 simp only [slV] at z5 z6 z7 z8
 go_wp2_with fail
 refine (m1 _).mono ?_
 rintro e w1 ⟨rfl, n1⟩
 clear z0 z1 z2 z3 z4 z5 z6 z7 z8 y0 y1 y2 y3 y4 m1
 replace hb := hb.le n1
 replace hb2 := hb2.le n1
 replace hl := hl.trans n1
 clear n1
 obtain ⟨⟨z0, z1, z2, z3, z4⟩, z5, z6, z7, z8⟩ := hb.mach
 obtain ⟨y0, y1, y2, y3, y4⟩ := hb2.slot
 simp only [slV] at z5 z6 z7 z8
 cases h1 : cfgB c.o c.r c.l c.t c.s
 ·go_wp2_with fail
  go_ret
  exact ⟨ret_bool (by unfold Cfg.ok; rw [h1]; simp), hl⟩
 have hc : c.ok = true := h1
 have H1 : Hid (c.ok = true) := h1
 clear h1
 by_cases h2 : (rn : Int) = c.l
 case neg =>
   go_wp2_with fail
   go_ret
   exact ⟨ret_bool (by rw [decide_eq_false h2]; simp), hl⟩
 by_cases h3 : (pn : Int) = c.r
 case neg =>
   go_wp2_with fail
   go_ret
   exact ⟨ret_bool (by rw [decide_eq_false (p := (pn : Int) = c.r) h3]; simp), hl⟩
 by_cases h4 : (tn : Int) = c.t
 case neg =>
   go_wp2_with fail
   go_ret
   exact ⟨ret_bool (by rw [decide_eq_false (p := (tn : Int) = c.t) h4]; simp), hl⟩
 by_cases h5 : (en : Int) ≤ 64
 case neg =>
   go_wp2_with fail
   go_ret
   exact ⟨ret_bool (by rw [decide_eq_false (p := (en : Int) ≤ 64) (by omega)]; simp), hl⟩
 obtain ⟨_, _, _, ⟨t0, t1⟩, _, _⟩ := Cfg.ok_cases hc
 have H2 : Hid ((rn : Int) = c.l) := h2
 have H3 : Hid ((pn : Int) = c.r) := h3
 have H4 : Hid ((tn : Int) = c.t) := h4
 have H5 : Hid ((en : Int) ≤ 64) := h5
 go_wp2_with fail
 clear h2 h3 h4 h5 z0 z1 z2 z3 z4 z5 z6 z7 z8 y0 y1 y2 y3 y4
 go_loopw [4] (fun i wr => ∃ k : Nat, k ≤ rn ∧ i = .int .i64 k ∧ Hid ((Rs.take k).all (ringB c) = true) ∧ Le w1 wr) (fun i _ => rn - (intOf i).toNat)
 case atStart => exact ⟨0, by omega, rfl, rfl, Le.refl _⟩
 case round =>
   obtain ⟨k, hk, rfl, HA, hle⟩ := hrel
   obtain ⟨⟨z0, z1, z2, z3, z4⟩, z5, z6, z7, z8⟩ := (hb.le hle).mach
   obtain ⟨y0, y1, y2, y3, y4⟩ := (hb2.le hle).slot
   simp only [slV] at z5 z6 z7 z8
   by_cases hlt : k < rn
   ·have hlt' : (k : Int) < c.l := by have := H2.out; omega
    have hltn : (k : Int) < (rn : Int) := by omega
    obtain ⟨b, off, rfl, hcell⟩ := oR (by omega)
    obtain ⟨q, hat, hq⟩ := hcell k hlt
    have hfr : FitR (Rs.getD k Rg.zero) := fr _ (getD_mem (by have := HRN.out; omega))
    obtain ⟨R, hRk⟩ : ∃ x, x = Rs.getD k Rg.zero := ⟨_, rfl⟩
    rw [← hRk] at hat hq hfr
    have HR : Hid (R = Rs.getD k Rg.zero) := hRk
    clear hRk hcell oR oP oT oE
    obtain ⟨x0, x1, x2, x3⟩ := (hat.le hl).le hle
    replace hq := (hq.le hl).le hle
    have u1 := fun X : Later wr => rmRingMay c (ringV R.h R.t R.f q) R X.w (HasR.le ⟨q, rfl, hq⟩ X.le) hfr
    clear hat hfr hq
    go_upto_region 7 with fail
    replace y0 := cell_later' y0
    replace y1 := cell_later' y1
    replace y2 := cell_later' y2
    replace y3 := cell_later' y3
    replace y4 := cell_later' y4
    replace z5 := cell_later' z5
    replace x0 := cell_later' x0
    replace x1 := cell_later' x1
    replace x2 := cell_later' x2
    replace x3 := cell_later' x3
    cases h1 : ringB c R
    ·simp only [h1] at u1
     have HB : Hid (ringB c R = false) := h1
     clear h1
     refine wp_region_later (by kernel_rfl) (by kernel_rfl) ?_
     repeat (go_big_quiet_step (first | (go_at_call 51; with_reducible exact Calls.later (u1 _))))
     refine wpQuiet_nil ?_
     rintro _ ⟨X, rfl⟩
     go_wp2_with fail
     go_ret
     exact ⟨ret_bool (by rw [allG_no (xs := Rs) (k := k) (p := ringB c) Rg.zero (by have := HRN.out; omega) (by rw [← HR.out]; exact HB.out)]; simp), (hl.trans hle).trans X.le⟩
    ·simp only [h1] at u1
     have HB : Hid (ringB c R = true) := h1
     clear h1
     refine wp_region_later (by kernel_rfl) (by kernel_rfl) ?_
     repeat (go_big_quiet_step (first | (go_at_call 51; with_reducible exact Calls.later (u1 _))))
     refine wpQuiet_nil ?_
     rintro _ ⟨X, rfl⟩
     go_wp2_with fail
     go_roundw
     case rel => exact ⟨k + 1, by omega, by go_num, allG_take Rg.zero (by have := HRN.out; omega) HA.out (by rw [← HR.out]; exact HB.out), hle.trans X.le⟩
     case measure => simp [intOf]; omega
   ·obtain rfl : rn = k := by omega
    have hge : c.l ≤ (rn : Int) := by have := H2.out; omega
    have hall : Rs.all (ringB c) = true := by
      have := HA.out
      rwa [HRN.out, List.take_length] at this
    have HALL1 : Hid (Rs.all (ringB c) = true) := hall
    clear hall HA
    go_wp2_with fail
    clear hge z0 z1 z2 z3 z4 z5 z6 z7 z8 y0 y1 y2 y3 y4
    have hle1 := hl.trans hle
    replace hb := hb.le hle
    replace hb2 := hb2.le hle
    clear hle hlt hk hl
    have hn0 : (Rs.length : Int) = c.l := by have := HRN.out; have := H2.out; omega
    have HN0 : Hid ((Rs.length : Int) = c.l) := hn0
    clear hn0
    go_loopw [5] (fun i wr' => ∃ k : Nat, k ≤ pn ∧ i = .int .i64 k ∧ Hid ((Ps.take k).all (repB c Rs) = true) ∧ Le wr wr') (fun i _ => pn - (intOf i).toNat)
    case atStart => exact ⟨0, by omega, rfl, rfl, Le.refl _⟩
    case round =>
      obtain ⟨k, hk, rfl, HA, hle⟩ := hrel
      obtain ⟨⟨z0, z1, z2, z3, z4⟩, z5, z6, z7, z8⟩ := (hb.le hle).mach
      obtain ⟨y0, y1, y2, y3, y4⟩ := (hb2.le hle).slot
      simp only [slV] at z5 z6 z7 z8
      by_cases hlt : k < pn
      ·have hlt' : (k : Int) < c.r := by have := H3.out; omega
       have hltn : (k : Int) < (pn : Int) := by omega
       obtain ⟨b, off, rfl, hcell⟩ := oP (by omega)
       obtain ⟨vs, qa, qb, hat, hs, ha, hb'⟩ := hcell k hlt
       have hfr := fp _ (getD_mem (xs := Ps) (d := Rp.zero) (i := k) (by have := HPN.out; omega))
       obtain ⟨P, hPk⟩ : ∃ x, x = Ps.getD k Rp.zero := ⟨_, rfl⟩
       rw [← hPk] at hs ha hb' hfr
       have HP : Hid (P = Ps.getD k Rp.zero) := hPk
       clear hPk hcell oR oP oT oE
       obtain ⟨x0, x1, x2, x3, x4, x5⟩ := (hat.le hle1).le hle
       have hPP : HasP wr (repV vs qa qb) P := ⟨vs, qa, qb, rfl, fun i hi => ((hs i hi).le hle1).le hle, (ha.le hle1).le hle, (hb'.le hle1).le hle⟩
       have u1 := fun X : Later wr => rmReplicaMay ⟨c, Rs, Ps, Ts, Es⟩ _ (repV vs qa qb) P X.w (((hx0.le hle1).le hle).le X.le) HN0.out (hPP.le X.le) hfr.1 (by show Rs.length * 48 ≤ _; have := HRN.out; omega) hfr.2.1 hfr.2.2
       simp only at u1
       clear hat hfr hs ha hb' hPP
       go_upto_region 12 with fail
       replace z0 := cell_later' z0
       replace z1 := cell_later' z1
       replace z2 := cell_later' z2
       replace z3 := cell_later' z3
       replace z4 := cell_later' z4
       replace z5 := cell_later' z5
       replace z6 := cell_later' z6
       replace z7 := cell_later' z7
       replace z8 := cell_later' z8
       replace x0 := cell_later' x0
       replace x1 := cell_later' x1
       replace x2 := cell_later' x2
       replace x3 := cell_later' x3
       replace x4 := cell_later' x4
       replace x5 := cell_later' x5
       cases h1 : repB c Rs P
       ·simp only [h1] at u1
        have HB : Hid (repB c Rs P = false) := h1
        clear h1
        refine wp_region_later (by kernel_rfl) (by kernel_rfl) ?_
        repeat (go_big_quiet_step (first | (go_at_call 52; with_reducible exact Calls.later (u1 _))))
        refine wpQuiet_nil ?_
        rintro _ ⟨X, rfl⟩
        go_wp2_with fail
        go_ret
        exact ⟨ret_bool (by rw [allG_no (xs := Ps) (k := k) (p := repB c Rs) Rp.zero (by have := HPN.out; omega) (by rw [← HP.out]; exact HB.out)]; simp), (hle1.trans hle).trans X.le⟩
       ·simp only [h1] at u1
        have HB : Hid (repB c Rs P = true) := h1
        clear h1
        refine wp_region_later (by kernel_rfl) (by kernel_rfl) ?_
        repeat (go_big_quiet_step (first | (go_at_call 52; with_reducible exact Calls.later (u1 _))))
        refine wpQuiet_nil ?_
        rintro _ ⟨X, rfl⟩
        go_wp2_with fail
        go_roundw
        case rel => exact ⟨k + 1, by omega, by go_num, allG_take Rp.zero (by have := HPN.out; omega) HA.out (by rw [← HP.out]; exact HB.out), hle.trans X.le⟩
        case measure => simp [intOf]; omega
      ·obtain rfl : pn = k := by omega
       have hge : c.r ≤ (pn : Int) := by have := H3.out; omega
       have hall : Ps.all (repB c Rs) = true := by
         have := HA.out
         rwa [HPN.out, List.take_length] at this
       have HALL2 : Hid (Ps.all (repB c Rs) = true) := hall
       clear hall HA
       go_wp2_with fail
       clear hge z0 z1 z2 z3 z4 z5 z6 z7 z8 y0 y1 y2 y3 y4
       have hle2 := hle1.trans hle
       replace hb := hb.le hle
       replace hb2 := hb2.le hle
       clear hle hlt hk hle1
       go_loopw [6] (fun i wr' => ∃ k : Nat, k ≤ tn ∧ i = .int .i64 k ∧ Hid ((Ts.take k).all (thB c) = true) ∧ Le wr wr') (fun i _ => tn - (intOf i).toNat)
       case atStart => exact ⟨0, by omega, rfl, rfl, Le.refl _⟩
       case round =>
         obtain ⟨k, hk, rfl, HA, hle⟩ := hrel
         obtain ⟨⟨z0, z1, z2, z3, z4⟩, z5, z6, z7, z8⟩ := (hb.le hle).mach
         obtain ⟨y0, y1, y2, y3, y4⟩ := (hb2.le hle).slot
         simp only [slV] at z5 z6 z7 z8
         by_cases hlt : k < tn
         ·have hlt' : (k : Int) < c.t := by have := H4.out; omega
          have hltn : (k : Int) < (tn : Int) := by omega
          obtain ⟨b, off, rfl, hcell⟩ := oT (by omega)
          obtain ⟨qa, qb, hat, ha, hb'⟩ := hcell k hlt
          have hfr := ft _ (getD_mem (xs := Ts) (d := Th.zero) (i := k) (by have := HTN.out; omega))
          obtain ⟨T, hTk⟩ : ∃ x, x = Ts.getD k Th.zero := ⟨_, rfl⟩
          rw [← hTk] at hat ha hb' hfr
          have HT : Hid (T = Ts.getD k Th.zero) := hTk
          clear hTk hcell oR oP oT oE
          obtain ⟨x0, x1, x2, x3, x4, x5, x6, x7, x8, x9, x10, x11⟩ := (hat.le hle2).le hle
          have hTT : HasT wr (thV T qa qb) T := ⟨qa, qb, rfl, (ha.le hle2).le hle, (hb'.le hle2).le hle⟩
          have u1 := fun X : Later wr => rmThreadMay c (thV T qa qb) T X.w H1.out (hTT.le X.le) hfr.1 hfr.2
          clear hat hfr ha hb' hTT
          go_upto_region 17 with fail
          replace y0 := cell_later' y0
          replace y1 := cell_later' y1
          replace y2 := cell_later' y2
          replace y3 := cell_later' y3
          replace y4 := cell_later' y4
          replace z7 := cell_later' z7
          replace x0 := cell_later' x0
          replace x1 := cell_later' x1
          replace x2 := cell_later' x2
          replace x3 := cell_later' x3
          replace x4 := cell_later' x4
          replace x5 := cell_later' x5
          replace x6 := cell_later' x6
          replace x7 := cell_later' x7
          replace x8 := cell_later' x8
          replace x9 := cell_later' x9
          replace x10 := cell_later' x10
          replace x11 := cell_later' x11
          cases h1 : thB c T
          ·simp only [h1] at u1
           have HB : Hid (thB c T = false) := h1
           clear h1
           refine wp_region_later (by kernel_rfl) (by kernel_rfl) ?_
           repeat (go_big_quiet_step (first | (go_at_call 53; with_reducible exact Calls.later (u1 _))))
           refine wpQuiet_nil ?_
           rintro _ ⟨X, rfl⟩
           go_wp2_with fail
           go_ret
           exact ⟨ret_bool (by rw [allG_no (xs := Ts) (k := k) (p := thB c) Th.zero (by have := HTN.out; omega) (by rw [← HT.out]; exact HB.out)]; simp), (hle2.trans hle).trans X.le⟩
          ·simp only [h1] at u1
           have HB : Hid (thB c T = true) := h1
           clear h1
           refine wp_region_later (by kernel_rfl) (by kernel_rfl) ?_
           repeat (go_big_quiet_step (first | (go_at_call 53; with_reducible exact Calls.later (u1 _))))
           refine wpQuiet_nil ?_
           rintro _ ⟨X, rfl⟩
           go_wp2_with fail
           go_roundw
           case rel => exact ⟨k + 1, by omega, by go_num, allG_take Th.zero (by have := HTN.out; omega) HA.out (by rw [← HT.out]; exact HB.out), hle.trans X.le⟩
           case measure => simp [intOf]; omega
         ·obtain rfl : tn = k := by omega
          have hge : c.t ≤ (tn : Int) := by have := H4.out; omega
          have hall : Ts.all (thB c) = true := by
            have := HA.out
            rwa [HTN.out, List.take_length] at this
          have HALL3 : Hid (Ts.all (thB c) = true) := hall
          clear hall HA
          go_wp2_with fail
          clear hge z0 z1 z2 z3 z4 z5 z6 z7 z8 y0 y1 y2 y3 y4
          have hle3 := hle2.trans hle
          replace hb := hb.le hle
          replace hb2 := hb2.le hle
          clear hle hlt hk hle2
          go_loopw [7] (fun i wr' => ∃ k : Nat, k ≤ en ∧ i = .int .i64 k ∧ Hid ((Es.take k).all (evB c) = true) ∧ Le wr wr') (fun i _ => en - (intOf i).toNat)
          case atStart => exact ⟨0, by omega, rfl, rfl, Le.refl _⟩
          case round =>
            obtain ⟨k, hk, rfl, HA, hle⟩ := hrel
            obtain ⟨⟨z0, z1, z2, z3, z4⟩, z5, z6, z7, z8⟩ := (hb.le hle).mach
            obtain ⟨y0, y1, y2, y3, y4⟩ := (hb2.le hle).slot
            simp only [slV] at z5 z6 z7 z8
            by_cases hlt : k < en
            ·have hltn : (k : Int) < (en : Int) := by omega
             obtain ⟨b, off, rfl, hcell⟩ := oE (by omega)
             have hat := hcell k hlt
             obtain ⟨E, hEk⟩ : ∃ x, x = Es.getD k Ev.zero := ⟨_, rfl⟩
             rw [← hEk] at hat
             have HE : Hid (E = Es.getD k Ev.zero) := hEk
             clear hEk hcell oR oP oT oE
             obtain ⟨x0, x1, x2, x3, x4, x5⟩ := (hat.le hle3).le hle
             have u1 := fun w' => rmUpTo E.t 0 (c.t - 1) w'
             have u2 := fun w' => refOperMay E.c E.r E.a w'
             clear hat
             go_upto_region 22 with fail
             replace y0 := cell_later' y0
             replace y1 := cell_later' y1
             replace y2 := cell_later' y2
             replace y3 := cell_later' y3
             replace y4 := cell_later' y4
             replace z8 := cell_later' z8
             replace x0 := cell_later' x0
             replace x2 := cell_later' x2
             replace x3 := cell_later' x3
             replace x4 := cell_later' x4
             cases h1 : inB 0 E.t (c.t - 1)
             ·simp only [h1] at u1
              have HB : Hid (evB c E = false) := by unfold evB; rw [h1]; exact rfl
              clear h1
              refine wp_region_later (by kernel_rfl) (by kernel_rfl) ?_
              repeat (go_big_quiet_step (first | (go_at_call 54; with_reducible exact Calls.later_same (u1 _)) | (go_at_call 44; with_reducible exact Calls.later (u2 _))))
              refine wpQuiet_nil ?_
              rintro _ ⟨X, rfl⟩
              go_wp2_with fail
              go_ret
              exact ⟨ret_bool (by rw [allG_no (xs := Es) (k := k) (p := evB c) Ev.zero (by have := HEN.out; omega) (by rw [← HE.out]; exact HB.out)]; simp), (hle3.trans hle).trans X.le⟩
             simp only [h1] at u1
             cases h2 : opMay E.c E.r E.a
             ·simp only [h2] at u2
              have HB : Hid (evB c E = false) := by unfold evB; rw [h1, h2]; exact rfl
              clear h1 h2
              refine wp_region_later (by kernel_rfl) (by kernel_rfl) ?_
              repeat (go_big_quiet_step (first | (go_at_call 54; with_reducible exact Calls.later_same (u1 _)) | (go_at_call 44; with_reducible exact Calls.later (u2 _))))
              refine wpQuiet_nil ?_
              rintro _ ⟨X, rfl⟩
              go_wp2_with fail
              go_ret
              exact ⟨ret_bool (by rw [allG_no (xs := Es) (k := k) (p := evB c) Ev.zero (by have := HEN.out; omega) (by rw [← HE.out]; exact HB.out)]; simp), (hle3.trans hle).trans X.le⟩
             ·simp only [h2] at u2
              have HB : Hid (evB c E = true) := by unfold evB; rw [h1, h2]; exact rfl
              clear h1 h2
              refine wp_region_later (by kernel_rfl) (by kernel_rfl) ?_
              repeat (go_big_quiet_step (first | (go_at_call 54; with_reducible exact Calls.later_same (u1 _)) | (go_at_call 44; with_reducible exact Calls.later (u2 _))))
              refine wpQuiet_nil ?_
              rintro _ ⟨X, rfl⟩
              go_wp2_with fail
              go_roundw
              case rel => exact ⟨k + 1, by omega, by go_num, allG_take Ev.zero (by have := HEN.out; omega) HA.out (by rw [← HE.out]; exact HB.out), hle.trans X.le⟩
              case measure => simp [intOf]; omega
            ·obtain rfl : en = k := by omega
             have hall : Es.all (evB c) = true := by
               have := HA.out
               rwa [HEN.out, List.take_length] at this
             have HALL4 : Hid (Es.all (evB c) = true) := hall
             clear hall HA
             go_wp2_with fail
             go_ret
             exact ⟨ret_bool (by rw [H1.out, decide_eq_true H2.out, decide_eq_true H3.out, decide_eq_true H4.out, decide_eq_true H5.out, HALL1.out, HALL2.out, HALL3.out, HALL4.out]; rfl), hle3.trans hle⟩
def Mc.th (M : Mc) (t : Int) : Th := M.ts.getD t.toNat Th.zero
def Mc.rp (M : Mc) (r : Int) : Rp := M.ps.getD r.toNat Rp.zero
def Mc.rg (M : Mc) (g : Int) : Rg := M.rs.getD g.toNat Rg.zero
def Mc.putT (M : Mc) (t : Int) (x : Th) : Mc := { M with ts := M.ts.set t.toNat x }
def Mc.putP (M : Mc) (r : Int) (x : Rp) : Mc := { M with ps := M.ps.set r.toNat x }
def Mc.putR (M : Mc) (g : Int) (x : Rg) : Mc := { M with rs := M.rs.set g.toNat x }
def Rp.cur (P : Rp) (g : Int) : Int := P.cs.getD g.toNat 0
def Rp.lock (P : Rp) (g : Int) : Int := P.ls.getD g.toNat 0
def Rp.setCur (P : Rp) (g x : Int) : Rp := { P with cs := P.cs.set g.toNat x }
def Rp.setLock (P : Rp) (g x : Int) : Rp := { P with ls := P.ls.set g.toNat x }
def Mc.home (M : Mc) (t : Int) : Int := t % M.c.r
def thereB (M : Mc) (r g t : Int) : Bool := mayM M && (inB 0 r (M.c.r - 1) && (inB 0 g (M.c.l - 1) && inB 0 t (M.c.t - 1)))
def tryM (M : Mc) (r g t : Int) : Mc × Bool × Int :=
 if thereB M r g t then (if (M.rp r).lock g = 0 then (M.putP r ((M.rp r).setLock g (t + 1)), true, 0) else (M, false, 0)) else (Mc.zero, false, 1500)
def freeM (M : Mc) (r g : Int) : Mc × Int := if thereB M r g 0 then (M.putP r ((M.rp r).setLock g 0), 0) else (Mc.zero, 1500)
def postM (M : Mc) (t : Int) : Mc × Int := if thereB M 0 0 t then (M.putT t { M.th t with po := true, re := false }, 0) else (Mc.zero, 1600)
def waitsB (M : Mc) (r g : Int) (i : Nat) : Bool := decide ((i : Int) % M.c.r = r) && (opUp (M.th i).c (M.th i).r (M.th i).a && (decide ((M.th i).lg = g) && (M.th i).po))
def waiters (M : Mc) (r g : Int) (n : Nat) : List Int := ((List.range n).filter (waitsB M r g)).map Int.ofNat
def waitM (M : Mc) (r g : Int) : List Int × Int := if thereB M r g 0 then (waiters M r g M.c.t.toNat, 0) else ([], 1600)
def unpost (M : Mc) (bs : List Int) : Mc := bs.foldl (fun M b => M.putT b { M.th b with po := false }) M
def collectM (M : Mc) (t : Int) : Mc × Int :=
 if thereB M 0 0 t && decide ((M.th t).st = 3) then
   ((unpost M (waitM M (M.home t) (M.th t).lg).1).putT t { (unpost M (waitM M (M.home t) (M.th t).lg).1).th t with b := (waitM M (M.home t) (M.th t).lg).1, pl := 0, st := if (waitM M (M.home t) (M.th t).lg).1 = [] then 9 else 4 }, 0)
 else (Mc.zero, 1700)
def oneP (M : Mc) (r g : Int) (s : Slt) : Rp := { (M.rp r).setCur g ((M.rp r).cur g + 1) with s := (objS M.c.o (M.rp r).s s.c s.r s.a 1800).1 }
def oneT (M : Mc) (r : Int) (s : Slt) : Th := { M.th s.t with an := (objS M.c.o (M.rp r).s s.c s.r s.a 1800).2.1, re := true }
def oneM (M : Mc) (r g : Int) : Mc × Bool × Int :=
 if thereB M r g 0 then
   (if (entryS (M.rg g) ((M.rp r).cur g)).2 = 0 then
     (if (entryS (M.rg g) ((M.rp r).cur g)).1.t % M.c.r = r then ((M.putP r (oneP M r g (entryS (M.rg g) ((M.rp r).cur g)).1)).putT (entryS (M.rg g) ((M.rp r).cur g)).1.t (oneT M r (entryS (M.rg g) ((M.rp r).cur g)).1), true, 0)
      else (M.putP r (oneP M r g (entryS (M.rg g) ((M.rp r).cur g)).1), true, 0))
    else (M, false, 0))
 else (Mc.zero, false, 1800)
def replM (M : Mc) (r g : Int) : Mc := (oneM M r g).1
def stepM (M : Mc) (t st : Int) : Mc := M.putT t { M.th t with st := st }
def leastM (M : Mc) (g : Int) : Int × Int := if M.c.r = 2 ∧ (M.rp 1).cur g < (M.rp 0).cur g then ((M.rp 1).cur g, 1) else ((M.rp 0).cur g, 0)
def roomM (M : Mc) (t : Int) : Mc :=
 if (M.rg (M.th t).lg).h < (leastM M (M.th t).lg).1 then (stepM M t 4).putR (M.th t).lg (freeRS (M.rg (M.th t).lg) (leastM M (M.th t).lg).1).1
 else if (leastM M (M.th t).lg).2 = M.home t ∨ (M.rp (leastM M (M.th t).lg).2).lock (M.th t).lg = 0 then replM M (leastM M (M.th t).lg).2 (M.th t).lg
 else M
def Mc.who (M : Mc) (t : Int) : Int := (M.th t).b.getD (M.th t).pl.toNat 0
def pubM (M : Mc) (t : Int) : Rg × Int := publishS (M.rg (M.th t).lg) ((M.th t).sn + (M.th t).pl) (M.th (M.who t)).c (M.th (M.who t)).r (M.th (M.who t)).a (M.who t)
def claimM (M : Mc) (t : Int) : Mc × Int :=
 if thereB M 0 0 t && decide ((M.th t).b ≠ []) then
   (if (M.th t).st = 4 then
     (if (M.rg (M.th t).lg).f = 0 then (M.putT t { M.th t with sn := (M.rg (M.th t).lg).t, st := if (M.rg (M.th t).lg).h + (M.rg (M.th t).lg).ss.length < (M.rg (M.th t).lg).t + (M.th t).b.length then 5 else 6 }, 0)
      else (replM M (M.home t) (M.th t).lg, 0))
    else if (M.th t).st = 5 then (roomM M t, 0)
    else if (M.th t).st = 6 then
     (if (M.rg (M.th t).lg).t = (M.th t).sn ∧ (reserveS (M.rg (M.th t).lg) (M.th t).b.length).2.2 = 0 then ((M.putR (M.th t).lg (reserveS (M.rg (M.th t).lg) (M.th t).b.length).1).putT t { M.th t with st := 7, pl := 0 }, 0)
      else (stepM M t 4, 0))
    else if (M.th t).st = 7 then
     (if (M.th t).pl < (M.th t).b.length ∧ (pubM M t).2 = 0 then ((M.putR (M.th t).lg (pubM M t).1).putT t { M.th t with pl := (M.th t).pl + 1, st := if (M.th t).pl + 1 = (M.th t).b.length then 8 else 7 }, 0)
      else (Mc.zero, 1900))
    else (Mc.zero, 1900))
 else (Mc.zero, 1900)
def doneM (M : Mc) (t : Int) : Mc := { M with ts := M.ts.set t.toNat Th.zero, es := M.es ++ [⟨t, false, (M.th t).c, (M.th t).r, (M.th t).a, (M.th t).an⟩] }
def finM (M : Mc) (t e : Int) : Mc × Int := if M.es.length < 64 then (doneM M t, 0) else (Mc.zero, e)
def loosed (M : Mc) (t : Int) : Mc := (freeM (stepM M t 10) (M.home t) (M.th t).lg).1
def updM (M : Mc) (t : Int) : Mc × Int :=
 if thereB M 0 0 t && opUp (M.th t).c (M.th t).r (M.th t).a then
   (if (M.th t).st = 1 then (stepM (postM M t).1 t 2, 0)
    else if (M.th t).st = 2 then (stepM (tryM M (M.home t) (M.th t).lg t).1 t (if (tryM M (M.home t) (M.th t).lg t).2.1 then 3 else 10), 0)
    else if (M.th t).st = 3 then collectM M t
    else if 4 ≤ (M.th t).st ∧ (M.th t).st ≤ 7 then (if (claimM M t).2 = 0 then ((claimM M t).1, 0) else (Mc.zero, 2000))
    else if (M.th t).st = 8 then (if (M.th t).sn + (M.th t).b.length ≤ (M.rp (M.home t)).cur (M.th t).lg then (stepM M t 9, 0) else (replM M (M.home t) (M.th t).lg, 0))
    else if (M.th t).st = 9 then ((loosed M t).putT t { (loosed M t).th t with b := [], pl := 0 }, 0)
    else if (M.th t).st = 10 then (if (M.th t).re then finM M t 2000 else (stepM M t 2, 0))
    else (Mc.zero, 2000))
 else (Mc.zero, 2000)
def busy (ts : List Th) : Int := (ts.filter (fun T => decide (T.st ≠ 0))).length
def newT (M : Mc) (c r a : Int) : Th := { Th.zero with st := if c = 2 then 11 else if c = 3 then 17 else 1, c := c, r := r, a := a, lg := if c = 3 then 0 else r % M.c.l }
theorem mayM_ok {M : Mc} (h : mayM M = true) : M.c.ok = true := by
 unfold mayM at h
 simp only [Bool.and_eq_true] at h
 exact h.1
theorem mayM_lens {M : Mc} (h : mayM M = true) : (M.rs.length : Int) = M.c.l ∧ (M.ps.length : Int) = M.c.r ∧ (M.ts.length : Int) = M.c.t ∧ (M.es.length : Int) ≤ 64 := by
 unfold mayM at h
 simp only [Bool.and_eq_true, decide_eq_true_eq] at h
 exact ⟨h.2.1.1, h.2.2.1.1, h.2.2.2.1.1, h.2.2.2.2.1⟩
theorem mayM_rs {M : Mc} (h : mayM M = true) : ∀ R ∈ M.rs, ringB M.c R = true := by
 unfold mayM at h
 simp only [Bool.and_eq_true, List.all_eq_true] at h
 exact h.2.1.2
theorem mayM_ps {M : Mc} (h : mayM M = true) : ∀ P ∈ M.ps, repB M.c M.rs P = true := by
 unfold mayM at h
 simp only [Bool.and_eq_true, List.all_eq_true] at h
 exact h.2.2.1.2
theorem mayM_ts {M : Mc} (h : mayM M = true) : ∀ T ∈ M.ts, thB M.c T = true := by
 unfold mayM at h
 simp only [Bool.and_eq_true, List.all_eq_true] at h
 exact h.2.2.2.1.2
theorem mayM_es {M : Mc} (h : mayM M = true) : ∀ E ∈ M.es, evB M.c E = true := by
 unfold mayM at h
 simp only [Bool.and_eq_true, List.all_eq_true] at h
 exact h.2.2.2.2.2
theorem inB_yes {a x b : Int} (h : a ≤ x) (k : x ≤ b) : inB a x b = true := by simp [inB, h, k]
theorem thereB_cases {M : Mc} {r g t : Int} (h : thereB M r g t = true) : mayM M = true ∧ (0 ≤ r ∧ r ≤ M.c.r - 1) ∧ (0 ≤ g ∧ g ≤ M.c.l - 1) ∧ (0 ≤ t ∧ t ≤ M.c.t - 1) := by
 unfold thereB at h
 simp only [Bool.and_eq_true] at h
 exact ⟨h.1, inB_cases h.2.1, inB_cases h.2.2.1, inB_cases h.2.2.2⟩
theorem thereB_yes {M : Mc} {r g t : Int} (h : mayM M = true) (h1 : 0 ≤ r ∧ r ≤ M.c.r - 1) (h2 : 0 ≤ g ∧ g ≤ M.c.l - 1) (h3 : 0 ≤ t ∧ t ≤ M.c.t - 1) : thereB M r g t = true := by
 unfold thereB
 rw [h, inB_yes h1.1 h1.2, inB_yes h2.1 h2.2, inB_yes h3.1 h3.2]
 rfl
set_option maxRecDepth 4000 in
set_option maxHeartbeats 4000000 in
theorem rmThere (v : Value) (M : Mc) (r g t : Int) (w : World) (hx : HasM w v M) (hf : FitM M) : Calls Tryz.prog 32 #[v, .int .i64 r, .int .i64 g, .int .i64 t] w fun e w' => e = .returned (.bool (thereB M r g t)) ∧ Le w w' := by
 have m1 := fun w' (l : Le w w') => rmMay v M w' (hx.le l) hf
 obtain ⟨c, Rs, Ps, Ts, Es⟩ := M
 obtain ⟨qR, qP, qT, qH, rfl, _, _, _, _⟩ := hx
 simp only [thereB] at m1 ⊢
 have hb := Box.new w (cells9 c qR qP qT qH) 29
 have hl := Le.alloc w (.cells (cells9 c qR qP qT qH) 29)
 go_enter Tryz.func32, Tryz.ntmps32
 go_upto_region 1 with fail
 generalize hW : w.alloc (.cells (cells9 c qR qP qT qH) 29) = W at hl hb ⊢
 clear hW
 obtain ⟨⟨z0, z1, z2, z3, z4⟩, z5, z6, z7, z8⟩ := hb.mach
 go_wp2_with fail
 refine (m1 _ hl).mono ?_
 rintro e w1 ⟨rfl, l1⟩
 clear z0 z1 z2 z3 z4 z5 z6 z7 z8 m1
 replace hb := hb.le l1
 replace hl := hl.trans l1
 clear l1
 obtain ⟨⟨z0, z1, z2, z3, z4⟩, z5, z6, z7, z8⟩ := hb.mach
 cases h1 : mayM ⟨c, Rs, Ps, Ts, Es⟩
 ·go_wp2_with fail
  go_ret
  exact ⟨ret_bool (by rw [h1]; rfl), hl⟩
 obtain ⟨_, ⟨r0, r1⟩, ⟨l0, l1⟩, ⟨t0, t1⟩, _, _⟩ := Cfg.ok_cases (mayM_ok h1)
 simp only at r0 r1 l0 l1 t0 t1
 have H1 : Hid (mayM ⟨c, Rs, Ps, Ts, Es⟩ = true) := h1
 clear h1
 go_wp2_with fail
 refine (rmUpTo _ _ _ _).mono ?_
 rintro e _ ⟨rfl, rfl⟩
 cases h2 : inB 0 r (c.r - 1)
 ·go_wp2_with fail
  go_ret
  exact ⟨ret_bool (by rw [h2]; simp), hl⟩
 have H2 : Hid (inB 0 r (c.r - 1) = true) := h2
 clear h2
 go_wp2_with fail
 refine (rmUpTo _ _ _ _).mono ?_
 rintro e _ ⟨rfl, rfl⟩
 cases h3 : inB 0 g (c.l - 1)
 ·go_wp2_with fail
  go_ret
  exact ⟨ret_bool (by rw [h3]; simp), hl⟩
 have H3 : Hid (inB 0 g (c.l - 1) = true) := h3
 clear h3
 go_wp2_with fail
 refine (rmUpTo _ _ _ _).mono ?_
 rintro e _ ⟨rfl, rfl⟩
 go_wp2_with fail
 go_ret
 exact ⟨ret_bool (by rw [H1.out, H2.out, H3.out]; simp), hl⟩
def gives (P : Program) (ρ : Operand → Value) (o : Oper) (w : World) (K : Value → World → Prop) : Prop :=
 match (execOp ρ o).run P w with
 | .ok (.value v) w' => K v w'
 | .ok .skip w' => K undef w'
 | .ok (.enter f args) w' => Calls P f args w' fun e w'' => ∃ v, e = .returned v ∧ K v w''
 | _ => False
theorem gives_wp {P : Program} {o : Oper} {a : Act} {w : World} {K : Value → World → Prop} {K' : Act → World → Prop} {Q : Exit → Act → World → Prop} (h : gives P a.eval o w K) (hK : ∀ v w', K v w' → K' (a.put o.dst v) w') : o.wp P a w K' Q := by
 unfold gives at h
 unfold Oper.wp
 generalize (execOp a.eval o).run P w = r at h ⊢
 cases r with
 | ok n w' =>
   cases n <;> simp only [Oper.upon] at h ⊢
   case value v => exact hK _ _ h
   case skip => exact hK _ _ h
   case enter f args =>
     refine Calls.mono h fun e w'' he => ?_
     obtain ⟨v, rfl, hk⟩ := he
     exact hK _ _ hk
 | halt x w' => simp only at h
theorem put_size (a : Act) (d : Option Tmp) (v : Value) : (a.put d v).tmps.size = a.tmps.size := by cases d <;> simp [Act.put]
theorem put_defers (a : Act) (d : Option Tmp) (v : Value) : (a.put d v).defers = a.defers := by cases d <;> rfl
theorem put_other (a : Act) (d : Option Tmp) (v : Value) {t : Tmp} (h : d ≠ some t) : (a.put d v).tmps[t]? = a.tmps[t]? := by
 cases d with
 | none => rfl
 | some e =>
   have hne : e ≠ t := fun x => h (by rw [x])
   simp [Act.put, Array.getElem?_setIfInBounds_ne hne]
theorem put_same (a : Act) (v : Value) {t : Tmp} (h : t < a.tmps.size) : (a.put (some t) v).tmps[t]? = some v := by
 simp [Act.put, h]
def tmpsOf (o : Oper) : List Tmp := o.op.operands.toList.filterMap fun | .tmp t => some t | _ => none
def notSelect (o : Oper) : Bool := match o.op with | .select _ _ => false | _ => true
def waitsFor (o : Oper) (j : Nat) : Bool := o.after.any fun e => Region.binds .any e && e.on == j
def atL (l : List Oper) (i : Nat) (p : Oper → Bool) : Bool := match l[i]? with
 | none => false
 | some o => p o
theorem atL_spec {l : List Oper} {i : Nat} {p : Oper → Bool} {o : Oper} (ho : l[i]? = some o) (h : atL l i p = true) : p o = true := by
 unfold atL at h
 rw [ho] at h
 exact h
def plainB (i : Nat) (o : Oper) : Bool := o.guard.isNone && notSelect o && o.after.all (fun e => !Region.binds .any e || decide (e.on < i))
def pairB (o : Oper) (i j : Nat) (oj : Oper) : Bool := (decide (j = i) || !(oj.dst == o.dst)) && (!((tmpsOf o).any fun t => oj.dst == some t) || waitsFor o j)
def need : Nat → List Oper → Nat → List Nat
 | 0, _, _ => []
 | f + 1, l, i => match l[i]? with
   | none => []
   | some o => (o.after.toList.filter (fun e => Region.binds .any e)).flatMap fun e => e.on :: need f l e.on
def lateB (l : List Oper) (H : List Nat) : List Nat → List Nat → Bool
 | _, [] => true
 | done, i :: rest => (H ++ done).all (fun j => (need l.length l i).contains j) && rest.all (fun j => decide (i < j)) && decide (i < l.length) && lateB l H (done ++ [i]) rest
def growB (l : List Oper) (T H late : List Nat) (listed : Array Bool) : Bool :=
 decide (listed.size = l.length) && (List.range l.length).all (fun i => atL l i (plainB i) && (T.contains i || H.contains i || late.contains i) && ((listed.getD i true) == T.contains i)) &&
 T.all (fun i => atL l i (fun o => o.after.all (fun e => !Region.binds .any e || T.contains e.on))) &&
 H.all (fun i => !T.contains i && !late.contains i && atL l i (fun o => o.dst.isSome && H.all (fun j => atL l j (pairB o i j)))) &&
 late.all (fun i => !T.contains i) && lateB l H [] late
theorem waitsFor_spec {o : Oper} {j : Nat} (h : waitsFor o j = true) : ∃ e ∈ o.after, Region.binds .any e = true ∧ e.on = j := by
 unfold waitsFor at h
 rw [Array.any_eq_true'] at h
 obtain ⟨e, he, hh⟩ := h
 simp at hh
 exact ⟨e, he, hh.1, hh.2⟩
def Shut (l : List Oper) (listed : Array Bool) : Prop := ∀ i o, l[i]? = some o → listed.getD i false = true → ∀ e ∈ o.after, Region.binds .any e = true → listed.getD e.on false = true
theorem need_listed {l : List Oper} {listed : Array Bool} (hs : Shut l listed) : ∀ (f i : Nat), (∀ o, l[i]? = some o → ∀ e ∈ o.after, Region.binds .any e = true → listed.getD e.on false = true) → ∀ j ∈ need f l i, listed.getD j false = true
 | 0, _, _, j, hj => by simp [need] at hj
 | f + 1, i, h, j, hj => by
   unfold need at hj
   cases ho : l[i]? with
   | none => rw [ho] at hj; simp at hj
   | some o =>
     rw [ho] at hj
     simp only [List.mem_flatMap, List.mem_filter, List.mem_cons] at hj
     obtain ⟨e, ⟨he, hb⟩, hj⟩ := hj
     have hl := h o ho e (by simpa using he) hb
     rcases hj with rfl | hj
     ·exact hl
     ·exact need_listed hs f e.on (fun oe hoe => hs e.on oe hoe hl) j hj
structure GrowS (l : List Oper) (T H late : List Nat) : Prop where
 plain : ∀ i o, l[i]? = some o → o.guard = none ∧ notSelect o = true ∧ ∀ e ∈ o.after, Region.binds .any e = true → e.on < i
 cover : ∀ i o, l[i]? = some o → i ∈ T ∨ i ∈ H ∨ i ∈ late
 off : ∀ i, i ∈ H → i ∉ T ∧ i ∉ late
 offT : ∀ i, i ∈ late → i ∉ T
 dst : ∀ i o, i ∈ H → l[i]? = some o → ∃ t, o.dst = some t
 dist : ∀ i j o oj, i ∈ H → j ∈ H → l[i]? = some o → l[j]? = some oj → j ≠ i → oj.dst ≠ o.dst
 dep : ∀ i j o oj t, i ∈ H → j ∈ H → l[i]? = some o → l[j]? = some oj → t ∈ tmpsOf o → oj.dst = some t → waitsFor o j = true
 lateS : lateB l H [] late = true
 inH : ∀ i, i ∈ H → ∃ o, l[i]? = some o
theorem lt_of_at {l : List Oper} {i : Nat} {o : Oper} (hi : l[i]? = some o) : i < l.length := by
 rcases Nat.lt_or_ge i l.length with h' | h'
 ·exact h'
 ·rw [List.getElem?_eq_none h'] at hi; cases hi
theorem atL_some {l : List Oper} {i : Nat} {p : Oper → Bool} (h : atL l i p = true) : ∃ o, l[i]? = some o := by
 unfold atL at h
 cases ho : l[i]? with
 | none => rw [ho] at h; cases h
 | some o => exact ⟨o, rfl⟩
theorem growS {l : List Oper} {T H late : List Nat} {listed : Array Bool} (h : growB l T H late listed = true) : GrowS l T H late ∧ listed.size = l.length ∧ (∀ i, i < l.length → (listed.getD i true = true ↔ i ∈ T)) ∧ (∀ i o, i ∈ T → l[i]? = some o → ∀ e ∈ o.after, Region.binds .any e = true → e.on ∈ T) := by
 unfold growB at h
 simp only [Bool.and_eq_true, decide_eq_true_eq, List.all_eq_true, List.mem_range] at h
 obtain ⟨⟨⟨⟨⟨h0, h1⟩, h2⟩, h3⟩, h4⟩, h5⟩ := h
 refine ⟨⟨fun i o hi => ?_, fun i o hi => ?_, fun i hi => ?_, fun i hi => ?_, fun i o hi ho => ?_, fun i j o oj hi hj ho hoj hne e => ?_, fun i j o oj t hi hj ho hoj ht hd => ?_, h5, fun i hi => ?_⟩, h0, fun i hi => ?_, fun i o hi ho e he hb => ?_⟩
 ·have := atL_spec hi (h1 i (lt_of_at hi)).1.1
  unfold plainB at this
  simp only [Bool.and_eq_true, Option.isNone_iff_eq_none] at this
  refine ⟨this.1.1, this.1.2, fun e he hb => ?_⟩
  have h6 := this.2
  rw [Array.all_eq_true'] at h6
  have := h6 e he
  simp [hb] at this
  exact this
 ·have := (h1 i (lt_of_at hi)).1.2
  simp at this
  rcases this with (h | h) | h
  ·exact .inl h
  ·exact .inr (.inl h)
  ·exact .inr (.inr h)
 ·have := (h3 i hi).1
  simp at this
  exact this
 ·have := h4 i hi
  simpa using this
 ·have h6 := atL_spec ho (h3 i hi).2
  simp only [Bool.and_eq_true] at h6
  exact Option.isSome_iff_exists.1 h6.1
 ·have h6 := atL_spec ho (h3 i hi).2
  simp only [Bool.and_eq_true, List.all_eq_true] at h6
  have h7 := atL_spec hoj (h6.2 j hj)
  unfold pairB at h7
  simp [hne, e] at h7
 ·have h6 := atL_spec ho (h3 i hi).2
  simp only [Bool.and_eq_true, List.all_eq_true] at h6
  have h7 := atL_spec hoj (h6.2 j hj)
  unfold pairB at h7
  simp only [Bool.and_eq_true, Bool.or_eq_true, Bool.not_eq_true'] at h7
  rcases h7.2 with h8 | h8
  ·exfalso
   rw [← Bool.not_eq_true, List.any_eq_true] at h8
   exact h8 ⟨t, ht, by simp [hd]⟩
  ·exact h8
 ·exact atL_some (h3 i hi).2
 ·have := (h1 i hi).2
  simp only [beq_iff_eq] at this
  rw [this]
  simp
 ·have h6 := atL_spec ho (h2 i hi)
  rw [Array.all_eq_true'] at h6
  have := h6 e he
  simpa [hb] using this
theorem notSelect_spec {o : Oper} (h : notSelect o = true) : ∀ cs b, o.op ≠ .select cs b := by
 intro cs b e
 unfold notSelect at h
 rw [e] at h
 cases h
def putH (l : List Oper) : List Nat → Act → (Nat → Value) → Act
 | [], a, _ => a
 | i :: is, a, vs => putH l is (a.put ((l[i]?).bind (·.dst)) (vs i)) vs
theorem putH_size (l : List Oper) : ∀ (is : List Nat) (a : Act) (vs : Nat → Value), (putH l is a vs).tmps.size = a.tmps.size
 | [], _, _ => rfl
 | i :: is, a, vs => by rw [putH, putH_size l is, put_size]
theorem putH_defers (l : List Oper) : ∀ (is : List Nat) (a : Act) (vs : Nat → Value), (putH l is a vs).defers = a.defers
 | [], _, _ => rfl
 | i :: is, a, vs => by rw [putH, putH_defers l is, put_defers]
theorem putH_off (l : List Oper) : ∀ (is : List Nat) (a : Act) (vs : Nat → Value) (t : Tmp), (∀ i ∈ is, (l[i]?).bind (·.dst) ≠ some t) → (putH l is a vs).tmps[t]? = a.tmps[t]?
 | [], _, _, _, _ => rfl
 | i :: is, a, vs, t, h => by
   rw [putH, putH_off l is _ _ t (fun x hx => h x (List.mem_cons_of_mem _ hx)), put_other _ _ _ (h i List.mem_cons_self)]
theorem putH_at (l : List Oper) : ∀ (is : List Nat) (a : Act) (vs : Nat → Value) (t : Tmp) (i : Nat), i ∈ is → (l[i]?).bind (·.dst) = some t → (∀ j ∈ is, j ≠ i → (l[j]?).bind (·.dst) ≠ some t) → t < a.tmps.size → (putH l is a vs).tmps[t]? = some (vs i)
 | [], _, _, _, i, h, _, _, _ => by simp at h
 | x :: is, a, vs, t, i, h, hd, hn, ht => by
   by_cases hi : i ∈ is
   ·rw [putH, putH_at l is _ vs t i hi hd (fun j hj hne => hn j (List.mem_cons_of_mem _ hj) hne) (by rw [put_size]; exact ht)]
   ·have : i = x := (List.mem_cons.1 h).resolve_right hi
    subst this
    rw [putH, putH_off l is _ _ t (fun j hj => hn j (List.mem_cons_of_mem _ hj) (fun e => hi (e ▸ hj))), hd, put_same _ _ ht]
structure GrowI (l : List Oper) (T H late : List Nat) (a0 : Act) (A : (Nat → Value) → Nat → World → Prop) (Rel : World → World → Prop) (w0 : World) (listed : Array Bool) (vs : Nat → Value) (a : Act) (w : World) : Prop where
 ls : listed.size = l.length
 shut : Shut l listed
 t : ∀ i o, l[i]? = some o → i ∈ T → listed.getD i false = true
 lt : ∀ i o, l[i]? = some o → i ∈ late → listed.getD i true = false
 rel : Rel w0 w
 df : a.defers = a0.defers
 sz : a.tmps.size = a0.tmps.size
 at' : ∀ i o t, i ∈ H → l[i]? = some o → o.dst = some t → listed.getD i false = true → t < a0.tmps.size → a.tmps[t]? = some (vs i)
 off : ∀ t, (∀ i o, i ∈ H → l[i]? = some o → listed.getD i false = true → o.dst ≠ some t) → a.tmps[t]? = a0.tmps[t]?
 fact : ∀ i, i ∈ H → listed.getD i false = true → A vs i w
theorem getD_false_true {b : Array Bool} {i : Nat} (hi : i < b.size) (h : b.getD i true ≠ false) : b.getD i false = true := by
 simp [Array.getD, hi] at h ⊢
 exact h
theorem getD_size {b : Array Bool} {i : Nat} (h : b.getD i false = true) : i < b.size := by
 rcases Nat.lt_or_ge i b.size with h' | h'
 ·exact h'
 ·simp [Array.getD, Nat.not_lt.2 h'] at h
theorem getD_both {b : Array Bool} {i : Nat} (h : b.getD i false = true) (k : b.getD i true = false) : False := by
 have := getD_size h
 simp [Array.getD, this] at h k
 rw [h] at k
 cases k
theorem getD_set_other {b : Array Bool} {i j : Nat} (d : Bool) (h : j ≠ i) : (b.setIfInBounds i true).getD j d = b.getD j d := by
 rw [Array.getD_eq_getD_getElem?, Array.getElem?_setIfInBounds_ne (fun e => h e.symm), ← Array.getD_eq_getD_getElem?]
theorem getD_set_same {b : Array Bool} {i : Nat} (d : Bool) (h : i < b.size) : (b.setIfInBounds i true).getD i d = true := by
 simp [Array.getD_eq_getD_getElem?, h]
theorem GrowI.look {l : List Oper} {T H late : List Nat} {a0 : Act} {A : (Nat → Value) → Nat → World → Prop} {Rel : World → World → Prop} {w0 w : World} {listed : Array Bool} {vs : Nat → Value} {a : Act} (I : GrowI l T H late a0 A Rel w0 listed vs a w) (g : GrowS l T H late)
   (t : Tmp) (hl : ∀ j oj, j ∈ H → l[j]? = some oj → oj.dst = some t → listed.getD j false = true) : a.tmps[t]? = (putH l H a0 vs).tmps[t]? := by
 by_cases hd : ∃ j oj, j ∈ H ∧ l[j]? = some oj ∧ oj.dst = some t
 ·obtain ⟨j, oj, hj, hoj, hdj⟩ := hd
  rcases Nat.lt_or_ge t a0.tmps.size with ht | ht
  ·rw [I.at' _ oj t hj hoj hdj (hl j oj hj hoj hdj) ht]
   rw [putH_at l H a0 vs t j hj (by rw [hoj]; exact hdj) (fun k hk hne hdk => by
     obtain ⟨ok, hok⟩ := g.inH k hk
     rw [hok] at hdk
     exact g.dist j k oj ok hj hk hoj hok hne (by rw [hdj]; exact hdk)) ht]
  ·rw [Array.getElem?_eq_none (by rw [I.sz]; exact ht), Array.getElem?_eq_none (by rw [putH_size]; exact ht)]
 ·rw [I.off t (fun j oj hj hoj _ e => hd ⟨j, oj, hj, hoj, e⟩), putH_off]
  intro j hj e
  obtain ⟨oj, hoj⟩ := g.inH j hj
  rw [hoj] at e
  exact hd ⟨j, oj, hj, hoj, e⟩
theorem GrowI.eval {l : List Oper} {T H late : List Nat} {a0 : Act} {A : (Nat → Value) → Nat → World → Prop} {Rel : World → World → Prop} {w0 w : World} {listed : Array Bool} {vs : Nat → Value} {a : Act} (I : GrowI l T H late a0 A Rel w0 listed vs a w) (g : GrowS l T H late)
   {i : Nat} {o : Oper} (hi : i ∈ H) (ho : l[i]? = some o) (hr : ∀ e ∈ o.after, Region.binds .any e = true → listed.getD e.on false = true) : ∀ x ∈ o.op.operands, a.eval x = (putH l H a0 vs).eval x := by
 intro x hx
 cases x with
 | tmp t =>
   have hmem : t ∈ tmpsOf o := List.mem_filterMap.2 ⟨.tmp t, by simpa using hx, rfl⟩
   have h := I.look g t (fun j oj hj hoj hdj => by
     obtain ⟨e, he, hb, rfl⟩ := waitsFor_spec (g.dep i j o oj t hi hj ho hoj hmem hdj)
     exact hr e he hb)
   simp [Act.eval, h]
 | _ => rfl
theorem GrowI.frame {l : List Oper} {T H late : List Nat} {a0 : Act} {A : (Nat → Value) → Nat → World → Prop} {Rel : World → World → Prop} {w0 w : World} {listed : Array Bool} {vs : Nat → Value} {a : Act} (I : GrowI l T H late a0 A Rel w0 listed vs a w) (g : GrowS l T H late)
   (hall : ∀ j, j ∈ H → listed.getD j false = true) : a = putH l H a0 vs := by
 have h : a.tmps = (putH l H a0 vs).tmps := Array.ext_getElem? fun t => I.look g t (fun j _ hj _ _ => hall j hj)
 have h2 : a.defers = (putH l H a0 vs).defers := by rw [putH_defers]; exact I.df
 cases a
 cases hp : putH l H a0 vs
 rw [hp] at h h2
 simp only at h h2
 subst h h2
 rfl
theorem GrowI.next {l : List Oper} {T H late : List Nat} {a0 : Act} {A : (Nat → Value) → Nat → World → Prop} {Rel : World → World → Prop} {w0 w w' : World} {listed : Array Bool} {vs : Nat → Value} {a : Act} (I : GrowI l T H late a0 A Rel w0 listed vs a w) (g : GrowS l T H late)
   (ht : ∀ x y z, Rel x y → Rel y z → Rel x z) (hA : ∀ vs i x y, i ∈ H → Rel w0 x → A vs i x → Rel x y → A vs i y) (hC : ∀ vs vs' i o x, i ∈ H → l[i]? = some o → (∀ k, k = i ∨ (need l.length l i).contains k = true → vs k = vs' k) → A vs i x → A vs' i x) {i : Nat} {o : Oper} {v : Value} (hi : i ∈ H) (ho : l[i]? = some o) (hun : listed.getD i true = false) (hr : ∀ e ∈ o.after, Region.binds .any e = true → listed.getD e.on false = true) (hrel : Rel w w') (hv : A (fun j => if j = i then v else vs j) i w') :
   GrowI l T H late a0 A Rel w0 (listed.setIfInBounds i true) (fun j => if j = i then v else vs j) (a.put o.dst v) w' := by
 have hil : i < listed.size := by rw [I.ls]; exact lt_of_at ho
 have up : ∀ j, listed.getD j false = true → (listed.setIfInBounds i true).getD j false = true := fun j h => by
   by_cases e : j = i
   ·subst e; exact getD_set_same _ hil
   ·rw [getD_set_other _ e]; exact h
 have dn : ∀ j, (listed.setIfInBounds i true).getD j false = true → j = i ∨ (j ≠ i ∧ listed.getD j false = true) := fun j h => by
   by_cases e : j = i
   ·exact .inl e
   ·rw [getD_set_other _ e] at h; exact .inr ⟨e, h⟩
 refine ⟨by simpa using I.ls, fun j oj hoj hl e he hb => ?_, fun j oj hoj hj => up _ (I.t j oj hoj hj), fun j oj hoj hj => ?_, ht _ _ _ I.rel hrel, by rw [put_defers]; exact I.df, by rw [put_size]; exact I.sz, fun j oj t hj hoj hd hl hlt => ?_, fun t hno => ?_, fun j hj hl => ?_⟩
 ·rcases dn j hl with rfl | ⟨_, hl'⟩
  ·rw [ho] at hoj
   cases hoj
   exact up _ (hr e he hb)
  ·exact up _ (I.shut j oj hoj hl' e he hb)
 ·have hji : j ≠ i := fun e => by subst e; exact (g.off j hi).2 hj
  rw [getD_set_other _ hji]
  exact I.lt j oj hoj hj
 ·rcases dn j hl with rfl | ⟨hne, hl'⟩
  ·rw [ho] at hoj
   cases hoj
   rw [hd, put_same _ _ (by rw [I.sz]; exact hlt)]
   simp
  ·rw [put_other _ _ _ (fun e => g.dist i j o oj hi hj ho hoj hne (by rw [hd, e])), I.at' j oj t hj hoj hd hl' hlt]
   simp [hne]
 ·have hdi : o.dst ≠ some t := hno i o hi ho (getD_set_same _ hil)
  rw [put_other _ _ _ hdi]
  exact I.off t fun j oj hj hoj hl => hno j oj hj hoj (up j hl)
 ·rcases dn j hl with rfl | ⟨hne, hl'⟩
  ·exact hv
  ·obtain ⟨oj, hoj⟩ := g.inH j hj
   refine hC vs _ j oj w' hj hoj (fun k hk => ?_) (hA vs j _ _ hj I.rel (I.fact j hj hl') hrel)
   have hki : k ≠ i := by
     rcases hk with rfl | hk
     ·exact hne
     ·rintro rfl
      exact getD_both (need_listed I.shut _ j (fun ok hok => I.shut j ok hok hl') k (by simpa using hk)) hun
   simp [hki]
theorem least_unlisted {listed : Array Bool} : ∀ (n : Nat), listed.getD n true = false → ∃ i, i ≤ n ∧ listed.getD i true = false ∧ ∀ j, j < i → listed.getD j true ≠ false := by
 intro n
 induction n using Nat.strongRecOn with
 | _ n ih =>
   intro h
   by_cases hx : ∃ j, j < n ∧ listed.getD j true = false
   ·obtain ⟨j, hj, hjf⟩ := hx
    obtain ⟨i, hi, h1, h2⟩ := ih j hj hjf
    exact ⟨i, by omega, h1, h2⟩
   ·exact ⟨n, Nat.le_refl _, h, fun j hj hf => hx ⟨j, hj, hf⟩⟩
theorem unlisted_lt {b : Array Bool} {i : Nat} (h : b.getD i true = false) : i < b.size := by
 rcases Nat.lt_or_ge i b.size with h' | h'
 ·exact h'
 ·simp [Array.getD, Nat.not_lt.2 h'] at h
theorem ready_some {l : List Oper} {listed : Array Bool} (plain : ∀ i o, l[i]? = some o → ∀ e ∈ o.after, Region.binds .any e = true → e.on < i) (hls : listed.size = l.length) {n : Nat} (hn : listed.getD n true = false) : Region.ready .any l.toArray listed ≠ [] := by
 intro hr
 obtain ⟨i, hi, h1, h2⟩ := least_unlisted n hn
 have hlt : i < l.length := by rw [← hls]; exact unlisted_lt h1
 have : i ∈ Region.ready .any l.toArray listed := mem_ready.2 ⟨h1, l[i], by simp [hlt], fun e he hb => by
   have := plain i l[i] (by simp [hlt]) e he hb
   exact getD_false_true (by omega) (h2 _ this)⟩
 rw [hr] at this
 cases this
theorem wpAny_all {P : Program} {ops : Array Oper} {Q : Exit → Act → World → Prop} {listed : Array Bool} {a : Act} {w : World} (hr : Region.ready .any ops listed = []) (h : Q .normal a w) : ∀ fuel, wpAny P .any ops Q fuel listed a w
 | 0 => ⟨hr, h⟩
 | _ + 1 => ⟨fun _ => h, by rw [hr]; simp⟩
def wpSeq (P : Program) (l : List Oper) (Q : Exit → Act → World → Prop) : List Nat → Act → World → Prop
 | [], a, w => Q .normal a w
 | i :: is, a, w => ∀ o, l[i]? = some o → o.wp P a w (wpSeq P l Q is) Q
theorem wpSeq_cons {P : Program} {l : List Oper} {Q : Exit → Act → World → Prop} {i : Nat} {is : List Nat} {o : Oper} {a : Act} {w : World} (h : l[i]? = some o) (hh : o.wp P a w (wpSeq P l Q is) Q) : wpSeq P l Q (i :: is) a w := by
 intro o' ho'
 rw [h] at ho'
 cases ho'
 exact hh
theorem wpAny_late {P : Program} {l : List Oper} {H : List Nat} {Q : Exit → Act → World → Prop} (plain : ∀ i o, l[i]? = some o → o.guard = none ∧ notSelect o = true ∧ ∀ e ∈ o.after, Region.binds .any e = true → e.on < i) :
   ∀ (todo done : List Nat) (fuel : Nat) (listed : Array Bool) (a : Act) (w : World), lateB l H done todo = true → listed.size = l.length → Shut l listed → (∀ i, i ∈ todo → listed.getD i true = false) → (∀ i o, l[i]? = some o → listed.getD i true = false → i ∈ todo) → todo.length ≤ fuel → wpSeq P l Q todo a w → wpAny P .any l.toArray Q fuel listed a w
 | [], done, fuel, listed, a, w, _, hls, _, _, hun, _, h => by
   refine wpAny_all ?_ h fuel
   rw [List.eq_nil_iff_forall_not_mem]
   intro j hj
   obtain ⟨h1, oj, hoj, _⟩ := mem_ready.1 hj
   have := hun j oj (by simpa using hoj) h1
   cases this
 | i :: rest, done, 0, listed, a, w, _, _, _, _, _, hf, _ => by simp at hf
 | i :: rest, done, fuel + 1, listed, a, w, hB, hls, hsh, hin, hun, hf, h => by
   unfold lateB at hB
   simp only [Bool.and_eq_true, List.all_eq_true, decide_eq_true_eq] at hB
   obtain ⟨⟨⟨hneed, hlt⟩, hil⟩, hB⟩ := hB
   refine ⟨fun hr => absurd hr (ready_some (fun i o hi => (plain i o hi).2.2) hls (hin i List.mem_cons_self)), fun j hj => ?_⟩
   obtain ⟨h1, o, ho, hr⟩ := mem_ready.1 hj
   have hol : l[j]? = some o := by simpa using ho
   have hji : j = i := by
     rcases List.mem_cons.1 (hun j o hol h1) with e | hm
     ·exact e
     ·exfalso
      have : listed.getD i false = true := by
        have hlB : ∀ (rest : List Nat) (d : List Nat), lateB l H d rest = true → i ∈ d → j ∈ rest → i ∈ need l.length l j := by
          intro rest
          induction rest with
          | nil => intro d _ _ hm; cases hm
          | cons x xs ih =>
            intro d hB hd hm
            unfold lateB at hB
            simp only [Bool.and_eq_true, List.all_eq_true, decide_eq_true_eq] at hB
            obtain ⟨⟨⟨hn, _⟩, _⟩, hB⟩ := hB
            rcases List.mem_cons.1 hm with rfl | hm
            ·have := hn i (List.mem_append.2 (.inr hd))
             simpa using this
            ·exact ih _ hB (List.mem_append.2 (.inl hd)) hm
        exact need_listed hsh _ j (fun oj hoj e he hb => by rw [hol] at hoj; cases hoj; exact hr e he hb) i (hlB rest (done ++ [i]) hB (by simp) hm)
      exact getD_both this (hin i List.mem_cons_self)
   subst hji
   obtain ⟨hg, _, _⟩ := plain j o hol
   unfold wpOp
   simp only [ho]
   rw [if_pos (by unfold Region.wanted; rw [hg])]
   left
   refine Oper.wp_mono (fun a' w' hq => ?_) (h o hol)
   have hjs : j < listed.size := by rw [hls]; exact lt_of_at hol
   refine wpAny_late plain rest (done ++ [j]) fuel _ a' w' hB (by simpa using hls) (fun k ok hok hl e he hb => ?_) (fun k hk => ?_) (fun k ok hok hk => ?_) (by simp at hf; exact hf) hq
   ·by_cases e1 : e.on = j
    ·rw [e1]; exact getD_set_same _ hjs
    ·rw [getD_set_other _ e1]
     by_cases e2 : k = j
     ·subst e2
      rw [hol] at hok
      cases hok
      exact hr e he hb
     ·rw [getD_set_other _ e2] at hl
      exact hsh k ok hok hl e he hb
   ·have : j < k := hlt k hk
    rw [getD_set_other _ (by omega)]
    exact hin k (List.mem_cons_of_mem _ hk)
   ·have hne : k ≠ j := fun e => by
      subst e
      rw [getD_set_same _ hjs] at hk
      cases hk
    rw [getD_set_other _ hne] at hk
    rcases List.mem_cons.1 (hun k ok hok hk) with e | hm
    ·exact absurd e hne
    ·exact hm
theorem lateB_need {l : List Oper} {H : List Nat} : ∀ (late done : List Nat) (i : Nat), lateB l H done late = true → i ∈ late → ∀ j ∈ H, j ∈ need l.length l i
 | [], _, _, _, h, _, _ => by cases h
 | x :: xs, done, i, hB, hm, j, hj => by
   unfold lateB at hB
   simp only [Bool.and_eq_true, List.all_eq_true, decide_eq_true_eq] at hB
   obtain ⟨⟨⟨hn, _⟩, _⟩, hB⟩ := hB
   rcases List.mem_cons.1 hm with rfl | hm
   ·have := hn j (List.mem_append.2 (.inl hj))
    simpa using this
   ·exact lateB_need xs _ i hB hm j hj
theorem lateB_lt {l : List Oper} {H : List Nat} : ∀ (late done : List Nat) (i : Nat), lateB l H done late = true → i ∈ late → i < l.length
 | [], _, _, _, h => by cases h
 | x :: xs, done, i, hB, hm => by
   unfold lateB at hB
   simp only [Bool.and_eq_true, List.all_eq_true, decide_eq_true_eq] at hB
   obtain ⟨⟨⟨_, _⟩, hl⟩, hB⟩ := hB
   rcases List.mem_cons.1 hm with rfl | hm
   ·exact hl
   ·exact lateB_lt xs _ i hB hm
theorem wpAny_growI {P : Program} {l : List Oper} {T H late : List Nat} {Q : Exit → Act → World → Prop} {a0 : Act} {w0 : World} (g : GrowS l T H late) (hne : late ≠ [])
   (Rel : World → World → Prop) (ht : ∀ x y z, Rel x y → Rel y z → Rel x z) (A : (Nat → Value) → Nat → World → Prop) (hA : ∀ vs i x y, i ∈ H → Rel w0 x → A vs i x → Rel x y → A vs i y) (hC : ∀ vs vs' i o x, i ∈ H → l[i]? = some o → (∀ k, k = i ∨ (need l.length l i).contains k = true → vs k = vs' k) → A vs i x → A vs' i x)
   (steps : ∀ i o, i ∈ H → l[i]? = some o → ∀ vs w, Rel w0 w → (∀ j, j ∈ H → (need l.length l i).contains j = true → A vs j w) → gives P (putH l H a0 vs).eval o w (fun v w' => Rel w w' ∧ A (fun j => if j = i then v else vs j) i w'))
   (rest : ∀ vs w, Rel w0 w → (∀ j, j ∈ H → A vs j w) → wpSeq P l Q late (putH l H a0 vs) w) :
   ∀ (fuel : Nat) (U : List Nat) (listed : Array Bool) (vs : Nat → Value) (a : Act) (w : World), (∀ i o, l[i]? = some o → i ∉ late → listed.getD i true = false → i ∈ U) → U.length + late.length ≤ fuel → GrowI l T H late a0 A Rel w0 listed vs a w → wpAny P .any l.toArray Q fuel listed a w := by
 intro fuel
 have lfst : ∃ i0, i0 ∈ late := by cases late with | nil => exact absurd rfl hne | cons x _ => exact ⟨x, List.mem_cons_self⟩
 obtain ⟨i0, hi0⟩ := lfst
 have hi0l : ∃ o, l[i0]? = some o := ⟨_, List.getElem?_eq_getElem (lateB_lt _ _ _ g.lateS hi0)⟩
 obtain ⟨o0, ho0⟩ := hi0l
 induction fuel with
 | zero =>
   intro U listed vs a w _ hlen _
   cases late with
   | nil => exact absurd rfl hne
   | cons _ _ => simp at hlen
 | succ fuel ih =>
   intro U listed vs a w hU hlen I
   by_cases hall : ∀ j, j ∈ H → listed.getD j false = true
   ·-- all of H have come up
    rw [I.frame g hall]
    refine wpAny_late g.plain late [] (fuel + 1) listed _ w g.lateS I.ls I.shut (fun i hi => ?_) (fun i o hi hf => ?_) (by omega) (rest vs w I.rel (fun j hj => I.fact j hj (hall j hj)))
    ·exact I.lt i _ (List.getElem?_eq_getElem (lateB_lt _ _ _ g.lateS hi)) hi
    ·rcases g.cover i o hi with h | h | h
     ·exact (getD_both (I.t i o hi h) hf).elim
     ·exact (getD_both (hall i h) hf).elim
     ·exact h
   ·refine ⟨fun hr => absurd hr (ready_some (fun i o hi => (g.plain i o hi).2.2) I.ls (I.lt i0 o0 ho0 hi0)), fun i hi => ?_⟩
    obtain ⟨h1, o, ho, hr⟩ := mem_ready.1 hi
    have hol : l[i]? = some o := by simpa using ho
    obtain ⟨hg, hs, _⟩ := g.plain i o hol
    rcases g.cover i o hol with hT | hH | hL
    ·exact (getD_both (I.t i o hol hT) h1).elim
    ·have hUi := hU i o hol (g.off i hH).2 h1
     unfold wpOp
     simp only [ho]
     rw [if_pos (by unfold Region.wanted; rw [hg])]
     left
     have hst := steps i o hH hol vs w I.rel (fun j hj hw => I.fact j hj (need_listed I.shut _ i (fun oi hoi e he hb => by rw [hol] at hoi; cases hoi; exact hr e he hb) j (by simpa using hw)))
     unfold gives at hst
     rw [← execOp_congr o (notSelect_spec hs) (I.eval g hH hol hr)] at hst
     refine gives_wp (K := fun v w' => Rel w w' ∧ A (fun j => if j = i then v else vs j) i w') hst fun v w' ⟨hrel, hv⟩ => ?_
     have hil : i < listed.size := by rw [I.ls]; exact lt_of_at hol
     refine ih (U.erase i) _ (fun j => if j = i then v else vs j) _ _ (fun j oj hoj hj hf => ?_) ?_ (I.next g ht hA hC hH hol h1 hr hrel hv)
     ·have hne : j ≠ i := fun e => by
        subst e
        rw [getD_set_same _ hil] at hf
        cases hf
      rw [getD_set_other _ hne] at hf
      exact (List.mem_erase_of_ne hne).2 (hU j oj hoj hj hf)
     ·rw [List.length_erase_of_mem hUi]
      have := List.length_pos_of_mem hUi
      omega
    ·exfalso
     refine hall fun j hj => ?_
     exact need_listed I.shut _ i (fun oi hoi e he hb => by rw [hol] at hoi; cases hoi; exact hr e he hb) j (lateB_need _ _ _ g.lateS hL j hj)
theorem wpAny_grow {P : Program} {l : List Oper} {Q : Exit → Act → World → Prop} {a0 : Act} {w0 : World} {listed : Array Bool} {fuel : Nat} (T H late : List Nat) (hne : late ≠ []) (hB : growB l T H late listed = true)
   (Rel : World → World → Prop) (hr : Rel w0 w0) (ht : ∀ x y z, Rel x y → Rel y z → Rel x z) (A : (Nat → Value) → Nat → World → Prop) (hA : ∀ vs i x y, i ∈ H → Rel w0 x → A vs i x → Rel x y → A vs i y) (hC : ∀ vs vs' i o x, i ∈ H → l[i]? = some o → (∀ k, k = i ∨ (need l.length l i).contains k = true → vs k = vs' k) → A vs i x → A vs' i x)
   (hlen : H.length + late.length ≤ fuel)
   (steps : ∀ i o, i ∈ H → l[i]? = some o → ∀ vs w, Rel w0 w → (∀ j, j ∈ H → (need l.length l i).contains j = true → A vs j w) → gives P (putH l H a0 vs).eval o w (fun v w' => Rel w w' ∧ A (fun j => if j = i then v else vs j) i w'))
   (rest : ∀ vs w, Rel w0 w → (∀ j, j ∈ H → A vs j w) → wpSeq P l Q late (putH l H a0 vs) w) : wpAny P .any l.toArray Q fuel listed a0 w0 := by
 obtain ⟨g, hls, hT, hTs⟩ := growS hB
 have hlT : ∀ i o, l[i]? = some o → listed.getD i false = true → i ∈ T := fun i o ho h => by
   have hi := lt_of_at ho
   refine (hT i hi).1 ?_
   have := getD_size h
   simp [Array.getD, this] at h ⊢
   exact h
 have hTl : ∀ i, i < l.length → i ∈ T → listed.getD i false = true := fun i hi h => by
   have := (hT i hi).2 h
   have hsz : i < listed.size := by omega
   simp [Array.getD, hsz] at this ⊢
   exact this
 refine wpAny_growI g hne Rel ht A hA hC steps rest fuel H listed (fun _ => undef) a0 w0 (fun i o ho hl hf => ?_) hlen ⟨hls, fun i o ho hl e he hb => ?_, fun i o ho h => hTl i (lt_of_at ho) h, fun i o ho h => ?_, hr, rfl, rfl, fun i o t hi ho _ hl _ => ?_, fun _ _ => rfl, fun i hi hl => ?_⟩
 ·rcases g.cover i o ho with h | h | h
  ·exact (getD_both (hTl i (lt_of_at ho) h) hf).elim
  ·exact h
  ·exact absurd h hl
 ·have h1 := hTs i o (hlT i o ho hl) ho e he hb
  have h2 := (g.plain i o ho).2.2 e he hb
  exact hTl _ (by have := lt_of_at ho; omega) h1
 ·have hi := lt_of_at ho
  have hnT := g.offT i h
  cases hx : listed.getD i true with
  | false => rfl
  | true => exact absurd ((hT i hi).1 hx) hnT
 ·exact absurd (hlT i o ho hl) (g.off i hi).1
 ·obtain ⟨o, ho⟩ := g.inH i hi
  exact absurd (hlT i o ho hl) (g.off i hi).1
theorem gives_value {P : Program} {ρ : Operand → Value} {o : Oper} {w w' : World} {v : Value} {K : Value → World → Prop} (h : (execOp ρ o).run P w = .ok (.value v) w') (hk : K v w') : gives P ρ o w K := by
 unfold gives; rw [h]; exact hk
theorem gives_call {P : Program} {ρ : Operand → Value} {o : Oper} {w : World} {f : FuncId} {args : Array Value} {K : Value → World → Prop} (h : (execOp ρ o).run P w = .ok (.enter f args) w) (hk : Calls P f args w fun e w'' => ∃ v, e = .returned v ∧ K v w'') : gives P ρ o w K := by
 unfold gives; rw [h]; exact hk
theorem wp_value_at {P : Program} {o : Oper} {a : Act} {w w0 : World} {v0 : Value} {K' : Act → World → Prop} {Q : Exit → Act → World → Prop} (h : (execOp a.eval o).run P w = .ok (.value v0) w0) (hk : K' (a.put o.dst v0) w0) : o.wp P a w K' Q := by
 unfold Oper.wp; rw [h]; exact hk
theorem wp_skip_at {P : Program} {o : Oper} {a : Act} {w w0 : World} {K' : Act → World → Prop} {Q : Exit → Act → World → Prop} (h : (execOp a.eval o).run P w = .ok .skip w0) (hk : K' (a.put o.dst undef) w0) : o.wp P a w K' Q := by
 unfold Oper.wp; rw [h]; exact hk
theorem run_append_empty {α : Type} {K : Kind α} {tS : TypeId} (hK : K.In Tryz.prog tS) (ty : TypeId) (w : World) (base b : Nat) (u : Value) (ys : List α) (hown : OwnE K w base (.slice (some ⟨b, 0, none⟩) 0 0) []) (hu : HasE K w u ys) (hr : ys.length * K.by' ≤ 140737488355328) (hr' : ys.length ≤ 140737488355328) (hbase : base ≤ w.heap.size) :
   ∃ q w', (Builtin.append_ #[tS, tS] ty #[.slice (some ⟨b, 0, none⟩) 0 0, u]).run Tryz.prog w = .ok (slV q) w' ∧ OwnE K w' base (slV q) ys ∧ Le w w' ∧ (0 < ys.length → (slV q).ownBlock = some w.heap.size) := by
 obtain ⟨z, hinfo, hzs⟩ := hK.info
 obtain ⟨i0, hi, hz0, hz1, hz2⟩ := info_parts hinfo
 have hu0 := hu
 obtain ⟨ad, cap, rfl, hc, hn, _⟩ := hu
 cases ad with
 | none =>
   have hc0 := hn rfl
   have hy : ys = [] := List.length_eq_zero_iff.1 (by omega)
   subst hy hc0
   exact ⟨(some ⟨b, 0, none⟩, 0, 0), w, run_append_owned_none (P := Tryz.prog) (w := w) base tS ty K.t i0 K.k hK.und hi _ _ _ hown, hown, Le.refl _, fun h => by simp at h⟩
 | some ad =>
   rcases Nat.eq_zero_or_pos ys.length with h0 | h0
   ·have hy : ys = [] := List.length_eq_zero_iff.1 h0
    subst hy
    obtain ⟨g, cap', cur, hv, hg, hh, r⟩ := hown.2.resolve_left (fun h => by cases h.1)
    simp only [Value.slice.injEq, Option.some.injEq, Addr.mk.injEq, and_true] at hv
    obtain ⟨rfl, _, rfl⟩ := hv
    have hrun := run_append_room (P := Tryz.prog) w tS ty K.t i0 hK.und hi b 0 0 cur hh ad 0 cap [] (by simp) (by simp) (by simp) (by omega) (by simp)
    have hle : Le w (w.setRow b (cur.toList.take (0 * i0.size) ++ [] ++ cur.toList.drop (0 * i0.size + ([] : List Value).length)).toArray) := by
      refine ⟨rfl, rfl, rfl, by simp, fun k hk => ?_⟩
      by_cases e : k = b
      ·subst e
       rw [setRow_heap w k cur _ K.t _ hh, hh]
       simp
      ·exact setRow_other w b k _ e
    exact ⟨(some ⟨b, 0, none⟩, 0, 0), _, hrun, hown.le hle, hle, fun h => by simp at h⟩
   ·have hr1 := run_append_grow (P := Tryz.prog) w tS ty K.t i0 z hK.und hi hz0 ⟨b, 0, none⟩ 0 0 [] (by simp) (by simp) ad ys.length cap (rowC K.f ys) (by rw [hz1, rowC_len K.len]) hu0.cells (by omega) (by omega) (by rw [hz2]; unfold Builtin.nextslicecap; rw [if_pos (by omega), Nat.zero_add]; omega)
    simp only [Nat.zero_add] at hr1
    have hge := grownCap_ge w ys.length 0 K.t
    have hcm := grownCap_le_maxLen w ys.length 0 K.t (by unfold maxLen; omega)
    refine ⟨(some ⟨w.heap.size, 0, none⟩, ys.length, grownCap w ys.length 0 K.t), _, hr1, ⟨by rw [rowC_len K.len], .inr ⟨w.heap.size, _, _, rfl, hbase, heap_alloc_new w.drew _, hge, hcm, ?_, ?_⟩⟩, (Le.drew w).trans (Le.alloc _ _), fun _ => rfl⟩
    ·simp only [Array.size_append, List.size_toArray, size_zeroCells, hzs, rowC_len K.len, List.length_nil, Nat.zero_add]
     rw [← Nat.add_mul, Nat.add_sub_cancel' hge]
    ·simp only [Array.toList_append, List.nil_append]
     exact List.take_left' (rowC_len K.len ys)
theorem run_append_E {α : Type} {K : Kind α} {tS : TypeId} (hK : K.In Tryz.prog tS) (ty : TypeId) (w : World) (base : Nat) (v u : Value) (xs ys : List α) (hown : OwnE K w base v xs) (hu : HasE K w u ys) (h0 : 0 < ys.length) (hr : (xs.length + ys.length) * K.by' ≤ 140737488355328) (hr' : xs.length + ys.length ≤ 140737488355328) (hbase : base ≤ w.heap.size) :
   ∃ q w', (Builtin.append_ #[tS, tS] ty #[v, u]).run Tryz.prog w = .ok (slV q) w' ∧ OwnE K w' base (slV q) (xs ++ ys) ∧ w.grownBy w' v.ownBlock := by
 obtain ⟨z, hinfo, hzs⟩ := hK.info
 obtain ⟨i0, hi, hz0, hz1, hz2⟩ := info_parts hinfo
 have hu0 := hu
 obtain ⟨ad, cap, rfl, hc, hn, hx⟩ := hu
 obtain ⟨b, off, rfl, _⟩ := hx h0
 obtain ⟨v', w', hrun, h1, h2, _, _⟩ := run_append_own_at (P := Tryz.prog) w base tS ty K.t i0 z K.k K.by' hK.und hi hz0 hz1 hz2 hzs K.pos v xs.length (rowC K.f xs) hown ⟨b, off, none⟩ ys.length cap (rowC K.f ys) (rowC_len K.len ys) hu0.cells (fun u hu => by obtain ⟨y, _, hy⟩ := rowC_mem ys u hu; exact K.one y u hy) (by unfold maxLen; omega) hr hbase
 have ho : OwnE K w' base v' (xs ++ ys) := OwnE.of h1 (by simp) (by rw [rowC_append])
 obtain ⟨q, rfl⟩ := ho.has.sl
 exact ⟨q, w', hrun, ho, h2⟩
def intK : Kind Int := ⟨3, 1, 8, fun x => [.int .i64 x], 0, by decide, fun _ => rfl, fun x u hu => by simp at hu; subst hu; rfl⟩
theorem intIn : intK.In Tryz.prog 41 := ⟨Tryz.underlying41, _, info3, rfl⟩
theorem rowC_int : ∀ xs : List Int, rowC intK.f xs = xs.map (Value.int .i64)
 | [] => rfl
 | x :: xs => by rw [rowC, rowC_int xs]; rfl
theorem Own.e {w : World} {base : Nat} {v : Value} {xs : List Int} (h : Own w base v xs) : OwnE intK w base v xs := by
 unfold OwnE; rw [rowC_int]; exact h
theorem OwnE.i {w : World} {base : Nat} {v : Value} {xs : List Int} (h : OwnE intK w base v xs) : Own w base v xs := by
 unfold OwnE at h; rw [rowC_int] at h; exact h
theorem Has.e {w : World} {v : Value} {xs : List Int} (h : Has w v xs) : HasE intK w v xs := by
 obtain ⟨a, cap, hv, hc, hn, hx⟩ := h
 refine ⟨a, cap, hv, hc, hn, fun hp => ?_⟩
 obtain ⟨b, off, ha, hcell⟩ := hx hp
 refine ⟨b, off, ha, fun i hi j hj => ?_⟩
 have hj0 : j = 0 := by have : intK.k = 1 := rfl; omega
 subst hj0
 have := hcell i hi
 simpa [intK] using this
theorem run_append_emptyI (ty : TypeId) (w : World) (base b : Nat) (u : Value) (ys : List Int) (hown : Own w base (.slice (some ⟨b, 0, none⟩) 0 0) []) (hu : Has w u ys) (hr : ys.length * 8 ≤ 140737488351232) (hbase : base ≤ w.heap.size) :
   ∃ q w', (Builtin.append_ #[41, 41] ty #[.slice (some ⟨b, 0, none⟩) 0 0, u]).run Tryz.prog w = .ok (slV q) w' ∧ Own w' base (slV q) ys ∧ Le w w' ∧ (0 < ys.length → (slV q).ownBlock = some w.heap.size) := by
 obtain ⟨q, w', h1, h2, h3, h4⟩ := run_append_empty intIn ty w base b u ys hown.e hu.e (by have : intK.by' = 8 := rfl; rw [this]; omega) (by omega) hbase
 exact ⟨q, w', h1, h2.i, h3, h4⟩
theorem wp_append_emptyI {ops : Array Oper} {rest : List Oper} {o : Oper} {a : Act} {Q : Exit → Act → World → Prop} {w : World} (hgd : o.guard = none) (s x : Operand)
   (ho : o.op = .call { callee := .builtin .append, args := #[s, x], argTypes := #[41, 41] }) (base b : Nat) (u : Value) (ys : List Int)
   (hs : a.eval s = .slice (some ⟨b, 0, none⟩) 0 0) (hx : a.eval x = u) (hown : Own w base (.slice (some ⟨b, 0, none⟩) 0 0) []) (hu : Has w u ys) (hr : ys.length * 8 ≤ 140737488351232) (hbase : base ≤ w.heap.size)
   (h : ∀ q w', Own w' base (slV q) ys → Le w w' → (0 < ys.length → (slV q).ownBlock = some w.heap.size) → wpList Tryz.prog ops Q rest (a.put o.dst (slV q)) w') : wpList Tryz.prog ops Q (o :: rest) a w := by
 refine wpList_plain hgd fun K hK => ?_
 obtain ⟨q, w', hrun, h1, h2, h3⟩ := run_append_emptyI o.type w base b u ys hown hu hr hbase
 unfold Oper.wp execOp
 simp only [ho, resolve, invoke, builtin, Sem.run_bind, Sem.run_pure, Result.andThen_ok, List.map_toArray, List.map_cons, List.map_nil, hs, hx, hrun]
 exact hK _ _ (h q w' h1 h2 h3)
inductive Pos where
 | rep (i j : Nat)
 | th (i j : Nat)
deriving DecidableEq
def Pos.wr : Pos → Bool
 | .rep _ j => decide (4 ≤ j)
 | .th _ _ => true
def LP.row (x : LP) : Nat → Sl
 | 0 => x.vs 0
 | 1 => x.vs 1
 | 2 => x.vs 2
 | 3 => x.vs 3
 | 4 => x.c
 | 5 => x.l
 | _ => slZ
def LT.row (x : LT) : Nat → Sl
 | 0 => x.b
 | 1 => x.t
 | _ => slZ
def Lay.at (L : Lay) : Pos → Sl
 | .rep i j => (L.ps.getD i repK.d).row j
 | .th i j => (L.ts.getD i thK.d).row j
def Lay.slots (L : Lay) (i : Nat) : Sl := (L.rs.getD i ringK.d).q
structure ApartM (L : Lay) : Prop where
 s : ∀ i j, i ≠ j → ∀ g, (slV (L.slots i)).ownBlock = some g → (slV (L.slots j)).ownBlock ≠ some g
 n : ∀ p q, p ≠ q → p.wr = true → 0 < (L.at p).2.1 → 0 < (L.at q).2.1 → ∀ g, (slV (L.at p)).ownBlock = some g → (slV (L.at q)).ownBlock ≠ some g
theorem getD_out {α : Type} {xs : List α} {i : Nat} {d : α} (h : xs.length ≤ i) : xs.getD i d = d := by simp [List.getD, List.getElem?_eq_none h]
theorem OwnsM.slots_lt {w : World} {base : Nat} {L : Lay} (h : OwnsM w base L) {i g : Nat} (e : (slV (L.slots i)).ownBlock = some g) : g < w.heap.size := by
 unfold Lay.slots at e
 rcases Nat.lt_or_ge i L.rs.length with hi | hi
 ·exact ((h.iR _ (getD_mem hi)).block e).2
 ·rw [getD_out hi] at e; cases e
theorem OwnsM.at_lt {w : World} {base : Nat} {L : Lay} (h : OwnsM w base L) {p : Pos} {g : Nat} (e : (slV (L.at p)).ownBlock = some g) : g < w.heap.size := by
 cases p with
 | rep i j =>
   rcases Nat.lt_or_ge i L.ps.length with hi | hi
   ·have hp := h.iP _ (getD_mem (d := repK.d) hi)
    simp only [Lay.at] at e
    match j, e with
    | 0, e => exact ((hp.1 0 (by decide)).block e).2
    | 1, e => exact ((hp.1 1 (by decide)).block e).2
    | 2, e => exact ((hp.1 2 (by decide)).block e).2
    | 3, e => exact ((hp.1 3 (by decide)).block e).2
    | 4, e => exact (hp.2.1.block e).2
    | 5, e => exact (hp.2.2.block e).2
    | _ + 6, e => simp [LP.row, Value.ownBlock] at e
   ·simp only [Lay.at] at e
    rw [getD_out hi] at e
    match j, e with
    | 0, e => cases e
    | 1, e => cases e
    | 2, e => cases e
    | 3, e => cases e
    | 4, e => cases e
    | 5, e => cases e
    | _ + 6, e => simp [LP.row, Value.ownBlock] at e
 | th i j =>
   rcases Nat.lt_or_ge i L.ts.length with hi | hi
   ·have hp := h.iT _ (getD_mem (d := thK.d) hi)
    simp only [Lay.at] at e
    match j, e with
    | 0, e => exact (hp.1.block e).2
    | 1, e => exact (hp.2.block e).2
    | _ + 2, e => simp [LT.row, Value.ownBlock] at e
   ·simp only [Lay.at] at e
    rw [getD_out hi] at e
    match j, e with
    | 0, e => cases e
    | 1, e => cases e
    | _ + 2, e => simp [LT.row, Value.ownBlock] at e
theorem row_kept {w1 w2 : World} {base g i : Nat} {u : Value} {row : Option Nat} {T : TypeId} {cs : Array Value} (hg : w1.grownBy w2 row) (hrow : ∀ r, row = some r → ∃ cur, w1.heap[r]? = some (.cells cur T (0, 0))) (hb : Box w2 g cs 29) {t : TypeId} {k n : Nat} {v : Value} {us : List Value}
   (h : w1.ownsRow base t k v n us) (h1 : t ≠ T) (h2 : t ≠ 29) : (w2.setCell ⟨g, i, none⟩ u).ownsRow base t k v n us := by
 have hk : w2.ownsRow base t k v n us := by
   obtain ⟨e1, e2⟩ := h
   refine ⟨e1, ?_⟩
   rcases e2 with e2 | ⟨g', cap, cur, hv, hbb, hh, r⟩
   ·exact .inl e2
   ·refine .inr ⟨g', cap, cur, hv, hbb, ?_, r⟩
    rw [hg.block g' (block_lt hh) (fun e => ?_)]
    ·exact hh
    ·obtain ⟨cur', hc⟩ := hrow g' e.symm
     rw [hh] at hc
     simp at hc
     exact h1 hc.2
 refine ownsRow_setCell_other hk (fun e => ?_) u
 rcases hk.2 with ⟨e2, _⟩ | ⟨g', cap, cur, hv, _, hh, _⟩
 ·rw [e2] at e; simp [Value.ownBlock] at e
 ·rw [hv] at e
  simp [Value.ownBlock] at e
  subst e
  unfold Box at hb
  rw [hb] at hh
  simp at hh
  exact h2 hh.2.symm
theorem OwnE.rowT {α : Type} {K : Kind α} {w : World} {base : Nat} {v : Value} {xs : List α} (h : OwnE K w base v xs) : ∀ r, v.ownBlock = some r → ∃ cur, w.heap[r]? = some (.cells cur K.t (0, 0)) := by
 intro r e
 rcases h.2 with ⟨e2, _⟩ | ⟨g', cap, cur, hv, _, hh, _⟩
 ·rw [e2] at e; simp [Value.ownBlock] at e
 ·rw [hv] at e
  simp [Value.ownBlock] at e
  subst e
  exact ⟨cur, hh⟩
abbrev cellsZ9 : Array Value := #[.int .i64 0, .int .i64 0, .int .i64 0, .int .i64 0, .int .i64 0, .slice none 0 0, .slice none 0 0, .slice none 0 0, .slice none 0 0]
structure CpI (F : Prop) (w : World) (cp : Array Value) (tp : TypeId) (c : Cfg) (g : Nat) (wr : World) (L : Lay) : Prop where
 le : Le w wr
 bp : Box wr w.heap.size cp tp
 br : Box wr (w.heap.size + 1) cellsZ9 29
 bo : Box wr g (cells9 c L.qR L.qP L.qT L.qH) 29
 gb : w.heap.size + 1 < g
 own : OwnsM wr w.heap.size L
 ap : F → ApartM L
theorem CpI.later {F : Prop} {w : World} {cp : Array Value} {tp : TypeId} {c : Cfg} {g : Nat} {wr w' : World} {L : Lay} (h : CpI F w cp tp c g wr L) (l : Le wr w') : CpI F w cp tp c g w' L :=
 ⟨h.le.trans l, h.bp.le l, h.br.le l, h.bo.le l, h.gb, h.own.le l, h.ap⟩
theorem slots_app (L : Lay) (q : Sl) (x : LR) (i : Nat) : ({ L with qR := q, rs := L.rs ++ [x] } : Lay).slots i = if i < L.rs.length then L.slots i else if i = L.rs.length then x.q else slZ := by
 unfold Lay.slots
 simp only [List.getD]
 rcases Nat.lt_trichotomy i L.rs.length with h | h | h
 ·rw [if_pos h, List.getElem?_append_left h]
 ·subst h; simp
 ·rw [if_neg (by omega), if_neg (by omega), List.getElem?_eq_none (by simp; omega)]; rfl
theorem at_appP (L : Lay) (q : Sl) (x : LP) (p : Pos) : ({ L with qP := q, ps := L.ps ++ [x] } : Lay).at p = match p with | .rep i j => if i < L.ps.length then L.at (.rep i j) else if i = L.ps.length then x.row j else slZ | .th i j => L.at (.th i j) := by
 cases p with
 | rep i j =>
   simp only [Lay.at, List.getD]
   rcases Nat.lt_trichotomy i L.ps.length with h | h | h
   ·rw [if_pos h, List.getElem?_append_left h]
   ·subst h; simp
   ·rw [if_neg (by omega), if_neg (by omega), List.getElem?_eq_none (by simp; omega)]
    match j with
    | 0 => rfl
    | 1 => rfl
    | 2 => rfl
    | 3 => rfl
    | 4 => rfl
    | 5 => rfl
    | _ + 6 => rfl
 | th i j => rfl
theorem at_appT (L : Lay) (q : Sl) (x : LT) (p : Pos) : ({ L with qT := q, ts := L.ts ++ [x] } : Lay).at p = match p with | .rep i j => L.at (.rep i j) | .th i j => if i < L.ts.length then L.at (.th i j) else if i = L.ts.length then x.row j else slZ := by
 cases p with
 | rep i j => rfl
 | th i j =>
   simp only [Lay.at, List.getD]
   rcases Nat.lt_trichotomy i L.ts.length with h | h | h
   ·rw [if_pos h, List.getElem?_append_left h]
   ·subst h; simp
   ·rw [if_neg (by omega), if_neg (by omega), List.getElem?_eq_none (by simp; omega)]
    match j with
    | 0 => rfl
    | 1 => rfl
    | _ + 2 => rfl
theorem CpI.worlds {F : Prop} {α : Type} {K : Kind α} {w : World} {cp : Array Value} {tp : TypeId} {c : Cfg} {g : Nat} {wr w1 w2 : World} {L : Lay} (h : CpI F w cp tp c g wr L) (l : Le wr w1) {v u : Value} {xs : List α} {j : Nat} (ho : OwnE K wr w.heap.size v xs) (hK : 29 ≠ K.t) (htp : tp ≠ K.t) (hg : w1.grownBy w2 v.ownBlock) :
   Le w (w2.setCell ⟨g, j, none⟩ u) ∧ Box (w2.setCell ⟨g, j, none⟩ u) w.heap.size cp tp ∧ Box (w2.setCell ⟨g, j, none⟩ u) (w.heap.size + 1) cellsZ9 29 ∧ Box w2 g (cells9 c L.qR L.qP L.qT L.qH) 29 := by
 have ho1 := ho.le l
 have gb := h.gb
 refine ⟨Le.set (Below.grown (h.le.trans l) hg (h.le.trans l).size (fun k hk => (ho.block hk).1)) (by omega), ?_, ?_, ?_⟩
 ·exact ((h.bp.le l).grown hg (ho1.apart (h.bp.le l) htp)).other (by omega) _ _
 ·exact ((h.br.le l).grown hg (ho1.apart (h.br.le l) hK)).other (by omega) _ _
 ·exact (h.bo.le l).grown hg (ho1.apart (h.bo.le l) hK)
theorem CpI.ring {F : Prop} {w : World} {cp : Array Value} {tp : TypeId} {c : Cfg} {g : Nat} {wr w1 w2 : World} {L : Lay} (h : CpI F w cp tp c g wr L) (htp : tp ≠ ringK.t) (l : Le wr w1) {x : LR} (hx : OwnL w1 wr.heap.size (slV x.q) x.R.ss) {q' : Sl} (ho : OwnE ringK w2 w.heap.size (slV q') (L.rs ++ [x])) (hg : w1.grownBy w2 (slV L.qR).ownBlock) :
   CpI F w cp tp c g (w2.setCell ⟨g, 5, none⟩ (slV q')) { L with qR := q', rs := L.rs ++ [x] } := by
 obtain ⟨le, bp, br, bo⟩ := h.worlds (u := slV q') (j := 5) l h.own.oR (by decide) htp hg
 have hb5 := bo.set 5 (slV q')
 have hrow := (h.own.oR.le l).rowT
 have o := h.own.le l
 have hsz := h.le.size
 refine ⟨le, bp, br, hb5, h.gb, ⟨?_, ?_, ?_, ?_, fun y hy => ?_, fun y hy => ?_, fun y hy => ?_⟩, fun hF => ⟨fun i j hne b e1 e2 => ?_, (h.ap hF).n⟩⟩
 ·exact ho.set (ho.apart bo (by decide))
 ·exact row_kept hg hrow bo o.oP (by decide) (by decide)
 ·exact row_kept hg hrow bo o.oT (by decide) (by decide)
 ·exact row_kept hg hrow bo o.oH (by decide) (by decide)
 ·rcases List.mem_append.1 hy with hy | hy
  ·exact row_kept hg hrow bo (o.iR y hy) (by decide) (by decide)
  ·obtain rfl := List.mem_singleton.1 hy
   exact row_kept hg hrow bo (hx.base hsz) (by decide) (by decide)
 ·exact ⟨fun i hi => row_kept hg hrow bo ((o.iP y hy).1 i hi) (by decide) (by decide), row_kept hg hrow bo (o.iP y hy).2.1 (by decide) (by decide), row_kept hg hrow bo (o.iP y hy).2.2 (by decide) (by decide)⟩
 ·exact ⟨row_kept hg hrow bo (o.iT y hy).1 (by decide) (by decide), row_kept hg hrow bo (o.iT y hy).2 (by decide) (by decide)⟩
 ·rw [slots_app] at e1 e2
  have hxb : ∀ b, (slV x.q).ownBlock = some b → wr.heap.size ≤ b := fun b e => (hx.block e).1
  split at e1
  ·have b1 := h.own.slots_lt e1
   split at e2
   ·exact (h.ap hF).s i j hne b e1 e2
   ·split at e2
    ·have := hxb b e2; omega
    ·cases e2
  ·split at e1
   ·have b1 := hxb b e1
    split at e2
    ·have := h.own.slots_lt e2; omega
    ·split at e2
     ·omega
     ·cases e2
   ·cases e1
theorem CpI.rep {F : Prop} {w : World} {cp : Array Value} {tp : TypeId} {c : Cfg} {g : Nat} {wr w1 w2 : World} {L : Lay} (h : CpI F w cp tp c g wr L) (htp : tp ≠ repK.t) (l : Le wr w1) {x : LP} (hx0 : ∀ i, i < 4 → Own w1 wr.heap.size (slV (x.vs i)) (x.P.s.at i)) (hx1 : Own w1 wr.heap.size (slV x.c) x.P.cs) (hx2 : Own w1 wr.heap.size (slV x.l) x.P.ls)
   (hxa : F → ∀ i j, i ≠ j → 4 ≤ i → 0 < (x.row i).2.1 → 0 < (x.row j).2.1 → ∀ b, (slV (x.row i)).ownBlock = some b → (slV (x.row j)).ownBlock ≠ some b) {q' : Sl} (ho : OwnE repK w2 w.heap.size (slV q') (L.ps ++ [x])) (hg : w1.grownBy w2 (slV L.qP).ownBlock) :
   CpI F w cp tp c g (w2.setCell ⟨g, 6, none⟩ (slV q')) { L with qP := q', ps := L.ps ++ [x] } := by
 obtain ⟨le, bp, br, bo⟩ := h.worlds (u := slV q') (j := 6) l h.own.oP (by decide) htp hg
 have hb5 := bo.set 6 (slV q')
 have hrow := (h.own.oP.le l).rowT
 have o := h.own.le l
 have hsz := h.le.size
 refine ⟨le, bp, br, hb5, h.gb, ⟨?_, ?_, ?_, ?_, fun y hy => ?_, fun y hy => ?_, fun y hy => ?_⟩, fun hF => ⟨(h.ap hF).s, fun p r hne hw n1 n2 b e1 e2 => ?_⟩⟩
 ·exact row_kept hg hrow bo o.oR (by decide) (by decide)
 ·exact ho.set (ho.apart bo (by decide))
 ·exact row_kept hg hrow bo o.oT (by decide) (by decide)
 ·exact row_kept hg hrow bo o.oH (by decide) (by decide)
 ·exact row_kept hg hrow bo (o.iR y hy) (by decide) (by decide)
 ·rcases List.mem_append.1 hy with hy | hy
  ·exact ⟨fun i hi => row_kept hg hrow bo ((o.iP y hy).1 i hi) (by decide) (by decide), row_kept hg hrow bo (o.iP y hy).2.1 (by decide) (by decide), row_kept hg hrow bo (o.iP y hy).2.2 (by decide) (by decide)⟩
  ·obtain rfl := List.mem_singleton.1 hy
   exact ⟨fun i hi => row_kept hg hrow bo ((hx0 i hi).base hsz) (by decide) (by decide), row_kept hg hrow bo (hx1.base hsz) (by decide) (by decide), row_kept hg hrow bo (hx2.base hsz) (by decide) (by decide)⟩
 ·exact ⟨row_kept hg hrow bo (o.iT y hy).1 (by decide) (by decide), row_kept hg hrow bo (o.iT y hy).2 (by decide) (by decide)⟩
 ·have hxb : ∀ j b, (slV (x.row j)).ownBlock = some b → wr.heap.size ≤ b := fun j b e => by
    match j, e with
    | 0, e => exact ((hx0 0 (by decide)).block e).1
    | 1, e => exact ((hx0 1 (by decide)).block e).1
    | 2, e => exact ((hx0 2 (by decide)).block e).1
    | 3, e => exact ((hx0 3 (by decide)).block e).1
    | 4, e => exact (hx1.block e).1
    | 5, e => exact (hx2.block e).1
    | _ + 6, e => simp [LP.row, Value.ownBlock] at e
  have key : ∀ p, (∃ j, p = .rep L.ps.length j ∧ ({ L with qP := q', ps := L.ps ++ [x] } : Lay).at p = x.row j) ∨ ({ L with qP := q', ps := L.ps ++ [x] } : Lay).at p = L.at p ∨ ({ L with qP := q', ps := L.ps ++ [x] } : Lay).at p = slZ := fun p => by
    rw [at_appP]
    cases p with
    | rep i j =>
      by_cases h1 : i < L.ps.length
      ·right; left; simp only [h1, if_true]
      ·by_cases h2 : i = L.ps.length
       ·left; subst h2; exact ⟨j, rfl, by simp⟩
       ·right; right; simp only [h1, h2, if_false]
    | th i j => right; left; rfl
  rcases key p with ⟨i, rfl, k1⟩ | k1 | k1
  ·rw [k1] at e1 n1
   rcases key r with ⟨j, rfl, k2⟩ | k2 | k2
   ·rw [k2] at e2 n2
    exact hxa hF i j (fun e => hne (by rw [e])) (by simpa [Pos.wr] using hw) n1 n2 b e1 e2
   ·rw [k2] at e2
    have := hxb i b e1
    have := h.own.at_lt e2
    omega
   ·rw [k2] at e2; cases e2
  ·rw [k1] at e1 n1
   rcases key r with ⟨j, rfl, k2⟩ | k2 | k2
   ·rw [k2] at e2
    have := hxb j b e2
    have := h.own.at_lt e1
    omega
   ·rw [k2] at e2 n2
    exact (h.ap hF).n p r hne hw n1 n2 b e1 e2
   ·rw [k2] at e2; cases e2
  ·rw [k1] at e1; cases e1
theorem CpI.th {F : Prop} {w : World} {cp : Array Value} {tp : TypeId} {c : Cfg} {g : Nat} {wr w1 w2 : World} {L : Lay} (h : CpI F w cp tp c g wr L) (htp : tp ≠ thK.t) (l : Le wr w1) {x : LT} (hx1 : Own w1 wr.heap.size (slV x.b) x.T.b) (hx2 : Own w1 wr.heap.size (slV x.t) x.T.tl)
   (hxa : F → 0 < x.b.2.1 → 0 < x.t.2.1 → ∀ b, (slV x.b).ownBlock = some b → (slV x.t).ownBlock ≠ some b) {q' : Sl} (ho : OwnE thK w2 w.heap.size (slV q') (L.ts ++ [x])) (hg : w1.grownBy w2 (slV L.qT).ownBlock) :
   CpI F w cp tp c g (w2.setCell ⟨g, 7, none⟩ (slV q')) { L with qT := q', ts := L.ts ++ [x] } := by
 obtain ⟨le, bp, br, bo⟩ := h.worlds (u := slV q') (j := 7) l h.own.oT (by decide) htp hg
 have hb5 := bo.set 7 (slV q')
 have hrow := (h.own.oT.le l).rowT
 have o := h.own.le l
 have hsz := h.le.size
 refine ⟨le, bp, br, hb5, h.gb, ⟨?_, ?_, ?_, ?_, fun y hy => ?_, fun y hy => ?_, fun y hy => ?_⟩, fun hF => ⟨(h.ap hF).s, fun p r hne hw n1 n2 b e1 e2 => ?_⟩⟩
 ·exact row_kept hg hrow bo o.oR (by decide) (by decide)
 ·exact row_kept hg hrow bo o.oP (by decide) (by decide)
 ·exact ho.set (ho.apart bo (by decide))
 ·exact row_kept hg hrow bo o.oH (by decide) (by decide)
 ·exact row_kept hg hrow bo (o.iR y hy) (by decide) (by decide)
 ·exact ⟨fun i hi => row_kept hg hrow bo ((o.iP y hy).1 i hi) (by decide) (by decide), row_kept hg hrow bo (o.iP y hy).2.1 (by decide) (by decide), row_kept hg hrow bo (o.iP y hy).2.2 (by decide) (by decide)⟩
 ·rcases List.mem_append.1 hy with hy | hy
  ·exact ⟨row_kept hg hrow bo (o.iT y hy).1 (by decide) (by decide), row_kept hg hrow bo (o.iT y hy).2 (by decide) (by decide)⟩
  ·obtain rfl := List.mem_singleton.1 hy
   exact ⟨row_kept hg hrow bo (hx1.base hsz) (by decide) (by decide), row_kept hg hrow bo (hx2.base hsz) (by decide) (by decide)⟩
 ·have hxb : ∀ j b, (slV (x.row j)).ownBlock = some b → wr.heap.size ≤ b := fun j b e => by
    match j, e with
    | 0, e => exact (hx1.block e).1
    | 1, e => exact (hx2.block e).1
    | _ + 2, e => simp [LT.row, Value.ownBlock] at e
  have key : ∀ p, (∃ j, p = .th L.ts.length j ∧ ({ L with qT := q', ts := L.ts ++ [x] } : Lay).at p = x.row j) ∨ ({ L with qT := q', ts := L.ts ++ [x] } : Lay).at p = L.at p ∨ ({ L with qT := q', ts := L.ts ++ [x] } : Lay).at p = slZ := fun p => by
    rw [at_appT]
    cases p with
    | th i j =>
      by_cases h1 : i < L.ts.length
      ·right; left; simp only [h1, if_true]
      ·by_cases h2 : i = L.ts.length
       ·left; subst h2; exact ⟨j, rfl, by simp⟩
       ·right; right; simp only [h1, h2, if_false]
    | rep i j => right; left; rfl
  rcases key p with ⟨i, rfl, k1⟩ | k1 | k1
  ·rw [k1] at e1 n1
   rcases key r with ⟨j, rfl, k2⟩ | k2 | k2
   ·rw [k2] at e2 n2
    have hij : i ≠ j := fun e => hne (by rw [e])
    match i, j, e1, n1, e2, n2, hij with
    | 0, 0, _, _, _, _, hij => exact hij rfl
    | 0, 1, e1, n1, e2, n2, _ => exact hxa hF n1 n2 b e1 e2
    | 1, 0, e1, n1, e2, n2, _ => exact hxa hF n2 n1 b e2 e1
    | 1, 1, _, _, _, _, hij => exact hij rfl
    | 0, _ + 2, _, _, e2, _, _ => simp [LT.row, Value.ownBlock] at e2
    | 1, _ + 2, _, _, e2, _, _ => simp [LT.row, Value.ownBlock] at e2
    | _ + 2, _, e1, _, _, _, _ => simp [LT.row, Value.ownBlock] at e1
   ·rw [k2] at e2
    have := hxb i b e1
    have := h.own.at_lt e2
    omega
   ·rw [k2] at e2; cases e2
  ·rw [k1] at e1 n1
   rcases key r with ⟨j, rfl, k2⟩ | k2 | k2
   ·rw [k2] at e2
    have := hxb j b e2
    have := h.own.at_lt e1
    omega
   ·rw [k2] at e2 n2
    exact (h.ap hF).n p r hne hw n1 n2 b e1 e2
   ·rw [k2] at e2; cases e2
  ·rw [k1] at e1; cases e1
abbrev put9 (x : World) (g : Nat) (c : Cfg) (a b d e : Sl) : World := ((((((((x.setCell ⟨g, 0, none⟩ (.int .i64 c.o)).setCell ⟨g, 1, none⟩ (.int .i64 c.r)).setCell ⟨g, 2, none⟩ (.int .i64 c.l)).setCell ⟨g, 3, none⟩ (.int .i64 c.t)).setCell ⟨g, 4, none⟩ (.int .i64 c.s)).setCell ⟨g, 5, none⟩ (slV a)).setCell ⟨g, 6, none⟩ (slV b)).setCell ⟨g, 7, none⟩ (slV d)).setCell ⟨g, 8, none⟩ (slV e)
theorem Box.put9 {w : World} {g : Nat} {cs : Array Value} {t : TypeId} (h : Box w g cs t) (hs : cs.size = 9) (c : Cfg) (a b d e : Sl) : Box (put9 w g c a b d e) g (cells9 c a b d e) t := by
 obtain ⟨l⟩ := cs
 match l, hs with
 | [x0, x1, x2, x3, x4, x5, x6, x7, x8], _ =>
   have h9 := ((((((((h.set 0 (.int .i64 c.o)).set 1 (.int .i64 c.r)).set 2 (.int .i64 c.l)).set 3 (.int .i64 c.t)).set 4 (.int .i64 c.s)).set 5 (slV a)).set 6 (slV b)).set 7 (slV d)).set 8 (slV e)
   simpa only [Array.set!_eq_setIfInBounds, List.setIfInBounds_toArray, List.set_cons_zero, List.set_cons_succ] using h9
theorem Box.off9 {w : World} {g g' : Nat} {cs : Array Value} {t : TypeId} (h : Box w g cs t) (hne : g ≠ g') (c : Cfg) (a b d e : Sl) : Box (Go.Proofs.YtepplhbajmlbpaaGreat.put9 w g' c a b d e) g cs t :=
 ((((((((h.other hne _ _).other hne _ _).other hne _ _).other hne _ _).other hne _ _).other hne _ _).other hne _ _).other hne _ _).other hne _ _
theorem Le.put9 {w w' : World} {g : Nat} (h : Le w w') (hg : w.heap.size ≤ g) (c : Cfg) (a b d e : Sl) : Le w (Go.Proofs.YtepplhbajmlbpaaGreat.put9 w' g c a b d e) :=
 ((((((((h.set hg).set hg).set hg).set hg).set hg).set hg).set hg).set hg).set hg
theorem row_put9 {w : World} {base g k n : Nat} {t : TypeId} {v : Value} {us : List Value} (h : w.ownsRow base t k v n us) (hne : v.ownBlock ≠ some g) (c : Cfg) (a b d e : Sl) : (put9 w g c a b d e).ownsRow base t k v n us := by
 iterate 9 refine ownsRow_setCell_other ?_ hne _
 exact h
theorem CpI.start {F : Prop} {w x : World} {cp : Array Value} {tp : TypeId} {c : Cfg} {q : Sl} {g : Nat} {Es : List Ev} (hl : Le w x) (bp : Box x w.heap.size cp tp) (br : Box x (w.heap.size + 1) cellsZ9 29) (bo : Box x g cellsZ9 29) (hg : w.heap.size + 2 ≤ g) (ho : OwnE evK x (w.heap.size + 2) (slV q) Es) :
   CpI F w cp tp c g (put9 x g c slZ slZ slZ q) ⟨c, slZ, slZ, slZ, q, [], [], [], Es⟩ := by
 refine ⟨hl.put9 (by omega) _ _ _ _ _, bp.off9 (by omega) _ _ _ _ _, br.off9 (by omega) _ _ _ _ _, bo.put9 rfl _ _ _ _ _, by omega, ⟨OwnE.nil _ _ _, OwnE.nil _ _ _, OwnE.nil _ _ _, ?_, (fun x h => by cases h), (fun x h => by cases h), (fun x h => by cases h)⟩, fun _ => ⟨fun i j _ b e _ => ?_, fun p r _ _ n1 _ b _ _ => ?_⟩⟩
 ·exact row_put9 (ho.base (base' := w.heap.size) (by omega)) (ho.apart bo (by decide)) _ _ _ _ _
 ·simp [Lay.slots, ringK, Value.ownBlock] at e
 ·cases p with
  | rep i j =>
    match j, n1 with
    | 0, n1 => simp [Lay.at, repK, LP.row] at n1
    | 1, n1 => simp [Lay.at, repK, LP.row] at n1
    | 2, n1 => simp [Lay.at, repK, LP.row] at n1
    | 3, n1 => simp [Lay.at, repK, LP.row] at n1
    | 4, n1 => simp [Lay.at, repK, LP.row] at n1
    | 5, n1 => simp [Lay.at, repK, LP.row] at n1
    | _ + 6, n1 => simp [Lay.at, LP.row] at n1
  | th i j =>
    match j, n1 with
    | 0, n1 => simp [Lay.at, thK, LT.row] at n1
    | 1, n1 => simp [Lay.at, thK, LT.row] at n1
    | _ + 2, n1 => simp [Lay.at, LT.row] at n1
structure RepOwn (x : World) (B : Nat) (P : Rp) (us : Nat → Sl) (qa qb : Sl) : Prop where
 s : ∀ i, i < 4 → Own x B (slV (us i)) (P.s.at i)
 c : Own x B (slV qa) P.cs
 l : Own x B (slV qb) P.ls
 a1 : 0 < P.cs.length → ∀ i, i < 4 → ∀ b, (slV qa).ownBlock = some b → (slV (us i)).ownBlock ≠ some b
 a2 : 0 < P.ls.length → ∀ i, i < 4 → ∀ b, (slV qb).ownBlock = some b → (slV (us i)).ownBlock ≠ some b
 a3 : 0 < P.ls.length → ∀ b, (slV qb).ownBlock = some b → (slV qa).ownBlock ≠ some b
theorem RepOwn.le {x y : World} {B : Nat} {P : Rp} {us : Nat → Sl} {qa qb : Sl} (h : RepOwn x B P us qa qb) (l : Le x y) : RepOwn y B P us qa qb :=
 ⟨fun i hi => (h.s i hi).le l, h.c.le l, h.l.le l, h.a1, h.a2, h.a3⟩
theorem own_len {w : World} {B : Nat} {q : Sl} {xs : List Int} (h : Own w B (slV q) xs) : q.2.1 = xs.length := by
 obtain ⟨a, cap, hv, _⟩ := h.has
 simp only [slV, Value.slice.injEq] at hv
 exact hv.2.1
theorem RepOwn.apart {x : World} {B : Nat} {P : Rp} {us : Nat → Sl} {qa qb : Sl} (h : RepOwn x B P us qa qb) : ∀ i j, i ≠ j → 4 ≤ i → 0 < ((⟨P, us, qa, qb⟩ : LP).row i).2.1 → 0 < ((⟨P, us, qa, qb⟩ : LP).row j).2.1 → ∀ b, (slV ((⟨P, us, qa, qb⟩ : LP).row i)).ownBlock = some b → (slV ((⟨P, us, qa, qb⟩ : LP).row j)).ownBlock ≠ some b := by
 intro i j hne hi n1 n2 b e1 e2
 have l4 := own_len h.c
 have l5 := own_len h.l
 match i, hi, n1, e1 with
 | 4, _, n1, e1 =>
   have n1' : 0 < P.cs.length := by simp only [LP.row] at n1; omega
   match j, n2, e2 with
   | 0, _, e2 => exact h.a1 n1' 0 (by decide) b e1 e2
   | 1, _, e2 => exact h.a1 n1' 1 (by decide) b e1 e2
   | 2, _, e2 => exact h.a1 n1' 2 (by decide) b e1 e2
   | 3, _, e2 => exact h.a1 n1' 3 (by decide) b e1 e2
   | 4, _, _ => exact hne rfl
   | 5, n2, e2 => exact h.a3 (by simp only [LP.row] at n2; omega) b e2 e1
   | _ + 6, n2, _ => simp [LP.row] at n2
 | 5, _, n1, e1 =>
   have n1' : 0 < P.ls.length := by simp only [LP.row] at n1; omega
   match j, n2, e2 with
   | 0, _, e2 => exact h.a2 n1' 0 (by decide) b e1 e2
   | 1, _, e2 => exact h.a2 n1' 1 (by decide) b e1 e2
   | 2, _, e2 => exact h.a2 n1' 2 (by decide) b e1 e2
   | 3, _, e2 => exact h.a2 n1' 3 (by decide) b e1 e2
   | 4, _, e2 => exact h.a3 n1' b e1 e2
   | 5, _, _ => exact hne rfl
   | _ + 6, n2, _ => simp [LP.row] at n2
 | _ + 6, _, n1, _ => simp [LP.row] at n1
theorem Box.setT6 {w : World} {g : Nat} {T : Th} {b t q : Sl} {ty : TypeId} (h : Box w g (cellsT T b t) ty) : Box (w.setCell ⟨g, 6, none⟩ (slV q)) g (cellsT T q t) ty := by
 have h9 := h.set 6 (slV q)
 simpa only [Array.set!_eq_setIfInBounds, List.setIfInBounds_toArray, List.set_cons_zero, List.set_cons_succ] using h9
theorem Box.setT11 {w : World} {g : Nat} {T : Th} {b t q : Sl} {ty : TypeId} (h : Box w g (cellsT T b t) ty) : Box (w.setCell ⟨g, 11, none⟩ (slV q)) g (cellsT T b q) ty := by
 have h9 := h.set 11 (slV q)
 simpa only [Array.set!_eq_setIfInBounds, List.setIfInBounds_toArray, List.set_cons_zero, List.set_cons_succ] using h9
def Lay.far (L : Lay) : Prop := ∀ i p b, p ≠ .th i 1 → (slV (L.at (.th i 1))).ownBlock = some b → (slV (L.at p)).ownBlock ≠ some b
theorem far_none {L : Lay} (h : L.ts = []) : L.far := fun i p b _ e => by
 simp only [Lay.at, h] at e
 cases e
theorem far_app {L : Lay} {m : Nat} (h : L.far) (hm : ∀ p b, (slV (L.at p)).ownBlock = some b → b < m) (q : Sl) (x : LT) (h1 : ∀ b, (slV x.b).ownBlock = some b → m ≤ b) (h2 : ∀ b, (slV x.t).ownBlock = some b → m ≤ b)
   (h12 : ∀ b, (slV x.b).ownBlock = some b → (slV x.t).ownBlock ≠ some b) : ({ L with qT := q, ts := L.ts ++ [x] } : Lay).far := by
 intro i p b hp e1 e2
 rw [at_appT] at e1 e2
 simp only at e1
 have old : ∀ k, (slV (x.row k)).ownBlock = some b → m ≤ b := fun k e => by
   match k, e with
   | 0, e => exact h1 b e
   | 1, e => exact h2 b e
   | _ + 2, e => simp [LT.row, Value.ownBlock] at e
 cases p with
 | rep j k =>
   simp only at e2
   have l2 := hm _ b e2
   split at e1
   ·exact h i _ b hp e1 e2
   ·split at e1
    ·have := old 1 e1; omega
    ·cases e1
 | th j k =>
   simp only at e2
   split at e1
   ·have l1 := hm _ b e1
    split at e2
    ·exact h i _ b hp e1 e2
    ·split at e2
     ·have := old k e2; omega
     ·cases e2
   ·split at e1
    ·next hi =>
     have l1 := old 1 e1
     split at e2
     ·have := hm _ b e2; omega
     ·split at e2
      ·next hj =>
       match k, e2 with
       | 0, e2 => exact h12 b e2 e1
       | 1, _ => exact hp (by rw [hi, hj])
       | _ + 2, e2 => simp [LT.row, Value.ownBlock] at e2
      ·cases e2
    ·cases e1
set_option maxRecDepth 8000 in
set_option maxHeartbeats 16000000 in
theorem rmCopyT (v : Value) (M : Mc) (w : World) (hx : HasM w v M) (hf : FitM M) :
   Calls Tryz.prog 33 #[v] w fun e w' => ∃ L : Lay, e = .returned L.v ∧ L.M = M ∧ OwnsM w' w.heap.size L ∧ ApartM L ∧ Le w w' ∧ L.far := by
 obtain ⟨c, Rs, Ps, Ts, Es⟩ := M
 obtain ⟨⟨aR, nR, cR⟩, ⟨aP, nP, cP⟩, ⟨aT, nT, cT⟩, qH, rfl, hR, hP, hT, hH⟩ := hx
 obtain ⟨f1, f2, f3, f4, fr, fp, ft⟩ := hf
 simp only at hR hP hT hH f1 f2 f3 f4 fr fp ft
 obtain ⟨a, n, hv, nc, _, oR⟩ := hR.open
 simp only [slV, Value.slice.injEq] at hv
 obtain ⟨rfl, rfl, rfl⟩ := hv
 obtain ⟨a, n, hv, pc, _, oP⟩ := hP.open
 simp only [slV, Value.slice.injEq] at hv
 obtain ⟨rfl, rfl, rfl⟩ := hv
 obtain ⟨a, n, hv, tc, _, oT⟩ := hT.open
 simp only [slV, Value.slice.injEq] at hv
 obtain ⟨rfl, rfl, rfl⟩ := hv
 clear hR hP hT
 obtain ⟨nR, hnR⟩ : ∃ n, n = Rs.length := ⟨_, rfl⟩
 obtain ⟨nP, hnP⟩ : ∃ n, n = Ps.length := ⟨_, rfl⟩
 obtain ⟨nT, hnT⟩ : ∃ n, n = Ts.length := ⟨_, rfl⟩
 have HR : Hid (nR = Rs.length) := hnR
 have HP : Hid (nP = Ps.length) := hnP
 have HT : Hid (nT = Ts.length) := hnT
 rw [← hnR] at nc oR f1 ⊢
 rw [← hnP] at pc oP f2 ⊢
 rw [← hnT] at tc oT f3 ⊢
 clear hnR hnP hnT
 have hl := (Le.alloc w (.cells (cells9 c (aR, nR, cR) (aP, nP, cP) (aT, nT, cT) qH) 29)).trans (Le.alloc _ (.cells cellsZ9 29))
 have hb1 := (Box.new w (cells9 c (aR, nR, cR) (aP, nP, cP) (aT, nT, cT) qH) 29).le (Le.alloc _ (.cells cellsZ9 29))
 have hb2 := Box.new (w.alloc (.cells (cells9 c (aR, nR, cR) (aP, nP, cP) (aT, nT, cT) qH) 29)) cellsZ9 29
 have hWs : ((w.alloc (.cells (cells9 c (aR, nR, cR) (aP, nP, cP) (aT, nT, cT) qH) 29)).alloc (.cells cellsZ9 29)).heap.size = w.heap.size + 2 := by simp
 rw [World.size_alloc] at hb2
 go_enter Tryz.func33, Tryz.ntmps33
 go_upto_region 1 with fail
 generalize hW : (w.alloc (.cells (cells9 c (aR, nR, cR) (aP, nP, cP) (aT, nT, cT) qH) 29)).alloc (.cells cellsZ9 29) = W at hl hb1 hb2 hWs ⊢
 clear hW
 go_cut [3] from 9 (fun s3 wc => ∃ g q, s3 = .pointer (some ⟨g, 0, none⟩) ∧ CpI True w (cells9 c (aR, nR, cR) (aP, nP, cP) (aT, nT, cT) qH) 29 c g wc ⟨c, slZ, slZ, slZ, q, [], [], [], Es⟩)
 case first =>
   refine wp_region_any (by kernel_rfl) ?_
   obtain ⟨⟨z0, z1, z2, z3, z4⟩, z5, z6, z7, z8⟩ := hb1.mach
   have hH' := hH.le hl
   refine wpAny_grow [] [0, 1, 2, 3, 4, 5, 6, 7] [8] (by decide) (by kernel_rfl) Le (Le.refl _) (fun _ _ _ => Le.trans)
     (fun vs i x => match i with
       | 0 => vs 0 = .pointer (some ⟨w.heap.size, 0, none⟩)
       | 1 => vs 1 = cfgV c.o c.r c.l c.t c.s
       | 2 => ∃ b, vs 2 = .slice (some ⟨b, 0, none⟩) 0 0 ∧ OwnE evK x (w.heap.size + 2) (.slice (some ⟨b, 0, none⟩) 0 0) []
       | 3 => vs 3 = .pointer (some ⟨w.heap.size, 8, none⟩)
       | 4 => vs 4 = slV qH
       | 5 => ∃ q, vs 5 = slV q ∧ OwnE evK x (w.heap.size + 2) (slV q) Es
       | 6 => ∃ q, vs 6 = machV c slZ slZ slZ q ∧ OwnE evK x (w.heap.size + 2) (slV q) Es
       | _ => ∃ g, vs 7 = .pointer (some ⟨g, 0, none⟩) ∧ w.heap.size + 2 ≤ g ∧ Box x g cellsZ9 29) ?_ ?_ (by decide) ?_ ?_
   ·intro vs i x y hi _ h hxy
    simp only [List.mem_cons, List.not_mem_nil, or_false] at hi
    rcases hi with rfl | rfl | rfl | rfl | rfl | rfl | rfl | rfl
    ·exact h
    ·exact h
    ·obtain ⟨b, e, o⟩ := h; exact ⟨b, e, o.le hxy⟩
    ·exact h
    ·exact h
    ·obtain ⟨b, e, o⟩ := h; exact ⟨b, e, o.le hxy⟩
    ·obtain ⟨b, e, o⟩ := h; exact ⟨b, e, o.le hxy⟩
    ·obtain ⟨b, e, o, o'⟩ := h; exact ⟨b, e, o, o'.le hxy⟩
   ·intro vs vs' i o x hi _ hk h
    have e := hk i (.inl rfl)
    simp only [List.mem_cons, List.not_mem_nil, or_false] at hi
    rcases hi with rfl | rfl | rfl | rfl | rfl | rfl | rfl | rfl
    all_goals
      simp only at h ⊢
      rw [← e]
      exact h
   ·intro i o hi ho vs x hx hd
    have hx0 := (Le.drew W).trans hx
    simp only [List.mem_cons, List.not_mem_nil, or_false] at hi
    generalize hρ : (putH _ _ _ vs).eval = ρ
    rcases hi with rfl | rfl | rfl | rfl | rfl | rfl | rfl | rfl
    ·cases ho
     have r1 : ρ (.tmp 1) = .pointer (some ⟨w.heap.size, 0, none⟩) := by rw [← hρ]; kernel_rfl
     exact gives_value (w' := x) (v := .pointer (some ⟨w.heap.size, 0, none⟩)) (by simp [go_sem, r1]) ⟨Le.refl _, rfl⟩
    ·cases ho
     have r1 : ρ (.tmp 9) = vs 0 := by rw [← hρ]; kernel_rfl
     have d := hd 0 (by decide) (by kernel_rfl)
     simp only at d
     rw [d] at r1
     have y0 := cell_le z0 hx0
     have y1 := cell_le z1 hx0
     have y2 := cell_le z2 hx0
     have y3 := cell_le z3 hx0
     have y4 := cell_le z4 hx0
     exact gives_value (w' := x) (v := cfgV c.o c.r c.l c.t c.s) (by simp [go_sem, r1, y0, y1, y2, y3, y4]) ⟨Le.refl _, rfl⟩
    ·cases ho
     exact gives_value (w' := x.alloc (.cells #[] 102)) (v := .slice (some ⟨x.heap.size, 0, none⟩) 0 0) (by simp [go_sem]) ⟨Le.alloc _ _, x.heap.size, rfl, OwnE.lit0 evK x _ (by have := hx0.size; omega)⟩
    ·cases ho
     have r1 : ρ (.tmp 1) = .pointer (some ⟨w.heap.size, 0, none⟩) := by rw [← hρ]; kernel_rfl
     exact gives_value (w' := x) (v := .pointer (some ⟨w.heap.size, 8, none⟩)) (by simp [go_sem, r1]) ⟨Le.refl _, rfl⟩
    ·cases ho
     have r1 : ρ (.tmp 12) = vs 3 := by rw [← hρ]; kernel_rfl
     have d := hd 3 (by decide) (by kernel_rfl)
     simp only at d
     rw [d] at r1
     have y8 := cell_le z8 hx0
     exact gives_value (w' := x) (v := slV qH) (by simp [go_sem, r1, y8]) ⟨Le.refl _, rfl⟩
    ·cases ho
     have r1 : ρ (.tmp 11) = vs 2 := by rw [← hρ]; kernel_rfl
     have r2 : ρ (.tmp 13) = vs 4 := by rw [← hρ]; kernel_rfl
     have hh := hd 2 (by decide) (by kernel_rfl)
     simp only at hh
     replace hh := hh.choose_spec
     generalize Exists.choose _ = b at hh
     have e2 := hh.1
     have o2 := hh.2
     have e4 := hd 4 (by decide) (by kernel_rfl)
     simp only at e4
     rw [e2] at r1
     rw [e4] at r2
     obtain ⟨q, x', hrun, o5, l5, _⟩ := run_append_empty evIn 27 x (w.heap.size + 2) b (slV qH) Es o2 (hH'.le hx0) (by show Es.length * 48 ≤ _; omega) (by omega) (by have := hx0.size; omega)
     exact gives_value (w' := x') (v := slV q) (by simp only [execOp, resolve, invoke, builtin, Sem.run_bind, Sem.run_pure, Result.andThen_ok, List.map_toArray, List.map_cons, List.map_nil, r1, r2, hrun]) ⟨l5, q, rfl, o5⟩
    ·cases ho
     have r1 : ρ (.tmp 10) = vs 1 := by rw [← hρ]; kernel_rfl
     have r2 : ρ (.tmp 14) = vs 5 := by rw [← hρ]; kernel_rfl
     have e1 := hd 1 (by decide) (by kernel_rfl)
     have hh := hd 5 (by decide) (by kernel_rfl)
     simp only at hh
     replace hh := hh.choose_spec
     generalize Exists.choose _ = q at hh
     have e5 := hh.1
     have o5 := hh.2
     simp only at e1
     rw [e1] at r1
     rw [e5] at r2
     exact gives_value (w' := x) (v := machV c slZ slZ slZ q) (by simp [go_sem, r1, r2]) ⟨Le.refl _, q, rfl, o5⟩
    ·cases ho
     exact gives_value (w' := x.alloc (.cells cellsZ9 29)) (v := .pointer (some ⟨x.heap.size, 0, none⟩)) (by simp [go_sem]) ⟨Le.alloc _ _, x.heap.size, rfl, by have := hx0.size; omega, Box.new _ _ _⟩
   ·intro vs x hx hd o ho
    have hx0 := (Le.drew W).trans hx
    cases ho
    have hh := hd 6 (by decide)
    simp only at hh
    replace hh := hh.choose_spec
    generalize Exists.choose _ = q at hh
    have e6 := hh.1
    have o6 := hh.2
    have hh := hd 7 (by decide)
    simp only at hh
    replace hh := hh.choose_spec
    generalize Exists.choose _ = g at hh
    have e7 := hh.1
    have hg := hh.2.1
    have b7 := hh.2.2
    refine gives_wp (K := fun v w' => v = undef ∧ w' = put9 x g c slZ slZ slZ q) ?_ ?_
    ·generalize hρ : (putH _ _ _ vs).eval = ρ
     have r1 : ρ (.tmp 3) = vs 7 := by rw [← hρ]; kernel_rfl
     have r2 : ρ (.tmp 15) = vs 6 := by rw [← hρ]; kernel_rfl
     rw [e7] at r1
     rw [e6] at r2
     have c0 := b7.cell 0
     have c1 := b7.cell 1
     have c2 := b7.cell 2
     have c3 := b7.cell 3
     have c4 := b7.cell 4
     have c5 := b7.cell 5
     have c6 := b7.cell 6
     have c7 := b7.cell 7
     have c8 := b7.cell 8
     simp only [List.getElem?_toArray, List.getElem?_cons_succ, List.getElem?_cons_zero] at c0 c1 c2 c3 c4 c5 c6 c7 c8
     have k0 := b7.frozen 0
     have k1 := b7.frozen 1
     have k2 := b7.frozen 2
     have k3 := b7.frozen 3
     have k4 := b7.frozen 4
     have k5 := b7.frozen 5
     have k6 := b7.frozen 6
     have k7 := b7.frozen 7
     have k8 := b7.frozen 8
     unfold gives
     simp [go_sem, r1, r2, c0, c1, c2, c3, c4, c5, c6, c7, c8, k0, k1, k2, k3, k4, k5, k6, k7, k8]
    ·rintro _ _ ⟨rfl, rfl⟩
     simp only [wpSeq, putH, List.getElem?_cons_succ, List.getElem?_cons_zero, Option.bind_some, Act.put, List.setIfInBounds_toArray, List.set_cons_zero, List.set_cons_succ, e7]
     go_wp2_with fail
     go_meet
     case rel => exact ⟨g, q, rfl, CpI.start (hl.trans hx0) (hb1.le hx0) (hb2.le hx0) b7 hg o6⟩
 case rest =>
   obtain ⟨g, q0, rfl, I0⟩ := hcut
   clear hb1 hb2 hWs hl hH
   have z5 := I0.bp.mach.2.1
   simp only [slV] at z5
   go_wp2_with fail
   go_loopw [4] (fun i wr => ∃ (k : Nat) (L : Lay), k ≤ nR ∧ i = .int .i64 k ∧ CpI True w (cells9 c (aR, nR, cR) (aP, nP, cP) (aT, nT, cT) qH) 29 c g wr L ∧ Hid (L.c = c ∧ L.rs.map LR.R = Rs.take k ∧ L.ps = [] ∧ L.ts = [] ∧ L.es = Es)) (fun i _ => nR - (intOf i).toNat)
   case atStart => exact ⟨0, _, Nat.zero_le _, rfl, I0, rfl, rfl, rfl, rfl, rfl⟩
   case round =>
     obtain ⟨k, L, hk, rfl, I, HL⟩ := hrel
     clear I0 z5
     have z5 := I.bp.mach.2.1
     simp only [slV] at z5
     by_cases hlt : k < nR
     ·obtain ⟨b, off, rfl, oRk⟩ := oR (by omega)
      obtain ⟨q, rA, hq⟩ := oRk k hlt
      obtain ⟨R, hRk⟩ : ∃ R, R = Rs.getD k Rg.zero := ⟨_, rfl⟩
      have HX : Hid (R = Rs.getD k Rg.zero) := hRk
      rw [← hRk] at rA hq
      have hfR : FitR R := by rw [hRk]; exact fr _ (getD_mem (by have := HR.out; omega))
      have hlt' : (k : Int) < (nR : Int) := by omega
      have hk0 : (0 : Int) ≤ (k : Int) := by omega
      clear hRk oRk oR oP oT fr fp ft
      replace hq := hq.le I.le
      obtain ⟨x0, x1, x2, x3⟩ := rA.le I.le
      have y5 := I.bo.mach.2.1
      have hLn : L.rs.length = k := by
        have := congrArg List.length HL.out.2.1
        have := HR.out
        simp at *
        omega
      have HLn : Hid (L.rs.length = k) := hLn
      clear rA hLn
      go_upto_region 5 with fail
      refine wp_region_any (by kernel_rfl) ?_
      refine wpAny_grow [] [0, 1, 2, 3, 4, 5, 6, 7, 8] [9, 10, 11] (by decide) (by kernel_rfl) Le (Le.refl _) (fun _ _ _ => Le.trans)
        (fun vs i x => match i with
          | 0 => vs 0 = .pointer (some ⟨g, 5, none⟩)
          | 1 => vs 1 = slV L.qR
          | 2 => vs 2 = .pointer (some ⟨w.heap.size, 5, none⟩)
          | 3 => vs 3 = .slice (some ⟨b, off, none⟩) nR cR
          | 4 => vs 4 = .int .i64 k
          | 5 => vs 5 = .pointer (some ⟨b, off + k * 4, none⟩)
          | 6 => vs 6 = ringV R.h R.t R.f q
          | 7 => ∃ u, vs 7 = ringV R.h R.t R.f u ∧ OwnL x wr.heap.size (slV u) R.ss
          | _ => ∃ u, OwnE ringK x wr.heap.size (vs 8) [⟨R, u⟩] ∧ OwnL x wr.heap.size (slV u) R.ss) ?_ ?_ (by decide) ?_ ?_
      ·intro vs i x y hi _ h hxy
       simp only [List.mem_cons, List.not_mem_nil, or_false] at hi
       rcases hi with rfl | rfl | rfl | rfl | rfl | rfl | rfl | rfl | rfl
       iterate 7
         ·exact h
       ·obtain ⟨u, e, o⟩ := h; exact ⟨u, e, o.le hxy⟩
       ·obtain ⟨u, o, o'⟩ := h; exact ⟨u, o.le hxy, o'.le hxy⟩
      ·intro vs vs' i o x hi _ hk h
       have e := hk i (.inl rfl)
       simp only [List.mem_cons, List.not_mem_nil, or_false] at hi
       rcases hi with rfl | rfl | rfl | rfl | rfl | rfl | rfl | rfl | rfl
       all_goals
         simp only at h ⊢
         rw [← e]
         exact h
      ·intro i o hi ho vs x hx hd
       have hx0 := (Le.drew wr).trans hx
       simp only [List.mem_cons, List.not_mem_nil, or_false] at hi
       generalize hρ : (putH _ _ _ vs).eval = ρ
       rcases hi with rfl | rfl | rfl | rfl | rfl | rfl | rfl | rfl | rfl
       ·cases ho
        have r1 : ρ (.tmp 3) = .pointer (some ⟨g, 0, none⟩) := by rw [← hρ]; kernel_rfl
        exact gives_value (w' := x) (v := .pointer (some ⟨g, 5, none⟩)) (by simp [go_sem, r1]) ⟨Le.refl _, rfl⟩
       ·cases ho
        have r1 : ρ (.tmp 23) = vs 0 := by rw [← hρ]; kernel_rfl
        have d := hd 0 (by decide) (by kernel_rfl)
        simp only at d
        rw [d] at r1
        have t5 := cell_le y5 hx0
        exact gives_value (w' := x) (v := slV L.qR) (by simp [go_sem, r1, t5]) ⟨Le.refl _, rfl⟩
       ·cases ho
        have r1 : ρ (.tmp 1) = .pointer (some ⟨w.heap.size, 0, none⟩) := by rw [← hρ]; kernel_rfl
        exact gives_value (w' := x) (v := .pointer (some ⟨w.heap.size, 5, none⟩)) (by simp [go_sem, r1]) ⟨Le.refl _, rfl⟩
       ·cases ho
        have r1 : ρ (.tmp 25) = vs 2 := by rw [← hρ]; kernel_rfl
        have d := hd 2 (by decide) (by kernel_rfl)
        simp only at d
        rw [d] at r1
        have t5 := cell_le z5 hx0
        exact gives_value (w' := x) (v := .slice (some ⟨b, off, none⟩) nR cR) (by simp [go_sem, r1, t5]) ⟨Le.refl _, rfl⟩
       ·cases ho
        have r1 : ρ (.tmp 4) = .int .i64 k := by rw [← hρ]; kernel_rfl
        exact gives_value (w' := x) (v := .int .i64 k) (by simp [go_sem, r1]) ⟨Le.refl _, rfl⟩
       ·cases ho
        have r1 : ρ (.tmp 26) = vs 3 := by rw [← hρ]; kernel_rfl
        have r2 : ρ (.tmp 27) = vs 4 := by rw [← hρ]; kernel_rfl
        have d := hd 3 (by decide) (by kernel_rfl)
        have d2 := hd 4 (by decide) (by kernel_rfl)
        simp only at d d2
        rw [d] at r1
        rw [d2] at r2
        exact gives_value (w' := x) (v := .pointer (some ⟨b, off + k * 4, none⟩)) (by simp [go_sem, r1, r2, hlt', hk0]) ⟨Le.refl _, rfl⟩
       ·cases ho
        have r1 : ρ (.tmp 28) = vs 5 := by rw [← hρ]; kernel_rfl
        have d := hd 5 (by decide) (by kernel_rfl)
        simp only at d
        rw [d] at r1
        have t0 := cell_le x0 hx0
        have t1 := cell_le x1 hx0
        have t2 := cell_le x2 hx0
        have t3 := cell_le x3 hx0
        exact gives_value (w' := x) (v := ringV R.h R.t R.f q) (by simp [go_sem, r1, t0, t1, t2, t3]) ⟨Le.refl _, rfl⟩
       ·cases ho
        have r1 : ρ (.tmp 29) = vs 6 := by rw [← hρ]; kernel_rfl
        have d := hd 6 (by decide) (by kernel_rfl)
        simp only at d
        rw [d] at r1
        have rf : ρ (.func 75) = .func (.func 75) #[] #[] := by rw [← hρ]; kernel_rfl
        have hcall := refCopyRing R.h R.t R.f q R.ss x (hq.le hx0) hfR
        refine gives_call (f := 75) (args := #[ringV R.h R.t R.f q]) (by simp [go_sem, r1, rf]) (hcall.mono ?_)
        rintro e x' ⟨u, rfl, ou, lu⟩
        exact ⟨_, rfl, lu, u, rfl, ou.base hx0.size⟩
       ·cases ho
        have r1 : ρ (.tmp 30) = vs 7 := by rw [← hρ]; kernel_rfl
        have hh := hd 7 (by decide) (by kernel_rfl)
        simp only at hh
        replace hh := hh.choose_spec
        generalize Exists.choose _ = u at hh
        rw [hh.1] at r1
        have o7 := hh.2
        have hlit := OwnE.lit ringK x wr.heap.size hx0.size [⟨R, u⟩] (by simp)
        exact gives_value (w' := x.alloc (.cells #[.int .i64 R.h, .int .i64 R.t, .int .i64 R.f, slV u] 55)) (v := .slice (some ⟨x.heap.size, 0, none⟩) 1 1) (by simp [go_sem, r1]) ⟨Le.alloc _ _, u, hlit, o7.le (Le.alloc _ _)⟩
      ·intro vs x hx hd
       have hx0 := (Le.drew wr).trans hx
       have e1 := hd 1 (by decide)
       simp only at e1
       have hh := hd 8 (by decide)
       simp only at hh
       replace hh := hh.choose_spec
       generalize Exists.choose _ = u at hh
       have o8 := hh.1
       have o7 := hh.2
       have hrun := run_append_E ringIn 24 x w.heap.size (slV L.qR) (vs 8) L.rs [⟨R, u⟩] (I.own.oR.le hx0) o8.has (by simp) (by have := HLn.out; show (L.rs.length + 1) * 48 ≤ _; omega) (by have := HLn.out; show L.rs.length + 1 ≤ _; omega) (I.le.trans hx0).size
       replace hrun := hrun.choose_spec
       generalize Exists.choose _ = q' at hrun
       replace hrun := hrun.choose_spec
       generalize Exists.choose _ = x2 at hrun
       have hrn := hrun.1
       have IN := I.ring (by decide) hx0 (x := ⟨R, u⟩) o7 hrun.2.1 hrun.2.2
       have bo2 : x2.cell? ⟨g, 5, none⟩ = some (slV L.qR) ∧ x2.frozen? ⟨g, 5, none⟩ = false := by
         have hb := (I.bo.le hx0).grown hrun.2.2 ((I.own.oR.le hx0).apart (I.bo.le hx0) (by decide))
         exact ⟨hb.cell 5, hb.frozen 5⟩
       have c5 := bo2.1
       have k5 := bo2.2
       generalize hf0 : putH _ _ _ vs = fr0
       refine wpSeq_cons rfl ?_
       refine wp_value_at (v0 := slV q') (w0 := x2) ?_ ?_
       ·have r1 : fr0.eval (.tmp 24) = vs 1 := by rw [← hf0]; kernel_rfl
        have r2 : fr0.eval (.tmp 31) = vs 8 := by rw [← hf0]; kernel_rfl
        rw [e1] at r1
        simp only [execOp, resolve, invoke, builtin, Sem.run_bind, Sem.run_pure, Result.andThen_ok, List.map_toArray, List.map_cons, List.map_nil, r1, r2, hrn]
       ·generalize hf1 : Act.put fr0 _ _ = fr1
        refine wpSeq_cons rfl ?_
        refine wp_value_at (v0 := .pointer (some ⟨g, 5, none⟩)) (w0 := x2) ?_ ?_
        ·generalize hρ : fr1.eval = ρ
         have r1 : ρ (.tmp 3) = .pointer (some ⟨g, 0, none⟩) := by rw [← hρ, ← hf1, ← hf0]; kernel_rfl
         simp [go_sem, r1]
        ·generalize hf2 : Act.put fr1 _ _ = fr2
         refine wpSeq_cons rfl ?_
         refine wp_skip_at (w0 := x2.setCell ⟨g, 5, none⟩ (slV q')) ?_ ?_
         ·generalize hρ : fr2.eval = ρ
          have r1 : ρ (.tmp 33) = .pointer (some ⟨g, 5, none⟩) := by rw [← hρ, ← hf2, ← hf1, ← hf0]; kernel_rfl
          have r2 : ρ (.tmp 32) = slV q' := by rw [← hρ, ← hf2, ← hf1, ← hf0]; kernel_rfl
          simp [go_sem, r1, r2, c5, k5]
         ·subst hf2 hf1 hf0
          simp only [wpSeq, putH, List.getElem?_cons_succ, List.getElem?_cons_zero, Option.bind_some, Act.put, List.setIfInBounds_toArray, List.set_cons_zero, List.set_cons_succ]
          go_wp2_with fail
          go_roundw
          case rel => exact ⟨k + 1, _, by omega, by go_num, IN, HL.out.1, by rw [List.map_append, HL.out.2.1, List.take_succ_eq_append_getElem (by have := HR.out; omega)]; simp [HX.out, List.getD, show k < Rs.length by have := HR.out; omega], HL.out.2.2.1, HL.out.2.2.2.1, HL.out.2.2.2.2⟩
          case measure => simp [intOf]; omega
     ·have HR2 : Hid (L.rs.map LR.R = Rs) := by
        have h := HL.out.2.1
        rw [List.take_of_length_le (by have := HR.out; omega)] at h
        exact h
      have z6 := I.bp.mach.2.2.1
      simp only [slV] at z6
      clear oR fr
      have HL0 : Hid (L.c = c ∧ L.ps.map LP.P = Ps.take 0 ∧ L.rs.map LR.R = Rs ∧ L.ts = [] ∧ L.es = Es) := ⟨HL.out.1, by rw [HL.out.2.2.1]; rfl, HR2.out, HL.out.2.2.2.1, HL.out.2.2.2.2⟩
      go_wp2_with fail
      go_loopw [5] (fun i wq => ∃ (k : Nat) (L : Lay), k ≤ nP ∧ i = .int .i64 k ∧ CpI True w (cells9 c (aR, nR, cR) (aP, nP, cP) (aT, nT, cT) qH) 29 c g wq L ∧ Hid (L.c = c ∧ L.ps.map LP.P = Ps.take k ∧ L.rs.map LR.R = Rs ∧ L.ts = [] ∧ L.es = Es)) (fun i _ => nP - (intOf i).toNat)
      case atStart => exact ⟨0, L, Nat.zero_le _, rfl, I, HL0⟩
      case round =>
        clear HL0 HL HR2 I z5 z6 hlt hk
        rename_i _ k0 L0 _ _
        obtain ⟨k, L, hk, rfl, I, HL⟩ := hrel
        have z6 := I.bp.mach.2.2.1
        simp only [slV] at z6
        by_cases hlt : k < nP
        ·obtain ⟨b, off, rfl, oPk⟩ := oP (by omega)
         obtain ⟨rs0, qc, ql, rA, hq0, hq1, hq2⟩ := oPk k hlt
         obtain ⟨P, hPk⟩ : ∃ R, R = Ps.getD k Rp.zero := ⟨_, rfl⟩
         have HX : Hid (P = Ps.getD k Rp.zero) := hPk
         rw [← hPk] at hq0 hq1 hq2
         obtain ⟨g0, g1, g2⟩ : Fit P.s ∧ P.cs.length * 8 ≤ 140737488351232 ∧ P.ls.length * 8 ≤ 140737488351232 := by rw [hPk]; exact fp _ (getD_mem (by have := HP.out; omega))
         have hlt' : (k : Int) < (nP : Int) := by omega
         have hk0 : (0 : Int) ≤ (k : Int) := by omega
         clear hPk oPk oP oT fp ft
         obtain ⟨x0, x1, x2, x3, x4, x5⟩ := rA.le I.le
         have hLn : L.ps.length = k := by
           have := congrArg List.length HL.out.2.1
           have := HP.out
           simp at *
           omega
         have HLn : Hid (L.ps.length = k) := hLn
         have hA := Le.alloc wr (.cells (cellsP rs0 qc ql) 46)
         have hbx := Box.new wr (cellsP rs0 qc ql) 46
         have I1 := I.later hA
         clear rA hLn
         go_upto_region 10 with fail
         generalize hW2 : wr.alloc (.cells (cellsP rs0 qc ql) 46) = wq at hA hbx I1 ⊢
         clear hW2 x0 x1 x2 x3 x4 x5 z6 I
         generalize wr.heap.size = gx at hbx ⊢
         have HS : HasS wq (stV rs0) P.s := ⟨rs0, rfl, fun i hi => (hq0 i hi).le I1.le⟩
         replace hq1 := hq1.le I1.le
         replace hq2 := hq2.le I1.le
         have y6 := I1.bo.mach.2.2.1
         obtain ⟨t0, t1, t2, t3, t4, t5⟩ := hbx.rep
         clear hq0 hbx hA
         refine wp_region_any (by kernel_rfl) ?_
         refine wpAny_grow [] [0, 1, 2, 3, 4, 5, 6, 7, 8, 9, 10, 11, 12, 13, 14] [15, 16, 17] (by decide) (by kernel_rfl) Le (Le.refl _) (fun _ _ _ => Le.trans)
           (fun vs i x => match i with
             | 0 => vs 0 = .pointer (some ⟨g, 6, none⟩)
             | 1 => vs 1 = slV L.qP
             | 2 => vs 2 = .pointer (some ⟨gx, 0, none⟩)
             | 3 => vs 3 = stV rs0
             | 4 => ∃ us : Nat → Sl, vs 4 = stV us ∧ ∀ i, i < 4 → Own x wq.heap.size (slV (us i)) (P.s.at i)
             | 5 => ∃ b, vs 5 = .slice (some ⟨b, 0, none⟩) 0 0 ∧ Own x wq.heap.size (.slice (some ⟨b, 0, none⟩) 0 0) []
             | 6 => vs 6 = .pointer (some ⟨gx, 4, none⟩)
             | 7 => vs 7 = slV qc
             | 8 => ∃ q : Sl, vs 8 = slV q ∧ Own x wq.heap.size (slV q) P.cs ∧ (0 < P.cs.length → ∀ us : Nat → Sl, vs 4 = stV us → ∀ i, i < 4 → ∀ b, (slV q).ownBlock = some b → (slV (us i)).ownBlock ≠ some b)
             | 9 => ∃ b, vs 9 = .slice (some ⟨b, 0, none⟩) 0 0 ∧ Own x wq.heap.size (.slice (some ⟨b, 0, none⟩) 0 0) []
             | 10 => vs 10 = .pointer (some ⟨gx, 5, none⟩)
             | 11 => vs 11 = slV ql
             | 12 => ∃ q : Sl, vs 12 = slV q ∧ Own x wq.heap.size (slV q) P.ls ∧ (0 < P.ls.length → (∀ us : Nat → Sl, vs 4 = stV us → ∀ i, i < 4 → ∀ b, (slV q).ownBlock = some b → (slV (us i)).ownBlock ≠ some b) ∧ ∀ qa : Sl, vs 8 = slV qa → ∀ b, (slV q).ownBlock = some b → (slV qa).ownBlock ≠ some b)
             | 13 => ∃ (us : Nat → Sl) (qa qb : Sl), vs 13 = repV us qa qb ∧ RepOwn x wq.heap.size P us qa qb
             | _ => ∃ (us : Nat → Sl) (qa qb : Sl), OwnE repK x wq.heap.size (vs 14) [⟨P, us, qa, qb⟩] ∧ RepOwn x wq.heap.size P us qa qb) ?_ ?_ (by decide) ?_ ?_
         ·intro vs i x y hi _ h hxy
          simp only [List.mem_cons, List.not_mem_nil, or_false] at hi
          rcases hi with rfl | rfl | rfl | rfl | rfl | rfl | rfl | rfl | rfl | rfl | rfl | rfl | rfl | rfl | rfl
          iterate 4
            ·exact h
          ·obtain ⟨u, e, o⟩ := h; exact ⟨u, e, fun i hi => (o i hi).le hxy⟩
          ·obtain ⟨u, e, o⟩ := h; exact ⟨u, e, o.le hxy⟩
          iterate 2
            ·exact h
          ·obtain ⟨u, e, o, o'⟩ := h; exact ⟨u, e, o.le hxy, o'⟩
          ·obtain ⟨u, e, o⟩ := h; exact ⟨u, e, o.le hxy⟩
          iterate 2
            ·exact h
          ·obtain ⟨u, e, o, o'⟩ := h; exact ⟨u, e, o.le hxy, o'⟩
          ·obtain ⟨u, a, b, e, o⟩ := h; exact ⟨u, a, b, e, o.le hxy⟩
          ·obtain ⟨u, a, b, o, o'⟩ := h; exact ⟨u, a, b, o.le hxy, o'.le hxy⟩
         ·intro vs vs' i o x hi _ hk h
          have e := hk i (.inl rfl)
          simp only [List.mem_cons, List.not_mem_nil, or_false] at hi
          rcases hi with rfl | rfl | rfl | rfl | rfl | rfl | rfl | rfl | rfl | rfl | rfl | rfl | rfl | rfl | rfl
          case inr.inr.inr.inr.inr.inr.inr.inr.inl =>
            have e4 := hk 4 (.inr (by kernel_rfl))
            simp only at h ⊢
            rw [← e, ← e4]
            exact h
          case inr.inr.inr.inr.inr.inr.inr.inr.inr.inr.inr.inr.inl =>
            have e4 := hk 4 (.inr (by kernel_rfl))
            have e8 := hk 8 (.inr (by kernel_rfl))
            simp only at h ⊢
            rw [← e, ← e4, ← e8]
            exact h
          all_goals
            simp only at h ⊢
            rw [← e]
            exact h
         ·intro i o hi ho vs x hx hd
          have hx0 := (Le.drew wq).trans hx
          simp only [List.mem_cons, List.not_mem_nil, or_false] at hi
          generalize hρ : (putH _ _ _ vs).eval = ρ
          rcases hi with rfl | rfl | rfl | rfl | rfl | rfl | rfl | rfl | rfl | rfl | rfl | rfl | rfl | rfl | rfl
          ·cases ho
           have r1 : ρ (.tmp 3) = .pointer (some ⟨g, 0, none⟩) := by rw [← hρ]; kernel_rfl
           exact gives_value (w' := x) (v := .pointer (some ⟨g, 6, none⟩)) (by simp [go_sem, r1]) ⟨Le.refl _, rfl⟩
          ·cases ho
           have r1 : ρ (.tmp 46) = vs 0 := by rw [← hρ]; kernel_rfl
           have d := hd 0 (by decide) (by kernel_rfl)
           simp only at d
           rw [d] at r1
           have s6 := cell_le y6 hx0
           exact gives_value (w' := x) (v := slV L.qP) (by simp [go_sem, r1, s6]) ⟨Le.refl _, rfl⟩
          ·cases ho
           have r1 : ρ (.tmp 6) = .pointer (some ⟨gx, 0, none⟩) := by rw [← hρ]; kernel_rfl
           exact gives_value (w' := x) (v := .pointer (some ⟨gx, 0, none⟩)) (by simp [go_sem, r1]) ⟨Le.refl _, rfl⟩
          ·cases ho
           have r1 : ρ (.tmp 48) = vs 2 := by rw [← hρ]; kernel_rfl
           have d := hd 2 (by decide) (by kernel_rfl)
           simp only at d
           rw [d] at r1
           have s0 := cell_le t0 hx0
           have s1 := cell_le t1 hx0
           have s2 := cell_le t2 hx0
           have s3 := cell_le t3 hx0
           exact gives_value (w' := x) (v := stV rs0) (by simp [go_sem, r1, s0, s1, s2, s3]) ⟨Le.refl _, rfl⟩
          ·cases ho
           have r1 : ρ (.tmp 49) = vs 3 := by rw [← hρ]; kernel_rfl
           have rf : ρ (.func 45) = .func (.func 45) #[] #[] := by rw [← hρ]; kernel_rfl
           have d := hd 3 (by decide) (by kernel_rfl)
           simp only at d
           rw [d] at r1
           have hcall := refCopyState (stV rs0) P.s x (HS.le hx0) g0
           refine gives_call (f := 45) (args := #[stV rs0]) (by simp [go_sem, r1, rf]) (hcall.mono ?_)
           rintro e x' ⟨v', rfl, ⟨us, rfl, ou⟩, lu⟩
           exact ⟨_, rfl, lu, us, rfl, fun i hi => (ou i hi).base hx0.size⟩
          ·cases ho
           exact gives_value (w' := x.alloc (.cells #[] 3)) (v := .slice (some ⟨x.heap.size, 0, none⟩) 0 0) (by simp [go_sem]) ⟨Le.alloc _ _, x.heap.size, rfl, Own.lit x _ hx0.size [] (by decide)⟩
          ·cases ho
           have r1 : ρ (.tmp 6) = .pointer (some ⟨gx, 0, none⟩) := by rw [← hρ]; kernel_rfl
           exact gives_value (w' := x) (v := .pointer (some ⟨gx, 4, none⟩)) (by simp [go_sem, r1]) ⟨Le.refl _, rfl⟩
          ·cases ho
           have r1 : ρ (.tmp 52) = vs 6 := by rw [← hρ]; kernel_rfl
           have d := hd 6 (by decide) (by kernel_rfl)
           simp only at d
           rw [d] at r1
           have s4 := cell_le t4 hx0
           exact gives_value (w' := x) (v := slV qc) (by simp [go_sem, r1, s4]) ⟨Le.refl _, rfl⟩
          ·cases ho
           have r1 : ρ (.tmp 51) = vs 5 := by rw [← hρ]; kernel_rfl
           have r2 : ρ (.tmp 53) = vs 7 := by rw [← hρ]; kernel_rfl
           have hh := hd 5 (by decide) (by kernel_rfl)
           have h4 := hd 4 (by decide) (by kernel_rfl)
           have d := hd 7 (by decide) (by kernel_rfl)
           simp only at hh h4 d
           obtain ⟨bb, e5, o5⟩ := hh
           obtain ⟨us, e4, o4⟩ := h4
           rw [e5] at r1
           rw [d] at r2
           obtain ⟨q, x', hrun, o8, l8, n8⟩ := run_append_emptyI 41 x wq.heap.size bb (slV qc) P.cs o5 (hq1.le hx0) g1 hx0.size
           refine gives_value (w' := x') (v := slV q) (by simp only [execOp, resolve, invoke, builtin, Sem.run_bind, Sem.run_pure, Result.andThen_ok, List.map_toArray, List.map_cons, List.map_nil, r1, r2, hrun]) ⟨l8, q, rfl, o8, fun hpos us' e i hi b hb hb' => ?_⟩
           have e' : stV us = stV us' := by rw [← e4]; exact e
           have hus : slV (us' i) = slV (us i) := by
             simp only [Value.agg.injEq, Array.mk.injEq, List.cons.injEq] at e'
             rcases four hi with rfl | rfl | rfl | rfl
             ·exact e'.1.symm
             ·exact e'.2.1.symm
             ·exact e'.2.2.1.symm
             ·exact e'.2.2.2.1.symm
           rw [hus] at hb'
           have h1 := ((o4 i hi).block hb').2
           rw [n8 hpos] at hb
           simp only [Option.some.injEq] at hb
           omega
          ·cases ho
           exact gives_value (w' := x.alloc (.cells #[] 3)) (v := .slice (some ⟨x.heap.size, 0, none⟩) 0 0) (by simp [go_sem]) ⟨Le.alloc _ _, x.heap.size, rfl, Own.lit x _ hx0.size [] (by decide)⟩
          ·cases ho
           have r1 : ρ (.tmp 6) = .pointer (some ⟨gx, 0, none⟩) := by rw [← hρ]; kernel_rfl
           exact gives_value (w' := x) (v := .pointer (some ⟨gx, 5, none⟩)) (by simp [go_sem, r1]) ⟨Le.refl _, rfl⟩
          ·cases ho
           have r1 : ρ (.tmp 56) = vs 10 := by rw [← hρ]; kernel_rfl
           have d := hd 10 (by decide) (by kernel_rfl)
           simp only at d
           rw [d] at r1
           have s5 := cell_le t5 hx0
           exact gives_value (w' := x) (v := slV ql) (by simp [go_sem, r1, s5]) ⟨Le.refl _, rfl⟩
          ·cases ho
           have r1 : ρ (.tmp 55) = vs 9 := by rw [← hρ]; kernel_rfl
           have r2 : ρ (.tmp 57) = vs 11 := by rw [← hρ]; kernel_rfl
           have hh := hd 9 (by decide) (by kernel_rfl)
           have h4 := hd 4 (by decide) (by kernel_rfl)
           have h8 := hd 8 (by decide) (by kernel_rfl)
           have d := hd 11 (by decide) (by kernel_rfl)
           simp only at hh h4 h8 d
           obtain ⟨bb, e5, o5⟩ := hh
           obtain ⟨us, e4, o4⟩ := h4
           obtain ⟨q8, e8, o8, _⟩ := h8
           rw [e5] at r1
           rw [d] at r2
           obtain ⟨q, x', hrun, o12, l12, n12⟩ := run_append_emptyI 41 x wq.heap.size bb (slV ql) P.ls o5 (hq2.le hx0) g2 hx0.size
           refine gives_value (w' := x') (v := slV q) (by simp only [execOp, resolve, invoke, builtin, Sem.run_bind, Sem.run_pure, Result.andThen_ok, List.map_toArray, List.map_cons, List.map_nil, r1, r2, hrun]) ⟨l12, q, rfl, o12, fun hpos => ⟨fun us' e i hi b hb hb' => ?_, fun qa e b hb hb' => ?_⟩⟩
           ·have e' : stV us = stV us' := by rw [← e4]; exact e
            have hus : slV (us' i) = slV (us i) := by
              simp only [Value.agg.injEq, Array.mk.injEq, List.cons.injEq] at e'
              rcases four hi with rfl | rfl | rfl | rfl
              ·exact e'.1.symm
              ·exact e'.2.1.symm
              ·exact e'.2.2.1.symm
              ·exact e'.2.2.2.1.symm
            rw [hus] at hb'
            have h1 := ((o4 i hi).block hb').2
            rw [n12 hpos] at hb
            simp only [Option.some.injEq] at hb
            omega
           ·have e' : slV q8 = slV qa := by rw [← e8]; exact e
            rw [← e'] at hb'
            have h1 := (o8.block hb').2
            rw [n12 hpos] at hb
            simp only [Option.some.injEq] at hb
            omega
          ·cases ho
           have r1 : ρ (.tmp 50) = vs 4 := by rw [← hρ]; kernel_rfl
           have r2 : ρ (.tmp 54) = vs 8 := by rw [← hρ]; kernel_rfl
           have r3 : ρ (.tmp 58) = vs 12 := by rw [← hρ]; kernel_rfl
           have h4 := hd 4 (by decide) (by kernel_rfl)
           have h8 := hd 8 (by decide) (by kernel_rfl)
           have h12 := hd 12 (by decide) (by kernel_rfl)
           simp only at h4 h8 h12
           obtain ⟨us, e4, o4⟩ := h4
           obtain ⟨q8, e8, o8, a8⟩ := h8
           obtain ⟨q12, e12, o12, a12⟩ := h12
           rw [e4] at r1
           rw [e8] at r2
           rw [e12] at r3
           exact gives_value (w' := x) (v := repV us q8 q12) (by simp [go_sem, r1, r2, r3]) ⟨Le.refl _, us, q8, q12, rfl, o4, o8, o12, fun hp => a8 hp us e4, fun hp => (a12 hp).1 us e4, fun hp => (a12 hp).2 q8 e8⟩
          ·cases ho
           have r1 : ρ (.tmp 59) = vs 13 := by rw [← hρ]; kernel_rfl
           have hh := hd 13 (by decide) (by kernel_rfl)
           simp only at hh
           obtain ⟨us, qa, qb, e13, o13⟩ := hh
           rw [e13] at r1
           have hlit := OwnE.lit repK x wq.heap.size hx0.size [⟨P, us, qa, qb⟩] (by simp)
           exact gives_value (w' := x.alloc (.cells (cellsP us qa qb) 46)) (v := .slice (some ⟨x.heap.size, 0, none⟩) 1 1) (by simp [go_sem, r1]) ⟨Le.alloc _ _, us, qa, qb, hlit, o13.le (Le.alloc _ _)⟩
         ·intro vs x hx hd
          have hx0 := (Le.drew wq).trans hx
          have e1 := hd 1 (by decide)
          simp only at e1
          have hh := hd 14 (by decide)
          simp only at hh
          replace hh := hh.choose_spec
          generalize Exists.choose _ = us at hh
          replace hh := hh.choose_spec
          generalize Exists.choose _ = qa at hh
          replace hh := hh.choose_spec
          generalize Exists.choose _ = qb at hh
          have o14 := hh.1
          have o13 := hh.2
          have hrun := run_append_E repIn 25 x w.heap.size (slV L.qP) (vs 14) L.ps [⟨P, us, qa, qb⟩] (I1.own.oP.le hx0) o14.has (by simp) (by have := HLn.out; show (L.ps.length + 1) * 144 ≤ _; omega) (by have := HLn.out; show L.ps.length + 1 ≤ _; omega) (I1.le.trans hx0).size
          replace hrun := hrun.choose_spec
          generalize Exists.choose _ = q' at hrun
          replace hrun := hrun.choose_spec
          generalize Exists.choose _ = x2 at hrun
          have hrn := hrun.1
          have IN := I1.rep (by decide) hx0 (x := ⟨P, us, qa, qb⟩) o13.s o13.c o13.l (fun _ => o13.apart) hrun.2.1 hrun.2.2
          have bo2 : x2.cell? ⟨g, 6, none⟩ = some (slV L.qP) ∧ x2.frozen? ⟨g, 6, none⟩ = false := by
            have hb := (I1.bo.le hx0).grown hrun.2.2 ((I1.own.oP.le hx0).apart (I1.bo.le hx0) (by decide))
            exact ⟨hb.cell 6, hb.frozen 6⟩
          have c6 := bo2.1
          have k6 := bo2.2
          generalize hf0 : putH _ _ _ vs = fr0
          refine wpSeq_cons rfl ?_
          refine wp_value_at (v0 := slV q') (w0 := x2) ?_ ?_
          ·have r1 : fr0.eval (.tmp 47) = vs 1 := by rw [← hf0]; kernel_rfl
           have r2 : fr0.eval (.tmp 60) = vs 14 := by rw [← hf0]; kernel_rfl
           rw [e1] at r1
           simp only [execOp, resolve, invoke, builtin, Sem.run_bind, Sem.run_pure, Result.andThen_ok, List.map_toArray, List.map_cons, List.map_nil, r1, r2, hrn]
          ·generalize hf1 : Act.put fr0 _ _ = fr1
           refine wpSeq_cons rfl ?_
           refine wp_value_at (v0 := .pointer (some ⟨g, 6, none⟩)) (w0 := x2) ?_ ?_
           ·generalize hρ : fr1.eval = ρ
            have r1 : ρ (.tmp 3) = .pointer (some ⟨g, 0, none⟩) := by rw [← hρ, ← hf1, ← hf0]; kernel_rfl
            simp [go_sem, r1]
           ·generalize hf2 : Act.put fr1 _ _ = fr2
            refine wpSeq_cons rfl ?_
            refine wp_skip_at (w0 := x2.setCell ⟨g, 6, none⟩ (slV q')) ?_ ?_
            ·generalize hρ : fr2.eval = ρ
             have r1 : ρ (.tmp 62) = .pointer (some ⟨g, 6, none⟩) := by rw [← hρ, ← hf2, ← hf1, ← hf0]; kernel_rfl
             have r2 : ρ (.tmp 61) = slV q' := by rw [← hρ, ← hf2, ← hf1, ← hf0]; kernel_rfl
             simp [go_sem, r1, r2, c6, k6]
            ·subst hf2 hf1 hf0
             simp only [wpSeq, putH, List.getElem?_cons_succ, List.getElem?_cons_zero, Option.bind_some, Act.put, List.setIfInBounds_toArray, List.set_cons_zero, List.set_cons_succ]
             go_wp2_with fail
             go_roundw
             case rel => exact ⟨k + 1, _, by omega, by go_num, IN, HL.out.1, by rw [List.map_append, HL.out.2.1, List.take_succ_eq_append_getElem (by have := HP.out; omega)]; simp [HX.out, List.getD, show k < Ps.length by have := HP.out; omega], HL.out.2.2.1, HL.out.2.2.2.1, HL.out.2.2.2.2⟩
             case measure => simp [intOf]; omega
        ·have HP2 : Hid (L.ps.map LP.P = Ps) := by
           have h := HL.out.2.1
           rw [List.take_of_length_le (by have := HP.out; omega)] at h
           exact h
         have z7 := I.bp.mach.2.2.2.1
         simp only [slV] at z7
         clear oP fp
         have HL0 : Hid (L.c = c ∧ L.ts.map LT.T = Ts.take 0 ∧ L.rs.map LR.R = Rs ∧ L.ps.map LP.P = Ps ∧ L.es = Es ∧ L.far) := ⟨HL.out.1, by rw [HL.out.2.2.2.1]; rfl, HL.out.2.2.1, HP2.out, HL.out.2.2.2.2, far_none HL.out.2.2.2.1⟩
         go_wp2_with fail
         go_loopw [7] (fun i wq => ∃ (k : Nat) (L : Lay), k ≤ nT ∧ i = .int .i64 k ∧ CpI True w (cells9 c (aR, nR, cR) (aP, nP, cP) (aT, nT, cT) qH) 29 c g wq L ∧ Hid (L.c = c ∧ L.ts.map LT.T = Ts.take k ∧ L.rs.map LR.R = Rs ∧ L.ps.map LP.P = Ps ∧ L.es = Es ∧ L.far)) (fun i _ => nT - (intOf i).toNat)
         case atStart => exact ⟨0, L, Nat.zero_le _, rfl, I, HL0⟩
         case round =>
           clear HL0 HL HP2 I z6 z7 hlt hk
           rename_i _ k1 L1 _ _
           obtain ⟨k, L, hk, rfl, I, HL⟩ := hrel
           have z7 := I.bp.mach.2.2.2.1
           simp only [slV] at z7
           by_cases hlt : k < nT
           ·obtain ⟨b, off, rfl, oTk⟩ := oT (by omega)
            obtain ⟨qb, qt, rA, hq1, hq2⟩ := oTk k hlt
            obtain ⟨T, hTk⟩ : ∃ R, R = Ts.getD k Th.zero := ⟨_, rfl⟩
            have HX : Hid (T = Ts.getD k Th.zero) := hTk
            rw [← hTk] at rA hq1 hq2
            obtain ⟨g1, g2⟩ : T.b.length * 8 ≤ 140737488351232 ∧ T.tl.length * 8 ≤ 140737488351232 := by rw [hTk]; exact ft _ (getD_mem (by have := HT.out; omega))
            have hlt' : (k : Int) < (nT : Int) := by omega
            have hk0 : (0 : Int) ≤ (k : Int) := by omega
            clear hTk oTk oT ft
            obtain ⟨x0, x1, x2, x3, x4, x5, x6, x7, x8, x9, x10, x11⟩ := rA.le I.le
            have hLn : L.ts.length = k := by
              have := congrArg List.length HL.out.2.1
              have := HT.out
              simp at *
              omega
            have HLn : Hid (L.ts.length = k) := hLn
            clear rA hLn
            have hA := Le.alloc wr (.cells (cellsT T qb qt) 59)
            have hbx := Box.new wr (cellsT T qb qt) 59
            replace hq1 := hq1.le (I.le.trans hA)
            replace hq2 := hq2.le (I.le.trans hA)
            go_upto_region 15 with fail
            generalize hW2 : wr.alloc (.cells (cellsT T qb qt) 59) = wq at hA hbx hq1 hq2 ⊢
            generalize hgx : wr.heap.size = gx at hbx ⊢
            have hBg : wr.heap.size ≤ gx := by omega
            clear hW2 hgx x0 x1 x2 x3 x4 x5 x6 x7 x8 x9 x10 x11 z7
            have s6 := (hbx.le (Le.alloc wq (.cells #[] 3))).th.2.2.2.2.2.2.1
            have hn1 : Own (wq.alloc (.cells #[] 3)) wr.heap.size (.slice (some ⟨wq.heap.size, 0, none⟩) 0 0) [] := Own.lit wq _ hA.size [] (by decide)
            have hq1' := hq1.le (Le.alloc wq (.cells #[] 3))
            have hA1 := hA.trans (Le.alloc wq (.cells #[] 3))
            go_upto_region 16 with (at_builtin; refine wp_append_emptyI rfl _ _ rfl wr.heap.size _ _ T.b rfl rfl hn1 hq1' g1 hA1.size ?_; intro q1 w3 o1 l3 n1; have hb3 := (hbx.le (Le.alloc wq (.cells #[] 3))).le l3; have c6 := hb3.th.2.2.2.2.2.2.1; have k6 := hb3.frozen 6)
            have hb4 := hb3.setT6 (q := q1)
            have l4 : Le wr (w3.setCell ⟨gx, 6, none⟩ (slV q1)) := Le.set (hA1.trans l3) hBg
            have o4 := o1.setBox (i := 6) (u := slV q1) hb3 (by decide)
            have hq4 : Has (w3.setCell ⟨gx, 6, none⟩ (slV q1)) (slV qt) T.tl := by
              have h0 := hq2.le ((Le.alloc wq (.cells #[] 3)).trans l3)
              obtain ⟨a, cap, hv, hc, hn, hx⟩ := h0
              refine ⟨a, cap, hv, hc, hn, fun hp => ?_⟩
              obtain ⟨b', off', ha, hcell⟩ := hx hp
              refine ⟨b', off', ha, fun i hi => ?_⟩
              rw [World.cell?_setCell_other _ _ _ _ (fun e => ?_)]
              ·exact hcell i hi
              ·have h1 := hcell i hi
               rw [← e, c6] at h1
               cases h1
            clear s6 hn1 hq1 hq1' hq2 c6 k6 hbx hb3 o1
            generalize hW4 : w3.setCell ⟨gx, 6, none⟩ (slV q1) = w4 at hb4 l4 o4 hq4 ⊢
            clear hW4 l3 hA1 hA
            have s11 := (hb4.le (Le.alloc w4 (.cells #[] 3))).th.2.2.2.2.2.2.2.2.2.2.2
            have hn2 : Own (w4.alloc (.cells #[] 3)) w4.heap.size (.slice (some ⟨w4.heap.size, 0, none⟩) 0 0) [] := Own.lit w4 _ (Nat.le_refl _) [] (by decide)
            have hq4' := hq4.le (Le.alloc w4 (.cells #[] 3))
            have hA4 := l4.trans (Le.alloc w4 (.cells #[] 3))
            have o4' := o4.le (Le.alloc w4 (.cells #[] 3))
            go_upto_region 17 with (at_builtin; refine wp_append_emptyI rfl _ _ rfl w4.heap.size _ _ T.tl rfl rfl hn2 hq4' g2 (Le.alloc w4 _).size ?_; intro q2 w5 o2 l5 _; have hb5 := (hb4.le (Le.alloc w4 (.cells #[] 3))).le l5; have c11 := hb5.th.2.2.2.2.2.2.2.2.2.2.2; have k11 := hb5.frozen 11)
            have HK : Hid (∀ b, (slV q1).ownBlock = some b → (slV q2).ownBlock ≠ some b) := hid (fun b e1 e2 => by have := (o4.block e1).2; have := (o2.block e2).1; omega)
            replace o2 := o2.base (base' := wr.heap.size) l4.size
            have hb6 := hb5.setT11 (q := q2)
            have l6 : Le wr (w5.setCell ⟨gx, 11, none⟩ (slV q2)) := Le.set (hA4.trans l5) hBg
            have o6 := (o4'.le l5).setBox (i := 11) (u := slV q2) hb5 (by decide)
            have o7 := o2.setBox (i := 11) (u := slV q2) hb5 (by decide)
            have hap : 0 < q1.2.1 → 0 < q2.2.1 → ∀ b, (slV q1).ownBlock = some b → (slV q2).ownBlock ≠ some b := fun _ _ => HK.out
            clear s11 hn2 hq4 hq4' c11 k11 hb4 hb5 o2 o4 o4' n1
            generalize hW6 : w5.setCell ⟨gx, 11, none⟩ (slV q2) = w6 at hb6 l6 o6 o7 ⊢
            clear hW6 l5 hA4 l4
            obtain ⟨t0, t1, t2, t3, t4, t5, t6, t7, t8, t9, t10, t11⟩ := hb6.th
            have I6 := I.later l6
            have y7 := I6.bo.mach.2.2.2.1
            have hlit := OwnE.lit thK w6 wr.heap.size l6.size [⟨T, q1, q2⟩] (by simp)
            replace hlit : OwnE thK (w6.alloc (.cells (cellsT T q1 q2) 59)) wr.heap.size (.slice (some ⟨w6.heap.size, 0, none⟩) 1 1) [⟨T, q1, q2⟩] := hlit
            have hA6 := Le.alloc w6 (.cells (cellsT T q1 q2) 59)
            have hoT := (I6.own.oT.le hA6)
            have y7' := cell_le y7 hA6
            go_wp2_with (at_builtin; refine wp_append_E thIn rfl _ _ rfl w.heap.size _ _ L.ts [⟨T, q1, q2⟩] rfl rfl hoT hlit.has (by have := HLn.out; show (L.ts.length + 1) * 120 ≤ _; omega) (by have := HLn.out; show L.ts.length + 1 ≤ _; omega) (I6.le.trans hA6).size ?_; intro v' w7 o8 hg8 _; obtain ⟨q', rfl⟩ := o8.has.sl; have hb8 := (I6.bo.le hA6).grown hg8 (hoT.apart (I6.bo.le hA6) (by decide)); have c7 := hb8.cell 7; have k7 := hb8.frozen 7)
            have IN := I.th (by decide) (l6.trans hA6) (x := ⟨T, q1, q2⟩) (o6.le hA6) (o7.le hA6) (fun _ => hap) o8 hg8
            go_roundw
            case rel => exact ⟨k + 1, _, by omega, by go_num, IN, HL.out.1, by rw [List.map_append, HL.out.2.1, List.take_succ_eq_append_getElem (by have := HT.out; omega)]; simp [HX.out, List.getD, show k < Ts.length by have := HT.out; omega], HL.out.2.2.1, HL.out.2.2.2.1, HL.out.2.2.2.2.1, far_app HL.out.2.2.2.2.2 (m := wr.heap.size) (fun p b e => I.own.at_lt e) q' ⟨T, q1, q2⟩ (fun b e => (o6.block e).1) (fun b e => (o7.block e).1) HK.out⟩
            case measure => simp [intOf]; omega
           ·have HM : Hid (L.M = ⟨c, Rs, Ps, Ts, Es⟩) := by
              have h := HL.out.2.1
              rw [List.take_of_length_le (by have := HT.out; omega)] at h
              show Lay.M L = _
              unfold Lay.M
              rw [HL.out.1, h, HL.out.2.2.1, HL.out.2.2.2.1, HL.out.2.2.2.2.1]
            have HC : Hid (L.c = c) := HL.out.1
            have HTI : Hid L.far := HL.out.2.2.2.2.2
            obtain ⟨⟨m0, m1, m2, m3, m4⟩, m5, m6, m7, m8⟩ := I.bo.mach
            have r0 := I.br.cell 0
            have r1 := I.br.cell 1
            have r2 := I.br.cell 2
            have r3 := I.br.cell 3
            have r4 := I.br.cell 4
            have r5 := I.br.cell 5
            have r6 := I.br.cell 6
            have r7 := I.br.cell 7
            have r8 := I.br.cell 8
            simp only [List.getElem?_toArray, List.getElem?_cons_succ, List.getElem?_cons_zero] at r0 r1 r2 r3 r4 r5 r6 r7 r8
            have k0 := I.br.frozen 0
            have k1' := I.br.frozen 1
            have k2 := I.br.frozen 2
            have k3 := I.br.frozen 3
            have k4 := I.br.frozen 4
            have k5 := I.br.frozen 5
            have k6 := I.br.frozen 6
            have k7 := I.br.frozen 7
            have k8 := I.br.frozen 8
            clear oT ft HL
            go_wp2_with fail
            refine bodyPost_ret (v := machV c L.qR L.qP L.qT L.qH) (by simp [results, Tryz.results33, go_sem, r0, r1, r2, r3, r4, r5, r6, r7, r8]) rfl ⟨L, by rw [← HC.out], HM.out, ?_, I.ap trivial, ?_⟩
            ·have hne : ∀ {t : TypeId} {kk n : Nat} {v : Value} {us : List Value}, World.ownsRow wr w.heap.size t kk v n us → t ≠ 29 → (put9 wr (w.heap.size + 1) c L.qR L.qP L.qT L.qH).ownsRow w.heap.size t kk v n us := fun {t kk n v us} h ht => row_put9 h (fun e => by
               rcases h.2 with ⟨e2, _⟩ | ⟨g', cap, cur, hv, _, hh, _⟩
               ·rw [e2] at e; simp [Value.ownBlock] at e
               ·rw [hv] at e
                simp [Value.ownBlock] at e
                subst e
                have hb := I.br
                unfold Box at hb
                rw [hb] at hh
                simp at hh
                exact ht hh.2.symm) _ _ _ _ _
             have o := I.own
             exact ⟨hne o.oR (by decide), hne o.oP (by decide), hne o.oT (by decide), hne o.oH (by decide), fun y hy => hne (o.iR y hy) (by decide), fun y hy => ⟨fun i hi => hne ((o.iP y hy).1 i hi) (by decide), hne (o.iP y hy).2.1 (by decide), hne (o.iP y hy).2.2 (by decide)⟩, fun y hy => ⟨hne (o.iT y hy).1 (by decide), hne (o.iT y hy).2 (by decide)⟩⟩
            ·exact ⟨I.le.put9 (by omega) _ _ _ _ _, HTI.out⟩
theorem rmCopy (v : Value) (M : Mc) (w : World) (hx : HasM w v M) (hf : FitM M) :
   Calls Tryz.prog 33 #[v] w fun e w' => ∃ L : Lay, e = .returned L.v ∧ L.M = M ∧ OwnsM w' w.heap.size L ∧ ApartM L ∧ Le w w' :=
 (rmCopyT v M w hx hf).mono fun _ _ ⟨L, a, b, c, d, l, _⟩ => ⟨L, a, b, c, d, l⟩
def freshM (c : Cfg) : Mc := ⟨c, List.replicate c.l.toNat (newS c.s).1, List.replicate c.r.toNat ⟨St.zero, List.replicate c.l.toNat 0, List.replicate c.l.toNat 0⟩, List.replicate c.t.toNat Th.zero, []⟩
def newM (c : Cfg) : Mc × Int := if c.ok then (freshM c, 0) else (Mc.zero, 1400)
theorem le_grown {w w' : World} (h : w.grownBy w' none) : Le w w' := Below.grown (Le.refl w) h (Nat.le_refl _) (fun _ e => by cases e)
theorem run_make_ints (w : World) (base n : Nat) (hn : n ≤ 100) (hb : base ≤ w.heap.size) :
   ∃ w', (Instr.makeSlice 41 (.int .i64 (n : Int)) (.int .i64 (n : Int))).run Tryz.prog w = .ok (.slice (some ⟨w.heap.size, 0, none⟩) n n) w' ∧ Own w' base (.slice (some ⟨w.heap.size, 0, none⟩) n n) (List.replicate n 0) ∧ Le w w' := by
 obtain ⟨i0, hi, hz0, hz1, hz2⟩ := info_parts info3
 obtain ⟨w', h1, h2, h3⟩ := run_make_full (P := Tryz.prog) w base 41 3 i0 (.int .i64 0) 1 Tryz.underlying41 hi hz0 hz1 .i64 .i64 n (by rw [hz2]; omega) (by unfold maxLen; omega) hb
 exact ⟨w', h1, Own.of h2 (by simp) (by rw [show (Value.int .i64 0).cells = #[.int .i64 0] from rfl, Nat.mul_one, toList_madeCells_one]; simp), le_grown h3⟩
theorem run_make_ths (w : World) (base n : Nat) (hn : n = 1 ∨ n = 2 ∨ n = 3 ∨ n = 4) (hb : base ≤ w.heap.size) :
   ∃ w', (Instr.makeSlice 26 (.int .i64 (n : Int)) (.int .i64 (n : Int))).run Tryz.prog w = .ok (.slice (some ⟨w.heap.size, 0, none⟩) n n) w' ∧ OwnE thK w' base (.slice (some ⟨w.heap.size, 0, none⟩) n n) (List.replicate n ⟨Th.zero, slZ, slZ⟩) ∧ Le w w' := by
 obtain ⟨z, hinfo, hzs⟩ := thIn.info
 have hz : z = .agg #[.int .i64 0, .int .i64 0, .int .i64 0, .int .i64 0, .int .i64 0, .int .i64 0, .slice none 0 0, .int .i64 0, .bool false, .bool false, .int .i64 0, .slice none 0 0] := by
   have h2 : (Tryz.prog.info? 59).map (fun i => (i.zero, i.size, i.bytes)) = some (some (.agg #[.int .i64 0, .int .i64 0, .int .i64 0, .int .i64 0, .int .i64 0, .int .i64 0, .slice none 0 0, .int .i64 0, .bool false, .bool false, .int .i64 0, .slice none 0 0]), 12, 120) := by kernel_rfl
   have h3 : (Tryz.prog.info? 59).map (fun i => (i.zero, i.size, i.bytes)) = some (some z, 12, 120) := hinfo
   rw [h2] at h3
   simp only [Option.some.injEq, Prod.mk.injEq] at h3
   exact h3.1.symm
 subst hz
 obtain ⟨i0, hi, hz0, hz1, hz2⟩ := info_parts hinfo
 obtain ⟨w', h1, h2, h3⟩ := run_make_full (P := Tryz.prog) w base 26 59 i0 _ 12 Tryz.underlying26 hi hz0 hz1 .i64 .i64 n (by rw [hz2]; show 120 * n ≤ _; omega) (by unfold maxLen; omega) hb
 refine ⟨w', h1, OwnE.of h2 (by simp) ?_, le_grown h3⟩
 rcases hn with rfl | rfl | rfl | rfl <;> kernel_rfl
theorem entryAs {h t f p c r a th b er : Int} {ss : List Slt} (he : entryS ⟨h, t, f, ss⟩ p = (⟨c, r, a, th, b⟩, er)) (hf : ss.length * 40 ≤ 140737488351232) (q : Sl) (w : World) (hq : HasL w (slV q) ss) :
   Calls Tryz.prog 28 #[ringV h t f q, .int .i64 p] w fun e w' => e = .returned (.tuple #[slotV c r a th b, .int .i64 er]) ∧ Le w w' := by
 have := ringEntry (ringV h t f q) ⟨h, t, f, ss⟩ p w ⟨q, rfl, hq⟩ hf
 rw [he] at this
 exact this
theorem repAs {o r l t s k x er : Int} (h : repS o r l t s k = (x, er)) (w : World) : Calls Tryz.prog 30 #[cfgV o r l t s, .int .i64 k] w fun e w' => e = .returned (.tuple #[.int .i64 x, .int .i64 er]) ∧ Le w w' := by
 have := cfgReplica o r l t s k w
 rw [h] at this
 exact this
abbrev cells5 (c : Cfg) : Array Value := #[.int .i64 c.o, .int .i64 c.r, .int .i64 c.l, .int .i64 c.t, .int .i64 c.s]
theorem OwnsM.put9 {w : World} {base g : Nat} {cs : Array Value} {L : Lay} (o : OwnsM w base L) (hb : Box w g cs 29) (c : Cfg) (a b d e : Sl) : OwnsM (put9 w g c a b d e) base L := by
 have hne : ∀ {t : TypeId} {kk n : Nat} {v : Value} {us : List Value}, World.ownsRow w base t kk v n us → t ≠ 29 → (Go.Proofs.YtepplhbajmlbpaaGreat.put9 w g c a b d e).ownsRow base t kk v n us := fun {t kk n v us} h ht => row_put9 h (fun e => by
   rcases h.2 with ⟨e2, _⟩ | ⟨g', cap, cur, hv, _, hh, _⟩
   ·rw [e2] at e; simp [Value.ownBlock] at e
   ·rw [hv] at e
    simp [Value.ownBlock] at e
    subst e
    unfold Box at hb
    rw [hb] at hh
    simp at hh
    exact ht hh.2.symm) _ _ _ _ _
 exact ⟨hne o.oR (by decide), hne o.oP (by decide), hne o.oT (by decide), hne o.oH (by decide), fun y hy => hne (o.iR y hy) (by decide), fun y hy => ⟨fun i hi => hne ((o.iP y hy).1 i hi) (by decide), hne (o.iP y hy).2.1 (by decide), hne (o.iP y hy).2.2 (by decide)⟩, fun y hy => ⟨hne (o.iT y hy).1 (by decide), hne (o.iT y hy).2 (by decide)⟩⟩
theorem CpI.start2 {F : Prop} (hF : ¬ F) {w x : World} {cp : Array Value} {tp : TypeId} {c : Cfg} {q : Sl} {g n : Nat} (hl : Le w x) (bp : Box x w.heap.size cp tp) (br : Box x (w.heap.size + 1) cellsZ9 29) (bo : Box x g cellsZ9 29) (hg : w.heap.size + 2 ≤ g) (ho : OwnE thK x (w.heap.size + 2) (slV q) (List.replicate n ⟨Th.zero, slZ, slZ⟩)) :
   CpI F w cp tp c g (Go.Proofs.YtepplhbajmlbpaaGreat.put9 x g c slZ slZ q slZ) ⟨c, slZ, slZ, q, slZ, [], [], List.replicate n ⟨Th.zero, slZ, slZ⟩, []⟩ := by
 refine ⟨hl.put9 (by omega) _ _ _ _ _, bp.off9 (by omega) _ _ _ _ _, br.off9 (by omega) _ _ _ _ _, bo.put9 rfl _ _ _ _ _, by omega, ⟨OwnE.nil _ _ _, OwnE.nil _ _ _, ?_, OwnE.nil _ _ _, (fun x h => by cases h), (fun x h => by cases h), (fun y h => ?_)⟩, fun hf => absurd hf hF⟩
 ·exact row_put9 (ho.base (base' := w.heap.size) (by omega)) (ho.apart bo (by decide)) _ _ _ _ _
 ·obtain rfl := List.eq_of_mem_replicate h
  exact ⟨Own.nil _ _, Own.nil _ _⟩
theorem own_setCell {w : World} {base g i k n : Nat} {t : TypeId} {v u : Value} {us : List Value} (h : w.ownsRow base t k v n us) (hne : n = 0 ∨ v.ownBlock ≠ some g) : (w.setCell ⟨g, i, none⟩ u).ownsRow base t k v n us := by
 by_cases hb : v.ownBlock = some g
 ·obtain ⟨h1, h2⟩ := h
  refine ⟨h1, ?_⟩
  rcases h2 with h2 | ⟨g', cap, cur, hv, hg, hh, hn, hm, hs, ht⟩
  ·exact .inl h2
  ·rw [hv] at hb
   simp [Value.ownBlock] at hb
   subst hb
   rcases hne with rfl | hne
   ·have hb' : Box w g' cur t := hh
    have := hb'.set i u
    refine .inr ⟨g', cap, _, hv, hg, this, hn, hm, ?_, ?_⟩
    ·simpa using hs
    ·simp at h1 ⊢
     simpa using h1
   ·rw [hv] at hne
    simp [Value.ownBlock] at hne
 ·exact ownsRow_setCell_other h hb u
structure MoI (B g : Nat) (w : World) (L : Lay) : Prop where
 bo : Box w g (cells9 L.c L.qR L.qP L.qT L.qH) 29
 hB : B ≤ g
 own : OwnsM w B L
 ap : ApartM L
theorem MoI.le {B g : Nat} {w w' : World} {L : Lay} (h : MoI B g w L) (l : Le w w') : MoI B g w' L := ⟨h.bo.le l, h.hB, h.own.le l, h.ap⟩
theorem MoI.has {B g : Nat} {w : World} {L : Lay} (h : MoI B g w L) : HasM w L.v L.M := h.own.has
def Lay.Below (L : Lay) (m : Nat) : Prop := (∀ i b, (slV (L.slots i)).ownBlock = some b → b < m) ∧ ∀ p b, (slV (L.at p)).ownBlock = some b → b < m
theorem OwnsM.bel {w : World} {B : Nat} {L : Lay} (h : OwnsM w B L) : L.Below w.heap.size := ⟨fun _ _ e => h.slots_lt e, fun _ _ e => h.at_lt e⟩
theorem getD_set {α : Type} (xs : List α) (i j : Nat) (x d : α) (hi : i < xs.length) : (xs.set i x).getD j d = if j = i then x else xs.getD j d := by
 simp only [List.getD, List.getElem?_set]
 by_cases e : i = j
 ·subst e; simp [hi]
 ·have e' : ¬ j = i := fun h => e h.symm
  simp [e, e']
theorem rowC_same {α : Type} {f : α → List Value} (d : α) {x' : α} : ∀ (xs : List α) (i : Nat), i < xs.length → f x' = f (xs.getD i d) → rowC f (xs.set i x') = rowC f xs
 | [], i, h, _ => by simp at h
 | x :: xs, 0, _, hf => by simp at hf; simp [rowC, hf]
 | x :: xs, i + 1, h, hf => by
   simp only [List.set_cons_succ, rowC]
   rw [rowC_same d xs i (by simpa using h) (by simpa using hf)]
theorem own_k {α : Type} {K : Kind α} {w : World} {B : Nat} {v : Value} {xs : List α} {k' n : Nat} {t : TypeId} {u : Value} {us : List Value} (h : OwnE K w B v xs) (h2 : w.ownsRow B t k' u n us) (ht : t ≠ K.t) {g : Nat} (e : v.ownBlock = some g) : u.ownBlock ≠ some g :=
 ownsRow_apart (show w.ownsRow B K.t K.k v _ _ from h) h2 (fun h => ht h.symm) e
theorem MoI.openT {B g : Nat} {w : World} {L : Lay} (h : MoI B g w L) {i : Nat} (hi : i < L.ts.length) : ∃ gT cap, L.qT = (some ⟨gT, 0, none⟩, L.ts.length, cap) ∧ L.ts.length ≤ cap ∧ B ≤ gT ∧ gT < w.heap.size ∧ g ≠ gT ∧
   ThAt w gT (i * 12) (L.ts.getD i thK.d).T (L.ts.getD i thK.d).b (L.ts.getD i thK.d).t ∧ ∀ j, w.frozen? ⟨gT, j, none⟩ = false := by
 have ho := h.own.oT
 obtain ⟨gT, cap, hv, hc, hg, hlt⟩ := ho.shape (by omega)
 have hq : L.qT = (some ⟨gT, 0, none⟩, L.ts.length, cap) := by
   simp only [slV, Value.slice.injEq] at hv
   obtain ⟨a, b, c⟩ := hv
   exact Prod.ext a (Prod.ext b c)
 have hap := ho.apart h.bo (by decide)
 rw [hv] at hap
 simp only [Value.ownBlock, ne_eq, Option.some.injEq] at hap
 rw [hq] at ho
 refine ⟨gT, cap, hq, hc, hg, hlt, fun e => hap (by rw [e]), ?_, fun j => ho.frozen j⟩
 obtain ⟨a, c, hv', _, _, hx⟩ := ho.has
 obtain ⟨b, off, ha, hcell⟩ := hx (by omega)
 simp only [slV, Value.slice.injEq] at hv'
 rw [ha] at hv'
 simp only [Option.some.injEq, Addr.mk.injEq, and_true] at hv'
 obtain ⟨⟨rfl, rfl⟩, _⟩ := hv'
 have h' := hcell i hi
 simp only [Nat.zero_add] at h'
 exact ⟨h' 0 (by decide), h' 1 (by decide), h' 2 (by decide), h' 3 (by decide), h' 4 (by decide), h' 5 (by decide), h' 6 (by decide), h' 7 (by decide), h' 8 (by decide), h' 9 (by decide), h' 10 (by decide), h' 11 (by decide)⟩
theorem MoI.setT {B g : Nat} {w : World} {L : Lay} (h : MoI B g w L) {i j gT n cap : Nat} {u : Value} (hq : L.qT = (some ⟨gT, 0, none⟩, n, cap)) (hi : i < L.ts.length) (hj : j < 12) (x : LT) (hx : x.cells = (L.ts.getD i thK.d).cells.set j u)
   (hb : Own w B (slV x.b) x.T.b) (ht : Own w B (slV x.t) x.T.tl) (hap : ApartM { L with ts := L.ts.set i x }) : MoI B g (w.setCell ⟨gT, i * 12 + j, none⟩ u) { L with ts := L.ts.set i x } := by
 have ho := h.own.oT
 rw [hq] at ho
 have hne : g ≠ gT := fun e => by
   have := ho.apart h.bo (by decide)
   simp [Value.ownBlock] at this
   exact this e.symm
 have key : ∀ {t : TypeId} {kk m : Nat} {v : Value} {us : List Value}, w.ownsRow B t kk v m us → t ≠ 59 → (w.setCell ⟨gT, i * 12 + j, none⟩ u).ownsRow B t kk v m us := fun h1 h2 => by
   refine ownsRow_setCell_other h1 ?_ u
   exact own_k (g := gT) ho h1 h2 rfl
 refine ⟨h.bo.other hne _ _, h.hB, ⟨key h.own.oR (by decide), key h.own.oP (by decide), ?_, key h.own.oH (by decide), fun y hy => key (h.own.iR y hy) (by decide), fun y hy => ?_, fun y hy => ?_⟩, hap⟩
 ·show OwnE thK _ B (slV L.qT) (L.ts.set i x)
  rw [hq]
  exact ho.put hi hj hx
 ·obtain ⟨a, b, c⟩ := h.own.iP y hy
  exact ⟨fun i hi => key (a i hi) (by decide), key b (by decide), key c (by decide)⟩
 ·rcases List.mem_or_eq_of_mem_set hy with hy | rfl
  ·obtain ⟨a, b⟩ := h.own.iT y hy
   exact ⟨key a (by decide), key b (by decide)⟩
  ·exact ⟨key hb (by decide), key ht (by decide)⟩
theorem ApartM.setT {L : Lay} (h : ApartM L) {i : Nat} (hi : i < L.ts.length) {x : LT} (hb : x.b = (L.ts.getD i thK.d).b) (ht : x.t = (L.ts.getD i thK.d).t) : ApartM { L with ts := L.ts.set i x } := by
 have key : ∀ p, ({ L with ts := L.ts.set i x } : Lay).at p = L.at p := fun p => by
   cases p with
   | rep a b => rfl
   | th a b =>
     simp only [Lay.at, getD_set _ _ _ _ _ hi]
     split
     ·next e =>
      subst e
      match b with
      | 0 => exact hb
      | 1 => exact ht
      | _ + 2 => rfl
     ·rfl
 exact ⟨h.s, fun p q hne hw n1 n2 b e1 e2 => by rw [key] at n1 n2 e1 e2; exact h.n p q hne hw n1 n2 b e1 e2⟩
theorem ApartM.setTn {L : Lay} {m : Nat} (h : ApartM L) (hm : L.Below m) {i : Nat} (hi : i < L.ts.length) {x : LT}
   (hb : x.b = (L.ts.getD i thK.d).b ∨ x.b.2.1 = 0 ∨ ∀ c, (slV x.b).ownBlock = some c → m ≤ c)
   (ht : x.t = (L.ts.getD i thK.d).t ∨ x.t.2.1 = 0 ∨ ∀ c, (slV x.t).ownBlock = some c → m ≤ c)
   (hbt : x.b.2.1 = 0 ∨ x.t.2.1 = 0 ∨ x.b = (L.ts.getD i thK.d).b ∨ x.t = (L.ts.getD i thK.d).t) : ApartM { L with ts := L.ts.set i x } := by
 have key : ∀ p, (({ L with ts := L.ts.set i x } : Lay).at p = L.at p) ∨ ((({ L with ts := L.ts.set i x } : Lay).at p).2.1 = 0) ∨ ((∃ k, p = .th i k ∧ k < 2) ∧ ∀ c, (slV (({ L with ts := L.ts.set i x } : Lay).at p)).ownBlock = some c → m ≤ c) := fun p => by
   cases p with
   | rep a b => exact .inl rfl
   | th a b =>
     simp only [Lay.at, getD_set _ _ _ _ _ hi]
     by_cases e : a = i
     ·subst e
      rw [if_pos rfl]
      match b with
      | 0 =>
        rcases hb with h | h | h
        ·exact .inl h
        ·exact .inr (.inl h)
        ·exact .inr (.inr ⟨⟨0, rfl, by decide⟩, h⟩)
      | 1 =>
        rcases ht with h | h | h
        ·exact .inl h
        ·exact .inr (.inl h)
        ·exact .inr (.inr ⟨⟨1, rfl, by decide⟩, h⟩)
      | _ + 2 => exact .inl rfl
     ·rw [if_neg e]; exact .inl rfl
 have both : ∀ k l, k ≠ l → k < 2 → l < 2 → (∀ c, (slV (({ L with ts := L.ts.set i x } : Lay).at (.th i k))).ownBlock = some c → m ≤ c) → (∀ c, (slV (({ L with ts := L.ts.set i x } : Lay).at (.th i l))).ownBlock = some c → m ≤ c) → 0 < (({ L with ts := L.ts.set i x } : Lay).at (.th i k)).2.1 → 0 < (({ L with ts := L.ts.set i x } : Lay).at (.th i l)).2.1 → ∀ c, (slV (({ L with ts := L.ts.set i x } : Lay).at (.th i k))).ownBlock = some c → (slV (({ L with ts := L.ts.set i x } : Lay).at (.th i l))).ownBlock ≠ some c := by
   intro k l hkl hk hl g1 g2 n1 n2 c e1 e2
   have b0 : (({ L with ts := L.ts.set i x } : Lay).at (.th i 0)) = x.b := by simp only [Lay.at, getD_set _ _ _ _ _ hi, if_true]; rfl
   have b1 : (({ L with ts := L.ts.set i x } : Lay).at (.th i 1)) = x.t := by simp only [Lay.at, getD_set _ _ _ _ _ hi, if_true]; rfl
   have hx : 0 < x.b.2.1 ∧ 0 < x.t.2.1 ∧ (∀ c, (slV x.b).ownBlock = some c → m ≤ c) ∧ (∀ c, (slV x.t).ownBlock = some c → m ≤ c) ∧ ∃ c, (slV x.b).ownBlock = some c ∧ (slV x.t).ownBlock = some c := by
     rcases (by omega : (k = 0 ∧ l = 1) ∨ (k = 1 ∧ l = 0)) with ⟨rfl, rfl⟩ | ⟨rfl, rfl⟩
     ·rw [b0] at n1 g1 e1; rw [b1] at n2 g2 e2; exact ⟨n1, n2, g1, g2, c, e1, e2⟩
     ·rw [b1] at n1 g1 e1; rw [b0] at n2 g2 e2; exact ⟨n2, n1, g2, g1, c, e2, e1⟩
   obtain ⟨p1, p2, p3, p4, c', p5, p6⟩ := hx
   rcases hbt with h0 | h0 | h0 | h0
   ·omega
   ·omega
   ·have h1 := hm.2 (.th i 0) c' (by simp only [Lay.at]; rw [show (L.ts.getD i thK.d).row 0 = (L.ts.getD i thK.d).b from rfl, ← h0]; exact p5)
    have := p3 c' p5
    omega
   ·have h1 := hm.2 (.th i 1) c' (by simp only [Lay.at]; rw [show (L.ts.getD i thK.d).row 1 = (L.ts.getD i thK.d).t from rfl, ← h0]; exact p6)
    have := p4 c' p6
    omega
 refine ⟨h.s, fun p q hne hw n1 n2 b e1 e2 => ?_⟩
 rcases key p with k1 | k1 | ⟨⟨k, rfl, hk⟩, k1⟩
 ·rw [k1] at n1 e1
  rcases key q with k2 | k2 | ⟨_, k2⟩
  ·rw [k2] at n2 e2; exact h.n p q hne hw n1 n2 b e1 e2
  ·omega
  ·have := hm.2 p b e1; have := k2 b e2; omega
 ·omega
 ·rcases key q with k2 | k2 | ⟨⟨l, rfl, hl⟩, k2⟩
  ·rw [k2] at e2
   have := hm.2 q b e2; have := k1 b e1; omega
  ·omega
  ·exact both k l (fun e => hne (by rw [e])) hk hl k1 k2 n1 n2 b e1 e2
theorem MoI.setTs {B g : Nat} {w : World} {L : Lay} (h : MoI B g w L) {i j gT n cap : Nat} {u : Value} (hq : L.qT = (some ⟨gT, 0, none⟩, n, cap)) (hi : i < L.ts.length) (hj : j < 12) (T : Th)
   (hx : (⟨T, (L.ts.getD i thK.d).b, (L.ts.getD i thK.d).t⟩ : LT).cells = (L.ts.getD i thK.d).cells.set j u) (hb : T.b = (L.ts.getD i thK.d).T.b) (ht : T.tl = (L.ts.getD i thK.d).T.tl) :
   MoI B g (w.setCell ⟨gT, i * 12 + j, none⟩ u) { L with ts := L.ts.set i ⟨T, (L.ts.getD i thK.d).b, (L.ts.getD i thK.d).t⟩ } := by
 have o := h.own.iT _ (getD_mem (d := thK.d) hi)
 exact h.setT hq hi hj _ hx (by rw [hb]; exact o.1) (by rw [ht]; exact o.2) (h.ap.setT hi rfl rfl)
theorem Lay.M_setT (L : Lay) (i : Nat) (x : LT) : ({ L with ts := L.ts.set i x } : Lay).M = { L.M with ts := L.M.ts.set i x.T } := by
 simp only [Lay.M, List.map_set]
theorem Lay.M_getT (L : Lay) {i : Nat} (h : i < L.ts.length) : (L.ts.getD i thK.d).T = L.M.ts.getD i Th.zero := by
 simp only [Lay.M]
 rw [getD_map LT.T L.ts thK.d Th.zero h]
theorem Lay.M_getP (L : Lay) {i : Nat} (h : i < L.ps.length) : (L.ps.getD i repK.d).P = L.M.ps.getD i Rp.zero := by
 simp only [Lay.M]
 rw [getD_map LP.P L.ps repK.d Rp.zero h]
theorem Lay.M_getR (L : Lay) {i : Nat} (h : i < L.rs.length) : (L.rs.getD i ringK.d).R = L.M.rs.getD i Rg.zero := by
 simp only [Lay.M]
 rw [getD_map LR.R L.rs ringK.d Rg.zero h]
theorem Lay.M_setP (L : Lay) (i : Nat) (x : LP) : ({ L with ps := L.ps.set i x } : Lay).M = { L.M with ps := L.M.ps.set i x.P } := by
 simp only [Lay.M, List.map_set]
theorem Lay.M_setR (L : Lay) (i : Nat) (x : LR) : ({ L with rs := L.rs.set i x } : Lay).M = { L.M with rs := L.M.rs.set i x.R } := by
 simp only [Lay.M, List.map_set]
theorem MoI.openP {B g : Nat} {w : World} {L : Lay} (h : MoI B g w L) {i : Nat} (hi : i < L.ps.length) : ∃ gP cap, L.qP = (some ⟨gP, 0, none⟩, L.ps.length, cap) ∧ L.ps.length ≤ cap ∧ B ≤ gP ∧ gP < w.heap.size ∧ g ≠ gP ∧
   RepAt w gP (i * 6) (L.ps.getD i repK.d).vs (L.ps.getD i repK.d).c (L.ps.getD i repK.d).l ∧ ∀ j, w.frozen? ⟨gP, j, none⟩ = false := by
 have ho := h.own.oP
 obtain ⟨gP, cap, hv, hc, hg, hlt⟩ := ho.shape (by omega)
 have hq : L.qP = (some ⟨gP, 0, none⟩, L.ps.length, cap) := by
   simp only [slV, Value.slice.injEq] at hv
   obtain ⟨a, b, c⟩ := hv
   exact Prod.ext a (Prod.ext b c)
 have hap := ho.apart h.bo (by decide)
 rw [hv] at hap
 simp only [Value.ownBlock, ne_eq, Option.some.injEq] at hap
 rw [hq] at ho
 refine ⟨gP, cap, hq, hc, hg, hlt, fun e => hap (by rw [e]), ?_, fun j => ho.frozen j⟩
 obtain ⟨a, c, hv', _, _, hx⟩ := ho.has
 obtain ⟨b, off, ha, hcell⟩ := hx (by omega)
 simp only [slV, Value.slice.injEq] at hv'
 rw [ha] at hv'
 simp only [Option.some.injEq, Addr.mk.injEq, and_true] at hv'
 obtain ⟨⟨rfl, rfl⟩, _⟩ := hv'
 have h' := hcell i hi
 simp only [Nat.zero_add] at h'
 exact ⟨h' 0 (by decide), h' 1 (by decide), h' 2 (by decide), h' 3 (by decide), h' 4 (by decide), h' 5 (by decide)⟩
theorem own_open {w : World} {B : Nat} {q : Sl} {xs : List Int} (h : Own w B (slV q) xs) {i : Nat} (hi : i < xs.length) : ∃ gl cap, q = (some ⟨gl, 0, none⟩, xs.length, cap) ∧ xs.length ≤ cap ∧ B ≤ gl ∧ gl < w.heap.size ∧ w.cell? ⟨gl, i, none⟩ = some (.int .i64 (xs.getD i 0)) ∧ w.frozen? ⟨gl, i, none⟩ = false := by
 have ho := h.e
 obtain ⟨gl, cap, hv, hc, hg, hlt⟩ := ho.shape (by omega)
 have hq : q = (some ⟨gl, 0, none⟩, xs.length, cap) := by
   simp only [slV, Value.slice.injEq] at hv
   obtain ⟨a, b, c⟩ := hv
   exact Prod.ext a (Prod.ext b c)
 subst hq
 refine ⟨gl, cap, rfl, hc, hg, hlt, ?_, ho.frozen i⟩
 obtain ⟨a, c, hv', _, _, hx⟩ := h.has
 obtain ⟨b, off, ha, hcell⟩ := hx (by omega)
 simp only [slV, Value.slice.injEq] at hv'
 rw [ha] at hv'
 simp only [Option.some.injEq, Addr.mk.injEq, and_true] at hv'
 obtain ⟨⟨rfl, rfl⟩, _⟩ := hv'
 have := hcell i hi
 rwa [Nat.zero_add] at this
theorem MoI.setN {B g : Nat} {w : World} {L : Lay} (h : MoI B g w L) {i k gl n cap : Nat} {v : Int} (which : Nat) (hw : which = 4 ∨ which = 5) (hi : i < L.ps.length) (hq : (L.ps.getD i repK.d).row which = (some ⟨gl, 0, none⟩, n, cap)) (hk : k < n)
   (P : Rp) (hs : P.s = (L.ps.getD i repK.d).P.s) (hc : P.cs = if which = 4 then (L.ps.getD i repK.d).P.cs.set k v else (L.ps.getD i repK.d).P.cs) (hl : P.ls = if which = 5 then (L.ps.getD i repK.d).P.ls.set k v else (L.ps.getD i repK.d).P.ls) :
   MoI B g (w.setCell ⟨gl, k, none⟩ (.int .i64 v)) { L with ps := L.ps.set i ⟨P, (L.ps.getD i repK.d).vs, (L.ps.getD i repK.d).c, (L.ps.getD i repK.d).l⟩ } := by
 have o := h.own.iP _ (getD_mem (d := repK.d) hi)
 have hpos : Pos.wr (.rep i which) = true := by rcases hw with rfl | rfl <;> rfl
 have hat : L.at (.rep i which) = (some ⟨gl, 0, none⟩, n, cap) := hq
 have hrow : ∃ xs, Own w B (.slice (some ⟨gl, 0, none⟩) n cap) xs := by
   rcases hw with rfl | rfl
   ·have := o.2.1
    rw [show (L.ps.getD i repK.d).c = _ from hq] at this
    exact ⟨_, this⟩
   ·have := o.2.2
    rw [show (L.ps.getD i repK.d).l = _ from hq] at this
    exact ⟨_, this⟩
 obtain ⟨ys, hys⟩ := hrow
 have hne : g ≠ gl := fun e => by
   have := hys.e.apart h.bo (by decide)
   simp [Value.ownBlock] at this
   exact this e.symm
 have key : ∀ {t : TypeId} {kk m : Nat} {v' : Value} {us : List Value}, w.ownsRow B t kk v' m us → t ≠ 3 → (w.setCell ⟨gl, k, none⟩ (.int .i64 v)).ownsRow B t kk v' m us := fun h1 h2 => by
   refine ownsRow_setCell_other h1 ?_ _
   exact own_k (g := gl) hys.e h1 h2 rfl
 have key2 : ∀ p xs, p ≠ .rep i which → Own w B (slV (L.at p)) xs → Own (w.setCell ⟨gl, k, none⟩ (.int .i64 v)) B (slV (L.at p)) xs := fun p xs hp hx => by
   refine own_setCell hx ?_
   rcases Nat.eq_zero_or_pos xs.length with h0 | h0
   ·exact .inl h0
   ·refine .inr (h.ap.n (.rep i which) p (fun e => hp e.symm) hpos ?_ ?_ gl ?_)
    ·rw [hat]; show 0 < n; omega
    ·rw [own_len hx]; exact h0
    ·rw [hat]; rfl
 have hown : OwnsM (w.setCell ⟨gl, k, none⟩ (.int .i64 v)) B { L with ps := L.ps.set i ⟨P, (L.ps.getD i repK.d).vs, (L.ps.getD i repK.d).c, (L.ps.getD i repK.d).l⟩ } := by
   refine ⟨key h.own.oR (by decide), ?_, key h.own.oT (by decide), key h.own.oH (by decide), fun y hy => key (h.own.iR y hy) (by decide), fun y hy => ?_, fun y hy => ?_⟩
   ·have h1 : OwnE repK (w.setCell ⟨gl, k, none⟩ (.int .i64 v)) B (slV L.qP) L.ps := key h.own.oP (by decide)
    refine OwnE.of h1 (by simp) ?_
    exact (rowC_same (f := repK.f) (x' := ⟨P, (L.ps.getD i repK.d).vs, (L.ps.getD i repK.d).c, (L.ps.getD i repK.d).l⟩) repK.d L.ps i hi rfl).symm
   ·obtain ⟨a, ha, rfl⟩ := List.mem_iff_getElem.1 hy
    simp only [List.length_set] at ha
    by_cases e : i = a
    ·subst e
     simp only [List.getElem_set_self]
     refine ⟨fun j hj => ?_, ?_, ?_⟩
     ·rw [hs]
      have := o.1 j hj
      rcases four hj with rfl | rfl | rfl | rfl
      ·exact key2 (.rep i 0) _ (by rcases hw with rfl | rfl <;> simp) this
      ·exact key2 (.rep i 1) _ (by rcases hw with rfl | rfl <;> simp) this
      ·exact key2 (.rep i 2) _ (by rcases hw with rfl | rfl <;> simp) this
      ·exact key2 (.rep i 3) _ (by rcases hw with rfl | rfl <;> simp) this
     ·rw [hc]
      rcases hw with rfl | rfl
      ·rw [if_pos rfl]
       have := o.2.1
       rw [show (L.ps.getD i repK.d).c = _ from hq] at this ⊢
       have hn := own_len this
       have hn' : n = _ := hn
       have := (OwnE.put (K := intK) (x' := v) (u := .int .i64 v) this.e (i := k) (j := 0) (by rw [← hn']; exact hk) (by decide) rfl).i
       have e1 : k * intK.k + 0 = k := by show k * 1 + 0 = k; omega
       rw [e1] at this
       exact this
      ·rw [if_neg (by decide)]
       exact key2 (.rep i 4) _ (by simp) o.2.1
     ·rw [hl]
      rcases hw with rfl | rfl
      ·rw [if_neg (by decide)]
       exact key2 (.rep i 5) _ (by simp) o.2.2
      ·rw [if_pos rfl]
       have := o.2.2
       rw [show (L.ps.getD i repK.d).l = _ from hq] at this ⊢
       have hn := own_len this
       have hn' : n = _ := hn
       have := (OwnE.put (K := intK) (x' := v) (u := .int .i64 v) this.e (i := k) (j := 0) (by rw [← hn']; exact hk) (by decide) rfl).i
       have e1 : k * intK.k + 0 = k := by show k * 1 + 0 = k; omega
       rw [e1] at this
       exact this
    ·rw [List.getElem_set_ne e]
     have oa := h.own.iP (L.ps[a]) (List.getElem_mem _)
     have ga : L.ps[a] = L.ps.getD a repK.d := by simp [List.getD, ha]
     rw [ga] at oa ⊢
     refine ⟨fun j hj => ?_, key2 (.rep a 4) _ (by simp; omega) oa.2.1, key2 (.rep a 5) _ (by simp; omega) oa.2.2⟩
     have := oa.1 j hj
     rcases four hj with rfl | rfl | rfl | rfl
     ·exact key2 (.rep a 0) _ (by simp; omega) this
     ·exact key2 (.rep a 1) _ (by simp; omega) this
     ·exact key2 (.rep a 2) _ (by simp; omega) this
     ·exact key2 (.rep a 3) _ (by simp; omega) this
   ·obtain ⟨a, ha, rfl⟩ := List.mem_iff_getElem.1 hy
    have oa := h.own.iT (L.ts[a]) (List.getElem_mem _)
    have ga : L.ts[a] = L.ts.getD a thK.d := by simp [List.getD, ha]
    rw [ga] at oa ⊢
    exact ⟨key2 (.th a 0) _ (by simp) oa.1, key2 (.th a 1) _ (by simp) oa.2⟩
 refine ⟨h.bo.other hne _ _, h.hB, hown, ⟨h.ap.s, fun p q hne hw' n1 n2 b e1 e2 => ?_⟩⟩
 have kat : ∀ p, ({ L with ps := L.ps.set i ⟨P, (L.ps.getD i repK.d).vs, (L.ps.getD i repK.d).c, (L.ps.getD i repK.d).l⟩ } : Lay).at p = L.at p := fun p => by
   cases p with
   | th a b => rfl
   | rep a b =>
     simp only [Lay.at, getD_set _ _ _ _ _ hi]
     split
     ·next e => subst e; match b with
      | 0 => rfl
      | 1 => rfl
      | 2 => rfl
      | 3 => rfl
      | 4 => rfl
      | 5 => rfl
      | _ + 6 => rfl
     ·rfl
 rw [kat] at n1 n2 e1 e2
 exact h.ap.n p q hne hw' n1 n2 b e1 e2
end Go.Proofs.YtepplhbajmlbpaaGreat
