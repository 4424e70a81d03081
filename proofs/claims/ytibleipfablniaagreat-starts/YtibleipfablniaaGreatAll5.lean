/-
  PARTS LAID TOGETHER, each with its own opening: RmB, RmC, RmD, RfC, NwR, LmD, StartsW, OpenCf, OpenSl, OpenR, OpenSt, OpenM.
-/
import Derived.Test.YtibleipfablniaaGreatAll4
import Derived.Test.YtibleipfablniaaGreatAll2
import Derived.Test.YtibleipfablniaaGreatAll3
import Derived.Test.YtibleipfablniaaGreatAll1
import Derived.Deep.RegionHeld3
import Derived.Deep.Cut
import Derived.BigRegion
import Derived.ProofKit
import Derived.OpenShut
import Derived.SizedLaws
import Derived.Lib.SmallJoins
import Derived.Deep.Slices
import Derived.Deep.Strs
import Derived.Laws.IdiomArrays
/-
  THE WALK over the document's replicaMay: may it be one of a machine's replicas? Condition: that its rows can be copied, and that the machine has as many logs as its Config says.
-/
namespace Go.Proofs.YtibleipfablniaaGreat
open Go.RowKit

theorem cell_later' {w : World} {p : Addr} {v : Value} (h : w.cell? p = some v) : ∀ X : Later w, X.w.cell? p = some v := fun X => cell_le h X.le

/-- As the document asks it. -/
def repD (c : Cfg) (Rs : List Rg) (P : Rp) : Bool := objMay c.o P.s && (decide ((P.cs.length : Int) = c.l) && (decide ((P.ls.length : Int) = c.l) && (List.range P.cs.length).all fun i => inB (Rs.getD i Rg.zero).h (P.cs.getD i 0) (Rs.getD i Rg.zero).t && inB 0 (P.ls.getD i 0) c.t))
theorem repB_doc (c : Cfg) (Rs : List Rg) (P : Rp) : repB c Rs P = repD c Rs P := by
  unfold repB repD
  cases objMay c.o P.s
  · rfl
  by_cases h1 : (P.cs.length : Int) = c.l
  · by_cases h2 : (P.ls.length : Int) = c.l
    · simp only [h1, h2, decide_true, Bool.true_and, cursOK]
      rw [Bool.eq_iff_iff]
      simp only [Bool.and_eq_true, List.all_eq_true, List.mem_range]
      constructor
      · rintro ⟨h3, h4⟩ i hi
        exact ⟨h3 i hi, h4 _ (getD_mem (by omega))⟩
      · intro h
        refine ⟨fun i hi => (h i hi).1, fun x hx => ?_⟩
        obtain ⟨i, hi, rfl⟩ := List.mem_iff_getElem.1 hx
        have := (h i (by omega)).2
        rw [show P.ls.getD i 0 = P.ls[i] by simp [List.getD, hi]] at this
        exact this
    · simp [h2]
  · simp [h1]
theorem repD_take {c : Cfg} {Rs : List Rg} {P : Rp} {k : Nat} (h : ∀ i, i < k → (inB (Rs.getD i Rg.zero).h (P.cs.getD i 0) (Rs.getD i Rg.zero).t && inB 0 (P.ls.getD i 0) c.t) = true) (hk : (k : Int) = c.l) (h0 : objMay c.o P.s = true) (h1 : (P.cs.length : Int) = c.l) (h2 : (P.ls.length : Int) = c.l) : repD c Rs P = true := by
  unfold repD
  rw [h0, decide_eq_true h1, decide_eq_true h2]
  simp only [Bool.true_and, List.all_eq_true, List.mem_range]
  intro i hi
  exact h i (by omega)
theorem repD_no {c : Cfg} {Rs : List Rg} {P : Rp} {k : Nat} (hk : k < P.cs.length) (h : (inB (Rs.getD k Rg.zero).h (P.cs.getD k 0) (Rs.getD k Rg.zero).t && inB 0 (P.ls.getD k 0) c.t) = false) : repD c Rs P = false := by
  unfold repD
  rw [Bool.and_eq_false_iff]; right
  rw [Bool.and_eq_false_iff]; right
  rw [Bool.and_eq_false_iff]; right
  rw [← Bool.not_eq_true]
  simp only [List.all_eq_true, List.mem_range]
  intro hh
  have := hh k hk
  rw [h] at this
  cases this

set_option maxRecDepth 4000 in
set_option maxHeartbeats 4000000 in
theorem rmReplicaMay (M : Mc) (v u : Value) (P : Rp) (w : World) (hM : HasM w v M) (hn : (M.rs.length : Int) = M.c.l) (hx : HasP w u P) (hf : Fit P.s) (hm : M.rs.length * 48 ≤ 140737488351232) (hfc : P.cs.length * 8 ≤ 140737488351232) (hfl : P.ls.length * 8 ≤ 140737488351232) :
    Calls Tryz.prog 35 #[v, u] w fun e w' => e = .returned (.bool (repB M.c M.rs P)) ∧ Le w w' := by
  rw [repB_doc]
  obtain ⟨c, Rs, Ps, Ts, Es⟩ := M
  obtain ⟨⟨ra, rn, rc⟩, qP, qT, qH, rfl, hR, _, _, _⟩ := hM
  obtain ⟨vs, ⟨ca, cn, cc⟩, ⟨la, ln, lc⟩, rfl, i0, i1, i2⟩ := hx
  simp only at hR hn hm ⊢
  have hb1 := (Box.new w (cells9 c (ra, rn, rc) qP qT qH) 29).le (Le.alloc _ (.cells (cellsP vs (ca, cn, cc) (la, ln, lc)) 56))
  have hb2 := Box.new (w.alloc (.cells (cells9 c (ra, rn, rc) qP qT qH) 29)) (cellsP vs (ca, cn, cc) (la, ln, lc)) 56
  rw [World.size_alloc] at hb2
  have hl := (Le.alloc w (.cells (cells9 c (ra, rn, rc) qP qT qH) 29)).trans (Le.alloc _ (.cells (cellsP vs (ca, cn, cc) (la, ln, lc)) 56))
  have m1 := fun w' (l : Le w w') => refStateMay c.o (stV vs) P.s w' (HasS.le ⟨vs, rfl, i0⟩ l) hf
  obtain ⟨a, n, hv, rcap, _, oR⟩ := hR.open
  simp only [slV, Value.slice.injEq] at hv
  obtain ⟨rfl, hrn, rfl⟩ := hv
  obtain ⟨a, n, hv, ccap, _, oC⟩ := i1
  simp only [slV, Value.slice.injEq] at hv
  obtain ⟨rfl, hcn, rfl⟩ := hv
  obtain ⟨a, n, hv, lcap, _, oL⟩ := i2
  simp only [slV, Value.slice.injEq] at hv
  obtain ⟨rfl, hln, rfl⟩ := hv
  rw [← hrn] at hn hm oR rcap
  rw [← hcn] at oC ccap hfc
  rw [← hln] at oL lcap hfl
  have HCN : Hid (cn = P.cs.length) := hcn
  have HLN : Hid (ln = P.ls.length) := hln
  have HRN : Hid ((rn : Int) = c.l) := hn
  clear hrn hcn hln hR i0 hn
  go_enter Tryz.func35, Tryz.ntmps35
  go_upto_region 1 with fail
  generalize hW : (w.alloc (.cells (cells9 c (ra, rn, rc) qP qT qH) 29)).alloc (.cells (cellsP vs (ca, cn, cc) (la, ln, lc)) 56) = W at hl hb1 hb2 ⊢
  clear hW
  obtain ⟨⟨z0, z1, z2, z3, z4⟩, z5, z6, z7, z8⟩ := hb1.mach
  obtain ⟨y0, y1, y2, y3, y4, y5⟩ := hb2.rep
  go_wp2_with fail
  refine (m1 _ hl).mono ?_
  rintro e w1 ⟨rfl, l1⟩
  clear z0 z1 z2 z3 z4 z5 z6 z7 z8 y0 y1 y2 y3 y4 y5
  replace hb1 := hb1.le l1
  replace hb2 := hb2.le l1
  replace hl := hl.trans l1
  clear l1 m1
  obtain ⟨⟨z0, z1, z2, z3, z4⟩, z5, z6, z7, z8⟩ := hb1.mach
  obtain ⟨y0, y1, y2, y3, y4, y5⟩ := hb2.rep
  simp only [slV] at y4 y5 z5
  cases h1 : objMay c.o P.s
  · go_wp2_with fail
    go_ret
    exact ⟨ret_bool (by unfold repD; rw [h1]; rfl), hl⟩
  by_cases h2 : (cn : Int) = c.l
  case neg =>
    go_wp2_with fail
    go_ret
    exact ⟨ret_bool (by unfold repD; rw [← HCN.out, decide_eq_false h2]; simp), hl⟩
  by_cases h3 : (ln : Int) = c.l
  case neg =>
    go_wp2_with fail
    go_ret
    exact ⟨ret_bool (by unfold repD; rw [← HLN.out, decide_eq_false h3]; simp), hl⟩
  have HE : Hid (objMay c.o P.s = true ∧ (cn : Int) = c.l ∧ (ln : Int) = c.l) := ⟨h1, h2, h3⟩
  go_wp2_with fail
  clear h1 h2 h3
  clear z0 z1 z2 z3 z4 z5 z6 z7 z8 y0 y1 y2 y3 y4 y5
  go_loopw [5] (fun i wr => ∃ k : Nat, (k : Int) ≤ cn ∧ i = .int .i64 k ∧ Hid (∀ i, i < k → (inB (Rs.getD i Rg.zero).h (P.cs.getD i 0) (Rs.getD i Rg.zero).t && inB 0 (P.ls.getD i 0) c.t) = true) ∧ Le w1 wr) (fun i _ => cn - (intOf i).toNat)
  case atStart => exact ⟨0, by omega, rfl, fun i hi => by omega, Le.refl _⟩
  case round =>
    obtain ⟨k, hk, rfl, HA, hle⟩ := hrel
    obtain ⟨⟨z0, z1, z2, z3, z4⟩, z5, z6, z7, z8⟩ := (hb1.le hle).mach
    obtain ⟨y0, y1, y2, y3, y4, y5⟩ := (hb2.le hle).rep
    simp only [slV] at y4 y5 z5
    by_cases hlt : (k : Int) < c.l
    · have hlc : (k : Int) < (cn : Int) := by have := HE.out.2.1; omega
      have hll : (k : Int) < (ln : Int) := by have := HE.out.2.2; omega
      have hlr : (k : Int) < (rn : Int) := by have := HRN.out; omega
      obtain ⟨b, off, rfl, hcell⟩ := oC (by omega)
      obtain ⟨b', off', rfl, hcell'⟩ := oL (by omega)
      obtain ⟨b'', off'', rfl, hcell''⟩ := oR (by omega)
      obtain ⟨x, hxk⟩ : ∃ x, x = P.cs.getD k 0 := ⟨_, rfl⟩
      obtain ⟨y, hyk⟩ : ∃ x, x = P.ls.getD k 0 := ⟨_, rfl⟩
      obtain ⟨R, hRk⟩ : ∃ x, x = Rs.getD k Rg.zero := ⟨_, rfl⟩
      have x0 := cell_le (cell_le (hcell k (by omega)) hl) hle
      have x1 := cell_le (cell_le (hcell' k (by omega)) hl) hle
      obtain ⟨q, hR0, _⟩ := hcell'' k (by omega)
      obtain ⟨x2, x3, _, _⟩ := (hR0.le hl).le hle
      rw [← hxk] at x0
      rw [← hyk] at x1
      rw [← hRk] at x2 x3
      have HX : Hid (x = P.cs.getD k 0) := hxk
      have HY : Hid (y = P.ls.getD k 0) := hyk
      have HR : Hid (R = Rs.getD k Rg.zero) := hRk
      clear hxk hyk hRk hR0 hcell hcell' hcell'' oC oL oR
      go_upto_region 6 with fail
      replace z0 := cell_later' z0
      replace z1 := cell_later' z1
      replace z2 := cell_later' z2
      replace z3 := cell_later' z3
      replace z4 := cell_later' z4
      replace z5 := cell_later' z5
      replace z6 := cell_later' z6
      replace z7 := cell_later' z7
      replace z8 := cell_later' z8
      replace y4 := cell_later' y4
      replace y5 := cell_later' y5
      replace x0 := cell_later' x0
      replace x1 := cell_later' x1
      replace x2 := cell_later' x2
      replace x3 := cell_later' x3
      clear y0 y1 y2 y3
      have u1 := fun w' => rmUpTo x R.h R.t w'
      have u2 := fun w' => rmUpTo y 0 c.t w'
      cases h1 : inB R.h x R.t
      · simp only [h1] at u1
        have HB : Hid (inB R.h x R.t = false) := h1
        clear h1
        refine wp_region_later (by kernel_rfl) (by kernel_rfl) ?_
        repeat (go_big_quiet_step (first | (go_at_call 37; first | (with_reducible exact Calls.later_same (u1 _)) | (with_reducible exact Calls.later_same (u2 _)))))
        refine wpQuiet_nil ?_
        rintro _ ⟨X, rfl⟩
        go_wp2_with fail
        go_ret
        exact ⟨ret_bool (by rw [repD_no (k := k) (by have := HCN.out; omega) (by rw [← HR.out, ← HX.out, HB.out]; rfl)]), (hl.trans hle).trans X.le⟩
      simp only [h1] at u1
      have HB : Hid (inB R.h x R.t = true) := h1
      clear h1
      cases h2 : inB 0 y c.t
      · simp only [h2] at u2
        have HB2 : Hid (inB 0 y c.t = false) := h2
        clear h2
        refine wp_region_later (by kernel_rfl) (by kernel_rfl) ?_
        repeat (go_big_quiet_step (first | (go_at_call 37; first | (with_reducible exact Calls.later_same (u1 _)) | (with_reducible exact Calls.later_same (u2 _)))))
        refine wpQuiet_nil ?_
        rintro _ ⟨X, rfl⟩
        go_wp2_with fail
        go_ret
        exact ⟨ret_bool (by rw [repD_no (k := k) (by have := HCN.out; omega) (by rw [← HR.out, ← HX.out, ← HY.out, HB.out, HB2.out]; rfl)]), (hl.trans hle).trans X.le⟩
      · simp only [h2] at u2
        have HB2 : Hid (inB 0 y c.t = true) := h2
        clear h2
        refine wp_region_later (by kernel_rfl) (by kernel_rfl) ?_
        repeat (go_big_quiet_step (first | (go_at_call 37; first | (with_reducible exact Calls.later_same (u1 _)) | (with_reducible exact Calls.later_same (u2 _)))))
        refine wpQuiet_nil ?_
        rintro _ ⟨X, rfl⟩
        go_wp2_with fail
        go_roundw
        case rel => exact ⟨k + 1, by omega, by go_num, (fun j hj => by rcases Nat.lt_or_eq_of_le (Nat.le_of_lt_succ hj) with h | h; exact HA.out j h; rw [h, ← HR.out, ← HX.out, ← HY.out, HB.out, HB2.out]; rfl), hle.trans X.le⟩
        case measure => simp [intOf]; omega
    · have hkl : (k : Int) = c.l := by have := HE.out.2.1; omega
      have hg : repD c Rs P = true := repD_take HA.out hkl HE.out.1 (by rw [← HCN.out]; exact HE.out.2.1) (by rw [← HLN.out]; exact HE.out.2.2)
      have HG : Hid (repD c Rs P = true) := hg
      clear hkl hg
      go_wp2_with fail
      go_ret
      exact ⟨ret_bool HG.out.symm, hl.trans hle⟩

end Go.Proofs.YtibleipfablniaaGreat

/-
  THE WALK over the document's threadMay: may it be one of a machine's threads? Condition: that the Config may be, and that the thread's rows can be copied.
-/
namespace Go.Proofs.YtibleipfablniaaGreat
open Go.RowKit

/-- As the document asks it. -/
def thD (c : Cfg) (T : Th) : Bool := inB 0 T.st 19 && (opMay T.c T.r T.a && (inB 0 T.lg (c.l - 1) && (inB 0 T.sn 1048576 && (decide ((T.b.length : Int) ≤ c.t) && (inB 0 T.pl T.b.length && (decide ((T.tl.length : Int) ≤ c.l) && (T.b.all (fun x => inB 0 x (c.t - 1)) && T.tl.all (fun x => inB 0 x 1048576))))))))
theorem thB_doc (c : Cfg) (T : Th) : thB c T = thD c T := by
  unfold thB thD
  cases T.b.all (fun x => inB 0 x (c.t - 1)) <;> simp

set_option maxRecDepth 4000 in
set_option maxHeartbeats 8000000 in
theorem rmThreadMay (c : Cfg) (v : Value) (T : Th) (w : World) (hc : c.ok = true) (hx : HasT w v T) (hf : T.b.length * 8 ≤ 140737488351232) (hf2 : T.tl.length * 8 ≤ 140737488351232) :
    Calls Tryz.prog 36 #[cfgV c.o c.r c.l c.t c.s, v] w fun e w' => e = .returned (.bool (thB c T)) ∧ Le w w' := by
  rw [thB_doc]
  obtain ⟨⟨ba, bn, bc⟩, ⟨ta, tn, tc⟩, rfl, i1, i2⟩ := hx
  obtain ⟨_, _, ⟨l0, l1'⟩, ⟨t0, t1⟩, _, _⟩ := Cfg.ok_cases hc
  have hb1 := (Box.new w (#[.int .i64 c.o, .int .i64 c.r, .int .i64 c.l, .int .i64 c.t, .int .i64 c.s]) 23).le (Le.alloc _ (.cells (cellsT T (ba, bn, bc) (ta, tn, tc)) 58))
  have hb2 := Box.new (w.alloc (.cells (#[.int .i64 c.o, .int .i64 c.r, .int .i64 c.l, .int .i64 c.t, .int .i64 c.s]) 23)) (cellsT T (ba, bn, bc) (ta, tn, tc)) 58
  rw [World.size_alloc] at hb2
  have hl := (Le.alloc w (.cells (#[.int .i64 c.o, .int .i64 c.r, .int .i64 c.l, .int .i64 c.t, .int .i64 c.s]) 23)).trans (Le.alloc _ (.cells (cellsT T (ba, bn, bc) (ta, tn, tc)) 58))
  obtain ⟨a, n, hv, bcap, _, oB⟩ := i1
  simp only [slV, Value.slice.injEq] at hv
  obtain ⟨rfl, hbn, rfl⟩ := hv
  obtain ⟨a, n, hv, tcap, _, oT⟩ := i2
  simp only [slV, Value.slice.injEq] at hv
  obtain ⟨rfl, htn, rfl⟩ := hv
  simp only [thD]
  rw [← hbn] at oB bcap hf ⊢
  rw [← htn] at oT tcap hf2 ⊢
  have HBN : Hid (bn = T.b.length) := hbn
  have HTN : Hid (tn = T.tl.length) := htn
  clear hbn htn
  go_enter Tryz.func36, Tryz.ntmps36
  go_upto_region 1 with fail
  generalize hW : (w.alloc (.cells (#[.int .i64 c.o, .int .i64 c.r, .int .i64 c.l, .int .i64 c.t, .int .i64 c.s]) 23)).alloc (.cells (cellsT T (ba, bn, bc) (ta, tn, tc)) 58) = W at hl hb1 hb2 ⊢
  clear hW
  obtain ⟨z0, z1, z2, z3, z4⟩ := hb1.slot
  obtain ⟨b0, b1, b2, b3, b4, b5, b6, b7, b8, b9, b10, b11⟩ := hb2.th
  simp only [slV] at b6 b11
  go_wp2_with fail
  refine (rmUpTo _ _ _ _).mono ?_
  rintro e _ ⟨rfl, rfl⟩
  cases h1 : inB 0 T.st 19
  · go_wp2_with fail
    go_ret
    exact ⟨ret_bool (by rw [h1]; simp), hl⟩
  have H1 : Hid (inB 0 T.st 19 = true) := h1
  clear h1
  go_wp2_with fail
  refine (refOperMay _ _ _ _).mono ?_
  rintro e w1 ⟨rfl, n1⟩
  replace hb1 := hb1.le n1
  replace hb2 := hb2.le n1
  replace hl := hl.trans n1
  clear n1 z0 z1 z2 z3 z4 b0 b1 b2 b3 b4 b5 b6 b7 b8 b9 b10 b11
  obtain ⟨z0, z1, z2, z3, z4⟩ := hb1.slot
  obtain ⟨b0, b1, b2, b3, b4, b5, b6, b7, b8, b9, b10, b11⟩ := hb2.th
  simp only [slV] at b6 b11
  cases h2 : opMay T.c T.r T.a
  · go_wp2_with fail
    go_ret
    exact ⟨ret_bool (by rw [h2]; simp), hl⟩
  have H2 : Hid (opMay T.c T.r T.a = true) := h2
  clear h2
  go_wp2_with fail
  refine (rmUpTo _ _ _ _).mono ?_
  rintro e _ ⟨rfl, rfl⟩
  cases h3 : inB 0 T.lg (c.l - 1)
  · go_wp2_with fail
    go_ret
    exact ⟨ret_bool (by rw [h3]; simp), hl⟩
  have H3 : Hid (inB 0 T.lg (c.l - 1) = true) := h3
  clear h3
  go_wp2_with fail
  refine (rmUpTo _ _ _ _).mono ?_
  rintro e _ ⟨rfl, rfl⟩
  cases h4 : inB 0 T.sn 1048576
  · go_wp2_with fail
    go_ret
    exact ⟨ret_bool (by rw [h4]; simp), hl⟩
  have H4 : Hid (inB 0 T.sn 1048576 = true) := h4
  clear h4
  by_cases h5 : (bn : Int) ≤ c.t
  case neg =>
    go_wp2_with fail
    go_ret
    exact ⟨ret_bool (by rw [decide_eq_false (p := (bn : Int) ≤ c.t) (by omega)]; simp), hl⟩
  have H5 : Hid ((bn : Int) ≤ c.t) := h5
  go_wp2_with fail
  refine (rmUpTo _ _ _ _).mono ?_
  rintro e _ ⟨rfl, rfl⟩
  cases h6 : inB 0 T.pl bn
  · go_wp2_with fail
    go_ret
    exact ⟨ret_bool (by rw [h6]; simp), hl⟩
  have H6 : Hid (inB 0 T.pl bn = true) := h6
  clear h6
  by_cases h7 : (tn : Int) ≤ c.l
  case neg =>
    go_wp2_with fail
    go_ret
    exact ⟨ret_bool (by rw [decide_eq_false (p := (tn : Int) ≤ c.l) (by omega)]; simp), hl⟩
  have H7 : Hid ((tn : Int) ≤ c.l) := h7
  go_wp2_with fail
  clear h5 h7
  clear z0 z1 z2 z3 z4 b0 b1 b2 b3 b4 b5 b6 b7 b8 b9 b10 b11
  go_loopw [5] (fun i wr => ∃ k : Nat, k ≤ bn ∧ i = .int .i64 k ∧ Hid ((T.b.take k).all (fun x => inB 0 x (c.t - 1)) = true) ∧ Le w1 wr) (fun i _ => bn - (intOf i).toNat)
  case atStart => exact ⟨0, by omega, rfl, rfl, Le.refl _⟩
  case round =>
    obtain ⟨k, hk, rfl, HA, hle⟩ := hrel
    obtain ⟨z0, z1, z2, z3, z4⟩ := (hb1.le hle).slot
    obtain ⟨b0, b1, b2, b3, b4, b5, b6, b7, b8, b9, b10, b11⟩ := (hb2.le hle).th
    simp only [slV] at b6 b11
    by_cases hlt : k < bn
    · have hlt' : (k : Int) < (bn : Int) := by omega
      obtain ⟨b, off, rfl, hcell⟩ := oB (by omega)
      obtain ⟨x, hxk⟩ : ∃ x, x = T.b.getD k 0 := ⟨_, rfl⟩
      have x0 := cell_le (cell_le (hcell k hlt) hl) hle
      rw [← hxk] at x0
      have HX : Hid (x = T.b.getD k 0) := hxk
      clear hxk hcell oB oT
      go_upto_region 6 with fail
      replace z0 := cell_later' z0
      replace z1 := cell_later' z1
      replace z2 := cell_later' z2
      replace z3 := cell_later' z3
      replace z4 := cell_later' z4
      replace b6 := cell_later' b6
      replace x0 := cell_later' x0
      have u1 := fun w' => rmUpTo x 0 (c.t - 1) w'
      cases h1 : inB 0 x (c.t - 1)
      · simp only [h1] at u1
        have HB : Hid (inB 0 x (c.t - 1) = false) := h1
        clear h1
        refine wp_region_later (by kernel_rfl) (by kernel_rfl) ?_
        repeat (go_big_quiet_step (first | (go_at_call 37; with_reducible exact Calls.later_same (u1 _))))
        refine wpQuiet_nil ?_
        rintro _ ⟨X, rfl⟩
        go_wp2_with fail
        go_ret
        exact ⟨ret_bool (by rw [Go.Proofs.YtibleipfablniaaGreat.all_bad (xs := T.b) (k := k) (p := fun x => inB 0 x (c.t - 1)) (by have := HBN.out; omega) (by rw [← HX.out]; exact HB.out)]; simp), (hl.trans hle).trans X.le⟩
      · simp only [h1] at u1
        have HB : Hid (inB 0 x (c.t - 1) = true) := h1
        clear h1
        refine wp_region_later (by kernel_rfl) (by kernel_rfl) ?_
        repeat (go_big_quiet_step (first | (go_at_call 37; with_reducible exact Calls.later_same (u1 _))))
        refine wpQuiet_nil ?_
        rintro _ ⟨X, rfl⟩
        go_wp2_with fail
        go_roundw
        case rel => exact ⟨k + 1, by omega, by go_num, (by rw [Go.Proofs.YtibleipfablniaaGreat.all_take (by have := HBN.out; omega), HA.out, ← HX.out, HB.out]; rfl), hle.trans X.le⟩
        case measure => simp [intOf]; omega
    · obtain rfl : k = bn := by omega
      have hall : T.b.all (fun x => inB 0 x (c.t - 1)) = true := by
        have := HA.out
        rwa [HBN.out, List.take_length] at this
      have HALL : Hid (T.b.all (fun x => inB 0 x (c.t - 1)) = true) := hall
      clear hall
      go_wp2_with fail
      clear z0 z1 z2 z3 z4 b0 b1 b2 b3 b4 b5 b6 b7 b8 b9 b10 b11
      go_loopw [6] (fun i wr' => ∃ k : Nat, k ≤ tn ∧ i = .int .i64 k ∧ Hid ((T.tl.take k).all (fun x => inB 0 x 1048576) = true) ∧ Le wr wr') (fun i _ => tn - (intOf i).toNat)
      case atStart => exact ⟨0, by omega, rfl, rfl, Le.refl _⟩
      case round =>
        clear HA hk hlt
        obtain ⟨k, hk, rfl, HA, hle2⟩ := hrel
        have hle0 := hle.trans hle2
        clear hle
        have hle := hle0
        clear hle0
        obtain ⟨z0, z1, z2, z3, z4⟩ := (hb1.le hle).slot
        obtain ⟨b0, b1, b2, b3, b4, b5, b6, b7, b8, b9, b10, b11⟩ := (hb2.le hle).th
        simp only [slV] at b6 b11
        by_cases hlt : k < tn
        · have hlt' : (k : Int) < (tn : Int) := by omega
          obtain ⟨b, off, rfl, hcell⟩ := oT (by omega)
          obtain ⟨x, hxk⟩ : ∃ x, x = T.tl.getD k 0 := ⟨_, rfl⟩
          have x0 := cell_le (cell_le (hcell k hlt) hl) hle
          rw [← hxk] at x0
          have HX : Hid (x = T.tl.getD k 0) := hxk
          clear hxk hcell oB oT
          go_wp2_with fail
          refine (rmUpTo _ _ _ _).mono ?_
          rintro e _ ⟨rfl, rfl⟩
          cases h1 : inB 0 x 1048576
          · have HB : Hid (inB 0 x 1048576 = false) := h1
            clear h1
            go_wp2_with fail
            go_ret
            exact ⟨ret_bool (by rw [Go.Proofs.YtibleipfablniaaGreat.all_bad (xs := T.tl) (k := k) (p := fun x => inB 0 x 1048576) (by have := HTN.out; omega) (by rw [← HX.out]; exact HB.out)]; simp), hl.trans hle⟩
          · have HB : Hid (inB 0 x 1048576 = true) := h1
            clear h1
            go_wp2_with fail
            go_roundw
            case rel => exact ⟨k + 1, by omega, by go_num, (by rw [Go.Proofs.YtibleipfablniaaGreat.all_take (by have := HTN.out; omega), HA.out, ← HX.out, HB.out]; rfl), hle2⟩
            case measure => simp [intOf]; omega
        · obtain rfl : k = tn := by omega
          have hall : T.tl.all (fun x => inB 0 x 1048576) = true := by
            have := HA.out
            rwa [HTN.out, List.take_length] at this
          have HALL2 : Hid (T.tl.all (fun x => inB 0 x 1048576) = true) := hall
          clear hall
          go_wp2_with fail
          go_ret
          exact ⟨ret_bool (by rw [H1.out, H2.out, H3.out, H4.out, decide_eq_true H5.out, H6.out, decide_eq_true H7.out, HALL.out, HALL2.out]; rfl), hl.trans hle⟩

end Go.Proofs.YtibleipfablniaaGreat

/-
  THE WALK over the document's May: may a machine be? Condition: that its rows can be copied.
-/
namespace Go.Proofs.YtibleipfablniaaGreat
open Go.RowKit

theorem allG_take {α : Type} {xs : List α} {p : α → Bool} {k : Nat} (d : α) (hk : k < xs.length) (h : (xs.take k).all p = true) (hp : p (xs.getD k d) = true) : (xs.take (k + 1)).all p = true := by
  rw [List.take_succ_eq_append_getElem hk, List.all_append, h]
  simp only [List.getD, List.getElem?_eq_getElem hk, Option.getD_some] at hp
  simp [hp]
theorem allG_no {α : Type} {xs : List α} {p : α → Bool} {k : Nat} (d : α) (hk : k < xs.length) (hp : p (xs.getD k d) = false) : xs.all p = false := by
  rw [← Bool.not_eq_true, List.all_eq_true]
  intro h
  have := h _ (getD_mem (d := d) hk)
  rw [hp] at this
  cases this

/-- As the document asks it. -/
def mayD (M : Mc) : Bool := M.c.ok && (decide ((M.rs.length : Int) = M.c.l) && (decide ((M.ps.length : Int) = M.c.r) && (decide ((M.ts.length : Int) = M.c.t) && (decide ((M.es.length : Int) ≤ 64) && (M.rs.all (ringB M.c) && (M.ps.all (repB M.c M.rs) && (M.ts.all (thB M.c) && M.es.all (evB M.c))))))))
theorem mayM_doc (M : Mc) : mayM M = mayD M := by
  unfold mayM mayD
  cases M.rs.all (ringB M.c) <;> cases M.ps.all (repB M.c M.rs) <;> cases M.ts.all (thB M.c) <;> simp

set_option maxRecDepth 4000 in
set_option maxHeartbeats 16000000 in
theorem rmMay (v : Value) (M : Mc) (w : World) (hx : HasM w v M) (hf : FitM M) : Calls Tryz.prog 11 #[v] w fun e w' => e = .returned (.bool (mayM M)) ∧ Le w w' := by
  rw [mayM_doc]
  have hx0 := hx
  obtain ⟨c, Rs, Ps, Ts, Es⟩ := M
  obtain ⟨⟨ra, rn, rc⟩, ⟨pa, pn, pc⟩, ⟨ta, tn, tc⟩, ⟨ea, en, ec⟩, rfl, hR, hP, hT, hH⟩ := hx
  obtain ⟨f1, f2, f3, f4, fr, fp, ft⟩ := hf
  simp only at hR hP hT hH f1 f2 f3 f4 fr fp ft
  obtain ⟨a, n, hv, _, _, oR⟩ := hR.open
  simp only [slV, Value.slice.injEq] at hv
  obtain ⟨rfl, hrn, rfl⟩ := hv
  obtain ⟨a, n, hv, _, _, oP⟩ := hP.open
  simp only [slV, Value.slice.injEq] at hv
  obtain ⟨rfl, hpn, rfl⟩ := hv
  obtain ⟨a, n, hv, _, _, oT⟩ := hT.open
  simp only [slV, Value.slice.injEq] at hv
  obtain ⟨rfl, htn, rfl⟩ := hv
  obtain ⟨a, n, hv, _, _, oE⟩ := hH.openEv
  simp only [slV, Value.slice.injEq] at hv
  obtain ⟨rfl, hen, rfl⟩ := hv
  clear hR hP hT hH
  simp only [mayD]
  rw [← hrn] at oR f1 ⊢
  rw [← hpn] at oP f2 ⊢
  rw [← htn] at oT f3 ⊢
  rw [← hen] at oE f4 ⊢
  have HRN : Hid (rn = Rs.length) := hrn
  have HPN : Hid (pn = Ps.length) := hpn
  have HTN : Hid (tn = Ts.length) := htn
  have HEN : Hid (en = Es.length) := hen
  clear hrn hpn htn hen
  have hb := Box.new w (cells9 c (ra, rn, rc) (pa, pn, pc) (ta, tn, tc) (ea, en, ec)) 29
  have hl := Le.alloc w (.cells (cells9 c (ra, rn, rc) (pa, pn, pc) (ta, tn, tc) (ea, en, ec)) 29)
  have m1 := fun w' => rmConfigMay c.o c.r c.l c.t c.s w'
  obtain ⟨⟨z0, z1, z2, z3, z4⟩, z5, z6, z7, z8⟩ := hb.mach
  go_enter Tryz.func11, Tryz.ntmps11
  go_upto_region 2 with fail
  have hb2 := Box.new (w.alloc (.cells (cells9 c (ra, rn, rc) (pa, pn, pc) (ta, tn, tc) (ea, en, ec)) 29)) #[.int .i64 c.o, .int .i64 c.r, .int .i64 c.l, .int .i64 c.t, .int .i64 c.s] 23
  rw [World.size_alloc] at hb2
  have hA := Le.alloc (w.alloc (.cells (cells9 c (ra, rn, rc) (pa, pn, pc) (ta, tn, tc) (ea, en, ec)) 29)) (.cells #[.int .i64 c.o, .int .i64 c.r, .int .i64 c.l, .int .i64 c.t, .int .i64 c.s] 23)
  replace hl := hl.trans hA
  replace hb := hb.le hA
  clear hA z0 z1 z2 z3 z4 z5 z6 z7 z8
  generalize hW : (w.alloc (.cells (cells9 c (ra, rn, rc) (pa, pn, pc) (ta, tn, tc) (ea, en, ec)) 29)).alloc (.cells #[.int .i64 c.o, .int .i64 c.r, .int .i64 c.l, .int .i64 c.t, .int .i64 c.s] 23) = W at hl hb hb2 ⊢
  clear hW
  obtain ⟨⟨z0, z1, z2, z3, z4⟩, z5, z6, z7, z8⟩ := hb.mach
  obtain ⟨y0, y1, y2, y3, y4⟩ := hb2.slot
  simp only [slV] at z5 z6 z7 z8
  go_wp2_with fail
  refine (m1 _).mono ?_
  rintro e w1 ⟨rfl, n1⟩
  clear z0 z1 z2 z3 z4 z5 z6 z7 z8 y0 y1 y2 y3 y4 m1
  replace hb := hb.le n1
  replace hb2 := hb2.le n1
  replace hl := hl.trans n1
  clear n1
  obtain ⟨⟨z0, z1, z2, z3, z4⟩, z5, z6, z7, z8⟩ := hb.mach
  obtain ⟨y0, y1, y2, y3, y4⟩ := hb2.slot
  simp only [slV] at z5 z6 z7 z8
  cases h1 : cfgB c.o c.r c.l c.t c.s
  · go_wp2_with fail
    go_ret
    exact ⟨ret_bool (by unfold Cfg.ok; rw [h1]; simp), hl⟩
  have hc : c.ok = true := h1
  have H1 : Hid (c.ok = true) := h1
  clear h1
  by_cases h2 : (rn : Int) = c.l
  case neg =>
    go_wp2_with fail
    go_ret
    exact ⟨ret_bool (by rw [decide_eq_false h2]; simp), hl⟩
  by_cases h3 : (pn : Int) = c.r
  case neg =>
    go_wp2_with fail
    go_ret
    exact ⟨ret_bool (by rw [decide_eq_false (p := (pn : Int) = c.r) h3]; simp), hl⟩
  by_cases h4 : (tn : Int) = c.t
  case neg =>
    go_wp2_with fail
    go_ret
    exact ⟨ret_bool (by rw [decide_eq_false (p := (tn : Int) = c.t) h4]; simp), hl⟩
  by_cases h5 : (en : Int) ≤ 64
  case neg =>
    go_wp2_with fail
    go_ret
    exact ⟨ret_bool (by rw [decide_eq_false (p := (en : Int) ≤ 64) (by omega)]; simp), hl⟩
  obtain ⟨_, _, _, ⟨t0, t1⟩, _, _⟩ := Cfg.ok_cases hc
  have H2 : Hid ((rn : Int) = c.l) := h2
  have H3 : Hid ((pn : Int) = c.r) := h3
  have H4 : Hid ((tn : Int) = c.t) := h4
  have H5 : Hid ((en : Int) ≤ 64) := h5
  go_wp2_with fail
  clear h2 h3 h4 h5 z0 z1 z2 z3 z4 z5 z6 z7 z8 y0 y1 y2 y3 y4
  go_loopw [4] (fun i wr => ∃ k : Nat, k ≤ rn ∧ i = .int .i64 k ∧ Hid ((Rs.take k).all (ringB c) = true) ∧ Le w1 wr) (fun i _ => rn - (intOf i).toNat)
  case atStart => exact ⟨0, by omega, rfl, rfl, Le.refl _⟩
  case round =>
    obtain ⟨k, hk, rfl, HA, hle⟩ := hrel
    obtain ⟨⟨z0, z1, z2, z3, z4⟩, z5, z6, z7, z8⟩ := (hb.le hle).mach
    obtain ⟨y0, y1, y2, y3, y4⟩ := (hb2.le hle).slot
    simp only [slV] at z5 z6 z7 z8
    by_cases hlt : k < rn
    · have hlt' : (k : Int) < c.l := by have := H2.out; omega
      have hltn : (k : Int) < (rn : Int) := by omega
      obtain ⟨b, off, rfl, hcell⟩ := oR (by omega)
      obtain ⟨q, hat, hq⟩ := hcell k hlt
      have hfr : FitR (Rs.getD k Rg.zero) := fr _ (getD_mem (by have := HRN.out; omega))
      obtain ⟨R, hRk⟩ : ∃ x, x = Rs.getD k Rg.zero := ⟨_, rfl⟩
      rw [← hRk] at hat hq hfr
      have HR : Hid (R = Rs.getD k Rg.zero) := hRk
      clear hRk hcell oR oP oT oE
      obtain ⟨x0, x1, x2, x3⟩ := (hat.le hl).le hle
      replace hq := (hq.le hl).le hle
      have u1 := fun X : Later wr => rmRingMay c (ringV R.h R.t R.f q) R X.w (HasR.le ⟨q, rfl, hq⟩ X.le) hfr
      clear hat hfr hq
      go_upto_region 7 with fail
      replace y0 := cell_later' y0
      replace y1 := cell_later' y1
      replace y2 := cell_later' y2
      replace y3 := cell_later' y3
      replace y4 := cell_later' y4
      replace z5 := cell_later' z5
      replace x0 := cell_later' x0
      replace x1 := cell_later' x1
      replace x2 := cell_later' x2
      replace x3 := cell_later' x3
      cases h1 : ringB c R
      · simp only [h1] at u1
        have HB : Hid (ringB c R = false) := h1
        clear h1
        refine wp_region_later (by kernel_rfl) (by kernel_rfl) ?_
        repeat (go_big_quiet_step (first | (go_at_call 34; with_reducible exact Calls.later (u1 _))))
        refine wpQuiet_nil ?_
        rintro _ ⟨X, rfl⟩
        go_wp2_with fail
        go_ret
        exact ⟨ret_bool (by rw [allG_no (xs := Rs) (k := k) (p := ringB c) Rg.zero (by have := HRN.out; omega) (by rw [← HR.out]; exact HB.out)]; simp), (hl.trans hle).trans X.le⟩
      · simp only [h1] at u1
        have HB : Hid (ringB c R = true) := h1
        clear h1
        refine wp_region_later (by kernel_rfl) (by kernel_rfl) ?_
        repeat (go_big_quiet_step (first | (go_at_call 34; with_reducible exact Calls.later (u1 _))))
        refine wpQuiet_nil ?_
        rintro _ ⟨X, rfl⟩
        go_wp2_with fail
        go_roundw
        case rel => exact ⟨k + 1, by omega, by go_num, allG_take Rg.zero (by have := HRN.out; omega) HA.out (by rw [← HR.out]; exact HB.out), hle.trans X.le⟩
        case measure => simp [intOf]; omega
    · obtain rfl : rn = k := by omega
      have hge : c.l ≤ (rn : Int) := by have := H2.out; omega
      have hall : Rs.all (ringB c) = true := by
        have := HA.out
        rwa [HRN.out, List.take_length] at this
      have HALL1 : Hid (Rs.all (ringB c) = true) := hall
      clear hall HA
      go_wp2_with fail
      clear hge z0 z1 z2 z3 z4 z5 z6 z7 z8 y0 y1 y2 y3 y4
      have hle1 := hl.trans hle
      replace hb := hb.le hle
      replace hb2 := hb2.le hle
      clear hle hlt hk hl
      have hn0 : (Rs.length : Int) = c.l := by have := HRN.out; have := H2.out; omega
      have HN0 : Hid ((Rs.length : Int) = c.l) := hn0
      clear hn0
      go_loopw [5] (fun i wr' => ∃ k : Nat, k ≤ pn ∧ i = .int .i64 k ∧ Hid ((Ps.take k).all (repB c Rs) = true) ∧ Le wr wr') (fun i _ => pn - (intOf i).toNat)
      case atStart => exact ⟨0, by omega, rfl, rfl, Le.refl _⟩
      case round =>
        obtain ⟨k, hk, rfl, HA, hle⟩ := hrel
        obtain ⟨⟨z0, z1, z2, z3, z4⟩, z5, z6, z7, z8⟩ := (hb.le hle).mach
        obtain ⟨y0, y1, y2, y3, y4⟩ := (hb2.le hle).slot
        simp only [slV] at z5 z6 z7 z8
        by_cases hlt : k < pn
        · have hlt' : (k : Int) < c.r := by have := H3.out; omega
          have hltn : (k : Int) < (pn : Int) := by omega
          obtain ⟨b, off, rfl, hcell⟩ := oP (by omega)
          obtain ⟨vs, qa, qb, hat, hs, ha, hb'⟩ := hcell k hlt
          have hfr := fp _ (getD_mem (xs := Ps) (d := Rp.zero) (i := k) (by have := HPN.out; omega))
          obtain ⟨P, hPk⟩ : ∃ x, x = Ps.getD k Rp.zero := ⟨_, rfl⟩
          rw [← hPk] at hs ha hb' hfr
          have HP : Hid (P = Ps.getD k Rp.zero) := hPk
          clear hPk hcell oR oP oT oE
          obtain ⟨x0, x1, x2, x3, x4, x5⟩ := (hat.le hle1).le hle
          have hPP : HasP wr (repV vs qa qb) P := ⟨vs, qa, qb, rfl, fun i hi => ((hs i hi).le hle1).le hle, (ha.le hle1).le hle, (hb'.le hle1).le hle⟩
          have u1 := fun X : Later wr => rmReplicaMay ⟨c, Rs, Ps, Ts, Es⟩ _ (repV vs qa qb) P X.w (((hx0.le hle1).le hle).le X.le) HN0.out (hPP.le X.le) hfr.1 (by show Rs.length * 48 ≤ _; have := HRN.out; omega) hfr.2.1 hfr.2.2
          simp only at u1
          clear hat hfr hs ha hb' hPP
          go_upto_region 12 with fail
          replace z0 := cell_later' z0
          replace z1 := cell_later' z1
          replace z2 := cell_later' z2
          replace z3 := cell_later' z3
          replace z4 := cell_later' z4
          replace z5 := cell_later' z5
          replace z6 := cell_later' z6
          replace z7 := cell_later' z7
          replace z8 := cell_later' z8
          replace x0 := cell_later' x0
          replace x1 := cell_later' x1
          replace x2 := cell_later' x2
          replace x3 := cell_later' x3
          replace x4 := cell_later' x4
          replace x5 := cell_later' x5
          cases h1 : repB c Rs P
          · simp only [h1] at u1
            have HB : Hid (repB c Rs P = false) := h1
            clear h1
            refine wp_region_later (by kernel_rfl) (by kernel_rfl) ?_
            repeat (go_big_quiet_step (first | (go_at_call 35; with_reducible exact Calls.later (u1 _))))
            refine wpQuiet_nil ?_
            rintro _ ⟨X, rfl⟩
            go_wp2_with fail
            go_ret
            exact ⟨ret_bool (by rw [allG_no (xs := Ps) (k := k) (p := repB c Rs) Rp.zero (by have := HPN.out; omega) (by rw [← HP.out]; exact HB.out)]; simp), (hle1.trans hle).trans X.le⟩
          · simp only [h1] at u1
            have HB : Hid (repB c Rs P = true) := h1
            clear h1
            refine wp_region_later (by kernel_rfl) (by kernel_rfl) ?_
            repeat (go_big_quiet_step (first | (go_at_call 35; with_reducible exact Calls.later (u1 _))))
            refine wpQuiet_nil ?_
            rintro _ ⟨X, rfl⟩
            go_wp2_with fail
            go_roundw
            case rel => exact ⟨k + 1, by omega, by go_num, allG_take Rp.zero (by have := HPN.out; omega) HA.out (by rw [← HP.out]; exact HB.out), hle.trans X.le⟩
            case measure => simp [intOf]; omega
        · obtain rfl : pn = k := by omega
          have hge : c.r ≤ (pn : Int) := by have := H3.out; omega
          have hall : Ps.all (repB c Rs) = true := by
            have := HA.out
            rwa [HPN.out, List.take_length] at this
          have HALL2 : Hid (Ps.all (repB c Rs) = true) := hall
          clear hall HA
          go_wp2_with fail
          clear hge z0 z1 z2 z3 z4 z5 z6 z7 z8 y0 y1 y2 y3 y4
          have hle2 := hle1.trans hle
          replace hb := hb.le hle
          replace hb2 := hb2.le hle
          clear hle hlt hk hle1
          go_loopw [6] (fun i wr' => ∃ k : Nat, k ≤ tn ∧ i = .int .i64 k ∧ Hid ((Ts.take k).all (thB c) = true) ∧ Le wr wr') (fun i _ => tn - (intOf i).toNat)
          case atStart => exact ⟨0, by omega, rfl, rfl, Le.refl _⟩
          case round =>
            obtain ⟨k, hk, rfl, HA, hle⟩ := hrel
            obtain ⟨⟨z0, z1, z2, z3, z4⟩, z5, z6, z7, z8⟩ := (hb.le hle).mach
            obtain ⟨y0, y1, y2, y3, y4⟩ := (hb2.le hle).slot
            simp only [slV] at z5 z6 z7 z8
            by_cases hlt : k < tn
            · have hlt' : (k : Int) < c.t := by have := H4.out; omega
              have hltn : (k : Int) < (tn : Int) := by omega
              obtain ⟨b, off, rfl, hcell⟩ := oT (by omega)
              obtain ⟨qa, qb, hat, ha, hb'⟩ := hcell k hlt
              have hfr := ft _ (getD_mem (xs := Ts) (d := Th.zero) (i := k) (by have := HTN.out; omega))
              obtain ⟨T, hTk⟩ : ∃ x, x = Ts.getD k Th.zero := ⟨_, rfl⟩
              rw [← hTk] at hat ha hb' hfr
              have HT : Hid (T = Ts.getD k Th.zero) := hTk
              clear hTk hcell oR oP oT oE
              obtain ⟨x0, x1, x2, x3, x4, x5, x6, x7, x8, x9, x10, x11⟩ := (hat.le hle2).le hle
              have hTT : HasT wr (thV T qa qb) T := ⟨qa, qb, rfl, (ha.le hle2).le hle, (hb'.le hle2).le hle⟩
              have u1 := fun X : Later wr => rmThreadMay c (thV T qa qb) T X.w H1.out (hTT.le X.le) hfr.1 hfr.2
              clear hat hfr ha hb' hTT
              go_upto_region 17 with fail
              replace y0 := cell_later' y0
              replace y1 := cell_later' y1
              replace y2 := cell_later' y2
              replace y3 := cell_later' y3
              replace y4 := cell_later' y4
              replace z7 := cell_later' z7
              replace x0 := cell_later' x0
              replace x1 := cell_later' x1
              replace x2 := cell_later' x2
              replace x3 := cell_later' x3
              replace x4 := cell_later' x4
              replace x5 := cell_later' x5
              replace x6 := cell_later' x6
              replace x7 := cell_later' x7
              replace x8 := cell_later' x8
              replace x9 := cell_later' x9
              replace x10 := cell_later' x10
              replace x11 := cell_later' x11
              cases h1 : thB c T
              · simp only [h1] at u1
                have HB : Hid (thB c T = false) := h1
                clear h1
                refine wp_region_later (by kernel_rfl) (by kernel_rfl) ?_
                repeat (go_big_quiet_step (first | (go_at_call 36; with_reducible exact Calls.later (u1 _))))
                refine wpQuiet_nil ?_
                rintro _ ⟨X, rfl⟩
                go_wp2_with fail
                go_ret
                exact ⟨ret_bool (by rw [allG_no (xs := Ts) (k := k) (p := thB c) Th.zero (by have := HTN.out; omega) (by rw [← HT.out]; exact HB.out)]; simp), (hle2.trans hle).trans X.le⟩
              · simp only [h1] at u1
                have HB : Hid (thB c T = true) := h1
                clear h1
                refine wp_region_later (by kernel_rfl) (by kernel_rfl) ?_
                repeat (go_big_quiet_step (first | (go_at_call 36; with_reducible exact Calls.later (u1 _))))
                refine wpQuiet_nil ?_
                rintro _ ⟨X, rfl⟩
                go_wp2_with fail
                go_roundw
                case rel => exact ⟨k + 1, by omega, by go_num, allG_take Th.zero (by have := HTN.out; omega) HA.out (by rw [← HT.out]; exact HB.out), hle.trans X.le⟩
                case measure => simp [intOf]; omega
            · obtain rfl : tn = k := by omega
              have hge : c.t ≤ (tn : Int) := by have := H4.out; omega
              have hall : Ts.all (thB c) = true := by
                have := HA.out
                rwa [HTN.out, List.take_length] at this
              have HALL3 : Hid (Ts.all (thB c) = true) := hall
              clear hall HA
              go_wp2_with fail
              clear hge z0 z1 z2 z3 z4 z5 z6 z7 z8 y0 y1 y2 y3 y4
              have hle3 := hle2.trans hle
              replace hb := hb.le hle
              replace hb2 := hb2.le hle
              clear hle hlt hk hle2
              go_loopw [7] (fun i wr' => ∃ k : Nat, k ≤ en ∧ i = .int .i64 k ∧ Hid ((Es.take k).all (evB c) = true) ∧ Le wr wr') (fun i _ => en - (intOf i).toNat)
              case atStart => exact ⟨0, by omega, rfl, rfl, Le.refl _⟩
              case round =>
                obtain ⟨k, hk, rfl, HA, hle⟩ := hrel
                obtain ⟨⟨z0, z1, z2, z3, z4⟩, z5, z6, z7, z8⟩ := (hb.le hle).mach
                obtain ⟨y0, y1, y2, y3, y4⟩ := (hb2.le hle).slot
                simp only [slV] at z5 z6 z7 z8
                by_cases hlt : k < en
                · have hltn : (k : Int) < (en : Int) := by omega
                  obtain ⟨b, off, rfl, hcell⟩ := oE (by omega)
                  have hat := hcell k hlt
                  obtain ⟨E, hEk⟩ : ∃ x, x = Es.getD k Ev.zero := ⟨_, rfl⟩
                  rw [← hEk] at hat
                  have HE : Hid (E = Es.getD k Ev.zero) := hEk
                  clear hEk hcell oR oP oT oE
                  obtain ⟨x0, x1, x2, x3, x4, x5⟩ := (hat.le hle3).le hle
                  have u1 := fun w' => rmUpTo E.t 0 (c.t - 1) w'
                  have u2 := fun w' => refOperMay E.c E.r E.a w'
                  clear hat
                  go_upto_region 22 with fail
                  replace y0 := cell_later' y0
                  replace y1 := cell_later' y1
                  replace y2 := cell_later' y2
                  replace y3 := cell_later' y3
                  replace y4 := cell_later' y4
                  replace z8 := cell_later' z8
                  replace x0 := cell_later' x0
                  replace x2 := cell_later' x2
                  replace x3 := cell_later' x3
                  replace x4 := cell_later' x4
                  cases h1 : inB 0 E.t (c.t - 1)
                  · simp only [h1] at u1
                    have HB : Hid (evB c E = false) := by unfold evB; rw [h1]; exact rfl
                    clear h1
                    refine wp_region_later (by kernel_rfl) (by kernel_rfl) ?_
                    repeat (go_big_quiet_step (first | (go_at_call 37; with_reducible exact Calls.later_same (u1 _)) | (go_at_call 38; with_reducible exact Calls.later (u2 _))))
                    refine wpQuiet_nil ?_
                    rintro _ ⟨X, rfl⟩
                    go_wp2_with fail
                    go_ret
                    exact ⟨ret_bool (by rw [allG_no (xs := Es) (k := k) (p := evB c) Ev.zero (by have := HEN.out; omega) (by rw [← HE.out]; exact HB.out)]; simp), (hle3.trans hle).trans X.le⟩
                  simp only [h1] at u1
                  cases h2 : opMay E.c E.r E.a
                  · simp only [h2] at u2
                    have HB : Hid (evB c E = false) := by unfold evB; rw [h1, h2]; exact rfl
                    clear h1 h2
                    refine wp_region_later (by kernel_rfl) (by kernel_rfl) ?_
                    repeat (go_big_quiet_step (first | (go_at_call 37; with_reducible exact Calls.later_same (u1 _)) | (go_at_call 38; with_reducible exact Calls.later (u2 _))))
                    refine wpQuiet_nil ?_
                    rintro _ ⟨X, rfl⟩
                    go_wp2_with fail
                    go_ret
                    exact ⟨ret_bool (by rw [allG_no (xs := Es) (k := k) (p := evB c) Ev.zero (by have := HEN.out; omega) (by rw [← HE.out]; exact HB.out)]; simp), (hle3.trans hle).trans X.le⟩
                  · simp only [h2] at u2
                    have HB : Hid (evB c E = true) := by unfold evB; rw [h1, h2]; exact rfl
                    clear h1 h2
                    refine wp_region_later (by kernel_rfl) (by kernel_rfl) ?_
                    repeat (go_big_quiet_step (first | (go_at_call 37; with_reducible exact Calls.later_same (u1 _)) | (go_at_call 38; with_reducible exact Calls.later (u2 _))))
                    refine wpQuiet_nil ?_
                    rintro _ ⟨X, rfl⟩
                    go_wp2_with fail
                    go_roundw
                    case rel => exact ⟨k + 1, by omega, by go_num, allG_take Ev.zero (by have := HEN.out; omega) HA.out (by rw [← HE.out]; exact HB.out), hle.trans X.le⟩
                    case measure => simp [intOf]; omega
                · obtain rfl : en = k := by omega
                  have hall : Es.all (evB c) = true := by
                    have := HA.out
                    rwa [HEN.out, List.take_length] at this
                  have HALL4 : Hid (Es.all (evB c) = true) := hall
                  clear hall HA
                  go_wp2_with fail
                  go_ret
                  exact ⟨ret_bool (by rw [H1.out, decide_eq_true H2.out, decide_eq_true H3.out, decide_eq_true H4.out, decide_eq_true H5.out, HALL1.out, HALL2.out, HALL3.out, HALL4.out]; rfl), hle3.trans hle⟩

end Go.Proofs.YtibleipfablniaaGreat

/-
  THE WALKS over the document's own NewRing, FreeTo, Entry: what each answers, for every ring and number. Condition: that the slots can be copied.
-/
namespace Go.Proofs.YtibleipfablniaaGreat
open Go.RowKit

set_option maxHeartbeats 1000000 in
theorem refNewRing (n : Int) (w : World) : Calls Tryz.prog 20 #[.int .i64 n] w fun e w' => ∃ v', e = .returned (.tuple #[v', .int .i64 (newS n).2]) ∧ OwnR w' w.heap.size v' (newS n).1 ∧ Le w w' := by
  have m1 := fun w => refSlotsMay n w
  have hb := Box.new w (cellsR 0 0 0 slZ) 46
  have hl := Le.alloc w (.cells (cellsR 0 0 0 slZ) 46)
  obtain ⟨b0, b1, b2, b3, f0, f1, f2, f3⟩ := hb.ring
  cases hn : slotsB n
  · rw [hn] at m1
    simp only [newS, hn]
    go_enter Tryz.func20, Tryz.ntmps20
    go_wp2_with (go_at_call 49; refine (m1 _).mono ?_; rintro e _ ⟨rfl, rfl⟩)
    refine bodyPost_ret (v := .tuple #[ringZ, .int .i64 1000]) (by simp [results, Tryz.results20, go_sem]) rfl ⟨_, rfl, OwnR.zero _ _, ?_⟩
    exact hl
  · rw [hn] at m1
    simp only [newS, hn]
    have k2 := make2
    have k4 := make4
    have k8 := make8
    have k16 := make16
    rcases slotsB_cases hn with rfl | rfl | rfl | rfl
    · go_enter Tryz.func20, Tryz.ntmps20
      go_wp2_with (go_at_call 49; refine (m1 _).mono ?_; rintro e _ ⟨rfl, rfl⟩)
      refine bodyPost_ret (v := .tuple #[ringV 0 0 0 (some ⟨w.heap.size + 1, 0, none⟩, 2, 2), .int .i64 0]) (by simp [results, Tryz.results20, go_sem]) rfl ⟨_, rfl, ⟨_, rfl, ?_⟩, (Le.alloc _ _).trans (Le.alloc _ _)⟩
      have := OwnL.made (w.alloc (.cells (cellsR 0 0 0 (some ⟨w.heap.size + 1, 0, none⟩, 2, 2)) 46)) w.heap.size 2 (by simp) (by decide)
      simp only [World.size_alloc] at this
      exact this
    · go_enter Tryz.func20, Tryz.ntmps20
      go_wp2_with (go_at_call 49; refine (m1 _).mono ?_; rintro e _ ⟨rfl, rfl⟩)
      refine bodyPost_ret (v := .tuple #[ringV 0 0 0 (some ⟨w.heap.size + 1, 0, none⟩, 4, 4), .int .i64 0]) (by simp [results, Tryz.results20, go_sem]) rfl ⟨_, rfl, ⟨_, rfl, ?_⟩, (Le.alloc _ _).trans (Le.alloc _ _)⟩
      have := OwnL.made (w.alloc (.cells (cellsR 0 0 0 (some ⟨w.heap.size + 1, 0, none⟩, 4, 4)) 46)) w.heap.size 4 (by simp) (by decide)
      simp only [World.size_alloc] at this
      exact this
    · go_enter Tryz.func20, Tryz.ntmps20
      go_wp2_with (go_at_call 49; refine (m1 _).mono ?_; rintro e _ ⟨rfl, rfl⟩)
      refine bodyPost_ret (v := .tuple #[ringV 0 0 0 (some ⟨w.heap.size + 1, 0, none⟩, 8, 8), .int .i64 0]) (by simp [results, Tryz.results20, go_sem]) rfl ⟨_, rfl, ⟨_, rfl, ?_⟩, (Le.alloc _ _).trans (Le.alloc _ _)⟩
      have := OwnL.made (w.alloc (.cells (cellsR 0 0 0 (some ⟨w.heap.size + 1, 0, none⟩, 8, 8)) 46)) w.heap.size 8 (by simp) (by decide)
      simp only [World.size_alloc] at this
      exact this
    · go_enter Tryz.func20, Tryz.ntmps20
      go_wp2_with (go_at_call 49; refine (m1 _).mono ?_; rintro e _ ⟨rfl, rfl⟩)
      refine bodyPost_ret (v := .tuple #[ringV 0 0 0 (some ⟨w.heap.size + 1, 0, none⟩, 16, 16), .int .i64 0]) (by simp [results, Tryz.results20, go_sem]) rfl ⟨_, rfl, ⟨_, rfl, ?_⟩, (Le.alloc _ _).trans (Le.alloc _ _)⟩
      have := OwnL.made (w.alloc (.cells (cellsR 0 0 0 (some ⟨w.heap.size + 1, 0, none⟩, 16, 16)) 46)) w.heap.size 16 (by simp) (by decide)
      simp only [World.size_alloc] at this
      exact this

set_option maxHeartbeats 1000000 in
theorem refFreeTo (v : Value) (R : Rg) (p : Int) (w : World) (hx : HasR w v R) (hf : FitR R) : Calls Tryz.prog 115 #[v, .int .i64 p] w fun e w' =>
    ∃ v', e = .returned (.tuple #[v', .int .i64 (freeRS R p).2]) ∧ OwnR w' w.heap.size v' (freeRS R p).1 ∧ Le w w' := by
  have hmay := fun w' (l : Le w w') => refRingMay v R w' (hx.le l) hf
  unfold freeRS freeB
  obtain ⟨hh, t, f, ss⟩ := R
  obtain ⟨q, rfl, hq⟩ := hx
  simp only at hq hmay ⊢
  replace hf : ss.length * 40 ≤ 140737488351232 := hf
  have hl := (Le.alloc w (.cells (cellsR hh t f q) 46)).trans (Le.alloc _ (.cells (cellsR 0 0 0 slZ) 46))
  have hb := (Box.new w (cellsR hh t f q) 46).le (Le.alloc _ (.cells (cellsR 0 0 0 slZ) 46))
  have hb2 := Box.new (w.alloc (.cells (cellsR hh t f q) 46)) (cellsR 0 0 0 slZ) 46
  rw [World.size_alloc] at hb2
  have hm := hmay _ hl
  clear hmay
  cases h1 : mayR ⟨hh, t, f, ss⟩
  · rw [h1] at hm
    simp only [Bool.false_and]
    clear h1
    go_enter Tryz.func115, Tryz.ntmps115
    go_wp2_with fail
    refine hm.mono ?_
    rintro e w1 ⟨rfl, l1⟩
    obtain ⟨z0, z1, z2, z3, f0, f1, f2, f3⟩ := (hb2.le l1).ring
    go_wp2_with fail
    refine bodyPost_ret (v := .tuple #[ringZ, .int .i64 1000]) (by simp [results, Tryz.results115, go_sem, z0, z1, z2, z3]) rfl ⟨_, rfl, OwnR.zero _ _, ?_⟩
    exact (hl.trans l1).put4 (by omega)
  · rw [h1] at hm
    clear h1
    rcases (by omega : p < hh ∨ (hh ≤ p ∧ t < p) ∨ (hh ≤ p ∧ p ≤ t)) with h2 | ⟨h2, h3⟩ | ⟨h2, h3⟩
    · rw [show (true && decide (hh ≤ p) && decide (p ≤ t)) = false by simp; omega]
      simp only [Bool.false_eq_true, ↓reduceIte]
      go_enter Tryz.func115, Tryz.ntmps115
      go_wp2_with fail
      refine hm.mono ?_
      rintro e w1 ⟨rfl, l1⟩
      obtain ⟨b0, b1, b2, b3, _, _, _, _⟩ := (hb.le l1).ring
      obtain ⟨z0, z1, z2, z3, f0, f1, f2, f3⟩ := (hb2.le l1).ring
      go_wp2_with fail
      refine bodyPost_ret (v := .tuple #[ringZ, .int .i64 1000]) (by simp [results, Tryz.results115, go_sem, z0, z1, z2, z3]) rfl ⟨_, rfl, OwnR.zero _ _, ?_⟩
      exact (hl.trans l1).put4 (by omega)
    · rw [show (true && decide (hh ≤ p) && decide (p ≤ t)) = false by simp; omega]
      simp only [Bool.false_eq_true, ↓reduceIte]
      go_enter Tryz.func115, Tryz.ntmps115
      go_wp2_with fail
      refine hm.mono ?_
      rintro e w1 ⟨rfl, l1⟩
      obtain ⟨b0, b1, b2, b3, _, _, _, _⟩ := (hb.le l1).ring
      obtain ⟨z0, z1, z2, z3, f0, f1, f2, f3⟩ := (hb2.le l1).ring
      go_wp2_with fail
      refine bodyPost_ret (v := .tuple #[ringZ, .int .i64 1000]) (by simp [results, Tryz.results115, go_sem, z0, z1, z2, z3]) rfl ⟨_, rfl, OwnR.zero _ _, ?_⟩
      exact (hl.trans l1).put4 (by omega)
    · rw [show (true && decide (hh ≤ p) && decide (p ≤ t)) = true by simp; omega]
      simp only
      go_enter Tryz.func115, Tryz.ntmps115
      go_wp2_with fail
      refine hm.mono ?_
      rintro e w1 ⟨rfl, l1⟩
      obtain ⟨b0, b1, b2, b3, _, _, _, _⟩ := (hb.le l1).ring
      go_wp2_with fail
      have hap := refCopyRing hh t f q ss _ (hq.le (hl.trans l1)) hf
      refine hap.mono ?_
      rintro e w2 ⟨u, rfl, hown, l2⟩
      have hbz := (hb2.le l1).le l2
      have hlw := (hl.trans l1).trans l2
      have hne1 : (slV u).ownBlock ≠ some (w.heap.size + 1) := hown.off (hb2.le l1).lt
      have hbs : w.heap.size ≤ w1.heap.size := (hl.trans l1).size
      have hlt := hbz.lt
      have m1 : ¬ w.heap.size + 1 = w2.heap.size := by omega
      have hbo := Box.new w2 (cellsR p t f u) 46
      have lo := Le.alloc w2 (.cells (cellsR p t f u) 46)
      clear b0 b1 b2 b3 hap hm hb hb2 hl
      go_upto_region 5 with fail
      generalize hW : w2.alloc (.cells (cellsR p t f u) 46) = W at hbo lo ⊢
      clear hW
      obtain ⟨c0, c1, c2, c3, _, _, _, _⟩ := hbo.ring
      obtain ⟨z0, z1, z2, z3, f0, f1, f2, f3⟩ := (hbz.le lo).ring
      go_wp2_with fail
      refine bodyPost_ret (v := .tuple #[ringV p t f u, .int .i64 0]) (by simp [results, Tryz.results115, go_sem, z0, z1, z2, z3]) rfl ⟨_, rfl, ⟨u, rfl, ?_⟩, ?_⟩
      · exact ((hown.le lo).set4 hne1).base (by omega)
      · exact (hlw.trans lo).put4 (by omega)

set_option maxHeartbeats 1000000 in
theorem refEntryNo (v : Value) (R : Rg) (p : Int) (w : World) (hx : HasR w v R) (hf : FitR R) (h : mayR R = false) : Calls Tryz.prog 113 #[v, .int .i64 p] w fun e w' =>
    e = .returned (.tuple #[slotZ, .int .i64 1000]) ∧ Le w w' := by
  have hmay := fun w' (l : Le w w') => refRingMay v R w' (hx.le l) hf
  obtain ⟨hh, t, f, ss⟩ := R
  obtain ⟨q, rfl, hq⟩ := hx
  simp only at hq hmay ⊢
  have hl := (Le.alloc w (.cells (cellsR hh t f q) 46)).trans (Le.alloc _ (.cells #[.int .i64 0, .int .i64 0, .int .i64 0, .int .i64 0, .int .i64 0] 50))
  have hb2 := Box.new (w.alloc (.cells (cellsR hh t f q) 46)) #[.int .i64 0, .int .i64 0, .int .i64 0, .int .i64 0, .int .i64 0] 50
  rw [World.size_alloc] at hb2
  have hm := hmay _ hl
  rw [h] at hm
  clear hmay h
  go_enter Tryz.func113, Tryz.ntmps113
  go_wp2_with fail
  refine hm.mono ?_
  rintro e w1 ⟨rfl, l1⟩
  obtain ⟨z0, z1, z2, z3, z4⟩ := (hb2.le l1).slot
  obtain ⟨f0, f1, f2, f3, f4⟩ := (hb2.le l1).slotF
  go_wp2_with fail
  refine bodyPost_ret (v := .tuple #[slotZ, .int .i64 1000]) (by simp [results, Tryz.results113, go_sem, z0, z1, z2, z3, z4]) rfl ⟨rfl, ?_⟩
  exact (hl.trans l1).put5 (by omega)

set_option maxHeartbeats 1000000 in
theorem refEntryOff (v : Value) (R : Rg) (p : Int) (w : World) (hx : HasR w v R) (h : mayR R = true) (h2 : hasB R.h R.t p = false) : Calls Tryz.prog 113 #[v, .int .i64 p] w fun e w' =>
    e = .returned (.tuple #[slotZ, .int .i64 1002]) ∧ Le w w' := by
  have hmay := fun w' (l : Le w w') => refRingMay v R w' (hx.le l) (mayR_fit h)
  obtain ⟨hh, t, f, ss⟩ := R
  obtain ⟨q, rfl, hq⟩ := hx
  simp only at hq hmay h2 ⊢
  have hl := (Le.alloc w (.cells (cellsR hh t f q) 46)).trans (Le.alloc _ (.cells #[.int .i64 0, .int .i64 0, .int .i64 0, .int .i64 0, .int .i64 0] 50))
  have hb := (Box.new w (cellsR hh t f q) 46).le (Le.alloc _ (.cells #[.int .i64 0, .int .i64 0, .int .i64 0, .int .i64 0, .int .i64 0] 50))
  have hb2 := Box.new (w.alloc (.cells (cellsR hh t f q) 46)) #[.int .i64 0, .int .i64 0, .int .i64 0, .int .i64 0, .int .i64 0] 50
  rw [World.size_alloc] at hb2
  have hm := hmay _ hl
  rw [h] at hm
  have h3 : p < hh ∨ (hh ≤ p ∧ t ≤ p) := by simp [hasB] at h2; omega
  clear hmay h h2
  rcases h3 with h3 | ⟨h3, h4⟩
  all_goals
    go_enter Tryz.func113, Tryz.ntmps113
    go_wp2_with fail
    refine hm.mono ?_
    rintro e w1 ⟨rfl, l1⟩
    obtain ⟨b0, b1, b2, b3, _, _, _, _⟩ := (hb.le l1).ring
    obtain ⟨z0, z1, z2, z3, z4⟩ := (hb2.le l1).slot
    obtain ⟨f0, f1, f2, f3, f4⟩ := (hb2.le l1).slotF
    go_wp2_with fail
    refine bodyPost_ret (v := .tuple #[slotZ, .int .i64 1002]) (by simp [results, Tryz.results113, go_sem, z0, z1, z2, z3, z4]) rfl ⟨rfl, ?_⟩
    exact (hl.trans l1).put5 (by omega)

set_option maxHeartbeats 1000000 in
theorem refEntryIn (v : Value) (R : Rg) (p : Int) (w : World) (hx : HasR w v R) (h : mayR R = true) (h2 : hasB R.h R.t p = true) : Calls Tryz.prog 113 #[v, .int .i64 p] w fun e w' =>
    e = .returned (.tuple #[(entryS R p).1.v, .int .i64 (entryS R p).2]) ∧ Le w w' := by
  have hmay := fun w' (l : Le w w') => refRingMay v R w' (hx.le l) (mayR_fit h)
  have hp : 0 ≤ p ∧ p ≤ 1048576 := by have := mayR_nums h; simp [hasB] at h2; omega
  have hsl := seat_lt (p := p) h
  have hse := seat_eq (p := p) h hp.1
  have hlen := mayR_len h
  simp only [entryS, h, if_true, entryB, h2, Bool.true_and]
  obtain ⟨hh, t, f, ss⟩ := R
  obtain ⟨q, rfl, hq⟩ := hx
  simp only at hq hmay h2 hsl hse hlen ⊢
  generalize seat ⟨hh, t, f, ss⟩ p = i at hsl hse ⊢
  obtain ⟨s, hs⟩ : ∃ s, s = ss.getD i Slt.zero := ⟨_, rfl⟩
  rw [← hs]
  have hal := fun w => refAlive s.c s.r s.a s.t s.b p ss.length w
  rw [aliveS_yes (mayR_slots h) (by simp [holdB, hp.1, hp.2])] at hal
  have hl := (Le.alloc w (.cells (cellsR hh t f q) 46)).trans (Le.alloc _ (.cells #[.int .i64 0, .int .i64 0, .int .i64 0, .int .i64 0, .int .i64 0] 50))
  have hb := (Box.new w (cellsR hh t f q) 46).le (Le.alloc _ (.cells #[.int .i64 0, .int .i64 0, .int .i64 0, .int .i64 0, .int .i64 0] 50))
  have hb2 := Box.new (w.alloc (.cells (cellsR hh t f q) 46)) #[.int .i64 0, .int .i64 0, .int .i64 0, .int .i64 0, .int .i64 0] 50
  rw [World.size_alloc] at hb2
  have hm := hmay _ hl
  rw [h] at hm
  obtain ⟨h3, h4⟩ : hh ≤ p ∧ p < t := by simpa [hasB] using h2
  obtain ⟨a, cap, hqv, hcap, _, hxx⟩ := hq
  obtain ⟨b, off, rfl, hcell⟩ := hxx (by omega)
  have hci := hcell i hsl
  rw [← hs] at hci
  obtain ⟨qa, n, qc⟩ := q
  simp only [slV, Value.slice.injEq] at hqv
  obtain ⟨rfl, hn, rfl⟩ := hqv
  rw [← hn] at hse hlen hsl hal hcap ⊢
  generalize decide (s.b = bitAt p n) = y at hal ⊢
  clear hmay h h2 hcell hxx hn hs
  go_enter Tryz.func113, Tryz.ntmps113
  go_wp2_with fail
  refine hm.mono ?_
  rintro e w1 ⟨rfl, l1⟩
  obtain ⟨b0, b1, b2, b3, _, _, _, _⟩ := (hb.le l1).ring
  clear hm
  replace hb := hb.le l1
  replace hb2 := hb2.le l1
  replace hci := hci.le (hl.trans l1)
  replace hl := hl.trans l1
  clear l1
  obtain ⟨x0, x1, x2, x3, x4⟩ := hci
  obtain ⟨n0, n1⟩ : (0 : Int) ≤ (i : Int) ∧ (i : Int) < (n : Int) := by omega
  have n2 : ¬ n = 0 := by omega
  replace b3 : w1.cell? ⟨w.heap.size, 3, none⟩ = some (.slice (some ⟨b, off, none⟩) n qc) := b3
  go_upto_region 5 with fail
  go_region_held3 (fun w' => w'.cell? ⟨w.heap.size, 3, none⟩ = some (.slice (some ⟨b, off, none⟩) n qc) ∧ w'.cell? ⟨b, off + i * 5, none⟩ = some (.int .i64 s.c) ∧ w'.cell? ⟨b, off + i * 5 + 1, none⟩ = some (.int .i64 s.r) ∧ w'.cell? ⟨b, off + i * 5 + 2, none⟩ = some (.int .i64 s.a) ∧ w'.cell? ⟨b, off + i * 5 + 3, none⟩ = some (.int .i64 s.t) ∧ w'.cell? ⟨b, off + i * 5 + 4, none⟩ = some (.int .i64 s.b)) (go_keep) (fail)
  go_wp2_with fail
  refine (hal _).mono ?_
  rintro e w3 ⟨rfl, l3⟩
  have hbs := (Box.new w1 #[.int .i64 s.c, .int .i64 s.r, .int .i64 s.a, .int .i64 s.t, .int .i64 s.b] 50).le ((Le.drew _).trans l3)
  have l4 := ((Le.alloc w1 (.cells #[.int .i64 s.c, .int .i64 s.r, .int .i64 s.a, .int .i64 s.t, .int .i64 s.b] 50)).trans (Le.drew _)).trans l3
  obtain ⟨z0, z1, z2, z3, z4⟩ := (hb2.le l4).slot
  obtain ⟨f0, f1, f2, f3, f4⟩ := (hb2.le l4).slotF
  obtain ⟨y0, y1, y2, y3, y4⟩ := hbs.slot
  clear x0 x1 x2 x3 x4 b0 b1 b2 b3 n0 n1 n2 hse hal hb hb2 l3
  cases y
  · go_wp2_with fail
    refine bodyPost_ret (v := .tuple #[slotZ, .int .i64 1002]) (by simp [results, Tryz.results113, go_sem, z0, z1, z2, z3, z4]) rfl ⟨rfl, ?_⟩
    exact (hl.trans l4).put5 (by omega)
  · go_wp2_with fail
    refine bodyPost_ret (v := .tuple #[s.v, .int .i64 0]) (by simp [results, Tryz.results113, go_sem, z0, z1, z2, z3, z4]) rfl ⟨rfl, ?_⟩
    exact (hl.trans l4).put5 (by omega)

theorem refEntry (v : Value) (R : Rg) (p : Int) (w : World) (hx : HasR w v R) (hf : FitR R) : Calls Tryz.prog 113 #[v, .int .i64 p] w fun e w' =>
    e = .returned (.tuple #[(entryS R p).1.v, .int .i64 (entryS R p).2]) ∧ Le w w' := by
  cases h : mayR R
  · rw [show entryS R p = (Slt.zero, 1000) by simp [entryS, h]]
    exact refEntryNo v R p w hx hf h
  · cases h2 : hasB R.h R.t p
    · rw [show entryS R p = (Slt.zero, 1002) by simp [entryS, entryB, h, h2]]
      exact refEntryOff v R p w hx h h2
    · exact refEntryIn v R p w hx h h2

end Go.Proofs.YtibleipfablniaaGreat

/-
  THE WALK over the document's New: what it answers, for every Config, in memory of the call's own. No condition. (Written by program out of NwB: the same text.)
-/
namespace Go.Proofs.YtibleipfablniaaGreat
open Go.RowKit

set_option maxRecDepth 8000 in
set_option maxHeartbeats 16000000 in
theorem refNew (c : Cfg) (w : World) : Calls Tryz.prog 7 #[cfgV c.o c.r c.l c.t c.s] w fun e w' => ∃ v', e = .returned (.tuple #[v', .int .i64 (newM c).2]) ∧ OwnM w' w.heap.size v' (newM c).1 ∧ Le w w' := by
  have hl := (Le.alloc w (.cells (cells5 c) 23)).trans (Le.alloc _ (.cells cellsZ9 29))
  have hb1 := (Box.new w (cells5 c) 23).le (Le.alloc _ (.cells cellsZ9 29))
  have hb2 := Box.new (w.alloc (.cells (cells5 c) 23)) cellsZ9 29
  have hWs : ((w.alloc (.cells (cells5 c) 23)).alloc (.cells cellsZ9 29)).heap.size = w.heap.size + 2 := by simp
  rw [World.size_alloc] at hb2
  have m1 := fun w' => rmConfigMay c.o c.r c.l c.t c.s w'
  cases h1 : cfgB c.o c.r c.l c.t c.s
  · have hN : newM c = (Mc.zero, 1400) := by unfold newM Cfg.ok; rw [h1]; rfl
    rw [hN]
    simp only [h1] at m1
    go_enter Tryz.func7, Tryz.ntmps7
    go_wp2_with fail
    refine (m1 _).mono ?_
    rintro e w1 ⟨rfl, n1⟩
    replace hb2 := hb2.le n1
    have r0 := hb2.cell 0
    have r1 := hb2.cell 1
    have r2 := hb2.cell 2
    have r3 := hb2.cell 3
    have r4 := hb2.cell 4
    have r5 := hb2.cell 5
    have r6 := hb2.cell 6
    have r7 := hb2.cell 7
    have r8 := hb2.cell 8
    simp only [List.getElem?_toArray, List.getElem?_cons_succ, List.getElem?_cons_zero] at r0 r1 r2 r3 r4 r5 r6 r7 r8
    have k0 := hb2.frozen 0
    have k1 := hb2.frozen 1
    have k2 := hb2.frozen 2
    have k3 := hb2.frozen 3
    have k4 := hb2.frozen 4
    have k5 := hb2.frozen 5
    have k6 := hb2.frozen 6
    have k7 := hb2.frozen 7
    have k8 := hb2.frozen 8
    go_wp2_with fail
    refine bodyPost_ret (v := .tuple #[machZ, .int .i64 1400]) (by simp [results, Tryz.results7, go_sem, r0, r1, r2, r3, r4, r5, r6, r7, r8]) rfl ⟨_, rfl, OwnM.zero _ _, ?_⟩
    exact (hl.trans n1).put9 (c := Cfg.zero) (by omega) slZ slZ slZ slZ
  have hN : newM c = (freshM c, 0) := by unfold newM Cfg.ok; rw [h1]; rfl
  rw [hN]
  simp only [h1] at m1
  obtain ⟨_, ⟨r0, r1⟩, ⟨l0, l1⟩, ⟨t0, t1⟩, hs, _⟩ := cfgB_cases h1
  obtain ⟨nl, hnl⟩ : ∃ n : Nat, c.l = n := ⟨c.l.toNat, by omega⟩
  obtain ⟨nr, hnr⟩ : ∃ n : Nat, c.r = n := ⟨c.r.toNat, by omega⟩
  obtain ⟨nt, hnt⟩ : ∃ n : Nat, c.t = n := ⟨c.t.toNat, by omega⟩
  have HNL : Hid (c.l = nl) := hnl
  have HNR : Hid (c.r = nr) := hnr
  have HNT : Hid (c.t = nt) := hnt
  have hnl2 : nl ≤ 2 := by omega
  have hnr2 : nr ≤ 2 := by omega
  have hnt4 : nt = 1 ∨ nt = 2 ∨ nt = 3 ∨ nt = 4 := by omega
  clear h1 hnl hnr hnt
  go_enter Tryz.func7, Tryz.ntmps7
  go_wp2_with fail
  refine (m1 _).mono ?_
  rintro e w1 ⟨rfl, n1⟩
  replace hb1 := hb1.le n1
  replace hb2 := hb2.le n1
  have hsz := hWs
  have hsz2 := n1.size
  rw [hWs] at hsz2
  replace hl := hl.trans n1
  clear m1 n1 hWs hsz
  obtain ⟨z0, z1, z2, z3, z4⟩ := hb1.slot
  go_upto_region 3 with fail
  go_cut [4] from 9 (fun s4 wc => ∃ g q, s4 = .pointer (some ⟨g, 0, none⟩) ∧ CpI False w (cells5 c) 23 c g wc ⟨c, slZ, slZ, q, slZ, [], [], List.replicate nt ⟨Th.zero, slZ, slZ⟩, []⟩)
  case first =>
    refine wp_region_any (by kernel_rfl) ?_
    refine wpAny_grow [] [0, 1, 2, 3, 4, 5] [6] (by decide) (by kernel_rfl) Le (Le.refl _) (fun _ _ _ => Le.trans)
      (fun vs i x => match i with
        | 0 => vs 0 = cfgV c.o c.r c.l c.t c.s
        | 1 => vs 1 = .pointer (some ⟨w.heap.size, 3, none⟩)
        | 2 => vs 2 = .int .i64 nt
        | 3 => ∃ q, vs 3 = slV q ∧ OwnE thK x (w.heap.size + 2) (slV q) (List.replicate nt ⟨Th.zero, slZ, slZ⟩)
        | 4 => ∃ q, vs 4 = machV c slZ slZ q slZ ∧ OwnE thK x (w.heap.size + 2) (slV q) (List.replicate nt ⟨Th.zero, slZ, slZ⟩)
        | _ => ∃ g, vs 5 = .pointer (some ⟨g, 0, none⟩) ∧ w.heap.size + 2 ≤ g ∧ Box x g cellsZ9 29) ?_ ?_ (by decide) ?_ ?_
    · intro vs i x y hi _ h hxy
      simp only [List.mem_cons, List.not_mem_nil, or_false] at hi
      rcases hi with rfl | rfl | rfl | rfl | rfl | rfl
      · exact h
      · exact h
      · exact h
      · obtain ⟨b, e, o⟩ := h; exact ⟨b, e, o.le hxy⟩
      · obtain ⟨b, e, o⟩ := h; exact ⟨b, e, o.le hxy⟩
      · obtain ⟨b, e, o, o'⟩ := h; exact ⟨b, e, o, o'.le hxy⟩
    · intro vs vs' i o x hi _ hk h
      have e := hk i (.inl rfl)
      simp only [List.mem_cons, List.not_mem_nil, or_false] at hi
      rcases hi with rfl | rfl | rfl | rfl | rfl | rfl
      all_goals
        simp only at h ⊢
        rw [← e]
        exact h
    · intro i o hi ho vs x hx hd
      have hx0 := (Le.drew w1).trans hx
      simp only [List.mem_cons, List.not_mem_nil, or_false] at hi
      generalize hρ : (putH _ _ _ vs).eval = ρ
      rcases hi with rfl | rfl | rfl | rfl | rfl | rfl
      · cases ho
        have r1 : ρ (.tmp 1) = .pointer (some ⟨w.heap.size, 0, none⟩) := by rw [← hρ]; kernel_rfl
        have y0 := cell_le z0 hx0
        have y1 := cell_le z1 hx0
        have y2 := cell_le z2 hx0
        have y3 := cell_le z3 hx0
        have y4 := cell_le z4 hx0
        exact gives_value (w' := x) (v := cfgV c.o c.r c.l c.t c.s) (by simp [go_sem, r1, y0, y1, y2, y3, y4]) ⟨Le.refl _, rfl⟩
      · cases ho
        have r1 : ρ (.tmp 1) = .pointer (some ⟨w.heap.size, 0, none⟩) := by rw [← hρ]; kernel_rfl
        exact gives_value (w' := x) (v := .pointer (some ⟨w.heap.size, 3, none⟩)) (by simp [go_sem, r1]) ⟨Le.refl _, rfl⟩
      · cases ho
        have r1 : ρ (.tmp 14) = vs 1 := by rw [← hρ]; kernel_rfl
        have d := hd 1 (by decide) (by kernel_rfl)
        simp only at d
        rw [d] at r1
        have y3 := cell_le z3 hx0
        rw [HNT.out] at y3
        exact gives_value (w' := x) (v := .int .i64 nt) (by simp [go_sem, r1, y3]) ⟨Le.refl _, rfl⟩
      · cases ho
        have r1 : ρ (.tmp 15) = vs 2 := by rw [← hρ]; kernel_rfl
        have d := hd 2 (by decide) (by kernel_rfl)
        simp only at d
        rw [d] at r1
        obtain ⟨x', hrun, o3, l3⟩ := run_make_ths x (w.heap.size + 2) nt hnt4 (Nat.le_trans hsz2 hx0.size)
        exact gives_value (w' := x') (v := slV (some ⟨x.heap.size, 0, none⟩, nt, nt)) (by simp [go_sem, r1, hrun]) ⟨l3, _, rfl, o3⟩
      · cases ho
        have r1 : ρ (.tmp 13) = vs 0 := by rw [← hρ]; kernel_rfl
        have r2 : ρ (.tmp 16) = vs 3 := by rw [← hρ]; kernel_rfl
        have e1 := hd 0 (by decide) (by kernel_rfl)
        have hh := hd 3 (by decide) (by kernel_rfl)
        simp only at e1 hh
        obtain ⟨q, e5, o5⟩ := hh
        rw [e1] at r1
        rw [e5] at r2
        exact gives_value (w' := x) (v := machV c slZ slZ q slZ) (by simp [go_sem, r1, r2]) ⟨Le.refl _, q, rfl, o5⟩
      · cases ho
        exact gives_value (w' := x.alloc (.cells cellsZ9 29)) (v := .pointer (some ⟨x.heap.size, 0, none⟩)) (by simp [go_sem]) ⟨Le.alloc _ _, x.heap.size, rfl, Nat.le_trans hsz2 hx0.size, Box.new _ _ _⟩
    · intro vs x hx hd
      have hx0 := (Le.drew w1).trans hx
      have hh := hd 4 (by decide)
      simp only at hh
      replace hh := hh.choose_spec
      generalize Exists.choose _ = q at hh
      have e6 := hh.1
      have o6 := hh.2
      have hh := hd 5 (by decide)
      simp only at hh
      replace hh := hh.choose_spec
      generalize Exists.choose _ = g at hh
      have e7 := hh.1
      have hg := hh.2.1
      have b7 := hh.2.2
      generalize hf0 : putH _ _ _ vs = fr0
      refine wpSeq_cons rfl ?_
      refine wp_skip_at (w0 := put9 x g c slZ slZ q slZ) ?_ ?_
      · generalize hρ : fr0.eval = ρ
        have r1 : ρ (.tmp 4) = vs 5 := by rw [← hρ, ← hf0]; kernel_rfl
        have r2 : ρ (.tmp 17) = vs 4 := by rw [← hρ, ← hf0]; kernel_rfl
        rw [e7] at r1
        rw [e6] at r2
        have c0 := b7.cell 0
        have c1 := b7.cell 1
        have c2 := b7.cell 2
        have c3 := b7.cell 3
        have c4 := b7.cell 4
        have c5 := b7.cell 5
        have c6 := b7.cell 6
        have c7 := b7.cell 7
        have c8 := b7.cell 8
        simp only [List.getElem?_toArray, List.getElem?_cons_succ, List.getElem?_cons_zero] at c0 c1 c2 c3 c4 c5 c6 c7 c8
        have k0 := b7.frozen 0
        have k1 := b7.frozen 1
        have k2 := b7.frozen 2
        have k3 := b7.frozen 3
        have k4 := b7.frozen 4
        have k5 := b7.frozen 5
        have k6 := b7.frozen 6
        have k7 := b7.frozen 7
        have k8 := b7.frozen 8
        simp [go_sem, r1, r2, c0, c1, c2, c3, c4, c5, c6, c7, c8, k0, k1, k2, k3, k4, k5, k6, k7, k8]
      · subst hf0
        simp only [wpSeq, putH, List.getElem?_cons_succ, List.getElem?_cons_zero, Option.bind_some, Act.put, List.setIfInBounds_toArray, List.set_cons_zero, List.set_cons_succ, e7]
        go_wp2_with fail
        go_meet
        case rel => exact ⟨g, q, rfl, CpI.start2 id (hl.trans hx0) (hb1.le hx0) (hb2.le hx0) b7 hg o6⟩
  case rest =>
    obtain ⟨g, q0, rfl, I0⟩ := hcut
    clear hb1 hb2 hl z0 z1 z2 z3 z4
    obtain ⟨R, hR⟩ : ∃ R, R = (newS c.s).1 := ⟨_, rfl⟩
    obtain ⟨er, her⟩ : ∃ e, e = (newS c.s).2 := ⟨_, rfl⟩
    have HR : Hid (R = (newS c.s).1) := hR
    have hnew := fun w' => refNewRing c.s w'
    simp only [← hR, ← her] at hnew
    clear hR her
    obtain ⟨z0, z1, z2, z3, z4⟩ := I0.bp.slot
    go_wp2_with fail
    go_loopw [5] (fun i wr => ∃ (k : Nat) (L : Lay), k ≤ nl ∧ i = .int .i64 k ∧ CpI False w (cells5 c) 23 c g wr L ∧ Hid (L.c = c ∧ L.rs.map LR.R = List.replicate k R ∧ L.ps = [] ∧ L.ts.map LT.T = List.replicate nt Th.zero ∧ L.es = [])) (fun i _ => nl - (intOf i).toNat)
    case atStart => exact ⟨0, _, Nat.zero_le _, rfl, I0, rfl, rfl, rfl, by simp, rfl⟩
    case round =>
      clear I0 z0 z1 z2 z3 z4
      obtain ⟨k, L, hk, rfl, I, HL⟩ := hrel
      obtain ⟨z0, z1, z2, z3, z4⟩ := I.bp.slot
      by_cases hlt : k < nl
      · have hlt' : (k : Int) < c.l := by have := HNL.out; omega
        have hLn : L.rs.length = k := by
          have := congrArg List.length HL.out.2.1
          simp at this
          exact this
        have HLn : Hid (L.rs.length = k) := hLn
        clear hLn
        go_wp2_with fail
        refine (hnew _).mono ?_
        rintro e w2 ⟨v', rfl, ⟨q, rfl, oq⟩, l2⟩
        have hA := Le.alloc w2 (.cells (cellsR R.h R.t R.f q) 46)
        have hbx := Box.new w2 (cellsR R.h R.t R.f q) 46
        clear z0 z1 z2 z3 z4
        go_upto_region 8 with fail
        generalize hW2 : w2.alloc (.cells (cellsR R.h R.t R.f q) 46) = w3 at hA hbx ⊢
        generalize w2.heap.size = gx at hbx ⊢
        clear hW2
        have l3 := l2.trans hA
        replace oq := oq.le hA
        clear hA l2
        have hlit := OwnE.lit ringK w3 wr.heap.size l3.size [⟨R, q⟩] (by simp)
        replace hlit : OwnE ringK (w3.alloc (.cells (cellsR R.h R.t R.f q) 46)) wr.heap.size (.slice (some ⟨w3.heap.size, 0, none⟩) 1 1) [⟨R, q⟩] := hlit
        have hA6 := Le.alloc w3 (.cells (cellsR R.h R.t R.f q) 46)
        have I6 := I.later l3
        have y5 := I6.bo.mach.2.1
        have hoR := I6.own.oR.le hA6
        obtain ⟨s0, s1, s2, s3, _, _, _, _⟩ := hbx.ring
        go_wp2_with (at_builtin; refine wp_append_E ringIn rfl _ _ rfl w.heap.size _ _ L.rs [⟨R, q⟩] rfl rfl hoR hlit.has (by have := HLn.out; show (L.rs.length + 1) * 48 ≤ _; omega) (by have := HLn.out; show L.rs.length + 1 ≤ _; omega) (I6.le.trans hA6).size ?_; intro v' w7 o8 hg8 _; obtain ⟨q', rfl⟩ := o8.has.sl; have hb8 := (I6.bo.le hA6).grown hg8 (hoR.apart (I6.bo.le hA6) (by decide)); have c5 := hb8.cell 5; have k5 := hb8.frozen 5)
        have IN := I.ring (by decide) (l3.trans hA6) (x := ⟨R, q⟩) (oq.le hA6) o8 hg8
        go_roundw
        case rel => exact ⟨k + 1, _, by omega, by go_num, IN, HL.out.1, by rw [List.map_append, HL.out.2.1, List.replicate_succ']; rfl, HL.out.2.2.1, HL.out.2.2.2.1, HL.out.2.2.2.2⟩
        case measure => simp [intOf]; omega
      · have hge : c.l ≤ (k : Int) := by have := HNL.out; omega
        have hkl : k = nl := by omega
        have HL0 : Hid (L.c = c ∧ L.rs.map LR.R = List.replicate nl R ∧ L.ps.map LP.P = List.replicate 0 ⟨St.zero, List.replicate nl 0, List.replicate nl 0⟩ ∧ L.ts.map LT.T = List.replicate nt Th.zero ∧ L.es = []) := ⟨HL.out.1, by rw [HL.out.2.1, hkl], by rw [HL.out.2.2.1]; rfl, HL.out.2.2.2.1, HL.out.2.2.2.2⟩
        clear hkl hnew
        go_wp2_with fail
        go_loopw [8] (fun i wr => ∃ (k : Nat) (L : Lay), k ≤ nr ∧ i = .int .i64 k ∧ CpI False w (cells5 c) 23 c g wr L ∧ Hid (L.c = c ∧ L.rs.map LR.R = List.replicate nl R ∧ L.ps.map LP.P = List.replicate k ⟨St.zero, List.replicate nl 0, List.replicate nl 0⟩ ∧ L.ts.map LT.T = List.replicate nt Th.zero ∧ L.es = [])) (fun i _ => nr - (intOf i).toNat)
        case atStart => exact ⟨0, L, Nat.zero_le _, rfl, I, HL0⟩
        case round =>
          clear HL0 HL I z0 z1 z2 z3 z4 hlt hge hk
          rename_i _ k0 L0 _ _
          obtain ⟨k, L, hk, rfl, I, HL⟩ := hrel
          obtain ⟨z0, z1, z2, z3, z4⟩ := I.bp.slot
          by_cases hlt : k < nr
          · have hlt' : (k : Int) < c.r := by have := HNR.out; omega
            have hLn : L.ps.length = k := by
              have := congrArg List.length HL.out.2.2.1
              simp at this
              exact this
            have HLn : Hid (L.ps.length = k) := hLn
            clear hLn
            have y6 := I.bo.mach.2.2.1
            go_upto_region 12 with fail
            refine wp_region_any (by kernel_rfl) ?_
            refine wpAny_grow [] [0, 1, 2, 3, 4, 5, 6, 7, 8, 9] [10, 11, 12] (by decide) (by kernel_rfl) Le (Le.refl _) (fun _ _ _ => Le.trans)
              (fun vs i x => match i with
                | 0 => vs 0 = .pointer (some ⟨g, 6, none⟩)
                | 1 => vs 1 = slV L.qP
                | 2 => vs 2 = .pointer (some ⟨w.heap.size, 2, none⟩)
                | 3 => vs 3 = .int .i64 nl
                | 4 => ∃ q, vs 4 = slV q ∧ Own x wr.heap.size (slV q) (List.replicate nl 0)
                | 5 => vs 5 = .pointer (some ⟨w.heap.size, 2, none⟩)
                | 6 => vs 6 = .int .i64 nl
                | 7 => ∃ q, vs 7 = slV q ∧ Own x wr.heap.size (slV q) (List.replicate nl 0)
                | 8 => ∃ qa qb, vs 8 = repV (fun _ => slZ) qa qb ∧ Own x wr.heap.size (slV qa) (List.replicate nl 0) ∧ Own x wr.heap.size (slV qb) (List.replicate nl 0)
                | _ => ∃ qa qb, OwnE repK x wr.heap.size (vs 9) [⟨⟨St.zero, List.replicate nl 0, List.replicate nl 0⟩, fun _ => slZ, qa, qb⟩] ∧ Own x wr.heap.size (slV qa) (List.replicate nl 0) ∧ Own x wr.heap.size (slV qb) (List.replicate nl 0)) ?_ ?_ (by decide) ?_ ?_
            · intro vs i x y hi _ h hxy
              simp only [List.mem_cons, List.not_mem_nil, or_false] at hi
              rcases hi with rfl | rfl | rfl | rfl | rfl | rfl | rfl | rfl | rfl | rfl
              iterate 4
                · exact h
              · obtain ⟨b, e, o⟩ := h; exact ⟨b, e, o.le hxy⟩
              iterate 2
                · exact h
              · obtain ⟨b, e, o⟩ := h; exact ⟨b, e, o.le hxy⟩
              · obtain ⟨a, b, e, o, o'⟩ := h; exact ⟨a, b, e, o.le hxy, o'.le hxy⟩
              · obtain ⟨a, b, e, o, o'⟩ := h; exact ⟨a, b, e.le hxy, o.le hxy, o'.le hxy⟩
            · intro vs vs' i o x hi _ hk h
              have e := hk i (.inl rfl)
              simp only [List.mem_cons, List.not_mem_nil, or_false] at hi
              rcases hi with rfl | rfl | rfl | rfl | rfl | rfl | rfl | rfl | rfl | rfl
              all_goals
                simp only at h ⊢
                rw [← e]
                exact h
            · intro i o hi ho vs x hx hd
              have hx0 := (Le.drew wr).trans hx
              simp only [List.mem_cons, List.not_mem_nil, or_false] at hi
              generalize hρ : (putH _ _ _ vs).eval = ρ
              rcases hi with rfl | rfl | rfl | rfl | rfl | rfl | rfl | rfl | rfl | rfl
              · cases ho
                have r1 : ρ (.tmp 4) = .pointer (some ⟨g, 0, none⟩) := by rw [← hρ]; kernel_rfl
                exact gives_value (w' := x) (v := .pointer (some ⟨g, 6, none⟩)) (by simp [go_sem, r1]) ⟨Le.refl _, rfl⟩
              · cases ho
                have r1 : ρ (.tmp 42) = vs 0 := by rw [← hρ]; kernel_rfl
                have d := hd 0 (by decide) (by kernel_rfl)
                simp only at d
                rw [d] at r1
                have s6 := cell_le y6 hx0
                exact gives_value (w' := x) (v := slV L.qP) (by simp [go_sem, r1, s6]) ⟨Le.refl _, rfl⟩
              · cases ho
                have r1 : ρ (.tmp 1) = .pointer (some ⟨w.heap.size, 0, none⟩) := by rw [← hρ]; kernel_rfl
                exact gives_value (w' := x) (v := .pointer (some ⟨w.heap.size, 2, none⟩)) (by simp [go_sem, r1]) ⟨Le.refl _, rfl⟩
              · cases ho
                have r1 : ρ (.tmp 44) = vs 2 := by rw [← hρ]; kernel_rfl
                have d := hd 2 (by decide) (by kernel_rfl)
                simp only at d
                rw [d] at r1
                have s2 := cell_le z2 hx0
                rw [HNL.out] at s2
                exact gives_value (w' := x) (v := .int .i64 nl) (by simp [go_sem, r1, s2]) ⟨Le.refl _, rfl⟩
              · cases ho
                have r1 : ρ (.tmp 45) = vs 3 := by rw [← hρ]; kernel_rfl
                have d := hd 3 (by decide) (by kernel_rfl)
                simp only at d
                rw [d] at r1
                obtain ⟨x', hrun, o3, l3⟩ := run_make_ints x wr.heap.size nl (by omega) hx0.size
                exact gives_value (w' := x') (v := slV (some ⟨x.heap.size, 0, none⟩, nl, nl)) (by simp [go_sem, r1, hrun]) ⟨l3, _, rfl, o3⟩
              · cases ho
                have r1 : ρ (.tmp 1) = .pointer (some ⟨w.heap.size, 0, none⟩) := by rw [← hρ]; kernel_rfl
                exact gives_value (w' := x) (v := .pointer (some ⟨w.heap.size, 2, none⟩)) (by simp [go_sem, r1]) ⟨Le.refl _, rfl⟩
              · cases ho
                have r1 : ρ (.tmp 47) = vs 5 := by rw [← hρ]; kernel_rfl
                have d := hd 5 (by decide) (by kernel_rfl)
                simp only at d
                rw [d] at r1
                have s2 := cell_le z2 hx0
                rw [HNL.out] at s2
                exact gives_value (w' := x) (v := .int .i64 nl) (by simp [go_sem, r1, s2]) ⟨Le.refl _, rfl⟩
              · cases ho
                have r1 : ρ (.tmp 48) = vs 6 := by rw [← hρ]; kernel_rfl
                have d := hd 6 (by decide) (by kernel_rfl)
                simp only at d
                rw [d] at r1
                obtain ⟨x', hrun, o3, l3⟩ := run_make_ints x wr.heap.size nl (by omega) hx0.size
                exact gives_value (w' := x') (v := slV (some ⟨x.heap.size, 0, none⟩, nl, nl)) (by simp [go_sem, r1, hrun]) ⟨l3, _, rfl, o3⟩
              · cases ho
                have r1 : ρ (.tmp 46) = vs 4 := by rw [← hρ]; kernel_rfl
                have r2 : ρ (.tmp 49) = vs 7 := by rw [← hρ]; kernel_rfl
                have h4 := hd 4 (by decide) (by kernel_rfl)
                have h7 := hd 7 (by decide) (by kernel_rfl)
                simp only at h4 h7
                obtain ⟨qa, e4, o4⟩ := h4
                obtain ⟨qb, e7, o7⟩ := h7
                rw [e4] at r1
                rw [e7] at r2
                exact gives_value (w' := x) (v := repV (fun _ => slZ) qa qb) (by simp [go_sem, r1, r2]) ⟨Le.refl _, qa, qb, rfl, o4, o7⟩
              · cases ho
                have r1 : ρ (.tmp 50) = vs 8 := by rw [← hρ]; kernel_rfl
                have hh := hd 8 (by decide) (by kernel_rfl)
                simp only at hh
                obtain ⟨qa, qb, e8, o8, o9⟩ := hh
                rw [e8] at r1
                have hlit := OwnE.lit repK x wr.heap.size hx0.size [⟨⟨St.zero, List.replicate nl 0, List.replicate nl 0⟩, fun _ => slZ, qa, qb⟩] (by simp)
                exact gives_value (w' := x.alloc (.cells (cellsP (fun _ => slZ) qa qb) 56)) (v := .slice (some ⟨x.heap.size, 0, none⟩) 1 1) (by simp [go_sem, r1]) ⟨Le.alloc _ _, qa, qb, hlit, o8.le (Le.alloc _ _), o9.le (Le.alloc _ _)⟩
            · intro vs x hx hd
              have hx0 := (Le.drew wr).trans hx
              have e1 := hd 1 (by decide)
              simp only at e1
              have hh := hd 9 (by decide)
              simp only at hh
              replace hh := hh.choose_spec
              generalize Exists.choose _ = qa at hh
              replace hh := hh.choose_spec
              generalize Exists.choose _ = qb at hh
              have o9 := hh.1
              have oa := hh.2.1
              have ob := hh.2.2
              have hrun := run_append_E repIn 25 x w.heap.size (slV L.qP) (vs 9) L.ps [⟨⟨St.zero, List.replicate nl 0, List.replicate nl 0⟩, fun _ => slZ, qa, qb⟩] (I.own.oP.le hx0) o9.has (by simp) (by have := HLn.out; show (L.ps.length + 1) * 144 ≤ _; omega) (by have := HLn.out; show L.ps.length + 1 ≤ _; omega) (I.le.trans hx0).size
              replace hrun := hrun.choose_spec
              generalize Exists.choose _ = q' at hrun
              replace hrun := hrun.choose_spec
              generalize Exists.choose _ = x2 at hrun
              have hrn := hrun.1
              have IN := I.rep (by decide) hx0 (x := ⟨⟨St.zero, List.replicate nl 0, List.replicate nl 0⟩, fun _ => slZ, qa, qb⟩) (fun i _ => by show Own x _ _ (St.zero.at i); rw [St.at_zero]; exact Own.nil _ _) oa ob (fun h => h.elim) hrun.2.1 hrun.2.2
              have bo2 : x2.cell? ⟨g, 6, none⟩ = some (slV L.qP) ∧ x2.frozen? ⟨g, 6, none⟩ = false := by
                have hb := (I.bo.le hx0).grown hrun.2.2 ((I.own.oP.le hx0).apart (I.bo.le hx0) (by decide))
                exact ⟨hb.cell 6, hb.frozen 6⟩
              have c6 := bo2.1
              have k6 := bo2.2
              generalize hf0 : putH _ _ _ vs = fr0
              refine wpSeq_cons rfl ?_
              refine wp_value_at (v0 := slV q') (w0 := x2) ?_ ?_
              · have r1 : fr0.eval (.tmp 43) = vs 1 := by rw [← hf0]; kernel_rfl
                have r2 : fr0.eval (.tmp 51) = vs 9 := by rw [← hf0]; kernel_rfl
                rw [e1] at r1
                simp only [execOp, resolve, invoke, builtin, Sem.run_bind, Sem.run_pure, Result.andThen_ok, List.map_toArray, List.map_cons, List.map_nil, r1, r2, hrn]
              · generalize hf1 : Act.put fr0 _ _ = fr1
                refine wpSeq_cons rfl ?_
                refine wp_value_at (v0 := .pointer (some ⟨g, 6, none⟩)) (w0 := x2) ?_ ?_
                · generalize hρ : fr1.eval = ρ
                  have r1 : ρ (.tmp 4) = .pointer (some ⟨g, 0, none⟩) := by rw [← hρ, ← hf1, ← hf0]; kernel_rfl
                  simp [go_sem, r1]
                · generalize hf2 : Act.put fr1 _ _ = fr2
                  refine wpSeq_cons rfl ?_
                  refine wp_skip_at (w0 := x2.setCell ⟨g, 6, none⟩ (slV q')) ?_ ?_
                  · generalize hρ : fr2.eval = ρ
                    have r1 : ρ (.tmp 53) = .pointer (some ⟨g, 6, none⟩) := by rw [← hρ, ← hf2, ← hf1, ← hf0]; kernel_rfl
                    have r2 : ρ (.tmp 52) = slV q' := by rw [← hρ, ← hf2, ← hf1, ← hf0]; kernel_rfl
                    simp [go_sem, r1, r2, c6, k6]
                  · subst hf2 hf1 hf0
                    simp only [wpSeq, putH, List.getElem?_cons_succ, List.getElem?_cons_zero, Option.bind_some, Act.put, List.setIfInBounds_toArray, List.set_cons_zero, List.set_cons_succ]
                    go_wp2_with fail
                    go_roundw
                    case rel => exact ⟨k + 1, _, by omega, by go_num, IN, HL.out.1, HL.out.2.1, by rw [List.map_append, HL.out.2.2.1, List.replicate_succ']; rfl, HL.out.2.2.2.1, HL.out.2.2.2.2⟩
                    case measure => simp [intOf]; omega
          · have hge : c.r ≤ (k : Int) := by have := HNR.out; omega
            have HM : Hid (L.M = freshM c) := by
              have hkr : k = nr := by omega
              show Lay.M L = _
              unfold Lay.M freshM
              have h1 := HNL.out
              have h2 := HNR.out
              have h3 := HNT.out
              rw [HL.out.1, HL.out.2.1, HL.out.2.2.1, HL.out.2.2.2.1, HL.out.2.2.2.2, ← HR.out, h1, h2, h3, hkr]
              simp
            have HC : Hid (L.c = c) := HL.out.1
            obtain ⟨⟨m0, m1, m2, m3, m4⟩, m5, m6, m7, m8⟩ := I.bo.mach
            have r0 := I.br.cell 0
            have r1 := I.br.cell 1
            have r2 := I.br.cell 2
            have r3 := I.br.cell 3
            have r4 := I.br.cell 4
            have r5 := I.br.cell 5
            have r6 := I.br.cell 6
            have r7 := I.br.cell 7
            have r8 := I.br.cell 8
            simp only [List.getElem?_toArray, List.getElem?_cons_succ, List.getElem?_cons_zero] at r0 r1 r2 r3 r4 r5 r6 r7 r8
            have k0' := I.br.frozen 0
            have k1' := I.br.frozen 1
            have k2 := I.br.frozen 2
            have k3 := I.br.frozen 3
            have k4 := I.br.frozen 4
            have k5 := I.br.frozen 5
            have k6 := I.br.frozen 6
            have k7 := I.br.frozen 7
            have k8 := I.br.frozen 8
            clear HL
            go_wp2_with fail
            refine bodyPost_ret (v := .tuple #[machV c L.qR L.qP L.qT L.qH, .int .i64 0]) (by simp [results, Tryz.results7, go_sem, r0, r1, r2, r3, r4, r5, r6, r7, r8]) rfl ⟨_, rfl, ⟨L, by rw [← HC.out], HM.out.symm, ?_⟩, ?_⟩
            · exact I.own.put9 I.br c L.qR L.qP L.qT L.qH
            · exact I.le.put9 (by omega) _ _ _ _ _

end Go.Proofs.YtibleipfablniaaGreat

/-
  THE WALK over choruslaw0's SpoilMachine: it writes over the numbers of a machine of the call's own alone. No condition.
-/
namespace Go.Proofs.YtibleipfablniaaGreat
open Go.RowKit

set_option maxHeartbeats 4000000 in
theorem lawSpoilMachine (v : Value) (base : Nat) (w : World) (hx : IntsM w base v) (hbase : base ≤ w.heap.size) :
    Calls Tryz.prog 12 #[v] w fun e w' => e = .returned (.tuple #[]) ∧ Spoilt base w w' := by
  obtain ⟨c, qR, qP, qT, qH, rfl, hR, hP, hT, hH⟩ := hx
  have hb := Box.new w (cells9 c qR qP qT qH) 29
  have hs0 : Spoilt base w (w.alloc (.cells (cells9 c qR qP qT qH) 29)) := Spoilt.le hbase (Le.alloc _ _)
  replace hR := hR.spoilt (fun _ _ h => h.spoilt hs0) hs0
  replace hP := hP.spoilt (fun _ _ h => h.spoilt hs0) hs0
  replace hT := hT.spoilt (fun _ _ h => h.spoilt hs0) hs0
  replace hH := hH.spoilt (fun _ _ h => h.spoilt hs0) hs0
  have hsz0 := Nat.le_trans hbase hs0.below.size
  obtain ⟨⟨_, _, _, _, _⟩, z5, z6, z7, z8⟩ := hb.mach
  have hev := lawSpoilEvents _ base _ hH
  clear hb
  generalize hW : w.alloc (.cells (cells9 c qR qP qT qH) 29) = W at *
  go_enter Tryz.func12, Tryz.ntmps12
  go_wp2_with fail
  refine hev.mono ?_
  rintro e w1 ⟨rfl, s1⟩
  clear hev hH
  obtain ⟨aR, nR, cR⟩ := qR
  obtain ⟨aP, nP, cP⟩ := qP
  obtain ⟨aT, nT, cT⟩ := qT
  simp only [slV] at z5 z6 z7 hR hP hT
  have y5 := s1.sl (q := (aR, nR, cR)) z5
  simp only [slV] at y5
  go_wp2_with fail
  go_loopw [2] (fun i wr => ∃ k : Nat, k ≤ nR ∧ i = .int .i64 k ∧ Spoilt base W wr) (fun i _ => nR - (intOf i).toNat)
  case atStart => exact ⟨0, Nat.zero_le _, rfl, s1⟩
  case round =>
    obtain ⟨k, hk, rfl, hsp⟩ := hrel
    clear y5 s1 w1
    have y5 := hsp.sl (q := (aR, nR, cR)) z5
    simp only [slV] at y5
    have hsz := Nat.le_trans hsz0 hsp.below.size
    by_cases hlt : k < nR
    · obtain ⟨a', n', c', hv, hnc, hm, hx⟩ := hR
      simp only [Value.slice.injEq] at hv
      obtain ⟨rfl, rfl, rfl⟩ := hv
      obtain ⟨b, off, rfl, hbb, hcell⟩ := hx (by omega)
      obtain ⟨⟨R, q, ⟨r0, r1, r2, r3⟩, hi⟩, hfz⟩ := (hcell k hlt).spoilt hsp
      have hsr := lawSpoilRing (ringV R.h R.t R.f q) base _ ⟨_, _, _, _, rfl, hi⟩ hsz
      have hlt' : (k : Int) < (nR : Int) := by omega
      have hk0 : (0 : Int) ≤ (k : Int) := by omega
      clear hP hT z6 z7 z8 hx
      go_wp2_with fail
      refine hsr.mono ?_
      rintro e w2 ⟨rfl, s2⟩
      have hsp2 := hsp.trans s2
      obtain ⟨⟨R', q', ⟨r0', r1', r2', r3'⟩, hi'⟩, hfz'⟩ := (hcell k hlt).spoilt hsp2
      have y5' := s2.sl (q := (some ⟨b, off, none⟩, nR, cR)) y5
      simp only [slV] at y5'
      clear hcell r0 r1 r2 r3 hi hfz hsr y5 hsp s2 r0' r2' r3' hi' z5
      generalize R'.t = x at r1'
      go_wp2_with fail
      go_region
      go_wp2_with fail
      go_roundw
      case rel => exact ⟨k + 1, by omega, by go_num, hsp2.trans ((Spoilt.le (Nat.le_trans hsz0 hsp2.below.size) (Le.drew _)).trans (Spoilt.store r1' hbb))⟩
      case measure => simp [intOf]; omega
    · clear hR
      have y6 := hsp.sl (q := (aP, nP, cP)) z6
      simp only [slV] at y6
      go_wp2_with fail
      go_loopw [3] (fun i wr => ∃ k : Nat, k ≤ nP ∧ i = .int .i64 k ∧ Spoilt base W wr) (fun i _ => nP - (intOf i).toNat)
      case atStart => exact ⟨0, Nat.zero_le _, rfl, hsp⟩
      case round =>
        obtain ⟨j, hj, rfl, hsp'⟩ := hrel
        clear y5 y6 hsz hsp hlt hk
        rename_i _ wq
        have y6 := hsp'.sl (q := (aP, nP, cP)) z6
        simp only [slV] at y6
        have hsz := Nat.le_trans hsz0 hsp'.below.size
        by_cases hlt : j < nP
        · obtain ⟨a', n', c', hv, hnc, hm, hx⟩ := hP
          simp only [Value.slice.injEq] at hv
          obtain ⟨rfl, rfl, rfl⟩ := hv
          obtain ⟨b, off, rfl, hbb, hcell⟩ := hx (by omega)
          have hlt' : (j : Int) < (nP : Int) := by omega
          have hj0 : (0 : Int) ≤ (j : Int) := by omega
          clear hT z5 z7 z8 hx
          obtain ⟨vs, cc, ll, ⟨r0, r1, r2, r3, r4, r5⟩, i0, i1, i2⟩ := (hcell j hlt).spoilt hsp'
          have hsr := lawSpoilState (stV vs) base _ ⟨vs, rfl, i0⟩ hsz
          go_wp2_with fail
          refine hsr.mono ?_
          rintro e w2 ⟨rfl, s2⟩
          have hsr2 := lawSpoil _ base _ (i1.spoilt s2)
          have r4' := s2.sl r4
          have y6' := s2.sl (q := (some ⟨b, off, none⟩, nP, cP)) y6
          simp only [slV] at y6'
          go_wp2_with fail
          refine hsr2.mono ?_
          rintro e w3 ⟨rfl, s3⟩
          have hsr3 := lawSpoil _ base _ ((i2.spoilt s2).spoilt s3)
          have r5' := s3.sl (s2.sl r5)
          have y6'' := s3.sl (q := (some ⟨b, off, none⟩, nP, cP)) y6'
          simp only [slV] at y6''
          go_wp2_with fail
          refine hsr3.mono ?_
          rintro e w4 ⟨rfl, s4⟩
          go_wp2_with fail
          go_roundw
          case rel => exact ⟨j + 1, by omega, by go_num, ((hsp'.trans s2).trans s3).trans s4⟩
          case measure => simp [intOf]; omega
        · clear hP
          have y7 := hsp'.sl (q := (aT, nT, cT)) z7
          simp only [slV] at y7
          go_wp2_with fail
          go_loopw [4] (fun i wr => ∃ k : Nat, k ≤ nT ∧ i = .int .i64 k ∧ Spoilt base W wr) (fun i _ => nT - (intOf i).toNat)
          case atStart => exact ⟨0, Nat.zero_le _, rfl, hsp'⟩
          case round =>
            obtain ⟨i, hi, rfl, hsp⟩ := hrel
            clear y6 y7 hsz hsp' hlt hj
            have y7 := hsp.sl (q := (aT, nT, cT)) z7
            simp only [slV] at y7
            have hsz := Nat.le_trans hsz0 hsp.below.size
            by_cases hlt : i < nT
            · obtain ⟨a', n', c', hv, hnc, hm, hx⟩ := hT
              simp only [Value.slice.injEq] at hv
              obtain ⟨rfl, rfl, rfl⟩ := hv
              obtain ⟨b, off, rfl, hbb, hcell⟩ := hx (by omega)
              have hlt' : (i : Int) < (nT : Int) := by omega
              have hi0 : (0 : Int) ≤ (i : Int) := by omega
              clear z5 z6 z8 hx
              obtain ⟨⟨T, q, t, ⟨_, _, _, _, _, _, r6, _, _, _, _, r11⟩, i0, i1⟩, _⟩ := (hcell i hlt).spoilt hsp
              have hsr := lawSpoil _ base _ i0
              go_wp2_with fail
              refine hsr.mono ?_
              rintro e w2 ⟨rfl, s2⟩
              have hsr2 := lawSpoil _ base _ (i1.spoilt s2)
              have r11' := s2.sl r11
              have y7' := s2.sl (q := (some ⟨b, off, none⟩, nT, cT)) y7
              simp only [slV] at y7'
              go_wp2_with fail
              refine hsr2.mono ?_
              rintro e w3 ⟨rfl, s3⟩
              have hsp3 := (hsp.trans s2).trans s3
              obtain ⟨⟨T', q', t', ⟨r0, _⟩, _⟩, hfz⟩ := (hcell i hlt).spoilt hsp3
              have y7'' := s3.sl (q := (some ⟨b, off, none⟩, nT, cT)) y7'
              simp only [slV] at y7''
              clear hcell hsr hsr2 y7 y7' hsp s2 s3 r6 r11 r11' i0 i1 z7
              generalize T'.st = x at r0
              go_wp2_with fail
              go_region
              go_wp2_with fail
              go_roundw
              case rel => exact ⟨i + 1, by omega, by go_num, hsp3.trans ((Spoilt.le (Nat.le_trans hsz0 hsp3.below.size) (Le.drew _)).trans (Spoilt.store r0 hbb))⟩
              case measure => simp [intOf]; omega
            · clear hT
              go_wp2_with fail
              go_end0
              exact ⟨rfl, hs0.trans hsp⟩

end Go.Proofs.YtibleipfablniaaGreat

/-
  THE WALK over the law Starts: it answers true and turns nothing that was there, for every Config and machine. Condition: that the machine's rows can be copied.
-/
namespace Go.Proofs.YtibleipfablniaaGreat
open Go.RowKit

theorem refNewM {c : Cfg} {M : Mc} {er : Int} (h : newM c = (M, er)) (w : World) : Calls Tryz.prog 7 #[cfgV c.o c.r c.l c.t c.s] w fun e w' => ∃ qR qP qT qH, e = .returned (.tuple #[machV M.c qR qP qT qH, .int .i64 er]) ∧ OwnM w' w.heap.size (machV M.c qR qP qT qH) M ∧ Le w w' := by
  have := refNew c w
  rw [h] at this
  refine this.mono ?_
  rintro e w' ⟨v', rfl, o, l⟩
  obtain ⟨qR, qP, qT, qH, rfl⟩ := o.open
  exact ⟨qR, qP, qT, qH, rfl, o, l⟩

set_option maxRecDepth 4000 in
set_option maxHeartbeats 4000000 in
theorem lawStarts (w : World) (o r l t s : Int) (v : Value) (M0 : Mc) (hx : HasM w v M0) (hf : FitM M0) : Calls Tryz.prog 3 #[cfgV o r l t s, v] w fun e w' => e = .returned (.bool true) ∧ Le w w' := by
  have hx0 := hx
  obtain ⟨c0, Rs, Ps, Ts, Es⟩ := M0
  obtain ⟨qR, qP, qT, qH, rfl, _, _, _, _⟩ := hx
  simp only at hx0
  obtain ⟨M, er, hN⟩ : ∃ M er, newM ⟨o, r, l, t, s⟩ = (M, er) := ⟨_, _, rfl⟩
  have hfit : FitM M := by have := fitM_new ⟨o, r, l, t, s⟩; rw [hN] at this; exact this
  have n1 := fun w' => startNewAs hN w'
  have n2 := fun w' => refNewM hN w'
  clear hN
  simp only at n1 n2
  have hl := (Le.alloc w (.cells #[.int .i64 o, .int .i64 r, .int .i64 l, .int .i64 t, .int .i64 s] 23)).trans (Le.alloc _ (.cells (cells9 c0 qR qP qT qH) 29))
  have hb := (Box.new w #[.int .i64 o, .int .i64 r, .int .i64 l, .int .i64 t, .int .i64 s] 23).le (Le.alloc _ (.cells (cells9 c0 qR qP qT qH) 29))
  have hb0 := Box.new (w.alloc (.cells #[.int .i64 o, .int .i64 r, .int .i64 l, .int .i64 t, .int .i64 s] 23)) (cells9 c0 qR qP qT qH) 29
  rw [World.size_alloc] at hb0
  go_enter Tryz.func3, Tryz.ntmps3
  go_upto_region 1 with fail
  generalize hW : (w.alloc (.cells #[.int .i64 o, .int .i64 r, .int .i64 l, .int .i64 t, .int .i64 s] 23)).alloc (.cells (cells9 c0 qR qP qT qH) 29) = W0 at hl hb hb0 ⊢
  clear hW
  obtain ⟨⟨y0, y1, y2, y3, y4⟩, y5, y6, y7, y8⟩ := hb0.mach
  go_wp2_with fail
  refine (copyMachineAs _ _ _ (hx0.le hl) hf).mono ?_
  rintro e w1 ⟨xR, xP, xT, xH, rfl, o1, l1⟩
  clear y0 y1 y2 y3 y4 y5 y6 y7 y8
  have hb1 := Box.new w1 (cells9 c0 xR xP xT xH) 29
  have a1 := Le.alloc w1 (.cells (cells9 c0 xR xP xT xH) 29)
  go_upto_region 2 with fail
  generalize hW1 : w1.alloc (.cells (cells9 c0 xR xP xT xH) 29) = W1 at hb1 a1 ⊢
  generalize w1.heap.size = g1 at hb1 ⊢
  clear hW1
  replace o1 := o1.le a1
  have l01 := l1.trans a1
  replace hb := hb.le l01
  replace hb0 := hb0.le l01
  replace hl := hl.trans l01
  clear l1 a1 l01
  obtain ⟨z0, z1, z2, z3, z4⟩ := hb.slot
  go_wp2_with fail
  refine (n1 _).mono ?_
  rintro e w2 ⟨aR, aP, aT, aH, rfl, o2, l2⟩
  have hb2 := Box.new w2 (cells9 M.c aR aP aT aH) 29
  have a2 := Le.alloc w2 (.cells (cells9 M.c aR aP aT aH) 29)
  clear z0 z1 z2 z3 z4
  go_upto_region 3 with fail
  generalize hW2 : w2.alloc (.cells (cells9 M.c aR aP aT aH) 29) = W2 at hb2 a2 ⊢
  generalize w2.heap.size = g2 at hb2 ⊢
  clear hW2
  replace o2 := o2.le a2
  have l12 := l2.trans a2
  clear l2 a2
  obtain ⟨z0, z1, z2, z3, z4⟩ := (hb.le l12).slot
  go_wp2_with fail
  refine (n2 _).mono ?_
  rintro e w3 ⟨bR, bP, bT, bH, rfl, o3, l3⟩
  have hb3 := Box.new w3 (cells9 M.c bR bP bT bH) 29
  have a3 := Le.alloc w3 (.cells (cells9 M.c bR bP bT bH) 29)
  clear z0 z1 z2 z3 z4
  go_upto_region 4 with fail
  generalize hW3 : w3.alloc (.cells (cells9 M.c bR bP bT bH) 29) = W3 at hb3 a3 ⊢
  generalize w3.heap.size = g3 at hb3 ⊢
  clear hW3
  replace o3 := o3.le a3
  have l23 := l3.trans a3
  have l13 := l12.trans l23
  clear l3 a3 l12
  replace o2 := o2.le l23
  replace hb2 := hb2.le l23
  have hs := fun X : Later W3 => lawSameMachine _ _ M M X.w (o2.has.le X.le) (o3.has.le X.le) hfit
  simp only [decide_true] at hs
  have m1 := fun X : Later W3 => startMay _ ⟨c0, Rs, Ps, Ts, Es⟩ X.w ((o1.has.le l13).le X.le) hf
  have m2 := fun X : Later W3 => rmMay _ ⟨c0, Rs, Ps, Ts, Es⟩ X.w (((hx0.le hl).le l13).le X.le) hf
  obtain ⟨B, hB⟩ : ∃ B, B = mayM ⟨c0, Rs, Ps, Ts, Es⟩ := ⟨_, rfl⟩
  rw [← hB] at m1 m2
  clear hB
  obtain ⟨⟨y0, y1, y2, y3, y4⟩, y5, y6, y7, y8⟩ := (hb1.le l13).mach
  obtain ⟨⟨x0, x1, x2, x3, x4⟩, x5, x6, x7, x8⟩ := (hb0.le l13).mach
  obtain ⟨⟨p0, p1, p2, p3, p4⟩, p5, p6, p7, p8⟩ := hb2.mach
  obtain ⟨⟨q0, q1, q2, q3, q4⟩, q5, q6, q7, q8⟩ := hb3.mach
  replace y0 := cell_later' y0
  replace y1 := cell_later' y1
  replace y2 := cell_later' y2
  replace y3 := cell_later' y3
  replace y4 := cell_later' y4
  replace y5 := cell_later' y5
  replace y6 := cell_later' y6
  replace y7 := cell_later' y7
  replace y8 := cell_later' y8
  replace x0 := cell_later' x0
  replace x1 := cell_later' x1
  replace x2 := cell_later' x2
  replace x3 := cell_later' x3
  replace x4 := cell_later' x4
  replace x5 := cell_later' x5
  replace x6 := cell_later' x6
  replace x7 := cell_later' x7
  replace x8 := cell_later' x8
  replace p0 := cell_later' p0
  replace p1 := cell_later' p1
  replace p2 := cell_later' p2
  replace p3 := cell_later' p3
  replace p4 := cell_later' p4
  replace p5 := cell_later' p5
  replace p6 := cell_later' p6
  replace p7 := cell_later' p7
  replace p8 := cell_later' p8
  replace q0 := cell_later' q0
  replace q1 := cell_later' q1
  replace q2 := cell_later' q2
  replace q3 := cell_later' q3
  replace q4 := cell_later' q4
  replace q5 := cell_later' q5
  replace q6 := cell_later' q6
  replace q7 := cell_later' q7
  replace q8 := cell_later' q8
  have hi2 := fun X : Later W3 => (o2.le X.le).ints hfit
  refine wp_region_later (by kernel_rfl) (by kernel_rfl) ?_
  repeat (go_big_quiet_step (first | (go_at_call 9; exact Calls.later_same (lawNum _ _)) | (go_at_call 8; with_reducible exact Calls.later (hs _)) | (go_at_call 10; with_reducible exact Calls.later (m1 _)) | (go_at_call 11; with_reducible exact Calls.later (m2 _))))
  refine wpQuiet_nil ?_
  rintro _ ⟨x, rfl⟩
  have hBB : (B != B) = false := by simp
  replace p0 := p0 x
  replace p1 := p1 x
  replace p2 := p2 x
  replace p3 := p3 x
  replace p4 := p4 x
  replace p5 := p5 x
  replace p6 := p6 x
  replace p7 := p7 x
  replace p8 := p8 x
  clear y0 y1 y2 y3 y4 y5 y6 y7 y8 x0 x1 x2 x3 x4 x5 x6 x7 x8 q0 q1 q2 q3 q4 q5 q6 q7 q8
  go_wp2_with fail
  refine (lawSpoilMachine _ _ _ (hi2 x) (by have := l13.size; have := x.le.size; omega)).mono ?_
  rintro e w4 ⟨rfl, k4⟩
  have lw : Le W1 w4 := Below.trans (l13.trans x.le) k4.below
  clear p0 p1 p2 p3 p4 p5 p6 p7 p8 hi2
  obtain ⟨⟨y0, y1, y2, y3, y4⟩, y5, y6, y7, y8⟩ := (hb1.le lw).mach
  obtain ⟨⟨x0, x1, x2, x3, x4⟩, x5, x6, x7, x8⟩ := (hb0.le lw).mach
  have hs2 := lawSameMachine _ _ ⟨c0, Rs, Ps, Ts, Es⟩ ⟨c0, Rs, Ps, Ts, Es⟩ w4 (o1.has.le lw) ((hx0.le hl).le lw) hf
  simp only [decide_true] at hs2
  go_wp2_with fail
  refine hs2.mono ?_
  rintro e w5 ⟨rfl, l5⟩
  go_wp2_with fail
  refine (lawAwake14 _).mono ?_
  rintro e w6 ⟨rfl, l6⟩
  go_wp2_with fail
  go_ret
  exact ⟨rfl, ((hl.trans lw).trans l5).trans l6⟩

end Go.Proofs.YtibleipfablniaaGreat

/-
  PLAIN GROUND: what a row's reading says of a Config that came in: five numbers. No condition.
-/
namespace Go.Proofs.YtibleipfablniaaGreat
open Go.ChangeShapes Go.WideShapes Go.ChangeAt Go.RowKit Go.Joins Go.Deep

theorem cellsCfg : Tryz.prog.cellsOf 23 = 5 := by kernel_rfl
theorem cellsInt1 : Tryz.prog.cellsOf 3 = 1 := by kernel_rfl

theorem array5c {α : Type} {cs : Array α} (h : cs.size = 5) : ∃ c0 c1 c2 c3 c4, cs = #[c0, c1, c2, c3, c4] := by
  obtain ⟨l⟩ := cs
  match l, h with
  | [c0, c1, c2, c3, c4], _ => exact ⟨c0, c1, c2, c3, c4, rfl⟩

theorem trod_struct5 {H : Type} {enc : TypeId × Value → H} {P : Program} {W : World} {base : Nat} {spare : Nat → Bool} {held : Bool} {t : TypeId} {f0 f1 f2 f3 f4 : Field} {fuel : Nat} {cs : List Value} {x : DataW H × List MemPlace} (ht : P.underlying t = some (.struct #[f0, f1, f2, f3, f4])) (h : DataW.trod enc P W base spare held fuel t cs = some x) :
    ∃ y0 y1 y2 y3 y4 n, x = (.agg [y0.1, y1.1, y2.1, y3.1, y4.1], y0.2 ++ (y1.2 ++ (y2.2 ++ (y3.2 ++ y4.2)))) ∧ cs.length = P.cellsOf t ∧ DataW.trod enc P W base spare held n f0.type ((cs.drop f0.offset).take (P.cellsOf f0.type)) = some y0 ∧
      DataW.trod enc P W base spare held n f1.type ((cs.drop f1.offset).take (P.cellsOf f1.type)) = some y1 ∧ DataW.trod enc P W base spare held n f2.type ((cs.drop f2.offset).take (P.cellsOf f2.type)) = some y2 ∧
      DataW.trod enc P W base spare held n f3.type ((cs.drop f3.offset).take (P.cellsOf f3.type)) = some y3 ∧ DataW.trod enc P W base spare held n f4.type ((cs.drop f4.offset).take (P.cellsOf f4.type)) = some y4 := by
  obtain ⟨xs, n, _, rfl, hl, hlen, hf⟩ := DataW.trod_struct ht h
  match xs, hlen with
  | [y0, y1, y2, y3, y4], _ => exact ⟨y0, y1, y2, y3, y4, n, by simp, hl, by simpa using hf 0 f0 rfl, by simpa using hf 1 f1 rfl, by simpa using hf 2 f2 rfl, by simpa using hf 3 f3 rfl, by simpa using hf 4 f4 rfl⟩

set_option maxRecDepth 20000 in
/-- Five cells that read as a Config are five numbers. -/
theorem trod_cfg {H : Type} {enc : TypeId × Value → H} {W : World} {n : Nat} {c0 c1 c2 c3 c4 : Value} {y : DataW H × List MemPlace} (h : DataW.trod enc Tryz.prog W 0 (fun _ => true) true n 23 [c0, c1, c2, c3, c4] = some y) :
    ∃ c r a t b : Int, c0 = .int .i64 c ∧ c1 = .int .i64 r ∧ c2 = .int .i64 a ∧ c3 = .int .i64 t ∧ c4 = .int .i64 b ∧ (Lit.int .i64 c).wf = true ∧ (Lit.int .i64 r).wf = true ∧ (Lit.int .i64 a).wf = true ∧ (Lit.int .i64 t).wf = true ∧ (Lit.int .i64 b).wf = true := by
  obtain ⟨y0, y1, y2, y3, y4, m, _, _, h0, h1, h2, h3, h4⟩ := trod_struct5 Tryz.underlying23 h
  simp [cellsInt1] at h0 h1 h2 h3 h4
  obtain ⟨c, e0, _, wc⟩ := DataW.trod_int Tryz.underlying3 h0
  obtain ⟨r, e1, _, wr⟩ := DataW.trod_int Tryz.underlying3 h1
  obtain ⟨a, e2, _, wa⟩ := DataW.trod_int Tryz.underlying3 h2
  obtain ⟨t, e3, _, wt⟩ := DataW.trod_int Tryz.underlying3 h3
  obtain ⟨b, e4, _, wb⟩ := DataW.trod_int Tryz.underlying3 h4
  simp at e0 e1 e2 e3 e4
  exact ⟨c, r, a, t, b, e0, e1, e2, e3, e4, wc, wr, wa, wt, wb⟩

set_option maxRecDepth 20000 in
/-- A Config, read. -/
theorem open_cfg {H : Type} {enc : TypeId × Value → H} {W : World} {base : Nat} {v : Value} {d : DataW H} {p : List MemPlace} (hv : Value.okWide Tryz.prog W .any base 23 v)
    (h : DataW.Trod enc Tryz.prog W 0 (fun _ => true) true 23 v d p) : ∃ o r l t s : Int, v = cfgV o r l t s := by
  obtain ⟨cs, rfl, hsz⟩ := okWide_struct Tryz.underlying23 hv
  obtain ⟨c0, c1, c2, c3, c4, rfl⟩ := array5c (hsz.trans cellsCfg)
  obtain ⟨fuel, hf⟩ := h
  obtain ⟨c, r, a, t, b, rfl, rfl, rfl, rfl, rfl, _⟩ := trod_cfg (by simpa [Value.cells] using hf)
  exact ⟨c, r, a, t, b, rfl⟩

end Go.Proofs.YtibleipfablniaaGreat

/-
  PLAIN GROUND: what a row's reading says of a slot that came in: five numbers. No condition.
-/
namespace Go.Proofs.YtibleipfablniaaGreat
open Go.ChangeShapes Go.WideShapes Go.ChangeAt Go.RowKit Go.Joins Go.Deep

theorem cellsOp : Tryz.prog.cellsOf 48 = 3 := by kernel_rfl
theorem cellsInt : Tryz.prog.cellsOf 3 = 1 := by kernel_rfl
theorem cellsSlot : Tryz.prog.cellsOf 50 = 5 := by kernel_rfl

theorem array5 {α : Type} {cs : Array α} (h : cs.size = 5) : ∃ c0 c1 c2 c3 c4, cs = #[c0, c1, c2, c3, c4] := by
  obtain ⟨l⟩ := cs
  match l, h with
  | [c0, c1, c2, c3, c4], _ => exact ⟨c0, c1, c2, c3, c4, rfl⟩

set_option maxRecDepth 20000 in
/-- Five cells that read as a slot are five numbers. -/
theorem trod_slot {H : Type} {enc : TypeId × Value → H} {W : World} {n : Nat} {c0 c1 c2 c3 c4 : Value} {y : DataW H × List MemPlace} (h : DataW.trod enc Tryz.prog W 0 (fun _ => true) true n 50 [c0, c1, c2, c3, c4] = some y) :
    ∃ c r a t b : Int, c0 = .int .i64 c ∧ c1 = .int .i64 r ∧ c2 = .int .i64 a ∧ c3 = .int .i64 t ∧ c4 = .int .i64 b ∧ (Lit.int .i64 c).wf = true ∧ (Lit.int .i64 r).wf = true ∧ (Lit.int .i64 a).wf = true ∧ (Lit.int .i64 t).wf = true ∧ (Lit.int .i64 b).wf = true := by
  obtain ⟨y0, y1, y2, m, _, _, h0, h1, h2⟩ := trod_struct3 Tryz.underlying50 h
  simp [cellsOp, cellsInt] at h0 h1 h2
  obtain ⟨z0, z1, z2, m', _, _, g0, g1, g2⟩ := trod_struct3 Tryz.underlying48 h0
  simp [cellsInt] at g0 g1 g2
  obtain ⟨c, e0, _, wc⟩ := DataW.trod_int Tryz.underlying3 g0
  obtain ⟨r, e1, _, wr⟩ := DataW.trod_int Tryz.underlying3 g1
  obtain ⟨a, e2, _, wa⟩ := DataW.trod_int Tryz.underlying3 g2
  obtain ⟨t, e3, _, wt⟩ := DataW.trod_int Tryz.underlying3 h1
  obtain ⟨b, e4, _, wb⟩ := DataW.trod_int Tryz.underlying3 h2
  simp at e0 e1 e2 e3 e4
  exact ⟨c, r, a, t, b, e0, e1, e2, e3, e4, wc, wr, wa, wt, wb⟩

set_option maxRecDepth 20000 in
/-- A slot, read. -/
theorem open_slot {H : Type} {enc : TypeId × Value → H} {W : World} {base : Nat} {v : Value} {d : DataW H} {p : List MemPlace} (hv : Value.okWide Tryz.prog W .any base 50 v)
    (h : DataW.Trod enc Tryz.prog W 0 (fun _ => true) true 50 v d p) : ∃ c r a t b : Int, v = slotV c r a t b := by
  obtain ⟨cs, rfl, hsz⟩ := okWide_struct Tryz.underlying50 hv
  obtain ⟨c0, c1, c2, c3, c4, rfl⟩ := array5 (hsz.trans cellsSlot)
  obtain ⟨fuel, hf⟩ := h
  obtain ⟨c, r, a, t, b, rfl, rfl, rfl, rfl, rfl, _⟩ := trod_slot (by simpa [Value.cells] using hf)
  exact ⟨c, r, a, t, b, rfl⟩

end Go.Proofs.YtibleipfablniaaGreat

/-
  PLAIN GROUND: what a row's reading says of a ring that came in: its three numbers and its slots, and that the slots can be copied. No condition.
-/
namespace Go.Proofs.YtibleipfablniaaGreat
open Go.ChangeShapes Go.WideShapes Go.ChangeAt Go.RowKit Go.Joins Go.Deep

theorem bytesSlot : Tryz.prog.bytesOf 50 = 40 := by kernel_rfl
theorem cellsRing : Tryz.prog.cellsOf 46 = 4 := by kernel_rfl
theorem cellsSlots : Tryz.prog.cellsOf 44 = 1 := by kernel_rfl

set_option maxRecDepth 20000 in
/-- A slice of slots, read. -/
theorem open_slots {H : Type} {enc : TypeId × Value → H} {W : World} {n : Nat} {c : Value} {y : DataW H × List MemPlace} (h : DataW.trod enc Tryz.prog W 0 (fun _ => true) true n 44 [c] = some y)
    (hs : ∀ k ∈ y.1.weights Tryz.prog 44, k ≤ reachBytes) : ∃ ss, HasL W c ss ∧ ss.length * 40 ≤ 140737488351232 := by
  rcases open_slice Tryz.underlying44 h with ⟨hcs, _⟩ | ⟨a, len, cap, m, n', D, Pl, hcs, _, hl, hm, hmm, rfl, hx⟩
  · simp at hcs
    subst hcs
    exact ⟨[], HasL.nil _, by decide⟩
  · simp at hcs
    subst hcs
    simp only [if_true] at hmm
    subst hmm
    rw [cellsSlot] at hx
    have hw := hs _ (by simp [DataW.weights, Tryz.underlying44]; exact Or.inl rfl)
    rw [bytesSlot] at hw
    have each : ∀ i, i < m → ∃ s : Slt, ∀ j, j < 5 → W.cell? ((a.add (i * 5)).add j) = s.vals[j]? := by
      intro i hi
      obtain ⟨cs', h1, h2⟩ := hx i hi
      obtain ⟨_, hlen, hcell⟩ := World.cells?_some h1
      match cs', hlen with
      | [c0, c1, c2, c3, c4], _ =>
        obtain ⟨c, r, a', t, b, rfl, rfl, rfl, rfl, rfl, _⟩ := trod_slot h2
        exact ⟨⟨c, r, a', t, b⟩, fun j hj => by rw [hcell j (by omega)]; rfl⟩
    have : Inhabited Slt := ⟨Slt.zero⟩
    obtain ⟨s, hsl⟩ := choose_lt each
    refine ⟨(List.range len).map s, ?_, by rw [List.length_map, List.length_range]; simp only [reachBytes] at hw; omega⟩
    have hlen : ((List.range len).map s).length = len := by simp
    refine ⟨some a, m, by rw [hlen], by rw [hlen]; exact hl, (fun h => by cases h), fun hp => ?_⟩
    rw [hlen] at hp ⊢
    obtain ⟨b, off, spot⟩ := a
    have hc := hsl 0 (by omega) 0 (by omega)
    have hspot : spot = none := by simpa [Addr.add] using World.cell?_spot hc
    subst hspot
    refine ⟨b, off, rfl, fun i hi => SlotAt.of fun j hj => ?_⟩
    have h1 := hsl i (by omega) j hj
    rw [add_plain, add_plain] at h1
    rw [h1]
    simp [List.getD, hi]

set_option maxRecDepth 20000 in
/-- A ring, read. -/
theorem open_ring {H : Type} {enc : TypeId × Value → H} {W : World} {base : Nat} {v : Value} {d : DataW H} {p : List MemPlace} (hv : Value.okWide Tryz.prog W .any base 46 v)
    (h : DataW.Trod enc Tryz.prog W 0 (fun _ => true) true 46 v d p) (hs : ∀ k ∈ d.weights Tryz.prog 46, k ≤ reachBytes) : ∃ R, HasR W v R ∧ FitR R ∧ (Lit.int .i64 R.h).wf = true ∧ (Lit.int .i64 R.t).wf = true ∧ (Lit.int .i64 R.f).wf = true := by
  obtain ⟨cs, rfl, hsz⟩ := okWide_struct Tryz.underlying46 hv
  obtain ⟨c0, c1, c2, c3, rfl⟩ := array4 (hsz.trans cellsRing)
  obtain ⟨fuel, hf⟩ := h
  obtain ⟨y0, y1, y2, y3, n, hx, _, h0, h1, h2, h3⟩ := trod_struct4 Tryz.underlying46 hf
  simp [Value.cells, cellsInt, cellsSlots] at h0 h1 h2 h3
  have hd : d = .agg [y0.1, y1.1, y2.1, y3.1] := congrArg Prod.fst hx
  obtain ⟨x0, e0, _, w0⟩ := DataW.trod_int Tryz.underlying3 h0
  obtain ⟨x1, e1, _, w1⟩ := DataW.trod_int Tryz.underlying3 h1
  obtain ⟨x2, e2, _, w2⟩ := DataW.trod_int Tryz.underlying3 h2
  simp at e0 e1 e2
  subst e0 e1 e2
  obtain ⟨ss, a0, b0⟩ := open_slots h3 (fun k hk => hs k (by
    rw [hd]
    simp [DataW.weights, DataW.weightsEach, Tryz.underlying46]
    exact Or.inr (Or.inr (Or.inr hk))))
  obtain ⟨q, rfl⟩ := a0.sl
  exact ⟨⟨x0, x1, x2, ss⟩, ⟨q, rfl, a0⟩, b0, w0, w1, w2⟩

end Go.Proofs.YtibleipfablniaaGreat

/-
  PLAIN GROUND: what a row's reading says of a slice of numbers and of a state that came in: the numbers that each row holds, and that its bytes are within the reach. No condition.
-/
namespace Go.Proofs.YtibleipfablniaaGreat
open Go.ChangeShapes Go.WideShapes Go.ChangeAt Go.RowKit Go.Joins

theorem bytesInt : Tryz.prog.bytesOf 3 = 8 := by kernel_rfl
theorem cellsState : Tryz.prog.cellsOf 54 = 4 := by kernel_rfl
theorem cellsRows : Tryz.prog.cellsOf 52 = 4 := by kernel_rfl
theorem cellsInts : Tryz.prog.cellsOf 51 = 1 := by kernel_rfl

theorem has_of_ints {w : World} {a : Addr} {len cap : Nat} {zs : List Int} (hl : len ≤ cap) (hz : zs.length = cap) (hcell : ∀ i, i < zs.length → w.cell? (a.add i) = some (.int .i64 (zs.getD i 0))) : Has w (.slice (some a) len cap) (zs.take len) := by
  have hlen : (zs.take len).length = len := by rw [List.length_take]; omega
  refine ⟨some a, cap, by rw [hlen], by rw [hlen]; exact hl, (fun h => by cases h), fun hp => ?_⟩
  rw [hlen] at hp ⊢
  obtain ⟨b, off, spot⟩ := a
  have hc := hcell 0 (by omega)
  have hspot : spot = none := by simpa [Addr.add] using World.cell?_spot hc
  subst hspot
  refine ⟨b, off, rfl, fun i hi => ?_⟩
  have h1 := hcell i (by omega)
  rw [add_plain] at h1
  rw [h1]
  simp [List.getD, hi]

set_option maxRecDepth 20000 in
/-- A slice of numbers, read. -/
theorem open_nums {H : Type} {enc : TypeId × Value → H} {W : World} {n : Nat} {c : Value} {y : DataW H × List MemPlace} (h : DataW.trod enc Tryz.prog W 0 (fun _ => true) true n 51 [c] = some y)
    (hs : ∀ k ∈ y.1.weights Tryz.prog 51, k ≤ reachBytes) : ∃ xs, Has W c xs ∧ xs.length * 8 ≤ 140737488351232 := by
  rcases open_ints Tryz.underlying51 Tryz.underlying3 (by kernel_rfl) h with ⟨hcs, _⟩ | ⟨x, l, cp, zs, hcs, _, hl, hm, hz, hd, hcell, hwz⟩
  · simp at hcs
    subst hcs
    exact ⟨[], Has.nil _, by decide⟩
  · simp at hcs
    subst hcs
    have hd0 : y.1 = .slice (lits .i64 (zs.take l)) (lits .i64 (zs.drop l)) := congrArg Prod.fst hd
    have := hs _ (by rw [hd0]; simp [DataW.weights, Tryz.underlying51]; exact Or.inl rfl)
    rw [bytesInt] at this
    simp only [lits, List.length_map, List.length_take, List.length_drop, reachBytes] at this
    exact ⟨zs.take l, has_of_ints hl (by simpa using hz) hcell, by rw [List.length_take]; omega⟩

set_option maxRecDepth 20000 in
/-- A state, read. -/
theorem open_state {H : Type} {enc : TypeId × Value → H} {W : World} {base : Nat} {v : Value} {d : DataW H} {p : List MemPlace} (hv : Value.okWide Tryz.prog W .any base 54 v)
    (h : DataW.Trod enc Tryz.prog W 0 (fun _ => true) true 54 v d p) (hs : ∀ k ∈ d.weights Tryz.prog 54, k ≤ reachBytes) : ∃ s, HasS W v s ∧ Fit s := by
  obtain ⟨cs, rfl, hsz⟩ := okWide_struct Tryz.underlying54 hv
  obtain ⟨c0, c1, c2, c3, rfl⟩ := array4 (hsz.trans cellsState)
  obtain ⟨fuel, hf⟩ := h
  obtain ⟨y, n, hx, _, h1⟩ := trod_struct1 Tryz.underlying54 hf
  simp [Value.cells, cellsRows] at h1
  obtain ⟨y0, y1, y2, y3, m, hy, t0, t1, t2, t3⟩ := trod_array4 Tryz.underlying52 cellsInts h1
  have hd : d = .agg [.agg [y0.1, y1.1, y2.1, y3.1]] := by
    have := congrArg Prod.fst hx
    simp only [hy] at this
    exact this
  have hw : ∀ k, k ∈ y0.1.weights Tryz.prog 51 ∨ k ∈ y1.1.weights Tryz.prog 51 ∨ k ∈ y2.1.weights Tryz.prog 51 ∨ k ∈ y3.1.weights Tryz.prog 51 → k ≤ reachBytes := by
    intro k hk
    refine hs k ?_
    rw [hd]
    simp [DataW.weights, DataW.weightsEach, DataW.weightsAll, Tryz.underlying54, Tryz.underlying52]
    exact hk
  obtain ⟨x0, a0, b0⟩ := open_nums t0 (fun k hk => hw k (.inl hk))
  obtain ⟨x1, a1, b1⟩ := open_nums t1 (fun k hk => hw k (.inr (.inl hk)))
  obtain ⟨x2, a2, b2⟩ := open_nums t2 (fun k hk => hw k (.inr (.inr (.inl hk))))
  obtain ⟨x3, a3, b3⟩ := open_nums t3 (fun k hk => hw k (.inr (.inr (.inr hk))))
  obtain ⟨q0, rfl⟩ := a0.sl
  obtain ⟨q1, rfl⟩ := a1.sl
  obtain ⟨q2, rfl⟩ := a2.sl
  obtain ⟨q3, rfl⟩ := a3.sl
  refine ⟨⟨x0, x1, x2, x3⟩, ⟨fun i => match i with | 0 => q0 | 1 => q1 | 2 => q2 | _ => q3, rfl, fun i hi => ?_⟩, fun i hi => ?_⟩
  · rcases four hi with rfl | rfl | rfl | rfl
    · exact a0
    · exact a1
    · exact a2
    · exact a3
  · rcases four hi with rfl | rfl | rfl | rfl
    · exact b0
    · exact b1
    · exact b2
    · exact b3

end Go.Proofs.YtibleipfablniaaGreat

/-
  PLAIN GROUND: what a row's reading says of a machine that came in: its Config's numbers, its logs, replicas, threads and events, and that all of it can be copied. No condition.
-/
namespace Go.Proofs.YtibleipfablniaaGreat
open Go.ChangeShapes Go.WideShapes Go.ChangeAt Go.RowKit Go.Joins Go.Deep

theorem weightsAll_mem {H : Type} {P : Program} {e : TypeId} {d : DataW H} {k : Nat} (hk : k ∈ d.weights P e) : ∀ l : List (DataW H), d ∈ l → k ∈ DataW.weightsAll P e l
  | [], h => by cases h
  | x :: l, h => by
    unfold DataW.weightsAll
    rcases List.mem_cons.1 h with rfl | h
    · exact List.mem_append.2 (.inl hk)
    · exact List.mem_append.2 (.inr (weightsAll_mem hk l h))

/-- A slice of elements, read. -/
theorem open_row {α : Type} (K : Kind α) {tS : TypeId} (hu : Tryz.prog.underlying tS = some (.slice K.t)) (hc : Tryz.prog.cellsOf K.t = K.k) (hb : Tryz.prog.bytesOf K.t = K.by') {H : Type} {enc : TypeId × Value → H} {W : World} (G : α → Prop)
    (hel : ∀ (n : Nat) (cs : List Value) (y : DataW H × List MemPlace), cs.length = K.k → DataW.trod enc Tryz.prog W 0 (fun _ => true) true n K.t cs = some y → (∀ k ∈ y.1.weights Tryz.prog K.t, k ≤ reachBytes) → ∃ x : α, cs = K.f x ∧ G x)
    {n : Nat} {c : Value} {y : DataW H × List MemPlace} (h : DataW.trod enc Tryz.prog W 0 (fun _ => true) true n tS [c] = some y) (hs : ∀ k ∈ y.1.weights Tryz.prog tS, k ≤ reachBytes) : ∃ xs, HasE K W c xs ∧ (∀ x ∈ xs, G x) ∧ xs.length * K.by' ≤ 140737488351232 := by
  rcases open_slice hu h with ⟨hcs, _⟩ | ⟨a, len, cap, m, n', D, Pl, hcs, _, hl, hm, hmm, rfl, hx⟩
  · simp at hcs
    subst hcs
    exact ⟨[], HasE.nil _ _, (fun x h => by cases h), by simp⟩
  · simp at hcs
    subst hcs
    simp only [if_true] at hmm
    subst hmm
    rw [hc] at hx
    have hw := hs _ (by simp [DataW.weights, hu]; exact Or.inl rfl)
    rw [hb] at hw
    have each : ∀ i, i < len → ∃ x : α, (∀ j, j < K.k → W.cell? ((a.add (i * K.k)).add j) = (K.f x)[j]?) ∧ G x := by
      intro i hi
      obtain ⟨cs', h1, h2⟩ := hx i (by omega)
      obtain ⟨_, hlen, hcell⟩ := World.cells?_some h1
      obtain ⟨x, rfl, hg⟩ := hel n' cs' _ hlen h2 (fun k hk => hs k (by
        simp only [DataW.weights, hu]
        refine List.mem_cons_of_mem _ (List.mem_append.2 (.inl (weightsAll_mem hk _ ?_)))
        exact List.mem_map.2 ⟨i, List.mem_range.2 hi, rfl⟩))
      exact ⟨x, fun j hj => hcell j (by omega), hg⟩
    have : Inhabited α := ⟨K.d⟩
    obtain ⟨s, hsl⟩ := choose_lt each
    have hlen : ((List.range len).map s).length = len := by simp
    refine ⟨(List.range len).map s, ?_, fun x hx => ?_, ?_⟩
    · refine ⟨some a, m, by rw [hlen], by rw [hlen]; exact hl, (fun h => by cases h), fun hp => ?_⟩
      rw [hlen] at hp ⊢
      obtain ⟨b, off, spot⟩ := a
      have hk := K.pos
      have hc0 := (hsl 0 (by omega)).1 0 hk
      have hlt : 0 < (K.f (s 0)).length := by rw [K.len]; exact hk
      rw [List.getElem?_eq_getElem hlt] at hc0
      have hspot : spot = none := by simpa [Addr.add] using World.cell?_spot hc0
      subst hspot
      refine ⟨b, off, rfl, fun i hi j hj => ?_⟩
      have h1 := (hsl i hi).1 j hj
      rw [add_plain, add_plain] at h1
      rw [h1]
      simp [List.getD, hi]
    · obtain ⟨i, hi, rfl⟩ := List.mem_map.1 hx
      exact (hsl i (List.mem_range.1 hi)).2
    · rw [hlen]
      simp only [reachBytes] at hw
      have : len * K.by' ≤ (len + (m - len)) * K.by' := Nat.mul_le_mul_right _ (by omega)
      omega

theorem cellsInt2 : Tryz.prog.cellsOf 3 = 1 := by kernel_rfl
theorem cellsBool : Tryz.prog.cellsOf 4 = 1 := by kernel_rfl
theorem cellsOp2 : Tryz.prog.cellsOf 48 = 3 := by kernel_rfl

/-- Four cells that read as a ring. -/
theorem open_ringE {H : Type} {enc : TypeId × Value → H} {W : World} (n : Nat) (cs : List Value) (y : DataW H × List MemPlace) (hlen : cs.length = 4) (h : DataW.trod enc Tryz.prog W 0 (fun _ => true) true n 46 cs = some y) (hs : ∀ k ∈ y.1.weights Tryz.prog 46, k ≤ reachBytes) :
    ∃ x : LR, cs = LR.cells x ∧ HasL W (slV x.q) x.R.ss ∧ FitR x.R := by
  match cs, hlen with
  | [c0, c1, c2, c3], _ =>
    obtain ⟨y0, y1, y2, y3, n, hx, _, h0, h1, h2, h3⟩ := trod_struct4 Tryz.underlying46 h
    simp [cellsInt2, cellsSlots] at h0 h1 h2 h3
    have hd : y.1 = .agg [y0.1, y1.1, y2.1, y3.1] := congrArg Prod.fst hx
    obtain ⟨x0, e0, _, w0⟩ := DataW.trod_int Tryz.underlying3 h0
    obtain ⟨x1, e1, _, w1⟩ := DataW.trod_int Tryz.underlying3 h1
    obtain ⟨x2, e2, _, w2⟩ := DataW.trod_int Tryz.underlying3 h2
    simp at e0 e1 e2
    subst e0 e1 e2
    obtain ⟨ss, a0, b0⟩ := open_slots h3 (fun k hk => hs k (by
      rw [hd]
      simp [DataW.weights, DataW.weightsEach, Tryz.underlying46]
      exact Or.inr (Or.inr (Or.inr hk))))
    obtain ⟨q, rfl⟩ := a0.sl
    exact ⟨⟨⟨x0, x1, x2, ss⟩, q⟩, rfl, a0, b0⟩

/-- Six cells that read as a replica. -/
theorem open_repE {H : Type} {enc : TypeId × Value → H} {W : World} (n : Nat) (cs : List Value) (y : DataW H × List MemPlace) (hlen : cs.length = 6) (h : DataW.trod enc Tryz.prog W 0 (fun _ => true) true n 56 cs = some y) (hs : ∀ k ∈ y.1.weights Tryz.prog 56, k ≤ reachBytes) :
    ∃ x : LP, cs = LP.cells x ∧ (∀ i, i < 4 → Has W (slV (x.vs i)) (x.P.s.at i)) ∧ Has W (slV x.c) x.P.cs ∧ Has W (slV x.l) x.P.ls ∧ Fit x.P.s ∧ x.P.cs.length * 8 ≤ 140737488351232 ∧ x.P.ls.length * 8 ≤ 140737488351232 := by
  match cs, hlen with
  | [c0, c1, c2, c3, c4, c5], _ =>
    obtain ⟨ys, m, _, hx, _, hlen', hf⟩ := DataW.trod_struct Tryz.underlying56 h
    match ys, hlen' with
    | [y0, y1, y2], _ =>
      have hd : y.1 = .agg [y0.1, y1.1, y2.1] := congrArg Prod.fst hx
      have h0 := hf 0 _ rfl
      have h1 := hf 1 _ rfl
      have h2 := hf 2 _ rfl
      simp [cellsState, cellsInts] at h0 h1 h2
      have hw : ∀ k, k ∈ y0.1.weights Tryz.prog 54 ∨ k ∈ y1.1.weights Tryz.prog 51 ∨ k ∈ y2.1.weights Tryz.prog 51 → k ≤ reachBytes := fun k hk => hs k (by
        rw [hd]
        simp [DataW.weights, DataW.weightsEach, Tryz.underlying56]
        exact hk)
      obtain ⟨z, m1, hz, _, g1⟩ := trod_struct1 Tryz.underlying54 h0
      simp [cellsRows] at g1
      obtain ⟨z0, z1, z2, z3, m2, hy, t0, t1, t2, t3⟩ := trod_array4 Tryz.underlying52 cellsInts g1
      have hd0 : y0.1 = .agg [.agg [z0.1, z1.1, z2.1, z3.1]] := by
        have := congrArg Prod.fst hz
        simp only [hy] at this
        exact this
      have hw0 : ∀ k, k ∈ z0.1.weights Tryz.prog 51 ∨ k ∈ z1.1.weights Tryz.prog 51 ∨ k ∈ z2.1.weights Tryz.prog 51 ∨ k ∈ z3.1.weights Tryz.prog 51 → k ≤ reachBytes := fun k hk => hw k (.inl (by
        rw [hd0]
        simp [DataW.weights, DataW.weightsEach, DataW.weightsAll, Tryz.underlying54, Tryz.underlying52]
        exact hk))
      obtain ⟨x0, a0, b0⟩ := open_nums t0 (fun k hk => hw0 k (.inl hk))
      obtain ⟨x1, a1, b1⟩ := open_nums t1 (fun k hk => hw0 k (.inr (.inl hk)))
      obtain ⟨x2, a2, b2⟩ := open_nums t2 (fun k hk => hw0 k (.inr (.inr (.inl hk))))
      obtain ⟨x3, a3, b3⟩ := open_nums t3 (fun k hk => hw0 k (.inr (.inr (.inr hk))))
      obtain ⟨x4, a4, b4⟩ := open_nums h1 (fun k hk => hw k (.inr (.inl hk)))
      obtain ⟨x5, a5, b5⟩ := open_nums h2 (fun k hk => hw k (.inr (.inr hk)))
      obtain ⟨q0, rfl⟩ := a0.sl
      obtain ⟨q1, rfl⟩ := a1.sl
      obtain ⟨q2, rfl⟩ := a2.sl
      obtain ⟨q3, rfl⟩ := a3.sl
      obtain ⟨q4, rfl⟩ := a4.sl
      obtain ⟨q5, rfl⟩ := a5.sl
      refine ⟨⟨⟨⟨x0, x1, x2, x3⟩, x4, x5⟩, fun i => match i with | 0 => q0 | 1 => q1 | 2 => q2 | _ => q3, q4, q5⟩, rfl, fun i hi => ?_, a4, a5, fun i hi => ?_, b4, b5⟩
      · rcases four hi with rfl | rfl | rfl | rfl
        · exact a0
        · exact a1
        · exact a2
        · exact a3
      · rcases four hi with rfl | rfl | rfl | rfl
        · exact b0
        · exact b1
        · exact b2
        · exact b3

/-- Three cells that read as an operation. -/
theorem trod_op {H : Type} {enc : TypeId × Value → H} {W : World} {n : Nat} {c0 c1 c2 : Value} {y : DataW H × List MemPlace} (h : DataW.trod enc Tryz.prog W 0 (fun _ => true) true n 48 [c0, c1, c2] = some y) : ∃ c r a : Int, c0 = .int .i64 c ∧ c1 = .int .i64 r ∧ c2 = .int .i64 a := by
  obtain ⟨ys, m, _, hx, _, hlen', hf⟩ := DataW.trod_struct Tryz.underlying48 h
  match ys, hlen' with
  | [y0, y1, y2], _ =>
    have h0 := hf 0 _ rfl
    have h1 := hf 1 _ rfl
    have h2 := hf 2 _ rfl
    simp [cellsInt2] at h0 h1 h2
    obtain ⟨x0, e0, _, _⟩ := DataW.trod_int Tryz.underlying3 h0
    obtain ⟨x1, e1, _, _⟩ := DataW.trod_int Tryz.underlying3 h1
    obtain ⟨x2, e2, _, _⟩ := DataW.trod_int Tryz.underlying3 h2
    simp at e0 e1 e2
    exact ⟨x0, x1, x2, e0, e1, e2⟩

/-- Six cells that read as an event. -/
theorem open_evE {H : Type} {enc : TypeId × Value → H} {W : World} (n : Nat) (cs : List Value) (y : DataW H × List MemPlace) (hlen : cs.length = 6) (h : DataW.trod enc Tryz.prog W 0 (fun _ => true) true n 60 cs = some y) (_hs : ∀ k ∈ y.1.weights Tryz.prog 60, k ≤ reachBytes) :
    ∃ x : Ev, cs = Ev.cells x ∧ True := by
  match cs, hlen with
  | [c0, c1, c2, c3, c4, c5], _ =>
    obtain ⟨ys, m, _, hx, _, hlen', hf⟩ := DataW.trod_struct Tryz.underlying60 h
    match ys, hlen' with
    | [y0, y1, y2, y3], _ =>
      have h0 := hf 0 _ rfl
      have h1 := hf 1 _ rfl
      have h2 := hf 2 _ rfl
      have h3 := hf 3 _ rfl
      simp [cellsInt2, cellsBool, cellsOp2] at h0 h1 h2 h3
      obtain ⟨x0, e0, _, _⟩ := DataW.trod_int Tryz.underlying3 h0
      obtain ⟨x1, e1, _⟩ := DataW.trod_bool Tryz.underlying4 h1
      obtain ⟨x2, x3, x4, e2, e3, e4⟩ := trod_op h2
      obtain ⟨x5, e5, _, _⟩ := DataW.trod_int Tryz.underlying3 h3
      simp at e0 e1 e5
      subst e0 e1 e2 e3 e4 e5
      exact ⟨⟨x0, x1, x2, x3, x4, x5⟩, rfl, trivial⟩

/-- Twelve cells that read as a thread. -/
theorem open_thE {H : Type} {enc : TypeId × Value → H} {W : World} (n : Nat) (cs : List Value) (y : DataW H × List MemPlace) (hlen : cs.length = 12) (h : DataW.trod enc Tryz.prog W 0 (fun _ => true) true n 58 cs = some y) (hs : ∀ k ∈ y.1.weights Tryz.prog 58, k ≤ reachBytes) :
    ∃ x : LT, cs = LT.cells x ∧ Has W (slV x.b) x.T.b ∧ Has W (slV x.t) x.T.tl ∧ x.T.b.length * 8 ≤ 140737488351232 ∧ x.T.tl.length * 8 ≤ 140737488351232 := by
  match cs, hlen with
  | [c0, c1, c2, c3, c4, c5, c6, c7, c8, c9, c10, c11], _ =>
    obtain ⟨ys, m, _, hx, _, hlen', hf⟩ := DataW.trod_struct Tryz.underlying58 h
    match ys, hlen' with
    | [y0, y1, y2, y3, y4, y5, y6, y7, y8, y9], _ =>
      have hd : y.1 = .agg [y0.1, y1.1, y2.1, y3.1, y4.1, y5.1, y6.1, y7.1, y8.1, y9.1] := congrArg Prod.fst hx
      have h0 := hf 0 _ rfl
      have h1 := hf 1 _ rfl
      have h2 := hf 2 _ rfl
      have h3 := hf 3 _ rfl
      have h4 := hf 4 _ rfl
      have h5 := hf 5 _ rfl
      have h6 := hf 6 _ rfl
      have h7 := hf 7 _ rfl
      have h8 := hf 8 _ rfl
      have h9 := hf 9 _ rfl
      simp [cellsInt2, cellsBool, cellsOp2, cellsInts] at h0 h1 h2 h3 h4 h5 h6 h7 h8 h9
      have hw : ∀ k, k ∈ y4.1.weights Tryz.prog 51 ∨ k ∈ y9.1.weights Tryz.prog 51 → k ≤ reachBytes := fun k hk => hs k (by
        rw [hd]
        simp only [DataW.weights, DataW.weightsEach, Tryz.underlying58, List.map_cons, List.map_nil, List.mem_append]
        rcases hk with hk | hk
        · exact .inr (.inr (.inr (.inr (.inl hk))))
        · exact .inr (.inr (.inr (.inr (.inr (.inr (.inr (.inr (.inr (.inl hk))))))))))
      obtain ⟨x0, e0, _, _⟩ := DataW.trod_int Tryz.underlying3 h0
      obtain ⟨x1, x2, x3, e1, e2, e3⟩ := trod_op h1
      obtain ⟨x4, e4, _, _⟩ := DataW.trod_int Tryz.underlying3 h2
      obtain ⟨x5, e5, _, _⟩ := DataW.trod_int Tryz.underlying3 h3
      obtain ⟨x6, a6, b6⟩ := open_nums h4 (fun k hk => hw k (.inl hk))
      obtain ⟨x7, e7, _, _⟩ := DataW.trod_int Tryz.underlying3 h5
      obtain ⟨x8, e8, _⟩ := DataW.trod_bool Tryz.underlying4 h6
      obtain ⟨x9, e9, _⟩ := DataW.trod_bool Tryz.underlying4 h7
      obtain ⟨x10, e10, _, _⟩ := DataW.trod_int Tryz.underlying3 h8
      obtain ⟨x11, a11, b11⟩ := open_nums h9 (fun k hk => hw k (.inr hk))
      simp at e0 e4 e5 e7 e8 e9 e10
      subst e0 e1 e2 e3 e4 e5 e7 e8 e9 e10
      obtain ⟨q6, rfl⟩ := a6.sl
      obtain ⟨q11, rfl⟩ := a11.sl
      exact ⟨⟨⟨x0, x1, x2, x3, x4, x5, x6, x7, x8, x9, x10, x11⟩, q6, q11⟩, rfl, a6, a11, b6, b11⟩

theorem cellsMach : Tryz.prog.cellsOf 29 = 9 := by kernel_rfl
theorem cellsS1 : Tryz.prog.cellsOf 24 = 1 := by kernel_rfl
theorem cellsS2 : Tryz.prog.cellsOf 25 = 1 := by kernel_rfl
theorem cellsS3 : Tryz.prog.cellsOf 26 = 1 := by kernel_rfl
theorem cellsS4 : Tryz.prog.cellsOf 27 = 1 := by kernel_rfl
theorem array9 {α : Type} {cs : Array α} (h : cs.size = 9) : ∃ c0 c1 c2 c3 c4 c5 c6 c7 c8, cs = #[c0, c1, c2, c3, c4, c5, c6, c7, c8] := by
  obtain ⟨l⟩ := cs
  match l, h with
  | [c0, c1, c2, c3, c4, c5, c6, c7, c8], _ => exact ⟨c0, c1, c2, c3, c4, c5, c6, c7, c8, rfl⟩

set_option maxRecDepth 20000 in
/-- A machine, read. -/
theorem open_mach {H : Type} {enc : TypeId × Value → H} {W : World} {base : Nat} {v : Value} {d : DataW H} {p : List MemPlace} (hv : Value.okWide Tryz.prog W .any base 29 v)
    (h : DataW.Trod enc Tryz.prog W 0 (fun _ => true) true 29 v d p) (hs : ∀ k ∈ d.weights Tryz.prog 29, k ≤ reachBytes) : ∃ M, HasM W v M ∧ FitM M := by
  obtain ⟨cs, rfl, hsz⟩ := okWide_struct Tryz.underlying29 hv
  obtain ⟨c0, c1, c2, c3, c4, c5, c6, c7, c8, rfl⟩ := array9 (hsz.trans cellsMach)
  obtain ⟨fuel, hf⟩ := h
  obtain ⟨y0, y1, y2, y3, y4, n, hx, _, h0, h1, h2, h3, h4⟩ := trod_struct5 Tryz.underlying29 hf
  simp [Value.cells, cellsCfg, cellsS1, cellsS2, cellsS3, cellsS4] at h0 h1 h2 h3 h4
  have hd : d = .agg [y0.1, y1.1, y2.1, y3.1, y4.1] := congrArg Prod.fst hx
  have hw : ∀ k, k ∈ y1.1.weights Tryz.prog 24 ∨ k ∈ y2.1.weights Tryz.prog 25 ∨ k ∈ y3.1.weights Tryz.prog 26 ∨ k ∈ y4.1.weights Tryz.prog 27 → k ≤ reachBytes := fun k hk => hs k (by
    rw [hd]
    simp [DataW.weights, DataW.weightsEach, Tryz.underlying29]
    exact Or.inr hk)
  obtain ⟨o, r, l, t, s, rfl, rfl, rfl, rfl, rfl, _⟩ := trod_cfg h0
  obtain ⟨rs, hR, gR, fR⟩ := open_row ringK (tS := 24) Tryz.underlying24 (by kernel_rfl) (by kernel_rfl) (fun x => HasL W (slV x.q) x.R.ss ∧ FitR x.R) (fun n cs y hl h hs => open_ringE n cs y hl h hs) h1 (fun k hk => hw k (.inl hk))
  obtain ⟨ps, hP, gP, fP⟩ := open_row repK (tS := 25) Tryz.underlying25 (by kernel_rfl) (by kernel_rfl) (fun x => (∀ i, i < 4 → Has W (slV (x.vs i)) (x.P.s.at i)) ∧ Has W (slV x.c) x.P.cs ∧ Has W (slV x.l) x.P.ls ∧ Fit x.P.s ∧ x.P.cs.length * 8 ≤ 140737488351232 ∧ x.P.ls.length * 8 ≤ 140737488351232) (fun n cs y hl h hs => open_repE n cs y hl h hs) h2 (fun k hk => hw k (.inr (.inl hk)))
  obtain ⟨ts, hT, gT, fT⟩ := open_row thK (tS := 26) Tryz.underlying26 (by kernel_rfl) (by kernel_rfl) (fun x => Has W (slV x.b) x.T.b ∧ Has W (slV x.t) x.T.tl ∧ x.T.b.length * 8 ≤ 140737488351232 ∧ x.T.tl.length * 8 ≤ 140737488351232) (fun n cs y hl h hs => open_thE n cs y hl h hs) h3 (fun k hk => hw k (.inr (.inr (.inl hk))))
  obtain ⟨es, hE, _, fE⟩ := open_row evK (tS := 27) Tryz.underlying27 (by kernel_rfl) (by kernel_rfl) (fun _ => True) (fun n cs y hl h hs => open_evE n cs y hl h hs) h4 (fun k hk => hw k (.inr (.inr (.inr hk))))
  obtain ⟨qR, rfl⟩ := hR.sl
  obtain ⟨qP, rfl⟩ := hP.sl
  obtain ⟨qT, rfl⟩ := hT.sl
  obtain ⟨qH, rfl⟩ := hE.sl
  refine ⟨⟨⟨o, r, l, t, s⟩, rs.map LR.R, ps.map LP.P, ts.map LT.T, es⟩, ⟨qR, qP, qT, qH, rfl, ⟨rs, rfl, hR, fun x hx => (gR x hx).1⟩, ⟨ps, rfl, hP, fun x hx => ⟨(gP x hx).1, (gP x hx).2.1, (gP x hx).2.2.1⟩⟩, ⟨ts, rfl, hT, fun x hx => ⟨(gT x hx).1, (gT x hx).2.1⟩⟩, hE⟩, ⟨by rw [List.length_map]; exact fR, by rw [List.length_map]; exact fP, by rw [List.length_map]; exact fT, fE, fun R hR' => ?_, fun P hP' => ?_, fun T hT' => ?_⟩⟩
  · obtain ⟨x, hx, rfl⟩ := List.mem_map.1 hR'
    exact (gR x hx).2
  · obtain ⟨x, hx, rfl⟩ := List.mem_map.1 hP'
    exact (gP x hx).2.2.2
  · obtain ⟨x, hx, rfl⟩ := List.mem_map.1 hT'
    exact (gT x hx).2.2

end Go.Proofs.YtibleipfablniaaGreat
