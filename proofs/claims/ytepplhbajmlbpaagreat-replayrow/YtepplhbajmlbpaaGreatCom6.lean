/-
  PARTS LAID TOGETHER, each with its own opening: MpA, MpB, LmD, MpC, MpD, MoD, LkA, Mrg, MtJ, RyA, BtD, RyD, MtK, MtL, MtM, MtN, MtO.
-/
import Derived.Test.YtepplhbajmlbpaaGreatCom5
import Derived.Test.YtepplhbajmlbpaaGreatCom3
import Derived.Test.YtepplhbajmlbpaaGreatCom1
import Derived.Test.YtepplhbajmlbpaaGreatCom4
import Derived.Test.YtepplhbajmlbpaaGreatCom2
import Derived.Deep.RegionHeld3
import Derived.Deep.Cut
import Derived.BigRegion
namespace Go.Proofs.YtepplhbajmlbpaaGreat
open Go.RowKit
theorem listsCopyR (v : Value) (xs : List LR) (w : World) (hx : HasE ringK w v xs) (hf : xs.length * 48 ≤ 140737488351232) :
   Calls Tryz.prog 103 #[v] w fun e w' => ∃ q : Sl, e = .returned (slV q) ∧ OwnE ringK w' w.heap.size (slV q) xs ∧ Le w w' := by
 have hrow : ∀ g, (Value.slice none 0 0).ownBlock = some g → w.heap.size ≤ g := by intro g hg; cases hg
 go_enter Tryz.func103, Tryz.ntmps103
 go_wp2_with (at_builtin; refine wp_append_E ringIn rfl _ _ rfl w.heap.size _ _ [] xs rfl rfl (OwnE.nil _ _ _) hx (by show (([] : List LR).length + xs.length) * 48 ≤ _; simp; omega) (by simp; omega) (by simp) ?_; intro v' w2 hown hgrow _; rw [List.nil_append] at hown; have l2 : Le w w2 := Below.grown (Le.refl w) hgrow (by simp) hrow; obtain ⟨q, rfl⟩ := hown.has.sl)
 go_ret
 exact ⟨q, rfl, hown, l2⟩
theorem listsCopyP (v : Value) (xs : List LP) (w : World) (hx : HasE repK w v xs) (hf : xs.length * 144 ≤ 140737488351232) :
   Calls Tryz.prog 105 #[v] w fun e w' => ∃ q : Sl, e = .returned (slV q) ∧ OwnE repK w' w.heap.size (slV q) xs ∧ Le w w' := by
 have hrow : ∀ g, (Value.slice none 0 0).ownBlock = some g → w.heap.size ≤ g := by intro g hg; cases hg
 go_enter Tryz.func105, Tryz.ntmps105
 go_wp2_with (at_builtin; refine wp_append_E repIn rfl _ _ rfl w.heap.size _ _ [] xs rfl rfl (OwnE.nil _ _ _) hx (by show (([] : List LP).length + xs.length) * 144 ≤ _; simp; omega) (by simp; omega) (by simp) ?_; intro v' w2 hown hgrow _; rw [List.nil_append] at hown; have l2 : Le w w2 := Below.grown (Le.refl w) hgrow (by simp) hrow; obtain ⟨q, rfl⟩ := hown.has.sl)
 go_ret
 exact ⟨q, rfl, hown, l2⟩
theorem listsCopyT (v : Value) (xs : List LT) (w : World) (hx : HasE thK w v xs) (hf : xs.length * 120 ≤ 140737488351232) :
   Calls Tryz.prog 108 #[v] w fun e w' => ∃ q : Sl, e = .returned (slV q) ∧ OwnE thK w' w.heap.size (slV q) xs ∧ Le w w' := by
 have hrow : ∀ g, (Value.slice none 0 0).ownBlock = some g → w.heap.size ≤ g := by intro g hg; cases hg
 go_enter Tryz.func108, Tryz.ntmps108
 go_wp2_with (at_builtin; refine wp_append_E thIn rfl _ _ rfl w.heap.size _ _ [] xs rfl rfl (OwnE.nil _ _ _) hx (by show (([] : List LT).length + xs.length) * 120 ≤ _; simp; omega) (by simp; omega) (by simp) ?_; intro v' w2 hown hgrow _; rw [List.nil_append] at hown; have l2 : Le w w2 := Below.grown (Le.refl w) hgrow (by simp) hrow; obtain ⟨q, rfl⟩ := hown.has.sl)
 go_ret
 exact ⟨q, rfl, hown, l2⟩
theorem listsCopyE (v : Value) (xs : List Ev) (w : World) (hx : HasE evK w v xs) (hf : xs.length * 48 ≤ 140737488351232) :
   Calls Tryz.prog 69 #[v] w fun e w' => ∃ q : Sl, e = .returned (slV q) ∧ OwnE evK w' w.heap.size (slV q) xs ∧ Le w w' := by
 have hrow : ∀ g, (Value.slice none 0 0).ownBlock = some g → w.heap.size ≤ g := by intro g hg; cases hg
 go_enter Tryz.func69, Tryz.ntmps69
 go_wp2_with (at_builtin; refine wp_append_E evIn rfl _ _ rfl w.heap.size _ _ [] xs rfl rfl (OwnE.nil _ _ _) hx (by show (([] : List Ev).length + xs.length) * 48 ≤ _; simp; omega) (by simp; omega) (by simp) ?_; intro v' w2 hown hgrow _; rw [List.nil_append] at hown; have l2 : Le w w2 := Below.grown (Le.refl w) hgrow (by simp) hrow; obtain ⟨q, rfl⟩ := hown.has.sl)
 go_ret
 exact ⟨q, rfl, hown, l2⟩
theorem machCopyRing (h t f : Int) (q : Sl) (ss : List Slt) (w : World) (hx : HasL w (slV q) ss) (hf : ss.length * 40 ≤ 140737488351232) :
   Calls Tryz.prog 64 #[ringV h t f q] w fun e w' => ∃ u : Sl, e = .returned (ringV h t f u) ∧ OwnL w' w.heap.size (slV u) ss ∧ Le w w' := by
 have hb := (Box.new w (cellsR h t f q) 55).le (Le.alloc _ (.cells (cellsR 0 0 0 slZ) 55))
 have hb2 := Box.new (w.alloc (.cells (cellsR h t f q) 55)) (cellsR 0 0 0 slZ) 55
 rw [World.size_alloc] at hb2
 have hl := (Le.alloc w (.cells (cellsR h t f q) 55)).trans (Le.alloc _ (.cells (cellsR 0 0 0 slZ) 55))
 go_enter Tryz.func64, Tryz.ntmps64
 go_wp2_with fail
 refine (listsCopy _ ss _ (hx.le hl) hf).mono ?_
 rintro e w1 ⟨u, rfl, hown, l1⟩
 have hb' := hb.le l1
 have hb2' := hb2.le l1
 obtain ⟨b0, b1, b2, b3, f0, f1, f2, f3⟩ := hb'.ring
 obtain ⟨p0, p1, p2, p3, g0, g1, g2, g3⟩ := hb2'.ring
 go_wp2
 refine bodyPost_ret (v := ringV h t f u) (by simp [results, Tryz.results64, go_sem, p0, p1, p2, p3]) rfl ⟨u, rfl, ?_, ?_⟩
 ·iterate 5 refine OwnL.set ?_ (hown.off (by simp only [World.size_alloc]; omega))
  exact hown.base (by simp only [World.size_alloc]; omega)
 ·iterate 5 refine Le.set ?_ (by omega)
  exact hl.trans l1
theorem Own.setNe {w : World} {base g i : Nat} {v u : Value} {xs : List Int} (h : Own w base v xs) (hne : v.ownBlock ≠ some g) : Own (w.setCell ⟨g, i, none⟩ u) base v xs := ownsRow_setCell_other h hne u
theorem Own.offB {w : World} {base g : Nat} {v : Value} {xs : List Int} (h : Own w base v xs) (hg : g < base) : v.ownBlock ≠ some g := fun e => by
 have := (h.block e).1
 omega
abbrev cellsT0 : Array Value := #[.int .i64 0, .int .i64 0, .int .i64 0, .int .i64 0, .int .i64 0, .int .i64 0, .slice none 0 0, .int .i64 0, .bool false, .bool false, .int .i64 0, .slice none 0 0]
theorem Box.setATh {w : World} {g : Nat} {T : Th} {b t q : Sl} {ty : TypeId} (h : Box w g (cellsT T b t) ty) : Box (w.setCell ⟨g, 6, none⟩ (slV q)) g (cellsT T q t) ty := h.setT6
theorem Box.setBTh {w : World} {g : Nat} {T : Th} {b t q : Sl} {ty : TypeId} (h : Box w g (cellsT T b t) ty) : Box (w.setCell ⟨g, 11, none⟩ (slV q)) g (cellsT T b q) ty := h.setT11
theorem Box.setARep {w : World} {g : Nat} {us : Nat → Sl} {b t q : Sl} {ty : TypeId} (h : Box w g (cellsP us b t) ty) : Box (w.setCell ⟨g, 4, none⟩ (slV q)) g (cellsP us q t) ty := h.set 4 (slV q)
theorem Box.setBRep {w : World} {g : Nat} {us : Nat → Sl} {b t q : Sl} {ty : TypeId} (h : Box w g (cellsP us b t) ty) : Box (w.setCell ⟨g, 5, none⟩ (slV q)) g (cellsP us b q) ty := h.set 5 (slV q)
set_option maxRecDepth 4000 in
set_option maxHeartbeats 2000000 in
theorem machCopyThread (T : Th) (qb qt : Sl) (w : World) (hq1 : Has w (slV qb) T.b) (hq2 : Has w (slV qt) T.tl) (hq1f : T.b.length * 8 ≤ 140737488351232) (hq2f : T.tl.length * 8 ≤ 140737488351232) :
   Calls Tryz.prog 68 #[thV T qb qt] w fun e w' => ∃ u1 u2 : Sl, e = .returned (thV T u1 u2) ∧ Own w' w.heap.size (slV u1) T.b ∧ Own w' w.heap.size (slV u2) T.tl ∧ (∀ b, (slV u2).ownBlock = some b → (slV u1).ownBlock ≠ some b) ∧ Le w w' := by
 obtain ⟨g, hg⟩ : ∃ g, w.heap.size = g := ⟨_, rfl⟩
 have hbW := (Box.new w (cellsT T qb qt) 59).le (Le.alloc _ (.cells cellsT0 59))
 have hrW := Box.new (w.alloc (.cells (cellsT T qb qt) 59)) cellsT0 59
 rw [World.size_alloc] at hrW
 have hl := (Le.alloc w (.cells (cellsT T qb qt) 59)).trans (Le.alloc _ (.cells cellsT0 59))
 go_enter Tryz.func68, Tryz.ntmps68
 go_upto_region 1 with fail
 generalize hW : (w.alloc (.cells (cellsT T qb qt) 59)).alloc (.cells cellsT0 59) = W at hl hbW hrW ⊢
 clear hW
 rw [hg] at hbW hrW
 replace hq1 := hq1.le hl
 replace hq2 := hq2.le hl
 have hgr := hrW.lt
 obtain ⟨_, _, _, _, _, _, c6, _, _, _, _, c11⟩ := hbW.th
 refine wp_region_any (by kernel_rfl) ?_
 refine wpAny_grow [] [0, 1, 2, 3, 4, 5, 6] [7, 8, 9] (by decide) (by kernel_rfl) Le (Le.refl _) (fun _ _ _ => Le.trans)
   (fun vs i x => match i with
     | 0 => vs 0 = .pointer (some ⟨g, 6, none⟩)
     | 1 => vs 1 = slV qb
     | 2 => ∃ q, vs 2 = slV q ∧ Own x W.heap.size (slV q) T.b
     | 3 => vs 3 = .pointer (some ⟨g, 11, none⟩)
     | 4 => vs 4 = slV qt
     | 6 => vs 6 = .pointer (some ⟨g, 6, none⟩)
     | _ => ∃ q q', vs 2 = slV q ∧ vs 5 = slV q' ∧ Own x W.heap.size (slV q) T.b ∧ Own x W.heap.size (slV q') T.tl ∧ ∀ b, (slV q').ownBlock = some b → (slV q).ownBlock ≠ some b) ?_ ?_ (by decide) ?_ ?_
 ·intro vs i x y hi _ h hxy
  simp only [List.mem_cons, List.not_mem_nil, or_false] at hi
  rcases hi with rfl | rfl | rfl | rfl | rfl | rfl | rfl
  ·exact h
  ·exact h
  ·obtain ⟨q, e, o⟩ := h; exact ⟨q, e, o.le hxy⟩
  ·exact h
  ·exact h
  ·obtain ⟨q, q', e, e', o, o', ap⟩ := h; exact ⟨q, q', e, e', o.le hxy, o'.le hxy, ap⟩
  ·exact h
 ·intro vs vs' i o x hi _ hk h
  have e := hk i (.inl rfl)
  simp only [List.mem_cons, List.not_mem_nil, or_false] at hi
  rcases hi with rfl | rfl | rfl | rfl | rfl | rfl | rfl
  iterate 5
    ·simp only at h ⊢
     rw [← e]
     exact h
  ·have e2 := hk 2 (.inr (by kernel_rfl))
   simp only at h ⊢
   rw [← e, ← e2]
   exact h
  ·simp only at h ⊢
   rw [← e]
   exact h
 ·intro i o hi ho vs x hx hd
  have hx0 := (Le.drew W).trans hx
  simp only [List.mem_cons, List.not_mem_nil, or_false] at hi
  generalize hρ : (putH _ _ _ vs).eval = ρ
  rcases hi with rfl | rfl | rfl | rfl | rfl | rfl | rfl
  ·cases ho
   have r1 : ρ (.tmp 1) = .pointer (some ⟨g, 0, none⟩) := by rw [← hρ]; kernel_rfl
   exact gives_value (w' := x) (v := .pointer (some ⟨g, 6, none⟩)) (by simp [go_sem, r1]) ⟨Le.refl _, rfl⟩
  ·cases ho
   have r1 : ρ (.tmp 3) = vs 0 := by rw [← hρ]; kernel_rfl
   have d := hd 0 (by decide) (by kernel_rfl)
   simp only at d
   rw [d] at r1
   have y := cell_le c6 hx0
   exact gives_value (w' := x) (v := slV qb) (by simp [go_sem, r1, y]) ⟨Le.refl _, rfl⟩
  ·cases ho
   have r1 : ρ (.tmp 4) = vs 1 := by rw [← hρ]; kernel_rfl
   have d := hd 1 (by decide) (by kernel_rfl)
   simp only at d
   rw [d] at r1
   have m := listsCopyI (slV qb) T.b x (hq1.le hx0) hq1f
   refine gives_call (f := 107) (args := #[slV qb]) (by simp [go_sem, r1]; kernel_rfl) (m.mono ?_)
   rintro e x2 ⟨q, rfl, o, gr⟩
   have l2 : Le x x2 := Below.grown (Le.refl x) gr (by simp) (by intro g hg; cases hg)
   exact ⟨_, rfl, l2, q, rfl, o.base hx0.size⟩
  ·cases ho
   have r1 : ρ (.tmp 1) = .pointer (some ⟨g, 0, none⟩) := by rw [← hρ]; kernel_rfl
   exact gives_value (w' := x) (v := .pointer (some ⟨g, 11, none⟩)) (by simp [go_sem, r1]) ⟨Le.refl _, rfl⟩
  ·cases ho
   have r1 : ρ (.tmp 6) = vs 3 := by rw [← hρ]; kernel_rfl
   have d := hd 3 (by decide) (by kernel_rfl)
   simp only at d
   rw [d] at r1
   have y := cell_le c11 hx0
   exact gives_value (w' := x) (v := slV qt) (by simp [go_sem, r1, y]) ⟨Le.refl _, rfl⟩
  ·cases ho
   have r1 : ρ (.tmp 7) = vs 4 := by rw [← hρ]; kernel_rfl
   have d := hd 4 (by decide) (by kernel_rfl)
   have d2 := hd 2 (by decide) (by kernel_rfl)
   simp only at d d2
   obtain ⟨q, e2, o2⟩ := d2
   rw [d] at r1
   have m := listsCopyI (slV qt) T.tl x (hq2.le hx0) hq2f
   refine gives_call (f := 107) (args := #[slV qt]) (by simp [go_sem, r1]; kernel_rfl) (m.mono ?_)
   rintro e x2 ⟨q', rfl, o, gr⟩
   have l2 : Le x x2 := Below.grown (Le.refl x) gr (by simp) (by intro g hg; cases hg)
   refine ⟨_, rfl, l2, q, q', by simp [e2], by simp, o2.le l2, o.base hx0.size, fun b h1 h2 => ?_⟩
   have := (o.block h1).1
   have := (o2.block h2).2
   omega
  ·cases ho
   have r1 : ρ (.tmp 1) = .pointer (some ⟨g, 0, none⟩) := by rw [← hρ]; kernel_rfl
   exact gives_value (w' := x) (v := .pointer (some ⟨g, 6, none⟩)) (by simp [go_sem, r1]) ⟨Le.refl _, rfl⟩
 ·intro vs x hx hd
  have hx0 := (Le.drew W).trans hx
  have hh := hd 5 (by decide)
  simp only at hh
  replace hh := hh.choose_spec
  generalize Exists.choose _ = q1 at hh
  replace hh := hh.choose_spec
  generalize Exists.choose _ = q2 at hh
  have e1 := hh.1
  have e2 := hh.2.1
  have o1 := hh.2.2.1
  have o2 := hh.2.2.2.1
  have ap := hh.2.2.2.2
  have e6 := hd 6 (by decide)
  simp only at e6
  clear hh hd
  have hbx := hbW.le hx0
  have hrx := hrW.le hx0
  have cA : x.cell? ⟨g, 6, none⟩ = some (slV qb) ∧ x.frozen? ⟨g, 6, none⟩ = false := ⟨cell_le c6 hx0, hbx.frozen _⟩
  have hby := hbx.setATh (q := q1)
  have cB : (x.setCell ⟨g, 6, none⟩ (slV q1)).cell? ⟨g, 11, none⟩ = some (slV qt) ∧ (x.setCell ⟨g, 6, none⟩ (slV q1)).frozen? ⟨g, 11, none⟩ = false := ⟨by rw [hby.cell]; rfl, hby.frozen _⟩
  have hbz := hby.setBTh (q := q2)
  clear hbx
  generalize hf0 : putH _ _ _ vs = fr0
  refine wpSeq_cons rfl ?_
  refine wp_skip_at (w0 := x.setCell ⟨g, 6, none⟩ (slV q1)) ?_ ?_
  ·generalize hρ : fr0.eval = ρ
   have r1 : ρ (.tmp 9) = vs 6 := by rw [← hρ, ← hf0]; kernel_rfl
   have r2 : ρ (.tmp 5) = vs 2 := by rw [← hρ, ← hf0]; kernel_rfl
   rw [e1] at r2
   rw [e6] at r1
   simp [go_sem, r1, r2, cA.1, cA.2]
  ·generalize hf2 : Act.put fr0 _ _ = fr2
   refine wpSeq_cons rfl ?_
   refine wp_value_at (v0 := .pointer (some ⟨g, 11, none⟩)) (w0 := x.setCell ⟨g, 6, none⟩ (slV q1)) ?_ ?_
   ·generalize hρ : fr2.eval = ρ
    have r1 : ρ (.tmp 1) = .pointer (some ⟨g, 0, none⟩) := by rw [← hρ, ← hf2, ← hf0]; kernel_rfl
    simp [go_sem, r1]
   ·generalize hf3 : Act.put fr2 _ _ = fr3
    refine wpSeq_cons rfl ?_
    refine wp_skip_at (w0 := (x.setCell ⟨g, 6, none⟩ (slV q1)).setCell ⟨g, 11, none⟩ (slV q2)) ?_ ?_
    ·generalize hρ : fr3.eval = ρ
     have r1 : ρ (.tmp 10) = .pointer (some ⟨g, 11, none⟩) := by rw [← hρ, ← hf3, ← hf2, ← hf0]; kernel_rfl
     have r2 : ρ (.tmp 8) = vs 5 := by rw [← hρ, ← hf3, ← hf2, ← hf0]; kernel_rfl
     rw [e2] at r2
     simp [go_sem, r1, r2, cB.1, cB.2]
    ·subst hf3 hf2 hf0
     simp only [wpSeq, putH, List.getElem?_cons_succ, List.getElem?_cons_zero, Option.bind_some, Act.put, List.setIfInBounds_toArray, List.set_cons_zero, List.set_cons_succ]
     have l4 : Le w ((x.setCell ⟨g, 6, none⟩ (slV q1)).setCell ⟨g, 11, none⟩ (slV q2)) := Le.set (Le.set (hl.trans hx0) (by omega)) (by omega)
     have o3 : Own ((x.setCell ⟨g, 6, none⟩ (slV q1)).setCell ⟨g, 11, none⟩ (slV q2)) W.heap.size (slV q1) T.b := (o1.setNe (o1.offB (by omega))).setNe (o1.offB (by omega))
     have o4 : Own ((x.setCell ⟨g, 6, none⟩ (slV q1)).setCell ⟨g, 11, none⟩ (slV q2)) W.heap.size (slV q2) T.tl := (o2.setNe (o2.offB (by omega))).setNe (o2.offB (by omega))
     have hrz : Box ((x.setCell ⟨g, 6, none⟩ (slV q1)).setCell ⟨g, 11, none⟩ (slV q2)) (g + 1) cellsT0 59 := (hrx.other (by omega) _ _).other (by omega) _ _
     clear e1 e2 o1 o2 hrx hby cA cB c6 c11 hbW hrW
     generalize (x.setCell ⟨g, 6, none⟩ (slV q1)).setCell ⟨g, 11, none⟩ (slV q2) = w4 at hbz l4 o3 o4 hrz ⊢
     obtain ⟨t0, t1, t2, t3, t4, t5, t6, t7, t8, t9, t10, t11⟩ := hbz.th
     have hk := fun i => hrz.frozen i
     have r0 := hrz.cell 0
     have r1 := hrz.cell 1
     have r2 := hrz.cell 2
     have r3 := hrz.cell 3
     have r4 := hrz.cell 4
     have r5 := hrz.cell 5
     have r6 := hrz.cell 6
     have r7 := hrz.cell 7
     have r8 := hrz.cell 8
     have r9 := hrz.cell 9
     have r10 := hrz.cell 10
     have r11 := hrz.cell 11
     simp only [List.getElem?_toArray, List.getElem?_cons_succ, List.getElem?_cons_zero] at r0 r1 r2 r3 r4 r5 r6 r7 r8 r9 r10 r11
     have k0 := hk 0
     have k1 := hk 1
     have k2 := hk 2
     have k3 := hk 3
     have k4 := hk 4
     have k5 := hk 5
     have k6 := hk 6
     have k7 := hk 7
     have k8 := hk 8
     have k9 := hk 9
     have k10 := hk 10
     have k11 := hk 11
     clear hk
     go_wp2_with fail
     refine bodyPost_ret (v := thV T q1 q2) (by simp [results, Tryz.results68, go_sem, r0, r1, r2, r3, r4, r5, r6, r7, r8, r9, r10, r11]) rfl ⟨q1, q2, rfl, ?_, ?_, ap, ?_⟩
     ·iterate 12 refine Own.setNe ?_ (o3.offB (by omega))
      exact o3.base (by omega)
     ·iterate 12 refine Own.setNe ?_ (o4.offB (by omega))
      exact o4.base (by omega)
     ·iterate 12 refine Le.set ?_ (by omega)
      exact l4
set_option maxRecDepth 4000 in
set_option maxHeartbeats 2000000 in
theorem machCopyReplica (P : Rp) (vs : Nat → Sl) (qc ql : Sl) (w : World) (hs : ∀ i, i < 4 → Has w (slV (vs i)) (P.s.at i)) (hq1 : Has w (slV qc) P.cs) (hq2 : Has w (slV ql) P.ls) (hfs : Fit P.s) (hq1f : P.cs.length * 8 ≤ 140737488351232) (hq2f : P.ls.length * 8 ≤ 140737488351232) :
   Calls Tryz.prog 66 #[repV vs qc ql] w fun e w' => ∃ (us : Nat → Sl) (u1 u2 : Sl), e = .returned (repV us u1 u2) ∧ RepOwn w' w.heap.size P us u1 u2 ∧ Le w w' := by
 obtain ⟨g, hg⟩ : ∃ g, w.heap.size = g := ⟨_, rfl⟩
 have hb := (Box.new w (cellsP vs qc ql) 46).le (Le.alloc _ (.cells (cellsP (fun _ => slZ) slZ slZ) 46))
 have hr := Box.new (w.alloc (.cells (cellsP vs qc ql) 46)) (cellsP (fun _ => slZ) slZ slZ) 46
 rw [World.size_alloc] at hr
 have hl := (Le.alloc w (.cells (cellsP vs qc ql) 46)).trans (Le.alloc _ (.cells (cellsP (fun _ => slZ) slZ slZ) 46))
 go_enter Tryz.func66, Tryz.ntmps66
 go_upto_region 1 with fail
 generalize hW : (w.alloc (.cells (cellsP vs qc ql) 46)).alloc (.cells (cellsP (fun _ => slZ) slZ slZ) 46) = W0 at hl hb hr ⊢
 clear hW
 rw [hg] at hb hr
 have hgr := hr.lt
 have m1 := statesCopy (stV vs) P.s W0 ⟨vs, rfl, fun i hi => (hs i hi).le hl⟩ hfs
 obtain ⟨b0, b1, b2, b3, _, _⟩ := hb.rep
 go_wp2_with fail
 refine m1.mono ?_
 rintro e w1 ⟨us, rfl, ou, apu, l1⟩
 clear b0 b1 b2 b3 m1
 replace hb := hb.le l1
 replace hr := hr.le l1
 obtain ⟨b0, b1, b2, b3, _, _⟩ := hb.rep
 have k0 := hb.frozen 0
 have k1 := hb.frozen 1
 have k2 := hb.frozen 2
 have k3 := hb.frozen 3
 have hl1 := hl.trans l1
 have hs1 := l1.size
 go_upto_region 2 with fail
 have hbW : Box ((((w1.setCell ⟨g, 0, none⟩ (slV (us 0))).setCell ⟨g, 1, none⟩ (slV (us 1))).setCell ⟨g, 2, none⟩ (slV (us 2))).setCell ⟨g, 3, none⟩ (slV (us 3))) g (cellsP us qc ql) 46 := (((hb.set 0 _).set 1 _).set 2 _).set 3 _
 have hrW : Box ((((w1.setCell ⟨g, 0, none⟩ (slV (us 0))).setCell ⟨g, 1, none⟩ (slV (us 1))).setCell ⟨g, 2, none⟩ (slV (us 2))).setCell ⟨g, 3, none⟩ (slV (us 3))) (g + 1) (cellsP (fun _ => slZ) slZ slZ) 46 := (((hr.other (by omega) _ _).other (by omega) _ _).other (by omega) _ _).other (by omega) _ _
 have hlW := hl1.set4 (g := g) (by omega) (slV (us 0)) (slV (us 1)) (slV (us 2)) (slV (us 3))
 have hou : ∀ i, i < 4 → Own ((((w1.setCell ⟨g, 0, none⟩ (slV (us 0))).setCell ⟨g, 1, none⟩ (slV (us 1))).setCell ⟨g, 2, none⟩ (slV (us 2))).setCell ⟨g, 3, none⟩ (slV (us 3))) W0.heap.size (slV (us i)) (P.s.at i) := fun i hi => (ou i hi).set4 hb (by decide) _ _ _ _
 replace hq1 := hq1.le hlW
 replace hq2 := hq2.le hlW
 clear b0 b1 b2 b3 k0 k1 k2 k3 ou hb hr
 generalize hW : (((w1.setCell ⟨g, 0, none⟩ (slV (us 0))).setCell ⟨g, 1, none⟩ (slV (us 1))).setCell ⟨g, 2, none⟩ (slV (us 2))).setCell ⟨g, 3, none⟩ (slV (us 3)) = W at hbW hrW hlW hou hq1 hq2 ⊢
 have hWs : w1.heap.size = W.heap.size := by rw [← hW]; simp
 clear hW
 obtain ⟨_, _, _, _, c4, c5⟩ := hbW.rep
 refine wp_region_any (by kernel_rfl) ?_
 refine wpAny_grow [] [0, 1, 2, 3, 4, 5, 6] [7, 8, 9] (by decide) (by kernel_rfl) Le (Le.refl _) (fun _ _ _ => Le.trans)
   (fun vs i x => match i with
     | 0 => vs 0 = .pointer (some ⟨g, 4, none⟩)
     | 1 => vs 1 = slV qc
     | 2 => ∃ q, vs 2 = slV q ∧ Own x W.heap.size (slV q) P.cs
     | 3 => vs 3 = .pointer (some ⟨g, 5, none⟩)
     | 4 => vs 4 = slV ql
     | 6 => vs 6 = .pointer (some ⟨g, 4, none⟩)
     | _ => ∃ q q', vs 2 = slV q ∧ vs 5 = slV q' ∧ Own x W.heap.size (slV q) P.cs ∧ Own x W.heap.size (slV q') P.ls ∧ ∀ b, (slV q').ownBlock = some b → (slV q).ownBlock ≠ some b) ?_ ?_ (by decide) ?_ ?_
 ·intro vs i x y hi _ h hxy
  simp only [List.mem_cons, List.not_mem_nil, or_false] at hi
  rcases hi with rfl | rfl | rfl | rfl | rfl | rfl | rfl
  ·exact h
  ·exact h
  ·obtain ⟨q, e, o⟩ := h; exact ⟨q, e, o.le hxy⟩
  ·exact h
  ·exact h
  ·obtain ⟨q, q', e, e', o, o', ap⟩ := h; exact ⟨q, q', e, e', o.le hxy, o'.le hxy, ap⟩
  ·exact h
 ·intro vs vs' i o x hi _ hk h
  have e := hk i (.inl rfl)
  simp only [List.mem_cons, List.not_mem_nil, or_false] at hi
  rcases hi with rfl | rfl | rfl | rfl | rfl | rfl | rfl
  iterate 5
    ·simp only at h ⊢
     rw [← e]
     exact h
  ·have e2 := hk 2 (.inr (by kernel_rfl))
   simp only at h ⊢
   rw [← e, ← e2]
   exact h
  ·simp only at h ⊢
   rw [← e]
   exact h
 ·intro i o hi ho vs x hx hd
  have hx0 := (Le.drew W).trans hx
  simp only [List.mem_cons, List.not_mem_nil, or_false] at hi
  generalize hρ : (putH _ _ _ vs).eval = ρ
  rcases hi with rfl | rfl | rfl | rfl | rfl | rfl | rfl
  ·cases ho
   have r1 : ρ (.tmp 1) = .pointer (some ⟨g, 0, none⟩) := by rw [← hρ]; kernel_rfl
   exact gives_value (w' := x) (v := .pointer (some ⟨g, 4, none⟩)) (by simp [go_sem, r1]) ⟨Le.refl _, rfl⟩
  ·cases ho
   have r1 : ρ (.tmp 7) = vs 0 := by rw [← hρ]; kernel_rfl
   have d := hd 0 (by decide) (by kernel_rfl)
   simp only at d
   rw [d] at r1
   have y := cell_le c4 hx0
   exact gives_value (w' := x) (v := slV qc) (by simp [go_sem, r1, y]) ⟨Le.refl _, rfl⟩
  ·cases ho
   have r1 : ρ (.tmp 8) = vs 1 := by rw [← hρ]; kernel_rfl
   have d := hd 1 (by decide) (by kernel_rfl)
   simp only at d
   rw [d] at r1
   have m := listsCopyI (slV qc) P.cs x (hq1.le hx0) hq1f
   refine gives_call (f := 107) (args := #[slV qc]) (by simp [go_sem, r1]; kernel_rfl) (m.mono ?_)
   rintro e x2 ⟨q, rfl, o, gr⟩
   have l2 : Le x x2 := Below.grown (Le.refl x) gr (by simp) (by intro g hg; cases hg)
   exact ⟨_, rfl, l2, q, rfl, o.base hx0.size⟩
  ·cases ho
   have r1 : ρ (.tmp 1) = .pointer (some ⟨g, 0, none⟩) := by rw [← hρ]; kernel_rfl
   exact gives_value (w' := x) (v := .pointer (some ⟨g, 5, none⟩)) (by simp [go_sem, r1]) ⟨Le.refl _, rfl⟩
  ·cases ho
   have r1 : ρ (.tmp 10) = vs 3 := by rw [← hρ]; kernel_rfl
   have d := hd 3 (by decide) (by kernel_rfl)
   simp only at d
   rw [d] at r1
   have y := cell_le c5 hx0
   exact gives_value (w' := x) (v := slV ql) (by simp [go_sem, r1, y]) ⟨Le.refl _, rfl⟩
  ·cases ho
   have r1 : ρ (.tmp 11) = vs 4 := by rw [← hρ]; kernel_rfl
   have d := hd 4 (by decide) (by kernel_rfl)
   have d2 := hd 2 (by decide) (by kernel_rfl)
   simp only at d d2
   obtain ⟨q, e2, o2⟩ := d2
   rw [d] at r1
   have m := listsCopyI (slV ql) P.ls x (hq2.le hx0) hq2f
   refine gives_call (f := 107) (args := #[slV ql]) (by simp [go_sem, r1]; kernel_rfl) (m.mono ?_)
   rintro e x2 ⟨q', rfl, o, gr⟩
   have l2 : Le x x2 := Below.grown (Le.refl x) gr (by simp) (by intro g hg; cases hg)
   refine ⟨_, rfl, l2, q, q', by simp [e2], by simp, o2.le l2, o.base hx0.size, fun b h1 h2 => ?_⟩
   have := (o.block h1).1
   have := (o2.block h2).2
   omega
  ·cases ho
   have r1 : ρ (.tmp 1) = .pointer (some ⟨g, 0, none⟩) := by rw [← hρ]; kernel_rfl
   exact gives_value (w' := x) (v := .pointer (some ⟨g, 4, none⟩)) (by simp [go_sem, r1]) ⟨Le.refl _, rfl⟩
 ·intro vs x hx hd
  have hx0 := (Le.drew W).trans hx
  have hh := hd 5 (by decide)
  simp only at hh
  replace hh := hh.choose_spec
  generalize Exists.choose _ = q1 at hh
  replace hh := hh.choose_spec
  generalize Exists.choose _ = q2 at hh
  have e1 := hh.1
  have e2 := hh.2.1
  have o1 := hh.2.2.1
  have o2 := hh.2.2.2.1
  have ap := hh.2.2.2.2
  have e6 := hd 6 (by decide)
  simp only at e6
  clear hh hd
  have hbx := hbW.le hx0
  have hrx := hrW.le hx0
  have cA : x.cell? ⟨g, 4, none⟩ = some (slV qc) ∧ x.frozen? ⟨g, 4, none⟩ = false := ⟨cell_le c4 hx0, hbx.frozen _⟩
  have hby := hbx.setARep (q := q1)
  have cB : (x.setCell ⟨g, 4, none⟩ (slV q1)).cell? ⟨g, 5, none⟩ = some (slV ql) ∧ (x.setCell ⟨g, 4, none⟩ (slV q1)).frozen? ⟨g, 5, none⟩ = false := ⟨by rw [hby.cell]; rfl, hby.frozen _⟩
  have hbz := hby.setBRep (q := q2)
  clear hbx
  generalize hf0 : putH _ _ _ vs = fr0
  refine wpSeq_cons rfl ?_
  refine wp_skip_at (w0 := x.setCell ⟨g, 4, none⟩ (slV q1)) ?_ ?_
  ·generalize hρ : fr0.eval = ρ
   have r1 : ρ (.tmp 13) = vs 6 := by rw [← hρ, ← hf0]; kernel_rfl
   have r2 : ρ (.tmp 9) = vs 2 := by rw [← hρ, ← hf0]; kernel_rfl
   rw [e1] at r2
   rw [e6] at r1
   simp [go_sem, r1, r2, cA.1, cA.2]
  ·generalize hf2 : Act.put fr0 _ _ = fr2
   refine wpSeq_cons rfl ?_
   refine wp_value_at (v0 := .pointer (some ⟨g, 5, none⟩)) (w0 := x.setCell ⟨g, 4, none⟩ (slV q1)) ?_ ?_
   ·generalize hρ : fr2.eval = ρ
    have r1 : ρ (.tmp 1) = .pointer (some ⟨g, 0, none⟩) := by rw [← hρ, ← hf2, ← hf0]; kernel_rfl
    simp [go_sem, r1]
   ·generalize hf3 : Act.put fr2 _ _ = fr3
    refine wpSeq_cons rfl ?_
    refine wp_skip_at (w0 := (x.setCell ⟨g, 4, none⟩ (slV q1)).setCell ⟨g, 5, none⟩ (slV q2)) ?_ ?_
    ·generalize hρ : fr3.eval = ρ
     have r1 : ρ (.tmp 14) = .pointer (some ⟨g, 5, none⟩) := by rw [← hρ, ← hf3, ← hf2, ← hf0]; kernel_rfl
     have r2 : ρ (.tmp 12) = vs 5 := by rw [← hρ, ← hf3, ← hf2, ← hf0]; kernel_rfl
     rw [e2] at r2
     simp [go_sem, r1, r2, cB.1, cB.2]
    ·subst hf3 hf2 hf0
     simp only [wpSeq, putH, List.getElem?_cons_succ, List.getElem?_cons_zero, Option.bind_some, Act.put, List.setIfInBounds_toArray, List.set_cons_zero, List.set_cons_succ]
     have l4 : Le w ((x.setCell ⟨g, 4, none⟩ (slV q1)).setCell ⟨g, 5, none⟩ (slV q2)) := Le.set (Le.set (hlW.trans hx0) (by omega)) (by omega)
     have o3 : Own ((x.setCell ⟨g, 4, none⟩ (slV q1)).setCell ⟨g, 5, none⟩ (slV q2)) W.heap.size (slV q1) P.cs := (o1.setNe (o1.offB (by omega))).setNe (o1.offB (by omega))
     have o4 : Own ((x.setCell ⟨g, 4, none⟩ (slV q1)).setCell ⟨g, 5, none⟩ (slV q2)) W.heap.size (slV q2) P.ls := (o2.setNe (o2.offB (by omega))).setNe (o2.offB (by omega))
     have o5 : ∀ i, i < 4 → Own ((x.setCell ⟨g, 4, none⟩ (slV q1)).setCell ⟨g, 5, none⟩ (slV q2)) W0.heap.size (slV (us i)) (P.s.at i) := fun i hi => (((hou i hi).le hx0).setNe ((hou i hi).offB (by omega))).setNe ((hou i hi).offB (by omega))
     have hrz : Box ((x.setCell ⟨g, 4, none⟩ (slV q1)).setCell ⟨g, 5, none⟩ (slV q2)) (g + 1) (cellsP (fun _ => slZ) slZ slZ) 46 := (hrx.other (by omega) _ _).other (by omega) _ _
     have a1 : ∀ i, i < 4 → ∀ b, (slV q1).ownBlock = some b → (slV (us i)).ownBlock ≠ some b := fun i hi b h1 h2 => by
       have := (o1.block h1).1
       have := ((hou i hi).block h2).2
       omega
     have a2 : ∀ i, i < 4 → ∀ b, (slV q2).ownBlock = some b → (slV (us i)).ownBlock ≠ some b := fun i hi b h1 h2 => by
       have := (o2.block h1).1
       have := ((hou i hi).block h2).2
       omega
     clear e1 e2 o1 o2 hrx hby cA cB c4 c5 hbW hrW hou
     generalize (x.setCell ⟨g, 4, none⟩ (slV q1)).setCell ⟨g, 5, none⟩ (slV q2) = w4 at hbz l4 o3 o4 o5 hrz ⊢
     obtain ⟨t0, t1, t2, t3, t4, t5⟩ := hbz.rep
     have r0 := hrz.cell 0
     have r1 := hrz.cell 1
     have r2 := hrz.cell 2
     have r3 := hrz.cell 3
     have r4 := hrz.cell 4
     have r5 := hrz.cell 5
     simp only [List.getElem?_toArray, List.getElem?_cons_succ, List.getElem?_cons_zero] at r0 r1 r2 r3 r4 r5
     have k0 := hrz.frozen 0
     have k1 := hrz.frozen 1
     have k2 := hrz.frozen 2
     have k3 := hrz.frozen 3
     have k4 := hrz.frozen 4
     have k5 := hrz.frozen 5
     go_wp2_with fail
     refine bodyPost_ret (v := repV us q1 q2) (by simp [results, Tryz.results66, go_sem, r0, r1, r2, r3, r4, r5]) rfl ⟨us, q1, q2, rfl, ⟨fun i hi => ?_, ?_, ?_, fun _ => a1, fun _ => a2, fun _ => ap⟩, ?_⟩
     ·iterate 6 refine Own.setNe ?_ ((o5 i hi).offB (by omega))
      exact (o5 i hi).base (by omega)
     ·iterate 6 refine Own.setNe ?_ (o3.offB (by omega))
      exact o3.base (by omega)
     ·iterate 6 refine Own.setNe ?_ (o4.offB (by omega))
      exact o4.base (by omega)
     ·iterate 6 refine Le.set ?_ (by omega)
      exact l4
structure InOf {α : Type} (K : Kind α) (In : World → Nat → α → Prop) (bk : α → Nat → Prop) : Prop where
 le : ∀ {w w' : World} {B : Nat} {y : α}, In w B y → Le w w' → In w' B y
 base : ∀ {w : World} {B B' : Nat} {y : α}, In w B y → B' ≤ B → In w B' y
 blk : ∀ {w : World} {B g : Nat} {y : α}, In w B y → bk y g → B ≤ g ∧ g < w.heap.size
 set : ∀ {w : World} {B B' gq n cap off j : Nat} {y : α} {zs : List α} {us : List Value}, OwnE K w B' (.slice (some ⟨gq, 0, none⟩) n cap) zs → In w B y → In (setsW gq off w j us) B y
structure EachI {α β : Type} (K : Kind α) (In : World → Nat → α → Prop) (bk : α → Nat → Prop) (f : α → β) (w wr : World) (v : Value) (xs ys : List α) : Prop where
 own : OwnE K wr w.heap.size v (ys ++ xs.drop ys.length)
 le : Le w wr
 inn : ∀ y ∈ ys, In wr w.heap.size y
 ap : ∀ i j, i < ys.length → j < i → ∀ g, bk (ys.getD i K.d) g → ¬ bk (ys.getD j K.d) g
 same : ys.map f = (xs.map f).take ys.length
 len : ys.length ≤ xs.length
theorem EachI.next {α β : Type} {K : Kind α} {In : World → Nat → α → Prop} {bk : α → Nat → Prop} {f : α → β} {w wr : World} {gq n cap : Nat} {xs ys : List α} (hI : InOf K In bk)
   (h : EachI K In bk f w wr (.slice (some ⟨gq, 0, none⟩) n cap) xs ys) (hk : ys.length < xs.length) {w2 : World} {B2 : Nat} (l2 : Le wr w2) {y : α} (hy : In w2 B2 y) (hB : wr.heap.size ≤ B2) (hf : f y = f (xs.getD ys.length K.d)) :
   EachI K In bk f w (setsW gq (ys.length * K.k) w2 0 (K.f y)) (.slice (some ⟨gq, 0, none⟩) n cap) xs (ys ++ [y]) := by
 have ho := h.own.le l2
 have hg : w.heap.size ≤ gq := (ho.block (g := gq) rfl).1
 have hlen : ys.length < (ys ++ xs.drop ys.length).length := by simp; omega
 have hset : (ys ++ xs.drop ys.length).set ys.length y = (ys ++ [y]) ++ xs.drop (ys ++ [y]).length := by
   rw [List.set_append_right _ _ (Nat.le_refl _), Nat.sub_self, List.drop_eq_getElem_cons hk, List.set_cons_zero]
   simp
 refine ⟨?_, setsW_le hg _ _ _ (h.le.trans l2), fun z hz => ?_, fun i j hi hj g h1 h2 => ?_, ?_, by simp; omega⟩
 ·rw [← hset]
  refine ho.putS hlen (by rw [K.len]; exact Nat.le_refl _) ?_
  rw [List.drop_of_length_le (by rw [K.len, K.len]; exact Nat.le_refl _), List.append_nil]
 ·rcases List.mem_append.1 hz with hz | hz
  ·exact hI.set ho (hI.le (h.inn z hz) l2)
  ·obtain rfl := List.mem_singleton.1 hz
   exact hI.set ho (hI.base hy (Nat.le_trans h.le.size hB))
 ·simp only [List.length_append, List.length_cons, List.length_nil] at hi
  have e2 : (ys ++ [y]).getD j K.d = ys.getD j K.d := by simp [List.getD, List.getElem?_append_left (show j < ys.length by omega)]
  rw [e2] at h2
  rcases Nat.lt_or_ge i ys.length with hl | hl
  ·have e1 : (ys ++ [y]).getD i K.d = ys.getD i K.d := by simp [List.getD, List.getElem?_append_left hl]
   rw [e1] at h1
   exact h.ap i j hl hj g h1 h2
  ·have e : i = ys.length := by omega
   subst e
   have e1 : (ys ++ [y]).getD ys.length K.d = y := by simp [List.getD]
   rw [e1] at h1
   have := (hI.blk hy h1).1
   have := (hI.blk (h.inn _ (getD_mem (d := K.d) (show j < ys.length by omega))) h2).2
   omega
 ·rw [List.map_append, h.same, List.length_append]
  simp only [List.map_cons, List.map_nil, List.length_cons, List.length_nil]
  rw [List.take_succ_eq_append_getElem (by simpa using hk), hf]
  simp [List.getD, hk]
structure EachR {α β : Type} (K : Kind α) (In : World → Nat → α → Prop) (bk : α → Nat → Prop) (f : α → β) (B : Nat) (w' : World) (v : Value) (zs : List β) (ys : List α) : Prop where
 own : OwnE K w' B v ys
 inn : ∀ y ∈ ys, In w' B y
 ap : ∀ i j, i < ys.length → j < i → ∀ g, bk (ys.getD i K.d) g → ¬ bk (ys.getD j K.d) g
 same : ys.map f = zs
theorem EachI.done {α β : Type} {K : Kind α} {In : World → Nat → α → Prop} {bk : α → Nat → Prop} {f : α → β} {w wr : World} {v : Value} {xs ys : List α} (h : EachI K In bk f w wr v xs ys) (hk : ys.length = xs.length) : EachR K In bk f w.heap.size wr v (xs.map f) ys := by
 refine ⟨?_, h.inn, h.ap, ?_⟩
 ·have := h.own
  rw [List.drop_of_length_le (by omega), List.append_nil] at this
  exact this
 ·rw [h.same, List.take_of_length_le (by simp; omega)]
theorem EachI.start {α β : Type} {K : Kind α} {In : World → Nat → α → Prop} {bk : α → Nat → Prop} {f : α → β} {w wr : World} {v : Value} {xs : List α} (h : OwnE K wr w.heap.size v xs) (l : Le w wr) : EachI K In bk f w wr v xs [] :=
 ⟨by simpa using h, l, fun _ h => by simp at h, fun i j h => by simp at h, by simp, by simp⟩
theorem EachR.le {α β : Type} {K : Kind α} {In : World → Nat → α → Prop} {bk : α → Nat → Prop} {f : α → β} {B : Nat} {w w' : World} {v : Value} {zs : List β} {ys : List α} (hI : InOf K In bk) (h : EachR K In bk f B w v zs ys) (l : Le w w') : EachR K In bk f B w' v zs ys :=
 ⟨h.own.le l, fun y hy => hI.le (h.inn y hy) l, h.ap, h.same⟩
theorem ownE_cells {α : Type} {K : Kind α} {w : World} {B g n cap i : Nat} {xs : List α} (h : OwnE K w B (.slice (some ⟨g, 0, none⟩) n cap) xs) (hi : i < xs.length) : ∀ j, j < K.k → ∃ u, w.cell? ⟨g, i * K.k + j, none⟩ = some u := by
 intro j hj
 obtain ⟨a, c, hv, _, _, hx⟩ := h.has
 obtain ⟨b, off, ha, hcell⟩ := hx (by omega)
 simp only [Value.slice.injEq] at hv
 rw [ha] at hv
 simp only [Option.some.injEq, Addr.mk.injEq, and_true] at hv
 obtain ⟨⟨rfl, rfl⟩, _⟩ := hv
 have h1 := hcell i hi j hj
 have hlt : j < (K.f (xs.getD i K.d)).length := by rw [K.len]; exact hj
 rw [List.getElem?_eq_getElem hlt, Nat.zero_add] at h1
 exact ⟨_, h1⟩
def InR (w : World) (B : Nat) (y : LR) : Prop := OwnL w B (slV y.q) y.R.ss
def InP (w : World) (B : Nat) (y : LP) : Prop := RepOwn w B y.P y.vs y.c y.l
def InT (w : World) (B : Nat) (y : LT) : Prop := Own w B (slV y.b) y.T.b ∧ Own w B (slV y.t) y.T.tl ∧ ∀ b, (slV y.t).ownBlock = some b → (slV y.b).ownBlock ≠ some b
def bkR (y : LR) (g : Nat) : Prop := (slV y.q).ownBlock = some g
def bkP (y : LP) (g : Nat) : Prop := ∃ j, (slV (y.row j)).ownBlock = some g
def bkT (y : LT) (g : Nat) : Prop := ∃ j, (slV (y.row j)).ownBlock = some g
theorem own_sets' {w : World} {B B' gq n m l cap off j k k' : Nat} {t t' : TypeId} {v : Value} {us zs vs : List Value} (h : w.ownsRow B' t k (.slice (some ⟨gq, 0, none⟩) n cap) m zs) (h2 : w.ownsRow B t' k' v l vs) (ht : t ≠ t') : (setsW gq off w j us).ownsRow B t' k' v l vs :=
 setsW_own _ _ _ h2 (ownsRow_apart h h2 ht rfl)
theorem inR : InOf ringK InR bkR where
 le := fun h l => OwnL.le h l
 base := fun h l => OwnL.base h l
 blk := fun h e => OwnL.block h e
 set := fun ho h => own_sets' ho h (by decide)
theorem rowP_cases {y : LP} {j g : Nat} {w : World} {B : Nat} (h : InP w B y) (e : (slV (y.row j)).ownBlock = some g) : B ≤ g ∧ g < w.heap.size := by
 match j, e with
 | 0, e => exact (h.s 0 (by decide)).block e
 | 1, e => exact (h.s 1 (by decide)).block e
 | 2, e => exact (h.s 2 (by decide)).block e
 | 3, e => exact (h.s 3 (by decide)).block e
 | 4, e => exact h.c.block e
 | 5, e => exact h.l.block e
 | _ + 6, e => simp [LP.row, Value.ownBlock] at e
theorem inP : InOf repK InP bkP where
 le := fun h l => RepOwn.le h l
 base := fun h l => ⟨fun i hi => (h.s i hi).base l, h.c.base l, h.l.base l, h.a1, h.a2, h.a3⟩
 blk := fun h ⟨_, e⟩ => rowP_cases h e
 set := fun ho h => ⟨fun i hi => own_sets' ho (h.s i hi) (by decide), own_sets' ho h.c (by decide), own_sets' ho h.l (by decide), h.a1, h.a2, h.a3⟩
theorem rowT_cases {y : LT} {j g : Nat} {w : World} {B : Nat} (h : InT w B y) (e : (slV (y.row j)).ownBlock = some g) : B ≤ g ∧ g < w.heap.size := by
 match j, e with
 | 0, e => exact h.1.block e
 | 1, e => exact h.2.1.block e
 | _ + 2, e => simp [LT.row, Value.ownBlock] at e
theorem inT : InOf thK InT bkT where
 le := fun h l => ⟨h.1.le l, h.2.1.le l, h.2.2⟩
 base := fun h l => ⟨h.1.base l, h.2.1.base l, h.2.2⟩
 blk := fun h ⟨_, e⟩ => rowT_cases h e
 set := fun ho h => ⟨own_sets' ho h.1 (by decide), own_sets' ho h.2.1 (by decide), h.2.2⟩
theorem own_setM {w : World} {B g i k n : Nat} {t : TypeId} {v u : Value} {us : List Value} {cs : Array Value} (hb : Box w g cs 29) (h : w.ownsRow B t k v n us) (ht : t ≠ 29) : (w.setCell ⟨g, i, none⟩ u).ownsRow B t k v n us := by
 refine ownsRow_setCell_other h (fun e => ?_) u
 rcases h.2 with ⟨e2, _⟩ | ⟨g', cap, cur, hv, _, hh, _⟩
 ·rw [e2] at e; simp [Value.ownBlock] at e
 ·rw [hv] at e
  simp [Value.ownBlock] at e
  subst e
  unfold Box at hb
  rw [hb] at hh
  simp at hh
  exact ht hh.2.symm
theorem EachR.setR {w : World} {B g i : Nat} {v u : Value} {zs : List Rg} {ys : List LR} {cs : Array Value} (h : EachR ringK InR bkR LR.R B w v zs ys) (hb : Box w g cs 29) : EachR ringK InR bkR LR.R B (w.setCell ⟨g, i, none⟩ u) v zs ys :=
 ⟨own_setM hb h.own (by decide), fun y hy => own_setM hb (h.inn y hy) (by decide), h.ap, h.same⟩
theorem EachR.setP {w : World} {B g i : Nat} {v u : Value} {zs : List Rp} {ys : List LP} {cs : Array Value} (h : EachR repK InP bkP LP.P B w v zs ys) (hb : Box w g cs 29) : EachR repK InP bkP LP.P B (w.setCell ⟨g, i, none⟩ u) v zs ys :=
 ⟨own_setM hb h.own (by decide), fun y hy => by have o := h.inn y hy; exact ⟨fun i hi => own_setM hb (o.s i hi) (by decide), own_setM hb o.c (by decide), own_setM hb o.l (by decide), o.a1, o.a2, o.a3⟩, h.ap, h.same⟩
theorem EachR.setT {w : World} {B g i : Nat} {v u : Value} {zs : List Th} {ys : List LT} {cs : Array Value} (h : EachR thK InT bkT LT.T B w v zs ys) (hb : Box w g cs 29) : EachR thK InT bkT LT.T B (w.setCell ⟨g, i, none⟩ u) v zs ys :=
 ⟨own_setM hb h.own (by decide), fun y hy => by have o := h.inn y hy; exact ⟨own_setM hb o.1 (by decide), own_setM hb o.2.1 (by decide), o.2.2⟩, h.ap, h.same⟩
theorem each_ownsM {w : World} {B B1 B2 : Nat} {c : Cfg} {qR qP qT qH : Sl} {Rs : List Rg} {Ps : List Rp} {Ts : List Th} {Es : List Ev} {yR : List LR} {yP : List LP} {yT : List LT} (hR : EachR ringK InR bkR LR.R B w (slV qR) Rs yR) (hP : EachR repK InP bkP LP.P B1 w (slV qP) Ps yP) (hT : EachR thK InT bkT LT.T B2 w (slV qT) Ts yT)
   (hH : OwnE evK w B (slV qH) Es) (h1 : B ≤ B1) (h2 : B1 ≤ B2) (hlt : ∀ y ∈ yP, ∀ g, bkP y g → g < B2) :
   let L : Lay := ⟨c, qR, qP, qT, qH, yR, yP, yT, Es⟩
   L.M = ⟨c, Rs, Ps, Ts, Es⟩ ∧ OwnsM w B L ∧ ApartM L := by
 intro L
 have hbp : ∀ i j g, (slV (L.at (.rep i j))).ownBlock = some g → i < yP.length ∧ bkP (yP.getD i repK.d) g := fun i j g e => by
   rcases Nat.lt_or_ge i yP.length with hi | hi
   ·exact ⟨hi, j, e⟩
   ·exfalso
    simp only [Lay.at, L] at e
    rw [getD_out hi] at e
    match j, e with
    | 0, e => cases e
    | 1, e => cases e
    | 2, e => cases e
    | 3, e => cases e
    | 4, e => cases e
    | 5, e => cases e
    | _ + 6, e => simp [LP.row, Value.ownBlock] at e
 have hbt : ∀ i j g, (slV (L.at (.th i j))).ownBlock = some g → i < yT.length ∧ bkT (yT.getD i thK.d) g := fun i j g e => by
   rcases Nat.lt_or_ge i yT.length with hi | hi
   ·exact ⟨hi, j, e⟩
   ·exfalso
    simp only [Lay.at, L] at e
    rw [getD_out hi] at e
    match j, e with
    | 0, e => cases e
    | 1, e => cases e
    | _ + 2, e => simp [LT.row, Value.ownBlock] at e
 refine ⟨?_, ⟨hR.own, hP.own.base h1, hT.own.base (Nat.le_trans h1 h2), hH, hR.inn, fun y hy => ?_, fun y hy => ?_⟩, ⟨fun i j hne g e1 e2 => ?_, fun p q hne hw n1 n2 g e1 e2 => ?_⟩⟩
 ·show Lay.M L = _
  unfold Lay.M
  rw [hR.same, hP.same, hT.same]
 ·have o := hP.inn y hy
  exact ⟨fun i hi => (o.s i hi).base h1, o.c.base h1, o.l.base h1⟩
 ·have o := hT.inn y hy
  exact ⟨o.1.base (Nat.le_trans h1 h2), o.2.1.base (Nat.le_trans h1 h2)⟩
 ·have hs : ∀ i, (slV (L.slots i)).ownBlock = some g → i < yR.length ∧ bkR (yR.getD i ringK.d) g := fun i e => by
    rcases Nat.lt_or_ge i yR.length with hi | hi
    ·exact ⟨hi, e⟩
    ·exfalso
     simp only [Lay.slots, L] at e
     rw [getD_out hi] at e
     cases e
  obtain ⟨a1, a2⟩ := hs i e1
  obtain ⟨b1, b2⟩ := hs j e2
  rcases Nat.lt_or_gt_of_ne hne with h | h
  ·exact hR.ap j i b1 h g b2 a2
  ·exact hR.ap i j a1 h g a2 b2
 ·cases p with
  | rep i a =>
    obtain ⟨a1, a2⟩ := hbp i a g e1
    cases q with
    | rep j b =>
      obtain ⟨b1, b2⟩ := hbp j b g e2
      by_cases e : i = j
      ·subst e
       have o := hP.inn _ (getD_mem (d := repK.d) a1)
       exact o.apart a b (fun e => hne (by rw [e])) (by simpa [Pos.wr] using hw) n1 n2 g e1 e2
      ·rcases Nat.lt_or_gt_of_ne e with h | h
       ·exact hP.ap j i b1 h g b2 a2
       ·exact hP.ap i j a1 h g a2 b2
    | th j b =>
      obtain ⟨b1, b2⟩ := hbt j b g e2
      have := hlt _ (getD_mem (d := repK.d) a1) g a2
      have := (inT.blk (hT.inn _ (getD_mem (d := thK.d) b1)) b2).1
      omega
  | th i a =>
    obtain ⟨a1, a2⟩ := hbt i a g e1
    cases q with
    | rep j b =>
      obtain ⟨b1, b2⟩ := hbp j b g e2
      have := hlt _ (getD_mem (d := repK.d) b1) g b2
      have := (inT.blk (hT.inn _ (getD_mem (d := thK.d) a1)) a2).1
      omega
    | th j b =>
      obtain ⟨b1, b2⟩ := hbt j b g e2
      by_cases e : i = j
      ·subst e
       have o := hT.inn _ (getD_mem (d := thK.d) a1)
       match a, b, e1, e2 with
       | 0, 0, _, _ => exact hne rfl
       | 1, 1, _, _ => exact hne rfl
       | 0, 1, e1, e2 => exact o.2.2 g e2 e1
       | 1, 0, e1, e2 => exact o.2.2 g e1 e2
       | _ + 2, _, e1, _ => simp [Lay.at, LT.row, Value.ownBlock] at e1
       | _, _ + 2, _, e2 => simp [Lay.at, LT.row, Value.ownBlock] at e2
      ·rcases Nat.lt_or_gt_of_ne e with h | h
       ·exact hT.ap j i b1 h g b2 a2
       ·exact hT.ap i j a1 h g a2 b2
set_option maxRecDepth 4000 in
set_option maxHeartbeats 2000000 in
theorem copyEachR (v : Value) (xs : List LR) (w : World) (hx : HasE ringK w v xs) (hq : ∀ x ∈ xs, HasL w (slV x.q) x.R.ss) (hfe : ∀ x ∈ xs, FitR x.R) (hf : xs.length * 48 ≤ 140737488351232) :
   Calls Tryz.prog 63 #[v, .func (.func 64) #[] #[]] w fun e w' => ∃ (q : Sl) (ys : List LR), e = .returned (slV q) ∧ EachR ringK InR bkR LR.R w.heap.size w' (slV q) (xs.map LR.R) ys ∧ Le w w' := by
 have hc : ∀ (u : Value) (w : World), (callFunc 64 #[u]).run Tryz.prog w = .ok (.enter 64 #[u]) w := fun _ _ => by kernel_rfl
 have m0 := listsCopyR v xs w hx hf
 by_cases h0 : 0 < xs.length
 ·obtain ⟨L, hL⟩ : ∃ L, L = xs.length := ⟨_, rfl⟩
  have HL : Hid (L = xs.length) := hL
  have hm : L ≤ 9223372036854775807 := by omega
  have h0' : 0 < L := by omega
  go_enter Tryz.func63, Tryz.ntmps63
  go_wp2_with fail
  refine m0.mono ?_
  rintro e w1 ⟨q, rfl, oq, l1⟩
  clear m0
  obtain ⟨gq, cap, hqv, hcap, hgq, hgl⟩ := oq.shape h0
  have hqs : q = (some ⟨gq, 0, none⟩, L, cap) := by
    simp only [slV, Value.slice.injEq] at hqv
    obtain ⟨a, b, c⟩ := hqv
    rw [hL]
    exact Prod.ext a (Prod.ext b c)
  subst hqs
  have I0 : EachI ringK InR bkR LR.R w w1 (.slice (some ⟨gq, 0, none⟩) L cap) xs [] := EachI.start oq l1
  rw [← hL] at hcap
  clear oq hqv hL hf
  simp only [slV]
  go_wp2_with fail
  go_loopw [12] (fun i wr => ∃ (k : Nat) (ys : List LR), k ≤ L ∧ i = .int .i64 k ∧ Hid (ys.length = k) ∧ EachI ringK InR bkR LR.R w wr (.slice (some ⟨gq, 0, none⟩) L cap) xs ys) (fun i _ => L - (intOf i).toNat)
  case atStart => exact ⟨0, [], by omega, rfl, rfl, I0⟩
  case round =>
    clear I0
    obtain ⟨k, ys, hk, rfl, HK, I⟩ := hrel
    by_cases hlt : k < L
    ·have hlt' : (k : Int) < (L : Int) := by omega
     have hkx : k < xs.length := by have := HL.out; omega
     obtain ⟨x0, hx0⟩ : ∃ x, x = xs.getD k ringK.d := ⟨_, rfl⟩
     have HX : Hid (x0 = xs.getD k ringK.d) := hx0
     have hmem : x0 ∈ xs := by rw [hx0]; exact getD_mem hkx
     obtain ⟨a', c', hv', _, _, hcell⟩ := I.own.has
     obtain ⟨b', off', ha', hcell⟩ := hcell (by have := HK.out; simp; omega)
     simp only [Value.slice.injEq] at hv'
     rw [ha'] at hv'
     simp only [Option.some.injEq, Addr.mk.injEq, and_true] at hv'
     obtain ⟨⟨hgb, hoff⟩, hjunk⟩ := hv'
     have hck := hcell k (by have := HK.out; simp; omega)
     have hget : (ys ++ xs.drop ys.length).getD k ringK.d = x0 := by
       rw [hx0, HK.out]
       simp only [List.getD]
       rw [List.getElem?_append_right (by have := HK.out; omega), List.getElem?_drop]
       congr 2
       have := HK.out
       omega
     rw [hget, ← hgb, ← hoff] at hck
     simp only [Nat.zero_add] at hck
     clear hcell hget hgb hoff ha' hx0 hjunk
     have hrow := (hq x0 hmem)
     have hfx := hfe x0 hmem
     obtain ⟨X, qx⟩ := x0
     simp only at hrow hfx
     have rA : RingAt wr gq (k * 4) X qx := ⟨hck 0 (by decide), hck 1 (by decide), hck 2 (by decide), hck 3 (by decide)⟩
     obtain ⟨x0, x1, x2, x3⟩ := rA
     simp only [FitR] at hfx
     have hbx := Box.new wr (cellsR X.h X.t X.f qx) 55
     have hA := Le.alloc wr (.cells (cellsR X.h X.t X.f qx) 55)
     clear hck
     go_upto_region 5 with fail
     generalize hW : wr.alloc (.cells (cellsR X.h X.t X.f qx) 55) = wq at hbx hA ⊢
     generalize hgx : wr.heap.size = gx at hbx ⊢
     clear hW x0 x1 x2 x3
     obtain ⟨z0, z1, z2, z3, _, _, _, _⟩ := hbx.ring
     have m1 := machCopyRing X.h X.t X.f qx X.ss wq ((hrow.le I.le).le hA) hfx
     go_wp2_with fail
     refine m1.mono ?_
     rintro e w2 ⟨u, rfl, ou, l2⟩
     clear m1 hbx z0 z1 z2 z3
     have I2 := I.own.le (hA.trans l2)
     have IN := I.next inR (by have := HK.out; omega) (hA.trans l2) (y := (⟨X, u⟩ : LR)) (show InR w2 wq.heap.size ⟨X, u⟩ from ou) hA.size (by rw [HK.out, ← HX.out])
     have f0 := I2.frozen (k * 4)
     have f1 := I2.frozen (k * 4 + 1)
     have f2 := I2.frozen (k * 4 + 2)
     have f3 := I2.frozen (k * 4 + 3)
     have hsz : ∀ j, j < 4 → ∃ u, w2.cell? ⟨gq, k * 4 + j, none⟩ = some u := ownE_cells I2 (i := k) (by have := HK.out; simp; omega)
     obtain ⟨y0, hy0⟩ := hsz 0 (by decide)
     obtain ⟨y1, hy1⟩ := hsz 1 (by decide)
     obtain ⟨y2, hy2⟩ := hsz 2 (by decide)
     obtain ⟨y3, hy3⟩ := hsz 3 (by decide)
     simp only [Nat.add_zero] at hy0
     rw [HK.out, show ringK.k = 4 from rfl] at IN
     clear hsz I2 hgx
     go_upto_region 6 with fail
     show Code.wp _ _ _ _ (setsW gq (k * 4) w2 0 (ringK.f (⟨X, u⟩ : LR)))
     generalize setsW gq (k * 4) w2 0 (ringK.f (⟨X, u⟩ : LR)) = w3 at IN ⊢
     clear hy0 hy1 hy2 hy3 f0 f1 f2 f3
     go_wp2_with fail
     go_roundw
     case rel => exact ⟨k + 1, _, by omega, by go_num, hid (by have := HK.out; simp only [List.length_append, List.length_cons, List.length_nil]; omega), IN⟩
     case measure => simp [intOf]; omega
    ·obtain rfl : k = L := by omega
     have hR := I.done (by rw [HK.out, ← HL.out])
     have hle := I.le
     clear I
     go_wp2_with fail
     go_ret
     exact ⟨(some ⟨gq, 0, none⟩, k, cap), ys, rfl, hR, hle⟩
 ·have hxn : xs = [] := by cases xs with | nil => rfl | cons _ _ => simp at h0
  subst hxn
  go_enter Tryz.func63, Tryz.ntmps63
  go_wp2_with fail
  refine m0.mono ?_
  rintro e w1 ⟨q, rfl, oq, l1⟩
  have hz : q.2.1 = 0 := oq.has.len
  obtain ⟨qa, qn, qcap⟩ := q
  simp only at hz
  subst hz
  go_wp2_with fail
  refine wp_loop_rounds 1 ?_
  rw [rounds_succ]
  go_wp2_with fail
  go_ret
  exact ⟨_, [], rfl, EachI.done (EachI.start oq l1) rfl, l1⟩
set_option maxRecDepth 4000 in
set_option maxHeartbeats 2000000 in
theorem copyEachP (v : Value) (xs : List LP) (w : World) (hx : HasE repK w v xs) (hq : ∀ x ∈ xs, (∀ i, i < 4 → Has w (slV (x.vs i)) (x.P.s.at i)) ∧ Has w (slV x.c) x.P.cs ∧ Has w (slV x.l) x.P.ls) (hfe : ∀ x ∈ xs, Fit x.P.s ∧ x.P.cs.length * 8 ≤ 140737488351232 ∧ x.P.ls.length * 8 ≤ 140737488351232) (hf : xs.length * 144 ≤ 140737488351232) :
   Calls Tryz.prog 65 #[v, .func (.func 66) #[] #[]] w fun e w' => ∃ (q : Sl) (ys : List LP), e = .returned (slV q) ∧ EachR repK InP bkP LP.P w.heap.size w' (slV q) (xs.map LP.P) ys ∧ Le w w' := by
 have hc : ∀ (u : Value) (w : World), (callFunc 66 #[u]).run Tryz.prog w = .ok (.enter 66 #[u]) w := fun _ _ => by kernel_rfl
 have m0 := listsCopyP v xs w hx hf
 by_cases h0 : 0 < xs.length
 ·obtain ⟨L, hL⟩ : ∃ L, L = xs.length := ⟨_, rfl⟩
  have HL : Hid (L = xs.length) := hL
  have hm : L ≤ 9223372036854775807 := by omega
  have h0' : 0 < L := by omega
  go_enter Tryz.func65, Tryz.ntmps65
  go_wp2_with fail
  refine m0.mono ?_
  rintro e w1 ⟨q, rfl, oq, l1⟩
  clear m0
  obtain ⟨gq, cap, hqv, hcap, hgq, hgl⟩ := oq.shape h0
  have hqs : q = (some ⟨gq, 0, none⟩, L, cap) := by
    simp only [slV, Value.slice.injEq] at hqv
    obtain ⟨a, b, c⟩ := hqv
    rw [hL]
    exact Prod.ext a (Prod.ext b c)
  subst hqs
  have I0 : EachI repK InP bkP LP.P w w1 (.slice (some ⟨gq, 0, none⟩) L cap) xs [] := EachI.start oq l1
  rw [← hL] at hcap
  clear oq hqv hL hf
  simp only [slV]
  go_wp2_with fail
  go_loopw [12] (fun i wr => ∃ (k : Nat) (ys : List LP), k ≤ L ∧ i = .int .i64 k ∧ Hid (ys.length = k) ∧ EachI repK InP bkP LP.P w wr (.slice (some ⟨gq, 0, none⟩) L cap) xs ys) (fun i _ => L - (intOf i).toNat)
  case atStart => exact ⟨0, [], by omega, rfl, rfl, I0⟩
  case round =>
    clear I0
    obtain ⟨k, ys, hk, rfl, HK, I⟩ := hrel
    by_cases hlt : k < L
    ·have hlt' : (k : Int) < (L : Int) := by omega
     have hkx : k < xs.length := by have := HL.out; omega
     obtain ⟨x0, hx0⟩ : ∃ x, x = xs.getD k repK.d := ⟨_, rfl⟩
     have HX : Hid (x0 = xs.getD k repK.d) := hx0
     have hmem : x0 ∈ xs := by rw [hx0]; exact getD_mem hkx
     obtain ⟨a', c', hv', _, _, hcell⟩ := I.own.has
     obtain ⟨b', off', ha', hcell⟩ := hcell (by have := HK.out; simp; omega)
     simp only [Value.slice.injEq] at hv'
     rw [ha'] at hv'
     simp only [Option.some.injEq, Addr.mk.injEq, and_true] at hv'
     obtain ⟨⟨hgb, hoff⟩, hjunk⟩ := hv'
     have hck := hcell k (by have := HK.out; simp; omega)
     have hget : (ys ++ xs.drop ys.length).getD k repK.d = x0 := by
       rw [hx0, HK.out]
       simp only [List.getD]
       rw [List.getElem?_append_right (by have := HK.out; omega), List.getElem?_drop]
       congr 2
       have := HK.out
       omega
     rw [hget, ← hgb, ← hoff] at hck
     simp only [Nat.zero_add] at hck
     clear hcell hget hgb hoff ha' hx0 hjunk
     have hrow := (hq x0 hmem)
     have hfx := hfe x0 hmem
     obtain ⟨X, vx, cx, lx⟩ := x0
     simp only at hrow hfx
     have rA : RepAt wr gq (k * 6) vx cx lx := ⟨hck 0 (by decide), hck 1 (by decide), hck 2 (by decide), hck 3 (by decide), hck 4 (by decide), hck 5 (by decide)⟩
     obtain ⟨x0, x1, x2, x3, x4, x5⟩ := rA
     have hbx := Box.new wr (cellsP vx cx lx) 46
     have hA := Le.alloc wr (.cells (cellsP vx cx lx) 46)
     clear hck
     go_upto_region 5 with fail
     generalize hW : wr.alloc (.cells (cellsP vx cx lx) 46) = wq at hbx hA ⊢
     generalize hgx : wr.heap.size = gx at hbx ⊢
     clear hW x0 x1 x2 x3 x4 x5
     obtain ⟨z0, z1, z2, z3, z4, z5⟩ := hbx.rep
     have m1 := machCopyReplica X vx cx lx wq (fun i hi => ((hrow.1 i hi).le I.le).le hA) ((hrow.2.1.le I.le).le hA) ((hrow.2.2.le I.le).le hA) hfx.1 hfx.2.1 hfx.2.2
     go_wp2_with fail
     refine m1.mono ?_
     rintro e w2 ⟨ux, u1, u2, rfl, ou, l2⟩
     clear m1 hbx z0 z1 z2 z3 z4 z5
     have I2 := I.own.le (hA.trans l2)
     have IN := I.next inP (by have := HK.out; omega) (hA.trans l2) (y := (⟨X, ux, u1, u2⟩ : LP)) (show InP w2 wq.heap.size ⟨X, ux, u1, u2⟩ from ou) hA.size (by rw [HK.out, ← HX.out])
     have f0 := I2.frozen (k * 6)
     have f1 := I2.frozen (k * 6 + 1)
     have f2 := I2.frozen (k * 6 + 2)
     have f3 := I2.frozen (k * 6 + 3)
     have f4 := I2.frozen (k * 6 + 4)
     have f5 := I2.frozen (k * 6 + 5)
     have hsz : ∀ j, j < 6 → ∃ u, w2.cell? ⟨gq, k * 6 + j, none⟩ = some u := ownE_cells I2 (i := k) (by have := HK.out; simp; omega)
     obtain ⟨y0, hy0⟩ := hsz 0 (by decide)
     obtain ⟨y1, hy1⟩ := hsz 1 (by decide)
     obtain ⟨y2, hy2⟩ := hsz 2 (by decide)
     obtain ⟨y3, hy3⟩ := hsz 3 (by decide)
     obtain ⟨y4, hy4⟩ := hsz 4 (by decide)
     obtain ⟨y5, hy5⟩ := hsz 5 (by decide)
     simp only [Nat.add_zero] at hy0
     rw [HK.out, show repK.k = 6 from rfl] at IN
     clear hsz I2 hgx
     go_upto_region 6 with fail
     show Code.wp _ _ _ _ (setsW gq (k * 6) w2 0 (repK.f (⟨X, ux, u1, u2⟩ : LP)))
     generalize setsW gq (k * 6) w2 0 (repK.f (⟨X, ux, u1, u2⟩ : LP)) = w3 at IN ⊢
     clear hy0 hy1 hy2 hy3 hy4 hy5 f0 f1 f2 f3 f4 f5
     go_wp2_with fail
     go_roundw
     case rel => exact ⟨k + 1, _, by omega, by go_num, hid (by have := HK.out; simp only [List.length_append, List.length_cons, List.length_nil]; omega), IN⟩
     case measure => simp [intOf]; omega
    ·obtain rfl : k = L := by omega
     have hR := I.done (by rw [HK.out, ← HL.out])
     have hle := I.le
     clear I
     go_wp2_with fail
     go_ret
     exact ⟨(some ⟨gq, 0, none⟩, k, cap), ys, rfl, hR, hle⟩
 ·have hxn : xs = [] := by cases xs with | nil => rfl | cons _ _ => simp at h0
  subst hxn
  go_enter Tryz.func65, Tryz.ntmps65
  go_wp2_with fail
  refine m0.mono ?_
  rintro e w1 ⟨q, rfl, oq, l1⟩
  have hz : q.2.1 = 0 := oq.has.len
  obtain ⟨qa, qn, qcap⟩ := q
  simp only at hz
  subst hz
  go_wp2_with fail
  refine wp_loop_rounds 1 ?_
  rw [rounds_succ]
  go_wp2_with fail
  go_ret
  exact ⟨_, [], rfl, EachI.done (EachI.start oq l1) rfl, l1⟩
set_option maxRecDepth 4000 in
set_option maxHeartbeats 2000000 in
theorem copyEachT (v : Value) (xs : List LT) (w : World) (hx : HasE thK w v xs) (hq : ∀ x ∈ xs, Has w (slV x.b) x.T.b ∧ Has w (slV x.t) x.T.tl) (hfe : ∀ x ∈ xs, x.T.b.length * 8 ≤ 140737488351232 ∧ x.T.tl.length * 8 ≤ 140737488351232) (hf : xs.length * 120 ≤ 140737488351232) :
   Calls Tryz.prog 67 #[v, .func (.func 68) #[] #[]] w fun e w' => ∃ (q : Sl) (ys : List LT), e = .returned (slV q) ∧ EachR thK InT bkT LT.T w.heap.size w' (slV q) (xs.map LT.T) ys ∧ Le w w' := by
 have hc : ∀ (u : Value) (w : World), (callFunc 68 #[u]).run Tryz.prog w = .ok (.enter 68 #[u]) w := fun _ _ => by kernel_rfl
 have m0 := listsCopyT v xs w hx hf
 by_cases h0 : 0 < xs.length
 ·obtain ⟨L, hL⟩ : ∃ L, L = xs.length := ⟨_, rfl⟩
  have HL : Hid (L = xs.length) := hL
  have hm : L ≤ 9223372036854775807 := by omega
  have h0' : 0 < L := by omega
  go_enter Tryz.func67, Tryz.ntmps67
  go_wp2_with fail
  refine m0.mono ?_
  rintro e w1 ⟨q, rfl, oq, l1⟩
  clear m0
  obtain ⟨gq, cap, hqv, hcap, hgq, hgl⟩ := oq.shape h0
  have hqs : q = (some ⟨gq, 0, none⟩, L, cap) := by
    simp only [slV, Value.slice.injEq] at hqv
    obtain ⟨a, b, c⟩ := hqv
    rw [hL]
    exact Prod.ext a (Prod.ext b c)
  subst hqs
  have I0 : EachI thK InT bkT LT.T w w1 (.slice (some ⟨gq, 0, none⟩) L cap) xs [] := EachI.start oq l1
  rw [← hL] at hcap
  clear oq hqv hL hf
  simp only [slV]
  go_wp2_with fail
  go_loopw [12] (fun i wr => ∃ (k : Nat) (ys : List LT), k ≤ L ∧ i = .int .i64 k ∧ Hid (ys.length = k) ∧ EachI thK InT bkT LT.T w wr (.slice (some ⟨gq, 0, none⟩) L cap) xs ys) (fun i _ => L - (intOf i).toNat)
  case atStart => exact ⟨0, [], by omega, rfl, rfl, I0⟩
  case round =>
    clear I0
    obtain ⟨k, ys, hk, rfl, HK, I⟩ := hrel
    by_cases hlt : k < L
    ·have hlt' : (k : Int) < (L : Int) := by omega
     have hkx : k < xs.length := by have := HL.out; omega
     obtain ⟨x0, hx0⟩ : ∃ x, x = xs.getD k thK.d := ⟨_, rfl⟩
     have HX : Hid (x0 = xs.getD k thK.d) := hx0
     have hmem : x0 ∈ xs := by rw [hx0]; exact getD_mem hkx
     obtain ⟨a', c', hv', _, _, hcell⟩ := I.own.has
     obtain ⟨b', off', ha', hcell⟩ := hcell (by have := HK.out; simp; omega)
     simp only [Value.slice.injEq] at hv'
     rw [ha'] at hv'
     simp only [Option.some.injEq, Addr.mk.injEq, and_true] at hv'
     obtain ⟨⟨hgb, hoff⟩, hjunk⟩ := hv'
     have hck := hcell k (by have := HK.out; simp; omega)
     have hget : (ys ++ xs.drop ys.length).getD k thK.d = x0 := by
       rw [hx0, HK.out]
       simp only [List.getD]
       rw [List.getElem?_append_right (by have := HK.out; omega), List.getElem?_drop]
       congr 2
       have := HK.out
       omega
     rw [hget, ← hgb, ← hoff] at hck
     simp only [Nat.zero_add] at hck
     clear hcell hget hgb hoff ha' hx0 hjunk
     have hrow := (hq x0 hmem)
     have hfx := hfe x0 hmem
     obtain ⟨X, bx, tx⟩ := x0
     simp only at hrow hfx
     have rA : ThAt wr gq (k * 12) X bx tx := ⟨hck 0 (by decide), hck 1 (by decide), hck 2 (by decide), hck 3 (by decide), hck 4 (by decide), hck 5 (by decide), hck 6 (by decide), hck 7 (by decide), hck 8 (by decide), hck 9 (by decide), hck 10 (by decide), hck 11 (by decide)⟩
     obtain ⟨x0, x1, x2, x3, x4, x5, x6, x7, x8, x9, x10, x11⟩ := rA
     have hbx := Box.new wr (cellsT X bx tx) 59
     have hA := Le.alloc wr (.cells (cellsT X bx tx) 59)
     clear hck
     go_upto_region 5 with fail
     generalize hW : wr.alloc (.cells (cellsT X bx tx) 59) = wq at hbx hA ⊢
     generalize hgx : wr.heap.size = gx at hbx ⊢
     clear hW x0 x1 x2 x3 x4 x5 x6 x7 x8 x9 x10 x11
     obtain ⟨z0, z1, z2, z3, z4, z5, z6, z7, z8, z9, z10, z11⟩ := hbx.th
     have m1 := machCopyThread X bx tx wq ((hrow.1.le I.le).le hA) ((hrow.2.le I.le).le hA) hfx.1 hfx.2
     go_wp2_with fail
     refine m1.mono ?_
     rintro e w2 ⟨u1, u2, rfl, o1, o2, ap, l2⟩
     clear m1 hbx z0 z1 z2 z3 z4 z5 z6 z7 z8 z9 z10 z11
     have I2 := I.own.le (hA.trans l2)
     have IN := I.next inT (by have := HK.out; omega) (hA.trans l2) (y := (⟨X, u1, u2⟩ : LT)) (show InT w2 wq.heap.size ⟨X, u1, u2⟩ from ⟨o1, o2, ap⟩) hA.size (by rw [HK.out, ← HX.out])
     have f0 := I2.frozen (k * 12)
     have f1 := I2.frozen (k * 12 + 1)
     have f2 := I2.frozen (k * 12 + 2)
     have f3 := I2.frozen (k * 12 + 3)
     have f4 := I2.frozen (k * 12 + 4)
     have f5 := I2.frozen (k * 12 + 5)
     have f6 := I2.frozen (k * 12 + 6)
     have f7 := I2.frozen (k * 12 + 7)
     have f8 := I2.frozen (k * 12 + 8)
     have f9 := I2.frozen (k * 12 + 9)
     have f10 := I2.frozen (k * 12 + 10)
     have f11 := I2.frozen (k * 12 + 11)
     have hsz : ∀ j, j < 12 → ∃ u, w2.cell? ⟨gq, k * 12 + j, none⟩ = some u := ownE_cells I2 (i := k) (by have := HK.out; simp; omega)
     obtain ⟨y0, hy0⟩ := hsz 0 (by decide)
     obtain ⟨y1, hy1⟩ := hsz 1 (by decide)
     obtain ⟨y2, hy2⟩ := hsz 2 (by decide)
     obtain ⟨y3, hy3⟩ := hsz 3 (by decide)
     obtain ⟨y4, hy4⟩ := hsz 4 (by decide)
     obtain ⟨y5, hy5⟩ := hsz 5 (by decide)
     obtain ⟨y6, hy6⟩ := hsz 6 (by decide)
     obtain ⟨y7, hy7⟩ := hsz 7 (by decide)
     obtain ⟨y8, hy8⟩ := hsz 8 (by decide)
     obtain ⟨y9, hy9⟩ := hsz 9 (by decide)
     obtain ⟨y10, hy10⟩ := hsz 10 (by decide)
     obtain ⟨y11, hy11⟩ := hsz 11 (by decide)
     simp only [Nat.add_zero] at hy0
     rw [HK.out, show thK.k = 12 from rfl] at IN
     clear hsz I2 hgx
     go_upto_region 6 with fail
     show Code.wp _ _ _ _ (setsW gq (k * 12) w2 0 (thK.f (⟨X, u1, u2⟩ : LT)))
     generalize setsW gq (k * 12) w2 0 (thK.f (⟨X, u1, u2⟩ : LT)) = w3 at IN ⊢
     clear hy0 hy1 hy2 hy3 hy4 hy5 hy6 hy7 hy8 hy9 hy10 hy11 f0 f1 f2 f3 f4 f5 f6 f7 f8 f9 f10 f11
     go_wp2_with fail
     go_roundw
     case rel => exact ⟨k + 1, _, by omega, by go_num, hid (by have := HK.out; simp only [List.length_append, List.length_cons, List.length_nil]; omega), IN⟩
     case measure => simp [intOf]; omega
    ·obtain rfl : k = L := by omega
     have hR := I.done (by rw [HK.out, ← HL.out])
     have hle := I.le
     clear I
     go_wp2_with fail
     go_ret
     exact ⟨(some ⟨gq, 0, none⟩, k, cap), ys, rfl, hR, hle⟩
 ·have hxn : xs = [] := by cases xs with | nil => rfl | cons _ _ => simp at h0
  subst hxn
  go_enter Tryz.func67, Tryz.ntmps67
  go_wp2_with fail
  refine m0.mono ?_
  rintro e w1 ⟨q, rfl, oq, l1⟩
  have hz : q.2.1 = 0 := oq.has.len
  obtain ⟨qa, qn, qcap⟩ := q
  simp only at hz
  subst hz
  go_wp2_with fail
  refine wp_loop_rounds 1 ?_
  rw [rounds_succ]
  go_wp2_with fail
  go_ret
  exact ⟨_, [], rfl, EachI.done (EachI.start oq l1) rfl, l1⟩
theorem Box.mset5 {w : World} {g : Nat} {c : Cfg} {a b d e q : Sl} {ty : TypeId} (h : Box w g (cells9 c a b d e) ty) : Box (w.setCell ⟨g, 5, none⟩ (slV q)) g (cells9 c q b d e) ty := h.set 5 _
theorem Box.mset6 {w : World} {g : Nat} {c : Cfg} {a b d e q : Sl} {ty : TypeId} (h : Box w g (cells9 c a b d e) ty) : Box (w.setCell ⟨g, 6, none⟩ (slV q)) g (cells9 c a q d e) ty := h.set 6 _
theorem Box.mset7 {w : World} {g : Nat} {c : Cfg} {a b d e q : Sl} {ty : TypeId} (h : Box w g (cells9 c a b d e) ty) : Box (w.setCell ⟨g, 7, none⟩ (slV q)) g (cells9 c a b q e) ty := h.set 7 _
theorem Box.mset8 {w : World} {g : Nat} {c : Cfg} {a b d e q : Sl} {ty : TypeId} (h : Box w g (cells9 c a b d e) ty) : Box (w.setCell ⟨g, 8, none⟩ (slV q)) g (cells9 c a b d q) ty := h.set 8 _
set_option maxRecDepth 8000 in
set_option maxHeartbeats 8000000 in
theorem machCopy (v : Value) (M : Mc) (w : World) (hx : HasM w v M) (hf : FitM M) :
   Calls Tryz.prog 27 #[v] w fun e w' => ∃ L : Lay, e = .returned L.v ∧ L.M = M ∧ OwnsM w' w.heap.size L ∧ ApartM L ∧ Le w w' := by
 obtain ⟨c, Rs, Ps, Ts, Es⟩ := M
 obtain ⟨qR, qP, qT, qH, rfl, ⟨xR, hxR, hER, hiR⟩, ⟨xP, hxP, hEP, hiP⟩, ⟨xT, hxT, hET, hiT⟩, hEH⟩ := hx
 obtain ⟨f1, f2, f3, f4, f5, f6, f7⟩ := hf
 simp only at hxR hxP hxT f1 f2 f3 f4 f5 f6 f7 hEH ⊢
 have hfR : ∀ x ∈ xR, FitR x.R := fun x hx => f5 _ (by rw [← hxR]; exact List.mem_map_of_mem hx)
 have hfP : ∀ x ∈ xP, Fit x.P.s ∧ x.P.cs.length * 8 ≤ 140737488351232 ∧ x.P.ls.length * 8 ≤ 140737488351232 := fun x hx => f6 _ (by rw [← hxP]; exact List.mem_map_of_mem hx)
 have hfT : ∀ x ∈ xT, x.T.b.length * 8 ≤ 140737488351232 ∧ x.T.tl.length * 8 ≤ 140737488351232 := fun x hx => f7 _ (by rw [← hxT]; exact List.mem_map_of_mem hx)
 have gR : xR.length * 48 ≤ 140737488351232 := by have := congrArg List.length hxR; simp at this; omega
 have gP : xP.length * 144 ≤ 140737488351232 := by have := congrArg List.length hxP; simp at this; omega
 have gT : xT.length * 120 ≤ 140737488351232 := by have := congrArg List.length hxT; simp at this; omega
 have m1 := fun w' (l : Le w w') => copyEachR (slV qR) xR w' (hER.le l) (fun x hx => (hiR x hx).le l) hfR gR
 have m2 := fun w' (l : Le w w') => copyEachP (slV qP) xP w' (hEP.le l) (fun x hx => ⟨fun i hi => ((hiP x hx).1 i hi).le l, (hiP x hx).2.1.le l, (hiP x hx).2.2.le l⟩) hfP gP
 have m3 := fun w' (l : Le w w') => copyEachT (slV qT) xT w' (hET.le l) (fun x hx => ⟨(hiT x hx).1.le l, (hiT x hx).2.le l⟩) hfT gT
 have m4 := fun w' (l : Le w w') => listsCopyE (slV qH) Es w' (hEH.le l) f4
 rw [hxR] at m1
 rw [hxP] at m2
 rw [hxT] at m3
 clear hER hiR hEP hiP hET hiT hEH f1 f2 f3 f4 f5 f6 f7 hfR hfP hfT gR gP gT hxR hxP hxT xR xP xT
 have hr := Box.new (w.alloc (.cells (cells9 c qR qP qT qH) 29)) cellsZ9 29
 have hb := (Box.new w (cells9 c qR qP qT qH) 29).le (Le.alloc _ (.cells cellsZ9 29))
 have hl := (Le.alloc w (.cells (cells9 c qR qP qT qH) 29)).trans (Le.alloc _ (.cells cellsZ9 29))
 rw [World.size_alloc] at hr
 have hgw : w.heap.size < ((w.alloc (.cells (cells9 c qR qP qT qH) 29)).alloc (.cells cellsZ9 29)).heap.size := by simp; omega
 go_enter Tryz.func27, Tryz.ntmps27
 go_upto_region 1 with fail
 generalize hW : (w.alloc (.cells (cells9 c qR qP qT qH) 29)).alloc (.cells cellsZ9 29) = W at hl hb hr hgw ⊢
 clear hW
 have y5 := hb.mach.2.1
 go_wp2_with fail
 refine (m1 _ hl).mono ?_
 rintro e w1 ⟨q1, yR, rfl, E1, l1⟩
 clear m1 y5
 replace hb := hb.le l1
 replace hr := hr.le l1
 replace hl := hl.trans l1
 have y5 := hb.mach.2.1
 have k5 := hb.frozen 5
 have hb2 := hb.mset5 (q := q1)
 have hr2 := hr.other (show w.heap.size + 1 ≠ w.heap.size by omega) 5 (slV q1)
 have hl2 := hl.set (g := w.heap.size) (i := 5) (u := slV q1) (Nat.le_refl _)
 have E1' := E1.setR (i := 5) (u := slV q1) hb
 have hs1 : W.heap.size ≤ (w1.setCell ⟨w.heap.size, 5, none⟩ (slV q1)).heap.size := by simp; exact l1.size
 go_upto_region 2 with fail
 clear y5 k5 hb hr hl E1
 generalize hW : w1.setCell ⟨w.heap.size, 5, none⟩ (slV q1) = W1 at hb2 hr2 hl2 E1' hs1 ⊢
 clear hW l1
 have y6 := hb2.mach.2.2.1
 go_wp2_with fail
 refine (m2 _ hl2).mono ?_
 rintro e w2 ⟨q2, yP, rfl, E2, l2⟩
 clear m2 y6
 replace hb := hb2.le l2
 replace hr := hr2.le l2
 replace hl := hl2.trans l2
 replace E1' := E1'.le inR l2
 have y6 := hb.mach.2.2.1
 have k6 := hb.frozen 6
 have hb3 := hb.mset6 (q := q2)
 have hr3 := hr.other (show w.heap.size + 1 ≠ w.heap.size by omega) 6 (slV q2)
 have hl3 := hl.set (g := w.heap.size) (i := 6) (u := slV q2) (Nat.le_refl _)
 have E1'' := E1'.setR (i := 6) (u := slV q2) hb
 have E2' := E2.setP (i := 6) (u := slV q2) hb
 have hs2 : W1.heap.size ≤ (w2.setCell ⟨w.heap.size, 6, none⟩ (slV q2)).heap.size := by simp; exact l2.size
 have hlt : ∀ y ∈ yP, ∀ g, bkP y g → g < (w2.setCell ⟨w.heap.size, 6, none⟩ (slV q2)).heap.size := fun y hy g h => (inP.blk (E2'.inn y hy) h).2
 go_upto_region 3 with fail
 clear y6 k6 hb hr hl E1' E2 hb2 hr2 hl2
 generalize hW : w2.setCell ⟨w.heap.size, 6, none⟩ (slV q2) = W2 at hb3 hr3 hl3 E1'' E2' hs2 hlt ⊢
 clear hW l2
 have y7 := hb3.mach.2.2.2.1
 go_wp2_with fail
 refine (m3 _ hl3).mono ?_
 rintro e w3 ⟨q3, yT, rfl, E3, l3⟩
 clear m3 y7
 replace hb := hb3.le l3
 replace hr := hr3.le l3
 replace hl := hl3.trans l3
 replace E1 := E1''.le inR l3
 replace E2 := E2'.le inP l3
 have y7 := hb.mach.2.2.2.1
 have k7 := hb.frozen 7
 have hb4 := hb.mset7 (q := q3)
 have hr4 := hr.other (show w.heap.size + 1 ≠ w.heap.size by omega) 7 (slV q3)
 have hl4 := hl.set (g := w.heap.size) (i := 7) (u := slV q3) (Nat.le_refl _)
 have E1' := E1.setR (i := 7) (u := slV q3) hb
 replace E2' := E2.setP (i := 7) (u := slV q3) hb
 have E3' := E3.setT (i := 7) (u := slV q3) hb
 go_upto_region 4 with fail
 clear y7 k7 hb hr hl E1 E2 E3 E1'' hb3 hr3 hl3
 generalize hW : w3.setCell ⟨w.heap.size, 7, none⟩ (slV q3) = W3 at hb4 hr4 hl4 E1' E2' E3' ⊢
 clear hW l3
 have y8 := hb4.mach.2.2.2.2
 go_wp2_with fail
 refine (m4 _ hl4).mono ?_
 rintro e w4 ⟨q4, rfl, oH, l4⟩
 clear m4 y8
 have hs4 := hl4.size
 replace hb := hb4.le l4
 replace hr := hr4.le l4
 replace hl := hl4.trans l4
 replace E1 := E1'.le inR l4
 replace E2 := E2'.le inP l4
 replace E3 := E3'.le inT l4
 have y8 := hb.mach.2.2.2.2
 have k8 := hb.frozen 8
 have hb5 := hb.mset8 (q := q4)
 have hr5 := hr.other (show w.heap.size + 1 ≠ w.heap.size by omega) 8 (slV q4)
 have hl5 := hl.set (g := w.heap.size) (i := 8) (u := slV q4) (Nat.le_refl _)
 replace E1' := E1.setR (i := 8) (u := slV q4) hb
 replace E2' := E2.setP (i := 8) (u := slV q4) hb
 replace E3' := E3.setT (i := 8) (u := slV q4) hb
 have oH' : OwnE evK (w4.setCell ⟨w.heap.size, 8, none⟩ (slV q4)) w.heap.size (slV q4) Es := own_setM hb (oH.base hs4) (by decide)
 go_upto_region 5 with fail
 clear y8 k8 hb hr hl E1 E2 E3 hb4 hr4 hl4 oH
 generalize hW : w4.setCell ⟨w.heap.size, 8, none⟩ (slV q4) = W4 at hb5 hr5 hl5 E1' E2' E3' oH' ⊢
 clear hW l4
 have hfin := each_ownsM (c := c) (B := w.heap.size) (w := W4) ⟨E1'.own.base (by omega), fun y hy => inR.base (E1'.inn y hy) (by omega), E1'.ap, E1'.same⟩ E2' E3' oH' (by omega) (by omega) hlt
 obtain ⟨⟨y0, y1, y2, y3, y4⟩, y5, y6, y7, y8⟩ := (hb5).mach
 obtain ⟨⟨r0, r1, r2, r3, r4, r5, r6, r7, r8⟩, k0, k1, k2, k3, k4, k5, k6, k7, k8⟩ := hr5.res
 clear E1' E2' E3' oH' hlt
 go_wp2_with fail
 refine bodyPost_ret (v := machV c q1 q2 q3 q4) (by simp [results, Tryz.results27, go_sem, r0, r1, r2, r3, r4, r5, r6, r7, r8]) rfl ⟨⟨c, q1, q2, q3, q4, yR, yP, yT, Es⟩, rfl, hfin.1, ?_, hfin.2.2, hl5.put9 (by omega) c q1 q2 q3 q4⟩
 have o := hfin.2.1
 have hne : ∀ {t : TypeId} {kk n : Nat} {v : Value} {us : List Value}, World.ownsRow W4 w.heap.size t kk v n us → t ≠ 29 → (put9 W4 (w.heap.size + 1) c q1 q2 q3 q4).ownsRow w.heap.size t kk v n us := fun {t kk n v us} h ht => row_put9 h (fun e => by
   rcases h.2 with ⟨e2, _⟩ | ⟨g', cap, cur, hv, _, hh, _⟩
   ·rw [e2] at e; simp [Value.ownBlock] at e
   ·rw [hv] at e
    simp [Value.ownBlock] at e
    subst e
    unfold Box at hr5
    rw [hr5] at hh
    simp at hh
    exact ht hh.2.symm) _ _ _ _ _
 exact ⟨hne o.oR (by decide), hne o.oP (by decide), hne o.oT (by decide), hne o.oH (by decide), fun y hy => hne (o.iR y hy) (by decide), fun y hy => ⟨fun i hi => hne ((o.iP y hy).1 i hi) (by decide), hne (o.iP y hy).2.1 (by decide), hne (o.iP y hy).2.2 (by decide)⟩, fun y hy => ⟨hne (o.iT y hy).1 (by decide), hne (o.iT y hy).2 (by decide)⟩⟩
theorem MoI.repIn {B g : Nat} {w : World} {L : Lay} (h : MoI B g w L) {i gP n cap : Nat} (hq : L.qP = (some ⟨gP, 0, none⟩, n, cap)) (hi : i < L.ps.length) : g ≠ gP ∧ gP < w.heap.size ∧ B ≤ gP ∧ RepAt w gP (i * 6) (L.ps.getD i repK.d).vs (L.ps.getD i repK.d).c (L.ps.getD i repK.d).l ∧ ∀ j, w.frozen? ⟨gP, j, none⟩ = false := by
 obtain ⟨g', c, hq', _, h1, h2, h3, h4, h5⟩ := h.openP hi
 rw [hq] at hq'
 simp only [Prod.mk.injEq, Option.some.injEq, Addr.mk.injEq, and_true] at hq'
 obtain ⟨rfl, _⟩ := hq'
 exact ⟨h3, h2, h1, h4, h5⟩
theorem OwnE.ne {α : Type} {K : Kind α} {w : World} {base g g' n c : Nat} {q : Sl} {xs : List α} {cs : Array Value} {t : TypeId} (h : OwnE K w base (slV q) xs) (hq : q = (some ⟨g', 0, none⟩, n, c)) (hb : Box w g cs t) (ht : t ≠ K.t) : g ≠ g' := fun e => h.apart hb ht (by rw [hq, e]; rfl)
theorem MoI.neT {B g g' gT n c : Nat} {w : World} {L : Lay} (h : MoI B g w L) {cs : Array Value} {t : TypeId} (hq : L.qT = (some ⟨gT, 0, none⟩, n, c)) (hb : Box w g' cs t) (ht : t ≠ 59) : g' ≠ gT := h.own.oT.ne hq hb ht
theorem MoI.neP {B g g' gT n c : Nat} {w : World} {L : Lay} (h : MoI B g w L) {cs : Array Value} {t : TypeId} (hq : L.qP = (some ⟨gT, 0, none⟩, n, c)) (hb : Box w g' cs t) (ht : t ≠ 46) : g' ≠ gT := h.own.oP.ne hq hb ht
theorem MoI.neC {B g g' gl n c i : Nat} {w : World} {L : Lay} (h : MoI B g w L) {cs : Array Value} {t : TypeId} (hi : i < L.ps.length) (hq : (L.ps.getD i repK.d).c = (some ⟨gl, 0, none⟩, n, c)) (hb : Box w g' cs t) (ht : t ≠ 3) : g' ≠ gl := (h.own.iP _ (getD_mem (d := repK.d) hi)).2.1.e.ne hq hb ht
theorem Box.otherO4 {w : World} {g g' o : Nat} {cs : Array Value} {t : TypeId} (h : Box w g cs t) (hne : g ≠ g') (a b c d : Value) : Box ((((w.setCell ⟨g', o, none⟩ a).setCell ⟨g', o + 1, none⟩ b).setCell ⟨g', o + 2, none⟩ c).setCell ⟨g', o + 3, none⟩ d) g cs t :=
 (((h.other hne _ _).other hne _ _).other hne _ _).other hne _ _
theorem Le.seto4 {w w' : World} {g o : Nat} (h : Le w w') (hg : w.heap.size ≤ g) (a b c d : Value) : Le w ((((w'.setCell ⟨g, o, none⟩ a).setCell ⟨g, o + 1, none⟩ b).setCell ⟨g, o + 2, none⟩ c).setCell ⟨g, o + 3, none⟩ d) :=
 (((h.set hg).set hg).set hg).set hg
theorem listsHasR (q : Sl) (x : Int) (w : World) (hq : q.2.1 ≤ 4611686018427387904) : Calls Tryz.prog 62 #[slV q, .int .i64 x] w fun e w' => e = .returned (.bool (inB 0 x (q.2.1 - 1))) ∧ w = w' := by
 obtain ⟨a, n, cap⟩ := q
 simp only at hq
 by_cases h1 : 0 ≤ x
 all_goals
   go_enter Tryz.func62, Tryz.ntmps62
   go_wp2
   go_ret
   exact ⟨ret_bool (by rw [Bool.eq_iff_iff]; simp [inB]; omega), rfl⟩
theorem listsHasP (q : Sl) (x : Int) (w : World) (hq : q.2.1 ≤ 4611686018427387904) : Calls Tryz.prog 61 #[slV q, .int .i64 x] w fun e w' => e = .returned (.bool (inB 0 x (q.2.1 - 1))) ∧ w = w' := by
 obtain ⟨a, n, cap⟩ := q
 simp only at hq
 by_cases h1 : 0 ≤ x
 all_goals
   go_enter Tryz.func61, Tryz.ntmps61
   go_wp2
   go_ret
   exact ⟨ret_bool (by rw [Bool.eq_iff_iff]; simp [inB]; omega), rfl⟩
def atRG (M : Mc) (r g : Int) : Bool := mayM M && (inB 0 r (M.c.r - 1) && inB 0 g (M.c.l - 1))
theorem atRG_there {M : Mc} {r g t : Int} : thereB M r g t = (atRG M r g && inB 0 t (M.c.t - 1)) := by
 unfold thereB atRG
 cases mayM M <;> cases inB 0 r (M.c.r - 1) <;> cases inB 0 g (M.c.l - 1) <;> rfl
theorem atRG_zero {M : Mc} {r g : Int} : thereB M r g 0 = atRG M r g := by
 rw [atRG_there]
 cases h : atRG M r g
 ·rfl
 ·unfold atRG at h
  simp only [Bool.and_eq_true] at h
  obtain ⟨_, _, _, ⟨t0, t1⟩, _⟩ := Cfg.ok_cases (mayM_ok h.1)
  rw [inB_yes (by omega) (by omega)]
  rfl
set_option maxRecDepth 4000 in
set_option maxHeartbeats 4000000 in
theorem machHasLog (v : Value) (M : Mc) (r g : Int) (w : World) (hx : HasM w v M) (hf : FitM M) : Calls Tryz.prog 26 #[v, .int .i64 r, .int .i64 g] w fun e w' => e = .returned (.bool (atRG M r g)) ∧ Le w w' := by
 have m1 := fun w' (l : Le w w') => startMay v M w' (hx.le l) hf
 have hlen := hx
 obtain ⟨qR, qP, qT, qH, rfl, hR, hP, hT, hH⟩ := hx
 have lR := hR.len
 have lP := hP.len
 have gR : qR.2.1 ≤ 4611686018427387904 := by have := hf.rs; omega
 have gP : qP.2.1 ≤ 4611686018427387904 := by have := hf.ps; omega
 have hb := Box.new w (cells9 M.c qR qP qT qH) 29
 have hl := Le.alloc w (.cells (cells9 M.c qR qP qT qH) 29)
 have HL : Hid (qR.2.1 = M.rs.length ∧ qP.2.1 = M.ps.length) := ⟨lR, lP⟩
 clear lR lP hR hP hT hH hlen
 cases h1 : mayM M
 ·rw [h1] at m1
  have hA : atRG M r g = false := by unfold atRG; rw [h1]; rfl
  rw [hA]
  go_enter Tryz.func26, Tryz.ntmps26
  go_upto_region 1 with fail
  generalize hW : w.alloc (.cells (cells9 M.c qR qP qT qH) 29) = W at hl hb ⊢
  clear hW
  obtain ⟨⟨z0, z1, z2, z3, z4⟩, z5, z6, z7, z8⟩ := (hb).mach
  go_wp2_with fail
  refine (m1 _ hl).mono ?_
  rintro e w1 ⟨rfl, l1⟩
  go_wp2_with fail
  go_ret
  exact ⟨rfl, hl.trans l1⟩
 ·rw [h1] at m1
  obtain ⟨k1, k2, _, _⟩ := mayM_lens h1
  have e1 : M.c.r - 1 = (qP.2.1 : Int) - 1 := by rw [HL.out.2]; omega
  have e2 : M.c.l - 1 = (qR.2.1 : Int) - 1 := by rw [HL.out.1]; omega
  have hA : atRG M r g = (inB 0 r ((qP.2.1 : Int) - 1) && inB 0 g ((qR.2.1 : Int) - 1)) := by unfold atRG; rw [h1, e1, e2]; rfl
  rw [hA]
  clear hA e1 e2 k1 k2 h1
  have m3 := fun w' => listsHasP qP r w' gP
  have m4 := fun w' => listsHasR qR g w' gR
  obtain ⟨x1, hx1⟩ : ∃ x, x = inB 0 r ((qP.2.1 : Int) - 1) := ⟨_, rfl⟩
  obtain ⟨x2, hx2⟩ : ∃ x, x = inB 0 g ((qR.2.1 : Int) - 1) := ⟨_, rfl⟩
  rw [← hx1] at m3
  rw [← hx2] at m4
  rw [← hx1, ← hx2]
  clear hx1 hx2
  cases x1
  ·go_enter Tryz.func26, Tryz.ntmps26
   go_upto_region 1 with fail
   generalize hW : w.alloc (.cells (cells9 M.c qR qP qT qH) 29) = W at hl hb ⊢
   clear hW
   obtain ⟨⟨z0, z1, z2, z3, z4⟩, z5, z6, z7, z8⟩ := (hb).mach
   go_wp2_with fail
   refine (m1 _ hl).mono ?_
   rintro e w1 ⟨rfl, l1⟩
   replace hb := hb.le l1
   clear z0 z1 z2 z3 z4 z5 z6 z7 z8
   obtain ⟨⟨z0, z1, z2, z3, z4⟩, z5, z6, z7, z8⟩ := (hb).mach
   go_wp2_with fail
   refine (m3 _).mono ?_
   rintro e _ ⟨rfl, rfl⟩
   go_wp2_with fail
   go_ret
   exact ⟨rfl, hl.trans l1⟩
  ·go_enter Tryz.func26, Tryz.ntmps26
   go_upto_region 1 with fail
   generalize hW : w.alloc (.cells (cells9 M.c qR qP qT qH) 29) = W at hl hb ⊢
   clear hW
   obtain ⟨⟨z0, z1, z2, z3, z4⟩, z5, z6, z7, z8⟩ := (hb).mach
   go_wp2_with fail
   refine (m1 _ hl).mono ?_
   rintro e w1 ⟨rfl, l1⟩
   replace hb := hb.le l1
   clear z0 z1 z2 z3 z4 z5 z6 z7 z8
   obtain ⟨⟨z0, z1, z2, z3, z4⟩, z5, z6, z7, z8⟩ := (hb).mach
   go_wp2_with fail
   refine (m3 _).mono ?_
   rintro e _ ⟨rfl, rfl⟩
   go_wp2_with fail
   refine (m4 _).mono ?_
   rintro e _ ⟨rfl, rfl⟩
   go_wp2_with fail
   go_ret
   exact ⟨rfl, hl.trans l1⟩
theorem merge1 {P : Program} {c : Code} {Q : Exit → Act → World → Prop} {a : Act} {w : World} {α : Type} {F : α → Act} (Φ : α → World → Prop)
   (h1 : ∀ Q0 : Exit → Act → World → Prop, (∀ x w', Φ x w' → Q0 .normal (F x) w') → c.wp P Q0 a w) (h2 : ∀ x w', Φ x w' → Q .normal (F x) w') : c.wp P Q a w := h1 Q h2
theorem entry_mem {R : Rg} {p : Int} {s : Slt} (h : entryS R p = (s, 0)) : s ∈ R.ss := by
 unfold entryS at h
 split at h
 ·next hm =>
  split at h
  ·simp only [Prod.mk.injEq, and_true] at h
   rw [← h]
   exact getD_mem (seat_lt hm)
  ·simp at h
 ·simp at h
theorem slotCF {w : World} {g : Nat} {x y z u v : Value} {t : TypeId} (h : Box w g #[x, y, z, u, v] t) :
   w.cell? ⟨g, 0, none⟩ = some x ∧ w.cell? ⟨g, 1, none⟩ = some y ∧ w.cell? ⟨g, 2, none⟩ = some z ∧ w.cell? ⟨g, 3, none⟩ = some u ∧ w.cell? ⟨g, 4, none⟩ = some v ∧
   w.frozen? ⟨g, 0, none⟩ = false ∧ w.frozen? ⟨g, 1, none⟩ = false ∧ w.frozen? ⟨g, 2, none⟩ = false ∧ w.frozen? ⟨g, 3, none⟩ = false ∧ w.frozen? ⟨g, 4, none⟩ = false :=
 ⟨h.cell 0, h.cell 1, h.cell 2, h.cell 3, h.cell 4, h.frozen 0, h.frozen 1, h.frozen 2, h.frozen 3, h.frozen 4⟩
theorem refObjAs {o c r a er y e : Int} {s s' : St} (h : objS o s c r a er = (s', y, e)) (vs : Nat → Sl) (w : World) (hx : ∀ j, j < 4 → Has w (slV (vs j)) (s.at j)) (hf : Fit s) :
   Calls Tryz.prog 16 #[.int .i64 o, stV vs, opV c r a, .int .i64 er] w fun e' w' => ∃ q : Nat → Sl, e' = .returned (.tuple #[stV q, .int .i64 y, .int .i64 e]) ∧ (∀ j, j < 4 → Own w' w.heap.size (slV (q j)) (s'.at j)) ∧ Le w w' := by
 have := refObj o (stV vs) s c r a er w ⟨vs, rfl, hx⟩ hf
 rw [h] at this
 exact this.mono fun e w' ⟨v', h1, ⟨q, h2, h3⟩, h4⟩ => ⟨q, by rw [h1, h2], h3, h4⟩
set_option maxRecDepth 8000 in
set_option maxHeartbeats 8000000 in
theorem rmOne (v : Value) (M : Mc) (r g : Int) (w : World) (hx : HasM w v M) (hf : FitM M) : Calls Tryz.prog 10 #[v, .int .i64 r, .int .i64 g] w fun e w' => ∃ v', e = .returned (.tuple #[v', .bool (oneM M r g).2.1, .int .i64 (oneM M r g).2.2]) ∧ OwnA w' w.heap.size v' (oneM M r g).1 ∧ Le w w' := by
 have m1 := fun w' (l : Le w w') => rmThere v M r g 0 w' (hx.le l) hf
 have m2 := fun w' (l : Le w w') => rmCopy v M w' (hx.le l) hf
 cases h1 : thereB M r g 0
 ·have hP : oneM M r g = (Mc.zero, false, 1800) := by unfold oneM; rw [h1]; rfl
  rw [hP]
  simp only [h1] at m1
  clear h1
  obtain ⟨qR, qP, qT, qH, rfl, _, _, _, _⟩ := hx
  have hr := Box.new (w.alloc (.cells (cells9 M.c qR qP qT qH) 29)) cellsZ9 29
  have hb := (Box.new w (cells9 M.c qR qP qT qH) 29).le (Le.alloc _ (.cells cellsZ9 29))
  have hl := (Le.alloc w (.cells (cells9 M.c qR qP qT qH) 29)).trans (Le.alloc _ (.cells cellsZ9 29))
  rw [World.size_alloc] at hr
  go_enter Tryz.func10, Tryz.ntmps10
  go_upto_region 1 with fail
  generalize hW : (w.alloc (.cells (cells9 M.c qR qP qT qH) 29)).alloc (.cells cellsZ9 29) = W at hl hb hr ⊢
  clear hW
  have hgr := hr.lt
  obtain ⟨⟨z0, z1, z2, z3, z4⟩, z5, z6, z7, z8⟩ := (hb).mach
  go_wp2_with fail
  refine (m1 _ hl).mono ?_
  rintro e w1 ⟨rfl, l1⟩
  clear z0 z1 z2 z3 z4 z5 z6 z7 z8
  clear m1
  replace hb := hb.le l1
  replace hl := hl.trans l1
  have hgr := Nat.lt_of_lt_of_le hgr l1.size
  replace hr := hr.le l1
  clear l1
  obtain ⟨⟨r0, r1, r2, r3, r4, r5, r6, r7, r8⟩, k0, k1, k2, k3, k4, k5, k6, k7, k8⟩ := hr.res
  go_wp2_with fail
  refine bodyPost_ret (v := .tuple #[machZ, .bool false, .int .i64 1800]) (by simp [results, Tryz.results10, go_sem, r0, r1, r2, r3, r4, r5, r6, r7, r8]) rfl ⟨_, rfl, OwnA.zero _ _, ?_⟩
  exact hl.put9 (c := Cfg.zero) (by omega) slZ slZ slZ slZ
 ·obtain ⟨hmay, ⟨ra, rb⟩, ⟨g0, g1⟩, _⟩ := thereB_cases h1
  obtain ⟨hrs, hps, hts, _⟩ := mayM_lens hmay
  obtain ⟨_, ⟨r2, r3⟩, ⟨_, l3⟩, ⟨_, t3⟩, _, _⟩ := Cfg.ok_cases (mayM_ok hmay)
  obtain ⟨r, rfl⟩ : ∃ n : Nat, r = n := ⟨r.toNat, by omega⟩
  obtain ⟨g, rfl⟩ : ∃ n : Nat, g = n := ⟨g.toNat, by omega⟩
  have hpi : r < M.ps.length := by omega
  have hgi : g < M.rs.length := by omega
  have hg00 : (0 : Int) ≤ (g : Int) := by omega
  have hr00 : (0 : Int) ≤ (r : Int) := by omega
  have hpi' : (r : Int) < (M.ps.length : Int) := by omega
  have hgi' : (g : Int) < (M.rs.length : Int) := by omega
  have hne0 : ¬ M.c.r = 0 := by omega
  obtain ⟨_, hcl, hcur, _, _⟩ := repB_cases (Mc.rp_may hmay hpi)
  obtain ⟨hRm, _, _, hRt⟩ := ringB_cases (Mc.rg_may hmay hgi)
  obtain ⟨rh0, rht, rt1, _⟩ := mayR_nums hRm
  have hfR := mayR_fit hRm
  have hfS := (hf.rp r).1
  have hgc : g < (M.rp r).cs.length := by omega
  obtain ⟨cu0, cu1⟩ := cursOK_at hcur hgc
  rw [← Mc.rg_nat] at cu0 cu1
  obtain ⟨x, hxx⟩ : ∃ x, x = (M.rp r).cs.getD g 0 := ⟨_, rfl⟩
  rw [← hxx] at cu0 cu1
  have hcx : (M.rp r).cur g = x := by rw [Rp.cur, Int.toNat_natCast, hxx]
  obtain ⟨⟨c, rr, a, th, b⟩, er, he⟩ : ∃ s er, entryS (M.rg g) x = (s, er) := ⟨_, _, rfl⟩
  obtain ⟨s', y, e2, hob⟩ : ∃ s' y e2, objS M.c.o (M.rp r).s c rr a 1800 = (s', y, e2) := ⟨_, _, _, rfl⟩
  obtain ⟨hh, hhh⟩ : ∃ z, z = th % M.c.r := ⟨_, rfl⟩
  obtain ⟨N, k, hO, HN⟩ : ∃ N k, oneM M r g = (N, k, 0) ∧ Hid ((er = 0 → hh = r → k = true ∧ N = (M.putP r { (M.rp r).setCur g (x + 1) with s := s' }).putT th { M.th th with an := y, re := true }) ∧
      (er = 0 → ¬ hh = r → k = true ∧ N = M.putP r { (M.rp r).setCur g (x + 1) with s := s' }) ∧ (¬ er = 0 → k = false ∧ N = M)) := by
    refine ⟨(oneM M r g).1, (oneM M r g).2.1, ?_, ?_⟩
    ·unfold oneM
     rw [if_pos h1]
     split
     ·split <;> rfl
     ·rfl
    ·unfold oneM
     rw [if_pos h1, hcx, he]
     simp only [oneP, oneT, hcx, hob, ← hhh]
     refine ⟨fun h2 h3 => ?_, fun h2 h3 => ?_, fun h2 => ?_⟩
     ·rw [if_pos h2, if_pos h3]; exact ⟨rfl, rfl⟩
     ·rw [if_pos h2, if_neg h3]; exact ⟨rfl, rfl⟩
     ·rw [if_neg h2]; exact ⟨rfl, rfl⟩
  have hth : er = 0 → 0 ≤ th ∧ th ≤ M.c.t - 1 := fun e => by
    subst e
    exact hRt _ (entry_mem he)
  simp only [h1] at m1
  obtain ⟨bR, oR, cR, bP, oP, cP, bT, oT, cT, qH, rfl, hcR, hcP, _, _⟩ := hx.opens hmay
  obtain ⟨⟨s0, s1, s2⟩, hatR, hss⟩ := hcR g hgi
  obtain ⟨vs, qc, ql, hatp, hvs, hcq, _⟩ := hcP r hpi
  rw [← Mc.rp_nat] at hvs hcq
  rw [← Mc.rg_nat] at hatR hss
  obtain ⟨bL, offL, nL, cL, rfl, hgn, xL⟩ := hcq.at hgc
  rw [← hxx] at xL
  obtain ⟨R, hR⟩ : ∃ R, R = M.rg g := ⟨_, rfl⟩
  rw [← hR] at he hatR hss rh0 rht rt1 hfR cu0 cu1
  clear hR hRt hRm hcx hcq hcR hcP hcur h1
  obtain ⟨rh, rt, rf, rss⟩ := R
  simp only at rh0 rht rt1 hfR cu0 cu1
  have HXX : Hid (x = (M.rp r).cs.getD g 0) := hxx
  clear hxx
  have m3 := fun w' (l : Le w w') => refEntryAs he hfR (s0, s1, s2) w' (hss.le l)
  have m4 := fun w' (l : Le w w') => refObjAs hob vs w' (fun j hj => (hvs j hj).le l) hfS
  rw [hO]
  have HTS : Hid ((M.ts.length : Int) = M.c.t) := hts
  have HCL : Hid (((M.rp r).cs.length : Int) = M.c.l ∧ g < (M.rp r).cs.length) := ⟨hcl, hgc⟩
  clear hO hvs hss he hob hmay hrs hps hts hcl hgc hx rb g1 hf
  have hr := Box.new (w.alloc (.cells (cells9 M.c (some ⟨bR, oR, none⟩, M.rs.length, cR) (some ⟨bP, oP, none⟩, M.ps.length, cP) (some ⟨bT, oT, none⟩, M.ts.length, cT) qH) 29)) cellsZ9 29
  have hb := (Box.new w (cells9 M.c (some ⟨bR, oR, none⟩, M.rs.length, cR) (some ⟨bP, oP, none⟩, M.ps.length, cP) (some ⟨bT, oT, none⟩, M.ts.length, cT) qH) 29).le (Le.alloc _ (.cells cellsZ9 29))
  have hl := (Le.alloc w (.cells (cells9 M.c (some ⟨bR, oR, none⟩, M.rs.length, cR) (some ⟨bP, oP, none⟩, M.ps.length, cP) (some ⟨bT, oT, none⟩, M.ts.length, cT) qH) 29)).trans (Le.alloc _ (.cells cellsZ9 29))
  rw [World.size_alloc] at hr
  go_enter Tryz.func10, Tryz.ntmps10
  go_upto_region 1 with fail
  generalize hW : (w.alloc (.cells (cells9 M.c (some ⟨bR, oR, none⟩, M.rs.length, cR) (some ⟨bP, oP, none⟩, M.ps.length, cP) (some ⟨bT, oT, none⟩, M.ts.length, cT) qH) 29)).alloc (.cells cellsZ9 29) = W at hl hb hr ⊢
  clear hW
  have hgr := hr.lt
  obtain ⟨⟨z0, z1, z2, z3, z4⟩, z5, z6, z7, z8⟩ := (hb).mach
  go_wp2_with fail
  refine (m1 _ hl).mono ?_
  rintro e w1 ⟨rfl, l1⟩
  clear z0 z1 z2 z3 z4 z5 z6 z7 z8
  clear m1
  replace hb := hb.le l1
  replace hl := hl.trans l1
  have hgr := Nat.lt_of_lt_of_le hgr l1.size
  replace hr := hr.le l1
  clear l1
  obtain ⟨⟨z0, z1, z2, z3, z4⟩, z5, z6, z7, z8⟩ := (hb).mach
  go_wp2_with fail
  refine (m2 _ hl).mono ?_
  rintro e w9 ⟨L, rfl, HM, o1, ap, l1⟩
  clear z0 z1 z2 z3 z4 z5 z6 z7 z8
  clear m2
  have hbo := Box.new w9 (cells9 L.c L.qR L.qP L.qT L.qH) 29
  have a1 := Le.alloc w9 (.cells (cells9 L.c L.qR L.qP L.qT L.qH) 29)
  go_upto_region 4 with fail
  generalize hW1 : w9.alloc (.cells (cells9 L.c L.qR L.qP L.qT L.qH) 29) = W1 at hbo a1 ⊢
  clear hW1
  have I : MoI w1.heap.size w9.heap.size W1 L := ⟨hbo, l1.size, o1.le a1, ap⟩
  have hgo : w1.heap.size ≤ w9.heap.size := l1.size
  generalize w9.heap.size = go at hbo I hgo ⊢
  have l01 := l1.trans a1
  clear hbo o1 ap l1 a1
  obtain ⟨c', uR, uP, uT, uH, xR, xP, xT, xH⟩ := L
  try simp only at I ⊢
  replace hr := hr.le l01
  replace hb := hb.le l01
  have hlB : w.heap.size ≤ w1.heap.size := hl.size
  replace hl := hl.trans l01
  have hB1 : w1.heap.size ≤ W1.heap.size := l01.size
  clear l01
  obtain ⟨p0, p1, p2, p3⟩ := hatR.le hl
  have q4 := (hatp.le hl).2.2.2.2.1
  have xL' := cell_le xL hl
  obtain ⟨⟨z0, z1, z2, z3, z4⟩, z5, z6, z7, z8⟩ := (hb).mach
  simp only [slV] at z5 z6 p3 q4
  have nbbR : ¬ W1.heap.size = bR := by have h : bR < W1.heap.size := World.block_lt_of_cell? W1 _ p0; omega
  have nbbP : ¬ W1.heap.size = bP := by have h : bP < W1.heap.size := World.block_lt_of_cell? W1 _ q4; omega
  have nbbL : ¬ W1.heap.size = bL := by have h : bL < W1.heap.size := World.block_lt_of_cell? W1 _ xL'; omega
  have nbw : ¬ W1.heap.size = w.heap.size := by have := hb.lt; omega
  obtain ⟨nW, hnW⟩ : ∃ n, n = W1.heap.size := ⟨_, rfl⟩
  have HNW : Hid (nW = W1.heap.size) := hnW
  clear hnW
  apply merge1 (α := Nat) (Φ := fun gs w' => Box w' gs #[.int .i64 c, .int .i64 rr, .int .i64 a, .int .i64 th, .int .i64 b] 50 ∧ Le W1 w' ∧ nW ≤ gs)
  case h1 =>
    intro Q0 hQ0
    have HQ0 : Hid _ := hQ0
    clear hQ0
    go_region_held3 (fun w' => w'.cell? ⟨w.heap.size, 5, none⟩ = some (.slice (some ⟨bR, oR, none⟩) M.rs.length cR) ∧ w'.cell? ⟨w.heap.size, 6, none⟩ = some (.slice (some ⟨bP, oP, none⟩) M.ps.length cP) ∧ w'.cell? ⟨bR, oR + g * 4, none⟩ = some (.int .i64 rh) ∧ w'.cell? ⟨bR, oR + g * 4 + 1, none⟩ = some (.int .i64 rt) ∧ w'.cell? ⟨bR, oR + g * 4 + 2, none⟩ = some (.int .i64 rf) ∧ w'.cell? ⟨bR, oR + g * 4 + 3, none⟩ = some (.slice s0 s1 s2) ∧ w'.cell? ⟨bP, oP + r * 6 + 4, none⟩ = some (.slice (some ⟨bL, offL, none⟩) nL cL) ∧ w'.cell? ⟨bL, offL + g, none⟩ = some (.int .i64 x)) (go_keep) (first
      | (go_at_call 15; refine (m3 _ (hl.trans (Le.drew W1))).mono ?_; rintro e w8 ⟨rfl, l5⟩; have l6 := (Le.drew W1).trans l5; have l7 := hl.trans l6; obtain ⟨p0', p1', p2', p3'⟩ := hatR.le l7; have q4' := (hatp.le l7).2.2.2.2.1; have xL'' := cell_le xL l7; have hb' := hb.le l6; obtain ⟨_, z5', z6', _, _⟩ := hb'.mach; simp only [slV] at z5' z6' p3' q4')
      | (go_at_call 15; refine (m3 _ (hl.trans ((Le.alloc W1 (.cells #[.int .i64 0, .int .i64 0, .int .i64 0, .int .i64 0, .int .i64 0] 50)).trans (Le.drew _)))).mono ?_; rintro e w8 ⟨rfl, l5⟩; have l6 := ((Le.alloc W1 (.cells #[.int .i64 0, .int .i64 0, .int .i64 0, .int .i64 0, .int .i64 0] 50)).trans (Le.drew _)).trans l5; have l7 := hl.trans l6; obtain ⟨p0', p1', p2', p3'⟩ := hatR.le l7; have q4' := (hatp.le l7).2.2.2.2.1; have xL'' := cell_le xL l7; have hb' := hb.le l6; obtain ⟨_, z5', z6', _, _⟩ := hb'.mach; simp only [slV] at z5' z6' p3' q4'; have hbz : Box w8 W1.heap.size #[.int .i64 0, .int .i64 0, .int .i64 0, .int .i64 0, .int .i64 0] 50 := ((Box.new W1 #[.int .i64 0, .int .i64 0, .int .i64 0, .int .i64 0, .int .i64 0] 50).le (Le.drew _)).le l5; obtain ⟨hz0, hz1, hz2, hz3, hz4, fz0, fz1, fz2, fz3, fz4⟩ := slotCF hbz))
    all_goals first
      | (have bs : Box (((((w8.setCell ⟨W1.heap.size, 0, none⟩ (.int .i64 c)).setCell ⟨W1.heap.size, 1, none⟩ (.int .i64 rr)).setCell ⟨W1.heap.size, 2, none⟩ (.int .i64 a)).setCell ⟨W1.heap.size, 3, none⟩ (.int .i64 th)).setCell ⟨W1.heap.size, 4, none⟩ (.int .i64 b)) W1.heap.size #[.int .i64 c, .int .i64 rr, .int .i64 a, .int .i64 th, .int .i64 b] 50 := (((((hbz.set 0 (.int .i64 c)).set 1 (.int .i64 rr)).set 2 (.int .i64 a)).set 3 (.int .i64 th)).set 4 (.int .i64 b))
         have hgs := Nat.le_refl W1.heap.size
         replace l6 : Le W1 (((((w8.setCell ⟨W1.heap.size, 0, none⟩ (.int .i64 c)).setCell ⟨W1.heap.size, 1, none⟩ (.int .i64 rr)).setCell ⟨W1.heap.size, 2, none⟩ (.int .i64 a)).setCell ⟨W1.heap.size, 3, none⟩ (.int .i64 th)).setCell ⟨W1.heap.size, 4, none⟩ (.int .i64 b)) := (((((l6.set (i := 0) (u := (.int .i64 c)) (Nat.le_refl _)).set (i := 1) (u := (.int .i64 rr)) (Nat.le_refl _)).set (i := 2) (u := (.int .i64 a)) (Nat.le_refl _)).set (i := 3) (u := (.int .i64 th)) (Nat.le_refl _)).set (i := 4) (u := (.int .i64 b)) (Nat.le_refl _))
         clear l5 hbz hz0 hz1 hz2 hz3 hz4 fz0 fz1 fz2 fz3 fz4
         clear p0' p1' p2' p3' q4' xL'' hb' z5' z6' l7
         generalize hWn : (((((w8.setCell ⟨W1.heap.size, 0, none⟩ (.int .i64 c)).setCell ⟨W1.heap.size, 1, none⟩ (.int .i64 rr)).setCell ⟨W1.heap.size, 2, none⟩ (.int .i64 a)).setCell ⟨W1.heap.size, 3, none⟩ (.int .i64 th)).setCell ⟨W1.heap.size, 4, none⟩ (.int .i64 b)) = W2 at bs l6  ⊢
         clear hWn
         generalize hgg : W1.heap.size = gs at bs ⊢
         replace hgs : W1.heap.size ≤ gs := by omega
         clear hgg
         with_reducible refine HQ0.out gs _ ?_; exact ⟨bs, l6, by rw [HNW.out]; exact hgs⟩)
      | (have hA := Le.alloc w8 (.cells #[.int .i64 c, .int .i64 rr, .int .i64 a, .int .i64 th, .int .i64 b] 50)
         have bs := Box.new w8 #[.int .i64 c, .int .i64 rr, .int .i64 a, .int .i64 th, .int .i64 b] 50
         have hgs : W1.heap.size ≤ w8.heap.size := l6.size
         replace l6 := l6.trans hA
         clear hA l5
         clear p0' p1' p2' p3' q4' xL'' hb' z5' z6' l7
         generalize hWn : w8.alloc (.cells #[.int .i64 c, .int .i64 rr, .int .i64 a, .int .i64 th, .int .i64 b] 50) = W2 at bs l6  ⊢
         clear hWn
         generalize w8.heap.size = gs at bs hgs ⊢
         with_reducible refine HQ0.out gs _ ?_; exact ⟨bs, l6, by rw [HNW.out]; exact hgs⟩)
  case h2 =>
    rintro gs W2 ⟨bs, l6, hgs⟩
    rw [HNW.out] at hgs
    clear HNW nW
    clear p0 p1 p2 p3 q4 xL' m3
    clear z0 z1 z2 z3 z4 z5 z6 z7 z8
    replace hl := hl.trans l6
    replace hb := hb.le l6
    replace hr := hr.le l6
    replace I := I.le l6
    have hB2 := Nat.le_trans hB1 l6.size
    clear l6
    by_cases her : er = 0
    ·subst her
     obtain ⟨t0, t1⟩ := hth rfl
     obtain ⟨th, rfl⟩ : ∃ n : Nat, th = n := ⟨th.toNat, by omega⟩
     clear hth
     obtain ⟨c0, c1, c2, c3, _⟩ := bs.slot
     obtain ⟨p0, p1, p2, p3, p4, p5⟩ := hatp.le hl
     obtain ⟨⟨z0, z1, z2, z3, z4⟩, z5, z6, z7, z8⟩ := (hb).mach
     simp only [slV] at z6
     go_upto_region 7 with fail
     have nbbP : ¬ W2.heap.size = bP := by have h : bP < W2.heap.size := World.block_lt_of_cell? W2 _ p0; omega
     have nbgs : ¬ W2.heap.size = gs := by have h : gs < W2.heap.size := World.block_lt_of_cell? W2 _ c0; omega
     have nbw : ¬ W2.heap.size = w.heap.size := by have := hb.lt; omega
     go_region_held3 (fun w' => w'.cell? ⟨w.heap.size, 0, none⟩ = some (.int .i64 M.c.o) ∧ w'.cell? ⟨w.heap.size, 6, none⟩ = some (.slice (some ⟨bP, oP, none⟩) M.ps.length cP) ∧ w'.cell? ⟨bP, oP + r * 6, none⟩ = some (slV (vs 0)) ∧ w'.cell? ⟨bP, oP + r * 6 + 1, none⟩ = some (slV (vs 1)) ∧ w'.cell? ⟨bP, oP + r * 6 + 2, none⟩ = some (slV (vs 2)) ∧ w'.cell? ⟨bP, oP + r * 6 + 3, none⟩ = some (slV (vs 3)) ∧ w'.cell? ⟨gs, 0, none⟩ = some (.int .i64 c) ∧ w'.cell? ⟨gs, 1, none⟩ = some (.int .i64 rr) ∧ w'.cell? ⟨gs, 2, none⟩ = some (.int .i64 a)) (go_keep) (first
       | (go_at_call 16; refine (m4 _ (hl.trans (Le.drew W2))).mono ?_; rintro e w8 ⟨q, rfl, o5, l5⟩; have l6 := (Le.drew W2).trans l5; have l7 := hl.trans l6; obtain ⟨p0', p1', p2', p3', _, _⟩ := hatp.le l7; have hb' := hb.le l6; obtain ⟨⟨z0', _, _, _, _⟩, _, z6', _, _⟩ := hb'.mach; have bs' := bs.le l6; obtain ⟨c0', c1', c2', _, _⟩ := bs'.slot; simp only [slV] at z6')
       | (go_at_call 16; refine (m4 _ (hl.trans ((Le.alloc W2 (.cells (cells4 fun _ => slZ) 44)).trans (Le.drew _)))).mono ?_; rintro e w8 ⟨q, rfl, o5, l5⟩; have l6 := ((Le.alloc W2 (.cells (cells4 fun _ => slZ) 44)).trans (Le.drew _)).trans l5; have l7 := hl.trans l6; obtain ⟨p0', p1', p2', p3', _, _⟩ := hatp.le l7; have hb' := hb.le l6; obtain ⟨⟨z0', _, _, _, _⟩, _, z6', _, _⟩ := hb'.mach; have bs' := bs.le l6; obtain ⟨c0', c1', c2', _, _⟩ := bs'.slot; simp only [slV] at z6'; have hbz : Box w8 W2.heap.size (cells4 fun _ => slZ) 44 := ((Box.new W2 (cells4 fun _ => slZ) 44).le (Le.drew _)).le l5; obtain ⟨hz0, hz1, hz2, hz3, fz0, fz1, fz2, fz3⟩ := Box.st hbz))
     all_goals first
       | (have bt : Box ((((w8.setCell ⟨W2.heap.size, 0, none⟩ (slV (q 0))).setCell ⟨W2.heap.size, 1, none⟩ (slV (q 1))).setCell ⟨W2.heap.size, 2, none⟩ (slV (q 2))).setCell ⟨W2.heap.size, 3, none⟩ (slV (q 3))) W2.heap.size (cells4 q) 44 := ((((hbz.set 0 (slV (q 0))).set 1 (slV (q 1))).set 2 (slV (q 2))).set 3 (slV (q 3)))
          have hgt := Nat.le_refl W2.heap.size
          have oq := fun j hj => ((o5 j hj).base (base' := W2.heap.size) ((Le.alloc W2 (.cells (cells4 fun _ => slZ) 44)).trans (Le.drew _)).size).set4 hbz (by decide) (slV (q 0)) (slV (q 1)) (slV (q 2)) (slV (q 3))
          replace l6 : Le W2 ((((w8.setCell ⟨W2.heap.size, 0, none⟩ (slV (q 0))).setCell ⟨W2.heap.size, 1, none⟩ (slV (q 1))).setCell ⟨W2.heap.size, 2, none⟩ (slV (q 2))).setCell ⟨W2.heap.size, 3, none⟩ (slV (q 3))) := ((((l6.set (i := 0) (u := (slV (q 0))) (Nat.le_refl _)).set (i := 1) (u := (slV (q 1))) (Nat.le_refl _)).set (i := 2) (u := (slV (q 2))) (Nat.le_refl _)).set (i := 3) (u := (slV (q 3))) (Nat.le_refl _))
          clear l5 hbz hz0 hz1 hz2 hz3 fz0 fz1 fz2 fz3
          clear p0' p1' p2' p3' hb' bs' z0' z6' c0' c1' c2' l7 o5
          generalize hWn : ((((w8.setCell ⟨W2.heap.size, 0, none⟩ (slV (q 0))).setCell ⟨W2.heap.size, 1, none⟩ (slV (q 1))).setCell ⟨W2.heap.size, 2, none⟩ (slV (q 2))).setCell ⟨W2.heap.size, 3, none⟩ (slV (q 3))) = W3 at bt l6 oq ⊢
          clear hWn
          generalize hgg : W2.heap.size = gt at bt ⊢
          replace hgt : W2.heap.size ≤ gt := by omega
          clear hgg
          skip)
       | (have hA := Le.alloc w8 (.cells (cells4 q) 44)
          have bt := Box.new w8 (cells4 q) 44
          have hgt : W2.heap.size ≤ w8.heap.size := l6.size
          have oq := fun j hj => ((o5 j hj).base (base' := W2.heap.size) (Le.drew W2).size).le hA
          replace l6 := l6.trans hA
          clear hA l5
          clear p0' p1' p2' p3' hb' bs' z0' z6' c0' c1' c2' l7 o5
          generalize hWn : w8.alloc (.cells (cells4 q) 44) = W3 at bt l6 oq ⊢
          clear hWn
          generalize w8.heap.size = gt at bt hgt ⊢
          skip)
     all_goals
       clear p0 p1 p2 p3 p4 p5 c0 c1 c2 c3 m4
       clear z0 z1 z2 z3 z4 z5 z6 z7 z8
       have hbel := I.own.bel
       replace hl := hl.trans l6
       replace hb := hb.le l6
       replace hr := hr.le l6
       replace bs := bs.le l6
       replace I := I.le l6
       clear l6
       have hiP : r < xP.length := by have := lay_ps HM; simp only at this; omega
       have hiP' : (r : Int) < (xP.length : Int) := by omega
       obtain ⟨gP, capP, hqP, hcapP, hgBP, hgltP, hgneP, hatP, hfzP⟩ := I.openP hiP
       try simp only at hqP hatP hcapP
       subst hqP
       have hlB2 : w.heap.size ≤ gP := by omega
       obtain ⟨X, hX⟩ : ∃ X, X = xP.getD r repK.d := ⟨_, rfl⟩
       have HXP : Hid (X.P = M.rp r) := by have := lay_rp HM hiP; simp only at this; rw [hX]; exact this
       have I2 := I.setS rfl hiP q s' hbel (fun j hj => (oq j hj).base hB2) (fun j hj c e => ((oq j hj).block e).1)
       rw [← hX] at I2
       replace I2 : MoI w1.heap.size go ((((W3.setCell ⟨gP, r * 6, none⟩ (slV (q 0))).setCell ⟨gP, r * 6 + 1, none⟩ (slV (q 1))).setCell ⟨gP, r * 6 + 2, none⟩ (slV (q 2))).setCell ⟨gP, r * 6 + 3, none⟩ (slV (q 3))) ⟨c', uR, (some ⟨gP, 0, none⟩, xP.length, capP), uT, uH, xR, xP.set r ⟨{ X.P with s := s' }, q, X.c, X.l⟩, xT, xH⟩ := I2
       obtain ⟨k0, k1, k2, k3, _, _⟩ := hatP
       have f0 := hfzP (r * 6)
       have f1 := hfzP (r * 6 + 1)
       have f2 := hfzP (r * 6 + 2)
       have f3 := hfzP (r * 6 + 3)
       obtain ⟨b0, b1, b2, b3, _, _, _, _⟩ := bt.st
       have ns : gs ≠ gP := I.neP rfl bs (by decide)
       have hl2 := hl.seto4 (o := r * 6) hlB2 (slV (q 0)) (slV (q 1)) (slV (q 2)) (slV (q 3))
       have hr2 := hr.otherO4 (o := r * 6) (show w.heap.size + 1 ≠ gP by omega) (slV (q 0)) (slV (q 1)) (slV (q 2)) (slV (q 3))
       have hb2 := hb.otherO4 (o := r * 6) (show w.heap.size ≠ gP by omega) (slV (q 0)) (slV (q 1)) (slV (q 2)) (slV (q 3))
       have bs2 := bs.otherO4 (o := r * 6) ns (slV (q 0)) (slV (q 1)) (slV (q 2)) (slV (q 3))
       obtain ⟨⟨y0, y1, y2, y3, y4⟩, y5, y6, y7, y8⟩ := (I.bo).mach
       simp only [slV] at y6
       clear hX hfzP oq hbel
       go_upto_region 9 with fail
       generalize hW : (((W3.setCell ⟨gP, r * 6, none⟩ (slV (q 0))).setCell ⟨gP, r * 6 + 1, none⟩ (slV (q 1))).setCell ⟨gP, r * 6 + 2, none⟩ (slV (q 2))).setCell ⟨gP, r * 6 + 3, none⟩ (slV (q 3)) = W4 at I2 hl2 hr2 hb2 bs2 ⊢
       clear hW I hr hb bs bt k0 k1 k2 k3 f0 f1 f2 f3 b0 b1 b2 b3 ns
       clear y0 y1 y2 y3 y4 y5 y6 y7 y8
       have hiP2 : r < (xP.set r ⟨{ X.P with s := s' }, q, X.c, X.l⟩).length := by rw [List.length_set]; exact hiP
       have e2 : (xP.set r ⟨{ X.P with s := s' }, q, X.c, X.l⟩).getD r repK.d = ⟨{ X.P with s := s' }, q, X.c, X.l⟩ := getD_same _ _ _ _ hiP
       have hgc3 : g < X.P.cs.length := by rw [HXP.out]; exact HCL.out.2
       obtain ⟨gl, cl, hql, _, hglB, hgll, xl, fl⟩ := I2.openC (i := r) (k := g) hiP2 (by simp only [e2]; exact hgc3)
       simp only [e2] at hql xl
       rw [HXP.out, ← HXX.out] at xl
       have I3 := I2.setCu (i := r) (k := g) (v := x + 1) hiP2 (by simp only [e2]; exact hql) hgc3
       have hne : gs ≠ gl := I2.neC (i := r) hiP2 (by simp only [e2]; exact hql) bs2 (by decide)
       simp only [e2, List.set_set] at I3
       have k4 := (I2.repIn rfl hiP2).2.2.2.1.2.2.2.2.1
       simp only [e2] at k4
       rw [hql] at k4
       obtain ⟨nl, hnl⟩ : ∃ n, n = X.P.cs.length := ⟨_, rfl⟩
       rw [← hnl] at k4 hgc3
       have hgl4 : (g : Int) < (nl : Int) := by omega
       have hl3 := hl2.set (g := gl) (i := g) (u := .int .i64 (x + 1)) (by omega)
       have hr3 := hr2.other (show w.heap.size + 1 ≠ gl by omega) g (.int .i64 (x + 1))
       have hb3 := hb2.other (show w.heap.size ≠ gl by omega) g (.int .i64 (x + 1))
       have bs3 := bs2.other hne g (.int .i64 (x + 1))
       clear e2 hiP2 hnl hql hgc3
       obtain ⟨⟨y0, y1, y2, y3, y4⟩, y5, y6, y7, y8⟩ := (I2.bo).mach
       simp only [slV] at y6 k4
       go_upto_region 10 with fail
       generalize hW : W4.setCell ⟨gl, g, none⟩ (.int .i64 (x + 1)) = W5 at I3 hl3 hr3 hb3 bs3 ⊢
       clear hW I2 hl2 hr2 hb2 bs2 k4 xl fl
       clear y0 y1 y2 y3 y4 y5 y6 y7 y8
       obtain ⟨c0, c1, c2, c3, _⟩ := bs3.slot
       obtain ⟨⟨z0, z1, z2, z3, z4⟩, z5, z6, z7, z8⟩ := (hb3).mach
       have htm : (th : Int).tmod M.c.r = hh := by rw [hhh]; exact Int.tmod_eq_emod_of_nonneg (by omega)
       have HM2 := lay_setP HM r ⟨{ X.P with s := s', cs := X.P.cs.set g (x + 1) }, q, X.c, X.l⟩
       have HE : Hid (({ (M.rp r).setCur g (x + 1) with s := s' } : Rp) = { X.P with s := s', cs := X.P.cs.set g (x + 1) }) := by show _ = _; rw [HXP.out, Rp.setCur, Int.toNat_natCast]
       clear hhh
       by_cases hm : hh = (r : Int)
       ·obtain ⟨rfl, hN⟩ := HN.out.1 (by trivial) hm
        have hmb : (hh == (r : Int)) = true := by simp [hm]
        have HNN := HN
        clear HN
        have HN2 : Hid _ := hN
        have hti : th < M.ts.length := by have := HTS.out; omega
        clear hN hm
        have hiT : th < xT.length := by have := lay_ts HM; simp only at this; omega
        have hiT' : (th : Int) < (xT.length : Int) := by omega
        obtain ⟨gT, capT, hqT, hcapT, hgBT, hgltT, hgneT, hatT, hfzT⟩ := I3.openT hiT
        try simp only at hqT hatT hcapT
        subst hqT
        have nT := I3.neT rfl bs3 (by decide)
        obtain ⟨X0, hX0⟩ : ∃ x0, x0 = xT.getD th thK.d := ⟨_, rfl⟩
        have HX0 : Hid (X0.T = M.th th) := by have := lay_th HM hiT; simp only at this; rw [hX0]; exact this
        have HM3 := lay_setT HM2 th ⟨{ X0.T with an := y, re := true }, X0.b, X0.t⟩
        have I4 := I3.setTx (j := 10) (u := .int .i64 y) rfl hiT (by decide) X0 hX0.symm { X0.T with an := y } rfl rfl rfl
        have I5 := I4.setTy (j := 9) (u := .bool true) rfl hiT (by decide) { X0.T with an := y, re := true } rfl rfl rfl
        obtain ⟨_, _, _, _, _, _, _, _, _, x9, x10, _⟩ := hatT
        have f9 := hfzT (th * 12 + 9)
        have f10 := hfzT (th * 12 + 10)
        have hl5 := (hl3.set (g := gT) (i := th * 12 + 10) (u := .int .i64 y) (by omega)).set (g := gT) (i := th * 12 + 9) (u := .bool true) (by omega)
        have hr5 := (hr3.other (show w.heap.size + 1 ≠ gT by omega) (th * 12 + 10) (.int .i64 y)).other (show w.heap.size + 1 ≠ gT by omega) (th * 12 + 9) (.bool true)
        obtain ⟨⟨y0, y1, y2, y3, y4⟩, y5, y6, y7, y8⟩ := (I3.bo).mach
        simp only [slV] at y7
        clear hX0 hfzT I4
        go_upto_region 13 with fail
        generalize hW : (W5.setCell ⟨gT, th * 12 + 10, none⟩ (.int .i64 y)).setCell ⟨gT, th * 12 + 9, none⟩ (.bool true) = W6 at I5 hl5 hr5 ⊢
        clear hW I3 hl3 hr3 hb3 bs3 x9 x10 f9 f10 c0 c1 c2 c3
        clear y0 y1 y2 y3 y4 y5 y6 y7 y8 z0 z1 z2 z3 z4 z5 z6 z7 z8
        obtain ⟨⟨y0, y1, y2, y3, y4⟩, y5, y6, y7, y8⟩ := (I5.bo).mach
        obtain ⟨⟨r0, r1, r2, r3, r4, r5, r6, r7, r8⟩, k0, k1, k2, k3, k4, k5, k6, k7, k8⟩ := hr5.res
        go_wp2_with fail
        refine bodyPost_ret (v := .tuple #[machV c' uR (some ⟨gP, 0, none⟩, xP.length, capP) (some ⟨gT, 0, none⟩, xT.length, capT) uH, .bool true, .int .i64 0]) (by simp [results, Tryz.results10, go_sem, r0, r1, r2, r3, r4, r5, r6, r7, r8]) rfl ⟨_, rfl, ?_, (hl5).put9 (g := w.heap.size + 1) (by omega) c' uR (some ⟨gP, 0, none⟩, xP.length, capP) (some ⟨gT, 0, none⟩, xT.length, capT) uH⟩
        have := (I5.ret hr5).base hlB
        rw [HN2.out, HE.out, ← HX0.out]
        rw [← HM3]
        exact this
       ·obtain ⟨rfl, hN⟩ := HN.out.2.1 (by trivial) hm
        have hmb : (hh == (r : Int)) = false := by simp [hm]
        have HN2 : Hid _ := hN
        clear hN hm HN
        obtain ⟨⟨y0, y1, y2, y3, y4⟩, y5, y6, y7, y8⟩ := (I3.bo).mach
        obtain ⟨⟨r0, r1, r2, r3, r4, r5, r6, r7, r8⟩, k0, k1, k2, k3, k4, k5, k6, k7, k8⟩ := hr3.res
        go_wp2_with fail
        refine bodyPost_ret (v := .tuple #[machV c' uR (some ⟨gP, 0, none⟩, xP.length, capP) uT uH, .bool true, .int .i64 0]) (by simp [results, Tryz.results10, go_sem, r0, r1, r2, r3, r4, r5, r6, r7, r8]) rfl ⟨_, rfl, ?_, (hl3).put9 (g := w.heap.size + 1) (by omega) c' uR (some ⟨gP, 0, none⟩, xP.length, capP) uT uH⟩
        have := (I3.ret hr3).base hlB
        rw [HN2.out, HE.out, ← HM2]
        exact this
    ·obtain ⟨rfl, hN⟩ := HN.out.2.2 her
     have herb : (er != 0) = true := by simp [her]
     have HN2 : Hid _ := hN
     clear hN her HN
     obtain ⟨⟨y0, y1, y2, y3, y4⟩, y5, y6, y7, y8⟩ := (I.bo).mach
     obtain ⟨⟨r0, r1, r2, r3, r4, r5, r6, r7, r8⟩, k0, k1, k2, k3, k4, k5, k6, k7, k8⟩ := hr.res
     go_wp2_with fail
     refine bodyPost_ret (v := .tuple #[machV c' uR uP uT uH, .bool false, .int .i64 0]) (by simp [results, Tryz.results10, go_sem, r0, r1, r2, r3, r4, r5, r6, r7, r8]) rfl ⟨_, rfl, ?_, (hl).put9 (g := w.heap.size + 1) (by omega) c' uR uP uT uH⟩
     have := (I.ret hr).base hlB
     rw [HN2.out, ← HM]
     exact this
theorem objS_both {o : Int} {s : St} {c r a : Int} (e f : Int) : (objS o s c r a e).1 = (objS o s c r a f).1 ∧ (objS o s c r a e).2.1 = (objS o s c r a f).2.1 := by
 cases h : (objMay o s && opMay c r a)
 ·rw [objS_no h, objS_no h]; exact ⟨rfl, rfl⟩
 ·rw [objS_yes e h, objS_yes f h]; exact ⟨rfl, rfl⟩
theorem objAs {o c r a y e : Int} {s s' : St} (h : objS o s c r a 600 = (s', y, e)) (vs : Nat → Sl) (w : World) (hx : ∀ j, j < 4 → Has w (slV (vs j)) (s.at j)) (hf : Fit s) :
   Calls Tryz.prog 29 #[.int .i64 o, stV vs, opV c r a] w fun e' w' => ∃ q : Nat → Sl, e' = .returned (.tuple #[stV q, .int .i64 y, .int .i64 e]) ∧ (∀ j, j < 4 → Own w' w.heap.size (slV (q j)) (s'.at j)) ∧ Le w w' := by
 have := objApply o (stV vs) s c r a w ⟨vs, rfl, hx⟩ hf
 rw [h] at this
 exact this.mono fun e w' ⟨v', h1, ⟨q, h2, h3⟩, h4⟩ => ⟨q, by rw [h1, h2], h3, h4⟩
theorem replayServe (g o : Nat) (y : Int) (u v : Value) (w : World) (h9 : w.cell? ⟨g, o + 9, none⟩ = some u) (h10 : w.cell? ⟨g, o + 10, none⟩ = some v) (f9 : w.frozen? ⟨g, o + 9, none⟩ = false) (f10 : w.frozen? ⟨g, o + 10, none⟩ = false) :
   Calls Tryz.prog 31 #[.pointer (some ⟨g, o, none⟩), .int .i64 y] w fun e w' => e = .returned (.tuple #[]) ∧ w' = (w.setCell ⟨g, o + 10, none⟩ (.int .i64 y)).setCell ⟨g, o + 9, none⟩ (.bool true) := by
 go_enter Tryz.func31, Tryz.ntmps31
 go_wp2_with fail
 exact bodyPost_end (results_none rfl _ _ _) rfl ⟨rfl, rfl⟩
set_option maxRecDepth 8000 in
set_option maxHeartbeats 8000000 in
theorem replayOne (v : Value) (M : Mc) (r g : Int) (w : World) (hx : HasM w v M) (hf : FitM M) : Calls Tryz.prog 9 #[v, .int .i64 r, .int .i64 g] w fun e w' => ∃ v', e = .returned (.tuple #[v', .bool (oneM M r g).2.1, .int .i64 (oneM M r g).2.2]) ∧ OwnA w' w.heap.size v' (oneM M r g).1 ∧ Le w w' := by
 have m1 := fun w' (l : Le w w') => machHasLog v M r g w' (hx.le l) hf
 simp only [← atRG_zero] at m1
 have m2 := fun w' (l : Le w w') => machCopy v M w' (hx.le l) hf
 cases h1 : thereB M r g 0
 ·have hP : oneM M r g = (Mc.zero, false, 1800) := by unfold oneM; rw [h1]; rfl
  rw [hP]
  simp only [h1] at m1
  clear h1
  obtain ⟨qR, qP, qT, qH, rfl, _, _, _, _⟩ := hx
  have hr := Box.new (w.alloc (.cells (cells9 M.c qR qP qT qH) 29)) cellsZ9 29
  have hb := (Box.new w (cells9 M.c qR qP qT qH) 29).le (Le.alloc _ (.cells cellsZ9 29))
  have hl := (Le.alloc w (.cells (cells9 M.c qR qP qT qH) 29)).trans (Le.alloc _ (.cells cellsZ9 29))
  rw [World.size_alloc] at hr
  go_enter Tryz.func9, Tryz.ntmps9
  go_upto_region 1 with fail
  generalize hW : (w.alloc (.cells (cells9 M.c qR qP qT qH) 29)).alloc (.cells cellsZ9 29) = W at hl hb hr ⊢
  clear hW
  have hgr := hr.lt
  obtain ⟨⟨z0, z1, z2, z3, z4⟩, z5, z6, z7, z8⟩ := (hb).mach
  go_wp2_with fail
  refine (m1 _ hl).mono ?_
  rintro e w1 ⟨rfl, l1⟩
  clear z0 z1 z2 z3 z4 z5 z6 z7 z8
  clear m1
  replace hb := hb.le l1
  replace hl := hl.trans l1
  have hgr := Nat.lt_of_lt_of_le hgr l1.size
  replace hr := hr.le l1
  clear l1
  obtain ⟨⟨r0, r1, r2, r3, r4, r5, r6, r7, r8⟩, k0, k1, k2, k3, k4, k5, k6, k7, k8⟩ := hr.res
  go_wp2_with fail
  refine bodyPost_ret (v := .tuple #[machZ, .bool false, .int .i64 1800]) (by simp [results, Tryz.results9, go_sem, r0, r1, r2, r3, r4, r5, r6, r7, r8]) rfl ⟨_, rfl, OwnA.zero _ _, ?_⟩
  exact hl.put9 (c := Cfg.zero) (by omega) slZ slZ slZ slZ
 ·obtain ⟨hmay, ⟨ra, rb⟩, ⟨g0, g1⟩, _⟩ := thereB_cases h1
  obtain ⟨hrs, hps, hts, _⟩ := mayM_lens hmay
  have hcf : cfgB M.c.o M.c.r M.c.l M.c.t M.c.s = true := mayM_ok hmay
  obtain ⟨_, ⟨r2, r3⟩, ⟨_, l3⟩, ⟨_, t3⟩, _, _⟩ := Cfg.ok_cases (mayM_ok hmay)
  obtain ⟨r, rfl⟩ : ∃ n : Nat, r = n := ⟨r.toNat, by omega⟩
  obtain ⟨g, rfl⟩ : ∃ n : Nat, g = n := ⟨g.toNat, by omega⟩
  have hpi : r < M.ps.length := by omega
  have hgi : g < M.rs.length := by omega
  have hne0 : ¬ M.c.r = 0 := by omega
  obtain ⟨_, hcl, hcur, _, _⟩ := repB_cases (Mc.rp_may hmay hpi)
  obtain ⟨hRm, _, _, hRt⟩ := ringB_cases (Mc.rg_may hmay hgi)
  have hfR := mayR_fit hRm
  have hfS := (hf.rp r).1
  have hgc : g < (M.rp r).cs.length := by omega
  obtain ⟨cu0, cu1⟩ := cursOK_at hcur hgc
  obtain ⟨rh0, rht, rt1, _⟩ := mayR_nums hRm
  rw [← Mc.rg_nat] at cu0 cu1
  obtain ⟨x, hxx⟩ : ∃ x, x = (M.rp r).cs.getD g 0 := ⟨_, rfl⟩
  rw [← hxx] at cu0 cu1
  have hcx : (M.rp r).cur g = x := by rw [Rp.cur, Int.toNat_natCast, hxx]
  obtain ⟨⟨c, rr, a, th, b⟩, er, he⟩ : ∃ s er, entryS (M.rg g) x = (s, er) := ⟨_, _, rfl⟩
  obtain ⟨s', y, e2, hob⟩ : ∃ s' y e2, objS M.c.o (M.rp r).s c rr a 600 = (s', y, e2) := ⟨_, _, _, rfl⟩
  have h18 : (objS M.c.o (M.rp r).s c rr a 1800).1 = s' ∧ (objS M.c.o (M.rp r).s c rr a 1800).2.1 = y := by
    have := objS_both (o := M.c.o) (s := (M.rp r).s) (c := c) (r := rr) (a := a) 1800 600
    rw [hob] at this
    exact this
  obtain ⟨hh, hhh⟩ : ∃ z, z = th % M.c.r := ⟨_, rfl⟩
  obtain ⟨N, k, hO, HN⟩ : ∃ N k, oneM M r g = (N, k, 0) ∧ Hid ((er = 0 → hh = r → k = true ∧ N = (M.putP r { (M.rp r).setCur g (x + 1) with s := s' }).putT th { M.th th with an := y, re := true }) ∧
      (er = 0 → ¬ hh = r → k = true ∧ N = M.putP r { (M.rp r).setCur g (x + 1) with s := s' }) ∧ (¬ er = 0 → k = false ∧ N = M)) := by
    refine ⟨(oneM M r g).1, (oneM M r g).2.1, ?_, ?_⟩
    ·unfold oneM
     rw [if_pos h1]
     split
     ·split <;> rfl
     ·rfl
    ·unfold oneM
     rw [if_pos h1, hcx, he]
     simp only [oneP, oneT, hcx, h18.1, h18.2, ← hhh]
     refine ⟨fun h2 h3 => ?_, fun h2 h3 => ?_, fun h2 => ?_⟩
     ·rw [if_pos h2, if_pos h3]; exact ⟨rfl, rfl⟩
     ·rw [if_pos h2, if_neg h3]; exact ⟨rfl, rfl⟩
     ·rw [if_neg h2]; exact ⟨rfl, rfl⟩
  have hth : er = 0 → 0 ≤ th ∧ th ≤ M.c.t - 1 := fun e => by
    subst e
    exact hRt _ (entry_mem he)
  have hrep : er = 0 → repS M.c.o M.c.r M.c.l M.c.t M.c.s th = (hh, 0) := fun e => by
    have := hth e
    rw [repS_yes hcf this.1 (by omega), hhh]
  simp only [h1] at m1
  rw [hO]
  obtain ⟨qR, qP, qT, qH, rfl, _, _, _, _⟩ := hx
  have HXX : Hid (x = (M.rp r).cs.getD g 0) := hxx
  have HTS : Hid ((M.ts.length : Int) = M.c.t) := hts
  have HCL : Hid (((M.rp r).cs.length : Int) = M.c.l ∧ g < (M.rp r).cs.length) := ⟨hcl, hgc⟩
  clear hxx hO hmay hrs hps hts hcl rb g1 hf h1 hRt hRm hcx hcur h18 hhh hcf
  have hr := Box.new (w.alloc (.cells (cells9 M.c qR qP qT qH) 29)) cellsZ9 29
  have hb := (Box.new w (cells9 M.c qR qP qT qH) 29).le (Le.alloc _ (.cells cellsZ9 29))
  have hl := (Le.alloc w (.cells (cells9 M.c qR qP qT qH) 29)).trans (Le.alloc _ (.cells cellsZ9 29))
  rw [World.size_alloc] at hr
  go_enter Tryz.func9, Tryz.ntmps9
  go_upto_region 1 with fail
  generalize hW : (w.alloc (.cells (cells9 M.c qR qP qT qH) 29)).alloc (.cells cellsZ9 29) = W at hl hb hr ⊢
  clear hW
  have hgr := hr.lt
  obtain ⟨⟨z0, z1, z2, z3, z4⟩, z5, z6, z7, z8⟩ := (hb).mach
  go_wp2_with fail
  refine (m1 _ hl).mono ?_
  rintro e w1 ⟨rfl, l1⟩
  clear z0 z1 z2 z3 z4 z5 z6 z7 z8
  clear m1
  replace hb := hb.le l1
  replace hl := hl.trans l1
  have hgr := Nat.lt_of_lt_of_le hgr l1.size
  replace hr := hr.le l1
  clear l1
  obtain ⟨⟨z0, z1, z2, z3, z4⟩, z5, z6, z7, z8⟩ := (hb).mach
  go_wp2_with fail
  refine (m2 _ hl).mono ?_
  rintro e w9 ⟨⟨c', uR, uP, uT, uH, xR, xP, xT, xH⟩, rfl, HM, o1, ap, l1⟩
  clear z0 z1 z2 z3 z4 z5 z6 z7 z8
  clear m2
  replace hb := hb.le l1
  obtain ⟨⟨z0, z1, z2, z3, z4⟩, z5, z6, z7, z8⟩ := (hb).mach
  have f0 := (hb).frozen 0
  have f1 := (hb).frozen 1
  have f2 := (hb).frozen 2
  have f3 := (hb).frozen 3
  have f4 := (hb).frozen 4
  have f5 := (hb).frozen 5
  have f6 := (hb).frozen 6
  have f7 := (hb).frozen 7
  have f8 := (hb).frozen 8
  have hlB : w.heap.size ≤ w1.heap.size := hl.size
  have o2 := (o1.base hlB).put9 hb c' uR uP uT uH
  have hb2 := hb.put9 rfl c' uR uP uT uH
  have hr2 := (hr.le l1).off9 (show w.heap.size + 1 ≠ w.heap.size by omega) c' uR uP uT uH
  have l01 := (hl.trans l1).put9 (g := w.heap.size) (Nat.le_refl _) c' uR uP uT uH
  try simp only at o2
  go_upto_region 4 with fail
  clear z0 z1 z2 z3 z4 z5 z6 z7 z8 f0 f1 f2 f3 f4 f5 f6 f7 f8 hb hr hl o1 l1
  show Code.wp _ _ _ _ (put9 w9 w.heap.size c' uR uP uT uH)
  generalize hW1 : put9 w9 w.heap.size c' uR uP uT uH = W1 at o2 hb2 hr2 l01 ⊢
  clear hW1
  have I : MoI w.heap.size w.heap.size W1 ⟨c', uR, uP, uT, uH, xR, xP, xT, xH⟩ := ⟨hb2, Nat.le_refl _, o2, ap⟩
  have hr := hr2
  have hl := l01
  clear o2 hb2 hr2
  have hcc : M.c = c' := (lay_c HM).symm
  rw [hcc] at hob hrep hth
  have HCC : Hid (M.c = c') := hcc
  rw [hcc] at r2 r3 l3 t3 hne0
  clear hcc
  have hiR : g < xR.length := by have := lay_rs HM; simp only at this; omega
  have hiR' : (g : Int) < (xR.length : Int) := by omega
  obtain ⟨gR, capR, hqR, hcapR, hgBR, hgltR, hgneR, hatR, hfzR⟩ := I.openR hiR
  try simp only at hqR hatR hcapR
  subst hqR
  have hiP : r < xP.length := by have := lay_ps HM; simp only at this; omega
  have hiP' : (r : Int) < (xP.length : Int) := by omega
  obtain ⟨gP, capP, hqP, hcapP, hgBP, hgltP, hgneP, hatP, hfzP⟩ := I.openP hiP
  try simp only at hqP hatP hcapP
  subst hqP
  obtain ⟨X, hX⟩ : ∃ X, X = xP.getD r repK.d := ⟨_, rfl⟩
  obtain ⟨Y, hY⟩ : ∃ Y, Y = xR.getD g ringK.d := ⟨_, rfl⟩
  have hXP : X.P = M.rp r := by have := lay_rp HM hiP; simp only at this; rw [hX]; exact this
  have hYR : Y.R = M.rg g := by have := lay_rg HM hiR; simp only at this; rw [hY]; exact this
  have oY := (I.own.iR _ (getD_mem (d := ringK.d) (i := g) hiR)).has
  have oX := I.own.iP _ (getD_mem (d := repK.d) (i := r) hiP)
  simp only at oY oX
  rw [← hX] at hatP oX
  rw [← hY] at hatR oY
  obtain ⟨oS, oC, _⟩ := oX
  rw [hXP] at oS oC
  obtain ⟨gk, ck, hqk, _, hgkB, hgkl, xk, fk⟩ := own_open oC HCL.out.2
  rw [← HXX.out] at xk
  have HX : Hid (X = xP.getD r repK.d) := hX
  have HXP : Hid (X.P = M.rp r) := hXP
  rw [hYR] at hatR oY
  obtain ⟨R, hR⟩ : ∃ R, R = M.rg g := ⟨_, rfl⟩
  rw [← hR] at he hatR oY rh0 rht rt1 hfR cu0 cu1
  obtain ⟨rh, rt, rf, rss⟩ := R
  obtain ⟨yq, hyq⟩ : ∃ q, q = Y.q := ⟨_, rfl⟩
  rw [← hyq] at hatR oY
  obtain ⟨s0, s1, s2⟩ := yq
  obtain ⟨nk, hnk⟩ : ∃ n, n = (M.rp r).cs.length := ⟨_, rfl⟩
  rw [← hnk] at hqk
  have hgk4 : (g : Int) < (nk : Int) := by have := HCL.out.2; omega
  simp only at rh0 rht rt1 hfR cu0 cu1 hatR oY
  obtain ⟨p0, p1, p2, p3⟩ := hatR
  have q4 := hatP.2.2.2.2.1
  rw [hqk] at q4
  have m3 := fun w' (l : Le W1 w') => entryAs he hfR (s0, s1, s2) w' (oY.le l)
  have m4 := fun w' (l : Le W1 w') => objAs hob X.vs w' (fun j hj => (oS j hj).has.le l) hfS
  have hl0 := hl
  have hRA : RingAt W1 gR (g * 4) ⟨rh, rt, rf, rss⟩ (s0, s1, s2) := ⟨p0, p1, p2, p3⟩
  have hl := Le.refl W1
  have hbo := I.bo
  simp only at hbo
  have HCM : Hid (g < (M.rp r).cs.length) := HCL.out.2
  clear hX hXP hY hYR hR hyq hnk he hob oY oS oC hfR hfS HCL
  obtain ⟨⟨z0, z1, z2, z3, z4⟩, z5, z6, z7, z8⟩ := (hbo).mach
  simp only [slV] at z5 z6 p3 q4
  have HQK : Hid (X.c = (some ⟨gk, 0, none⟩, nk, ck)) := hqk
  clear hqk
  have hb := hbo
  go_upto_region 5 with fail
  have nbgR : ¬ W1.heap.size = gR := by have h : gR < W1.heap.size := World.block_lt_of_cell? W1 _ p0; omega
  have nbgP : ¬ W1.heap.size = gP := by have h : gP < W1.heap.size := World.block_lt_of_cell? W1 _ q4; omega
  have nbgk : ¬ W1.heap.size = gk := by have h : gk < W1.heap.size := World.block_lt_of_cell? W1 _ xk; omega
  have nbw : ¬ W1.heap.size = w.heap.size := by have := hb.lt; omega
  obtain ⟨nW, hnW⟩ : ∃ n, n = W1.heap.size := ⟨_, rfl⟩
  have HNW : Hid (nW = W1.heap.size) := hnW
  clear hnW
  apply merge1 (α := Nat) (Φ := fun gs w' => Box w' gs #[.int .i64 c, .int .i64 rr, .int .i64 a, .int .i64 th, .int .i64 b] 50 ∧ Le W1 w' ∧ nW ≤ gs)
  case h1 =>
    intro Q0 hQ0
    have HQ0 : Hid _ := hQ0
    clear hQ0
    go_region_held3 (fun w' => w'.cell? ⟨w.heap.size, 5, none⟩ = some (.slice (some ⟨gR, 0, none⟩) xR.length capR) ∧ w'.cell? ⟨gR, g * 4, none⟩ = some (.int .i64 rh) ∧ w'.cell? ⟨gR, g * 4 + 1, none⟩ = some (.int .i64 rt) ∧ w'.cell? ⟨gR, g * 4 + 2, none⟩ = some (.int .i64 rf) ∧ w'.cell? ⟨gR, g * 4 + 3, none⟩ = some (.slice s0 s1 s2) ∧ w'.cell? ⟨gP, r * 6 + 4, none⟩ = some (.slice (some ⟨gk, 0, none⟩) nk ck) ∧ w'.cell? ⟨gk, g, none⟩ = some (.int .i64 x)) (go_keep) (first
      | (go_at_call 28; refine (m3 _ (hl.trans (Le.drew W1))).mono ?_; rintro e w8 ⟨rfl, l5⟩; have l6 := (Le.drew W1).trans l5; obtain ⟨p0', p1', p2', p3'⟩ := hRA.le l6; have q4' := cell_le q4 l6; have xk' := cell_le xk l6; have hb' := hbo.le l6; obtain ⟨_, z5', z6', _, _⟩ := hb'.mach; simp only [slV] at z5' z6' p3')
      | (go_at_call 28; refine (m3 _ (hl.trans ((Le.alloc W1 (.cells #[.int .i64 0, .int .i64 0, .int .i64 0, .int .i64 0, .int .i64 0] 50)).trans (Le.drew _)))).mono ?_; rintro e w8 ⟨rfl, l5⟩; have l6 := ((Le.alloc W1 (.cells #[.int .i64 0, .int .i64 0, .int .i64 0, .int .i64 0, .int .i64 0] 50)).trans (Le.drew _)).trans l5; obtain ⟨p0', p1', p2', p3'⟩ := hRA.le l6; have q4' := cell_le q4 l6; have xk' := cell_le xk l6; have hb' := hbo.le l6; obtain ⟨_, z5', z6', _, _⟩ := hb'.mach; simp only [slV] at z5' z6' p3'; have hbz : Box w8 W1.heap.size #[.int .i64 0, .int .i64 0, .int .i64 0, .int .i64 0, .int .i64 0] 50 := ((Box.new W1 #[.int .i64 0, .int .i64 0, .int .i64 0, .int .i64 0, .int .i64 0] 50).le (Le.drew _)).le l5; obtain ⟨hz0, hz1, hz2, hz3, hz4, fz0, fz1, fz2, fz3, fz4⟩ := slotCF hbz))
    all_goals first
      | (have bs : Box (((((w8.setCell ⟨W1.heap.size, 0, none⟩ (.int .i64 c)).setCell ⟨W1.heap.size, 1, none⟩ (.int .i64 rr)).setCell ⟨W1.heap.size, 2, none⟩ (.int .i64 a)).setCell ⟨W1.heap.size, 3, none⟩ (.int .i64 th)).setCell ⟨W1.heap.size, 4, none⟩ (.int .i64 b)) W1.heap.size #[.int .i64 c, .int .i64 rr, .int .i64 a, .int .i64 th, .int .i64 b] 50 := (((((hbz.set 0 (.int .i64 c)).set 1 (.int .i64 rr)).set 2 (.int .i64 a)).set 3 (.int .i64 th)).set 4 (.int .i64 b))
         have hgs := Nat.le_refl W1.heap.size
         replace l6 : Le W1 (((((w8.setCell ⟨W1.heap.size, 0, none⟩ (.int .i64 c)).setCell ⟨W1.heap.size, 1, none⟩ (.int .i64 rr)).setCell ⟨W1.heap.size, 2, none⟩ (.int .i64 a)).setCell ⟨W1.heap.size, 3, none⟩ (.int .i64 th)).setCell ⟨W1.heap.size, 4, none⟩ (.int .i64 b)) := (((((l6.set (i := 0) (u := (.int .i64 c)) (Nat.le_refl _)).set (i := 1) (u := (.int .i64 rr)) (Nat.le_refl _)).set (i := 2) (u := (.int .i64 a)) (Nat.le_refl _)).set (i := 3) (u := (.int .i64 th)) (Nat.le_refl _)).set (i := 4) (u := (.int .i64 b)) (Nat.le_refl _))
         clear l5 hbz hz0 hz1 hz2 hz3 hz4 fz0 fz1 fz2 fz3 fz4
         clear p0' p1' p2' p3' q4' xk' hb' z5' z6'
         generalize hWn : (((((w8.setCell ⟨W1.heap.size, 0, none⟩ (.int .i64 c)).setCell ⟨W1.heap.size, 1, none⟩ (.int .i64 rr)).setCell ⟨W1.heap.size, 2, none⟩ (.int .i64 a)).setCell ⟨W1.heap.size, 3, none⟩ (.int .i64 th)).setCell ⟨W1.heap.size, 4, none⟩ (.int .i64 b)) = W2 at bs l6  ⊢
         clear hWn
         generalize hgg : W1.heap.size = gs at bs ⊢
         replace hgs : W1.heap.size ≤ gs := by omega
         clear hgg
         with_reducible refine HQ0.out gs _ ?_; exact ⟨bs, l6, by rw [HNW.out]; exact hgs⟩)
      | (have hA := Le.alloc w8 (.cells #[.int .i64 c, .int .i64 rr, .int .i64 a, .int .i64 th, .int .i64 b] 50)
         have bs := Box.new w8 #[.int .i64 c, .int .i64 rr, .int .i64 a, .int .i64 th, .int .i64 b] 50
         have hgs : W1.heap.size ≤ w8.heap.size := l6.size
         replace l6 := l6.trans hA
         clear hA l5
         clear p0' p1' p2' p3' q4' xk' hb' z5' z6'
         generalize hWn : w8.alloc (.cells #[.int .i64 c, .int .i64 rr, .int .i64 a, .int .i64 th, .int .i64 b] 50) = W2 at bs l6  ⊢
         clear hWn
         generalize w8.heap.size = gs at bs hgs ⊢
         with_reducible refine HQ0.out gs _ ?_; exact ⟨bs, l6, by rw [HNW.out]; exact hgs⟩)
  case h2 =>
    rintro gs W2 ⟨bs, l6, hgs⟩
    rw [HNW.out] at hgs
    clear HNW nW
    clear p0 p1 p2 p3 q4 xk fk m3 hRA hb
    clear z0 z1 z2 z3 z4 z5 z6 z7 z8
    replace hl := hl.trans l6
    replace hl0 := hl0.trans l6
    replace hbo := hbo.le l6
    replace hr := hr.le l6
    replace I := I.le l6
    clear l6
    by_cases her : er = 0
    ·subst her
     obtain ⟨t0, t1⟩ := hth rfl
     have m5 := fun w' => repAs (hrep rfl) w'
     obtain ⟨th, rfl⟩ : ∃ n : Nat, th = n := ⟨th.toNat, by omega⟩
     clear hth hrep
     obtain ⟨c0, c1, c2, c3, _⟩ := bs.slot
     obtain ⟨p0, p1, p2, p3, p4, p5⟩ := hatP.le hl
     obtain ⟨⟨z0, z1, z2, z3, z4⟩, z5, z6, z7, z8⟩ := (hbo).mach
     simp only [slV] at z6
     have hb := hbo
     go_upto_region 8 with fail
     have nbgP : ¬ W2.heap.size = gP := by have h : gP < W2.heap.size := World.block_lt_of_cell? W2 _ p0; omega
     have nbgs : ¬ W2.heap.size = gs := by have h : gs < W2.heap.size := World.block_lt_of_cell? W2 _ c0; omega
     have nbw : ¬ W2.heap.size = w.heap.size := by have := hb.lt; omega
     go_region_held3 (fun w' => w'.cell? ⟨w.heap.size, 0, none⟩ = some (.int .i64 c'.o) ∧ w'.cell? ⟨gP, r * 6, none⟩ = some (slV (X.vs 0)) ∧ w'.cell? ⟨gP, r * 6 + 1, none⟩ = some (slV (X.vs 1)) ∧ w'.cell? ⟨gP, r * 6 + 2, none⟩ = some (slV (X.vs 2)) ∧ w'.cell? ⟨gP, r * 6 + 3, none⟩ = some (slV (X.vs 3)) ∧ w'.cell? ⟨gs, 0, none⟩ = some (.int .i64 c) ∧ w'.cell? ⟨gs, 1, none⟩ = some (.int .i64 rr) ∧ w'.cell? ⟨gs, 2, none⟩ = some (.int .i64 a)) (go_keep) (first
       | (go_at_call 29; refine (m4 _ (hl.trans (Le.drew W2))).mono ?_; rintro e w8 ⟨q, rfl, o5, l5⟩; have l6 := (Le.drew W2).trans l5; have l7 := hl.trans l6; obtain ⟨p0', p1', p2', p3', _, _⟩ := hatP.le l7; have hb' := hbo.le l6; obtain ⟨⟨z0', _, _, _, _⟩, _, _, _, _⟩ := hb'.mach; have bs' := bs.le l6; obtain ⟨c0', c1', c2', _, _⟩ := bs'.slot)
       | (go_at_call 29; refine (m4 _ (hl.trans ((Le.alloc W2 (.cells (cells4 fun _ => slZ) 44)).trans (Le.drew _)))).mono ?_; rintro e w8 ⟨q, rfl, o5, l5⟩; have l6 := ((Le.alloc W2 (.cells (cells4 fun _ => slZ) 44)).trans (Le.drew _)).trans l5; have l7 := hl.trans l6; obtain ⟨p0', p1', p2', p3', _, _⟩ := hatP.le l7; have hb' := hbo.le l6; obtain ⟨⟨z0', _, _, _, _⟩, _, _, _, _⟩ := hb'.mach; have bs' := bs.le l6; obtain ⟨c0', c1', c2', _, _⟩ := bs'.slot; have hbz : Box w8 W2.heap.size (cells4 fun _ => slZ) 44 := ((Box.new W2 (cells4 fun _ => slZ) 44).le (Le.drew _)).le l5; obtain ⟨hz0, hz1, hz2, hz3, fz0, fz1, fz2, fz3⟩ := Box.st hbz))
     all_goals first
       | (have bt : Box ((((w8.setCell ⟨W2.heap.size, 0, none⟩ (slV (q 0))).setCell ⟨W2.heap.size, 1, none⟩ (slV (q 1))).setCell ⟨W2.heap.size, 2, none⟩ (slV (q 2))).setCell ⟨W2.heap.size, 3, none⟩ (slV (q 3))) W2.heap.size (cells4 q) 44 := ((((hbz.set 0 (slV (q 0))).set 1 (slV (q 1))).set 2 (slV (q 2))).set 3 (slV (q 3)))
          have hgt := Nat.le_refl W2.heap.size
          have oq := fun j hj => ((o5 j hj).base (base' := W2.heap.size) ((Le.alloc W2 (.cells (cells4 fun _ => slZ) 44)).trans (Le.drew _)).size).set4 hbz (by decide) (slV (q 0)) (slV (q 1)) (slV (q 2)) (slV (q 3))
          replace l6 : Le W2 ((((w8.setCell ⟨W2.heap.size, 0, none⟩ (slV (q 0))).setCell ⟨W2.heap.size, 1, none⟩ (slV (q 1))).setCell ⟨W2.heap.size, 2, none⟩ (slV (q 2))).setCell ⟨W2.heap.size, 3, none⟩ (slV (q 3))) := ((((l6.set (i := 0) (u := (slV (q 0))) (Nat.le_refl _)).set (i := 1) (u := (slV (q 1))) (Nat.le_refl _)).set (i := 2) (u := (slV (q 2))) (Nat.le_refl _)).set (i := 3) (u := (slV (q 3))) (Nat.le_refl _))
          clear l5 hbz hz0 hz1 hz2 hz3 fz0 fz1 fz2 fz3
          clear p0' p1' p2' p3' hb' bs' z0' c0' c1' c2' l7 o5
          generalize hWn : ((((w8.setCell ⟨W2.heap.size, 0, none⟩ (slV (q 0))).setCell ⟨W2.heap.size, 1, none⟩ (slV (q 1))).setCell ⟨W2.heap.size, 2, none⟩ (slV (q 2))).setCell ⟨W2.heap.size, 3, none⟩ (slV (q 3))) = W3 at bt l6 oq ⊢
          clear hWn
          generalize hgg : W2.heap.size = gt at bt ⊢
          replace hgt : W2.heap.size ≤ gt := by omega
          clear hgg
          skip)
       | (have hA := Le.alloc w8 (.cells (cells4 q) 44)
          have bt := Box.new w8 (cells4 q) 44
          have hgt : W2.heap.size ≤ w8.heap.size := l6.size
          have oq := fun j hj => ((o5 j hj).base (base' := W2.heap.size) (Le.drew W2).size).le hA
          replace l6 := l6.trans hA
          clear hA l5
          clear p0' p1' p2' p3' hb' bs' z0' c0' c1' c2' l7 o5
          generalize hWn : w8.alloc (.cells (cells4 q) 44) = W3 at bt l6 oq ⊢
          clear hWn
          generalize w8.heap.size = gt at bt hgt ⊢
          skip)
     all_goals
       clear p0 p1 p2 p3 p4 p5 c0 c1 c2 c3 m4 hb
       clear z0 z1 z2 z3 z4 z5 z6 z7 z8
       have hbel := I.own.bel
       have hB2 : w.heap.size ≤ W2.heap.size := hl0.size
       replace hl := hl.trans l6
       replace hl0 := hl0.trans l6
       replace hr := hr.le l6
       replace bs := bs.le l6
       replace I := I.le l6
       clear l6 hbo
       obtain ⟨_, hgPl, _, hatP3, hfzP3⟩ := I.repIn rfl hiP
       simp only at hatP3
       rw [← HX.out] at hatP3
       have I2 := I.setS rfl hiP q s' hbel (fun j hj => (oq j hj).base hB2) (fun j hj c e => ((oq j hj).block e).1)
       simp only at I2
       rw [← HX.out] at I2
       replace I2 : MoI w.heap.size w.heap.size ((((W3.setCell ⟨gP, r * 6, none⟩ (slV (q 0))).setCell ⟨gP, r * 6 + 1, none⟩ (slV (q 1))).setCell ⟨gP, r * 6 + 2, none⟩ (slV (q 2))).setCell ⟨gP, r * 6 + 3, none⟩ (slV (q 3))) ⟨c', (some ⟨gR, 0, none⟩, xR.length, capR), (some ⟨gP, 0, none⟩, xP.length, capP), uT, uH, xR, xP.set r ⟨{ X.P with s := s' }, q, X.c, X.l⟩, xT, xH⟩ := I2
       obtain ⟨k0, k1, k2, k3, _, _⟩ := hatP3
       have f0 := hfzP3 (r * 6)
       have f1 := hfzP3 (r * 6 + 1)
       have f2 := hfzP3 (r * 6 + 2)
       have f3 := hfzP3 (r * 6 + 3)
       obtain ⟨b0, b1, b2, b3, _, _, _, _⟩ := bt.st
       have ns : gs ≠ gP := I.neP rfl bs (by decide)
       have nr : w.heap.size + 1 ≠ gP := I.neP rfl hr (by decide)
       have hl2 := hl0.seto4 (o := r * 6) hgBP (slV (q 0)) (slV (q 1)) (slV (q 2)) (slV (q 3))
       have hr2 := hr.otherO4 (o := r * 6) nr (slV (q 0)) (slV (q 1)) (slV (q 2)) (slV (q 3))
       have bs2 := bs.otherO4 (o := r * 6) ns (slV (q 0)) (slV (q 1)) (slV (q 2)) (slV (q 3))
       clear hfzP3 oq hbel hl hfzP hfzR
       go_upto_region 10 with fail
       generalize hW : (((W3.setCell ⟨gP, r * 6, none⟩ (slV (q 0))).setCell ⟨gP, r * 6 + 1, none⟩ (slV (q 1))).setCell ⟨gP, r * 6 + 2, none⟩ (slV (q 2))).setCell ⟨gP, r * 6 + 3, none⟩ (slV (q 3)) = W4 at I2 hl2 hr2 bs2 ⊢
       clear hW I hr bs bt k0 k1 k2 k3 f0 f1 f2 f3 b0 b1 b2 b3 ns hl0
       have hiP2 : r < (xP.set r ⟨{ X.P with s := s' }, q, X.c, X.l⟩).length := by rw [List.length_set]; exact hiP
       have e2 : (xP.set r ⟨{ X.P with s := s' }, q, X.c, X.l⟩).getD r repK.d = ⟨{ X.P with s := s' }, q, X.c, X.l⟩ := getD_same _ _ _ _ hiP
       have hgc3 : g < X.P.cs.length := by rw [HXP.out]; exact HCM.out
       obtain ⟨gl, cl, hql, _, hglB, hgll, xl, fl⟩ := I2.openC (i := r) (k := g) hiP2 (by simp only [e2]; exact hgc3)
       simp only [e2] at hql xl
       rw [HXP.out, ← HXX.out] at xl
       have I3 := I2.setCu (i := r) (k := g) (v := x + 1) hiP2 (by simp only [e2]; exact hql) hgc3
       have hne : gs ≠ gl := I2.neC (i := r) hiP2 (by simp only [e2]; exact hql) bs2 (by decide)
       have hner : w.heap.size + 1 ≠ gl := I2.neC (i := r) hiP2 (by simp only [e2]; exact hql) hr2 (by decide)
       simp only [e2, List.set_set] at I3
       have k4 := (I2.repIn rfl hiP2).2.2.2.1.2.2.2.2.1
       simp only [e2] at k4
       rw [hql] at k4
       obtain ⟨nl, hnl⟩ : ∃ n, n = X.P.cs.length := ⟨_, rfl⟩
       rw [← hnl] at k4 hgc3
       have hgl4 : (g : Int) < (nl : Int) := by omega
       have hl3 := hl2.set (g := gl) (i := g) (u := .int .i64 (x + 1)) hglB
       have hr3 := hr2.other hner g (.int .i64 (x + 1))
       have bs3 := bs2.other hne g (.int .i64 (x + 1))
       clear e2 hiP2 hnl hql hgc3
       simp only [slV] at k4
       go_upto_region 11 with fail
       generalize hW : W4.setCell ⟨gl, g, none⟩ (.int .i64 (x + 1)) = W5 at I3 hl3 hr3 bs3 ⊢
       clear hW I2 hl2 hr2 bs2 k4 xl fl
       obtain ⟨c0, c1, c2, c3, _⟩ := bs3.slot
       have hbo := I3.bo
       simp only at hbo
       obtain ⟨⟨z0, z1, z2, z3, z4⟩, z5, z6, z7, z8⟩ := (hbo).mach
       go_wp2_with fail
       refine (m5 _).mono ?_
       rintro e W6 ⟨rfl, l6⟩
       clear z0 z1 z2 z3 z4 z5 z6 z7 z8
       clear c0 c1 c2 c3 m5
       replace I3 := I3.le l6
       replace hl3 := hl3.trans l6
       replace hr3 := hr3.le l6
       replace bs3 := bs3.le l6
       replace hbo := hbo.le l6
       clear l6
       obtain ⟨c0, c1, c2, c3, _⟩ := bs3.slot
       have HM2 := lay_setP HM r ⟨{ X.P with s := s', cs := X.P.cs.set g (x + 1) }, q, X.c, X.l⟩
       have HE : Hid (({ (M.rp r).setCur g (x + 1) with s := s' } : Rp) = { X.P with s := s', cs := X.P.cs.set g (x + 1) }) := by show _ = _; rw [HXP.out, Rp.setCur, Int.toNat_natCast]
       by_cases hm : hh = (r : Int)
       ·obtain ⟨rfl, hN⟩ := HN.out.1 (by trivial) hm
        have hmb : (hh == (r : Int)) = true := by simp [hm]
        have HN2 : Hid _ := hN
        have hti : th < M.ts.length := by have := HTS.out; rw [HCC.out] at this; omega
        clear hN hm HN
        have hiT : th < xT.length := by have := lay_ts HM; simp only at this; omega
        have hiT' : (th : Int) < (xT.length : Int) := by omega
        obtain ⟨gT, capT, hqT, hcapT, hgBT, hgltT, hgneT, hatT, hfzT⟩ := I3.openT hiT
        try simp only at hqT hatT hcapT
        subst hqT
        obtain ⟨X0, hX0⟩ : ∃ x0, x0 = xT.getD th thK.d := ⟨_, rfl⟩
        have HX0 : Hid (X0.T = M.th th) := by have := lay_th HM hiT; simp only at this; rw [hX0]; exact this
        have HM3 := lay_setT HM2 th ⟨{ X0.T with an := y, re := true }, X0.b, X0.t⟩
        have I4 := I3.setTx (j := 10) (u := .int .i64 y) rfl hiT (by decide) X0 hX0.symm { X0.T with an := y } rfl rfl rfl
        have I5 := I4.setTy (j := 9) (u := .bool true) rfl hiT (by decide) { X0.T with an := y, re := true } rfl rfl rfl
        obtain ⟨_, _, _, _, _, _, _, _, _, x9, x10, _⟩ := hatT
        have m6 := replayServe gT (th * 12) y _ _ W6 x9 x10 (hfzT (th * 12 + 9)) (hfzT (th * 12 + 10))
        have hl5 := (hl3.set (g := gT) (i := th * 12 + 10) (u := .int .i64 y) hgBT).set (g := gT) (i := th * 12 + 9) (u := .bool true) hgBT
        have hnet : w.heap.size + 1 ≠ gT := I3.neT rfl hr3 (by decide)
        have hr5 := (hr3.other hnet (th * 12 + 10) (.int .i64 y)).other hnet (th * 12 + 9) (.bool true)
        replace hbo := I3.bo
        simp only at hbo
        obtain ⟨⟨z0, z1, z2, z3, z4⟩, z5, z6, z7, z8⟩ := (hbo).mach
        simp only [slV] at z7
        clear hX0 hfzT I4 x9 x10 bs3
        go_wp2_with fail
        refine m6.mono ?_
        rintro e _ ⟨rfl, rfl⟩
        clear m6
        clear z0 z1 z2 z3 z4 z5 z6 z7 z8
        clear c0 c1 c2 c3 hbo
        generalize hW : (W6.setCell ⟨gT, th * 12 + 10, none⟩ (.int .i64 y)).setCell ⟨gT, th * 12 + 9, none⟩ (.bool true) = W7 at I5 hl5 hr5 ⊢
        clear hW I3 hl3 hr3
        obtain ⟨⟨y0, y1, y2, y3, y4⟩, y5, y6, y7, y8⟩ := (I5.bo).mach
        obtain ⟨⟨r0, r1, r2, r3, r4, r5, r6, r7, r8⟩, k0, k1, k2, k3, k4, k5, k6, k7, k8⟩ := hr5.res
        go_wp2_with fail
        refine bodyPost_ret (v := .tuple #[machV c' (some ⟨gR, 0, none⟩, xR.length, capR) (some ⟨gP, 0, none⟩, xP.length, capP) (some ⟨gT, 0, none⟩, xT.length, capT) uH, .bool true, .int .i64 0]) (by simp [results, Tryz.results9, go_sem, r0, r1, r2, r3, r4, r5, r6, r7, r8]) rfl ⟨_, rfl, ?_, (hl5).put9 (g := w.heap.size + 1) (by omega) c' (some ⟨gR, 0, none⟩, xR.length, capR) (some ⟨gP, 0, none⟩, xP.length, capP) (some ⟨gT, 0, none⟩, xT.length, capT) uH⟩
        have := I5.ret hr5
        rw [HN2.out, HE.out, ← HX0.out]
        rw [← HM3]
        exact this
       ·obtain ⟨rfl, hN⟩ := HN.out.2.1 (by trivial) hm
        have hmb : (hh == (r : Int)) = false := by simp [hm]
        have HN2 : Hid _ := hN
        clear hN hm HN c0 c1 c2 c3 hbo
        obtain ⟨⟨y0, y1, y2, y3, y4⟩, y5, y6, y7, y8⟩ := (I3.bo).mach
        obtain ⟨⟨r0, r1, r2, r3, r4, r5, r6, r7, r8⟩, k0, k1, k2, k3, k4, k5, k6, k7, k8⟩ := hr3.res
        go_wp2_with fail
        refine bodyPost_ret (v := .tuple #[machV c' (some ⟨gR, 0, none⟩, xR.length, capR) (some ⟨gP, 0, none⟩, xP.length, capP) uT uH, .bool true, .int .i64 0]) (by simp [results, Tryz.results9, go_sem, r0, r1, r2, r3, r4, r5, r6, r7, r8]) rfl ⟨_, rfl, ?_, (hl3).put9 (g := w.heap.size + 1) (by omega) c' (some ⟨gR, 0, none⟩, xR.length, capR) (some ⟨gP, 0, none⟩, xP.length, capP) uT uH⟩
        have := I3.ret hr3
        rw [HN2.out, HE.out, ← HM2]
        exact this
    ·obtain ⟨rfl, hN⟩ := HN.out.2.2 her
     have herb : (er != 0) = true := by simp [her]
     have HN2 : Hid _ := hN
     clear hN her HN
     obtain ⟨⟨y0, y1, y2, y3, y4⟩, y5, y6, y7, y8⟩ := (hbo).mach
     obtain ⟨⟨r0, r1, r2, r3, r4, r5, r6, r7, r8⟩, k0, k1, k2, k3, k4, k5, k6, k7, k8⟩ := hr.res
     go_wp2_with fail
     refine bodyPost_ret (v := .tuple #[machV c' (some ⟨gR, 0, none⟩, xR.length, capR) (some ⟨gP, 0, none⟩, xP.length, capP) uT uH, .bool false, .int .i64 0]) (by simp [results, Tryz.results9, go_sem, r0, r1, r2, r3, r4, r5, r6, r7, r8]) rfl ⟨_, rfl, ?_, (hl0).put9 (g := w.heap.size + 1) (by omega) c' (some ⟨gR, 0, none⟩, xR.length, capR) (some ⟨gP, 0, none⟩, xP.length, capP) uT uH⟩
     have := I.ret hr
     rw [HN2.out, ← HM]
     exact this
def hl1 : Mc := stepM (postM cldM 0).1 0 2
def hldM : Mc := stepM (tryM hl1 (hl1.home 0) (hl1.th 0).lg 0).1 0 3
theorem hl1_may : mayM hl1 = true := by decide +kernel
theorem hl1_fit : FitM hl1 := fitB_fit (by decide +kernel)
theorem hld_may : mayM hldM = true := by decide +kernel
theorem hld_fit : FitM hldM := fitB_fit (by decide +kernel)
theorem hl1_there : thereB hl1 0 0 0 = true := by decide +kernel
theorem hl1_up : opUp (hl1.th 0).c (hl1.th 0).r (hl1.th 0).a = true := by decide +kernel
theorem cld_there : thereB cldM 0 0 0 = true := by decide +kernel
theorem cld_up : opUp (cldM.th 0).c (cldM.th 0).r (cldM.th 0).a = true := by decide +kernel
def btM : Mc := (collectM hldM 0).1
theorem bt_may : mayM btM = true := by decide +kernel
theorem bt_fit : FitM btM := fitB_fit (by decide +kernel)
theorem fitM_one {M : Mc} (h : FitM M) (r g : Int) : FitM (oneM M r g).1 := by
 have hp : ∀ s, FitM (M.putP r (oneP M r g s)) := fun s => h.putP r ⟨(h.rp r).1.obj _ _ _ _ _, by
   have := (h.rp r).2.1
   unfold oneP Rp.setCur
   simpa using this, (h.rp r).2.2⟩
 unfold oneM
 split
 ·split
  ·split
   ·exact (hp _).putT _ (h.th _)
   ·exact hp _
  ·exact h
 ·exact fitM_zero
def pb4 : Mc := (claimM btM 0).1
def pb5 : Mc := (claimM pb4 0).1
def pbM : Mc := (claimM pb5 0).1
def pbN : Nat → Mc
 | 0 => cldM
 | 1 => hl1
 | 2 => hldM
 | 3 => btM
 | 4 => pb4
 | 5 => pb5
 | _ => pbM
theorem pbc_3 : claimM btM 0 = (pb4, 0) := by decide +kernel
theorem pbc_4 : claimM pb4 0 = (pb5, 0) := by decide +kernel
theorem pbc_5 : claimM pb5 0 = (pbM, 0) := by decide +kernel
theorem pb4_fit : FitM pb4 := fitB_fit (by decide +kernel)
theorem pb5_fit : FitM pb5 := fitB_fit (by decide +kernel)
theorem pb_fit : FitM pbM := fitB_fit (by decide +kernel)
theorem pb_c : pbM.c = begC := by decide +kernel
def raM : Mc := (oneM pbM 0 0).1
def rbM : Mc := (oneM pbM 1 0).1
theorem ry_1 : oneM pbM 0 0 = (raM, true, 0) := by decide +kernel
theorem ry_2 : oneM pbM 1 0 = (rbM, true, 0) := by decide +kernel
theorem ry_3 : oneM raM 0 0 = (raM, false, 0) := by decide +kernel
theorem ry_4 : oneM pbM 2 0 = (Mc.zero, false, 1800) := by decide +kernel
theorem ra_fit : FitM raM := fitB_fit (by decide +kernel)
theorem ra_may : mayM raM = true := by decide +kernel
theorem rb_may : mayM rbM = true := by decide +kernel
theorem ra_c : raM.c = begC := by decide +kernel
theorem rb_c : rbM.c = begC := by decide +kernel
structure RaF (w : World) (bP oP bT oT : Nat) : Prop where
 p : ∃ gs os cs, w.cell? ⟨bP, oP, none⟩ = some (.slice (some ⟨gs, os, none⟩) 1 cs) ∧ Has w (.slice (some ⟨gs, os, none⟩) 1 cs) [7]
 c : ∃ gc oc cc, w.cell? ⟨bP, oP + 4, none⟩ = some (.slice (some ⟨gc, oc, none⟩) 2 cc) ∧ w.cell? ⟨gc, oc, none⟩ = some (.int .i64 1)
 re : w.cell? ⟨bT, oT + 9, none⟩ = some (.bool true)
 an : w.cell? ⟨bT, oT + 10, none⟩ = some (.int .i64 1)
theorem RaF.le {w w' : World} {bP oP bT oT : Nat} (h : RaF w bP oP bT oT) (l : Le w w') : RaF w' bP oP bT oT := by
 obtain ⟨⟨gs, os, cs, h1, h2⟩, ⟨gc, oc, cc, h3, h4⟩, h5, h6⟩ := h
 exact ⟨⟨gs, os, cs, cell_le h1 l, h2.le l⟩, ⟨gc, oc, cc, cell_le h3 l, cell_le h4 l⟩, cell_le h5 l, cell_le h6 l⟩
structure RbF (w : World) (bP oP bT oT : Nat) : Prop where
 p : ∃ gs os cs, w.cell? ⟨bP, oP + 6, none⟩ = some (.slice (some ⟨gs, os, none⟩) 1 cs) ∧ Has w (.slice (some ⟨gs, os, none⟩) 1 cs) [7]
 re : w.cell? ⟨bT, oT + 9, none⟩ = some (.bool false)
theorem RbF.le {w w' : World} {bP oP bT oT : Nat} (h : RbF w bP oP bT oT) (l : Le w w') : RbF w' bP oP bT oT := by
 obtain ⟨⟨gs, os, cs, h1, h2⟩, h5⟩ := h
 exact ⟨⟨gs, os, cs, cell_le h1 l, h2.le l⟩, cell_le h5 l⟩
theorem has_one {w : World} {q : Sl} {xs : List Int} (h : Has w (slV q) xs) (hp : 0 < xs.length) : ∃ gs os cs, slV q = .slice (some ⟨gs, os, none⟩) xs.length cs ∧ w.cell? ⟨gs, os, none⟩ = some (.int .i64 (xs.getD 0 0)) := by
 obtain ⟨a, cap, hv, _, _, hc⟩ := h
 obtain ⟨b, off, rfl, hcc⟩ := hc hp
 exact ⟨b, off, cap, hv, hcc 0 hp⟩
theorem ra_open {w : World} {v : Value} (h : HasM w v raM) : ∃ qR bP oP cP bT oT cT qH, v = machV begC qR (some ⟨bP, oP, none⟩, 2, cP) (some ⟨bT, oT, none⟩, 4, cT) qH ∧ RaF w bP oP bT oT := by
 obtain ⟨bR, oR, cR, bP, oP, cP, bT, oT, cT, qH, rfl, _, hcP, hcT, _⟩ := h.opens ra_may
 obtain ⟨qb, qt, ⟨_, _, _, _, _, _, _, _, _, x9, x10, _⟩, _, _⟩ := hcT 0 (by decide +kernel)
 obtain ⟨vs, c, l, ⟨p0, _, _, _, p4, _⟩, hs, hc, _⟩ := hcP 0 (by decide +kernel)
 have h5 : (raM.ts.getD 0 Th.zero).re = true := by decide +kernel
 have h6 : (raM.ts.getD 0 Th.zero).an = 1 := by decide +kernel
 have h7 : (raM.ps.getD 0 Rp.zero).s.at 0 = [7] := by decide +kernel
 have h8 : (raM.ps.getD 0 Rp.zero).cs = [1, 0] := by decide +kernel
 have hs0 := hs 0 (by decide)
 rw [h5] at x9
 rw [h6] at x10
 rw [h7] at hs0
 rw [h8] at hc
 rw [Nat.zero_mul, Nat.add_zero] at x9 x10 p0 p4
 have h3 : raM.ts.length = 4 := by decide +kernel
 have h4 : raM.ps.length = 2 := by decide +kernel
 obtain ⟨gs, os, cs, e1, _⟩ := has_one hs0 (by decide)
 obtain ⟨gc, oc, cc, e2, e3⟩ := has_one hc (by decide)
 rw [e1] at p0 hs0
 rw [e2] at p4
 rw [h3, h4, ra_c]
 exact ⟨_, bP, oP, cP, bT, oT, cT, qH, rfl, ⟨gs, os, cs, p0, hs0⟩, ⟨gc, oc, cc, p4, e3⟩, x9, x10⟩
theorem rb_open {w : World} {v : Value} (h : HasM w v rbM) : ∃ qR bP oP cP bT oT cT qH, v = machV begC qR (some ⟨bP, oP, none⟩, 2, cP) (some ⟨bT, oT, none⟩, 4, cT) qH ∧ RbF w bP oP bT oT := by
 obtain ⟨bR, oR, cR, bP, oP, cP, bT, oT, cT, qH, rfl, _, hcP, hcT, _⟩ := h.opens rb_may
 obtain ⟨qb, qt, ⟨_, _, _, _, _, _, _, _, _, x9, _, _⟩, _, _⟩ := hcT 0 (by decide +kernel)
 obtain ⟨vs, c, l, ⟨p0, _, _, _, _, _⟩, hs, _, _⟩ := hcP 1 (by decide +kernel)
 have h5 : (rbM.ts.getD 0 Th.zero).re = false := by decide +kernel
 have h7 : (rbM.ps.getD 1 Rp.zero).s.at 0 = [7] := by decide +kernel
 have hs0 := hs 0 (by decide)
 rw [h5] at x9
 rw [h7] at hs0
 rw [Nat.zero_mul, Nat.add_zero] at x9
 rw [Nat.one_mul] at p0
 have h3 : rbM.ts.length = 4 := by decide +kernel
 have h4 : rbM.ps.length = 2 := by decide +kernel
 obtain ⟨gs, os, cs, e1, _⟩ := has_one hs0 (by decide)
 rw [e1] at p0 hs0
 rw [h3, h4, rb_c]
 exact ⟨_, bP, oP, cP, bT, oT, cT, qH, rfl, ⟨gs, os, cs, p0, hs0⟩, x9⟩
set_option maxRecDepth 8000 in
set_option maxHeartbeats 8000000 in
theorem rmRepl (v : Value) (M : Mc) (r g : Int) (w : World) (hx : HasM w v M) (hf : FitM M) : Calls Tryz.prog 89 #[v, .int .i64 r, .int .i64 g] w fun e w' => ∃ v', e = .returned v' ∧ OwnA w' w.heap.size v' (replM M r g) ∧ Le w w' := by
 have m1 := fun w' (l : Le w w') => rmOne v M r g w' (hx.le l) hf
 obtain ⟨N, k, er, hN⟩ : ∃ N k er, oneM M r g = (N, k, er) := ⟨_, _, _, rfl⟩
 have hR : replM M r g = N := by unfold replM; rw [hN]
 rw [hR]
 simp only [hN] at m1
 clear hN hR
 obtain ⟨qR, qP, qT, qH, rfl, _, _, _, _⟩ := hx
 have hr := Box.new (w.alloc (.cells (cells9 M.c qR qP qT qH) 29)) cellsZ9 29
 have hb := (Box.new w (cells9 M.c qR qP qT qH) 29).le (Le.alloc _ (.cells cellsZ9 29))
 have hl := (Le.alloc w (.cells (cells9 M.c qR qP qT qH) 29)).trans (Le.alloc _ (.cells cellsZ9 29))
 rw [World.size_alloc] at hr
 go_enter Tryz.func89, Tryz.ntmps89
 go_upto_region 1 with fail
 generalize hW : (w.alloc (.cells (cells9 M.c qR qP qT qH) 29)).alloc (.cells cellsZ9 29) = W at hl hb hr ⊢
 clear hW
 have hgr := hr.lt
 obtain ⟨⟨z0, z1, z2, z3, z4⟩, z5, z6, z7, z8⟩ := (hb).mach
 go_wp2_with fail
 refine (m1 _ hl).mono ?_
 rintro e w9 ⟨_, rfl, ⟨L, rfl, HM, o1, ap⟩, l1⟩
 clear z0 z1 z2 z3 z4 z5 z6 z7 z8
 clear m1
 have hbo := Box.new w9 (cells9 L.c L.qR L.qP L.qT L.qH) 29
 have a1 := Le.alloc w9 (.cells (cells9 L.c L.qR L.qP L.qT L.qH) 29)
 go_upto_region 2 with fail
 generalize hW1 : w9.alloc (.cells (cells9 L.c L.qR L.qP L.qT L.qH) 29) = W1 at hbo a1 ⊢
 clear hW1
 have I : MoI W.heap.size w9.heap.size W1 L := ⟨hbo, l1.size, o1.le a1, ap⟩
 have hgo : W.heap.size ≤ w9.heap.size := l1.size
 generalize w9.heap.size = go at hbo I hgo ⊢
 have l01 := l1.trans a1
 clear hbo o1 ap l1 a1
 obtain ⟨c', uR, uP, uT, uH, xR, xP, xT, xH⟩ := L
 try simp only at I ⊢
 replace hr := hr.le l01
 replace hb := hb.le l01
 have hlB : w.heap.size ≤ W.heap.size := hl.size
 obtain ⟨⟨y0, y1, y2, y3, y4⟩, y5, y6, y7, y8⟩ := (I.bo).mach
 obtain ⟨⟨r0, r1, r2, r3, r4, r5, r6, r7, r8⟩, k0, k1, k2, k3, k4, k5, k6, k7, k8⟩ := hr.res
 go_wp2_with fail
 refine bodyPost_ret (v := machV c' uR uP uT uH) (by simp [results, Tryz.results89, go_sem, r0, r1, r2, r3, r4, r5, r6, r7, r8]) rfl ⟨_, rfl, ?_, (hl.trans l01).put9 (g := w.heap.size + 1) (by omega) c' uR uP uT uH⟩
 have := (I.ret hr).base hlB
 rw [HM] at this
 exact this
def leastK (M : Mc) (g : Int) (k : Nat) : Int × Int := if k = 2 ∧ (M.rp 1).cur g < (M.rp 0).cur g then ((M.rp 1).cur g, 1) else ((M.rp 0).cur g, 0)
theorem leastM_K {M : Mc} {g : Int} {n : Nat} (h : M.c.r = n) : leastM M g = leastK M g n := by
 unfold leastM leastK
 rw [h]
 congr 1
 simp only [eq_iff_iff]
 constructor
 ·rintro ⟨a, b⟩; exact ⟨by omega, b⟩
 ·rintro ⟨a, b⟩; exact ⟨by omega, b⟩
theorem rmCopyA {N M : Mc} (h : N = M) (v : Value) (w : World) (hx : HasM w v M) (hf : FitM M) : Calls Tryz.prog 33 #[v] w fun e w' => ∃ v', e = .returned v' ∧ OwnA w' w.heap.size v' N ∧ Le w w' := by
 subst h
 exact (rmCopy v N w hx hf).mono fun e w' ⟨L, h1, h2, o, a, l⟩ => ⟨L.v, h1, ⟨L, rfl, h2, o, a⟩, l⟩
set_option maxRecDepth 8000 in
set_option maxHeartbeats 8000000 in
theorem rmRoom (v : Value) (M : Mc) (t : Nat) (w : World) (hx : HasM w v M) (hf : FitM M) (hmay : mayM M = true) (hti : t < M.ts.length) : Calls Tryz.prog 122 #[v, .int .i64 t] w fun e w' => ∃ v', e = .returned v' ∧ OwnA w' w.heap.size v' (roomM M t) ∧ Le w w' := by
 have m1 := fun w' (l : Le w w') => rmStepped v M t 4 w' (hx.le l) hf hti
 have m2 := fun (N : Mc) (h : N = M) w' (l : Le w w') => rmCopyA h v w' (hx.le l) hf
 have m3 := fun (r g : Int) w' (l : Le w w') => rmRepl v M r g w' (hx.le l) hf
 obtain ⟨hrs, hps, hts, _⟩ := mayM_lens hmay
 obtain ⟨_, ⟨r2, r3⟩, ⟨_, l3⟩, ⟨t2, t3⟩, _, _⟩ := Cfg.ok_cases (mayM_ok hmay)
 have hti' : (t : Int) < (M.ts.length : Int) := by omega
 obtain ⟨_, _, ⟨g0, g1⟩, _, _, _, _, _, _⟩ := thB_cases (Mc.th_may hmay hti)
 obtain ⟨g, hg⟩ : ∃ n : Nat, (M.th t).lg = n := ⟨(M.th t).lg.toNat, by omega⟩
 have hgi : g < M.rs.length := by omega
 have hgi' : (g : Int) < (M.rs.length : Int) := by omega
 have hg00 : (0 : Int) ≤ (g : Int) := by omega
 obtain ⟨hRm, _, _, _⟩ := ringB_cases (Mc.rg_may hmay hgi)
 have hfR := mayR_fit hRm
 obtain ⟨n, hn⟩ : ∃ n : Nat, M.c.r = n := ⟨M.c.r.toNat, by omega⟩
 have hn2 : 1 ≤ n ∧ n ≤ 2 := by omega
 have hpn : M.ps.length = n := by omega
 have hne0 : ¬ M.c.r = 0 := by omega
 have hcs : ∀ k, k < n → g < (M.rp (k : Nat)).cs.length ∧ g < (M.rp (k : Nat)).ls.length := fun k hk => by
   obtain ⟨_, a, _, b, _⟩ := repB_cases (Mc.rp_may hmay (show k < M.ps.length by omega))
   omega
 obtain ⟨hm, hhm⟩ : ∃ z, z = M.home t := ⟨_, rfl⟩
 have htm : (t : Int).tmod M.c.r = hm := by rw [hhm]; exact Int.tmod_eq_emod_of_nonneg (by omega)
 have hRoom : roomM M t = if (M.rg g).h < (leastK M g n).1 then (stepM M t 4).putR g (freeRS (M.rg g) (leastK M g n).1).1 else if (leastK M g n).2 = hm ∨ (M.rp (leastK M g n).2).lock g = 0 then replM M (leastK M g n).2 g else M := by
   unfold roomM
   rw [hg, leastM_K hn, ← hhm]
 obtain ⟨lst, who, hlw⟩ : ∃ a b, leastK M g n = (a, b) := ⟨_, _, rfl⟩
 rw [hlw] at hRoom
 simp only at hRoom
 obtain ⟨N, hN⟩ : ∃ N, N = roomM M t := ⟨_, rfl⟩
 rw [← hN]
 have HNN : Hid (((M.rg g).h < lst → N = (stepM M t 4).putR g (freeRS (M.rg g) lst).1) ∧ (¬ (M.rg g).h < lst → (who = hm ∨ (M.rp who).lock g = 0) → N = replM M who g) ∧ (¬ (M.rg g).h < lst → ¬ (who = hm ∨ (M.rp who).lock g = 0) → N = M)) := by
   rw [hN, hRoom]
   exact ⟨fun h => if_pos h, fun h h2 => by rw [if_neg h, if_pos h2], fun h h2 => by rw [if_neg h, if_neg h2]⟩
 have HLW : Hid (leastK M g n = (lst, who)) := hlw
 clear hN hRoom hlw
 obtain ⟨bR, oR, cR, bP, oP, cP, bT, oT, cT, qH, rfl, hcR, hcP, hcT, _⟩ := hx.opens hmay
 obtain ⟨qb, qt, hat, _, _⟩ := hcT t hti
 obtain ⟨⟨s0, s1, s2⟩, hatR, hss⟩ := hcR g hgi
 rw [← Mc.th_nat] at hat
 rw [← Mc.rg_nat] at hatR hss
 have x4 := hat.2.2.2.2.1
 rw [hg] at x4
 have hcell : ∀ k, k < n → ∃ bL offL nL cL bK offK nK cK : Nat, (g : Int) < (nL : Int) ∧ (g : Int) < (nK : Int) ∧ w.cell? ⟨bP, oP + k * 6 + 4, none⟩ = some (.slice (some ⟨bL, offL, none⟩) nL cL) ∧ w.cell? ⟨bL, offL + g, none⟩ = some (.int .i64 ((M.rp (k : Nat)).cur g)) ∧
     w.cell? ⟨bP, oP + k * 6 + 5, none⟩ = some (.slice (some ⟨bK, offK, none⟩) nK cK) ∧ w.cell? ⟨bK, offK + g, none⟩ = some (.int .i64 ((M.rp (k : Nat)).lock g)) := fun k hk => by
   obtain ⟨vs, qc, ql, hatp, _, hc, hl⟩ := hcP k (by omega)
   rw [← Mc.rp_nat] at hc hl
   obtain ⟨b1, o1, n1, c1, rfl, h1, x1⟩ := hc.at (hcs k hk).1
   obtain ⟨b2, o2, n2, c2, rfl, h2, x2⟩ := hl.at (hcs k hk).2
   exact ⟨b1, o1, n1, c1, b2, o2, n2, c2, h1, h2, hatp.2.2.2.2.1, by rw [Rp.cur, Int.toNat_natCast]; exact x1, hatp.2.2.2.2.2, by rw [Rp.lock, Int.toNat_natCast]; exact x2⟩
 have HN : Hid (M.c.r = n) := hn
 have HPN : Hid (M.ps.length = n) := hpn
 have HG : Hid ((M.th t).lg = g) := hg
 have HF : Hid (FitM M ∧ mayM M = true) := ⟨hf, hmay⟩
 obtain ⟨R, hR⟩ : ∃ R, R = M.rg g := ⟨_, rfl⟩
 rw [← hR] at hfR hatR hss HNN
 have HR : Hid (R = M.rg g) := hR
 obtain ⟨rh, rt, rf, rss⟩ := R
 clear hR hRm hcs hcR hcP hcT hat hrs hps hts hn hpn hg hhm hf hmay g1 hx
 have hr := Box.new (w.alloc (.cells (cells9 M.c (some ⟨bR, oR, none⟩, M.rs.length, cR) (some ⟨bP, oP, none⟩, M.ps.length, cP) (some ⟨bT, oT, none⟩, M.ts.length, cT) qH) 29)) cellsZ9 29
 have hb := (Box.new w (cells9 M.c (some ⟨bR, oR, none⟩, M.rs.length, cR) (some ⟨bP, oP, none⟩, M.ps.length, cP) (some ⟨bT, oT, none⟩, M.ts.length, cT) qH) 29).le (Le.alloc _ (.cells cellsZ9 29))
 have hl := (Le.alloc w (.cells (cells9 M.c (some ⟨bR, oR, none⟩, M.rs.length, cR) (some ⟨bP, oP, none⟩, M.ps.length, cP) (some ⟨bT, oT, none⟩, M.ts.length, cT) qH) 29)).trans (Le.alloc _ (.cells cellsZ9 29))
 rw [World.size_alloc] at hr
 go_enter Tryz.func122, Tryz.ntmps122
 go_upto_region 1 with fail
 generalize hW : (w.alloc (.cells (cells9 M.c (some ⟨bR, oR, none⟩, M.rs.length, cR) (some ⟨bP, oP, none⟩, M.ps.length, cP) (some ⟨bT, oT, none⟩, M.ts.length, cT) qH) 29)).alloc (.cells cellsZ9 29) = W at hl hb hr ⊢
 clear hW
 have hgr := hr.lt
 obtain ⟨⟨z0, z1, z2, z3, z4⟩, z5, z6, z7, z8⟩ := (hb).mach
 simp only [slV] at z7
 have x4' := cell_le x4 hl
 go_upto_region 2 with fail
 clear x4 x4'
 clear z0 z1 z2 z3 z4 z5 z6 z7 z8
 obtain ⟨bL, offL, nL, cL, _, _, _, _, hnL, _, xc, xv, _, _⟩ := hcell 0 (by omega)
 simp only [Nat.zero_mul, Nat.add_zero] at xc
 have xc' := cell_le xc hl
 have xv' := cell_le xv hl
 obtain ⟨⟨z0, z1, z2, z3, z4⟩, z5, z6, z7, z8⟩ := (hb).mach
 simp only [slV] at z6
 have hp0 : (0 : Int) < (M.ps.length : Int) := by have := HPN.out; omega
 go_wp2_with fail
 clear xc xv xc' xv'
 clear z0 z1 z2 z3 z4 z5 z6 z7 z8
 go_loopw [6, 7, 8] (fun a b i wr => ∃ (k : Nat) (A B : Int), (1 ≤ k ∧ k ≤ n) ∧ i = .int .i64 k ∧ a = .int .i64 A ∧ b = .int .i64 B ∧ Hid (leastK M g k = (A, B)) ∧ W = wr) (fun _ _ i _ => n - (intOf i).toNat)
 case atStart => exact ⟨1, _, 0, by omega, rfl, rfl, rfl, (show leastK M g 1 = ((M.rp 0).cur g, 0) from by unfold leastK; rw [if_neg (by omega)]), rfl⟩
 case round =>
   obtain ⟨k, A, B, hk, rfl, rfl, rfl, HL, rfl⟩ := hrel
   obtain ⟨⟨z0, z1, z2, z3, z4⟩, z5, z6, z7, z8⟩ := (hb).mach
   simp only [slV] at z6
   by_cases hlt : k < n
   ·have HK : Hid (k = 1) := by show k = 1; omega
    have hlt' : (k : Int) < M.c.r := by have := HN.out; omega
    have hpk : (k : Int) < (M.ps.length : Int) := by have := HPN.out; omega
    have hk0 : (0 : Int) ≤ (k : Int) := by omega
    obtain ⟨bL, offL, nL, cL, _, _, _, _, hnL, _, xc, xv, _, _⟩ := hcell k hlt
    obtain ⟨C, hC⟩ : ∃ C, C = (M.rp (k : Nat)).cur g := ⟨_, rfl⟩
    rw [← hC] at xv
    have HC : Hid (C = (M.rp (k : Nat)).cur g) := hC
    have xc' := cell_le xc hl
    have xv' := cell_le xv hl
    clear hC xc xv
    by_cases hca : C < A
    ·have hn' : Hid (leastK M g (k + 1) = (C, (k : Int))) := by
       show _ = _
       have h1 := HL.out
       have h2 := HC.out
       have h3 := HK.out
       subst h3
       unfold leastK at h1 ⊢
       rw [if_neg (by omega)] at h1
       simp only [Prod.mk.injEq] at h1
       replace h2 : C = (M.rp 1).cur g := h2
       rw [if_pos ⟨rfl, by rw [h1.1, ← h2]; exact hca⟩, ← h2]
       rfl
     go_wp2_with fail
     go_roundw
     case rel => exact ⟨k + 1, C, k, by omega, by go_num, rfl, rfl, hn', trivial⟩
     case measure => simp [intOf]; omega
    ·have hn' : Hid (leastK M g (k + 1) = (A, B)) := by
       show _ = _
       have h1 := HL.out
       have h2 := HC.out
       have h3 := HK.out
       subst h3
       unfold leastK at h1 ⊢
       rw [if_neg (by omega)] at h1
       simp only [Prod.mk.injEq] at h1
       replace h2 : C = (M.rp 1).cur g := h2
       rw [if_neg (fun h => hca (by rw [← h1.1, h2]; exact h.2)), h1.1, h1.2]
     have hca' : A ≤ C := by omega
     go_wp2_with fail
     go_roundw
     case rel => exact ⟨k + 1, A, B, by omega, by go_num, rfl, rfl, hn', trivial⟩
     case measure => simp [intOf]; omega
   ·obtain rfl : n = k := by omega
    have hge : M.c.r ≤ (n : Int) := by have := HN.out; omega
    have hAB : A = lst ∧ B = who := by have h1 := HL.out; rw [HLW.out] at h1; simp only [Prod.mk.injEq] at h1; exact ⟨h1.1.symm, h1.2.symm⟩
    obtain ⟨rfl, rfl⟩ := hAB
    obtain ⟨u, hu⟩ : ∃ u : Nat, B = u ∧ u < n := by
      have h1 := HL.out
      unfold leastK at h1
      split at h1
      ·simp only [Prod.mk.injEq] at h1; exact ⟨1, by omega, by omega⟩
      ·simp only [Prod.mk.injEq] at h1; exact ⟨0, by omega, by omega⟩
    obtain ⟨rfl, hun⟩ := hu
    clear HL HLW hlt
    obtain ⟨p0, p1, p2, p3⟩ := hatR.le hl
    simp only [slV] at z5
    by_cases hgt : rh < A
    ·have HN2 : Hid _ := HNN.out.1 hgt
     obtain ⟨nh, nt, nf, nss, ner, he⟩ : ∃ nh nt nf nss ner, freeRS ⟨rh, rt, rf, rss⟩ A = (⟨nh, nt, nf, nss⟩, ner) := ⟨_, _, _, _, _, rfl⟩
     have m4 := fun w' (l : Le w w') => refFreeAs he hfR (s0, s1, s2) w' (hss.le l)
     have HE : Hid (freeRS ⟨rh, rt, rf, rss⟩ A = (⟨nh, nt, nf, nss⟩, ner)) := he
     clear he HNN hcell hun m2 m3 hss
     go_upto_region 10 with fail
     clear hge
     clear p0 p1 p2 p3
     clear z0 z1 z2 z3 z4 z5 z6 z7 z8
     obtain ⟨⟨z0, z1, z2, z3, z4⟩, z5, z6, z7, z8⟩ := (hb).mach
     go_wp2_with fail
     refine (m1 _ hl).mono ?_
     rintro e w9 ⟨_, rfl, ⟨L, rfl, HM, o1, ap⟩, l1⟩
     clear z0 z1 z2 z3 z4 z5 z6 z7 z8
     clear m1
     have hbo := Box.new w9 (cells9 L.c L.qR L.qP L.qT L.qH) 29
     have a1 := Le.alloc w9 (.cells (cells9 L.c L.qR L.qP L.qT L.qH) 29)
     go_upto_region 11 with fail
     generalize hW1 : w9.alloc (.cells (cells9 L.c L.qR L.qP L.qT L.qH) 29) = W1 at hbo a1 ⊢
     clear hW1
     have I : MoI W.heap.size w9.heap.size W1 L := ⟨hbo, l1.size, o1.le a1, ap⟩
     have hgo : W.heap.size ≤ w9.heap.size := l1.size
     generalize w9.heap.size = go at hbo I hgo ⊢
     have l01 := l1.trans a1
     clear hbo o1 ap l1 a1
     obtain ⟨c', uR, uP, uT, uH, xR, xP, xT, xH⟩ := L
     try simp only at I ⊢
     replace hr := hr.le l01
     replace hb := hb.le l01
     have hlB : w.heap.size ≤ W.heap.size := hl.size
     obtain ⟨⟨z0, z1, z2, z3, z4⟩, z5, z6, z7, z8⟩ := (hb).mach
     simp only [slV] at z5
     obtain ⟨p0, p1, p2, p3⟩ := hatR.le (hl.trans l01)
     go_wp2_with fail
     refine (m4 _ (hl.trans l01)).mono ?_
     rintro e w8 ⟨qn, rfl, on, l8⟩
     clear p0 p1 p2 p3 m4
     clear z0 z1 z2 z3 z4 z5 z6 z7 z8
     have hbel := I.own.bel
     have hW01 := l01.size
     have bn := Box.new w8 (cellsR nh nt nf qn) 55
     have a1 := Le.alloc w8 (.cells (cellsR nh nt nf qn) 55)
     go_upto_region 12 with fail
     generalize hW : w8.alloc (.cells (cellsR nh nt nf qn) 55) = W2 at bn a1 ⊢
     generalize hgg : w8.heap.size = gn at bn ⊢
     have l82 := l8.trans a1
     replace on := on.le a1
     clear hW hgg a1 l8
     replace hr := hr.le l82
     replace I := I.le l82
     replace l01 := l01.trans l82
     clear l82 hb
     have hiR : g < xR.length := by have := lay_rs HM; rw [stepM_rs] at this; simp only at this; omega
     have hiR' : (g : Int) < (xR.length : Int) := by omega
     obtain ⟨gR, capR, hqR, hcapR, hgBR, hgltR, hgneR, hatR, hfzR⟩ := I.openR hiR
     try simp only at hqR hatR hcapR
     subst hqR
     have I2 := I.setRA (i := g) rfl hiR ⟨⟨nh, nt, nf, nss⟩, qn⟩ (on.base hW01) (I.ap.setRo hiR (fun c e j e2 => by have h1 := (on.block e).1; have h2 := hbel.1 j c e2; omega))
     have HM2 : Hid (Lay.M ⟨c', (some ⟨gR, 0, none⟩, xR.length, capR), uP, uT, uH, xR.set g ⟨⟨nh, nt, nf, nss⟩, qn⟩, xP, xT, xH⟩ = (stepM M t 4).putR g ⟨nh, nt, nf, nss⟩) := lay_setR HM g ⟨⟨nh, nt, nf, nss⟩, qn⟩
     replace I2 : MoI W.heap.size go ((((W2.setCell ⟨gR, g * 4, none⟩ (.int .i64 nh)).setCell ⟨gR, g * 4 + 1, none⟩ (.int .i64 nt)).setCell ⟨gR, g * 4 + 2, none⟩ (.int .i64 nf)).setCell ⟨gR, g * 4 + 3, none⟩ (slV qn)) ⟨c', (some ⟨gR, 0, none⟩, xR.length, capR), uP, uT, uH, xR.set g ⟨⟨nh, nt, nf, nss⟩, qn⟩, xP, xT, xH⟩ := I2
     have l2 := l01.seto4 (o := g * 4) hgBR (.int .i64 nh) (.int .i64 nt) (.int .i64 nf) (slV qn)
     have hr2 := hr.otherO4 (o := g * 4) (show w.heap.size + 1 ≠ gR by omega) (.int .i64 nh) (.int .i64 nt) (.int .i64 nf) (slV qn)
     obtain ⟨v0, v1, v2, v3⟩ := hatR
     have f0 := hfzR (g * 4)
     have f1 := hfzR (g * 4 + 1)
     have f2 := hfzR (g * 4 + 2)
     have f3 := hfzR (g * 4 + 3)
     obtain ⟨p0, p1, p2, p3, _, _, _, _⟩ := bn.ring
     obtain ⟨⟨y0, y1, y2, y3, y4⟩, y5, y6, y7, y8⟩ := (I.bo).mach
     simp only [slV] at y5
     clear hfzR hbel
     go_upto_region 13 with fail
     generalize hW2 : (((W2.setCell ⟨gR, g * 4, none⟩ (.int .i64 nh)).setCell ⟨gR, g * 4 + 1, none⟩ (.int .i64 nt)).setCell ⟨gR, g * 4 + 2, none⟩ (.int .i64 nf)).setCell ⟨gR, g * 4 + 3, none⟩ (slV qn) = W6 at I2 l2 hr2 ⊢
     clear hW2 v0 v1 v2 v3 f0 f1 f2 f3 p0 p1 p2 p3 I hr bn on l01
     clear y0 y1 y2 y3 y4 y5 y6 y7 y8
     obtain ⟨⟨y0, y1, y2, y3, y4⟩, y5, y6, y7, y8⟩ := (I2.bo).mach
     obtain ⟨⟨r0, r1, r2, r3, r4, r5, r6, r7, r8⟩, k0, k1, k2, k3, k4, k5, k6, k7, k8⟩ := hr2.res
     go_wp2_with fail
     refine bodyPost_ret (v := machV c' (some ⟨gR, 0, none⟩, xR.length, capR) uP uT uH) (by simp [results, Tryz.results122, go_sem, r0, r1, r2, r3, r4, r5, r6, r7, r8]) rfl ⟨_, rfl, ?_, (hl.trans l2).put9 (g := w.heap.size + 1) (by omega) c' (some ⟨gR, 0, none⟩, xR.length, capR) uP uT uH⟩
     have := (I2.ret hr2).base hlB
     rw [HM2.out] at this
     rw [HN2.out, HE.out]
     exact this
    ·have hgt' : A ≤ rh := by omega
     go_upto_region 14 with fail
     clear p0 p1 p2 p3
     by_cases huh : (u : Int) = hm
     ·have HN2 : Hid _ := HNN.out.2.1 (by omega) (.inl huh)
      have hub : ((u : Int) == hm) = true := by simp [huh]
      clear huh HNN hcell hun hge m1 m2 hgt
      go_upto_region 15 with fail
      clear z0 z1 z2 z3 z4 z5 z6 z7 z8
      obtain ⟨⟨z0, z1, z2, z3, z4⟩, z5, z6, z7, z8⟩ := (hb).mach
      have hN2 := HN2.out
      subst hN2
      go_wp2_with fail
      refine (m3 u g _ hl).mono ?_
      rintro e w9 ⟨_, rfl, ⟨⟨c', uR, uP, uT, uH, xR, xP, xT, xH⟩, rfl, HM, o1, ap⟩, l1⟩
      clear m3
      replace hr := hr.le l1
      obtain ⟨⟨r0, r1, r2, r3, r4, r5, r6, r7, r8⟩, k0, k1, k2, k3, k4, k5, k6, k7, k8⟩ := hr.res
      go_wp2_with fail
      refine bodyPost_ret (v := machV c' uR uP uT uH) (by simp [results, Tryz.results122, go_sem, r0, r1, r2, r3, r4, r5, r6, r7, r8]) rfl ⟨_, rfl, ?_, (hl.trans l1).put9 (g := w.heap.size + 1) (by omega) c' uR uP uT uH⟩
      refine ⟨⟨c', uR, uP, uT, uH, xR, xP, xT, xH⟩, rfl, HM, ?_, ap⟩
      exact (o1.base hl.size).put9 hr c' uR uP uT uH
     ·obtain ⟨_, _, _, _, bK, offK, nK, cK, _, hnK, _, _, xk, xv⟩ := hcell u hun
      obtain ⟨C, hC⟩ : ∃ C, C = (M.rp (u : Nat)).lock g := ⟨_, rfl⟩
      rw [← hC] at xv
      have HC : Hid (C = (M.rp (u : Nat)).lock g) := hC
      have xk' := cell_le xk hl
      have xv' := cell_le xv hl
      have hub : ((u : Int) == hm) = false := by simp [huh]
      have hup : (u : Int) < (M.ps.length : Int) := by have := HPN.out; omega
      have hu0 : (0 : Int) ≤ (u : Int) := by omega
      clear hC xk xv hcell hge
      by_cases hC0 : C = 0
      ·have HN2 : Hid _ := HNN.out.2.1 (by omega) (.inr (by rw [← HC.out]; exact hC0))
       have hcb : (C == 0) = true := by simp [hC0]
       clear hC0 huh HNN hun m1 m2 hgt
       go_upto_region 15 with fail
       clear xk' xv'
       clear z0 z1 z2 z3 z4 z5 z6 z7 z8
       obtain ⟨⟨z0, z1, z2, z3, z4⟩, z5, z6, z7, z8⟩ := (hb).mach
       have hN2 := HN2.out
       subst hN2
       go_wp2_with fail
       refine (m3 u g _ hl).mono ?_
       rintro e w9 ⟨_, rfl, ⟨⟨c', uR, uP, uT, uH, xR, xP, xT, xH⟩, rfl, HM, o1, ap⟩, l1⟩
       clear m3
       replace hr := hr.le l1
       obtain ⟨⟨r0, r1, r2, r3, r4, r5, r6, r7, r8⟩, k0, k1, k2, k3, k4, k5, k6, k7, k8⟩ := hr.res
       go_wp2_with fail
       refine bodyPost_ret (v := machV c' uR uP uT uH) (by simp [results, Tryz.results122, go_sem, r0, r1, r2, r3, r4, r5, r6, r7, r8]) rfl ⟨_, rfl, ?_, (hl.trans l1).put9 (g := w.heap.size + 1) (by omega) c' uR uP uT uH⟩
       refine ⟨⟨c', uR, uP, uT, uH, xR, xP, xT, xH⟩, rfl, HM, ?_, ap⟩
       exact (o1.base hl.size).put9 hr c' uR uP uT uH
      ·have HN2 : Hid _ := HNN.out.2.2 (by omega) (fun h => h.elim huh (fun h => hC0 (by rw [HC.out]; exact h)))
       have hcb : (C == 0) = false := by simp [hC0]
       have m5 := m2 N HN2.out
       clear hC0 huh HNN hun m1 m2 m3 hgt
       go_upto_region 16 with fail
       clear xk' xv'
       clear z0 z1 z2 z3 z4 z5 z6 z7 z8
       obtain ⟨⟨z0, z1, z2, z3, z4⟩, z5, z6, z7, z8⟩ := (hb).mach
       go_wp2_with fail
       refine (m5 _ hl).mono ?_
       rintro e w9 ⟨_, rfl, ⟨⟨c', uR, uP, uT, uH, xR, xP, xT, xH⟩, rfl, HM, o1, ap⟩, l1⟩
       clear m5
       replace hr := hr.le l1
       obtain ⟨⟨r0, r1, r2, r3, r4, r5, r6, r7, r8⟩, k0, k1, k2, k3, k4, k5, k6, k7, k8⟩ := hr.res
       go_wp2_with fail
       refine bodyPost_ret (v := machV c' uR uP uT uH) (by simp [results, Tryz.results122, go_sem, r0, r1, r2, r3, r4, r5, r6, r7, r8]) rfl ⟨_, rfl, ?_, (hl.trans l1).put9 (g := w.heap.size + 1) (by omega) c' uR uP uT uH⟩
       refine ⟨⟨c', uR, uP, uT, uH, xR, xP, xT, xH⟩, rfl, HM, ?_, ap⟩
       exact (o1.base hl.size).put9 hr c' uR uP uT uH
set_option maxRecDepth 8000 in
set_option maxHeartbeats 8000000 in
theorem rmClaim5 (v : Value) (M : Mc) (t : Int) (w : World) (hx : HasM w v M) (hf : FitM M) (h1 : thereB M 0 0 t = true) (h2 : (M.th t).b ≠ []) (h3 : (M.th t).st = 5) : Calls Tryz.prog 94 #[v, .int .i64 t] w fun e w' => ∃ v', e = .returned (.tuple #[v', .int .i64 0]) ∧ OwnA w' w.heap.size v' (roomM M t) ∧ Le w w' := by
 have m1 := fun w' (l : Le w w') => rmThere v M 0 0 t w' (hx.le l) hf
 obtain ⟨hmay, _, _, ⟨t0, t1⟩⟩ := thereB_cases h1
 obtain ⟨hrs, hps, hts, _⟩ := mayM_lens hmay
 obtain ⟨_, ⟨r2, r3⟩, ⟨_, l3⟩, ⟨t2, t3⟩, _, _⟩ := Cfg.ok_cases (mayM_ok hmay)
 obtain ⟨t, rfl⟩ : ∃ n : Nat, t = n := ⟨t.toNat, by omega⟩
 have hti : t < M.ts.length := by omega
 have hti' : (t : Int) < (M.ts.length : Int) := by omega
 have m3 := fun w' (l : Le w w') => rmRoom v M t w' (hx.le l) hf hmay hti
 obtain ⟨_, _, ⟨g0, g1⟩, _, hbl, _, _, _, _⟩ := thB_cases (Mc.th_may hmay hti)
 obtain ⟨g, hg⟩ : ∃ n : Nat, (M.th t).lg = n := ⟨(M.th t).lg.toNat, by omega⟩
 have hgi : g < M.rs.length := by omega
 have hgi' : (g : Int) < (M.rs.length : Int) := by omega
 obtain ⟨hRm, hRl, _, _⟩ := ringB_cases (Mc.rg_may hmay hgi)
 obtain ⟨rh0, rht, rt1, _⟩ := mayR_nums hRm
 have hRs := mayR_len hRm
 obtain ⟨bR, oR, cR, bP, oP, cP, bT, oT, cT, qH, rfl, hcR, _, hcT, _⟩ := hx.opens hmay
 obtain ⟨⟨b0, b1, b2⟩, qt, hat, hbb, _⟩ := hcT t hti
 obtain ⟨⟨s0, s1, s2⟩, hatR, hss⟩ := hcR g hgi
 have hb1 := has_len hbb
 have hs1 := hss.len
 rw [← Mc.th_nat] at hat hb1
 rw [← Mc.rg_nat] at hatR hs1 hss
 simp only [h1] at m1
 have hlg0 := hg
 obtain ⟨T, hT⟩ : ∃ T, T = M.th t := ⟨_, rfl⟩
 obtain ⟨R, hR⟩ : ∃ R, R = M.rg g := ⟨_, rfl⟩
 rw [← hT] at h2 h3 hg hat hb1 hbl
 rw [← hR] at hatR hs1 hss rh0 rht rt1 hRs
 have HT : Hid (T = M.th t) := hT
 have HR : Hid (R = M.rg g) := hR
 clear hT hR
 obtain ⟨tst, tc, tr, ta, tlg, tsn, tb, tpl, tpo, tre, tan, ttl⟩ := T
 obtain ⟨rh, rt, rf, rss⟩ := R
 simp only at h2 h3 hg hb1 hs1 hbl rh0 rht rt1 hRs
 subst h3 hg
 rw [← hb1] at hbl
 rw [← hs1] at hRs
 have hb0 : ((b1 : Int) == 0) = false := by have : b1 ≠ 0 := fun e => h2 (List.length_eq_zero_iff.1 (by omega)); simp; omega
 have hb1' : (0 : Int) < (b1 : Int) := by have : b1 ≠ 0 := fun e => h2 (List.length_eq_zero_iff.1 (by omega)); omega
 have HB1 : Hid (b1 = tb.length) := hb1
 have HS1 : Hid (s1 = rss.length) := hs1
 have HLG : Hid ((M.th t).lg = g) := hlg0
 clear h1 h2 hb1 hs1 hmay hrs hps hts hRm hRl hbb hcT hcR
 have hr := Box.new (w.alloc (.cells (cells9 M.c (some ⟨bR, oR, none⟩, M.rs.length, cR) (some ⟨bP, oP, none⟩, M.ps.length, cP) (some ⟨bT, oT, none⟩, M.ts.length, cT) qH) 29)) cellsZ9 29
 have hb := (Box.new w (cells9 M.c (some ⟨bR, oR, none⟩, M.rs.length, cR) (some ⟨bP, oP, none⟩, M.ps.length, cP) (some ⟨bT, oT, none⟩, M.ts.length, cT) qH) 29).le (Le.alloc _ (.cells cellsZ9 29))
 have hl := (Le.alloc w (.cells (cells9 M.c (some ⟨bR, oR, none⟩, M.rs.length, cR) (some ⟨bP, oP, none⟩, M.ps.length, cP) (some ⟨bT, oT, none⟩, M.ts.length, cT) qH) 29)).trans (Le.alloc _ (.cells cellsZ9 29))
 rw [World.size_alloc] at hr
 go_enter Tryz.func94, Tryz.ntmps94
 go_upto_region 1 with fail
 generalize hW : (w.alloc (.cells (cells9 M.c (some ⟨bR, oR, none⟩, M.rs.length, cR) (some ⟨bP, oP, none⟩, M.ps.length, cP) (some ⟨bT, oT, none⟩, M.ts.length, cT) qH) 29)).alloc (.cells cellsZ9 29) = W at hl hb hr ⊢
 clear hW
 have hgr := hr.lt
 obtain ⟨⟨z0, z1, z2, z3, z4⟩, z5, z6, z7, z8⟩ := (hb).mach
 go_wp2_with fail
 refine (m1 _ hl).mono ?_
 rintro e w1 ⟨rfl, l1⟩
 clear z0 z1 z2 z3 z4 z5 z6 z7 z8
 clear m1
 replace hb := hb.le l1
 replace hl := hl.trans l1
 have hgr := Nat.lt_of_lt_of_le hgr l1.size
 replace hr := hr.le l1
 clear l1
 obtain ⟨x0, x1, x2, x3, x4, x5, x6, x7, x8, x9, x10, x11⟩ := hat.le hl
 obtain ⟨p0, p1, p2, p3⟩ := hatR.le hl
 obtain ⟨⟨z0, z1, z2, z3, z4⟩, z5, z6, z7, z8⟩ := (hb).mach
 simp only [slV] at z5 z7
 have bx := Box.new w1 (cellsT ⟨5, tc, tr, ta, (g : Int), tsn, tb, tpl, tpo, tre, tan, ttl⟩ (b0, b1, b2) qt) 59
 have a1 := Le.alloc w1 (.cells (cellsT ⟨5, tc, tr, ta, (g : Int), tsn, tb, tpl, tpo, tre, tan, ttl⟩ (b0, b1, b2) qt) 59)
 go_upto_region 4 with fail
 generalize hW1 : w1.alloc (.cells (cellsT ⟨5, tc, tr, ta, (g : Int), tsn, tb, tpl, tpo, tre, tan, ttl⟩ (b0, b1, b2) qt) 59) = W2 at bx a1 ⊢
 clear hW1
 have hgbx : w1.heap.size ≤ w1.heap.size := Nat.le_refl _
 generalize hgg : w1.heap.size = gbx at bx hgbx ⊢
 have hsbx : w1.heap.size ≤ gbx := by omega
 clear hgg hgbx
 have hgr := Nat.lt_of_lt_of_le hgr a1.size
 replace hl := hl.trans a1
 replace hb := hb.le a1
 replace hr := hr.le a1
 clear a1 x0 x1 x2 x3 x4 x5 x6 x7 x8 x9 x10 x11 p0 p1 p2 p3
 clear z0 z1 z2 z3 z4 z5 z6 z7 z8
 obtain ⟨p0, p1, p2, p3⟩ := hatR.le hl
 obtain ⟨⟨z0, z1, z2, z3, z4⟩, z5, z6, z7, z8⟩ := (hb).mach
 obtain ⟨x0, x1, x2, x3, x4, x5, x6, x7, x8, x9, x10, x11⟩ := bx.th
 simp only [slV] at z5 z7
 have bq := Box.new W2 (cellsR rh rt rf (s0, s1, s2)) 55
 have a1 := Le.alloc W2 (.cells (cellsR rh rt rf (s0, s1, s2)) 55)
 go_upto_region 5 with fail
 generalize hW1 : W2.alloc (.cells (cellsR rh rt rf (s0, s1, s2)) 55) = W3 at bq a1 ⊢
 clear hW1
 have hgbq : W2.heap.size ≤ W2.heap.size := Nat.le_refl _
 generalize hgg : W2.heap.size = gbq at bq hgbq ⊢
 have hsbq : W2.heap.size ≤ gbq := by omega
 clear hgg hgbq
 have hgr := Nat.lt_of_lt_of_le hgr a1.size
 replace hl := hl.trans a1
 replace hb := hb.le a1
 replace hr := hr.le a1
 replace bx := bx.le a1
 clear a1 x0 x1 x2 x3 x4 x5 x6 x7 x8 x9 x10 x11 p0 p1 p2 p3
 clear z0 z1 z2 z3 z4 z5 z6 z7 z8
 obtain ⟨x0, x1, x2, x3, x4, x5, x6, x7, x8, x9, x10, x11⟩ := bx.th
 obtain ⟨p0, p1, p2, p3, _, _, _, _⟩ := bq.ring
 clear hss
 obtain ⟨⟨z0, z1, z2, z3, z4⟩, z5, z6, z7, z8⟩ := (hb).mach
 go_upto_region 16 with fail
 clear x0 x1 x2 x3 x4 x5 x6 x7 x8 x9 x10 x11 p0 p1 p2 p3
 clear z0 z1 z2 z3 z4 z5 z6 z7 z8
 obtain ⟨⟨z0, z1, z2, z3, z4⟩, z5, z6, z7, z8⟩ := (hb).mach
 go_wp2_with fail
 refine (m3 _ hl).mono ?_
 rintro e w9 ⟨_, rfl, ⟨⟨c', uR, uP, uT, uH, xR, xP, xT, xH⟩, rfl, HM, o1, ap⟩, l1⟩
 clear m3
 replace hr := hr.le l1
 obtain ⟨⟨r0, r1, r2, r3, r4, r5, r6, r7, r8⟩, k0, k1, k2, k3, k4, k5, k6, k7, k8⟩ := hr.res
 go_wp2_with fail
 refine bodyPost_ret (v := .tuple #[machV c' uR uP uT uH, .int .i64 0]) (by simp [results, Tryz.results94, go_sem, r0, r1, r2, r3, r4, r5, r6, r7, r8]) rfl ⟨_, rfl, ?_, (hl.trans l1).put9 (g := w.heap.size + 1) (by omega) c' uR uP uT uH⟩
 refine ⟨⟨c', uR, uP, uT, uH, xR, xP, xT, xH⟩, rfl, HM, ?_, ap⟩
 exact (o1.base hl.size).put9 hr c' uR uP uT uH
set_option maxRecDepth 8000 in
set_option maxHeartbeats 8000000 in
theorem rmClaim4f (v : Value) (M : Mc) (t : Int) (w : World) (hx : HasM w v M) (hf : FitM M) (h1 : thereB M 0 0 t = true) (h2 : (M.th t).b ≠ []) (h3 : (M.th t).st = 4) (h4 : ¬ (M.rg (M.th t).lg).f = 0) : Calls Tryz.prog 94 #[v, .int .i64 t] w fun e w' => ∃ v', e = .returned (.tuple #[v', .int .i64 0]) ∧ OwnA w' w.heap.size v' (replM M (M.home t) (M.th t).lg) ∧ Le w w' := by
 obtain ⟨N, hN⟩ : ∃ N, replM M (M.home t) (M.th t).lg = N := ⟨_, rfl⟩
 rw [hN]
 have m1 := fun w' (l : Le w w') => rmThere v M 0 0 t w' (hx.le l) hf
 obtain ⟨hmay, _, _, ⟨t0, t1⟩⟩ := thereB_cases h1
 obtain ⟨hrs, hps, hts, _⟩ := mayM_lens hmay
 obtain ⟨_, ⟨r2, r3⟩, ⟨_, l3⟩, ⟨t2, t3⟩, _, _⟩ := Cfg.ok_cases (mayM_ok hmay)
 obtain ⟨t, rfl⟩ : ∃ n : Nat, t = n := ⟨t.toNat, by omega⟩
 have hti : t < M.ts.length := by omega
 have hti' : (t : Int) < (M.ts.length : Int) := by omega
 have m3 := fun w' (l : Le w w') => rmRepl v M (M.home t) (M.th t).lg w' (hx.le l) hf
 obtain ⟨_, _, ⟨g0, g1⟩, _, hbl, _, _, _, _⟩ := thB_cases (Mc.th_may hmay hti)
 obtain ⟨g, hg⟩ : ∃ n : Nat, (M.th t).lg = n := ⟨(M.th t).lg.toNat, by omega⟩
 have hgi : g < M.rs.length := by omega
 have hgi' : (g : Int) < (M.rs.length : Int) := by omega
 obtain ⟨hRm, hRl, _, _⟩ := ringB_cases (Mc.rg_may hmay hgi)
 obtain ⟨rh0, rht, rt1, _⟩ := mayR_nums hRm
 have hRs := mayR_len hRm
 obtain ⟨bR, oR, cR, bP, oP, cP, bT, oT, cT, qH, rfl, hcR, _, hcT, _⟩ := hx.opens hmay
 obtain ⟨⟨b0, b1, b2⟩, qt, hat, hbb, _⟩ := hcT t hti
 obtain ⟨⟨s0, s1, s2⟩, hatR, hss⟩ := hcR g hgi
 have hb1 := has_len hbb
 have hs1 := hss.len
 rw [← Mc.th_nat] at hat hb1
 rw [← Mc.rg_nat] at hatR hs1 hss
 simp only [h1] at m1
 have hlg0 := hg
 obtain ⟨T, hT⟩ : ∃ T, T = M.th t := ⟨_, rfl⟩
 obtain ⟨R, hR⟩ : ∃ R, R = M.rg g := ⟨_, rfl⟩
 rw [← hT] at h2 h3 hg hat hb1 hbl
 rw [← hR] at hatR hs1 hss rh0 rht rt1 hRs
 have HT : Hid (T = M.th t) := hT
 have HR : Hid (R = M.rg g) := hR
 clear hT hR
 obtain ⟨tst, tc, tr, ta, tlg, tsn, tb, tpl, tpo, tre, tan, ttl⟩ := T
 obtain ⟨rh, rt, rf, rss⟩ := R
 simp only at h2 h3 hg hb1 hs1 hbl rh0 rht rt1 hRs
 subst h3 hg
 rw [← hb1] at hbl
 rw [← hs1] at hRs
 have hb0 : ((b1 : Int) == 0) = false := by have : b1 ≠ 0 := fun e => h2 (List.length_eq_zero_iff.1 (by omega)); simp; omega
 have hb1' : (0 : Int) < (b1 : Int) := by have : b1 ≠ 0 := fun e => h2 (List.length_eq_zero_iff.1 (by omega)); omega
 have HB1 : Hid (b1 = tb.length) := hb1
 have HS1 : Hid (s1 = rss.length) := hs1
 have HLG : Hid ((M.th t).lg = g) := hlg0
 clear h1 h2 hb1 hs1 hmay hrs hps hts hRm hRl hbb hcT hcR
 have hr := Box.new (w.alloc (.cells (cells9 M.c (some ⟨bR, oR, none⟩, M.rs.length, cR) (some ⟨bP, oP, none⟩, M.ps.length, cP) (some ⟨bT, oT, none⟩, M.ts.length, cT) qH) 29)) cellsZ9 29
 have hb := (Box.new w (cells9 M.c (some ⟨bR, oR, none⟩, M.rs.length, cR) (some ⟨bP, oP, none⟩, M.ps.length, cP) (some ⟨bT, oT, none⟩, M.ts.length, cT) qH) 29).le (Le.alloc _ (.cells cellsZ9 29))
 have hl := (Le.alloc w (.cells (cells9 M.c (some ⟨bR, oR, none⟩, M.rs.length, cR) (some ⟨bP, oP, none⟩, M.ps.length, cP) (some ⟨bT, oT, none⟩, M.ts.length, cT) qH) 29)).trans (Le.alloc _ (.cells cellsZ9 29))
 rw [World.size_alloc] at hr
 go_enter Tryz.func94, Tryz.ntmps94
 go_upto_region 1 with fail
 generalize hW : (w.alloc (.cells (cells9 M.c (some ⟨bR, oR, none⟩, M.rs.length, cR) (some ⟨bP, oP, none⟩, M.ps.length, cP) (some ⟨bT, oT, none⟩, M.ts.length, cT) qH) 29)).alloc (.cells cellsZ9 29) = W at hl hb hr ⊢
 clear hW
 have hgr := hr.lt
 obtain ⟨⟨z0, z1, z2, z3, z4⟩, z5, z6, z7, z8⟩ := (hb).mach
 go_wp2_with fail
 refine (m1 _ hl).mono ?_
 rintro e w1 ⟨rfl, l1⟩
 clear z0 z1 z2 z3 z4 z5 z6 z7 z8
 clear m1
 replace hb := hb.le l1
 replace hl := hl.trans l1
 have hgr := Nat.lt_of_lt_of_le hgr l1.size
 replace hr := hr.le l1
 clear l1
 obtain ⟨x0, x1, x2, x3, x4, x5, x6, x7, x8, x9, x10, x11⟩ := hat.le hl
 obtain ⟨p0, p1, p2, p3⟩ := hatR.le hl
 obtain ⟨⟨z0, z1, z2, z3, z4⟩, z5, z6, z7, z8⟩ := (hb).mach
 simp only [slV] at z5 z7
 have bx := Box.new w1 (cellsT ⟨4, tc, tr, ta, (g : Int), tsn, tb, tpl, tpo, tre, tan, ttl⟩ (b0, b1, b2) qt) 59
 have a1 := Le.alloc w1 (.cells (cellsT ⟨4, tc, tr, ta, (g : Int), tsn, tb, tpl, tpo, tre, tan, ttl⟩ (b0, b1, b2) qt) 59)
 go_upto_region 4 with fail
 generalize hW1 : w1.alloc (.cells (cellsT ⟨4, tc, tr, ta, (g : Int), tsn, tb, tpl, tpo, tre, tan, ttl⟩ (b0, b1, b2) qt) 59) = W2 at bx a1 ⊢
 clear hW1
 have hgbx : w1.heap.size ≤ w1.heap.size := Nat.le_refl _
 generalize hgg : w1.heap.size = gbx at bx hgbx ⊢
 have hsbx : w1.heap.size ≤ gbx := by omega
 clear hgg hgbx
 have hgr := Nat.lt_of_lt_of_le hgr a1.size
 replace hl := hl.trans a1
 replace hb := hb.le a1
 replace hr := hr.le a1
 clear a1 x0 x1 x2 x3 x4 x5 x6 x7 x8 x9 x10 x11 p0 p1 p2 p3
 clear z0 z1 z2 z3 z4 z5 z6 z7 z8
 obtain ⟨p0, p1, p2, p3⟩ := hatR.le hl
 obtain ⟨⟨z0, z1, z2, z3, z4⟩, z5, z6, z7, z8⟩ := (hb).mach
 obtain ⟨x0, x1, x2, x3, x4, x5, x6, x7, x8, x9, x10, x11⟩ := bx.th
 simp only [slV] at z5 z7
 have bq := Box.new W2 (cellsR rh rt rf (s0, s1, s2)) 55
 have a1 := Le.alloc W2 (.cells (cellsR rh rt rf (s0, s1, s2)) 55)
 go_upto_region 5 with fail
 generalize hW1 : W2.alloc (.cells (cellsR rh rt rf (s0, s1, s2)) 55) = W3 at bq a1 ⊢
 clear hW1
 have hgbq : W2.heap.size ≤ W2.heap.size := Nat.le_refl _
 generalize hgg : W2.heap.size = gbq at bq hgbq ⊢
 have hsbq : W2.heap.size ≤ gbq := by omega
 clear hgg hgbq
 have hgr := Nat.lt_of_lt_of_le hgr a1.size
 replace hl := hl.trans a1
 replace hb := hb.le a1
 replace hr := hr.le a1
 replace bx := bx.le a1
 clear a1 x0 x1 x2 x3 x4 x5 x6 x7 x8 x9 x10 x11 p0 p1 p2 p3
 clear z0 z1 z2 z3 z4 z5 z6 z7 z8
 obtain ⟨x0, x1, x2, x3, x4, x5, x6, x7, x8, x9, x10, x11⟩ := bx.th
 obtain ⟨p0, p1, p2, p3, _, _, _, _⟩ := bq.ring
 have hne0 : ¬ M.c.r = 0 := by omega
 have htm : (t : Int).tmod M.c.r = M.home t := Int.tmod_eq_emod_of_nonneg (by omega)
 obtain ⟨hm, hhm⟩ : ∃ z, z = M.home t := ⟨_, rfl⟩
 rw [← hhm] at htm
 simp only [HLG.out] at hN
 simp only [HLG.out, ← hhm] at m3
 rw [← hhm] at hN
 simp only [hN] at m3
 have hf0 : ¬ rf = 0 := by have := HR.out; rw [HLG.out] at h4; rw [← this] at h4; exact h4
 have hfb : (rf != 0) = true := by simp [hf0]
 clear hss hhm h4 hf0 hN
 obtain ⟨⟨z0, z1, z2, z3, z4⟩, z5, z6, z7, z8⟩ := (hb).mach
 go_upto_region 9 with fail
 clear p0 p1 p2 p3
 obtain ⟨_, _, _, _, x4', _, _, _, _, _, _, _⟩ := bx.th
 have hn1 : ¬ w.heap.size + 1 = w.heap.size := by omega
 have hn2 : ¬ w.heap.size + 1 = gbx := by omega
 obtain ⟨⟨r0, r1, r2, r3, r4, r5, r6, r7, r8⟩, k0, k1, k2, k3, k4, k5, k6, k7, k8⟩ := hr.res
 go_region_held3 (fun w' => w'.cell? ⟨w.heap.size, 0, none⟩ = some (.int .i64 M.c.o) ∧ w'.cell? ⟨w.heap.size, 1, none⟩ = some (.int .i64 M.c.r) ∧ w'.cell? ⟨w.heap.size, 2, none⟩ = some (.int .i64 M.c.l) ∧ w'.cell? ⟨w.heap.size, 3, none⟩ = some (.int .i64 M.c.t) ∧ w'.cell? ⟨w.heap.size, 4, none⟩ = some (.int .i64 M.c.s) ∧ w'.cell? ⟨w.heap.size, 5, none⟩ = some (slV (some ⟨bR, oR, none⟩, M.rs.length, cR)) ∧ w'.cell? ⟨w.heap.size, 6, none⟩ = some (slV (some ⟨bP, oP, none⟩, M.ps.length, cP)) ∧ w'.cell? ⟨w.heap.size, 7, none⟩ = some (slV (some ⟨bT, oT, none⟩, M.ts.length, cT)) ∧ w'.cell? ⟨w.heap.size, 8, none⟩ = some (slV qH) ∧ w'.cell? ⟨gbx, 4, none⟩ = some (.int .i64 g)) (go_keep) (first
   | (go_at_call 89; refine (m3 _ (hl.trans (Le.drew W3))).mono ?_; rintro e w9 ⟨_, rfl, ⟨⟨c', uR, uP, uT, uH, xR, xP, xT, xH⟩, rfl, HM, o1, ap⟩, l1⟩; have l6 := (Le.drew W3).trans l1; have hr' := hr.le l6; have hb' := hb.le l6; have bx' := bx.le l6; obtain ⟨⟨z0', z1', z2', z3', z4'⟩, z5', z6', z7', z8'⟩ := hb'.mach; obtain ⟨_, _, _, _, x4'', _, _, _, _, _, _, _⟩ := bx'.th; have r0' := hr'.cell 0; have r1' := hr'.cell 1; have r2' := hr'.cell 2; have r3' := hr'.cell 3; have r4' := hr'.cell 4; have r5' := hr'.cell 5; have r6' := hr'.cell 6; have r7' := hr'.cell 7; have r8' := hr'.cell 8; have k0' := hr'.frozen 0; have k1' := hr'.frozen 1; have k2' := hr'.frozen 2; have k3' := hr'.frozen 3; have k4' := hr'.frozen 4; have k5' := hr'.frozen 5; have k6' := hr'.frozen 6; have k7' := hr'.frozen 7; have k8' := hr'.frozen 8; simp only [List.getElem?_toArray, List.getElem?_cons_succ, List.getElem?_cons_zero] at r0' r1' r2' r3' r4' r5' r6' r7' r8'))
 go_wp2_with fail
 refine bodyPost_ret (v := .tuple #[machV c' uR uP uT uH, .int .i64 0]) (by simp [results, Tryz.results94, go_sem, r0', r1', r2', r3', r4', r5', r6', r7', r8']) rfl ⟨_, rfl, ?_, (hl.trans l6).put9 (g := w.heap.size + 1) (by omega) c' uR uP uT uH⟩
 refine ⟨⟨c', uR, uP, uT, uH, xR, xP, xT, xH⟩, rfl, HM, ?_, ap⟩
 exact (o1.base (hl.trans (Le.drew W3)).size).put9 hr' c' uR uP uT uH
set_option maxRecDepth 8000 in
set_option maxHeartbeats 8000000 in
theorem rmClaim6n (v : Value) (M : Mc) (t : Int) (w : World) (hx : HasM w v M) (hf : FitM M) (h1 : thereB M 0 0 t = true) (h2 : (M.th t).b ≠ []) (h3 : (M.th t).st = 6) (h4 : ¬ ((M.rg (M.th t).lg).t = (M.th t).sn ∧ (reserveS (M.rg (M.th t).lg) (M.th t).b.length).2.2 = 0)) : Calls Tryz.prog 94 #[v, .int .i64 t] w fun e w' => ∃ v', e = .returned (.tuple #[v', .int .i64 0]) ∧ OwnA w' w.heap.size v' (stepM M t 4) ∧ Le w w' := by
 have m1 := fun w' (l : Le w w') => rmThere v M 0 0 t w' (hx.le l) hf
 obtain ⟨hmay, _, _, ⟨t0, t1⟩⟩ := thereB_cases h1
 obtain ⟨hrs, hps, hts, _⟩ := mayM_lens hmay
 obtain ⟨_, ⟨r2, r3⟩, ⟨_, l3⟩, ⟨t2, t3⟩, _, _⟩ := Cfg.ok_cases (mayM_ok hmay)
 obtain ⟨t, rfl⟩ : ∃ n : Nat, t = n := ⟨t.toNat, by omega⟩
 have hti : t < M.ts.length := by omega
 have hti' : (t : Int) < (M.ts.length : Int) := by omega
 have m3 := fun w' (l : Le w w') => rmStepped v M t 4 w' (hx.le l) hf hti
 obtain ⟨_, _, ⟨g0, g1⟩, _, hbl, _, _, _, _⟩ := thB_cases (Mc.th_may hmay hti)
 obtain ⟨g, hg⟩ : ∃ n : Nat, (M.th t).lg = n := ⟨(M.th t).lg.toNat, by omega⟩
 have hgi : g < M.rs.length := by omega
 have hgi' : (g : Int) < (M.rs.length : Int) := by omega
 obtain ⟨hRm, hRl, _, _⟩ := ringB_cases (Mc.rg_may hmay hgi)
 obtain ⟨rh0, rht, rt1, _⟩ := mayR_nums hRm
 have hRs := mayR_len hRm
 obtain ⟨bR, oR, cR, bP, oP, cP, bT, oT, cT, qH, rfl, hcR, _, hcT, _⟩ := hx.opens hmay
 obtain ⟨⟨b0, b1, b2⟩, qt, hat, hbb, _⟩ := hcT t hti
 obtain ⟨⟨s0, s1, s2⟩, hatR, hss⟩ := hcR g hgi
 have hb1 := has_len hbb
 have hs1 := hss.len
 rw [← Mc.th_nat] at hat hb1
 rw [← Mc.rg_nat] at hatR hs1 hss
 simp only [h1] at m1
 have hlg0 := hg
 obtain ⟨T, hT⟩ : ∃ T, T = M.th t := ⟨_, rfl⟩
 obtain ⟨R, hR⟩ : ∃ R, R = M.rg g := ⟨_, rfl⟩
 rw [← hT] at h2 h3 hg hat hb1 hbl
 rw [← hR] at hatR hs1 hss rh0 rht rt1 hRs
 have HT : Hid (T = M.th t) := hT
 have HR : Hid (R = M.rg g) := hR
 clear hT hR
 obtain ⟨tst, tc, tr, ta, tlg, tsn, tb, tpl, tpo, tre, tan, ttl⟩ := T
 obtain ⟨rh, rt, rf, rss⟩ := R
 simp only at h2 h3 hg hb1 hs1 hbl rh0 rht rt1 hRs
 subst h3 hg
 rw [← hb1] at hbl
 rw [← hs1] at hRs
 have hb0 : ((b1 : Int) == 0) = false := by have : b1 ≠ 0 := fun e => h2 (List.length_eq_zero_iff.1 (by omega)); simp; omega
 have hb1' : (0 : Int) < (b1 : Int) := by have : b1 ≠ 0 := fun e => h2 (List.length_eq_zero_iff.1 (by omega)); omega
 have HB1 : Hid (b1 = tb.length) := hb1
 have HS1 : Hid (s1 = rss.length) := hs1
 have HLG : Hid ((M.th t).lg = g) := hlg0
 clear h1 h2 hb1 hs1 hmay hrs hps hts hRm hRl hbb hcT hcR
 have hr := Box.new (w.alloc (.cells (cells9 M.c (some ⟨bR, oR, none⟩, M.rs.length, cR) (some ⟨bP, oP, none⟩, M.ps.length, cP) (some ⟨bT, oT, none⟩, M.ts.length, cT) qH) 29)) cellsZ9 29
 have hb := (Box.new w (cells9 M.c (some ⟨bR, oR, none⟩, M.rs.length, cR) (some ⟨bP, oP, none⟩, M.ps.length, cP) (some ⟨bT, oT, none⟩, M.ts.length, cT) qH) 29).le (Le.alloc _ (.cells cellsZ9 29))
 have hl := (Le.alloc w (.cells (cells9 M.c (some ⟨bR, oR, none⟩, M.rs.length, cR) (some ⟨bP, oP, none⟩, M.ps.length, cP) (some ⟨bT, oT, none⟩, M.ts.length, cT) qH) 29)).trans (Le.alloc _ (.cells cellsZ9 29))
 rw [World.size_alloc] at hr
 go_enter Tryz.func94, Tryz.ntmps94
 go_upto_region 1 with fail
 generalize hW : (w.alloc (.cells (cells9 M.c (some ⟨bR, oR, none⟩, M.rs.length, cR) (some ⟨bP, oP, none⟩, M.ps.length, cP) (some ⟨bT, oT, none⟩, M.ts.length, cT) qH) 29)).alloc (.cells cellsZ9 29) = W at hl hb hr ⊢
 clear hW
 have hgr := hr.lt
 obtain ⟨⟨z0, z1, z2, z3, z4⟩, z5, z6, z7, z8⟩ := (hb).mach
 go_wp2_with fail
 refine (m1 _ hl).mono ?_
 rintro e w1 ⟨rfl, l1⟩
 clear z0 z1 z2 z3 z4 z5 z6 z7 z8
 clear m1
 replace hb := hb.le l1
 replace hl := hl.trans l1
 have hgr := Nat.lt_of_lt_of_le hgr l1.size
 replace hr := hr.le l1
 clear l1
 obtain ⟨x0, x1, x2, x3, x4, x5, x6, x7, x8, x9, x10, x11⟩ := hat.le hl
 obtain ⟨p0, p1, p2, p3⟩ := hatR.le hl
 obtain ⟨⟨z0, z1, z2, z3, z4⟩, z5, z6, z7, z8⟩ := (hb).mach
 simp only [slV] at z5 z7
 have bx := Box.new w1 (cellsT ⟨6, tc, tr, ta, (g : Int), tsn, tb, tpl, tpo, tre, tan, ttl⟩ (b0, b1, b2) qt) 59
 have a1 := Le.alloc w1 (.cells (cellsT ⟨6, tc, tr, ta, (g : Int), tsn, tb, tpl, tpo, tre, tan, ttl⟩ (b0, b1, b2) qt) 59)
 go_upto_region 4 with fail
 generalize hW1 : w1.alloc (.cells (cellsT ⟨6, tc, tr, ta, (g : Int), tsn, tb, tpl, tpo, tre, tan, ttl⟩ (b0, b1, b2) qt) 59) = W2 at bx a1 ⊢
 clear hW1
 have hgbx : w1.heap.size ≤ w1.heap.size := Nat.le_refl _
 generalize hgg : w1.heap.size = gbx at bx hgbx ⊢
 have hsbx : w1.heap.size ≤ gbx := by omega
 clear hgg hgbx
 have hgr := Nat.lt_of_lt_of_le hgr a1.size
 replace hl := hl.trans a1
 replace hb := hb.le a1
 replace hr := hr.le a1
 clear a1 x0 x1 x2 x3 x4 x5 x6 x7 x8 x9 x10 x11 p0 p1 p2 p3
 clear z0 z1 z2 z3 z4 z5 z6 z7 z8
 obtain ⟨p0, p1, p2, p3⟩ := hatR.le hl
 obtain ⟨⟨z0, z1, z2, z3, z4⟩, z5, z6, z7, z8⟩ := (hb).mach
 obtain ⟨x0, x1, x2, x3, x4, x5, x6, x7, x8, x9, x10, x11⟩ := bx.th
 simp only [slV] at z5 z7
 have bq := Box.new W2 (cellsR rh rt rf (s0, s1, s2)) 55
 have a1 := Le.alloc W2 (.cells (cellsR rh rt rf (s0, s1, s2)) 55)
 go_upto_region 5 with fail
 generalize hW1 : W2.alloc (.cells (cellsR rh rt rf (s0, s1, s2)) 55) = W3 at bq a1 ⊢
 clear hW1
 have hgbq : W2.heap.size ≤ W2.heap.size := Nat.le_refl _
 generalize hgg : W2.heap.size = gbq at bq hgbq ⊢
 have hsbq : W2.heap.size ≤ gbq := by omega
 clear hgg hgbq
 have hgr := Nat.lt_of_lt_of_le hgr a1.size
 replace hl := hl.trans a1
 replace hb := hb.le a1
 replace hr := hr.le a1
 replace bx := bx.le a1
 clear a1 x0 x1 x2 x3 x4 x5 x6 x7 x8 x9 x10 x11 p0 p1 p2 p3
 clear z0 z1 z2 z3 z4 z5 z6 z7 z8
 obtain ⟨x0, x1, x2, x3, x4, x5, x6, x7, x8, x9, x10, x11⟩ := bx.th
 obtain ⟨p0, p1, p2, p3, _, _, _, _⟩ := bq.ring
 obtain ⟨nh, nt, nf, nss, nx, ner, hres⟩ : ∃ nh nt nf nss nx ner, reserveS ⟨rh, rt, rf, rss⟩ (b1 : Int) = (⟨nh, nt, nf, nss⟩, nx, ner) := ⟨_, _, _, _, _, _, rfl⟩
 have hcond : ¬ (rt = tsn ∧ ner = 0) := by
   have a := HR.out
   have b := HT.out
   have c := HB1.out
   rw [HLG.out, ← a, ← b] at h4
   simp only at h4
   rw [← c, hres] at h4
   exact h4
 have hfs : rss.length * 40 ≤ 140737488351232 := by have := HS1.out; omega
 have m4 := fun w' (l : Le w w') => refReserveAs hres hfs (s0, s1, s2) w' (hss.le l)
 clear hss hres h4
 obtain ⟨⟨z0, z1, z2, z3, z4⟩, z5, z6, z7, z8⟩ := (hb).mach
 go_wp2_with fail
 refine (m4 _ hl).mono ?_
 rintro e w8 ⟨qn, rfl, on, l8⟩
 clear x0 x1 x2 x3 x4 x5 x6 x7 x8 x9 x10 x11 p0 p1 p2 p3 m4 on
 clear z0 z1 z2 z3 z4 z5 z6 z7 z8
 have hgr := Nat.lt_of_lt_of_le hgr l8.size
 replace hl := hl.trans l8
 replace hb := hb.le l8
 replace hr := hr.le l8
 replace bx := bx.le l8
 replace bq := bq.le l8
 clear l8
 have bn := Box.new w8 (cellsR nh nt nf qn) 55
 have a1 := Le.alloc w8 (.cells (cellsR nh nt nf qn) 55)
 go_upto_region 19 with fail
 generalize hW1 : w8.alloc (.cells (cellsR nh nt nf qn) 55) = W4 at bn a1 ⊢
 clear hW1
 have hgbn : w8.heap.size ≤ w8.heap.size := Nat.le_refl _
 generalize hgg : w8.heap.size = gbn at bn hgbn ⊢
 have hsbn : w8.heap.size ≤ gbn := by omega
 clear hgg hgbn
 have hgr := Nat.lt_of_lt_of_le hgr a1.size
 replace hl := hl.trans a1
 replace hb := hb.le a1
 replace hr := hr.le a1
 replace bx := bx.le a1
 replace bq := bq.le a1
 clear a1
 obtain ⟨_, _, _, _, _, x5, _, _, _, _, _, _⟩ := bx.th
 obtain ⟨p0, p1, p2, p3, _, _, _, _⟩ := bq.ring
 by_cases hc : rt = tsn
 ·have hn : ¬ ner = 0 := fun h => hcond ⟨hc, h⟩
  have hb1 : (rt != tsn) = false := by simp [hc]
  have hb2 : (ner != 0) = true := by simp [hn]
  clear hc hn hcond
  go_upto_region 20 with fail
  clear x5 p0 p1 p2 p3
  obtain ⟨⟨z0, z1, z2, z3, z4⟩, z5, z6, z7, z8⟩ := (hb).mach
  go_wp2_with fail
  refine (m3 _ hl).mono ?_
  rintro e w9 ⟨_, rfl, ⟨⟨c', uR, uP, uT, uH, xR, xP, xT, xH⟩, rfl, HM, o1, ap⟩, l1⟩
  clear m3
  replace hr := hr.le l1
  obtain ⟨⟨r0, r1, r2, r3, r4, r5, r6, r7, r8⟩, k0, k1, k2, k3, k4, k5, k6, k7, k8⟩ := hr.res
  go_wp2_with fail
  refine bodyPost_ret (v := .tuple #[machV c' uR uP uT uH, .int .i64 0]) (by simp [results, Tryz.results94, go_sem, r0, r1, r2, r3, r4, r5, r6, r7, r8]) rfl ⟨_, rfl, ?_, (hl.trans l1).put9 (g := w.heap.size + 1) (by omega) c' uR uP uT uH⟩
  refine ⟨⟨c', uR, uP, uT, uH, xR, xP, xT, xH⟩, rfl, HM, ?_, ap⟩
  exact (o1.base hl.size).put9 hr c' uR uP uT uH
 ·have hb1 : (rt != tsn) = true := by simp [hc]
  clear hc hcond
  go_upto_region 20 with fail
  clear x5 p0 p1 p2 p3
  obtain ⟨⟨z0, z1, z2, z3, z4⟩, z5, z6, z7, z8⟩ := (hb).mach
  go_wp2_with fail
  refine (m3 _ hl).mono ?_
  rintro e w9 ⟨_, rfl, ⟨⟨c', uR, uP, uT, uH, xR, xP, xT, xH⟩, rfl, HM, o1, ap⟩, l1⟩
  clear m3
  replace hr := hr.le l1
  obtain ⟨⟨r0, r1, r2, r3, r4, r5, r6, r7, r8⟩, k0, k1, k2, k3, k4, k5, k6, k7, k8⟩ := hr.res
  go_wp2_with fail
  refine bodyPost_ret (v := .tuple #[machV c' uR uP uT uH, .int .i64 0]) (by simp [results, Tryz.results94, go_sem, r0, r1, r2, r3, r4, r5, r6, r7, r8]) rfl ⟨_, rfl, ?_, (hl.trans l1).put9 (g := w.heap.size + 1) (by omega) c' uR uP uT uH⟩
  refine ⟨⟨c', uR, uP, uT, uH, xR, xP, xT, xH⟩, rfl, HM, ?_, ap⟩
  exact (o1.base hl.size).put9 hr c' uR uP uT uH
set_option maxRecDepth 8000 in
set_option maxHeartbeats 8000000 in
theorem rmClaimX (v : Value) (M : Mc) (t st0 : Int) (w : World) (hx : HasM w v M) (hf : FitM M) (h1 : thereB M 0 0 t = true) (h2 : (M.th t).b ≠ []) (h3 : (M.th t).st = st0) (hs : ¬ st0 = 4 ∧ ¬ st0 = 5 ∧ ¬ st0 = 6 ∧ ¬ st0 = 7) : Calls Tryz.prog 94 #[v, .int .i64 t] w fun e w' => ∃ v', e = .returned (.tuple #[v', .int .i64 1900]) ∧ OwnA w' w.heap.size v' Mc.zero ∧ Le w w' := by
 obtain ⟨s4, s5, s6, s7⟩ := hs
 have hs4 : (st0 == 4) = false := by simp [s4]
 have hs5 : (st0 == 5) = false := by simp [s5]
 have hs6 : (st0 == 6) = false := by simp [s6]
 have hs7 : (st0 == 7) = false := by simp [s7]
 clear s4 s5 s6 s7
 have m1 := fun w' (l : Le w w') => rmThere v M 0 0 t w' (hx.le l) hf
 obtain ⟨hmay, _, _, ⟨t0, t1⟩⟩ := thereB_cases h1
 obtain ⟨hrs, hps, hts, _⟩ := mayM_lens hmay
 obtain ⟨_, ⟨r2, r3⟩, ⟨_, l3⟩, ⟨t2, t3⟩, _, _⟩ := Cfg.ok_cases (mayM_ok hmay)
 obtain ⟨t, rfl⟩ : ∃ n : Nat, t = n := ⟨t.toNat, by omega⟩
 have hti : t < M.ts.length := by omega
 have hti' : (t : Int) < (M.ts.length : Int) := by omega
 have htt := hti
 obtain ⟨_, _, ⟨g0, g1⟩, _, hbl, _, _, _, _⟩ := thB_cases (Mc.th_may hmay hti)
 obtain ⟨g, hg⟩ : ∃ n : Nat, (M.th t).lg = n := ⟨(M.th t).lg.toNat, by omega⟩
 have hgi : g < M.rs.length := by omega
 have hgi' : (g : Int) < (M.rs.length : Int) := by omega
 obtain ⟨hRm, hRl, _, _⟩ := ringB_cases (Mc.rg_may hmay hgi)
 obtain ⟨rh0, rht, rt1, _⟩ := mayR_nums hRm
 have hRs := mayR_len hRm
 obtain ⟨bR, oR, cR, bP, oP, cP, bT, oT, cT, qH, rfl, hcR, _, hcT, _⟩ := hx.opens hmay
 obtain ⟨⟨b0, b1, b2⟩, qt, hat, hbb, _⟩ := hcT t hti
 obtain ⟨⟨s0, s1, s2⟩, hatR, hss⟩ := hcR g hgi
 have hb1 := has_len hbb
 have hs1 := hss.len
 rw [← Mc.th_nat] at hat hb1
 rw [← Mc.rg_nat] at hatR hs1 hss
 simp only [h1] at m1
 have hlg0 := hg
 obtain ⟨T, hT⟩ : ∃ T, T = M.th t := ⟨_, rfl⟩
 obtain ⟨R, hR⟩ : ∃ R, R = M.rg g := ⟨_, rfl⟩
 rw [← hT] at h2 h3 hg hat hb1 hbl
 rw [← hR] at hatR hs1 hss rh0 rht rt1 hRs
 have HT : Hid (T = M.th t) := hT
 have HR : Hid (R = M.rg g) := hR
 clear hT hR
 obtain ⟨tst, tc, tr, ta, tlg, tsn, tb, tpl, tpo, tre, tan, ttl⟩ := T
 obtain ⟨rh, rt, rf, rss⟩ := R
 simp only at h2 h3 hg hb1 hs1 hbl rh0 rht rt1 hRs
 subst h3 hg
 rw [← hb1] at hbl
 rw [← hs1] at hRs
 have hb0 : ((b1 : Int) == 0) = false := by have : b1 ≠ 0 := fun e => h2 (List.length_eq_zero_iff.1 (by omega)); simp; omega
 have hb1' : (0 : Int) < (b1 : Int) := by have : b1 ≠ 0 := fun e => h2 (List.length_eq_zero_iff.1 (by omega)); omega
 have HB1 : Hid (b1 = tb.length) := hb1
 have HS1 : Hid (s1 = rss.length) := hs1
 have HLG : Hid ((M.th t).lg = g) := hlg0
 clear h1 h2 hb1 hs1 hmay hrs hps hts hRm hRl hbb hcT hcR
 have hr := Box.new (w.alloc (.cells (cells9 M.c (some ⟨bR, oR, none⟩, M.rs.length, cR) (some ⟨bP, oP, none⟩, M.ps.length, cP) (some ⟨bT, oT, none⟩, M.ts.length, cT) qH) 29)) cellsZ9 29
 have hb := (Box.new w (cells9 M.c (some ⟨bR, oR, none⟩, M.rs.length, cR) (some ⟨bP, oP, none⟩, M.ps.length, cP) (some ⟨bT, oT, none⟩, M.ts.length, cT) qH) 29).le (Le.alloc _ (.cells cellsZ9 29))
 have hl := (Le.alloc w (.cells (cells9 M.c (some ⟨bR, oR, none⟩, M.rs.length, cR) (some ⟨bP, oP, none⟩, M.ps.length, cP) (some ⟨bT, oT, none⟩, M.ts.length, cT) qH) 29)).trans (Le.alloc _ (.cells cellsZ9 29))
 rw [World.size_alloc] at hr
 go_enter Tryz.func94, Tryz.ntmps94
 go_upto_region 1 with fail
 generalize hW : (w.alloc (.cells (cells9 M.c (some ⟨bR, oR, none⟩, M.rs.length, cR) (some ⟨bP, oP, none⟩, M.ps.length, cP) (some ⟨bT, oT, none⟩, M.ts.length, cT) qH) 29)).alloc (.cells cellsZ9 29) = W at hl hb hr ⊢
 clear hW
 have hgr := hr.lt
 obtain ⟨⟨z0, z1, z2, z3, z4⟩, z5, z6, z7, z8⟩ := (hb).mach
 go_wp2_with fail
 refine (m1 _ hl).mono ?_
 rintro e w1 ⟨rfl, l1⟩
 clear z0 z1 z2 z3 z4 z5 z6 z7 z8
 clear m1
 replace hb := hb.le l1
 replace hl := hl.trans l1
 have hgr := Nat.lt_of_lt_of_le hgr l1.size
 replace hr := hr.le l1
 clear l1
 obtain ⟨x0, x1, x2, x3, x4, x5, x6, x7, x8, x9, x10, x11⟩ := hat.le hl
 obtain ⟨p0, p1, p2, p3⟩ := hatR.le hl
 obtain ⟨⟨z0, z1, z2, z3, z4⟩, z5, z6, z7, z8⟩ := (hb).mach
 simp only [slV] at z5 z7
 have bx := Box.new w1 (cellsT ⟨tst, tc, tr, ta, (g : Int), tsn, tb, tpl, tpo, tre, tan, ttl⟩ (b0, b1, b2) qt) 59
 have a1 := Le.alloc w1 (.cells (cellsT ⟨tst, tc, tr, ta, (g : Int), tsn, tb, tpl, tpo, tre, tan, ttl⟩ (b0, b1, b2) qt) 59)
 go_upto_region 4 with fail
 generalize hW1 : w1.alloc (.cells (cellsT ⟨tst, tc, tr, ta, (g : Int), tsn, tb, tpl, tpo, tre, tan, ttl⟩ (b0, b1, b2) qt) 59) = W2 at bx a1 ⊢
 clear hW1
 have hgbx : w1.heap.size ≤ w1.heap.size := Nat.le_refl _
 generalize hgg : w1.heap.size = gbx at bx hgbx ⊢
 have hsbx : w1.heap.size ≤ gbx := by omega
 clear hgg hgbx
 have hgr := Nat.lt_of_lt_of_le hgr a1.size
 replace hl := hl.trans a1
 replace hb := hb.le a1
 replace hr := hr.le a1
 clear a1 x0 x1 x2 x3 x4 x5 x6 x7 x8 x9 x10 x11 p0 p1 p2 p3
 clear z0 z1 z2 z3 z4 z5 z6 z7 z8
 obtain ⟨p0, p1, p2, p3⟩ := hatR.le hl
 obtain ⟨⟨z0, z1, z2, z3, z4⟩, z5, z6, z7, z8⟩ := (hb).mach
 obtain ⟨x0, x1, x2, x3, x4, x5, x6, x7, x8, x9, x10, x11⟩ := bx.th
 simp only [slV] at z5 z7
 have bq := Box.new W2 (cellsR rh rt rf (s0, s1, s2)) 55
 have a1 := Le.alloc W2 (.cells (cellsR rh rt rf (s0, s1, s2)) 55)
 go_upto_region 5 with fail
 generalize hW1 : W2.alloc (.cells (cellsR rh rt rf (s0, s1, s2)) 55) = W3 at bq a1 ⊢
 clear hW1
 have hgbq : W2.heap.size ≤ W2.heap.size := Nat.le_refl _
 generalize hgg : W2.heap.size = gbq at bq hgbq ⊢
 have hsbq : W2.heap.size ≤ gbq := by omega
 clear hgg hgbq
 have hgr := Nat.lt_of_lt_of_le hgr a1.size
 replace hl := hl.trans a1
 replace hb := hb.le a1
 replace hr := hr.le a1
 replace bx := bx.le a1
 clear a1 x0 x1 x2 x3 x4 x5 x6 x7 x8 x9 x10 x11 p0 p1 p2 p3
 clear z0 z1 z2 z3 z4 z5 z6 z7 z8
 obtain ⟨x0, x1, x2, x3, x4, x5, x6, x7, x8, x9, x10, x11⟩ := bx.th
 obtain ⟨p0, p1, p2, p3, _, _, _, _⟩ := bq.ring
 clear hss
 clear p0 p1 p2 p3
 obtain ⟨⟨r0, r1, r2, r3, r4, r5, r6, r7, r8⟩, k0, k1, k2, k3, k4, k5, k6, k7, k8⟩ := hr.res
 go_wp2_with fail
 refine bodyPost_ret (v := .tuple #[machZ, .int .i64 1900]) (by simp [results, Tryz.results94, go_sem, r0, r1, r2, r3, r4, r5, r6, r7, r8]) rfl ⟨_, rfl, OwnA.zero _ _, ?_⟩
 exact hl.put9 (c := Cfg.zero) (by omega) slZ slZ slZ slZ
set_option maxRecDepth 8000 in
set_option maxHeartbeats 8000000 in
theorem rmClaim0 (v : Value) (M : Mc) (t : Int) (w : World) (hx : HasM w v M) (hf : FitM M) (h : (thereB M 0 0 t && decide ((M.th t).b ≠ [])) = false) : Calls Tryz.prog 94 #[v, .int .i64 t] w fun e w' => ∃ v', e = .returned (.tuple #[v', .int .i64 1900]) ∧ OwnA w' w.heap.size v' Mc.zero ∧ Le w w' := by
 have m1 := fun w' (l : Le w w') => rmThere v M 0 0 t w' (hx.le l) hf
 cases h1 : thereB M 0 0 t
 ·simp only [h1] at m1
  clear h1 h
  obtain ⟨qR, qP, qT, qH, rfl, _, _, _, _⟩ := hx
  have hr := Box.new (w.alloc (.cells (cells9 M.c qR qP qT qH) 29)) cellsZ9 29
  have hb := (Box.new w (cells9 M.c qR qP qT qH) 29).le (Le.alloc _ (.cells cellsZ9 29))
  have hl := (Le.alloc w (.cells (cells9 M.c qR qP qT qH) 29)).trans (Le.alloc _ (.cells cellsZ9 29))
  rw [World.size_alloc] at hr
  go_enter Tryz.func94, Tryz.ntmps94
  go_upto_region 1 with fail
  generalize hW : (w.alloc (.cells (cells9 M.c qR qP qT qH) 29)).alloc (.cells cellsZ9 29) = W at hl hb hr ⊢
  clear hW
  have hgr := hr.lt
  obtain ⟨⟨z0, z1, z2, z3, z4⟩, z5, z6, z7, z8⟩ := (hb).mach
  go_wp2_with fail
  refine (m1 _ hl).mono ?_
  rintro e w1 ⟨rfl, l1⟩
  clear z0 z1 z2 z3 z4 z5 z6 z7 z8
  clear m1
  replace hb := hb.le l1
  replace hl := hl.trans l1
  have hgr := Nat.lt_of_lt_of_le hgr l1.size
  replace hr := hr.le l1
  clear l1
  obtain ⟨⟨r0, r1, r2, r3, r4, r5, r6, r7, r8⟩, k0, k1, k2, k3, k4, k5, k6, k7, k8⟩ := hr.res
  go_wp2_with fail
  refine bodyPost_ret (v := .tuple #[machZ, .int .i64 1900]) (by simp [results, Tryz.results94, go_sem, r0, r1, r2, r3, r4, r5, r6, r7, r8]) rfl ⟨_, rfl, OwnA.zero _ _, ?_⟩
  exact hl.put9 (c := Cfg.zero) (by omega) slZ slZ slZ slZ
 ·rw [h1] at h
  have h2 : (M.th t).b = [] := by simpa using h
  obtain ⟨hmay, _, _, ⟨t0, t1⟩⟩ := thereB_cases h1
  obtain ⟨hrs, hps, hts, _⟩ := mayM_lens hmay
  obtain ⟨t, rfl⟩ : ∃ n : Nat, t = n := ⟨t.toNat, by omega⟩
  have hti : t < M.ts.length := by omega
  have hti' : (t : Int) < (M.ts.length : Int) := by omega
  obtain ⟨bR, oR, cR, bP, oP, cP, bT, oT, cT, qH, rfl, _, _, hcT, _⟩ := hx.opens hmay
  obtain ⟨⟨b0, b1, b2⟩, qt, hat, hbb, _⟩ := hcT t hti
  have hb1 := has_len hbb
  rw [← Mc.th_nat, h2] at hb1
  replace hb1 : b1 = 0 := hb1
  subst hb1
  have x6 := hat.2.2.2.2.2.2.1
  simp only [h1] at m1
  clear h1 h h2 hmay hrs hps hts hbb hcT hat hx
  have hr := Box.new (w.alloc (.cells (cells9 M.c (some ⟨bR, oR, none⟩, M.rs.length, cR) (some ⟨bP, oP, none⟩, M.ps.length, cP) (some ⟨bT, oT, none⟩, M.ts.length, cT) qH) 29)) cellsZ9 29
  have hb := (Box.new w (cells9 M.c (some ⟨bR, oR, none⟩, M.rs.length, cR) (some ⟨bP, oP, none⟩, M.ps.length, cP) (some ⟨bT, oT, none⟩, M.ts.length, cT) qH) 29).le (Le.alloc _ (.cells cellsZ9 29))
  have hl := (Le.alloc w (.cells (cells9 M.c (some ⟨bR, oR, none⟩, M.rs.length, cR) (some ⟨bP, oP, none⟩, M.ps.length, cP) (some ⟨bT, oT, none⟩, M.ts.length, cT) qH) 29)).trans (Le.alloc _ (.cells cellsZ9 29))
  rw [World.size_alloc] at hr
  go_enter Tryz.func94, Tryz.ntmps94
  go_upto_region 1 with fail
  generalize hW : (w.alloc (.cells (cells9 M.c (some ⟨bR, oR, none⟩, M.rs.length, cR) (some ⟨bP, oP, none⟩, M.ps.length, cP) (some ⟨bT, oT, none⟩, M.ts.length, cT) qH) 29)).alloc (.cells cellsZ9 29) = W at hl hb hr ⊢
  clear hW
  have hgr := hr.lt
  obtain ⟨⟨z0, z1, z2, z3, z4⟩, z5, z6, z7, z8⟩ := (hb).mach
  go_wp2_with fail
  refine (m1 _ hl).mono ?_
  rintro e w1 ⟨rfl, l1⟩
  clear z0 z1 z2 z3 z4 z5 z6 z7 z8
  clear m1
  replace hb := hb.le l1
  replace hl := hl.trans l1
  have hgr := Nat.lt_of_lt_of_le hgr l1.size
  replace hr := hr.le l1
  clear l1
  have x6' := cell_le x6 hl
  obtain ⟨⟨z0, z1, z2, z3, z4⟩, z5, z6, z7, z8⟩ := (hb).mach
  simp only [slV] at z7 x6'
  obtain ⟨⟨r0, r1, r2, r3, r4, r5, r6, r7, r8⟩, k0, k1, k2, k3, k4, k5, k6, k7, k8⟩ := hr.res
  go_wp2_with fail
  refine bodyPost_ret (v := .tuple #[machZ, .int .i64 1900]) (by simp [results, Tryz.results94, go_sem, r0, r1, r2, r3, r4, r5, r6, r7, r8]) rfl ⟨_, rfl, OwnA.zero _ _, ?_⟩
  exact hl.put9 (c := Cfg.zero) (by omega) slZ slZ slZ slZ
set_option maxRecDepth 8000 in
set_option maxHeartbeats 8000000 in
theorem rmClaim7 (v : Value) (M : Mc) (t : Int) (w : World) (hx : HasM w v M) (hf : FitM M) (h1 : thereB M 0 0 t = true) (h2 : (M.th t).b ≠ []) (h3 : (M.th t).st = 7) : Calls Tryz.prog 94 #[v, .int .i64 t] w fun e w' => ∃ v', e = .returned (.tuple #[v', .int .i64 (claimM M t).2]) ∧ OwnA w' w.heap.size v' (claimM M t).1 ∧ Le w w' := by
 obtain ⟨N, e9, hN⟩ : ∃ N e9, claimM M t = (N, e9) := ⟨_, _, rfl⟩
 have HNN : Hid ((¬ (M.th t).pl < (M.th t).b.length → N = Mc.zero ∧ e9 = 1900) ∧ ((M.th t).pl < (M.th t).b.length → ¬ (pubM M t).2 = 0 → N = Mc.zero ∧ e9 = 1900) ∧
     ((M.th t).pl < (M.th t).b.length → (pubM M t).2 = 0 → N = (M.putR (M.th t).lg (pubM M t).1).putT t { M.th t with pl := (M.th t).pl + 1, st := if (M.th t).pl + 1 = (M.th t).b.length then 8 else 7 } ∧ e9 = 0)) := by
   have h := hN
   unfold claimM at h
   rw [if_pos (by rw [h1, decide_eq_true h2]; rfl), if_neg (by omega), if_neg (by omega), if_neg (by omega), if_pos h3] at h
   refine ⟨fun h4 => ?_, fun h4 h5 => ?_, fun h4 h5 => ?_⟩
   ·rw [if_neg (fun h => h4 h.1)] at h; simp only [Prod.mk.injEq] at h; exact ⟨h.1.symm, h.2.symm⟩
   ·rw [if_neg (fun h => h5 h.2)] at h; simp only [Prod.mk.injEq] at h; exact ⟨h.1.symm, h.2.symm⟩
   ·rw [if_pos ⟨h4, h5⟩] at h; simp only [Prod.mk.injEq] at h; exact ⟨h.1.symm, h.2.symm⟩
 rw [hN]
 clear hN
 have m1 := fun w' (l : Le w w') => rmThere v M 0 0 t w' (hx.le l) hf
 obtain ⟨hmay, _, _, ⟨t0, t1⟩⟩ := thereB_cases h1
 obtain ⟨hrs, hps, hts, _⟩ := mayM_lens hmay
 obtain ⟨_, ⟨r2, r3⟩, ⟨_, l3⟩, ⟨t2, t3⟩, _, _⟩ := Cfg.ok_cases (mayM_ok hmay)
 obtain ⟨t, rfl⟩ : ∃ n : Nat, t = n := ⟨t.toNat, by omega⟩
 have hti : t < M.ts.length := by omega
 have hti' : (t : Int) < (M.ts.length : Int) := by omega
 have m2 := fun w' (l : Le w w') => rmCopyA (rfl : M = M) v w' (hx.le l) hf; have HTH : Hid _ := thB_cases (Mc.th_may hmay hti); have HTS : Hid ((M.ts.length : Int) = M.c.t) := hts
 obtain ⟨_, _, ⟨g0, g1⟩, _, hbl, _, _, _, _⟩ := thB_cases (Mc.th_may hmay hti)
 obtain ⟨g, hg⟩ : ∃ n : Nat, (M.th t).lg = n := ⟨(M.th t).lg.toNat, by omega⟩
 have hgi : g < M.rs.length := by omega
 have hgi' : (g : Int) < (M.rs.length : Int) := by omega
 obtain ⟨hRm, hRl, _, _⟩ := ringB_cases (Mc.rg_may hmay hgi)
 obtain ⟨rh0, rht, rt1, _⟩ := mayR_nums hRm
 have hRs := mayR_len hRm
 obtain ⟨bR, oR, cR, bP, oP, cP, bT, oT, cT, qH, rfl, hcR, _, hcT, _⟩ := hx.opens hmay
 obtain ⟨⟨b0, b1, b2⟩, qt, hat, hbb, _⟩ := hcT t hti
 obtain ⟨⟨s0, s1, s2⟩, hatR, hss⟩ := hcR g hgi
 have hb1 := has_len hbb
 have hs1 := hss.len
 rw [← Mc.th_nat] at hat hb1
 rw [← Mc.rg_nat] at hatR hs1 hss
 simp only [h1] at m1
 have hlg0 := hg
 obtain ⟨T, hT⟩ : ∃ T, T = M.th t := ⟨_, rfl⟩
 obtain ⟨R, hR⟩ : ∃ R, R = M.rg g := ⟨_, rfl⟩
 rw [← hT] at h2 h3 hg hat hb1 hbl
 rw [← hR] at hatR hs1 hss rh0 rht rt1 hRs
 have HT : Hid (T = M.th t) := hT
 have HR : Hid (R = M.rg g) := hR
 clear hT hR
 obtain ⟨tst, tc, tr, ta, tlg, tsn, tb, tpl, tpo, tre, tan, ttl⟩ := T
 obtain ⟨rh, rt, rf, rss⟩ := R
 simp only at h2 h3 hg hb1 hs1 hbl rh0 rht rt1 hRs
 subst h3 hg
 rw [← hb1] at hbl
 rw [← hs1] at hRs
 have hb0 : ((b1 : Int) == 0) = false := by have : b1 ≠ 0 := fun e => h2 (List.length_eq_zero_iff.1 (by omega)); simp; omega
 have hb1' : (0 : Int) < (b1 : Int) := by have : b1 ≠ 0 := fun e => h2 (List.length_eq_zero_iff.1 (by omega)); omega
 have HB1 : Hid (b1 = tb.length) := hb1
 have HS1 : Hid (s1 = rss.length) := hs1
 have HLG : Hid ((M.th t).lg = g) := hlg0
 have hbb9 := hbb
 have hcT9 := hcT
 clear h1 h2 hb1 hs1 hmay hrs hps hts hRm hRl hbb hcT hcR
 have hr := Box.new (w.alloc (.cells (cells9 M.c (some ⟨bR, oR, none⟩, M.rs.length, cR) (some ⟨bP, oP, none⟩, M.ps.length, cP) (some ⟨bT, oT, none⟩, M.ts.length, cT) qH) 29)) cellsZ9 29
 have hb := (Box.new w (cells9 M.c (some ⟨bR, oR, none⟩, M.rs.length, cR) (some ⟨bP, oP, none⟩, M.ps.length, cP) (some ⟨bT, oT, none⟩, M.ts.length, cT) qH) 29).le (Le.alloc _ (.cells cellsZ9 29))
 have hl := (Le.alloc w (.cells (cells9 M.c (some ⟨bR, oR, none⟩, M.rs.length, cR) (some ⟨bP, oP, none⟩, M.ps.length, cP) (some ⟨bT, oT, none⟩, M.ts.length, cT) qH) 29)).trans (Le.alloc _ (.cells cellsZ9 29))
 rw [World.size_alloc] at hr
 go_enter Tryz.func94, Tryz.ntmps94
 go_upto_region 1 with fail
 generalize hW : (w.alloc (.cells (cells9 M.c (some ⟨bR, oR, none⟩, M.rs.length, cR) (some ⟨bP, oP, none⟩, M.ps.length, cP) (some ⟨bT, oT, none⟩, M.ts.length, cT) qH) 29)).alloc (.cells cellsZ9 29) = W at hl hb hr ⊢
 clear hW
 have hgr := hr.lt
 obtain ⟨⟨z0, z1, z2, z3, z4⟩, z5, z6, z7, z8⟩ := (hb).mach
 go_wp2_with fail
 refine (m1 _ hl).mono ?_
 rintro e w1 ⟨rfl, l1⟩
 clear z0 z1 z2 z3 z4 z5 z6 z7 z8
 clear m1
 replace hb := hb.le l1
 replace hl := hl.trans l1
 have hgr := Nat.lt_of_lt_of_le hgr l1.size
 replace hr := hr.le l1
 clear l1
 obtain ⟨x0, x1, x2, x3, x4, x5, x6, x7, x8, x9, x10, x11⟩ := hat.le hl
 obtain ⟨p0, p1, p2, p3⟩ := hatR.le hl
 obtain ⟨⟨z0, z1, z2, z3, z4⟩, z5, z6, z7, z8⟩ := (hb).mach
 simp only [slV] at z5 z7
 have bx := Box.new w1 (cellsT ⟨7, tc, tr, ta, (g : Int), tsn, tb, tpl, tpo, tre, tan, ttl⟩ (b0, b1, b2) qt) 59
 have a1 := Le.alloc w1 (.cells (cellsT ⟨7, tc, tr, ta, (g : Int), tsn, tb, tpl, tpo, tre, tan, ttl⟩ (b0, b1, b2) qt) 59)
 go_upto_region 4 with fail
 generalize hW1 : w1.alloc (.cells (cellsT ⟨7, tc, tr, ta, (g : Int), tsn, tb, tpl, tpo, tre, tan, ttl⟩ (b0, b1, b2) qt) 59) = W2 at bx a1 ⊢
 clear hW1
 have hgbx : w1.heap.size ≤ w1.heap.size := Nat.le_refl _
 generalize hgg : w1.heap.size = gbx at bx hgbx ⊢
 have hsbx : w1.heap.size ≤ gbx := by omega
 clear hgg hgbx
 have hgr := Nat.lt_of_lt_of_le hgr a1.size
 replace hl := hl.trans a1
 replace hb := hb.le a1
 replace hr := hr.le a1
 clear a1 x0 x1 x2 x3 x4 x5 x6 x7 x8 x9 x10 x11 p0 p1 p2 p3
 clear z0 z1 z2 z3 z4 z5 z6 z7 z8
 obtain ⟨p0, p1, p2, p3⟩ := hatR.le hl
 obtain ⟨⟨z0, z1, z2, z3, z4⟩, z5, z6, z7, z8⟩ := (hb).mach
 obtain ⟨x0, x1, x2, x3, x4, x5, x6, x7, x8, x9, x10, x11⟩ := bx.th
 simp only [slV] at z5 z7
 have bq := Box.new W2 (cellsR rh rt rf (s0, s1, s2)) 55
 have a1 := Le.alloc W2 (.cells (cellsR rh rt rf (s0, s1, s2)) 55)
 go_upto_region 5 with fail
 generalize hW1 : W2.alloc (.cells (cellsR rh rt rf (s0, s1, s2)) 55) = W3 at bq a1 ⊢
 clear hW1
 have hgbq : W2.heap.size ≤ W2.heap.size := Nat.le_refl _
 generalize hgg : W2.heap.size = gbq at bq hgbq ⊢
 have hsbq : W2.heap.size ≤ gbq := by omega
 clear hgg hgbq
 have hgr := Nat.lt_of_lt_of_le hgr a1.size
 replace hl := hl.trans a1
 replace hb := hb.le a1
 replace hr := hr.le a1
 replace bx := bx.le a1
 clear a1 x0 x1 x2 x3 x4 x5 x6 x7 x8 x9 x10 x11 p0 p1 p2 p3
 clear z0 z1 z2 z3 z4 z5 z6 z7 z8
 obtain ⟨x0, x1, x2, x3, x4, x5, x6, x7, x8, x9, x10, x11⟩ := bx.th
 obtain ⟨p0, p1, p2, p3, _, _, _, _⟩ := bq.ring
 have hth := HTH.out
 rw [← HT.out] at hth
 simp only at hth
 obtain ⟨_, _, _, ⟨sn0, sn1⟩, _, hbm, ⟨pl0, _⟩, _, _⟩ := hth
 obtain ⟨j, rfl⟩ : ∃ j : Nat, tpl = j := ⟨tpl.toNat, by omega⟩
 have hfs : rss.length * 40 ≤ 140737488351232 := by have := HS1.out; omega
 by_cases hpk : j < b1
 ·have hpk' : (j : Int) < (b1 : Int) := by omega
  have hj0 : (0 : Int) ≤ (j : Int) := by omega
  have hjt : j < tb.length := by have := HB1.out; omega
  obtain ⟨u, hu, hu1⟩ : ∃ u : Nat, tb.getD j 0 = u ∧ (u : Int) ≤ M.c.t - 1 := by
    have := hbm (tb.getD j 0) (getD_mem hjt)
    exact ⟨(tb.getD j 0).toNat, by omega, by omega⟩
  have hui : u < M.ts.length := by have := HTS.out; omega
  have hui' : (u : Int) < (M.ts.length : Int) := by omega
  have hu0 : (0 : Int) ≤ (u : Int) := by omega
  obtain ⟨uc, huc⟩ : ∃ x, x = (M.th u).c := ⟨_, rfl⟩
  obtain ⟨ur, hur⟩ : ∃ x, x = (M.th u).r := ⟨_, rfl⟩
  obtain ⟨ua, hua⟩ : ∃ x, x = (M.th u).a := ⟨_, rfl⟩
  obtain ⟨nh, nt, nf, nss, ner, hres⟩ : ∃ nh nt nf nss ner, publishS ⟨rh, rt, rf, rss⟩ (tsn + (j : Int)) uc ur ua u = (⟨nh, nt, nf, nss⟩, ner) := ⟨_, _, _, _, _, rfl⟩
  have hpub : pubM M t = (⟨nh, nt, nf, nss⟩, ner) := by
    have hw : M.who t = u := by unfold Mc.who; rw [← HT.out]; simp only [Int.toNat_natCast]; exact hu
    unfold pubM
    rw [hw, HLG.out, ← HR.out, ← HT.out, ← huc, ← hur, ← hua]
    exact hres
  have HPL : Hid ((M.th t).pl = j ∧ ((M.th t).b.length : Int) = b1) := by show _ ∧ _; rw [← HT.out]; exact ⟨rfl, by show (tb.length : Int) = b1; have := HB1.out; omega⟩
  have HN1 : Hid ((¬ ner = 0 → N = Mc.zero ∧ e9 = 1900) ∧ (ner = 0 → N = (M.putR g ⟨nh, nt, nf, nss⟩).putT t ⟨if (j : Int) + 1 = b1 then 8 else 7, tc, tr, ta, g, tsn, tb, (j : Int) + 1, tpo, tre, tan, ttl⟩ ∧ e9 = 0)) := by
    have h5 : (M.th t).pl < (M.th t).b.length := by have := HPL.out; omega
    have a := HNN.out.2.1 h5
    have b := HNN.out.2.2 h5
    rw [hpub] at a b
    refine ⟨a, fun h => ?_⟩
    have c := b h
    rw [HLG.out, HPL.out.1, HPL.out.2] at c
    rw [← HT.out] at c
    exact c
  obtain ⟨qbu, qtu, hatU, _, _⟩ := hcT9 u hui
  rw [← Mc.th_nat] at hatU
  obtain ⟨_, u1, u2, u3, _⟩ := hatU
  rw [← huc] at u1
  rw [← hur] at u2
  rw [← hua] at u3
  have hbb8 : Has w (slV (b0, b1, b2)) tb := by have := hbb9; rw [← Mc.th_nat, ← HT.out] at this; exact this
  obtain ⟨bB, oB, nB, cB, hq, hjn, xB⟩ := hbb8.at hjt
  simp only [Prod.mk.injEq] at hq
  obtain ⟨rfl, rfl, rfl⟩ := hq
  rw [hu] at xB
  have m4 := fun w' (l : Le w w') => refPublishAs hres hfs (s0, s1, s2) w' (hss.le l)
  have hwr : IntKind.i64.wrap (tsn + (j : Int)) = tsn + (j : Int) := by rw [IntKind.wrap_i64]; omega
  have hj4 : (j : Int) < 4 := by omega
  clear hcT9 hbb9 hbb8 HNN hpub huc hur hua hres hu hu1 hjt hss hui hbm
  have xB' := cell_le xB hl
  obtain ⟨u1', u2', u3'⟩ : _ ∧ _ ∧ _ := ⟨cell_le u1 hl, cell_le u2 hl, cell_le u3 hl⟩
  obtain ⟨⟨z0, z1, z2, z3, z4⟩, z5, z6, z7, z8⟩ := (hb).mach
  simp only [slV] at z7 x6 p3
  go_upto_region 29 with fail
  clear xB'
  have nbgbq : ¬ W3.heap.size = gbq := by have h : gbq < W3.heap.size := World.block_lt_of_cell? W3 _ p0; omega
  have nbgbx : ¬ W3.heap.size = gbx := by have h : gbx < W3.heap.size := World.block_lt_of_cell? W3 _ x5; omega
  have nbbT : ¬ W3.heap.size = bT := by have h : bT < W3.heap.size := World.block_lt_of_cell? W3 _ u1'; omega
  have nbw : ¬ W3.heap.size = w.heap.size := by have := hb.lt; omega
  go_region_held3 (fun w' => w'.cell? ⟨w.heap.size, 7, none⟩ = some (.slice (some ⟨bT, oT, none⟩) M.ts.length cT) ∧ w'.cell? ⟨gbq, 0, none⟩ = some (.int .i64 rh) ∧ w'.cell? ⟨gbq, 1, none⟩ = some (.int .i64 rt) ∧ w'.cell? ⟨gbq, 2, none⟩ = some (.int .i64 rf) ∧ w'.cell? ⟨gbq, 3, none⟩ = some (.slice s0 s1 s2) ∧ w'.cell? ⟨gbx, 5, none⟩ = some (.int .i64 tsn) ∧ w'.cell? ⟨gbx, 7, none⟩ = some (.int .i64 (j : Int)) ∧ w'.cell? ⟨bT, oT + u * 12 + 1, none⟩ = some (.int .i64 uc) ∧ w'.cell? ⟨bT, oT + u * 12 + 2, none⟩ = some (.int .i64 ur) ∧ w'.cell? ⟨bT, oT + u * 12 + 3, none⟩ = some (.int .i64 ua)) (go_keep) (first
    | (go_at_call 124; refine (m4 _ (hl.trans (Le.drew W3))).mono ?_; rintro e w8 ⟨qn, rfl, on, l5⟩; have l6 := (Le.drew W3).trans l5; have l7 := hl.trans l6; have u1'' := cell_le u1 l7; have u2'' := cell_le u2 l7; have u3'' := cell_le u3 l7; have hb' := hb.le l6; obtain ⟨_, _, _, z7', _⟩ := hb'.mach; have bq' := bq.le l6; obtain ⟨p0', p1', p2', p3', _, _, _, _⟩ := bq'.ring; have bx' := bx.le l6; obtain ⟨_, _, _, _, _, x5', _, x7', _, _, _, _⟩ := bx'.th; simp only [slV] at z7' p3')
    | (go_at_call 124; refine (m4 _ (hl.trans ((Le.alloc W3 (.cells #[.int .i64 0, .int .i64 0, .int .i64 0, .slice none 0 0] 55)).trans (Le.drew _)))).mono ?_; rintro e w8 ⟨qn, rfl, on, l5⟩; have l6 := ((Le.alloc W3 (.cells #[.int .i64 0, .int .i64 0, .int .i64 0, .slice none 0 0] 55)).trans (Le.drew _)).trans l5; have l7 := hl.trans l6; have u1'' := cell_le u1 l7; have u2'' := cell_le u2 l7; have u3'' := cell_le u3 l7; have hb' := hb.le l6; obtain ⟨_, _, _, z7', _⟩ := hb'.mach; have bq' := bq.le l6; obtain ⟨p0', p1', p2', p3', _, _, _, _⟩ := bq'.ring; have bx' := bx.le l6; obtain ⟨_, _, _, _, _, x5', _, x7', _, _, _, _⟩ := bx'.th; simp only [slV] at z7' p3'; have hbz : Box w8 W3.heap.size #[.int .i64 0, .int .i64 0, .int .i64 0, .slice none 0 0] 55 := ((Box.new W3 #[.int .i64 0, .int .i64 0, .int .i64 0, .slice none 0 0] 55).le (Le.drew _)).le l5; obtain ⟨hz0, hz1, hz2, hz3, fz0, fz1, fz2, fz3⟩ := Box.ring hbz))
  all_goals first
    | (have bn : Box ((((w8.setCell ⟨W3.heap.size, 0, none⟩ (.int .i64 nh)).setCell ⟨W3.heap.size, 1, none⟩ (.int .i64 nt)).setCell ⟨W3.heap.size, 2, none⟩ (.int .i64 nf)).setCell ⟨W3.heap.size, 3, none⟩ (slV qn)) W3.heap.size (cellsR nh nt nf qn) 55 := ((((hbz.set 0 (.int .i64 nh)).set 1 (.int .i64 nt)).set 2 (.int .i64 nf)).set 3 (slV qn))
       have hgn := Nat.le_refl W3.heap.size
       have on2 := ((((on.base ((Le.alloc W3 (.cells #[.int .i64 0, .int .i64 0, .int .i64 0, .slice none 0 0] 55)).trans (Le.drew _)).size).setBox (i := 0) (u := .int .i64 nh) hbz (by decide)).setBox (i := 1) (u := .int .i64 nt) (hbz.set 0 (.int .i64 nh)) (by decide)).setBox (i := 2) (u := .int .i64 nf) ((hbz.set 0 (.int .i64 nh)).set 1 (.int .i64 nt)) (by decide)).setBox (i := 3) (u := slV qn) (((hbz.set 0 (.int .i64 nh)).set 1 (.int .i64 nt)).set 2 (.int .i64 nf)) (by decide)
       replace l6 : Le W3 ((((w8.setCell ⟨W3.heap.size, 0, none⟩ (.int .i64 nh)).setCell ⟨W3.heap.size, 1, none⟩ (.int .i64 nt)).setCell ⟨W3.heap.size, 2, none⟩ (.int .i64 nf)).setCell ⟨W3.heap.size, 3, none⟩ (slV qn)) := ((((l6.set (i := 0) (u := (.int .i64 nh)) (Nat.le_refl _)).set (i := 1) (u := (.int .i64 nt)) (Nat.le_refl _)).set (i := 2) (u := (.int .i64 nf)) (Nat.le_refl _)).set (i := 3) (u := (slV qn)) (Nat.le_refl _))
       clear l5 hbz hz0 hz1 hz2 hz3 fz0 fz1 fz2 fz3
       clear u1'' u2'' u3'' hb' z7' bq' p0' p1' p2' p3' bx' x5' x7' l7 on
       generalize hWn : ((((w8.setCell ⟨W3.heap.size, 0, none⟩ (.int .i64 nh)).setCell ⟨W3.heap.size, 1, none⟩ (.int .i64 nt)).setCell ⟨W3.heap.size, 2, none⟩ (.int .i64 nf)).setCell ⟨W3.heap.size, 3, none⟩ (slV qn)) = W4 at bn l6 on2 ⊢
       clear hWn
       generalize hgg : W3.heap.size = gn at bn ⊢
       replace hgn : W3.heap.size ≤ gn := by omega
       clear hgg
       skip)
    | (have hA := Le.alloc w8 (.cells (cellsR nh nt nf qn) 55)
       have bn := Box.new w8 (cellsR nh nt nf qn) 55
       have hgn : W3.heap.size ≤ w8.heap.size := l6.size
       have on2 := (on.base (Le.drew W3).size).le hA
       replace l6 := l6.trans hA
       clear hA l5
       clear u1'' u2'' u3'' hb' z7' bq' p0' p1' p2' p3' bx' x5' x7' l7 on
       generalize hWn : w8.alloc (.cells (cellsR nh nt nf qn) 55) = W4 at bn l6 on2 ⊢
       clear hWn
       generalize w8.heap.size = gn at bn hgn ⊢
       skip)
  all_goals
    clear x0 x1 x2 x3 x4 x5 x6 x7 x8 x9 x10 x11 p0 p1 p2 p3 u1' u2' u3' m4
    clear z0 z1 z2 z3 z4 z5 z6 z7 z8
    have hW34 := l6.size
    have hgr := Nat.lt_of_lt_of_le hgr l6.size
    replace hl := hl.trans l6
    replace hb := hb.le l6
    replace hr := hr.le l6
    replace bx := bx.le l6
    clear l6 bq
    obtain ⟨_, _, _, _, x4, _, _, x7, _, _, _, _⟩ := bx.th
    by_cases her : ner = 0
    ·obtain ⟨hNN, rfl⟩ := HN1.out.2 her
     have HN2 : Hid _ := hNN
     have hnb : (ner != 0) = false := by simp [her]
     clear hNN HN1 her
     go_upto_region 32 with fail
     clear x4 x7
     have hbx4 := bx.lt
     obtain ⟨⟨z0, z1, z2, z3, z4⟩, z5, z6, z7, z8⟩ := (hb).mach
     go_wp2_with fail
     refine (m2 _ hl).mono ?_
     rintro e w9 ⟨_, rfl, ⟨L, rfl, HM, o1, ap⟩, l1⟩
     clear z0 z1 z2 z3 z4 z5 z6 z7 z8
     clear m2
     have hbo := Box.new w9 (cells9 L.c L.qR L.qP L.qT L.qH) 29
     have a1 := Le.alloc w9 (.cells (cells9 L.c L.qR L.qP L.qT L.qH) 29)
     go_upto_region 33 with fail
     generalize hW1 : w9.alloc (.cells (cells9 L.c L.qR L.qP L.qT L.qH) 29) = W5 at hbo a1 ⊢
     clear hW1
     have I : MoI W4.heap.size w9.heap.size W5 L := ⟨hbo, l1.size, o1.le a1, ap⟩
     have hgo : W4.heap.size ≤ w9.heap.size := l1.size
     generalize w9.heap.size = go at hbo I hgo ⊢
     have l01 := l1.trans a1
     clear hbo o1 ap l1 a1
     obtain ⟨c', uR, uP, uT, uH, xR, xP, xT, xH⟩ := L
     try simp only at I ⊢
     replace hr := hr.le l01
     replace hb := hb.le l01
     have hlB : w.heap.size ≤ W4.heap.size := hl.size
     replace bx := bx.le l01
     replace bn := bn.le l01
     have hon := fun c (e : (slV qn).ownBlock = some c) => (on2.block e).2
     replace on2 := on2.le l01
     have hiT : t < xT.length := by have := lay_ts HM; simp only at this; omega
     have hiT' : (t : Int) < (xT.length : Int) := by omega
     obtain ⟨gT, capT, hqT, hcapT, hgBT, hgltT, hgneT, hatT, hfzT⟩ := I.openT hiT
     try simp only at hqT hatT hcapT
     subst hqT
     have hiR : g < xR.length := by have := lay_rs HM; simp only at this; omega
     have hiR' : (g : Int) < (xR.length : Int) := by omega
     obtain ⟨gR, capR, hqR, hcapR, hgBR, hgltR, hgneR, hatR, hfzR⟩ := I.openR hiR
     try simp only at hqR hatR hcapR
     subst hqR
     have I2 := (I.base hW34).setRA (i := g) rfl hiR ⟨⟨nh, nt, nf, nss⟩, qn⟩ on2 (I.ap.setRold I.own hiR hon)
     have HM2 := lay_setR HM g ⟨⟨nh, nt, nf, nss⟩, qn⟩
     replace I2 : MoI W3.heap.size go ((((W5.setCell ⟨gR, g * 4, none⟩ (.int .i64 nh)).setCell ⟨gR, g * 4 + 1, none⟩ (.int .i64 nt)).setCell ⟨gR, g * 4 + 2, none⟩ (.int .i64 nf)).setCell ⟨gR, g * 4 + 3, none⟩ (slV qn)) ⟨c', (some ⟨gR, 0, none⟩, xR.length, capR), uP, (some ⟨gT, 0, none⟩, xT.length, capT), uH, xR.set g ⟨⟨nh, nt, nf, nss⟩, qn⟩, xP, xT, xH⟩ := I2
     have l2 := l01.seto4 (o := g * 4) hgBR (.int .i64 nh) (.int .i64 nt) (.int .i64 nf) (slV qn)
     have hr2 := hr.otherO4 (o := g * 4) (show w.heap.size + 1 ≠ gR by omega) (.int .i64 nh) (.int .i64 nt) (.int .i64 nf) (slV qn)
     have bx2 := bx.otherO4 (o := g * 4) (show gbx ≠ gR by omega) (.int .i64 nh) (.int .i64 nt) (.int .i64 nf) (slV qn)
     obtain ⟨v0, v1, v2, v3⟩ := hatR
     have f0 := hfzR (g * 4)
     have f1 := hfzR (g * 4 + 1)
     have f2 := hfzR (g * 4 + 2)
     have f3 := hfzR (g * 4 + 3)
     obtain ⟨_, _, _, _, x4, _, _, _, _, _, _, _⟩ := bx.th
     obtain ⟨p0, p1, p2, p3, _, _, _, _⟩ := bn.ring
     obtain ⟨⟨y0, y1, y2, y3, y4⟩, y5, y6, y7, y8⟩ := (I.bo).mach
     simp only [slV] at y5
     clear hatT hfzT hfzR hon
     go_upto_region 34 with fail
     generalize hW2 : (((W5.setCell ⟨gR, g * 4, none⟩ (.int .i64 nh)).setCell ⟨gR, g * 4 + 1, none⟩ (.int .i64 nt)).setCell ⟨gR, g * 4 + 2, none⟩ (.int .i64 nf)).setCell ⟨gR, g * 4 + 3, none⟩ (slV qn) = W6 at I2 l2 hr2 bx2 ⊢
     clear hW2 v0 v1 v2 v3 f0 f1 f2 f3 x4 p0 p1 p2 p3 I hr bx bn on2
     clear y0 y1 y2 y3 y4 y5 y6 y7 y8
     obtain ⟨_, _, _, hat2, hfz2⟩ := I2.thAt rfl hiT
     obtain ⟨X, hX⟩ : ∃ X, X = xT.getD t thK.d := ⟨_, rfl⟩
     have HXT : Hid (X.T = ⟨7, tc, tr, ta, (g : Int), tsn, tb, (j : Int), tpo, tre, tan, ttl⟩) := by
       have := lay_th HM hiT
       simp only at this
       rw [hX, this, ← HT.out]
       exact rfl
     have I3 := I2.setTx (j := 7) (u := .int .i64 ((j : Int) + 1)) rfl hiT (by decide) X hX.symm { X.T with pl := (j : Int) + 1 } rfl rfl rfl
     have HM3 := lay_setT HM2 t ⟨{ X.T with pl := (j : Int) + 1 }, X.b, X.t⟩
     simp only at hat2
     rw [← hX, HXT.out] at hat2
     obtain ⟨_, _, _, _, _, _, _, v7, _, _, _, _⟩ := hat2
     have f7 := hfz2 (t * 12 + 7)
     obtain ⟨⟨y0, y1, y2, y3, y4⟩, y5, y6, y7, y8⟩ := (I2.bo).mach
     simp only [slV] at y7
     have l3 := l2.set (i := t * 12 + 7) (u := .int .i64 ((j : Int) + 1)) hgBT
     have hne2 : w.heap.size + 1 ≠ gT := by omega
     have hr3 := hr2.other hne2 (t * 12 + 7) (.int .i64 ((j : Int) + 1))
     have bx3 := bx2.other (show gbx ≠ gT by omega) (t * 12 + 7) (.int .i64 ((j : Int) + 1))
     clear hX hfz2
     go_upto_region 35 with fail
     generalize hW2 : W6.setCell ⟨gT, t * 12 + 7, none⟩ (.int .i64 ((j : Int) + 1)) = W7 at I3 l3 hr3 bx3 ⊢
     clear hW2 v7 f7 I2 hr2 bx2
     clear y0 y1 y2 y3 y4 y5 y6 y7 y8
     obtain ⟨_, _, _, _, _, _, _, x7, _, _, _, _⟩ := bx3.th
     by_cases hlast : (j : Int) + 1 = (b1 : Int)
     ·have hlb : ((j : Int) + 1 == (b1 : Int)) = true := by simp [hlast]
      have HE : Hid (N = (M.putR g ⟨nh, nt, nf, nss⟩).putT t ⟨8, tc, tr, ta, g, tsn, tb, (j : Int) + 1, tpo, tre, tan, ttl⟩) := by have := HN2.out; rw [if_pos hlast] at this; exact this
      have I4 := I3.setTy (j := 0) (u := .int .i64 8) rfl hiT (by decide) { X.T with pl := (j : Int) + 1, st := 8 } rfl rfl rfl
      have HM4 := lay_setT HM2 t ⟨{ X.T with pl := (j : Int) + 1, st := 8 }, X.b, X.t⟩
      obtain ⟨_, _, _, hat3, hfz3⟩ := I3.thAt rfl (by rw [List.length_set]; exact hiT)
      have q0 := hat3.1
      have f0 := hfz3 (t * 12)
      have l4 := l3.set (i := t * 12 + 0) (u := .int .i64 8) hgBT
      have hr4 := hr3.other hne2 (t * 12 + 0) (.int .i64 8)
      obtain ⟨⟨y0, y1, y2, y3, y4⟩, y5, y6, y7, y8⟩ := (I3.bo).mach
      simp only [slV] at y7
      clear hlast hat3 hfz3
      go_upto_region 37 with fail
      generalize hW2 : W7.setCell ⟨gT, t * 12 + 0, none⟩ (.int .i64 8) = W8 at I4 l4 hr4 ⊢
      clear hW2 q0 f0 x7 I3 hr3 bx3
      clear y0 y1 y2 y3 y4 y5 y6 y7 y8
      obtain ⟨⟨y0, y1, y2, y3, y4⟩, y5, y6, y7, y8⟩ := (I4.bo).mach
      obtain ⟨⟨r0, r1, r2, r3, r4, r5, r6, r7, r8⟩, k0, k1, k2, k3, k4, k5, k6, k7, k8⟩ := hr4.res
      go_wp2_with fail
      refine bodyPost_ret (v := .tuple #[machV c' (some ⟨gR, 0, none⟩, xR.length, capR) uP (some ⟨gT, 0, none⟩, xT.length, capT) uH, .int .i64 0]) (by simp [results, Tryz.results94, go_sem, r0, r1, r2, r3, r4, r5, r6, r7, r8]) rfl ⟨_, rfl, ?_, (hl.trans l4).put9 (g := w.heap.size + 1) (by omega) c' (some ⟨gR, 0, none⟩, xR.length, capR) uP (some ⟨gT, 0, none⟩, xT.length, capT) uH⟩
      have := (I4.ret hr4).base (show w.heap.size ≤ W3.heap.size by omega)
      rw [HM4] at this
      rw [HE.out]
      simp only [HXT.out] at this
      exact this
     ·have hlb : ((j : Int) + 1 == (b1 : Int)) = false := by simp [hlast]
      have HE : Hid (N = (M.putR g ⟨nh, nt, nf, nss⟩).putT t ⟨7, tc, tr, ta, g, tsn, tb, (j : Int) + 1, tpo, tre, tan, ttl⟩) := by have := HN2.out; rw [if_neg hlast] at this; exact this
      clear hlast
      obtain ⟨⟨y0, y1, y2, y3, y4⟩, y5, y6, y7, y8⟩ := (I3.bo).mach
      obtain ⟨⟨r0, r1, r2, r3, r4, r5, r6, r7, r8⟩, k0, k1, k2, k3, k4, k5, k6, k7, k8⟩ := hr3.res
      go_wp2_with fail
      refine bodyPost_ret (v := .tuple #[machV c' (some ⟨gR, 0, none⟩, xR.length, capR) uP (some ⟨gT, 0, none⟩, xT.length, capT) uH, .int .i64 0]) (by simp [results, Tryz.results94, go_sem, r0, r1, r2, r3, r4, r5, r6, r7, r8]) rfl ⟨_, rfl, ?_, (hl.trans l3).put9 (g := w.heap.size + 1) (by omega) c' (some ⟨gR, 0, none⟩, xR.length, capR) uP (some ⟨gT, 0, none⟩, xT.length, capT) uH⟩
      have := (I3.ret hr3).base (show w.heap.size ≤ W3.heap.size by omega)
      rw [HM3] at this
      rw [HE.out]
      simp only [HXT.out] at this
      exact this
    ·obtain ⟨rfl, rfl⟩ := HN1.out.1 her
     have hnb : (ner != 0) = true := by simp [her]
     clear HN1 her
     obtain ⟨⟨r0, r1, r2, r3, r4, r5, r6, r7, r8⟩, k0, k1, k2, k3, k4, k5, k6, k7, k8⟩ := hr.res
     go_wp2_with fail
     refine bodyPost_ret (v := .tuple #[machZ, .int .i64 1900]) (by simp [results, Tryz.results94, go_sem, r0, r1, r2, r3, r4, r5, r6, r7, r8]) rfl ⟨_, rfl, OwnA.zero _ _, ?_⟩
     exact hl.put9 (c := Cfg.zero) (by omega) slZ slZ slZ slZ
 ·have hpk' : (b1 : Int) ≤ (j : Int) := by omega
  have hpl : (M.th t).pl = j ∧ ((M.th t).b.length : Int) = b1 := by rw [← HT.out]; exact ⟨rfl, by show (tb.length : Int) = b1; have := HB1.out; omega⟩
  obtain ⟨rfl, rfl⟩ := HNN.out.1 (by omega)
  clear HNN hpl hcT9 hbb9 hss
  obtain ⟨⟨r0, r1, r2, r3, r4, r5, r6, r7, r8⟩, k0, k1, k2, k3, k4, k5, k6, k7, k8⟩ := hr.res
  go_wp2_with fail
  refine bodyPost_ret (v := .tuple #[machZ, .int .i64 1900]) (by simp [results, Tryz.results94, go_sem, r0, r1, r2, r3, r4, r5, r6, r7, r8]) rfl ⟨_, rfl, OwnA.zero _ _, ?_⟩
  exact hl.put9 (c := Cfg.zero) (by omega) slZ slZ slZ slZ
theorem rmClaim (v : Value) (M : Mc) (t : Int) (w : World) (hx : HasM w v M) (hf : FitM M) : Calls Tryz.prog 94 #[v, .int .i64 t] w fun e w' => ∃ v', e = .returned (.tuple #[v', .int .i64 (claimM M t).2]) ∧ OwnA w' w.heap.size v' (claimM M t).1 ∧ Le w w' := by
 cases h : (thereB M 0 0 t && decide ((M.th t).b ≠ []))
 ·have e : claimM M t = (Mc.zero, 1900) := by unfold claimM; rw [if_neg (by rw [h]; decide)]
  rw [e]
  exact rmClaim0 v M t w hx hf h
 have h0 := h
 simp only [Bool.and_eq_true, decide_eq_true_eq] at h
 obtain ⟨h1, h2⟩ := h
 by_cases s4 : (M.th t).st = 4
 ·by_cases hz : (M.rg (M.th t).lg).f = 0
  ·have e : claimM M t = (M.putT t { M.th t with sn := (M.rg (M.th t).lg).t, st := if (M.rg (M.th t).lg).h + (M.rg (M.th t).lg).ss.length < (M.rg (M.th t).lg).t + (M.th t).b.length then 5 else 6 }, 0) := by unfold claimM; rw [if_pos h0, if_pos s4, if_pos hz]
   rw [e]
   exact rmClaim4 v M t w hx hf h1 h2 s4 hz
  ·have e : claimM M t = (replM M (M.home t) (M.th t).lg, 0) := by unfold claimM; rw [if_pos h0, if_pos s4, if_neg hz]
   rw [e]
   exact rmClaim4f v M t w hx hf h1 h2 s4 hz
 by_cases s5 : (M.th t).st = 5
 ·have e : claimM M t = (roomM M t, 0) := by unfold claimM; rw [if_pos h0, if_neg s4, if_pos s5]
  rw [e]
  exact rmClaim5 v M t w hx hf h1 h2 s5
 by_cases s6 : (M.th t).st = 6
 ·by_cases hz : (M.rg (M.th t).lg).t = (M.th t).sn ∧ (reserveS (M.rg (M.th t).lg) (M.th t).b.length).2.2 = 0
  ·have e : claimM M t = ((M.putR (M.th t).lg (reserveS (M.rg (M.th t).lg) (M.th t).b.length).1).putT t { M.th t with st := 7, pl := 0 }, 0) := by unfold claimM; rw [if_pos h0, if_neg s4, if_neg s5, if_pos s6, if_pos hz]
   rw [e]
   exact rmClaim6 v M t w hx hf h1 h2 s6 hz.1 hz.2
  ·have e : claimM M t = (stepM M t 4, 0) := by unfold claimM; rw [if_pos h0, if_neg s4, if_neg s5, if_pos s6, if_neg hz]
   rw [e]
   exact rmClaim6n v M t w hx hf h1 h2 s6 hz
 by_cases s7 : (M.th t).st = 7
 ·exact rmClaim7 v M t w hx hf h1 h2 s7
 ·have e : claimM M t = (Mc.zero, 1900) := by unfold claimM; rw [if_pos h0, if_neg s4, if_neg s5, if_neg s6, if_neg s7]
  rw [e]
  exact rmClaimX v M t _ w hx hf h1 h2 rfl ⟨s4, s5, s6, s7⟩
end Go.Proofs.YtepplhbajmlbpaaGreat
