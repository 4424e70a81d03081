/-
  PARTS LAID TOGETHER, each with its own opening: MpA, MpB, LmD, MpC, MpD, MoD, LkA, BoA, ElA, BtA, BtD, BtB, Hl17, SpS, BtW.
-/
import Derived.Test.YtnemldboiogdkaaGreatCom4
import Derived.Test.YtnemldboiogdkaaGreatCom3
import Derived.Test.YtnemldboiogdkaaGreatCom1
import Derived.Test.YtnemldboiogdkaaGreatCom2
import Derived.Deep.RegionHeld3
import Derived.Deep.Cut
import Derived.BigRegion
/-
  THE WALKS over package lists' Copy at logs, replicas, threads and events, and package machines' copyRing, copyReplica, copyThread: what each answers, in rows of the call's own. Condition: that the rows can be copied.
-/
namespace Go.Proofs.YtnemldboiogdkaaGreat
open Go.RowKit

theorem listsCopyR (v : Value) (xs : List LR) (w : World) (hx : HasE ringK w v xs) (hf : xs.length * 48 ≤ 140737488351232) :
    Calls Tryz.prog 85 #[v] w fun e w' => ∃ q : Sl, e = .returned (slV q) ∧ OwnE ringK w' w.heap.size (slV q) xs ∧ Le w w' := by
  have hrow : ∀ g, (Value.slice none 0 0).ownBlock = some g → w.heap.size ≤ g := by intro g hg; cases hg
  go_enter Tryz.func85, Tryz.ntmps85
  go_wp2_with (at_builtin; refine wp_append_E ringIn rfl _ _ rfl w.heap.size _ _ [] xs rfl rfl (OwnE.nil _ _ _) hx (by show (([] : List LR).length + xs.length) * 48 ≤ _; simp; omega) (by simp; omega) (by simp) ?_; intro v' w2 hown hgrow _; rw [List.nil_append] at hown; have l2 : Le w w2 := Below.grown (Le.refl w) hgrow (by simp) hrow; obtain ⟨q, rfl⟩ := hown.has.sl)
  go_ret
  exact ⟨q, rfl, hown, l2⟩

theorem listsCopyP (v : Value) (xs : List LP) (w : World) (hx : HasE repK w v xs) (hf : xs.length * 144 ≤ 140737488351232) :
    Calls Tryz.prog 87 #[v] w fun e w' => ∃ q : Sl, e = .returned (slV q) ∧ OwnE repK w' w.heap.size (slV q) xs ∧ Le w w' := by
  have hrow : ∀ g, (Value.slice none 0 0).ownBlock = some g → w.heap.size ≤ g := by intro g hg; cases hg
  go_enter Tryz.func87, Tryz.ntmps87
  go_wp2_with (at_builtin; refine wp_append_E repIn rfl _ _ rfl w.heap.size _ _ [] xs rfl rfl (OwnE.nil _ _ _) hx (by show (([] : List LP).length + xs.length) * 144 ≤ _; simp; omega) (by simp; omega) (by simp) ?_; intro v' w2 hown hgrow _; rw [List.nil_append] at hown; have l2 : Le w w2 := Below.grown (Le.refl w) hgrow (by simp) hrow; obtain ⟨q, rfl⟩ := hown.has.sl)
  go_ret
  exact ⟨q, rfl, hown, l2⟩

theorem listsCopyT (v : Value) (xs : List LT) (w : World) (hx : HasE thK w v xs) (hf : xs.length * 120 ≤ 140737488351232) :
    Calls Tryz.prog 90 #[v] w fun e w' => ∃ q : Sl, e = .returned (slV q) ∧ OwnE thK w' w.heap.size (slV q) xs ∧ Le w w' := by
  have hrow : ∀ g, (Value.slice none 0 0).ownBlock = some g → w.heap.size ≤ g := by intro g hg; cases hg
  go_enter Tryz.func90, Tryz.ntmps90
  go_wp2_with (at_builtin; refine wp_append_E thIn rfl _ _ rfl w.heap.size _ _ [] xs rfl rfl (OwnE.nil _ _ _) hx (by show (([] : List LT).length + xs.length) * 120 ≤ _; simp; omega) (by simp; omega) (by simp) ?_; intro v' w2 hown hgrow _; rw [List.nil_append] at hown; have l2 : Le w w2 := Below.grown (Le.refl w) hgrow (by simp) hrow; obtain ⟨q, rfl⟩ := hown.has.sl)
  go_ret
  exact ⟨q, rfl, hown, l2⟩

theorem listsCopyE (v : Value) (xs : List Ev) (w : World) (hx : HasE evK w v xs) (hf : xs.length * 48 ≤ 140737488351232) :
    Calls Tryz.prog 51 #[v] w fun e w' => ∃ q : Sl, e = .returned (slV q) ∧ OwnE evK w' w.heap.size (slV q) xs ∧ Le w w' := by
  have hrow : ∀ g, (Value.slice none 0 0).ownBlock = some g → w.heap.size ≤ g := by intro g hg; cases hg
  go_enter Tryz.func51, Tryz.ntmps51
  go_wp2_with (at_builtin; refine wp_append_E evIn rfl _ _ rfl w.heap.size _ _ [] xs rfl rfl (OwnE.nil _ _ _) hx (by show (([] : List Ev).length + xs.length) * 48 ≤ _; simp; omega) (by simp; omega) (by simp) ?_; intro v' w2 hown hgrow _; rw [List.nil_append] at hown; have l2 : Le w w2 := Below.grown (Le.refl w) hgrow (by simp) hrow; obtain ⟨q, rfl⟩ := hown.has.sl)
  go_ret
  exact ⟨q, rfl, hown, l2⟩

theorem machCopyRing (h t f : Int) (q : Sl) (ss : List Slt) (w : World) (hx : HasL w (slV q) ss) (hf : ss.length * 40 ≤ 140737488351232) :
    Calls Tryz.prog 46 #[ringV h t f q] w fun e w' => ∃ u : Sl, e = .returned (ringV h t f u) ∧ OwnL w' w.heap.size (slV u) ss ∧ Le w w' := by
  have hb := (Box.new w (cellsR h t f q) 60).le (Le.alloc _ (.cells (cellsR 0 0 0 slZ) 60))
  have hb2 := Box.new (w.alloc (.cells (cellsR h t f q) 60)) (cellsR 0 0 0 slZ) 60
  rw [World.size_alloc] at hb2
  have hl := (Le.alloc w (.cells (cellsR h t f q) 60)).trans (Le.alloc _ (.cells (cellsR 0 0 0 slZ) 60))
  go_enter Tryz.func46, Tryz.ntmps46
  go_wp2_with fail
  refine (listsCopy _ ss _ (hx.le hl) hf).mono ?_
  rintro e w1 ⟨u, rfl, hown, l1⟩
  have hb' := hb.le l1
  have hb2' := hb2.le l1
  obtain ⟨b0, b1, b2, b3, f0, f1, f2, f3⟩ := hb'.ring
  obtain ⟨p0, p1, p2, p3, g0, g1, g2, g3⟩ := hb2'.ring
  go_wp2
  refine bodyPost_ret (v := ringV h t f u) (by simp [results, Tryz.results46, go_sem, p0, p1, p2, p3]) rfl ⟨u, rfl, ?_, ?_⟩
  · iterate 5 refine OwnL.set ?_ (hown.off (by simp only [World.size_alloc]; omega))
    exact hown.base (by simp only [World.size_alloc]; omega)
  · iterate 5 refine Le.set ?_ (by omega)
    exact hl.trans l1

theorem Own.setNe {w : World} {base g i : Nat} {v u : Value} {xs : List Int} (h : Own w base v xs) (hne : v.ownBlock ≠ some g) : Own (w.setCell ⟨g, i, none⟩ u) base v xs := ownsRow_setCell_other h hne u
theorem Own.offB {w : World} {base g : Nat} {v : Value} {xs : List Int} (h : Own w base v xs) (hg : g < base) : v.ownBlock ≠ some g := fun e => by
  have := (h.block e).1
  omega
abbrev cellsT0 : Array Value := #[.int .i64 0, .int .i64 0, .int .i64 0, .int .i64 0, .int .i64 0, .int .i64 0, .slice none 0 0, .int .i64 0, .bool false, .bool false, .int .i64 0, .slice none 0 0]
theorem Box.setATh {w : World} {g : Nat} {T : Th} {b t q : Sl} {ty : TypeId} (h : Box w g (cellsT T b t) ty) : Box (w.setCell ⟨g, 6, none⟩ (slV q)) g (cellsT T q t) ty := h.setT6
theorem Box.setBTh {w : World} {g : Nat} {T : Th} {b t q : Sl} {ty : TypeId} (h : Box w g (cellsT T b t) ty) : Box (w.setCell ⟨g, 11, none⟩ (slV q)) g (cellsT T b q) ty := h.setT11
theorem Box.setARep {w : World} {g : Nat} {us : Nat → Sl} {b t q : Sl} {ty : TypeId} (h : Box w g (cellsP us b t) ty) : Box (w.setCell ⟨g, 4, none⟩ (slV q)) g (cellsP us q t) ty := h.set 4 (slV q)
theorem Box.setBRep {w : World} {g : Nat} {us : Nat → Sl} {b t q : Sl} {ty : TypeId} (h : Box w g (cellsP us b t) ty) : Box (w.setCell ⟨g, 5, none⟩ (slV q)) g (cellsP us b q) ty := h.set 5 (slV q)

set_option maxRecDepth 4000 in
set_option maxHeartbeats 2000000 in
theorem machCopyThread (T : Th) (qb qt : Sl) (w : World) (hq1 : Has w (slV qb) T.b) (hq2 : Has w (slV qt) T.tl) (hq1f : T.b.length * 8 ≤ 140737488351232) (hq2f : T.tl.length * 8 ≤ 140737488351232) :
    Calls Tryz.prog 50 #[thV T qb qt] w fun e w' => ∃ u1 u2 : Sl, e = .returned (thV T u1 u2) ∧ Own w' w.heap.size (slV u1) T.b ∧ Own w' w.heap.size (slV u2) T.tl ∧ (∀ b, (slV u2).ownBlock = some b → (slV u1).ownBlock ≠ some b) ∧ Le w w' := by
  obtain ⟨g, hg⟩ : ∃ g, w.heap.size = g := ⟨_, rfl⟩
  have hbW := (Box.new w (cellsT T qb qt) 45).le (Le.alloc _ (.cells cellsT0 45))
  have hrW := Box.new (w.alloc (.cells (cellsT T qb qt) 45)) cellsT0 45
  rw [World.size_alloc] at hrW
  have hl := (Le.alloc w (.cells (cellsT T qb qt) 45)).trans (Le.alloc _ (.cells cellsT0 45))
  go_enter Tryz.func50, Tryz.ntmps50
  go_upto_region 1 with fail
  generalize hW : (w.alloc (.cells (cellsT T qb qt) 45)).alloc (.cells cellsT0 45) = W at hl hbW hrW ⊢
  clear hW
  rw [hg] at hbW hrW
  replace hq1 := hq1.le hl
  replace hq2 := hq2.le hl
  have hgr := hrW.lt
  obtain ⟨_, _, _, _, _, _, c6, _, _, _, _, c11⟩ := hbW.th
  refine wp_region_any (by kernel_rfl) ?_
  refine wpAny_grow [] [0, 1, 2, 3, 4, 5, 6] [7, 8, 9] (by decide) (by kernel_rfl) Le (Le.refl _) (fun _ _ _ => Le.trans)
    (fun vs i x => match i with
      | 0 => vs 0 = .pointer (some ⟨g, 6, none⟩)
      | 1 => vs 1 = slV qb
      | 2 => ∃ q, vs 2 = slV q ∧ Own x W.heap.size (slV q) T.b
      | 3 => vs 3 = .pointer (some ⟨g, 11, none⟩)
      | 4 => vs 4 = slV qt
      | 6 => vs 6 = .pointer (some ⟨g, 6, none⟩)
      | _ => ∃ q q', vs 2 = slV q ∧ vs 5 = slV q' ∧ Own x W.heap.size (slV q) T.b ∧ Own x W.heap.size (slV q') T.tl ∧ ∀ b, (slV q').ownBlock = some b → (slV q).ownBlock ≠ some b) ?_ ?_ (by decide) ?_ ?_
  · intro vs i x y hi _ h hxy
    simp only [List.mem_cons, List.not_mem_nil, or_false] at hi
    rcases hi with rfl | rfl | rfl | rfl | rfl | rfl | rfl
    · exact h
    · exact h
    · obtain ⟨q, e, o⟩ := h; exact ⟨q, e, o.le hxy⟩
    · exact h
    · exact h
    · obtain ⟨q, q', e, e', o, o', ap⟩ := h; exact ⟨q, q', e, e', o.le hxy, o'.le hxy, ap⟩
    · exact h
  · intro vs vs' i o x hi _ hk h
    have e := hk i (.inl rfl)
    simp only [List.mem_cons, List.not_mem_nil, or_false] at hi
    rcases hi with rfl | rfl | rfl | rfl | rfl | rfl | rfl
    iterate 5
      · simp only at h ⊢
        rw [← e]
        exact h
    · have e2 := hk 2 (.inr (by kernel_rfl))
      simp only at h ⊢
      rw [← e, ← e2]
      exact h
    · simp only at h ⊢
      rw [← e]
      exact h
  · intro i o hi ho vs x hx hd
    have hx0 := (Le.drew W).trans hx
    simp only [List.mem_cons, List.not_mem_nil, or_false] at hi
    generalize hρ : (putH _ _ _ vs).eval = ρ
    rcases hi with rfl | rfl | rfl | rfl | rfl | rfl | rfl
    · cases ho
      have r1 : ρ (.tmp 1) = .pointer (some ⟨g, 0, none⟩) := by rw [← hρ]; kernel_rfl
      exact gives_value (w' := x) (v := .pointer (some ⟨g, 6, none⟩)) (by simp [go_sem, r1]) ⟨Le.refl _, rfl⟩
    · cases ho
      have r1 : ρ (.tmp 3) = vs 0 := by rw [← hρ]; kernel_rfl
      have d := hd 0 (by decide) (by kernel_rfl)
      simp only at d
      rw [d] at r1
      have y := cell_le c6 hx0
      exact gives_value (w' := x) (v := slV qb) (by simp [go_sem, r1, y]) ⟨Le.refl _, rfl⟩
    · cases ho
      have r1 : ρ (.tmp 4) = vs 1 := by rw [← hρ]; kernel_rfl
      have d := hd 1 (by decide) (by kernel_rfl)
      simp only at d
      rw [d] at r1
      have m := listsCopyI (slV qb) T.b x (hq1.le hx0) hq1f
      refine gives_call (f := 89) (args := #[slV qb]) (by simp [go_sem, r1]; kernel_rfl) (m.mono ?_)
      rintro e x2 ⟨q, rfl, o, gr⟩
      have l2 : Le x x2 := Below.grown (Le.refl x) gr (by simp) (by intro g hg; cases hg)
      exact ⟨_, rfl, l2, q, rfl, o.base hx0.size⟩
    · cases ho
      have r1 : ρ (.tmp 1) = .pointer (some ⟨g, 0, none⟩) := by rw [← hρ]; kernel_rfl
      exact gives_value (w' := x) (v := .pointer (some ⟨g, 11, none⟩)) (by simp [go_sem, r1]) ⟨Le.refl _, rfl⟩
    · cases ho
      have r1 : ρ (.tmp 6) = vs 3 := by rw [← hρ]; kernel_rfl
      have d := hd 3 (by decide) (by kernel_rfl)
      simp only at d
      rw [d] at r1
      have y := cell_le c11 hx0
      exact gives_value (w' := x) (v := slV qt) (by simp [go_sem, r1, y]) ⟨Le.refl _, rfl⟩
    · cases ho
      have r1 : ρ (.tmp 7) = vs 4 := by rw [← hρ]; kernel_rfl
      have d := hd 4 (by decide) (by kernel_rfl)
      have d2 := hd 2 (by decide) (by kernel_rfl)
      simp only at d d2
      obtain ⟨q, e2, o2⟩ := d2
      rw [d] at r1
      have m := listsCopyI (slV qt) T.tl x (hq2.le hx0) hq2f
      refine gives_call (f := 89) (args := #[slV qt]) (by simp [go_sem, r1]; kernel_rfl) (m.mono ?_)
      rintro e x2 ⟨q', rfl, o, gr⟩
      have l2 : Le x x2 := Below.grown (Le.refl x) gr (by simp) (by intro g hg; cases hg)
      refine ⟨_, rfl, l2, q, q', by simp [e2], by simp, o2.le l2, o.base hx0.size, fun b h1 h2 => ?_⟩
      have := (o.block h1).1
      have := (o2.block h2).2
      omega
    · cases ho
      have r1 : ρ (.tmp 1) = .pointer (some ⟨g, 0, none⟩) := by rw [← hρ]; kernel_rfl
      exact gives_value (w' := x) (v := .pointer (some ⟨g, 6, none⟩)) (by simp [go_sem, r1]) ⟨Le.refl _, rfl⟩
  · intro vs x hx hd
    have hx0 := (Le.drew W).trans hx
    have hh := hd 5 (by decide)
    simp only at hh
    replace hh := hh.choose_spec
    generalize Exists.choose _ = q1 at hh
    replace hh := hh.choose_spec
    generalize Exists.choose _ = q2 at hh
    have e1 := hh.1
    have e2 := hh.2.1
    have o1 := hh.2.2.1
    have o2 := hh.2.2.2.1
    have ap := hh.2.2.2.2
    have e6 := hd 6 (by decide)
    simp only at e6
    clear hh hd
    have hbx := hbW.le hx0
    have hrx := hrW.le hx0
    have cA : x.cell? ⟨g, 6, none⟩ = some (slV qb) ∧ x.frozen? ⟨g, 6, none⟩ = false := ⟨cell_le c6 hx0, hbx.frozen _⟩
    have hby := hbx.setATh (q := q1)
    have cB : (x.setCell ⟨g, 6, none⟩ (slV q1)).cell? ⟨g, 11, none⟩ = some (slV qt) ∧ (x.setCell ⟨g, 6, none⟩ (slV q1)).frozen? ⟨g, 11, none⟩ = false := ⟨by rw [hby.cell]; rfl, hby.frozen _⟩
    have hbz := hby.setBTh (q := q2)
    clear hbx
    generalize hf0 : putH _ _ _ vs = fr0
    refine wpSeq_cons rfl ?_
    refine wp_skip_at (w0 := x.setCell ⟨g, 6, none⟩ (slV q1)) ?_ ?_
    · generalize hρ : fr0.eval = ρ
      have r1 : ρ (.tmp 9) = vs 6 := by rw [← hρ, ← hf0]; kernel_rfl
      have r2 : ρ (.tmp 5) = vs 2 := by rw [← hρ, ← hf0]; kernel_rfl
      rw [e1] at r2
      rw [e6] at r1
      simp [go_sem, r1, r2, cA.1, cA.2]
    · generalize hf2 : Act.put fr0 _ _ = fr2
      refine wpSeq_cons rfl ?_
      refine wp_value_at (v0 := .pointer (some ⟨g, 11, none⟩)) (w0 := x.setCell ⟨g, 6, none⟩ (slV q1)) ?_ ?_
      · generalize hρ : fr2.eval = ρ
        have r1 : ρ (.tmp 1) = .pointer (some ⟨g, 0, none⟩) := by rw [← hρ, ← hf2, ← hf0]; kernel_rfl
        simp [go_sem, r1]
      · generalize hf3 : Act.put fr2 _ _ = fr3
        refine wpSeq_cons rfl ?_
        refine wp_skip_at (w0 := (x.setCell ⟨g, 6, none⟩ (slV q1)).setCell ⟨g, 11, none⟩ (slV q2)) ?_ ?_
        · generalize hρ : fr3.eval = ρ
          have r1 : ρ (.tmp 10) = .pointer (some ⟨g, 11, none⟩) := by rw [← hρ, ← hf3, ← hf2, ← hf0]; kernel_rfl
          have r2 : ρ (.tmp 8) = vs 5 := by rw [← hρ, ← hf3, ← hf2, ← hf0]; kernel_rfl
          rw [e2] at r2
          simp [go_sem, r1, r2, cB.1, cB.2]
        · subst hf3 hf2 hf0
          simp only [wpSeq, putH, List.getElem?_cons_succ, List.getElem?_cons_zero, Option.bind_some, Act.put, List.setIfInBounds_toArray, List.set_cons_zero, List.set_cons_succ]
          have l4 : Le w ((x.setCell ⟨g, 6, none⟩ (slV q1)).setCell ⟨g, 11, none⟩ (slV q2)) := Le.set (Le.set (hl.trans hx0) (by omega)) (by omega)
          have o3 : Own ((x.setCell ⟨g, 6, none⟩ (slV q1)).setCell ⟨g, 11, none⟩ (slV q2)) W.heap.size (slV q1) T.b := (o1.setNe (o1.offB (by omega))).setNe (o1.offB (by omega))
          have o4 : Own ((x.setCell ⟨g, 6, none⟩ (slV q1)).setCell ⟨g, 11, none⟩ (slV q2)) W.heap.size (slV q2) T.tl := (o2.setNe (o2.offB (by omega))).setNe (o2.offB (by omega))
          have hrz : Box ((x.setCell ⟨g, 6, none⟩ (slV q1)).setCell ⟨g, 11, none⟩ (slV q2)) (g + 1) cellsT0 45 := (hrx.other (by omega) _ _).other (by omega) _ _
          clear e1 e2 o1 o2 hrx hby cA cB c6 c11 hbW hrW
          generalize (x.setCell ⟨g, 6, none⟩ (slV q1)).setCell ⟨g, 11, none⟩ (slV q2) = w4 at hbz l4 o3 o4 hrz ⊢
          obtain ⟨t0, t1, t2, t3, t4, t5, t6, t7, t8, t9, t10, t11⟩ := hbz.th
          have hk := fun i => hrz.frozen i
          have r0 := hrz.cell 0
          have r1 := hrz.cell 1
          have r2 := hrz.cell 2
          have r3 := hrz.cell 3
          have r4 := hrz.cell 4
          have r5 := hrz.cell 5
          have r6 := hrz.cell 6
          have r7 := hrz.cell 7
          have r8 := hrz.cell 8
          have r9 := hrz.cell 9
          have r10 := hrz.cell 10
          have r11 := hrz.cell 11
          simp only [List.getElem?_toArray, List.getElem?_cons_succ, List.getElem?_cons_zero] at r0 r1 r2 r3 r4 r5 r6 r7 r8 r9 r10 r11
          have k0 := hk 0
          have k1 := hk 1
          have k2 := hk 2
          have k3 := hk 3
          have k4 := hk 4
          have k5 := hk 5
          have k6 := hk 6
          have k7 := hk 7
          have k8 := hk 8
          have k9 := hk 9
          have k10 := hk 10
          have k11 := hk 11
          clear hk
          go_wp2_with fail
          refine bodyPost_ret (v := thV T q1 q2) (by simp [results, Tryz.results50, go_sem, r0, r1, r2, r3, r4, r5, r6, r7, r8, r9, r10, r11]) rfl ⟨q1, q2, rfl, ?_, ?_, ap, ?_⟩
          · iterate 12 refine Own.setNe ?_ (o3.offB (by omega))
            exact o3.base (by omega)
          · iterate 12 refine Own.setNe ?_ (o4.offB (by omega))
            exact o4.base (by omega)
          · iterate 12 refine Le.set ?_ (by omega)
            exact l4

set_option maxRecDepth 4000 in
set_option maxHeartbeats 2000000 in
theorem machCopyReplica (P : Rp) (vs : Nat → Sl) (qc ql : Sl) (w : World) (hs : ∀ i, i < 4 → Has w (slV (vs i)) (P.s.at i)) (hq1 : Has w (slV qc) P.cs) (hq2 : Has w (slV ql) P.ls) (hfs : Fit P.s) (hq1f : P.cs.length * 8 ≤ 140737488351232) (hq2f : P.ls.length * 8 ≤ 140737488351232) :
    Calls Tryz.prog 48 #[repV vs qc ql] w fun e w' => ∃ (us : Nat → Sl) (u1 u2 : Sl), e = .returned (repV us u1 u2) ∧ RepOwn w' w.heap.size P us u1 u2 ∧ Le w w' := by
  obtain ⟨g, hg⟩ : ∃ g, w.heap.size = g := ⟨_, rfl⟩
  have hb := (Box.new w (cellsP vs qc ql) 56).le (Le.alloc _ (.cells (cellsP (fun _ => slZ) slZ slZ) 56))
  have hr := Box.new (w.alloc (.cells (cellsP vs qc ql) 56)) (cellsP (fun _ => slZ) slZ slZ) 56
  rw [World.size_alloc] at hr
  have hl := (Le.alloc w (.cells (cellsP vs qc ql) 56)).trans (Le.alloc _ (.cells (cellsP (fun _ => slZ) slZ slZ) 56))
  go_enter Tryz.func48, Tryz.ntmps48
  go_upto_region 1 with fail
  generalize hW : (w.alloc (.cells (cellsP vs qc ql) 56)).alloc (.cells (cellsP (fun _ => slZ) slZ slZ) 56) = W0 at hl hb hr ⊢
  clear hW
  rw [hg] at hb hr
  have hgr := hr.lt
  have m1 := statesCopy (stV vs) P.s W0 ⟨vs, rfl, fun i hi => (hs i hi).le hl⟩ hfs
  obtain ⟨b0, b1, b2, b3, _, _⟩ := hb.rep
  go_wp2_with fail
  refine m1.mono ?_
  rintro e w1 ⟨us, rfl, ou, apu, l1⟩
  clear b0 b1 b2 b3 m1
  replace hb := hb.le l1
  replace hr := hr.le l1
  obtain ⟨b0, b1, b2, b3, _, _⟩ := hb.rep
  have k0 := hb.frozen 0
  have k1 := hb.frozen 1
  have k2 := hb.frozen 2
  have k3 := hb.frozen 3
  have hl1 := hl.trans l1
  have hs1 := l1.size
  go_upto_region 2 with fail
  have hbW : Box ((((w1.setCell ⟨g, 0, none⟩ (slV (us 0))).setCell ⟨g, 1, none⟩ (slV (us 1))).setCell ⟨g, 2, none⟩ (slV (us 2))).setCell ⟨g, 3, none⟩ (slV (us 3))) g (cellsP us qc ql) 56 := (((hb.set 0 _).set 1 _).set 2 _).set 3 _
  have hrW : Box ((((w1.setCell ⟨g, 0, none⟩ (slV (us 0))).setCell ⟨g, 1, none⟩ (slV (us 1))).setCell ⟨g, 2, none⟩ (slV (us 2))).setCell ⟨g, 3, none⟩ (slV (us 3))) (g + 1) (cellsP (fun _ => slZ) slZ slZ) 56 := (((hr.other (by omega) _ _).other (by omega) _ _).other (by omega) _ _).other (by omega) _ _
  have hlW := hl1.set4 (g := g) (by omega) (slV (us 0)) (slV (us 1)) (slV (us 2)) (slV (us 3))
  have hou : ∀ i, i < 4 → Own ((((w1.setCell ⟨g, 0, none⟩ (slV (us 0))).setCell ⟨g, 1, none⟩ (slV (us 1))).setCell ⟨g, 2, none⟩ (slV (us 2))).setCell ⟨g, 3, none⟩ (slV (us 3))) W0.heap.size (slV (us i)) (P.s.at i) := fun i hi => (ou i hi).set4 hb (by decide) _ _ _ _
  replace hq1 := hq1.le hlW
  replace hq2 := hq2.le hlW
  clear b0 b1 b2 b3 k0 k1 k2 k3 ou hb hr
  generalize hW : (((w1.setCell ⟨g, 0, none⟩ (slV (us 0))).setCell ⟨g, 1, none⟩ (slV (us 1))).setCell ⟨g, 2, none⟩ (slV (us 2))).setCell ⟨g, 3, none⟩ (slV (us 3)) = W at hbW hrW hlW hou hq1 hq2 ⊢
  have hWs : w1.heap.size = W.heap.size := by rw [← hW]; simp
  clear hW
  obtain ⟨_, _, _, _, c4, c5⟩ := hbW.rep
  refine wp_region_any (by kernel_rfl) ?_
  refine wpAny_grow [] [0, 1, 2, 3, 4, 5, 6] [7, 8, 9] (by decide) (by kernel_rfl) Le (Le.refl _) (fun _ _ _ => Le.trans)
    (fun vs i x => match i with
      | 0 => vs 0 = .pointer (some ⟨g, 4, none⟩)
      | 1 => vs 1 = slV qc
      | 2 => ∃ q, vs 2 = slV q ∧ Own x W.heap.size (slV q) P.cs
      | 3 => vs 3 = .pointer (some ⟨g, 5, none⟩)
      | 4 => vs 4 = slV ql
      | 6 => vs 6 = .pointer (some ⟨g, 4, none⟩)
      | _ => ∃ q q', vs 2 = slV q ∧ vs 5 = slV q' ∧ Own x W.heap.size (slV q) P.cs ∧ Own x W.heap.size (slV q') P.ls ∧ ∀ b, (slV q').ownBlock = some b → (slV q).ownBlock ≠ some b) ?_ ?_ (by decide) ?_ ?_
  · intro vs i x y hi _ h hxy
    simp only [List.mem_cons, List.not_mem_nil, or_false] at hi
    rcases hi with rfl | rfl | rfl | rfl | rfl | rfl | rfl
    · exact h
    · exact h
    · obtain ⟨q, e, o⟩ := h; exact ⟨q, e, o.le hxy⟩
    · exact h
    · exact h
    · obtain ⟨q, q', e, e', o, o', ap⟩ := h; exact ⟨q, q', e, e', o.le hxy, o'.le hxy, ap⟩
    · exact h
  · intro vs vs' i o x hi _ hk h
    have e := hk i (.inl rfl)
    simp only [List.mem_cons, List.not_mem_nil, or_false] at hi
    rcases hi with rfl | rfl | rfl | rfl | rfl | rfl | rfl
    iterate 5
      · simp only at h ⊢
        rw [← e]
        exact h
    · have e2 := hk 2 (.inr (by kernel_rfl))
      simp only at h ⊢
      rw [← e, ← e2]
      exact h
    · simp only at h ⊢
      rw [← e]
      exact h
  · intro i o hi ho vs x hx hd
    have hx0 := (Le.drew W).trans hx
    simp only [List.mem_cons, List.not_mem_nil, or_false] at hi
    generalize hρ : (putH _ _ _ vs).eval = ρ
    rcases hi with rfl | rfl | rfl | rfl | rfl | rfl | rfl
    · cases ho
      have r1 : ρ (.tmp 1) = .pointer (some ⟨g, 0, none⟩) := by rw [← hρ]; kernel_rfl
      exact gives_value (w' := x) (v := .pointer (some ⟨g, 4, none⟩)) (by simp [go_sem, r1]) ⟨Le.refl _, rfl⟩
    · cases ho
      have r1 : ρ (.tmp 7) = vs 0 := by rw [← hρ]; kernel_rfl
      have d := hd 0 (by decide) (by kernel_rfl)
      simp only at d
      rw [d] at r1
      have y := cell_le c4 hx0
      exact gives_value (w' := x) (v := slV qc) (by simp [go_sem, r1, y]) ⟨Le.refl _, rfl⟩
    · cases ho
      have r1 : ρ (.tmp 8) = vs 1 := by rw [← hρ]; kernel_rfl
      have d := hd 1 (by decide) (by kernel_rfl)
      simp only at d
      rw [d] at r1
      have m := listsCopyI (slV qc) P.cs x (hq1.le hx0) hq1f
      refine gives_call (f := 89) (args := #[slV qc]) (by simp [go_sem, r1]; kernel_rfl) (m.mono ?_)
      rintro e x2 ⟨q, rfl, o, gr⟩
      have l2 : Le x x2 := Below.grown (Le.refl x) gr (by simp) (by intro g hg; cases hg)
      exact ⟨_, rfl, l2, q, rfl, o.base hx0.size⟩
    · cases ho
      have r1 : ρ (.tmp 1) = .pointer (some ⟨g, 0, none⟩) := by rw [← hρ]; kernel_rfl
      exact gives_value (w' := x) (v := .pointer (some ⟨g, 5, none⟩)) (by simp [go_sem, r1]) ⟨Le.refl _, rfl⟩
    · cases ho
      have r1 : ρ (.tmp 10) = vs 3 := by rw [← hρ]; kernel_rfl
      have d := hd 3 (by decide) (by kernel_rfl)
      simp only at d
      rw [d] at r1
      have y := cell_le c5 hx0
      exact gives_value (w' := x) (v := slV ql) (by simp [go_sem, r1, y]) ⟨Le.refl _, rfl⟩
    · cases ho
      have r1 : ρ (.tmp 11) = vs 4 := by rw [← hρ]; kernel_rfl
      have d := hd 4 (by decide) (by kernel_rfl)
      have d2 := hd 2 (by decide) (by kernel_rfl)
      simp only at d d2
      obtain ⟨q, e2, o2⟩ := d2
      rw [d] at r1
      have m := listsCopyI (slV ql) P.ls x (hq2.le hx0) hq2f
      refine gives_call (f := 89) (args := #[slV ql]) (by simp [go_sem, r1]; kernel_rfl) (m.mono ?_)
      rintro e x2 ⟨q', rfl, o, gr⟩
      have l2 : Le x x2 := Below.grown (Le.refl x) gr (by simp) (by intro g hg; cases hg)
      refine ⟨_, rfl, l2, q, q', by simp [e2], by simp, o2.le l2, o.base hx0.size, fun b h1 h2 => ?_⟩
      have := (o.block h1).1
      have := (o2.block h2).2
      omega
    · cases ho
      have r1 : ρ (.tmp 1) = .pointer (some ⟨g, 0, none⟩) := by rw [← hρ]; kernel_rfl
      exact gives_value (w' := x) (v := .pointer (some ⟨g, 4, none⟩)) (by simp [go_sem, r1]) ⟨Le.refl _, rfl⟩
  · intro vs x hx hd
    have hx0 := (Le.drew W).trans hx
    have hh := hd 5 (by decide)
    simp only at hh
    replace hh := hh.choose_spec
    generalize Exists.choose _ = q1 at hh
    replace hh := hh.choose_spec
    generalize Exists.choose _ = q2 at hh
    have e1 := hh.1
    have e2 := hh.2.1
    have o1 := hh.2.2.1
    have o2 := hh.2.2.2.1
    have ap := hh.2.2.2.2
    have e6 := hd 6 (by decide)
    simp only at e6
    clear hh hd
    have hbx := hbW.le hx0
    have hrx := hrW.le hx0
    have cA : x.cell? ⟨g, 4, none⟩ = some (slV qc) ∧ x.frozen? ⟨g, 4, none⟩ = false := ⟨cell_le c4 hx0, hbx.frozen _⟩
    have hby := hbx.setARep (q := q1)
    have cB : (x.setCell ⟨g, 4, none⟩ (slV q1)).cell? ⟨g, 5, none⟩ = some (slV ql) ∧ (x.setCell ⟨g, 4, none⟩ (slV q1)).frozen? ⟨g, 5, none⟩ = false := ⟨by rw [hby.cell]; rfl, hby.frozen _⟩
    have hbz := hby.setBRep (q := q2)
    clear hbx
    generalize hf0 : putH _ _ _ vs = fr0
    refine wpSeq_cons rfl ?_
    refine wp_skip_at (w0 := x.setCell ⟨g, 4, none⟩ (slV q1)) ?_ ?_
    · generalize hρ : fr0.eval = ρ
      have r1 : ρ (.tmp 13) = vs 6 := by rw [← hρ, ← hf0]; kernel_rfl
      have r2 : ρ (.tmp 9) = vs 2 := by rw [← hρ, ← hf0]; kernel_rfl
      rw [e1] at r2
      rw [e6] at r1
      simp [go_sem, r1, r2, cA.1, cA.2]
    · generalize hf2 : Act.put fr0 _ _ = fr2
      refine wpSeq_cons rfl ?_
      refine wp_value_at (v0 := .pointer (some ⟨g, 5, none⟩)) (w0 := x.setCell ⟨g, 4, none⟩ (slV q1)) ?_ ?_
      · generalize hρ : fr2.eval = ρ
        have r1 : ρ (.tmp 1) = .pointer (some ⟨g, 0, none⟩) := by rw [← hρ, ← hf2, ← hf0]; kernel_rfl
        simp [go_sem, r1]
      · generalize hf3 : Act.put fr2 _ _ = fr3
        refine wpSeq_cons rfl ?_
        refine wp_skip_at (w0 := (x.setCell ⟨g, 4, none⟩ (slV q1)).setCell ⟨g, 5, none⟩ (slV q2)) ?_ ?_
        · generalize hρ : fr3.eval = ρ
          have r1 : ρ (.tmp 14) = .pointer (some ⟨g, 5, none⟩) := by rw [← hρ, ← hf3, ← hf2, ← hf0]; kernel_rfl
          have r2 : ρ (.tmp 12) = vs 5 := by rw [← hρ, ← hf3, ← hf2, ← hf0]; kernel_rfl
          rw [e2] at r2
          simp [go_sem, r1, r2, cB.1, cB.2]
        · subst hf3 hf2 hf0
          simp only [wpSeq, putH, List.getElem?_cons_succ, List.getElem?_cons_zero, Option.bind_some, Act.put, List.setIfInBounds_toArray, List.set_cons_zero, List.set_cons_succ]
          have l4 : Le w ((x.setCell ⟨g, 4, none⟩ (slV q1)).setCell ⟨g, 5, none⟩ (slV q2)) := Le.set (Le.set (hlW.trans hx0) (by omega)) (by omega)
          have o3 : Own ((x.setCell ⟨g, 4, none⟩ (slV q1)).setCell ⟨g, 5, none⟩ (slV q2)) W.heap.size (slV q1) P.cs := (o1.setNe (o1.offB (by omega))).setNe (o1.offB (by omega))
          have o4 : Own ((x.setCell ⟨g, 4, none⟩ (slV q1)).setCell ⟨g, 5, none⟩ (slV q2)) W.heap.size (slV q2) P.ls := (o2.setNe (o2.offB (by omega))).setNe (o2.offB (by omega))
          have o5 : ∀ i, i < 4 → Own ((x.setCell ⟨g, 4, none⟩ (slV q1)).setCell ⟨g, 5, none⟩ (slV q2)) W0.heap.size (slV (us i)) (P.s.at i) := fun i hi => (((hou i hi).le hx0).setNe ((hou i hi).offB (by omega))).setNe ((hou i hi).offB (by omega))
          have hrz : Box ((x.setCell ⟨g, 4, none⟩ (slV q1)).setCell ⟨g, 5, none⟩ (slV q2)) (g + 1) (cellsP (fun _ => slZ) slZ slZ) 56 := (hrx.other (by omega) _ _).other (by omega) _ _
          have a1 : ∀ i, i < 4 → ∀ b, (slV q1).ownBlock = some b → (slV (us i)).ownBlock ≠ some b := fun i hi b h1 h2 => by
            have := (o1.block h1).1
            have := ((hou i hi).block h2).2
            omega
          have a2 : ∀ i, i < 4 → ∀ b, (slV q2).ownBlock = some b → (slV (us i)).ownBlock ≠ some b := fun i hi b h1 h2 => by
            have := (o2.block h1).1
            have := ((hou i hi).block h2).2
            omega
          clear e1 e2 o1 o2 hrx hby cA cB c4 c5 hbW hrW hou
          generalize (x.setCell ⟨g, 4, none⟩ (slV q1)).setCell ⟨g, 5, none⟩ (slV q2) = w4 at hbz l4 o3 o4 o5 hrz ⊢
          obtain ⟨t0, t1, t2, t3, t4, t5⟩ := hbz.rep
          have r0 := hrz.cell 0
          have r1 := hrz.cell 1
          have r2 := hrz.cell 2
          have r3 := hrz.cell 3
          have r4 := hrz.cell 4
          have r5 := hrz.cell 5
          simp only [List.getElem?_toArray, List.getElem?_cons_succ, List.getElem?_cons_zero] at r0 r1 r2 r3 r4 r5
          have k0 := hrz.frozen 0
          have k1 := hrz.frozen 1
          have k2 := hrz.frozen 2
          have k3 := hrz.frozen 3
          have k4 := hrz.frozen 4
          have k5 := hrz.frozen 5
          go_wp2_with fail
          refine bodyPost_ret (v := repV us q1 q2) (by simp [results, Tryz.results48, go_sem, r0, r1, r2, r3, r4, r5]) rfl ⟨us, q1, q2, rfl, ⟨fun i hi => ?_, ?_, ?_, fun _ => a1, fun _ => a2, fun _ => ap⟩, ?_⟩
          · iterate 6 refine Own.setNe ?_ ((o5 i hi).offB (by omega))
            exact (o5 i hi).base (by omega)
          · iterate 6 refine Own.setNe ?_ (o3.offB (by omega))
            exact o3.base (by omega)
          · iterate 6 refine Own.setNe ?_ (o4.offB (by omega))
            exact o4.base (by omega)
          · iterate 6 refine Le.set ?_ (by omega)
            exact l4

end Go.Proofs.YtnemldboiogdkaaGreat

/-
  PLAIN GROUND, NO WALK: what stands ahead of each round of package lists' CopyEach, at logs, replicas, threads, and what a round makes of it. No condition.
-/
namespace Go.Proofs.YtnemldboiogdkaaGreat
open Go.RowKit

/-- What the inner rows of an element are: their blocks, when they are the call's own. -/
structure InOf {α : Type} (K : Kind α) (In : World → Nat → α → Prop) (bk : α → Nat → Prop) : Prop where
  le : ∀ {w w' : World} {B : Nat} {y : α}, In w B y → Le w w' → In w' B y
  base : ∀ {w : World} {B B' : Nat} {y : α}, In w B y → B' ≤ B → In w B' y
  blk : ∀ {w : World} {B g : Nat} {y : α}, In w B y → bk y g → B ≤ g ∧ g < w.heap.size
  set : ∀ {w : World} {B B' gq n cap off j : Nat} {y : α} {zs : List α} {us : List Value}, OwnE K w B' (.slice (some ⟨gq, 0, none⟩) n cap) zs → In w B y → In (setsW gq off w j us) B y

/-- Ahead of a round: the first ones are copied (ys), the others are as they were (of xs). -/
structure EachI {α β : Type} (K : Kind α) (In : World → Nat → α → Prop) (bk : α → Nat → Prop) (f : α → β) (w wr : World) (v : Value) (xs ys : List α) : Prop where
  own : OwnE K wr w.heap.size v (ys ++ xs.drop ys.length)
  le : Le w wr
  inn : ∀ y ∈ ys, In wr w.heap.size y
  ap : ∀ i j, i < ys.length → j < i → ∀ g, bk (ys.getD i K.d) g → ¬ bk (ys.getD j K.d) g
  same : ys.map f = (xs.map f).take ys.length
  len : ys.length ≤ xs.length

theorem EachI.next {α β : Type} {K : Kind α} {In : World → Nat → α → Prop} {bk : α → Nat → Prop} {f : α → β} {w wr : World} {gq n cap : Nat} {xs ys : List α} (hI : InOf K In bk)
    (h : EachI K In bk f w wr (.slice (some ⟨gq, 0, none⟩) n cap) xs ys) (hk : ys.length < xs.length) {w2 : World} {B2 : Nat} (l2 : Le wr w2) {y : α} (hy : In w2 B2 y) (hB : wr.heap.size ≤ B2) (hf : f y = f (xs.getD ys.length K.d)) :
    EachI K In bk f w (setsW gq (ys.length * K.k) w2 0 (K.f y)) (.slice (some ⟨gq, 0, none⟩) n cap) xs (ys ++ [y]) := by
  have ho := h.own.le l2
  have hg : w.heap.size ≤ gq := (ho.block (g := gq) rfl).1
  have hlen : ys.length < (ys ++ xs.drop ys.length).length := by simp; omega
  have hset : (ys ++ xs.drop ys.length).set ys.length y = (ys ++ [y]) ++ xs.drop (ys ++ [y]).length := by
    rw [List.set_append_right _ _ (Nat.le_refl _), Nat.sub_self, List.drop_eq_getElem_cons hk, List.set_cons_zero]
    simp
  refine ⟨?_, setsW_le hg _ _ _ (h.le.trans l2), fun z hz => ?_, fun i j hi hj g h1 h2 => ?_, ?_, by simp; omega⟩
  · rw [← hset]
    refine ho.putS hlen (by rw [K.len]; exact Nat.le_refl _) ?_
    rw [List.drop_of_length_le (by rw [K.len, K.len]; exact Nat.le_refl _), List.append_nil]
  · rcases List.mem_append.1 hz with hz | hz
    · exact hI.set ho (hI.le (h.inn z hz) l2)
    · obtain rfl := List.mem_singleton.1 hz
      exact hI.set ho (hI.base hy (Nat.le_trans h.le.size hB))
  · simp only [List.length_append, List.length_cons, List.length_nil] at hi
    have e2 : (ys ++ [y]).getD j K.d = ys.getD j K.d := by simp [List.getD, List.getElem?_append_left (show j < ys.length by omega)]
    rw [e2] at h2
    rcases Nat.lt_or_ge i ys.length with hl | hl
    · have e1 : (ys ++ [y]).getD i K.d = ys.getD i K.d := by simp [List.getD, List.getElem?_append_left hl]
      rw [e1] at h1
      exact h.ap i j hl hj g h1 h2
    · have e : i = ys.length := by omega
      subst e
      have e1 : (ys ++ [y]).getD ys.length K.d = y := by simp [List.getD]
      rw [e1] at h1
      have := (hI.blk hy h1).1
      have := (hI.blk (h.inn _ (getD_mem (d := K.d) (show j < ys.length by omega))) h2).2
      omega
  · rw [List.map_append, h.same, List.length_append]
    simp only [List.map_cons, List.map_nil, List.length_cons, List.length_nil]
    rw [List.take_succ_eq_append_getElem (by simpa using hk), hf]
    simp [List.getD, hk]

/-- What CopyEach hands back: other elements, the same but for where their rows lie. -/
structure EachR {α β : Type} (K : Kind α) (In : World → Nat → α → Prop) (bk : α → Nat → Prop) (f : α → β) (B : Nat) (w' : World) (v : Value) (zs : List β) (ys : List α) : Prop where
  own : OwnE K w' B v ys
  inn : ∀ y ∈ ys, In w' B y
  ap : ∀ i j, i < ys.length → j < i → ∀ g, bk (ys.getD i K.d) g → ¬ bk (ys.getD j K.d) g
  same : ys.map f = zs
theorem EachI.done {α β : Type} {K : Kind α} {In : World → Nat → α → Prop} {bk : α → Nat → Prop} {f : α → β} {w wr : World} {v : Value} {xs ys : List α} (h : EachI K In bk f w wr v xs ys) (hk : ys.length = xs.length) : EachR K In bk f w.heap.size wr v (xs.map f) ys := by
  refine ⟨?_, h.inn, h.ap, ?_⟩
  · have := h.own
    rw [List.drop_of_length_le (by omega), List.append_nil] at this
    exact this
  · rw [h.same, List.take_of_length_le (by simp; omega)]
theorem EachI.start {α β : Type} {K : Kind α} {In : World → Nat → α → Prop} {bk : α → Nat → Prop} {f : α → β} {w wr : World} {v : Value} {xs : List α} (h : OwnE K wr w.heap.size v xs) (l : Le w wr) : EachI K In bk f w wr v xs [] :=
  ⟨by simpa using h, l, fun _ h => by simp at h, fun i j h => by simp at h, by simp, by simp⟩
theorem EachR.le {α β : Type} {K : Kind α} {In : World → Nat → α → Prop} {bk : α → Nat → Prop} {f : α → β} {B : Nat} {w w' : World} {v : Value} {zs : List β} {ys : List α} (hI : InOf K In bk) (h : EachR K In bk f B w v zs ys) (l : Le w w') : EachR K In bk f B w' v zs ys :=
  ⟨h.own.le l, fun y hy => hI.le (h.inn y hy) l, h.ap, h.same⟩

/-- The cells of an element of the call's own are there. -/
theorem ownE_cells {α : Type} {K : Kind α} {w : World} {B g n cap i : Nat} {xs : List α} (h : OwnE K w B (.slice (some ⟨g, 0, none⟩) n cap) xs) (hi : i < xs.length) : ∀ j, j < K.k → ∃ u, w.cell? ⟨g, i * K.k + j, none⟩ = some u := by
  intro j hj
  obtain ⟨a, c, hv, _, _, hx⟩ := h.has
  obtain ⟨b, off, ha, hcell⟩ := hx (by omega)
  simp only [Value.slice.injEq] at hv
  rw [ha] at hv
  simp only [Option.some.injEq, Addr.mk.injEq, and_true] at hv
  obtain ⟨⟨rfl, rfl⟩, _⟩ := hv
  have h1 := hcell i hi j hj
  have hlt : j < (K.f (xs.getD i K.d)).length := by rw [K.len]; exact hj
  rw [List.getElem?_eq_getElem hlt, Nat.zero_add] at h1
  exact ⟨_, h1⟩

/-! At logs, replicas, threads. -/
def InR (w : World) (B : Nat) (y : LR) : Prop := OwnL w B (slV y.q) y.R.ss
def InP (w : World) (B : Nat) (y : LP) : Prop := RepOwn w B y.P y.vs y.c y.l
def InT (w : World) (B : Nat) (y : LT) : Prop := Own w B (slV y.b) y.T.b ∧ Own w B (slV y.t) y.T.tl ∧ ∀ b, (slV y.t).ownBlock = some b → (slV y.b).ownBlock ≠ some b
def bkR (y : LR) (g : Nat) : Prop := (slV y.q).ownBlock = some g
def bkP (y : LP) (g : Nat) : Prop := ∃ j, (slV (y.row j)).ownBlock = some g
def bkT (y : LT) (g : Nat) : Prop := ∃ j, (slV (y.row j)).ownBlock = some g

theorem own_sets' {w : World} {B B' gq n m l cap off j k k' : Nat} {t t' : TypeId} {v : Value} {us zs vs : List Value} (h : w.ownsRow B' t k (.slice (some ⟨gq, 0, none⟩) n cap) m zs) (h2 : w.ownsRow B t' k' v l vs) (ht : t ≠ t') : (setsW gq off w j us).ownsRow B t' k' v l vs :=
  setsW_own _ _ _ h2 (ownsRow_apart h h2 ht rfl)

theorem inR : InOf ringK InR bkR where
  le := fun h l => OwnL.le h l
  base := fun h l => OwnL.base h l
  blk := fun h e => OwnL.block h e
  set := fun ho h => own_sets' ho h (by decide)
theorem rowP_cases {y : LP} {j g : Nat} {w : World} {B : Nat} (h : InP w B y) (e : (slV (y.row j)).ownBlock = some g) : B ≤ g ∧ g < w.heap.size := by
  match j, e with
  | 0, e => exact (h.s 0 (by decide)).block e
  | 1, e => exact (h.s 1 (by decide)).block e
  | 2, e => exact (h.s 2 (by decide)).block e
  | 3, e => exact (h.s 3 (by decide)).block e
  | 4, e => exact h.c.block e
  | 5, e => exact h.l.block e
  | _ + 6, e => simp [LP.row, Value.ownBlock] at e
theorem inP : InOf repK InP bkP where
  le := fun h l => RepOwn.le h l
  base := fun h l => ⟨fun i hi => (h.s i hi).base l, h.c.base l, h.l.base l, h.a1, h.a2, h.a3⟩
  blk := fun h ⟨_, e⟩ => rowP_cases h e
  set := fun ho h => ⟨fun i hi => own_sets' ho (h.s i hi) (by decide), own_sets' ho h.c (by decide), own_sets' ho h.l (by decide), h.a1, h.a2, h.a3⟩
theorem rowT_cases {y : LT} {j g : Nat} {w : World} {B : Nat} (h : InT w B y) (e : (slV (y.row j)).ownBlock = some g) : B ≤ g ∧ g < w.heap.size := by
  match j, e with
  | 0, e => exact h.1.block e
  | 1, e => exact h.2.1.block e
  | _ + 2, e => simp [LT.row, Value.ownBlock] at e
theorem inT : InOf thK InT bkT where
  le := fun h l => ⟨h.1.le l, h.2.1.le l, h.2.2⟩
  base := fun h l => ⟨h.1.base l, h.2.1.base l, h.2.2⟩
  blk := fun h ⟨_, e⟩ => rowT_cases h e
  set := fun ho h => ⟨own_sets' ho h.1 (by decide), own_sets' ho h.2.1 (by decide), h.2.2⟩

/-- A row of the call's own stays where a machine's variable is written to. -/
theorem own_setM {w : World} {B g i k n : Nat} {t : TypeId} {v u : Value} {us : List Value} {cs : Array Value} (hb : Box w g cs 29) (h : w.ownsRow B t k v n us) (ht : t ≠ 29) : (w.setCell ⟨g, i, none⟩ u).ownsRow B t k v n us := by
  refine ownsRow_setCell_other h (fun e => ?_) u
  rcases h.2 with ⟨e2, _⟩ | ⟨g', cap, cur, hv, _, hh, _⟩
  · rw [e2] at e; simp [Value.ownBlock] at e
  · rw [hv] at e
    simp [Value.ownBlock] at e
    subst e
    unfold Box at hb
    rw [hb] at hh
    simp at hh
    exact ht hh.2.symm
theorem EachR.setR {w : World} {B g i : Nat} {v u : Value} {zs : List Rg} {ys : List LR} {cs : Array Value} (h : EachR ringK InR bkR LR.R B w v zs ys) (hb : Box w g cs 29) : EachR ringK InR bkR LR.R B (w.setCell ⟨g, i, none⟩ u) v zs ys :=
  ⟨own_setM hb h.own (by decide), fun y hy => own_setM hb (h.inn y hy) (by decide), h.ap, h.same⟩
theorem EachR.setP {w : World} {B g i : Nat} {v u : Value} {zs : List Rp} {ys : List LP} {cs : Array Value} (h : EachR repK InP bkP LP.P B w v zs ys) (hb : Box w g cs 29) : EachR repK InP bkP LP.P B (w.setCell ⟨g, i, none⟩ u) v zs ys :=
  ⟨own_setM hb h.own (by decide), fun y hy => by have o := h.inn y hy; exact ⟨fun i hi => own_setM hb (o.s i hi) (by decide), own_setM hb o.c (by decide), own_setM hb o.l (by decide), o.a1, o.a2, o.a3⟩, h.ap, h.same⟩
theorem EachR.setT {w : World} {B g i : Nat} {v u : Value} {zs : List Th} {ys : List LT} {cs : Array Value} (h : EachR thK InT bkT LT.T B w v zs ys) (hb : Box w g cs 29) : EachR thK InT bkT LT.T B (w.setCell ⟨g, i, none⟩ u) v zs ys :=
  ⟨own_setM hb h.own (by decide), fun y hy => by have o := h.inn y hy; exact ⟨own_setM hb o.1 (by decide), own_setM hb o.2.1 (by decide), o.2.2⟩, h.ap, h.same⟩

/-- Copied logs, replicas, threads, one behind the other: a machine whose rows lie in blocks of their own. -/
theorem each_ownsM {w : World} {B B1 B2 : Nat} {c : Cfg} {qR qP qT qH : Sl} {Rs : List Rg} {Ps : List Rp} {Ts : List Th} {Es : List Ev} {yR : List LR} {yP : List LP} {yT : List LT} (hR : EachR ringK InR bkR LR.R B w (slV qR) Rs yR) (hP : EachR repK InP bkP LP.P B1 w (slV qP) Ps yP) (hT : EachR thK InT bkT LT.T B2 w (slV qT) Ts yT)
    (hH : OwnE evK w B (slV qH) Es) (h1 : B ≤ B1) (h2 : B1 ≤ B2) (hlt : ∀ y ∈ yP, ∀ g, bkP y g → g < B2) :
    let L : Lay := ⟨c, qR, qP, qT, qH, yR, yP, yT, Es⟩
    L.M = ⟨c, Rs, Ps, Ts, Es⟩ ∧ OwnsM w B L ∧ ApartM L := by
  intro L
  have hbp : ∀ i j g, (slV (L.at (.rep i j))).ownBlock = some g → i < yP.length ∧ bkP (yP.getD i repK.d) g := fun i j g e => by
    rcases Nat.lt_or_ge i yP.length with hi | hi
    · exact ⟨hi, j, e⟩
    · exfalso
      simp only [Lay.at, L] at e
      rw [getD_out hi] at e
      match j, e with
      | 0, e => cases e
      | 1, e => cases e
      | 2, e => cases e
      | 3, e => cases e
      | 4, e => cases e
      | 5, e => cases e
      | _ + 6, e => simp [LP.row, Value.ownBlock] at e
  have hbt : ∀ i j g, (slV (L.at (.th i j))).ownBlock = some g → i < yT.length ∧ bkT (yT.getD i thK.d) g := fun i j g e => by
    rcases Nat.lt_or_ge i yT.length with hi | hi
    · exact ⟨hi, j, e⟩
    · exfalso
      simp only [Lay.at, L] at e
      rw [getD_out hi] at e
      match j, e with
      | 0, e => cases e
      | 1, e => cases e
      | _ + 2, e => simp [LT.row, Value.ownBlock] at e
  refine ⟨?_, ⟨hR.own, hP.own.base h1, hT.own.base (Nat.le_trans h1 h2), hH, hR.inn, fun y hy => ?_, fun y hy => ?_⟩, ⟨fun i j hne g e1 e2 => ?_, fun p q hne hw n1 n2 g e1 e2 => ?_⟩⟩
  · show Lay.M L = _
    unfold Lay.M
    rw [hR.same, hP.same, hT.same]
  · have o := hP.inn y hy
    exact ⟨fun i hi => (o.s i hi).base h1, o.c.base h1, o.l.base h1⟩
  · have o := hT.inn y hy
    exact ⟨o.1.base (Nat.le_trans h1 h2), o.2.1.base (Nat.le_trans h1 h2)⟩
  · have hs : ∀ i, (slV (L.slots i)).ownBlock = some g → i < yR.length ∧ bkR (yR.getD i ringK.d) g := fun i e => by
      rcases Nat.lt_or_ge i yR.length with hi | hi
      · exact ⟨hi, e⟩
      · exfalso
        simp only [Lay.slots, L] at e
        rw [getD_out hi] at e
        cases e
    obtain ⟨a1, a2⟩ := hs i e1
    obtain ⟨b1, b2⟩ := hs j e2
    rcases Nat.lt_or_gt_of_ne hne with h | h
    · exact hR.ap j i b1 h g b2 a2
    · exact hR.ap i j a1 h g a2 b2
  · cases p with
    | rep i a =>
      obtain ⟨a1, a2⟩ := hbp i a g e1
      cases q with
      | rep j b =>
        obtain ⟨b1, b2⟩ := hbp j b g e2
        by_cases e : i = j
        · subst e
          have o := hP.inn _ (getD_mem (d := repK.d) a1)
          exact o.apart a b (fun e => hne (by rw [e])) (by simpa [Pos.wr] using hw) n1 n2 g e1 e2
        · rcases Nat.lt_or_gt_of_ne e with h | h
          · exact hP.ap j i b1 h g b2 a2
          · exact hP.ap i j a1 h g a2 b2
      | th j b =>
        obtain ⟨b1, b2⟩ := hbt j b g e2
        have := hlt _ (getD_mem (d := repK.d) a1) g a2
        have := (inT.blk (hT.inn _ (getD_mem (d := thK.d) b1)) b2).1
        omega
    | th i a =>
      obtain ⟨a1, a2⟩ := hbt i a g e1
      cases q with
      | rep j b =>
        obtain ⟨b1, b2⟩ := hbp j b g e2
        have := hlt _ (getD_mem (d := repK.d) b1) g b2
        have := (inT.blk (hT.inn _ (getD_mem (d := thK.d) a1)) a2).1
        omega
      | th j b =>
        obtain ⟨b1, b2⟩ := hbt j b g e2
        by_cases e : i = j
        · subst e
          have o := hT.inn _ (getD_mem (d := thK.d) a1)
          match a, b, e1, e2 with
          | 0, 0, _, _ => exact hne rfl
          | 1, 1, _, _ => exact hne rfl
          | 0, 1, e1, e2 => exact o.2.2 g e2 e1
          | 1, 0, e1, e2 => exact o.2.2 g e1 e2
          | _ + 2, _, e1, _ => simp [Lay.at, LT.row, Value.ownBlock] at e1
          | _, _ + 2, _, e2 => simp [Lay.at, LT.row, Value.ownBlock] at e2
        · rcases Nat.lt_or_gt_of_ne e with h | h
          · exact hT.ap j i b1 h g b2 a2
          · exact hT.ap i j a1 h g a2 b2

end Go.Proofs.YtnemldboiogdkaaGreat

/-
  THE WALK over choruslaw0's SpoilMachine: it writes over the numbers of a machine of the call's own alone. No condition.
-/
namespace Go.Proofs.YtnemldboiogdkaaGreat
open Go.RowKit

end Go.Proofs.YtnemldboiogdkaaGreat

/-
  THE WALKS over package lists' CopyEach at logs, replicas, threads, and package machines' Copy: the same machine, each of its rows in a block of its own. Condition: that the rows can be copied.
-/
namespace Go.Proofs.YtnemldboiogdkaaGreat
open Go.RowKit

set_option maxRecDepth 4000 in
set_option maxHeartbeats 2000000 in
theorem copyEachR (v : Value) (xs : List LR) (w : World) (hx : HasE ringK w v xs) (hq : ∀ x ∈ xs, HasL w (slV x.q) x.R.ss) (hfe : ∀ x ∈ xs, FitR x.R) (hf : xs.length * 48 ≤ 140737488351232) :
    Calls Tryz.prog 45 #[v, .func (.func 46) #[] #[]] w fun e w' => ∃ (q : Sl) (ys : List LR), e = .returned (slV q) ∧ EachR ringK InR bkR LR.R w.heap.size w' (slV q) (xs.map LR.R) ys ∧ Le w w' := by
  have hc : ∀ (u : Value) (w : World), (callFunc 46 #[u]).run Tryz.prog w = .ok (.enter 46 #[u]) w := fun _ _ => by kernel_rfl
  have m0 := listsCopyR v xs w hx hf
  by_cases h0 : 0 < xs.length
  · obtain ⟨L, hL⟩ : ∃ L, L = xs.length := ⟨_, rfl⟩
    have HL : Hid (L = xs.length) := hL
    have hm : L ≤ 9223372036854775807 := by omega
    have h0' : 0 < L := by omega
    go_enter Tryz.func45, Tryz.ntmps45
    go_wp2_with fail
    refine m0.mono ?_
    rintro e w1 ⟨q, rfl, oq, l1⟩
    clear m0
    obtain ⟨gq, cap, hqv, hcap, hgq, hgl⟩ := oq.shape h0
    have hqs : q = (some ⟨gq, 0, none⟩, L, cap) := by
      simp only [slV, Value.slice.injEq] at hqv
      obtain ⟨a, b, c⟩ := hqv
      rw [hL]
      exact Prod.ext a (Prod.ext b c)
    subst hqs
    have I0 : EachI ringK InR bkR LR.R w w1 (.slice (some ⟨gq, 0, none⟩) L cap) xs [] := EachI.start oq l1
    rw [← hL] at hcap
    clear oq hqv hL hf
    simp only [slV]
    go_wp2_with fail
    go_loopw [12] (fun i wr => ∃ (k : Nat) (ys : List LR), k ≤ L ∧ i = .int .i64 k ∧ Hid (ys.length = k) ∧ EachI ringK InR bkR LR.R w wr (.slice (some ⟨gq, 0, none⟩) L cap) xs ys) (fun i _ => L - (intOf i).toNat)
    case atStart => exact ⟨0, [], by omega, rfl, rfl, I0⟩
    case round =>
      clear I0
      obtain ⟨k, ys, hk, rfl, HK, I⟩ := hrel
      by_cases hlt : k < L
      · have hlt' : (k : Int) < (L : Int) := by omega
        have hkx : k < xs.length := by have := HL.out; omega
        obtain ⟨x0, hx0⟩ : ∃ x, x = xs.getD k ringK.d := ⟨_, rfl⟩
        have HX : Hid (x0 = xs.getD k ringK.d) := hx0
        have hmem : x0 ∈ xs := by rw [hx0]; exact getD_mem hkx
        obtain ⟨a', c', hv', _, _, hcell⟩ := I.own.has
        obtain ⟨b', off', ha', hcell⟩ := hcell (by have := HK.out; simp; omega)
        simp only [Value.slice.injEq] at hv'
        rw [ha'] at hv'
        simp only [Option.some.injEq, Addr.mk.injEq, and_true] at hv'
        obtain ⟨⟨hgb, hoff⟩, hjunk⟩ := hv'
        have hck := hcell k (by have := HK.out; simp; omega)
        have hget : (ys ++ xs.drop ys.length).getD k ringK.d = x0 := by
          rw [hx0, HK.out]
          simp only [List.getD]
          rw [List.getElem?_append_right (by have := HK.out; omega), List.getElem?_drop]
          congr 2
          have := HK.out
          omega
        rw [hget, ← hgb, ← hoff] at hck
        simp only [Nat.zero_add] at hck
        clear hcell hget hgb hoff ha' hx0 hjunk
        have hrow := (hq x0 hmem)
        have hfx := hfe x0 hmem
        obtain ⟨X, qx⟩ := x0
        simp only at hrow hfx
        have rA : RingAt wr gq (k * 4) X qx := ⟨hck 0 (by decide), hck 1 (by decide), hck 2 (by decide), hck 3 (by decide)⟩
        obtain ⟨x0, x1, x2, x3⟩ := rA
        simp only [FitR] at hfx
        have hbx := Box.new wr (cellsR X.h X.t X.f qx) 60
        have hA := Le.alloc wr (.cells (cellsR X.h X.t X.f qx) 60)
        clear hck
        go_upto_region 5 with fail
        generalize hW : wr.alloc (.cells (cellsR X.h X.t X.f qx) 60) = wq at hbx hA ⊢
        generalize hgx : wr.heap.size = gx at hbx ⊢
        clear hW x0 x1 x2 x3
        obtain ⟨z0, z1, z2, z3, _, _, _, _⟩ := hbx.ring
        have m1 := machCopyRing X.h X.t X.f qx X.ss wq ((hrow.le I.le).le hA) hfx
        go_wp2_with fail
        refine m1.mono ?_
        rintro e w2 ⟨u, rfl, ou, l2⟩
        clear m1 hbx z0 z1 z2 z3
        have I2 := I.own.le (hA.trans l2)
        have IN := I.next inR (by have := HK.out; omega) (hA.trans l2) (y := (⟨X, u⟩ : LR)) (show InR w2 wq.heap.size ⟨X, u⟩ from ou) hA.size (by rw [HK.out, ← HX.out])
        have f0 := I2.frozen (k * 4)
        have f1 := I2.frozen (k * 4 + 1)
        have f2 := I2.frozen (k * 4 + 2)
        have f3 := I2.frozen (k * 4 + 3)
        have hsz : ∀ j, j < 4 → ∃ u, w2.cell? ⟨gq, k * 4 + j, none⟩ = some u := ownE_cells I2 (i := k) (by have := HK.out; simp; omega)
        obtain ⟨y0, hy0⟩ := hsz 0 (by decide)
        obtain ⟨y1, hy1⟩ := hsz 1 (by decide)
        obtain ⟨y2, hy2⟩ := hsz 2 (by decide)
        obtain ⟨y3, hy3⟩ := hsz 3 (by decide)
        simp only [Nat.add_zero] at hy0
        rw [HK.out, show ringK.k = 4 from rfl] at IN
        clear hsz I2 hgx
        go_upto_region 6 with fail
        show Code.wp _ _ _ _ (setsW gq (k * 4) w2 0 (ringK.f (⟨X, u⟩ : LR)))
        generalize setsW gq (k * 4) w2 0 (ringK.f (⟨X, u⟩ : LR)) = w3 at IN ⊢
        clear hy0 hy1 hy2 hy3 f0 f1 f2 f3
        go_wp2_with fail
        go_roundw
        case rel => exact ⟨k + 1, _, by omega, by go_num, hid (by have := HK.out; simp only [List.length_append, List.length_cons, List.length_nil]; omega), IN⟩
        case measure => simp [intOf]; omega
      · obtain rfl : k = L := by omega
        have hR := I.done (by rw [HK.out, ← HL.out])
        have hle := I.le
        clear I
        go_wp2_with fail
        go_ret
        exact ⟨(some ⟨gq, 0, none⟩, k, cap), ys, rfl, hR, hle⟩
  · have hxn : xs = [] := by cases xs with | nil => rfl | cons _ _ => simp at h0
    subst hxn
    go_enter Tryz.func45, Tryz.ntmps45
    go_wp2_with fail
    refine m0.mono ?_
    rintro e w1 ⟨q, rfl, oq, l1⟩
    have hz : q.2.1 = 0 := oq.has.len
    obtain ⟨qa, qn, qcap⟩ := q
    simp only at hz
    subst hz
    go_wp2_with fail
    refine wp_loop_rounds 1 ?_
    rw [rounds_succ]
    go_wp2_with fail
    go_ret
    exact ⟨_, [], rfl, EachI.done (EachI.start oq l1) rfl, l1⟩

set_option maxRecDepth 4000 in
set_option maxHeartbeats 2000000 in
theorem copyEachP (v : Value) (xs : List LP) (w : World) (hx : HasE repK w v xs) (hq : ∀ x ∈ xs, (∀ i, i < 4 → Has w (slV (x.vs i)) (x.P.s.at i)) ∧ Has w (slV x.c) x.P.cs ∧ Has w (slV x.l) x.P.ls) (hfe : ∀ x ∈ xs, Fit x.P.s ∧ x.P.cs.length * 8 ≤ 140737488351232 ∧ x.P.ls.length * 8 ≤ 140737488351232) (hf : xs.length * 144 ≤ 140737488351232) :
    Calls Tryz.prog 47 #[v, .func (.func 48) #[] #[]] w fun e w' => ∃ (q : Sl) (ys : List LP), e = .returned (slV q) ∧ EachR repK InP bkP LP.P w.heap.size w' (slV q) (xs.map LP.P) ys ∧ Le w w' := by
  have hc : ∀ (u : Value) (w : World), (callFunc 48 #[u]).run Tryz.prog w = .ok (.enter 48 #[u]) w := fun _ _ => by kernel_rfl
  have m0 := listsCopyP v xs w hx hf
  by_cases h0 : 0 < xs.length
  · obtain ⟨L, hL⟩ : ∃ L, L = xs.length := ⟨_, rfl⟩
    have HL : Hid (L = xs.length) := hL
    have hm : L ≤ 9223372036854775807 := by omega
    have h0' : 0 < L := by omega
    go_enter Tryz.func47, Tryz.ntmps47
    go_wp2_with fail
    refine m0.mono ?_
    rintro e w1 ⟨q, rfl, oq, l1⟩
    clear m0
    obtain ⟨gq, cap, hqv, hcap, hgq, hgl⟩ := oq.shape h0
    have hqs : q = (some ⟨gq, 0, none⟩, L, cap) := by
      simp only [slV, Value.slice.injEq] at hqv
      obtain ⟨a, b, c⟩ := hqv
      rw [hL]
      exact Prod.ext a (Prod.ext b c)
    subst hqs
    have I0 : EachI repK InP bkP LP.P w w1 (.slice (some ⟨gq, 0, none⟩) L cap) xs [] := EachI.start oq l1
    rw [← hL] at hcap
    clear oq hqv hL hf
    simp only [slV]
    go_wp2_with fail
    go_loopw [12] (fun i wr => ∃ (k : Nat) (ys : List LP), k ≤ L ∧ i = .int .i64 k ∧ Hid (ys.length = k) ∧ EachI repK InP bkP LP.P w wr (.slice (some ⟨gq, 0, none⟩) L cap) xs ys) (fun i _ => L - (intOf i).toNat)
    case atStart => exact ⟨0, [], by omega, rfl, rfl, I0⟩
    case round =>
      clear I0
      obtain ⟨k, ys, hk, rfl, HK, I⟩ := hrel
      by_cases hlt : k < L
      · have hlt' : (k : Int) < (L : Int) := by omega
        have hkx : k < xs.length := by have := HL.out; omega
        obtain ⟨x0, hx0⟩ : ∃ x, x = xs.getD k repK.d := ⟨_, rfl⟩
        have HX : Hid (x0 = xs.getD k repK.d) := hx0
        have hmem : x0 ∈ xs := by rw [hx0]; exact getD_mem hkx
        obtain ⟨a', c', hv', _, _, hcell⟩ := I.own.has
        obtain ⟨b', off', ha', hcell⟩ := hcell (by have := HK.out; simp; omega)
        simp only [Value.slice.injEq] at hv'
        rw [ha'] at hv'
        simp only [Option.some.injEq, Addr.mk.injEq, and_true] at hv'
        obtain ⟨⟨hgb, hoff⟩, hjunk⟩ := hv'
        have hck := hcell k (by have := HK.out; simp; omega)
        have hget : (ys ++ xs.drop ys.length).getD k repK.d = x0 := by
          rw [hx0, HK.out]
          simp only [List.getD]
          rw [List.getElem?_append_right (by have := HK.out; omega), List.getElem?_drop]
          congr 2
          have := HK.out
          omega
        rw [hget, ← hgb, ← hoff] at hck
        simp only [Nat.zero_add] at hck
        clear hcell hget hgb hoff ha' hx0 hjunk
        have hrow := (hq x0 hmem)
        have hfx := hfe x0 hmem
        obtain ⟨X, vx, cx, lx⟩ := x0
        simp only at hrow hfx
        have rA : RepAt wr gq (k * 6) vx cx lx := ⟨hck 0 (by decide), hck 1 (by decide), hck 2 (by decide), hck 3 (by decide), hck 4 (by decide), hck 5 (by decide)⟩
        obtain ⟨x0, x1, x2, x3, x4, x5⟩ := rA
        have hbx := Box.new wr (cellsP vx cx lx) 56
        have hA := Le.alloc wr (.cells (cellsP vx cx lx) 56)
        clear hck
        go_upto_region 5 with fail
        generalize hW : wr.alloc (.cells (cellsP vx cx lx) 56) = wq at hbx hA ⊢
        generalize hgx : wr.heap.size = gx at hbx ⊢
        clear hW x0 x1 x2 x3 x4 x5
        obtain ⟨z0, z1, z2, z3, z4, z5⟩ := hbx.rep
        have m1 := machCopyReplica X vx cx lx wq (fun i hi => ((hrow.1 i hi).le I.le).le hA) ((hrow.2.1.le I.le).le hA) ((hrow.2.2.le I.le).le hA) hfx.1 hfx.2.1 hfx.2.2
        go_wp2_with fail
        refine m1.mono ?_
        rintro e w2 ⟨ux, u1, u2, rfl, ou, l2⟩
        clear m1 hbx z0 z1 z2 z3 z4 z5
        have I2 := I.own.le (hA.trans l2)
        have IN := I.next inP (by have := HK.out; omega) (hA.trans l2) (y := (⟨X, ux, u1, u2⟩ : LP)) (show InP w2 wq.heap.size ⟨X, ux, u1, u2⟩ from ou) hA.size (by rw [HK.out, ← HX.out])
        have f0 := I2.frozen (k * 6)
        have f1 := I2.frozen (k * 6 + 1)
        have f2 := I2.frozen (k * 6 + 2)
        have f3 := I2.frozen (k * 6 + 3)
        have f4 := I2.frozen (k * 6 + 4)
        have f5 := I2.frozen (k * 6 + 5)
        have hsz : ∀ j, j < 6 → ∃ u, w2.cell? ⟨gq, k * 6 + j, none⟩ = some u := ownE_cells I2 (i := k) (by have := HK.out; simp; omega)
        obtain ⟨y0, hy0⟩ := hsz 0 (by decide)
        obtain ⟨y1, hy1⟩ := hsz 1 (by decide)
        obtain ⟨y2, hy2⟩ := hsz 2 (by decide)
        obtain ⟨y3, hy3⟩ := hsz 3 (by decide)
        obtain ⟨y4, hy4⟩ := hsz 4 (by decide)
        obtain ⟨y5, hy5⟩ := hsz 5 (by decide)
        simp only [Nat.add_zero] at hy0
        rw [HK.out, show repK.k = 6 from rfl] at IN
        clear hsz I2 hgx
        go_upto_region 6 with fail
        show Code.wp _ _ _ _ (setsW gq (k * 6) w2 0 (repK.f (⟨X, ux, u1, u2⟩ : LP)))
        generalize setsW gq (k * 6) w2 0 (repK.f (⟨X, ux, u1, u2⟩ : LP)) = w3 at IN ⊢
        clear hy0 hy1 hy2 hy3 hy4 hy5 f0 f1 f2 f3 f4 f5
        go_wp2_with fail
        go_roundw
        case rel => exact ⟨k + 1, _, by omega, by go_num, hid (by have := HK.out; simp only [List.length_append, List.length_cons, List.length_nil]; omega), IN⟩
        case measure => simp [intOf]; omega
      · obtain rfl : k = L := by omega
        have hR := I.done (by rw [HK.out, ← HL.out])
        have hle := I.le
        clear I
        go_wp2_with fail
        go_ret
        exact ⟨(some ⟨gq, 0, none⟩, k, cap), ys, rfl, hR, hle⟩
  · have hxn : xs = [] := by cases xs with | nil => rfl | cons _ _ => simp at h0
    subst hxn
    go_enter Tryz.func47, Tryz.ntmps47
    go_wp2_with fail
    refine m0.mono ?_
    rintro e w1 ⟨q, rfl, oq, l1⟩
    have hz : q.2.1 = 0 := oq.has.len
    obtain ⟨qa, qn, qcap⟩ := q
    simp only at hz
    subst hz
    go_wp2_with fail
    refine wp_loop_rounds 1 ?_
    rw [rounds_succ]
    go_wp2_with fail
    go_ret
    exact ⟨_, [], rfl, EachI.done (EachI.start oq l1) rfl, l1⟩

set_option maxRecDepth 4000 in
set_option maxHeartbeats 2000000 in
theorem copyEachT (v : Value) (xs : List LT) (w : World) (hx : HasE thK w v xs) (hq : ∀ x ∈ xs, Has w (slV x.b) x.T.b ∧ Has w (slV x.t) x.T.tl) (hfe : ∀ x ∈ xs, x.T.b.length * 8 ≤ 140737488351232 ∧ x.T.tl.length * 8 ≤ 140737488351232) (hf : xs.length * 120 ≤ 140737488351232) :
    Calls Tryz.prog 49 #[v, .func (.func 50) #[] #[]] w fun e w' => ∃ (q : Sl) (ys : List LT), e = .returned (slV q) ∧ EachR thK InT bkT LT.T w.heap.size w' (slV q) (xs.map LT.T) ys ∧ Le w w' := by
  have hc : ∀ (u : Value) (w : World), (callFunc 50 #[u]).run Tryz.prog w = .ok (.enter 50 #[u]) w := fun _ _ => by kernel_rfl
  have m0 := listsCopyT v xs w hx hf
  by_cases h0 : 0 < xs.length
  · obtain ⟨L, hL⟩ : ∃ L, L = xs.length := ⟨_, rfl⟩
    have HL : Hid (L = xs.length) := hL
    have hm : L ≤ 9223372036854775807 := by omega
    have h0' : 0 < L := by omega
    go_enter Tryz.func49, Tryz.ntmps49
    go_wp2_with fail
    refine m0.mono ?_
    rintro e w1 ⟨q, rfl, oq, l1⟩
    clear m0
    obtain ⟨gq, cap, hqv, hcap, hgq, hgl⟩ := oq.shape h0
    have hqs : q = (some ⟨gq, 0, none⟩, L, cap) := by
      simp only [slV, Value.slice.injEq] at hqv
      obtain ⟨a, b, c⟩ := hqv
      rw [hL]
      exact Prod.ext a (Prod.ext b c)
    subst hqs
    have I0 : EachI thK InT bkT LT.T w w1 (.slice (some ⟨gq, 0, none⟩) L cap) xs [] := EachI.start oq l1
    rw [← hL] at hcap
    clear oq hqv hL hf
    simp only [slV]
    go_wp2_with fail
    go_loopw [12] (fun i wr => ∃ (k : Nat) (ys : List LT), k ≤ L ∧ i = .int .i64 k ∧ Hid (ys.length = k) ∧ EachI thK InT bkT LT.T w wr (.slice (some ⟨gq, 0, none⟩) L cap) xs ys) (fun i _ => L - (intOf i).toNat)
    case atStart => exact ⟨0, [], by omega, rfl, rfl, I0⟩
    case round =>
      clear I0
      obtain ⟨k, ys, hk, rfl, HK, I⟩ := hrel
      by_cases hlt : k < L
      · have hlt' : (k : Int) < (L : Int) := by omega
        have hkx : k < xs.length := by have := HL.out; omega
        obtain ⟨x0, hx0⟩ : ∃ x, x = xs.getD k thK.d := ⟨_, rfl⟩
        have HX : Hid (x0 = xs.getD k thK.d) := hx0
        have hmem : x0 ∈ xs := by rw [hx0]; exact getD_mem hkx
        obtain ⟨a', c', hv', _, _, hcell⟩ := I.own.has
        obtain ⟨b', off', ha', hcell⟩ := hcell (by have := HK.out; simp; omega)
        simp only [Value.slice.injEq] at hv'
        rw [ha'] at hv'
        simp only [Option.some.injEq, Addr.mk.injEq, and_true] at hv'
        obtain ⟨⟨hgb, hoff⟩, hjunk⟩ := hv'
        have hck := hcell k (by have := HK.out; simp; omega)
        have hget : (ys ++ xs.drop ys.length).getD k thK.d = x0 := by
          rw [hx0, HK.out]
          simp only [List.getD]
          rw [List.getElem?_append_right (by have := HK.out; omega), List.getElem?_drop]
          congr 2
          have := HK.out
          omega
        rw [hget, ← hgb, ← hoff] at hck
        simp only [Nat.zero_add] at hck
        clear hcell hget hgb hoff ha' hx0 hjunk
        have hrow := (hq x0 hmem)
        have hfx := hfe x0 hmem
        obtain ⟨X, bx, tx⟩ := x0
        simp only at hrow hfx
        have rA : ThAt wr gq (k * 12) X bx tx := ⟨hck 0 (by decide), hck 1 (by decide), hck 2 (by decide), hck 3 (by decide), hck 4 (by decide), hck 5 (by decide), hck 6 (by decide), hck 7 (by decide), hck 8 (by decide), hck 9 (by decide), hck 10 (by decide), hck 11 (by decide)⟩
        obtain ⟨x0, x1, x2, x3, x4, x5, x6, x7, x8, x9, x10, x11⟩ := rA
        have hbx := Box.new wr (cellsT X bx tx) 45
        have hA := Le.alloc wr (.cells (cellsT X bx tx) 45)
        clear hck
        go_upto_region 5 with fail
        generalize hW : wr.alloc (.cells (cellsT X bx tx) 45) = wq at hbx hA ⊢
        generalize hgx : wr.heap.size = gx at hbx ⊢
        clear hW x0 x1 x2 x3 x4 x5 x6 x7 x8 x9 x10 x11
        obtain ⟨z0, z1, z2, z3, z4, z5, z6, z7, z8, z9, z10, z11⟩ := hbx.th
        have m1 := machCopyThread X bx tx wq ((hrow.1.le I.le).le hA) ((hrow.2.le I.le).le hA) hfx.1 hfx.2
        go_wp2_with fail
        refine m1.mono ?_
        rintro e w2 ⟨u1, u2, rfl, o1, o2, ap, l2⟩
        clear m1 hbx z0 z1 z2 z3 z4 z5 z6 z7 z8 z9 z10 z11
        have I2 := I.own.le (hA.trans l2)
        have IN := I.next inT (by have := HK.out; omega) (hA.trans l2) (y := (⟨X, u1, u2⟩ : LT)) (show InT w2 wq.heap.size ⟨X, u1, u2⟩ from ⟨o1, o2, ap⟩) hA.size (by rw [HK.out, ← HX.out])
        have f0 := I2.frozen (k * 12)
        have f1 := I2.frozen (k * 12 + 1)
        have f2 := I2.frozen (k * 12 + 2)
        have f3 := I2.frozen (k * 12 + 3)
        have f4 := I2.frozen (k * 12 + 4)
        have f5 := I2.frozen (k * 12 + 5)
        have f6 := I2.frozen (k * 12 + 6)
        have f7 := I2.frozen (k * 12 + 7)
        have f8 := I2.frozen (k * 12 + 8)
        have f9 := I2.frozen (k * 12 + 9)
        have f10 := I2.frozen (k * 12 + 10)
        have f11 := I2.frozen (k * 12 + 11)
        have hsz : ∀ j, j < 12 → ∃ u, w2.cell? ⟨gq, k * 12 + j, none⟩ = some u := ownE_cells I2 (i := k) (by have := HK.out; simp; omega)
        obtain ⟨y0, hy0⟩ := hsz 0 (by decide)
        obtain ⟨y1, hy1⟩ := hsz 1 (by decide)
        obtain ⟨y2, hy2⟩ := hsz 2 (by decide)
        obtain ⟨y3, hy3⟩ := hsz 3 (by decide)
        obtain ⟨y4, hy4⟩ := hsz 4 (by decide)
        obtain ⟨y5, hy5⟩ := hsz 5 (by decide)
        obtain ⟨y6, hy6⟩ := hsz 6 (by decide)
        obtain ⟨y7, hy7⟩ := hsz 7 (by decide)
        obtain ⟨y8, hy8⟩ := hsz 8 (by decide)
        obtain ⟨y9, hy9⟩ := hsz 9 (by decide)
        obtain ⟨y10, hy10⟩ := hsz 10 (by decide)
        obtain ⟨y11, hy11⟩ := hsz 11 (by decide)
        simp only [Nat.add_zero] at hy0
        rw [HK.out, show thK.k = 12 from rfl] at IN
        clear hsz I2 hgx
        go_upto_region 6 with fail
        show Code.wp _ _ _ _ (setsW gq (k * 12) w2 0 (thK.f (⟨X, u1, u2⟩ : LT)))
        generalize setsW gq (k * 12) w2 0 (thK.f (⟨X, u1, u2⟩ : LT)) = w3 at IN ⊢
        clear hy0 hy1 hy2 hy3 hy4 hy5 hy6 hy7 hy8 hy9 hy10 hy11 f0 f1 f2 f3 f4 f5 f6 f7 f8 f9 f10 f11
        go_wp2_with fail
        go_roundw
        case rel => exact ⟨k + 1, _, by omega, by go_num, hid (by have := HK.out; simp only [List.length_append, List.length_cons, List.length_nil]; omega), IN⟩
        case measure => simp [intOf]; omega
      · obtain rfl : k = L := by omega
        have hR := I.done (by rw [HK.out, ← HL.out])
        have hle := I.le
        clear I
        go_wp2_with fail
        go_ret
        exact ⟨(some ⟨gq, 0, none⟩, k, cap), ys, rfl, hR, hle⟩
  · have hxn : xs = [] := by cases xs with | nil => rfl | cons _ _ => simp at h0
    subst hxn
    go_enter Tryz.func49, Tryz.ntmps49
    go_wp2_with fail
    refine m0.mono ?_
    rintro e w1 ⟨q, rfl, oq, l1⟩
    have hz : q.2.1 = 0 := oq.has.len
    obtain ⟨qa, qn, qcap⟩ := q
    simp only at hz
    subst hz
    go_wp2_with fail
    refine wp_loop_rounds 1 ?_
    rw [rounds_succ]
    go_wp2_with fail
    go_ret
    exact ⟨_, [], rfl, EachI.done (EachI.start oq l1) rfl, l1⟩

end Go.Proofs.YtnemldboiogdkaaGreat

/-
  THE WALK over package machines' Copy: the same machine, each of its rows in a block of its own. Condition: that the machine's rows can be copied.
-/
namespace Go.Proofs.YtnemldboiogdkaaGreat
open Go.RowKit

theorem Box.mset5 {w : World} {g : Nat} {c : Cfg} {a b d e q : Sl} {ty : TypeId} (h : Box w g (cells9 c a b d e) ty) : Box (w.setCell ⟨g, 5, none⟩ (slV q)) g (cells9 c q b d e) ty := h.set 5 _
theorem Box.mset6 {w : World} {g : Nat} {c : Cfg} {a b d e q : Sl} {ty : TypeId} (h : Box w g (cells9 c a b d e) ty) : Box (w.setCell ⟨g, 6, none⟩ (slV q)) g (cells9 c a q d e) ty := h.set 6 _
theorem Box.mset7 {w : World} {g : Nat} {c : Cfg} {a b d e q : Sl} {ty : TypeId} (h : Box w g (cells9 c a b d e) ty) : Box (w.setCell ⟨g, 7, none⟩ (slV q)) g (cells9 c a b q e) ty := h.set 7 _
theorem Box.mset8 {w : World} {g : Nat} {c : Cfg} {a b d e q : Sl} {ty : TypeId} (h : Box w g (cells9 c a b d e) ty) : Box (w.setCell ⟨g, 8, none⟩ (slV q)) g (cells9 c a b d q) ty := h.set 8 _

set_option maxRecDepth 8000 in
set_option maxHeartbeats 8000000 in
theorem machCopy (v : Value) (M : Mc) (w : World) (hx : HasM w v M) (hf : FitM M) :
    Calls Tryz.prog 22 #[v] w fun e w' => ∃ L : Lay, e = .returned L.v ∧ L.M = M ∧ OwnsM w' w.heap.size L ∧ ApartM L ∧ Le w w' := by
  obtain ⟨c, Rs, Ps, Ts, Es⟩ := M
  obtain ⟨qR, qP, qT, qH, rfl, ⟨xR, hxR, hER, hiR⟩, ⟨xP, hxP, hEP, hiP⟩, ⟨xT, hxT, hET, hiT⟩, hEH⟩ := hx
  obtain ⟨f1, f2, f3, f4, f5, f6, f7⟩ := hf
  simp only at hxR hxP hxT f1 f2 f3 f4 f5 f6 f7 hEH ⊢
  have hfR : ∀ x ∈ xR, FitR x.R := fun x hx => f5 _ (by rw [← hxR]; exact List.mem_map_of_mem hx)
  have hfP : ∀ x ∈ xP, Fit x.P.s ∧ x.P.cs.length * 8 ≤ 140737488351232 ∧ x.P.ls.length * 8 ≤ 140737488351232 := fun x hx => f6 _ (by rw [← hxP]; exact List.mem_map_of_mem hx)
  have hfT : ∀ x ∈ xT, x.T.b.length * 8 ≤ 140737488351232 ∧ x.T.tl.length * 8 ≤ 140737488351232 := fun x hx => f7 _ (by rw [← hxT]; exact List.mem_map_of_mem hx)
  have gR : xR.length * 48 ≤ 140737488351232 := by have := congrArg List.length hxR; simp at this; omega
  have gP : xP.length * 144 ≤ 140737488351232 := by have := congrArg List.length hxP; simp at this; omega
  have gT : xT.length * 120 ≤ 140737488351232 := by have := congrArg List.length hxT; simp at this; omega
  have m1 := fun w' (l : Le w w') => copyEachR (slV qR) xR w' (hER.le l) (fun x hx => (hiR x hx).le l) hfR gR
  have m2 := fun w' (l : Le w w') => copyEachP (slV qP) xP w' (hEP.le l) (fun x hx => ⟨fun i hi => ((hiP x hx).1 i hi).le l, (hiP x hx).2.1.le l, (hiP x hx).2.2.le l⟩) hfP gP
  have m3 := fun w' (l : Le w w') => copyEachT (slV qT) xT w' (hET.le l) (fun x hx => ⟨(hiT x hx).1.le l, (hiT x hx).2.le l⟩) hfT gT
  have m4 := fun w' (l : Le w w') => listsCopyE (slV qH) Es w' (hEH.le l) f4
  rw [hxR] at m1
  rw [hxP] at m2
  rw [hxT] at m3
  clear hER hiR hEP hiP hET hiT hEH f1 f2 f3 f4 f5 f6 f7 hfR hfP hfT gR gP gT hxR hxP hxT xR xP xT
  have hr := Box.new (w.alloc (.cells (cells9 c qR qP qT qH) 29)) cellsZ9 29
  have hb := (Box.new w (cells9 c qR qP qT qH) 29).le (Le.alloc _ (.cells cellsZ9 29))
  have hl := (Le.alloc w (.cells (cells9 c qR qP qT qH) 29)).trans (Le.alloc _ (.cells cellsZ9 29))
  rw [World.size_alloc] at hr
  have hgw : w.heap.size < ((w.alloc (.cells (cells9 c qR qP qT qH) 29)).alloc (.cells cellsZ9 29)).heap.size := by simp; omega
  go_enter Tryz.func22, Tryz.ntmps22
  go_upto_region 1 with fail
  generalize hW : (w.alloc (.cells (cells9 c qR qP qT qH) 29)).alloc (.cells cellsZ9 29) = W at hl hb hr hgw ⊢
  clear hW
  have y5 := hb.mach.2.1
  go_wp2_with fail
  refine (m1 _ hl).mono ?_
  rintro e w1 ⟨q1, yR, rfl, E1, l1⟩
  clear m1 y5
  replace hb := hb.le l1
  replace hr := hr.le l1
  replace hl := hl.trans l1
  have y5 := hb.mach.2.1
  have k5 := hb.frozen 5
  have hb2 := hb.mset5 (q := q1)
  have hr2 := hr.other (show w.heap.size + 1 ≠ w.heap.size by omega) 5 (slV q1)
  have hl2 := hl.set (g := w.heap.size) (i := 5) (u := slV q1) (Nat.le_refl _)
  have E1' := E1.setR (i := 5) (u := slV q1) hb
  have hs1 : W.heap.size ≤ (w1.setCell ⟨w.heap.size, 5, none⟩ (slV q1)).heap.size := by simp; exact l1.size
  go_upto_region 2 with fail
  clear y5 k5 hb hr hl E1
  generalize hW : w1.setCell ⟨w.heap.size, 5, none⟩ (slV q1) = W1 at hb2 hr2 hl2 E1' hs1 ⊢
  clear hW l1
  have y6 := hb2.mach.2.2.1
  go_wp2_with fail
  refine (m2 _ hl2).mono ?_
  rintro e w2 ⟨q2, yP, rfl, E2, l2⟩
  clear m2 y6
  replace hb := hb2.le l2
  replace hr := hr2.le l2
  replace hl := hl2.trans l2
  replace E1' := E1'.le inR l2
  have y6 := hb.mach.2.2.1
  have k6 := hb.frozen 6
  have hb3 := hb.mset6 (q := q2)
  have hr3 := hr.other (show w.heap.size + 1 ≠ w.heap.size by omega) 6 (slV q2)
  have hl3 := hl.set (g := w.heap.size) (i := 6) (u := slV q2) (Nat.le_refl _)
  have E1'' := E1'.setR (i := 6) (u := slV q2) hb
  have E2' := E2.setP (i := 6) (u := slV q2) hb
  have hs2 : W1.heap.size ≤ (w2.setCell ⟨w.heap.size, 6, none⟩ (slV q2)).heap.size := by simp; exact l2.size
  have hlt : ∀ y ∈ yP, ∀ g, bkP y g → g < (w2.setCell ⟨w.heap.size, 6, none⟩ (slV q2)).heap.size := fun y hy g h => (inP.blk (E2'.inn y hy) h).2
  go_upto_region 3 with fail
  clear y6 k6 hb hr hl E1' E2 hb2 hr2 hl2
  generalize hW : w2.setCell ⟨w.heap.size, 6, none⟩ (slV q2) = W2 at hb3 hr3 hl3 E1'' E2' hs2 hlt ⊢
  clear hW l2
  have y7 := hb3.mach.2.2.2.1
  go_wp2_with fail
  refine (m3 _ hl3).mono ?_
  rintro e w3 ⟨q3, yT, rfl, E3, l3⟩
  clear m3 y7
  replace hb := hb3.le l3
  replace hr := hr3.le l3
  replace hl := hl3.trans l3
  replace E1 := E1''.le inR l3
  replace E2 := E2'.le inP l3
  have y7 := hb.mach.2.2.2.1
  have k7 := hb.frozen 7
  have hb4 := hb.mset7 (q := q3)
  have hr4 := hr.other (show w.heap.size + 1 ≠ w.heap.size by omega) 7 (slV q3)
  have hl4 := hl.set (g := w.heap.size) (i := 7) (u := slV q3) (Nat.le_refl _)
  have E1' := E1.setR (i := 7) (u := slV q3) hb
  replace E2' := E2.setP (i := 7) (u := slV q3) hb
  have E3' := E3.setT (i := 7) (u := slV q3) hb
  go_upto_region 4 with fail
  clear y7 k7 hb hr hl E1 E2 E3 E1'' hb3 hr3 hl3
  generalize hW : w3.setCell ⟨w.heap.size, 7, none⟩ (slV q3) = W3 at hb4 hr4 hl4 E1' E2' E3' ⊢
  clear hW l3
  have y8 := hb4.mach.2.2.2.2
  go_wp2_with fail
  refine (m4 _ hl4).mono ?_
  rintro e w4 ⟨q4, rfl, oH, l4⟩
  clear m4 y8
  have hs4 := hl4.size
  replace hb := hb4.le l4
  replace hr := hr4.le l4
  replace hl := hl4.trans l4
  replace E1 := E1'.le inR l4
  replace E2 := E2'.le inP l4
  replace E3 := E3'.le inT l4
  have y8 := hb.mach.2.2.2.2
  have k8 := hb.frozen 8
  have hb5 := hb.mset8 (q := q4)
  have hr5 := hr.other (show w.heap.size + 1 ≠ w.heap.size by omega) 8 (slV q4)
  have hl5 := hl.set (g := w.heap.size) (i := 8) (u := slV q4) (Nat.le_refl _)
  replace E1' := E1.setR (i := 8) (u := slV q4) hb
  replace E2' := E2.setP (i := 8) (u := slV q4) hb
  replace E3' := E3.setT (i := 8) (u := slV q4) hb
  have oH' : OwnE evK (w4.setCell ⟨w.heap.size, 8, none⟩ (slV q4)) w.heap.size (slV q4) Es := own_setM hb (oH.base hs4) (by decide)
  go_upto_region 5 with fail
  clear y8 k8 hb hr hl E1 E2 E3 hb4 hr4 hl4 oH
  generalize hW : w4.setCell ⟨w.heap.size, 8, none⟩ (slV q4) = W4 at hb5 hr5 hl5 E1' E2' E3' oH' ⊢
  clear hW l4
  have hfin := each_ownsM (c := c) (B := w.heap.size) (w := W4) ⟨E1'.own.base (by omega), fun y hy => inR.base (E1'.inn y hy) (by omega), E1'.ap, E1'.same⟩ E2' E3' oH' (by omega) (by omega) hlt
  obtain ⟨⟨y0, y1, y2, y3, y4⟩, y5, y6, y7, y8⟩ := (hb5).mach
  obtain ⟨⟨r0, r1, r2, r3, r4, r5, r6, r7, r8⟩, k0, k1, k2, k3, k4, k5, k6, k7, k8⟩ := hr5.res
  clear E1' E2' E3' oH' hlt
  go_wp2_with fail
  refine bodyPost_ret (v := machV c q1 q2 q3 q4) (by simp [results, Tryz.results22, go_sem, r0, r1, r2, r3, r4, r5, r6, r7, r8]) rfl ⟨⟨c, q1, q2, q3, q4, yR, yP, yT, Es⟩, rfl, hfin.1, ?_, hfin.2.2, hl5.put9 (by omega) c q1 q2 q3 q4⟩
  have o := hfin.2.1
  have hne : ∀ {t : TypeId} {kk n : Nat} {v : Value} {us : List Value}, World.ownsRow W4 w.heap.size t kk v n us → t ≠ 29 → (put9 W4 (w.heap.size + 1) c q1 q2 q3 q4).ownsRow w.heap.size t kk v n us := fun {t kk n v us} h ht => row_put9 h (fun e => by
    rcases h.2 with ⟨e2, _⟩ | ⟨g', cap, cur, hv, _, hh, _⟩
    · rw [e2] at e; simp [Value.ownBlock] at e
    · rw [hv] at e
      simp [Value.ownBlock] at e
      subst e
      unfold Box at hr5
      rw [hr5] at hh
      simp at hh
      exact ht hh.2.symm) _ _ _ _ _
  exact ⟨hne o.oR (by decide), hne o.oP (by decide), hne o.oT (by decide), hne o.oH (by decide), fun y hy => hne (o.iR y hy) (by decide), fun y hy => ⟨fun i hi => hne ((o.iP y hy).1 i hi) (by decide), hne (o.iP y hy).2.1 (by decide), hne (o.iP y hy).2.2 (by decide)⟩, fun y hy => ⟨hne (o.iT y hy).1 (by decide), hne (o.iT y hy).2 (by decide)⟩⟩

end Go.Proofs.YtnemldboiogdkaaGreat

/-
  PLAIN GROUND, NO WALK: more of the call's own machine in a variable: where a replica lies, blocks that are apart by their types. No condition.
-/
namespace Go.Proofs.YtnemldboiogdkaaGreat
open Go.RowKit

theorem OwnE.ne {α : Type} {K : Kind α} {w : World} {base g g' n c : Nat} {q : Sl} {xs : List α} {cs : Array Value} {t : TypeId} (h : OwnE K w base (slV q) xs) (hq : q = (some ⟨g', 0, none⟩, n, c)) (hb : Box w g cs t) (ht : t ≠ K.t) : g ≠ g' := fun e => h.apart hb ht (by rw [hq, e]; rfl)
theorem MoI.neT {B g g' gT n c : Nat} {w : World} {L : Lay} (h : MoI B g w L) {cs : Array Value} {t : TypeId} (hq : L.qT = (some ⟨gT, 0, none⟩, n, c)) (hb : Box w g' cs t) (ht : t ≠ 45) : g' ≠ gT := h.own.oT.ne hq hb ht
end Go.Proofs.YtnemldboiogdkaaGreat

/-
  THE WALKS over package lists' Has and package machines' HasLog and HasThread and package lock's with: is there such a replica and log; a copy of a machine in which one lock is another one. Condition: that the machine's rows can be copied.
-/
namespace Go.Proofs.YtnemldboiogdkaaGreat
open Go.RowKit

theorem listsHasR (q : Sl) (x : Int) (w : World) (hq : q.2.1 ≤ 4611686018427387904) : Calls Tryz.prog 125 #[slV q, .int .i64 x] w fun e w' => e = .returned (.bool (inB 0 x (q.2.1 - 1))) ∧ w = w' := by
  obtain ⟨a, n, cap⟩ := q
  simp only at hq
  by_cases h1 : 0 ≤ x
  all_goals
    go_enter Tryz.func125, Tryz.ntmps125
    go_wp2
    go_ret
    exact ⟨ret_bool (by rw [Bool.eq_iff_iff]; simp [inB]; omega), rfl⟩
theorem listsHasP (q : Sl) (x : Int) (w : World) (hq : q.2.1 ≤ 4611686018427387904) : Calls Tryz.prog 124 #[slV q, .int .i64 x] w fun e w' => e = .returned (.bool (inB 0 x (q.2.1 - 1))) ∧ w = w' := by
  obtain ⟨a, n, cap⟩ := q
  simp only at hq
  by_cases h1 : 0 ≤ x
  all_goals
    go_enter Tryz.func124, Tryz.ntmps124
    go_wp2
    go_ret
    exact ⟨ret_bool (by rw [Bool.eq_iff_iff]; simp [inB]; omega), rfl⟩
theorem listsHasT (q : Sl) (x : Int) (w : World) (hq : q.2.1 ≤ 4611686018427387904) : Calls Tryz.prog 42 #[slV q, .int .i64 x] w fun e w' => e = .returned (.bool (inB 0 x (q.2.1 - 1))) ∧ w = w' := by
  obtain ⟨a, n, cap⟩ := q
  simp only at hq
  by_cases h1 : 0 ≤ x
  all_goals
    go_enter Tryz.func42, Tryz.ntmps42
    go_wp2
    go_ret
    exact ⟨ret_bool (by rw [Bool.eq_iff_iff]; simp [inB]; omega), rfl⟩

/-- May a machine be, and is there such a replica and log? -/
def atRG (M : Mc) (r g : Int) : Bool := mayM M && (inB 0 r (M.c.r - 1) && inB 0 g (M.c.l - 1))
theorem atRG_there {M : Mc} {r g t : Int} : thereB M r g t = (atRG M r g && inB 0 t (M.c.t - 1)) := by
  unfold thereB atRG
  cases mayM M <;> cases inB 0 r (M.c.r - 1) <;> cases inB 0 g (M.c.l - 1) <;> rfl
theorem atRG_zero {M : Mc} {r g : Int} : thereB M r g 0 = atRG M r g := by
  rw [atRG_there]
  cases h : atRG M r g
  · rfl
  · unfold atRG at h
    simp only [Bool.and_eq_true] at h
    obtain ⟨_, _, _, ⟨t0, t1⟩, _⟩ := Cfg.ok_cases (mayM_ok h.1)
    rw [inB_yes (by omega) (by omega)]
    rfl

theorem atT_there {M : Mc} {t : Int} : thereB M 0 0 t = (mayM M && inB 0 t (M.c.t - 1)) := by
  unfold thereB
  cases h : mayM M
  · rfl
  · obtain ⟨_, ⟨r0, r1⟩, ⟨g0, g1⟩, _⟩ := Cfg.ok_cases (mayM_ok h)
    rw [inB_yes (a := 0) (x := 0) (b := M.c.r - 1) (by omega) (by omega), inB_yes (a := 0) (x := 0) (b := M.c.l - 1) (by omega) (by omega)]
    rfl

set_option maxRecDepth 4000 in
set_option maxHeartbeats 4000000 in
theorem machHasLog (v : Value) (M : Mc) (r g : Int) (w : World) (hx : HasM w v M) (hf : FitM M) : Calls Tryz.prog 81 #[v, .int .i64 r, .int .i64 g] w fun e w' => e = .returned (.bool (atRG M r g)) ∧ Le w w' := by
  have m1 := fun w' (l : Le w w') => startMay v M w' (hx.le l) hf
  have hlen := hx
  obtain ⟨qR, qP, qT, qH, rfl, hR, hP, hT, hH⟩ := hx
  have lR := hR.len
  have lP := hP.len
  have gR : qR.2.1 ≤ 4611686018427387904 := by have := hf.rs; omega
  have gP : qP.2.1 ≤ 4611686018427387904 := by have := hf.ps; omega
  have hb := Box.new w (cells9 M.c qR qP qT qH) 29
  have hl := Le.alloc w (.cells (cells9 M.c qR qP qT qH) 29)
  have HL : Hid (qR.2.1 = M.rs.length ∧ qP.2.1 = M.ps.length) := ⟨lR, lP⟩
  clear lR lP hR hP hT hH hlen
  cases h1 : mayM M
  · rw [h1] at m1
    have hA : atRG M r g = false := by unfold atRG; rw [h1]; rfl
    rw [hA]
    go_enter Tryz.func81, Tryz.ntmps81
    go_upto_region 1 with fail
    generalize hW : w.alloc (.cells (cells9 M.c qR qP qT qH) 29) = W at hl hb ⊢
    clear hW
    obtain ⟨⟨z0, z1, z2, z3, z4⟩, z5, z6, z7, z8⟩ := (hb).mach
    go_wp2_with fail
    refine (m1 _ hl).mono ?_
    rintro e w1 ⟨rfl, l1⟩
    go_wp2_with fail
    go_ret
    exact ⟨rfl, hl.trans l1⟩
  · rw [h1] at m1
    obtain ⟨k1, k2, _, _⟩ := mayM_lens h1
    have e1 : M.c.r - 1 = (qP.2.1 : Int) - 1 := by rw [HL.out.2]; omega
    have e2 : M.c.l - 1 = (qR.2.1 : Int) - 1 := by rw [HL.out.1]; omega
    have hA : atRG M r g = (inB 0 r ((qP.2.1 : Int) - 1) && inB 0 g ((qR.2.1 : Int) - 1)) := by unfold atRG; rw [h1, e1, e2]; rfl
    rw [hA]
    clear hA e1 e2 k1 k2 h1
    have m3 := fun w' => listsHasP qP r w' gP
    have m4 := fun w' => listsHasR qR g w' gR
    obtain ⟨x1, hx1⟩ : ∃ x, x = inB 0 r ((qP.2.1 : Int) - 1) := ⟨_, rfl⟩
    obtain ⟨x2, hx2⟩ : ∃ x, x = inB 0 g ((qR.2.1 : Int) - 1) := ⟨_, rfl⟩
    rw [← hx1] at m3
    rw [← hx2] at m4
    rw [← hx1, ← hx2]
    clear hx1 hx2
    cases x1
    · go_enter Tryz.func81, Tryz.ntmps81
      go_upto_region 1 with fail
      generalize hW : w.alloc (.cells (cells9 M.c qR qP qT qH) 29) = W at hl hb ⊢
      clear hW
      obtain ⟨⟨z0, z1, z2, z3, z4⟩, z5, z6, z7, z8⟩ := (hb).mach
      go_wp2_with fail
      refine (m1 _ hl).mono ?_
      rintro e w1 ⟨rfl, l1⟩
      replace hb := hb.le l1
      clear z0 z1 z2 z3 z4 z5 z6 z7 z8
      obtain ⟨⟨z0, z1, z2, z3, z4⟩, z5, z6, z7, z8⟩ := (hb).mach
      go_wp2_with fail
      refine (m3 _).mono ?_
      rintro e _ ⟨rfl, rfl⟩
      go_wp2_with fail
      go_ret
      exact ⟨rfl, hl.trans l1⟩
    · go_enter Tryz.func81, Tryz.ntmps81
      go_upto_region 1 with fail
      generalize hW : w.alloc (.cells (cells9 M.c qR qP qT qH) 29) = W at hl hb ⊢
      clear hW
      obtain ⟨⟨z0, z1, z2, z3, z4⟩, z5, z6, z7, z8⟩ := (hb).mach
      go_wp2_with fail
      refine (m1 _ hl).mono ?_
      rintro e w1 ⟨rfl, l1⟩
      replace hb := hb.le l1
      clear z0 z1 z2 z3 z4 z5 z6 z7 z8
      obtain ⟨⟨z0, z1, z2, z3, z4⟩, z5, z6, z7, z8⟩ := (hb).mach
      go_wp2_with fail
      refine (m3 _).mono ?_
      rintro e _ ⟨rfl, rfl⟩
      go_wp2_with fail
      refine (m4 _).mono ?_
      rintro e _ ⟨rfl, rfl⟩
      go_wp2_with fail
      go_ret
      exact ⟨rfl, hl.trans l1⟩

set_option maxRecDepth 4000 in
set_option maxHeartbeats 4000000 in
theorem machHasThread (v : Value) (M : Mc) (t : Int) (w : World) (hx : HasM w v M) (hf : FitM M) : Calls Tryz.prog 20 #[v, .int .i64 t] w fun e w' => e = .returned (.bool (thereB M 0 0 t)) ∧ Le w w' := by
  have m1 := fun w' (l : Le w w') => startMay v M w' (hx.le l) hf
  obtain ⟨qR, qP, qT, qH, rfl, hR, hP, hT, hH⟩ := hx
  have lT := hT.len
  have gT : qT.2.1 ≤ 4611686018427387904 := by have := hf.ts; omega
  have hb := Box.new w (cells9 M.c qR qP qT qH) 29
  have hl := Le.alloc w (.cells (cells9 M.c qR qP qT qH) 29)
  have HL : Hid (qT.2.1 = M.ts.length) := lT
  clear lT hR hP hT hH
  cases h1 : mayM M
  · rw [h1] at m1
    have hA : thereB M 0 0 t = false := by rw [atT_there, h1]; rfl
    rw [hA]
    go_enter Tryz.func20, Tryz.ntmps20
    go_upto_region 1 with fail
    generalize hW : w.alloc (.cells (cells9 M.c qR qP qT qH) 29) = W at hl hb ⊢
    clear hW
    obtain ⟨⟨z0, z1, z2, z3, z4⟩, z5, z6, z7, z8⟩ := (hb).mach
    go_wp2_with fail
    refine (m1 _ hl).mono ?_
    rintro e w1 ⟨rfl, l1⟩
    go_wp2_with fail
    go_ret
    exact ⟨rfl, hl.trans l1⟩
  · rw [h1] at m1
    obtain ⟨_, _, k3, _⟩ := mayM_lens h1
    have e1 : M.c.t - 1 = (qT.2.1 : Int) - 1 := by rw [HL.out]; omega
    have hA : thereB M 0 0 t = inB 0 t ((qT.2.1 : Int) - 1) := by rw [atT_there, h1, e1]; rfl
    rw [hA]
    clear hA e1 k3 h1
    have m3 := fun w' => listsHasT qT t w' gT
    obtain ⟨x1, hx1⟩ : ∃ x, x = inB 0 t ((qT.2.1 : Int) - 1) := ⟨_, rfl⟩
    rw [← hx1] at m3 ⊢
    clear hx1
    go_enter Tryz.func20, Tryz.ntmps20
    go_upto_region 1 with fail
    generalize hW : w.alloc (.cells (cells9 M.c qR qP qT qH) 29) = W at hl hb ⊢
    clear hW
    obtain ⟨⟨z0, z1, z2, z3, z4⟩, z5, z6, z7, z8⟩ := (hb).mach
    go_wp2_with fail
    refine (m1 _ hl).mono ?_
    rintro e w1 ⟨rfl, l1⟩
    replace hb := hb.le l1
    clear z0 z1 z2 z3 z4 z5 z6 z7 z8
    obtain ⟨⟨z0, z1, z2, z3, z4⟩, z5, z6, z7, z8⟩ := (hb).mach
    go_wp2_with fail
    refine (m3 _).mono ?_
    rintro e _ ⟨rfl, rfl⟩
    go_wp2_with fail
    go_ret
    exact ⟨rfl, hl.trans l1⟩

end Go.Proofs.YtnemldboiogdkaaGreat

/-
  THE WALKS over lists.Which at threads (with a function that holds three variables) and package board's Post and Waiting: what each answers, for every machine, thread and place. Condition: that the machine's rows can be copied.
-/
namespace Go.Proofs.YtnemldboiogdkaaGreat
open Go.RowKit

/-- The numbers of those of which it is so. -/
def whichL (p : Nat → Bool) (n : Nat) : List Int := ((List.range n).filter p).map Int.ofNat
theorem whichL_no {p : Nat → Bool} {k : Nat} (h : p k = false) : whichL p (k + 1) = whichL p k := by
  unfold whichL
  rw [List.range_succ, List.filter_append, List.map_append]
  simp [h]
theorem whichL_yes {p : Nat → Bool} {k : Nat} (h : p k = true) : whichL p (k + 1) = whichL p k ++ [(k : Int)] := by
  unfold whichL
  rw [List.range_succ, List.filter_append, List.map_append]
  simp [h]
theorem whichL_len (p : Nat → Bool) (k : Nat) : (whichL p k).length ≤ k := by
  unfold whichL
  rw [List.length_map]
  exact Nat.le_trans (List.length_filter_le _ _) (by simp)

set_option maxRecDepth 8000 in
set_option maxHeartbeats 8000000 in
theorem listsWhich (f : Nat) (c1 c2 c3 : Value) (p : Nat → Bool) (hc : ∀ (a u : Value) (w : World), (callFunc f #[a, u, c1, c2, c3]).run Tryz.prog w = .ok (.enter f #[a, u, c1, c2, c3]) w) (v : Value) (xs : List Th) (w : World)
    (hp : ∀ w', Le w w' → ∀ (k : Nat) (u : Value), k < xs.length → HasT w' u (xs.getD k Th.zero) → Calls Tryz.prog f #[.int .i64 k, u, c1, c2, c3] w' fun e w'' => e = .returned (.bool (p k)) ∧ Le w' w'') (hx : HasTs w v xs) (hm : xs.length ≤ 4) :
    Calls Tryz.prog 84 #[v, .func (.func f) #[] #[c1, c2, c3]] w fun e w' => ∃ q : Sl, e = .returned (slV q) ∧ Own w' w.heap.size (slV q) (whichL p xs.length) ∧ Le w w' := by
  obtain ⟨a, cap, rfl, hc', _, hx⟩ := hx.open
  by_cases h0 : 0 < xs.length
  · obtain ⟨b, off, rfl, hcell⟩ := hx h0
    clear hx
    obtain ⟨L, hL⟩ : ∃ L, L = xs.length := ⟨_, rfl⟩
    have HL : Hid (L = xs.length) := hL
    rw [← hL] at hm h0 hc' hcell ⊢
    clear hL
    go_enter Tryz.func84, Tryz.ntmps84
    go_wp2
    go_loopw [5, 10] (fun o i wr => ∃ (k : Nat) (q : Sl), k ≤ L ∧ o = slV q ∧ i = .int .i64 k ∧ Hid (Own wr w.heap.size (slV q) (whichL p k)) ∧ Le w wr) (fun _ i _ => L - (intOf i).toNat)
    case atStart => exact ⟨0, slZ, by omega, rfl, rfl, Own.nil _ _, Le.refl _⟩
    case round =>
      obtain ⟨k, q, hk, rfl, rfl, HO, hle⟩ := hrel
      by_cases hlt : k < L
      · obtain ⟨qb, qt, rA, hqb, hqt⟩ := hcell k hlt
        obtain ⟨s, hs⟩ : ∃ s, s = xs.getD k Th.zero := ⟨_, rfl⟩
        have HS : Hid (s = xs.getD k Th.zero) := hs
        have hm2 := fun w' (l : Le w w') => hp w' l k (thV s qb qt) (by have := HL.out; omega) (by rw [← hs]; exact ⟨qb, qt, rfl, by rw [hs]; exact hqb.le l, by rw [hs]; exact hqt.le l⟩)
        rw [← hs] at rA
        obtain ⟨x0, x1, x2, x3, x4, x5, x6, x7, x8, x9, x10, x11⟩ := rA.le hle
        have hlt' : (k : Int) < (L : Int) := by omega
        clear hs hcell hp hqb hqt rA
        cases hh : p k
        · simp only [hh] at hm2
          have HN : Hid (whichL p (k + 1) = whichL p k) := whichL_no hh
          clear hh
          go_wp2_with fail
          refine (hm2 _ (hle.trans (Le.alloc _ _))).mono ?_
          rintro e w1 ⟨rfl, l1⟩
          go_wp2
          go_roundw
          case rel => exact ⟨k + 1, q, by omega, rfl, by go_num, by rw [HN.out]; exact (HO.out.le (Le.alloc _ _)).le l1, (hle.trans (Le.alloc _ _)).trans l1⟩
          case measure => simp [intOf]; omega
        · simp only [hh] at hm2
          have HN : Hid (whichL p (k + 1) = whichL p k ++ [(k : Int)]) := whichL_yes hh
          clear hh
          go_wp2_with fail
          refine (hm2 _ (hle.trans (Le.alloc _ _))).mono ?_
          rintro e w3 ⟨rfl, l3⟩
          have h13 := (hle.trans (Le.alloc _ _)).trans l3
          have ho := (HO.out.le (Le.alloc _ _)).le l3
          have hlit := Own.lit w3 w3.heap.size (Nat.le_refl _) [(k : Int)] (by simp)
          replace hlit : Own (w3.alloc (.cells #[.int .i64 (k : Int)] 3)) w3.heap.size (.slice (some ⟨w3.heap.size, 0, none⟩) 1 1) [(k : Int)] := hlit
          have hA4 := Le.alloc w3 (.cells #[.int .i64 (k : Int)] 3)
          have ho4 := ho.le hA4
          have h14 := h13.trans hA4
          have hwl := whichL_len p k
          go_wp2_with (at_builtin; refine wp_append_ints rfl _ _ rfl w.heap.size _ _ (whichL p k) [(k : Int)] rfl rfl ho4 hlit.has (by show ((whichL p k).length + 1) * 8 ≤ _; omega) h14.size ?_; intro v' w7 o8 hg8; obtain ⟨q', rfl⟩ := o8.has.sl)
          go_roundw
          case rel => exact ⟨k + 1, q', by omega, rfl, by go_num, by rw [HN.out]; exact o8, Below.grown h14 hg8 h14.size (fun gz e => (ho4.block e).1)⟩
          case measure => simp [intOf]; omega
      · obtain rfl : k = L := by omega
        go_wp2
        go_ret
        exact ⟨q, rfl, HO.out, hle⟩
  · have hxn : xs = [] := by cases xs with | nil => rfl | cons _ _ => simp at h0
    subst hxn
    go_enter Tryz.func84, Tryz.ntmps84
    go_wp2
    refine wp_loop_rounds 1 ?_
    rw [rounds_succ]
    go_wp2
    go_ret
    exact ⟨slZ, rfl, Own.nil _ _, Le.refl _⟩

set_option maxRecDepth 8000 in
set_option maxHeartbeats 8000000 in
theorem boardWaits (M : Mc) (r g : Int) (k gm gr gg : Nat) (qR qP qT qH qb qt : Sl) (w : World) (hmay : mayM M = true) (hk : k < M.ts.length) (bm : Box w gm (cells9 M.c qR qP qT qH) 29) (br : Box w gr #[.int .i64 r] 3) (bg : Box w gg #[.int .i64 g] 3) :
    Calls Tryz.prog 82 #[.int .i64 k, thV (M.ts.getD k Th.zero) qb qt, .pointer (some ⟨gm, 0, none⟩), .pointer (some ⟨gr, 0, none⟩), .pointer (some ⟨gg, 0, none⟩)] w fun e w' => e = .returned (.bool (waitsB M r g k)) ∧ Le w w' := by
  obtain ⟨_, _, hts, _⟩ := mayM_lens hmay
  obtain ⟨_, ⟨_, _⟩, _⟩ := Cfg.ok_cases (mayM_ok hmay)
  have hrep : repS M.c.o M.c.r M.c.l M.c.t M.c.s (k : Int) = ((k : Int) % M.c.r, 0) := repS_yes (mayM_ok hmay) (by omega) (by omega)
  have m2 := fun w' => repAs hrep w'
  obtain ⟨T, hT⟩ : ∃ x, x = M.ts.getD k Th.zero := ⟨_, rfl⟩
  have HV : Hid (waitsB M r g k = (decide ((k : Int) % M.c.r = r) && (opUp T.c T.r T.a && (decide (T.lg = g) && T.po)))) := by unfold waitsB; rw [Mc.th_nat, ← hT]; exact rfl
  rw [← hT]
  obtain ⟨hm, hhm⟩ : ∃ x, x = (k : Int) % M.c.r := ⟨_, rfl⟩
  rw [← hhm] at m2 HV
  clear hhm hT hts hrep hmay hk
  have hbx := Box.new w (cellsT T qb qt) 45
  have hA := Le.alloc w (.cells (cellsT T qb qt) 45)
  have br0 := br.cell 0
  have bg0 := bg.cell 0
  simp only [List.getElem?_toArray, List.getElem?_cons_zero] at br0 bg0
  go_enter Tryz.func82, Tryz.ntmps82
  go_upto_region 1 with fail
  generalize hW : w.alloc (.cells (cellsT T qb qt) 45) = W at hbx hA ⊢
  clear hW
  obtain ⟨⟨z0, z1, z2, z3, z4⟩, z5, z6, z7, z8⟩ := ((bm.le hA)).mach
  replace br0 := cell_le br0 hA
  replace bg0 := cell_le bg0 hA
  obtain ⟨x0, x1, x2, x3, x4, x5, x6, x7, x8, x9, x10, x11⟩ := hbx.th
  go_wp2_with fail
  refine (m2 _).mono ?_
  rintro e w3 ⟨rfl, l3⟩
  clear z0 z1 z2 z3 z4 z5 z6 z7 z8
  clear x0 x1 x2 x3 x4 x5 x6 x7 x8 x9 x10 x11
  obtain ⟨x0, x1, x2, x3, x4, x5, x6, x7, x8, x9, x10, x11⟩ := (hbx.le l3).th
  replace br0 := cell_le br0 l3
  replace bg0 := cell_le bg0 l3
  have hl := hA.trans l3
  by_cases e1 : hm = r
  case neg =>
    have hb1 : (hm == r) = false := by simp [e1]
    have hV : Hid _ := (show waitsB M r g k = false by rw [HV.out, decide_eq_false e1]; rfl)
    clear e1
    go_wp2_with fail
    go_ret
    exact ⟨ret_bool hV.out.symm, hl⟩
  have hb1 : (hm == r) = true := by simp [e1]
  have HE1 : Hid (decide (hm = r) = true) := decide_eq_true e1
  clear e1
  by_cases e3 : T.lg = g
  case neg =>
    have hb3 : (T.lg == g) = false := by simp [e3]
    have hV : Hid _ := (show waitsB M r g k = false by rw [HV.out, HE1.out, decide_eq_false e3]; simp)
    clear e3
    go_wp2_with fail
    go_ret
    exact ⟨ret_bool hV.out.symm, hl⟩
  have HE3 : Hid (decide (T.lg = g) = true) := decide_eq_true e3
  have hb3 : (T.lg == g) = true := by simp [e3]
  clear e3
  cases e4 : T.po
  · rw [e4] at x8
    have hV : Hid _ := (show waitsB M r g k = false by rw [HV.out, e4]; simp)
    clear e4
    go_wp2_with fail
    go_ret
    exact ⟨ret_bool hV.out.symm, hl⟩
  rw [e4] at x8
  have hV : Hid _ := (show waitsB M r g k = opUp T.c T.r T.a by rw [HV.out, HE1.out, HE3.out, e4]; simp)
  clear e4 HV HE1 HE3
  have m4 := fun w' => operUpdates T.c T.r T.a w'
  obtain ⟨y, hy⟩ : ∃ y, y = opUp T.c T.r T.a := ⟨_, rfl⟩
  rw [← hy] at m4
  have hV2 : Hid _ := (show waitsB M r g k = y by rw [hV.out, hy])
  clear hy hV
  go_wp2_with fail
  refine (m4 _).mono ?_
  rintro e w5 ⟨rfl, l5⟩
  go_wp2_with fail
  go_ret
  exact ⟨ret_bool hV2.out.symm, hl.trans l5⟩

set_option maxRecDepth 8000 in
set_option maxHeartbeats 8000000 in
theorem boardWaiting (v : Value) (M : Mc) (r g : Int) (w : World) (hx : HasM w v M) (hf : FitM M) : Calls Tryz.prog 44 #[v, .int .i64 r, .int .i64 g] w fun e w' => ∃ q : Sl, e = .returned (.tuple #[slV q, .int .i64 (waitM M r g).2]) ∧ Own w' w.heap.size (slV q) (waitM M r g).1 ∧ Le w w' := by
  have m1 := fun w' (l : Le w w') => machHasLog v M r g w' (hx.le l) hf
  obtain ⟨qR, qP, qT, qH, rfl, _, _, hT, _⟩ := hx
  obtain ⟨W0, hW0⟩ : ∃ W0, W0 = w.alloc (.cells (cells9 M.c qR qP qT qH) 29) := ⟨_, rfl⟩
  have a0 : Le w W0 := by rw [hW0]; exact Le.alloc _ _
  have b0 : Box W0 w.heap.size (cells9 M.c qR qP qT qH) 29 := by rw [hW0]; exact Box.new _ _ _
  have s0 : W0.heap.size = w.heap.size + 1 := by rw [hW0, World.size_alloc]
  have hb := (b0.le (Le.alloc _ (.cells #[.int .i64 r] 3))).le (Le.alloc _ (.cells #[.int .i64 g] 3))
  have hr := (Box.new W0 #[.int .i64 r] 3).le (Le.alloc _ (.cells #[.int .i64 g] 3))
  have hg := Box.new (W0.alloc (.cells #[.int .i64 r] 3)) #[.int .i64 g] 3
  have hl := (a0.trans (Le.alloc W0 (.cells #[.int .i64 r] 3))).trans (Le.alloc _ (.cells #[.int .i64 g] 3))
  rw [World.size_alloc] at hg
  rw [s0] at hr hg
  rw [hW0] at hb hr hg hl
  clear b0 a0 s0 hW0 W0
  cases h1 : atRG M r g
  · have hP : waitM M r g = ([], 1600) := by unfold waitM; rw [atRG_zero, h1]; rfl
    rw [hP]
    simp only [h1] at m1
    clear h1
    go_enter Tryz.func44, Tryz.ntmps44
    go_upto_region 1 with fail
    generalize hW : ((w.alloc (.cells (cells9 M.c qR qP qT qH) 29)).alloc (.cells #[.int .i64 r] 3)).alloc (.cells #[.int .i64 g] 3) = W at hl hb hr hg ⊢
    clear hW
    have r0 := hr.cell 0
    have g0 := hg.cell 0
    simp only [List.getElem?_toArray, List.getElem?_cons_zero] at r0 g0
    obtain ⟨⟨z0, z1, z2, z3, z4⟩, z5, z6, z7, z8⟩ := (hb).mach
    go_wp2_with fail
    refine (m1 _ hl).mono ?_
    rintro e w1 ⟨rfl, l1⟩
    go_wp2_with fail
    refine bodyPost_ret (v := .tuple #[.slice none 0 0, .int .i64 1600]) (by simp [results, Tryz.results44, go_sem]) rfl ⟨slZ, rfl, Own.nil _ _, hl.trans l1⟩
  · have hmay : mayM M = true := by unfold atRG at h1; simp only [Bool.and_eq_true] at h1; exact h1.1
    obtain ⟨_, _, hts, _⟩ := mayM_lens hmay
    obtain ⟨_, _, _, ⟨_, t3⟩, _, _⟩ := Cfg.ok_cases (mayM_ok hmay)
    have hP : waitM M r g = (whichL (waitsB M r g) M.ts.length, 0) := by
      unfold waitM
      rw [atRG_zero, h1, show M.ts.length = M.c.t.toNat by omega]
      rfl
    rw [hP]
    simp only [h1] at m1
    have m3 := fun W (l : Le w W) (bm : Box W w.heap.size (cells9 M.c qR qP qT qH) 29) (br : Box W (w.heap.size + 1) #[.int .i64 r] 3) (bg : Box W (w.heap.size + 1 + 1) #[.int .i64 g] 3) =>
      listsWhich 82 (.pointer (some ⟨w.heap.size, 0, none⟩)) (.pointer (some ⟨w.heap.size + 1, 0, none⟩)) (.pointer (some ⟨w.heap.size + 1 + 1, 0, none⟩)) (waitsB M r g) (fun _ _ _ => by kernel_rfl) (slV qT) M.ts W
        (fun w' l' k u hk hu => by obtain ⟨qb, qt, rfl, _, _⟩ := hu; exact boardWaits M r g k _ _ _ qR qP qT qH qb qt w' hmay hk (bm.le l') (br.le l') (bg.le l')) (hT.le l) (by omega)
    clear h1 hts t3 hP hmay hT
    go_enter Tryz.func44, Tryz.ntmps44
    go_upto_region 1 with fail
    generalize hW : ((w.alloc (.cells (cells9 M.c qR qP qT qH) 29)).alloc (.cells #[.int .i64 r] 3)).alloc (.cells #[.int .i64 g] 3) = W at hl hb hr hg ⊢
    clear hW
    have r0 := hr.cell 0
    have g0 := hg.cell 0
    simp only [List.getElem?_toArray, List.getElem?_cons_zero] at r0 g0
    obtain ⟨⟨z0, z1, z2, z3, z4⟩, z5, z6, z7, z8⟩ := (hb).mach
    go_wp2_with fail
    refine (m1 _ hl).mono ?_
    rintro e w1 ⟨rfl, l1⟩
    clear z0 z1 z2 z3 z4 z5 z6 z7 z8
    clear r0 g0
    replace hl := hl.trans l1
    replace hb := hb.le l1
    have m4 := m3 _ hl hb (hr.le l1) (hg.le l1)
    clear m3
    obtain ⟨⟨z0, z1, z2, z3, z4⟩, z5, z6, z7, z8⟩ := (hb).mach
    go_wp2_with fail
    refine m4.mono ?_
    rintro e w2 ⟨q, rfl, o, l2⟩
    go_wp2_with fail
    refine bodyPost_ret (v := .tuple #[slV q, .int .i64 0]) (by simp [results, Tryz.results44, go_sem]) rfl ⟨q, rfl, o.base hl.size, hl.trans l2⟩

end Go.Proofs.YtnemldboiogdkaaGreat

/-
  PLAIN GROUND, NO WALK: an elder batch, stored into a thread of a machine that is newer than it. Condition: the machine's rows lie in blocks from a mark on, the batch's ahead of it.
-/
namespace Go.Proofs.YtnemldboiogdkaaGreat
open Go.RowKit

theorem OwnsM.at_ge {w : World} {base : Nat} {L : Lay} (h : OwnsM w base L) {p : Pos} {g : Nat} (e : (slV (L.at p)).ownBlock = some g) : base ≤ g := by
  cases p with
  | rep i j =>
    rcases Nat.lt_or_ge i L.ps.length with hi | hi
    · have hp := h.iP _ (getD_mem (d := repK.d) hi)
      match j, e with
      | 0, e => exact ((hp.1 0 (by decide)).block e).1
      | 1, e => exact ((hp.1 1 (by decide)).block e).1
      | 2, e => exact ((hp.1 2 (by decide)).block e).1
      | 3, e => exact ((hp.1 3 (by decide)).block e).1
      | 4, e => exact (hp.2.1.block e).1
      | 5, e => exact (hp.2.2.block e).1
      | _ + 6, e => simp [Lay.at, LP.row, Value.ownBlock] at e
    · simp only [Lay.at, getD_out hi] at e
      match j, e with
      | 0, e => cases e
      | 1, e => cases e
      | 2, e => cases e
      | 3, e => cases e
      | 4, e => cases e
      | 5, e => cases e
      | _ + 6, e => cases e
  | th i j =>
    rcases Nat.lt_or_ge i L.ts.length with hi | hi
    · have hp := h.iT _ (getD_mem (d := thK.d) hi)
      match j, e with
      | 0, e => exact (hp.1.block e).1
      | 1, e => exact (hp.2.block e).1
      | _ + 2, e => simp [Lay.at, LT.row, Value.ownBlock] at e
    · simp only [Lay.at, getD_out hi] at e
      match j, e with
      | 0, e => cases e
      | 1, e => cases e
      | _ + 2, e => cases e
/-- All rows of a machine lie in blocks from m on. -/
def Lay.Above (L : Lay) (m : Nat) : Prop := ∀ p b, (slV (L.at p)).ownBlock = some b → m ≤ b
theorem OwnsM.above {w : World} {B : Nat} {L : Lay} (h : OwnsM w B L) : L.Above B := fun _ _ e => h.at_ge e
theorem Lay.Above.setT {L : Lay} {m i : Nat} (h : L.Above m) (hi : i < L.ts.length) (x : LT) (hb : x.b = (L.ts.getD i thK.d).b) (ht : x.t = (L.ts.getD i thK.d).t) : Lay.Above { L with ts := L.ts.set i x } m := fun p b e => by
  cases p with
  | rep a d => exact h (.rep a d) b e
  | th a d =>
    refine h (.th a d) b ?_
    simp only [Lay.at, getD_set _ _ _ _ _ hi] at e ⊢
    by_cases e1 : a = i
    · subst e1
      rw [if_pos rfl] at e
      match d, e with
      | 0, e => simp only [LT.row] at e ⊢; rw [hb] at e; exact e
      | 1, e => simp only [LT.row] at e ⊢; rw [ht] at e; exact e
      | _ + 2, e => simp [LT.row, Value.ownBlock] at e
    · rw [if_neg e1] at e; exact e
theorem ApartM.setTe {L : Lay} {m : Nat} (h : ApartM L) (hm : L.Above m) {i : Nat} (hi : i < L.ts.length) {x : LT} (ht : x.t = (L.ts.getD i thK.d).t) (hb : ∀ c, (slV x.b).ownBlock = some c → c < m) : ApartM { L with ts := L.ts.set i x } := by
  have key : ∀ p, (({ L with ts := L.ts.set i x } : Lay).at p = L.at p) ∨ (p = .th i 0 ∧ ∀ c, (slV (({ L with ts := L.ts.set i x } : Lay).at p)).ownBlock = some c → c < m) := fun p => by
    cases p with
    | rep a b => exact .inl rfl
    | th a b =>
      simp only [Lay.at, getD_set _ _ _ _ _ hi]
      by_cases e : a = i
      · subst e
        rw [if_pos rfl]
        match b with
        | 0 => exact .inr ⟨rfl, hb⟩
        | 1 => exact .inl ht
        | _ + 2 => exact .inl rfl
      · rw [if_neg e]; exact .inl rfl
  refine ⟨h.s, fun p q hne hw n1 n2 b e1 e2 => ?_⟩
  rcases key p with k1 | ⟨k1, k1'⟩
  · rw [k1] at n1 e1
    rcases key q with k2 | ⟨_, k2⟩
    · rw [k2] at n2 e2; exact h.n p q hne hw n1 n2 b e1 e2
    · have := hm p b e1; have := k2 b e2; omega
  · rcases key q with k2 | ⟨k2, _⟩
    · rw [k2] at e2; have := hm q b e2; have := k1' b e1; omega
    · exact hne (k1.trans k2.symm)
/-- Another batch, in an older block. -/
theorem MoI.setTbe {B g m : Nat} {w : World} {L : Lay} (h : MoI B g w L) {i gT n cap : Nat} (hq : L.qT = (some ⟨gT, 0, none⟩, n, cap)) (hi : i < L.ts.length) (x0 : LT) (hx0 : L.ts.getD i thK.d = x0) (q : Sl) (bs : List Int) (hb : Own w B (slV q) bs)
    (hm : L.Above m) (hn : ∀ c, (slV q).ownBlock = some c → c < m) : MoI B g (w.setCell ⟨gT, i * 12 + 6, none⟩ (slV q)) { L with ts := L.ts.set i ⟨{ x0.T with b := bs }, q, x0.t⟩ } := by
  subst hx0
  have o := h.own.iT _ (getD_mem (d := thK.d) hi)
  exact h.setT hq hi (by decide) ⟨_, q, _⟩ rfl hb o.2 (h.ap.setTe hm hi rfl hn)

end Go.Proofs.YtnemldboiogdkaaGreat

/-
  THE WALKS over package batch (waiting, behind, Collect): what each answers, for every machine and thread. Condition: that the machine's rows can be copied.
-/
namespace Go.Proofs.YtnemldboiogdkaaGreat
open Go.RowKit

theorem boardWaitingN (v : Value) (M : Mc) (r g : Int) (w : World) (hx : HasM w v M) (hf : FitM M) : Calls Tryz.prog 44 #[v, .int .i64 r, .int .i64 g] w fun e w' => ∃ a n c, e = .returned (.tuple #[.slice a n c, .int .i64 (waitM M r g).2]) ∧ Own w' w.heap.size (.slice a n c) (waitM M r g).1 ∧ Le w w' := by
  refine (boardWaiting v M r g w hx hf).mono ?_
  rintro e w' ⟨⟨a, n, c⟩, rfl, o, l⟩
  exact ⟨a, n, c, rfl, o, l⟩

theorem batchBehind (a : Option Addr) (n c : Nat) (w : World) : Calls Tryz.prog 23 #[.slice a n c] w fun e w' => e = .returned (.int .i64 (if n = 0 then 9 else 4)) ∧ Le w w' := by
  by_cases h : n = 0
  · have h1 : ((n : Int) == 0) = true := by simp [h]
    rw [if_pos h]
    clear h
    go_enter Tryz.func23, Tryz.ntmps23
    go_wp2_with fail
    go_ret
    exact ⟨rfl, Le.refl _⟩
  · have h1 : ((n : Int) == 0) = false := by simp; omega
    rw [if_neg h]
    clear h
    go_enter Tryz.func23, Tryz.ntmps23
    go_wp2_with fail
    go_ret
    exact ⟨rfl, Le.refl _⟩

set_option maxRecDepth 8000 in
set_option maxHeartbeats 8000000 in
theorem batchWaiting (v : Value) (M : Mc) (t : Nat) (w : World) (hx : HasM w v M) (hf : FitM M) (h1 : thereB M 0 0 t = true) : Calls Tryz.prog 21 #[v, .int .i64 t] w fun e w' => ∃ a n c, e = .returned (.slice a n c) ∧ Own w' w.heap.size (.slice a n c) (waitM M (M.home t) (M.th t).lg).1 ∧ Le w w' := by
  obtain ⟨hmay, _, _, ⟨t0, t1⟩⟩ := thereB_cases h1
  obtain ⟨hrs, hps, hts, _⟩ := mayM_lens hmay
  obtain ⟨_, ⟨r2, r3⟩, ⟨_, l3⟩, ⟨t2, t3⟩, _, _⟩ := Cfg.ok_cases (mayM_ok hmay)
  have hti : t < M.ts.length := by omega
  have hti' : (t : Int) < (M.ts.length : Int) := by omega
  have hrep : repS M.c.o M.c.r M.c.l M.c.t M.c.s (t : Int) = ((t : Int) % M.c.r, 0) := repS_yes (mayM_ok hmay) (by omega) (by omega)
  have m2 := fun w' => repAs hrep w'
  have m3 := fun w' (l : Le w w') => boardWaitingN v M (M.home t) (M.th t).lg w' (hx.le l) hf
  obtain ⟨bR, oR, cR, bP, oP, cP, bT, oT, cT, qH, rfl, _, _, hcT, _⟩ := hx.opens hmay
  obtain ⟨qb, qt, hat, _, _⟩ := hcT t hti
  rw [← Mc.th_nat] at hat
  obtain ⟨bs, hbs⟩ : ∃ bs, bs = (waitM M (M.home t) (M.th t).lg).1 := ⟨_, rfl⟩
  obtain ⟨er, her⟩ : ∃ er, er = (waitM M (M.home t) (M.th t).lg).2 := ⟨_, rfl⟩
  rw [← hbs]
  simp only [← hbs, ← her] at m3
  obtain ⟨ho, hho⟩ : ∃ x, x = M.home (t : Int) := ⟨_, rfl⟩
  rw [show (t : Int) % M.c.r = ho from hho.symm] at m2
  obtain ⟨lg, hlg⟩ : ∃ x, x = (M.th t).lg := ⟨_, rfl⟩
  rw [← hlg, ← hho] at m3
  have HLG : Hid (lg = (M.th t).lg) := hlg
  clear hho hlg
  clear h1 hmay hrs hps hts hbs her hrep hcT
  have hb := Box.new w (cells9 M.c (some ⟨bR, oR, none⟩, M.rs.length, cR) (some ⟨bP, oP, none⟩, M.ps.length, cP) (some ⟨bT, oT, none⟩, M.ts.length, cT) qH) 29
  have hl := Le.alloc w (.cells (cells9 M.c (some ⟨bR, oR, none⟩, M.rs.length, cR) (some ⟨bP, oP, none⟩, M.ps.length, cP) (some ⟨bT, oT, none⟩, M.ts.length, cT) qH) 29)
  go_enter Tryz.func21, Tryz.ntmps21
  go_upto_region 1 with fail
  generalize hW : w.alloc (.cells (cells9 M.c (some ⟨bR, oR, none⟩, M.rs.length, cR) (some ⟨bP, oP, none⟩, M.ps.length, cP) (some ⟨bT, oT, none⟩, M.ts.length, cT) qH) 29) = W at hl hb ⊢
  clear hW
  obtain ⟨⟨z0, z1, z2, z3, z4⟩, z5, z6, z7, z8⟩ := (hb).mach
  go_wp2_with fail
  refine (m2 _).mono ?_
  rintro e w1 ⟨rfl, l1⟩
  clear z0 z1 z2 z3 z4 z5 z6 z7 z8
  clear m2
  replace hb := hb.le l1
  replace hl := hl.trans l1
  clear l1
  go_upto_region 2 with fail
  obtain ⟨⟨z0, z1, z2, z3, z4⟩, z5, z6, z7, z8⟩ := (hb).mach
  obtain ⟨_, _, _, _, x4, _, _, _, _, _, _, _⟩ := hat.le hl
  rw [← HLG.out] at x4
  simp only [slV] at z5 z6 z7
  have m3' := m3 w1.drew (hl.trans (Le.drew _))
  go_region_held3 (fun w' => w'.cell? ⟨w.heap.size, 0, none⟩ = some (.int .i64 M.c.o) ∧ w'.cell? ⟨w.heap.size, 1, none⟩ = some (.int .i64 M.c.r) ∧ w'.cell? ⟨w.heap.size, 2, none⟩ = some (.int .i64 M.c.l) ∧ w'.cell? ⟨w.heap.size, 3, none⟩ = some (.int .i64 M.c.t) ∧ w'.cell? ⟨w.heap.size, 4, none⟩ = some (.int .i64 M.c.s) ∧ w'.cell? ⟨w.heap.size, 5, none⟩ = some (.slice (some ⟨bR, oR, none⟩) M.rs.length cR) ∧ w'.cell? ⟨w.heap.size, 6, none⟩ = some (.slice (some ⟨bP, oP, none⟩) M.ps.length cP) ∧ w'.cell? ⟨w.heap.size, 7, none⟩ = some (.slice (some ⟨bT, oT, none⟩) M.ts.length cT) ∧ w'.cell? ⟨w.heap.size, 8, none⟩ = some (slV qH) ∧ w'.cell? ⟨bT, oT + t * 12 + 4, none⟩ = some (.int .i64 lg)) (go_keep) (first
    | (go_at_call 44; refine m3'.mono ?_; rintro e w4 ⟨q0, q1, q2, rfl, oq, l4⟩; have l5 := (Le.drew w1).trans l4; have z0' := cell_le z0 l5; have z1' := cell_le z1 l5; have z2' := cell_le z2 l5; have z3' := cell_le z3 l5; have z4' := cell_le z4 l5; have z5' := cell_le z5 l5; have z6' := cell_le z6 l5; have z7' := cell_le z7 l5; have z8' := cell_le z8 l5; have x4' := cell_le x4 l5))
  go_wp2_with fail
  refine bodyPost_ret (v := .slice q0 q1 q2) (by simp [results, Tryz.results21, go_sem]) rfl ⟨q0, q1, q2, rfl, oq.base hl.size, hl.trans l5⟩

set_option maxRecDepth 8000 in
set_option maxHeartbeats 8000000 in
theorem batchCollect (v : Value) (M : Mc) (t : Int) (w : World) (hx : HasM w v M) (hf : FitM M) : Calls Tryz.prog 8 #[v, .int .i64 t] w fun e w' => ∃ v', e = .returned (.tuple #[v', .int .i64 (collectM M t).2]) ∧ OwnA w' w.heap.size v' (collectM M t).1 ∧ Le w w' := by
  have m1 := fun w' (l : Le w w') => machHasThread v M t w' (hx.le l) hf
  have m2 := fun w' (l : Le w w') => machCopy v M w' (hx.le l) hf
  cases h1 : thereB M 0 0 t
  · have hP : collectM M t = (Mc.zero, 1700) := by unfold collectM; rw [h1]; rfl
    rw [hP]
    simp only [h1] at m1
    clear h1
    obtain ⟨qR, qP, qT, qH, rfl, _, _, _, _⟩ := hx
    have hr := Box.new (w.alloc (.cells (cells9 M.c qR qP qT qH) 29)) cellsZ9 29
    have hb := (Box.new w (cells9 M.c qR qP qT qH) 29).le (Le.alloc _ (.cells cellsZ9 29))
    have hl := (Le.alloc w (.cells (cells9 M.c qR qP qT qH) 29)).trans (Le.alloc _ (.cells cellsZ9 29))
    rw [World.size_alloc] at hr
    go_enter Tryz.func8, Tryz.ntmps8
    go_upto_region 1 with fail
    generalize hW : (w.alloc (.cells (cells9 M.c qR qP qT qH) 29)).alloc (.cells cellsZ9 29) = W at hl hb hr ⊢
    clear hW
    have hgr := hr.lt
    obtain ⟨⟨z0, z1, z2, z3, z4⟩, z5, z6, z7, z8⟩ := (hb).mach
    go_wp2_with fail
    refine (m1 _ hl).mono ?_
    rintro e w1 ⟨rfl, l1⟩
    clear z0 z1 z2 z3 z4 z5 z6 z7 z8
    clear m1
    replace hb := hb.le l1
    replace hl := hl.trans l1
    have hgr := Nat.lt_of_lt_of_le hgr l1.size
    replace hr := hr.le l1
    clear l1
    obtain ⟨⟨r0, r1, r2, r3, r4, r5, r6, r7, r8⟩, k0, k1, k2, k3, k4, k5, k6, k7, k8⟩ := hr.res
    go_wp2_with fail
    refine bodyPost_ret (v := .tuple #[machZ, .int .i64 1700]) (by simp [results, Tryz.results8, go_sem, r0, r1, r2, r3, r4, r5, r6, r7, r8]) rfl ⟨_, rfl, OwnA.zero _ _, ?_⟩
    exact hl.put9 (c := Cfg.zero) (by omega) slZ slZ slZ slZ
  · obtain ⟨hmay, _, _, ⟨t0, t1⟩⟩ := thereB_cases h1
    obtain ⟨hrs, hps, hts, _⟩ := mayM_lens hmay
    obtain ⟨_, ⟨r2, r3⟩, ⟨_, l3⟩, ⟨t2, t3⟩, _, _⟩ := Cfg.ok_cases (mayM_ok hmay)
    obtain ⟨t, rfl⟩ : ∃ n : Nat, t = n := ⟨t.toNat, by omega⟩
    have hti : t < M.ts.length := by omega
    have hti' : (t : Int) < (M.ts.length : Int) := by omega
    have m3 := fun w' (l : Le w w') => batchWaiting v M t w' (hx.le l) hf h1
    obtain ⟨bR, oR, cR, bP, oP, cP, bT, oT, cT, qH, rfl, _, _, hcT, _⟩ := hx.opens hmay
    obtain ⟨qb, qt, hat, _, _⟩ := hcT t hti
    rw [← Mc.th_nat] at hat
    simp only [h1] at m1
    clear hcT
    by_cases h2 : (M.th t).st = 3
    case neg =>
      have hP : collectM M t = (Mc.zero, 1700) := by unfold collectM; rw [h1, decide_eq_false h2]; rfl
      rw [hP]
      have h2b : ((M.th t).st != 3) = true := by simp [h2]
      clear h1 hmay hrs hps hts hP h2 m3
      have hr := Box.new (w.alloc (.cells (cells9 M.c (some ⟨bR, oR, none⟩, M.rs.length, cR) (some ⟨bP, oP, none⟩, M.ps.length, cP) (some ⟨bT, oT, none⟩, M.ts.length, cT) qH) 29)) cellsZ9 29
      have hb := (Box.new w (cells9 M.c (some ⟨bR, oR, none⟩, M.rs.length, cR) (some ⟨bP, oP, none⟩, M.ps.length, cP) (some ⟨bT, oT, none⟩, M.ts.length, cT) qH) 29).le (Le.alloc _ (.cells cellsZ9 29))
      have hl := (Le.alloc w (.cells (cells9 M.c (some ⟨bR, oR, none⟩, M.rs.length, cR) (some ⟨bP, oP, none⟩, M.ps.length, cP) (some ⟨bT, oT, none⟩, M.ts.length, cT) qH) 29)).trans (Le.alloc _ (.cells cellsZ9 29))
      rw [World.size_alloc] at hr
      go_enter Tryz.func8, Tryz.ntmps8
      go_upto_region 1 with fail
      generalize hW : (w.alloc (.cells (cells9 M.c (some ⟨bR, oR, none⟩, M.rs.length, cR) (some ⟨bP, oP, none⟩, M.ps.length, cP) (some ⟨bT, oT, none⟩, M.ts.length, cT) qH) 29)).alloc (.cells cellsZ9 29) = W at hl hb hr ⊢
      clear hW
      have hgr := hr.lt
      obtain ⟨⟨z0, z1, z2, z3, z4⟩, z5, z6, z7, z8⟩ := (hb).mach
      go_wp2_with fail
      refine (m1 _ hl).mono ?_
      rintro e w1 ⟨rfl, l1⟩
      clear z0 z1 z2 z3 z4 z5 z6 z7 z8
      clear m1
      replace hb := hb.le l1
      replace hl := hl.trans l1
      have hgr := Nat.lt_of_lt_of_le hgr l1.size
      replace hr := hr.le l1
      clear l1
      obtain ⟨x0, x1, x2, x3, x4, x5, x6, x7, x8, x9, x10, x11⟩ := hat.le hl
      obtain ⟨⟨z0, z1, z2, z3, z4⟩, z5, z6, z7, z8⟩ := (hb).mach
      simp only [slV] at z7
      obtain ⟨⟨r0, r1, r2, r3, r4, r5, r6, r7, r8⟩, k0, k1, k2, k3, k4, k5, k6, k7, k8⟩ := hr.res
      go_wp2_with fail
      refine bodyPost_ret (v := .tuple #[machZ, .int .i64 1700]) (by simp [results, Tryz.results8, go_sem, r0, r1, r2, r3, r4, r5, r6, r7, r8]) rfl ⟨_, rfl, OwnA.zero _ _, ?_⟩
      exact hl.put9 (c := Cfg.zero) (by omega) slZ slZ slZ slZ
    obtain ⟨bs, hbs⟩ : ∃ bs, bs = (waitM M (M.home t) (M.th t).lg).1 := ⟨_, rfl⟩
    have hP : collectM M t = ((unpost M bs).putT t { (unpost M bs).th t with b := bs, pl := 0, st := if bs = [] then 9 else 4 }, 0) := by unfold collectM; rw [h1, decide_eq_true h2, ← hbs]; rfl
    rw [hP]
    obtain ⟨s, hs⟩ : ∃ s : Int, s = if bs = [] then 9 else 4 := ⟨_, rfl⟩
    rw [← hs]
    have HS : Hid (s = if bs = [] then 9 else 4) := hs
    clear hs
    have h2b : ((M.th t).st != 3) = false := by simp [h2]
    simp only [← hbs] at m3
    have hbin : ∀ x ∈ bs, ∃ i : Nat, x = i ∧ i < M.ts.length := by
      intro x hx
      rw [hbs] at hx
      unfold waitM at hx
      split at hx
      · obtain ⟨i, rfl, hi, _⟩ := waiters_in hx
        exact ⟨i, rfl, by omega⟩
      · cases hx
    have hbl : bs.length ≤ 4 := by
      rw [hbs]
      unfold waitM
      split
      · exact Nat.le_trans (waiters_len _ _ _ _) (by omega)
      · simp
    have HB : Hid (∀ x ∈ bs, ∃ i : Nat, x = i ∧ i < M.ts.length) := hbin
    clear h1 hmay hrs hps hts hP h2 hbin hbs
    have hr := Box.new (w.alloc (.cells (cells9 M.c (some ⟨bR, oR, none⟩, M.rs.length, cR) (some ⟨bP, oP, none⟩, M.ps.length, cP) (some ⟨bT, oT, none⟩, M.ts.length, cT) qH) 29)) cellsZ9 29
    have hb := (Box.new w (cells9 M.c (some ⟨bR, oR, none⟩, M.rs.length, cR) (some ⟨bP, oP, none⟩, M.ps.length, cP) (some ⟨bT, oT, none⟩, M.ts.length, cT) qH) 29).le (Le.alloc _ (.cells cellsZ9 29))
    have hl := (Le.alloc w (.cells (cells9 M.c (some ⟨bR, oR, none⟩, M.rs.length, cR) (some ⟨bP, oP, none⟩, M.ps.length, cP) (some ⟨bT, oT, none⟩, M.ts.length, cT) qH) 29)).trans (Le.alloc _ (.cells cellsZ9 29))
    rw [World.size_alloc] at hr
    go_enter Tryz.func8, Tryz.ntmps8
    go_upto_region 1 with fail
    generalize hW : (w.alloc (.cells (cells9 M.c (some ⟨bR, oR, none⟩, M.rs.length, cR) (some ⟨bP, oP, none⟩, M.ps.length, cP) (some ⟨bT, oT, none⟩, M.ts.length, cT) qH) 29)).alloc (.cells cellsZ9 29) = W at hl hb hr ⊢
    clear hW
    have hgr := hr.lt
    obtain ⟨⟨z0, z1, z2, z3, z4⟩, z5, z6, z7, z8⟩ := (hb).mach
    go_wp2_with fail
    refine (m1 _ hl).mono ?_
    rintro e w1 ⟨rfl, l1⟩
    clear z0 z1 z2 z3 z4 z5 z6 z7 z8
    clear m1
    replace hb := hb.le l1
    replace hl := hl.trans l1
    have hgr := Nat.lt_of_lt_of_le hgr l1.size
    replace hr := hr.le l1
    clear l1
    obtain ⟨x0, x1, x2, x3, x4, x5, x6, x7, x8, x9, x10, x11⟩ := hat.le hl
    obtain ⟨⟨y0, y1, y2, y3, y4⟩, y5, y6, y7, y8⟩ := (hb).mach
    simp only [slV] at y7
    go_upto_region 3 with fail
    clear y0 y1 y2 y3 y4 y5 y6 y7 y8
    clear x0 x1 x2 x3 x4 x5 x6 x7 x8 x9 x10 x11
    obtain ⟨⟨z0, z1, z2, z3, z4⟩, z5, z6, z7, z8⟩ := (hb).mach
    go_wp2_with fail
    refine (m3 _ hl).mono ?_
    rintro e w2 ⟨q0, q1, q2, rfl, oq, l2⟩
    clear z0 z1 z2 z3 z4 z5 z6 z7 z8
    clear m3
    have hqn : Hid (∀ c, (slV (q0, q1, q2)).ownBlock = some c → c < w2.heap.size) := fun c e => (oq.block e).2
    have hqw : (slV (q0, q1, q2)).ownBlock ≠ some w.heap.size := fun e => by have := (oq.block e).1; omega
    replace hb := hb.le l2
    replace hr := hr.le l2
    replace hl := hl.trans l2
    clear l2
    obtain ⟨⟨z0, z1, z2, z3, z4⟩, z5, z6, z7, z8⟩ := (hb).mach
    go_wp2_with fail
    refine (m2 _ hl).mono ?_
    rintro e w9 ⟨⟨c', uR, uP, uT, uH, xR, xP, xT, xH⟩, rfl, HM, o1, ap, l1⟩
    clear z0 z1 z2 z3 z4 z5 z6 z7 z8
    clear m2
    replace hb := hb.le l1
    obtain ⟨⟨z0, z1, z2, z3, z4⟩, z5, z6, z7, z8⟩ := (hb).mach
    have f0 := (hb).frozen 0
    have f1 := (hb).frozen 1
    have f2 := (hb).frozen 2
    have f3 := (hb).frozen 3
    have f4 := (hb).frozen 4
    have f5 := (hb).frozen 5
    have f6 := (hb).frozen 6
    have f7 := (hb).frozen 7
    have f8 := (hb).frozen 8
    have hlB : w.heap.size ≤ w2.heap.size := hl.size
    have hab : Hid (Lay.Above ⟨c', uR, uP, uT, uH, xR, xP, xT, xH⟩ w2.heap.size) := o1.above
    have o2 := (o1.base hlB).put9 hb c' uR uP uT uH
    have oq2 := row_put9 (oq.le l1) hqw c' uR uP uT uH
    have hb2 := hb.put9 rfl c' uR uP uT uH
    have hr2 := (hr.le l1).off9 (show w.heap.size + 1 ≠ w.heap.size by omega) c' uR uP uT uH
    have l01 := (hl.trans l1).put9 (g := w.heap.size) (Nat.le_refl _) c' uR uP uT uH
    try simp only at o2
    go_upto_region 5 with fail
    clear z0 z1 z2 z3 z4 z5 z6 z7 z8 f0 f1 f2 f3 f4 f5 f6 f7 f8 hb hr hl o1 l1 oq hqw
    show Code.wp _ _ _ _ (put9 w9 w.heap.size c' uR uP uT uH)
    generalize hW1 : put9 w9 w.heap.size c' uR uP uT uH = W1 at o2 hb2 hr2 l01 oq2 ⊢
    clear hW1
    have I : MoI w.heap.size w.heap.size W1 ⟨c', uR, uP, uT, uH, xR, xP, xT, xH⟩ := ⟨hb2, Nat.le_refl _, o2, ap⟩
    have hr := hr2
    have hl := l01
    have oq : Own W1 w1.heap.size (.slice q0 q1 q2) bs := oq2
    clear o2 hb2 hr2 oq2 l01
    have hiT : t < xT.length := by have := lay_ts HM; simp only at this; omega
    have hiT' : (t : Int) < (xT.length : Int) := by omega
    obtain ⟨gT, capT, hqT, hcapT, hgBT, hgltT, hgneT, hatT, hfzT⟩ := I.openT hiT
    try simp only at hqT hatT hcapT
    subst hqT
    clear hatT hfzT
    have hqlen : q1 = bs.length := own_len (q := (q0, q1, q2)) oq
    have HQL : Hid (q1 = bs.length) := hqlen
    have HXT : Hid (xT.length = M.ts.length) := lay_ts HM
    have hq4 : q1 ≤ 4 := by omega
    clear hqlen hbl
    go_wp2_with fail
    go_loopw [31] (fun i wr => ∃ (k : Nat) (ts : List LT), k ≤ q1 ∧ i = .int .i64 k ∧ Hid (MoI w.heap.size w.heap.size wr ⟨c', uR, uP, (some ⟨gT, 0, none⟩, xT.length, capT), uH, xR, xP, ts, xH⟩ ∧ (⟨c', uR, uP, (some ⟨gT, 0, none⟩, xT.length, capT), uH, xR, xP, ts, xH⟩ : Lay).M = unpost M (bs.take k) ∧ ts.length = xT.length ∧ (⟨c', uR, uP, (some ⟨gT, 0, none⟩, xT.length, capT), uH, xR, xP, ts, xH⟩ : Lay).Above w2.heap.size ∧ Box wr (w.heap.size + 1) cellsZ9 29 ∧ Own wr w1.heap.size (.slice q0 q1 q2) bs ∧ Le w wr)) (fun i _ => q1 - (intOf i).toNat)
    case atStart => exact ⟨0, xT, by omega, rfl, I, HM, rfl, hab.out, hr, oq, hl⟩
    case round =>
      clear I HM hab hr oq hl
      obtain ⟨k, ts, hk, rfl, HI⟩ := hrel
      obtain ⟨I, HM, hlen, hab, hr, oq, hle⟩ := HI.out
      have HLEN : Hid (ts.length = xT.length) := hlen
      clear HI hlen
      by_cases hlt : k < q1
      · obtain ⟨j, hj, hjl⟩ := HB.out (bs.getD k 0) (getD_mem (by have := HQL.out; omega))
        have HJ : Hid (bs.getD k 0 = (j : Int)) := hj
        have hjx : j < ts.length := by have := HLEN.out; have := HXT.out; omega
        have hjx' : (j : Int) < (xT.length : Int) := by have := HLEN.out; omega
        obtain ⟨hgne', hgl', hgB', hatj, hfzj⟩ := I.thAt rfl hjx
        obtain ⟨_, _, _, _, _, _, _, _, x8, _, _, _⟩ := hatj
        have f8 := hfzj (j * 12 + 8)
        obtain ⟨⟨y0, y1, y2, y3, y4⟩, y5, y6, y7, y8⟩ := (I.bo).mach
        simp only [slV] at y7
        obtain ⟨gl, cl, hql, _, _, _, xl, _⟩ := own_open (q := (q0, q1, q2)) oq (show k < bs.length by have := HQL.out; omega)
        simp only [Prod.mk.injEq] at hql
        obtain ⟨rfl, hh, rfl⟩ := hql
        clear hh
        have hne2 : gT ≠ gl := by
          have := own_k (g := gT) I.own.oT (oq.base (show w.heap.size ≤ w1.heap.size by omega)) (by decide) rfl
          simp [Value.ownBlock] at this
          exact fun e => this e.symm
        rw [HJ.out] at xl
        have hltq : (k : Int) < (q1 : Int) := by omega
        have I2 := I.setTx (j := 8) (u := .bool false) rfl hjx (by decide) _ rfl { (ts.getD j thK.d).T with po := false } rfl rfl rfl
        have HM2 : Hid (Lay.M ⟨c', uR, uP, (some ⟨gT, 0, none⟩, xT.length, capT), uH, xR, xP, ts.set j ⟨{ (ts.getD j thK.d).T with po := false }, (ts.getD j thK.d).b, (ts.getD j thK.d).t⟩, xH⟩ = unpost M (bs.take (k + 1))) := by
          rw [List.take_succ_eq_append_getElem (by have := HQL.out; omega), unpost_snoc]
          have h1 := HJ.out
          rw [show bs.getD k 0 = bs[k]'(by have := HQL.out; omega) by simp [List.getD, show k < bs.length by have := HQL.out; omega]] at h1
          rw [h1]
          have h2 := lay_th HM hjx
          simp only at h2
          rw [← h2]
          exact lay_setT HM j ⟨{ (ts.getD j thK.d).T with po := false }, (ts.getD j thK.d).b, (ts.getD j thK.d).t⟩
        have hab2 : Hid (Lay.Above ⟨c', uR, uP, (some ⟨gT, 0, none⟩, xT.length, capT), uH, xR, xP, ts.set j ⟨{ (ts.getD j thK.d).T with po := false }, (ts.getD j thK.d).b, (ts.getD j thK.d).t⟩, xH⟩ w2.heap.size) := hab.setT hjx _ rfl rfl
        clear hab
        have hne3 : ¬ gT = w.heap.size := fun e => hgne' e.symm
        have hne1 : w.heap.size + 1 ≠ gT := I.neT rfl hr (by decide)
        go_wp2_with fail
        go_roundw
        case rel => exact ⟨k + 1, _, by omega, by go_num, I2, HM2.out, by rw [List.length_set]; exact HLEN.out, hab2.out, hr.other hne1 _ _, ownsRow_setCell_other oq (by simp only [Value.ownBlock, ne_eq, Option.some.injEq]; exact fun e => hne2 e.symm) _, hle.set hgB'⟩
        case measure => simp [intOf]; omega
      · obtain rfl : q1 = k := by omega
        have htk : bs.take q1 = bs := by rw [HQL.out, List.take_length]
        rw [htk] at HM
        have hit : t < ts.length := by have := HLEN.out; omega
        have hs : (if q1 = 0 then 9 else 4 : Int) = s := by
          rw [HS.out, HQL.out]
          simp only [List.length_eq_zero_iff]
        have m5 := fun w' => batchBehind q0 q1 q2 w'
        simp only [hs] at m5
        clear hs htk hlt hk
        obtain ⟨⟨y0, y1, y2, y3, y4⟩, y5, y6, y7, y8⟩ := (I.bo).mach
        simp only [slV] at y7
        go_wp2_with fail
        refine (m5 _).mono ?_
        rintro e w5 ⟨rfl, l5⟩
        clear y0 y1 y2 y3 y4 y5 y6 y7 y8
        clear m5
        replace I := I.le l5
        replace hr := hr.le l5
        replace oq : Own w5 w1.heap.size (.slice q0 q1 q2) bs := Own.le oq l5
        replace hle := hle.trans l5
        clear l5
        obtain ⟨hgne', hgl', hgB', hatt, hfzt⟩ := I.thAt rfl hit
        obtain ⟨x0, _, _, _, _, _, x6, x7, _, _, _, _⟩ := hatt
        have f0 := hfzt (t * 12)
        have f6 := hfzt (t * 12 + 6)
        have f7 := hfzt (t * 12 + 7)
        obtain ⟨X, hX⟩ : ∃ X, X = ts.getD t thK.d := ⟨_, rfl⟩
        have HX : Hid (X.T = (unpost M bs).th t) := by rw [hX]; exact lay_th HM hit
        have I2 := I.setTbe rfl hit X hX.symm (q0, q1, q2) bs (oq.base (by omega)) hab hqn.out
        have I3 := I2.setTy (j := 7) (u := .int .i64 0) rfl hit (by decide) { X.T with b := bs, pl := 0 } rfl rfl rfl
        have I4 := I3.setTy (j := 0) (u := .int .i64 s) rfl hit (by decide) { X.T with b := bs, pl := 0, st := s } rfl rfl rfl
        rw [← hX] at x0 x6 x7
        clear hX hfzt
        have l2 := ((hle.set (i := t * 12 + 6) (u := .slice q0 q1 q2) hgB').set (i := t * 12 + 7) (u := .int .i64 0) hgB').set (i := t * 12 + 0) (u := .int .i64 s) hgB'
        have hne1 : w.heap.size + 1 ≠ gT := I.neT rfl hr (by decide)
        have hr2 := ((hr.other hne1 (t * 12 + 6) (.slice q0 q1 q2)).other hne1 (t * 12 + 7) (.int .i64 0)).other hne1 (t * 12 + 0) (.int .i64 s)
        go_upto_region 12 with fail
        clear x0 x6 x7 f0 f6 f7 I2 I3
        generalize hW2 : ((w5.setCell ⟨gT, t * 12 + 6, none⟩ (.slice q0 q1 q2)).setCell ⟨gT, t * 12 + 7, none⟩ (.int .i64 0)).setCell ⟨gT, t * 12 + 0, none⟩ (.int .i64 s) = W2 at I4 l2 hr2 ⊢
        clear hW2 I hr hle oq
        have HM4 : Hid (Lay.M ⟨c', uR, uP, (some ⟨gT, 0, none⟩, xT.length, capT), uH, xR, xP, ts.set t ⟨{ X.T with b := bs, pl := 0, st := s }, (q0, q1, q2), X.t⟩, xH⟩ = (unpost M bs).putT t { (unpost M bs).th t with b := bs, pl := 0, st := s }) := by
          rw [← HX.out]
          exact lay_setT HM t ⟨{ X.T with b := bs, pl := 0, st := s }, (q0, q1, q2), X.t⟩
        obtain ⟨⟨y0, y1, y2, y3, y4⟩, y5, y6, y7, y8⟩ := (I4.bo).mach
        obtain ⟨⟨r0, r1, r2, r3, r4, r5, r6, r7, r8⟩, k0, k1, k2, k3, k4, k5, k6, k7, k8⟩ := hr2.res
        go_wp2_with fail
        refine bodyPost_ret (v := .tuple #[machV c' uR uP (some ⟨gT, 0, none⟩, xT.length, capT) uH, .int .i64 0]) (by simp [results, Tryz.results8, go_sem, r0, r1, r2, r3, r4, r5, r6, r7, r8]) rfl ⟨_, rfl, ?_, (l2).put9 (g := w.heap.size + 1) (by omega) c' uR uP (some ⟨gT, 0, none⟩, xT.length, capT) uH⟩
        have := I4.ret hr2
        rw [HM4.out] at this
        exact this

end Go.Proofs.YtnemldboiogdkaaGreat

/-
  PLAIN GROUND, NO WALK: who collects, as data: its machine can be copied; a machine whose thread 0 has posted and the lock, and what it collects. No condition.
-/
namespace Go.Proofs.YtnemldboiogdkaaGreat
open Go.RowKit

theorem fitM_unpost {M : Mc} (h : FitM M) (bs : List Int) : FitM (unpost M bs) := by
  unfold unpost
  induction bs generalizing M with
  | nil => exact h
  | cons b bs ih => exact ih (h.putT b (h.th b))
theorem waitM_small (M : Mc) (r g : Int) : (waitM M r g).1.length ≤ 4 := by
  unfold waitM
  split
  · next h =>
    obtain ⟨hmay, _⟩ := thereB_cases h
    have := waiters_len M r g M.c.t.toNat
    obtain ⟨_, _, _, ⟨_, t⟩, _⟩ := Cfg.ok_cases (mayM_ok hmay)
    simp only
    omega
  · simp
theorem fitM_collect {M : Mc} (h : FitM M) (t : Int) : FitM (collectM M t).1 := by
  unfold collectM
  split
  · refine (fitM_unpost h _).putT t ⟨?_, ((fitM_unpost h _).th t).2⟩
    have := waitM_small M (M.home t) (M.th t).lg
    simp only
    omega
  · exact fitM_zero

/-- Thread 0 has posted. -/
def hl1 : Mc := stepM (postM cldM 0).1 0 2
/-- .. and has the lock. -/
def hldM : Mc := stepM (tryM hl1 (hl1.home 0) (hl1.th 0).lg 0).1 0 3
def hlN : Nat → Mc
  | 0 => cldM
  | 1 => hl1
  | _ => hldM
theorem hl1_may : mayM hl1 = true := by decide +kernel
theorem hl1_fit : FitM hl1 := fitB_fit (by decide +kernel)
theorem hld_fit : FitM hldM := fitB_fit (by decide +kernel)
theorem hl1_there : thereB hl1 0 0 0 = true := by decide +kernel
theorem hl1_up : opUp (hl1.th 0).c (hl1.th 0).r (hl1.th 0).a = true := by decide +kernel
theorem cld_there : thereB cldM 0 0 0 = true := by decide +kernel
theorem cld_up : opUp (cldM.th 0).c (cldM.th 0).r (cldM.th 0).a = true := by decide +kernel
/-- It has collected. -/
def btM : Mc := (collectM hldM 0).1
theorem bt_1 : collectM hldM 0 = (btM, 0) := by decide +kernel
theorem bt_2 : collectM begM 0 = (Mc.zero, 1700) := by decide +kernel
theorem bt_may : mayM btM = true := by decide +kernel
theorem bt_c : btM.c = begC := by decide +kernel
theorem bt_open {w : World} {v : Value} (h : HasM w v btM) : ∃ qR qP bT oT cT qH gb ob cb, v = machV begC qR qP (some ⟨bT, oT, none⟩, 4, cT) qH ∧ w.cell? ⟨bT, oT, none⟩ = some (.int .i64 4) ∧ w.cell? ⟨bT, oT + 6, none⟩ = some (.slice (some ⟨gb, ob, none⟩) 1 cb) ∧ w.cell? ⟨bT, oT + 8, none⟩ = some (.bool false) ∧ Has w (.slice (some ⟨gb, ob, none⟩) 1 cb) [0] := by
  obtain ⟨bR, oR, cR, bP, oP, cP, bT, oT, cT, qH, rfl, _, _, hcT, _⟩ := h.opens bt_may
  obtain ⟨qb, qt, ⟨x0, _, _, _, _, _, x6, _, x8, _⟩, hb, _⟩ := hcT 0 (by decide +kernel)
  have h4 : (btM.ts.getD 0 Th.zero).po = false := by decide +kernel
  have h5 : (btM.ts.getD 0 Th.zero).st = 4 := by decide +kernel
  have h6 : (btM.ts.getD 0 Th.zero).b = [0] := by decide +kernel
  rw [h4] at x8
  rw [h5] at x0
  rw [h6] at hb
  rw [Nat.zero_mul, Nat.add_zero] at x0 x6 x8
  have h3 : btM.ts.length = 4 := by decide +kernel
  obtain ⟨a, cap, hv, _, _, hc⟩ := hb
  obtain ⟨gb, ob, rfl, _⟩ := hc (by decide)
  have hb2 := hcT 0 (by decide +kernel)
  rw [hv] at x6
  rw [h3, bt_c]
  refine ⟨_, _, bT, oT, cT, qH, gb, ob, cap, rfl, x0, x6, x8, ?_⟩
  exact ⟨_, _, rfl, by assumption, (fun e => by cases e), fun hp => by obtain ⟨b, off, hab, hcc⟩ := hc hp; exact ⟨b, off, hab, hcc⟩⟩

end Go.Proofs.YtnemldboiogdkaaGreat

/-
  THE WALKS over package batch's Collect and the document's, their answers written out; and the document's Pick of thread 0 till it has the lock. Condition: that the machine's rows can be copied.
-/
namespace Go.Proofs.YtnemldboiogdkaaGreat
open Go.RowKit

theorem batchCollectAs {M N : Mc} {t er : Int} (h : collectM M t = (N, er)) (v : Value) (w : World) (hx : HasM w v M) (hf : FitM M) : Calls Tryz.prog 8 #[v, .int .i64 t] w fun e w' => ∃ qR qP qT qH, e = .returned (.tuple #[machV N.c qR qP qT qH, .int .i64 er]) ∧ OwnA w' w.heap.size (machV N.c qR qP qT qH) N ∧ Le w w' := by
  have := batchCollect v M t w hx hf
  rw [h] at this
  refine this.mono ?_
  rintro e w' ⟨v', rfl, o, l⟩
  obtain ⟨qR, qP, qT, qH, rfl⟩ := o.open
  exact ⟨_, _, _, _, rfl, o, l⟩
theorem rmCollectAs {M N : Mc} {t er : Int} (h : collectM M t = (N, er)) (v : Value) (w : World) (hx : HasM w v M) (hf : FitM M) : Calls Tryz.prog 9 #[v, .int .i64 t] w fun e w' => ∃ qR qP qT qH, e = .returned (.tuple #[machV N.c qR qP qT qH, .int .i64 er]) ∧ OwnA w' w.heap.size (machV N.c qR qP qT qH) N ∧ Le w w' := by
  have := rmCollect v M t w hx hf
  rw [h] at this
  refine this.mono ?_
  rintro e w' ⟨v', rfl, o, l⟩
  obtain ⟨qR, qP, qT, qH, rfl⟩ := o.open
  exact ⟨_, _, _, _, rfl, o, l⟩
theorem rmWaitAs {M : Mc} {r g er : Int} {xs : List Int} (h : waitM M r g = (xs, er)) (v : Value) (w : World) (hx : HasM w v M) (hf : FitM M) : Calls Tryz.prog 14 #[v, .int .i64 r, .int .i64 g] w fun e w' => ∃ a c, e = .returned (.tuple #[.slice a xs.length c, .int .i64 er]) ∧ Own w' w.heap.size (.slice a xs.length c) xs ∧ Le w w' := by
  have := rmWaiting v M r g w hx hf
  rw [h] at this
  refine this.mono ?_
  rintro e w' ⟨⟨a, n, c⟩, rfl, o, l⟩
  have hn : n = xs.length := by
    obtain ⟨_, _, hv, _⟩ := o.has
    simp only [slV, Value.slice.injEq] at hv
    exact hv.2.1
  subst hn
  exact ⟨a, c, rfl, o, l⟩

theorem pickHl0 (v : Value) (w : World) (hx : HasM w v cldM) : Calls Tryz.prog 17 #[v, .int .i64 0] w fun e w' => ∃ v', e = .returned (.tuple #[v', .int .i64 0]) ∧ OwnA w' w.heap.size v' hl1 ∧ Le w w' :=
  rmPickU v cldM 0 w hx cld_fit cld_may (by decide) (by decide +kernel) (by decide +kernel) (by decide +kernel) hl1 (fun w' l => rmUpd1 v cldM 0 w' (hx.le l) cld_fit cld_there cld_up (by decide +kernel))
theorem pickHl1 (v : Value) (w : World) (hx : HasM w v hl1) : Calls Tryz.prog 17 #[v, .int .i64 0] w fun e w' => ∃ v', e = .returned (.tuple #[v', .int .i64 0]) ∧ OwnA w' w.heap.size v' hldM ∧ Le w w' := by
  have e : (if (tryM hl1 (hl1.home 0) (hl1.th 0).lg 0).2.1 then (3 : Int) else 10) = 3 := by decide +kernel
  refine rmPickU v hl1 0 w hx hl1_fit hl1_may (by decide) (by decide +kernel) (by decide +kernel) (by decide +kernel) hldM (fun w' l => ?_)
  have := rmUpd2 v hl1 0 w' (hx.le l) hl1_fit hl1_there hl1_up (by decide +kernel)
  rw [e] at this
  exact this
theorem pickHl {k : Nat} (hk : k < 2) (v : Value) (w : World) (hx : HasM w v (hlN k)) : Calls Tryz.prog 17 #[v, .int .i64 0] w fun e w' => ∃ qR qP qT qH, e = .returned (.tuple #[machV begC qR qP qT qH, .int .i64 0]) ∧ OwnA w' w.heap.size (machV begC qR qP qT qH) (hlN (k + 1)) ∧ Le w w' := by
  have hc : (hlN (k + 1)).c = begC := by
    rcases (by omega : k = 0 ∨ k = 1) with rfl | rfl <;> decide +kernel
  have h : Calls Tryz.prog 17 #[v, .int .i64 0] w fun e w' => ∃ v', e = .returned (.tuple #[v', .int .i64 0]) ∧ OwnA w' w.heap.size v' (hlN (k + 1)) ∧ Le w w' := by
    rcases (by omega : k = 0 ∨ k = 1) with rfl | rfl
    · exact pickHl0 v w hx
    · exact pickHl1 v w hx
  refine h.mono ?_
  rintro e w' ⟨v', rfl, o, l⟩
  obtain ⟨qR, qP, qT, qH, rfl⟩ := o.open
  rw [hc] at o ⊢
  exact ⟨_, _, _, _, rfl, o, l⟩

end Go.Proofs.YtnemldboiogdkaaGreat

/-
  THE WALK over choruslaw17's held: a machine whose thread 0 has been called and picked 2 times. No condition.
-/
namespace Go.Proofs.YtnemldboiogdkaaGreat
open Go.RowKit

theorem OwnA.put9 {w : World} {B g : Nat} {v : Value} {M : Mc} {cs : Array Value} (h : OwnA w B v M) (hb : Box w g cs 29) (c : Cfg) (a b d e : Sl) : OwnA (Go.Proofs.YtnemldboiogdkaaGreat.put9 w g c a b d e) B v M := by
  obtain ⟨L, hv, hm, ho, ha⟩ := h
  exact ⟨L, hv, hm, ho.put9 hb c a b d e, ha⟩

set_option maxRecDepth 8000 in
set_option maxHeartbeats 4000000 in
theorem held17 (w : World) : Calls Tryz.prog 16 #[] w fun e w' => ∃ qR qP qT qH, e = .returned (machV begC qR qP qT qH) ∧ OwnA w' w.heap.size (machV begC qR qP qT qH) (hlN 2) ∧ Le w w' := by
  have hr := Box.new w cellsZ9 29
  have hl := Le.alloc w (.cells cellsZ9 29)
  go_enter Tryz.func16, Tryz.ntmps16
  go_upto_region 1 with fail
  generalize hW : w.alloc (.cells cellsZ9 29) = W at hl hr ⊢
  clear hW
  go_wp2_with fail
  refine (called17 _).mono ?_
  rintro e w0 ⟨qR, qP, qT, qH, rfl, o0, l0⟩
  replace hr := hr.le l0
  have hrw := hr.lt
  have ho := o0.base hl.size
  replace hl := hl.trans l0
  clear l0 o0
  have hbM := Box.new w0 (cells9 begC qR qP qT qH) 29
  have a1 := Le.alloc w0 (.cells (cells9 begC qR qP qT qH) 29)
  go_upto_region 2 with fail
  generalize hW1 : w0.alloc (.cells (cells9 begC qR qP qT qH) 29) = W1 at hbM a1 ⊢
  clear hW1
  have hggM : w0.heap.size ≤ w0.heap.size := Nat.le_refl _
  generalize hgg : w0.heap.size = gM at hbM hggM ⊢
  have hsgM : w0.heap.size ≤ gM := by omega
  clear hgg hggM
  replace hl := hl.trans a1
  replace hr := hr.le a1
  replace ho := ho.le a1
  clear a1
  have hMw : w.heap.size ≠ gM := by omega
  have ho0 : OwnA W1 w.heap.size (machV begC qR qP qT qH) (hlN 0) := ho
  clear ho
  go_wp2_with fail
  go_loopw [2] (fun i wr => ∃ (k : Nat) (xR xP xT xH : Sl), k ≤ 2 ∧ i = .int .i64 k ∧ Box wr gM (cells9 begC xR xP xT xH) 29 ∧ Box wr w.heap.size cellsZ9 29 ∧ Hid (OwnA wr w.heap.size (machV begC xR xP xT xH) (hlN k)) ∧ Le w wr) (fun i _ => 2 - (intOf i).toNat)
  case atStart => exact ⟨0, qR, qP, qT, qH, by omega, rfl, hbM, hr, ho0, hl⟩
  case round =>
    clear hbM hr ho0 hl
    obtain ⟨k, xR, xP, xT, xH, hk, rfl, hbM, hr, ho, hl⟩ := hrel
    by_cases hlt : k < 2
    · have hlt' : (k : Int) < 2 := by omega
      have m1 := fun w' (l : Le wr w') => pickHl hlt _ w' (ho.out.has.le l)
      obtain ⟨⟨y0, y1, y2, y3, y4⟩, y5, y6, y7, y8⟩ := (hbM).mach
      go_wp2_with fail
      refine (m1 _ (Le.refl _)).mono ?_
      rintro e w2 ⟨uR, uP, uT, uH, rfl, o2, l2⟩
      clear y0 y1 y2 y3 y4 y5 y6 y7 y8
      have hb2 := hbM.le l2
      obtain ⟨⟨y0, y1, y2, y3, y4⟩, y5, y6, y7, y8⟩ := (hb2).mach
      have f0 := (hb2).frozen 0
      have f1 := (hb2).frozen 1
      have f2 := (hb2).frozen 2
      have f3 := (hb2).frozen 3
      have f4 := (hb2).frozen 4
      have f5 := (hb2).frozen 5
      have f6 := (hb2).frozen 6
      have f7 := (hb2).frozen 7
      have f8 := (hb2).frozen 8
      go_upto_region 4 with fail
      have hb3 := hb2.put9 rfl begC uR uP uT uH
      have o3 := (o2.base hl.size).put9 hb2 begC uR uP uT uH
      have l3 := (hl.trans l2).put9 (g := gM) (by omega) begC uR uP uT uH
      have hr3 := (hr.le l2).off9 hMw begC uR uP uT uH
      show Code.wp _ _ _ _ (put9 w2 gM begC uR uP uT uH)
      clear y0 y1 y2 y3 y4 y5 y6 y7 y8
      clear f0 f1 f2 f3 f4 f5 f6 f7 f8
      generalize hW : put9 w2 gM begC uR uP uT uH = W2 at hb3 o3 l3 hr3 ⊢
      clear hW
      go_wp2_with fail
      go_roundw
      case rel => exact ⟨k + 1, uR, uP, uT, uH, by omega, by go_num, hb3, hr3, o3, l3⟩
      case measure => simp [intOf]; omega
    · have e4 : k = 2 := by omega
      have ho2 : OwnA wr w.heap.size (machV begC xR xP xT xH) (hlN 2) := by have := ho.out; rw [e4] at this; exact this
      have hlt' : ¬ (k : Int) < 2 := by omega
      clear e4 hlt hk ho
      obtain ⟨⟨y0, y1, y2, y3, y4⟩, y5, y6, y7, y8⟩ := (hbM).mach
      obtain ⟨⟨r0, r1, r2, r3, r4, r5, r6, r7, r8⟩, k0, k1, k2, k3, k4, k5, k6, k7, k8⟩ := hr.res
      go_wp2_with fail
      refine bodyPost_ret (v := machV begC xR xP xT xH) (by simp [results, Tryz.results16, go_sem, r0, r1, r2, r3, r4, r5, r6, r7, r8]) rfl ⟨xR.1, xR.2.1, xR.2.2, xP.1, xP.2.1, xP.2.2, xT.1, xT.2.1, xT.2.2, xH.1, xH.2.1, xH.2.2, rfl, ho2.put9 hr begC xR xP xT xH, hl.put9 (g := w.heap.size) (Nat.le_refl _) begC xR xP xT xH⟩

end Go.Proofs.YtnemldboiogdkaaGreat

/-
  THE WALKS over choruslaw0's SpoilInts, SpoilSlots, SpoilRing, SpoilState, SpoilEvents, SpoilMachine once more: what they write over lies in a given set of blocks; all else is as it was. Written by program out of Slc, SpoilA, StC, LwA, McB, LmA, LmD. No condition.
-/
namespace Go.Proofs.YtnemldboiogdkaaGreat.Sp
open Go.RowKit Go.Proofs.YtnemldboiogdkaaGreat

/-- v is a slice of whatever numbers, in blocks from S on, that may be written over. -/
def Ints (w : World) (S : Nat → Prop) (v : Value) : Prop :=
  ∃ (a : Option Addr) (n cap : Nat), v = .slice a n cap ∧ n ≤ cap ∧ n ≤ 9223372036854775807 ∧
    (0 < n → ∃ b off, a = some ⟨b, off, none⟩ ∧ S b ∧ ∀ i, i < n → (∃ x, w.cell? ⟨b, off + i, none⟩ = some (.int .i64 x)) ∧ w.frozen? ⟨b, off + i, none⟩ = false)

/-- What was there below S is as it was; numbers elsewhere may be other numbers, and all else is as it was. -/
structure Spoilt (S : Nat → Prop) (w w' : World) : Prop where
  os : w'.os = w.os
  tape : w'.tape = w.tape
  output : w'.output = w.output
  size : w.heap.size ≤ w'.heap.size
  keep : ∀ k, k < w.heap.size → ¬ S k → w'.heap[k]? = w.heap[k]?
  ints : ∀ p x, w.cell? p = some (.int .i64 x) → ∃ y, w'.cell? p = some (.int .i64 y)
  rest : ∀ p v, w.cell? p = some v → (∀ x, v ≠ .int .i64 x) → w'.cell? p = some v
  thaw : ∀ p, p.block < w.heap.size → w.frozen? p = false → w'.frozen? p = false

theorem Spoilt.refl (S : Nat → Prop) (w : World) : Spoilt S w w := ⟨rfl, rfl, rfl, Nat.le_refl _, fun _ _ _ => rfl, fun _ x h => ⟨x, h⟩, fun _ _ h _ => h, fun _ _ h => h⟩
theorem Spoilt.trans {S : Nat → Prop} {a b c : World} (h : Spoilt S a b) (k : Spoilt S b c) : Spoilt S a c :=
  ⟨k.os.trans h.os, k.tape.trans h.tape, k.output.trans h.output, Nat.le_trans h.size k.size, fun i hi hn => (k.keep i (Nat.lt_of_lt_of_le hi h.size) hn).trans (h.keep i hi hn), fun p x hp => by obtain ⟨y, hy⟩ := h.ints p x hp; exact k.ints p y hy, fun p v hp hv => k.rest p v (h.rest p v hp hv) hv, fun p hp hf => k.thaw p (Nat.lt_of_lt_of_le hp h.size) (h.thaw p hp hf)⟩

theorem Spoilt.le {S : Nat → Prop} {w w' : World} (_ : True) (h : Le w w') : Spoilt S w w' :=
  ⟨h.os, h.tape, h.output, h.size, fun k hk _ => h.block k hk, fun p x hp => ⟨x, by rw [h.cell (World.block_lt_of_cell? w _ hp)]; exact hp⟩, fun p v hp _ => by rw [h.cell (World.block_lt_of_cell? w _ hp)]; exact hp,
    fun p hp hf => by rw [h.frozen hp]; exact hf⟩

theorem Spoilt.store {S : Nat → Prop} {w : World} {p : Addr} {x y : Int} (hp : w.cell? p = some (.int .i64 x)) (hb : S p.block) : Spoilt S w (w.setCell p (.int .i64 y)) := by
  refine ⟨rfl, rfl, rfl, by simp, fun k _ hn => Below.heap_setCell _ _ _ _ (fun e => hn (by rw [e]; exact hb)), fun q z hq => ?_, fun q v hq hv => ?_, fun q _ hf => by simpa using hf⟩
  · by_cases e : p = q
    · subst e; exact ⟨y, World.cell?_setCell_same _ _ _ hp⟩
    · exact ⟨z, (World.cell?_setCell_other _ _ _ _ e).trans hq⟩
  · have e : p ≠ q := fun e => by subst e; rw [hp] at hq; exact hv x (Option.some.inj hq).symm
    exact (World.cell?_setCell_other _ _ _ _ e).trans hq

theorem Ints.spoilt {w w' : World} {S S' : Nat → Prop} {v : Value} (h : Ints w S v) (k : Spoilt S' w w') : Ints w' S v := by
  obtain ⟨a, n, cap, hv, hn, hm, hx⟩ := h
  refine ⟨a, n, cap, hv, hn, hm, fun hp => ?_⟩
  obtain ⟨b, off, ha, hb, hc⟩ := hx hp
  refine ⟨b, off, ha, hb, fun i hi => ?_⟩
  obtain ⟨⟨x, h1⟩, h2⟩ := hc i hi
  exact ⟨k.ints _ _ h1, k.thaw _ (World.block_lt_of_cell? w _ h1) h2⟩

set_option maxHeartbeats 400000 in
theorem lawSpoil (v : Value) (S : Nat → Prop) (w : World) (hx : Ints w S v) :
    Calls Tryz.prog 33 #[v] w fun e w' => e = .returned (.tuple #[]) ∧ Spoilt S w w' := by
  obtain ⟨a, L, cap, rfl, hc, hm, hx⟩ := hx
  rcases Nat.eq_zero_or_pos L with h0 | h0
  · subst h0
    go_enter Tryz.func33, Tryz.ntmps33
    go_wp2
    refine wp_loop_rounds 1 ?_
    rw [rounds_succ]
    go_wp2
    go_end0
    exact ⟨rfl, Spoilt.refl _ _⟩
  · obtain ⟨b, off, rfl, hb, hcell⟩ := hx h0
    clear hx
    go_enter Tryz.func33, Tryz.ntmps33
    go_wp2
    go_loopw [2] (fun i wr => ∃ k : Nat, k ≤ L ∧ i = .int .i64 k ∧ Spoilt S w wr) (fun i _ => L - (intOf i).toNat)
    case atStart => exact ⟨0, Nat.zero_le _, rfl, Spoilt.refl _ _⟩
    case round =>
      obtain ⟨k, hk, rfl, hsp⟩ := hrel
      by_cases hlt : k < L
      · obtain ⟨⟨x0, h1⟩, h2⟩ := hcell k hlt
        have hfz := hsp.thaw _ (World.block_lt_of_cell? w _ h1) h2
        obtain ⟨x, hcl⟩ := hsp.ints _ _ h1
        clear h1 h2 hcell
        go_wp2
        go_roundw
        case rel => exact ⟨k + 1, by omega, by go_num, hsp.trans (Spoilt.store hcl hb)⟩
        case measure => simp [intOf]; omega
      · go_wp2
        go_end0
        exact ⟨rfl, hsp⟩

/-- Rows of whatever numbers, that may be written over. -/
def IntsS (w : World) (S : Nat → Prop) (v : Value) : Prop := ∃ vs, v = stV vs ∧ ∀ i, i < 4 → Ints w S (slV (vs i))
set_option maxHeartbeats 400000 in
theorem lawSpoilState (v : Value) (S : Nat → Prop) (w : World) (hx : IntsS w S v) (hbase : True) :
    Calls Tryz.prog 32 #[v] w fun e w' => e = .returned (.tuple #[]) ∧ Spoilt S w w' := by
  obtain ⟨vs, rfl, hr⟩ := hx
  have hb1 := Box.new w (cells4 vs) 54
  have hs1 : Spoilt S w (w.alloc (.cells (cells4 vs) 54)) := Spoilt.le hbase (Le.alloc _ _)
  go_enter Tryz.func32, Tryz.ntmps32
  go_wp2
  go_loopw [2] (fun i wr => ∃ k : Nat, k ≤ 4 ∧ i = .int .i64 k ∧ Spoilt S (w.alloc (.cells (cells4 vs) 54)) wr) (fun i _ => 4 - (intOf i).toNat)
  case atStart => exact ⟨0, by omega, rfl, Spoilt.refl _ _⟩
  case round =>
    obtain ⟨k, hk, rfl, hsp⟩ := hrel
    by_cases hlt : k < 4
    · have hi := (hr k hlt).spoilt (hs1.trans hsp)
      have c1 : wr.cell? ⟨w.heap.size, k, none⟩ = some (slV (vs k)) := hsp.rest _ _ ((hb1.cell k).trans (cells4_at vs hlt)) (fun x h => by cases h)
      go_wp2_with (go_at_call 33; refine (lawSpoil _ S _ hi).mono ?_; rintro e w1 ⟨rfl, s1⟩; clear hi c1)
      go_roundw
      case rel => exact ⟨k + 1, by omega, by go_num, hsp.trans s1⟩
      case measure => simp [intOf]; omega
    · obtain rfl : k = 4 := by omega
      go_wp2
      go_end0
      exact ⟨rfl, hs1.trans hsp⟩

/-- v is a slice of whatever slots, in blocks from S on, that may be written over. -/
def IntsL (w : World) (S : Nat → Prop) (v : Value) : Prop :=
  ∃ (a : Option Addr) (n cap : Nat), v = .slice a n cap ∧ n ≤ cap ∧ n ≤ 9223372036854775807 ∧
    (0 < n → ∃ b off, a = some ⟨b, off, none⟩ ∧ S b ∧ ∀ i, i < n → (∃ x, w.cell? ⟨b, off + i * 5 + 3, none⟩ = some (.int .i64 x)) ∧ w.frozen? ⟨b, off + i * 5 + 3, none⟩ = false)
def IntsR (w : World) (S : Nat → Prop) (v : Value) : Prop := ∃ h t f q, v = ringV h t f q ∧ IntsL w S (slV q)

theorem IntsL.spoilt {w w' : World} {S S' : Nat → Prop} {v : Value} (h : IntsL w S v) (k : Spoilt S' w w') : IntsL w' S v := by
  obtain ⟨a, n, cap, hv, hn, hm, hx⟩ := h
  refine ⟨a, n, cap, hv, hn, hm, fun hp => ?_⟩
  obtain ⟨b, off, ha, hb, hc⟩ := hx hp
  refine ⟨b, off, ha, hb, fun i hi => ?_⟩
  obtain ⟨⟨x, h1⟩, h2⟩ := hc i hi
  exact ⟨k.ints _ _ h1, k.thaw _ (World.block_lt_of_cell? w _ h1) h2⟩
set_option maxHeartbeats 400000 in
theorem lawSpoilSlots (v : Value) (S : Nat → Prop) (w : World) (hx : IntsL w S v) :
    Calls Tryz.prog 56 #[v] w fun e w' => e = .returned (.tuple #[]) ∧ Spoilt S w w' := by
  obtain ⟨a, L, cap, rfl, hc, hm, hx⟩ := hx
  rcases Nat.eq_zero_or_pos L with h0 | h0
  · subst h0
    go_enter Tryz.func56, Tryz.ntmps56
    go_wp2
    refine wp_loop_rounds 1 ?_
    rw [rounds_succ]
    go_wp2
    go_end0
    exact ⟨rfl, Spoilt.refl _ _⟩
  · obtain ⟨b, off, rfl, hb, hcell⟩ := hx h0
    clear hx
    go_enter Tryz.func56, Tryz.ntmps56
    go_wp2
    go_loopw [2] (fun i wr => ∃ k : Nat, k ≤ L ∧ i = .int .i64 k ∧ Spoilt S w wr) (fun i _ => L - (intOf i).toNat)
    case atStart => exact ⟨0, Nat.zero_le _, rfl, Spoilt.refl _ _⟩
    case round =>
      obtain ⟨k, hk, rfl, hsp⟩ := hrel
      by_cases hlt : k < L
      · obtain ⟨⟨x0, h1⟩, h2⟩ := hcell k hlt
        have hfz := hsp.thaw _ (World.block_lt_of_cell? w _ h1) h2
        obtain ⟨x, hcl⟩ := hsp.ints _ _ h1
        clear h1 h2 hcell
        go_wp2
        go_roundw
        case rel => exact ⟨k + 1, by omega, by go_num, hsp.trans (Spoilt.store hcl hb)⟩
        case measure => simp [intOf]; omega
      · go_wp2
        go_end0
        exact ⟨rfl, hsp⟩

theorem lawSpoilRing (v : Value) (S : Nat → Prop) (w : World) (hx : IntsR w S v) (hbase : True) :
    Calls Tryz.prog 31 #[v] w fun e w' => e = .returned (.tuple #[]) ∧ Spoilt S w w' := by
  obtain ⟨h, t, f, q, rfl, hi⟩ := hx
  have hs1 : Spoilt S w (w.alloc (.cells (cellsR h t f q) 60)) := Spoilt.le hbase (Le.alloc _ _)
  have hsp := lawSpoilSlots _ S _ (hi.spoilt hs1)
  go_enter Tryz.func31, Tryz.ntmps31
  go_wp2_with fail
  refine hsp.mono ?_
  rintro e w1 ⟨rfl, s1⟩
  go_wp2_with fail
  go_end0
  exact ⟨rfl, hs1.trans s1⟩

/-- A row of elements of k cells each, each of which is as At says, in blocks from S on. -/
def IntsRow (k : Nat) (At : World → Nat → Nat → Prop) (w : World) (S : Nat → Prop) (v : Value) : Prop :=
  ∃ (a : Option Addr) (n cap : Nat), v = .slice a n cap ∧ n ≤ cap ∧ n ≤ 9223372036854775807 ∧ (0 < n → ∃ b off, a = some ⟨b, off, none⟩ ∧ S b ∧ ∀ i, i < n → At w b (off + i * k))
def RingX (S : Nat → Prop) (w : World) (b off : Nat) : Prop := (∃ R q, RingAt w b off R q ∧ IntsL w S (slV q)) ∧ w.frozen? ⟨b, off + 1, none⟩ = false
def RepX (S : Nat → Prop) (w : World) (b off : Nat) : Prop := ∃ vs c l, RepAt w b off vs c l ∧ (∀ i, i < 4 → Ints w S (slV (vs i))) ∧ Ints w S (slV c) ∧ Ints w S (slV l)
def ThX (S : Nat → Prop) (w : World) (b off : Nat) : Prop := (∃ T q t, ThAt w b off T q t ∧ Ints w S (slV q) ∧ Ints w S (slV t)) ∧ w.frozen? ⟨b, off, none⟩ = false
def EvX (w : World) (b off : Nat) : Prop := (∃ x, w.cell? ⟨b, off, none⟩ = some (.int .i64 x)) ∧ w.frozen? ⟨b, off, none⟩ = false
def IntsM (w : World) (S : Nat → Prop) (v : Value) : Prop := ∃ c qR qP qT qH, v = machV c qR qP qT qH ∧ IntsRow 4 (RingX S) w S (slV qR) ∧ IntsRow 6 (RepX S) w S (slV qP) ∧ IntsRow 12 (ThX S) w S (slV qT) ∧ IntsRow 6 EvX w S (slV qH)

theorem IntsRow.spoilt {k : Nat} {At : World → Nat → Nat → Prop} {w w' : World} {S S' : Nat → Prop} {v : Value} (h : IntsRow k At w S v) (hAt : ∀ b off, At w b off → At w' b off) (_k : Spoilt S' w w') : IntsRow k At w' S v := by
  obtain ⟨a, n, cap, hv, hn, hm, hx⟩ := h
  refine ⟨a, n, cap, hv, hn, hm, fun hp => ?_⟩
  obtain ⟨b, off, ha, hb, hc⟩ := hx hp
  exact ⟨b, off, ha, hb, fun i hi => hAt _ _ (hc i hi)⟩
theorem Spoilt.sl {S : Nat → Prop} {w w' : World} (k : Spoilt S w w') {p : Addr} {q : Sl} (h : w.cell? p = some (slV q)) : w'.cell? p = some (slV q) := k.rest p _ h (fun x e => by cases e)
theorem Spoilt.bool {S : Nat → Prop} {w w' : World} (k : Spoilt S w w') {p : Addr} {b : Bool} (h : w.cell? p = some (.bool b)) : w'.cell? p = some (.bool b) := k.rest p _ h (fun x e => by cases e)
theorem RingX.spoilt {S S' : Nat → Prop} {w w' : World} {b off : Nat} (h : RingX S w b off) (k : Spoilt S' w w') : RingX S w' b off := by
  obtain ⟨⟨R, q, ⟨h0, h1, h2, h3⟩, hi⟩, hf⟩ := h
  obtain ⟨x0, e0⟩ := k.ints _ _ h0
  obtain ⟨x1, e1⟩ := k.ints _ _ h1
  obtain ⟨x2, e2⟩ := k.ints _ _ h2
  exact ⟨⟨⟨x0, x1, x2, []⟩, q, ⟨e0, e1, e2, k.sl h3⟩, hi.spoilt k⟩, k.thaw _ (World.block_lt_of_cell? w ⟨b, off + 1, none⟩ h1) hf⟩
theorem RepX.spoilt {S S' : Nat → Prop} {w w' : World} {b off : Nat} (h : RepX S w b off) (k : Spoilt S' w w') : RepX S w' b off := by
  obtain ⟨vs, c, l, ⟨h0, h1, h2, h3, h4, h5⟩, i0, i1, i2⟩ := h
  exact ⟨vs, c, l, ⟨k.sl h0, k.sl h1, k.sl h2, k.sl h3, k.sl h4, k.sl h5⟩, fun i hi => (i0 i hi).spoilt k, i1.spoilt k, i2.spoilt k⟩
theorem ThX.spoilt {S S' : Nat → Prop} {w w' : World} {b off : Nat} (h : ThX S w b off) (k : Spoilt S' w w') : ThX S w' b off := by
  obtain ⟨⟨T, q, t, ⟨h0, h1, h2, h3, h4, h5, h6, h7, h8, h9, h10, h11⟩, i0, i1⟩, hf⟩ := h
  obtain ⟨x0, e0⟩ := k.ints _ _ h0
  obtain ⟨x1, e1⟩ := k.ints _ _ h1
  obtain ⟨x2, e2⟩ := k.ints _ _ h2
  obtain ⟨x3, e3⟩ := k.ints _ _ h3
  obtain ⟨x4, e4⟩ := k.ints _ _ h4
  obtain ⟨x5, e5⟩ := k.ints _ _ h5
  obtain ⟨x7, e7⟩ := k.ints _ _ h7
  obtain ⟨x10, e10⟩ := k.ints _ _ h10
  exact ⟨⟨⟨x0, x1, x2, x3, x4, x5, [], x7, T.po, T.re, x10, []⟩, q, t, ⟨e0, e1, e2, e3, e4, e5, k.sl h6, e7, k.bool h8, k.bool h9, e10, k.sl h11⟩, i0.spoilt k, i1.spoilt k⟩, k.thaw _ (World.block_lt_of_cell? w ⟨b, off, none⟩ h0) hf⟩
theorem EvX.spoilt {S' : Nat → Prop} {w w' : World} {b off : Nat} (h : EvX w b off) (k : Spoilt S' w w') : EvX w' b off := by
  obtain ⟨⟨x, h⟩, hf⟩ := h
  exact ⟨k.ints _ _ h, k.thaw _ (World.block_lt_of_cell? w ⟨b, off, none⟩ h) hf⟩
theorem IntsM.spoilt {w w' : World} {S S' : Nat → Prop} {v : Value} (h : IntsM w S v) (k : Spoilt S' w w') : IntsM w' S v := by
  obtain ⟨c, qR, qP, qT, qH, hv, h1, h2, h3, h4⟩ := h
  exact ⟨c, qR, qP, qT, qH, hv, h1.spoilt (fun _ _ h => h.spoilt k) k, h2.spoilt (fun _ _ h => h.spoilt k) k, h3.spoilt (fun _ _ h => h.spoilt k) k, h4.spoilt (fun _ _ h => h.spoilt k) k⟩

set_option maxHeartbeats 400000 in
theorem lawSpoilEvents (v : Value) (S : Nat → Prop) (w : World) (hx : IntsRow 6 EvX w S v) :
    Calls Tryz.prog 30 #[v] w fun e w' => e = .returned (.tuple #[]) ∧ Spoilt S w w' := by
  obtain ⟨a, L, cap, rfl, hc, hm, hx⟩ := hx
  rcases Nat.eq_zero_or_pos L with h0 | h0
  · subst h0
    go_enter Tryz.func30, Tryz.ntmps30
    go_wp2
    refine wp_loop_rounds 1 ?_
    rw [rounds_succ]
    go_wp2
    go_end0
    exact ⟨rfl, Spoilt.refl _ _⟩
  · obtain ⟨b, off, rfl, hb, hcell⟩ := hx h0
    clear hx
    go_enter Tryz.func30, Tryz.ntmps30
    go_wp2
    go_loopw [2] (fun i wr => ∃ k : Nat, k ≤ L ∧ i = .int .i64 k ∧ Spoilt S w wr) (fun i _ => L - (intOf i).toNat)
    case atStart => exact ⟨0, Nat.zero_le _, rfl, Spoilt.refl _ _⟩
    case round =>
      obtain ⟨k, hk, rfl, hsp⟩ := hrel
      by_cases hlt : k < L
      · obtain ⟨⟨x, hcl⟩, hfz⟩ := (hcell k hlt).spoilt hsp
        clear hcell
        go_wp2
        go_roundw
        case rel => exact ⟨k + 1, by omega, by go_num, hsp.trans (Spoilt.store hcl hb)⟩
        case measure => simp [intOf]; omega
      · go_wp2
        go_end0
        exact ⟨rfl, hsp⟩

set_option maxHeartbeats 4000000 in
theorem lawSpoilMachine (v : Value) (S : Nat → Prop) (w : World) (hx : IntsM w S v) (hbase : True) :
    Calls Tryz.prog 12 #[v] w fun e w' => e = .returned (.tuple #[]) ∧ Spoilt S w w' := by
  obtain ⟨c, qR, qP, qT, qH, rfl, hR, hP, hT, hH⟩ := hx
  have hb := Box.new w (cells9 c qR qP qT qH) 29
  have hs0 : Spoilt S w (w.alloc (.cells (cells9 c qR qP qT qH) 29)) := Spoilt.le hbase (Le.alloc _ _)
  replace hR := hR.spoilt (fun _ _ h => h.spoilt hs0) hs0
  replace hP := hP.spoilt (fun _ _ h => h.spoilt hs0) hs0
  replace hT := hT.spoilt (fun _ _ h => h.spoilt hs0) hs0
  replace hH := hH.spoilt (fun _ _ h => h.spoilt hs0) hs0
  have hsz0 : True := trivial
  obtain ⟨⟨_, _, _, _, _⟩, z5, z6, z7, z8⟩ := hb.mach
  have hev := lawSpoilEvents _ S _ hH
  clear hb
  generalize hW : w.alloc (.cells (cells9 c qR qP qT qH) 29) = W at *
  go_enter Tryz.func12, Tryz.ntmps12
  go_wp2_with fail
  refine hev.mono ?_
  rintro e w1 ⟨rfl, s1⟩
  clear hev hH
  obtain ⟨aR, nR, cR⟩ := qR
  obtain ⟨aP, nP, cP⟩ := qP
  obtain ⟨aT, nT, cT⟩ := qT
  simp only [slV] at z5 z6 z7 hR hP hT
  have y5 := s1.sl (q := (aR, nR, cR)) z5
  simp only [slV] at y5
  go_wp2_with fail
  go_loopw [2] (fun i wr => ∃ k : Nat, k ≤ nR ∧ i = .int .i64 k ∧ Spoilt S W wr) (fun i _ => nR - (intOf i).toNat)
  case atStart => exact ⟨0, Nat.zero_le _, rfl, s1⟩
  case round =>
    obtain ⟨k, hk, rfl, hsp⟩ := hrel
    clear y5 s1 w1
    have y5 := hsp.sl (q := (aR, nR, cR)) z5
    simp only [slV] at y5
    have hsz : True := trivial
    by_cases hlt : k < nR
    · obtain ⟨a', n', c', hv, hnc, hm, hx⟩ := hR
      simp only [Value.slice.injEq] at hv
      obtain ⟨rfl, rfl, rfl⟩ := hv
      obtain ⟨b, off, rfl, hbb, hcell⟩ := hx (by omega)
      obtain ⟨⟨R, q, ⟨r0, r1, r2, r3⟩, hi⟩, hfz⟩ := (hcell k hlt).spoilt hsp
      have hsr := lawSpoilRing (ringV R.h R.t R.f q) S _ ⟨_, _, _, _, rfl, hi⟩ hsz
      have hlt' : (k : Int) < (nR : Int) := by omega
      have hk0 : (0 : Int) ≤ (k : Int) := by omega
      clear hP hT z6 z7 z8 hx
      go_wp2_with fail
      refine hsr.mono ?_
      rintro e w2 ⟨rfl, s2⟩
      have hsp2 := hsp.trans s2
      obtain ⟨⟨R', q', ⟨r0', r1', r2', r3'⟩, hi'⟩, hfz'⟩ := (hcell k hlt).spoilt hsp2
      have y5' := s2.sl (q := (some ⟨b, off, none⟩, nR, cR)) y5
      simp only [slV] at y5'
      clear hcell r0 r1 r2 r3 hi hfz hsr y5 hsp s2 r0' r2' r3' hi' z5
      generalize R'.t = x at r1'
      go_wp2_with fail
      go_region
      go_wp2_with fail
      go_roundw
      case rel => exact ⟨k + 1, by omega, by go_num, hsp2.trans ((Spoilt.le trivial (Le.drew _)).trans (Spoilt.store r1' hbb))⟩
      case measure => simp [intOf]; omega
    · clear hR
      have y6 := hsp.sl (q := (aP, nP, cP)) z6
      simp only [slV] at y6
      go_wp2_with fail
      go_loopw [3] (fun i wr => ∃ k : Nat, k ≤ nP ∧ i = .int .i64 k ∧ Spoilt S W wr) (fun i _ => nP - (intOf i).toNat)
      case atStart => exact ⟨0, Nat.zero_le _, rfl, hsp⟩
      case round =>
        obtain ⟨j, hj, rfl, hsp'⟩ := hrel
        clear y5 y6 hsz hsp hlt hk
        rename_i _ wq
        have y6 := hsp'.sl (q := (aP, nP, cP)) z6
        simp only [slV] at y6
        have hsz : True := trivial
        by_cases hlt : j < nP
        · obtain ⟨a', n', c', hv, hnc, hm, hx⟩ := hP
          simp only [Value.slice.injEq] at hv
          obtain ⟨rfl, rfl, rfl⟩ := hv
          obtain ⟨b, off, rfl, hbb, hcell⟩ := hx (by omega)
          have hlt' : (j : Int) < (nP : Int) := by omega
          have hj0 : (0 : Int) ≤ (j : Int) := by omega
          clear hT z5 z7 z8 hx
          obtain ⟨vs, cc, ll, ⟨r0, r1, r2, r3, r4, r5⟩, i0, i1, i2⟩ := (hcell j hlt).spoilt hsp'
          have hsr := lawSpoilState (stV vs) S _ ⟨vs, rfl, i0⟩ hsz
          go_wp2_with fail
          refine hsr.mono ?_
          rintro e w2 ⟨rfl, s2⟩
          have hsr2 := lawSpoil _ S _ (i1.spoilt s2)
          have r4' := s2.sl r4
          have y6' := s2.sl (q := (some ⟨b, off, none⟩, nP, cP)) y6
          simp only [slV] at y6'
          go_wp2_with fail
          refine hsr2.mono ?_
          rintro e w3 ⟨rfl, s3⟩
          have hsr3 := lawSpoil _ S _ ((i2.spoilt s2).spoilt s3)
          have r5' := s3.sl (s2.sl r5)
          have y6'' := s3.sl (q := (some ⟨b, off, none⟩, nP, cP)) y6'
          simp only [slV] at y6''
          go_wp2_with fail
          refine hsr3.mono ?_
          rintro e w4 ⟨rfl, s4⟩
          go_wp2_with fail
          go_roundw
          case rel => exact ⟨j + 1, by omega, by go_num, ((hsp'.trans s2).trans s3).trans s4⟩
          case measure => simp [intOf]; omega
        · clear hP
          have y7 := hsp'.sl (q := (aT, nT, cT)) z7
          simp only [slV] at y7
          go_wp2_with fail
          go_loopw [4] (fun i wr => ∃ k : Nat, k ≤ nT ∧ i = .int .i64 k ∧ Spoilt S W wr) (fun i _ => nT - (intOf i).toNat)
          case atStart => exact ⟨0, Nat.zero_le _, rfl, hsp'⟩
          case round =>
            obtain ⟨i, hi, rfl, hsp⟩ := hrel
            clear y6 y7 hsz hsp' hlt hj
            have y7 := hsp.sl (q := (aT, nT, cT)) z7
            simp only [slV] at y7
            have hsz : True := trivial
            by_cases hlt : i < nT
            · obtain ⟨a', n', c', hv, hnc, hm, hx⟩ := hT
              simp only [Value.slice.injEq] at hv
              obtain ⟨rfl, rfl, rfl⟩ := hv
              obtain ⟨b, off, rfl, hbb, hcell⟩ := hx (by omega)
              have hlt' : (i : Int) < (nT : Int) := by omega
              have hi0 : (0 : Int) ≤ (i : Int) := by omega
              clear z5 z6 z8 hx
              obtain ⟨⟨T, q, t, ⟨_, _, _, _, _, _, r6, _, _, _, _, r11⟩, i0, i1⟩, _⟩ := (hcell i hlt).spoilt hsp
              have hsr := lawSpoil _ S _ i0
              go_wp2_with fail
              refine hsr.mono ?_
              rintro e w2 ⟨rfl, s2⟩
              have hsr2 := lawSpoil _ S _ (i1.spoilt s2)
              have r11' := s2.sl r11
              have y7' := s2.sl (q := (some ⟨b, off, none⟩, nT, cT)) y7
              simp only [slV] at y7'
              go_wp2_with fail
              refine hsr2.mono ?_
              rintro e w3 ⟨rfl, s3⟩
              have hsp3 := (hsp.trans s2).trans s3
              obtain ⟨⟨T', q', t', ⟨r0, _⟩, _⟩, hfz⟩ := (hcell i hlt).spoilt hsp3
              have y7'' := s3.sl (q := (some ⟨b, off, none⟩, nT, cT)) y7'
              simp only [slV] at y7''
              clear hcell hsr hsr2 y7 y7' hsp s2 s3 r6 r11 r11' i0 i1 z7
              generalize T'.st = x at r0
              go_wp2_with fail
              go_region
              go_wp2_with fail
              go_roundw
              case rel => exact ⟨i + 1, by omega, by go_num, hsp3.trans ((Spoilt.le trivial (Le.drew _)).trans (Spoilt.store r0 hbb))⟩
              case measure => simp [intOf]; omega
            · clear hT
              go_wp2_with fail
              go_end0
              exact ⟨rfl, hs0.trans hsp⟩


theorem own_ints {w : World} {base : Nat} {S : Nat → Prop} {v : Value} {xs : List Int} (h : Own w base v xs) (hS : ∀ g, base ≤ g → g < w.heap.size → S g) : Ints w S v := by
  obtain ⟨a, n, cap, hv, hn, hm, hx⟩ := Go.Proofs.YtnemldboiogdkaaGreat.Own.ints h
  refine ⟨a, n, cap, hv, hn, hm, fun hp => ?_⟩
  obtain ⟨b, off, ha, hb, hc⟩ := hx hp
  obtain ⟨⟨x, h1⟩, _⟩ := hc 0 hp
  exact ⟨b, off, ha, hS b hb (World.block_lt_of_cell? w _ h1), hc⟩
theorem ownL_ints {w : World} {base : Nat} {S : Nat → Prop} {v : Value} {ss : List Slt} (h : OwnL w base v ss) (hf : ss.length * 40 ≤ 140737488351232) (hS : ∀ g, base ≤ g → g < w.heap.size → S g) : IntsL w S v := by
  obtain ⟨a, n, cap, hv, hn, hm, hx⟩ := Go.Proofs.YtnemldboiogdkaaGreat.OwnL.ints h hf
  refine ⟨a, n, cap, hv, hn, hm, fun hp => ?_⟩
  obtain ⟨b, off, ha, hb, hc⟩ := hx hp
  obtain ⟨⟨x, h1⟩, _⟩ := hc 0 hp
  exact ⟨b, off, ha, hS b hb (World.block_lt_of_cell? w _ h1), hc⟩
theorem each {α : Type} {K : Kind α} {w : World} {base : Nat} {S : Nat → Prop} {v : Value} {xs : List α} (h : OwnE K w base v xs) (At : World → Nat → Nat → Prop) (hm : xs.length ≤ 9223372036854775807) (hS : ∀ g, base ≤ g → g < w.heap.size → S g)
    (hAt : ∀ b off x, x ∈ xs → (∀ j, j < K.k → w.cell? ⟨b, off + j, none⟩ = (K.f x)[j]?) → (∀ j, w.frozen? ⟨b, j, none⟩ = false) → At w b off) : IntsRow K.k At w S v := by
  obtain ⟨a, n, cap, hv, hn, hm', hx⟩ := Go.Proofs.YtnemldboiogdkaaGreat.OwnE.each h At hm hAt
  refine ⟨a, n, cap, hv, hn, hm', fun hp => ?_⟩
  obtain ⟨b, off, ha, hb, hc⟩ := hx hp
  refine ⟨b, off, ha, hS b hb ?_, hc⟩
  subst ha hv
  exact (h.block (g := b) rfl).2
theorem ownsM_ints {w : World} {base : Nat} {S : Nat → Prop} {L : Lay} (h : OwnsM w base L) (hf : FitM L.M) (hS : ∀ g, base ≤ g → g < w.heap.size → S g) : IntsM w S L.v := by
  have f1 := hf.rs
  have f2 := hf.ps
  have f3 := hf.ts
  have f4 := hf.es
  simp only [Lay.M, List.length_map] at f1 f2 f3 f4
  refine ⟨L.c, L.qR, L.qP, L.qT, L.qH, rfl, ?_, ?_, ?_, ?_⟩
  · refine each h.oR (RingX S) (by omega) hS fun b off x hx hc hz => ⟨⟨x.R, x.q, ⟨hc 0 (by decide), hc 1 (by decide), hc 2 (by decide), hc 3 (by decide)⟩, ownL_ints (h.iR x hx) (hf.r x.R (List.mem_map_of_mem hx)) hS⟩, hz _⟩
  · refine each h.oP (RepX S) (by omega) hS fun b off x hx hc hz => ⟨x.vs, x.c, x.l, ⟨hc 0 (by decide), hc 1 (by decide), hc 2 (by decide), hc 3 (by decide), hc 4 (by decide), hc 5 (by decide)⟩, fun i hi => own_ints ((h.iP x hx).1 i hi) hS, own_ints (h.iP x hx).2.1 hS, own_ints (h.iP x hx).2.2 hS⟩
  · refine each h.oT (ThX S) (by omega) hS fun b off x hx hc hz => ⟨⟨x.T, x.b, x.t, ⟨hc 0 (by decide), hc 1 (by decide), hc 2 (by decide), hc 3 (by decide), hc 4 (by decide), hc 5 (by decide), hc 6 (by decide), hc 7 (by decide), hc 8 (by decide), hc 9 (by decide), hc 10 (by decide), hc 11 (by decide)⟩, own_ints (h.iT x hx).1 hS, own_ints (h.iT x hx).2 hS⟩, hz _⟩
  · refine each h.oH EvX (by omega) hS fun b off x hx hc hz => ⟨⟨x.t, hc 0 (by decide)⟩, hz _⟩
theorem Spoilt.toLe {S : Nat → Prop} {w0 w w' : World} (k : Spoilt S w w') (l : Le w0 w) (hS : ∀ g, g < w0.heap.size → ¬ S g) : Le w0 w' :=
  ⟨k.os.trans l.os, k.tape.trans l.tape, k.output.trans l.output, Nat.le_trans l.size k.size, fun i hi => (k.keep i (Nat.lt_of_lt_of_le hi l.size) (hS i hi)).trans (l.block i hi)⟩

end Go.Proofs.YtnemldboiogdkaaGreat.Sp

/-
  THE WALK over choruslaw17's awake. No condition.
-/
namespace Go.Proofs.YtnemldboiogdkaaGreat
open Go.RowKit

set_option maxRecDepth 8000 in
set_option maxHeartbeats 4000000 in
theorem lawAwake17 (w : World) : Calls Tryz.prog 13 #[] w fun e w' => e = .returned (.bool true) ∧ Le w w' := by
  have hl := Le.refl w
  go_enter Tryz.func13, Tryz.ntmps13
  go_upto_region 1 with fail
  go_wp2_with fail
  refine (held17 _).mono ?_
  rintro e w0 ⟨pR, pP, pT, pH, rfl, o0, l0⟩
  go_wp2_with fail
  refine (batchCollectAs bt_1 _ _ o0.has hld_fit).mono ?_
  rintro e w1 ⟨aR, aP, aT, aH, rfl, oA, l1⟩
  obtain ⟨xR, xP, bT, oT, cT, xH, gb, ob, cb, hv, c0, c6, c8, hs0⟩ := bt_open oA.has
  rw [hv]
  rw [bt_c] at hv
  have hbc : machV begC xR xP (some ⟨bT, oT, none⟩, 4, cT) xH = machV begC xR xP (some ⟨bT, oT, none⟩, 4, cT) xH := rfl
  clear hv hbc aR aP aT aH o0 oA
  obtain ⟨xT, hxT⟩ : ∃ q : Sl, q = (some ⟨bT, oT, none⟩, 4, cT) := ⟨_, rfl⟩
  rw [← hxT]
  have HXT : Hid (xT = (some ⟨bT, oT, none⟩, 4, cT)) := hxT
  clear hxT
  replace hl := (hl.trans l0).trans l1
  clear l0 l1
  have hbA := Box.new w1 (cells9 begC xR xP xT xH) 29
  have a1 := Le.alloc w1 (.cells (cells9 begC xR xP xT xH) 29)
  go_upto_region 2 with fail
  generalize hW1 : w1.alloc (.cells (cells9 begC xR xP xT xH) 29) = W1 at hbA a1 ⊢
  clear hW1
  have hggA : w1.heap.size ≤ w1.heap.size := Nat.le_refl _
  generalize hgg : w1.heap.size = gA at hbA hggA ⊢
  have hsgA : w1.heap.size ≤ gA := by omega
  clear hgg hggA
  replace hl := hl.trans a1
  replace c0 := cell_le c0 a1
  replace c6 := cell_le c6 a1
  replace c8 := cell_le c8 a1
  replace hs0 := hs0.le a1
  clear a1
  go_wp2_with fail
  refine (begun17 _).mono ?_
  rintro e w4 ⟨pR, pP, pT, pH, rfl, o4, l4⟩
  go_wp2_with fail
  refine (batchCollectAs bt_2 _ _ o4.has beg_fit).mono ?_
  rintro e w5 ⟨uR, uP, uT, uH, rfl, _, l5⟩
  replace l4 := l4.trans l5
  clear o4 l5
  replace hl := hl.trans l4
  replace hbA := hbA.le l4
  replace c0 := cell_le c0 l4
  replace c6 := cell_le c6 l4
  replace c8 := cell_le c8 l4
  replace hs0 := hs0.le l4
  clear l4
  have hbD := Box.new w5 (cells9 Mc.zero.c uR uP uT uH) 29
  have a1 := Le.alloc w5 (.cells (cells9 Mc.zero.c uR uP uT uH) 29)
  go_upto_region 3 with fail
  generalize hW1 : w5.alloc (.cells (cells9 Mc.zero.c uR uP uT uH) 29) = W5 at hbD a1 ⊢
  clear hW1
  have hggD : w5.heap.size ≤ w5.heap.size := Nat.le_refl _
  generalize hgg : w5.heap.size = gD at hbD hggD ⊢
  have hsgD : w5.heap.size ≤ gD := by omega
  clear hgg hggD
  replace hl := hl.trans a1
  replace hbA := hbA.le a1
  replace c0 := cell_le c0 a1
  replace c6 := cell_le c6 a1
  replace c8 := cell_le c8 a1
  replace hs0 := hs0.le a1
  clear a1 hbD
  have hlit := (Own.lit W5 W5.heap.size (Nat.le_refl _) [0] (by simp)).has
  have hA := Le.alloc W5 (.cells #[.int .i64 0] 3)
  have hs1 := lawSameInts _ _ [0] [0] _ (hs0.le hA) hlit (by simp)
  simp only [decide_true, List.length_cons, List.length_nil, Nat.zero_add] at hs1
  clear hlit hs0
  obtain ⟨⟨z0, z1, z2, z3, z4⟩, z5, z6, z7, z8⟩ := (hbA).mach
  rw [HXT.out] at z7
  simp only [slV] at z7
  go_wp2_with (first | (go_at_call 11; refine (lawNum _ _).mono ?_; rintro e _ ⟨rfl, rfl⟩) | (go_at_call 15; refine Calls.mono hs1 ?_; rintro e W6 ⟨rfl, n8, hn8⟩; have l8 : Le W5 W6 := hA.trans (by rw [hn8]; exact Le.drewN _ _); clear hn8; have y7 := (hbA.le l8).mach.2.2.2.1; rw [HXT.out] at y7; simp only [slV] at y7; have d0 := cell_le c0 l8; have d8 := cell_le c8 l8))
  go_ret
  exact ⟨rfl, hl.trans l8⟩

end Go.Proofs.YtnemldboiogdkaaGreat
