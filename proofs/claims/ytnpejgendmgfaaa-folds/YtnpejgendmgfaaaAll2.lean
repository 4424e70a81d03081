/-
  PARTS LAID TOGETHER, each with its own opening: FoS, HasBox, ObjA, ObjB, FoA, FoB, FoAwake, RefCp, RefMay, RefStA, RefSum, RefApp0, RefRow1, RefRow2, RefApp1, RefRow3.
-/
import Derived.Test.YtnpejgendmgfaaaAll1
import Derived.Deep.RegionHeld3
import Derived.Deep.Cut
/-
  PLAIN GROUND, NO WALK: the document's answer of a fold: one operation behind the other. No condition.
-/
namespace Go.Proofs.Ytnpejgendmgfaaa
open Go.RowKit

/-- May it be? -/
def Opr.may (p : Opr) : Bool := opMay p.c p.r p.a
/-- May all of them be? -/
def opsMay (ps : List Opr) : Bool := ps.all Opr.may
/-- The state that one leaves, and its answer. -/
def stepS (o : Int) (s : St) (p : Opr) : St := (objS o s p.c p.r p.a 0).1
def stepA (o : Int) (s : St) (p : Opr) : Int := (objS o s p.c p.r p.a 0).2.1
/-- The state behind them, one behind the other. -/
def foldSt (o : Int) : St → List Opr → St
  | s, [] => s
  | s, p :: ps => foldSt o (stepS o s p) ps
/-- Their answers. -/
def foldAn (o : Int) : St → List Opr → List Int
  | _, [] => []
  | s, p :: ps => stepA o s p :: foldAn o (stepS o s p) ps
def foldMay (o : Int) (s : St) (ps : List Opr) : Bool := objMay o s && opsMay ps
/-- The document's answer. -/
def foldS (o : Int) (s : St) (ps : List Opr) (er : Int) : St × List Int × Int := if foldMay o s ps then (foldSt o s ps, foldAn o s ps, 0) else (St.zero, [], er)

theorem foldS_yes {o : Int} {s : St} {ps : List Opr} (er : Int) (h : foldMay o s ps = true) : foldS o s ps er = (foldSt o s ps, foldAn o s ps, 0) := by unfold foldS; rw [if_pos h]
theorem foldS_no {o : Int} {s : St} {ps : List Opr} (er : Int) (h : foldMay o s ps = false) : foldS o s ps er = (St.zero, [], er) := by unfold foldS; rw [h]; rfl

theorem foldSt_append (o : Int) : ∀ (s : St) (ps qs : List Opr), foldSt o s (ps ++ qs) = foldSt o (foldSt o s ps) qs
  | _, [], _ => rfl
  | s, p :: ps, qs => by simp only [List.cons_append, foldSt]; exact foldSt_append o _ ps qs
theorem foldAn_append (o : Int) : ∀ (s : St) (ps qs : List Opr), foldAn o s (ps ++ qs) = foldAn o s ps ++ foldAn o (foldSt o s ps) qs
  | _, [], _ => rfl
  | s, p :: ps, qs => by simp only [List.cons_append, foldAn, foldSt]; rw [foldAn_append o _ ps qs]
theorem foldAn_len (o : Int) : ∀ (s : St) (ps : List Opr), (foldAn o s ps).length = ps.length
  | _, [] => rfl
  | s, p :: ps => by simp only [foldAn, List.length_cons, foldAn_len o _ ps]

theorem take_op {ps : List Opr} {k : Nat} (h : k < ps.length) : ps.take (k + 1) = ps.take k ++ [ps.getD k Opr.zero] := by
  rw [List.take_succ_eq_append_getElem h]; simp [List.getD, h]
theorem foldSt_take {o : Int} {s : St} {ps : List Opr} {k : Nat} (h : k < ps.length) : foldSt o s (ps.take (k + 1)) = stepS o (foldSt o s (ps.take k)) (ps.getD k Opr.zero) := by
  rw [take_op h, foldSt_append]; rfl
theorem foldAn_take {o : Int} {s : St} {ps : List Opr} {k : Nat} (h : k < ps.length) : foldAn o s (ps.take (k + 1)) = foldAn o s (ps.take k) ++ [stepA o (foldSt o s (ps.take k)) (ps.getD k Opr.zero)] := by
  rw [take_op h, foldAn_append]; rfl
theorem opsMay_take {ps : List Opr} {k : Nat} (h : k < ps.length) : opsMay (ps.take (k + 1)) = (opsMay (ps.take k) && (ps.getD k Opr.zero).may) := by
  rw [take_op h]; simp [opsMay]
theorem opsMay_append (ps qs : List Opr) : opsMay (ps ++ qs) = (opsMay ps && opsMay qs) := by simp [opsMay]
theorem opsMay_bad {ps : List Opr} {k : Nat} (h : k < ps.length) (hb : (ps.getD k Opr.zero).may = false) : opsMay ps = false := by
  unfold opsMay
  rw [List.all_eq_false]
  refine ⟨ps.getD k Opr.zero, ?_, by rw [hb]; simp⟩
  simp [List.getD, h]
theorem opsMay_at {ps : List Opr} {k : Nat} (h : k < ps.length) (hm : opsMay ps = true) : (ps.getD k Opr.zero).may = true := by
  cases hb : (ps.getD k Opr.zero).may
  · rw [opsMay_bad h hb] at hm; cases hm
  · rfl

theorem stepS_may {o : Int} {s : St} {p : Opr} (hm : objMay o s = true) (hp : p.may = true) : objMay o (stepS o s p) = true := objS_may 0 hm hp
theorem foldSt_may {o : Int} : ∀ {s : St} {ps : List Opr}, objMay o s = true → opsMay ps = true → objMay o (foldSt o s ps) = true
  | _, [], hm, _ => hm
  | _, p :: ps, hm, hp => by
    simp only [opsMay, List.all_cons, Bool.and_eq_true] at hp
    exact foldSt_may (ps := ps) (stepS_may hm hp.1) hp.2
theorem Fit.step {s : St} (h : Fit s) (o : Int) (p : Opr) : Fit (stepS o s p) := h.obj o p.c p.r p.a 0
theorem Fit.foldSt {o : Int} : ∀ {s : St} {ps : List Opr}, Fit s → Fit (foldSt o s ps)
  | _, [], h => h
  | _, p :: ps, h => Fit.foldSt (ps := ps) (h.step o p)
theorem Fit.fold {s : St} (h : Fit s) (o : Int) (ps : List Opr) (er : Int) : Fit (foldS o s ps er).1 := by
  unfold foldS; split
  · exact h.foldSt
  · exact fit_zero
theorem foldS_len (o : Int) (s : St) (ps : List Opr) (er : Int) : (foldS o s ps er).2.1.length ≤ ps.length := by
  unfold foldS; split
  · exact Nat.le_of_eq (foldAn_len o s ps)
  · exact Nat.zero_le _

/-- What Apply answers, upon a state that may be. -/
theorem objS_step {o : Int} {s : St} {p : Opr} (er : Int) (hm : objMay o s = true) (hp : p.may = true) : objS o s p.c p.r p.a er = (stepS o s p, stepA o s p, 0) := by
  rw [objS_yes er (by rw [hm]; exact hp)]; rfl
theorem objS_bad {o : Int} {s : St} {p : Opr} (er : Int) (hp : p.may = false) : objS o s p.c p.r p.a er = (St.zero, 0, er) := by
  exact objS_no (by rw [show opMay p.c p.r p.a = false from hp, Bool.and_false])

/-- The answers so far, and zeros behind them. -/
def answers (o : Int) (s : St) (ps : List Opr) (k : Nat) : List Int := foldAn o s (ps.take k) ++ List.replicate (ps.length - k) 0
theorem answers_len {o : Int} {s : St} {ps : List Opr} {k : Nat} (h : k ≤ ps.length) : (answers o s ps k).length = ps.length := by
  simp [answers, foldAn_len]; omega
theorem answers_zero (o : Int) (s : St) (ps : List Opr) : answers o s ps 0 = List.replicate ps.length 0 := by simp [answers, foldAn]
theorem answers_all (o : Int) (s : St) (ps : List Opr) : answers o s ps ps.length = foldAn o s ps := by simp [answers]
theorem answers_next {o : Int} {s : St} {ps : List Opr} {k : Nat} (h : k < ps.length) : (answers o s ps k).set k (stepA o (foldSt o s (ps.take k)) (ps.getD k Opr.zero)) = answers o s ps (k + 1) := by
  have hl : (foldAn o s (ps.take k)).length = k := by rw [foldAn_len, List.length_take]; omega
  unfold answers
  rw [foldAn_take h, List.set_append_right _ _ (by omega), hl, Nat.sub_self, show ps.length - k = (ps.length - (k + 1)) + 1 by omega, List.replicate_succ]
  simp

end Go.Proofs.Ytnpejgendmgfaaa

/-
  PLAIN GROUND, NO WALK: rows of numbers behind a store into a variable that holds a state. No condition.
-/
namespace Go.Proofs.Ytnpejgendmgfaaa
open Go.RowKit

theorem cells4_int (vs : Nat → Sl) (i : Nat) (x : Int) : (cells4 vs)[i]? ≠ some (.int .i64 x) := by
  intro h
  match i, h with
  | 0, h => cases h
  | 1, h => cases h
  | 2, h => cases h
  | 3, h => cases h
  | n + 4, h => simp at h

theorem Has.setBox {w : World} {g i : Nat} {v u : Value} {xs : List Int} {vs : Nat → Sl} {t : TypeId} (h : Has w v xs) (hb : Box w g (cells4 vs) t) : Has (w.setCell ⟨g, i, none⟩ u) v xs := by
  obtain ⟨a, cap, hv, hc, hn, hx⟩ := h
  refine ⟨a, cap, hv, hc, hn, fun hp => ?_⟩
  obtain ⟨b, off, ha, hcell⟩ := hx hp
  refine ⟨b, off, ha, fun j hj => ?_⟩
  have h1 := hcell j hj
  have hne : b ≠ g := by
    intro e
    subst e
    rw [hb.cell (off + j)] at h1
    exact cells4_int vs _ _ h1
  rw [World.cell?_setCell_other _ _ _ _ (fun e => hne (by cases e; rfl))]
  exact h1

theorem Box.upd4 {w : World} {g i : Nat} {vs : Nat → Sl} {t : TypeId} (hb : Box w g (cells4 vs) t) (hi : i < 4) (q : Sl) : Box (w.setCell ⟨g, i, none⟩ (slV q)) g (cells4 (upd vs i q)) t := by
  have := hb.set i (slV q)
  rwa [cells4_upd vs hi] at this

theorem Has.set4 {w : World} {g : Nat} {v : Value} {xs : List Int} {vs us : Nat → Sl} {t : TypeId} (h : Has w v xs) (hb : Box w g (cells4 vs) t) :
    Has ((((w.setCell ⟨g, 0, none⟩ (slV (us 0))).setCell ⟨g, 1, none⟩ (slV (us 1))).setCell ⟨g, 2, none⟩ (slV (us 2))).setCell ⟨g, 3, none⟩ (slV (us 3))) v xs :=
  (((h.setBox hb).setBox (hb.upd4 (by omega) (us 0))).setBox ((hb.upd4 (by omega) (us 0)).upd4 (by omega) (us 1))).setBox (((hb.upd4 (by omega) (us 0)).upd4 (by omega) (us 1)).upd4 (by omega) (us 2))

theorem Box.all4 {w : World} {g : Nat} {vs us : Nat → Sl} {t : TypeId} (hb : Box w g (cells4 vs) t) :
    Box ((((w.setCell ⟨g, 0, none⟩ (slV (us 0))).setCell ⟨g, 1, none⟩ (slV (us 1))).setCell ⟨g, 2, none⟩ (slV (us 2))).setCell ⟨g, 3, none⟩ (slV (us 3))) g (cells4 us) t :=
  (((hb.set 0 _).set 1 _).set 2 _).set 3 _
theorem Box.other4 {w : World} {g g' : Nat} {cs : Array Value} {t : TypeId} (hb : Box w g cs t) (hne : g ≠ g') (x0 x1 x2 x3 : Value) :
    Box ((((w.setCell ⟨g', 0, none⟩ x0).setCell ⟨g', 1, none⟩ x1).setCell ⟨g', 2, none⟩ x2).setCell ⟨g', 3, none⟩ x3) g cs t :=
  (((hb.other hne 0 _).other hne 1 _).other hne 2 _).other hne 3 _

theorem Box.laterSt {w : World} {g : Nat} {vs : Nat → Sl} {t : TypeId} (h : Box w g (cells4 vs) t) :
    (∀ X : Later w, X.w.cell? ⟨g, 0, none⟩ = some (slV (vs 0))) ∧ (∀ X : Later w, X.w.cell? ⟨g, 1, none⟩ = some (slV (vs 1))) ∧ (∀ X : Later w, X.w.cell? ⟨g, 2, none⟩ = some (slV (vs 2))) ∧ (∀ X : Later w, X.w.cell? ⟨g, 3, none⟩ = some (slV (vs 3))) :=
  ⟨h.later 0, h.later 1, h.later 2, h.later 3⟩

end Go.Proofs.Ytnpejgendmgfaaa

/-
  THE WALKS over package object's three methods, its table of them, Apply and May: what each answers, for every object, state and operation. Condition: the state's rows can be copied.
-/
namespace Go.Proofs.Ytnpejgendmgfaaa
open Go.RowKit

/-- A call's cells: the state's, the operation's. -/
abbrev cells7 (vs : Nat → Sl) (c r a : Int) : Array Value := #[slV (vs 0), slV (vs 1), slV (vs 2), slV (vs 3), .int .i64 c, .int .i64 r, .int .i64 a]

theorem Box.call {w : World} {g : Nat} {vs : Nat → Sl} {c r a : Int} {t : TypeId} (h : Box w g (cells7 vs c r a) t) :
    w.cell? ⟨g, 0, none⟩ = some (slV (vs 0)) ∧ w.cell? ⟨g, 1, none⟩ = some (slV (vs 1)) ∧ w.cell? ⟨g, 2, none⟩ = some (slV (vs 2)) ∧ w.cell? ⟨g, 3, none⟩ = some (slV (vs 3)) ∧
    w.cell? ⟨g, 4, none⟩ = some (.int .i64 c) ∧ w.cell? ⟨g, 5, none⟩ = some (.int .i64 r) ∧ w.cell? ⟨g, 6, none⟩ = some (.int .i64 a) :=
  ⟨h.cell 0, h.cell 1, h.cell 2, h.cell 3, h.cell 4, h.cell 5, h.cell 6⟩

/-- The three methods, as cells. -/
abbrev threeV : Array Value := #[.func (.func 39) #[] #[], .func (.func 40) #[] #[], .func (.func 41) #[] #[]]

set_option maxHeartbeats 400000 in
theorem objThree (w : World) : Calls Try.prog 38 #[] w fun e w' => e = .returned (.slice (some ⟨w.heap.size, 0, none⟩) 3 3) ∧ w.alloc (.cells threeV 66) = w' := by
  go_enter Try.func38, Try.ntmps38
  go_wp2
  go_ret
  exact ⟨rfl, rfl⟩

set_option maxHeartbeats 1000000 in
theorem ofStore (vs : Nat → Sl) (s : St) (c r a : Int) (w : World) (hx : HasS w (stV vs) s) (hf : Fit s) :
    Calls Try.prog 39 #[.agg (cells7 vs c r a)] w fun e w' => ∃ v', e = .returned (.tuple #[v', .int .i64 (stoS s c r a 300).2.1, .int .i64 (stoS s c r a 300).2.2]) ∧ OwnS w' w.heap.size v' (stoS s c r a 300).1 ∧ Le w w' := by
  have hl := (Le.alloc w (.cells (cells7 vs c r a) 68)).trans (Le.alloc _ (.cells (cells4 fun _ => slZ) 25))
  have hb1 := (Box.new w (cells7 vs c r a) 68).le (Le.alloc _ (.cells (cells4 fun _ => slZ) 25))
  have hb2 := Box.new (w.alloc (.cells (cells7 vs c r a) 68)) (cells4 fun _ => slZ) 25
  simp only [World.size_alloc] at hb2
  have hap := storeApply (stV vs) s c r a _ (hx.le hl) hf
  generalize stoS s c r a 300 = S1 at hap ⊢
  go_enter Try.func39, Try.ntmps39
  go_wp2_with fail
  refine hap.mono ?_
  rintro e w1 ⟨_, rfl, ⟨q, rfl, o1⟩, l1⟩
  replace o1 := fun i hi => (o1 i hi).base (base' := w.heap.size) hl.size
  obtain ⟨z0, z1, z2, z3, f0, f1, f2, f3⟩ := (hb2.le l1).st
  go_wp2_with fail
  refine bodyPost_ret (v := .tuple #[stV q, .int .i64 S1.2.1, .int .i64 S1.2.2]) (by simp [results, Try.results39, go_sem, z0, z1, z2, z3]) rfl ⟨_, rfl, ⟨q, rfl, fun i hi => ?_⟩, ?_⟩
  · exact (o1 i hi).set4 (hb2.le l1) (by decide) _ _ _ _
  · exact (hl.trans l1).set4 (by omega) _ _ _ _

set_option maxHeartbeats 1000000 in
theorem ofFds (vs : Nat → Sl) (s : St) (c r a : Int) (w : World) (hx : HasS w (stV vs) s) (hf : Fit s) :
    Calls Try.prog 40 #[.agg (cells7 vs c r a)] w fun e w' => ∃ v', e = .returned (.tuple #[v', .int .i64 (fdsS s c r a 400).2.1, .int .i64 (fdsS s c r a 400).2.2]) ∧ OwnS w' w.heap.size v' (fdsS s c r a 400).1 ∧ Le w w' := by
  have hl := (Le.alloc w (.cells (cells7 vs c r a) 68)).trans (Le.alloc _ (.cells (cells4 fun _ => slZ) 25))
  have hb1 := (Box.new w (cells7 vs c r a) 68).le (Le.alloc _ (.cells (cells4 fun _ => slZ) 25))
  have hb2 := Box.new (w.alloc (.cells (cells7 vs c r a) 68)) (cells4 fun _ => slZ) 25
  simp only [World.size_alloc] at hb2
  have hap := fdsApply (stV vs) s c r a _ (hx.le hl) hf
  generalize fdsS s c r a 400 = S1 at hap ⊢
  go_enter Try.func40, Try.ntmps40
  go_wp2_with fail
  refine hap.mono ?_
  rintro e w1 ⟨_, rfl, ⟨q, rfl, o1⟩, l1⟩
  replace o1 := fun i hi => (o1 i hi).base (base' := w.heap.size) hl.size
  obtain ⟨z0, z1, z2, z3, f0, f1, f2, f3⟩ := (hb2.le l1).st
  go_wp2_with fail
  refine bodyPost_ret (v := .tuple #[stV q, .int .i64 S1.2.1, .int .i64 S1.2.2]) (by simp [results, Try.results40, go_sem, z0, z1, z2, z3]) rfl ⟨_, rfl, ⟨q, rfl, fun i hi => ?_⟩, ?_⟩
  · exact (o1 i hi).set4 (hb2.le l1) (by decide) _ _ _ _
  · exact (hl.trans l1).set4 (by omega) _ _ _ _

set_option maxHeartbeats 1000000 in
theorem ofQueue (vs : Nat → Sl) (s : St) (c r a : Int) (w : World) (hx : HasS w (stV vs) s) (hf : Fit s) :
    Calls Try.prog 41 #[.agg (cells7 vs c r a)] w fun e w' => ∃ v', e = .returned (.tuple #[v', .int .i64 (queS s c r a 500).2.1, .int .i64 (queS s c r a 500).2.2]) ∧ OwnS w' w.heap.size v' (queS s c r a 500).1 ∧ Le w w' := by
  have hl := (Le.alloc w (.cells (cells7 vs c r a) 68)).trans (Le.alloc _ (.cells (cells4 fun _ => slZ) 25))
  have hb1 := (Box.new w (cells7 vs c r a) 68).le (Le.alloc _ (.cells (cells4 fun _ => slZ) 25))
  have hb2 := Box.new (w.alloc (.cells (cells7 vs c r a) 68)) (cells4 fun _ => slZ) 25
  simp only [World.size_alloc] at hb2
  have hap := queApply (stV vs) s c r a _ (hx.le hl) hf
  generalize queS s c r a 500 = S1 at hap ⊢
  go_enter Try.func41, Try.ntmps41
  go_wp2_with fail
  refine hap.mono ?_
  rintro e w1 ⟨_, rfl, ⟨q, rfl, o1⟩, l1⟩
  replace o1 := fun i hi => (o1 i hi).base (base' := w.heap.size) hl.size
  obtain ⟨z0, z1, z2, z3, f0, f1, f2, f3⟩ := (hb2.le l1).st
  go_wp2_with fail
  refine bodyPost_ret (v := .tuple #[stV q, .int .i64 S1.2.1, .int .i64 S1.2.2]) (by simp [results, Try.results41, go_sem, z0, z1, z2, z3]) rfl ⟨_, rfl, ⟨q, rfl, fun i hi => ?_⟩, ?_⟩
  · exact (o1 i hi).set4 (hb2.le l1) (by decide) _ _ _ _
  · exact (hl.trans l1).set4 (by omega) _ _ _ _

set_option maxHeartbeats 4000000 in
theorem objApply0 (v : Value) (s : St) (c r a : Int) (w : World) (hx : HasS w v s) (hf : Fit s) :
    Calls Try.prog 34 #[.int .i64 0, v, opV c r a] w fun e w' => ∃ v', e = .returned (.tuple #[v', .int .i64 (objS 0 s c r a 600).2.1, .int .i64 (objS 0 s c r a 600).2.2]) ∧ OwnS w' w.heap.size v' (objS 0 s c r a 600).1 ∧ Le w w' := by
  have hx0 := hx
  obtain ⟨vs, rfl, hr⟩ := hx
  have hl := ((Le.alloc w (.cells (cells4 vs) 25)).trans (Le.alloc _ (.cells #[.int .i64 c, .int .i64 r, .int .i64 a] 43))).trans (Le.alloc _ (.cells (cells4 fun _ => slZ) 25))
  have hb1 := ((Box.new w (cells4 vs) 25).le (Le.alloc _ (.cells #[.int .i64 c, .int .i64 r, .int .i64 a] 43))).le (Le.alloc _ (.cells (cells4 fun _ => slZ) 25))
  have hb2 := (Box.new (w.alloc (.cells (cells4 vs) 25)) #[.int .i64 c, .int .i64 r, .int .i64 a] 43).le (Le.alloc _ (.cells (cells4 fun _ => slZ) 25))
  have hb3 := Box.new ((w.alloc (.cells (cells4 vs) 25)).alloc (.cells #[.int .i64 c, .int .i64 r, .int .i64 a] 43)) (cells4 fun _ => slZ) 25
  simp only [World.size_alloc] at hb1 hb2 hb3
  have hA := Le.alloc (((w.alloc (.cells (cells4 vs) 25)).alloc (.cells #[.int .i64 c, .int .i64 r, .int .i64 a] 43)).alloc (.cells (cells4 fun _ => slZ) 25)) (.cells threeV 66)
  have hb4 := Box.new (((w.alloc (.cells (cells4 vs) 25)).alloc (.cells #[.int .i64 c, .int .i64 r, .int .i64 a] 43)).alloc (.cells (cells4 fun _ => slZ) 25)) threeV 66
  simp only [World.size_alloc] at hb4
  replace hb1 := hb1.le hA
  replace hb2 := hb2.le hA
  replace hb3 := hb3.le hA
  replace hl := hl.trans hA
  clear hA
  have HT : Hid ((objS 0 s c r a 600 = (St.zero, 0, 600) ∧ ¬ (stoS s c r a 300).2.2 = 0) ∨ (objS 0 s c r a 600 = ((stoS s c r a 300).1, (stoS s c r a 300).2.1, 0) ∧ (stoS s c r a 300).2.2 = 0)) := by
    cases hmo : s.all rowMay1 && opMay c r a
    · exact .inl ⟨stoS_no hmo, by rw [stoS_no hmo]; decide⟩
    · exact .inr ⟨(stoS_err hmo).trans (by rw [stoS_err (er := 300) hmo]), by rw [stoS_err (er := 300) hmo]⟩
  have hap := fun (w' : World) (h : Le w w') => ofStore vs s c r a w' (hx0.le h) hf
  generalize objS 0 s c r a 600 = T1 at HT ⊢
  generalize stoS s c r a 300 = S1 at HT hap
  clear hx0 hr
  go_enter Try.func34, Try.ntmps34
  go_upto_region 4 with (go_at_call 38; refine (objThree _).mono ?_; rintro e _ ⟨rfl, rfl⟩)
  generalize hW : (((w.alloc (.cells (cells4 vs) 25)).alloc (.cells #[.int .i64 c, .int .i64 r, .int .i64 a] 43)).alloc (.cells (cells4 fun _ => slZ) 25)).alloc (.cells threeV 66) = W at hb1 hb2 hb3 hb4 hl ⊢
  clear hW
  obtain ⟨x0, x1, x2, x3, _, _, _, _⟩ := hb1.st
  obtain ⟨y0, y1, y2, _, _, _⟩ := hb2.op
  have u0 : W.cell? ⟨w.heap.size + 1 + 1 + 1, 0, none⟩ = some (.func (.func 39) #[] #[]) := hb4.cell 0
  have hapA := hap W.drew (hl.trans (Le.drew _))
  have hapB := hap (W.alloc (.cells (cells4 fun _ => slZ) 25)).drew (hl.trans ((Le.alloc _ _).trans (Le.drew _)))
  clear hap
  have n1 : ¬ W.heap.size = w.heap.size := by have := hb1.lt; omega
  have n2 : ¬ W.heap.size = w.heap.size + 1 := by have := hb2.lt; omega
  have n3 : ¬ W.heap.size = w.heap.size + 1 + 1 + 1 := by have := hb4.lt; omega
  go_region_held3 (fun w' => w'.cell? ⟨w.heap.size, 0, none⟩ = some (slV (vs 0)) ∧ w'.cell? ⟨w.heap.size, 1, none⟩ = some (slV (vs 1)) ∧ w'.cell? ⟨w.heap.size, 2, none⟩ = some (slV (vs 2)) ∧ w'.cell? ⟨w.heap.size, 3, none⟩ = some (slV (vs 3)) ∧ w'.cell? ⟨w.heap.size + 1, 0, none⟩ = some (.int .i64 c) ∧ w'.cell? ⟨w.heap.size + 1, 1, none⟩ = some (.int .i64 r) ∧ w'.cell? ⟨w.heap.size + 1, 2, none⟩ = some (.int .i64 a) ∧ w'.cell? ⟨w.heap.size + 1 + 1 + 1, 0, none⟩ = some (.func (.func 39) #[] #[])) (go_keep) (first
    | (go_at_call 39; refine hapA.mono ?_; rintro e w2 ⟨_, rfl, ⟨q2, rfl, ho2⟩, l2⟩; replace l2 := (Le.drew W).trans l2; obtain ⟨x0', x1', x2', x3', _, _, _, _⟩ := (hb1.le l2).st; obtain ⟨y0', y1', y2', _, _, _⟩ := (hb2.le l2).op; have u0' : w2.cell? ⟨w.heap.size + 1 + 1 + 1, 0, none⟩ = some (.func (.func 39) #[] #[]) := (hb4.le l2).cell 0; have m1 : ¬ w2.heap.size = w.heap.size := (by have := (hb1.le l2).lt; omega); have m2 : ¬ w2.heap.size = w.heap.size + 1 := (by have := (hb2.le l2).lt; omega); have m3 : ¬ w2.heap.size = w.heap.size + 1 + 1 + 1 := (by have := (hb4.le l2).lt; omega))
    | (go_at_call 39; refine hapB.mono ?_; rintro e w2 ⟨_, rfl, ⟨q2, rfl, ho2⟩, l2⟩; have hbz := ((Box.new W (cells4 fun _ => slZ) 25).le (Le.drew _)).le l2; replace l2 := ((Le.alloc W (.cells (cells4 fun _ => slZ) 25)).trans (Le.drew _)).trans l2; obtain ⟨x0', x1', x2', x3', _, _, _, _⟩ := (hb1.le l2).st; obtain ⟨y0', y1', y2', _, _, _⟩ := (hb2.le l2).op; have u0' : w2.cell? ⟨w.heap.size + 1 + 1 + 1, 0, none⟩ = some (.func (.func 39) #[] #[]) := (hb4.le l2).cell 0; obtain ⟨v0, v1, v2, v3, g0, g1, g2, g3⟩ := hbz.st))
  all_goals clear hapA hapB x0 x1 x2 x3 y0 y1 y2 u0 x0' x1' x2' x3' y0' y1' y2' u0'
  · have ht := Box.new w2 (cells4 q2) 25
    have hz := (hb3.le l2).le (Le.alloc w2 (.cells (cells4 q2) 25))
    replace ho2 := fun i hi => ((ho2 i hi).base (base' := w.heap.size) hl.size).le (Le.alloc w2 (.cells (cells4 q2) 25))
    replace hl := (hl.trans l2).trans (Le.alloc w2 (.cells (cells4 q2) 25))
    have n9 : ¬ w.heap.size + 1 + 1 = w2.heap.size := by have := (hb3.le l2).lt; omega
    generalize hW : w2.alloc (.cells (cells4 q2) 25) = W2 at ht hz ho2 hl ⊢
    generalize w2.heap.size = g9 at n9 ht ⊢
    clear hW l2 m1 m2 m3 n1 n2 n3 hb1 hb2 hb3 hb4
    obtain ⟨z0, z1, z2, z3, f0, f1, f2, f3⟩ := hz.st
    obtain ⟨t0, t1, t2, t3, _, _, _, _⟩ := ht.st
    have n0 := hz.lt
    rcases HT.out with ⟨rfl, h0⟩ | ⟨rfl, h0⟩
    · clear HT
      go_wp2_with fail
      refine bodyPost_ret (v := .tuple #[stZ, .int .i64 0, .int .i64 600]) (by simp [results, Try.results34, go_sem, z0, z1, z2, z3]) rfl ⟨_, rfl, OwnS.zero _ _, ?_⟩
      exact hl.set4 (by omega) _ _ _ _
    · clear HT
      go_wp2_with fail
      refine bodyPost_ret (v := .tuple #[stV q2, .int .i64 S1.2.1, .int .i64 0]) (by simp [results, Try.results34, go_sem, z0, z1, z2, z3]) rfl ⟨_, rfl, ⟨q2, rfl, fun i hi => ?_⟩, ?_⟩
      · exact (ho2 i hi).set4 hz (by decide) _ _ _ _
      · exact hl.set4 (by omega) _ _ _ _
  · have g : ∀ i, i < 4 → Own ((((w2.setCell ⟨W.heap.size, 0, none⟩ (slV (q2 0))).setCell ⟨W.heap.size, 1, none⟩ (slV (q2 1))).setCell ⟨W.heap.size, 2, none⟩ (slV (q2 2))).setCell ⟨W.heap.size, 3, none⟩ (slV (q2 3))) w.heap.size (slV (q2 i)) (S1.1.at i) :=
      fun i hi => ((ho2 i hi).base (base' := w.heap.size) (hl.trans ((Le.alloc W _).trans (Le.drew _))).size).set4 hbz (by decide) _ _ _ _
    have n9 : ¬ w.heap.size + 1 + 1 = W.heap.size := by have := hb3.lt; omega
    have ht := hbz.all4 (us := q2)
    have hz := (hb3.le l2).other4 n9 (slV (q2 0)) (slV (q2 1)) (slV (q2 2)) (slV (q2 3))
    have hs := hl.size
    replace hl := (hl.trans l2).set4 hs (slV (q2 0)) (slV (q2 1)) (slV (q2 2)) (slV (q2 3))
    clear ho2
    have ho2 := g
    clear g
    generalize hW : (((w2.setCell ⟨W.heap.size, 0, none⟩ (slV (q2 0))).setCell ⟨W.heap.size, 1, none⟩ (slV (q2 1))).setCell ⟨W.heap.size, 2, none⟩ (slV (q2 2))).setCell ⟨W.heap.size, 3, none⟩ (slV (q2 3)) = W2 at ht hz ho2 hl ⊢
    clear hW l2 n1 n2 n3 hb1 hb2 hb3 hb4 hbz v0 v1 v2 v3 g0 g1 g2 g3 hs
    generalize W.heap.size = g9 at n9 ht ⊢
    obtain ⟨z0, z1, z2, z3, f0, f1, f2, f3⟩ := hz.st
    obtain ⟨t0, t1, t2, t3, _, _, _, _⟩ := ht.st
    have n0 := hz.lt
    rcases HT.out with ⟨rfl, h0⟩ | ⟨rfl, h0⟩
    · clear HT
      go_wp2_with fail
      refine bodyPost_ret (v := .tuple #[stZ, .int .i64 0, .int .i64 600]) (by simp [results, Try.results34, go_sem, z0, z1, z2, z3]) rfl ⟨_, rfl, OwnS.zero _ _, ?_⟩
      exact hl.set4 (by omega) _ _ _ _
    · clear HT
      go_wp2_with fail
      refine bodyPost_ret (v := .tuple #[stV q2, .int .i64 S1.2.1, .int .i64 0]) (by simp [results, Try.results34, go_sem, z0, z1, z2, z3]) rfl ⟨_, rfl, ⟨q2, rfl, fun i hi => ?_⟩, ?_⟩
      · exact (ho2 i hi).set4 hz (by decide) _ _ _ _
      · exact hl.set4 (by omega) _ _ _ _

set_option maxHeartbeats 4000000 in
theorem objApply1 (v : Value) (s : St) (c r a : Int) (w : World) (hx : HasS w v s) (hf : Fit s) :
    Calls Try.prog 34 #[.int .i64 1, v, opV c r a] w fun e w' => ∃ v', e = .returned (.tuple #[v', .int .i64 (objS 1 s c r a 600).2.1, .int .i64 (objS 1 s c r a 600).2.2]) ∧ OwnS w' w.heap.size v' (objS 1 s c r a 600).1 ∧ Le w w' := by
  have hx0 := hx
  obtain ⟨vs, rfl, hr⟩ := hx
  have hl := ((Le.alloc w (.cells (cells4 vs) 25)).trans (Le.alloc _ (.cells #[.int .i64 c, .int .i64 r, .int .i64 a] 43))).trans (Le.alloc _ (.cells (cells4 fun _ => slZ) 25))
  have hb1 := ((Box.new w (cells4 vs) 25).le (Le.alloc _ (.cells #[.int .i64 c, .int .i64 r, .int .i64 a] 43))).le (Le.alloc _ (.cells (cells4 fun _ => slZ) 25))
  have hb2 := (Box.new (w.alloc (.cells (cells4 vs) 25)) #[.int .i64 c, .int .i64 r, .int .i64 a] 43).le (Le.alloc _ (.cells (cells4 fun _ => slZ) 25))
  have hb3 := Box.new ((w.alloc (.cells (cells4 vs) 25)).alloc (.cells #[.int .i64 c, .int .i64 r, .int .i64 a] 43)) (cells4 fun _ => slZ) 25
  simp only [World.size_alloc] at hb1 hb2 hb3
  have hA := Le.alloc (((w.alloc (.cells (cells4 vs) 25)).alloc (.cells #[.int .i64 c, .int .i64 r, .int .i64 a] 43)).alloc (.cells (cells4 fun _ => slZ) 25)) (.cells threeV 66)
  have hb4 := Box.new (((w.alloc (.cells (cells4 vs) 25)).alloc (.cells #[.int .i64 c, .int .i64 r, .int .i64 a] 43)).alloc (.cells (cells4 fun _ => slZ) 25)) threeV 66
  simp only [World.size_alloc] at hb4
  replace hb1 := hb1.le hA
  replace hb2 := hb2.le hA
  replace hb3 := hb3.le hA
  replace hl := hl.trans hA
  clear hA
  have HT : Hid ((objS 1 s c r a 600 = (St.zero, 0, 600) ∧ ¬ (fdsS s c r a 400).2.2 = 0) ∨ (objS 1 s c r a 600 = ((fdsS s c r a 400).1, (fdsS s c r a 400).2.1, 0) ∧ (fdsS s c r a 400).2.2 = 0)) := by
    cases hmo : s.all rowMay2 && opMay c r a
    · exact .inl ⟨fdsS_no hmo, by rw [fdsS_no hmo]; decide⟩
    · exact .inr ⟨(fdsS_err hmo).trans (by rw [fdsS_err (er := 400) hmo]), by rw [fdsS_err (er := 400) hmo]⟩
  have hap := fun (w' : World) (h : Le w w') => ofFds vs s c r a w' (hx0.le h) hf
  generalize objS 1 s c r a 600 = T1 at HT ⊢
  generalize fdsS s c r a 400 = S1 at HT hap
  clear hx0 hr
  go_enter Try.func34, Try.ntmps34
  go_upto_region 4 with (go_at_call 38; refine (objThree _).mono ?_; rintro e _ ⟨rfl, rfl⟩)
  generalize hW : (((w.alloc (.cells (cells4 vs) 25)).alloc (.cells #[.int .i64 c, .int .i64 r, .int .i64 a] 43)).alloc (.cells (cells4 fun _ => slZ) 25)).alloc (.cells threeV 66) = W at hb1 hb2 hb3 hb4 hl ⊢
  clear hW
  obtain ⟨x0, x1, x2, x3, _, _, _, _⟩ := hb1.st
  obtain ⟨y0, y1, y2, _, _, _⟩ := hb2.op
  have u0 : W.cell? ⟨w.heap.size + 1 + 1 + 1, 1, none⟩ = some (.func (.func 40) #[] #[]) := hb4.cell 1
  have hapA := hap W.drew (hl.trans (Le.drew _))
  have hapB := hap (W.alloc (.cells (cells4 fun _ => slZ) 25)).drew (hl.trans ((Le.alloc _ _).trans (Le.drew _)))
  clear hap
  have n1 : ¬ W.heap.size = w.heap.size := by have := hb1.lt; omega
  have n2 : ¬ W.heap.size = w.heap.size + 1 := by have := hb2.lt; omega
  have n3 : ¬ W.heap.size = w.heap.size + 1 + 1 + 1 := by have := hb4.lt; omega
  go_region_held3 (fun w' => w'.cell? ⟨w.heap.size, 0, none⟩ = some (slV (vs 0)) ∧ w'.cell? ⟨w.heap.size, 1, none⟩ = some (slV (vs 1)) ∧ w'.cell? ⟨w.heap.size, 2, none⟩ = some (slV (vs 2)) ∧ w'.cell? ⟨w.heap.size, 3, none⟩ = some (slV (vs 3)) ∧ w'.cell? ⟨w.heap.size + 1, 0, none⟩ = some (.int .i64 c) ∧ w'.cell? ⟨w.heap.size + 1, 1, none⟩ = some (.int .i64 r) ∧ w'.cell? ⟨w.heap.size + 1, 2, none⟩ = some (.int .i64 a) ∧ w'.cell? ⟨w.heap.size + 1 + 1 + 1, 1, none⟩ = some (.func (.func 40) #[] #[])) (go_keep) (first
    | (go_at_call 40; refine hapA.mono ?_; rintro e w2 ⟨_, rfl, ⟨q2, rfl, ho2⟩, l2⟩; replace l2 := (Le.drew W).trans l2; obtain ⟨x0', x1', x2', x3', _, _, _, _⟩ := (hb1.le l2).st; obtain ⟨y0', y1', y2', _, _, _⟩ := (hb2.le l2).op; have u0' : w2.cell? ⟨w.heap.size + 1 + 1 + 1, 1, none⟩ = some (.func (.func 40) #[] #[]) := (hb4.le l2).cell 1; have m1 : ¬ w2.heap.size = w.heap.size := (by have := (hb1.le l2).lt; omega); have m2 : ¬ w2.heap.size = w.heap.size + 1 := (by have := (hb2.le l2).lt; omega); have m3 : ¬ w2.heap.size = w.heap.size + 1 + 1 + 1 := (by have := (hb4.le l2).lt; omega))
    | (go_at_call 40; refine hapB.mono ?_; rintro e w2 ⟨_, rfl, ⟨q2, rfl, ho2⟩, l2⟩; have hbz := ((Box.new W (cells4 fun _ => slZ) 25).le (Le.drew _)).le l2; replace l2 := ((Le.alloc W (.cells (cells4 fun _ => slZ) 25)).trans (Le.drew _)).trans l2; obtain ⟨x0', x1', x2', x3', _, _, _, _⟩ := (hb1.le l2).st; obtain ⟨y0', y1', y2', _, _, _⟩ := (hb2.le l2).op; have u0' : w2.cell? ⟨w.heap.size + 1 + 1 + 1, 1, none⟩ = some (.func (.func 40) #[] #[]) := (hb4.le l2).cell 1; obtain ⟨v0, v1, v2, v3, g0, g1, g2, g3⟩ := hbz.st))
  all_goals clear hapA hapB x0 x1 x2 x3 y0 y1 y2 u0 x0' x1' x2' x3' y0' y1' y2' u0'
  · have ht := Box.new w2 (cells4 q2) 25
    have hz := (hb3.le l2).le (Le.alloc w2 (.cells (cells4 q2) 25))
    replace ho2 := fun i hi => ((ho2 i hi).base (base' := w.heap.size) hl.size).le (Le.alloc w2 (.cells (cells4 q2) 25))
    replace hl := (hl.trans l2).trans (Le.alloc w2 (.cells (cells4 q2) 25))
    have n9 : ¬ w.heap.size + 1 + 1 = w2.heap.size := by have := (hb3.le l2).lt; omega
    generalize hW : w2.alloc (.cells (cells4 q2) 25) = W2 at ht hz ho2 hl ⊢
    generalize w2.heap.size = g9 at n9 ht ⊢
    clear hW l2 m1 m2 m3 n1 n2 n3 hb1 hb2 hb3 hb4
    obtain ⟨z0, z1, z2, z3, f0, f1, f2, f3⟩ := hz.st
    obtain ⟨t0, t1, t2, t3, _, _, _, _⟩ := ht.st
    have n0 := hz.lt
    rcases HT.out with ⟨rfl, h0⟩ | ⟨rfl, h0⟩
    · clear HT
      go_wp2_with fail
      refine bodyPost_ret (v := .tuple #[stZ, .int .i64 0, .int .i64 600]) (by simp [results, Try.results34, go_sem, z0, z1, z2, z3]) rfl ⟨_, rfl, OwnS.zero _ _, ?_⟩
      exact hl.set4 (by omega) _ _ _ _
    · clear HT
      go_wp2_with fail
      refine bodyPost_ret (v := .tuple #[stV q2, .int .i64 S1.2.1, .int .i64 0]) (by simp [results, Try.results34, go_sem, z0, z1, z2, z3]) rfl ⟨_, rfl, ⟨q2, rfl, fun i hi => ?_⟩, ?_⟩
      · exact (ho2 i hi).set4 hz (by decide) _ _ _ _
      · exact hl.set4 (by omega) _ _ _ _
  · have g : ∀ i, i < 4 → Own ((((w2.setCell ⟨W.heap.size, 0, none⟩ (slV (q2 0))).setCell ⟨W.heap.size, 1, none⟩ (slV (q2 1))).setCell ⟨W.heap.size, 2, none⟩ (slV (q2 2))).setCell ⟨W.heap.size, 3, none⟩ (slV (q2 3))) w.heap.size (slV (q2 i)) (S1.1.at i) :=
      fun i hi => ((ho2 i hi).base (base' := w.heap.size) (hl.trans ((Le.alloc W _).trans (Le.drew _))).size).set4 hbz (by decide) _ _ _ _
    have n9 : ¬ w.heap.size + 1 + 1 = W.heap.size := by have := hb3.lt; omega
    have ht := hbz.all4 (us := q2)
    have hz := (hb3.le l2).other4 n9 (slV (q2 0)) (slV (q2 1)) (slV (q2 2)) (slV (q2 3))
    have hs := hl.size
    replace hl := (hl.trans l2).set4 hs (slV (q2 0)) (slV (q2 1)) (slV (q2 2)) (slV (q2 3))
    clear ho2
    have ho2 := g
    clear g
    generalize hW : (((w2.setCell ⟨W.heap.size, 0, none⟩ (slV (q2 0))).setCell ⟨W.heap.size, 1, none⟩ (slV (q2 1))).setCell ⟨W.heap.size, 2, none⟩ (slV (q2 2))).setCell ⟨W.heap.size, 3, none⟩ (slV (q2 3)) = W2 at ht hz ho2 hl ⊢
    clear hW l2 n1 n2 n3 hb1 hb2 hb3 hb4 hbz v0 v1 v2 v3 g0 g1 g2 g3 hs
    generalize W.heap.size = g9 at n9 ht ⊢
    obtain ⟨z0, z1, z2, z3, f0, f1, f2, f3⟩ := hz.st
    obtain ⟨t0, t1, t2, t3, _, _, _, _⟩ := ht.st
    have n0 := hz.lt
    rcases HT.out with ⟨rfl, h0⟩ | ⟨rfl, h0⟩
    · clear HT
      go_wp2_with fail
      refine bodyPost_ret (v := .tuple #[stZ, .int .i64 0, .int .i64 600]) (by simp [results, Try.results34, go_sem, z0, z1, z2, z3]) rfl ⟨_, rfl, OwnS.zero _ _, ?_⟩
      exact hl.set4 (by omega) _ _ _ _
    · clear HT
      go_wp2_with fail
      refine bodyPost_ret (v := .tuple #[stV q2, .int .i64 S1.2.1, .int .i64 0]) (by simp [results, Try.results34, go_sem, z0, z1, z2, z3]) rfl ⟨_, rfl, ⟨q2, rfl, fun i hi => ?_⟩, ?_⟩
      · exact (ho2 i hi).set4 hz (by decide) _ _ _ _
      · exact hl.set4 (by omega) _ _ _ _

set_option maxHeartbeats 4000000 in
theorem objApply2 (v : Value) (s : St) (c r a : Int) (w : World) (hx : HasS w v s) (hf : Fit s) :
    Calls Try.prog 34 #[.int .i64 2, v, opV c r a] w fun e w' => ∃ v', e = .returned (.tuple #[v', .int .i64 (objS 2 s c r a 600).2.1, .int .i64 (objS 2 s c r a 600).2.2]) ∧ OwnS w' w.heap.size v' (objS 2 s c r a 600).1 ∧ Le w w' := by
  have hx0 := hx
  obtain ⟨vs, rfl, hr⟩ := hx
  have hl := ((Le.alloc w (.cells (cells4 vs) 25)).trans (Le.alloc _ (.cells #[.int .i64 c, .int .i64 r, .int .i64 a] 43))).trans (Le.alloc _ (.cells (cells4 fun _ => slZ) 25))
  have hb1 := ((Box.new w (cells4 vs) 25).le (Le.alloc _ (.cells #[.int .i64 c, .int .i64 r, .int .i64 a] 43))).le (Le.alloc _ (.cells (cells4 fun _ => slZ) 25))
  have hb2 := (Box.new (w.alloc (.cells (cells4 vs) 25)) #[.int .i64 c, .int .i64 r, .int .i64 a] 43).le (Le.alloc _ (.cells (cells4 fun _ => slZ) 25))
  have hb3 := Box.new ((w.alloc (.cells (cells4 vs) 25)).alloc (.cells #[.int .i64 c, .int .i64 r, .int .i64 a] 43)) (cells4 fun _ => slZ) 25
  simp only [World.size_alloc] at hb1 hb2 hb3
  have hA := Le.alloc (((w.alloc (.cells (cells4 vs) 25)).alloc (.cells #[.int .i64 c, .int .i64 r, .int .i64 a] 43)).alloc (.cells (cells4 fun _ => slZ) 25)) (.cells threeV 66)
  have hb4 := Box.new (((w.alloc (.cells (cells4 vs) 25)).alloc (.cells #[.int .i64 c, .int .i64 r, .int .i64 a] 43)).alloc (.cells (cells4 fun _ => slZ) 25)) threeV 66
  simp only [World.size_alloc] at hb4
  replace hb1 := hb1.le hA
  replace hb2 := hb2.le hA
  replace hb3 := hb3.le hA
  replace hl := hl.trans hA
  clear hA
  have HT : Hid ((objS 2 s c r a 600 = (St.zero, 0, 600) ∧ ¬ (queS s c r a 500).2.2 = 0) ∨ (objS 2 s c r a 600 = ((queS s c r a 500).1, (queS s c r a 500).2.1, 0) ∧ (queS s c r a 500).2.2 = 0)) := by
    cases hmo : s.all rowMay3 && opMay c r a
    · exact .inl ⟨queS_no hmo, by rw [queS_no hmo]; decide⟩
    · exact .inr ⟨(queS_err hmo).trans (by rw [queS_err (er := 500) hmo]), by rw [queS_err (er := 500) hmo]⟩
  have hap := fun (w' : World) (h : Le w w') => ofQueue vs s c r a w' (hx0.le h) hf
  generalize objS 2 s c r a 600 = T1 at HT ⊢
  generalize queS s c r a 500 = S1 at HT hap
  clear hx0 hr
  go_enter Try.func34, Try.ntmps34
  go_upto_region 4 with (go_at_call 38; refine (objThree _).mono ?_; rintro e _ ⟨rfl, rfl⟩)
  generalize hW : (((w.alloc (.cells (cells4 vs) 25)).alloc (.cells #[.int .i64 c, .int .i64 r, .int .i64 a] 43)).alloc (.cells (cells4 fun _ => slZ) 25)).alloc (.cells threeV 66) = W at hb1 hb2 hb3 hb4 hl ⊢
  clear hW
  obtain ⟨x0, x1, x2, x3, _, _, _, _⟩ := hb1.st
  obtain ⟨y0, y1, y2, _, _, _⟩ := hb2.op
  have u0 : W.cell? ⟨w.heap.size + 1 + 1 + 1, 2, none⟩ = some (.func (.func 41) #[] #[]) := hb4.cell 2
  have hapA := hap W.drew (hl.trans (Le.drew _))
  have hapB := hap (W.alloc (.cells (cells4 fun _ => slZ) 25)).drew (hl.trans ((Le.alloc _ _).trans (Le.drew _)))
  clear hap
  have n1 : ¬ W.heap.size = w.heap.size := by have := hb1.lt; omega
  have n2 : ¬ W.heap.size = w.heap.size + 1 := by have := hb2.lt; omega
  have n3 : ¬ W.heap.size = w.heap.size + 1 + 1 + 1 := by have := hb4.lt; omega
  go_region_held3 (fun w' => w'.cell? ⟨w.heap.size, 0, none⟩ = some (slV (vs 0)) ∧ w'.cell? ⟨w.heap.size, 1, none⟩ = some (slV (vs 1)) ∧ w'.cell? ⟨w.heap.size, 2, none⟩ = some (slV (vs 2)) ∧ w'.cell? ⟨w.heap.size, 3, none⟩ = some (slV (vs 3)) ∧ w'.cell? ⟨w.heap.size + 1, 0, none⟩ = some (.int .i64 c) ∧ w'.cell? ⟨w.heap.size + 1, 1, none⟩ = some (.int .i64 r) ∧ w'.cell? ⟨w.heap.size + 1, 2, none⟩ = some (.int .i64 a) ∧ w'.cell? ⟨w.heap.size + 1 + 1 + 1, 2, none⟩ = some (.func (.func 41) #[] #[])) (go_keep) (first
    | (go_at_call 41; refine hapA.mono ?_; rintro e w2 ⟨_, rfl, ⟨q2, rfl, ho2⟩, l2⟩; replace l2 := (Le.drew W).trans l2; obtain ⟨x0', x1', x2', x3', _, _, _, _⟩ := (hb1.le l2).st; obtain ⟨y0', y1', y2', _, _, _⟩ := (hb2.le l2).op; have u0' : w2.cell? ⟨w.heap.size + 1 + 1 + 1, 2, none⟩ = some (.func (.func 41) #[] #[]) := (hb4.le l2).cell 2; have m1 : ¬ w2.heap.size = w.heap.size := (by have := (hb1.le l2).lt; omega); have m2 : ¬ w2.heap.size = w.heap.size + 1 := (by have := (hb2.le l2).lt; omega); have m3 : ¬ w2.heap.size = w.heap.size + 1 + 1 + 1 := (by have := (hb4.le l2).lt; omega))
    | (go_at_call 41; refine hapB.mono ?_; rintro e w2 ⟨_, rfl, ⟨q2, rfl, ho2⟩, l2⟩; have hbz := ((Box.new W (cells4 fun _ => slZ) 25).le (Le.drew _)).le l2; replace l2 := ((Le.alloc W (.cells (cells4 fun _ => slZ) 25)).trans (Le.drew _)).trans l2; obtain ⟨x0', x1', x2', x3', _, _, _, _⟩ := (hb1.le l2).st; obtain ⟨y0', y1', y2', _, _, _⟩ := (hb2.le l2).op; have u0' : w2.cell? ⟨w.heap.size + 1 + 1 + 1, 2, none⟩ = some (.func (.func 41) #[] #[]) := (hb4.le l2).cell 2; obtain ⟨v0, v1, v2, v3, g0, g1, g2, g3⟩ := hbz.st))
  all_goals clear hapA hapB x0 x1 x2 x3 y0 y1 y2 u0 x0' x1' x2' x3' y0' y1' y2' u0'
  · have ht := Box.new w2 (cells4 q2) 25
    have hz := (hb3.le l2).le (Le.alloc w2 (.cells (cells4 q2) 25))
    replace ho2 := fun i hi => ((ho2 i hi).base (base' := w.heap.size) hl.size).le (Le.alloc w2 (.cells (cells4 q2) 25))
    replace hl := (hl.trans l2).trans (Le.alloc w2 (.cells (cells4 q2) 25))
    have n9 : ¬ w.heap.size + 1 + 1 = w2.heap.size := by have := (hb3.le l2).lt; omega
    generalize hW : w2.alloc (.cells (cells4 q2) 25) = W2 at ht hz ho2 hl ⊢
    generalize w2.heap.size = g9 at n9 ht ⊢
    clear hW l2 m1 m2 m3 n1 n2 n3 hb1 hb2 hb3 hb4
    obtain ⟨z0, z1, z2, z3, f0, f1, f2, f3⟩ := hz.st
    obtain ⟨t0, t1, t2, t3, _, _, _, _⟩ := ht.st
    have n0 := hz.lt
    rcases HT.out with ⟨rfl, h0⟩ | ⟨rfl, h0⟩
    · clear HT
      go_wp2_with fail
      refine bodyPost_ret (v := .tuple #[stZ, .int .i64 0, .int .i64 600]) (by simp [results, Try.results34, go_sem, z0, z1, z2, z3]) rfl ⟨_, rfl, OwnS.zero _ _, ?_⟩
      exact hl.set4 (by omega) _ _ _ _
    · clear HT
      go_wp2_with fail
      refine bodyPost_ret (v := .tuple #[stV q2, .int .i64 S1.2.1, .int .i64 0]) (by simp [results, Try.results34, go_sem, z0, z1, z2, z3]) rfl ⟨_, rfl, ⟨q2, rfl, fun i hi => ?_⟩, ?_⟩
      · exact (ho2 i hi).set4 hz (by decide) _ _ _ _
      · exact hl.set4 (by omega) _ _ _ _
  · have g : ∀ i, i < 4 → Own ((((w2.setCell ⟨W.heap.size, 0, none⟩ (slV (q2 0))).setCell ⟨W.heap.size, 1, none⟩ (slV (q2 1))).setCell ⟨W.heap.size, 2, none⟩ (slV (q2 2))).setCell ⟨W.heap.size, 3, none⟩ (slV (q2 3))) w.heap.size (slV (q2 i)) (S1.1.at i) :=
      fun i hi => ((ho2 i hi).base (base' := w.heap.size) (hl.trans ((Le.alloc W _).trans (Le.drew _))).size).set4 hbz (by decide) _ _ _ _
    have n9 : ¬ w.heap.size + 1 + 1 = W.heap.size := by have := hb3.lt; omega
    have ht := hbz.all4 (us := q2)
    have hz := (hb3.le l2).other4 n9 (slV (q2 0)) (slV (q2 1)) (slV (q2 2)) (slV (q2 3))
    have hs := hl.size
    replace hl := (hl.trans l2).set4 hs (slV (q2 0)) (slV (q2 1)) (slV (q2 2)) (slV (q2 3))
    clear ho2
    have ho2 := g
    clear g
    generalize hW : (((w2.setCell ⟨W.heap.size, 0, none⟩ (slV (q2 0))).setCell ⟨W.heap.size, 1, none⟩ (slV (q2 1))).setCell ⟨W.heap.size, 2, none⟩ (slV (q2 2))).setCell ⟨W.heap.size, 3, none⟩ (slV (q2 3)) = W2 at ht hz ho2 hl ⊢
    clear hW l2 n1 n2 n3 hb1 hb2 hb3 hb4 hbz v0 v1 v2 v3 g0 g1 g2 g3 hs
    generalize W.heap.size = g9 at n9 ht ⊢
    obtain ⟨z0, z1, z2, z3, f0, f1, f2, f3⟩ := hz.st
    obtain ⟨t0, t1, t2, t3, _, _, _, _⟩ := ht.st
    have n0 := hz.lt
    rcases HT.out with ⟨rfl, h0⟩ | ⟨rfl, h0⟩
    · clear HT
      go_wp2_with fail
      refine bodyPost_ret (v := .tuple #[stZ, .int .i64 0, .int .i64 600]) (by simp [results, Try.results34, go_sem, z0, z1, z2, z3]) rfl ⟨_, rfl, OwnS.zero _ _, ?_⟩
      exact hl.set4 (by omega) _ _ _ _
    · clear HT
      go_wp2_with fail
      refine bodyPost_ret (v := .tuple #[stV q2, .int .i64 S1.2.1, .int .i64 0]) (by simp [results, Try.results34, go_sem, z0, z1, z2, z3]) rfl ⟨_, rfl, ⟨q2, rfl, fun i hi => ?_⟩, ?_⟩
      · exact (ho2 i hi).set4 hz (by decide) _ _ _ _
      · exact hl.set4 (by omega) _ _ _ _

end Go.Proofs.Ytnpejgendmgfaaa

/-
  THE WALKS over package object's Apply at no object, over Apply and May in one: what each answers, for every object, state and operation. Condition: the state's rows can be copied.
-/
namespace Go.Proofs.Ytnpejgendmgfaaa
open Go.RowKit

set_option maxHeartbeats 1000000 in
theorem objApplyOut (o : Int) (ho : o < 0 ∨ 2 < o) (v : Value) (s : St) (c r a : Int) (w : World) (hx : HasS w v s) :
    Calls Try.prog 34 #[.int .i64 o, v, opV c r a] w fun e w' => e = .returned (.tuple #[stZ, .int .i64 0, .int .i64 600]) ∧ Le w w' := by
  obtain ⟨vs, rfl, hr⟩ := hx
  have hl := ((Le.alloc w (.cells (cells4 vs) 25)).trans (Le.alloc _ (.cells #[.int .i64 c, .int .i64 r, .int .i64 a] 43))).trans (Le.alloc _ (.cells (cells4 fun _ => slZ) 25))
  have hb3 := Box.new ((w.alloc (.cells (cells4 vs) 25)).alloc (.cells #[.int .i64 c, .int .i64 r, .int .i64 a] 43)) (cells4 fun _ => slZ) 25
  simp only [World.size_alloc] at hb3
  have hA := Le.alloc (((w.alloc (.cells (cells4 vs) 25)).alloc (.cells #[.int .i64 c, .int .i64 r, .int .i64 a] 43)).alloc (.cells (cells4 fun _ => slZ) 25)) (.cells threeV 66)
  replace hb3 := hb3.le hA
  replace hl := hl.trans hA
  clear hA
  by_cases h0 : o < 0
  · go_enter Try.func34, Try.ntmps34
    go_upto_region 2 with (go_at_call 38; refine (objThree _).mono ?_; rintro e _ ⟨rfl, rfl⟩)
    generalize hW : (((w.alloc (.cells (cells4 vs) 25)).alloc (.cells #[.int .i64 c, .int .i64 r, .int .i64 a] 43)).alloc (.cells (cells4 fun _ => slZ) 25)).alloc (.cells threeV 66) = W at hb3 hl ⊢
    clear hW
    obtain ⟨z0, z1, z2, z3, f0, f1, f2, f3⟩ := hb3.st
    go_wp2_with fail
    refine bodyPost_ret (v := .tuple #[stZ, .int .i64 0, .int .i64 600]) (by simp [results, Try.results34, go_sem, z0, z1, z2, z3]) rfl ⟨rfl, ?_⟩
    exact hl.set4 (g := w.heap.size + 1 + 1) (by omega) _ _ _ _
  · have h1 : 3 ≤ o := by omega
    go_enter Try.func34, Try.ntmps34
    go_upto_region 2 with (go_at_call 38; refine (objThree _).mono ?_; rintro e _ ⟨rfl, rfl⟩)
    generalize hW : (((w.alloc (.cells (cells4 vs) 25)).alloc (.cells #[.int .i64 c, .int .i64 r, .int .i64 a] 43)).alloc (.cells (cells4 fun _ => slZ) 25)).alloc (.cells threeV 66) = W at hb3 hl ⊢
    clear hW
    obtain ⟨z0, z1, z2, z3, f0, f1, f2, f3⟩ := hb3.st
    go_wp2_with fail
    refine bodyPost_ret (v := .tuple #[stZ, .int .i64 0, .int .i64 600]) (by simp [results, Try.results34, go_sem, z0, z1, z2, z3]) rfl ⟨rfl, ?_⟩
    exact hl.set4 (g := w.heap.size + 1 + 1) (by omega) _ _ _ _

theorem objApply (o : Int) (v : Value) (s : St) (c r a : Int) (w : World) (hx : HasS w v s) (hf : Fit s) :
    Calls Try.prog 34 #[.int .i64 o, v, opV c r a] w fun e w' => ∃ v', e = .returned (.tuple #[v', .int .i64 (objS o s c r a 600).2.1, .int .i64 (objS o s c r a 600).2.2]) ∧ OwnS w' w.heap.size v' (objS o s c r a 600).1 ∧ Le w w' := by
  rcases obj_cases (o := o) with rfl | rfl | rfl | ho
  · exact objApply0 v s c r a w hx hf
  · exact objApply1 v s c r a w hx hf
  · exact objApply2 v s c r a w hx hf
  · rw [objS_out ho]
    exact (objApplyOut o ho v s c r a w hx).mono fun e w' ⟨he, hl⟩ => ⟨stZ, he, OwnS.zero _ _, hl⟩

theorem objScan (o : Int) (s : St) (er : Int) (h : er ≠ 0) : ((objS o s 3 0 0 er).2.2 == 0) = objMay o s := by
  have ho : opMay 3 0 0 = true := by decide
  cases hm : objMay o s
  · rw [objS_no (by rw [hm]; rfl)]; simpa using h
  · rw [objS_yes _ (by rw [hm, ho]; rfl)]; rfl

set_option maxHeartbeats 1000000 in
theorem objMayC (o : Int) (v : Value) (s : St) (w : World) (hx : HasS w v s) (hf : Fit s) :
    Calls Try.prog 32 #[.int .i64 o, v] w fun e w' => e = .returned (.bool (objMay o s)) ∧ Le w w' := by
  have hx0 := hx
  obtain ⟨vs, rfl, hr⟩ := hx
  have hl := Le.alloc w (.cells (cells4 vs) 25)
  have hap := objApply o (stV vs) s 3 0 0 _ (hx0.le hl) hf
  have hsc := objScan o s 600 (by decide)
  generalize objS o s 3 0 0 600 = S1 at hap hsc
  generalize objMay o s = b at hsc ⊢
  go_enter Try.func32, Try.ntmps32
  go_wp2_with fail
  refine hap.mono ?_
  rintro e w1 ⟨_, rfl, ⟨q, rfl, o1⟩, l1⟩
  go_wp2_with fail
  go_ret
  exact ⟨rfl, (hl.trans l1).trans (Le.alloc _ _)⟩

end Go.Proofs.Ytnpejgendmgfaaa

/-
  THE WALKS over package fold's inTurn and Fold: what each answers, for every object, state and operations. Condition: the state's rows and the operations can be copied.
-/
namespace Go.Proofs.Ytnpejgendmgfaaa
open Go.RowKit

/-- What a store at a place of an owned row leaves. -/
theorem Own.putAt {w : World} {base g L cap p : Nat} {xs : List Int} (h : Own w base (.slice (some ⟨g, 0, none⟩) L cap) xs) (hp : p < xs.length) :
    w.frozen? ⟨g, p, none⟩ = false ∧ w.cell? ⟨g, p, none⟩ = some (.int .i64 (xs.getD p 0)) ∧ ∀ x, Own (w.setCell ⟨g, p, none⟩ (.int .i64 x)) base (.slice (some ⟨g, 0, none⟩) L cap) (xs.set p x) := by
  have hL : L = xs.length := by
    obtain ⟨a, c, hv, _⟩ := h.has
    simp only [Value.slice.injEq] at hv
    exact hv.2.1
  subst hL
  have h' := h
  refine ⟨World.ownsRow.frozenAt h' p, ?_, fun x => ?_⟩
  · rw [World.ownsRow.cellAt h' p (by omega)]
    simp [List.getElem?_map, List.getElem?_eq_getElem hp, List.getD]
  · have h3 := (World.ownsRow.stored h' p (.int .i64 x)).1
    exact Own.of (by simpa using h3) (by simp) (by simp [List.map_set])

theorem Own.set1 {w : World} {base g i : Nat} {v u : Value} {xs : List Int} (h : Own w base v xs) (hne : v.ownBlock ≠ some g) : Own (w.setCell ⟨g, i, none⟩ u) base v xs :=
  ownsRow_setCell_other h hne u

/-- What stands ahead of each round: the state so far in its variable, the answers so far in theirs. -/
structure FoI (w : World) (o : Int) (s : St) (ps : List Opr) (g gA : Nat) (wr : World) (k : Nat) (us : Nat → Sl) : Prop where
  le : Le w wr
  res : Box wr (w.heap.size + 1) (cells4 fun _ => slZ) 25
  box : Box wr g (cells4 us) 25
  rows : ∀ i, i < 4 → Own wr w.heap.size (slV (us i)) ((foldSt o s (ps.take k)).at i)
  ans : Own wr w.heap.size (.slice (some ⟨gA, 0, none⟩) ps.length ps.length) (answers o s ps k)
  off : ∀ i, i < 4 → (slV (us i)).ownBlock ≠ some gA
  gb : w.heap.size + 1 < g
  ga : w.heap.size ≤ gA
  may : opsMay (ps.take k) = true

theorem FoI.apart {w wr : World} {o : Int} {s : St} {ps : List Opr} {g gA k : Nat} {us : Nat → Sl} (h : FoI w o s ps g gA wr k us) {g' : Nat} {cs : Array Value} (hb : Box wr g' cs 25) : g' ≠ gA := by
  intro e
  subst e
  exact h.ans.apart hb (by decide) rfl

theorem FoI.next {w wr w2 : World} {o : Int} {s : St} {ps : List Opr} {g gA k : Nat} {us q : Nat → Sl} (h : FoI w o s ps g gA wr k us) (hk : k < ps.length) (hp : (ps.getD k Opr.zero).may = true) (l : Le wr w2)
    (hq : ∀ i, i < 4 → Own w2 wr.heap.size (slV (q i)) ((stepS o (foldSt o s (ps.take k)) (ps.getD k Opr.zero)).at i)) :
    FoI w o s ps g gA (((((w2.setCell ⟨g, 0, none⟩ (slV (q 0))).setCell ⟨g, 1, none⟩ (slV (q 1))).setCell ⟨g, 2, none⟩ (slV (q 2))).setCell ⟨g, 3, none⟩ (slV (q 3))).setCell ⟨gA, k, none⟩ (.int .i64 (stepA o (foldSt o s (ps.take k)) (ps.getD k Opr.zero)))) (k + 1) q := by
  have hb := h.box.le l
  have hne := h.apart h.box
  have hne1 := h.apart h.res
  have hsz := h.le.size
  have hgA : gA < wr.heap.size := (h.ans.block (g := gA) rfl).2
  have hoff : ∀ i, i < 4 → (slV (q i)).ownBlock ≠ some gA := fun i hi e => by
    have := ((hq i hi).block e).1
    omega
  have gb := h.gb
  have hans := ((h.ans.le l).set4 hb (by decide) (slV (q 0)) (slV (q 1)) (slV (q 2)) (slV (q 3))).putAt (p := k) (by rw [answers_len (by omega)]; exact hk)
  refine ⟨?_, ?_, ?_, fun i hi => ?_, ?_, hoff, h.gb, h.ga, ?_⟩
  · exact Below.setCell ((h.le.trans l).set4 (by omega) _ _ _ _) h.ga _
  · exact ((h.res.le l).other4 (by omega) _ _ _ _).other hne1 _ _
  · exact Box.other ((((hb.set 0 _).set 1 _).set 2 _).set 3 _) hne _ _
  · rw [foldSt_take hk]
    exact (((hq i hi).base (by omega)).set4 hb (by decide) _ _ _ _).set1 (hoff i hi)
  · rw [← answers_next hk]
    exact hans.2.2 _
  · rw [opsMay_take hk, h.may, hp]; rfl

theorem foldMay_bad {o : Int} {s : St} {ps : List Opr} {k : Nat} (h : k < ps.length) (hb : (ps.getD k Opr.zero).may = false) : foldMay o s ps = false := by
  unfold foldMay; rw [opsMay_bad h hb, Bool.and_false]

set_option maxRecDepth 4000 in
set_option maxHeartbeats 1000000 in
theorem foldInTurn (o : Int) (v u : Value) (s : St) (ps : List Opr) (w : World) (hx : HasS w v s) (hf : Fit s) (ho : HasO w u ps) (hn : ps.length * 24 ≤ 140737488351232) :
    Calls Try.prog 23 #[.int .i64 o, v, u] w fun e w' => ∃ (q : Nat → Sl) (z : Value), e = .returned (.tuple #[stV q, z, .bool (foldMay o s ps)]) ∧ Le w w' ∧
      (foldMay o s ps = true → OwnS w' w.heap.size (stV q) (foldSt o s ps) ∧ Own w' w.heap.size z (foldAn o s ps)) := by
  have hx0 := hx
  obtain ⟨vs, rfl, hr⟩ := hx
  have hb1 := (Box.new w (cells4 vs) 25).le (Le.alloc _ (.cells (cells4 fun _ => slZ) 25))
  have hb2 := Box.new (w.alloc (.cells (cells4 vs) 25)) (cells4 fun _ => slZ) 25
  rw [World.size_alloc] at hb2
  have hl := (Le.alloc w (.cells (cells4 vs) 25)).trans (Le.alloc _ (.cells (cells4 fun _ => slZ) 25))
  have hmay := objMayC o (stV vs) s _ (hx0.le hl) hf
  cases hm : objMay o s
  · have hfm : foldMay o s ps = false := by unfold foldMay; rw [hm]; rfl
    rw [hfm]
    rw [hm] at hmay
    go_enter Try.func23, Try.ntmps23
    go_wp2_with fail
    refine hmay.mono ?_
    rintro e w1 ⟨rfl, l1⟩
    obtain ⟨y0, y1, y2, y3, _, _, _, _⟩ := (hb1.le l1).st
    obtain ⟨z0, z1, z2, z3, f0, f1, f2, f3⟩ := (hb2.le l1).st
    go_wp2_with fail
    refine bodyPost_ret (v := .tuple #[stV vs, .slice none 0 0, .bool false]) (by simp [results, Try.results23, go_sem, z0, z1, z2, z3]) rfl ⟨vs, _, rfl, ?_, fun h => by cases h⟩
    exact (hl.trans l1).set4 (by omega) _ _ _ _
  · rw [hm] at hmay
    obtain ⟨i0, hi, hz0, hz1, hz2⟩ := info_parts info3
    obtain ⟨a, cap, rfl, hc, hnone, hops⟩ := ho
    have hopA : ∀ k, k < ps.length → ∃ b off, a = some ⟨b, off, none⟩ ∧ OprAt w b (off + k * 3) (ps.getD k Opr.zero) := fun k hk => by
      obtain ⟨b, off, ha, hcell⟩ := hops (by omega)
      exact ⟨b, off, ha, hcell k hk⟩
    clear hops
    obtain ⟨L, hL⟩ : ∃ L, L = ps.length := ⟨_, rfl⟩
    have HL : Hid (L = ps.length) := hL
    rw [← hL] at hc hopA hn ⊢
    have hans0 : answers o s ps 0 = List.replicate L 0 := by rw [answers_zero, hL]
    clear hL
    go_enter Try.func23, Try.ntmps23
    go_wp2_with fail
    refine hmay.mono ?_
    rintro e w1 ⟨rfl, l1⟩
    replace hb1 := hb1.le l1
    replace hb2 := hb2.le l1
    replace hl := hl.trans l1
    clear l1 hmay
    obtain ⟨y0, y1, y2, y3, _, _, _, _⟩ := hb1.st
    go_wp2_with fail
    refine (statesCopy (stV vs) s _ (hx0.le hl) hf).mono ?_
    rintro e w2 ⟨us, rfl, o2, _, l2⟩
    clear y0 y1 y2 y3
    replace hb2 := hb2.le l2
    have hl2 := hl.trans l2
    have hs1 := hl.size
    have hs2 := hl2.size
    have hb3 := Box.new w2 (cells4 us) 25
    have hA := Le.alloc w2 (.cells (cells4 us) 25)
    have hlt2 := hb2.lt
    replace hl2 := hl2.trans hA
    replace hb2 := hb2.le hA
    have o3 := fun i hi => ((o2 i hi).le hA).base (show w.heap.size ≤ w1.heap.size by omega)
    have off3 : ∀ i, i < 4 → (slV (us i)).ownBlock ≠ some (w2.heap.size + 1) := fun i hi e => by have := ((o2 i hi).block e).2; omega
    clear hA o2 l2
    go_upto_region 4 with fail
    generalize hW : w2.alloc (.cells (cells4 us) 25) = W at hb2 hb3 hl2 o3 ⊢
    have hWs : W.heap.size = w2.heap.size + 1 := by rw [← hW, World.size_alloc]
    clear hW
    rw [← hWs] at off3
    generalize w2.heap.size = g3 at hb3 hWs hs2 hlt2 ⊢
    clear hWs
    go_wp2_with (at_make; refine wpList_make_full _ rfl _ _ 22 rfl w.heap.size 3 i0 (.int .i64 0) 1 Try.underlying22 hi hz0 hz1 .i64 .i64 _ _ L rfl rfl (by omega) (by omega) (by rw [hz2]; omega) (by unfold maxLen; omega) hl2.size ?_; intro w4 hown4 hgrow4)
    have l4 : Le W w4 := Below.grown (Le.refl W) hgrow4 (Nat.le_refl _) (fun g hg => by cases hg)
    have I0 : FoI w o s ps g3 W.heap.size w4 0 us := by
      refine ⟨hl2.trans l4, hb2.le l4, hb3.le l4, fun i hi => (o3 i hi).le l4, ?_, off3, by omega, hl2.size, rfl⟩
      rw [← HL.out, hans0]
      exact Own.of hown4 (by simp) (by rw [show (Value.int .i64 0).cells = #[.int .i64 0] from rfl, Nat.mul_one, toList_madeCells_one]; simp)
    clear hown4 hgrow4 l4 hb2 hb3 hl2 o3 off3 hs2 hlt2 hb1 hl hs1
    generalize W.heap.size = gA at I0 ⊢
    go_loopw [26] (fun i wr => ∃ (k : Nat) (us : Nat → Sl), k ≤ L ∧ i = .int .i64 k ∧ FoI w o s ps g3 gA wr k us) (fun i _ => L - (intOf i).toNat)
    case atStart => exact ⟨0, us, by omega, rfl, I0⟩
    case round =>
      obtain ⟨k, us, hk, rfl, I⟩ := hrel
      clear I0
      by_cases hlt : k < L
      · obtain ⟨p, hpk⟩ : ∃ p, p = ps.getD k Opr.zero := ⟨_, rfl⟩
        obtain ⟨b, off, rfl, hcell⟩ := hopA k hlt
        obtain ⟨x0, x1, x2⟩ := hcell.le I.le
        rw [← hpk] at x0 x1 x2
        have HP : Hid (p = ps.getD k Opr.zero) := hpk
        have hlt' : (k : Int) < (L : Int) := by omega
        clear hcell hpk hopA
        have hmk : objMay o (foldSt o s (ps.take k)) = true := foldSt_may hm I.may
        have hfk : Fit (foldSt o s (ps.take k)) := hf.foldSt
        have hA := Le.alloc wr (.cells #[.int .i64 p.c, .int .i64 p.r, .int .i64 p.a] 43)
        have hap := objApply o (stV us) (foldSt o s (ps.take k)) p.c p.r p.a _ (OwnS.has ⟨us, rfl, fun i hi => (I.rows i hi).le hA⟩) hfk
        obtain ⟨b0, b1, b2, b3, f0, f1, f2, f3⟩ := (I.box.le hA).st
        have hgA := I.ans.putAt (p := k) (by have := HL.out; rw [answers_len (by omega)]; omega)
        cases hp : p.may
        · rw [objS_bad 600 hp] at hap
          go_wp2_with fail
          refine hap.mono ?_
          rintro e w5 ⟨_, rfl, ⟨q, rfl, o5⟩, l5⟩
          have l6 := hA.trans l5
          obtain ⟨b0, b1, b2, b3, f0, f1, f2, f3⟩ := (I.box.le l6).st
          obtain ⟨z0, z1, z2, z3, e0, e1, e2, e3⟩ := (I.res.le l6).st
          obtain ⟨fA, cA, _⟩ := (I.ans.le l6).putAt (p := k) (by have := HL.out; rw [answers_len (by omega)]; omega)
          generalize (answers o s ps k).getD k 0 = yA at cA
          have hne := I.apart I.box
          have gb := I.gb
          have ga := I.ga
          have lw := I.le.trans l6
          have hbad : Hid (foldMay o s ps = false) := foldMay_bad (k := k) (by have := HL.out; omega) (by rw [← HP.out]; exact hp)
          have hne1 := I.apart I.res
          have hne' : ¬ gA = g3 := fun e => hne e.symm
          have hr5 := ((I.res.le l6).other4 (g' := g3) (by omega) (slV (q 0)) (slV (q 1)) (slV (q 2)) (slV (q 3))).other hne1 k (.int .i64 0)
          have hb5 := Box.other ((((((I.box.le l6).set 0 (slV (q 0))).set 1 (slV (q 1))).set 2 (slV (q 2))).set 3 (slV (q 3)))) hne k (.int .i64 0)
          replace hb5 : Box _ g3 (cells4 q) 25 := hb5
          have l7 : Le w _ := Below.setCell (lw.set4 (g := g3) (by omega) (slV (q 0)) (slV (q 1)) (slV (q 2)) (slV (q 3))) (show w.heap.size ≤ (⟨gA, k, none⟩ : Addr).block from ga) (.int .i64 0)
          clear hap hx0 hfk hmk hm I hA lw o5 l5 l6 x0 x1 x2 hgA
          go_upto_region 10 with fail
          generalize hW5 : ((((w5.setCell ⟨g3, 0, none⟩ (slV (q 0))).setCell ⟨g3, 1, none⟩ (slV (q 1))).setCell ⟨g3, 2, none⟩ (slV (q 2))).setCell ⟨g3, 3, none⟩ (slV (q 3))).setCell ⟨gA, k, none⟩ (.int .i64 0) = W5 at hr5 hb5 l7 ⊢
          clear hW5 b0 b1 b2 b3 f0 f1 f2 f3 z0 z1 z2 z3 e0 e1 e2 e3 fA cA
          obtain ⟨b0, b1, b2, b3, _, _, _, _⟩ := hb5.st
          obtain ⟨z0, z1, z2, z3, e0, e1, e2, e3⟩ := hr5.st
          go_wp2_with fail
          refine bodyPost_ret (v := .tuple #[stV q, .slice (some ⟨gA, 0, none⟩) L L, .bool (foldMay o s ps)]) (by rw [hbad.out]; simp [results, Try.results23, go_sem, z0, z1, z2, z3]) rfl ⟨q, _, rfl, ?_, fun h => by rw [hbad.out] at h; cases h⟩
          exact l7.set4 (by omega) _ _ _ _
        · rw [objS_step 600 hmk hp] at hap
          go_wp2_with fail
          refine hap.mono ?_
          rintro e w5 ⟨_, rfl, ⟨q, rfl, o5⟩, l5⟩
          have l6 := hA.trans l5
          obtain ⟨b0, b1, b2, b3, f0, f1, f2, f3⟩ := (I.box.le l6).st
          obtain ⟨fA, cA, _⟩ := (I.ans.le l6).putAt (p := k) (by have := HL.out; rw [answers_len (by omega)]; omega)
          generalize (answers o s ps k).getD k 0 = yA at cA
          have hne := I.apart I.box
          have hsz := hA.size
          have hne' : ¬ gA = g3 := fun e => hne e.symm
          have IN := I.next (by have := HL.out; omega) (by rw [← HP.out]; exact hp) l6 (q := q) (fun i hi => by rw [← HP.out]; exact (o5 i hi).base hsz)
          rw [← HP.out] at IN
          clear hap hx0 hfk hA o5 l5 l6 x0 x1 x2 hgA
          go_upto_region 10 with fail
          go_wp2_with fail
          go_roundw
          case rel => exact ⟨k + 1, q, by omega, by go_num, IN⟩
          case measure => simp [intOf]; omega
      · obtain rfl : k = L := by omega
        obtain ⟨b0, b1, b2, b3, _, _, _, _⟩ := I.box.st
        obtain ⟨z0, z1, z2, z3, e0, e1, e2, e3⟩ := I.res.st
        have hne := I.apart I.res
        have hall : foldMay o s ps = true := by
          have := I.may
          rw [HL.out, List.take_length] at this
          unfold foldMay; rw [hm, this]; rfl
        have HB : Hid (foldMay o s ps = true) := hall
        clear hall hm
        go_wp2_with fail
        refine bodyPost_ret (v := .tuple #[stV us, .slice (some ⟨gA, 0, none⟩) k k, .bool (foldMay o s ps)]) (by rw [HB.out]; simp [results, Try.results23, go_sem, z0, z1, z2, z3]) rfl ⟨us, _, rfl, I.le.set4 (by omega) _ _ _ _, fun _ => ⟨⟨us, rfl, fun i hi => ?_⟩, ?_⟩⟩
        · have := I.rows i hi
          rw [HL.out, List.take_length] at this
          exact this.set4 I.res (by decide) _ _ _ _
        · have := I.ans
          rw [← HL.out] at this
          have h2 : answers o s ps k = foldAn o s ps := by rw [HL.out]; exact answers_all o s ps
          rw [h2] at this
          exact this.set4 I.res (by decide) _ _ _ _

end Go.Proofs.Ytnpejgendmgfaaa

/-
  THE WALK over package fold's Fold: what it answers, for every object, state and operations. Condition: the state's rows and the operations can be copied.
-/
namespace Go.Proofs.Ytnpejgendmgfaaa
open Go.RowKit

set_option maxRecDepth 4000 in
set_option maxHeartbeats 1000000 in
theorem foldFold (o : Int) (v u : Value) (s : St) (ps : List Opr) (w : World) (hx : HasS w v s) (hf : Fit s) (ho : HasO w u ps) (hn : ps.length * 24 ≤ 140737488351232) :
    Calls Try.prog 11 #[.int .i64 o, v, u] w fun e w' => ∃ (v' z : Value), e = .returned (.tuple #[v', z, .int .i64 (foldS o s ps 1200).2.2]) ∧ OwnS w' w.heap.size v' (foldS o s ps 1200).1 ∧ Own w' w.heap.size z (foldS o s ps 1200).2.1 ∧ Le w w' := by
  have hx0 := hx
  obtain ⟨vs, rfl, hr⟩ := hx
  have hb2 := Box.new (w.alloc (.cells (cells4 vs) 25)) (cells4 fun _ => slZ) 25
  rw [World.size_alloc] at hb2
  have hl := (Le.alloc w (.cells (cells4 vs) 25)).trans (Le.alloc _ (.cells (cells4 fun _ => slZ) 25))
  have hs0 := hl.size
  have hin := foldInTurn o (stV vs) u s ps _ (hx0.le hl) hf (ho.le hl) hn
  obtain ⟨qu, rfl⟩ := ho.sl
  cases hm : foldMay o s ps
  · rw [foldS_no 1200 hm]
    rw [hm] at hin
    go_enter Try.func11, Try.ntmps11
    go_wp2_with fail
    refine hin.mono ?_
    rintro e w1 ⟨q, z, rfl, l1, _⟩
    have hA := Le.alloc w1 (.cells (cells4 q) 25)
    replace hb2 := (hb2.le l1).le hA
    replace hl := (hl.trans l1).trans hA
    clear l1 hA hin
    go_upto_region 4 with fail
    generalize hW : w1.alloc (.cells (cells4 q) 25) = W at hb2 hl ⊢
    clear hW
    obtain ⟨z0, z1, z2, z3, e0, e1, e2, e3⟩ := hb2.st
    go_wp2_with fail
    refine bodyPost_ret (v := .tuple #[stZ, .slice none 0 0, .int .i64 1200]) (by simp [results, Try.results11, go_sem, z0, z1, z2, z3]) rfl ⟨stZ, _, rfl, OwnS.zero _ _, Own.nil _ _, ?_⟩
    exact hl.set4 (by omega) _ _ _ _
  · rw [foldS_yes 1200 hm]
    rw [hm] at hin
    go_enter Try.func11, Try.ntmps11
    go_wp2_with fail
    refine hin.mono ?_
    rintro e w1 ⟨q, z, rfl, l1, h1⟩
    obtain ⟨⟨_, hq, o1⟩, oz⟩ := h1 trivial
    simp only at hq o1 oz ⊢
    have hA := Le.alloc w1 (.cells (cells4 q) 25)
    replace hb2 := (hb2.le l1).le hA
    replace hl := (hl.trans l1).trans hA
    have o3 : OwnS (w1.alloc (.cells (cells4 q) 25)) w.heap.size (stV q) (foldSt o s ps) := ((h1 trivial).1.le hA).base hs0
    have z3 : Own (w1.alloc (.cells (cells4 q) 25)) w.heap.size z (foldAn o s ps) := (oz.le hA).base hs0
    have hb3 := Box.new w1 (cells4 q) 25
    have hne : w1.heap.size ≠ w.heap.size + 1 := by have := l1.size; simp only [World.size_alloc] at this; omega
    clear l1 hA hin h1 oz o1 hq
    obtain ⟨qz, rfl⟩ := z3.has.sl
    go_upto_region 3 with fail
    generalize hW : w1.alloc (.cells (cells4 q) 25) = W at hb2 hb3 hl o3 z3 ⊢
    generalize w1.heap.size = g3 at hb3 hne ⊢
    clear hW
    obtain ⟨b0, b1, b2, b3, _, _, _, _⟩ := hb3.st
    obtain ⟨y0, y1, y2, y3, e0, e1, e2, e3⟩ := hb2.st
    go_wp2_with fail
    refine bodyPost_ret (v := .tuple #[stV q, slV qz, .int .i64 0]) (by simp [results, Try.results11, go_sem, y0, y1, y2, y3]) rfl ⟨_, _, rfl, ?_, ?_, ?_⟩
    · obtain ⟨_, hq, o1⟩ := o3
      refine ⟨_, hq, fun i hi => (o1 i hi).set4 hb2 (by decide) _ _ _ _⟩
    · exact z3.set4 hb2 (by decide) _ _ _ _
    · exact hl.set4 (by omega) _ _ _ _

end Go.Proofs.Ytnpejgendmgfaaa

/-
  THE WALK over choruslaw12.awake: it answers true and turns nothing that was there. No condition.
-/
namespace Go.Proofs.Ytnpejgendmgfaaa
open Go.RowKit

theorem fo1 : foldS 0 St.zero [⟨0, 0, 5⟩, ⟨0, 0, 6⟩, ⟨2, 0, 0⟩] 1200 = (⟨[6], [], [], []⟩, [-1, 5, 6], 0) := by decide
theorem fo2 : foldS 0 St.zero [⟨9, 0, 0⟩] 1200 = (St.zero, [], 1200) := by decide
theorem fo3 : foldS 7 St.zero [] 1200 = (St.zero, [], 1200) := by decide

set_option maxRecDepth 4000 in
set_option maxHeartbeats 400000 in
theorem lawAwake12 (w : World) : Calls Try.prog 19 #[] w fun e w' => e = .returned (.bool true) ∧ Le w w' := by
  have hl := Le.alloc w (.cells (cells4 fun _ => slZ) 25)
  have hb0 := Box.new w (cells4 fun _ => slZ) 25
  go_enter Try.func19, Try.ntmps19
  go_upto_region 2 with fail
  generalize hW : w.alloc (.cells (cells4 fun _ => slZ) 25) = W0 at hl hb0 ⊢
  clear hW
  obtain ⟨y0, y1, y2, y3, _, _, _, _⟩ := hb0.st
  have hq1 : OwnO (W0.alloc (.cells #[.int .i64 0, .int .i64 0, .int .i64 5, .int .i64 0, .int .i64 0, .int .i64 6, .int .i64 2, .int .i64 0, .int .i64 0] 43)) W0.heap.size (.slice (some ⟨W0.heap.size, 0, none⟩) 3 3) [⟨0, 0, 5⟩, ⟨0, 0, 6⟩, ⟨2, 0, 0⟩] := OwnO.lit W0 W0.heap.size (Nat.le_refl _) [⟨0, 0, 5⟩, ⟨0, 0, 6⟩, ⟨2, 0, 0⟩] (by decide)
  have hc1 := foldFold 0 stZ _ St.zero _ _ (HasS.zero _) fit_zero hq1.has (by decide)
  simp only [fo1] at hc1
  go_wp2_with fail
  refine hc1.mono ?_
  rintro e w1 ⟨_, z, rfl, ⟨q1, rfl, o1⟩, oz, l1⟩
  have hb1 := Box.new w1 (cells4 q1) 25
  have hA := Le.alloc w1 (.cells (cells4 q1) 25)
  have l2 := ((Le.alloc W0 _).trans l1).trans hA
  replace hb0 := hb0.le l2
  replace hl := hl.trans l2
  replace oz := oz.has.le hA
  have o2 := fun i hi => (o1 i hi).has.le hA
  clear hc1 hq1 y0 y1 y2 y3 l1 hA l2 o1
  go_upto_region 3 with fail
  generalize hW : w1.alloc (.cells (cells4 q1) 25) = W1 at hl hb0 hb1 oz o2 ⊢
  generalize w1.heap.size = g1 at hb1 ⊢
  clear hW
  obtain ⟨y0, y1, y2, y3, _, _, _, _⟩ := hb0.st
  have hq1 : OwnO (W1.alloc (.cells #[.int .i64 9, .int .i64 0, .int .i64 0] 43)) W1.heap.size (.slice (some ⟨W1.heap.size, 0, none⟩) 1 1) [⟨9, 0, 0⟩] := OwnO.lit W1 W1.heap.size (Nat.le_refl _) [⟨9, 0, 0⟩] (by decide)
  have hc1 := foldFold 0 stZ _ St.zero _ _ (HasS.zero _) fit_zero hq1.has (by decide)
  simp only [fo2] at hc1
  obtain ⟨qz, rfl⟩ := oz.sl
  go_wp2_with fail
  refine hc1.mono ?_
  rintro e w3 ⟨_, z3, rfl, ⟨q3, rfl, o3⟩, oz3, l3⟩
  have hA := Le.alloc w3 (.cells (cells4 q3) 25)
  have l4 := ((Le.alloc W1 _).trans l3).trans hA
  replace hb0 := hb0.le l4
  replace hb1 := hb1.le l4
  replace hl := hl.trans l4
  replace oz := oz.le l4
  replace o2 := fun i hi => (o2 i hi).le l4
  clear hc1 hq1 y0 y1 y2 y3 hA l3 l4 o3 oz3
  go_upto_region 4 with fail
  generalize hW : w3.alloc (.cells (cells4 q3) 25) = W3 at hl hb0 hb1 oz o2 ⊢
  clear hW
  obtain ⟨y0, y1, y2, y3, _, _, _, _⟩ := hb0.st
  have hc1 := foldFold 7 stZ _ St.zero [] W3 (HasS.zero _) fit_zero ⟨none, 0, rfl, Nat.le_refl _, fun _ => rfl, fun h => by simp at h⟩ (by decide)
  simp only [fo3] at hc1
  go_wp2_with fail
  refine hc1.mono ?_
  rintro e w5 ⟨_, z5, rfl, ⟨q5, rfl, o5⟩, oz5, l5⟩
  have hA := Le.alloc w5 (.cells (cells4 q5) 25)
  have l6 := l5.trans hA
  replace hb1 := hb1.le l6
  replace hl := hl.trans l6
  replace oz := oz.le l6
  replace o2 := fun i hi => (o2 i hi).le l6
  clear hc1 y0 y1 y2 y3 hA l5 l6 o5 oz5 hb0
  go_upto_region 5 with fail
  generalize hW : w5.alloc (.cells (cells4 q5) 25) = W5 at hl hb1 oz o2 ⊢
  clear hW
  obtain ⟨y0, y1, y2, y3, _, _, _, _⟩ := hb1.st
  have hr0 : Has W5 (slV (q1 0)) [6] := o2 0 (by omega)
  clear o2
  have hlit : Own (W5.alloc (.cells #[.int .i64 6] 3)) W5.heap.size (.slice (some ⟨W5.heap.size, 0, none⟩) 1 1) [6] := Own.lit W5 W5.heap.size (Nat.le_refl _) [6] (by simp)
  have hs1 := lawSameInts (slV (q1 0)) _ [6] [6] _ (hr0.le (Le.alloc _ _)) hlit.has (by simp)
  rw [show decide (([6] : List Int) = [6]) = true by decide] at hs1
  go_wp2_with fail
  refine hs1.mono ?_
  rintro e _ ⟨rfl, n, rfl⟩
  have l7 := (Le.alloc W5 (.cells #[.int .i64 6] 3)).trans (Le.drewN _ n)
  generalize hW : (W5.alloc (.cells #[.int .i64 6] 3)).drewN n = W6 at l7 ⊢
  clear hW
  have hlit2 : Own (W6.alloc (.cells #[.int .i64 (-1), .int .i64 5, .int .i64 6] 3)) W6.heap.size (.slice (some ⟨W6.heap.size, 0, none⟩) 3 3) [-1, 5, 6] := Own.lit W6 W6.heap.size (Nat.le_refl _) [-1, 5, 6] (by simp)
  replace oz : Has W5 (slV qz) [-1, 5, 6] := oz
  have hs2 := lawSameInts (slV qz) _ [-1, 5, 6] [-1, 5, 6] _ ((oz.le l7).le (Le.alloc _ _)) hlit2.has (by simp)
  rw [decide_eq_true (rfl : ([-1, 5, 6] : List Int) = [-1, 5, 6])] at hs2
  go_wp2_with fail
  refine hs2.mono ?_
  rintro e _ ⟨rfl, n2, rfl⟩
  replace hl := ((hl.trans l7).trans (Le.alloc W6 (.cells #[.int .i64 (-1), .int .i64 5, .int .i64 6] 3))).trans (Le.drewN _ n2)
  generalize hW : (W6.alloc (.cells #[.int .i64 (-1), .int .i64 5, .int .i64 6] 3)).drewN n2 = W7 at hl ⊢
  clear hW hs1 hs2 hlit hlit2 l7 oz hr0 hb1 y0 y1 y2 y3
  go_wp2_with (go_at_call 15; refine (lawNum _ _).mono ?_; rintro e _ ⟨rfl, rfl⟩)
  go_ret
  exact ⟨rfl, hl⟩

end Go.Proofs.Ytnpejgendmgfaaa

/-
  THE WALK over the document's own CopyState: the same rows, in memory of their own. Condition: the rows can be copied.
-/
namespace Go.Proofs.Ytnpejgendmgfaaa
open Go.RowKit

set_option maxHeartbeats 400000 in
theorem refCopyState (v : Value) (s : St) (w : World) (hx : HasS w v s) (hf : Fit s) :
    Calls Try.prog 24 #[v] w fun e w' => ∃ v', e = .returned v' ∧ OwnS w' w.heap.size v' s ∧ Le w w' := by
  obtain ⟨vs, rfl, hr⟩ := hx
  go_enter Try.func24, Try.ntmps24
  go_wp2
  go_loopw [4] (fun i wr => ∃ (k : Nat) (us : Nat → Sl), k ≤ 4 ∧ i = .int .i64 k ∧ Cp w s vs wr k us) (fun i _ => 4 - (intOf i).toNat)
  case atStart => exact ⟨0, _, by omega, rfl, Cp.start w s vs⟩
  case round =>
    obtain ⟨k, us, hk, rfl, hcp⟩ := hrel
    by_cases hlt : k < 4
    · have c1 : (wr.alloc (.cells #[] 3)).cell? ⟨w.heap.size, k, none⟩ = some (slV (vs k)) := ((hcp.given.le (Le.alloc wr _)).cell k).trans (cells4_at vs hlt)
      have hw1 : Has (wr.alloc (.cells #[] 3)) (slV (vs k)) (s.at k) := (hr k hlt).le (hcp.le.trans (Le.alloc wr _))
      have hn1 : Own (wr.alloc (.cells #[] 3)) wr.heap.size (.slice (some ⟨wr.heap.size, 0, none⟩) 0 0) [] := Own.lit wr _ (Nat.le_refl _) [] (by decide)
      have hfk := hf k hlt
      have hrow : ∀ g, (Value.slice (some ⟨wr.heap.size, 0, none⟩) 0 0).ownBlock = some g → wr.heap.size ≤ g := by intro g hg; cases hg; exact Nat.le_refl _
      go_wp2_with (at_builtin; refine wp_append_ints rfl _ _ rfl wr.heap.size _ _ [] (s.at k) rfl rfl hn1 hw1 (by simp; omega) (by simp) ?_; intro v' w2 hown hgrow; rw [List.nil_append] at hown; have l2 : Le wr w2 := Below.grown (Le.alloc wr _) hgrow (by simp) hrow; have c3 := (hcp.filled.le l2).cell k; rw [cells4_at us hlt] at c3; have f3 := (hcp.filled.le l2).frozen k; obtain ⟨q, rfl⟩ := hown.has.sl)
      go_roundw
      case rel => exact ⟨k + 1, _, by omega, by go_num, hcp.next hlt (Le.alloc wr _) hgrow hrow hown⟩
      case measure => simp [intOf]; omega
    · obtain rfl : k = 4 := by omega
      obtain ⟨p0, p1, p2, p3, _, _, _, _⟩ := hcp.filled.st
      obtain ⟨b0, b1, b2, b3, f0, f1, f2, f3⟩ := hcp.result.st
      go_wp2
      refine bodyPost_ret (v := stV us) (by simp [results, Try.results24, go_sem, b0, b1, b2, b3]) rfl ⟨_, rfl, ⟨us, rfl, fun i hi => ?_⟩, ?_⟩
      · exact ((((hcp.rows i hi).setBox hcp.result (by decide)).setBox (hcp.result.set _ _) (by decide)).setBox ((hcp.result.set _ _).set _ _) (by decide)).setBox (((hcp.result.set _ _).set _ _).set _ _) (by decide)
      · exact (((Below.setCell hcp.le (by show w.heap.size ≤ w.heap.size + 1; omega) _).setCell (by show w.heap.size ≤ w.heap.size + 1; omega) _).setCell (by show w.heap.size ≤ w.heap.size + 1; omega) _).setCell (by show w.heap.size ≤ w.heap.size + 1; omega) _

end Go.Proofs.Ytnpejgendmgfaaa

/-
  THE WALKS over the document's own upTo and OperMay: what they answer, for every operation. No condition.
-/
namespace Go.Proofs.Ytnpejgendmgfaaa
open Go.RowKit

theorem refUpTo (x a b : Int) (w : World) : Calls Try.prog 35 #[.int .i64 x, .int .i64 a, .int .i64 b] w fun e w' => e = .returned (.bool (decide (a ≤ x) && decide (x ≤ b))) ∧ w = w' := by
  by_cases h : a ≤ x
  all_goals
    go_enter Try.func35, Try.ntmps35
    go_wp2
    go_ret
    exact ⟨ret_bool (by simp [h]; try omega), rfl⟩

theorem in_yes {a x b : Int} (h : a ≤ x) (k : x ≤ b) : (decide (a ≤ x) && decide (x ≤ b)) = true := by simp [h, k]
theorem in_no {a x b : Int} (h : x < a ∨ b < x) : (decide (a ≤ x) && decide (x ≤ b)) = false := by simp; omega

set_option maxHeartbeats 2000000 in
theorem refOperMay (c r a : Int) (w : World) :
    Calls Try.prog 26 #[opV c r a] w fun e w' => e = .returned (.bool (opMay c r a)) ∧ Le w w' := by
  by_cases hc : c < 0 ∨ 3 < c
  · go_enter Try.func26, Try.ntmps26
    go_wp2_with (go_at_call 35; refine (refUpTo _ _ _ _).mono ?_; rw [in_no hc]; rintro e w1 ⟨rfl, rfl⟩)
    go_ret
    exact ⟨ret_bool (by simp [opMay]; omega), Le.alloc _ _⟩
  have hc' := in_yes (a := 0) (x := c) (b := 3) (by omega) (by omega)
  by_cases hr : r < 0 ∨ 3 < r
  · go_enter Try.func26, Try.ntmps26
    go_wp2_with (go_at_call 35; refine (refUpTo _ _ _ _).mono ?_; (first | rw [hc'] | rw [in_no hr]); rintro e w1 ⟨rfl, rfl⟩)
    go_ret
    exact ⟨ret_bool (by simp [opMay]; omega), Le.alloc _ _⟩
  have hr' := in_yes (a := 0) (x := r) (b := 3) (by omega) (by omega)
  by_cases ha : a < 0 ∨ 255 < a
  · go_enter Try.func26, Try.ntmps26
    go_wp2_with (go_at_call 35; refine (refUpTo _ _ _ _).mono ?_; (first | rw [hc'] | rw [hr'] | rw [in_no ha]); rintro e w1 ⟨rfl, rfl⟩)
    go_ret
    exact ⟨ret_bool (by simp [opMay]; omega), Le.alloc _ _⟩
  have ha' := in_yes (a := 0) (x := a) (b := 255) (by omega) (by omega)
  have hH : opMay c r a = (decide (c < 2) || (decide (a = 0) && (decide (c = 2) || decide (r = 0)))) := by
    rw [Bool.eq_iff_iff]; simp [opMay]; omega
  rw [hH]
  clear hH
  by_cases h2 : c < 2
  · go_enter Try.func26, Try.ntmps26
    go_wp2_with (go_at_call 35; refine (refUpTo _ _ _ _).mono ?_; (first | rw [hc'] | rw [hr'] | rw [ha']); rintro e w1 ⟨rfl, rfl⟩)
    go_ret
    exact ⟨ret_bool (by simp [h2]), Le.alloc _ _⟩
  by_cases h0 : a = 0
  · subst h0
    by_cases h3 : c = 2
    · subst h3
      go_enter Try.func26, Try.ntmps26
      go_wp2_with (go_at_call 35; refine (refUpTo _ _ _ _).mono ?_; (first | rw [hc'] | rw [hr'] | rw [ha']); rintro e w1 ⟨rfl, rfl⟩)
      go_ret
      exact ⟨ret_bool (by simp), Le.alloc _ _⟩
    · go_enter Try.func26, Try.ntmps26
      go_wp2_with (go_at_call 35; refine (refUpTo _ _ _ _).mono ?_; (first | rw [hc'] | rw [hr'] | rw [ha']); rintro e w1 ⟨rfl, rfl⟩)
      go_ret
      exact ⟨ret_bool (by simp [h3, beq_int]), Le.alloc _ _⟩
  · go_enter Try.func26, Try.ntmps26
    go_wp2_with (go_at_call 35; refine (refUpTo _ _ _ _).mono ?_; (first | rw [hc'] | rw [hr'] | rw [ha']); rintro e w1 ⟨rfl, rfl⟩)
    go_ret
    exact ⟨ret_bool (by simp [h0]), Le.alloc _ _⟩

end Go.Proofs.Ytnpejgendmgfaaa

/-
  THE WALKS over the document's own rowMay, StateMay, CopyState, first, storeRow, at a store: what they answer, for every row and state. Condition: where memory is made, that the rows can be copied.
-/
namespace Go.Proofs.Ytnpejgendmgfaaa
open Go.RowKit

theorem rowMay1_eq (xs : List Int) : rowMay1 xs = (xs.all argB && decide (xs.length ≤ 1)) := by
  match xs with
  | [] => rfl
  | [x] => simp [rowMay1, argB]
  | _ :: _ :: _ => simp [rowMay1]

set_option maxHeartbeats 400000 in
theorem refRowMay0 (v : Value) (xs : List Int) (w : World) (hx : Has w v xs) (hm : xs.length * 8 ≤ 140737488351232) :
    Calls Try.prog 31 #[.int .i64 0, v] w fun e w' => e = .returned (.bool (rowMay1 xs)) ∧ Le w w' := by
  have hl := Le.alloc w (.cells #[.int .i64 1, .int .i64 4, .int .i64 4] 3)
  obtain ⟨a, cap, rfl, hc, _, hx⟩ := hx
  rw [rowMay1_eq]
  by_cases h0 : 0 < xs.length
  · obtain ⟨b, off, rfl, hcell⟩ := hx h0
    obtain ⟨L, hL⟩ : ∃ L, L = xs.length := ⟨_, rfl⟩
    rw [← hL] at hm hc hcell h0 ⊢
    have HL : Hid (L = xs.length) := hL
    clear hL hx
    go_enter Try.func31, Try.ntmps31
    go_wp2
    go_loopw [6] (fun i wr => ∃ k : Nat, k ≤ L ∧ i = .int .i64 k ∧ Hid ((xs.take k).all argB = true) ∧ Le (w.alloc (.cells #[.int .i64 1, .int .i64 4, .int .i64 4] 3)) wr) (fun i _ => L - (intOf i).toNat)
    case atStart => exact ⟨0, Nat.zero_le _, rfl, rfl, Le.refl _⟩
    case round =>
      obtain ⟨k, hk, rfl, HA, hle⟩ := hrel
      by_cases hlt : k < L
      · obtain ⟨x, hxk⟩ : ∃ x, x = xs.getD k 0 := ⟨_, rfl⟩
        have hcx := hcell k hlt
        rw [← hxk] at hcx
        have c1 : ∀ X : Later wr, X.w.cell? ⟨b, off + k, none⟩ = some (.int .i64 x) := fun X => by
          have hb := World.block_lt_of_cell? w _ hcx
          rw [((hl.trans hle).trans X.le).cell (p := ⟨b, off + k, none⟩) hb]; exact hcx
        have HX : Hid (x = xs.getD k 0) := hxk
        clear hxk hcell hcx
        cases hh : argB x
        · have hup := fun w' => refUpTo x 0 255 w'
          have hh' : (decide (0 ≤ x) && decide (x ≤ 255)) = false := hh
          simp only [hh'] at hup
          go_wp2_with fail
          refine wp_region_later (by kernel_rfl) (by kernel_rfl) ?_
          repeat (go_big_quiet_step (first | (go_at_call 35; exact Calls.later_same (hup _))))
          refine wpQuiet_nil ?_
          rintro _ ⟨y, rfl⟩
          go_wp2
          go_ret
          exact ⟨ret_bool (by rw [all_bad (p := argB) (k := k) (by rw [← HL.out]; exact hlt) (HX.out ▸ hh)]; rfl), (hl.trans hle).trans y.le⟩
        · have hup := fun w' => refUpTo x 0 255 w'
          have hh' : (decide (0 ≤ x) && decide (x ≤ 255)) = true := hh
          simp only [hh'] at hup
          go_wp2_with fail
          refine wp_region_later (by kernel_rfl) (by kernel_rfl) ?_
          repeat (go_big_quiet_step (first | (go_at_call 35; exact Calls.later_same (hup _))))
          refine wpQuiet_nil ?_
          rintro _ ⟨y, rfl⟩
          go_wp2
          go_roundw
          case rel => exact ⟨k + 1, by omega, by go_num, by rw [all_take (by rw [← HL.out]; exact hlt), HA.out, ← HX.out, hh]; rfl, hle.trans y.le⟩
          case measure => simp [intOf]; omega
      · go_wp2
        go_ret
        refine ⟨ret_bool ?_, hl.trans hle⟩
        have := HA.out
        rw [List.take_of_length_le (by have := HL.out; omega)] at this
        rw [this, Bool.true_and, decide_eq_decide]
        omega
  · have hnil : xs = [] := by cases xs with | nil => rfl | cons _ _ => simp at h0
    subst hnil
    go_enter Try.func31, Try.ntmps31
    go_wp2
    refine wp_loop_rounds 1 ?_
    rw [rounds_succ]
    go_wp2
    go_ret
    exact ⟨ret_bool (by simp), hl⟩

set_option maxHeartbeats 400000 in
theorem refStateMay0 (v : Value) (s : St) (w : World) (hx : HasS w v s) (hf : Fit s) :
    Calls Try.prog 21 #[.int .i64 0, v] w fun e w' => e = .returned (.bool (s.all rowMay1)) ∧ Le w w' := by
  obtain ⟨vs, rfl, hr⟩ := hx
  have hl := Le.alloc w (.cells (cells4 vs) 25)
  have hb := Box.new w (cells4 vs) 25
  go_enter Try.func21, Try.ntmps21
  go_wp2
  go_loopw [5] (fun i wr => ∃ k : Nat, k ≤ 4 ∧ i = .int .i64 k ∧ Hid (∀ j, j < k → rowMay1 (s.at j) = true) ∧ Le (w.alloc (.cells (cells4 vs) 25)) wr) (fun i _ => 4 - (intOf i).toNat)
  case atStart => exact ⟨0, by omega, rfl, (fun j hj => by omega), Le.refl _⟩
  case round =>
    obtain ⟨k, hk, rfl, HA, hle⟩ := hrel
    by_cases hlt : k < 4
    · have hm := refRowMay0 (slV (vs k)) (s.at k) wr ((hr k hlt).le (hl.trans hle)) (hf k hlt)
      have c1 : wr.cell? ⟨w.heap.size, k, none⟩ = some (slV (vs k)) := ((hb.le hle).cell k).trans (cells4_at vs hlt)
      cases hh : rowMay1 (s.at k)
      · rw [hh] at hm
        go_wp2_with fail
        refine hm.mono ?_
        rintro e w1 ⟨rfl, l1⟩
        go_wp2
        go_ret
        exact ⟨ret_bool (St.all_not hlt hh).symm, (hl.trans hle).trans l1⟩
      · rw [hh] at hm
        go_wp2_with fail
        refine hm.mono ?_
        rintro e w1 ⟨rfl, l1⟩
        go_wp2
        go_roundw
        case rel => exact ⟨k + 1, by omega, by go_num, (fun j hj => by rcases Nat.lt_or_eq_of_le (Nat.le_of_lt_succ hj) with h | h; exact HA.out j h; exact h ▸ hh), hle.trans l1⟩
        case measure => simp [intOf]; omega
    · obtain rfl : k = 4 := by omega
      go_wp2
      go_ret
      exact ⟨ret_bool (St.all_of HA.out).symm, hl.trans hle⟩

set_option maxHeartbeats 400000 in
theorem refFirst (v : Value) (xs : List Int) (w : World) (hx : Has w v xs) :
    Calls Try.prog 27 #[v] w fun e w' => e = .returned (.int .i64 (firstS xs)) ∧ w = w' := by
  obtain ⟨a, cap, rfl, hc, _, hx⟩ := hx
  match xs, hc, hx with
  | [], hc, hx =>
    go_enter Try.func27, Try.ntmps27
    go_wp2
    go_ret
    exact ⟨rfl, rfl⟩
  | x :: zs, hc, hx =>
    obtain ⟨b, off, rfl, hcell⟩ := hx (by simp)
    have c0 : w.cell? ⟨b, off, none⟩ = some (.int .i64 x) := hcell 0 (by simp)
    simp only [List.length_cons] at hc ⊢
    have n0 : ¬ (((zs.length + 1 : Nat) : Int)) = 0 := by omega
    clear hx hcell
    go_enter Try.func27, Try.ntmps27
    go_wp2
    go_ret
    exact ⟨rfl, rfl⟩


set_option maxHeartbeats 400000 in
theorem refStoreRow0 (v : Value) (xs : List Int) (r a : Int) (w : World) (hx : Has w v xs) (base : Nat) (hbase : base ≤ w.heap.size) :
    Calls Try.prog 28 #[v, opV 0 r a] w fun e w' => ∃ q : Sl, e = .returned (.tuple #[slV q, .int .i64 (firstS xs)]) ∧ Own w' base (slV q) [a] ∧ Le w w' := by
  have hl := Le.alloc w (.cells #[.int .i64 0, .int .i64 r, .int .i64 a] 43)
  have hb := Box.new w #[.int .i64 0, .int .i64 r, .int .i64 a] 43
  have hfi := fun (w' : World) (h : Le w w') => refFirst v xs w' (hx.le h)
  go_enter Try.func28, Try.ntmps28
  go_wp2_with fail
  generalize hW : w.alloc (.cells #[.int .i64 0, .int .i64 r, .int .i64 a] 43) = W at hl hb ⊢
  have o2 := hb.op.2.2.1
  have hown : Own (W.alloc (.cells #[.int .i64 a] 3)) base (slV (some ⟨W.heap.size, 0, none⟩, 1, 1)) [a] := Own.lit W _ (Nat.le_trans hbase hl.size) [a] (by simp)
  clear hW hb
  go_region_held3 (fun w' => w'.cell? ⟨w.heap.size, 2, none⟩ = some (.int .i64 a)) (go_keep) (first | (go_at_call 27; refine (hfi _ (hl.trans (Le.drew _))).mono ?_; rintro e w1 ⟨rfl, rfl⟩) | (go_at_call 27; refine (hfi _ (hl.trans ((Le.alloc _ _).trans (Le.drew _)))).mono ?_; rintro e w1 ⟨rfl, rfl⟩))
  all_goals
    go_wp2_with fail
    refine bodyPost_ret (v := .tuple #[slV (some ⟨W.heap.size, 0, none⟩, 1, 1), .int .i64 (firstS xs)]) (by simp [results, Try.results28]) rfl ⟨_, rfl, hown.le (Le.drew _), hl.trans ((Le.alloc _ _).trans (Le.drew _))⟩

set_option maxHeartbeats 400000 in
theorem refStoreRow1 (v : Value) (xs : List Int) (r a : Int) (w : World) (hx : Has w v xs) :
    Calls Try.prog 28 #[v, opV 1 r a] w fun e w' => e = .returned (.tuple #[slV slZ, .int .i64 (firstS xs)]) ∧ Le w w' := by
  have hl := Le.alloc w (.cells #[.int .i64 1, .int .i64 r, .int .i64 a] 43)
  have hfi := fun (w' : World) (h : Le w w') => refFirst v xs w' (hx.le h)
  go_enter Try.func28, Try.ntmps28
  go_wp2_with (go_at_call 27; refine (hfi _ hl).mono ?_; rintro e w1 ⟨rfl, rfl⟩)
  refine bodyPost_ret (v := .tuple #[slV slZ, .int .i64 (firstS xs)]) (by simp [results, Try.results28]) rfl ⟨rfl, hl⟩

theorem refStoreRow1' (v : Value) (xs : List Int) (r a : Int) (w : World) (hx : Has w v xs) (base : Nat) :
    Calls Try.prog 28 #[v, opV 1 r a] w fun e w' => ∃ q : Sl, e = .returned (.tuple #[slV q, .int .i64 (firstS xs)]) ∧ Own w' base (slV q) [] ∧ Le w w' :=
  (refStoreRow1 v xs r a w hx).mono fun _ _ ⟨he, hl⟩ => ⟨slZ, he, Own.nil _ _, hl⟩

end Go.Proofs.Ytnpejgendmgfaaa

/-
  PLAIN GROUND, NO WALK: sums of numbers of rows that are short and of small numbers. No condition.
-/
namespace Go.Proofs.Ytnpejgendmgfaaa

/-- A row of at most four numbers, each from 0 to 255. -/
def Small (xs : List Int) : Prop := xs.length ≤ 4 ∧ ∀ x ∈ xs, 0 ≤ x ∧ x ≤ 255
/-- The sum of the first m numbers. -/
def sumOf (xs : List Int) (m : Nat) : Int := (xs.take m).sum

theorem sumOf_step {xs : List Int} {m : Nat} (h : m < xs.length) : sumOf xs (m + 1) = sumOf xs m + xs.getD m 0 := by
  unfold sumOf
  have e : xs.getD m 0 = xs[m] := by simp [List.getD, h]
  rw [List.take_succ_eq_append_getElem h, List.sum_append, e]
  simp only [List.sum_cons, List.sum_nil, Int.add_zero]
theorem sumOf_all (xs : List Int) : sumOf xs xs.length = xs.sum := by unfold sumOf; rw [List.take_length]
theorem Small.at {xs : List Int} (h : Small xs) {m : Nat} (hm : m < xs.length) : 0 ≤ xs.getD m 0 ∧ xs.getD m 0 ≤ 255 := by
  have := h.2 xs[m] (List.getElem_mem hm)
  simpa [List.getD, hm] using this
theorem Small.sum {xs : List Int} (h : Small xs) : ∀ m, m ≤ xs.length → 0 ≤ sumOf xs m ∧ sumOf xs m ≤ 255 * m
  | 0, _ => by simp [sumOf]
  | m + 1, hm => by
    have ih := h.sum m (by omega)
    have := h.at (m := m) (by omega)
    rw [sumOf_step (by omega)]
    omega
theorem sumTo_small {s : St} (h : ∀ k, k < 4 → Small (s.at k)) : ∀ k, k ≤ 4 → 0 ≤ sumTo s k ∧ sumTo s k ≤ 1020 * k
  | 0, _ => by simp [sumTo]
  | k + 1, hk => by
    have ih := sumTo_small h k (by omega)
    have h1 := (h k (by omega)).1
    have h2 := (h k (by omega)).sum (s.at k).length (Nat.le_refl _)
    rw [sumOf_all] at h2
    simp only [sumTo]
    omega

end Go.Proofs.Ytnpejgendmgfaaa

/-
  THE WALKS over the document's own Apply, at object 0: what it answers, for every state and operation. Condition: the state's rows can be copied.
-/
namespace Go.Proofs.Ytnpejgendmgfaaa
open Go.RowKit

theorem small1 {s : St} (hm : s.all rowMay1 = true) : ∀ k, k < 4 → Small (s.at k) := fun k hk => by
  rcases rowMay1_cases (St.all_at hm hk) with e | ⟨x, e, h0, h1⟩ <;> rw [e]
  · exact ⟨by simp, by simp⟩
  · exact ⟨by simp, by simp; omega⟩

set_option maxHeartbeats 2000000 in
theorem refStoreNo (v : Value) (s : St) (c r a er : Int) (w : World) (hx : HasS w v s) (hf : Fit s) (h : (s.all rowMay1 && opMay c r a) = false) :
    Calls Try.prog 20 #[.int .i64 0, v, opV c r a, .int .i64 er] w fun e w' => e = .returned (.tuple #[stZ, .int .i64 0, .int .i64 er]) ∧ Le w w' := by
  have hx0 := hx
  obtain ⟨vs, rfl, hr⟩ := hx
  have hl := ((Le.alloc w (.cells (cells4 vs) 25)).trans (Le.alloc _ (.cells #[.int .i64 c, .int .i64 r, .int .i64 a] 43))).trans (Le.alloc _ (.cells (cells4 fun _ => slZ) 25))
  have hb1 := ((Box.new w (cells4 vs) 25).le (Le.alloc _ (.cells #[.int .i64 c, .int .i64 r, .int .i64 a] 43))).le (Le.alloc _ (.cells (cells4 fun _ => slZ) 25))
  have hb2 := (Box.new (w.alloc (.cells (cells4 vs) 25)) #[.int .i64 c, .int .i64 r, .int .i64 a] 43).le (Le.alloc _ (.cells (cells4 fun _ => slZ) 25))
  have hb3 := Box.new ((w.alloc (.cells (cells4 vs) 25)).alloc (.cells #[.int .i64 c, .int .i64 r, .int .i64 a] 43)) (cells4 fun _ => slZ) 25
  simp only [World.size_alloc] at hb1 hb2 hb3
  have hmay := refStateMay0 (stV vs) s _ (hx0.le hl) hf
  cases hm : s.all rowMay1
  · rw [hm] at hmay
    go_enter Try.func20, Try.ntmps20
    go_wp2_with fail
    refine hmay.mono ?_
    rintro e w1 ⟨rfl, l1⟩
    obtain ⟨z0, z1, z2, z3, f0, f1, f2, f3⟩ := (hb3.le l1).st
    go_wp2_with fail
    refine bodyPost_ret (v := .tuple #[stZ, .int .i64 0, .int .i64 er]) (by simp [results, Try.results20, go_sem, z0, z1, z2, z3]) rfl ⟨rfl, ?_⟩
    exact (hl.trans l1).set4 (by omega) _ _ _ _
  · have hop : opMay c r a = false := by simpa [hm] using h
    rw [hm] at hmay
    go_enter Try.func20, Try.ntmps20
    go_wp2_with fail
    refine hmay.mono ?_
    rintro e w1 ⟨rfl, l1⟩
    obtain ⟨y0, y1, y2, _, _, _⟩ := (hb2.le l1).op
    go_wp2_with fail
    refine (refOperMay _ _ _ _).mono ?_
    rw [hop]
    rintro e w2 ⟨rfl, l2⟩
    obtain ⟨z0, z1, z2, z3, f0, f1, f2, f3⟩ := ((hb3.le l1).le l2).st
    go_wp2_with fail
    refine bodyPost_ret (v := .tuple #[stZ, .int .i64 0, .int .i64 er]) (by simp [results, Try.results20, go_sem, z0, z1, z2, z3]) rfl ⟨rfl, ?_⟩
    exact ((hl.trans l1).trans l2).set4 (by omega) _ _ _ _

set_option maxRecDepth 4000 in
set_option maxHeartbeats 4000000 in
theorem refStoreScan (v : Value) (s : St) (er : Int) (w : World) (hx : HasS w v s) (hf : Fit s) (hm : s.all rowMay1 = true) :
    Calls Try.prog 20 #[.int .i64 0, v, opV 3 0 0, .int .i64 er] w fun e w' => ∃ v', e = .returned (.tuple #[v', .int .i64 (sumTo s 4), .int .i64 0]) ∧ OwnS w' w.heap.size v' (s) ∧ Le w w' := by
  have hx0 := hx
  obtain ⟨vs, rfl, hr⟩ := hx
  have hl := ((Le.alloc w (.cells (cells4 vs) 25)).trans (Le.alloc _ (.cells #[.int .i64 3, .int .i64 0, .int .i64 0] 43))).trans (Le.alloc _ (.cells (cells4 fun _ => slZ) 25))
  have hb1 := ((Box.new w (cells4 vs) 25).le (Le.alloc _ (.cells #[.int .i64 3, .int .i64 0, .int .i64 0] 43))).le (Le.alloc _ (.cells (cells4 fun _ => slZ) 25))
  have hb2 := (Box.new (w.alloc (.cells (cells4 vs) 25)) #[.int .i64 3, .int .i64 0, .int .i64 0] 43).le (Le.alloc _ (.cells (cells4 fun _ => slZ) 25))
  have hb3 := Box.new ((w.alloc (.cells (cells4 vs) 25)).alloc (.cells #[.int .i64 3, .int .i64 0, .int .i64 0] 43)) (cells4 fun _ => slZ) 25
  simp only [World.size_alloc] at hb1 hb2 hb3
  have hmay := refStateMay0 (stV vs) s _ (hx0.le hl) hf
  rw [hm] at hmay
  have hop : opMay 3 0 0 = true := by decide
  have hsm := small1 hm
  go_enter Try.func20, Try.ntmps20
  go_wp2_with fail
  refine hmay.mono ?_
  rintro e w1 ⟨rfl, l1⟩
  obtain ⟨y0, y1, y2, _, _, _⟩ := (hb2.le l1).op
  clear hmay
  go_wp2_with fail
  refine (refOperMay _ _ _ _).mono ?_
  rw [hop]
  rintro e w2 ⟨rfl, l2⟩
  replace l1 := l1.trans l2
  clear l2 y0 y1 y2
  obtain ⟨y0, y1, y2, y3, _, _, _, _⟩ := (hb1.le l1).st
  go_wp2_with fail
  refine (refCopyState (stV vs) s _ (hx0.le (hl.trans l1)) hf).mono ?_
  rintro e w3 ⟨_, rfl, ⟨us, rfl, hown⟩, l3⟩
  replace hown := fun i hi => (hown i hi).base (base' := w.heap.size) (hl.trans l1).size
  replace l1 := l1.trans l3
  clear l3 y0 y1 y2 y3
  have n0 : w.heap.size + 1 + 1 < w3.heap.size := (hb3.le l1).lt
  have n1 : ¬ w.heap.size + 1 + 1 = w3.heap.size := by omega
  have n2 : ¬ w.heap.size + 1 + 1 = w.heap.size := by omega
  have n3 : ¬ w.heap.size + 1 + 1 = w.heap.size + 1 := by omega
  have hb4 := Box.new w3 (cells4 us) 25
  replace l1 := l1.trans (Le.alloc w3 (.cells (cells4 us) 25))
  replace hown := fun i hi => (hown i hi).le (Le.alloc w3 (.cells (cells4 us) 25))
  go_wp2_with fail
  generalize hW : w3.alloc (.cells (cells4 us) 25) = W at hb4 l1 hown ⊢
  clear hW
  go_loop [12, 13, 14] (fun t m i => ∃ j : Nat, j ≤ 4 ∧ i = .int .i64 j ∧ t = .int .i64 (sumTo s j) ∧ m = .int .i64 (manyTo s j)) (fun _ _ i => 4 - (intOf i).toNat)
  case atStart => exact ⟨0, by omega, rfl, rfl, rfl⟩
  case round =>
    obtain ⟨j, hj, rfl, rfl, rfl⟩ := hrel
    by_cases hlt : j < 4
    · have c1 : W.cell? ⟨w.heap.size, j, none⟩ = some (slV (vs j)) := ((hb1.le l1).cell j).trans (cells4_at vs hlt)
      obtain ⟨b0, b1⟩ := sumTo_small hsm j hj
      obtain ⟨b2, b3⟩ := manyTo_bounds (m := 4) (fun i hi => (hsm i hi).1) j hj
      obtain ⟨ad, cap, hv, hc, _, hcell⟩ := (hr j hlt).le (hl.trans l1)
      have hs : sumTo s (j + 1) = sumTo s j + sumOf (s.at j) (s.at j).length := by rw [sumOf_all]; rfl
      have hn : manyTo s (j + 1) = manyTo s j + (s.at j).length := rfl
      have hsj := hsm j hlt
      have hlj := hsj.1
      rw [hv] at c1
      obtain ⟨T, hT⟩ : ∃ T, T = sumTo s j := ⟨_, rfl⟩
      obtain ⟨M, hM⟩ : ∃ M, M = manyTo s j := ⟨_, rfl⟩
      obtain ⟨L, hL⟩ : ∃ L, L = (s.at j).length := ⟨_, rfl⟩
      rw [← hT] at b0 b1 hs ⊢
      rw [← hM] at b2 b3 hn ⊢
      rw [← hL] at c1 hc hcell hs hn hlj
      have HS : Hid (sumTo s (j + 1) = T + sumOf (s.at j) L) := hs
      have HN : Hid (manyTo s (j + 1) = M + L) := hn
      have HL : Hid (L = (s.at j).length) := hL
      clear hs hn hv hm hr hown hb1 hb2 hb3 hb4 hop n0 n1 n2 n3 hT hM hL hsm
      go_wp2
      go_loop [12, 15] (fun t i => ∃ m : Nat, m ≤ L ∧ i = .int .i64 m ∧ t = .int .i64 (T + sumOf (s.at j) m)) (fun _ i => L - (intOf i).toNat)
      case atStart => exact ⟨0, by omega, rfl, by simp [sumOf]⟩
      case round =>
        obtain ⟨m, hmL, rfl, rfl⟩ := hrel
        obtain ⟨d0, d1⟩ := hsj.sum m (by rw [← HL.out]; exact hmL)
        by_cases hlt2 : m < L
        · obtain ⟨b, off, rfl, hcl⟩ := hcell (by omega)
          have c2 := hcl m hlt2
          have hst := sumOf_step (xs := s.at j) (m := m) (by rw [← HL.out]; exact hlt2)
          obtain ⟨d2, d3⟩ := hsj.at (m := m) (by rw [← HL.out]; exact hlt2)
          obtain ⟨x, hx⟩ : ∃ x, x = (s.at j).getD m 0 := ⟨_, rfl⟩
          rw [← hx] at c2 hst d2 d3
          obtain ⟨t, ht⟩ : ∃ t, t = sumOf (s.at j) m := ⟨_, rfl⟩
          rw [← ht] at hst d0 d1 ⊢
          have HT : Hid (sumOf (s.at j) (m + 1) = t + x) := hst
          have m0 : (0 : Int) ≤ (m : Int) := by omega
          have m1 : (m : Int) < (L : Int) := by omega
          clear hst ht hx hcl hcell hsj
          go_wp2
          go_round
          case rel => exact ⟨m + 1, by omega, by go_num, by rw [HT.out, Int.add_assoc]⟩
          case measure => simp [intOf]; omega
        · obtain rfl : m = L := by omega
          clear hcell hsj
          go_wp2
          go_round
          case rel => exact ⟨j + 1, by omega, by go_num, by rw [HS.out], by rw [HN.out]⟩
          case measure => simp [intOf]; omega
    · obtain rfl : j = 4 := by omega
      clear hlt hj
      obtain ⟨y0, y1, y2, y3, _, _, _, _⟩ := hb4.st
      obtain ⟨z0, z1, z2, z3, f0, f1, f2, f3⟩ := (hb3.le l1).st
      obtain ⟨o0, o1, o2, _, _, _⟩ := (hb2.le l1).op
      go_wp2_with fail
      refine bodyPost_ret (v := .tuple #[stV us, .int .i64 (sumTo s 4), .int .i64 0]) (by simp [results, Try.results20, go_sem, z0, z1, z2, z3]) rfl ⟨_, rfl, ⟨us, rfl, fun i hi => ?_⟩, ?_⟩
      · exact (hown i hi).set4 (hb3.le l1) (by decide) _ _ _ _
      · exact (hl.trans l1).set4 (by omega) _ _ _ _

set_option maxRecDepth 4000 in
set_option maxHeartbeats 4000000 in
theorem refStoreLook (v : Value) (s : St) (k : Nat) (er : Int) (w : World) (hx : HasS w v s) (hf : Fit s) (hm : s.all rowMay1 = true) (hk : k < 4) :
    Calls Try.prog 20 #[.int .i64 0, v, opV 2 k 0, .int .i64 er] w fun e w' => ∃ v', e = .returned (.tuple #[v', .int .i64 (firstS (s.at k)), .int .i64 0]) ∧ OwnS w' w.heap.size v' (s) ∧ Le w w' := by
  have hx0 := hx
  obtain ⟨vs, rfl, hr⟩ := hx
  have hl := ((Le.alloc w (.cells (cells4 vs) 25)).trans (Le.alloc _ (.cells #[.int .i64 2, .int .i64 k, .int .i64 0] 43))).trans (Le.alloc _ (.cells (cells4 fun _ => slZ) 25))
  have hb1 := ((Box.new w (cells4 vs) 25).le (Le.alloc _ (.cells #[.int .i64 2, .int .i64 k, .int .i64 0] 43))).le (Le.alloc _ (.cells (cells4 fun _ => slZ) 25))
  have hb2 := (Box.new (w.alloc (.cells (cells4 vs) 25)) #[.int .i64 2, .int .i64 k, .int .i64 0] 43).le (Le.alloc _ (.cells (cells4 fun _ => slZ) 25))
  have hb3 := Box.new ((w.alloc (.cells (cells4 vs) 25)).alloc (.cells #[.int .i64 2, .int .i64 k, .int .i64 0] 43)) (cells4 fun _ => slZ) 25
  simp only [World.size_alloc] at hb1 hb2 hb3
  have hmay := refStateMay0 (stV vs) s _ (hx0.le hl) hf
  rw [hm] at hmay
  have hop : opMay 2 k 0 = true := by simp [opMay]; omega
  have hsm := small1 hm
  go_enter Try.func20, Try.ntmps20
  go_wp2_with fail
  refine hmay.mono ?_
  rintro e w1 ⟨rfl, l1⟩
  obtain ⟨y0, y1, y2, _, _, _⟩ := (hb2.le l1).op
  clear hmay
  go_wp2_with fail
  refine (refOperMay _ _ _ _).mono ?_
  rw [hop]
  rintro e w2 ⟨rfl, l2⟩
  replace l1 := l1.trans l2
  clear l2 y0 y1 y2
  obtain ⟨y0, y1, y2, y3, _, _, _, _⟩ := (hb1.le l1).st
  go_wp2_with fail
  refine (refCopyState (stV vs) s _ (hx0.le (hl.trans l1)) hf).mono ?_
  rintro e w3 ⟨_, rfl, ⟨us, rfl, hown⟩, l3⟩
  replace hown := fun i hi => (hown i hi).base (base' := w.heap.size) (hl.trans l1).size
  replace l1 := l1.trans l3
  clear l3 y0 y1 y2 y3
  have n0 : w.heap.size + 1 + 1 < w3.heap.size := (hb3.le l1).lt
  have n1 : ¬ w.heap.size + 1 + 1 = w3.heap.size := by omega
  have n2 : ¬ w.heap.size + 1 + 1 = w.heap.size := by omega
  have n3 : ¬ w.heap.size + 1 + 1 = w.heap.size + 1 := by omega
  have hb4 := Box.new w3 (cells4 us) 25
  replace l1 := l1.trans (Le.alloc w3 (.cells (cells4 us) 25))
  replace hown := fun i hi => (hown i hi).le (Le.alloc w3 (.cells (cells4 us) 25))
  go_wp2_with fail
  generalize hW : w3.alloc (.cells (cells4 us) 25) = W at hb4 l1 hown ⊢
  clear hW
  go_loop [12, 13, 14] (fun t m i => ∃ j : Nat, j ≤ 4 ∧ i = .int .i64 j ∧ t = .int .i64 (sumTo s j) ∧ m = .int .i64 (manyTo s j)) (fun _ _ i => 4 - (intOf i).toNat)
  case atStart => exact ⟨0, by omega, rfl, rfl, rfl⟩
  case round =>
    obtain ⟨j, hj, rfl, rfl, rfl⟩ := hrel
    by_cases hlt : j < 4
    · have c1 : W.cell? ⟨w.heap.size, j, none⟩ = some (slV (vs j)) := ((hb1.le l1).cell j).trans (cells4_at vs hlt)
      obtain ⟨b0, b1⟩ := sumTo_small hsm j hj
      obtain ⟨b2, b3⟩ := manyTo_bounds (m := 4) (fun i hi => (hsm i hi).1) j hj
      obtain ⟨ad, cap, hv, hc, _, hcell⟩ := (hr j hlt).le (hl.trans l1)
      have hs : sumTo s (j + 1) = sumTo s j + sumOf (s.at j) (s.at j).length := by rw [sumOf_all]; rfl
      have hn : manyTo s (j + 1) = manyTo s j + (s.at j).length := rfl
      have hsj := hsm j hlt
      have hlj := hsj.1
      rw [hv] at c1
      obtain ⟨T, hT⟩ : ∃ T, T = sumTo s j := ⟨_, rfl⟩
      obtain ⟨M, hM⟩ : ∃ M, M = manyTo s j := ⟨_, rfl⟩
      obtain ⟨L, hL⟩ : ∃ L, L = (s.at j).length := ⟨_, rfl⟩
      rw [← hT] at b0 b1 hs ⊢
      rw [← hM] at b2 b3 hn ⊢
      rw [← hL] at c1 hc hcell hs hn hlj
      have HS : Hid (sumTo s (j + 1) = T + sumOf (s.at j) L) := hs
      have HN : Hid (manyTo s (j + 1) = M + L) := hn
      have HL : Hid (L = (s.at j).length) := hL
      clear hs hn hv hm hr hown hb1 hb2 hb3 hb4 hop n0 n1 n2 n3 hT hM hL hsm
      go_wp2
      go_loop [12, 15] (fun t i => ∃ m : Nat, m ≤ L ∧ i = .int .i64 m ∧ t = .int .i64 (T + sumOf (s.at j) m)) (fun _ i => L - (intOf i).toNat)
      case atStart => exact ⟨0, by omega, rfl, by simp [sumOf]⟩
      case round =>
        obtain ⟨m, hmL, rfl, rfl⟩ := hrel
        obtain ⟨d0, d1⟩ := hsj.sum m (by rw [← HL.out]; exact hmL)
        by_cases hlt2 : m < L
        · obtain ⟨b, off, rfl, hcl⟩ := hcell (by omega)
          have c2 := hcl m hlt2
          have hst := sumOf_step (xs := s.at j) (m := m) (by rw [← HL.out]; exact hlt2)
          obtain ⟨d2, d3⟩ := hsj.at (m := m) (by rw [← HL.out]; exact hlt2)
          obtain ⟨x, hx⟩ : ∃ x, x = (s.at j).getD m 0 := ⟨_, rfl⟩
          rw [← hx] at c2 hst d2 d3
          obtain ⟨t, ht⟩ : ∃ t, t = sumOf (s.at j) m := ⟨_, rfl⟩
          rw [← ht] at hst d0 d1 ⊢
          have HT : Hid (sumOf (s.at j) (m + 1) = t + x) := hst
          have m0 : (0 : Int) ≤ (m : Int) := by omega
          have m1 : (m : Int) < (L : Int) := by omega
          clear hst ht hx hcl hcell hsj
          go_wp2
          go_round
          case rel => exact ⟨m + 1, by omega, by go_num, by rw [HT.out, Int.add_assoc]⟩
          case measure => simp [intOf]; omega
        · obtain rfl : m = L := by omega
          clear hcell hsj
          go_wp2
          go_round
          case rel => exact ⟨j + 1, by omega, by go_num, by rw [HS.out], by rw [HN.out]⟩
          case measure => simp [intOf]; omega
    · obtain rfl : j = 4 := by omega
      clear hlt hj
      obtain ⟨y0, y1, y2, y3, _, _, _, _⟩ := hb4.st
      obtain ⟨z0, z1, z2, z3, f0, f1, f2, f3⟩ := (hb3.le l1).st
      obtain ⟨o0, o1, o2, _, _, _⟩ := (hb2.le l1).op
      have k0 : (0 : Int) ≤ (k : Int) := by omega
      have k1 : (k : Int) < 4 := by omega
      have yk : W.cell? ⟨w3.heap.size, k, none⟩ = some (slV (us k)) := (hb4.cell k).trans (cells4_at us hk)
      have hfi := refFirst (slV (us k)) (s.at k) W.drew ((hown k hk).has.le (Le.drew _))
      go_wp2_with fail
      go_region_held3 (fun w' => w'.cell? ⟨w3.heap.size, 0, none⟩ = some (slV (us 0)) ∧ w'.cell? ⟨w3.heap.size, 1, none⟩ = some (slV (us 1)) ∧ w'.cell? ⟨w3.heap.size, 2, none⟩ = some (slV (us 2)) ∧ w'.cell? ⟨w3.heap.size, 3, none⟩ = some (slV (us 3))) (go_keep) ((go_at_call 27; refine hfi.mono ?_; rintro e w4 ⟨rfl, rfl⟩))
      all_goals
        go_wp2_with fail
        refine bodyPost_ret (v := .tuple #[stV us, .int .i64 (firstS (s.at k)), .int .i64 0]) (by simp [results, Try.results20, go_sem, z0, z1, z2, z3]) rfl ⟨_, rfl, ⟨us, rfl, fun i hi => ?_⟩, ?_⟩
        · exact ((hown i hi).le (Le.drew _)).set4 (hb3.le (l1.trans (Le.drew _))) (by decide) _ _ _ _
        · exact ((hl.trans l1).trans (Le.drew _)).set4 (by omega) _ _ _ _

set_option maxRecDepth 4000 in
set_option maxHeartbeats 4000000 in
theorem refStoreFirst (v : Value) (s : St) (k : Nat) (a : Int) (er : Int) (w : World) (hx : HasS w v s) (hf : Fit s) (hm : s.all rowMay1 = true) (hk : k < 4) (ha : 0 ≤ a ∧ a ≤ 255) :
    Calls Try.prog 20 #[.int .i64 0, v, opV 0 k a, .int .i64 er] w fun e w' => ∃ v', e = .returned (.tuple #[v', .int .i64 (firstS (s.at k)), .int .i64 0]) ∧ OwnS w' w.heap.size v' (s.put k [a]) ∧ Le w w' := by
  have hx0 := hx
  obtain ⟨vs, rfl, hr⟩ := hx
  have hl := ((Le.alloc w (.cells (cells4 vs) 25)).trans (Le.alloc _ (.cells #[.int .i64 0, .int .i64 k, .int .i64 a] 43))).trans (Le.alloc _ (.cells (cells4 fun _ => slZ) 25))
  have hb1 := ((Box.new w (cells4 vs) 25).le (Le.alloc _ (.cells #[.int .i64 0, .int .i64 k, .int .i64 a] 43))).le (Le.alloc _ (.cells (cells4 fun _ => slZ) 25))
  have hb2 := (Box.new (w.alloc (.cells (cells4 vs) 25)) #[.int .i64 0, .int .i64 k, .int .i64 a] 43).le (Le.alloc _ (.cells (cells4 fun _ => slZ) 25))
  have hb3 := Box.new ((w.alloc (.cells (cells4 vs) 25)).alloc (.cells #[.int .i64 0, .int .i64 k, .int .i64 a] 43)) (cells4 fun _ => slZ) 25
  simp only [World.size_alloc] at hb1 hb2 hb3
  have hmay := refStateMay0 (stV vs) s _ (hx0.le hl) hf
  rw [hm] at hmay
  have hop : opMay 0 k a = true := by simp [opMay]; omega
  have hsm := small1 hm
  go_enter Try.func20, Try.ntmps20
  go_wp2_with fail
  refine hmay.mono ?_
  rintro e w1 ⟨rfl, l1⟩
  obtain ⟨y0, y1, y2, _, _, _⟩ := (hb2.le l1).op
  clear hmay
  go_wp2_with fail
  refine (refOperMay _ _ _ _).mono ?_
  rw [hop]
  rintro e w2 ⟨rfl, l2⟩
  replace l1 := l1.trans l2
  clear l2 y0 y1 y2
  obtain ⟨y0, y1, y2, y3, _, _, _, _⟩ := (hb1.le l1).st
  go_wp2_with fail
  refine (refCopyState (stV vs) s _ (hx0.le (hl.trans l1)) hf).mono ?_
  rintro e w3 ⟨_, rfl, ⟨us, rfl, hown⟩, l3⟩
  replace hown := fun i hi => (hown i hi).base (base' := w.heap.size) (hl.trans l1).size
  replace l1 := l1.trans l3
  clear l3 y0 y1 y2 y3
  have n0 : w.heap.size + 1 + 1 < w3.heap.size := (hb3.le l1).lt
  have n1 : ¬ w.heap.size + 1 + 1 = w3.heap.size := by omega
  have n2 : ¬ w.heap.size + 1 + 1 = w.heap.size := by omega
  have n3 : ¬ w.heap.size + 1 + 1 = w.heap.size + 1 := by omega
  have hb4 := Box.new w3 (cells4 us) 25
  replace l1 := l1.trans (Le.alloc w3 (.cells (cells4 us) 25))
  replace hown := fun i hi => (hown i hi).le (Le.alloc w3 (.cells (cells4 us) 25))
  go_wp2_with fail
  generalize hW : w3.alloc (.cells (cells4 us) 25) = W at hb4 l1 hown ⊢
  clear hW
  go_loop [12, 13, 14] (fun t m i => ∃ j : Nat, j ≤ 4 ∧ i = .int .i64 j ∧ t = .int .i64 (sumTo s j) ∧ m = .int .i64 (manyTo s j)) (fun _ _ i => 4 - (intOf i).toNat)
  case atStart => exact ⟨0, by omega, rfl, rfl, rfl⟩
  case round =>
    obtain ⟨j, hj, rfl, rfl, rfl⟩ := hrel
    by_cases hlt : j < 4
    · have c1 : W.cell? ⟨w.heap.size, j, none⟩ = some (slV (vs j)) := ((hb1.le l1).cell j).trans (cells4_at vs hlt)
      obtain ⟨b0, b1⟩ := sumTo_small hsm j hj
      obtain ⟨b2, b3⟩ := manyTo_bounds (m := 4) (fun i hi => (hsm i hi).1) j hj
      obtain ⟨ad, cap, hv, hc, _, hcell⟩ := (hr j hlt).le (hl.trans l1)
      have hs : sumTo s (j + 1) = sumTo s j + sumOf (s.at j) (s.at j).length := by rw [sumOf_all]; rfl
      have hn : manyTo s (j + 1) = manyTo s j + (s.at j).length := rfl
      have hsj := hsm j hlt
      have hlj := hsj.1
      rw [hv] at c1
      obtain ⟨T, hT⟩ : ∃ T, T = sumTo s j := ⟨_, rfl⟩
      obtain ⟨M, hM⟩ : ∃ M, M = manyTo s j := ⟨_, rfl⟩
      obtain ⟨L, hL⟩ : ∃ L, L = (s.at j).length := ⟨_, rfl⟩
      rw [← hT] at b0 b1 hs ⊢
      rw [← hM] at b2 b3 hn ⊢
      rw [← hL] at c1 hc hcell hs hn hlj
      have HS : Hid (sumTo s (j + 1) = T + sumOf (s.at j) L) := hs
      have HN : Hid (manyTo s (j + 1) = M + L) := hn
      have HL : Hid (L = (s.at j).length) := hL
      clear hs hn hv hm hr hown hb1 hb2 hb3 hb4 hop n0 n1 n2 n3 hT hM hL hsm
      go_wp2
      go_loop [12, 15] (fun t i => ∃ m : Nat, m ≤ L ∧ i = .int .i64 m ∧ t = .int .i64 (T + sumOf (s.at j) m)) (fun _ i => L - (intOf i).toNat)
      case atStart => exact ⟨0, by omega, rfl, by simp [sumOf]⟩
      case round =>
        obtain ⟨m, hmL, rfl, rfl⟩ := hrel
        obtain ⟨d0, d1⟩ := hsj.sum m (by rw [← HL.out]; exact hmL)
        by_cases hlt2 : m < L
        · obtain ⟨b, off, rfl, hcl⟩ := hcell (by omega)
          have c2 := hcl m hlt2
          have hst := sumOf_step (xs := s.at j) (m := m) (by rw [← HL.out]; exact hlt2)
          obtain ⟨d2, d3⟩ := hsj.at (m := m) (by rw [← HL.out]; exact hlt2)
          obtain ⟨x, hx⟩ : ∃ x, x = (s.at j).getD m 0 := ⟨_, rfl⟩
          rw [← hx] at c2 hst d2 d3
          obtain ⟨t, ht⟩ : ∃ t, t = sumOf (s.at j) m := ⟨_, rfl⟩
          rw [← ht] at hst d0 d1 ⊢
          have HT : Hid (sumOf (s.at j) (m + 1) = t + x) := hst
          have m0 : (0 : Int) ≤ (m : Int) := by omega
          have m1 : (m : Int) < (L : Int) := by omega
          clear hst ht hx hcl hcell hsj
          go_wp2
          go_round
          case rel => exact ⟨m + 1, by omega, by go_num, by rw [HT.out, Int.add_assoc]⟩
          case measure => simp [intOf]; omega
        · obtain rfl : m = L := by omega
          clear hcell hsj
          go_wp2
          go_round
          case rel => exact ⟨j + 1, by omega, by go_num, by rw [HS.out], by rw [HN.out]⟩
          case measure => simp [intOf]; omega
    · obtain rfl : j = 4 := by omega
      clear hlt hj
      have k0 : (0 : Int) ≤ (k : Int) := by omega
      have k1 : (k : Int) < 4 := by omega
      have yk : W.cell? ⟨w3.heap.size, k, none⟩ = some (slV (us k)) := (hb4.cell k).trans (cells4_at us hk)
      obtain ⟨o0, o1, o2, _, _, _⟩ := (hb2.le l1).op
      have hrow := refStoreRow0 (slV (us k)) (s.at k) k a W (hown k hk).has w.heap.size (hl.trans l1).size
      go_wp2_with fail
      refine hrow.mono ?_
      rintro e w4 ⟨q, rfl, hnew, l4⟩
      clear o0 o1 o2 yk hrow
      replace l1 := l1.trans l4
      replace hb4 := hb4.le l4
      replace hown := fun i hi => (hown i hi).le l4
      have yk : w4.cell? ⟨w3.heap.size, k, none⟩ = some (slV (us k)) := (hb4.cell k).trans (cells4_at us hk)
      have yf := hb4.frozen k
      obtain ⟨o0, o1, o2, _, _, _⟩ := (hb2.le l1).op
      go_upto_region 30 with fail
      replace hown := fun i hi => (hown i hi).setBox (i := k) (u := slV q) hb4 (by decide)
      replace hnew := hnew.setBox (i := k) (u := slV q) hb4 (by decide)
      replace hb4 := hb4.set k (slV q)
      rw [cells4_upd us hk] at hb4
      replace l1 : Le _ (w4.setCell ⟨w3.heap.size, k, none⟩ (slV q)) := Below.setCell l1 (by simp only [World.size_alloc]; show w.heap.size + 1 + 1 + 1 ≤ w3.heap.size; omega) _
      clear o0 o1 o2 yk yf
      generalize hW2 : w4.setCell ⟨w3.heap.size, k, none⟩ (slV q) = W2 at hb4 l1 hown hnew ⊢
      replace hown : ∀ i, i < 4 → Own W2 w.heap.size (slV (upd us k q i)) ((s.put k [a]).at i) := by
        intro i hi
        rw [St.at_put hk hi]
        by_cases e : i = k
        · rw [if_pos e, show upd us k q i = q by simp [upd, e]]; exact hnew
        · rw [if_neg e, show upd us k q i = us i by simp [upd, e]]; exact hown i hi
      generalize upd us k q = us at hb4 hown
      clear hW2 hnew
      obtain ⟨y0, y1, y2, y3, _, _, _, _⟩ := hb4.st
      obtain ⟨z0, z1, z2, z3, f0, f1, f2, f3⟩ := (hb3.le l1).st
      go_wp2_with fail
      refine bodyPost_ret (v := .tuple #[stV us, .int .i64 (firstS (s.at k)), .int .i64 0]) (by simp [results, Try.results20, go_sem, z0, z1, z2, z3]) rfl ⟨_, rfl, ⟨us, rfl, fun i hi => ?_⟩, ?_⟩
      · exact (hown i hi).set4 (hb3.le l1) (by decide) _ _ _ _
      · exact (hl.trans l1).set4 (by omega) _ _ _ _

set_option maxRecDepth 4000 in
set_option maxHeartbeats 4000000 in
theorem refStoreSecond (v : Value) (s : St) (k : Nat) (a : Int) (er : Int) (w : World) (hx : HasS w v s) (hf : Fit s) (hm : s.all rowMay1 = true) (hk : k < 4) (ha : 0 ≤ a ∧ a ≤ 255) :
    Calls Try.prog 20 #[.int .i64 0, v, opV 1 k a, .int .i64 er] w fun e w' => ∃ v', e = .returned (.tuple #[v', .int .i64 (firstS (s.at k)), .int .i64 0]) ∧ OwnS w' w.heap.size v' (s.put k []) ∧ Le w w' := by
  have hx0 := hx
  obtain ⟨vs, rfl, hr⟩ := hx
  have hl := ((Le.alloc w (.cells (cells4 vs) 25)).trans (Le.alloc _ (.cells #[.int .i64 1, .int .i64 k, .int .i64 a] 43))).trans (Le.alloc _ (.cells (cells4 fun _ => slZ) 25))
  have hb1 := ((Box.new w (cells4 vs) 25).le (Le.alloc _ (.cells #[.int .i64 1, .int .i64 k, .int .i64 a] 43))).le (Le.alloc _ (.cells (cells4 fun _ => slZ) 25))
  have hb2 := (Box.new (w.alloc (.cells (cells4 vs) 25)) #[.int .i64 1, .int .i64 k, .int .i64 a] 43).le (Le.alloc _ (.cells (cells4 fun _ => slZ) 25))
  have hb3 := Box.new ((w.alloc (.cells (cells4 vs) 25)).alloc (.cells #[.int .i64 1, .int .i64 k, .int .i64 a] 43)) (cells4 fun _ => slZ) 25
  simp only [World.size_alloc] at hb1 hb2 hb3
  have hmay := refStateMay0 (stV vs) s _ (hx0.le hl) hf
  rw [hm] at hmay
  have hop : opMay 1 k a = true := by simp [opMay]; omega
  have hsm := small1 hm
  go_enter Try.func20, Try.ntmps20
  go_wp2_with fail
  refine hmay.mono ?_
  rintro e w1 ⟨rfl, l1⟩
  obtain ⟨y0, y1, y2, _, _, _⟩ := (hb2.le l1).op
  clear hmay
  go_wp2_with fail
  refine (refOperMay _ _ _ _).mono ?_
  rw [hop]
  rintro e w2 ⟨rfl, l2⟩
  replace l1 := l1.trans l2
  clear l2 y0 y1 y2
  obtain ⟨y0, y1, y2, y3, _, _, _, _⟩ := (hb1.le l1).st
  go_wp2_with fail
  refine (refCopyState (stV vs) s _ (hx0.le (hl.trans l1)) hf).mono ?_
  rintro e w3 ⟨_, rfl, ⟨us, rfl, hown⟩, l3⟩
  replace hown := fun i hi => (hown i hi).base (base' := w.heap.size) (hl.trans l1).size
  replace l1 := l1.trans l3
  clear l3 y0 y1 y2 y3
  have n0 : w.heap.size + 1 + 1 < w3.heap.size := (hb3.le l1).lt
  have n1 : ¬ w.heap.size + 1 + 1 = w3.heap.size := by omega
  have n2 : ¬ w.heap.size + 1 + 1 = w.heap.size := by omega
  have n3 : ¬ w.heap.size + 1 + 1 = w.heap.size + 1 := by omega
  have hb4 := Box.new w3 (cells4 us) 25
  replace l1 := l1.trans (Le.alloc w3 (.cells (cells4 us) 25))
  replace hown := fun i hi => (hown i hi).le (Le.alloc w3 (.cells (cells4 us) 25))
  go_wp2_with fail
  generalize hW : w3.alloc (.cells (cells4 us) 25) = W at hb4 l1 hown ⊢
  clear hW
  go_loop [12, 13, 14] (fun t m i => ∃ j : Nat, j ≤ 4 ∧ i = .int .i64 j ∧ t = .int .i64 (sumTo s j) ∧ m = .int .i64 (manyTo s j)) (fun _ _ i => 4 - (intOf i).toNat)
  case atStart => exact ⟨0, by omega, rfl, rfl, rfl⟩
  case round =>
    obtain ⟨j, hj, rfl, rfl, rfl⟩ := hrel
    by_cases hlt : j < 4
    · have c1 : W.cell? ⟨w.heap.size, j, none⟩ = some (slV (vs j)) := ((hb1.le l1).cell j).trans (cells4_at vs hlt)
      obtain ⟨b0, b1⟩ := sumTo_small hsm j hj
      obtain ⟨b2, b3⟩ := manyTo_bounds (m := 4) (fun i hi => (hsm i hi).1) j hj
      obtain ⟨ad, cap, hv, hc, _, hcell⟩ := (hr j hlt).le (hl.trans l1)
      have hs : sumTo s (j + 1) = sumTo s j + sumOf (s.at j) (s.at j).length := by rw [sumOf_all]; rfl
      have hn : manyTo s (j + 1) = manyTo s j + (s.at j).length := rfl
      have hsj := hsm j hlt
      have hlj := hsj.1
      rw [hv] at c1
      obtain ⟨T, hT⟩ : ∃ T, T = sumTo s j := ⟨_, rfl⟩
      obtain ⟨M, hM⟩ : ∃ M, M = manyTo s j := ⟨_, rfl⟩
      obtain ⟨L, hL⟩ : ∃ L, L = (s.at j).length := ⟨_, rfl⟩
      rw [← hT] at b0 b1 hs ⊢
      rw [← hM] at b2 b3 hn ⊢
      rw [← hL] at c1 hc hcell hs hn hlj
      have HS : Hid (sumTo s (j + 1) = T + sumOf (s.at j) L) := hs
      have HN : Hid (manyTo s (j + 1) = M + L) := hn
      have HL : Hid (L = (s.at j).length) := hL
      clear hs hn hv hm hr hown hb1 hb2 hb3 hb4 hop n0 n1 n2 n3 hT hM hL hsm
      go_wp2
      go_loop [12, 15] (fun t i => ∃ m : Nat, m ≤ L ∧ i = .int .i64 m ∧ t = .int .i64 (T + sumOf (s.at j) m)) (fun _ i => L - (intOf i).toNat)
      case atStart => exact ⟨0, by omega, rfl, by simp [sumOf]⟩
      case round =>
        obtain ⟨m, hmL, rfl, rfl⟩ := hrel
        obtain ⟨d0, d1⟩ := hsj.sum m (by rw [← HL.out]; exact hmL)
        by_cases hlt2 : m < L
        · obtain ⟨b, off, rfl, hcl⟩ := hcell (by omega)
          have c2 := hcl m hlt2
          have hst := sumOf_step (xs := s.at j) (m := m) (by rw [← HL.out]; exact hlt2)
          obtain ⟨d2, d3⟩ := hsj.at (m := m) (by rw [← HL.out]; exact hlt2)
          obtain ⟨x, hx⟩ : ∃ x, x = (s.at j).getD m 0 := ⟨_, rfl⟩
          rw [← hx] at c2 hst d2 d3
          obtain ⟨t, ht⟩ : ∃ t, t = sumOf (s.at j) m := ⟨_, rfl⟩
          rw [← ht] at hst d0 d1 ⊢
          have HT : Hid (sumOf (s.at j) (m + 1) = t + x) := hst
          have m0 : (0 : Int) ≤ (m : Int) := by omega
          have m1 : (m : Int) < (L : Int) := by omega
          clear hst ht hx hcl hcell hsj
          go_wp2
          go_round
          case rel => exact ⟨m + 1, by omega, by go_num, by rw [HT.out, Int.add_assoc]⟩
          case measure => simp [intOf]; omega
        · obtain rfl : m = L := by omega
          clear hcell hsj
          go_wp2
          go_round
          case rel => exact ⟨j + 1, by omega, by go_num, by rw [HS.out], by rw [HN.out]⟩
          case measure => simp [intOf]; omega
    · obtain rfl : j = 4 := by omega
      clear hlt hj
      have k0 : (0 : Int) ≤ (k : Int) := by omega
      have k1 : (k : Int) < 4 := by omega
      have yk : W.cell? ⟨w3.heap.size, k, none⟩ = some (slV (us k)) := (hb4.cell k).trans (cells4_at us hk)
      obtain ⟨o0, o1, o2, _, _, _⟩ := (hb2.le l1).op
      have hrow := refStoreRow1' (slV (us k)) (s.at k) k a W (hown k hk).has w.heap.size
      go_wp2_with fail
      refine hrow.mono ?_
      rintro e w4 ⟨q, rfl, hnew, l4⟩
      clear o0 o1 o2 yk hrow
      replace l1 := l1.trans l4
      replace hb4 := hb4.le l4
      replace hown := fun i hi => (hown i hi).le l4
      have yk : w4.cell? ⟨w3.heap.size, k, none⟩ = some (slV (us k)) := (hb4.cell k).trans (cells4_at us hk)
      have yf := hb4.frozen k
      obtain ⟨o0, o1, o2, _, _, _⟩ := (hb2.le l1).op
      go_upto_region 30 with fail
      replace hown := fun i hi => (hown i hi).setBox (i := k) (u := slV q) hb4 (by decide)
      replace hnew := hnew.setBox (i := k) (u := slV q) hb4 (by decide)
      replace hb4 := hb4.set k (slV q)
      rw [cells4_upd us hk] at hb4
      replace l1 : Le _ (w4.setCell ⟨w3.heap.size, k, none⟩ (slV q)) := Below.setCell l1 (by simp only [World.size_alloc]; show w.heap.size + 1 + 1 + 1 ≤ w3.heap.size; omega) _
      clear o0 o1 o2 yk yf
      generalize hW2 : w4.setCell ⟨w3.heap.size, k, none⟩ (slV q) = W2 at hb4 l1 hown hnew ⊢
      replace hown : ∀ i, i < 4 → Own W2 w.heap.size (slV (upd us k q i)) ((s.put k []).at i) := by
        intro i hi
        rw [St.at_put hk hi]
        by_cases e : i = k
        · rw [if_pos e, show upd us k q i = q by simp [upd, e]]; exact hnew
        · rw [if_neg e, show upd us k q i = us i by simp [upd, e]]; exact hown i hi
      generalize upd us k q = us at hb4 hown
      clear hW2 hnew
      obtain ⟨y0, y1, y2, y3, _, _, _, _⟩ := hb4.st
      obtain ⟨z0, z1, z2, z3, f0, f1, f2, f3⟩ := (hb3.le l1).st
      go_wp2_with fail
      refine bodyPost_ret (v := .tuple #[stV us, .int .i64 (firstS (s.at k)), .int .i64 0]) (by simp [results, Try.results20, go_sem, z0, z1, z2, z3]) rfl ⟨_, rfl, ⟨us, rfl, fun i hi => ?_⟩, ?_⟩
      · exact (hown i hi).set4 (hb3.le l1) (by decide) _ _ _ _
      · exact (hl.trans l1).set4 (by omega) _ _ _ _

theorem refStore (v : Value) (s : St) (c r a er : Int) (w : World) (hx : HasS w v s) (hf : Fit s) :
    Calls Try.prog 20 #[.int .i64 0, v, opV c r a, .int .i64 er] w fun e w' => ∃ v', e = .returned (.tuple #[v', .int .i64 (stoS s c r a er).2.1, .int .i64 (stoS s c r a er).2.2]) ∧ OwnS w' w.heap.size v' (stoS s c r a er).1 ∧ Le w w' := by
  cases h : s.all rowMay1 && opMay c r a
  · rw [stoS_no h]
    exact (refStoreNo v s c r a er w hx hf h).mono fun e w' ⟨he, hl⟩ => ⟨stZ, he, OwnS.zero _ _, hl⟩
  · obtain ⟨hm, ho⟩ := Bool.and_eq_true_iff.mp h
    rcases opMay_cases ho with ⟨k, hk, rfl, rfl, ha⟩ | ⟨k, hk, rfl, rfl, ha⟩ | ⟨k, hk, rfl, rfl, rfl⟩ | ⟨rfl, rfl, rfl⟩
    · rw [stoS_first hm hk ha]; exact refStoreFirst v s k a er w hx hf hm hk ha
    · rw [stoS_second hm hk ha]; exact refStoreSecond v s k a er w hx hf hm hk ha
    · rw [stoS_look hm hk]; exact refStoreLook v s k er w hx hf hm hk
    · rw [stoS_scan hm]; exact refStoreScan v s er w hx hf hm

end Go.Proofs.Ytnpejgendmgfaaa

/-
  THE WALKS over the document's own rowMay, StateMay, has, fdsRow, at a table: what they answer, for every row and state. Condition: where memory is made, that the row may be a table's.
-/
namespace Go.Proofs.Ytnpejgendmgfaaa
open Go.RowKit

set_option maxHeartbeats 4000000 in
theorem refRowMay1 (v : Value) (xs : List Int) (w : World) (hx : Has w v xs) :
    Calls Try.prog 31 #[.int .i64 1, v] w fun e w' => e = .returned (.bool (rowMay2 xs)) ∧ Le w w' := by
  have hl := Le.alloc w (.cells #[.int .i64 1, .int .i64 4, .int .i64 4] 3)
  obtain ⟨a, cap, rfl, hc, _, hx⟩ := hx
  obtain ⟨L, hL⟩ : ∃ L, L = xs.length := ⟨_, rfl⟩
  rw [← hL] at hc hx ⊢
  have HL : Hid (L = xs.length) := hL
  clear hL
  go_enter Try.func31, Try.ntmps31
  go_wp2
  go_loopw [6] (fun i wr => ∃ (k : Nat) (y : Int), k ≤ L ∧ (k : Int) ≤ y + 1 ∧ y < 4 ∧ i = .int .i64 k ∧ Hid ((0 < k → xs.getD (k - 1) 0 = y) ∧ (k = 0 → y = -1)) ∧ Hid (rowMay2 xs = riseFrom y (xs.drop k)) ∧ Le (w.alloc (.cells #[.int .i64 1, .int .i64 4, .int .i64 4] 3)) wr) (fun i _ => L - (intOf i).toNat)
  case atStart => exact ⟨0, -1, Nat.zero_le _, by omega, by omega, rfl, hid ⟨fun h => by omega, fun _ => rfl⟩, hid (by simp [rowMay2]), Le.refl _⟩
  case round =>
    obtain ⟨k, y, hk, hy1, hy2, rfl, HY, HA, hle⟩ := hrel
    by_cases hlt : k < L
    · obtain ⟨b, off, rfl, hcell⟩ := hx (by omega)
      obtain ⟨x, hxk⟩ : ∃ x, x = xs.getD k 0 := ⟨_, rfl⟩
      have hcx := hcell k hlt
      rw [← hxk] at hcx
      have c1 : ∀ X : Later wr, X.w.cell? ⟨b, off + k, none⟩ = some (.int .i64 x) := fun X => by
        have hb := World.block_lt_of_cell? w _ hcx
        rw [((hl.trans hle).trans X.le).cell (p := ⟨b, off + k, none⟩) hb]; exact hcx
      have hd := HA.out
      rw [drop_at (by have := HL.out; omega), ← hxk] at hd
      simp only [riseFrom] at hd
      have HX : Hid (x = xs.getD k 0) := hxk
      clear hxk
      have k0 : (0 : Int) ≤ (k : Int) := by omega
      have k1 : (k : Int) < (L : Int) := by omega
      have hup := fun w' => refUpTo x 0 255 w'
      by_cases h1 : 0 ≤ x ∧ x ≤ 255
      · have hh' : (decide (0 ≤ x) && decide (x ≤ 255)) = true := by simp [h1]
        simp only [hh'] at hup
        by_cases h2 : 4 ≤ x
        · have g2 : decide (4 ≤ x) = true := by simp [h2]
          have HD : Hid (rowMay2 xs = false) := hid (by rw [hd]; simp; omega)
          clear hd hcell hx HA HY
          go_wp2_with fail
          refine wp_region_later (by kernel_rfl) (by kernel_rfl) ?_
          repeat (go_big_quiet_step (first | (go_at_call 35; exact Calls.later_same (hup _))))
          refine wpQuiet_nil ?_
          rintro _ ⟨Y, rfl⟩
          go_wp2
          go_ret
          exact ⟨ret_bool HD.out.symm, (hl.trans hle).trans Y.le⟩
        · have g2 : decide (4 ≤ x) = false := by simp; omega
          by_cases h3 : k = 0
          · have g3 : decide (0 < k) = false := by rw [decide_eq_false_iff_not]; omega
            have hy3 := HY.out.2 h3
            have HD : Hid (rowMay2 xs = riseFrom x (xs.drop (k + 1))) := hid (by rw [hd]; simp [show x < 4 by omega, show y < x by omega])
            have hx1 : ((k + 1 : Nat) : Int) ≤ x + 1 := by omega
            clear hd hcell hx HA HY h3 hy3
            go_wp2_with fail
            refine wp_region_later (by kernel_rfl) (by kernel_rfl) ?_
            repeat (go_big_quiet_step (first | (go_at_call 35; exact Calls.later_same (hup _))))
            refine wpQuiet_nil ?_
            rintro _ ⟨Y, rfl⟩
            go_wp2
            go_roundw
            case rel => exact ⟨k + 1, x, by omega, by omega, by omega, by go_num, hid ⟨fun _ => HX.out.symm, fun h => by omega⟩, HD, hle.trans Y.le⟩
            case measure => simp [intOf]; omega
          · obtain ⟨p, rfl⟩ : ∃ p, k = p + 1 := ⟨k - 1, by omega⟩
            have g3 : decide ((0 : Int) < ((p + 1 : Nat) : Int)) = true := by rw [decide_eq_true_eq]; omega
            have g5 : (0 : Int) < (p : Int) + 1 := by omega
            have hyk := HY.out.1 (by omega)
            rw [show p + 1 - 1 = p from rfl] at hyk
            have hcy := hcell p (by omega)
            rw [hyk] at hcy
            have c2 : ∀ X : Later wr, X.w.cell? ⟨b, off + p, none⟩ = some (.int .i64 y) := fun X => by
              have hb := World.block_lt_of_cell? w _ hcy
              rw [((hl.trans hle).trans X.le).cell (p := ⟨b, off + p, none⟩) hb]; exact hcy
            have k3 : (0 : Int) ≤ (p : Int) := by omega
            have k4 : (p : Int) < (L : Int) := by omega
            clear hyk hcy
            by_cases h4 : y < x
            · have g4 : decide (x ≤ y) = false := by simp; omega
              have HD : Hid (rowMay2 xs = riseFrom x (xs.drop (p + 1 + 1))) := hid (by rw [hd]; simp [h4, show x < 4 by omega])
              clear hd hcell hx HA HY
              go_wp2_with fail
              refine wp_region_later (by kernel_rfl) (by kernel_rfl) ?_
              repeat (go_big_quiet_step (first | (go_at_call 35; exact Calls.later_same (hup _))))
              refine wpQuiet_nil ?_
              rintro _ ⟨Y, rfl⟩
              go_wp2
              go_roundw
              case rel => exact ⟨p + 1 + 1, x, by omega, by omega, by omega, by go_num, hid ⟨fun _ => HX.out.symm, fun h => by omega⟩, HD, hle.trans Y.le⟩
              case measure => simp [intOf]; omega
            · have g4 : decide (x ≤ y) = true := by simp; omega
              have HD : Hid (rowMay2 xs = false) := hid (by rw [hd]; simp [h4])
              clear hd hcell hx HA HY
              go_wp2_with fail
              refine wp_region_later (by kernel_rfl) (by kernel_rfl) ?_
              repeat (go_big_quiet_step (first | (go_at_call 35; exact Calls.later_same (hup _))))
              refine wpQuiet_nil ?_
              rintro _ ⟨Y, rfl⟩
              go_wp2
              go_ret
              exact ⟨ret_bool HD.out.symm, (hl.trans hle).trans Y.le⟩
      · have hh' : (decide (0 ≤ x) && decide (x ≤ 255)) = false := by rw [Bool.and_eq_false_iff]; simp; omega
        simp only [hh'] at hup
        have HD : Hid (rowMay2 xs = false) := hid (by rw [hd, show (decide (y < x) && decide (x < 4)) = false by rw [Bool.and_eq_false_iff]; simp; omega]; rfl)
        clear hd hcell hx HA HY
        go_wp2_with fail
        refine wp_region_later (by kernel_rfl) (by kernel_rfl) ?_
        repeat (go_big_quiet_step (first | (go_at_call 35; exact Calls.later_same (hup _))))
        refine wpQuiet_nil ?_
        rintro _ ⟨Y, rfl⟩
        go_wp2
        go_ret
        exact ⟨ret_bool HD.out.symm, (hl.trans hle).trans Y.le⟩
    · obtain rfl : k = L := by omega
      have hd := HA.out
      rw [List.drop_eq_nil_of_le (by have := HL.out; omega)] at hd
      have hlen := rowMay2_len hd
      rw [← HL.out] at hlen
      have HD : Hid (rowMay2 xs = true) := hd
      clear hd hx HA HY
      go_wp2
      go_ret
      exact ⟨ret_bool (by rw [HD.out]; simp; omega), hl.trans hle⟩

end Go.Proofs.Ytnpejgendmgfaaa

/-
  THE WALKS over the document's own StateMay, has, fdsRow, at a table: what they answer, for every row and state. Condition: at fdsRow, that the row is the call's own and may be a table's.
-/
namespace Go.Proofs.Ytnpejgendmgfaaa
open Go.RowKit

set_option maxHeartbeats 400000 in
theorem refStateMay1 (v : Value) (s : St) (w : World) (hx : HasS w v s) :
    Calls Try.prog 21 #[.int .i64 1, v] w fun e w' => e = .returned (.bool (s.all rowMay2)) ∧ Le w w' := by
  obtain ⟨vs, rfl, hr⟩ := hx
  have hl := Le.alloc w (.cells (cells4 vs) 25)
  have hb := Box.new w (cells4 vs) 25
  go_enter Try.func21, Try.ntmps21
  go_wp2
  go_loopw [5] (fun i wr => ∃ k : Nat, k ≤ 4 ∧ i = .int .i64 k ∧ Hid (∀ j, j < k → rowMay2 (s.at j) = true) ∧ Le (w.alloc (.cells (cells4 vs) 25)) wr) (fun i _ => 4 - (intOf i).toNat)
  case atStart => exact ⟨0, by omega, rfl, (fun j hj => by omega), Le.refl _⟩
  case round =>
    obtain ⟨k, hk, rfl, HA, hle⟩ := hrel
    by_cases hlt : k < 4
    · have hm := refRowMay1 (slV (vs k)) (s.at k) wr ((hr k hlt).le (hl.trans hle))
      have c1 : wr.cell? ⟨w.heap.size, k, none⟩ = some (slV (vs k)) := ((hb.le hle).cell k).trans (cells4_at vs hlt)
      cases hh : rowMay2 (s.at k)
      · rw [hh] at hm
        go_wp2_with fail
        refine hm.mono ?_
        rintro e w1 ⟨rfl, l1⟩
        go_wp2
        go_ret
        exact ⟨ret_bool (St.all_not hlt hh).symm, (hl.trans hle).trans l1⟩
      · rw [hh] at hm
        go_wp2_with fail
        refine hm.mono ?_
        rintro e w1 ⟨rfl, l1⟩
        go_wp2
        go_roundw
        case rel => exact ⟨k + 1, by omega, by go_num, (fun j hj => by rcases Nat.lt_or_eq_of_le (Nat.le_of_lt_succ hj) with h | h; exact HA.out j h; exact h ▸ hh), hle.trans l1⟩
        case measure => simp [intOf]; omega
    · obtain rfl : k = 4 := by omega
      go_wp2
      go_ret
      exact ⟨ret_bool (St.all_of HA.out).symm, hl.trans hle⟩

/-- Is a number in the row? -/
def inB (xs : List Int) (i : Nat) : Bool := decide ((i : Int) ∈ xs)

theorem not_take {xs : List Int} {x : Int} {m : Nat} (h : m < xs.length) (hn : x ∉ xs.take m) (hx : ¬ xs.getD m 0 = x) : x ∉ xs.take (m + 1) := by
  rw [List.take_succ_eq_append_getElem h, List.mem_append, not_or]
  refine ⟨hn, ?_⟩
  simp only [List.mem_singleton]
  intro e
  apply hx
  simp [List.getD, h, e]

set_option maxHeartbeats 400000 in
theorem refHas (v : Value) (xs : List Int) (x0 : Int) (w : World) (hx : Has w v xs) (hl : xs.length ≤ 1000) :
    Calls Try.prog 36 #[v, .int .i64 x0] w fun e w' => e = .returned (.bool (decide (x0 ∈ xs))) ∧ w = w' := by
  obtain ⟨a, cap, rfl, hc, _, hx⟩ := hx
  obtain ⟨n, hn⟩ : ∃ n, n = xs.length := ⟨_, rfl⟩
  rw [← hn] at hc hx hl ⊢
  have HN : Hid (n = xs.length) := hn
  clear hn
  obtain ⟨B, hB⟩ : ∃ B, B = decide (x0 ∈ xs) := ⟨_, rfl⟩
  rw [← hB]
  have HB : Hid (B = decide (x0 ∈ xs)) := hB
  clear hB
  go_enter Try.func36, Try.ntmps36
  go_wp2
  go_loop [5] (fun i => ∃ k : Nat, k ≤ n ∧ i = .int .i64 k ∧ Hid (x0 ∉ xs.take k)) (fun i => n - (intOf i).toNat)
  case atStart => exact ⟨0, by omega, rfl, hid (by simp)⟩
  case round =>
    obtain ⟨k, hk, rfl, HR⟩ := hrel
    by_cases hlt : k < n
    · obtain ⟨b, off, rfl, hcell⟩ := hx (by omega)
      have c0 := hcell k hlt
      obtain ⟨x, hxk⟩ : ∃ x, x = xs.getD k 0 := ⟨_, rfl⟩
      rw [← hxk] at c0
      have k0 : (0 : Int) ≤ (k : Int) := by omega
      have k1 : (k : Int) < (n : Int) := by omega
      by_cases h1 : x = x0
      · have HD : Hid (B = true) := hid (by
          have hh : k < xs.length := by rw [← HN.out]; exact hlt
          rw [HB.out, decide_eq_true_eq, ← h1, hxk]
          simp [List.getD, hh])
        clear hxk hcell hx HR HB
        subst h1
        go_wp2
        go_ret
        exact ⟨ret_bool HD.out.symm, rfl⟩
      · have HD : Hid (x0 ∉ xs.take (k + 1)) := hid (not_take (by rw [← HN.out]; exact hlt) HR.out (by rw [← hxk]; exact h1))
        clear hxk hcell hx HR
        go_wp2
        go_round
        case rel => exact ⟨k + 1, by omega, by go_num, HD⟩
        case measure => simp [intOf]; omega
    · obtain rfl : k = n := by omega
      have HD : Hid (B = false) := hid (by
        rw [HB.out, decide_eq_false_iff_not]
        have := HR.out
        rwa [List.take_of_length_le (by have := HN.out; omega)] at this)
      go_wp2
      go_ret
      exact ⟨ret_bool HD.out.symm, rfl⟩

/-- The numbers below m that are so. -/
def outTo (p : Nat → Bool) : Nat → List Int
  | 0 => []
  | m + 1 => if p m then outTo p m ++ [(m : Int)] else outTo p m

theorem outTo_len (p : Nat → Bool) : ∀ m, (outTo p m).length ≤ m
  | 0 => Nat.le_refl _
  | m + 1 => by
    have := outTo_len p m
    simp only [outTo]
    split
    · simp; omega
    · omega

theorem free_rows : ∀ xs ∈ rowsAbove 4, ∀ k : Nat, k < 5 → (∀ j, j < k → inB xs j = true) → inB xs k = false → freeS xs = k := by decide
theorem in_rows : ∀ xs ∈ rowsAbove 4, ∀ x ∈ xs, 0 ≤ x ∧ x < 4 := by decide
theorem out_put : ∀ xs ∈ rowsAbove 4, freeS xs < 4 → outTo (fun i => decide ((i : Int) = freeS xs) || inB xs i) 4 = (putS xs).1 ∧ (putS xs).2 = freeS xs := by decide
theorem out_take : ∀ xs ∈ rowsAbove 4, ∀ a ∈ xs, outTo (fun i => !decide ((i : Int) = a) && inB xs i) 4 = (takeS xs a).1 ∧ (takeS xs a).2 = 1 := by decide

set_option maxHeartbeats 2000000 in
theorem refFdsRow0 (v : Value) (xs : List Int) (r a : Int) (w : World) (base : Nat) (hown : Own w base v xs) (hbase : base ≤ w.heap.size) (hm : rowMay2 xs = true) :
    Calls Try.prog 29 #[v, opV 0 r a] w fun e w' => ∃ q : Sl, e = .returned (.tuple #[slV q, .int .i64 (putS xs).2]) ∧ Own w' base (slV q) (putS xs).1 ∧ Le w w' := by
  have hl := Le.alloc w (.cells #[.int .i64 0, .int .i64 r, .int .i64 a] 43)
  have hb := Box.new w #[.int .i64 0, .int .i64 r, .int .i64 a] 43
  have hlen := rowMay2_len hm
  obtain ⟨q0, rfl⟩ := hown.has.sl
  have hhas := fun (x : Int) (w' : World) (h : Le w w') => refHas (slV q0) xs x w' (hown.has.le h) (by omega)
  go_enter Try.func29, Try.ntmps29
  go_wp2
  generalize hW : w.alloc (.cells #[.int .i64 0, .int .i64 r, .int .i64 a] 43) = W at hl hb ⊢
  clear hW
  go_loop [6] (fun i => ∃ k : Nat, k ≤ 4 ∧ i = .int .i64 k ∧ Hid (∀ j, j < k → inB xs j = true)) (fun i => 4 - (intOf i).toNat)
  case atStart => exact ⟨0, by omega, rfl, hid (fun j hj => by omega)⟩
  case round =>
    obtain ⟨k, hk, rfl, HR⟩ := hrel
    have hc := hhas k W hl
    cases hin : inB xs k
    · rw [show decide ((k : Int) ∈ xs) = false from hin] at hc
      have hfree := free_rows xs (rowMay2_mem hm) k (by omega) HR.out hin
      by_cases h4 : k = 4
      · have HP : Hid (putS xs = (xs, -1)) := hid (by simp [putS, hfree, h4])
        have K4 : Hid ((k : Int) = 4) := hid (by omega)
        clear hhas hfree h4 hin HR
        go_wp2_with fail
        refine hc.mono ?_
        rintro e w1 ⟨rfl, rfl⟩
        have k4 := K4.out
        go_wp2
        go_ret2
        rw [HP.out]
        exact ⟨_, rfl, hown.le hl, hl⟩
      · have k4 : ¬ (k : Int) = 4 := by omega
        have k5 : ((k : Int) == 4) = false := by rw [beq_eq_false_iff_ne]; exact k4
        obtain ⟨hp1, hp2⟩ := out_put xs (rowMay2_mem hm) (by omega)
        rw [hfree] at hp1 hp2
        have HP : Hid (outTo (fun i => decide ((i : Int) = (k : Int)) || inB xs i) 4 = (putS xs).1) := hp1
        have HQ : Hid ((putS xs).2 = (k : Int)) := hp2
        clear hfree hp1 hp2 hin HR
        obtain ⟨o0, o1, o2, _, _, _⟩ := hb.op
        go_wp2_with fail
        refine hc.mono ?_
        rintro e w1 ⟨rfl, rfl⟩
        clear hc
        go_wp2
        clear o0 o1 o2
        go_loopw [7, 8] (fun o i wr => ∃ (m : Nat) (q : Sl), m ≤ 4 ∧ o = slV q ∧ i = .int .i64 m ∧ Own wr W.heap.size (slV q) (outTo (fun i => decide ((i : Int) = (k : Int)) || inB xs i) m) ∧ Le W wr) (fun _ i _ => 4 - (intOf i).toNat)
        case atStart => exact ⟨0, slZ, by omega, rfl, rfl, Own.nil _ _, Le.refl _⟩
        case round =>
          obtain ⟨m, q, hm4, rfl, rfl, ho, lr⟩ := hrel
          by_cases hlt : m < 4
          · have hc := hhas m wr (hl.trans lr)
            obtain ⟨o0, o1, o2, _, _, _⟩ := (hb.le lr).op
            have hol := outTo_len (fun i => decide ((i : Int) = (k : Int)) || inB xs i) m
            have hA := Le.alloc wr (.cells #[.int .i64 m] 3)
            have hone : Own (wr.alloc (.cells #[.int .i64 m] 3)) wr.heap.size (slV (some ⟨wr.heap.size, 0, none⟩, 1, 1)) [(m : Int)] := Own.lit wr _ (Nat.le_refl _) [(m : Int)] (by simp)
            have hrow : ∀ g, (slV q).ownBlock = some g → W.heap.size ≤ g := fun g e => (ho.block e).1
            by_cases hmk : (m : Int) = (k : Int)
            · have HO : Hid (outTo (fun i => decide ((i : Int) = (k : Int)) || inB xs i) (m + 1) = outTo (fun i => decide ((i : Int) = (k : Int)) || inB xs i) m ++ [(m : Int)]) := hid (by simp [outTo, hmk])
              have e1 : ((m : Int) == (k : Int)) = true := by simp [hmk]
              have hk2 : m = k := by omega
              subst hk2
              clear hc hmk hhas
              go_wp2_with (at_builtin; refine wp_append_ints rfl _ _ rfl W.heap.size _ _ (outTo (fun i => decide ((i : Int) = (m : Int)) || inB xs i) m) [(m : Int)] rfl rfl (ho.le hA) hone.has (by simp; omega) (Nat.le_trans lr.size hA.size) ?_; intro v' w2 hown2 hgrow; obtain ⟨q2, rfl⟩ := hown2.has.sl)
              go_roundw
              case rel => exact ⟨m + 1, q2, by omega, rfl, by go_num, by rw [HO.out]; exact hown2, Below.grown (lr.trans hA) hgrow (Nat.le_trans lr.size hA.size) hrow⟩
              case measure => simp [intOf]; omega
            · have e1 : ((m : Int) == (k : Int)) = false := by simp [hmk]
              have e2 : ((m : Int) != (k : Int)) = true := by simp [hmk]
              cases hin : inB xs m
              · have HO : Hid (outTo (fun i => decide ((i : Int) = (k : Int)) || inB xs i) (m + 1) = outTo (fun i => decide ((i : Int) = (k : Int)) || inB xs i) m) := hid (by simp [outTo, hmk, hin])
                rw [show decide ((m : Int) ∈ xs) = false from hin] at hc
                clear hhas hin
                go_wp2_with fail
                refine hc.mono ?_
                rintro e w1 ⟨rfl, rfl⟩
                go_wp2
                go_roundw
                case rel => exact ⟨m + 1, q, by omega, rfl, by go_num, by rw [HO.out]; exact ho, lr⟩
                case measure => simp [intOf]; omega
              · have HO : Hid (outTo (fun i => decide ((i : Int) = (k : Int)) || inB xs i) (m + 1) = outTo (fun i => decide ((i : Int) = (k : Int)) || inB xs i) m ++ [(m : Int)]) := hid (by simp [outTo, hin])
                rw [show decide ((m : Int) ∈ xs) = true from hin] at hc
                clear hhas hin
                go_wp2_with fail
                refine hc.mono ?_
                rintro e w1 ⟨rfl, rfl⟩
                go_wp2_with (at_builtin; refine wp_append_ints rfl _ _ rfl W.heap.size _ _ (outTo (fun i => decide ((i : Int) = (k : Int)) || inB xs i) m) [(m : Int)] rfl rfl (ho.le hA) hone.has (by simp; omega) (Nat.le_trans lr.size hA.size) ?_; intro v' w2 hown2 hgrow; obtain ⟨q2, rfl⟩ := hown2.has.sl)
                go_roundw
                case rel => exact ⟨m + 1, q2, by omega, rfl, by go_num, by rw [HO.out]; exact hown2, Below.grown (lr.trans hA) hgrow (Nat.le_trans lr.size hA.size) hrow⟩
                case measure => simp [intOf]; omega
          · obtain rfl : m = 4 := by omega
            obtain ⟨o0, o1, o2, _, _, _⟩ := (hb.le lr).op
            go_wp2
            go_ret2
            rw [HQ.out]
            exact ⟨q, rfl, by rw [← HP.out]; exact ho.base (Nat.le_trans hbase hl.size), hl.trans lr⟩
    · rw [show decide ((k : Int) ∈ xs) = true from hin] at hc
      have hk4 : k < 4 := by
        have := (in_rows xs (rowMay2_mem hm) k (by simpa [inB] using hin)).2
        omega
      have HD : Hid (∀ j, j < k + 1 → inB xs j = true) := hid (fun j hj => by rcases Nat.lt_or_eq_of_le (Nat.le_of_lt_succ hj) with h | h; exact HR.out j h; exact h ▸ hin)
      clear hhas hin HR
      go_wp2_with fail
      refine hc.mono ?_
      rintro e w1 ⟨rfl, rfl⟩
      go_wp2
      go_round
      case rel => exact ⟨k + 1, by omega, by go_num, HD⟩
      case measure => simp [intOf]; omega

set_option maxHeartbeats 2000000 in
theorem refFdsRow1 (v : Value) (xs : List Int) (r a : Int) (w : World) (base : Nat) (hown : Own w base v xs) (hbase : base ≤ w.heap.size) (hm : rowMay2 xs = true) :
    Calls Try.prog 29 #[v, opV 1 r a] w fun e w' => ∃ q : Sl, e = .returned (.tuple #[slV q, .int .i64 (takeS xs a).2]) ∧ Own w' base (slV q) (takeS xs a).1 ∧ Le w w' := by
  have hl := Le.alloc w (.cells #[.int .i64 1, .int .i64 r, .int .i64 a] 43)
  have hb := Box.new w #[.int .i64 1, .int .i64 r, .int .i64 a] 43
  have hlen := rowMay2_len hm
  obtain ⟨q0, rfl⟩ := hown.has.sl
  have hhas := fun (x : Int) (w' : World) (h : Le w w') => refHas (slV q0) xs x w' (hown.has.le h) (by omega)
  by_cases hin : a ∈ xs
  · have hc := hhas a _ hl
    rw [show decide (a ∈ xs) = true by simp [hin]] at hc
    obtain ⟨hp1, hp2⟩ := out_take xs (rowMay2_mem hm) a hin
    have HP : Hid (outTo (fun i => !decide ((i : Int) = a) && inB xs i) 4 = (takeS xs a).1) := hp1
    have HQ : Hid ((takeS xs a).2 = 1) := hp2
    clear hp1 hp2 hin
    go_enter Try.func29, Try.ntmps29
    go_wp2_with fail
    refine hc.mono ?_
    rintro e w1 ⟨rfl, rfl⟩
    clear hc
    go_wp2
    generalize hW : w.alloc (.cells #[.int .i64 1, .int .i64 r, .int .i64 a] 43) = W at hl hb ⊢
    clear hW
    go_loopw [7, 8] (fun o i wr => ∃ (m : Nat) (q : Sl), m ≤ 4 ∧ o = slV q ∧ i = .int .i64 m ∧ Own wr W.heap.size (slV q) (outTo (fun i => !decide ((i : Int) = a) && inB xs i) m) ∧ Le W wr) (fun _ i _ => 4 - (intOf i).toNat)
    case atStart => exact ⟨0, slZ, by omega, rfl, rfl, Own.nil _ _, Le.refl _⟩
    case round =>
      obtain ⟨m, q, hm4, rfl, rfl, ho, lr⟩ := hrel
      by_cases hlt : m < 4
      · have hc := hhas m wr (hl.trans lr)
        obtain ⟨o0, o1, o2, _, _, _⟩ := (hb.le lr).op
        have hol := outTo_len (fun i => !decide ((i : Int) = a) && inB xs i) m
        have hA := Le.alloc wr (.cells #[.int .i64 m] 3)
        have hone : Own (wr.alloc (.cells #[.int .i64 m] 3)) wr.heap.size (slV (some ⟨wr.heap.size, 0, none⟩, 1, 1)) [(m : Int)] := Own.lit wr _ (Nat.le_refl _) [(m : Int)] (by simp)
        have hrow : ∀ g, (slV q).ownBlock = some g → W.heap.size ≤ g := fun g e => (ho.block e).1
        by_cases hmk : (m : Int) = a
        · have HO : Hid (outTo (fun i => !decide ((i : Int) = a) && inB xs i) (m + 1) = outTo (fun i => !decide ((i : Int) = a) && inB xs i) m) := hid (by simp [outTo, hmk])
          have e1 : ((m : Int) == a) = true := by simp [hmk]
          have e2 : ((m : Int) != a) = false := by simp [hmk]
          subst hmk
          clear hc hhas
          go_wp2
          go_roundw
          case rel => exact ⟨m + 1, q, by omega, rfl, by go_num, by rw [HO.out]; exact ho, lr⟩
          case measure => simp [intOf]; omega
        · have e1 : ((m : Int) == a) = false := by simp [hmk]
          have e2 : ((m : Int) != a) = true := by simp [hmk]
          cases hin : inB xs m
          · have HO : Hid (outTo (fun i => !decide ((i : Int) = a) && inB xs i) (m + 1) = outTo (fun i => !decide ((i : Int) = a) && inB xs i) m) := hid (by simp [outTo, hin])
            rw [show decide ((m : Int) ∈ xs) = false from hin] at hc
            clear hhas hin
            go_wp2_with fail
            refine hc.mono ?_
            rintro e w1 ⟨rfl, rfl⟩
            go_wp2
            go_roundw
            case rel => exact ⟨m + 1, q, by omega, rfl, by go_num, by rw [HO.out]; exact ho, lr⟩
            case measure => simp [intOf]; omega
          · have HO : Hid (outTo (fun i => !decide ((i : Int) = a) && inB xs i) (m + 1) = outTo (fun i => !decide ((i : Int) = a) && inB xs i) m ++ [(m : Int)]) := hid (by simp [outTo, hin, hmk])
            rw [show decide ((m : Int) ∈ xs) = true from hin] at hc
            clear hhas hin
            go_wp2_with fail
            refine hc.mono ?_
            rintro e w1 ⟨rfl, rfl⟩
            go_wp2_with (at_builtin; refine wp_append_ints rfl _ _ rfl W.heap.size _ _ (outTo (fun i => !decide ((i : Int) = a) && inB xs i) m) [(m : Int)] rfl rfl (ho.le hA) hone.has (by simp; omega) (Nat.le_trans lr.size hA.size) ?_; intro v' w2 hown2 hgrow; obtain ⟨q2, rfl⟩ := hown2.has.sl)
            go_roundw
            case rel => exact ⟨m + 1, q2, by omega, rfl, by go_num, by rw [HO.out]; exact hown2, Below.grown (lr.trans hA) hgrow (Nat.le_trans lr.size hA.size) hrow⟩
            case measure => simp [intOf]; omega
      · obtain rfl : m = 4 := by omega
        obtain ⟨o0, o1, o2, _, _, _⟩ := (hb.le lr).op
        go_wp2
        go_ret2
        rw [HQ.out]
        exact ⟨q, rfl, by rw [← HP.out]; exact ho.base (Nat.le_trans hbase hl.size), hl.trans lr⟩
  · have hc := hhas a _ hl
    rw [show decide (a ∈ xs) = false by simp [hin]] at hc
    have HP : Hid (takeS xs a = (xs, 0)) := hid (take_out hin)
    clear hin hhas
    go_enter Try.func29, Try.ntmps29
    go_wp2_with fail
    refine hc.mono ?_
    rintro e w1 ⟨rfl, rfl⟩
    go_wp2
    go_ret2
    rw [HP.out]
    exact ⟨_, rfl, hown.le hl, hl⟩

end Go.Proofs.Ytnpejgendmgfaaa

/-
  THE WALKS over the document's own Apply, at object 1: what it answers, for every state and operation. Condition: the state's rows can be copied.
-/
namespace Go.Proofs.Ytnpejgendmgfaaa
open Go.RowKit

theorem small_rows : ∀ xs ∈ rowsAbove 4, xs.length ≤ 4 ∧ ∀ x ∈ xs, 0 ≤ x ∧ x ≤ 255 := by decide
theorem small2 {s : St} (hm : s.all rowMay2 = true) : ∀ k, k < 4 → Small (s.at k) := fun _ hk => small_rows _ (rowMay2_mem (St.all_at hm hk))

set_option maxHeartbeats 2000000 in
theorem refFdsNo (v : Value) (s : St) (c r a er : Int) (w : World) (hx : HasS w v s) (_hf : Fit s) (h : (s.all rowMay2 && opMay c r a) = false) :
    Calls Try.prog 20 #[.int .i64 1, v, opV c r a, .int .i64 er] w fun e w' => e = .returned (.tuple #[stZ, .int .i64 0, .int .i64 er]) ∧ Le w w' := by
  have hx0 := hx
  obtain ⟨vs, rfl, hr⟩ := hx
  have hl := ((Le.alloc w (.cells (cells4 vs) 25)).trans (Le.alloc _ (.cells #[.int .i64 c, .int .i64 r, .int .i64 a] 43))).trans (Le.alloc _ (.cells (cells4 fun _ => slZ) 25))
  have hb1 := ((Box.new w (cells4 vs) 25).le (Le.alloc _ (.cells #[.int .i64 c, .int .i64 r, .int .i64 a] 43))).le (Le.alloc _ (.cells (cells4 fun _ => slZ) 25))
  have hb2 := (Box.new (w.alloc (.cells (cells4 vs) 25)) #[.int .i64 c, .int .i64 r, .int .i64 a] 43).le (Le.alloc _ (.cells (cells4 fun _ => slZ) 25))
  have hb3 := Box.new ((w.alloc (.cells (cells4 vs) 25)).alloc (.cells #[.int .i64 c, .int .i64 r, .int .i64 a] 43)) (cells4 fun _ => slZ) 25
  simp only [World.size_alloc] at hb1 hb2 hb3
  have hmay := refStateMay1 (stV vs) s _ (hx0.le hl)
  cases hm : s.all rowMay2
  · rw [hm] at hmay
    go_enter Try.func20, Try.ntmps20
    go_wp2_with fail
    refine hmay.mono ?_
    rintro e w1 ⟨rfl, l1⟩
    obtain ⟨z0, z1, z2, z3, f0, f1, f2, f3⟩ := (hb3.le l1).st
    go_wp2_with fail
    refine bodyPost_ret (v := .tuple #[stZ, .int .i64 0, .int .i64 er]) (by simp [results, Try.results20, go_sem, z0, z1, z2, z3]) rfl ⟨rfl, ?_⟩
    exact (hl.trans l1).set4 (by omega) _ _ _ _
  · have hop : opMay c r a = false := by simpa [hm] using h
    rw [hm] at hmay
    go_enter Try.func20, Try.ntmps20
    go_wp2_with fail
    refine hmay.mono ?_
    rintro e w1 ⟨rfl, l1⟩
    obtain ⟨y0, y1, y2, _, _, _⟩ := (hb2.le l1).op
    go_wp2_with fail
    refine (refOperMay _ _ _ _).mono ?_
    rw [hop]
    rintro e w2 ⟨rfl, l2⟩
    obtain ⟨z0, z1, z2, z3, f0, f1, f2, f3⟩ := ((hb3.le l1).le l2).st
    go_wp2_with fail
    refine bodyPost_ret (v := .tuple #[stZ, .int .i64 0, .int .i64 er]) (by simp [results, Try.results20, go_sem, z0, z1, z2, z3]) rfl ⟨rfl, ?_⟩
    exact ((hl.trans l1).trans l2).set4 (by omega) _ _ _ _

set_option maxRecDepth 4000 in
set_option maxHeartbeats 4000000 in
theorem refFdsScan (v : Value) (s : St) (er : Int) (w : World) (hx : HasS w v s) (hf : Fit s) (hm : s.all rowMay2 = true) :
    Calls Try.prog 20 #[.int .i64 1, v, opV 3 0 0, .int .i64 er] w fun e w' => ∃ v', e = .returned (.tuple #[v', .int .i64 (manyTo s 4), .int .i64 0]) ∧ OwnS w' w.heap.size v' (s) ∧ Le w w' := by
  have hx0 := hx
  obtain ⟨vs, rfl, hr⟩ := hx
  have hl := ((Le.alloc w (.cells (cells4 vs) 25)).trans (Le.alloc _ (.cells #[.int .i64 3, .int .i64 0, .int .i64 0] 43))).trans (Le.alloc _ (.cells (cells4 fun _ => slZ) 25))
  have hb1 := ((Box.new w (cells4 vs) 25).le (Le.alloc _ (.cells #[.int .i64 3, .int .i64 0, .int .i64 0] 43))).le (Le.alloc _ (.cells (cells4 fun _ => slZ) 25))
  have hb2 := (Box.new (w.alloc (.cells (cells4 vs) 25)) #[.int .i64 3, .int .i64 0, .int .i64 0] 43).le (Le.alloc _ (.cells (cells4 fun _ => slZ) 25))
  have hb3 := Box.new ((w.alloc (.cells (cells4 vs) 25)).alloc (.cells #[.int .i64 3, .int .i64 0, .int .i64 0] 43)) (cells4 fun _ => slZ) 25
  simp only [World.size_alloc] at hb1 hb2 hb3
  have hmay := refStateMay1 (stV vs) s _ (hx0.le hl)
  rw [hm] at hmay
  have hop : opMay 3 0 0 = true := by decide
  have hsm := small2 hm
  go_enter Try.func20, Try.ntmps20
  go_wp2_with fail
  refine hmay.mono ?_
  rintro e w1 ⟨rfl, l1⟩
  obtain ⟨y0, y1, y2, _, _, _⟩ := (hb2.le l1).op
  clear hmay
  go_wp2_with fail
  refine (refOperMay _ _ _ _).mono ?_
  rw [hop]
  rintro e w2 ⟨rfl, l2⟩
  replace l1 := l1.trans l2
  clear l2 y0 y1 y2
  obtain ⟨y0, y1, y2, y3, _, _, _, _⟩ := (hb1.le l1).st
  go_wp2_with fail
  refine (refCopyState (stV vs) s _ (hx0.le (hl.trans l1)) hf).mono ?_
  rintro e w3 ⟨_, rfl, ⟨us, rfl, hown⟩, l3⟩
  replace hown := fun i hi => (hown i hi).base (base' := w.heap.size) (hl.trans l1).size
  replace l1 := l1.trans l3
  clear l3 y0 y1 y2 y3
  have n0 : w.heap.size + 1 + 1 < w3.heap.size := (hb3.le l1).lt
  have n1 : ¬ w.heap.size + 1 + 1 = w3.heap.size := by omega
  have n2 : ¬ w.heap.size + 1 + 1 = w.heap.size := by omega
  have n3 : ¬ w.heap.size + 1 + 1 = w.heap.size + 1 := by omega
  have hb4 := Box.new w3 (cells4 us) 25
  replace l1 := l1.trans (Le.alloc w3 (.cells (cells4 us) 25))
  replace hown := fun i hi => (hown i hi).le (Le.alloc w3 (.cells (cells4 us) 25))
  go_wp2_with fail
  generalize hW : w3.alloc (.cells (cells4 us) 25) = W at hb4 l1 hown ⊢
  clear hW
  go_loop [12, 13, 14] (fun t m i => ∃ j : Nat, j ≤ 4 ∧ i = .int .i64 j ∧ t = .int .i64 (sumTo s j) ∧ m = .int .i64 (manyTo s j)) (fun _ _ i => 4 - (intOf i).toNat)
  case atStart => exact ⟨0, by omega, rfl, rfl, rfl⟩
  case round =>
    obtain ⟨j, hj, rfl, rfl, rfl⟩ := hrel
    by_cases hlt : j < 4
    · have c1 : W.cell? ⟨w.heap.size, j, none⟩ = some (slV (vs j)) := ((hb1.le l1).cell j).trans (cells4_at vs hlt)
      obtain ⟨b0, b1⟩ := sumTo_small hsm j hj
      obtain ⟨b2, b3⟩ := manyTo_bounds (m := 4) (fun i hi => (hsm i hi).1) j hj
      obtain ⟨ad, cap, hv, hc, _, hcell⟩ := (hr j hlt).le (hl.trans l1)
      have hs : sumTo s (j + 1) = sumTo s j + sumOf (s.at j) (s.at j).length := by rw [sumOf_all]; rfl
      have hn : manyTo s (j + 1) = manyTo s j + (s.at j).length := rfl
      have hsj := hsm j hlt
      have hlj := hsj.1
      rw [hv] at c1
      obtain ⟨T, hT⟩ : ∃ T, T = sumTo s j := ⟨_, rfl⟩
      obtain ⟨M, hM⟩ : ∃ M, M = manyTo s j := ⟨_, rfl⟩
      obtain ⟨L, hL⟩ : ∃ L, L = (s.at j).length := ⟨_, rfl⟩
      rw [← hT] at b0 b1 hs ⊢
      rw [← hM] at b2 b3 hn ⊢
      rw [← hL] at c1 hc hcell hs hn hlj
      have HS : Hid (sumTo s (j + 1) = T + sumOf (s.at j) L) := hs
      have HN : Hid (manyTo s (j + 1) = M + L) := hn
      have HL : Hid (L = (s.at j).length) := hL
      clear hs hn hv hm hr hown hb1 hb2 hb3 hb4 hop n0 n1 n2 n3 hT hM hL hsm
      go_wp2
      go_loop [12, 15] (fun t i => ∃ m : Nat, m ≤ L ∧ i = .int .i64 m ∧ t = .int .i64 (T + sumOf (s.at j) m)) (fun _ i => L - (intOf i).toNat)
      case atStart => exact ⟨0, by omega, rfl, by simp [sumOf]⟩
      case round =>
        obtain ⟨m, hmL, rfl, rfl⟩ := hrel
        obtain ⟨d0, d1⟩ := hsj.sum m (by rw [← HL.out]; exact hmL)
        by_cases hlt2 : m < L
        · obtain ⟨b, off, rfl, hcl⟩ := hcell (by omega)
          have c2 := hcl m hlt2
          have hst := sumOf_step (xs := s.at j) (m := m) (by rw [← HL.out]; exact hlt2)
          obtain ⟨d2, d3⟩ := hsj.at (m := m) (by rw [← HL.out]; exact hlt2)
          obtain ⟨x, hx⟩ : ∃ x, x = (s.at j).getD m 0 := ⟨_, rfl⟩
          rw [← hx] at c2 hst d2 d3
          obtain ⟨t, ht⟩ : ∃ t, t = sumOf (s.at j) m := ⟨_, rfl⟩
          rw [← ht] at hst d0 d1 ⊢
          have HT : Hid (sumOf (s.at j) (m + 1) = t + x) := hst
          have m0 : (0 : Int) ≤ (m : Int) := by omega
          have m1 : (m : Int) < (L : Int) := by omega
          clear hst ht hx hcl hcell hsj
          go_wp2
          go_round
          case rel => exact ⟨m + 1, by omega, by go_num, by rw [HT.out, Int.add_assoc]⟩
          case measure => simp [intOf]; omega
        · obtain rfl : m = L := by omega
          clear hcell hsj
          go_wp2
          go_round
          case rel => exact ⟨j + 1, by omega, by go_num, by rw [HS.out], by rw [HN.out]⟩
          case measure => simp [intOf]; omega
    · obtain rfl : j = 4 := by omega
      clear hlt hj
      obtain ⟨y0, y1, y2, y3, _, _, _, _⟩ := hb4.st
      obtain ⟨z0, z1, z2, z3, f0, f1, f2, f3⟩ := (hb3.le l1).st
      obtain ⟨o0, o1, o2, _, _, _⟩ := (hb2.le l1).op
      go_wp2_with fail
      refine bodyPost_ret (v := .tuple #[stV us, .int .i64 (manyTo s 4), .int .i64 0]) (by simp [results, Try.results20, go_sem, z0, z1, z2, z3]) rfl ⟨_, rfl, ⟨us, rfl, fun i hi => ?_⟩, ?_⟩
      · exact (hown i hi).set4 (hb3.le l1) (by decide) _ _ _ _
      · exact (hl.trans l1).set4 (by omega) _ _ _ _

set_option maxRecDepth 4000 in
set_option maxHeartbeats 4000000 in
theorem refFdsLook (v : Value) (s : St) (k : Nat) (er : Int) (w : World) (hx : HasS w v s) (hf : Fit s) (hm : s.all rowMay2 = true) (hk : k < 4) :
    Calls Try.prog 20 #[.int .i64 1, v, opV 2 k 0, .int .i64 er] w fun e w' => ∃ v', e = .returned (.tuple #[v', .int .i64 ((s.at k).length : Int), .int .i64 0]) ∧ OwnS w' w.heap.size v' (s) ∧ Le w w' := by
  have hx0 := hx
  obtain ⟨vs, rfl, hr⟩ := hx
  have hl := ((Le.alloc w (.cells (cells4 vs) 25)).trans (Le.alloc _ (.cells #[.int .i64 2, .int .i64 k, .int .i64 0] 43))).trans (Le.alloc _ (.cells (cells4 fun _ => slZ) 25))
  have hb1 := ((Box.new w (cells4 vs) 25).le (Le.alloc _ (.cells #[.int .i64 2, .int .i64 k, .int .i64 0] 43))).le (Le.alloc _ (.cells (cells4 fun _ => slZ) 25))
  have hb2 := (Box.new (w.alloc (.cells (cells4 vs) 25)) #[.int .i64 2, .int .i64 k, .int .i64 0] 43).le (Le.alloc _ (.cells (cells4 fun _ => slZ) 25))
  have hb3 := Box.new ((w.alloc (.cells (cells4 vs) 25)).alloc (.cells #[.int .i64 2, .int .i64 k, .int .i64 0] 43)) (cells4 fun _ => slZ) 25
  simp only [World.size_alloc] at hb1 hb2 hb3
  have hmay := refStateMay1 (stV vs) s _ (hx0.le hl)
  rw [hm] at hmay
  have hop : opMay 2 k 0 = true := by simp [opMay]; omega
  have hsm := small2 hm
  go_enter Try.func20, Try.ntmps20
  go_wp2_with fail
  refine hmay.mono ?_
  rintro e w1 ⟨rfl, l1⟩
  obtain ⟨y0, y1, y2, _, _, _⟩ := (hb2.le l1).op
  clear hmay
  go_wp2_with fail
  refine (refOperMay _ _ _ _).mono ?_
  rw [hop]
  rintro e w2 ⟨rfl, l2⟩
  replace l1 := l1.trans l2
  clear l2 y0 y1 y2
  obtain ⟨y0, y1, y2, y3, _, _, _, _⟩ := (hb1.le l1).st
  go_wp2_with fail
  refine (refCopyState (stV vs) s _ (hx0.le (hl.trans l1)) hf).mono ?_
  rintro e w3 ⟨_, rfl, ⟨us, rfl, hown⟩, l3⟩
  replace hown := fun i hi => (hown i hi).base (base' := w.heap.size) (hl.trans l1).size
  replace l1 := l1.trans l3
  clear l3 y0 y1 y2 y3
  have n0 : w.heap.size + 1 + 1 < w3.heap.size := (hb3.le l1).lt
  have n1 : ¬ w.heap.size + 1 + 1 = w3.heap.size := by omega
  have n2 : ¬ w.heap.size + 1 + 1 = w.heap.size := by omega
  have n3 : ¬ w.heap.size + 1 + 1 = w.heap.size + 1 := by omega
  have hb4 := Box.new w3 (cells4 us) 25
  replace l1 := l1.trans (Le.alloc w3 (.cells (cells4 us) 25))
  replace hown := fun i hi => (hown i hi).le (Le.alloc w3 (.cells (cells4 us) 25))
  go_wp2_with fail
  generalize hW : w3.alloc (.cells (cells4 us) 25) = W at hb4 l1 hown ⊢
  clear hW
  go_loop [12, 13, 14] (fun t m i => ∃ j : Nat, j ≤ 4 ∧ i = .int .i64 j ∧ t = .int .i64 (sumTo s j) ∧ m = .int .i64 (manyTo s j)) (fun _ _ i => 4 - (intOf i).toNat)
  case atStart => exact ⟨0, by omega, rfl, rfl, rfl⟩
  case round =>
    obtain ⟨j, hj, rfl, rfl, rfl⟩ := hrel
    by_cases hlt : j < 4
    · have c1 : W.cell? ⟨w.heap.size, j, none⟩ = some (slV (vs j)) := ((hb1.le l1).cell j).trans (cells4_at vs hlt)
      obtain ⟨b0, b1⟩ := sumTo_small hsm j hj
      obtain ⟨b2, b3⟩ := manyTo_bounds (m := 4) (fun i hi => (hsm i hi).1) j hj
      obtain ⟨ad, cap, hv, hc, _, hcell⟩ := (hr j hlt).le (hl.trans l1)
      have hs : sumTo s (j + 1) = sumTo s j + sumOf (s.at j) (s.at j).length := by rw [sumOf_all]; rfl
      have hn : manyTo s (j + 1) = manyTo s j + (s.at j).length := rfl
      have hsj := hsm j hlt
      have hlj := hsj.1
      rw [hv] at c1
      obtain ⟨T, hT⟩ : ∃ T, T = sumTo s j := ⟨_, rfl⟩
      obtain ⟨M, hM⟩ : ∃ M, M = manyTo s j := ⟨_, rfl⟩
      obtain ⟨L, hL⟩ : ∃ L, L = (s.at j).length := ⟨_, rfl⟩
      rw [← hT] at b0 b1 hs ⊢
      rw [← hM] at b2 b3 hn ⊢
      rw [← hL] at c1 hc hcell hs hn hlj
      have HS : Hid (sumTo s (j + 1) = T + sumOf (s.at j) L) := hs
      have HN : Hid (manyTo s (j + 1) = M + L) := hn
      have HL : Hid (L = (s.at j).length) := hL
      clear hs hn hv hm hr hown hb1 hb2 hb3 hb4 hop n0 n1 n2 n3 hT hM hL hsm
      go_wp2
      go_loop [12, 15] (fun t i => ∃ m : Nat, m ≤ L ∧ i = .int .i64 m ∧ t = .int .i64 (T + sumOf (s.at j) m)) (fun _ i => L - (intOf i).toNat)
      case atStart => exact ⟨0, by omega, rfl, by simp [sumOf]⟩
      case round =>
        obtain ⟨m, hmL, rfl, rfl⟩ := hrel
        obtain ⟨d0, d1⟩ := hsj.sum m (by rw [← HL.out]; exact hmL)
        by_cases hlt2 : m < L
        · obtain ⟨b, off, rfl, hcl⟩ := hcell (by omega)
          have c2 := hcl m hlt2
          have hst := sumOf_step (xs := s.at j) (m := m) (by rw [← HL.out]; exact hlt2)
          obtain ⟨d2, d3⟩ := hsj.at (m := m) (by rw [← HL.out]; exact hlt2)
          obtain ⟨x, hx⟩ : ∃ x, x = (s.at j).getD m 0 := ⟨_, rfl⟩
          rw [← hx] at c2 hst d2 d3
          obtain ⟨t, ht⟩ : ∃ t, t = sumOf (s.at j) m := ⟨_, rfl⟩
          rw [← ht] at hst d0 d1 ⊢
          have HT : Hid (sumOf (s.at j) (m + 1) = t + x) := hst
          have m0 : (0 : Int) ≤ (m : Int) := by omega
          have m1 : (m : Int) < (L : Int) := by omega
          clear hst ht hx hcl hcell hsj
          go_wp2
          go_round
          case rel => exact ⟨m + 1, by omega, by go_num, by rw [HT.out, Int.add_assoc]⟩
          case measure => simp [intOf]; omega
        · obtain rfl : m = L := by omega
          clear hcell hsj
          go_wp2
          go_round
          case rel => exact ⟨j + 1, by omega, by go_num, by rw [HS.out], by rw [HN.out]⟩
          case measure => simp [intOf]; omega
    · obtain rfl : j = 4 := by omega
      clear hlt hj
      obtain ⟨y0, y1, y2, y3, _, _, _, _⟩ := hb4.st
      obtain ⟨z0, z1, z2, z3, f0, f1, f2, f3⟩ := (hb3.le l1).st
      obtain ⟨o0, o1, o2, _, _, _⟩ := (hb2.le l1).op
      have k0 : (0 : Int) ≤ (k : Int) := by omega
      have k1 : (k : Int) < 4 := by omega
      have yk : W.cell? ⟨w3.heap.size, k, none⟩ = some (slV (us k)) := (hb4.cell k).trans (cells4_at us hk)
      have hle : (us k).2.1 = (s.at k).length := by
        obtain ⟨ad, cap, e, _⟩ := (hown k hk).has
        simp only [Value.slice.injEq] at e
        exact e.2.1
      go_wp2_with fail
      refine bodyPost_ret (v := .tuple #[stV us, .int .i64 ((s.at k).length : Int), .int .i64 0]) (by simp [results, Try.results20, go_sem, z0, z1, z2, z3]) rfl ⟨_, rfl, ⟨us, rfl, fun i hi => ?_⟩, ?_⟩
      · exact (hown i hi).set4 (hb3.le l1) (by decide) _ _ _ _
      · exact (hl.trans l1).set4 (by omega) _ _ _ _

set_option maxRecDepth 4000 in
set_option maxHeartbeats 4000000 in
theorem refFdsFirst (v : Value) (s : St) (k : Nat) (a : Int) (er : Int) (w : World) (hx : HasS w v s) (hf : Fit s) (hm : s.all rowMay2 = true) (hk : k < 4) (ha : 0 ≤ a ∧ a ≤ 255) :
    Calls Try.prog 20 #[.int .i64 1, v, opV 0 k a, .int .i64 er] w fun e w' => ∃ v', e = .returned (.tuple #[v', .int .i64 (putS (s.at k)).2, .int .i64 0]) ∧ OwnS w' w.heap.size v' (s.put k (putS (s.at k)).1) ∧ Le w w' := by
  have hx0 := hx
  obtain ⟨vs, rfl, hr⟩ := hx
  have hl := ((Le.alloc w (.cells (cells4 vs) 25)).trans (Le.alloc _ (.cells #[.int .i64 0, .int .i64 k, .int .i64 a] 43))).trans (Le.alloc _ (.cells (cells4 fun _ => slZ) 25))
  have hb1 := ((Box.new w (cells4 vs) 25).le (Le.alloc _ (.cells #[.int .i64 0, .int .i64 k, .int .i64 a] 43))).le (Le.alloc _ (.cells (cells4 fun _ => slZ) 25))
  have hb2 := (Box.new (w.alloc (.cells (cells4 vs) 25)) #[.int .i64 0, .int .i64 k, .int .i64 a] 43).le (Le.alloc _ (.cells (cells4 fun _ => slZ) 25))
  have hb3 := Box.new ((w.alloc (.cells (cells4 vs) 25)).alloc (.cells #[.int .i64 0, .int .i64 k, .int .i64 a] 43)) (cells4 fun _ => slZ) 25
  simp only [World.size_alloc] at hb1 hb2 hb3
  have hmay := refStateMay1 (stV vs) s _ (hx0.le hl)
  rw [hm] at hmay
  have hop : opMay 0 k a = true := by simp [opMay]; omega
  have hsm := small2 hm
  go_enter Try.func20, Try.ntmps20
  go_wp2_with fail
  refine hmay.mono ?_
  rintro e w1 ⟨rfl, l1⟩
  obtain ⟨y0, y1, y2, _, _, _⟩ := (hb2.le l1).op
  clear hmay
  go_wp2_with fail
  refine (refOperMay _ _ _ _).mono ?_
  rw [hop]
  rintro e w2 ⟨rfl, l2⟩
  replace l1 := l1.trans l2
  clear l2 y0 y1 y2
  obtain ⟨y0, y1, y2, y3, _, _, _, _⟩ := (hb1.le l1).st
  go_wp2_with fail
  refine (refCopyState (stV vs) s _ (hx0.le (hl.trans l1)) hf).mono ?_
  rintro e w3 ⟨_, rfl, ⟨us, rfl, hown⟩, l3⟩
  replace hown := fun i hi => (hown i hi).base (base' := w.heap.size) (hl.trans l1).size
  replace l1 := l1.trans l3
  clear l3 y0 y1 y2 y3
  have n0 : w.heap.size + 1 + 1 < w3.heap.size := (hb3.le l1).lt
  have n1 : ¬ w.heap.size + 1 + 1 = w3.heap.size := by omega
  have n2 : ¬ w.heap.size + 1 + 1 = w.heap.size := by omega
  have n3 : ¬ w.heap.size + 1 + 1 = w.heap.size + 1 := by omega
  have hb4 := Box.new w3 (cells4 us) 25
  replace l1 := l1.trans (Le.alloc w3 (.cells (cells4 us) 25))
  replace hown := fun i hi => (hown i hi).le (Le.alloc w3 (.cells (cells4 us) 25))
  go_wp2_with fail
  generalize hW : w3.alloc (.cells (cells4 us) 25) = W at hb4 l1 hown ⊢
  clear hW
  go_loop [12, 13, 14] (fun t m i => ∃ j : Nat, j ≤ 4 ∧ i = .int .i64 j ∧ t = .int .i64 (sumTo s j) ∧ m = .int .i64 (manyTo s j)) (fun _ _ i => 4 - (intOf i).toNat)
  case atStart => exact ⟨0, by omega, rfl, rfl, rfl⟩
  case round =>
    obtain ⟨j, hj, rfl, rfl, rfl⟩ := hrel
    by_cases hlt : j < 4
    · have c1 : W.cell? ⟨w.heap.size, j, none⟩ = some (slV (vs j)) := ((hb1.le l1).cell j).trans (cells4_at vs hlt)
      obtain ⟨b0, b1⟩ := sumTo_small hsm j hj
      obtain ⟨b2, b3⟩ := manyTo_bounds (m := 4) (fun i hi => (hsm i hi).1) j hj
      obtain ⟨ad, cap, hv, hc, _, hcell⟩ := (hr j hlt).le (hl.trans l1)
      have hs : sumTo s (j + 1) = sumTo s j + sumOf (s.at j) (s.at j).length := by rw [sumOf_all]; rfl
      have hn : manyTo s (j + 1) = manyTo s j + (s.at j).length := rfl
      have hsj := hsm j hlt
      have hlj := hsj.1
      rw [hv] at c1
      obtain ⟨T, hT⟩ : ∃ T, T = sumTo s j := ⟨_, rfl⟩
      obtain ⟨M, hM⟩ : ∃ M, M = manyTo s j := ⟨_, rfl⟩
      obtain ⟨L, hL⟩ : ∃ L, L = (s.at j).length := ⟨_, rfl⟩
      rw [← hT] at b0 b1 hs ⊢
      rw [← hM] at b2 b3 hn ⊢
      rw [← hL] at c1 hc hcell hs hn hlj
      have HS : Hid (sumTo s (j + 1) = T + sumOf (s.at j) L) := hs
      have HN : Hid (manyTo s (j + 1) = M + L) := hn
      have HL : Hid (L = (s.at j).length) := hL
      clear hs hn hv hm hr hown hb1 hb2 hb3 hb4 hop n0 n1 n2 n3 hT hM hL hsm
      go_wp2
      go_loop [12, 15] (fun t i => ∃ m : Nat, m ≤ L ∧ i = .int .i64 m ∧ t = .int .i64 (T + sumOf (s.at j) m)) (fun _ i => L - (intOf i).toNat)
      case atStart => exact ⟨0, by omega, rfl, by simp [sumOf]⟩
      case round =>
        obtain ⟨m, hmL, rfl, rfl⟩ := hrel
        obtain ⟨d0, d1⟩ := hsj.sum m (by rw [← HL.out]; exact hmL)
        by_cases hlt2 : m < L
        · obtain ⟨b, off, rfl, hcl⟩ := hcell (by omega)
          have c2 := hcl m hlt2
          have hst := sumOf_step (xs := s.at j) (m := m) (by rw [← HL.out]; exact hlt2)
          obtain ⟨d2, d3⟩ := hsj.at (m := m) (by rw [← HL.out]; exact hlt2)
          obtain ⟨x, hx⟩ : ∃ x, x = (s.at j).getD m 0 := ⟨_, rfl⟩
          rw [← hx] at c2 hst d2 d3
          obtain ⟨t, ht⟩ : ∃ t, t = sumOf (s.at j) m := ⟨_, rfl⟩
          rw [← ht] at hst d0 d1 ⊢
          have HT : Hid (sumOf (s.at j) (m + 1) = t + x) := hst
          have m0 : (0 : Int) ≤ (m : Int) := by omega
          have m1 : (m : Int) < (L : Int) := by omega
          clear hst ht hx hcl hcell hsj
          go_wp2
          go_round
          case rel => exact ⟨m + 1, by omega, by go_num, by rw [HT.out, Int.add_assoc]⟩
          case measure => simp [intOf]; omega
        · obtain rfl : m = L := by omega
          clear hcell hsj
          go_wp2
          go_round
          case rel => exact ⟨j + 1, by omega, by go_num, by rw [HS.out], by rw [HN.out]⟩
          case measure => simp [intOf]; omega
    · obtain rfl : j = 4 := by omega
      clear hlt hj
      have k0 : (0 : Int) ≤ (k : Int) := by omega
      have k1 : (k : Int) < 4 := by omega
      have yk : W.cell? ⟨w3.heap.size, k, none⟩ = some (slV (us k)) := (hb4.cell k).trans (cells4_at us hk)
      obtain ⟨o0, o1, o2, _, _, _⟩ := (hb2.le l1).op
      have hrow := refFdsRow0 (slV (us k)) (s.at k) k a W w.heap.size (hown k hk) (hl.trans l1).size (St.all_at hm hk)
      go_wp2_with fail
      refine hrow.mono ?_
      rintro e w4 ⟨q, rfl, hnew, l4⟩
      clear o0 o1 o2 yk hrow
      replace l1 := l1.trans l4
      replace hb4 := hb4.le l4
      replace hown := fun i hi => (hown i hi).le l4
      have yk : w4.cell? ⟨w3.heap.size, k, none⟩ = some (slV (us k)) := (hb4.cell k).trans (cells4_at us hk)
      have yf := hb4.frozen k
      obtain ⟨o0, o1, o2, _, _, _⟩ := (hb2.le l1).op
      go_upto_region 30 with fail
      replace hown := fun i hi => (hown i hi).setBox (i := k) (u := slV q) hb4 (by decide)
      replace hnew := hnew.setBox (i := k) (u := slV q) hb4 (by decide)
      replace hb4 := hb4.set k (slV q)
      rw [cells4_upd us hk] at hb4
      replace l1 : Le _ (w4.setCell ⟨w3.heap.size, k, none⟩ (slV q)) := Below.setCell l1 (by simp only [World.size_alloc]; show w.heap.size + 1 + 1 + 1 ≤ w3.heap.size; omega) _
      clear o0 o1 o2 yk yf
      generalize hW2 : w4.setCell ⟨w3.heap.size, k, none⟩ (slV q) = W2 at hb4 l1 hown hnew ⊢
      replace hown : ∀ i, i < 4 → Own W2 w.heap.size (slV (upd us k q i)) ((s.put k (putS (s.at k)).1).at i) := by
        intro i hi
        rw [St.at_put hk hi]
        by_cases e : i = k
        · rw [if_pos e, show upd us k q i = q by simp [upd, e]]; exact hnew
        · rw [if_neg e, show upd us k q i = us i by simp [upd, e]]; exact hown i hi
      generalize upd us k q = us at hb4 hown
      clear hW2 hnew
      obtain ⟨y0, y1, y2, y3, _, _, _, _⟩ := hb4.st
      obtain ⟨z0, z1, z2, z3, f0, f1, f2, f3⟩ := (hb3.le l1).st
      go_wp2_with fail
      refine bodyPost_ret (v := .tuple #[stV us, .int .i64 (putS (s.at k)).2, .int .i64 0]) (by simp [results, Try.results20, go_sem, z0, z1, z2, z3]) rfl ⟨_, rfl, ⟨us, rfl, fun i hi => ?_⟩, ?_⟩
      · exact (hown i hi).set4 (hb3.le l1) (by decide) _ _ _ _
      · exact (hl.trans l1).set4 (by omega) _ _ _ _

set_option maxRecDepth 4000 in
set_option maxHeartbeats 4000000 in
theorem refFdsSecond (v : Value) (s : St) (k : Nat) (a : Int) (er : Int) (w : World) (hx : HasS w v s) (hf : Fit s) (hm : s.all rowMay2 = true) (hk : k < 4) (ha : 0 ≤ a ∧ a ≤ 255) :
    Calls Try.prog 20 #[.int .i64 1, v, opV 1 k a, .int .i64 er] w fun e w' => ∃ v', e = .returned (.tuple #[v', .int .i64 (takeS (s.at k) a).2, .int .i64 0]) ∧ OwnS w' w.heap.size v' (s.put k (takeS (s.at k) a).1) ∧ Le w w' := by
  have hx0 := hx
  obtain ⟨vs, rfl, hr⟩ := hx
  have hl := ((Le.alloc w (.cells (cells4 vs) 25)).trans (Le.alloc _ (.cells #[.int .i64 1, .int .i64 k, .int .i64 a] 43))).trans (Le.alloc _ (.cells (cells4 fun _ => slZ) 25))
  have hb1 := ((Box.new w (cells4 vs) 25).le (Le.alloc _ (.cells #[.int .i64 1, .int .i64 k, .int .i64 a] 43))).le (Le.alloc _ (.cells (cells4 fun _ => slZ) 25))
  have hb2 := (Box.new (w.alloc (.cells (cells4 vs) 25)) #[.int .i64 1, .int .i64 k, .int .i64 a] 43).le (Le.alloc _ (.cells (cells4 fun _ => slZ) 25))
  have hb3 := Box.new ((w.alloc (.cells (cells4 vs) 25)).alloc (.cells #[.int .i64 1, .int .i64 k, .int .i64 a] 43)) (cells4 fun _ => slZ) 25
  simp only [World.size_alloc] at hb1 hb2 hb3
  have hmay := refStateMay1 (stV vs) s _ (hx0.le hl)
  rw [hm] at hmay
  have hop : opMay 1 k a = true := by simp [opMay]; omega
  have hsm := small2 hm
  go_enter Try.func20, Try.ntmps20
  go_wp2_with fail
  refine hmay.mono ?_
  rintro e w1 ⟨rfl, l1⟩
  obtain ⟨y0, y1, y2, _, _, _⟩ := (hb2.le l1).op
  clear hmay
  go_wp2_with fail
  refine (refOperMay _ _ _ _).mono ?_
  rw [hop]
  rintro e w2 ⟨rfl, l2⟩
  replace l1 := l1.trans l2
  clear l2 y0 y1 y2
  obtain ⟨y0, y1, y2, y3, _, _, _, _⟩ := (hb1.le l1).st
  go_wp2_with fail
  refine (refCopyState (stV vs) s _ (hx0.le (hl.trans l1)) hf).mono ?_
  rintro e w3 ⟨_, rfl, ⟨us, rfl, hown⟩, l3⟩
  replace hown := fun i hi => (hown i hi).base (base' := w.heap.size) (hl.trans l1).size
  replace l1 := l1.trans l3
  clear l3 y0 y1 y2 y3
  have n0 : w.heap.size + 1 + 1 < w3.heap.size := (hb3.le l1).lt
  have n1 : ¬ w.heap.size + 1 + 1 = w3.heap.size := by omega
  have n2 : ¬ w.heap.size + 1 + 1 = w.heap.size := by omega
  have n3 : ¬ w.heap.size + 1 + 1 = w.heap.size + 1 := by omega
  have hb4 := Box.new w3 (cells4 us) 25
  replace l1 := l1.trans (Le.alloc w3 (.cells (cells4 us) 25))
  replace hown := fun i hi => (hown i hi).le (Le.alloc w3 (.cells (cells4 us) 25))
  go_wp2_with fail
  generalize hW : w3.alloc (.cells (cells4 us) 25) = W at hb4 l1 hown ⊢
  clear hW
  go_loop [12, 13, 14] (fun t m i => ∃ j : Nat, j ≤ 4 ∧ i = .int .i64 j ∧ t = .int .i64 (sumTo s j) ∧ m = .int .i64 (manyTo s j)) (fun _ _ i => 4 - (intOf i).toNat)
  case atStart => exact ⟨0, by omega, rfl, rfl, rfl⟩
  case round =>
    obtain ⟨j, hj, rfl, rfl, rfl⟩ := hrel
    by_cases hlt : j < 4
    · have c1 : W.cell? ⟨w.heap.size, j, none⟩ = some (slV (vs j)) := ((hb1.le l1).cell j).trans (cells4_at vs hlt)
      obtain ⟨b0, b1⟩ := sumTo_small hsm j hj
      obtain ⟨b2, b3⟩ := manyTo_bounds (m := 4) (fun i hi => (hsm i hi).1) j hj
      obtain ⟨ad, cap, hv, hc, _, hcell⟩ := (hr j hlt).le (hl.trans l1)
      have hs : sumTo s (j + 1) = sumTo s j + sumOf (s.at j) (s.at j).length := by rw [sumOf_all]; rfl
      have hn : manyTo s (j + 1) = manyTo s j + (s.at j).length := rfl
      have hsj := hsm j hlt
      have hlj := hsj.1
      rw [hv] at c1
      obtain ⟨T, hT⟩ : ∃ T, T = sumTo s j := ⟨_, rfl⟩
      obtain ⟨M, hM⟩ : ∃ M, M = manyTo s j := ⟨_, rfl⟩
      obtain ⟨L, hL⟩ : ∃ L, L = (s.at j).length := ⟨_, rfl⟩
      rw [← hT] at b0 b1 hs ⊢
      rw [← hM] at b2 b3 hn ⊢
      rw [← hL] at c1 hc hcell hs hn hlj
      have HS : Hid (sumTo s (j + 1) = T + sumOf (s.at j) L) := hs
      have HN : Hid (manyTo s (j + 1) = M + L) := hn
      have HL : Hid (L = (s.at j).length) := hL
      clear hs hn hv hm hr hown hb1 hb2 hb3 hb4 hop n0 n1 n2 n3 hT hM hL hsm
      go_wp2
      go_loop [12, 15] (fun t i => ∃ m : Nat, m ≤ L ∧ i = .int .i64 m ∧ t = .int .i64 (T + sumOf (s.at j) m)) (fun _ i => L - (intOf i).toNat)
      case atStart => exact ⟨0, by omega, rfl, by simp [sumOf]⟩
      case round =>
        obtain ⟨m, hmL, rfl, rfl⟩ := hrel
        obtain ⟨d0, d1⟩ := hsj.sum m (by rw [← HL.out]; exact hmL)
        by_cases hlt2 : m < L
        · obtain ⟨b, off, rfl, hcl⟩ := hcell (by omega)
          have c2 := hcl m hlt2
          have hst := sumOf_step (xs := s.at j) (m := m) (by rw [← HL.out]; exact hlt2)
          obtain ⟨d2, d3⟩ := hsj.at (m := m) (by rw [← HL.out]; exact hlt2)
          obtain ⟨x, hx⟩ : ∃ x, x = (s.at j).getD m 0 := ⟨_, rfl⟩
          rw [← hx] at c2 hst d2 d3
          obtain ⟨t, ht⟩ : ∃ t, t = sumOf (s.at j) m := ⟨_, rfl⟩
          rw [← ht] at hst d0 d1 ⊢
          have HT : Hid (sumOf (s.at j) (m + 1) = t + x) := hst
          have m0 : (0 : Int) ≤ (m : Int) := by omega
          have m1 : (m : Int) < (L : Int) := by omega
          clear hst ht hx hcl hcell hsj
          go_wp2
          go_round
          case rel => exact ⟨m + 1, by omega, by go_num, by rw [HT.out, Int.add_assoc]⟩
          case measure => simp [intOf]; omega
        · obtain rfl : m = L := by omega
          clear hcell hsj
          go_wp2
          go_round
          case rel => exact ⟨j + 1, by omega, by go_num, by rw [HS.out], by rw [HN.out]⟩
          case measure => simp [intOf]; omega
    · obtain rfl : j = 4 := by omega
      clear hlt hj
      have k0 : (0 : Int) ≤ (k : Int) := by omega
      have k1 : (k : Int) < 4 := by omega
      have yk : W.cell? ⟨w3.heap.size, k, none⟩ = some (slV (us k)) := (hb4.cell k).trans (cells4_at us hk)
      obtain ⟨o0, o1, o2, _, _, _⟩ := (hb2.le l1).op
      have hrow := refFdsRow1 (slV (us k)) (s.at k) k a W w.heap.size (hown k hk) (hl.trans l1).size (St.all_at hm hk)
      go_wp2_with fail
      refine hrow.mono ?_
      rintro e w4 ⟨q, rfl, hnew, l4⟩
      clear o0 o1 o2 yk hrow
      replace l1 := l1.trans l4
      replace hb4 := hb4.le l4
      replace hown := fun i hi => (hown i hi).le l4
      have yk : w4.cell? ⟨w3.heap.size, k, none⟩ = some (slV (us k)) := (hb4.cell k).trans (cells4_at us hk)
      have yf := hb4.frozen k
      obtain ⟨o0, o1, o2, _, _, _⟩ := (hb2.le l1).op
      go_upto_region 30 with fail
      replace hown := fun i hi => (hown i hi).setBox (i := k) (u := slV q) hb4 (by decide)
      replace hnew := hnew.setBox (i := k) (u := slV q) hb4 (by decide)
      replace hb4 := hb4.set k (slV q)
      rw [cells4_upd us hk] at hb4
      replace l1 : Le _ (w4.setCell ⟨w3.heap.size, k, none⟩ (slV q)) := Below.setCell l1 (by simp only [World.size_alloc]; show w.heap.size + 1 + 1 + 1 ≤ w3.heap.size; omega) _
      clear o0 o1 o2 yk yf
      generalize hW2 : w4.setCell ⟨w3.heap.size, k, none⟩ (slV q) = W2 at hb4 l1 hown hnew ⊢
      replace hown : ∀ i, i < 4 → Own W2 w.heap.size (slV (upd us k q i)) ((s.put k (takeS (s.at k) a).1).at i) := by
        intro i hi
        rw [St.at_put hk hi]
        by_cases e : i = k
        · rw [if_pos e, show upd us k q i = q by simp [upd, e]]; exact hnew
        · rw [if_neg e, show upd us k q i = us i by simp [upd, e]]; exact hown i hi
      generalize upd us k q = us at hb4 hown
      clear hW2 hnew
      obtain ⟨y0, y1, y2, y3, _, _, _, _⟩ := hb4.st
      obtain ⟨z0, z1, z2, z3, f0, f1, f2, f3⟩ := (hb3.le l1).st
      go_wp2_with fail
      refine bodyPost_ret (v := .tuple #[stV us, .int .i64 (takeS (s.at k) a).2, .int .i64 0]) (by simp [results, Try.results20, go_sem, z0, z1, z2, z3]) rfl ⟨_, rfl, ⟨us, rfl, fun i hi => ?_⟩, ?_⟩
      · exact (hown i hi).set4 (hb3.le l1) (by decide) _ _ _ _
      · exact (hl.trans l1).set4 (by omega) _ _ _ _

theorem refFds (v : Value) (s : St) (c r a er : Int) (w : World) (hx : HasS w v s) (hf : Fit s) :
    Calls Try.prog 20 #[.int .i64 1, v, opV c r a, .int .i64 er] w fun e w' => ∃ v', e = .returned (.tuple #[v', .int .i64 (fdsS s c r a er).2.1, .int .i64 (fdsS s c r a er).2.2]) ∧ OwnS w' w.heap.size v' (fdsS s c r a er).1 ∧ Le w w' := by
  cases h : s.all rowMay2 && opMay c r a
  · rw [fdsS_no h]
    exact (refFdsNo v s c r a er w hx hf h).mono fun e w' ⟨he, hl⟩ => ⟨stZ, he, OwnS.zero _ _, hl⟩
  · obtain ⟨hm, ho⟩ := Bool.and_eq_true_iff.mp h
    rcases opMay_cases ho with ⟨k, hk, rfl, rfl, ha⟩ | ⟨k, hk, rfl, rfl, ha⟩ | ⟨k, hk, rfl, rfl, rfl⟩ | ⟨rfl, rfl, rfl⟩
    · rw [fdsS_first hm hk ha]; exact refFdsFirst v s k a er w hx hf hm hk ha
    · rw [fdsS_second hm hk ha]; exact refFdsSecond v s k a er w hx hf hm hk ha
    · rw [fdsS_look hm hk]; exact refFdsLook v s k er w hx hf hm hk
    · rw [fdsS_scan hm]; exact refFdsScan v s er w hx hf hm

end Go.Proofs.Ytnpejgendmgfaaa

/-
  THE WALKS over the document's own rowMay, StateMay, queueRow, at a queue: what they answer, for every row and state. Condition: where memory is made, that the rows can be copied, and are short.
-/
namespace Go.Proofs.Ytnpejgendmgfaaa
open Go.RowKit

theorem rowMay3_eq (xs : List Int) : rowMay3 xs = (xs.all argB && decide (xs.length ≤ 4)) := by rw [rowMay3, Bool.and_comm]

set_option maxHeartbeats 400000 in
theorem refRowMay2 (v : Value) (xs : List Int) (w : World) (hx : Has w v xs) (hm : xs.length * 8 ≤ 140737488351232) :
    Calls Try.prog 31 #[.int .i64 2, v] w fun e w' => e = .returned (.bool (rowMay3 xs)) ∧ Le w w' := by
  have hl := Le.alloc w (.cells #[.int .i64 1, .int .i64 4, .int .i64 4] 3)
  obtain ⟨a, cap, rfl, hc, _, hx⟩ := hx
  rw [rowMay3_eq]
  by_cases h0 : 0 < xs.length
  · obtain ⟨b, off, rfl, hcell⟩ := hx h0
    obtain ⟨L, hL⟩ : ∃ L, L = xs.length := ⟨_, rfl⟩
    rw [← hL] at hm hc hcell h0 ⊢
    have HL : Hid (L = xs.length) := hL
    clear hL hx
    go_enter Try.func31, Try.ntmps31
    go_wp2
    go_loopw [6] (fun i wr => ∃ k : Nat, k ≤ L ∧ i = .int .i64 k ∧ Hid ((xs.take k).all argB = true) ∧ Le (w.alloc (.cells #[.int .i64 1, .int .i64 4, .int .i64 4] 3)) wr) (fun i _ => L - (intOf i).toNat)
    case atStart => exact ⟨0, Nat.zero_le _, rfl, rfl, Le.refl _⟩
    case round =>
      obtain ⟨k, hk, rfl, HA, hle⟩ := hrel
      by_cases hlt : k < L
      · obtain ⟨x, hxk⟩ : ∃ x, x = xs.getD k 0 := ⟨_, rfl⟩
        have hcx := hcell k hlt
        rw [← hxk] at hcx
        have c1 : ∀ X : Later wr, X.w.cell? ⟨b, off + k, none⟩ = some (.int .i64 x) := fun X => by
          have hb := World.block_lt_of_cell? w _ hcx
          rw [((hl.trans hle).trans X.le).cell (p := ⟨b, off + k, none⟩) hb]; exact hcx
        have HX : Hid (x = xs.getD k 0) := hxk
        clear hxk hcell hcx
        cases hh : argB x
        · have hup := fun w' => refUpTo x 0 255 w'
          have hh' : (decide (0 ≤ x) && decide (x ≤ 255)) = false := hh
          simp only [hh'] at hup
          go_wp2_with fail
          refine wp_region_later (by kernel_rfl) (by kernel_rfl) ?_
          repeat (go_big_quiet_step (first | (go_at_call 35; exact Calls.later_same (hup _))))
          refine wpQuiet_nil ?_
          rintro _ ⟨y, rfl⟩
          go_wp2
          go_ret
          exact ⟨ret_bool (by rw [all_bad (p := argB) (k := k) (by rw [← HL.out]; exact hlt) (HX.out ▸ hh)]; rfl), (hl.trans hle).trans y.le⟩
        · have hup := fun w' => refUpTo x 0 255 w'
          have hh' : (decide (0 ≤ x) && decide (x ≤ 255)) = true := hh
          simp only [hh'] at hup
          go_wp2_with fail
          refine wp_region_later (by kernel_rfl) (by kernel_rfl) ?_
          repeat (go_big_quiet_step (first | (go_at_call 35; exact Calls.later_same (hup _))))
          refine wpQuiet_nil ?_
          rintro _ ⟨y, rfl⟩
          go_wp2
          go_roundw
          case rel => exact ⟨k + 1, by omega, by go_num, by rw [all_take (by rw [← HL.out]; exact hlt), HA.out, ← HX.out, hh]; rfl, hle.trans y.le⟩
          case measure => simp [intOf]; omega
      · go_wp2
        go_ret
        refine ⟨ret_bool ?_, hl.trans hle⟩
        have := HA.out
        rw [List.take_of_length_le (by have := HL.out; omega)] at this
        rw [this, Bool.true_and, decide_eq_decide]
        omega
  · have hnil : xs = [] := by cases xs with | nil => rfl | cons _ _ => simp at h0
    subst hnil
    go_enter Try.func31, Try.ntmps31
    go_wp2
    refine wp_loop_rounds 1 ?_
    rw [rounds_succ]
    go_wp2
    go_ret
    exact ⟨ret_bool (by simp), hl⟩

set_option maxHeartbeats 400000 in
theorem refStateMay2 (v : Value) (s : St) (w : World) (hx : HasS w v s) (hf : Fit s) :
    Calls Try.prog 21 #[.int .i64 2, v] w fun e w' => e = .returned (.bool (s.all rowMay3)) ∧ Le w w' := by
  obtain ⟨vs, rfl, hr⟩ := hx
  have hl := Le.alloc w (.cells (cells4 vs) 25)
  have hb := Box.new w (cells4 vs) 25
  go_enter Try.func21, Try.ntmps21
  go_wp2
  go_loopw [5] (fun i wr => ∃ k : Nat, k ≤ 4 ∧ i = .int .i64 k ∧ Hid (∀ j, j < k → rowMay3 (s.at j) = true) ∧ Le (w.alloc (.cells (cells4 vs) 25)) wr) (fun i _ => 4 - (intOf i).toNat)
  case atStart => exact ⟨0, by omega, rfl, (fun j hj => by omega), Le.refl _⟩
  case round =>
    obtain ⟨k, hk, rfl, HA, hle⟩ := hrel
    by_cases hlt : k < 4
    · have hm := refRowMay2 (slV (vs k)) (s.at k) wr ((hr k hlt).le (hl.trans hle)) (hf k hlt)
      have c1 : wr.cell? ⟨w.heap.size, k, none⟩ = some (slV (vs k)) := ((hb.le hle).cell k).trans (cells4_at vs hlt)
      cases hh : rowMay3 (s.at k)
      · rw [hh] at hm
        go_wp2_with fail
        refine hm.mono ?_
        rintro e w1 ⟨rfl, l1⟩
        go_wp2
        go_ret
        exact ⟨ret_bool (St.all_not hlt hh).symm, (hl.trans hle).trans l1⟩
      · rw [hh] at hm
        go_wp2_with fail
        refine hm.mono ?_
        rintro e w1 ⟨rfl, l1⟩
        go_wp2
        go_roundw
        case rel => exact ⟨k + 1, by omega, by go_num, (fun j hj => by rcases Nat.lt_or_eq_of_le (Nat.le_of_lt_succ hj) with h | h; exact HA.out j h; exact h ▸ hh), hle.trans l1⟩
        case measure => simp [intOf]; omega
    · obtain rfl : k = 4 := by omega
      go_wp2
      go_ret
      exact ⟨ret_bool (St.all_of HA.out).symm, hl.trans hle⟩

set_option maxHeartbeats 1000000 in
theorem refQueueRow0 (v : Value) (xs : List Int) (r a : Int) (w : World) (base : Nat) (hown : Own w base v xs) (hbase : base ≤ w.heap.size) (hm : rowMay3 xs = true) :
    Calls Try.prog 30 #[v, opV 0 r a] w fun e w' => ∃ q : Sl, e = .returned (.tuple #[slV q, .int .i64 (enqS xs a).2]) ∧ Own w' base (slV q) (enqS xs a).1 ∧ Le w w' := by
  have hl := Le.alloc w (.cells #[.int .i64 0, .int .i64 r, .int .i64 a] 43)
  have hb := Box.new w #[.int .i64 0, .int .i64 r, .int .i64 a] 43
  have hlen := rowMay3_len hm
  have hown0 := hown
  obtain ⟨ad, cap, rfl, hc, _, hx⟩ := hown.has
  by_cases h4 : 4 ≤ xs.length
  · have HP : Hid (enqS xs a = (xs, 0)) := hid (by simp [enqS, h4])
    have h5 : (4 : Int) ≤ (xs.length : Int) := by omega
    clear hx
    go_enter Try.func30, Try.ntmps30
    go_wp2
    go_ret2
    rw [HP.out]
    exact ⟨(ad, xs.length, cap), rfl, hown.le hl, hl⟩
  · have HP : Hid (enqS xs a = (xs ++ [a], 1)) := hid (by simp [enqS, h4])
    have h5 : ¬ (4 : Int) ≤ (xs.length : Int) := by omega
    clear hx
    go_enter Try.func30, Try.ntmps30
    go_upto_region 4 with fail
    generalize hW : w.alloc (.cells #[.int .i64 0, .int .i64 r, .int .i64 a] 43) = W at hl hb ⊢
    clear hW
    have hA := Le.alloc W (.cells #[] 3)
    have hn1 : Own (W.alloc (.cells #[] 3)) W.heap.size (.slice (some ⟨W.heap.size, 0, none⟩) 0 0) [] := Own.lit W _ (Nat.le_refl _) [] (by decide)
    go_upto_region 5 with (at_builtin; refine wp_append_ints rfl _ _ rfl W.heap.size _ _ [] xs rfl rfl hn1 (hown0.has.le (hl.trans hA)) (by simp; omega) (by simp) ?_; intro v' w2 hown2 hgrow; rw [List.nil_append] at hown2; obtain ⟨q2, rfl⟩ := hown2.has.sl)
    have l2 : Le W w2 := Below.grown hA hgrow (by simp) (fun g e => by cases e; exact Nat.le_refl _)
    obtain ⟨o0, o1, o2, _, _, _⟩ := (hb.le l2).op
    have hA2 := Le.alloc w2 (.cells #[.int .i64 a] 3)
    have hone : Own (w2.alloc (.cells #[.int .i64 a] 3)) w2.heap.size (slV (some ⟨w2.heap.size, 0, none⟩, 1, 1)) [a] := Own.lit w2 _ (Nat.le_refl _) [a] (by simp)
    go_wp2_with (at_builtin; refine wp_append_ints rfl _ _ rfl W.heap.size _ _ xs [a] rfl rfl (hown2.le hA2) hone.has (by simp; omega) (Nat.le_trans l2.size hA2.size) ?_; intro v' w3 hown3 hgrow3; obtain ⟨q3, rfl⟩ := hown3.has.sl)
    go_ret2
    rw [HP.out]
    exact ⟨q3.1, q3.2.1, q3.2.2, rfl, hown3.base (Nat.le_trans hbase hl.size), hl.trans (Below.grown (l2.trans hA2) hgrow3 (Nat.le_trans l2.size hA2.size) (fun g e => (hown2.block e).1))⟩

set_option maxHeartbeats 1000000 in
theorem refQueueRow1 (v : Value) (xs : List Int) (r a : Int) (w : World) (base : Nat) (hown : Own w base v xs) (hbase : base ≤ w.heap.size) (hm : rowMay3 xs = true) :
    Calls Try.prog 30 #[v, opV 1 r a] w fun e w' => ∃ q : Sl, e = .returned (.tuple #[slV q, .int .i64 (deqS xs).2]) ∧ Own w' base (slV q) (deqS xs).1 ∧ Le w w' := by
  have hl := Le.alloc w (.cells #[.int .i64 1, .int .i64 r, .int .i64 a] 43)
  have hlen := rowMay3_len hm
  obtain ⟨ad, cap, rfl, hc, _, hx⟩ := hown.has
  match xs, hlen, hc, hx with
  | [], hlen, hc, hx =>
    go_enter Try.func30, Try.ntmps30
    go_wp2
    go_ret2
    exact ⟨slZ, rfl, Own.nil _ _, hl⟩
  | x :: zs, hlen, hc, hx =>
    obtain ⟨b, off, rfl, hcell⟩ := hx (by simp)
    have c0 : w.cell? ⟨b, off, none⟩ = some (.int .i64 x) := hcell 0 (by simp)
    obtain ⟨n, hn⟩ : ∃ n, n = zs.length := ⟨_, rfl⟩
    obtain ⟨A, hAe, hB⟩ : ∃ A, (if cap = 1 then some ⟨b, off, none⟩ else some ⟨b, off + 1, none⟩ : Option Addr) = A ∧ Has w (.slice A n (cap - 1)) zs := by
      refine ⟨_, rfl, _, _, by rw [← hn], by simp at hc; omega, (fun h => by split at h <;> cases h), fun hp => ?_⟩
      simp only [List.length_cons] at hc
      rw [if_neg (by omega)]
      refine ⟨b, off + 1, rfl, fun j hj => ?_⟩
      have := hcell (j + 1) (by simp; omega)
      rw [Nat.add_assoc, Nat.add_comm 1 j, this]
      rfl
    have HN : Hid (n = zs.length) := hn
    simp only [List.length_cons] at hc hlen ⊢
    rw [← hn] at hc hlen ⊢
    have n0 : ¬ (((n + 1 : Nat) : Int)) = 0 := by omega
    have n1 : (1 : Int) ≤ (n : Int) + 1 := by omega
    clear hx hcell hn
    go_enter Try.func30, Try.ntmps30
    go_upto_region 9 with fail
    replace c0 : (w.alloc (.cells #[.int .i64 1, .int .i64 r, .int .i64 a] 43)).cell? ⟨b, off, none⟩ = some (.int .i64 x) := by rw [hl.cell (p := ⟨b, off, none⟩) (World.block_lt_of_cell? w _ c0)]; exact c0
    replace hB := hB.le hl
    generalize hW : w.alloc (.cells #[.int .i64 1, .int .i64 r, .int .i64 a] 43) = W at hl c0 hB ⊢
    clear hW
    have hlt := World.block_lt_of_cell? W _ c0
    have hne : ¬ W.heap.size = b := by have : b < W.heap.size := hlt; omega
    have hA := (Le.drew W).trans (Le.alloc W.drew (.cells #[] 3))
    have hn1 : Own (W.drew.alloc (.cells #[] 3)) W.heap.size (.slice (some ⟨W.heap.size, 0, none⟩) 0 0) [] := Own.lit W.drew _ (Nat.le_refl _) [] (by decide)
    go_region_law ((refine step_append_ints rfl (.tmp 26) (.tmp 28) rfl W.heap.size (.slice (some ⟨W.heap.size, 0, none⟩) 0 0) (.slice A n (cap - 1)) [] zs (by simp [Act.eval]) (by simp [Act.eval]) hn1 (hB.le hA) (by simp; have := HN.out; omega) hA.size ?_; intro v1 w1 o1 g1; have l1 : Le W w1 := Below.grown hA g1 hA.size (fun g e => (by cases e; exact Nat.le_refl _)); have c1 : w1.cell? ⟨b, off, none⟩ = some (.int .i64 x) := (by rw [l1.cell (p := ⟨b, off, none⟩) hlt]; exact c0); rw [List.nil_append] at o1; obtain ⟨q1, rfl⟩ := o1.has.sl))
    all_goals
      go_wp2
      go_ret2
      exact ⟨q1.1, q1.2.1, q1.2.2, rfl, o1.base (Nat.le_trans hbase hl.size), hl.trans l1⟩

end Go.Proofs.Ytnpejgendmgfaaa
