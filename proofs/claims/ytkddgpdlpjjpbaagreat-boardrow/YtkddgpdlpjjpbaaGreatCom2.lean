/-
  PARTS LAID TOGETHER, each with its own opening: StPut2, Cnt, FdsB, FdsC, FdsD, QueA, QueB, QueC, ObjS, McS, RfB, CfR, RmA, RefCp, RefStA, RefSum, RefApp0, RefRow1, RefRow2, RefApp1, RefRow3, RefApp2, RefObj, SpoilA, LmA, LmT, LmBa, LmBb, LmBc, LmBd, LmBe, LmBf, LmBg, LmBh, LmBi, LmBj, LmBk, LmBl, LmBm, LmB, LmC, LmF, RmB, RmC, RmD, RgG.
-/
import Derived.Test.YtkddgpdlpjjpbaaGreatCom1
import Derived.Deep.Cut
import Derived.Deep.RegionHeld3
import Derived.Deep.CutRange
import Derived.BigRegion
/-
  PLAIN GROUND, NO WALK: a state with another row, again and again. No condition.
-/
namespace Go.Proofs.YtkddgpdlpjjpbaaGreat

theorem St.put_put {s : St} {k : Nat} {x y : List Int} : (s.put k x).put k y = s.put k y := by
  match k with
  | 0 => rfl
  | 1 => rfl
  | 2 => rfl
  | _ + 3 => rfl
theorem St.zero_put {k : Nat} : St.zero.put k [] = St.zero := by
  unfold St.put; split <;> rfl
theorem St.put_at {s : St} {k : Nat} (hk : k < 4) {x : List Int} : (s.put k x).at k = x := by
  rw [St.at_put hk hk]; simp
theorem St.put_same {s : St} {k : Nat} (hk : k < 4) : s.put k (s.at k) = s :=
  St.ext_at fun i hi => by rw [St.at_put hk hi]; split <;> simp_all
theorem fit_small {s : St} (h : s.r0.length ≤ 100 ∧ s.r1.length ≤ 100 ∧ s.r2.length ≤ 100 ∧ s.r3.length ≤ 100) : Fit s := by
  intro i hi
  rcases four hi with rfl | rfl | rfl | rfl <;> simp only [St.at] <;> omega

end Go.Proofs.YtkddgpdlpjjpbaaGreat

/-
  THE WALKS over package states' Counted: the state that an operation makes, and its answer, for every two functions that make another row of one, in the call's own memory. Condition: the state's rows can be copied, and are short.
-/
namespace Go.Proofs.YtkddgpdlpjjpbaaGreat
open Go.RowKit

/-- The function f makes the row F of a row of the call's own, and answers a number; nothing else turns. -/
structure TurnsRow (f : Nat) (F : List Int → Int → List Int × Int) : Prop where
  enter : ∀ (u x : Value) (w : World), (callFunc f #[u, x]).run Tryz.prog w = .ok (.enter f #[u, x]) w
  calls : ∀ (v : Value) (base : Nat) (xs : List Int) (a : Int) (w : World), Own w base v xs → base ≤ w.heap.size → xs.length ≤ 4 → 0 ≤ a ∧ a ≤ 255 →
    Calls Tryz.prog f #[v, .int .i64 a] w fun e w' => ∃ v', e = .returned (.tuple #[v', .int .i64 (F xs a).2]) ∧ Own w' base v' (F xs a).1 ∧ w.grownBy w' v.ownBlock

theorem Le.grownBy {w w' : World} (h : Le w w') (row : Option Nat) : w.grownBy w' row := ⟨h.os, h.tape, h.output, h.size, fun k hk _ => h.block k hk⟩

set_option maxHeartbeats 2000000 in
theorem countedFirst (f g : Nat) (F : List Int → Int → List Int × Int) (hF : TurnsRow f F) (v : Value) (s : St) (k : Nat) (a : Int) (w : World) (hx : HasS w v s) (hf : Fit s) (hlen : ∀ j, j < 4 → (s.at j).length ≤ 4) (hk : k < 4) (ha : 0 ≤ a ∧ a ≤ 255) :
    Calls Tryz.prog 135 #[v, opV 0 k a, .func (.func f) #[] #[], .func (.func g) #[] #[]] w fun e w' => ∃ v', e = .returned (.tuple #[v', .int .i64 (F (s.at k) a).2]) ∧ OwnS w' w.heap.size v' (s.put k (F (s.at k) a).1) ∧ Le w w' := by
  have hx0 := hx
  obtain ⟨vs, rfl, hr⟩ := hx
  have hl := ((Le.alloc w (.cells (cells4 vs) 71)).trans (Le.alloc _ (.cells #[.int .i64 0, .int .i64 k, .int .i64 a] 59))).trans (Le.alloc _ (.cells (cells4 fun _ => slZ) 71))
  have hb2 := (Box.new (w.alloc (.cells (cells4 vs) 71)) #[.int .i64 0, .int .i64 k, .int .i64 a] 59).le (Le.alloc _ (.cells (cells4 fun _ => slZ) 71))
  have hb3 := Box.new ((w.alloc (.cells (cells4 vs) 71)).alloc (.cells #[.int .i64 0, .int .i64 k, .int .i64 a] 59)) (cells4 fun _ => slZ) 71
  simp only [World.size_alloc] at hb2 hb3
  go_enter Tryz.func135, Tryz.ntmps135
  go_wp2_with fail
  refine (statesCopy (stV vs) s _ (hx0.le hl) hf).mono ?_
  rintro e w3 ⟨us, rfl, hown, hap, l1⟩
  replace hown := fun i hi => (hown i hi).base (base' := w.heap.size + 1 + 1 + 1) (by simp)
  have n0 : w.heap.size + 1 + 1 < w3.heap.size := (hb3.le l1).lt
  have n1 : ¬ w.heap.size + 1 + 1 = w3.heap.size := by omega
  have n2 : ¬ w.heap.size + 1 + 1 = w.heap.size := by omega
  have n3 : ¬ w.heap.size + 1 + 1 = w.heap.size + 1 := by omega
  have n4 : ¬ w.heap.size + 1 = w3.heap.size := by omega
  have n5 : ¬ w3.heap.size = w.heap.size + 1 := by omega
  have hb4 := Box.new w3 (cells4 us) 71
  replace l1 := l1.trans (Le.alloc w3 (.cells (cells4 us) 71))
  replace hown := fun i hi => (hown i hi).le (Le.alloc w3 (.cells (cells4 us) 71))
  go_upto_region 2 with fail
  generalize hW : w3.alloc (.cells (cells4 us) 71) = W at hb4 l1 hown ⊢
  clear hW
  have o0 := (hb2.le l1).op.1
  have o1 := (hb2.le l1).op.2.1
  have o2 := (hb2.le l1).op.2.2.1
  have t1 : W.cell? ⟨w3.heap.size, k, none⟩ = some (slV (us k)) := (hb4.cell k).trans (cells4_at us hk)
  have k0 : (0 : Int) ≤ ((k : Nat) : Int) := by omega
  have k1 : ((k : Nat) : Int) < 4 := by omega
  have hcall := hF.calls (slV (us k)) (w.heap.size + 1 + 1 + 1) (s.at k) a W (hown k hk) (by have := l1.size; simpa using this) (hlen k hk) ha
  have hin := hF.enter
  go_wp2_with fail
  refine hcall.mono ?_
  rintro e w4 ⟨v', rfl, ho, hg⟩
  obtain ⟨q, rfl⟩ := ho.has.sl
  have hb5 : Box w4 w3.heap.size (cells4 us) 71 := Box.grown hb4 hg (fun e => (hown k hk).apart hb4 (by decide) e)
  have l5 : Le _ w4 := Below.grown l1 hg l1.size (fun g e => by have := ((hown k hk).block e).1; simpa using this)
  clear o0 o1 o2 t1 hcall hin
  have p1 := (hb2.le l5).op.2.1
  have c5 : w4.cell? ⟨w3.heap.size, k, none⟩ = some (slV (us k)) := (hb5.cell k).trans (cells4_at us hk)
  have f5 := hb5.frozen k
  have hown5 : ∀ i, i < 4 → Own (w4.setCell ⟨w3.heap.size, k, none⟩ (slV q)) (w.heap.size + 1 + 1 + 1) (slV (upd us k q i)) ((s.put k (F (s.at k) a).1).at i) := by
    intro i hi
    rw [St.at_put hk hi]
    by_cases e : i = k
    · rw [if_pos e, show upd us k q i = q by simp [upd, e]]; exact ho.setBox hb5 (by decide)
    · rw [if_neg e, show upd us k q i = us i by simp [upd, e]]; exact ((hown i hi).grown hg (fun g e1 e2 => hap i k hi hk e g e1 e2)).setBox hb5 (by decide)
  have hb6 := hb5.set k (slV q)
  rw [cells4_upd us hk] at hb6
  have l6 : Le _ (w4.setCell ⟨w3.heap.size, k, none⟩ (slV q)) := Below.setCell l5 (by simp only [World.size_alloc]; show w.heap.size + 1 + 1 + 1 ≤ w3.heap.size; omega) _
  go_upto_region 13 with fail
  generalize hW2 : w4.setCell ⟨w3.heap.size, k, none⟩ (slV q) = W2 at hb6 l6 hown5 ⊢
  generalize upd us k q = us' at hb6 hown5
  clear hW2 p1 c5 f5
  obtain ⟨y0, y1, y2, y3, _, _, _, _⟩ := hb6.st
  obtain ⟨z0, z1, z2, z3, f0, f1, f2, f3⟩ := (hb3.le l6).st
  go_wp2_with fail
  refine bodyPost_ret (v := .tuple #[stV us', .int .i64 (F (s.at k) a).2]) (by simp [results, Tryz.results135, go_sem, z0, z1, z2, z3]) rfl ⟨_, rfl, ⟨us', rfl, fun i hi => ?_⟩, ?_⟩
  · exact ((hown5 i hi).base (by omega)).set4 (hb3.le l6) (by decide) _ _ _ _
  · exact (hl.trans l6).set4 (by omega) _ _ _ _

set_option maxHeartbeats 2000000 in
theorem countedSecond (f g : Nat) (G : List Int → Int → List Int × Int) (hG : TurnsRow g G) (v : Value) (s : St) (k : Nat) (a : Int) (w : World) (hx : HasS w v s) (hf : Fit s) (hlen : ∀ j, j < 4 → (s.at j).length ≤ 4) (hk : k < 4) (ha : 0 ≤ a ∧ a ≤ 255) :
    Calls Tryz.prog 135 #[v, opV 1 k a, .func (.func f) #[] #[], .func (.func g) #[] #[]] w fun e w' => ∃ v', e = .returned (.tuple #[v', .int .i64 (G (s.at k) a).2]) ∧ OwnS w' w.heap.size v' (s.put k (G (s.at k) a).1) ∧ Le w w' := by
  have hx0 := hx
  obtain ⟨vs, rfl, hr⟩ := hx
  have hl := ((Le.alloc w (.cells (cells4 vs) 71)).trans (Le.alloc _ (.cells #[.int .i64 1, .int .i64 k, .int .i64 a] 59))).trans (Le.alloc _ (.cells (cells4 fun _ => slZ) 71))
  have hb2 := (Box.new (w.alloc (.cells (cells4 vs) 71)) #[.int .i64 1, .int .i64 k, .int .i64 a] 59).le (Le.alloc _ (.cells (cells4 fun _ => slZ) 71))
  have hb3 := Box.new ((w.alloc (.cells (cells4 vs) 71)).alloc (.cells #[.int .i64 1, .int .i64 k, .int .i64 a] 59)) (cells4 fun _ => slZ) 71
  simp only [World.size_alloc] at hb2 hb3
  go_enter Tryz.func135, Tryz.ntmps135
  go_wp2_with fail
  refine (statesCopy (stV vs) s _ (hx0.le hl) hf).mono ?_
  rintro e w3 ⟨us, rfl, hown, hap, l1⟩
  replace hown := fun i hi => (hown i hi).base (base' := w.heap.size + 1 + 1 + 1) (by simp)
  have n0 : w.heap.size + 1 + 1 < w3.heap.size := (hb3.le l1).lt
  have n1 : ¬ w.heap.size + 1 + 1 = w3.heap.size := by omega
  have n2 : ¬ w.heap.size + 1 + 1 = w.heap.size := by omega
  have n3 : ¬ w.heap.size + 1 + 1 = w.heap.size + 1 := by omega
  have n4 : ¬ w.heap.size + 1 = w3.heap.size := by omega
  have n5 : ¬ w3.heap.size = w.heap.size + 1 := by omega
  have hb4 := Box.new w3 (cells4 us) 71
  replace l1 := l1.trans (Le.alloc w3 (.cells (cells4 us) 71))
  replace hown := fun i hi => (hown i hi).le (Le.alloc w3 (.cells (cells4 us) 71))
  go_upto_region 2 with fail
  generalize hW : w3.alloc (.cells (cells4 us) 71) = W at hb4 l1 hown ⊢
  clear hW
  have o0 := (hb2.le l1).op.1
  have o1 := (hb2.le l1).op.2.1
  have o2 := (hb2.le l1).op.2.2.1
  have t1 : W.cell? ⟨w3.heap.size, k, none⟩ = some (slV (us k)) := (hb4.cell k).trans (cells4_at us hk)
  have k0 : (0 : Int) ≤ ((k : Nat) : Int) := by omega
  have k1 : ((k : Nat) : Int) < 4 := by omega
  have hcall := hG.calls (slV (us k)) (w.heap.size + 1 + 1 + 1) (s.at k) a W (hown k hk) (by have := l1.size; simpa using this) (hlen k hk) ha
  have hin := hG.enter
  go_wp2_with fail
  refine hcall.mono ?_
  rintro e w4 ⟨v', rfl, ho, hg⟩
  obtain ⟨q, rfl⟩ := ho.has.sl
  have hb5 : Box w4 w3.heap.size (cells4 us) 71 := Box.grown hb4 hg (fun e => (hown k hk).apart hb4 (by decide) e)
  have l5 : Le _ w4 := Below.grown l1 hg l1.size (fun g e => by have := ((hown k hk).block e).1; simpa using this)
  clear o0 o1 o2 t1 hcall hin
  have p1 := (hb2.le l5).op.2.1
  have c5 : w4.cell? ⟨w3.heap.size, k, none⟩ = some (slV (us k)) := (hb5.cell k).trans (cells4_at us hk)
  have f5 := hb5.frozen k
  have hown5 : ∀ i, i < 4 → Own (w4.setCell ⟨w3.heap.size, k, none⟩ (slV q)) (w.heap.size + 1 + 1 + 1) (slV (upd us k q i)) ((s.put k (G (s.at k) a).1).at i) := by
    intro i hi
    rw [St.at_put hk hi]
    by_cases e : i = k
    · rw [if_pos e, show upd us k q i = q by simp [upd, e]]; exact ho.setBox hb5 (by decide)
    · rw [if_neg e, show upd us k q i = us i by simp [upd, e]]; exact ((hown i hi).grown hg (fun g e1 e2 => hap i k hi hk e g e1 e2)).setBox hb5 (by decide)
  have hb6 := hb5.set k (slV q)
  rw [cells4_upd us hk] at hb6
  have l6 : Le _ (w4.setCell ⟨w3.heap.size, k, none⟩ (slV q)) := Below.setCell l5 (by simp only [World.size_alloc]; show w.heap.size + 1 + 1 + 1 ≤ w3.heap.size; omega) _
  go_upto_region 13 with fail
  generalize hW2 : w4.setCell ⟨w3.heap.size, k, none⟩ (slV q) = W2 at hb6 l6 hown5 ⊢
  generalize upd us k q = us' at hb6 hown5
  clear hW2 p1 c5 f5
  obtain ⟨y0, y1, y2, y3, _, _, _, _⟩ := hb6.st
  obtain ⟨z0, z1, z2, z3, f0, f1, f2, f3⟩ := (hb3.le l6).st
  go_wp2_with fail
  refine bodyPost_ret (v := .tuple #[stV us', .int .i64 (G (s.at k) a).2]) (by simp [results, Tryz.results135, go_sem, z0, z1, z2, z3]) rfl ⟨_, rfl, ⟨us', rfl, fun i hi => ?_⟩, ?_⟩
  · exact ((hown5 i hi).base (by omega)).set4 (hb3.le l6) (by decide) _ _ _ _
  · exact (hl.trans l6).set4 (by omega) _ _ _ _

set_option maxHeartbeats 2000000 in
theorem countedLook (f g : Nat) (v : Value) (s : St) (k : Nat) (w : World) (hx : HasS w v s) (hf : Fit s) (_hlen : ∀ j, j < 4 → (s.at j).length ≤ 4) (hk : k < 4) :
    Calls Tryz.prog 135 #[v, opV 2 k 0, .func (.func f) #[] #[], .func (.func g) #[] #[]] w fun e w' => ∃ v', e = .returned (.tuple #[v', .int .i64 ((s.at k).length : Int)]) ∧ OwnS w' w.heap.size v' (s) ∧ Le w w' := by
  have hx0 := hx
  obtain ⟨vs, rfl, hr⟩ := hx
  have hl := ((Le.alloc w (.cells (cells4 vs) 71)).trans (Le.alloc _ (.cells #[.int .i64 2, .int .i64 k, .int .i64 0] 59))).trans (Le.alloc _ (.cells (cells4 fun _ => slZ) 71))
  have hb2 := (Box.new (w.alloc (.cells (cells4 vs) 71)) #[.int .i64 2, .int .i64 k, .int .i64 0] 59).le (Le.alloc _ (.cells (cells4 fun _ => slZ) 71))
  have hb3 := Box.new ((w.alloc (.cells (cells4 vs) 71)).alloc (.cells #[.int .i64 2, .int .i64 k, .int .i64 0] 59)) (cells4 fun _ => slZ) 71
  simp only [World.size_alloc] at hb2 hb3
  go_enter Tryz.func135, Tryz.ntmps135
  go_wp2_with fail
  refine (statesCopy (stV vs) s _ (hx0.le hl) hf).mono ?_
  rintro e w3 ⟨us, rfl, hown, hap, l1⟩
  replace hown := fun i hi => (hown i hi).base (base' := w.heap.size + 1 + 1 + 1) (by simp)
  have n0 : w.heap.size + 1 + 1 < w3.heap.size := (hb3.le l1).lt
  have n1 : ¬ w.heap.size + 1 + 1 = w3.heap.size := by omega
  have n2 : ¬ w.heap.size + 1 + 1 = w.heap.size := by omega
  have n3 : ¬ w.heap.size + 1 + 1 = w.heap.size + 1 := by omega
  have n4 : ¬ w.heap.size + 1 = w3.heap.size := by omega
  have n5 : ¬ w3.heap.size = w.heap.size + 1 := by omega
  have hb4 := Box.new w3 (cells4 us) 71
  replace l1 := l1.trans (Le.alloc w3 (.cells (cells4 us) 71))
  replace hown := fun i hi => (hown i hi).le (Le.alloc w3 (.cells (cells4 us) 71))
  go_upto_region 2 with fail
  generalize hW : w3.alloc (.cells (cells4 us) 71) = W at hb4 l1 hown ⊢
  clear hW
  have o0 := (hb2.le l1).op.1
  have o1 := (hb2.le l1).op.2.1
  have o2 := (hb2.le l1).op.2.2.1
  have t1 : W.cell? ⟨w3.heap.size, k, none⟩ = some (slV (us k)) := (hb4.cell k).trans (cells4_at us hk)
  have k0 : (0 : Int) ≤ ((k : Nat) : Int) := by omega
  have k1 : ((k : Nat) : Int) < 4 := by omega
  have hle : (us k).2.1 = (s.at k).length := by
    obtain ⟨ad, cap, e, _⟩ := (hown k hk).has
    simp only [Value.slice.injEq] at e
    exact e.2.1
  have p1 := o1
  have c5 := t1
  have f5 := hb4.frozen k
  have hb5 := hb4
  have l5 := l1
  have ho := hown k hk
  have hg : W.grownBy W none := World.grownBy.refl _ _
  have hap : ∀ i j : Nat, i < 4 → j < 4 → i ≠ j → ∀ g : Nat, (slV (us i)).ownBlock = some g → (none : Option Nat) ≠ some g := fun _ _ _ _ _ _ _ h => by cases h
  have HLE : Hid ((us k).2.1 = (s.at k).length) := hle
  clear hle
  generalize hq : us k = q at ho t1 c5 HLE ⊢
  obtain ⟨w4, hw4⟩ : ∃ w4, w4 = W := ⟨_, rfl⟩
  subst hw4
  have hown5 : ∀ i, i < 4 → Own (w4.setCell ⟨w3.heap.size, k, none⟩ (slV q)) (w.heap.size + 1 + 1 + 1) (slV (upd us k q i)) ((s.put k (s.at k)).at i) := by
    intro i hi
    rw [St.at_put hk hi]
    by_cases e : i = k
    · rw [if_pos e, show upd us k q i = q by simp [upd, e]]; exact ho.setBox hb5 (by decide)
    · rw [if_neg e, show upd us k q i = us i by simp [upd, e]]; exact ((hown i hi).grown hg (fun g e1 e2 => hap i k hi hk e g e1 e2)).setBox hb5 (by decide)
  have hb6 := hb5.set k (slV q)
  rw [cells4_upd us hk] at hb6
  have l6 : Le _ (w4.setCell ⟨w3.heap.size, k, none⟩ (slV q)) := Below.setCell l5 (by simp only [World.size_alloc]; show w.heap.size + 1 + 1 + 1 ≤ w3.heap.size; omega) _
  go_upto_region 13 with fail
  generalize hW2 : w4.setCell ⟨w3.heap.size, k, none⟩ (slV q) = W2 at hb6 l6 hown5 ⊢
  generalize upd us k q = us' at hb6 hown5
  clear hW2 p1 c5 f5
  obtain ⟨y0, y1, y2, y3, _, _, _, _⟩ := hb6.st
  obtain ⟨z0, z1, z2, z3, f0, f1, f2, f3⟩ := (hb3.le l6).st
  go_wp2_with fail
  refine bodyPost_ret (v := .tuple #[stV us', .int .i64 (q.2.1 : Int)]) (by simp [results, Tryz.results135, go_sem, z0, z1, z2, z3]) rfl ⟨stV us', by rw [HLE.out], ⟨us', rfl, fun i hi => ?_⟩, ?_⟩
  · rw [← St.put_same (s := s) hk]; exact ((hown5 i hi).base (by omega)).set4 (hb3.le l6) (by decide) _ _ _ _
  · exact (hl.trans l6).set4 (by omega) _ _ _ _

set_option maxHeartbeats 2000000 in
theorem countedScan (f g : Nat) (v : Value) (s : St) (w : World) (hx : HasS w v s) (hf : Fit s) (hlen : ∀ j, j < 4 → (s.at j).length ≤ 4) :
    Calls Tryz.prog 135 #[v, opV 3 0 0, .func (.func f) #[] #[], .func (.func g) #[] #[]] w fun e w' => ∃ v', e = .returned (.tuple #[v', .int .i64 (manyTo s 4)]) ∧ OwnS w' w.heap.size v' (s) ∧ Le w w' := by
  have hk : (0 : Nat) < 4 := by omega
  have hx0 := hx
  obtain ⟨vs, rfl, hr⟩ := hx
  have hl := ((Le.alloc w (.cells (cells4 vs) 71)).trans (Le.alloc _ (.cells #[.int .i64 3, .int .i64 0, .int .i64 0] 59))).trans (Le.alloc _ (.cells (cells4 fun _ => slZ) 71))
  have hb2 := (Box.new (w.alloc (.cells (cells4 vs) 71)) #[.int .i64 3, .int .i64 0, .int .i64 0] 59).le (Le.alloc _ (.cells (cells4 fun _ => slZ) 71))
  have hb3 := Box.new ((w.alloc (.cells (cells4 vs) 71)).alloc (.cells #[.int .i64 3, .int .i64 0, .int .i64 0] 59)) (cells4 fun _ => slZ) 71
  simp only [World.size_alloc] at hb2 hb3
  go_enter Tryz.func135, Tryz.ntmps135
  go_wp2_with fail
  refine (statesCopy (stV vs) s _ (hx0.le hl) hf).mono ?_
  rintro e w3 ⟨us, rfl, hown, hap, l1⟩
  replace hown := fun i hi => (hown i hi).base (base' := w.heap.size + 1 + 1 + 1) (by simp)
  have n0 : w.heap.size + 1 + 1 < w3.heap.size := (hb3.le l1).lt
  have n1 : ¬ w.heap.size + 1 + 1 = w3.heap.size := by omega
  have n2 : ¬ w.heap.size + 1 + 1 = w.heap.size := by omega
  have n3 : ¬ w.heap.size + 1 + 1 = w.heap.size + 1 := by omega
  have n4 : ¬ w.heap.size + 1 = w3.heap.size := by omega
  have n5 : ¬ w3.heap.size = w.heap.size + 1 := by omega
  have hb4 := Box.new w3 (cells4 us) 71
  replace l1 := l1.trans (Le.alloc w3 (.cells (cells4 us) 71))
  replace hown := fun i hi => (hown i hi).le (Le.alloc w3 (.cells (cells4 us) 71))
  go_upto_region 2 with fail
  generalize hW : w3.alloc (.cells (cells4 us) 71) = W at hb4 l1 hown ⊢
  clear hW
  have o0 := (hb2.le l1).op.1
  have o1 := (hb2.le l1).op.2.1
  have o2 := (hb2.le l1).op.2.2.1
  have t1 : W.cell? ⟨w3.heap.size, 0, none⟩ = some (slV (us 0)) := (hb4.cell 0).trans (cells4_at us hk)
  have k0 : (0 : Int) ≤ ((0 : Nat) : Int) := by omega
  have k1 : ((0 : Nat) : Int) < 4 := by omega
  obtain ⟨x0, x1, x2, x3, _, _, _, _⟩ := hb4.st
  have hcount := statesCount (stV us) s W (OwnS.has ⟨us, rfl, hown⟩) (fun j hj => by have := hlen j hj; omega)
  go_wp2_with fail
  refine hcount.mono ?_
  rintro e w4 ⟨rfl, l4⟩
  have hb5 := hb4.le l4
  have l5 := l1.trans l4
  have ho := (hown 0 hk).le l4
  have hg := l4.grownBy none
  have hap : ∀ i j : Nat, i < 4 → j < 4 → i ≠ j → ∀ g : Nat, (slV (us i)).ownBlock = some g → (none : Option Nat) ≠ some g := fun _ _ _ _ _ _ _ h => by cases h
  clear o0 o1 o2 t1 x0 x1 x2 x3 hcount
  have p1 := (hb2.le l5).op.2.1
  have c5 : w4.cell? ⟨w3.heap.size, 0, none⟩ = some (slV (us 0)) := (hb5.cell 0).trans (cells4_at us hk)
  have f5 := hb5.frozen 0
  generalize hq : us 0 = q at ho c5 ⊢
  have hown5 : ∀ i, i < 4 → Own (w4.setCell ⟨w3.heap.size, 0, none⟩ (slV q)) (w.heap.size + 1 + 1 + 1) (slV (upd us 0 q i)) ((s.put 0 (s.at 0)).at i) := by
    intro i hi
    rw [St.at_put hk hi]
    by_cases e : i = 0
    · rw [if_pos e, show upd us 0 q i = q by simp [upd, e]]; exact ho.setBox hb5 (by decide)
    · rw [if_neg e, show upd us 0 q i = us i by simp [upd, e]]; exact ((hown i hi).grown hg (fun g e1 e2 => hap i 0 hi hk e g e1 e2)).setBox hb5 (by decide)
  have hb6 := hb5.set 0 (slV q)
  rw [cells4_upd us hk] at hb6
  have l6 : Le _ (w4.setCell ⟨w3.heap.size, 0, none⟩ (slV q)) := Below.setCell l5 (by simp only [World.size_alloc]; show w.heap.size + 1 + 1 + 1 ≤ w3.heap.size; omega) _
  go_upto_region 13 with fail
  generalize hW2 : w4.setCell ⟨w3.heap.size, 0, none⟩ (slV q) = W2 at hb6 l6 hown5 ⊢
  generalize upd us 0 q = us' at hb6 hown5
  clear hW2 p1 c5 f5
  obtain ⟨y0, y1, y2, y3, _, _, _, _⟩ := hb6.st
  obtain ⟨z0, z1, z2, z3, f0, f1, f2, f3⟩ := (hb3.le l6).st
  go_wp2_with fail
  refine bodyPost_ret (v := .tuple #[stV us', .int .i64 (manyTo s 4)]) (by simp [results, Tryz.results135, go_sem, z0, z1, z2, z3]) rfl ⟨_, rfl, ⟨us', rfl, fun i hi => ?_⟩, ?_⟩
  · rw [← St.put_same (s := s) hk]; exact ((hown5 i hi).base (by omega)).set4 (hb3.le l6) (by decide) _ _ _ _
  · exact (hl.trans l6).set4 (by omega) _ _ _ _

/-- What an operation that may be makes of a state, where looks and scans count. -/
def cntY (F G : List Int → Int → List Int × Int) (s : St) (c r a : Int) : St × Int :=
  if c = 3 then (s, manyTo s 4)
  else if c = 2 then (s, ((s.at r.toNat).length : Int))
  else if c = 1 then (s.put r.toNat (G (s.at r.toNat) a).1, (G (s.at r.toNat) a).2)
  else (s.put r.toNat (F (s.at r.toNat) a).1, (F (s.at r.toNat) a).2)

/-- .. the document's answer: the state, the answer, the error. -/
def cntS (p : List Int → Bool) (F G : List Int → Int → List Int × Int) (s : St) (c r a e : Int) : St × Int × Int :=
  if s.all p && opMay c r a then ((cntY F G s c r a).1, (cntY F G s c r a).2, 0) else (St.zero, 0, e)

theorem countedAll (f g : Nat) (F G : List Int → Int → List Int × Int) (hF : TurnsRow f F) (hG : TurnsRow g G) (v : Value) (s : St) (c r a : Int) (w : World) (hx : HasS w v s) (hf : Fit s) (hlen : ∀ j, j < 4 → (s.at j).length ≤ 4) (ho : opMay c r a = true) :
    Calls Tryz.prog 135 #[v, opV c r a, .func (.func f) #[] #[], .func (.func g) #[] #[]] w fun e w' => ∃ v', e = .returned (.tuple #[v', .int .i64 (cntY F G s c r a).2]) ∧ OwnS w' w.heap.size v' (cntY F G s c r a).1 ∧ Le w w' := by
  rcases opMay_cases ho with ⟨k, hk, rfl, rfl, ha⟩ | ⟨k, hk, rfl, rfl, ha⟩ | ⟨k, hk, rfl, rfl, rfl⟩ | ⟨rfl, rfl, rfl⟩
  · exact countedFirst f g F hF v s k a w hx hf hlen hk ha
  · exact countedSecond f g G hG v s k a w hx hf hlen hk ha
  · exact countedLook f g v s k w hx hf hlen hk
  · exact countedScan f g v s w hx hf hlen

theorem cntS_no {p : List Int → Bool} {F G : List Int → Int → List Int × Int} {s : St} {c r a er : Int} (h : (s.all p && opMay c r a) = false) : cntS p F G s c r a er = (St.zero, 0, er) := by simp [cntS, h]
theorem cntS_yes {p : List Int → Bool} {F G : List Int → Int → List Int × Int} {s : St} {c r a er : Int} (h : (s.all p && opMay c r a) = true) : cntS p F G s c r a er = ((cntY F G s c r a).1, (cntY F G s c r a).2, 0) := by simp [cntS, h]
theorem cntS_scan {p : List Int → Bool} {F G : List Int → Int → List Int × Int} {s : St} {er : Int} (h : s.all p = true) : cntS p F G s 3 0 0 er = (s, manyTo s 4, 0) := by
  have : opMay 3 0 0 = true := by decide
  simp [cntS, cntY, h, this]
theorem cntS_look {p : List Int → Bool} {F G : List Int → Int → List Int × Int} {s : St} {k : Nat} {er : Int} (h : s.all p = true) (hk : k < 4) : cntS p F G s 2 k 0 er = (s, ((s.at k).length : Int), 0) := by
  have : opMay 2 k 0 = true := by simp [opMay]; omega
  simp [cntS, cntY, h, this]
theorem cntS_first {p : List Int → Bool} {F G : List Int → Int → List Int × Int} {s : St} {k : Nat} {a er : Int} (h : s.all p = true) (hk : k < 4) (ha : 0 ≤ a ∧ a ≤ 255) : cntS p F G s 0 k a er = (s.put k (F (s.at k) a).1, (F (s.at k) a).2, 0) := by
  have : opMay 0 k a = true := by simp [opMay]; omega
  simp [cntS, cntY, h, this]
theorem cntS_second {p : List Int → Bool} {F G : List Int → Int → List Int × Int} {s : St} {k : Nat} {a er : Int} (h : s.all p = true) (hk : k < 4) (ha : 0 ≤ a ∧ a ≤ 255) : cntS p F G s 1 k a er = (s.put k (G (s.at k) a).1, (G (s.at k) a).2, 0) := by
  have : opMay 1 k a = true := by simp [opMay]; omega
  simp [cntS, cntY, h, this]

end Go.Proofs.YtkddgpdlpjjpbaaGreat

/-
  THE WALK over fds.take: the row without a number, in memory of its own. Condition: the row is the call's own, and has at most a thousand numbers.
-/
namespace Go.Proofs.YtkddgpdlpjjpbaaGreat
open Go.RowKit

set_option maxHeartbeats 1000000 in
theorem fdsTake (v : Value) (base : Nat) (xs : List Int) (a0 : Int) (w : World) (hown : Own w base v xs) (hbase : base ≤ w.heap.size) (hl : xs.length ≤ 1000) :
    Calls Tryz.prog 137 #[v, .int .i64 a0] w fun e w' => ∃ v', e = .returned (.tuple #[v', .int .i64 (takeS xs a0).2]) ∧ Own w' base v' (takeS xs a0).1 ∧ Le w w' := by
  have hidx := slicesIndex v xs a0 w hown.has hl
  have hb := idxFrom_bounds a0 0 xs
  rw [show idxFrom 0 a0 xs = idxS xs a0 from rfl] at hb
  by_cases h4 : idxS xs a0 < 0
  · have HP : Hid (takeS xs a0 = (xs, 0)) := hid (by simp [takeS, h4])
    clear hb
    go_enter Tryz.func137, Tryz.ntmps137
    go_wp2_with fail
    refine hidx.mono ?_
    rintro e w1 ⟨rfl, rfl⟩
    go_wp2
    go_ret2
    rw [HP.out]
    exact ⟨_, rfl, hown, Le.refl _⟩
  · have HP : Hid (takeS xs a0 = (xs.take (idxS xs a0).toNat ++ xs.drop ((idxS xs a0).toNat + 1), 1)) := hid (by simp [takeS, h4])
    obtain ⟨i, hi⟩ : ∃ i : Nat, idxS xs a0 = i := ⟨(idxS xs a0).toNat, by omega⟩
    rw [hi] at h4 hidx hb
    rw [show Hid (takeS xs a0 = (xs.take (idxS xs a0).toNat ++ xs.drop ((idxS xs a0).toNat + 1), 1)) = Hid (takeS xs a0 = (xs.take i ++ xs.drop (i + 1), 1)) by rw [hi]; rfl] at HP
    have hlt : i < xs.length := by omega
    obtain ⟨ad, cap, rfl, hc, _, hx⟩ := hown.has
    obtain ⟨b, off, rfl, hcell⟩ := hx (by omega)
    obtain ⟨n, hn⟩ : ∃ n, n = xs.length := ⟨_, rfl⟩
    have hA : Has w (.slice (some ⟨b, off, none⟩) i cap) (xs.take i) := by
      refine ⟨_, cap, by rw [List.length_take, Nat.min_eq_left (by omega)], by rw [List.length_take]; omega, (fun h => by cases h), fun _ => ⟨b, off, rfl, fun j hj => ?_⟩⟩
      rw [List.length_take] at hj
      rw [hcell j (by omega)]
      simp [List.getD, show j < i by omega]
    obtain ⟨A, hAe, hB⟩ : ∃ A, (if cap = i + 1 then some ⟨b, off, none⟩ else some ⟨b, off + (i + 1), none⟩ : Option Addr) = A ∧ Has w (.slice A (n - (i + 1)) (cap - (i + 1))) (xs.drop (i + 1)) := by
      refine ⟨_, rfl, _, _, by rw [List.length_drop, ← hn], by rw [List.length_drop]; omega, (fun h => by split at h <;> cases h), fun hp => ?_⟩
      rw [List.length_drop] at hp
      rw [if_neg (by omega)]
      refine ⟨b, off + (i + 1), rfl, fun j hj => ?_⟩
      rw [List.length_drop] at hj
      rw [getD_drop, Nat.add_assoc, hcell (i + 1 + j) (by omega)]
    have HN : Hid (n = xs.length) := hn
    have hown0 := hown
    rw [← hn] at hc hlt hidx ⊢
    clear hx hcell hb hown hn h4
    have i0 : (0 : Int) ≤ (i : Int) := by omega
    have i1 : (i : Int) < (n : Int) := by omega
    have i2 : (i : Int) + 1 ≤ (n : Int) := by omega
    have i3 : i ≤ cap := by omega
    have i4 : i + 1 ≤ n := by omega
    have i5 : (i : Int) ≤ (cap : Int) := by omega
    have i6 : ((i : Int) + 1).toNat = i + 1 := by omega
    have i7 : IntKind.i64.wrap ((i : Int) + 1) = (i : Int) + 1 := by rw [IntKind.wrap_i64]; have := HN.out; omega
    have i8 : (0 : Int) ≤ (i : Int) + 1 := by omega
    go_enter Tryz.func137, Tryz.ntmps137
    go_wp2_with fail
    refine hidx.mono ?_
    rintro e w1 ⟨rfl, rfl⟩
    go_wp2_with fail
    go_region_law (first
      | (refine step_append_ints rfl (.const (.slice none 0 0)) (.tmp 15) rfl w.heap.size (.slice none 0 0) (.slice (some ⟨b, off, none⟩) i cap) [] (xs.take i) (by simp [Act.eval]) (by simp [Act.eval, Act.put]) (Own.nil _ _) hA (by simp; omega) (Nat.le_refl _) ?_; intro v1 w1 o1 g1)
      | (refine step_append_ints rfl (.tmp 16) (.tmp 20) rfl w.heap.size v1 (.slice A (n - (i + 1)) (cap - (i + 1))) _ (xs.drop (i + 1)) (by simp [Act.eval]) (by simp [Act.eval]) o1 (hB.le (Below.grown (Le.drew w) g1 (Nat.le_refl _) (fun g e => by cases e))) (by simp; omega) g1.size ?_; intro v2 w2 o2 g2))
    all_goals
      go_wp2
      go_ret2
      rw [HP.out]
      rw [List.nil_append] at o2
      exact ⟨_, rfl, o2.base hbase, Below.grown (Below.grown (Le.drew w) g1 (Nat.le_refl _) (fun g e => by cases e)) g2 g1.size (fun g e => (o1.block e).1)⟩

theorem fdsPutT : TurnsRow 136 (fun xs _ => putS xs) :=
  ⟨fun _ _ _ => by kernel_rfl, fun v base xs a w ho hb hl _ => fdsPut v base xs a w ho hb (by omega)⟩
theorem fdsTakeT : TurnsRow 137 takeS :=
  ⟨fun _ _ _ => by kernel_rfl, fun v base xs a w ho hb hl _ => (fdsTake v base xs a w ho hb (by omega)).mono fun _ _ ⟨v', he, h1, h2⟩ => ⟨v', he, h1, h2.grownBy _⟩⟩

end Go.Proofs.YtkddgpdlpjjpbaaGreat

/-
  THE WALK over fds.Apply: what it answers, for every state and operation, and that what it hands back lies in memory of its own. Condition: the state's rows can be copied.
-/
namespace Go.Proofs.YtkddgpdlpjjpbaaGreat
open Go.RowKit

theorem fdsMay (v : Value) (s : St) (w : World) (hx : HasS w v s) :
    Calls Tryz.prog 130 #[v, .func (.func 134) #[] #[]] w fun e w' => e = .returned (.bool (s.all rowMay2)) ∧ Le w w' :=
  statesMay 134 rowMay2 (fun _ _ => by kernel_rfl) fdsMayRow v s w hx

/-- The document's answer: the state, the answer, the error. -/
def fdsS (s : St) (c r a e : Int) : St × Int × Int := cntS rowMay2 (fun xs _ => putS xs) takeS s c r a e

set_option maxHeartbeats 2000000 in
theorem fdsApplyNo (v : Value) (s : St) (c r a : Int) (w : World) (hx : HasS w v s) (h : (s.all rowMay2 && opMay c r a) = false) :
    Calls Tryz.prog 128 #[v, opV c r a] w fun e w' => e = .returned (.tuple #[stZ, .int .i64 0, .int .i64 400]) ∧ Le w w' := by
  have hx0 := hx
  obtain ⟨vs, rfl, hr⟩ := hx
  have hl := ((Le.alloc w (.cells (cells4 vs) 71)).trans (Le.alloc _ (.cells #[.int .i64 c, .int .i64 r, .int .i64 a] 59))).trans (Le.alloc _ (.cells (cells4 fun _ => slZ) 71))
  have hb1 := ((Box.new w (cells4 vs) 71).le (Le.alloc _ (.cells #[.int .i64 c, .int .i64 r, .int .i64 a] 59))).le (Le.alloc _ (.cells (cells4 fun _ => slZ) 71))
  have hb2 := (Box.new (w.alloc (.cells (cells4 vs) 71)) #[.int .i64 c, .int .i64 r, .int .i64 a] 59).le (Le.alloc _ (.cells (cells4 fun _ => slZ) 71))
  have hb3 := Box.new ((w.alloc (.cells (cells4 vs) 71)).alloc (.cells #[.int .i64 c, .int .i64 r, .int .i64 a] 59)) (cells4 fun _ => slZ) 71
  simp only [World.size_alloc] at hb1 hb2 hb3
  have hmay := fdsMay (stV vs) s _ (hx0.le hl)
  cases hm : s.all rowMay2
  · rw [hm] at hmay
    go_enter Tryz.func128, Tryz.ntmps128
    go_wp2_with fail
    refine hmay.mono ?_
    rintro e w1 ⟨rfl, l1⟩
    obtain ⟨z0, z1, z2, z3, f0, f1, f2, f3⟩ := (hb3.le l1).st
    go_wp2_with fail
    refine bodyPost_ret (v := .tuple #[stZ, .int .i64 0, .int .i64 400]) (by simp [results, Tryz.results128, go_sem, z0, z1, z2, z3]) rfl ⟨rfl, ?_⟩
    exact (hl.trans l1).set4 (by omega) _ _ _ _
  · have hop : opMay c r a = false := by simpa [hm] using h
    rw [hm] at hmay
    go_enter Tryz.func128, Tryz.ntmps128
    go_wp2_with fail
    refine hmay.mono ?_
    rintro e w1 ⟨rfl, l1⟩
    obtain ⟨y0, y1, y2, _, _, _⟩ := (hb2.le l1).op
    go_wp2_with fail
    refine (operMay _ _ _ _).mono ?_
    rw [hop]
    rintro e w2 ⟨rfl, l2⟩
    obtain ⟨z0, z1, z2, z3, f0, f1, f2, f3⟩ := ((hb3.le l1).le l2).st
    go_wp2_with fail
    refine bodyPost_ret (v := .tuple #[stZ, .int .i64 0, .int .i64 400]) (by simp [results, Tryz.results128, go_sem, z0, z1, z2, z3]) rfl ⟨rfl, ?_⟩
    exact ((hl.trans l1).trans l2).set4 (by omega) _ _ _ _

set_option maxHeartbeats 2000000 in
theorem fdsApplyYes (v : Value) (s : St) (c r a : Int) (w : World) (hx : HasS w v s) (hf : Fit s) (hm : s.all rowMay2 = true) (hop : opMay c r a = true) :
    Calls Tryz.prog 128 #[v, opV c r a] w fun e w' => ∃ v', e = .returned (.tuple #[v', .int .i64 (cntY (fun xs _ => putS xs) takeS s c r a).2, .int .i64 0]) ∧ OwnS w' w.heap.size v' (cntY (fun xs _ => putS xs) takeS s c r a).1 ∧ Le w w' := by
  have hx0 := hx
  obtain ⟨vs, rfl, hr⟩ := hx
  have hl := ((Le.alloc w (.cells (cells4 vs) 71)).trans (Le.alloc _ (.cells #[.int .i64 c, .int .i64 r, .int .i64 a] 59))).trans (Le.alloc _ (.cells (cells4 fun _ => slZ) 71))
  have hb1 := ((Box.new w (cells4 vs) 71).le (Le.alloc _ (.cells #[.int .i64 c, .int .i64 r, .int .i64 a] 59))).le (Le.alloc _ (.cells (cells4 fun _ => slZ) 71))
  have hb2 := (Box.new (w.alloc (.cells (cells4 vs) 71)) #[.int .i64 c, .int .i64 r, .int .i64 a] 59).le (Le.alloc _ (.cells (cells4 fun _ => slZ) 71))
  have hb3 := Box.new ((w.alloc (.cells (cells4 vs) 71)).alloc (.cells #[.int .i64 c, .int .i64 r, .int .i64 a] 59)) (cells4 fun _ => slZ) 71
  simp only [World.size_alloc] at hb1 hb2 hb3
  have hmay := fdsMay (stV vs) s _ (hx0.le hl)
  rw [hm] at hmay
  go_enter Tryz.func128, Tryz.ntmps128
  go_wp2_with fail
  refine hmay.mono ?_
  rintro e w1 ⟨rfl, l1⟩
  obtain ⟨y0, y1, y2, _, _, _⟩ := (hb2.le l1).op
  clear hmay
  go_wp2_with fail
  refine (operMay _ _ _ _).mono ?_
  rw [hop]
  rintro e w2 ⟨rfl, l2⟩
  replace l1 := l1.trans l2
  clear l2 y0 y1 y2
  obtain ⟨x0, x1, x2, x3, _, _, _, _⟩ := (hb1.le l1).st
  obtain ⟨y0, y1, y2, _, _, _⟩ := (hb2.le l1).op
  go_wp2_with fail
  refine (countedAll 136 137 (fun xs _ => putS xs) takeS fdsPutT fdsTakeT (stV vs) s c r a _ (hx0.le (hl.trans l1)) hf (fun j hj => rowMay2_len (St.all_at hm hj)) hop).mono ?_
  obtain ⟨Y, hY⟩ : ∃ Y, Y = cntY (fun xs _ => putS xs) takeS s c r a := ⟨_, rfl⟩
  rw [← hY]
  have HY : Hid (Y = cntY (fun xs _ => putS xs) takeS s c r a) := hY
  clear hY
  rintro e w3 ⟨_, rfl, ⟨us, rfl, hown⟩, l3⟩
  replace hown := fun i hi => (hown i hi).base (base' := w.heap.size) (hl.trans l1).size
  replace l1 := l1.trans l3
  clear l3 y0 y1 y2 x0 x1 x2 x3
  have n0 : w.heap.size + 1 + 1 < w3.heap.size := (hb3.le l1).lt
  have n1 : ¬ w.heap.size + 1 + 1 = w3.heap.size := by omega
  have hb4 := Box.new w3 (cells4 us) 71
  replace l1 := l1.trans (Le.alloc w3 (.cells (cells4 us) 71))
  replace hown := fun i hi => (hown i hi).le (Le.alloc w3 (.cells (cells4 us) 71))
  go_upto_region 4 with fail
  generalize hW : w3.alloc (.cells (cells4 us) 71) = W at hb4 l1 hown ⊢
  clear hW
  obtain ⟨y0, y1, y2, y3, _, _, _, _⟩ := hb4.st
  obtain ⟨z0, z1, z2, z3, f0, f1, f2, f3⟩ := (hb3.le l1).st
  go_wp2_with fail
  refine bodyPost_ret (v := .tuple #[stV us, .int .i64 Y.2, .int .i64 0]) (by simp [results, Tryz.results128, go_sem, z0, z1, z2, z3]) rfl ⟨stV us, by rw [HY.out], ⟨us, rfl, fun i hi => ?_⟩, ?_⟩
  · rw [← HY.out]; exact (hown i hi).set4 (hb3.le l1) (by decide) _ _ _ _
  · exact (hl.trans l1).set4 (by omega) _ _ _ _

theorem fdsS_no {s : St} {c r a er : Int} (h : (s.all rowMay2 && opMay c r a) = false) : fdsS s c r a er = (St.zero, 0, er) := cntS_no h
theorem fdsS_scan {s : St} {er : Int} (h : s.all rowMay2 = true) : fdsS s 3 0 0 er = (s, manyTo s 4, 0) := cntS_scan h
theorem fdsS_look {s : St} {k : Nat} {er : Int} (h : s.all rowMay2 = true) (hk : k < 4) : fdsS s 2 k 0 er = (s, ((s.at k).length : Int), 0) := cntS_look h hk

theorem fdsApply (v : Value) (s : St) (c r a : Int) (w : World) (hx : HasS w v s) (hf : Fit s) :
    Calls Tryz.prog 128 #[v, opV c r a] w fun e w' => ∃ v', e = .returned (.tuple #[v', .int .i64 (fdsS s c r a 400).2.1, .int .i64 (fdsS s c r a 400).2.2]) ∧ OwnS w' w.heap.size v' (fdsS s c r a 400).1 ∧ Le w w' := by
  cases h : s.all rowMay2 && opMay c r a
  · rw [fdsS_no h]
    exact (fdsApplyNo v s c r a w hx h).mono fun e w' ⟨he, hl⟩ => ⟨stZ, he, OwnS.zero _ _, hl⟩
  · obtain ⟨hm, ho⟩ := Bool.and_eq_true_iff.mp h
    rw [show fdsS s c r a 400 = _ from cntS_yes h]
    exact fdsApplyYes v s c r a w hx hf hm ho

end Go.Proofs.YtkddgpdlpjjpbaaGreat

/-
  PLAIN GROUND: what the answers of fds.Apply keep. No condition.
-/
namespace Go.Proofs.YtkddgpdlpjjpbaaGreat
open Go.RowKit

theorem fdsS_first {s : St} {k : Nat} {a er : Int} (h : s.all rowMay2 = true) (hk : k < 4) (ha : 0 ≤ a ∧ a ≤ 255) : fdsS s 0 k a er = (s.put k (putS (s.at k)).1, (putS (s.at k)).2, 0) := cntS_first h hk ha
theorem fdsS_second {s : St} {k : Nat} {a er : Int} (h : s.all rowMay2 = true) (hk : k < 4) (ha : 0 ≤ a ∧ a ≤ 255) : fdsS s 1 k a er = (s.put k (takeS (s.at k) a).1, (takeS (s.at k) a).2, 0) := cntS_second h hk ha

theorem idx_out {a : Int} : ∀ {i : Int} {xs : List Int}, a ∉ xs → idxFrom i a xs = -1
  | _, [], _ => rfl
  | i, x :: r, h => by
    simp only [List.mem_cons, not_or] at h
    simp only [idxFrom, if_neg h.1]
    exact idx_out h.2
theorem take_out {xs : List Int} {a : Int} (h : a ∉ xs) : takeS xs a = (xs, 0) := by
  have : idxS xs a = -1 := idx_out h
  simp [takeS, this]

theorem put_rows : ∀ xs ∈ rowsAbove 4, rowMay2 (putS xs).1 = true := by decide
theorem take_rows : ∀ xs ∈ rowsAbove 4, ∀ a ∈ xs, rowMay2 (takeS xs a).1 = true := by decide
theorem put_may {xs : List Int} (h : rowMay2 xs = true) : rowMay2 (putS xs).1 = true := put_rows xs (rowMay2_mem h)
theorem take_may {xs : List Int} {a : Int} (h : rowMay2 xs = true) : rowMay2 (takeS xs a).1 = true := by
  by_cases ha : a ∈ xs
  · exact take_rows xs (rowMay2_mem h) a ha
  · rw [take_out ha]; exact h

theorem may_all2 {s : St} (h : s.all rowMay2 = true) : Fit s := fun i hi => by
  have := rowMay2_len (St.all_at h hi)
  omega

theorem Fit.fds {s : St} (h : Fit s) (c r a er : Int) : Fit (fdsS s c r a er).1 := by
  cases hh : s.all rowMay2 && opMay c r a
  · rw [fdsS_no hh]; exact fit_zero
  · obtain ⟨hm, ho⟩ := Bool.and_eq_true_iff.mp hh
    rcases opMay_cases ho with ⟨k, hk, rfl, rfl, ha⟩ | ⟨k, hk, rfl, rfl, ha⟩ | ⟨k, hk, rfl, rfl, rfl⟩ | ⟨rfl, rfl, rfl⟩
    · rw [fdsS_first hm hk ha]; exact h.put hk (rowMay2_len (put_may (St.all_at hm hk)))
    · rw [fdsS_second hm hk ha]; exact h.put hk (rowMay2_len (take_may (St.all_at hm hk)))
    · rw [fdsS_look hm hk]; exact h
    · rw [fdsS_scan hm]; exact h

end Go.Proofs.YtkddgpdlpjjpbaaGreat

/-
  PLAIN GROUND AND THE WALKS over package queue's mayRow, put, take, and over slices.ContainsFunc at []int: what each answers, for every row. Condition: at put and take, that the row is the call's own and short.
-/
namespace Go.Proofs.YtkddgpdlpjjpbaaGreat
open Go.RowKit

/-- May a row be a queue's? -/
def rowMay3 (xs : List Int) : Bool := decide (xs.length ≤ 4) && xs.all argB
/-- The row with a number behind all others, and 1; the row as it is, and 0, if it is full. -/
def enqS (xs : List Int) (a : Int) : List Int × Int := if 4 ≤ xs.length then (xs, 0) else (xs ++ [a], 1)
/-- The row without its first number; that number, or -1. -/
def deqS : List Int → List Int × Int
  | [] => ([], -1)
  | x :: r => (r, x)

theorem rowMay3_len {xs : List Int} (h : rowMay3 xs = true) : xs.length ≤ 4 := by
  simp [rowMay3] at h; exact h.1
theorem rowMay3_all {xs : List Int} (h : rowMay3 xs = true) : ∀ x ∈ xs, 0 ≤ x ∧ x ≤ 255 := by
  simp [rowMay3, argB] at h; exact h.2
theorem rowMay3_of {xs : List Int} (h : xs.length ≤ 4) (k : ∀ x ∈ xs, 0 ≤ x ∧ x ≤ 255) : rowMay3 xs = true := by
  simp [rowMay3, argB]; exact ⟨h, k⟩

set_option maxHeartbeats 400000 in
theorem queOdd (x : Int) (w : World) : Calls Tryz.prog 146 #[.int .i64 x] w fun e w' => e = .returned (.bool (!argB x)) ∧ w = w' := by
  by_cases h : x < 0
  · go_enter Tryz.func146, Tryz.ntmps146
    go_wp2
    go_ret
    exact ⟨ret_bool (by simp [argB]; omega), rfl⟩
  · go_enter Tryz.func146, Tryz.ntmps146
    go_wp2
    go_ret
    exact ⟨ret_bool (by rw [Bool.eq_iff_iff]; simp [argB]; omega), rfl⟩

set_option maxHeartbeats 400000 in
theorem slicesIndexFunc (f : Nat) (p : Int → Bool) (hc : ∀ (u : Value) (w : World), (callFunc f #[u]).run Tryz.prog w = .ok (.enter f #[u]) w) (hp : ∀ x w, Calls Tryz.prog f #[.int .i64 x] w fun e w' => e = .returned (.bool (p x)) ∧ w = w') (v : Value) (xs : List Int) (w : World) (hx : Has w v xs) (hl : xs.length ≤ 1000) :
    Calls Tryz.prog 150 #[v, .func (.func f) #[] #[]] w fun e w' => (∃ i : Int, e = .returned (.int .i64 i) ∧ decide (0 ≤ i) = xs.any p) ∧ w = w' := by
  obtain ⟨a, cap, rfl, hcap, _, hx⟩ := hx
  obtain ⟨n, hn⟩ : ∃ n, n = xs.length := ⟨_, rfl⟩
  rw [← hn] at hcap hx hl ⊢
  have HN : Hid (n = xs.length) := hn
  clear hn
  go_enter Tryz.func150, Tryz.ntmps150
  go_wp2
  go_loop [8] (fun i => ∃ k : Nat, k ≤ n ∧ i = .int .i64 k ∧ Hid (xs.any p = (xs.drop k).any p)) (fun i => n - (intOf i).toNat)
  case atStart => exact ⟨0, by omega, rfl, hid (by simp)⟩
  case round =>
    obtain ⟨k, hk, rfl, HR⟩ := hrel
    by_cases hlt : k < n
    · obtain ⟨b, off, rfl, hcell⟩ := hx (by omega)
      have c0 := hcell k hlt
      have hd := HR.out
      rw [drop_at (by have := HN.out; omega)] at hd
      obtain ⟨x, hxk⟩ : ∃ x, x = xs.getD k 0 := ⟨_, rfl⟩
      rw [← hxk] at c0 hd
      simp only [List.any_cons] at hd
      have hm := hp x w
      have k0 : (0 : Int) ≤ (k : Int) := by omega
      have k1 : (k : Int) < (n : Int) := by omega
      cases hh : p x
      · rw [hh] at hm hd
        have HD : Hid (xs.any p = (xs.drop (k + 1)).any p) := hid (by rw [hd]; rfl)
        clear hd hxk hcell hx HR
        go_wp2_with fail
        refine hm.mono ?_
        rintro e w1 ⟨rfl, rfl⟩
        go_wp2
        go_round
        case rel => exact ⟨k + 1, by omega, by go_num, HD⟩
        case measure => simp [intOf]; omega
      · rw [hh] at hm hd
        have HD : Hid (xs.any p = true) := hid (by rw [hd]; rfl)
        clear hd hxk hcell hx HR
        go_wp2_with fail
        refine hm.mono ?_
        rintro e w1 ⟨rfl, rfl⟩
        go_wp2
        go_ret
        exact ⟨⟨k, rfl, by rw [HD.out]; simp⟩, rfl⟩
    · obtain rfl : k = n := by omega
      have HD : Hid (xs.any p = false) := hid (by have := HR.out; rw [List.drop_eq_nil_of_le (by have := HN.out; omega)] at this; exact this)
      go_wp2
      go_ret
      exact ⟨⟨-1, rfl, by rw [HD.out]; decide⟩, rfl⟩

set_option maxHeartbeats 400000 in
theorem slicesContainsFunc (f : Nat) (p : Int → Bool) (hc : ∀ (u : Value) (w : World), (callFunc f #[u]).run Tryz.prog w = .ok (.enter f #[u]) w) (hp : ∀ x w, Calls Tryz.prog f #[.int .i64 x] w fun e w' => e = .returned (.bool (p x)) ∧ w = w') (v : Value) (xs : List Int) (w : World) (hx : Has w v xs) (hl : xs.length ≤ 1000) :
    Calls Tryz.prog 147 #[v, .func (.func f) #[] #[]] w fun e w' => e = .returned (.bool (xs.any p)) ∧ w = w' := by
  have hi := slicesIndexFunc f p hc hp v xs w hx hl
  go_enter Tryz.func147, Tryz.ntmps147
  go_wp2_with fail
  refine hi.mono ?_
  rintro e w1 ⟨⟨i, rfl, hd⟩, rfl⟩
  have HD : Hid (decide (0 ≤ i) = xs.any p) := hd
  clear hd
  go_wp2
  go_ret
  exact ⟨ret_bool HD.out, rfl⟩

theorem any_not (xs : List Int) : (!xs.any fun x => !argB x) = xs.all argB := by
  induction xs with
  | nil => rfl
  | cons x r ih => simp only [List.any_cons, List.all_cons, ← ih, Bool.not_or, Bool.not_not]

set_option maxHeartbeats 400000 in
theorem queMayRow (v : Value) (xs : List Int) (w : World) (hx : Has w v xs) :
    Calls Tryz.prog 138 #[v] w fun e w' => e = .returned (.bool (rowMay3 xs)) ∧ w = w' := by
  have hx0 := hx
  obtain ⟨a, cap, rfl, hcap, _, hx⟩ := hx
  by_cases h4 : xs.length ≤ 4
  · have hcf := slicesContainsFunc 146 (fun x => !argB x) (fun _ _ => by kernel_rfl) queOdd _ xs w hx0 (by omega)
    obtain ⟨B, hB⟩ : ∃ B, B = xs.any fun x => !argB x := ⟨_, rfl⟩
    rw [← hB] at hcf
    have HB : Hid (rowMay3 xs = !B) := hid (by rw [hB, any_not]; simp [rowMay3, h4])
    have h5 : (xs.length : Int) ≤ 4 := by omega
    clear hB hx hx0
    go_enter Tryz.func138, Tryz.ntmps138
    go_wp2_with fail
    refine hcf.mono ?_
    rintro e w1 ⟨rfl, rfl⟩
    go_wp2
    go_ret
    exact ⟨ret_bool HB.out.symm, rfl⟩
  · have h5 : ¬ (xs.length : Int) ≤ 4 := by omega
    have HB : Hid (rowMay3 xs = false) := hid (by simp [rowMay3]; omega)
    clear hx hx0
    go_enter Tryz.func138, Tryz.ntmps138
    go_wp2
    go_ret
    exact ⟨ret_bool HB.out.symm, rfl⟩

set_option maxHeartbeats 400000 in
theorem quePut (v : Value) (base : Nat) (xs : List Int) (a : Int) (w : World) (hown : Own w base v xs) (hbase : base ≤ w.heap.size) (hl : xs.length ≤ 4) :
    Calls Tryz.prog 139 #[v, .int .i64 a] w fun e w' => ∃ v', e = .returned (.tuple #[v', .int .i64 (enqS xs a).2]) ∧ Own w' base v' (enqS xs a).1 ∧ w.grownBy w' v.ownBlock := by
  obtain ⟨ad, cap, rfl, hc, _, hx⟩ := hown.has
  by_cases h4 : 4 ≤ xs.length
  · have HP : Hid (enqS xs a = (xs, 0)) := hid (by simp [enqS, h4])
    have h5 : (4 : Int) ≤ (xs.length : Int) := by omega
    clear hx
    go_enter Tryz.func139, Tryz.ntmps139
    go_wp2
    go_ret2
    rw [HP.out]
    exact ⟨_, rfl, hown, World.grownBy.refl _ _⟩
  · have HP : Hid (enqS xs a = (xs ++ [a], 1)) := hid (by simp [enqS, h4])
    have h5 : ¬ (4 : Int) ≤ (xs.length : Int) := by omega
    have hA := Le.alloc w (.cells #[.int .i64 a] 3)
    have hone : Own (w.alloc (.cells #[.int .i64 a] 3)) w.heap.size (slV (some ⟨w.heap.size, 0, none⟩, 1, 1)) [a] := Own.lit w _ (Nat.le_refl _) [a] (by simp)
    clear hx
    go_enter Tryz.func139, Tryz.ntmps139
    go_wp2_with (at_builtin; refine wp_append_ints rfl _ _ rfl base _ _ xs [a] rfl rfl (hown.le hA) hone.has (by simp; omega) (Nat.le_trans hbase hA.size) ?_; intro v' w2 hown2 hgrow; obtain ⟨q2, rfl⟩ := hown2.has.sl)
    go_ret2
    rw [HP.out]
    exact ⟨_, rfl, hown2, grownBy_trans (World.grownBy_alloc _ _ _) hgrow⟩

theorem quePutT : TurnsRow 139 enqS :=
  ⟨fun _ _ _ => by kernel_rfl, fun v base xs a w ho hb hl _ => quePut v base xs a w ho hb hl⟩

set_option maxHeartbeats 1000000 in
theorem queTake (v : Value) (base : Nat) (xs : List Int) (a : Int) (w : World) (hown : Own w base v xs) (hbase : base ≤ w.heap.size) (hl : xs.length ≤ 4) :
    Calls Tryz.prog 140 #[v, .int .i64 a] w fun e w' => ∃ v', e = .returned (.tuple #[v', .int .i64 (deqS xs).2]) ∧ Own w' base v' (deqS xs).1 ∧ w.grownBy w' v.ownBlock := by
  obtain ⟨ad, cap, rfl, hc, _, hx⟩ := hown.has
  match xs, hl, hc, hx, hown with
  | [], hl, hc, hx, hown =>
    go_enter Tryz.func140, Tryz.ntmps140
    go_wp2
    go_ret2
    exact ⟨_, rfl, Own.nil _ _, World.grownBy.refl _ _⟩
  | x :: zs, hl, hc, hx, hown =>
    obtain ⟨b, off, rfl, hcell⟩ := hx (by simp)
    have c0 : w.cell? ⟨b, off, none⟩ = some (.int .i64 x) := hcell 0 (by simp)
    obtain ⟨n, hn⟩ : ∃ n, n = zs.length := ⟨_, rfl⟩
    obtain ⟨A, hAe, hB⟩ : ∃ A, (if cap = 1 then some ⟨b, off, none⟩ else some ⟨b, off + 1, none⟩ : Option Addr) = A ∧ Has w (.slice A n (cap - 1)) zs := by
      refine ⟨_, rfl, _, _, by rw [← hn], by simp at hc; omega, (fun h => by split at h <;> cases h), fun hp => ?_⟩
      simp only [List.length_cons] at hc
      rw [if_neg (by omega)]
      refine ⟨b, off + 1, rfl, fun j hj => ?_⟩
      have := hcell (j + 1) (by simp; omega)
      rw [Nat.add_assoc, Nat.add_comm 1 j, this]
      rfl
    have HN : Hid (n = zs.length) := hn
    simp only [List.length_cons] at hc hl ⊢
    rw [← hn] at hc hl ⊢
    have n0 : ¬ (((n + 1 : Nat) : Int)) = 0 := by omega
    have n1 : (1 : Int) ≤ (n : Int) + 1 := by omega
    clear hx hcell hn
    go_enter Tryz.func140, Tryz.ntmps140
    go_wp2_with fail
    go_region_law ((refine step_append_ints rfl (.const (.slice none 0 0)) (.tmp 10) rfl w.heap.size (.slice none 0 0) (.slice A n (cap - 1)) [] zs (by simp [Act.eval]) (by simp [Act.eval, Act.put]) (Own.nil _ _) hB (by simp; have := HN.out; omega) (Nat.le_refl _) ?_; intro v1 w1 o1 g1; have l1 : Le w w1 := Below.grown (Le.drew w) g1 (Nat.le_refl _) (fun g e => (by cases e)); have c1 : w1.cell? ⟨b, off, none⟩ = some (.int .i64 x) := (by rw [l1.cell (p := ⟨b, off, none⟩) (World.block_lt_of_cell? w _ c0)]; exact c0)))
    all_goals
      go_wp2
      go_ret2
      rw [List.nil_append] at o1
      exact ⟨_, rfl, o1.base hbase, l1.grownBy _⟩

theorem queTakeT : TurnsRow 140 (fun xs _ => deqS xs) :=
  ⟨fun _ _ _ => by kernel_rfl, fun v base xs a w ho hb hl _ => queTake v base xs a w ho hb hl⟩

end Go.Proofs.YtkddgpdlpjjpbaaGreat

/-
  THE WALK over queue.Apply: what it answers, for every state and operation, and that what it hands back lies in memory of its own. Condition: the state's rows can be copied.
-/
namespace Go.Proofs.YtkddgpdlpjjpbaaGreat
open Go.RowKit

theorem queMay (v : Value) (s : St) (w : World) (hx : HasS w v s) :
    Calls Tryz.prog 130 #[v, .func (.func 138) #[] #[]] w fun e w' => e = .returned (.bool (s.all rowMay3)) ∧ Le w w' :=
  statesMay 138 rowMay3 (fun _ _ => by kernel_rfl) queMayRow v s w hx

/-- The document's answer: the state, the answer, the error. -/
def queS (s : St) (c r a e : Int) : St × Int × Int := cntS rowMay3 enqS (fun xs _ => deqS xs) s c r a e

set_option maxHeartbeats 2000000 in
theorem queApplyNo (v : Value) (s : St) (c r a : Int) (w : World) (hx : HasS w v s) (h : (s.all rowMay3 && opMay c r a) = false) :
    Calls Tryz.prog 129 #[v, opV c r a] w fun e w' => e = .returned (.tuple #[stZ, .int .i64 0, .int .i64 500]) ∧ Le w w' := by
  have hx0 := hx
  obtain ⟨vs, rfl, hr⟩ := hx
  have hl := ((Le.alloc w (.cells (cells4 vs) 71)).trans (Le.alloc _ (.cells #[.int .i64 c, .int .i64 r, .int .i64 a] 59))).trans (Le.alloc _ (.cells (cells4 fun _ => slZ) 71))
  have hb1 := ((Box.new w (cells4 vs) 71).le (Le.alloc _ (.cells #[.int .i64 c, .int .i64 r, .int .i64 a] 59))).le (Le.alloc _ (.cells (cells4 fun _ => slZ) 71))
  have hb2 := (Box.new (w.alloc (.cells (cells4 vs) 71)) #[.int .i64 c, .int .i64 r, .int .i64 a] 59).le (Le.alloc _ (.cells (cells4 fun _ => slZ) 71))
  have hb3 := Box.new ((w.alloc (.cells (cells4 vs) 71)).alloc (.cells #[.int .i64 c, .int .i64 r, .int .i64 a] 59)) (cells4 fun _ => slZ) 71
  simp only [World.size_alloc] at hb1 hb2 hb3
  have hmay := queMay (stV vs) s _ (hx0.le hl)
  cases hm : s.all rowMay3
  · rw [hm] at hmay
    go_enter Tryz.func129, Tryz.ntmps129
    go_wp2_with fail
    refine hmay.mono ?_
    rintro e w1 ⟨rfl, l1⟩
    obtain ⟨z0, z1, z2, z3, f0, f1, f2, f3⟩ := (hb3.le l1).st
    go_wp2_with fail
    refine bodyPost_ret (v := .tuple #[stZ, .int .i64 0, .int .i64 500]) (by simp [results, Tryz.results129, go_sem, z0, z1, z2, z3]) rfl ⟨rfl, ?_⟩
    exact (hl.trans l1).set4 (by omega) _ _ _ _
  · have hop : opMay c r a = false := by simpa [hm] using h
    rw [hm] at hmay
    go_enter Tryz.func129, Tryz.ntmps129
    go_wp2_with fail
    refine hmay.mono ?_
    rintro e w1 ⟨rfl, l1⟩
    obtain ⟨y0, y1, y2, _, _, _⟩ := (hb2.le l1).op
    go_wp2_with fail
    refine (operMay _ _ _ _).mono ?_
    rw [hop]
    rintro e w2 ⟨rfl, l2⟩
    obtain ⟨z0, z1, z2, z3, f0, f1, f2, f3⟩ := ((hb3.le l1).le l2).st
    go_wp2_with fail
    refine bodyPost_ret (v := .tuple #[stZ, .int .i64 0, .int .i64 500]) (by simp [results, Tryz.results129, go_sem, z0, z1, z2, z3]) rfl ⟨rfl, ?_⟩
    exact ((hl.trans l1).trans l2).set4 (by omega) _ _ _ _

set_option maxHeartbeats 2000000 in
theorem queApplyYes (v : Value) (s : St) (c r a : Int) (w : World) (hx : HasS w v s) (hf : Fit s) (hm : s.all rowMay3 = true) (hop : opMay c r a = true) :
    Calls Tryz.prog 129 #[v, opV c r a] w fun e w' => ∃ v', e = .returned (.tuple #[v', .int .i64 (cntY enqS (fun xs _ => deqS xs) s c r a).2, .int .i64 0]) ∧ OwnS w' w.heap.size v' (cntY enqS (fun xs _ => deqS xs) s c r a).1 ∧ Le w w' := by
  have hx0 := hx
  obtain ⟨vs, rfl, hr⟩ := hx
  have hl := ((Le.alloc w (.cells (cells4 vs) 71)).trans (Le.alloc _ (.cells #[.int .i64 c, .int .i64 r, .int .i64 a] 59))).trans (Le.alloc _ (.cells (cells4 fun _ => slZ) 71))
  have hb1 := ((Box.new w (cells4 vs) 71).le (Le.alloc _ (.cells #[.int .i64 c, .int .i64 r, .int .i64 a] 59))).le (Le.alloc _ (.cells (cells4 fun _ => slZ) 71))
  have hb2 := (Box.new (w.alloc (.cells (cells4 vs) 71)) #[.int .i64 c, .int .i64 r, .int .i64 a] 59).le (Le.alloc _ (.cells (cells4 fun _ => slZ) 71))
  have hb3 := Box.new ((w.alloc (.cells (cells4 vs) 71)).alloc (.cells #[.int .i64 c, .int .i64 r, .int .i64 a] 59)) (cells4 fun _ => slZ) 71
  simp only [World.size_alloc] at hb1 hb2 hb3
  have hmay := queMay (stV vs) s _ (hx0.le hl)
  rw [hm] at hmay
  go_enter Tryz.func129, Tryz.ntmps129
  go_wp2_with fail
  refine hmay.mono ?_
  rintro e w1 ⟨rfl, l1⟩
  obtain ⟨y0, y1, y2, _, _, _⟩ := (hb2.le l1).op
  clear hmay
  go_wp2_with fail
  refine (operMay _ _ _ _).mono ?_
  rw [hop]
  rintro e w2 ⟨rfl, l2⟩
  replace l1 := l1.trans l2
  clear l2 y0 y1 y2
  obtain ⟨x0, x1, x2, x3, _, _, _, _⟩ := (hb1.le l1).st
  obtain ⟨y0, y1, y2, _, _, _⟩ := (hb2.le l1).op
  go_wp2_with fail
  refine (countedAll 139 140 enqS (fun xs _ => deqS xs) quePutT queTakeT (stV vs) s c r a _ (hx0.le (hl.trans l1)) hf (fun j hj => rowMay3_len (St.all_at hm hj)) hop).mono ?_
  obtain ⟨Y, hY⟩ : ∃ Y, Y = cntY enqS (fun xs _ => deqS xs) s c r a := ⟨_, rfl⟩
  rw [← hY]
  have HY : Hid (Y = cntY enqS (fun xs _ => deqS xs) s c r a) := hY
  clear hY
  rintro e w3 ⟨_, rfl, ⟨us, rfl, hown⟩, l3⟩
  replace hown := fun i hi => (hown i hi).base (base' := w.heap.size) (hl.trans l1).size
  replace l1 := l1.trans l3
  clear l3 y0 y1 y2 x0 x1 x2 x3
  have n0 : w.heap.size + 1 + 1 < w3.heap.size := (hb3.le l1).lt
  have n1 : ¬ w.heap.size + 1 + 1 = w3.heap.size := by omega
  have hb4 := Box.new w3 (cells4 us) 71
  replace l1 := l1.trans (Le.alloc w3 (.cells (cells4 us) 71))
  replace hown := fun i hi => (hown i hi).le (Le.alloc w3 (.cells (cells4 us) 71))
  go_upto_region 4 with fail
  generalize hW : w3.alloc (.cells (cells4 us) 71) = W at hb4 l1 hown ⊢
  clear hW
  obtain ⟨y0, y1, y2, y3, _, _, _, _⟩ := hb4.st
  obtain ⟨z0, z1, z2, z3, f0, f1, f2, f3⟩ := (hb3.le l1).st
  go_wp2_with fail
  refine bodyPost_ret (v := .tuple #[stV us, .int .i64 Y.2, .int .i64 0]) (by simp [results, Tryz.results129, go_sem, z0, z1, z2, z3]) rfl ⟨stV us, by rw [HY.out], ⟨us, rfl, fun i hi => ?_⟩, ?_⟩
  · rw [← HY.out]; exact (hown i hi).set4 (hb3.le l1) (by decide) _ _ _ _
  · exact (hl.trans l1).set4 (by omega) _ _ _ _

theorem queS_no {s : St} {c r a er : Int} (h : (s.all rowMay3 && opMay c r a) = false) : queS s c r a er = (St.zero, 0, er) := cntS_no h
theorem queS_scan {s : St} {er : Int} (h : s.all rowMay3 = true) : queS s 3 0 0 er = (s, manyTo s 4, 0) := cntS_scan h
theorem queS_look {s : St} {k : Nat} {er : Int} (h : s.all rowMay3 = true) (hk : k < 4) : queS s 2 k 0 er = (s, ((s.at k).length : Int), 0) := cntS_look h hk

theorem queApply (v : Value) (s : St) (c r a : Int) (w : World) (hx : HasS w v s) (hf : Fit s) :
    Calls Tryz.prog 129 #[v, opV c r a] w fun e w' => ∃ v', e = .returned (.tuple #[v', .int .i64 (queS s c r a 500).2.1, .int .i64 (queS s c r a 500).2.2]) ∧ OwnS w' w.heap.size v' (queS s c r a 500).1 ∧ Le w w' := by
  cases h : s.all rowMay3 && opMay c r a
  · rw [queS_no h]
    exact (queApplyNo v s c r a w hx h).mono fun e w' ⟨he, hl⟩ => ⟨stZ, he, OwnS.zero _ _, hl⟩
  · obtain ⟨hm, ho⟩ := Bool.and_eq_true_iff.mp h
    rw [show queS s c r a 500 = _ from cntS_yes h]
    exact queApplyYes v s c r a w hx hf hm ho

end Go.Proofs.YtkddgpdlpjjpbaaGreat

/-
  PLAIN GROUND: what the answers of queue.Apply keep. No condition.
-/
namespace Go.Proofs.YtkddgpdlpjjpbaaGreat
open Go.RowKit

theorem queS_first {s : St} {k : Nat} {a er : Int} (h : s.all rowMay3 = true) (hk : k < 4) (ha : 0 ≤ a ∧ a ≤ 255) : queS s 0 k a er = (s.put k (enqS (s.at k) a).1, (enqS (s.at k) a).2, 0) := cntS_first h hk ha
theorem queS_second {s : St} {k : Nat} {a er : Int} (h : s.all rowMay3 = true) (hk : k < 4) (ha : 0 ≤ a ∧ a ≤ 255) : queS s 1 k a er = (s.put k (deqS (s.at k)).1, (deqS (s.at k)).2, 0) := cntS_second h hk ha

theorem enq_may {xs : List Int} {a : Int} (h : rowMay3 xs = true) (ha : 0 ≤ a ∧ a ≤ 255) : rowMay3 (enqS xs a).1 = true := by
  unfold enqS
  split
  · exact h
  · refine rowMay3_of (by simp; omega) fun x hx => ?_
    rcases List.mem_append.mp hx with hx | hx
    · exact rowMay3_all h x hx
    · simp at hx; subst hx; exact ha
theorem deq_may {xs : List Int} (h : rowMay3 xs = true) : rowMay3 (deqS xs).1 = true := by
  match xs, h with
  | [], h => exact h
  | x :: r, h =>
    have h1 := rowMay3_len h
    simp only [List.length_cons] at h1
    exact rowMay3_of (show r.length ≤ 4 by omega) fun y hy => rowMay3_all h y (List.mem_cons_of_mem _ hy)

theorem may_all3 {s : St} (h : s.all rowMay3 = true) : Fit s := fun i hi => by
  have := rowMay3_len (St.all_at h hi)
  omega

theorem Fit.que {s : St} (h : Fit s) (c r a er : Int) : Fit (queS s c r a er).1 := by
  cases hh : s.all rowMay3 && opMay c r a
  · rw [queS_no hh]; exact fit_zero
  · obtain ⟨hm, ho⟩ := Bool.and_eq_true_iff.mp hh
    rcases opMay_cases ho with ⟨k, hk, rfl, rfl, ha⟩ | ⟨k, hk, rfl, rfl, ha⟩ | ⟨k, hk, rfl, rfl, rfl⟩ | ⟨rfl, rfl, rfl⟩
    · rw [queS_first hm hk ha]; exact h.put hk (rowMay3_len (enq_may (St.all_at hm hk) ha))
    · rw [queS_second hm hk ha]; exact h.put hk (rowMay3_len (deq_may (St.all_at hm hk)))
    · rw [queS_look hm hk]; exact h
    · rw [queS_scan hm]; exact h

end Go.Proofs.YtkddgpdlpjjpbaaGreat

/-
  PLAIN GROUND, NO WALK: the document's answer of one of three objects. No condition.
-/
namespace Go.Proofs.YtkddgpdlpjjpbaaGreat
open Go.RowKit

/-- May a row be the object's? -/
def rowMayO (o : Int) (xs : List Int) : Bool := if o = 0 then rowMay1 xs else if o = 1 then rowMay2 xs else rowMay3 xs
/-- May it be such a state? -/
def objMay (o : Int) (s : St) : Bool := (decide (0 ≤ o) && decide (o ≤ 2)) && s.all (rowMayO o)
/-- The document's answer of object o: the state, the answer, the error. -/
def objS (o : Int) (s : St) (c r a e : Int) : St × Int × Int :=
  if o = 0 then stoS s c r a e else if o = 1 then fdsS s c r a e else if o = 2 then queS s c r a e else (St.zero, 0, e)

theorem objMay0 (s : St) : objMay 0 s = s.all rowMay1 := rfl
theorem objMay1 (s : St) : objMay 1 s = s.all rowMay2 := rfl
theorem objMay2 (s : St) : objMay 2 s = s.all rowMay3 := rfl
theorem objMay_out {o : Int} (h : o < 0 ∨ 2 < o) (s : St) : objMay o s = false := by
  have : (decide (0 ≤ o) && decide (o ≤ 2)) = false := by simp; omega
  simp [objMay, this]
theorem objS_out {o : Int} (h : o < 0 ∨ 2 < o) (s : St) (c r a e : Int) : objS o s c r a e = (St.zero, 0, e) := by
  unfold objS
  rw [if_neg (by omega), if_neg (by omega), if_neg (by omega)]
theorem obj_cases {o : Int} : o = 0 ∨ o = 1 ∨ o = 2 ∨ (o < 0 ∨ 2 < o) := by omega

theorem stoS_err {s : St} {c r a er : Int} (h : (s.all rowMay1 && opMay c r a) = true) : stoS s c r a er = ((stoS s c r a 0).1, (stoS s c r a 0).2.1, 0) := by
  simp only [stoS, if_pos h]
  split <;> rfl

theorem fdsS_err {s : St} {c r a er : Int} (h : (s.all rowMay2 && opMay c r a) = true) : fdsS s c r a er = ((fdsS s c r a 0).1, (fdsS s c r a 0).2.1, 0) := by
  rw [show fdsS s c r a 0 = _ from cntS_yes h]; exact cntS_yes h
theorem queS_err {s : St} {c r a er : Int} (h : (s.all rowMay3 && opMay c r a) = true) : queS s c r a er = ((queS s c r a 0).1, (queS s c r a 0).2.1, 0) := by
  rw [show queS s c r a 0 = _ from cntS_yes h]; exact cntS_yes h

theorem objS_no {o : Int} {s : St} {c r a er : Int} (h : (objMay o s && opMay c r a) = false) : objS o s c r a er = (St.zero, 0, er) := by
  rcases obj_cases (o := o) with rfl | rfl | rfl | ho
  · exact stoS_no h
  · exact fdsS_no h
  · exact queS_no h
  · exact objS_out ho _ _ _ _ _
theorem objS_yes {o : Int} {s : St} {c r a : Int} (er : Int) (h : (objMay o s && opMay c r a) = true) : objS o s c r a er = ((objS o s c r a 0).1, (objS o s c r a 0).2.1, 0) := by
  rcases obj_cases (o := o) with rfl | rfl | rfl | ho
  · exact stoS_err h
  · exact fdsS_err h
  · exact queS_err h
  · rw [objMay_out ho] at h; simp at h
theorem Fit.obj {s : St} (h : Fit s) (o c r a er : Int) : Fit (objS o s c r a er).1 := by
  rcases obj_cases (o := o) with rfl | rfl | rfl | ho
  · exact h.sto c r a er
  · exact h.fds c r a er
  · exact h.que c r a er
  · rw [objS_out ho]; exact fit_zero

end Go.Proofs.YtkddgpdlpjjpbaaGreat

/-
  PLAIN GROUND, NO WALK: when a machine may be, by the document's chapter 14. No condition.
-/
namespace Go.Proofs.YtkddgpdlpjjpbaaGreat
open Go.RowKit

/-- May a Config be? -/
def Cfg.ok (c : Cfg) : Bool := cfgB c.o c.r c.l c.t c.s
/-- May it be one of the logs? -/
def ringB (c : Cfg) (R : Rg) : Bool := mayR R && (decide ((R.ss.length : Int) = c.s) && (inB 0 R.f c.t && R.ss.all (fun s => inB 0 s.t (c.t - 1))))
/-- Is each cursor in its own log? -/
def cursOK (Rs : List Rg) (cs : List Int) : Bool := (List.range cs.length).all fun i => inB (Rs.getD i Rg.zero).h (cs.getD i 0) (Rs.getD i Rg.zero).t
/-- May it be one of the replicas? -/
def repB (c : Cfg) (Rs : List Rg) (P : Rp) : Bool := objMay c.o P.s && (decide ((P.cs.length : Int) = c.l) && (cursOK Rs P.cs && (decide ((P.ls.length : Int) = c.l) && P.ls.all (fun x => inB 0 x c.t))))
/-- May it be one of the threads? -/
def thB (c : Cfg) (T : Th) : Bool := inB 0 T.st 19 && (opMay T.c T.r T.a && (inB 0 T.lg (c.l - 1) && (inB 0 T.sn 1048576 && ((decide ((T.b.length : Int) ≤ c.t) && T.b.all (fun x => inB 0 x (c.t - 1))) && (inB 0 T.pl T.b.length && (decide ((T.tl.length : Int) ≤ c.l) && T.tl.all (fun x => inB 0 x 1048576)))))))
/-- May it be one of the history? -/
def evB (c : Cfg) (E : Ev) : Bool := inB 0 E.t (c.t - 1) && opMay E.c E.r E.a
/-- May a machine be? -/
def mayM (M : Mc) : Bool := M.c.ok && ((decide ((M.rs.length : Int) = M.c.l) && M.rs.all (ringB M.c)) && ((decide ((M.ps.length : Int) = M.c.r) && M.ps.all (repB M.c M.rs)) && ((decide ((M.ts.length : Int) = M.c.t) && M.ts.all (thB M.c)) && (decide ((M.es.length : Int) ≤ 64) && M.es.all (evB M.c)))))

theorem Cfg.ok_cases {c : Cfg} (h : c.ok = true) : (0 ≤ c.o ∧ c.o ≤ 2) ∧ (1 ≤ c.r ∧ c.r ≤ 2) ∧ (1 ≤ c.l ∧ c.l ≤ 2) ∧ (1 ≤ c.t ∧ c.t ≤ 4) ∧ slotsB c.s = true ∧ 2 * c.t ≤ c.s := cfgB_cases h

theorem cursOK_take {Rs : List Rg} {cs : List Int} {k : Nat} (h : ∀ i, i < k → inB (Rs.getD i Rg.zero).h (cs.getD i 0) (Rs.getD i Rg.zero).t = true) (hk : k = cs.length) : cursOK Rs cs = true := by
  subst hk
  simp only [cursOK, List.all_eq_true, List.mem_range]
  exact h
theorem cursOK_no {Rs : List Rg} {cs : List Int} {k : Nat} (hk : k < cs.length) (h : inB (Rs.getD k Rg.zero).h (cs.getD k 0) (Rs.getD k Rg.zero).t = false) : cursOK Rs cs = false := by
  rw [← Bool.not_eq_true]
  simp only [cursOK, List.all_eq_true, List.mem_range]
  intro hh
  have := hh k hk
  rw [h] at this
  cases this

end Go.Proofs.YtkddgpdlpjjpbaaGreat

/-
  THE WALKS over the document's own RingMay and NewRing: what each answers, for every ring. Condition: that the slots can be copied.
-/
namespace Go.Proofs.YtkddgpdlpjjpbaaGreat
open Go.RowKit

theorem slotB_up {s : Slt} : slotB s = (opUp s.c s.r s.a && threadB s.t && (decide (0 ≤ s.b) && decide (s.b ≤ 1))) := by
  rw [Bool.eq_iff_iff]
  simp [slotB, threadB]
  omega

theorem mayR_doc (R : Rg) : mayR R = (slotsB R.ss.length && holdB R.h && (decide (R.h ≤ R.t) && decide (R.t ≤ R.h + R.ss.length)) && holdB R.t && (decide (0 ≤ R.f) && decide (R.f ≤ 4)) && R.ss.all slotB) := by
  unfold mayR
  generalize R.ss.all slotB = z
  generalize slotsB R.ss.length = y
  cases z <;> cases y <;> simp only [Bool.and_false, Bool.false_and, Bool.true_and, Bool.and_true]
  rw [Bool.eq_iff_iff]
  simp [placesB, holdB]
  omega

set_option maxHeartbeats 1000000 in
theorem refRingMay (v : Value) (R : Rg) (w : World) (hx : HasR w v R) (hf : FitR R) : Calls Tryz.prog 78 #[v] w fun e w' => e = .returned (.bool (mayR R)) ∧ Le w w' := by
  rw [mayR_doc]
  obtain ⟨h, t, f, ss⟩ := R
  obtain ⟨q, rfl, hq⟩ := hx
  simp only [FitR] at hf hq ⊢
  have hb := Box.new w (cellsR h t f q) 67
  have hl := Le.alloc w (.cells (cellsR h t f q) 67)
  have hn := hq.len
  have hq0 : q.2.1 ≤ 4611686018427387904 := by omega
  rw [← hn]
  have HN : Hid (q.2.1 = ss.length) := hn
  clear hn
  have m1 := fun w => refSlotsMay q.2.1 w
  have m2 := fun w => refCellMay h w
  have m3 := fun w => refUpTo t h (h + q.2.1) w
  have m4 := fun w => refCellMay t w
  have m5 := fun w => refUpTo f 0 4 w
  cases h1 : slotsB q.2.1
  · rw [h1] at m1
    go_enter Tryz.func78, Tryz.ntmps78
    go_wp2_with (go_at_call 77; refine (m1 _).mono ?_; rintro e _ ⟨rfl, rfl⟩)
    go_ret
    exact ⟨ret_bool (by simp), hl⟩
  rw [h1] at m1
  have hlen := slotsB_cases h1
  cases h2 : holdB h
  · rw [h2] at m2
    go_enter Tryz.func78, Tryz.ntmps78
    go_wp2_with fail
    refine (m1 _).mono ?_
    rintro e _ ⟨rfl, rfl⟩
    go_wp2_with fail
    refine (m2 _).mono ?_
    rintro e _ ⟨rfl, rfl⟩
    go_wp2_with fail
    go_ret
    exact ⟨ret_bool (by simp), hl⟩
  rw [h2] at m2
  obtain ⟨p0, p1⟩ := holdB_cases h2
  have hsum : IntKind.i64.wrap (h + (q.2.1 : Int)) = h + (q.2.1 : Int) := by rw [IntKind.wrap_i64]; omega
  cases h3 : (decide (h ≤ t) && decide (t ≤ h + (q.2.1 : Int)))
  · rw [h3] at m3
    clear hlen
    go_enter Tryz.func78, Tryz.ntmps78
    go_wp2_with fail
    refine (m1 _).mono ?_
    rintro e _ ⟨rfl, rfl⟩
    go_wp2_with fail
    refine (m2 _).mono ?_
    rintro e _ ⟨rfl, rfl⟩
    go_wp2_with fail
    refine (m3 _).mono ?_
    rintro e _ ⟨rfl, rfl⟩
    go_wp2_with fail
    go_ret
    exact ⟨ret_bool (by simp), hl⟩
  rw [h3] at m3
  cases h4 : holdB t
  · rw [h4] at m4
    clear hlen
    go_enter Tryz.func78, Tryz.ntmps78
    go_wp2_with fail
    refine (m1 _).mono ?_
    rintro e _ ⟨rfl, rfl⟩
    go_wp2_with fail
    refine (m2 _).mono ?_
    rintro e _ ⟨rfl, rfl⟩
    go_wp2_with fail
    refine (m3 _).mono ?_
    rintro e _ ⟨rfl, rfl⟩
    go_wp2_with fail
    refine (m4 _).mono ?_
    rintro e _ ⟨rfl, rfl⟩
    go_wp2_with fail
    go_ret
    exact ⟨ret_bool (by simp), hl⟩
  rw [h4] at m4
  cases h5 : (decide (0 ≤ f) && decide (f ≤ 4))
  · rw [h5] at m5
    clear hlen
    go_enter Tryz.func78, Tryz.ntmps78
    go_wp2_with fail
    refine (m1 _).mono ?_
    rintro e _ ⟨rfl, rfl⟩
    go_wp2_with fail
    refine (m2 _).mono ?_
    rintro e _ ⟨rfl, rfl⟩
    go_wp2_with fail
    refine (m3 _).mono ?_
    rintro e _ ⟨rfl, rfl⟩
    go_wp2_with fail
    refine (m4 _).mono ?_
    rintro e _ ⟨rfl, rfl⟩
    go_wp2_with fail
    refine (m5 _).mono ?_
    rintro e _ ⟨rfl, rfl⟩
    go_wp2_with fail
    go_ret
    exact ⟨ret_bool (by simp), hl⟩
  rw [h5] at m5
  simp only [Bool.true_and]
  obtain ⟨a, cap, hqv, hcap, _, hxx⟩ := hq
  obtain ⟨b, off, rfl, hcell⟩ := hxx (by have := HN.out; omega)
  obtain ⟨qa, L, qc⟩ := q
  simp only [slV, Value.slice.injEq] at hqv
  obtain ⟨rfl, hn, rfl⟩ := hqv
  rw [← hn] at hcell
  have HL : Hid (L = ss.length) := hn
  have hL : L ≤ 16 := by simp only at hlen; omega
  clear hn HN hlen h1 h2 h3 h4 h5 hxx hcap hq0 hf
  go_enter Tryz.func78, Tryz.ntmps78
  go_wp2_with fail
  refine (m1 _).mono ?_
  rintro e _ ⟨rfl, rfl⟩
  go_wp2_with fail
  refine (m2 _).mono ?_
  rintro e _ ⟨rfl, rfl⟩
  go_wp2_with fail
  refine (m3 _).mono ?_
  rintro e _ ⟨rfl, rfl⟩
  go_wp2_with fail
  refine (m4 _).mono ?_
  rintro e _ ⟨rfl, rfl⟩
  go_wp2_with fail
  refine (m5 _).mono ?_
  rintro e _ ⟨rfl, rfl⟩
  go_wp2_with fail
  clear m1 m2 m3 m4 m5
  go_loopw [4] (fun i wr => ∃ k : Nat, k ≤ L ∧ i = .int .i64 k ∧ Hid ((ss.take k).all slotB = true) ∧ Le (w.alloc (.cells (cellsR h t f (some ⟨b, off, none⟩, L, qc)) 67)) wr) (fun i _ => L - (intOf i).toNat)
  case atStart => exact ⟨0, by omega, rfl, rfl, Le.refl _⟩
  case round =>
    obtain ⟨k, hk, rfl, HA, hle⟩ := hrel
    by_cases hlt : k < L
    · obtain ⟨s, hs⟩ : ∃ s, s = ss.getD k Slt.zero := ⟨_, rfl⟩
      have HS : Hid (s = ss.getD k Slt.zero) := hs
      obtain ⟨x0, x1, x2, x3, x4⟩ := ((hcell k hlt).le hl).le hle
      rw [← hs] at x0 x1 x2 x3 x4
      obtain ⟨b0, b1, b2, b3, _, _, _, _⟩ := (hb.le hle).ring
      replace b3 : wr.cell? ⟨w.heap.size, 3, none⟩ = some (.slice (some ⟨b, off, none⟩) L qc) := b3
      clear hs hcell
      have hlt' : (k : Int) < (L : Int) := by omega
      have hbs := Box.new wr #[.int .i64 s.c, .int .i64 s.r, .int .i64 s.a, .int .i64 s.t, .int .i64 s.b] 114
      have hls := Le.alloc wr (.cells #[.int .i64 s.c, .int .i64 s.r, .int .i64 s.a, .int .i64 s.t, .int .i64 s.b] 114)
      have r1 := fun w => refUpdates s.c s.r s.a w
      have r2 := fun w => refThreadMay s.t w
      have r3 := fun w => refUpTo s.b 0 1 w
      have HB : Hid (slotB s = (opUp s.c s.r s.a && threadB s.t && (decide (0 ≤ s.b) && decide (s.b ≤ 1)))) := slotB_up
      cases g1 : opUp s.c s.r s.a
      · rw [g1] at r1
        go_wp2_with fail
        refine (r1 _).mono ?_
        rintro e w1 ⟨rfl, l1⟩
        go_wp2_with fail
        go_ret
        exact ⟨ret_bool (all_no (k := k) (by have := HL.out; omega) (by rw [← HS.out, HB.out, g1]; rfl)).symm, ((hl.trans hle).trans hls).trans l1⟩
      rw [g1] at r1
      cases g2 : threadB s.t
      · rw [g2] at r2
        go_wp2_with fail
        refine (r1 _).mono ?_
        rintro e w1 ⟨rfl, l1⟩
        obtain ⟨y0, y1, y2, y3, y4⟩ := (hbs.le l1).slot
        go_wp2_with (go_at_call 98; refine (r2 _).mono ?_; rintro e _ ⟨rfl, rfl⟩)
        go_ret
        exact ⟨ret_bool (all_no (k := k) (by have := HL.out; omega) (by rw [← HS.out, HB.out, g1, g2]; rfl)).symm, ((hl.trans hle).trans hls).trans l1⟩
      rw [g2] at r2
      cases g3 : (decide (0 ≤ s.b) && decide (s.b ≤ 1))
      · rw [g3] at r3
        go_wp2_with fail
        refine (r1 _).mono ?_
        rintro e w1 ⟨rfl, l1⟩
        obtain ⟨y0, y1, y2, y3, y4⟩ := (hbs.le l1).slot
        go_wp2_with fail
        refine (r2 _).mono ?_
        rintro e _ ⟨rfl, rfl⟩
        go_wp2_with fail
        refine (r3 _).mono ?_
        rintro e _ ⟨rfl, rfl⟩
        go_wp2_with fail
        go_ret
        exact ⟨ret_bool (all_no (k := k) (by have := HL.out; omega) (by rw [← HS.out, HB.out, g1, g2, g3]; rfl)).symm, ((hl.trans hle).trans hls).trans l1⟩
      · rw [g3] at r3
        go_wp2_with fail
        refine (r1 _).mono ?_
        rintro e w1 ⟨rfl, l1⟩
        obtain ⟨y0, y1, y2, y3, y4⟩ := (hbs.le l1).slot
        go_wp2_with fail
        refine (r2 _).mono ?_
        rintro e _ ⟨rfl, rfl⟩
        go_wp2_with fail
        refine (r3 _).mono ?_
        rintro e _ ⟨rfl, rfl⟩
        go_wp2_with fail
        go_roundw
        case rel => exact ⟨k + 1, by omega, by go_num, allL_take (by have := HL.out; omega) HA.out (by rw [← HS.out, HB.out, g1, g2, g3]; rfl), (hle.trans hls).trans l1⟩
        case measure => simp [intOf]; omega
    · obtain rfl : k = L := by omega
      go_wp2_with fail
      go_ret
      exact ⟨ret_bool (by have := HA.out; rw [HL.out, List.take_length] at this; exact this.symm), hl.trans hle⟩

end Go.Proofs.YtkddgpdlpjjpbaaGreat

/-
  THE WALKS over the document's own upTo, ConfigMay and ReplicaOf (chorusref13): what each answers, for every Config and every thread. No condition.
-/
namespace Go.Proofs.YtkddgpdlpjjpbaaGreat
open Go.RowKit

theorem rmUpTo (x a b : Int) (w : World) : Calls Tryz.prog 58 #[.int .i64 x, .int .i64 a, .int .i64 b] w fun e w' => e = .returned (.bool (inB a x b)) ∧ w = w' := by
  by_cases h : a ≤ x
  all_goals
    go_enter Tryz.func58, Tryz.ntmps58
    go_wp2
    go_ret
    exact ⟨ret_bool (by simp [inB, h]; try omega), rfl⟩

set_option maxHeartbeats 2000000 in
theorem rmConfigMay (o r l t s : Int) (w : World) : Calls Tryz.prog 54 #[cfgV o r l t s] w fun e w' => e = .returned (.bool (cfgB o r l t s)) ∧ Le w w' := by
  have h1 := fun w' => rmUpTo o 0 2 w'
  have h2 := fun w' => rmUpTo r 1 2 w'
  have h3 := fun w' => rmUpTo l 1 2 w'
  have h4 := fun w' => rmUpTo t 1 4 w'
  have h5 := fun w' => refSlotsMay s w'
  cases k1 : inB 0 o 2
  · rw [k1] at h1
    go_enter Tryz.func54, Tryz.ntmps54
    go_wp2_with fail
    refine (h1 _).mono ?_; rintro e _ ⟨rfl, rfl⟩
    go_wp2_with fail
    go_ret
    exact ⟨ret_bool (by simp [cfgB, k1]), Le.alloc _ _⟩
  rw [k1] at h1
  cases k2 : inB 1 r 2
  · rw [k2] at h2
    go_enter Tryz.func54, Tryz.ntmps54
    go_wp2_with fail
    refine (h1 _).mono ?_; rintro e _ ⟨rfl, rfl⟩
    go_wp2_with fail
    refine (h2 _).mono ?_; rintro e _ ⟨rfl, rfl⟩
    go_wp2_with fail
    go_ret
    exact ⟨ret_bool (by simp [cfgB, k2]), Le.alloc _ _⟩
  rw [k2] at h2
  cases k3 : inB 1 l 2
  · rw [k3] at h3
    go_enter Tryz.func54, Tryz.ntmps54
    go_wp2_with fail
    refine (h1 _).mono ?_; rintro e _ ⟨rfl, rfl⟩
    go_wp2_with fail
    refine (h2 _).mono ?_; rintro e _ ⟨rfl, rfl⟩
    go_wp2_with fail
    refine (h3 _).mono ?_; rintro e _ ⟨rfl, rfl⟩
    go_wp2_with fail
    go_ret
    exact ⟨ret_bool (by simp [cfgB, k3]), Le.alloc _ _⟩
  rw [k3] at h3
  cases k4 : inB 1 t 4
  · rw [k4] at h4
    go_enter Tryz.func54, Tryz.ntmps54
    go_wp2_with fail
    refine (h1 _).mono ?_; rintro e _ ⟨rfl, rfl⟩
    go_wp2_with fail
    refine (h2 _).mono ?_; rintro e _ ⟨rfl, rfl⟩
    go_wp2_with fail
    refine (h3 _).mono ?_; rintro e _ ⟨rfl, rfl⟩
    go_wp2_with fail
    refine (h4 _).mono ?_; rintro e _ ⟨rfl, rfl⟩
    go_wp2_with fail
    go_ret
    exact ⟨ret_bool (by simp [cfgB, k4]), Le.alloc _ _⟩
  rw [k4] at h4
  obtain ⟨t0, t1⟩ := inB_cases k4
  have hb : cfgB o r l t s = (slotsB s && decide (2 * t ≤ s)) := by simp [cfgB, k1, k2, k3, k4]
  rw [hb]
  cases k5 : slotsB s
  all_goals
    rw [k5] at h5
    go_enter Tryz.func54, Tryz.ntmps54
    go_wp2_with fail
    refine (h1 _).mono ?_; rintro e _ ⟨rfl, rfl⟩
    go_wp2_with fail
    refine (h2 _).mono ?_; rintro e _ ⟨rfl, rfl⟩
    go_wp2_with fail
    refine (h3 _).mono ?_; rintro e _ ⟨rfl, rfl⟩
    go_wp2_with fail
    refine (h4 _).mono ?_; rintro e _ ⟨rfl, rfl⟩
    go_wp2_with fail
    refine (h5 _).mono ?_; rintro e _ ⟨rfl, rfl⟩
    go_wp2_with fail
    go_ret
    exact ⟨ret_bool (by simp), Le.alloc _ _⟩

end Go.Proofs.YtkddgpdlpjjpbaaGreat

/-
  THE WALK over the document's ringMay: may it be one of a machine's logs? Condition: that the slots can be copied.
-/
namespace Go.Proofs.YtkddgpdlpjjpbaaGreat
open Go.RowKit

/-- As the document asks it. -/
def ringD (c : Cfg) (R : Rg) : Bool := mayR R && (decide ((R.ss.length : Int) = c.s) && (decide (R.f ≤ c.t) && R.ss.all (fun s => decide (s.t < c.t))))
theorem ringB_doc (c : Cfg) (R : Rg) : ringB c R = ringD c R := by
  unfold ringB ringD
  cases h : mayR R
  · rfl
  simp only [Bool.true_and]
  have hf : 0 ≤ R.f := by unfold mayR at h; simp at h; exact h.1.1.2
  have hs : ∀ s ∈ R.ss, 0 ≤ s.t := by
    unfold mayR at h
    simp only [Bool.and_eq_true, List.all_eq_true] at h
    intro s hs
    have := h.2 s hs
    rw [slotB_up] at this
    simp [threadB] at this
    omega
  have e : R.ss.all (fun s => inB 0 s.t (c.t - 1)) = R.ss.all (fun s => decide (s.t < c.t)) := by
    rw [Bool.eq_iff_iff]
    simp only [List.all_eq_true, inB, Bool.and_eq_true, decide_eq_true_eq]
    constructor
    · intro h s hm; have := h s hm; omega
    · intro h s hm; have := h s hm; have := hs s hm; omega
  rw [e]
  have e2 : inB 0 R.f c.t = decide (R.f ≤ c.t) := by simp [inB, hf]
  rw [e2]

set_option maxHeartbeats 1000000 in
theorem rmRingMay (c : Cfg) (v : Value) (R : Rg) (w : World) (hx : HasR w v R) (hf : FitR R) : Calls Tryz.prog 55 #[cfgV c.o c.r c.l c.t c.s, v] w fun e w' => e = .returned (.bool (ringB c R)) ∧ Le w w' := by
  rw [ringB_doc]
  have hm := fun w' (l : Le w w') => refRingMay v R w' (hx.le l) hf
  obtain ⟨h, t, f, ss⟩ := R
  obtain ⟨q, rfl, hq⟩ := hx
  simp only [ringD] at hm hq ⊢
  have hl := (Le.alloc w (.cells #[.int .i64 c.o, .int .i64 c.r, .int .i64 c.l, .int .i64 c.t, .int .i64 c.s] 23)).trans (Le.alloc _ (.cells (cellsR h t f q) 67))
  have hb1 := (Box.new w #[.int .i64 c.o, .int .i64 c.r, .int .i64 c.l, .int .i64 c.t, .int .i64 c.s] 23).le (Le.alloc _ (.cells (cellsR h t f q) 67))
  have hb2 := Box.new (w.alloc (.cells #[.int .i64 c.o, .int .i64 c.r, .int .i64 c.l, .int .i64 c.t, .int .i64 c.s] 23)) (cellsR h t f q) 67
  rw [World.size_alloc] at hb2
  have hn := hq.len
  rw [← hn]
  have HN : Hid (q.2.1 = ss.length) := hn
  clear hn
  go_enter Tryz.func55, Tryz.ntmps55
  go_upto_region 1 with fail
  generalize hW : (w.alloc (.cells #[.int .i64 c.o, .int .i64 c.r, .int .i64 c.l, .int .i64 c.t, .int .i64 c.s] 23)).alloc (.cells (cellsR h t f q) 67) = W at hl hb1 hb2 ⊢
  clear hW
  obtain ⟨x0, x1, x2, x3, _, _, _, _⟩ := hb2.ring
  go_wp2_with fail
  refine (hm _ hl).mono ?_
  rintro e w1 ⟨rfl, l1⟩
  replace hb1 := hb1.le l1
  replace hb2 := hb2.le l1
  replace hl := hl.trans l1
  clear l1 x0 x1 x2 x3 hm
  obtain ⟨x0, x1, x2, x3, _, _, _, _⟩ := hb2.ring
  obtain ⟨z0, z1, z2, z3, z4⟩ := hb1.slot
  cases h1 : mayR ⟨h, t, f, ss⟩
  · go_wp2_with fail
    go_ret
    exact ⟨ret_bool (by rw [h1]; rfl), hl⟩
  by_cases h2 : (q.2.1 : Int) = c.s
  case neg =>
    go_wp2_with fail
    go_ret
    exact ⟨ret_bool (by rw [h1, decide_eq_false h2]; rfl), hl⟩
  by_cases h3 : f ≤ c.t
  case neg =>
    go_wp2_with fail
    go_ret
    exact ⟨ret_bool (by rw [h1, decide_eq_true h2, decide_eq_false (by omega)]; rfl), hl⟩
  obtain ⟨a, cap, hqv, hcap, _, hxx⟩ := hq
  obtain ⟨qa, L, qc⟩ := q
  simp only [slV, Value.slice.injEq] at hqv
  obtain ⟨rfl, hn, rfl⟩ := hqv
  rw [← hn] at hxx
  have HL : Hid (L = ss.length) := hn
  have HE : Hid (mayR ⟨h, t, f, ss⟩ = true ∧ (L : Int) = c.s ∧ f ≤ c.t) := ⟨h1, h2, h3⟩
  have hL0 : L ≤ 4611686018427387904 := by have := hf; simp only [FitR] at this; omega
  have b3 : w1.cell? ⟨w.heap.size + 1, 3, none⟩ = some (.slice qa L qc) := x3
  clear hn HN hcap hf x3
  go_wp2_with fail
  clear h1 h2 h3
  clear x0 x1 x2 z0 z1 z2 z3 z4 b3
  go_loopw [5] (fun i wr => ∃ k : Nat, k ≤ L ∧ i = .int .i64 k ∧ Hid ((ss.take k).all (fun s => decide (s.t < c.t)) = true) ∧ Le w1 wr) (fun i _ => L - (intOf i).toNat)
  case atStart => exact ⟨0, by omega, rfl, rfl, Le.refl _⟩
  case round =>
    obtain ⟨k, hk, rfl, HA, hle⟩ := hrel
    obtain ⟨x0, x1, x2, x3, _, _, _, _⟩ := (hb2.le hle).ring
    obtain ⟨z0, z1, z2, z3, z4⟩ := (hb1.le hle).slot
    replace x3 : wr.cell? ⟨w.heap.size + 1, 3, none⟩ = some (.slice qa L qc) := x3
    by_cases hlt : k < L
    · obtain ⟨b, off, rfl, hcell⟩ := hxx (by omega)
      obtain ⟨s, hs⟩ : ∃ s, s = ss.getD k Slt.zero := ⟨_, rfl⟩
      have HS : Hid (s = ss.getD k Slt.zero) := hs
      obtain ⟨y0, y1, y2, y3, y4⟩ := ((hcell k hlt).le hl).le hle
      rw [← hs] at y0 y1 y2 y3 y4
      clear hs hcell hxx
      have hlt' : (k : Int) < (L : Int) := by omega
      by_cases hg : c.t ≤ s.t
      · go_wp2_with fail
        go_quiet (fail)
        go_wp2_with fail
        go_ret
        have hno : ss.all (fun s => decide (s.t < c.t)) = false := all_no (k := k) (by have := HL.out; omega) (by rw [← HS.out]; exact decide_eq_false (by omega))
        have h1 := HE.out.1
        have h2 := HE.out.2.1
        have h3 := HE.out.2.2
        exact ⟨ret_bool (by rw [hno]; simp), (hl.trans hle).trans (Le.drewN _ _)⟩
      · go_wp2_with fail
        go_quiet (fail)
        go_wp2_with fail
        go_roundw
        case rel => exact ⟨k + 1, by omega, by go_num, allL_take (by have := HL.out; omega) HA.out (by rw [← HS.out]; exact decide_eq_true (by omega)), hle.trans (Le.drewN _ _)⟩
        case measure => simp [intOf]; omega
    · obtain rfl : k = L := by omega
      go_wp2_with fail
      go_ret
      have hyes := HA.out
      rw [HL.out, List.take_length] at hyes
      have h1 := HE.out.1
      have h2 := HE.out.2.1
      have h3 := HE.out.2.2
      exact ⟨ret_bool (by rw [hyes]; simp [h1, h2]), hl.trans hle⟩

end Go.Proofs.YtkddgpdlpjjpbaaGreat

/-
  THE WALK over the document's own CopyState: the same rows, in memory of their own. Condition: the rows can be copied.
-/
namespace Go.Proofs.YtkddgpdlpjjpbaaGreat
open Go.RowKit

set_option maxHeartbeats 400000 in
theorem refCopyState (v : Value) (s : St) (w : World) (hx : HasS w v s) (hf : Fit s) :
    Calls Tryz.prog 70 #[v] w fun e w' => ∃ v', e = .returned v' ∧ OwnS w' w.heap.size v' s ∧ Le w w' := by
  obtain ⟨vs, rfl, hr⟩ := hx
  go_enter Tryz.func70, Tryz.ntmps70
  go_wp2
  go_loopw [4] (fun i wr => ∃ (k : Nat) (us : Nat → Sl), k ≤ 4 ∧ i = .int .i64 k ∧ Cp w s vs wr k us) (fun i _ => 4 - (intOf i).toNat)
  case atStart => exact ⟨0, _, by omega, rfl, Cp.start w s vs⟩
  case round =>
    obtain ⟨k, us, hk, rfl, hcp⟩ := hrel
    by_cases hlt : k < 4
    · have c1 : (wr.alloc (.cells #[] 3)).cell? ⟨w.heap.size, k, none⟩ = some (slV (vs k)) := ((hcp.given.le (Le.alloc wr _)).cell k).trans (cells4_at vs hlt)
      have hw1 : Has (wr.alloc (.cells #[] 3)) (slV (vs k)) (s.at k) := (hr k hlt).le (hcp.le.trans (Le.alloc wr _))
      have hn1 : Own (wr.alloc (.cells #[] 3)) wr.heap.size (.slice (some ⟨wr.heap.size, 0, none⟩) 0 0) [] := Own.lit wr _ (Nat.le_refl _) [] (by decide)
      have hfk := hf k hlt
      have hrow : ∀ g, (Value.slice (some ⟨wr.heap.size, 0, none⟩) 0 0).ownBlock = some g → wr.heap.size ≤ g := by intro g hg; cases hg; exact Nat.le_refl _
      go_wp2_with (at_builtin; refine wp_append_ints rfl _ _ rfl wr.heap.size _ _ [] (s.at k) rfl rfl hn1 hw1 (by simp; omega) (by simp) ?_; intro v' w2 hown hgrow; rw [List.nil_append] at hown; have l2 : Le wr w2 := Below.grown (Le.alloc wr _) hgrow (by simp) hrow; have c3 := (hcp.filled.le l2).cell k; rw [cells4_at us hlt] at c3; have f3 := (hcp.filled.le l2).frozen k; obtain ⟨q, rfl⟩ := hown.has.sl)
      go_roundw
      case rel => exact ⟨k + 1, _, by omega, by go_num, hcp.next hlt (Le.alloc wr _) hgrow hrow hown⟩
      case measure => simp [intOf]; omega
    · obtain rfl : k = 4 := by omega
      obtain ⟨p0, p1, p2, p3, _, _, _, _⟩ := hcp.filled.st
      obtain ⟨b0, b1, b2, b3, f0, f1, f2, f3⟩ := hcp.result.st
      go_wp2
      refine bodyPost_ret (v := stV us) (by simp [results, Tryz.results70, go_sem, b0, b1, b2, b3]) rfl ⟨_, rfl, ⟨us, rfl, fun i hi => ?_⟩, ?_⟩
      · exact ((((hcp.rows i hi).setBox hcp.result (by decide)).setBox (hcp.result.set _ _) (by decide)).setBox ((hcp.result.set _ _).set _ _) (by decide)).setBox (((hcp.result.set _ _).set _ _).set _ _) (by decide)
      · exact (((Below.setCell hcp.le (by show w.heap.size ≤ w.heap.size + 1; omega) _).setCell (by show w.heap.size ≤ w.heap.size + 1; omega) _).setCell (by show w.heap.size ≤ w.heap.size + 1; omega) _).setCell (by show w.heap.size ≤ w.heap.size + 1; omega) _

end Go.Proofs.YtkddgpdlpjjpbaaGreat

/-
  THE WALKS over the document's own rowMay, StateMay, CopyState, first, storeRow, at a store: what they answer, for every row and state. Condition: where memory is made, that the rows can be copied.
-/
namespace Go.Proofs.YtkddgpdlpjjpbaaGreat
open Go.RowKit

theorem rowMay1_eq (xs : List Int) : rowMay1 xs = (xs.all argB && decide (xs.length ≤ 1)) := by
  match xs with
  | [] => rfl
  | [x] => simp [rowMay1, argB]
  | _ :: _ :: _ => simp [rowMay1]

set_option maxHeartbeats 400000 in
theorem refRowMay0 (v : Value) (xs : List Int) (w : World) (hx : Has w v xs) (hm : xs.length * 8 ≤ 140737488351232) :
    Calls Tryz.prog 99 #[.int .i64 0, v] w fun e w' => e = .returned (.bool (rowMay1 xs)) ∧ Le w w' := by
  have hl := Le.alloc w (.cells #[.int .i64 1, .int .i64 4, .int .i64 4] 3)
  obtain ⟨a, cap, rfl, hc, _, hx⟩ := hx
  rw [rowMay1_eq]
  by_cases h0 : 0 < xs.length
  · obtain ⟨b, off, rfl, hcell⟩ := hx h0
    obtain ⟨L, hL⟩ : ∃ L, L = xs.length := ⟨_, rfl⟩
    rw [← hL] at hm hc hcell h0 ⊢
    have HL : Hid (L = xs.length) := hL
    clear hL hx
    go_enter Tryz.func99, Tryz.ntmps99
    go_wp2
    go_loopw [6] (fun i wr => ∃ k : Nat, k ≤ L ∧ i = .int .i64 k ∧ Hid ((xs.take k).all argB = true) ∧ Le (w.alloc (.cells #[.int .i64 1, .int .i64 4, .int .i64 4] 3)) wr) (fun i _ => L - (intOf i).toNat)
    case atStart => exact ⟨0, Nat.zero_le _, rfl, rfl, Le.refl _⟩
    case round =>
      obtain ⟨k, hk, rfl, HA, hle⟩ := hrel
      by_cases hlt : k < L
      · obtain ⟨x, hxk⟩ : ∃ x, x = xs.getD k 0 := ⟨_, rfl⟩
        have hcx := hcell k hlt
        rw [← hxk] at hcx
        have c1 : ∀ X : Later wr, X.w.cell? ⟨b, off + k, none⟩ = some (.int .i64 x) := fun X => by
          have hb := World.block_lt_of_cell? w _ hcx
          rw [((hl.trans hle).trans X.le).cell (p := ⟨b, off + k, none⟩) hb]; exact hcx
        have HX : Hid (x = xs.getD k 0) := hxk
        clear hxk hcell hcx
        cases hh : argB x
        · have hup := fun w' => refUpTo x 0 255 w'
          have hh' : (decide (0 ≤ x) && decide (x ≤ 255)) = false := hh
          simp only [hh'] at hup
          go_wp2_with fail
          refine wp_region_later (by kernel_rfl) (by kernel_rfl) ?_
          repeat (go_big_quiet_step (first | (go_at_call 76; exact Calls.later_same (hup _))))
          refine wpQuiet_nil ?_
          rintro _ ⟨y, rfl⟩
          go_wp2
          go_ret
          exact ⟨ret_bool (by rw [all_bad (p := argB) (k := k) (by rw [← HL.out]; exact hlt) (HX.out ▸ hh)]; rfl), (hl.trans hle).trans y.le⟩
        · have hup := fun w' => refUpTo x 0 255 w'
          have hh' : (decide (0 ≤ x) && decide (x ≤ 255)) = true := hh
          simp only [hh'] at hup
          go_wp2_with fail
          refine wp_region_later (by kernel_rfl) (by kernel_rfl) ?_
          repeat (go_big_quiet_step (first | (go_at_call 76; exact Calls.later_same (hup _))))
          refine wpQuiet_nil ?_
          rintro _ ⟨y, rfl⟩
          go_wp2
          go_roundw
          case rel => exact ⟨k + 1, by omega, by go_num, by rw [all_take (by rw [← HL.out]; exact hlt), HA.out, ← HX.out, hh]; rfl, hle.trans y.le⟩
          case measure => simp [intOf]; omega
      · go_wp2
        go_ret
        refine ⟨ret_bool ?_, hl.trans hle⟩
        have := HA.out
        rw [List.take_of_length_le (by have := HL.out; omega)] at this
        rw [this, Bool.true_and, decide_eq_decide]
        omega
  · have hnil : xs = [] := by cases xs with | nil => rfl | cons _ _ => simp at h0
    subst hnil
    go_enter Tryz.func99, Tryz.ntmps99
    go_wp2
    refine wp_loop_rounds 1 ?_
    rw [rounds_succ]
    go_wp2
    go_ret
    exact ⟨ret_bool (by simp), hl⟩

set_option maxHeartbeats 400000 in
theorem refStateMay0 (v : Value) (s : St) (w : World) (hx : HasS w v s) (hf : Fit s) :
    Calls Tryz.prog 79 #[.int .i64 0, v] w fun e w' => e = .returned (.bool (s.all rowMay1)) ∧ Le w w' := by
  obtain ⟨vs, rfl, hr⟩ := hx
  have hl := Le.alloc w (.cells (cells4 vs) 71)
  have hb := Box.new w (cells4 vs) 71
  go_enter Tryz.func79, Tryz.ntmps79
  go_wp2
  go_loopw [5] (fun i wr => ∃ k : Nat, k ≤ 4 ∧ i = .int .i64 k ∧ Hid (∀ j, j < k → rowMay1 (s.at j) = true) ∧ Le (w.alloc (.cells (cells4 vs) 71)) wr) (fun i _ => 4 - (intOf i).toNat)
  case atStart => exact ⟨0, by omega, rfl, (fun j hj => by omega), Le.refl _⟩
  case round =>
    obtain ⟨k, hk, rfl, HA, hle⟩ := hrel
    by_cases hlt : k < 4
    · have hm := refRowMay0 (slV (vs k)) (s.at k) wr ((hr k hlt).le (hl.trans hle)) (hf k hlt)
      have c1 : wr.cell? ⟨w.heap.size, k, none⟩ = some (slV (vs k)) := ((hb.le hle).cell k).trans (cells4_at vs hlt)
      cases hh : rowMay1 (s.at k)
      · rw [hh] at hm
        go_wp2_with fail
        refine hm.mono ?_
        rintro e w1 ⟨rfl, l1⟩
        go_wp2
        go_ret
        exact ⟨ret_bool (St.all_not hlt hh).symm, (hl.trans hle).trans l1⟩
      · rw [hh] at hm
        go_wp2_with fail
        refine hm.mono ?_
        rintro e w1 ⟨rfl, l1⟩
        go_wp2
        go_roundw
        case rel => exact ⟨k + 1, by omega, by go_num, (fun j hj => by rcases Nat.lt_or_eq_of_le (Nat.le_of_lt_succ hj) with h | h; exact HA.out j h; exact h ▸ hh), hle.trans l1⟩
        case measure => simp [intOf]; omega
    · obtain rfl : k = 4 := by omega
      go_wp2
      go_ret
      exact ⟨ret_bool (St.all_of HA.out).symm, hl.trans hle⟩

end Go.Proofs.YtkddgpdlpjjpbaaGreat

/-
  PLAIN GROUND, NO WALK: sums of numbers of rows that are short and of small numbers. No condition.
-/
namespace Go.Proofs.YtkddgpdlpjjpbaaGreat

/-- A row of at most four numbers, each from 0 to 255. -/
def Small (xs : List Int) : Prop := xs.length ≤ 4 ∧ ∀ x ∈ xs, 0 ≤ x ∧ x ≤ 255
/-- The sum of the first m numbers. -/
def sumOf (xs : List Int) (m : Nat) : Int := (xs.take m).sum

theorem sumOf_step {xs : List Int} {m : Nat} (h : m < xs.length) : sumOf xs (m + 1) = sumOf xs m + xs.getD m 0 := by
  unfold sumOf
  have e : xs.getD m 0 = xs[m] := by simp [List.getD, h]
  rw [List.take_succ_eq_append_getElem h, List.sum_append, e]
  simp only [List.sum_cons, List.sum_nil, Int.add_zero]
theorem sumOf_all (xs : List Int) : sumOf xs xs.length = xs.sum := by unfold sumOf; rw [List.take_length]
theorem Small.at {xs : List Int} (h : Small xs) {m : Nat} (hm : m < xs.length) : 0 ≤ xs.getD m 0 ∧ xs.getD m 0 ≤ 255 := by
  have := h.2 xs[m] (List.getElem_mem hm)
  simpa [List.getD, hm] using this
theorem Small.sum {xs : List Int} (h : Small xs) : ∀ m, m ≤ xs.length → 0 ≤ sumOf xs m ∧ sumOf xs m ≤ 255 * m
  | 0, _ => by simp [sumOf]
  | m + 1, hm => by
    have ih := h.sum m (by omega)
    have := h.at (m := m) (by omega)
    rw [sumOf_step (by omega)]
    omega
theorem sumTo_small {s : St} (h : ∀ k, k < 4 → Small (s.at k)) : ∀ k, k ≤ 4 → 0 ≤ sumTo s k ∧ sumTo s k ≤ 1020 * k
  | 0, _ => by simp [sumTo]
  | k + 1, hk => by
    have ih := sumTo_small h k (by omega)
    have h1 := (h k (by omega)).1
    have h2 := (h k (by omega)).sum (s.at k).length (Nat.le_refl _)
    rw [sumOf_all] at h2
    simp only [sumTo]
    omega

end Go.Proofs.YtkddgpdlpjjpbaaGreat

/-
  THE WALKS over the document's own Apply, at object 0: what it answers, for every state and operation. Condition: the state's rows can be copied.
-/
namespace Go.Proofs.YtkddgpdlpjjpbaaGreat
open Go.RowKit

theorem small1 {s : St} (hm : s.all rowMay1 = true) : ∀ k, k < 4 → Small (s.at k) := fun k hk => by
  rcases rowMay1_cases (St.all_at hm hk) with e | ⟨x, e, h0, h1⟩ <;> rw [e]
  · exact ⟨by simp, by simp⟩
  · exact ⟨by simp, by simp; omega⟩

end Go.Proofs.YtkddgpdlpjjpbaaGreat

/-
  THE WALKS over the document's own rowMay, StateMay, has, fdsRow, at a table: what they answer, for every row and state. Condition: where memory is made, that the row may be a table's.
-/
namespace Go.Proofs.YtkddgpdlpjjpbaaGreat
open Go.RowKit

set_option maxHeartbeats 4000000 in
theorem refRowMay1 (v : Value) (xs : List Int) (w : World) (hx : Has w v xs) :
    Calls Tryz.prog 99 #[.int .i64 1, v] w fun e w' => e = .returned (.bool (rowMay2 xs)) ∧ Le w w' := by
  have hl := Le.alloc w (.cells #[.int .i64 1, .int .i64 4, .int .i64 4] 3)
  obtain ⟨a, cap, rfl, hc, _, hx⟩ := hx
  obtain ⟨L, hL⟩ : ∃ L, L = xs.length := ⟨_, rfl⟩
  rw [← hL] at hc hx ⊢
  have HL : Hid (L = xs.length) := hL
  clear hL
  go_enter Tryz.func99, Tryz.ntmps99
  go_wp2
  go_loopw [6] (fun i wr => ∃ (k : Nat) (y : Int), k ≤ L ∧ (k : Int) ≤ y + 1 ∧ y < 4 ∧ i = .int .i64 k ∧ Hid ((0 < k → xs.getD (k - 1) 0 = y) ∧ (k = 0 → y = -1)) ∧ Hid (rowMay2 xs = riseFrom y (xs.drop k)) ∧ Le (w.alloc (.cells #[.int .i64 1, .int .i64 4, .int .i64 4] 3)) wr) (fun i _ => L - (intOf i).toNat)
  case atStart => exact ⟨0, -1, Nat.zero_le _, by omega, by omega, rfl, hid ⟨fun h => by omega, fun _ => rfl⟩, hid (by simp [rowMay2]), Le.refl _⟩
  case round =>
    obtain ⟨k, y, hk, hy1, hy2, rfl, HY, HA, hle⟩ := hrel
    by_cases hlt : k < L
    · obtain ⟨b, off, rfl, hcell⟩ := hx (by omega)
      obtain ⟨x, hxk⟩ : ∃ x, x = xs.getD k 0 := ⟨_, rfl⟩
      have hcx := hcell k hlt
      rw [← hxk] at hcx
      have c1 : ∀ X : Later wr, X.w.cell? ⟨b, off + k, none⟩ = some (.int .i64 x) := fun X => by
        have hb := World.block_lt_of_cell? w _ hcx
        rw [((hl.trans hle).trans X.le).cell (p := ⟨b, off + k, none⟩) hb]; exact hcx
      have hd := HA.out
      rw [drop_at (by have := HL.out; omega), ← hxk] at hd
      simp only [riseFrom] at hd
      have HX : Hid (x = xs.getD k 0) := hxk
      clear hxk
      have k0 : (0 : Int) ≤ (k : Int) := by omega
      have k1 : (k : Int) < (L : Int) := by omega
      have hup := fun w' => refUpTo x 0 255 w'
      by_cases h1 : 0 ≤ x ∧ x ≤ 255
      · have hh' : (decide (0 ≤ x) && decide (x ≤ 255)) = true := by simp [h1]
        simp only [hh'] at hup
        by_cases h2 : 4 ≤ x
        · have g2 : decide (4 ≤ x) = true := by simp [h2]
          have HD : Hid (rowMay2 xs = false) := hid (by rw [hd]; simp; omega)
          clear hd hcell hx HA HY
          go_wp2_with fail
          refine wp_region_later (by kernel_rfl) (by kernel_rfl) ?_
          repeat (go_big_quiet_step (first | (go_at_call 76; exact Calls.later_same (hup _))))
          refine wpQuiet_nil ?_
          rintro _ ⟨Y, rfl⟩
          go_wp2
          go_ret
          exact ⟨ret_bool HD.out.symm, (hl.trans hle).trans Y.le⟩
        · have g2 : decide (4 ≤ x) = false := by simp; omega
          by_cases h3 : k = 0
          · have g3 : decide (0 < k) = false := by rw [decide_eq_false_iff_not]; omega
            have hy3 := HY.out.2 h3
            have HD : Hid (rowMay2 xs = riseFrom x (xs.drop (k + 1))) := hid (by rw [hd]; simp [show x < 4 by omega, show y < x by omega])
            have hx1 : ((k + 1 : Nat) : Int) ≤ x + 1 := by omega
            clear hd hcell hx HA HY h3 hy3
            go_wp2_with fail
            refine wp_region_later (by kernel_rfl) (by kernel_rfl) ?_
            repeat (go_big_quiet_step (first | (go_at_call 76; exact Calls.later_same (hup _))))
            refine wpQuiet_nil ?_
            rintro _ ⟨Y, rfl⟩
            go_wp2
            go_roundw
            case rel => exact ⟨k + 1, x, by omega, by omega, by omega, by go_num, hid ⟨fun _ => HX.out.symm, fun h => by omega⟩, HD, hle.trans Y.le⟩
            case measure => simp [intOf]; omega
          · obtain ⟨p, rfl⟩ : ∃ p, k = p + 1 := ⟨k - 1, by omega⟩
            have g3 : decide ((0 : Int) < ((p + 1 : Nat) : Int)) = true := by rw [decide_eq_true_eq]; omega
            have g5 : (0 : Int) < (p : Int) + 1 := by omega
            have hyk := HY.out.1 (by omega)
            rw [show p + 1 - 1 = p from rfl] at hyk
            have hcy := hcell p (by omega)
            rw [hyk] at hcy
            have c2 : ∀ X : Later wr, X.w.cell? ⟨b, off + p, none⟩ = some (.int .i64 y) := fun X => by
              have hb := World.block_lt_of_cell? w _ hcy
              rw [((hl.trans hle).trans X.le).cell (p := ⟨b, off + p, none⟩) hb]; exact hcy
            have k3 : (0 : Int) ≤ (p : Int) := by omega
            have k4 : (p : Int) < (L : Int) := by omega
            clear hyk hcy
            by_cases h4 : y < x
            · have g4 : decide (x ≤ y) = false := by simp; omega
              have HD : Hid (rowMay2 xs = riseFrom x (xs.drop (p + 1 + 1))) := hid (by rw [hd]; simp [h4, show x < 4 by omega])
              clear hd hcell hx HA HY
              go_wp2_with fail
              refine wp_region_later (by kernel_rfl) (by kernel_rfl) ?_
              repeat (go_big_quiet_step (first | (go_at_call 76; exact Calls.later_same (hup _))))
              refine wpQuiet_nil ?_
              rintro _ ⟨Y, rfl⟩
              go_wp2
              go_roundw
              case rel => exact ⟨p + 1 + 1, x, by omega, by omega, by omega, by go_num, hid ⟨fun _ => HX.out.symm, fun h => by omega⟩, HD, hle.trans Y.le⟩
              case measure => simp [intOf]; omega
            · have g4 : decide (x ≤ y) = true := by simp; omega
              have HD : Hid (rowMay2 xs = false) := hid (by rw [hd]; simp [h4])
              clear hd hcell hx HA HY
              go_wp2_with fail
              refine wp_region_later (by kernel_rfl) (by kernel_rfl) ?_
              repeat (go_big_quiet_step (first | (go_at_call 76; exact Calls.later_same (hup _))))
              refine wpQuiet_nil ?_
              rintro _ ⟨Y, rfl⟩
              go_wp2
              go_ret
              exact ⟨ret_bool HD.out.symm, (hl.trans hle).trans Y.le⟩
      · have hh' : (decide (0 ≤ x) && decide (x ≤ 255)) = false := by rw [Bool.and_eq_false_iff]; simp; omega
        simp only [hh'] at hup
        have HD : Hid (rowMay2 xs = false) := hid (by rw [hd, show (decide (y < x) && decide (x < 4)) = false by rw [Bool.and_eq_false_iff]; simp; omega]; rfl)
        clear hd hcell hx HA HY
        go_wp2_with fail
        refine wp_region_later (by kernel_rfl) (by kernel_rfl) ?_
        repeat (go_big_quiet_step (first | (go_at_call 76; exact Calls.later_same (hup _))))
        refine wpQuiet_nil ?_
        rintro _ ⟨Y, rfl⟩
        go_wp2
        go_ret
        exact ⟨ret_bool HD.out.symm, (hl.trans hle).trans Y.le⟩
    · obtain rfl : k = L := by omega
      have hd := HA.out
      rw [List.drop_eq_nil_of_le (by have := HL.out; omega)] at hd
      have hlen := rowMay2_len hd
      rw [← HL.out] at hlen
      have HD : Hid (rowMay2 xs = true) := hd
      clear hd hx HA HY
      go_wp2
      go_ret
      exact ⟨ret_bool (by rw [HD.out]; simp; omega), hl.trans hle⟩

end Go.Proofs.YtkddgpdlpjjpbaaGreat

/-
  THE WALKS over the document's own StateMay, has, fdsRow, at a table: what they answer, for every row and state. Condition: at fdsRow, that the row is the call's own and may be a table's.
-/
namespace Go.Proofs.YtkddgpdlpjjpbaaGreat
open Go.RowKit

set_option maxHeartbeats 400000 in
theorem refStateMay1 (v : Value) (s : St) (w : World) (hx : HasS w v s) :
    Calls Tryz.prog 79 #[.int .i64 1, v] w fun e w' => e = .returned (.bool (s.all rowMay2)) ∧ Le w w' := by
  obtain ⟨vs, rfl, hr⟩ := hx
  have hl := Le.alloc w (.cells (cells4 vs) 71)
  have hb := Box.new w (cells4 vs) 71
  go_enter Tryz.func79, Tryz.ntmps79
  go_wp2
  go_loopw [5] (fun i wr => ∃ k : Nat, k ≤ 4 ∧ i = .int .i64 k ∧ Hid (∀ j, j < k → rowMay2 (s.at j) = true) ∧ Le (w.alloc (.cells (cells4 vs) 71)) wr) (fun i _ => 4 - (intOf i).toNat)
  case atStart => exact ⟨0, by omega, rfl, (fun j hj => by omega), Le.refl _⟩
  case round =>
    obtain ⟨k, hk, rfl, HA, hle⟩ := hrel
    by_cases hlt : k < 4
    · have hm := refRowMay1 (slV (vs k)) (s.at k) wr ((hr k hlt).le (hl.trans hle))
      have c1 : wr.cell? ⟨w.heap.size, k, none⟩ = some (slV (vs k)) := ((hb.le hle).cell k).trans (cells4_at vs hlt)
      cases hh : rowMay2 (s.at k)
      · rw [hh] at hm
        go_wp2_with fail
        refine hm.mono ?_
        rintro e w1 ⟨rfl, l1⟩
        go_wp2
        go_ret
        exact ⟨ret_bool (St.all_not hlt hh).symm, (hl.trans hle).trans l1⟩
      · rw [hh] at hm
        go_wp2_with fail
        refine hm.mono ?_
        rintro e w1 ⟨rfl, l1⟩
        go_wp2
        go_roundw
        case rel => exact ⟨k + 1, by omega, by go_num, (fun j hj => by rcases Nat.lt_or_eq_of_le (Nat.le_of_lt_succ hj) with h | h; exact HA.out j h; exact h ▸ hh), hle.trans l1⟩
        case measure => simp [intOf]; omega
    · obtain rfl : k = 4 := by omega
      go_wp2
      go_ret
      exact ⟨ret_bool (St.all_of HA.out).symm, hl.trans hle⟩

/-- Is a number in the row? -/
def inF (xs : List Int) (i : Nat) : Bool := decide ((i : Int) ∈ xs)

theorem not_take {xs : List Int} {x : Int} {m : Nat} (h : m < xs.length) (hn : x ∉ xs.take m) (hx : ¬ xs.getD m 0 = x) : x ∉ xs.take (m + 1) := by
  rw [List.take_succ_eq_append_getElem h, List.mem_append, not_or]
  refine ⟨hn, ?_⟩
  simp only [List.mem_singleton]
  intro e
  apply hx
  simp [List.getD, h, e]

/-- The numbers below m that are so. -/
def outTo (p : Nat → Bool) : Nat → List Int
  | 0 => []
  | m + 1 => if p m then outTo p m ++ [(m : Int)] else outTo p m

theorem outTo_len (p : Nat → Bool) : ∀ m, (outTo p m).length ≤ m
  | 0 => Nat.le_refl _
  | m + 1 => by
    have := outTo_len p m
    simp only [outTo]
    split
    · simp; omega
    · omega

theorem free_rows : ∀ xs ∈ rowsAbove 4, ∀ k : Nat, k < 5 → (∀ j, j < k → inF xs j = true) → inF xs k = false → freeS xs = k := by decide
theorem in_rows : ∀ xs ∈ rowsAbove 4, ∀ x ∈ xs, 0 ≤ x ∧ x < 4 := by decide
theorem out_put : ∀ xs ∈ rowsAbove 4, freeS xs < 4 → outTo (fun i => decide ((i : Int) = freeS xs) || inF xs i) 4 = (putS xs).1 ∧ (putS xs).2 = freeS xs := by decide
theorem out_take : ∀ xs ∈ rowsAbove 4, ∀ a ∈ xs, outTo (fun i => !decide ((i : Int) = a) && inF xs i) 4 = (takeS xs a).1 ∧ (takeS xs a).2 = 1 := by decide

end Go.Proofs.YtkddgpdlpjjpbaaGreat

/-
  THE WALKS over the document's own Apply, at object 1: what it answers, for every state and operation. Condition: the state's rows can be copied.
-/
namespace Go.Proofs.YtkddgpdlpjjpbaaGreat
open Go.RowKit

theorem small_rows : ∀ xs ∈ rowsAbove 4, xs.length ≤ 4 ∧ ∀ x ∈ xs, 0 ≤ x ∧ x ≤ 255 := by decide
theorem small2 {s : St} (hm : s.all rowMay2 = true) : ∀ k, k < 4 → Small (s.at k) := fun _ hk => small_rows _ (rowMay2_mem (St.all_at hm hk))

end Go.Proofs.YtkddgpdlpjjpbaaGreat

/-
  THE WALKS over the document's own rowMay, StateMay, queueRow, at a queue: what they answer, for every row and state. Condition: where memory is made, that the rows can be copied, and are short.
-/
namespace Go.Proofs.YtkddgpdlpjjpbaaGreat
open Go.RowKit

theorem rowMay3_eq (xs : List Int) : rowMay3 xs = (xs.all argB && decide (xs.length ≤ 4)) := by rw [rowMay3, Bool.and_comm]

set_option maxHeartbeats 400000 in
theorem refRowMay2 (v : Value) (xs : List Int) (w : World) (hx : Has w v xs) (hm : xs.length * 8 ≤ 140737488351232) :
    Calls Tryz.prog 99 #[.int .i64 2, v] w fun e w' => e = .returned (.bool (rowMay3 xs)) ∧ Le w w' := by
  have hl := Le.alloc w (.cells #[.int .i64 1, .int .i64 4, .int .i64 4] 3)
  obtain ⟨a, cap, rfl, hc, _, hx⟩ := hx
  rw [rowMay3_eq]
  by_cases h0 : 0 < xs.length
  · obtain ⟨b, off, rfl, hcell⟩ := hx h0
    obtain ⟨L, hL⟩ : ∃ L, L = xs.length := ⟨_, rfl⟩
    rw [← hL] at hm hc hcell h0 ⊢
    have HL : Hid (L = xs.length) := hL
    clear hL hx
    go_enter Tryz.func99, Tryz.ntmps99
    go_wp2
    go_loopw [6] (fun i wr => ∃ k : Nat, k ≤ L ∧ i = .int .i64 k ∧ Hid ((xs.take k).all argB = true) ∧ Le (w.alloc (.cells #[.int .i64 1, .int .i64 4, .int .i64 4] 3)) wr) (fun i _ => L - (intOf i).toNat)
    case atStart => exact ⟨0, Nat.zero_le _, rfl, rfl, Le.refl _⟩
    case round =>
      obtain ⟨k, hk, rfl, HA, hle⟩ := hrel
      by_cases hlt : k < L
      · obtain ⟨x, hxk⟩ : ∃ x, x = xs.getD k 0 := ⟨_, rfl⟩
        have hcx := hcell k hlt
        rw [← hxk] at hcx
        have c1 : ∀ X : Later wr, X.w.cell? ⟨b, off + k, none⟩ = some (.int .i64 x) := fun X => by
          have hb := World.block_lt_of_cell? w _ hcx
          rw [((hl.trans hle).trans X.le).cell (p := ⟨b, off + k, none⟩) hb]; exact hcx
        have HX : Hid (x = xs.getD k 0) := hxk
        clear hxk hcell hcx
        cases hh : argB x
        · have hup := fun w' => refUpTo x 0 255 w'
          have hh' : (decide (0 ≤ x) && decide (x ≤ 255)) = false := hh
          simp only [hh'] at hup
          go_wp2_with fail
          refine wp_region_later (by kernel_rfl) (by kernel_rfl) ?_
          repeat (go_big_quiet_step (first | (go_at_call 76; exact Calls.later_same (hup _))))
          refine wpQuiet_nil ?_
          rintro _ ⟨y, rfl⟩
          go_wp2
          go_ret
          exact ⟨ret_bool (by rw [all_bad (p := argB) (k := k) (by rw [← HL.out]; exact hlt) (HX.out ▸ hh)]; rfl), (hl.trans hle).trans y.le⟩
        · have hup := fun w' => refUpTo x 0 255 w'
          have hh' : (decide (0 ≤ x) && decide (x ≤ 255)) = true := hh
          simp only [hh'] at hup
          go_wp2_with fail
          refine wp_region_later (by kernel_rfl) (by kernel_rfl) ?_
          repeat (go_big_quiet_step (first | (go_at_call 76; exact Calls.later_same (hup _))))
          refine wpQuiet_nil ?_
          rintro _ ⟨y, rfl⟩
          go_wp2
          go_roundw
          case rel => exact ⟨k + 1, by omega, by go_num, by rw [all_take (by rw [← HL.out]; exact hlt), HA.out, ← HX.out, hh]; rfl, hle.trans y.le⟩
          case measure => simp [intOf]; omega
      · go_wp2
        go_ret
        refine ⟨ret_bool ?_, hl.trans hle⟩
        have := HA.out
        rw [List.take_of_length_le (by have := HL.out; omega)] at this
        rw [this, Bool.true_and, decide_eq_decide]
        omega
  · have hnil : xs = [] := by cases xs with | nil => rfl | cons _ _ => simp at h0
    subst hnil
    go_enter Tryz.func99, Tryz.ntmps99
    go_wp2
    refine wp_loop_rounds 1 ?_
    rw [rounds_succ]
    go_wp2
    go_ret
    exact ⟨ret_bool (by simp), hl⟩

set_option maxHeartbeats 400000 in
theorem refStateMay2 (v : Value) (s : St) (w : World) (hx : HasS w v s) (hf : Fit s) :
    Calls Tryz.prog 79 #[.int .i64 2, v] w fun e w' => e = .returned (.bool (s.all rowMay3)) ∧ Le w w' := by
  obtain ⟨vs, rfl, hr⟩ := hx
  have hl := Le.alloc w (.cells (cells4 vs) 71)
  have hb := Box.new w (cells4 vs) 71
  go_enter Tryz.func79, Tryz.ntmps79
  go_wp2
  go_loopw [5] (fun i wr => ∃ k : Nat, k ≤ 4 ∧ i = .int .i64 k ∧ Hid (∀ j, j < k → rowMay3 (s.at j) = true) ∧ Le (w.alloc (.cells (cells4 vs) 71)) wr) (fun i _ => 4 - (intOf i).toNat)
  case atStart => exact ⟨0, by omega, rfl, (fun j hj => by omega), Le.refl _⟩
  case round =>
    obtain ⟨k, hk, rfl, HA, hle⟩ := hrel
    by_cases hlt : k < 4
    · have hm := refRowMay2 (slV (vs k)) (s.at k) wr ((hr k hlt).le (hl.trans hle)) (hf k hlt)
      have c1 : wr.cell? ⟨w.heap.size, k, none⟩ = some (slV (vs k)) := ((hb.le hle).cell k).trans (cells4_at vs hlt)
      cases hh : rowMay3 (s.at k)
      · rw [hh] at hm
        go_wp2_with fail
        refine hm.mono ?_
        rintro e w1 ⟨rfl, l1⟩
        go_wp2
        go_ret
        exact ⟨ret_bool (St.all_not hlt hh).symm, (hl.trans hle).trans l1⟩
      · rw [hh] at hm
        go_wp2_with fail
        refine hm.mono ?_
        rintro e w1 ⟨rfl, l1⟩
        go_wp2
        go_roundw
        case rel => exact ⟨k + 1, by omega, by go_num, (fun j hj => by rcases Nat.lt_or_eq_of_le (Nat.le_of_lt_succ hj) with h | h; exact HA.out j h; exact h ▸ hh), hle.trans l1⟩
        case measure => simp [intOf]; omega
    · obtain rfl : k = 4 := by omega
      go_wp2
      go_ret
      exact ⟨ret_bool (St.all_of HA.out).symm, hl.trans hle⟩

end Go.Proofs.YtkddgpdlpjjpbaaGreat

/-
  THE WALKS over the document's own Apply, at object 2: what it answers, for every state and operation. Condition: the state's rows can be copied.
-/
namespace Go.Proofs.YtkddgpdlpjjpbaaGreat
open Go.RowKit

theorem small3 {s : St} (hm : s.all rowMay3 = true) : ∀ k, k < 4 → Small (s.at k) := fun _ hk => ⟨rowMay3_len (St.all_at hm hk), rowMay3_all (St.all_at hm hk)⟩

end Go.Proofs.YtkddgpdlpjjpbaaGreat

/-
  THE WALKS over the document's own StateMay and Apply, at every object: what they answer, for every state and operation. Condition: the state's rows can be copied.
-/
namespace Go.Proofs.YtkddgpdlpjjpbaaGreat
open Go.RowKit

set_option maxHeartbeats 400000 in
theorem refStateMayOut (o : Int) (ho : o < 0 ∨ 2 < o) (v : Value) (s : St) (w : World) (hx : HasS w v s) :
    Calls Tryz.prog 79 #[.int .i64 o, v] w fun e w' => e = .returned (.bool false) ∧ Le w w' := by
  obtain ⟨vs, rfl, hr⟩ := hx
  have hl := Le.alloc w (.cells (cells4 vs) 71)
  by_cases h0 : o < 0
  · go_enter Tryz.func79, Tryz.ntmps79
    go_wp2
    refine wp_loop_rounds 1 ?_
    rw [rounds_succ]
    go_wp2
    go_ret
    exact ⟨rfl, hl⟩
  · have h2 : 2 < o := by omega
    go_enter Tryz.func79, Tryz.ntmps79
    go_wp2
    refine wp_loop_rounds 1 ?_
    rw [rounds_succ]
    go_wp2
    go_ret
    exact ⟨rfl, hl⟩

theorem refStateMay (o : Int) (v : Value) (s : St) (w : World) (hx : HasS w v s) (hf : Fit s) :
    Calls Tryz.prog 79 #[.int .i64 o, v] w fun e w' => e = .returned (.bool (objMay o s)) ∧ Le w w' := by
  rcases obj_cases (o := o) with rfl | rfl | rfl | ho
  · exact refStateMay0 v s w hx hf
  · exact refStateMay1 v s w hx
  · exact refStateMay2 v s w hx hf
  · rw [objMay_out ho]; exact refStateMayOut o ho v s w hx

end Go.Proofs.YtkddgpdlpjjpbaaGreat

/-
  THE WALK over choruslaw0.SpoilInts: numbers in the call's own memory are written over, and nothing else turns. No condition but that they may be written over.
-/
namespace Go.Proofs.YtkddgpdlpjjpbaaGreat
open Go.RowKit

set_option maxHeartbeats 400000 in
theorem lawSpoil (v : Value) (base : Nat) (w : World) (hx : Ints w base v) :
    Calls Tryz.prog 24 #[v] w fun e w' => e = .returned (.tuple #[]) ∧ Spoilt base w w' := by
  obtain ⟨a, L, cap, rfl, hc, hm, hx⟩ := hx
  rcases Nat.eq_zero_or_pos L with h0 | h0
  · subst h0
    go_enter Tryz.func24, Tryz.ntmps24
    go_wp2
    refine wp_loop_rounds 1 ?_
    rw [rounds_succ]
    go_wp2
    go_end0
    exact ⟨rfl, Spoilt.refl _ _⟩
  · obtain ⟨b, off, rfl, hb, hcell⟩ := hx h0
    clear hx
    go_enter Tryz.func24, Tryz.ntmps24
    go_wp2
    go_loopw [2] (fun i wr => ∃ k : Nat, k ≤ L ∧ i = .int .i64 k ∧ Spoilt base w wr) (fun i _ => L - (intOf i).toNat)
    case atStart => exact ⟨0, Nat.zero_le _, rfl, Spoilt.refl _ _⟩
    case round =>
      obtain ⟨k, hk, rfl, hsp⟩ := hrel
      by_cases hlt : k < L
      · obtain ⟨⟨x0, h1⟩, h2⟩ := hcell k hlt
        have hfz := hsp.thaw _ (World.block_lt_of_cell? w _ h1) h2
        obtain ⟨x, hcl⟩ := hsp.ints _ _ h1
        clear h1 h2 hcell
        go_wp2
        go_roundw
        case rel => exact ⟨k + 1, by omega, by go_num, hsp.trans (Spoilt.store hcl hb)⟩
        case measure => simp [intOf]; omega
      · go_wp2
        go_end0
        exact ⟨rfl, hsp⟩

end Go.Proofs.YtkddgpdlpjjpbaaGreat

/-
  THE WALKS over choruslaw0's SameEvents, SpoilEvents, SameThread: what each does, for all events and threads. Condition: that the rows can be copied.
-/
namespace Go.Proofs.YtkddgpdlpjjpbaaGreat
open Go.RowKit

theorem take_sameE {α : Type} {xs ys : List α} {d : α} {k : Nat} (h1 : k < xs.length) (h2 : k < ys.length) (h : xs.take k = ys.take k) (he : xs.getD k d = ys.getD k d) : xs.take (k + 1) = ys.take (k + 1) := by
  rw [List.take_succ_eq_append_getElem h1, List.take_succ_eq_append_getElem h2, h]
  simp [List.getD, h1, h2] at he
  rw [he]
theorem ne_of_atE {α : Type} {xs ys : List α} {d : α} {k : Nat} (he : ¬ xs.getD k d = ys.getD k d) : ¬ xs = ys := fun h => he (by rw [h])

theorem ev_ne {x y : Ev} (h : ¬ x = y) : (x.t == y.t) = false ∨ ((x.t == y.t) = true ∧ (x.ca == y.ca) = false) ∨ ((x.t == y.t) = true ∧ (x.ca == y.ca) = true ∧ (x.c == y.c) = false) ∨ ((x.t == y.t) = true ∧ (x.ca == y.ca) = true ∧ (x.c == y.c) = true ∧ (x.r == y.r) = false) ∨ ((x.t == y.t) = true ∧ (x.ca == y.ca) = true ∧ (x.c == y.c) = true ∧ (x.r == y.r) = true ∧ (x.a == y.a) = false) ∨ ((x.t == y.t) = true ∧ (x.ca == y.ca) = true ∧ (x.c == y.c) = true ∧ (x.r == y.r) = true ∧ (x.a == y.a) = true ∧ (x.an == y.an) = false) := by
  cases e0 : x.t == y.t
  · exact .inl rfl
  cases e1 : x.ca == y.ca
  · exact .inr (.inl ⟨rfl, rfl⟩)
  cases e2 : x.c == y.c
  · exact .inr (.inr (.inl ⟨rfl, rfl, rfl⟩))
  cases e3 : x.r == y.r
  · exact .inr (.inr (.inr (.inl ⟨rfl, rfl, rfl, rfl⟩)))
  cases e4 : x.a == y.a
  · exact .inr (.inr (.inr (.inr (.inl ⟨rfl, rfl, rfl, rfl, rfl⟩))))
  cases e5 : x.an == y.an
  · exact .inr (.inr (.inr (.inr (.inr ⟨rfl, rfl, rfl, rfl, rfl, rfl⟩))))
  exfalso
  obtain ⟨_, _, _, _, _, _⟩ := x
  obtain ⟨_, _, _, _, _, _⟩ := y
  simp at e0 e1 e2 e3 e4 e5
  subst e0 e1 e2 e3 e4 e5
  exact h rfl

set_option maxHeartbeats 1000000 in
theorem lawSameEvents (v u : Value) (xs ys : List Ev) (w : World) (hx : HasE evK w v xs) (hy : HasE evK w u ys) (hm : xs.length ≤ 9223372036854775807) :
    Calls Tryz.prog 38 #[v, u] w fun e w' => e = .returned (.bool (decide (xs = ys))) ∧ Le w w' := by
  obtain ⟨a, cap, rfl, hc, _, hx⟩ := hx.openEv
  obtain ⟨c, cap', rfl, hc', _, hy⟩ := hy.openEv
  by_cases hl : xs.length = ys.length
  · by_cases h0 : 0 < xs.length
    · obtain ⟨b, off, rfl, hcell⟩ := hx h0
      obtain ⟨b', off', rfl, hcell'⟩ := hy (by omega)
      have HL : Hid (xs.length = ys.length) := hl
      obtain ⟨L, hL⟩ : ∃ L, L = xs.length := ⟨_, rfl⟩
      rw [← hL] at hm ⊢
      have hL' : ys.length = L := by omega
      rw [hL']
      have HLx : Hid (xs.length = L) := hL.symm
      have HLy : Hid (ys.length = L) := hL'
      rw [← hL] at hcell h0 hc
      rw [hL'] at hcell' hc'
      clear hl hx hy hL hL'
      go_enter Tryz.func38, Tryz.ntmps38
      go_wp2
      go_loopw [5] (fun i wr => ∃ k n : Nat, k ≤ L ∧ i = .int .i64 k ∧ Hid (xs.take k = ys.take k) ∧ wr = w.drewN n) (fun i _ => L - (intOf i).toNat)
      case atStart => exact ⟨0, 0, Nat.zero_le _, rfl, rfl, rfl⟩
      case round =>
        obtain ⟨k, n, hk, rfl, HT, rfl⟩ := hrel
        by_cases hlt : k < L
        · obtain ⟨x, hxk⟩ : ∃ x, x = xs.getD k Ev.zero := ⟨_, rfl⟩
          obtain ⟨x0, x1, x2, x3, x4, x5⟩ := hcell k hlt
          rw [← hxk] at x0 x1 x2 x3 x4 x5
          obtain ⟨y, hyk⟩ : ∃ y, y = ys.getD k Ev.zero := ⟨_, rfl⟩
          obtain ⟨y0, y1, y2, y3, y4, y5⟩ := hcell' k hlt
          rw [← hyk] at y0 y1 y2 y3 y4 y5
          have HX : Hid (x = xs.getD k Ev.zero) := hxk
          have HY : Hid (y = ys.getD k Ev.zero) := hyk
          have hlt' : (k : Int) < (L : Int) := by omega
          clear hxk hyk hcell hcell'
          by_cases hxy : x = y
          · subst hxy
            go_wp2
            go_quiet (fail)
            go_wp2
            go_roundw
            case rel => exact ⟨k + 1, n + nq, by omega, by go_num, take_sameE (by have := HLx.out; omega) (by have := HLy.out; omega) HT.out (by rw [← HX.out, ← HY.out]), rfl⟩
            case measure => simp [intOf]; omega
          · have HN : Hid (¬ x = y) := hxy
            rcases ev_ne hxy with e0 | ⟨e0, e1⟩ | ⟨e0, e1, e2⟩ | ⟨e0, e1, e2, e3⟩ | ⟨e0, e1, e2, e3, e4⟩ | ⟨e0, e1, e2, e3, e4, e5⟩
            all_goals
              clear hxy
              go_wp2
              go_quiet (fail)
              go_wp2
              go_ret
              exact ⟨ret_bool (by have := ne_of_atE (k := k) (d := Ev.zero) (xs := xs) (ys := ys) (by rw [← HX.out, ← HY.out]; exact HN.out); simp [this]), by rw [World.drewN_drewN]; exact Le.drewN _ _⟩
        · go_wp2
          go_ret
          refine ⟨ret_bool ?_, Le.drewN _ _⟩
          have h1 := HLx.out
          have h2 := HLy.out
          have := HT.out
          rw [List.take_of_length_le (by omega), List.take_of_length_le (by omega)] at this
          simp [this]
    · have hxn : xs = [] := by cases xs with | nil => rfl | cons _ _ => simp at h0
      have hyn : ys = [] := by cases ys with | nil => rfl | cons _ _ => subst hxn; simp at hl
      subst hxn hyn
      go_enter Tryz.func38, Tryz.ntmps38
      go_wp2
      refine wp_loop_rounds 1 ?_
      rw [rounds_succ]
      go_wp2
      go_ret
      exact ⟨ret_bool (by simp), Le.refl _⟩
  · have hne : (((xs.length : Int)) != (ys.length : Int)) = true := by simp; omega
    have HN : Hid (¬ xs = ys) := fun h => hl (by rw [h])
    clear hl
    go_enter Tryz.func38, Tryz.ntmps38
    go_wp2
    go_ret
    exact ⟨ret_bool (by have := HN.out; simp [this]), Le.refl _⟩

set_option maxHeartbeats 400000 in
theorem lawSpoilEvents (v : Value) (base : Nat) (w : World) (hx : IntsRow 6 EvX w base v) :
    Calls Tryz.prog 42 #[v] w fun e w' => e = .returned (.tuple #[]) ∧ Spoilt base w w' := by
  obtain ⟨a, L, cap, rfl, hc, hm, hx⟩ := hx
  rcases Nat.eq_zero_or_pos L with h0 | h0
  · subst h0
    go_enter Tryz.func42, Tryz.ntmps42
    go_wp2
    refine wp_loop_rounds 1 ?_
    rw [rounds_succ]
    go_wp2
    go_end0
    exact ⟨rfl, Spoilt.refl _ _⟩
  · obtain ⟨b, off, rfl, hb, hcell⟩ := hx h0
    clear hx
    go_enter Tryz.func42, Tryz.ntmps42
    go_wp2
    go_loopw [2] (fun i wr => ∃ k : Nat, k ≤ L ∧ i = .int .i64 k ∧ Spoilt base w wr) (fun i _ => L - (intOf i).toNat)
    case atStart => exact ⟨0, Nat.zero_le _, rfl, Spoilt.refl _ _⟩
    case round =>
      obtain ⟨k, hk, rfl, hsp⟩ := hrel
      by_cases hlt : k < L
      · obtain ⟨⟨x, hcl⟩, hfz⟩ := (hcell k hlt).spoilt hsp
        clear hcell
        go_wp2
        go_roundw
        case rel => exact ⟨k + 1, by omega, by go_num, hsp.trans (Spoilt.store hcl hb)⟩
        case measure => simp [intOf]; omega
      · go_wp2
        go_end0
        exact ⟨rfl, hsp⟩

end Go.Proofs.YtkddgpdlpjjpbaaGreat

/-
  PLAIN GROUND, NO WALK: a thread in a variable. No condition.
-/
namespace Go.Proofs.YtkddgpdlpjjpbaaGreat
open Go.RowKit

abbrev cellsT (T : Th) (b t : Sl) : Array Value := #[.int .i64 T.st, .int .i64 T.c, .int .i64 T.r, .int .i64 T.a, .int .i64 T.lg, .int .i64 T.sn, slV b, .int .i64 T.pl, .bool T.po, .bool T.re, .int .i64 T.an, slV t]
theorem Box.th {w : World} {g : Nat} {T : Th} {b t : Sl} {ty : TypeId} (h : Box w g (cellsT T b t) ty) :
    w.cell? ⟨g, 0, none⟩ = some (.int .i64 T.st) ∧ w.cell? ⟨g, 1, none⟩ = some (.int .i64 T.c) ∧ w.cell? ⟨g, 2, none⟩ = some (.int .i64 T.r) ∧ w.cell? ⟨g, 3, none⟩ = some (.int .i64 T.a) ∧
    w.cell? ⟨g, 4, none⟩ = some (.int .i64 T.lg) ∧ w.cell? ⟨g, 5, none⟩ = some (.int .i64 T.sn) ∧ w.cell? ⟨g, 6, none⟩ = some (slV b) ∧ w.cell? ⟨g, 7, none⟩ = some (.int .i64 T.pl) ∧
    w.cell? ⟨g, 8, none⟩ = some (.bool T.po) ∧ w.cell? ⟨g, 9, none⟩ = some (.bool T.re) ∧ w.cell? ⟨g, 10, none⟩ = some (.int .i64 T.an) ∧ w.cell? ⟨g, 11, none⟩ = some (slV t) :=
  ⟨h.cell 0, h.cell 1, h.cell 2, h.cell 3, h.cell 4, h.cell 5, h.cell 6, h.cell 7, h.cell 8, h.cell 9, h.cell 10, h.cell 11⟩

end Go.Proofs.YtkddgpdlpjjpbaaGreat

/-
  THE WALK over choruslaw0's SameThread, where field 0 is the first that differs. Condition: that the threads' rows can be copied.
-/
namespace Go.Proofs.YtkddgpdlpjjpbaaGreat
open Go.RowKit

set_option linter.unusedVariables false in
set_option maxRecDepth 8000 in
set_option maxHeartbeats 8000000 in
theorem sameTh0 (v u : Value) (T S : Th) (w : World) (hx : HasT w v T) (hy : HasT w u S) (hf : T.b.length * 8 ≤ 140737488351232) (hf2 : T.tl.length * 8 ≤ 140737488351232) (e0 : ¬ T.st = S.st) :
    Calls Tryz.prog 41 #[v, u] w fun e w' => e = .returned (.bool (decide (T = S))) ∧ Le w w' := by
  obtain ⟨q, t, rfl, hq, ht⟩ := hx
  obtain ⟨q', t', rfl, hq', ht'⟩ := hy
  have hl := (Le.alloc w (.cells (cellsT T q t) 63)).trans (Le.alloc _ (.cells (cellsT S q' t') 63))
  have hb1 := (Box.new w (cellsT T q t) 63).le (Le.alloc _ (.cells (cellsT S q' t') 63))
  have hb2 := Box.new (w.alloc (.cells (cellsT T q t) 63)) (cellsT S q' t') 63
  rw [World.size_alloc] at hb2
  obtain ⟨x0, x1, x2, x3, x4, x5, xb, x7, x8, x9, x10, xt⟩ := T
  obtain ⟨y0, y1, y2, y3, y4, y5, yb, y7, y8, y9, y10, yt⟩ := S
  simp only at hq ht hq' ht' hf hf2 e0 ⊢
  have hs := lawSameI _ _ xb yb _ (hq.le hl) (hq'.le hl) hf
  have hs2 := fun w' (l : Le ((w.alloc (.cells (cellsT ⟨x0, x1, x2, x3, x4, x5, xb, x7, x8, x9, x10, xt⟩ q t) 63)).alloc (.cells (cellsT ⟨y0, y1, y2, y3, y4, y5, yb, y7, y8, y9, y10, yt⟩ q' t') 63)) w') => lawSameI _ _ xt yt w' (ht.le (hl.trans l)) (ht'.le (hl.trans l)) hf2
  rw [show decide _ = false from decide_eq_false (fun h => e0 (congrArg Th.st h))]
  have hne : (x0 == y0) = false := by simp [e0]
  clear hs2
  clear e0
  go_enter Tryz.func41, Tryz.ntmps41
  go_wp2_with fail
  go_ret
  exact ⟨rfl, hl⟩

end Go.Proofs.YtkddgpdlpjjpbaaGreat

/-
  THE WALK over choruslaw0's SameThread, where field 1 is the first that differs. Condition: that the threads' rows can be copied.
-/
namespace Go.Proofs.YtkddgpdlpjjpbaaGreat
open Go.RowKit

set_option linter.unusedVariables false in
set_option maxRecDepth 8000 in
set_option maxHeartbeats 8000000 in
theorem sameTh1 (v u : Value) (T S : Th) (w : World) (hx : HasT w v T) (hy : HasT w u S) (hf : T.b.length * 8 ≤ 140737488351232) (hf2 : T.tl.length * 8 ≤ 140737488351232) (e0 : T.st = S.st) (e1 : ¬ T.c = S.c) :
    Calls Tryz.prog 41 #[v, u] w fun e w' => e = .returned (.bool (decide (T = S))) ∧ Le w w' := by
  obtain ⟨q, t, rfl, hq, ht⟩ := hx
  obtain ⟨q', t', rfl, hq', ht'⟩ := hy
  have hl := (Le.alloc w (.cells (cellsT T q t) 63)).trans (Le.alloc _ (.cells (cellsT S q' t') 63))
  have hb1 := (Box.new w (cellsT T q t) 63).le (Le.alloc _ (.cells (cellsT S q' t') 63))
  have hb2 := Box.new (w.alloc (.cells (cellsT T q t) 63)) (cellsT S q' t') 63
  rw [World.size_alloc] at hb2
  obtain ⟨x0, x1, x2, x3, x4, x5, xb, x7, x8, x9, x10, xt⟩ := T
  obtain ⟨y0, y1, y2, y3, y4, y5, yb, y7, y8, y9, y10, yt⟩ := S
  simp only at hq ht hq' ht' hf hf2 e0 e1 ⊢
  have hs := lawSameI _ _ xb yb _ (hq.le hl) (hq'.le hl) hf
  have hs2 := fun w' (l : Le ((w.alloc (.cells (cellsT ⟨x0, x1, x2, x3, x4, x5, xb, x7, x8, x9, x10, xt⟩ q t) 63)).alloc (.cells (cellsT ⟨y0, y1, y2, y3, y4, y5, yb, y7, y8, y9, y10, yt⟩ q' t') 63)) w') => lawSameI _ _ xt yt w' (ht.le (hl.trans l)) (ht'.le (hl.trans l)) hf2
  subst e0
  rw [show decide _ = false from decide_eq_false (fun h => e1 (congrArg Th.c h))]
  have hne : (x1 == y1) = false := by simp [e1]
  clear hs2
  clear e1
  go_enter Tryz.func41, Tryz.ntmps41
  go_wp2_with fail
  go_ret
  exact ⟨rfl, hl⟩

end Go.Proofs.YtkddgpdlpjjpbaaGreat

/-
  THE WALK over choruslaw0's SameThread, where field 2 is the first that differs. Condition: that the threads' rows can be copied.
-/
namespace Go.Proofs.YtkddgpdlpjjpbaaGreat
open Go.RowKit

set_option linter.unusedVariables false in
set_option maxRecDepth 8000 in
set_option maxHeartbeats 8000000 in
theorem sameTh2 (v u : Value) (T S : Th) (w : World) (hx : HasT w v T) (hy : HasT w u S) (hf : T.b.length * 8 ≤ 140737488351232) (hf2 : T.tl.length * 8 ≤ 140737488351232) (e0 : T.st = S.st) (e1 : T.c = S.c) (e2 : ¬ T.r = S.r) :
    Calls Tryz.prog 41 #[v, u] w fun e w' => e = .returned (.bool (decide (T = S))) ∧ Le w w' := by
  obtain ⟨q, t, rfl, hq, ht⟩ := hx
  obtain ⟨q', t', rfl, hq', ht'⟩ := hy
  have hl := (Le.alloc w (.cells (cellsT T q t) 63)).trans (Le.alloc _ (.cells (cellsT S q' t') 63))
  have hb1 := (Box.new w (cellsT T q t) 63).le (Le.alloc _ (.cells (cellsT S q' t') 63))
  have hb2 := Box.new (w.alloc (.cells (cellsT T q t) 63)) (cellsT S q' t') 63
  rw [World.size_alloc] at hb2
  obtain ⟨x0, x1, x2, x3, x4, x5, xb, x7, x8, x9, x10, xt⟩ := T
  obtain ⟨y0, y1, y2, y3, y4, y5, yb, y7, y8, y9, y10, yt⟩ := S
  simp only at hq ht hq' ht' hf hf2 e0 e1 e2 ⊢
  have hs := lawSameI _ _ xb yb _ (hq.le hl) (hq'.le hl) hf
  have hs2 := fun w' (l : Le ((w.alloc (.cells (cellsT ⟨x0, x1, x2, x3, x4, x5, xb, x7, x8, x9, x10, xt⟩ q t) 63)).alloc (.cells (cellsT ⟨y0, y1, y2, y3, y4, y5, yb, y7, y8, y9, y10, yt⟩ q' t') 63)) w') => lawSameI _ _ xt yt w' (ht.le (hl.trans l)) (ht'.le (hl.trans l)) hf2
  subst e0
  subst e1
  rw [show decide _ = false from decide_eq_false (fun h => e2 (congrArg Th.r h))]
  have hne : (x2 == y2) = false := by simp [e2]
  clear hs2
  clear e2
  go_enter Tryz.func41, Tryz.ntmps41
  go_wp2_with fail
  go_ret
  exact ⟨rfl, hl⟩

end Go.Proofs.YtkddgpdlpjjpbaaGreat

/-
  THE WALK over choruslaw0's SameThread, where field 3 is the first that differs. Condition: that the threads' rows can be copied.
-/
namespace Go.Proofs.YtkddgpdlpjjpbaaGreat
open Go.RowKit

set_option linter.unusedVariables false in
set_option maxRecDepth 8000 in
set_option maxHeartbeats 8000000 in
theorem sameTh3 (v u : Value) (T S : Th) (w : World) (hx : HasT w v T) (hy : HasT w u S) (hf : T.b.length * 8 ≤ 140737488351232) (hf2 : T.tl.length * 8 ≤ 140737488351232) (e0 : T.st = S.st) (e1 : T.c = S.c) (e2 : T.r = S.r) (e3 : ¬ T.a = S.a) :
    Calls Tryz.prog 41 #[v, u] w fun e w' => e = .returned (.bool (decide (T = S))) ∧ Le w w' := by
  obtain ⟨q, t, rfl, hq, ht⟩ := hx
  obtain ⟨q', t', rfl, hq', ht'⟩ := hy
  have hl := (Le.alloc w (.cells (cellsT T q t) 63)).trans (Le.alloc _ (.cells (cellsT S q' t') 63))
  have hb1 := (Box.new w (cellsT T q t) 63).le (Le.alloc _ (.cells (cellsT S q' t') 63))
  have hb2 := Box.new (w.alloc (.cells (cellsT T q t) 63)) (cellsT S q' t') 63
  rw [World.size_alloc] at hb2
  obtain ⟨x0, x1, x2, x3, x4, x5, xb, x7, x8, x9, x10, xt⟩ := T
  obtain ⟨y0, y1, y2, y3, y4, y5, yb, y7, y8, y9, y10, yt⟩ := S
  simp only at hq ht hq' ht' hf hf2 e0 e1 e2 e3 ⊢
  have hs := lawSameI _ _ xb yb _ (hq.le hl) (hq'.le hl) hf
  have hs2 := fun w' (l : Le ((w.alloc (.cells (cellsT ⟨x0, x1, x2, x3, x4, x5, xb, x7, x8, x9, x10, xt⟩ q t) 63)).alloc (.cells (cellsT ⟨y0, y1, y2, y3, y4, y5, yb, y7, y8, y9, y10, yt⟩ q' t') 63)) w') => lawSameI _ _ xt yt w' (ht.le (hl.trans l)) (ht'.le (hl.trans l)) hf2
  subst e0
  subst e1
  subst e2
  rw [show decide _ = false from decide_eq_false (fun h => e3 (congrArg Th.a h))]
  have hne : (x3 == y3) = false := by simp [e3]
  clear hs2
  clear e3
  go_enter Tryz.func41, Tryz.ntmps41
  go_wp2_with fail
  go_ret
  exact ⟨rfl, hl⟩

end Go.Proofs.YtkddgpdlpjjpbaaGreat

/-
  THE WALK over choruslaw0's SameThread, where field 4 is the first that differs. Condition: that the threads' rows can be copied.
-/
namespace Go.Proofs.YtkddgpdlpjjpbaaGreat
open Go.RowKit

set_option linter.unusedVariables false in
set_option maxRecDepth 8000 in
set_option maxHeartbeats 8000000 in
theorem sameTh4 (v u : Value) (T S : Th) (w : World) (hx : HasT w v T) (hy : HasT w u S) (hf : T.b.length * 8 ≤ 140737488351232) (hf2 : T.tl.length * 8 ≤ 140737488351232) (e0 : T.st = S.st) (e1 : T.c = S.c) (e2 : T.r = S.r) (e3 : T.a = S.a) (e4 : ¬ T.lg = S.lg) :
    Calls Tryz.prog 41 #[v, u] w fun e w' => e = .returned (.bool (decide (T = S))) ∧ Le w w' := by
  obtain ⟨q, t, rfl, hq, ht⟩ := hx
  obtain ⟨q', t', rfl, hq', ht'⟩ := hy
  have hl := (Le.alloc w (.cells (cellsT T q t) 63)).trans (Le.alloc _ (.cells (cellsT S q' t') 63))
  have hb1 := (Box.new w (cellsT T q t) 63).le (Le.alloc _ (.cells (cellsT S q' t') 63))
  have hb2 := Box.new (w.alloc (.cells (cellsT T q t) 63)) (cellsT S q' t') 63
  rw [World.size_alloc] at hb2
  obtain ⟨x0, x1, x2, x3, x4, x5, xb, x7, x8, x9, x10, xt⟩ := T
  obtain ⟨y0, y1, y2, y3, y4, y5, yb, y7, y8, y9, y10, yt⟩ := S
  simp only at hq ht hq' ht' hf hf2 e0 e1 e2 e3 e4 ⊢
  have hs := lawSameI _ _ xb yb _ (hq.le hl) (hq'.le hl) hf
  have hs2 := fun w' (l : Le ((w.alloc (.cells (cellsT ⟨x0, x1, x2, x3, x4, x5, xb, x7, x8, x9, x10, xt⟩ q t) 63)).alloc (.cells (cellsT ⟨y0, y1, y2, y3, y4, y5, yb, y7, y8, y9, y10, yt⟩ q' t') 63)) w') => lawSameI _ _ xt yt w' (ht.le (hl.trans l)) (ht'.le (hl.trans l)) hf2
  subst e0
  subst e1
  subst e2
  subst e3
  rw [show decide _ = false from decide_eq_false (fun h => e4 (congrArg Th.lg h))]
  have hne : (x4 == y4) = false := by simp [e4]
  clear hs2
  clear e4
  go_enter Tryz.func41, Tryz.ntmps41
  go_wp2_with fail
  go_ret
  exact ⟨rfl, hl⟩

end Go.Proofs.YtkddgpdlpjjpbaaGreat

/-
  THE WALK over choruslaw0's SameThread, where field 5 is the first that differs. Condition: that the threads' rows can be copied.
-/
namespace Go.Proofs.YtkddgpdlpjjpbaaGreat
open Go.RowKit

set_option linter.unusedVariables false in
set_option maxRecDepth 8000 in
set_option maxHeartbeats 8000000 in
theorem sameTh5 (v u : Value) (T S : Th) (w : World) (hx : HasT w v T) (hy : HasT w u S) (hf : T.b.length * 8 ≤ 140737488351232) (hf2 : T.tl.length * 8 ≤ 140737488351232) (e0 : T.st = S.st) (e1 : T.c = S.c) (e2 : T.r = S.r) (e3 : T.a = S.a) (e4 : T.lg = S.lg) (e5 : ¬ T.sn = S.sn) :
    Calls Tryz.prog 41 #[v, u] w fun e w' => e = .returned (.bool (decide (T = S))) ∧ Le w w' := by
  obtain ⟨q, t, rfl, hq, ht⟩ := hx
  obtain ⟨q', t', rfl, hq', ht'⟩ := hy
  have hl := (Le.alloc w (.cells (cellsT T q t) 63)).trans (Le.alloc _ (.cells (cellsT S q' t') 63))
  have hb1 := (Box.new w (cellsT T q t) 63).le (Le.alloc _ (.cells (cellsT S q' t') 63))
  have hb2 := Box.new (w.alloc (.cells (cellsT T q t) 63)) (cellsT S q' t') 63
  rw [World.size_alloc] at hb2
  obtain ⟨x0, x1, x2, x3, x4, x5, xb, x7, x8, x9, x10, xt⟩ := T
  obtain ⟨y0, y1, y2, y3, y4, y5, yb, y7, y8, y9, y10, yt⟩ := S
  simp only at hq ht hq' ht' hf hf2 e0 e1 e2 e3 e4 e5 ⊢
  have hs := lawSameI _ _ xb yb _ (hq.le hl) (hq'.le hl) hf
  have hs2 := fun w' (l : Le ((w.alloc (.cells (cellsT ⟨x0, x1, x2, x3, x4, x5, xb, x7, x8, x9, x10, xt⟩ q t) 63)).alloc (.cells (cellsT ⟨y0, y1, y2, y3, y4, y5, yb, y7, y8, y9, y10, yt⟩ q' t') 63)) w') => lawSameI _ _ xt yt w' (ht.le (hl.trans l)) (ht'.le (hl.trans l)) hf2
  subst e0
  subst e1
  subst e2
  subst e3
  subst e4
  rw [show decide _ = false from decide_eq_false (fun h => e5 (congrArg Th.sn h))]
  have hne : (x5 == y5) = false := by simp [e5]
  clear hs2
  clear e5
  go_enter Tryz.func41, Tryz.ntmps41
  go_wp2_with fail
  go_ret
  exact ⟨rfl, hl⟩

end Go.Proofs.YtkddgpdlpjjpbaaGreat

/-
  THE WALK over choruslaw0's SameThread, where field 6 is the first that differs. Condition: that the threads' rows can be copied.
-/
namespace Go.Proofs.YtkddgpdlpjjpbaaGreat
open Go.RowKit

set_option linter.unusedVariables false in
set_option maxRecDepth 8000 in
set_option maxHeartbeats 8000000 in
theorem sameTh6 (v u : Value) (T S : Th) (w : World) (hx : HasT w v T) (hy : HasT w u S) (hf : T.b.length * 8 ≤ 140737488351232) (hf2 : T.tl.length * 8 ≤ 140737488351232) (e0 : T.st = S.st) (e1 : T.c = S.c) (e2 : T.r = S.r) (e3 : T.a = S.a) (e4 : T.lg = S.lg) (e5 : T.sn = S.sn) (e6 : ¬ T.b = S.b) :
    Calls Tryz.prog 41 #[v, u] w fun e w' => e = .returned (.bool (decide (T = S))) ∧ Le w w' := by
  obtain ⟨q, t, rfl, hq, ht⟩ := hx
  obtain ⟨q', t', rfl, hq', ht'⟩ := hy
  have hl := (Le.alloc w (.cells (cellsT T q t) 63)).trans (Le.alloc _ (.cells (cellsT S q' t') 63))
  have hb1 := (Box.new w (cellsT T q t) 63).le (Le.alloc _ (.cells (cellsT S q' t') 63))
  have hb2 := Box.new (w.alloc (.cells (cellsT T q t) 63)) (cellsT S q' t') 63
  rw [World.size_alloc] at hb2
  obtain ⟨x0, x1, x2, x3, x4, x5, xb, x7, x8, x9, x10, xt⟩ := T
  obtain ⟨y0, y1, y2, y3, y4, y5, yb, y7, y8, y9, y10, yt⟩ := S
  simp only at hq ht hq' ht' hf hf2 e0 e1 e2 e3 e4 e5 e6 ⊢
  have hs := lawSameI _ _ xb yb _ (hq.le hl) (hq'.le hl) hf
  have hs2 := fun w' (l : Le ((w.alloc (.cells (cellsT ⟨x0, x1, x2, x3, x4, x5, xb, x7, x8, x9, x10, xt⟩ q t) 63)).alloc (.cells (cellsT ⟨y0, y1, y2, y3, y4, y5, yb, y7, y8, y9, y10, yt⟩ q' t') 63)) w') => lawSameI _ _ xt yt w' (ht.le (hl.trans l)) (ht'.le (hl.trans l)) hf2
  subst e0
  subst e1
  subst e2
  subst e3
  subst e4
  subst e5
  rw [show decide _ = false from decide_eq_false (fun h => e6 (congrArg Th.b h))]
  rw [decide_eq_false e6] at hs
  clear hs2
  clear e6
  go_enter Tryz.func41, Tryz.ntmps41
  go_wp2_with fail
  refine hs.mono ?_
  rintro e w1 ⟨rfl, l1⟩
  obtain ⟨b0, b1, b2, b3, b4, b5, b6, b7, b8, b9, b10, b11⟩ := (hb1.le l1).th
  obtain ⟨c0, c1, c2, c3, c4, c5, c6, c7, c8, c9, c10, c11⟩ := (hb2.le l1).th
  go_wp2_with fail
  go_ret
  exact ⟨rfl, hl.trans l1⟩

end Go.Proofs.YtkddgpdlpjjpbaaGreat

/-
  THE WALK over choruslaw0's SameThread, where field 7 is the first that differs. Condition: that the threads' rows can be copied.
-/
namespace Go.Proofs.YtkddgpdlpjjpbaaGreat
open Go.RowKit

set_option linter.unusedVariables false in
set_option maxRecDepth 8000 in
set_option maxHeartbeats 8000000 in
theorem sameTh7 (v u : Value) (T S : Th) (w : World) (hx : HasT w v T) (hy : HasT w u S) (hf : T.b.length * 8 ≤ 140737488351232) (hf2 : T.tl.length * 8 ≤ 140737488351232) (e0 : T.st = S.st) (e1 : T.c = S.c) (e2 : T.r = S.r) (e3 : T.a = S.a) (e4 : T.lg = S.lg) (e5 : T.sn = S.sn) (e6 : T.b = S.b) (e7 : ¬ T.pl = S.pl) :
    Calls Tryz.prog 41 #[v, u] w fun e w' => e = .returned (.bool (decide (T = S))) ∧ Le w w' := by
  obtain ⟨q, t, rfl, hq, ht⟩ := hx
  obtain ⟨q', t', rfl, hq', ht'⟩ := hy
  have hl := (Le.alloc w (.cells (cellsT T q t) 63)).trans (Le.alloc _ (.cells (cellsT S q' t') 63))
  have hb1 := (Box.new w (cellsT T q t) 63).le (Le.alloc _ (.cells (cellsT S q' t') 63))
  have hb2 := Box.new (w.alloc (.cells (cellsT T q t) 63)) (cellsT S q' t') 63
  rw [World.size_alloc] at hb2
  obtain ⟨x0, x1, x2, x3, x4, x5, xb, x7, x8, x9, x10, xt⟩ := T
  obtain ⟨y0, y1, y2, y3, y4, y5, yb, y7, y8, y9, y10, yt⟩ := S
  simp only at hq ht hq' ht' hf hf2 e0 e1 e2 e3 e4 e5 e6 e7 ⊢
  have hs := lawSameI _ _ xb yb _ (hq.le hl) (hq'.le hl) hf
  have hs2 := fun w' (l : Le ((w.alloc (.cells (cellsT ⟨x0, x1, x2, x3, x4, x5, xb, x7, x8, x9, x10, xt⟩ q t) 63)).alloc (.cells (cellsT ⟨y0, y1, y2, y3, y4, y5, yb, y7, y8, y9, y10, yt⟩ q' t') 63)) w') => lawSameI _ _ xt yt w' (ht.le (hl.trans l)) (ht'.le (hl.trans l)) hf2
  subst e0
  subst e1
  subst e2
  subst e3
  subst e4
  subst e5
  subst e6
  rw [show decide _ = false from decide_eq_false (fun h => e7 (congrArg Th.pl h))]
  simp only [decide_true] at hs
  have hne : (x7 == y7) = false := by simp [e7]
  clear hs2
  clear e7
  go_enter Tryz.func41, Tryz.ntmps41
  go_wp2_with fail
  refine hs.mono ?_
  rintro e w1 ⟨rfl, l1⟩
  obtain ⟨b0, b1, b2, b3, b4, b5, b6, b7, b8, b9, b10, b11⟩ := (hb1.le l1).th
  obtain ⟨c0, c1, c2, c3, c4, c5, c6, c7, c8, c9, c10, c11⟩ := (hb2.le l1).th
  go_wp2_with fail
  go_ret
  exact ⟨rfl, hl.trans l1⟩

end Go.Proofs.YtkddgpdlpjjpbaaGreat

/-
  THE WALK over choruslaw0's SameThread, where field 8 is the first that differs. Condition: that the threads' rows can be copied.
-/
namespace Go.Proofs.YtkddgpdlpjjpbaaGreat
open Go.RowKit

set_option linter.unusedVariables false in
set_option maxRecDepth 8000 in
set_option maxHeartbeats 8000000 in
theorem sameTh8 (v u : Value) (T S : Th) (w : World) (hx : HasT w v T) (hy : HasT w u S) (hf : T.b.length * 8 ≤ 140737488351232) (hf2 : T.tl.length * 8 ≤ 140737488351232) (e0 : T.st = S.st) (e1 : T.c = S.c) (e2 : T.r = S.r) (e3 : T.a = S.a) (e4 : T.lg = S.lg) (e5 : T.sn = S.sn) (e6 : T.b = S.b) (e7 : T.pl = S.pl) (e8 : ¬ T.po = S.po) :
    Calls Tryz.prog 41 #[v, u] w fun e w' => e = .returned (.bool (decide (T = S))) ∧ Le w w' := by
  obtain ⟨q, t, rfl, hq, ht⟩ := hx
  obtain ⟨q', t', rfl, hq', ht'⟩ := hy
  have hl := (Le.alloc w (.cells (cellsT T q t) 63)).trans (Le.alloc _ (.cells (cellsT S q' t') 63))
  have hb1 := (Box.new w (cellsT T q t) 63).le (Le.alloc _ (.cells (cellsT S q' t') 63))
  have hb2 := Box.new (w.alloc (.cells (cellsT T q t) 63)) (cellsT S q' t') 63
  rw [World.size_alloc] at hb2
  obtain ⟨x0, x1, x2, x3, x4, x5, xb, x7, x8, x9, x10, xt⟩ := T
  obtain ⟨y0, y1, y2, y3, y4, y5, yb, y7, y8, y9, y10, yt⟩ := S
  simp only at hq ht hq' ht' hf hf2 e0 e1 e2 e3 e4 e5 e6 e7 e8 ⊢
  have hs := lawSameI _ _ xb yb _ (hq.le hl) (hq'.le hl) hf
  have hs2 := fun w' (l : Le ((w.alloc (.cells (cellsT ⟨x0, x1, x2, x3, x4, x5, xb, x7, x8, x9, x10, xt⟩ q t) 63)).alloc (.cells (cellsT ⟨y0, y1, y2, y3, y4, y5, yb, y7, y8, y9, y10, yt⟩ q' t') 63)) w') => lawSameI _ _ xt yt w' (ht.le (hl.trans l)) (ht'.le (hl.trans l)) hf2
  subst e0
  subst e1
  subst e2
  subst e3
  subst e4
  subst e5
  subst e6
  subst e7
  rw [show decide _ = false from decide_eq_false (fun h => e8 (congrArg Th.po h))]
  simp only [decide_true] at hs
  have hne : (x8 == y8) = false := by simp [e8]
  clear hs2
  clear e8
  go_enter Tryz.func41, Tryz.ntmps41
  go_wp2_with fail
  refine hs.mono ?_
  rintro e w1 ⟨rfl, l1⟩
  obtain ⟨b0, b1, b2, b3, b4, b5, b6, b7, b8, b9, b10, b11⟩ := (hb1.le l1).th
  obtain ⟨c0, c1, c2, c3, c4, c5, c6, c7, c8, c9, c10, c11⟩ := (hb2.le l1).th
  go_wp2_with fail
  go_ret
  exact ⟨rfl, hl.trans l1⟩

end Go.Proofs.YtkddgpdlpjjpbaaGreat

/-
  THE WALK over choruslaw0's SameThread, where field 9 is the first that differs. Condition: that the threads' rows can be copied.
-/
namespace Go.Proofs.YtkddgpdlpjjpbaaGreat
open Go.RowKit

set_option linter.unusedVariables false in
set_option maxRecDepth 8000 in
set_option maxHeartbeats 8000000 in
theorem sameTh9 (v u : Value) (T S : Th) (w : World) (hx : HasT w v T) (hy : HasT w u S) (hf : T.b.length * 8 ≤ 140737488351232) (hf2 : T.tl.length * 8 ≤ 140737488351232) (e0 : T.st = S.st) (e1 : T.c = S.c) (e2 : T.r = S.r) (e3 : T.a = S.a) (e4 : T.lg = S.lg) (e5 : T.sn = S.sn) (e6 : T.b = S.b) (e7 : T.pl = S.pl) (e8 : T.po = S.po) (e9 : ¬ T.re = S.re) :
    Calls Tryz.prog 41 #[v, u] w fun e w' => e = .returned (.bool (decide (T = S))) ∧ Le w w' := by
  obtain ⟨q, t, rfl, hq, ht⟩ := hx
  obtain ⟨q', t', rfl, hq', ht'⟩ := hy
  have hl := (Le.alloc w (.cells (cellsT T q t) 63)).trans (Le.alloc _ (.cells (cellsT S q' t') 63))
  have hb1 := (Box.new w (cellsT T q t) 63).le (Le.alloc _ (.cells (cellsT S q' t') 63))
  have hb2 := Box.new (w.alloc (.cells (cellsT T q t) 63)) (cellsT S q' t') 63
  rw [World.size_alloc] at hb2
  obtain ⟨x0, x1, x2, x3, x4, x5, xb, x7, x8, x9, x10, xt⟩ := T
  obtain ⟨y0, y1, y2, y3, y4, y5, yb, y7, y8, y9, y10, yt⟩ := S
  simp only at hq ht hq' ht' hf hf2 e0 e1 e2 e3 e4 e5 e6 e7 e8 e9 ⊢
  have hs := lawSameI _ _ xb yb _ (hq.le hl) (hq'.le hl) hf
  have hs2 := fun w' (l : Le ((w.alloc (.cells (cellsT ⟨x0, x1, x2, x3, x4, x5, xb, x7, x8, x9, x10, xt⟩ q t) 63)).alloc (.cells (cellsT ⟨y0, y1, y2, y3, y4, y5, yb, y7, y8, y9, y10, yt⟩ q' t') 63)) w') => lawSameI _ _ xt yt w' (ht.le (hl.trans l)) (ht'.le (hl.trans l)) hf2
  subst e0
  subst e1
  subst e2
  subst e3
  subst e4
  subst e5
  subst e6
  subst e7
  subst e8
  rw [show decide _ = false from decide_eq_false (fun h => e9 (congrArg Th.re h))]
  simp only [decide_true] at hs
  have hne : (x9 == y9) = false := by simp [e9]
  clear hs2
  clear e9
  go_enter Tryz.func41, Tryz.ntmps41
  go_wp2_with fail
  refine hs.mono ?_
  rintro e w1 ⟨rfl, l1⟩
  obtain ⟨b0, b1, b2, b3, b4, b5, b6, b7, b8, b9, b10, b11⟩ := (hb1.le l1).th
  obtain ⟨c0, c1, c2, c3, c4, c5, c6, c7, c8, c9, c10, c11⟩ := (hb2.le l1).th
  go_wp2_with fail
  go_ret
  exact ⟨rfl, hl.trans l1⟩

end Go.Proofs.YtkddgpdlpjjpbaaGreat

/-
  THE WALK over choruslaw0's SameThread, where field 10 is the first that differs. Condition: that the threads' rows can be copied.
-/
namespace Go.Proofs.YtkddgpdlpjjpbaaGreat
open Go.RowKit

set_option linter.unusedVariables false in
set_option maxRecDepth 8000 in
set_option maxHeartbeats 8000000 in
theorem sameTh10 (v u : Value) (T S : Th) (w : World) (hx : HasT w v T) (hy : HasT w u S) (hf : T.b.length * 8 ≤ 140737488351232) (hf2 : T.tl.length * 8 ≤ 140737488351232) (e0 : T.st = S.st) (e1 : T.c = S.c) (e2 : T.r = S.r) (e3 : T.a = S.a) (e4 : T.lg = S.lg) (e5 : T.sn = S.sn) (e6 : T.b = S.b) (e7 : T.pl = S.pl) (e8 : T.po = S.po) (e9 : T.re = S.re) (e10 : ¬ T.an = S.an) :
    Calls Tryz.prog 41 #[v, u] w fun e w' => e = .returned (.bool (decide (T = S))) ∧ Le w w' := by
  obtain ⟨q, t, rfl, hq, ht⟩ := hx
  obtain ⟨q', t', rfl, hq', ht'⟩ := hy
  have hl := (Le.alloc w (.cells (cellsT T q t) 63)).trans (Le.alloc _ (.cells (cellsT S q' t') 63))
  have hb1 := (Box.new w (cellsT T q t) 63).le (Le.alloc _ (.cells (cellsT S q' t') 63))
  have hb2 := Box.new (w.alloc (.cells (cellsT T q t) 63)) (cellsT S q' t') 63
  rw [World.size_alloc] at hb2
  obtain ⟨x0, x1, x2, x3, x4, x5, xb, x7, x8, x9, x10, xt⟩ := T
  obtain ⟨y0, y1, y2, y3, y4, y5, yb, y7, y8, y9, y10, yt⟩ := S
  simp only at hq ht hq' ht' hf hf2 e0 e1 e2 e3 e4 e5 e6 e7 e8 e9 e10 ⊢
  have hs := lawSameI _ _ xb yb _ (hq.le hl) (hq'.le hl) hf
  have hs2 := fun w' (l : Le ((w.alloc (.cells (cellsT ⟨x0, x1, x2, x3, x4, x5, xb, x7, x8, x9, x10, xt⟩ q t) 63)).alloc (.cells (cellsT ⟨y0, y1, y2, y3, y4, y5, yb, y7, y8, y9, y10, yt⟩ q' t') 63)) w') => lawSameI _ _ xt yt w' (ht.le (hl.trans l)) (ht'.le (hl.trans l)) hf2
  subst e0
  subst e1
  subst e2
  subst e3
  subst e4
  subst e5
  subst e6
  subst e7
  subst e8
  subst e9
  rw [show decide _ = false from decide_eq_false (fun h => e10 (congrArg Th.an h))]
  simp only [decide_true] at hs
  have hne : (x10 == y10) = false := by simp [e10]
  clear hs2
  clear e10
  go_enter Tryz.func41, Tryz.ntmps41
  go_wp2_with fail
  refine hs.mono ?_
  rintro e w1 ⟨rfl, l1⟩
  obtain ⟨b0, b1, b2, b3, b4, b5, b6, b7, b8, b9, b10, b11⟩ := (hb1.le l1).th
  obtain ⟨c0, c1, c2, c3, c4, c5, c6, c7, c8, c9, c10, c11⟩ := (hb2.le l1).th
  go_wp2_with fail
  go_ret
  exact ⟨rfl, hl.trans l1⟩

end Go.Proofs.YtkddgpdlpjjpbaaGreat

/-
  THE WALK over choruslaw0's SameThread, where field 11 is the first that differs. Condition: that the threads' rows can be copied.
-/
namespace Go.Proofs.YtkddgpdlpjjpbaaGreat
open Go.RowKit

set_option linter.unusedVariables false in
set_option maxRecDepth 8000 in
set_option maxHeartbeats 8000000 in
theorem sameTh11 (v u : Value) (T S : Th) (w : World) (hx : HasT w v T) (hy : HasT w u S) (hf : T.b.length * 8 ≤ 140737488351232) (hf2 : T.tl.length * 8 ≤ 140737488351232) (e0 : T.st = S.st) (e1 : T.c = S.c) (e2 : T.r = S.r) (e3 : T.a = S.a) (e4 : T.lg = S.lg) (e5 : T.sn = S.sn) (e6 : T.b = S.b) (e7 : T.pl = S.pl) (e8 : T.po = S.po) (e9 : T.re = S.re) (e10 : T.an = S.an) (e11 : ¬ T.tl = S.tl) :
    Calls Tryz.prog 41 #[v, u] w fun e w' => e = .returned (.bool (decide (T = S))) ∧ Le w w' := by
  obtain ⟨q, t, rfl, hq, ht⟩ := hx
  obtain ⟨q', t', rfl, hq', ht'⟩ := hy
  have hl := (Le.alloc w (.cells (cellsT T q t) 63)).trans (Le.alloc _ (.cells (cellsT S q' t') 63))
  have hb1 := (Box.new w (cellsT T q t) 63).le (Le.alloc _ (.cells (cellsT S q' t') 63))
  have hb2 := Box.new (w.alloc (.cells (cellsT T q t) 63)) (cellsT S q' t') 63
  rw [World.size_alloc] at hb2
  obtain ⟨x0, x1, x2, x3, x4, x5, xb, x7, x8, x9, x10, xt⟩ := T
  obtain ⟨y0, y1, y2, y3, y4, y5, yb, y7, y8, y9, y10, yt⟩ := S
  simp only at hq ht hq' ht' hf hf2 e0 e1 e2 e3 e4 e5 e6 e7 e8 e9 e10 e11 ⊢
  have hs := lawSameI _ _ xb yb _ (hq.le hl) (hq'.le hl) hf
  have hs2 := fun w' (l : Le ((w.alloc (.cells (cellsT ⟨x0, x1, x2, x3, x4, x5, xb, x7, x8, x9, x10, xt⟩ q t) 63)).alloc (.cells (cellsT ⟨y0, y1, y2, y3, y4, y5, yb, y7, y8, y9, y10, yt⟩ q' t') 63)) w') => lawSameI _ _ xt yt w' (ht.le (hl.trans l)) (ht'.le (hl.trans l)) hf2
  subst e0
  subst e1
  subst e2
  subst e3
  subst e4
  subst e5
  subst e6
  subst e7
  subst e8
  subst e9
  subst e10
  rw [show decide _ = false from decide_eq_false (fun h => e11 (congrArg Th.tl h))]
  simp only [decide_true] at hs
  simp only [decide_eq_false e11] at hs2
  clear e11
  go_enter Tryz.func41, Tryz.ntmps41
  go_wp2_with fail
  refine hs.mono ?_
  rintro e w1 ⟨rfl, l1⟩
  obtain ⟨b0, b1, b2, b3, b4, b5, b6, b7, b8, b9, b10, b11⟩ := (hb1.le l1).th
  obtain ⟨c0, c1, c2, c3, c4, c5, c6, c7, c8, c9, c10, c11⟩ := (hb2.le l1).th
  go_wp2_with fail
  refine (hs2 _ l1).mono ?_
  rintro e w2 ⟨rfl, l2⟩
  go_wp2_with fail
  go_ret
  exact ⟨rfl, (hl.trans l1).trans l2⟩

end Go.Proofs.YtkddgpdlpjjpbaaGreat

/-
  THE WALK over choruslaw0's SameThread, where they are the same. Condition: that the threads' rows can be copied.
-/
namespace Go.Proofs.YtkddgpdlpjjpbaaGreat
open Go.RowKit

set_option linter.unusedVariables false in
set_option maxRecDepth 8000 in
set_option maxHeartbeats 8000000 in
theorem sameTh12 (v u : Value) (T S : Th) (w : World) (hx : HasT w v T) (hy : HasT w u S) (hf : T.b.length * 8 ≤ 140737488351232) (hf2 : T.tl.length * 8 ≤ 140737488351232) (e0 : T.st = S.st) (e1 : T.c = S.c) (e2 : T.r = S.r) (e3 : T.a = S.a) (e4 : T.lg = S.lg) (e5 : T.sn = S.sn) (e6 : T.b = S.b) (e7 : T.pl = S.pl) (e8 : T.po = S.po) (e9 : T.re = S.re) (e10 : T.an = S.an) (e11 : T.tl = S.tl) :
    Calls Tryz.prog 41 #[v, u] w fun e w' => e = .returned (.bool (decide (T = S))) ∧ Le w w' := by
  obtain ⟨q, t, rfl, hq, ht⟩ := hx
  obtain ⟨q', t', rfl, hq', ht'⟩ := hy
  have hl := (Le.alloc w (.cells (cellsT T q t) 63)).trans (Le.alloc _ (.cells (cellsT S q' t') 63))
  have hb1 := (Box.new w (cellsT T q t) 63).le (Le.alloc _ (.cells (cellsT S q' t') 63))
  have hb2 := Box.new (w.alloc (.cells (cellsT T q t) 63)) (cellsT S q' t') 63
  rw [World.size_alloc] at hb2
  obtain ⟨x0, x1, x2, x3, x4, x5, xb, x7, x8, x9, x10, xt⟩ := T
  obtain ⟨y0, y1, y2, y3, y4, y5, yb, y7, y8, y9, y10, yt⟩ := S
  simp only at hq ht hq' ht' hf hf2 e0 e1 e2 e3 e4 e5 e6 e7 e8 e9 e10 e11 ⊢
  have hs := lawSameI _ _ xb yb _ (hq.le hl) (hq'.le hl) hf
  have hs2 := fun w' (l : Le ((w.alloc (.cells (cellsT ⟨x0, x1, x2, x3, x4, x5, xb, x7, x8, x9, x10, xt⟩ q t) 63)).alloc (.cells (cellsT ⟨y0, y1, y2, y3, y4, y5, yb, y7, y8, y9, y10, yt⟩ q' t') 63)) w') => lawSameI _ _ xt yt w' (ht.le (hl.trans l)) (ht'.le (hl.trans l)) hf2
  subst e0
  subst e1
  subst e2
  subst e3
  subst e4
  subst e5
  subst e6
  subst e7
  subst e8
  subst e9
  subst e10
  subst e11
  simp only [decide_true] at hs hs2 ⊢
  go_enter Tryz.func41, Tryz.ntmps41
  go_wp2_with fail
  refine hs.mono ?_
  rintro e w1 ⟨rfl, l1⟩
  obtain ⟨b0, b1, b2, b3, b4, b5, b6, b7, b8, b9, b10, b11⟩ := (hb1.le l1).th
  obtain ⟨c0, c1, c2, c3, c4, c5, c6, c7, c8, c9, c10, c11⟩ := (hb2.le l1).th
  go_wp2_with fail
  refine (hs2 _ l1).mono ?_
  rintro e w2 ⟨rfl, l2⟩
  go_wp2_with fail
  go_ret
  exact ⟨rfl, (hl.trans l1).trans l2⟩

end Go.Proofs.YtkddgpdlpjjpbaaGreat

/-
  THE LAW of choruslaw0's SameThread: whether two threads are the same, for all threads: its walks laid together. Condition: that their rows can be copied.
-/
namespace Go.Proofs.YtkddgpdlpjjpbaaGreat
open Go.RowKit

theorem lawSameThread (v u : Value) (T S : Th) (w : World) (hx : HasT w v T) (hy : HasT w u S) (hf : T.b.length * 8 ≤ 140737488351232) (hf2 : T.tl.length * 8 ≤ 140737488351232) :
    Calls Tryz.prog 41 #[v, u] w fun e w' => e = .returned (.bool (decide (T = S))) ∧ Le w w' := by
  by_cases e0 : T.st = S.st
  case neg => exact sameTh0 v u T S w hx hy hf hf2 e0
  by_cases e1 : T.c = S.c
  case neg => exact sameTh1 v u T S w hx hy hf hf2 e0 e1
  by_cases e2 : T.r = S.r
  case neg => exact sameTh2 v u T S w hx hy hf hf2 e0 e1 e2
  by_cases e3 : T.a = S.a
  case neg => exact sameTh3 v u T S w hx hy hf hf2 e0 e1 e2 e3
  by_cases e4 : T.lg = S.lg
  case neg => exact sameTh4 v u T S w hx hy hf hf2 e0 e1 e2 e3 e4
  by_cases e5 : T.sn = S.sn
  case neg => exact sameTh5 v u T S w hx hy hf hf2 e0 e1 e2 e3 e4 e5
  by_cases e6 : T.b = S.b
  case neg => exact sameTh6 v u T S w hx hy hf hf2 e0 e1 e2 e3 e4 e5 e6
  by_cases e7 : T.pl = S.pl
  case neg => exact sameTh7 v u T S w hx hy hf hf2 e0 e1 e2 e3 e4 e5 e6 e7
  by_cases e8 : T.po = S.po
  case neg => exact sameTh8 v u T S w hx hy hf hf2 e0 e1 e2 e3 e4 e5 e6 e7 e8
  by_cases e9 : T.re = S.re
  case neg => exact sameTh9 v u T S w hx hy hf hf2 e0 e1 e2 e3 e4 e5 e6 e7 e8 e9
  by_cases e10 : T.an = S.an
  case neg => exact sameTh10 v u T S w hx hy hf hf2 e0 e1 e2 e3 e4 e5 e6 e7 e8 e9 e10
  by_cases e11 : T.tl = S.tl
  case neg => exact sameTh11 v u T S w hx hy hf hf2 e0 e1 e2 e3 e4 e5 e6 e7 e8 e9 e10 e11
  exact sameTh12 v u T S w hx hy hf hf2 e0 e1 e2 e3 e4 e5 e6 e7 e8 e9 e10 e11

end Go.Proofs.YtkddgpdlpjjpbaaGreat

/-
  THE WALK over choruslaw0's SameMachine: whether two machines are the same, for all machines. Condition: that the first one's rows can be copied.
-/
namespace Go.Proofs.YtkddgpdlpjjpbaaGreat
open Go.RowKit

theorem cell_later {w : World} {p : Addr} {v : Value} (h : w.cell? p = some v) : ∀ X : Later w, X.w.cell? p = some v := fun X => cell_le h X.le
theorem RingAt.later {w : World} {b off : Nat} {R : Rg} {q : Sl} (h : RingAt w b off R q) :
    (∀ X : Later w, X.w.cell? ⟨b, off, none⟩ = some (.int .i64 R.h)) ∧ (∀ X : Later w, X.w.cell? ⟨b, off + 1, none⟩ = some (.int .i64 R.t)) ∧ (∀ X : Later w, X.w.cell? ⟨b, off + 2, none⟩ = some (.int .i64 R.f)) ∧ (∀ X : Later w, X.w.cell? ⟨b, off + 3, none⟩ = some (slV q)) :=
  ⟨cell_later h.1, cell_later h.2.1, cell_later h.2.2.1, cell_later h.2.2.2⟩
theorem ThAt.later {w : World} {b off : Nat} {T : Th} {q t : Sl} (h : ThAt w b off T q t) :
    (∀ X : Later w, X.w.cell? ⟨b, off, none⟩ = some (.int .i64 T.st)) ∧ (∀ X : Later w, X.w.cell? ⟨b, off + 1, none⟩ = some (.int .i64 T.c)) ∧ (∀ X : Later w, X.w.cell? ⟨b, off + 2, none⟩ = some (.int .i64 T.r)) ∧ (∀ X : Later w, X.w.cell? ⟨b, off + 3, none⟩ = some (.int .i64 T.a)) ∧
    (∀ X : Later w, X.w.cell? ⟨b, off + 4, none⟩ = some (.int .i64 T.lg)) ∧ (∀ X : Later w, X.w.cell? ⟨b, off + 5, none⟩ = some (.int .i64 T.sn)) ∧ (∀ X : Later w, X.w.cell? ⟨b, off + 6, none⟩ = some (slV q)) ∧ (∀ X : Later w, X.w.cell? ⟨b, off + 7, none⟩ = some (.int .i64 T.pl)) ∧
    (∀ X : Later w, X.w.cell? ⟨b, off + 8, none⟩ = some (.bool T.po)) ∧ (∀ X : Later w, X.w.cell? ⟨b, off + 9, none⟩ = some (.bool T.re)) ∧ (∀ X : Later w, X.w.cell? ⟨b, off + 10, none⟩ = some (.int .i64 T.an)) ∧ (∀ X : Later w, X.w.cell? ⟨b, off + 11, none⟩ = some (slV t)) := by
  obtain ⟨h0, h1, h2, h3, h4, h5, h6, h7, h8, h9, h10, h11⟩ := h
  exact ⟨cell_later h0, cell_later h1, cell_later h2, cell_later h3, cell_later h4, cell_later h5, cell_later h6, cell_later h7, cell_later h8, cell_later h9, cell_later h10, cell_later h11⟩

theorem cfg_ne {x y : Cfg} (h : ¬ x = y) : (x.o == y.o) = false ∨ ((x.o == y.o) = true ∧ (x.r == y.r) = false) ∨ ((x.o == y.o) = true ∧ (x.r == y.r) = true ∧ (x.l == y.l) = false) ∨ ((x.o == y.o) = true ∧ (x.r == y.r) = true ∧ (x.l == y.l) = true ∧ (x.t == y.t) = false) ∨ ((x.o == y.o) = true ∧ (x.r == y.r) = true ∧ (x.l == y.l) = true ∧ (x.t == y.t) = true ∧ (x.s == y.s) = false) := by
  cases e0 : x.o == y.o
  · exact .inl rfl
  cases e1 : x.r == y.r
  · exact .inr (.inl ⟨rfl, rfl⟩)
  cases e2 : x.l == y.l
  · exact .inr (.inr (.inl ⟨rfl, rfl, rfl⟩))
  cases e3 : x.t == y.t
  · exact .inr (.inr (.inr (.inl ⟨rfl, rfl, rfl, rfl⟩)))
  cases e4 : x.s == y.s
  · exact .inr (.inr (.inr (.inr ⟨rfl, rfl, rfl, rfl, rfl⟩)))
  exfalso
  obtain ⟨_, _, _, _, _⟩ := x
  obtain ⟨_, _, _, _, _⟩ := y
  simp at e0 e1 e2 e3 e4
  subst e0 e1 e2 e3 e4
  exact h rfl

/-- What stands in the world behind the two machines' boxes. -/
structure Two9 (W : World) (g : Nat) (c c' : Cfg) (qR qP qT qH qR' qP' qT' qH' : Sl) : Prop where
  b1 : Box W g (cells9 c qR qP qT qH) 29
  b2 : Box W (g + 1) (cells9 c' qR' qP' qT' qH') 29
theorem Two9.le {W W' : World} {g : Nat} {c c' : Cfg} {qR qP qT qH qR' qP' qT' qH' : Sl} (h : Two9 W g c c' qR qP qT qH qR' qP' qT' qH') (l : Le W W') : Two9 W' g c c' qR qP qT qH qR' qP' qT' qH' := ⟨h.b1.le l, h.b2.le l⟩

set_option maxRecDepth 4000 in
set_option maxHeartbeats 8000000 in
theorem lawSameMachineNo (v u : Value) (M N : Mc) (w : World) (hx : HasM w v M) (hy : HasM w u N) (hf : FitM M) (hne : ¬ (M.c = N.c ∧ M.rs.length = N.rs.length ∧ M.ps.length = N.ps.length ∧ M.ts.length = N.ts.length ∧ M.es = N.es)) :
    Calls Tryz.prog 14 #[v, u] w fun e w' => e = .returned (.bool false) ∧ Le w w' := by
  obtain ⟨c, Rs, Ps, Ts, Es⟩ := M
  obtain ⟨c', Rs', Ps', Ts', Es'⟩ := N
  obtain ⟨⟨aR, nR, cR⟩, ⟨aP, nP, cP⟩, ⟨aT, nT, cT⟩, qH, rfl, hR, hP, hT, hH⟩ := hx
  obtain ⟨⟨aR', nR', cR'⟩, ⟨aP', nP', cP'⟩, ⟨aT', nT', cT'⟩, qH', rfl, hR', hP', hT', hH'⟩ := hy
  have f4 := hf.es
  simp only at hR hP hT hH hR' hP' hT' hH' hne f4 ⊢
  have l1 := hR.len
  have l2 := hP.len
  have l3 := hT.len
  have l1' := hR'.len
  have l2' := hP'.len
  have l3' := hT'.len
  simp only at l1 l2 l3 l1' l2' l3'
  rw [← l1, ← l2, ← l3, ← l1', ← l2', ← l3'] at hne
  clear l1 l2 l3 l1' l2' l3' hR hP hT hR' hP' hT' hf
  have hl := (Le.alloc w (.cells (cells9 c (aR, nR, cR) (aP, nP, cP) (aT, nT, cT) qH) 29)).trans (Le.alloc _ (.cells (cells9 c' (aR', nR', cR') (aP', nP', cP') (aT', nT', cT') qH') 29))
  have hev := lawSameEvents _ _ Es Es' _ (hH.le hl) (hH'.le hl) (by omega)
  clear hH hH' f4
  by_cases ec : c = c'
  · subst ec
    by_cases e1 : nR = nR'
    · subst e1
      by_cases e2 : nP = nP'
      · subst e2
        by_cases e3 : nT = nT'
        · subst e3
          have e4 : ¬ Es = Es' := fun h => hne ⟨rfl, rfl, rfl, rfl, h⟩
          rw [decide_eq_false e4] at hev
          clear hne e4
          go_enter Tryz.func14, Tryz.ntmps14
          go_wp2_with fail
          refine hev.mono ?_
          rintro e w1 ⟨rfl, m1⟩
          go_wp2_with fail
          go_ret
          exact ⟨rfl, hl.trans m1⟩
        · have hn : ((nT : Int) != (nT' : Int)) = true := by simp; omega
          clear hne e3 hev
          go_enter Tryz.func14, Tryz.ntmps14
          go_wp2_with fail
          go_ret
          exact ⟨rfl, hl⟩
      · have hn : ((nP : Int) != (nP' : Int)) = true := by simp; omega
        clear hne e2 hev
        go_enter Tryz.func14, Tryz.ntmps14
        go_wp2_with fail
        go_ret
        exact ⟨rfl, hl⟩
    · have hn : ((nR : Int) != (nR' : Int)) = true := by simp; omega
      clear hne e1 hev
      go_enter Tryz.func14, Tryz.ntmps14
      go_wp2_with fail
      go_ret
      exact ⟨rfl, hl⟩
  · rcases cfg_ne ec with e0 | ⟨e0, e1⟩ | ⟨e0, e1, e2⟩ | ⟨e0, e1, e2, e3⟩ | ⟨e0, e1, e2, e3, e4⟩
    all_goals
      clear hne ec hev
      go_enter Tryz.func14, Tryz.ntmps14
      go_wp2_with fail
      go_ret
      exact ⟨rfl, hl⟩

end Go.Proofs.YtkddgpdlpjjpbaaGreat

/-
  THE WALK over choruslaw0's SameMachine, the rest of it: machines whose Configs, numbers of parts and histories are the same. Condition: that the first one's rows can be copied.
-/
namespace Go.Proofs.YtkddgpdlpjjpbaaGreat
open Go.RowKit

abbrev cellsP (vs : Nat → Sl) (c l : Sl) : Array Value := #[slV (vs 0), slV (vs 1), slV (vs 2), slV (vs 3), slV c, slV l]
theorem Box.rep {w : World} {g : Nat} {vs : Nat → Sl} {c l : Sl} {ty : TypeId} (h : Box w g (cellsP vs c l) ty) :
    w.cell? ⟨g, 0, none⟩ = some (slV (vs 0)) ∧ w.cell? ⟨g, 1, none⟩ = some (slV (vs 1)) ∧ w.cell? ⟨g, 2, none⟩ = some (slV (vs 2)) ∧ w.cell? ⟨g, 3, none⟩ = some (slV (vs 3)) ∧ w.cell? ⟨g, 4, none⟩ = some (slV c) ∧ w.cell? ⟨g, 5, none⟩ = some (slV l) :=
  ⟨h.cell 0, h.cell 1, h.cell 2, h.cell 3, h.cell 4, h.cell 5⟩
theorem rp_eq {P S : Rp} : decide (P = S) = (decide (P.s = S.s) && decide (P.cs = S.cs) && decide (P.ls = S.ls)) := by
  obtain ⟨_, _, _⟩ := P
  obtain ⟨_, _, _⟩ := S
  simp [Bool.and_assoc]
theorem eq_of_takes {α : Type} {xs ys : List α} {n : Nat} (h1 : xs.length = n) (h2 : ys.length = n) (h : xs.take n = ys.take n) : xs = ys := by
  rw [List.take_of_length_le (by omega), List.take_of_length_le (by omega)] at h
  exact h

theorem two_boxes (w : World) (xs ys : Array Value) (t : TypeId) : Box ((w.alloc (.cells xs t)).alloc (.cells ys t)).drew w.heap.size xs t ∧ Box ((w.alloc (.cells xs t)).alloc (.cells ys t)).drew (w.heap.size + 1) ys t ∧ Le w ((w.alloc (.cells xs t)).alloc (.cells ys t)).drew := by
  refine ⟨((Box.new w xs t).le (Le.alloc _ _)).le (Le.drew _), ?_, ((Le.alloc _ _).trans (Le.alloc _ _)).trans (Le.drew _)⟩
  have := (Box.new (w.alloc (.cells xs t)) ys t).le (Le.drew _)
  rw [World.size_alloc] at this
  exact this

set_option maxRecDepth 4000 in
set_option maxHeartbeats 16000000 in
theorem lawSameMachineYes (v u : Value) (M N : Mc) (w : World) (hx : HasM w v M) (hy : HasM w u N) (hf : FitM M) (hc : M.c = N.c) (h1 : M.rs.length = N.rs.length) (h2 : M.ps.length = N.ps.length) (h3 : M.ts.length = N.ts.length) (h4 : M.es = N.es) :
    Calls Tryz.prog 14 #[v, u] w fun e w' => e = .returned (.bool (decide (M = N))) ∧ Le w w' := by
  obtain ⟨c, Rs, Ps, Ts, Es⟩ := M
  obtain ⟨c', Rs', Ps', Ts', Es'⟩ := N
  simp only at hc h1 h2 h3 h4
  subst hc h4
  obtain ⟨⟨aR, nR, cR⟩, ⟨aP, nP, cP⟩, ⟨aT, nT, cT⟩, qH, rfl, hR, hP, hT, hH⟩ := hx
  obtain ⟨⟨aR', nR', cR'⟩, ⟨aP', nP', cP'⟩, ⟨aT', nT', cT'⟩, qH', rfl, hR', hP', hT', hH'⟩ := hy
  obtain ⟨f1, f2, f3, f4, fr, fp, ft⟩ := hf
  simp only at hR hP hT hH hR' hP' hT' hH' f1 f2 f3 f4 fr fp ft
  obtain ⟨a, n, hv, nc, _, oR⟩ := hR.open
  simp only [slV, Value.slice.injEq] at hv
  obtain ⟨rfl, rfl, rfl⟩ := hv
  obtain ⟨a, n, hv, nc', _, oR'⟩ := hR'.open
  simp only [slV, Value.slice.injEq] at hv
  obtain ⟨rfl, rfl, rfl⟩ := hv
  obtain ⟨a, n, hv, pc, _, oP⟩ := hP.open
  simp only [slV, Value.slice.injEq] at hv
  obtain ⟨rfl, rfl, rfl⟩ := hv
  obtain ⟨a, n, hv, pc', _, oP'⟩ := hP'.open
  simp only [slV, Value.slice.injEq] at hv
  obtain ⟨rfl, rfl, rfl⟩ := hv
  obtain ⟨a, n, hv, tc, _, oT⟩ := hT.open
  simp only [slV, Value.slice.injEq] at hv
  obtain ⟨rfl, rfl, rfl⟩ := hv
  obtain ⟨a, n, hv, tc', _, oT'⟩ := hT'.open
  simp only [slV, Value.slice.injEq] at hv
  obtain ⟨rfl, rfl, rfl⟩ := hv
  rw [← h1] at nc' oR' ⊢
  rw [← h2] at pc' oP' ⊢
  rw [← h3] at tc' oT' ⊢
  have HR' : Hid (Rs'.length = Rs.length) := h1.symm
  have HP' : Hid (Ps'.length = Ps.length) := h2.symm
  have HT' : Hid (Ts'.length = Ts.length) := h3.symm
  have HD : Hid (∀ b, (Rs = Rs' ∧ Ps = Ps' ∧ Ts = Ts' ↔ b = true) → decide ((⟨c, Rs, Ps, Ts, Es⟩ : Mc) = ⟨c, Rs', Ps', Ts', Es⟩) = b) := fun b hb => by
    rw [Bool.eq_iff_iff, ← hb]; simp
  clear h1 h2 h3 hR hR' hP hP' hT hT'
  obtain ⟨nR, hnR⟩ : ∃ n, n = Rs.length := ⟨_, rfl⟩
  obtain ⟨nP, hnP⟩ : ∃ n, n = Ps.length := ⟨_, rfl⟩
  obtain ⟨nT, hnT⟩ : ∃ n, n = Ts.length := ⟨_, rfl⟩
  have HR : Hid (nR = Rs.length) := hnR
  have HP : Hid (nP = Ps.length) := hnP
  have HT : Hid (nT = Ts.length) := hnT
  rw [← hnR] at nc nc' oR oR' f1 ⊢
  rw [← hnP] at pc pc' oP oP' f2 ⊢
  rw [← hnT] at tc tc' oT oT' f3 ⊢
  clear hnR hnP hnT
  have hl := (Le.alloc w (.cells (cells9 c (aR, nR, cR) (aP, nP, cP) (aT, nT, cT) qH) 29)).trans (Le.alloc _ (.cells (cells9 c (aR', nR, cR') (aP', nP, cP') (aT', nT, cT') qH') 29))
  have hb1 := (Box.new w (cells9 c (aR, nR, cR) (aP, nP, cP) (aT, nT, cT) qH) 29).le (Le.alloc _ (.cells (cells9 c (aR', nR, cR') (aP', nP, cP') (aT', nT, cT') qH') 29))
  have hb2 := Box.new (w.alloc (.cells (cells9 c (aR, nR, cR) (aP, nP, cP) (aT, nT, cT) qH) 29)) (cells9 c (aR', nR, cR') (aP', nP, cP') (aT', nT, cT') qH') 29
  rw [World.size_alloc] at hb2
  have hev := lawSameEvents _ _ Es Es _ (hH.le hl) (hH'.le hl) (by omega)
  rw [decide_eq_true rfl] at hev
  clear hH hH' f4
  go_enter Tryz.func14, Tryz.ntmps14
  go_wp2_with fail
  refine hev.mono ?_
  rintro e w1 ⟨rfl, m1⟩
  clear hev
  replace hl := hl.trans m1
  replace hb1 := hb1.le m1
  replace hb2 := hb2.le m1
  clear m1
  obtain ⟨_, z5, z6, z7, _⟩ := hb1.mach
  obtain ⟨_, y5, y6, y7, _⟩ := hb2.mach
  simp only [slV] at z5 z6 z7 y5 y6 y7
  go_wp2_with fail
  go_loopw [5] (fun i wr => ∃ k : Nat, k ≤ nR ∧ i = .int .i64 k ∧ Hid (Rs.take k = Rs'.take k) ∧ Le w1 wr) (fun i _ => nR - (intOf i).toNat)
  case atStart => exact ⟨0, Nat.zero_le _, rfl, rfl, Le.refl _⟩
  case round =>
    obtain ⟨k, hk, rfl, HA, hle⟩ := hrel
    by_cases hlt : k < nR
    · obtain ⟨b, off, rfl, oRk⟩ := oR (by omega)
      obtain ⟨b', off', rfl, oRk'⟩ := oR' (by omega)
      obtain ⟨q, rA, hq⟩ := oRk k hlt
      obtain ⟨q', rA', hq'⟩ := oRk' k hlt
      obtain ⟨R, hRk⟩ : ∃ R, R = Rs.getD k Rg.zero := ⟨_, rfl⟩
      obtain ⟨R', hRk'⟩ : ∃ R, R = Rs'.getD k Rg.zero := ⟨_, rfl⟩
      have HX : Hid (R = Rs.getD k Rg.zero) := hRk
      have HX' : Hid (R' = Rs'.getD k Rg.zero) := hRk'
      rw [← hRk] at rA hq
      rw [← hRk'] at rA' hq'
      have hfR : FitR R := by rw [hRk]; exact fr _ (getD_mem (by have := HR.out; omega))
      clear hRk hRk' oR oR' oRk oRk' oP oP' oT oT'
      replace hq := (hq.le hl).le hle
      replace hq' := (hq'.le hl).le hle
      obtain ⟨x0, x1, x2, x3⟩ := ((rA.le hl).le hle).later
      obtain ⟨x0', x1', x2', x3'⟩ := ((rA'.le hl).le hle).later
      replace z5 := cell_le z5 hle
      have u5 := cell_later z5
      have u5' := cell_later (cell_le y5 hle)
      have hlt' : (k : Int) < (nR : Int) := by omega
      have hk0 : (0 : Int) ≤ (k : Int) := by omega
      have hs := fun X : Later wr => lawSameRing (ringV R.h R.t R.f q) (ringV R'.h R'.t R'.f q') R R' X.w ⟨q, rfl, hq.le X.le⟩ ⟨q', rfl, hq'.le X.le⟩ hfR
      clear rA rA' hq hq' z6 z7 y5 y6 y7 fr fp ft hfR
      by_cases hRR : R = R'
      · simp only [decide_eq_true hRR] at hs
        have HRR : Hid (R = R') := hRR
        clear hRR
        go_wp2_with fail
        refine wp_region_later (by kernel_rfl) (by kernel_rfl) ?_
        repeat (go_big_quiet_step (first | (go_at_call 39; with_reducible exact Calls.later (hs _))))
        refine wpQuiet_nil ?_
        rintro _ ⟨x, rfl⟩
        go_wp2_with fail
        go_roundw
        case rel => exact ⟨k + 1, by omega, by go_num, take_sameE (d := Rg.zero) (by have := HR.out; omega) (by have := HR.out; have := HR'.out; omega) HA.out (by rw [← HX.out, ← HX'.out]; exact HRR.out), hle.trans x.le⟩
        case measure => simp [intOf]; omega
      · simp only [decide_eq_false hRR] at hs
        have HRR : Hid (¬ R = R') := hRR
        clear hRR
        go_wp2_with fail
        refine wp_region_later (by kernel_rfl) (by kernel_rfl) ?_
        repeat (go_big_quiet_step (first | (go_at_call 39; with_reducible exact Calls.later (hs _))))
        refine wpQuiet_nil ?_
        rintro _ ⟨x, rfl⟩
        go_wp2_with fail
        go_ret
        refine ⟨ret_bool (HD.out false ?_).symm, (hl.trans hle).trans x.le⟩
        have hn := ne_of_atE (k := k) (d := Rg.zero) (xs := Rs) (ys := Rs') (by rw [← HX.out, ← HX'.out]; exact HRR.out)
        exact ⟨fun h => absurd h.1 hn, fun h => by cases h⟩
    · have HRs : Hid (Rs = Rs') := by
        have e : k = nR := by omega
        subst e
        exact eq_of_takes HR.out.symm (HR'.out.trans HR.out.symm) HA.out
      clear HA oR oR' y5 fr
      replace hl := hl.trans hle
      replace z5 := cell_le z5 hle
      replace z6 := cell_le z6 hle
      replace z7 := cell_le z7 hle
      replace y6 := cell_le y6 hle
      replace y7 := cell_le y7 hle
      clear hle hb1 hb2
      go_wp2_with fail
      go_loopw [6] (fun i wq => ∃ k : Nat, k ≤ nP ∧ i = .int .i64 k ∧ Hid (Ps.take k = Ps'.take k) ∧ Le wr wq) (fun i _ => nP - (intOf i).toNat)
      case atStart => exact ⟨0, Nat.zero_le _, rfl, rfl, Le.refl _⟩
      case round =>
        obtain ⟨j, hj, rfl, HA, hle⟩ := hrel
        by_cases hlt2 : j < nP
        · obtain ⟨b, off, rfl, oPk⟩ := oP (by omega)
          obtain ⟨b', off', rfl, oPk'⟩ := oP' (by omega)
          obtain ⟨vs, qc, ql, rA, hq0, hq1, hq2⟩ := oPk j hlt2
          obtain ⟨vs', qc', ql', rA', hq0', hq1', hq2'⟩ := oPk' j hlt2
          obtain ⟨P, hPk⟩ : ∃ R, R = Ps.getD j Rp.zero := ⟨_, rfl⟩
          obtain ⟨P', hPk'⟩ : ∃ R, R = Ps'.getD j Rp.zero := ⟨_, rfl⟩
          have HX : Hid (P = Ps.getD j Rp.zero) := hPk
          have HX' : Hid (P' = Ps'.getD j Rp.zero) := hPk'
          rw [← hPk] at hq0 hq1 hq2
          rw [← hPk'] at hq0' hq1' hq2'
          obtain ⟨g0, g1, g2⟩ : Fit P.s ∧ P.cs.length * 8 ≤ 140737488351232 ∧ P.ls.length * 8 ≤ 140737488351232 := by rw [hPk]; exact fp _ (getD_mem (by have := HP.out; omega))
          clear hPk hPk' oP oP' oPk oPk' oT oT'
          have hlw := hl.trans hle
          have HS : HasS wr (stV vs) P.s := ⟨vs, rfl, fun i hi => (hq0 i hi).le hlw⟩
          have HS' : HasS wr (stV vs') P'.s := ⟨vs', rfl, fun i hi => (hq0' i hi).le hlw⟩
          replace hq1 := hq1.le hlw
          replace hq1' := hq1'.le hlw
          replace hq2 := hq2.le hlw
          replace hq2' := hq2'.le hlw
          obtain ⟨x0, x1, x2, x3, x4, x5⟩ := rA.le hlw
          obtain ⟨x0', x1', x2', x3', x4', x5'⟩ := rA'.le hlw
          replace z6 := cell_le z6 hle
          replace y6 := cell_le y6 hle
          have hlt' : (j : Int) < (nP : Int) := by omega
          have hj0 : (0 : Int) ≤ (j : Int) := by omega
          clear rA rA' z5 z7 y7 fp ft hq0 hq0'
          have n1 := World.new_ne wr _ z6
          have n2 := World.new_ne wr _ y6
          have n3 := World.new_ne wr _ x0
          have n4 := World.new_ne wr _ x0'
          simp only at n1 n2 n3 n4
          go_upto_region 11 with fail
          go_cut [7, 8] from 76 to 107 (fun s7 s8 wc => ∃ ga gb, s7 = .pointer (some ⟨ga, 0, none⟩) ∧ s8 = .pointer (some ⟨gb, 0, none⟩) ∧ Box wc ga (cellsP vs qc ql) 73 ∧ Box wc gb (cellsP vs' qc' ql') 73 ∧ Le wr wc)
          case first =>
            go_region_held3 (fun w' => w'.cell? ⟨w.heap.size, 6, none⟩ = some (.slice (some ⟨b, off, none⟩) nP cP) ∧ w'.cell? ⟨w.heap.size + 1, 6, none⟩ = some (.slice (some ⟨b', off', none⟩) nP cP') ∧ w'.cell? ⟨b, off + j * 6, none⟩ = some (slV (vs 0)) ∧ w'.cell? ⟨b, off + j * 6 + 1, none⟩ = some (slV (vs 1)) ∧ w'.cell? ⟨b, off + j * 6 + 2, none⟩ = some (slV (vs 2)) ∧ w'.cell? ⟨b, off + j * 6 + 3, none⟩ = some (slV (vs 3)) ∧ w'.cell? ⟨b, off + j * 6 + 4, none⟩ = some (slV qc) ∧ w'.cell? ⟨b, off + j * 6 + 5, none⟩ = some (slV ql) ∧ w'.cell? ⟨b', off' + j * 6, none⟩ = some (slV (vs' 0)) ∧ w'.cell? ⟨b', off' + j * 6 + 1, none⟩ = some (slV (vs' 1)) ∧ w'.cell? ⟨b', off' + j * 6 + 2, none⟩ = some (slV (vs' 2)) ∧ w'.cell? ⟨b', off' + j * 6 + 3, none⟩ = some (slV (vs' 3)) ∧ w'.cell? ⟨b', off' + j * 6 + 4, none⟩ = some (slV qc') ∧ w'.cell? ⟨b', off' + j * 6 + 5, none⟩ = some (slV ql')) (go_keep) (fail)
            all_goals
              go_wp2_with fail
              go_meet
              case rel => first | exact ⟨_, _, rfl, rfl, (two_boxes wr _ _ _).1, (two_boxes wr _ _ _).2.1, (two_boxes wr _ _ _).2.2⟩ | exact ⟨_, _, rfl, rfl, (two_boxes wr _ _ _).2.1, (two_boxes wr _ _ _).1, (two_boxes wr _ _ _).2.2⟩
          case rest =>
            obtain ⟨ga, gb, rfl, rfl, ba, bb, lc⟩ := hcut
            clear x0 x1 x2 x3 x4 x5 x0' x1' x2' x3' x4' x5' n1 n2 n3 n4 z6 y6
            have s1 := lawSameState (stV vs) (stV vs') P.s P'.s wc (HS.le lc) (HS'.le lc) g0
            have s2 := fun w' (l : Le wr w') => lawSameI _ _ P.cs P'.cs w' (hq1.le l) (hq1'.le l) g1
            have s3 := fun w' (l : Le wr w') => lawSameI _ _ P.ls P'.ls w' (hq2.le l) (hq2'.le l) g2
            have HW : Hid (¬ P = P' → decide ((⟨c, Rs, Ps, Ts, Es⟩ : Mc) = ⟨c, Rs', Ps', Ts', Es⟩) = false) := fun hn => HD.out false ⟨fun h => absurd h.2.1 (ne_of_atE (k := j) (d := Rp.zero) (by rw [← HX.out, ← HX'.out]; exact hn)), fun h => by cases h⟩
            obtain ⟨t0, t1, t2, t3, t4, t5⟩ := ba.rep
            obtain ⟨r0, r1, r2, r3, r4, r5⟩ := bb.rep
            by_cases d1 : P.s = P'.s
            · rw [decide_eq_true d1] at s1
              by_cases d2 : P.cs = P'.cs
              · simp only [decide_eq_true d2] at s2
                by_cases d3 : P.ls = P'.ls
                · simp only [decide_eq_true d3] at s3
                  have HPP : Hid (P = P') := by
                    obtain ⟨_, _, _⟩ := P
                    obtain ⟨_, _, _⟩ := P'
                    simp only at d1 d2 d3
                    subst d1 d2 d3
                    rfl
                  clear d1 d2 d3
                  go_wp2_with fail
                  refine s1.mono ?_
                  rintro e wd ⟨rfl, ld⟩
                  obtain ⟨t0', t1', t2', t3', t4', t5'⟩ := (ba.le ld).rep
                  obtain ⟨r0', r1', r2', r3', r4', r5'⟩ := (bb.le ld).rep
                  go_wp2_with fail
                  refine (s2 _ (lc.trans ld)).mono ?_
                  rintro e we ⟨rfl, le'⟩
                  obtain ⟨_, _, _, _, _, t6⟩ := ((ba.le ld).le le').rep
                  obtain ⟨_, _, _, _, _, r6⟩ := ((bb.le ld).le le').rep
                  go_wp2_with fail
                  refine (s3 _ ((lc.trans ld).trans le')).mono ?_
                  rintro e wf ⟨rfl, lf⟩
                  go_wp2_with fail
                  go_roundw
                  case rel => exact ⟨j + 1, by omega, by go_num, take_sameE (d := Rp.zero) (by have := HP.out; omega) (by have := HP.out; have := HP'.out; omega) HA.out (by rw [← HX.out, ← HX'.out]; exact HPP.out), (((hle.trans lc).trans ld).trans le').trans lf⟩
                  case measure => simp [intOf]; omega
                · simp only [decide_eq_false d3] at s3
                  have HN : Hid (decide ((⟨c, Rs, Ps, Ts, Es⟩ : Mc) = ⟨c, Rs', Ps', Ts', Es⟩) = false) := HW.out (fun h => d3 (by rw [h]))
                  clear d1 d2 d3
                  go_wp2_with fail
                  refine s1.mono ?_
                  rintro e wd ⟨rfl, ld⟩
                  obtain ⟨t0', t1', t2', t3', t4', t5'⟩ := (ba.le ld).rep
                  obtain ⟨r0', r1', r2', r3', r4', r5'⟩ := (bb.le ld).rep
                  go_wp2_with fail
                  refine (s2 _ (lc.trans ld)).mono ?_
                  rintro e we ⟨rfl, le'⟩
                  obtain ⟨_, _, _, _, _, t6⟩ := ((ba.le ld).le le').rep
                  obtain ⟨_, _, _, _, _, r6⟩ := ((bb.le ld).le le').rep
                  go_wp2_with fail
                  refine (s3 _ ((lc.trans ld).trans le')).mono ?_
                  rintro e wf ⟨rfl, lf⟩
                  go_wp2_with fail
                  go_ret
                  exact ⟨ret_bool HN.out.symm, ((((hl.trans hle).trans lc).trans ld).trans le').trans lf⟩
              · simp only [decide_eq_false d2] at s2
                have HN : Hid (decide ((⟨c, Rs, Ps, Ts, Es⟩ : Mc) = ⟨c, Rs', Ps', Ts', Es⟩) = false) := HW.out (fun h => d2 (by rw [h]))
                clear d1 d2 s3
                go_wp2_with fail
                refine s1.mono ?_
                rintro e wd ⟨rfl, ld⟩
                obtain ⟨t0', t1', t2', t3', t4', t5'⟩ := (ba.le ld).rep
                obtain ⟨r0', r1', r2', r3', r4', r5'⟩ := (bb.le ld).rep
                go_wp2_with fail
                refine (s2 _ (lc.trans ld)).mono ?_
                rintro e we ⟨rfl, le'⟩
                go_wp2_with fail
                go_ret
                exact ⟨ret_bool HN.out.symm, (((hl.trans hle).trans lc).trans ld).trans le'⟩
            · rw [decide_eq_false d1] at s1
              have HN : Hid (decide ((⟨c, Rs, Ps, Ts, Es⟩ : Mc) = ⟨c, Rs', Ps', Ts', Es⟩) = false) := HW.out (fun h => d1 (by rw [h]))
              clear d1 s2 s3
              go_wp2_with fail
              refine s1.mono ?_
              rintro e wd ⟨rfl, ld⟩
              go_wp2_with fail
              go_ret
              exact ⟨ret_bool HN.out.symm, ((hl.trans hle).trans lc).trans ld⟩
        · have HPs : Hid (Ps = Ps') := by
            have e : j = nP := by omega
            subst e
            exact eq_of_takes HP.out.symm (HP'.out.trans HP.out.symm) HA.out
          clear HA oP oP' y6 fp z5
          replace hl := hl.trans hle
          replace z6 := cell_le z6 hle
          replace z7 := cell_le z7 hle
          replace y7 := cell_le y7 hle
          clear hle
          go_wp2_with fail
          go_loopw [9] (fun i wq => ∃ k : Nat, k ≤ nT ∧ i = .int .i64 k ∧ Hid (Ts.take k = Ts'.take k) ∧ Le wr wq) (fun i _ => nT - (intOf i).toNat)
          case atStart => exact ⟨0, Nat.zero_le _, rfl, rfl, Le.refl _⟩
          case round =>
            obtain ⟨i, hi, rfl, HA, hle⟩ := hrel
            by_cases hlt3 : i < nT
            · obtain ⟨b, off, rfl, oTk⟩ := oT (by omega)
              obtain ⟨b', off', rfl, oTk'⟩ := oT' (by omega)
              obtain ⟨q, t, rA, hq, ht⟩ := oTk i hlt3
              obtain ⟨q', t', rA', hq', ht'⟩ := oTk' i hlt3
              obtain ⟨T, hTk⟩ : ∃ R, R = Ts.getD i Th.zero := ⟨_, rfl⟩
              obtain ⟨T', hTk'⟩ : ∃ R, R = Ts'.getD i Th.zero := ⟨_, rfl⟩
              have HX : Hid (T = Ts.getD i Th.zero) := hTk
              have HX' : Hid (T' = Ts'.getD i Th.zero) := hTk'
              rw [← hTk] at rA hq ht
              rw [← hTk'] at rA' hq' ht'
              obtain ⟨g0, g1⟩ : T.b.length * 8 ≤ 140737488351232 ∧ T.tl.length * 8 ≤ 140737488351232 := by rw [hTk]; exact ft _ (getD_mem (by have := HT.out; omega))
              clear hTk hTk' oT oT' oTk oTk'
              have hlw := hl.trans hle
              obtain ⟨x0, x1, x2, x3, x4, x5, x6, x7, x8, x9, x10, x11⟩ := (rA.le hlw).later
              obtain ⟨y0, y1, y2, y3, y4, y5', y6', y7', y8, y9, y10, y11⟩ := (rA'.le hlw).later
              replace z7 := cell_le z7 hle
              have u7 := cell_later z7
              have u7' := cell_later (cell_le y7 hle)
              have hlt' : (i : Int) < (nT : Int) := by omega
              have hi0 : (0 : Int) ≤ (i : Int) := by omega
              have hs := fun X : Later wr => lawSameThread (thV T q t) (thV T' q' t') T T' X.w ⟨q, t, rfl, hq.le (hlw.trans X.le), ht.le (hlw.trans X.le)⟩ ⟨q', t', rfl, hq'.le (hlw.trans X.le), ht'.le (hlw.trans X.le)⟩ g0 g1
              clear rA rA' hq hq' ht ht' z6 y7 ft g0 g1
              by_cases hTT : T = T'
              · simp only [decide_eq_true hTT] at hs
                have HTT : Hid (T = T') := hTT
                clear hTT
                go_wp2_with fail
                refine wp_region_later (by kernel_rfl) (by kernel_rfl) ?_
                repeat (go_big_quiet_step (first | (go_at_call 41; with_reducible exact Calls.later (hs _))))
                refine wpQuiet_nil ?_
                rintro _ ⟨x, rfl⟩
                go_wp2_with fail
                go_roundw
                case rel => exact ⟨i + 1, by omega, by go_num, take_sameE (d := Th.zero) (by have := HT.out; omega) (by have := HT.out; have := HT'.out; omega) HA.out (by rw [← HX.out, ← HX'.out]; exact HTT.out), hle.trans x.le⟩
                case measure => simp [intOf]; omega
              · simp only [decide_eq_false hTT] at hs
                have HTT : Hid (¬ T = T') := hTT
                clear hTT
                go_wp2_with fail
                refine wp_region_later (by kernel_rfl) (by kernel_rfl) ?_
                repeat (go_big_quiet_step (first | (go_at_call 41; with_reducible exact Calls.later (hs _))))
                refine wpQuiet_nil ?_
                rintro _ ⟨x, rfl⟩
                go_wp2_with fail
                go_ret
                refine ⟨ret_bool (HD.out false ?_).symm, (hl.trans hle).trans x.le⟩
                have hn := ne_of_atE (k := i) (d := Th.zero) (xs := Ts) (ys := Ts') (by rw [← HX.out, ← HX'.out]; exact HTT.out)
                exact ⟨fun h => absurd h.2.2 hn, fun h => by cases h⟩
            · have HTs : Hid (Ts = Ts') := by
                have e : i = nT := by omega
                subst e
                exact eq_of_takes HT.out.symm (HT'.out.trans HT.out.symm) HA.out
              replace z7 := cell_le z7 hle
              clear oT oT' y7 z6
              go_wp2_with fail
              go_ret
              exact ⟨ret_bool (HD.out true ⟨fun _ => rfl, fun _ => ⟨HRs.out, HPs.out, HTs.out⟩⟩).symm, hl.trans hle⟩

theorem lawSameMachine (v u : Value) (M N : Mc) (w : World) (hx : HasM w v M) (hy : HasM w u N) (hf : FitM M) :
    Calls Tryz.prog 14 #[v, u] w fun e w' => e = .returned (.bool (decide (M = N))) ∧ Le w w' := by
  by_cases h : M.c = N.c ∧ M.rs.length = N.rs.length ∧ M.ps.length = N.ps.length ∧ M.ts.length = N.ts.length ∧ M.es = N.es
  · obtain ⟨h0, h1, h2, h3, h4⟩ := h
    exact lawSameMachineYes v u M N w hx hy hf h0 h1 h2 h3 h4
  · rw [decide_eq_false (fun e => h (by rw [e]; exact ⟨rfl, rfl, rfl, rfl, rfl⟩))]
    exact lawSameMachineNo v u M N w hx hy hf h

end Go.Proofs.YtkddgpdlpjjpbaaGreat

/-
  THE WALK over the document's replicaMay: may it be one of a machine's replicas? Condition: that its rows can be copied, and that the machine has as many logs as its Config says.
-/
namespace Go.Proofs.YtkddgpdlpjjpbaaGreat
open Go.RowKit

theorem cell_later' {w : World} {p : Addr} {v : Value} (h : w.cell? p = some v) : ∀ X : Later w, X.w.cell? p = some v := fun X => cell_le h X.le

/-- As the document asks it. -/
def repD (c : Cfg) (Rs : List Rg) (P : Rp) : Bool := objMay c.o P.s && (decide ((P.cs.length : Int) = c.l) && (decide ((P.ls.length : Int) = c.l) && (List.range P.cs.length).all fun i => inB (Rs.getD i Rg.zero).h (P.cs.getD i 0) (Rs.getD i Rg.zero).t && inB 0 (P.ls.getD i 0) c.t))
theorem repB_doc (c : Cfg) (Rs : List Rg) (P : Rp) : repB c Rs P = repD c Rs P := by
  unfold repB repD
  cases objMay c.o P.s
  · rfl
  by_cases h1 : (P.cs.length : Int) = c.l
  · by_cases h2 : (P.ls.length : Int) = c.l
    · simp only [h1, h2, decide_true, Bool.true_and, cursOK]
      rw [Bool.eq_iff_iff]
      simp only [Bool.and_eq_true, List.all_eq_true, List.mem_range]
      constructor
      · rintro ⟨h3, h4⟩ i hi
        exact ⟨h3 i hi, h4 _ (getD_mem (by omega))⟩
      · intro h
        refine ⟨fun i hi => (h i hi).1, fun x hx => ?_⟩
        obtain ⟨i, hi, rfl⟩ := List.mem_iff_getElem.1 hx
        have := (h i (by omega)).2
        rw [show P.ls.getD i 0 = P.ls[i] by simp [List.getD, hi]] at this
        exact this
    · simp [h2]
  · simp [h1]
theorem repD_take {c : Cfg} {Rs : List Rg} {P : Rp} {k : Nat} (h : ∀ i, i < k → (inB (Rs.getD i Rg.zero).h (P.cs.getD i 0) (Rs.getD i Rg.zero).t && inB 0 (P.ls.getD i 0) c.t) = true) (hk : (k : Int) = c.l) (h0 : objMay c.o P.s = true) (h1 : (P.cs.length : Int) = c.l) (h2 : (P.ls.length : Int) = c.l) : repD c Rs P = true := by
  unfold repD
  rw [h0, decide_eq_true h1, decide_eq_true h2]
  simp only [Bool.true_and, List.all_eq_true, List.mem_range]
  intro i hi
  exact h i (by omega)
theorem repD_no {c : Cfg} {Rs : List Rg} {P : Rp} {k : Nat} (hk : k < P.cs.length) (h : (inB (Rs.getD k Rg.zero).h (P.cs.getD k 0) (Rs.getD k Rg.zero).t && inB 0 (P.ls.getD k 0) c.t) = false) : repD c Rs P = false := by
  unfold repD
  rw [Bool.and_eq_false_iff]; right
  rw [Bool.and_eq_false_iff]; right
  rw [Bool.and_eq_false_iff]; right
  rw [← Bool.not_eq_true]
  simp only [List.all_eq_true, List.mem_range]
  intro hh
  have := hh k hk
  rw [h] at this
  cases this

set_option maxRecDepth 4000 in
set_option maxHeartbeats 4000000 in
theorem rmReplicaMay (M : Mc) (v u : Value) (P : Rp) (w : World) (hM : HasM w v M) (hn : (M.rs.length : Int) = M.c.l) (hx : HasP w u P) (hf : Fit P.s) (hm : M.rs.length * 48 ≤ 140737488351232) (hfc : P.cs.length * 8 ≤ 140737488351232) (hfl : P.ls.length * 8 ≤ 140737488351232) :
    Calls Tryz.prog 56 #[v, u] w fun e w' => e = .returned (.bool (repB M.c M.rs P)) ∧ Le w w' := by
  rw [repB_doc]
  obtain ⟨c, Rs, Ps, Ts, Es⟩ := M
  obtain ⟨⟨ra, rn, rc⟩, qP, qT, qH, rfl, hR, _, _, _⟩ := hM
  obtain ⟨vs, ⟨ca, cn, cc⟩, ⟨la, ln, lc⟩, rfl, i0, i1, i2⟩ := hx
  simp only at hR hn hm ⊢
  have hb1 := (Box.new w (cells9 c (ra, rn, rc) qP qT qH) 29).le (Le.alloc _ (.cells (cellsP vs (ca, cn, cc) (la, ln, lc)) 73))
  have hb2 := Box.new (w.alloc (.cells (cells9 c (ra, rn, rc) qP qT qH) 29)) (cellsP vs (ca, cn, cc) (la, ln, lc)) 73
  rw [World.size_alloc] at hb2
  have hl := (Le.alloc w (.cells (cells9 c (ra, rn, rc) qP qT qH) 29)).trans (Le.alloc _ (.cells (cellsP vs (ca, cn, cc) (la, ln, lc)) 73))
  have m1 := fun w' (l : Le w w') => refStateMay c.o (stV vs) P.s w' (HasS.le ⟨vs, rfl, i0⟩ l) hf
  obtain ⟨a, n, hv, rcap, _, oR⟩ := hR.open
  simp only [slV, Value.slice.injEq] at hv
  obtain ⟨rfl, hrn, rfl⟩ := hv
  obtain ⟨a, n, hv, ccap, _, oC⟩ := i1
  simp only [slV, Value.slice.injEq] at hv
  obtain ⟨rfl, hcn, rfl⟩ := hv
  obtain ⟨a, n, hv, lcap, _, oL⟩ := i2
  simp only [slV, Value.slice.injEq] at hv
  obtain ⟨rfl, hln, rfl⟩ := hv
  rw [← hrn] at hn hm oR rcap
  rw [← hcn] at oC ccap hfc
  rw [← hln] at oL lcap hfl
  have HCN : Hid (cn = P.cs.length) := hcn
  have HLN : Hid (ln = P.ls.length) := hln
  have HRN : Hid ((rn : Int) = c.l) := hn
  clear hrn hcn hln hR i0 hn
  go_enter Tryz.func56, Tryz.ntmps56
  go_upto_region 1 with fail
  generalize hW : (w.alloc (.cells (cells9 c (ra, rn, rc) qP qT qH) 29)).alloc (.cells (cellsP vs (ca, cn, cc) (la, ln, lc)) 73) = W at hl hb1 hb2 ⊢
  clear hW
  obtain ⟨⟨z0, z1, z2, z3, z4⟩, z5, z6, z7, z8⟩ := hb1.mach
  obtain ⟨y0, y1, y2, y3, y4, y5⟩ := hb2.rep
  go_wp2_with fail
  refine (m1 _ hl).mono ?_
  rintro e w1 ⟨rfl, l1⟩
  clear z0 z1 z2 z3 z4 z5 z6 z7 z8 y0 y1 y2 y3 y4 y5
  replace hb1 := hb1.le l1
  replace hb2 := hb2.le l1
  replace hl := hl.trans l1
  clear l1 m1
  obtain ⟨⟨z0, z1, z2, z3, z4⟩, z5, z6, z7, z8⟩ := hb1.mach
  obtain ⟨y0, y1, y2, y3, y4, y5⟩ := hb2.rep
  simp only [slV] at y4 y5 z5
  cases h1 : objMay c.o P.s
  · go_wp2_with fail
    go_ret
    exact ⟨ret_bool (by unfold repD; rw [h1]; rfl), hl⟩
  by_cases h2 : (cn : Int) = c.l
  case neg =>
    go_wp2_with fail
    go_ret
    exact ⟨ret_bool (by unfold repD; rw [← HCN.out, decide_eq_false h2]; simp), hl⟩
  by_cases h3 : (ln : Int) = c.l
  case neg =>
    go_wp2_with fail
    go_ret
    exact ⟨ret_bool (by unfold repD; rw [← HLN.out, decide_eq_false h3]; simp), hl⟩
  have HE : Hid (objMay c.o P.s = true ∧ (cn : Int) = c.l ∧ (ln : Int) = c.l) := ⟨h1, h2, h3⟩
  go_wp2_with fail
  clear h1 h2 h3
  clear z0 z1 z2 z3 z4 z5 z6 z7 z8 y0 y1 y2 y3 y4 y5
  go_loopw [5] (fun i wr => ∃ k : Nat, (k : Int) ≤ cn ∧ i = .int .i64 k ∧ Hid (∀ i, i < k → (inB (Rs.getD i Rg.zero).h (P.cs.getD i 0) (Rs.getD i Rg.zero).t && inB 0 (P.ls.getD i 0) c.t) = true) ∧ Le w1 wr) (fun i _ => cn - (intOf i).toNat)
  case atStart => exact ⟨0, by omega, rfl, fun i hi => by omega, Le.refl _⟩
  case round =>
    obtain ⟨k, hk, rfl, HA, hle⟩ := hrel
    obtain ⟨⟨z0, z1, z2, z3, z4⟩, z5, z6, z7, z8⟩ := (hb1.le hle).mach
    obtain ⟨y0, y1, y2, y3, y4, y5⟩ := (hb2.le hle).rep
    simp only [slV] at y4 y5 z5
    by_cases hlt : (k : Int) < c.l
    · have hlc : (k : Int) < (cn : Int) := by have := HE.out.2.1; omega
      have hll : (k : Int) < (ln : Int) := by have := HE.out.2.2; omega
      have hlr : (k : Int) < (rn : Int) := by have := HRN.out; omega
      obtain ⟨b, off, rfl, hcell⟩ := oC (by omega)
      obtain ⟨b', off', rfl, hcell'⟩ := oL (by omega)
      obtain ⟨b'', off'', rfl, hcell''⟩ := oR (by omega)
      obtain ⟨x, hxk⟩ : ∃ x, x = P.cs.getD k 0 := ⟨_, rfl⟩
      obtain ⟨y, hyk⟩ : ∃ x, x = P.ls.getD k 0 := ⟨_, rfl⟩
      obtain ⟨R, hRk⟩ : ∃ x, x = Rs.getD k Rg.zero := ⟨_, rfl⟩
      have x0 := cell_le (cell_le (hcell k (by omega)) hl) hle
      have x1 := cell_le (cell_le (hcell' k (by omega)) hl) hle
      obtain ⟨q, hR0, _⟩ := hcell'' k (by omega)
      obtain ⟨x2, x3, _, _⟩ := (hR0.le hl).le hle
      rw [← hxk] at x0
      rw [← hyk] at x1
      rw [← hRk] at x2 x3
      have HX : Hid (x = P.cs.getD k 0) := hxk
      have HY : Hid (y = P.ls.getD k 0) := hyk
      have HR : Hid (R = Rs.getD k Rg.zero) := hRk
      clear hxk hyk hRk hR0 hcell hcell' hcell'' oC oL oR
      go_upto_region 6 with fail
      replace z0 := cell_later' z0
      replace z1 := cell_later' z1
      replace z2 := cell_later' z2
      replace z3 := cell_later' z3
      replace z4 := cell_later' z4
      replace z5 := cell_later' z5
      replace z6 := cell_later' z6
      replace z7 := cell_later' z7
      replace z8 := cell_later' z8
      replace y4 := cell_later' y4
      replace y5 := cell_later' y5
      replace x0 := cell_later' x0
      replace x1 := cell_later' x1
      replace x2 := cell_later' x2
      replace x3 := cell_later' x3
      clear y0 y1 y2 y3
      have u1 := fun w' => rmUpTo x R.h R.t w'
      have u2 := fun w' => rmUpTo y 0 c.t w'
      cases h1 : inB R.h x R.t
      · simp only [h1] at u1
        have HB : Hid (inB R.h x R.t = false) := h1
        clear h1
        refine wp_region_later (by kernel_rfl) (by kernel_rfl) ?_
        repeat (go_big_quiet_step (first | (go_at_call 58; first | (with_reducible exact Calls.later_same (u1 _)) | (with_reducible exact Calls.later_same (u2 _)))))
        refine wpQuiet_nil ?_
        rintro _ ⟨X, rfl⟩
        go_wp2_with fail
        go_ret
        exact ⟨ret_bool (by rw [repD_no (k := k) (by have := HCN.out; omega) (by rw [← HR.out, ← HX.out, HB.out]; rfl)]), (hl.trans hle).trans X.le⟩
      simp only [h1] at u1
      have HB : Hid (inB R.h x R.t = true) := h1
      clear h1
      cases h2 : inB 0 y c.t
      · simp only [h2] at u2
        have HB2 : Hid (inB 0 y c.t = false) := h2
        clear h2
        refine wp_region_later (by kernel_rfl) (by kernel_rfl) ?_
        repeat (go_big_quiet_step (first | (go_at_call 58; first | (with_reducible exact Calls.later_same (u1 _)) | (with_reducible exact Calls.later_same (u2 _)))))
        refine wpQuiet_nil ?_
        rintro _ ⟨X, rfl⟩
        go_wp2_with fail
        go_ret
        exact ⟨ret_bool (by rw [repD_no (k := k) (by have := HCN.out; omega) (by rw [← HR.out, ← HX.out, ← HY.out, HB.out, HB2.out]; rfl)]), (hl.trans hle).trans X.le⟩
      · simp only [h2] at u2
        have HB2 : Hid (inB 0 y c.t = true) := h2
        clear h2
        refine wp_region_later (by kernel_rfl) (by kernel_rfl) ?_
        repeat (go_big_quiet_step (first | (go_at_call 58; first | (with_reducible exact Calls.later_same (u1 _)) | (with_reducible exact Calls.later_same (u2 _)))))
        refine wpQuiet_nil ?_
        rintro _ ⟨X, rfl⟩
        go_wp2_with fail
        go_roundw
        case rel => exact ⟨k + 1, by omega, by go_num, (fun j hj => by rcases Nat.lt_or_eq_of_le (Nat.le_of_lt_succ hj) with h | h; exact HA.out j h; rw [h, ← HR.out, ← HX.out, ← HY.out, HB.out, HB2.out]; rfl), hle.trans X.le⟩
        case measure => simp [intOf]; omega
    · have hkl : (k : Int) = c.l := by have := HE.out.2.1; omega
      have hg : repD c Rs P = true := repD_take HA.out hkl HE.out.1 (by rw [← HCN.out]; exact HE.out.2.1) (by rw [← HLN.out]; exact HE.out.2.2)
      have HG : Hid (repD c Rs P = true) := hg
      clear hkl hg
      go_wp2_with fail
      go_ret
      exact ⟨ret_bool HG.out.symm, hl.trans hle⟩

end Go.Proofs.YtkddgpdlpjjpbaaGreat

/-
  THE WALK over the document's threadMay: may it be one of a machine's threads? Condition: that the Config may be, and that the thread's rows can be copied.
-/
namespace Go.Proofs.YtkddgpdlpjjpbaaGreat
open Go.RowKit

/-- As the document asks it. -/
def thD (c : Cfg) (T : Th) : Bool := inB 0 T.st 19 && (opMay T.c T.r T.a && (inB 0 T.lg (c.l - 1) && (inB 0 T.sn 1048576 && (decide ((T.b.length : Int) ≤ c.t) && (inB 0 T.pl T.b.length && (decide ((T.tl.length : Int) ≤ c.l) && (T.b.all (fun x => inB 0 x (c.t - 1)) && T.tl.all (fun x => inB 0 x 1048576))))))))
theorem thB_doc (c : Cfg) (T : Th) : thB c T = thD c T := by
  unfold thB thD
  cases T.b.all (fun x => inB 0 x (c.t - 1)) <;> simp

set_option maxRecDepth 4000 in
set_option maxHeartbeats 8000000 in
theorem rmThreadMay (c : Cfg) (v : Value) (T : Th) (w : World) (hc : c.ok = true) (hx : HasT w v T) (hf : T.b.length * 8 ≤ 140737488351232) (hf2 : T.tl.length * 8 ≤ 140737488351232) :
    Calls Tryz.prog 57 #[cfgV c.o c.r c.l c.t c.s, v] w fun e w' => e = .returned (.bool (thB c T)) ∧ Le w w' := by
  rw [thB_doc]
  obtain ⟨⟨ba, bn, bc⟩, ⟨ta, tn, tc⟩, rfl, i1, i2⟩ := hx
  obtain ⟨_, _, ⟨l0, l1'⟩, ⟨t0, t1⟩, _, _⟩ := Cfg.ok_cases hc
  have hb1 := (Box.new w (#[.int .i64 c.o, .int .i64 c.r, .int .i64 c.l, .int .i64 c.t, .int .i64 c.s]) 23).le (Le.alloc _ (.cells (cellsT T (ba, bn, bc) (ta, tn, tc)) 63))
  have hb2 := Box.new (w.alloc (.cells (#[.int .i64 c.o, .int .i64 c.r, .int .i64 c.l, .int .i64 c.t, .int .i64 c.s]) 23)) (cellsT T (ba, bn, bc) (ta, tn, tc)) 63
  rw [World.size_alloc] at hb2
  have hl := (Le.alloc w (.cells (#[.int .i64 c.o, .int .i64 c.r, .int .i64 c.l, .int .i64 c.t, .int .i64 c.s]) 23)).trans (Le.alloc _ (.cells (cellsT T (ba, bn, bc) (ta, tn, tc)) 63))
  obtain ⟨a, n, hv, bcap, _, oB⟩ := i1
  simp only [slV, Value.slice.injEq] at hv
  obtain ⟨rfl, hbn, rfl⟩ := hv
  obtain ⟨a, n, hv, tcap, _, oT⟩ := i2
  simp only [slV, Value.slice.injEq] at hv
  obtain ⟨rfl, htn, rfl⟩ := hv
  simp only [thD]
  rw [← hbn] at oB bcap hf ⊢
  rw [← htn] at oT tcap hf2 ⊢
  have HBN : Hid (bn = T.b.length) := hbn
  have HTN : Hid (tn = T.tl.length) := htn
  clear hbn htn
  go_enter Tryz.func57, Tryz.ntmps57
  go_upto_region 1 with fail
  generalize hW : (w.alloc (.cells (#[.int .i64 c.o, .int .i64 c.r, .int .i64 c.l, .int .i64 c.t, .int .i64 c.s]) 23)).alloc (.cells (cellsT T (ba, bn, bc) (ta, tn, tc)) 63) = W at hl hb1 hb2 ⊢
  clear hW
  obtain ⟨z0, z1, z2, z3, z4⟩ := hb1.slot
  obtain ⟨b0, b1, b2, b3, b4, b5, b6, b7, b8, b9, b10, b11⟩ := hb2.th
  simp only [slV] at b6 b11
  go_wp2_with fail
  refine (rmUpTo _ _ _ _).mono ?_
  rintro e _ ⟨rfl, rfl⟩
  cases h1 : inB 0 T.st 19
  · go_wp2_with fail
    go_ret
    exact ⟨ret_bool (by rw [h1]; simp), hl⟩
  have H1 : Hid (inB 0 T.st 19 = true) := h1
  clear h1
  go_wp2_with fail
  refine (refOperMay _ _ _ _).mono ?_
  rintro e w1 ⟨rfl, n1⟩
  replace hb1 := hb1.le n1
  replace hb2 := hb2.le n1
  replace hl := hl.trans n1
  clear n1 z0 z1 z2 z3 z4 b0 b1 b2 b3 b4 b5 b6 b7 b8 b9 b10 b11
  obtain ⟨z0, z1, z2, z3, z4⟩ := hb1.slot
  obtain ⟨b0, b1, b2, b3, b4, b5, b6, b7, b8, b9, b10, b11⟩ := hb2.th
  simp only [slV] at b6 b11
  cases h2 : opMay T.c T.r T.a
  · go_wp2_with fail
    go_ret
    exact ⟨ret_bool (by rw [h2]; simp), hl⟩
  have H2 : Hid (opMay T.c T.r T.a = true) := h2
  clear h2
  go_wp2_with fail
  refine (rmUpTo _ _ _ _).mono ?_
  rintro e _ ⟨rfl, rfl⟩
  cases h3 : inB 0 T.lg (c.l - 1)
  · go_wp2_with fail
    go_ret
    exact ⟨ret_bool (by rw [h3]; simp), hl⟩
  have H3 : Hid (inB 0 T.lg (c.l - 1) = true) := h3
  clear h3
  go_wp2_with fail
  refine (rmUpTo _ _ _ _).mono ?_
  rintro e _ ⟨rfl, rfl⟩
  cases h4 : inB 0 T.sn 1048576
  · go_wp2_with fail
    go_ret
    exact ⟨ret_bool (by rw [h4]; simp), hl⟩
  have H4 : Hid (inB 0 T.sn 1048576 = true) := h4
  clear h4
  by_cases h5 : (bn : Int) ≤ c.t
  case neg =>
    go_wp2_with fail
    go_ret
    exact ⟨ret_bool (by rw [decide_eq_false (p := (bn : Int) ≤ c.t) (by omega)]; simp), hl⟩
  have H5 : Hid ((bn : Int) ≤ c.t) := h5
  go_wp2_with fail
  refine (rmUpTo _ _ _ _).mono ?_
  rintro e _ ⟨rfl, rfl⟩
  cases h6 : inB 0 T.pl bn
  · go_wp2_with fail
    go_ret
    exact ⟨ret_bool (by rw [h6]; simp), hl⟩
  have H6 : Hid (inB 0 T.pl bn = true) := h6
  clear h6
  by_cases h7 : (tn : Int) ≤ c.l
  case neg =>
    go_wp2_with fail
    go_ret
    exact ⟨ret_bool (by rw [decide_eq_false (p := (tn : Int) ≤ c.l) (by omega)]; simp), hl⟩
  have H7 : Hid ((tn : Int) ≤ c.l) := h7
  go_wp2_with fail
  clear h5 h7
  clear z0 z1 z2 z3 z4 b0 b1 b2 b3 b4 b5 b6 b7 b8 b9 b10 b11
  go_loopw [5] (fun i wr => ∃ k : Nat, k ≤ bn ∧ i = .int .i64 k ∧ Hid ((T.b.take k).all (fun x => inB 0 x (c.t - 1)) = true) ∧ Le w1 wr) (fun i _ => bn - (intOf i).toNat)
  case atStart => exact ⟨0, by omega, rfl, rfl, Le.refl _⟩
  case round =>
    obtain ⟨k, hk, rfl, HA, hle⟩ := hrel
    obtain ⟨z0, z1, z2, z3, z4⟩ := (hb1.le hle).slot
    obtain ⟨b0, b1, b2, b3, b4, b5, b6, b7, b8, b9, b10, b11⟩ := (hb2.le hle).th
    simp only [slV] at b6 b11
    by_cases hlt : k < bn
    · have hlt' : (k : Int) < (bn : Int) := by omega
      obtain ⟨b, off, rfl, hcell⟩ := oB (by omega)
      obtain ⟨x, hxk⟩ : ∃ x, x = T.b.getD k 0 := ⟨_, rfl⟩
      have x0 := cell_le (cell_le (hcell k hlt) hl) hle
      rw [← hxk] at x0
      have HX : Hid (x = T.b.getD k 0) := hxk
      clear hxk hcell oB oT
      go_upto_region 6 with fail
      replace z0 := cell_later' z0
      replace z1 := cell_later' z1
      replace z2 := cell_later' z2
      replace z3 := cell_later' z3
      replace z4 := cell_later' z4
      replace b6 := cell_later' b6
      replace x0 := cell_later' x0
      have u1 := fun w' => rmUpTo x 0 (c.t - 1) w'
      cases h1 : inB 0 x (c.t - 1)
      · simp only [h1] at u1
        have HB : Hid (inB 0 x (c.t - 1) = false) := h1
        clear h1
        refine wp_region_later (by kernel_rfl) (by kernel_rfl) ?_
        repeat (go_big_quiet_step (first | (go_at_call 58; with_reducible exact Calls.later_same (u1 _))))
        refine wpQuiet_nil ?_
        rintro _ ⟨X, rfl⟩
        go_wp2_with fail
        go_ret
        exact ⟨ret_bool (by rw [Go.Proofs.YtkddgpdlpjjpbaaGreat.all_bad (xs := T.b) (k := k) (p := fun x => inB 0 x (c.t - 1)) (by have := HBN.out; omega) (by rw [← HX.out]; exact HB.out)]; simp), (hl.trans hle).trans X.le⟩
      · simp only [h1] at u1
        have HB : Hid (inB 0 x (c.t - 1) = true) := h1
        clear h1
        refine wp_region_later (by kernel_rfl) (by kernel_rfl) ?_
        repeat (go_big_quiet_step (first | (go_at_call 58; with_reducible exact Calls.later_same (u1 _))))
        refine wpQuiet_nil ?_
        rintro _ ⟨X, rfl⟩
        go_wp2_with fail
        go_roundw
        case rel => exact ⟨k + 1, by omega, by go_num, (by rw [Go.Proofs.YtkddgpdlpjjpbaaGreat.all_take (by have := HBN.out; omega), HA.out, ← HX.out, HB.out]; rfl), hle.trans X.le⟩
        case measure => simp [intOf]; omega
    · obtain rfl : k = bn := by omega
      have hall : T.b.all (fun x => inB 0 x (c.t - 1)) = true := by
        have := HA.out
        rwa [HBN.out, List.take_length] at this
      have HALL : Hid (T.b.all (fun x => inB 0 x (c.t - 1)) = true) := hall
      clear hall
      go_wp2_with fail
      clear z0 z1 z2 z3 z4 b0 b1 b2 b3 b4 b5 b6 b7 b8 b9 b10 b11
      go_loopw [6] (fun i wr' => ∃ k : Nat, k ≤ tn ∧ i = .int .i64 k ∧ Hid ((T.tl.take k).all (fun x => inB 0 x 1048576) = true) ∧ Le wr wr') (fun i _ => tn - (intOf i).toNat)
      case atStart => exact ⟨0, by omega, rfl, rfl, Le.refl _⟩
      case round =>
        clear HA hk hlt
        obtain ⟨k, hk, rfl, HA, hle2⟩ := hrel
        have hle0 := hle.trans hle2
        clear hle
        have hle := hle0
        clear hle0
        obtain ⟨z0, z1, z2, z3, z4⟩ := (hb1.le hle).slot
        obtain ⟨b0, b1, b2, b3, b4, b5, b6, b7, b8, b9, b10, b11⟩ := (hb2.le hle).th
        simp only [slV] at b6 b11
        by_cases hlt : k < tn
        · have hlt' : (k : Int) < (tn : Int) := by omega
          obtain ⟨b, off, rfl, hcell⟩ := oT (by omega)
          obtain ⟨x, hxk⟩ : ∃ x, x = T.tl.getD k 0 := ⟨_, rfl⟩
          have x0 := cell_le (cell_le (hcell k hlt) hl) hle
          rw [← hxk] at x0
          have HX : Hid (x = T.tl.getD k 0) := hxk
          clear hxk hcell oB oT
          go_wp2_with fail
          refine (rmUpTo _ _ _ _).mono ?_
          rintro e _ ⟨rfl, rfl⟩
          cases h1 : inB 0 x 1048576
          · have HB : Hid (inB 0 x 1048576 = false) := h1
            clear h1
            go_wp2_with fail
            go_ret
            exact ⟨ret_bool (by rw [Go.Proofs.YtkddgpdlpjjpbaaGreat.all_bad (xs := T.tl) (k := k) (p := fun x => inB 0 x 1048576) (by have := HTN.out; omega) (by rw [← HX.out]; exact HB.out)]; simp), hl.trans hle⟩
          · have HB : Hid (inB 0 x 1048576 = true) := h1
            clear h1
            go_wp2_with fail
            go_roundw
            case rel => exact ⟨k + 1, by omega, by go_num, (by rw [Go.Proofs.YtkddgpdlpjjpbaaGreat.all_take (by have := HTN.out; omega), HA.out, ← HX.out, HB.out]; rfl), hle2⟩
            case measure => simp [intOf]; omega
        · obtain rfl : k = tn := by omega
          have hall : T.tl.all (fun x => inB 0 x 1048576) = true := by
            have := HA.out
            rwa [HTN.out, List.take_length] at this
          have HALL2 : Hid (T.tl.all (fun x => inB 0 x 1048576) = true) := hall
          clear hall
          go_wp2_with fail
          go_ret
          exact ⟨ret_bool (by rw [H1.out, H2.out, H3.out, H4.out, decide_eq_true H5.out, H6.out, decide_eq_true H7.out, HALL.out, HALL2.out]; rfl), hl.trans hle⟩

end Go.Proofs.YtkddgpdlpjjpbaaGreat

/-
  THE WALK over the document's May: may a machine be? Condition: that its rows can be copied.
-/
namespace Go.Proofs.YtkddgpdlpjjpbaaGreat
open Go.RowKit

theorem allG_take {α : Type} {xs : List α} {p : α → Bool} {k : Nat} (d : α) (hk : k < xs.length) (h : (xs.take k).all p = true) (hp : p (xs.getD k d) = true) : (xs.take (k + 1)).all p = true := by
  rw [List.take_succ_eq_append_getElem hk, List.all_append, h]
  simp only [List.getD, List.getElem?_eq_getElem hk, Option.getD_some] at hp
  simp [hp]
theorem allG_no {α : Type} {xs : List α} {p : α → Bool} {k : Nat} (d : α) (hk : k < xs.length) (hp : p (xs.getD k d) = false) : xs.all p = false := by
  rw [← Bool.not_eq_true, List.all_eq_true]
  intro h
  have := h _ (getD_mem (d := d) hk)
  rw [hp] at this
  cases this

/-- As the document asks it. -/
def mayD (M : Mc) : Bool := M.c.ok && (decide ((M.rs.length : Int) = M.c.l) && (decide ((M.ps.length : Int) = M.c.r) && (decide ((M.ts.length : Int) = M.c.t) && (decide ((M.es.length : Int) ≤ 64) && (M.rs.all (ringB M.c) && (M.ps.all (repB M.c M.rs) && (M.ts.all (thB M.c) && M.es.all (evB M.c))))))))
theorem mayM_doc (M : Mc) : mayM M = mayD M := by
  unfold mayM mayD
  cases M.rs.all (ringB M.c) <;> cases M.ps.all (repB M.c M.rs) <;> cases M.ts.all (thB M.c) <;> simp

set_option maxRecDepth 4000 in
set_option maxHeartbeats 16000000 in
theorem rmMay (v : Value) (M : Mc) (w : World) (hx : HasM w v M) (hf : FitM M) : Calls Tryz.prog 29 #[v] w fun e w' => e = .returned (.bool (mayM M)) ∧ Le w w' := by
  rw [mayM_doc]
  have hx0 := hx
  obtain ⟨c, Rs, Ps, Ts, Es⟩ := M
  obtain ⟨⟨ra, rn, rc⟩, ⟨pa, pn, pc⟩, ⟨ta, tn, tc⟩, ⟨ea, en, ec⟩, rfl, hR, hP, hT, hH⟩ := hx
  obtain ⟨f1, f2, f3, f4, fr, fp, ft⟩ := hf
  simp only at hR hP hT hH f1 f2 f3 f4 fr fp ft
  obtain ⟨a, n, hv, _, _, oR⟩ := hR.open
  simp only [slV, Value.slice.injEq] at hv
  obtain ⟨rfl, hrn, rfl⟩ := hv
  obtain ⟨a, n, hv, _, _, oP⟩ := hP.open
  simp only [slV, Value.slice.injEq] at hv
  obtain ⟨rfl, hpn, rfl⟩ := hv
  obtain ⟨a, n, hv, _, _, oT⟩ := hT.open
  simp only [slV, Value.slice.injEq] at hv
  obtain ⟨rfl, htn, rfl⟩ := hv
  obtain ⟨a, n, hv, _, _, oE⟩ := hH.openEv
  simp only [slV, Value.slice.injEq] at hv
  obtain ⟨rfl, hen, rfl⟩ := hv
  clear hR hP hT hH
  simp only [mayD]
  rw [← hrn] at oR f1 ⊢
  rw [← hpn] at oP f2 ⊢
  rw [← htn] at oT f3 ⊢
  rw [← hen] at oE f4 ⊢
  have HRN : Hid (rn = Rs.length) := hrn
  have HPN : Hid (pn = Ps.length) := hpn
  have HTN : Hid (tn = Ts.length) := htn
  have HEN : Hid (en = Es.length) := hen
  clear hrn hpn htn hen
  have hb := Box.new w (cells9 c (ra, rn, rc) (pa, pn, pc) (ta, tn, tc) (ea, en, ec)) 29
  have hl := Le.alloc w (.cells (cells9 c (ra, rn, rc) (pa, pn, pc) (ta, tn, tc) (ea, en, ec)) 29)
  have m1 := fun w' => rmConfigMay c.o c.r c.l c.t c.s w'
  obtain ⟨⟨z0, z1, z2, z3, z4⟩, z5, z6, z7, z8⟩ := hb.mach
  go_enter Tryz.func29, Tryz.ntmps29
  go_upto_region 2 with fail
  have hb2 := Box.new (w.alloc (.cells (cells9 c (ra, rn, rc) (pa, pn, pc) (ta, tn, tc) (ea, en, ec)) 29)) #[.int .i64 c.o, .int .i64 c.r, .int .i64 c.l, .int .i64 c.t, .int .i64 c.s] 23
  rw [World.size_alloc] at hb2
  have hA := Le.alloc (w.alloc (.cells (cells9 c (ra, rn, rc) (pa, pn, pc) (ta, tn, tc) (ea, en, ec)) 29)) (.cells #[.int .i64 c.o, .int .i64 c.r, .int .i64 c.l, .int .i64 c.t, .int .i64 c.s] 23)
  replace hl := hl.trans hA
  replace hb := hb.le hA
  clear hA z0 z1 z2 z3 z4 z5 z6 z7 z8
  generalize hW : (w.alloc (.cells (cells9 c (ra, rn, rc) (pa, pn, pc) (ta, tn, tc) (ea, en, ec)) 29)).alloc (.cells #[.int .i64 c.o, .int .i64 c.r, .int .i64 c.l, .int .i64 c.t, .int .i64 c.s] 23) = W at hl hb hb2 ⊢
  clear hW
  obtain ⟨⟨z0, z1, z2, z3, z4⟩, z5, z6, z7, z8⟩ := hb.mach
  obtain ⟨y0, y1, y2, y3, y4⟩ := hb2.slot
  simp only [slV] at z5 z6 z7 z8
  go_wp2_with fail
  refine (m1 _).mono ?_
  rintro e w1 ⟨rfl, n1⟩
  clear z0 z1 z2 z3 z4 z5 z6 z7 z8 y0 y1 y2 y3 y4 m1
  replace hb := hb.le n1
  replace hb2 := hb2.le n1
  replace hl := hl.trans n1
  clear n1
  obtain ⟨⟨z0, z1, z2, z3, z4⟩, z5, z6, z7, z8⟩ := hb.mach
  obtain ⟨y0, y1, y2, y3, y4⟩ := hb2.slot
  simp only [slV] at z5 z6 z7 z8
  cases h1 : cfgB c.o c.r c.l c.t c.s
  · go_wp2_with fail
    go_ret
    exact ⟨ret_bool (by unfold Cfg.ok; rw [h1]; simp), hl⟩
  have hc : c.ok = true := h1
  have H1 : Hid (c.ok = true) := h1
  clear h1
  by_cases h2 : (rn : Int) = c.l
  case neg =>
    go_wp2_with fail
    go_ret
    exact ⟨ret_bool (by rw [decide_eq_false h2]; simp), hl⟩
  by_cases h3 : (pn : Int) = c.r
  case neg =>
    go_wp2_with fail
    go_ret
    exact ⟨ret_bool (by rw [decide_eq_false (p := (pn : Int) = c.r) h3]; simp), hl⟩
  by_cases h4 : (tn : Int) = c.t
  case neg =>
    go_wp2_with fail
    go_ret
    exact ⟨ret_bool (by rw [decide_eq_false (p := (tn : Int) = c.t) h4]; simp), hl⟩
  by_cases h5 : (en : Int) ≤ 64
  case neg =>
    go_wp2_with fail
    go_ret
    exact ⟨ret_bool (by rw [decide_eq_false (p := (en : Int) ≤ 64) (by omega)]; simp), hl⟩
  obtain ⟨_, _, _, ⟨t0, t1⟩, _, _⟩ := Cfg.ok_cases hc
  have H2 : Hid ((rn : Int) = c.l) := h2
  have H3 : Hid ((pn : Int) = c.r) := h3
  have H4 : Hid ((tn : Int) = c.t) := h4
  have H5 : Hid ((en : Int) ≤ 64) := h5
  go_wp2_with fail
  clear h2 h3 h4 h5 z0 z1 z2 z3 z4 z5 z6 z7 z8 y0 y1 y2 y3 y4
  go_loopw [4] (fun i wr => ∃ k : Nat, k ≤ rn ∧ i = .int .i64 k ∧ Hid ((Rs.take k).all (ringB c) = true) ∧ Le w1 wr) (fun i _ => rn - (intOf i).toNat)
  case atStart => exact ⟨0, by omega, rfl, rfl, Le.refl _⟩
  case round =>
    obtain ⟨k, hk, rfl, HA, hle⟩ := hrel
    obtain ⟨⟨z0, z1, z2, z3, z4⟩, z5, z6, z7, z8⟩ := (hb.le hle).mach
    obtain ⟨y0, y1, y2, y3, y4⟩ := (hb2.le hle).slot
    simp only [slV] at z5 z6 z7 z8
    by_cases hlt : k < rn
    · have hlt' : (k : Int) < c.l := by have := H2.out; omega
      have hltn : (k : Int) < (rn : Int) := by omega
      obtain ⟨b, off, rfl, hcell⟩ := oR (by omega)
      obtain ⟨q, hat, hq⟩ := hcell k hlt
      have hfr : FitR (Rs.getD k Rg.zero) := fr _ (getD_mem (by have := HRN.out; omega))
      obtain ⟨R, hRk⟩ : ∃ x, x = Rs.getD k Rg.zero := ⟨_, rfl⟩
      rw [← hRk] at hat hq hfr
      have HR : Hid (R = Rs.getD k Rg.zero) := hRk
      clear hRk hcell oR oP oT oE
      obtain ⟨x0, x1, x2, x3⟩ := (hat.le hl).le hle
      replace hq := (hq.le hl).le hle
      have u1 := fun X : Later wr => rmRingMay c (ringV R.h R.t R.f q) R X.w (HasR.le ⟨q, rfl, hq⟩ X.le) hfr
      clear hat hfr hq
      go_upto_region 7 with fail
      replace y0 := cell_later' y0
      replace y1 := cell_later' y1
      replace y2 := cell_later' y2
      replace y3 := cell_later' y3
      replace y4 := cell_later' y4
      replace z5 := cell_later' z5
      replace x0 := cell_later' x0
      replace x1 := cell_later' x1
      replace x2 := cell_later' x2
      replace x3 := cell_later' x3
      cases h1 : ringB c R
      · simp only [h1] at u1
        have HB : Hid (ringB c R = false) := h1
        clear h1
        refine wp_region_later (by kernel_rfl) (by kernel_rfl) ?_
        repeat (go_big_quiet_step (first | (go_at_call 55; with_reducible exact Calls.later (u1 _))))
        refine wpQuiet_nil ?_
        rintro _ ⟨X, rfl⟩
        go_wp2_with fail
        go_ret
        exact ⟨ret_bool (by rw [allG_no (xs := Rs) (k := k) (p := ringB c) Rg.zero (by have := HRN.out; omega) (by rw [← HR.out]; exact HB.out)]; simp), (hl.trans hle).trans X.le⟩
      · simp only [h1] at u1
        have HB : Hid (ringB c R = true) := h1
        clear h1
        refine wp_region_later (by kernel_rfl) (by kernel_rfl) ?_
        repeat (go_big_quiet_step (first | (go_at_call 55; with_reducible exact Calls.later (u1 _))))
        refine wpQuiet_nil ?_
        rintro _ ⟨X, rfl⟩
        go_wp2_with fail
        go_roundw
        case rel => exact ⟨k + 1, by omega, by go_num, allG_take Rg.zero (by have := HRN.out; omega) HA.out (by rw [← HR.out]; exact HB.out), hle.trans X.le⟩
        case measure => simp [intOf]; omega
    · obtain rfl : rn = k := by omega
      have hge : c.l ≤ (rn : Int) := by have := H2.out; omega
      have hall : Rs.all (ringB c) = true := by
        have := HA.out
        rwa [HRN.out, List.take_length] at this
      have HALL1 : Hid (Rs.all (ringB c) = true) := hall
      clear hall HA
      go_wp2_with fail
      clear hge z0 z1 z2 z3 z4 z5 z6 z7 z8 y0 y1 y2 y3 y4
      have hle1 := hl.trans hle
      replace hb := hb.le hle
      replace hb2 := hb2.le hle
      clear hle hlt hk hl
      have hn0 : (Rs.length : Int) = c.l := by have := HRN.out; have := H2.out; omega
      have HN0 : Hid ((Rs.length : Int) = c.l) := hn0
      clear hn0
      go_loopw [5] (fun i wr' => ∃ k : Nat, k ≤ pn ∧ i = .int .i64 k ∧ Hid ((Ps.take k).all (repB c Rs) = true) ∧ Le wr wr') (fun i _ => pn - (intOf i).toNat)
      case atStart => exact ⟨0, by omega, rfl, rfl, Le.refl _⟩
      case round =>
        obtain ⟨k, hk, rfl, HA, hle⟩ := hrel
        obtain ⟨⟨z0, z1, z2, z3, z4⟩, z5, z6, z7, z8⟩ := (hb.le hle).mach
        obtain ⟨y0, y1, y2, y3, y4⟩ := (hb2.le hle).slot
        simp only [slV] at z5 z6 z7 z8
        by_cases hlt : k < pn
        · have hlt' : (k : Int) < c.r := by have := H3.out; omega
          have hltn : (k : Int) < (pn : Int) := by omega
          obtain ⟨b, off, rfl, hcell⟩ := oP (by omega)
          obtain ⟨vs, qa, qb, hat, hs, ha, hb'⟩ := hcell k hlt
          have hfr := fp _ (getD_mem (xs := Ps) (d := Rp.zero) (i := k) (by have := HPN.out; omega))
          obtain ⟨P, hPk⟩ : ∃ x, x = Ps.getD k Rp.zero := ⟨_, rfl⟩
          rw [← hPk] at hs ha hb' hfr
          have HP : Hid (P = Ps.getD k Rp.zero) := hPk
          clear hPk hcell oR oP oT oE
          obtain ⟨x0, x1, x2, x3, x4, x5⟩ := (hat.le hle1).le hle
          have hPP : HasP wr (repV vs qa qb) P := ⟨vs, qa, qb, rfl, fun i hi => ((hs i hi).le hle1).le hle, (ha.le hle1).le hle, (hb'.le hle1).le hle⟩
          have u1 := fun X : Later wr => rmReplicaMay ⟨c, Rs, Ps, Ts, Es⟩ _ (repV vs qa qb) P X.w (((hx0.le hle1).le hle).le X.le) HN0.out (hPP.le X.le) hfr.1 (by show Rs.length * 48 ≤ _; have := HRN.out; omega) hfr.2.1 hfr.2.2
          simp only at u1
          clear hat hfr hs ha hb' hPP
          go_upto_region 12 with fail
          replace z0 := cell_later' z0
          replace z1 := cell_later' z1
          replace z2 := cell_later' z2
          replace z3 := cell_later' z3
          replace z4 := cell_later' z4
          replace z5 := cell_later' z5
          replace z6 := cell_later' z6
          replace z7 := cell_later' z7
          replace z8 := cell_later' z8
          replace x0 := cell_later' x0
          replace x1 := cell_later' x1
          replace x2 := cell_later' x2
          replace x3 := cell_later' x3
          replace x4 := cell_later' x4
          replace x5 := cell_later' x5
          cases h1 : repB c Rs P
          · simp only [h1] at u1
            have HB : Hid (repB c Rs P = false) := h1
            clear h1
            refine wp_region_later (by kernel_rfl) (by kernel_rfl) ?_
            repeat (go_big_quiet_step (first | (go_at_call 56; with_reducible exact Calls.later (u1 _))))
            refine wpQuiet_nil ?_
            rintro _ ⟨X, rfl⟩
            go_wp2_with fail
            go_ret
            exact ⟨ret_bool (by rw [allG_no (xs := Ps) (k := k) (p := repB c Rs) Rp.zero (by have := HPN.out; omega) (by rw [← HP.out]; exact HB.out)]; simp), (hle1.trans hle).trans X.le⟩
          · simp only [h1] at u1
            have HB : Hid (repB c Rs P = true) := h1
            clear h1
            refine wp_region_later (by kernel_rfl) (by kernel_rfl) ?_
            repeat (go_big_quiet_step (first | (go_at_call 56; with_reducible exact Calls.later (u1 _))))
            refine wpQuiet_nil ?_
            rintro _ ⟨X, rfl⟩
            go_wp2_with fail
            go_roundw
            case rel => exact ⟨k + 1, by omega, by go_num, allG_take Rp.zero (by have := HPN.out; omega) HA.out (by rw [← HP.out]; exact HB.out), hle.trans X.le⟩
            case measure => simp [intOf]; omega
        · obtain rfl : pn = k := by omega
          have hge : c.r ≤ (pn : Int) := by have := H3.out; omega
          have hall : Ps.all (repB c Rs) = true := by
            have := HA.out
            rwa [HPN.out, List.take_length] at this
          have HALL2 : Hid (Ps.all (repB c Rs) = true) := hall
          clear hall HA
          go_wp2_with fail
          clear hge z0 z1 z2 z3 z4 z5 z6 z7 z8 y0 y1 y2 y3 y4
          have hle2 := hle1.trans hle
          replace hb := hb.le hle
          replace hb2 := hb2.le hle
          clear hle hlt hk hle1
          go_loopw [6] (fun i wr' => ∃ k : Nat, k ≤ tn ∧ i = .int .i64 k ∧ Hid ((Ts.take k).all (thB c) = true) ∧ Le wr wr') (fun i _ => tn - (intOf i).toNat)
          case atStart => exact ⟨0, by omega, rfl, rfl, Le.refl _⟩
          case round =>
            obtain ⟨k, hk, rfl, HA, hle⟩ := hrel
            obtain ⟨⟨z0, z1, z2, z3, z4⟩, z5, z6, z7, z8⟩ := (hb.le hle).mach
            obtain ⟨y0, y1, y2, y3, y4⟩ := (hb2.le hle).slot
            simp only [slV] at z5 z6 z7 z8
            by_cases hlt : k < tn
            · have hlt' : (k : Int) < c.t := by have := H4.out; omega
              have hltn : (k : Int) < (tn : Int) := by omega
              obtain ⟨b, off, rfl, hcell⟩ := oT (by omega)
              obtain ⟨qa, qb, hat, ha, hb'⟩ := hcell k hlt
              have hfr := ft _ (getD_mem (xs := Ts) (d := Th.zero) (i := k) (by have := HTN.out; omega))
              obtain ⟨T, hTk⟩ : ∃ x, x = Ts.getD k Th.zero := ⟨_, rfl⟩
              rw [← hTk] at hat ha hb' hfr
              have HT : Hid (T = Ts.getD k Th.zero) := hTk
              clear hTk hcell oR oP oT oE
              obtain ⟨x0, x1, x2, x3, x4, x5, x6, x7, x8, x9, x10, x11⟩ := (hat.le hle2).le hle
              have hTT : HasT wr (thV T qa qb) T := ⟨qa, qb, rfl, (ha.le hle2).le hle, (hb'.le hle2).le hle⟩
              have u1 := fun X : Later wr => rmThreadMay c (thV T qa qb) T X.w H1.out (hTT.le X.le) hfr.1 hfr.2
              clear hat hfr ha hb' hTT
              go_upto_region 17 with fail
              replace y0 := cell_later' y0
              replace y1 := cell_later' y1
              replace y2 := cell_later' y2
              replace y3 := cell_later' y3
              replace y4 := cell_later' y4
              replace z7 := cell_later' z7
              replace x0 := cell_later' x0
              replace x1 := cell_later' x1
              replace x2 := cell_later' x2
              replace x3 := cell_later' x3
              replace x4 := cell_later' x4
              replace x5 := cell_later' x5
              replace x6 := cell_later' x6
              replace x7 := cell_later' x7
              replace x8 := cell_later' x8
              replace x9 := cell_later' x9
              replace x10 := cell_later' x10
              replace x11 := cell_later' x11
              cases h1 : thB c T
              · simp only [h1] at u1
                have HB : Hid (thB c T = false) := h1
                clear h1
                refine wp_region_later (by kernel_rfl) (by kernel_rfl) ?_
                repeat (go_big_quiet_step (first | (go_at_call 57; with_reducible exact Calls.later (u1 _))))
                refine wpQuiet_nil ?_
                rintro _ ⟨X, rfl⟩
                go_wp2_with fail
                go_ret
                exact ⟨ret_bool (by rw [allG_no (xs := Ts) (k := k) (p := thB c) Th.zero (by have := HTN.out; omega) (by rw [← HT.out]; exact HB.out)]; simp), (hle2.trans hle).trans X.le⟩
              · simp only [h1] at u1
                have HB : Hid (thB c T = true) := h1
                clear h1
                refine wp_region_later (by kernel_rfl) (by kernel_rfl) ?_
                repeat (go_big_quiet_step (first | (go_at_call 57; with_reducible exact Calls.later (u1 _))))
                refine wpQuiet_nil ?_
                rintro _ ⟨X, rfl⟩
                go_wp2_with fail
                go_roundw
                case rel => exact ⟨k + 1, by omega, by go_num, allG_take Th.zero (by have := HTN.out; omega) HA.out (by rw [← HT.out]; exact HB.out), hle.trans X.le⟩
                case measure => simp [intOf]; omega
            · obtain rfl : tn = k := by omega
              have hge : c.t ≤ (tn : Int) := by have := H4.out; omega
              have hall : Ts.all (thB c) = true := by
                have := HA.out
                rwa [HTN.out, List.take_length] at this
              have HALL3 : Hid (Ts.all (thB c) = true) := hall
              clear hall HA
              go_wp2_with fail
              clear hge z0 z1 z2 z3 z4 z5 z6 z7 z8 y0 y1 y2 y3 y4
              have hle3 := hle2.trans hle
              replace hb := hb.le hle
              replace hb2 := hb2.le hle
              clear hle hlt hk hle2
              go_loopw [7] (fun i wr' => ∃ k : Nat, k ≤ en ∧ i = .int .i64 k ∧ Hid ((Es.take k).all (evB c) = true) ∧ Le wr wr') (fun i _ => en - (intOf i).toNat)
              case atStart => exact ⟨0, by omega, rfl, rfl, Le.refl _⟩
              case round =>
                obtain ⟨k, hk, rfl, HA, hle⟩ := hrel
                obtain ⟨⟨z0, z1, z2, z3, z4⟩, z5, z6, z7, z8⟩ := (hb.le hle).mach
                obtain ⟨y0, y1, y2, y3, y4⟩ := (hb2.le hle).slot
                simp only [slV] at z5 z6 z7 z8
                by_cases hlt : k < en
                · have hltn : (k : Int) < (en : Int) := by omega
                  obtain ⟨b, off, rfl, hcell⟩ := oE (by omega)
                  have hat := hcell k hlt
                  obtain ⟨E, hEk⟩ : ∃ x, x = Es.getD k Ev.zero := ⟨_, rfl⟩
                  rw [← hEk] at hat
                  have HE : Hid (E = Es.getD k Ev.zero) := hEk
                  clear hEk hcell oR oP oT oE
                  obtain ⟨x0, x1, x2, x3, x4, x5⟩ := (hat.le hle3).le hle
                  have u1 := fun w' => rmUpTo E.t 0 (c.t - 1) w'
                  have u2 := fun w' => refOperMay E.c E.r E.a w'
                  clear hat
                  go_upto_region 22 with fail
                  replace y0 := cell_later' y0
                  replace y1 := cell_later' y1
                  replace y2 := cell_later' y2
                  replace y3 := cell_later' y3
                  replace y4 := cell_later' y4
                  replace z8 := cell_later' z8
                  replace x0 := cell_later' x0
                  replace x2 := cell_later' x2
                  replace x3 := cell_later' x3
                  replace x4 := cell_later' x4
                  cases h1 : inB 0 E.t (c.t - 1)
                  · simp only [h1] at u1
                    have HB : Hid (evB c E = false) := by unfold evB; rw [h1]; exact rfl
                    clear h1
                    refine wp_region_later (by kernel_rfl) (by kernel_rfl) ?_
                    repeat (go_big_quiet_step (first | (go_at_call 58; with_reducible exact Calls.later_same (u1 _)) | (go_at_call 53; with_reducible exact Calls.later (u2 _))))
                    refine wpQuiet_nil ?_
                    rintro _ ⟨X, rfl⟩
                    go_wp2_with fail
                    go_ret
                    exact ⟨ret_bool (by rw [allG_no (xs := Es) (k := k) (p := evB c) Ev.zero (by have := HEN.out; omega) (by rw [← HE.out]; exact HB.out)]; simp), (hle3.trans hle).trans X.le⟩
                  simp only [h1] at u1
                  cases h2 : opMay E.c E.r E.a
                  · simp only [h2] at u2
                    have HB : Hid (evB c E = false) := by unfold evB; rw [h1, h2]; exact rfl
                    clear h1 h2
                    refine wp_region_later (by kernel_rfl) (by kernel_rfl) ?_
                    repeat (go_big_quiet_step (first | (go_at_call 58; with_reducible exact Calls.later_same (u1 _)) | (go_at_call 53; with_reducible exact Calls.later (u2 _))))
                    refine wpQuiet_nil ?_
                    rintro _ ⟨X, rfl⟩
                    go_wp2_with fail
                    go_ret
                    exact ⟨ret_bool (by rw [allG_no (xs := Es) (k := k) (p := evB c) Ev.zero (by have := HEN.out; omega) (by rw [← HE.out]; exact HB.out)]; simp), (hle3.trans hle).trans X.le⟩
                  · simp only [h2] at u2
                    have HB : Hid (evB c E = true) := by unfold evB; rw [h1, h2]; exact rfl
                    clear h1 h2
                    refine wp_region_later (by kernel_rfl) (by kernel_rfl) ?_
                    repeat (go_big_quiet_step (first | (go_at_call 58; with_reducible exact Calls.later_same (u1 _)) | (go_at_call 53; with_reducible exact Calls.later (u2 _))))
                    refine wpQuiet_nil ?_
                    rintro _ ⟨X, rfl⟩
                    go_wp2_with fail
                    go_roundw
                    case rel => exact ⟨k + 1, by omega, by go_num, allG_take Ev.zero (by have := HEN.out; omega) HA.out (by rw [← HE.out]; exact HB.out), hle.trans X.le⟩
                    case measure => simp [intOf]; omega
                · obtain rfl : en = k := by omega
                  have hall : Es.all (evB c) = true := by
                    have := HA.out
                    rwa [HEN.out, List.take_length] at this
                  have HALL4 : Hid (Es.all (evB c) = true) := hall
                  clear hall HA
                  go_wp2_with fail
                  go_ret
                  exact ⟨ret_bool (by rw [H1.out, decide_eq_true H2.out, decide_eq_true H3.out, decide_eq_true H4.out, decide_eq_true H5.out, HALL1.out, HALL2.out, HALL3.out, HALL4.out]; rfl), hle3.trans hle⟩

end Go.Proofs.YtkddgpdlpjjpbaaGreat

/-
  THE WALK over package ring's Publish: what it answers, for every ring, number, operation and thread. Condition: that the slots can be copied.
-/
namespace Go.Proofs.YtkddgpdlpjjpbaaGreat
open Go.RowKit

theorem pubB_slot {R : Rg} {p c r a t : Int} : pubB R p c r a t = (mayR R && hasB R.h R.t p && slotB ⟨c, r, a, t, bitAt p R.ss.length⟩) := by
  have := bitAt_two (p := p) (n := R.ss.length)
  have e : (decide (bitAt p R.ss.length = 0) || decide (bitAt p R.ss.length = 1)) = true := by simpa using this
  simp only [pubB, slotB, threadB, e, Bool.and_true, Bool.and_assoc]

end Go.Proofs.YtkddgpdlpjjpbaaGreat
