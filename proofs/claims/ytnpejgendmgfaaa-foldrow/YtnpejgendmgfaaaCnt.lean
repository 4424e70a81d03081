/-
  THE WALKS over package states' Counted: the state that an operation makes, and its answer, for every two functions that make another row of one, in the call's own memory. Condition: the state's rows can be copied, and are short.
-/
import Derived.Test.YtnpejgendmgfaaaSts
import Derived.Test.YtnpejgendmgfaaaStPut2
import Derived.Deep.Cut
namespace Go.Proofs.Ytnpejgendmgfaaa
open Go.RowKit

/-- The function f makes the row F of a row of the call's own, and answers a number; nothing else turns. -/
structure TurnsRow (f : Nat) (F : List Int → Int → List Int × Int) : Prop where
  enter : ∀ (u x : Value) (w : World), (callFunc f #[u, x]).run Try.prog w = .ok (.enter f #[u, x]) w
  calls : ∀ (v : Value) (base : Nat) (xs : List Int) (a : Int) (w : World), Own w base v xs → base ≤ w.heap.size → xs.length ≤ 4 → 0 ≤ a ∧ a ≤ 255 →
    Calls Try.prog f #[v, .int .i64 a] w fun e w' => ∃ v', e = .returned (.tuple #[v', .int .i64 (F xs a).2]) ∧ Own w' base v' (F xs a).1 ∧ w.grownBy w' v.ownBlock

theorem Le.grownBy {w w' : World} (h : Le w w') (row : Option Nat) : w.grownBy w' row := ⟨h.os, h.tape, h.output, h.size, fun k hk _ => h.block k hk⟩

set_option maxHeartbeats 2000000 in
theorem countedFirst (f g : Nat) (F : List Int → Int → List Int × Int) (hF : TurnsRow f F) (v : Value) (s : St) (k : Nat) (a : Int) (w : World) (hx : HasS w v s) (hf : Fit s) (hlen : ∀ j, j < 4 → (s.at j).length ≤ 4) (hk : k < 4) (ha : 0 ≤ a ∧ a ≤ 255) :
    Calls Try.prog 51 #[v, opV 0 k a, .func (.func f) #[] #[], .func (.func g) #[] #[]] w fun e w' => ∃ v', e = .returned (.tuple #[v', .int .i64 (F (s.at k) a).2]) ∧ OwnS w' w.heap.size v' (s.put k (F (s.at k) a).1) ∧ Le w w' := by
  have hx0 := hx
  obtain ⟨vs, rfl, hr⟩ := hx
  have hl := ((Le.alloc w (.cells (cells4 vs) 25)).trans (Le.alloc _ (.cells #[.int .i64 0, .int .i64 k, .int .i64 a] 43))).trans (Le.alloc _ (.cells (cells4 fun _ => slZ) 25))
  have hb2 := (Box.new (w.alloc (.cells (cells4 vs) 25)) #[.int .i64 0, .int .i64 k, .int .i64 a] 43).le (Le.alloc _ (.cells (cells4 fun _ => slZ) 25))
  have hb3 := Box.new ((w.alloc (.cells (cells4 vs) 25)).alloc (.cells #[.int .i64 0, .int .i64 k, .int .i64 a] 43)) (cells4 fun _ => slZ) 25
  simp only [World.size_alloc] at hb2 hb3
  go_enter Try.func51, Try.ntmps51
  go_wp2_with fail
  refine (statesCopy (stV vs) s _ (hx0.le hl) hf).mono ?_
  rintro e w3 ⟨us, rfl, hown, hap, l1⟩
  replace hown := fun i hi => (hown i hi).base (base' := w.heap.size + 1 + 1 + 1) (by simp)
  have n0 : w.heap.size + 1 + 1 < w3.heap.size := (hb3.le l1).lt
  have n1 : ¬ w.heap.size + 1 + 1 = w3.heap.size := by omega
  have n2 : ¬ w.heap.size + 1 + 1 = w.heap.size := by omega
  have n3 : ¬ w.heap.size + 1 + 1 = w.heap.size + 1 := by omega
  have n4 : ¬ w.heap.size + 1 = w3.heap.size := by omega
  have n5 : ¬ w3.heap.size = w.heap.size + 1 := by omega
  have hb4 := Box.new w3 (cells4 us) 25
  replace l1 := l1.trans (Le.alloc w3 (.cells (cells4 us) 25))
  replace hown := fun i hi => (hown i hi).le (Le.alloc w3 (.cells (cells4 us) 25))
  go_upto_region 2 with fail
  generalize hW : w3.alloc (.cells (cells4 us) 25) = W at hb4 l1 hown ⊢
  clear hW
  have o0 := (hb2.le l1).op.1
  have o1 := (hb2.le l1).op.2.1
  have o2 := (hb2.le l1).op.2.2.1
  have t1 : W.cell? ⟨w3.heap.size, k, none⟩ = some (slV (us k)) := (hb4.cell k).trans (cells4_at us hk)
  have k0 : (0 : Int) ≤ ((k : Nat) : Int) := by omega
  have k1 : ((k : Nat) : Int) < 4 := by omega
  have hcall := hF.calls (slV (us k)) (w.heap.size + 1 + 1 + 1) (s.at k) a W (hown k hk) (by have := l1.size; simpa using this) (hlen k hk) ha
  have hin := hF.enter
  go_wp2_with fail
  refine hcall.mono ?_
  rintro e w4 ⟨v', rfl, ho, hg⟩
  obtain ⟨q, rfl⟩ := ho.has.sl
  have hb5 : Box w4 w3.heap.size (cells4 us) 25 := Box.grown hb4 hg (fun e => (hown k hk).apart hb4 (by decide) e)
  have l5 : Le _ w4 := Below.grown l1 hg l1.size (fun g e => by have := ((hown k hk).block e).1; simpa using this)
  clear o0 o1 o2 t1 hcall hin
  have p1 := (hb2.le l5).op.2.1
  have c5 : w4.cell? ⟨w3.heap.size, k, none⟩ = some (slV (us k)) := (hb5.cell k).trans (cells4_at us hk)
  have f5 := hb5.frozen k
  have hown5 : ∀ i, i < 4 → Own (w4.setCell ⟨w3.heap.size, k, none⟩ (slV q)) (w.heap.size + 1 + 1 + 1) (slV (upd us k q i)) ((s.put k (F (s.at k) a).1).at i) := by
    intro i hi
    rw [St.at_put hk hi]
    by_cases e : i = k
    · rw [if_pos e, show upd us k q i = q by simp [upd, e]]; exact ho.setBox hb5 (by decide)
    · rw [if_neg e, show upd us k q i = us i by simp [upd, e]]; exact ((hown i hi).grown hg (fun g e1 e2 => hap i k hi hk e g e1 e2)).setBox hb5 (by decide)
  have hb6 := hb5.set k (slV q)
  rw [cells4_upd us hk] at hb6
  have l6 : Le _ (w4.setCell ⟨w3.heap.size, k, none⟩ (slV q)) := Below.setCell l5 (by simp only [World.size_alloc]; show w.heap.size + 1 + 1 + 1 ≤ w3.heap.size; omega) _
  go_upto_region 13 with fail
  generalize hW2 : w4.setCell ⟨w3.heap.size, k, none⟩ (slV q) = W2 at hb6 l6 hown5 ⊢
  generalize upd us k q = us' at hb6 hown5
  clear hW2 p1 c5 f5
  obtain ⟨y0, y1, y2, y3, _, _, _, _⟩ := hb6.st
  obtain ⟨z0, z1, z2, z3, f0, f1, f2, f3⟩ := (hb3.le l6).st
  go_wp2_with fail
  refine bodyPost_ret (v := .tuple #[stV us', .int .i64 (F (s.at k) a).2]) (by simp [results, Try.results51, go_sem, z0, z1, z2, z3]) rfl ⟨_, rfl, ⟨us', rfl, fun i hi => ?_⟩, ?_⟩
  · exact ((hown5 i hi).base (by omega)).set4 (hb3.le l6) (by decide) _ _ _ _
  · exact (hl.trans l6).set4 (by omega) _ _ _ _

set_option maxHeartbeats 2000000 in
theorem countedSecond (f g : Nat) (G : List Int → Int → List Int × Int) (hG : TurnsRow g G) (v : Value) (s : St) (k : Nat) (a : Int) (w : World) (hx : HasS w v s) (hf : Fit s) (hlen : ∀ j, j < 4 → (s.at j).length ≤ 4) (hk : k < 4) (ha : 0 ≤ a ∧ a ≤ 255) :
    Calls Try.prog 51 #[v, opV 1 k a, .func (.func f) #[] #[], .func (.func g) #[] #[]] w fun e w' => ∃ v', e = .returned (.tuple #[v', .int .i64 (G (s.at k) a).2]) ∧ OwnS w' w.heap.size v' (s.put k (G (s.at k) a).1) ∧ Le w w' := by
  have hx0 := hx
  obtain ⟨vs, rfl, hr⟩ := hx
  have hl := ((Le.alloc w (.cells (cells4 vs) 25)).trans (Le.alloc _ (.cells #[.int .i64 1, .int .i64 k, .int .i64 a] 43))).trans (Le.alloc _ (.cells (cells4 fun _ => slZ) 25))
  have hb2 := (Box.new (w.alloc (.cells (cells4 vs) 25)) #[.int .i64 1, .int .i64 k, .int .i64 a] 43).le (Le.alloc _ (.cells (cells4 fun _ => slZ) 25))
  have hb3 := Box.new ((w.alloc (.cells (cells4 vs) 25)).alloc (.cells #[.int .i64 1, .int .i64 k, .int .i64 a] 43)) (cells4 fun _ => slZ) 25
  simp only [World.size_alloc] at hb2 hb3
  go_enter Try.func51, Try.ntmps51
  go_wp2_with fail
  refine (statesCopy (stV vs) s _ (hx0.le hl) hf).mono ?_
  rintro e w3 ⟨us, rfl, hown, hap, l1⟩
  replace hown := fun i hi => (hown i hi).base (base' := w.heap.size + 1 + 1 + 1) (by simp)
  have n0 : w.heap.size + 1 + 1 < w3.heap.size := (hb3.le l1).lt
  have n1 : ¬ w.heap.size + 1 + 1 = w3.heap.size := by omega
  have n2 : ¬ w.heap.size + 1 + 1 = w.heap.size := by omega
  have n3 : ¬ w.heap.size + 1 + 1 = w.heap.size + 1 := by omega
  have n4 : ¬ w.heap.size + 1 = w3.heap.size := by omega
  have n5 : ¬ w3.heap.size = w.heap.size + 1 := by omega
  have hb4 := Box.new w3 (cells4 us) 25
  replace l1 := l1.trans (Le.alloc w3 (.cells (cells4 us) 25))
  replace hown := fun i hi => (hown i hi).le (Le.alloc w3 (.cells (cells4 us) 25))
  go_upto_region 2 with fail
  generalize hW : w3.alloc (.cells (cells4 us) 25) = W at hb4 l1 hown ⊢
  clear hW
  have o0 := (hb2.le l1).op.1
  have o1 := (hb2.le l1).op.2.1
  have o2 := (hb2.le l1).op.2.2.1
  have t1 : W.cell? ⟨w3.heap.size, k, none⟩ = some (slV (us k)) := (hb4.cell k).trans (cells4_at us hk)
  have k0 : (0 : Int) ≤ ((k : Nat) : Int) := by omega
  have k1 : ((k : Nat) : Int) < 4 := by omega
  have hcall := hG.calls (slV (us k)) (w.heap.size + 1 + 1 + 1) (s.at k) a W (hown k hk) (by have := l1.size; simpa using this) (hlen k hk) ha
  have hin := hG.enter
  go_wp2_with fail
  refine hcall.mono ?_
  rintro e w4 ⟨v', rfl, ho, hg⟩
  obtain ⟨q, rfl⟩ := ho.has.sl
  have hb5 : Box w4 w3.heap.size (cells4 us) 25 := Box.grown hb4 hg (fun e => (hown k hk).apart hb4 (by decide) e)
  have l5 : Le _ w4 := Below.grown l1 hg l1.size (fun g e => by have := ((hown k hk).block e).1; simpa using this)
  clear o0 o1 o2 t1 hcall hin
  have p1 := (hb2.le l5).op.2.1
  have c5 : w4.cell? ⟨w3.heap.size, k, none⟩ = some (slV (us k)) := (hb5.cell k).trans (cells4_at us hk)
  have f5 := hb5.frozen k
  have hown5 : ∀ i, i < 4 → Own (w4.setCell ⟨w3.heap.size, k, none⟩ (slV q)) (w.heap.size + 1 + 1 + 1) (slV (upd us k q i)) ((s.put k (G (s.at k) a).1).at i) := by
    intro i hi
    rw [St.at_put hk hi]
    by_cases e : i = k
    · rw [if_pos e, show upd us k q i = q by simp [upd, e]]; exact ho.setBox hb5 (by decide)
    · rw [if_neg e, show upd us k q i = us i by simp [upd, e]]; exact ((hown i hi).grown hg (fun g e1 e2 => hap i k hi hk e g e1 e2)).setBox hb5 (by decide)
  have hb6 := hb5.set k (slV q)
  rw [cells4_upd us hk] at hb6
  have l6 : Le _ (w4.setCell ⟨w3.heap.size, k, none⟩ (slV q)) := Below.setCell l5 (by simp only [World.size_alloc]; show w.heap.size + 1 + 1 + 1 ≤ w3.heap.size; omega) _
  go_upto_region 13 with fail
  generalize hW2 : w4.setCell ⟨w3.heap.size, k, none⟩ (slV q) = W2 at hb6 l6 hown5 ⊢
  generalize upd us k q = us' at hb6 hown5
  clear hW2 p1 c5 f5
  obtain ⟨y0, y1, y2, y3, _, _, _, _⟩ := hb6.st
  obtain ⟨z0, z1, z2, z3, f0, f1, f2, f3⟩ := (hb3.le l6).st
  go_wp2_with fail
  refine bodyPost_ret (v := .tuple #[stV us', .int .i64 (G (s.at k) a).2]) (by simp [results, Try.results51, go_sem, z0, z1, z2, z3]) rfl ⟨_, rfl, ⟨us', rfl, fun i hi => ?_⟩, ?_⟩
  · exact ((hown5 i hi).base (by omega)).set4 (hb3.le l6) (by decide) _ _ _ _
  · exact (hl.trans l6).set4 (by omega) _ _ _ _

set_option maxHeartbeats 2000000 in
theorem countedLook (f g : Nat) (v : Value) (s : St) (k : Nat) (w : World) (hx : HasS w v s) (hf : Fit s) (_hlen : ∀ j, j < 4 → (s.at j).length ≤ 4) (hk : k < 4) :
    Calls Try.prog 51 #[v, opV 2 k 0, .func (.func f) #[] #[], .func (.func g) #[] #[]] w fun e w' => ∃ v', e = .returned (.tuple #[v', .int .i64 ((s.at k).length : Int)]) ∧ OwnS w' w.heap.size v' (s) ∧ Le w w' := by
  have hx0 := hx
  obtain ⟨vs, rfl, hr⟩ := hx
  have hl := ((Le.alloc w (.cells (cells4 vs) 25)).trans (Le.alloc _ (.cells #[.int .i64 2, .int .i64 k, .int .i64 0] 43))).trans (Le.alloc _ (.cells (cells4 fun _ => slZ) 25))
  have hb2 := (Box.new (w.alloc (.cells (cells4 vs) 25)) #[.int .i64 2, .int .i64 k, .int .i64 0] 43).le (Le.alloc _ (.cells (cells4 fun _ => slZ) 25))
  have hb3 := Box.new ((w.alloc (.cells (cells4 vs) 25)).alloc (.cells #[.int .i64 2, .int .i64 k, .int .i64 0] 43)) (cells4 fun _ => slZ) 25
  simp only [World.size_alloc] at hb2 hb3
  go_enter Try.func51, Try.ntmps51
  go_wp2_with fail
  refine (statesCopy (stV vs) s _ (hx0.le hl) hf).mono ?_
  rintro e w3 ⟨us, rfl, hown, hap, l1⟩
  replace hown := fun i hi => (hown i hi).base (base' := w.heap.size + 1 + 1 + 1) (by simp)
  have n0 : w.heap.size + 1 + 1 < w3.heap.size := (hb3.le l1).lt
  have n1 : ¬ w.heap.size + 1 + 1 = w3.heap.size := by omega
  have n2 : ¬ w.heap.size + 1 + 1 = w.heap.size := by omega
  have n3 : ¬ w.heap.size + 1 + 1 = w.heap.size + 1 := by omega
  have n4 : ¬ w.heap.size + 1 = w3.heap.size := by omega
  have n5 : ¬ w3.heap.size = w.heap.size + 1 := by omega
  have hb4 := Box.new w3 (cells4 us) 25
  replace l1 := l1.trans (Le.alloc w3 (.cells (cells4 us) 25))
  replace hown := fun i hi => (hown i hi).le (Le.alloc w3 (.cells (cells4 us) 25))
  go_upto_region 2 with fail
  generalize hW : w3.alloc (.cells (cells4 us) 25) = W at hb4 l1 hown ⊢
  clear hW
  have o0 := (hb2.le l1).op.1
  have o1 := (hb2.le l1).op.2.1
  have o2 := (hb2.le l1).op.2.2.1
  have t1 : W.cell? ⟨w3.heap.size, k, none⟩ = some (slV (us k)) := (hb4.cell k).trans (cells4_at us hk)
  have k0 : (0 : Int) ≤ ((k : Nat) : Int) := by omega
  have k1 : ((k : Nat) : Int) < 4 := by omega
  have hle : (us k).2.1 = (s.at k).length := by
    obtain ⟨ad, cap, e, _⟩ := (hown k hk).has
    simp only [Value.slice.injEq] at e
    exact e.2.1
  have p1 := o1
  have c5 := t1
  have f5 := hb4.frozen k
  have hb5 := hb4
  have l5 := l1
  have ho := hown k hk
  have hg : W.grownBy W none := World.grownBy.refl _ _
  have hap : ∀ i j : Nat, i < 4 → j < 4 → i ≠ j → ∀ g : Nat, (slV (us i)).ownBlock = some g → (none : Option Nat) ≠ some g := fun _ _ _ _ _ _ _ h => by cases h
  have HLE : Hid ((us k).2.1 = (s.at k).length) := hle
  clear hle
  generalize hq : us k = q at ho t1 c5 HLE ⊢
  obtain ⟨w4, hw4⟩ : ∃ w4, w4 = W := ⟨_, rfl⟩
  subst hw4
  have hown5 : ∀ i, i < 4 → Own (w4.setCell ⟨w3.heap.size, k, none⟩ (slV q)) (w.heap.size + 1 + 1 + 1) (slV (upd us k q i)) ((s.put k (s.at k)).at i) := by
    intro i hi
    rw [St.at_put hk hi]
    by_cases e : i = k
    · rw [if_pos e, show upd us k q i = q by simp [upd, e]]; exact ho.setBox hb5 (by decide)
    · rw [if_neg e, show upd us k q i = us i by simp [upd, e]]; exact ((hown i hi).grown hg (fun g e1 e2 => hap i k hi hk e g e1 e2)).setBox hb5 (by decide)
  have hb6 := hb5.set k (slV q)
  rw [cells4_upd us hk] at hb6
  have l6 : Le _ (w4.setCell ⟨w3.heap.size, k, none⟩ (slV q)) := Below.setCell l5 (by simp only [World.size_alloc]; show w.heap.size + 1 + 1 + 1 ≤ w3.heap.size; omega) _
  go_upto_region 13 with fail
  generalize hW2 : w4.setCell ⟨w3.heap.size, k, none⟩ (slV q) = W2 at hb6 l6 hown5 ⊢
  generalize upd us k q = us' at hb6 hown5
  clear hW2 p1 c5 f5
  obtain ⟨y0, y1, y2, y3, _, _, _, _⟩ := hb6.st
  obtain ⟨z0, z1, z2, z3, f0, f1, f2, f3⟩ := (hb3.le l6).st
  go_wp2_with fail
  refine bodyPost_ret (v := .tuple #[stV us', .int .i64 (q.2.1 : Int)]) (by simp [results, Try.results51, go_sem, z0, z1, z2, z3]) rfl ⟨stV us', by rw [HLE.out], ⟨us', rfl, fun i hi => ?_⟩, ?_⟩
  · rw [← St.put_same (s := s) hk]; exact ((hown5 i hi).base (by omega)).set4 (hb3.le l6) (by decide) _ _ _ _
  · exact (hl.trans l6).set4 (by omega) _ _ _ _

set_option maxHeartbeats 2000000 in
theorem countedScan (f g : Nat) (v : Value) (s : St) (w : World) (hx : HasS w v s) (hf : Fit s) (hlen : ∀ j, j < 4 → (s.at j).length ≤ 4) :
    Calls Try.prog 51 #[v, opV 3 0 0, .func (.func f) #[] #[], .func (.func g) #[] #[]] w fun e w' => ∃ v', e = .returned (.tuple #[v', .int .i64 (manyTo s 4)]) ∧ OwnS w' w.heap.size v' (s) ∧ Le w w' := by
  have hk : (0 : Nat) < 4 := by omega
  have hx0 := hx
  obtain ⟨vs, rfl, hr⟩ := hx
  have hl := ((Le.alloc w (.cells (cells4 vs) 25)).trans (Le.alloc _ (.cells #[.int .i64 3, .int .i64 0, .int .i64 0] 43))).trans (Le.alloc _ (.cells (cells4 fun _ => slZ) 25))
  have hb2 := (Box.new (w.alloc (.cells (cells4 vs) 25)) #[.int .i64 3, .int .i64 0, .int .i64 0] 43).le (Le.alloc _ (.cells (cells4 fun _ => slZ) 25))
  have hb3 := Box.new ((w.alloc (.cells (cells4 vs) 25)).alloc (.cells #[.int .i64 3, .int .i64 0, .int .i64 0] 43)) (cells4 fun _ => slZ) 25
  simp only [World.size_alloc] at hb2 hb3
  go_enter Try.func51, Try.ntmps51
  go_wp2_with fail
  refine (statesCopy (stV vs) s _ (hx0.le hl) hf).mono ?_
  rintro e w3 ⟨us, rfl, hown, hap, l1⟩
  replace hown := fun i hi => (hown i hi).base (base' := w.heap.size + 1 + 1 + 1) (by simp)
  have n0 : w.heap.size + 1 + 1 < w3.heap.size := (hb3.le l1).lt
  have n1 : ¬ w.heap.size + 1 + 1 = w3.heap.size := by omega
  have n2 : ¬ w.heap.size + 1 + 1 = w.heap.size := by omega
  have n3 : ¬ w.heap.size + 1 + 1 = w.heap.size + 1 := by omega
  have n4 : ¬ w.heap.size + 1 = w3.heap.size := by omega
  have n5 : ¬ w3.heap.size = w.heap.size + 1 := by omega
  have hb4 := Box.new w3 (cells4 us) 25
  replace l1 := l1.trans (Le.alloc w3 (.cells (cells4 us) 25))
  replace hown := fun i hi => (hown i hi).le (Le.alloc w3 (.cells (cells4 us) 25))
  go_upto_region 2 with fail
  generalize hW : w3.alloc (.cells (cells4 us) 25) = W at hb4 l1 hown ⊢
  clear hW
  have o0 := (hb2.le l1).op.1
  have o1 := (hb2.le l1).op.2.1
  have o2 := (hb2.le l1).op.2.2.1
  have t1 : W.cell? ⟨w3.heap.size, 0, none⟩ = some (slV (us 0)) := (hb4.cell 0).trans (cells4_at us hk)
  have k0 : (0 : Int) ≤ ((0 : Nat) : Int) := by omega
  have k1 : ((0 : Nat) : Int) < 4 := by omega
  obtain ⟨x0, x1, x2, x3, _, _, _, _⟩ := hb4.st
  have hcount := statesCount (stV us) s W (OwnS.has ⟨us, rfl, hown⟩) (fun j hj => by have := hlen j hj; omega)
  go_wp2_with fail
  refine hcount.mono ?_
  rintro e w4 ⟨rfl, l4⟩
  have hb5 := hb4.le l4
  have l5 := l1.trans l4
  have ho := (hown 0 hk).le l4
  have hg := l4.grownBy none
  have hap : ∀ i j : Nat, i < 4 → j < 4 → i ≠ j → ∀ g : Nat, (slV (us i)).ownBlock = some g → (none : Option Nat) ≠ some g := fun _ _ _ _ _ _ _ h => by cases h
  clear o0 o1 o2 t1 x0 x1 x2 x3 hcount
  have p1 := (hb2.le l5).op.2.1
  have c5 : w4.cell? ⟨w3.heap.size, 0, none⟩ = some (slV (us 0)) := (hb5.cell 0).trans (cells4_at us hk)
  have f5 := hb5.frozen 0
  generalize hq : us 0 = q at ho c5 ⊢
  have hown5 : ∀ i, i < 4 → Own (w4.setCell ⟨w3.heap.size, 0, none⟩ (slV q)) (w.heap.size + 1 + 1 + 1) (slV (upd us 0 q i)) ((s.put 0 (s.at 0)).at i) := by
    intro i hi
    rw [St.at_put hk hi]
    by_cases e : i = 0
    · rw [if_pos e, show upd us 0 q i = q by simp [upd, e]]; exact ho.setBox hb5 (by decide)
    · rw [if_neg e, show upd us 0 q i = us i by simp [upd, e]]; exact ((hown i hi).grown hg (fun g e1 e2 => hap i 0 hi hk e g e1 e2)).setBox hb5 (by decide)
  have hb6 := hb5.set 0 (slV q)
  rw [cells4_upd us hk] at hb6
  have l6 : Le _ (w4.setCell ⟨w3.heap.size, 0, none⟩ (slV q)) := Below.setCell l5 (by simp only [World.size_alloc]; show w.heap.size + 1 + 1 + 1 ≤ w3.heap.size; omega) _
  go_upto_region 13 with fail
  generalize hW2 : w4.setCell ⟨w3.heap.size, 0, none⟩ (slV q) = W2 at hb6 l6 hown5 ⊢
  generalize upd us 0 q = us' at hb6 hown5
  clear hW2 p1 c5 f5
  obtain ⟨y0, y1, y2, y3, _, _, _, _⟩ := hb6.st
  obtain ⟨z0, z1, z2, z3, f0, f1, f2, f3⟩ := (hb3.le l6).st
  go_wp2_with fail
  refine bodyPost_ret (v := .tuple #[stV us', .int .i64 (manyTo s 4)]) (by simp [results, Try.results51, go_sem, z0, z1, z2, z3]) rfl ⟨_, rfl, ⟨us', rfl, fun i hi => ?_⟩, ?_⟩
  · rw [← St.put_same (s := s) hk]; exact ((hown5 i hi).base (by omega)).set4 (hb3.le l6) (by decide) _ _ _ _
  · exact (hl.trans l6).set4 (by omega) _ _ _ _

/-- What an operation that may be makes of a state, where looks and scans count. -/
def cntY (F G : List Int → Int → List Int × Int) (s : St) (c r a : Int) : St × Int :=
  if c = 3 then (s, manyTo s 4)
  else if c = 2 then (s, ((s.at r.toNat).length : Int))
  else if c = 1 then (s.put r.toNat (G (s.at r.toNat) a).1, (G (s.at r.toNat) a).2)
  else (s.put r.toNat (F (s.at r.toNat) a).1, (F (s.at r.toNat) a).2)

/-- .. the document's answer: the state, the answer, the error. -/
def cntS (p : List Int → Bool) (F G : List Int → Int → List Int × Int) (s : St) (c r a e : Int) : St × Int × Int :=
  if s.all p && opMay c r a then ((cntY F G s c r a).1, (cntY F G s c r a).2, 0) else (St.zero, 0, e)

theorem countedAll (f g : Nat) (F G : List Int → Int → List Int × Int) (hF : TurnsRow f F) (hG : TurnsRow g G) (v : Value) (s : St) (c r a : Int) (w : World) (hx : HasS w v s) (hf : Fit s) (hlen : ∀ j, j < 4 → (s.at j).length ≤ 4) (ho : opMay c r a = true) :
    Calls Try.prog 51 #[v, opV c r a, .func (.func f) #[] #[], .func (.func g) #[] #[]] w fun e w' => ∃ v', e = .returned (.tuple #[v', .int .i64 (cntY F G s c r a).2]) ∧ OwnS w' w.heap.size v' (cntY F G s c r a).1 ∧ Le w w' := by
  rcases opMay_cases ho with ⟨k, hk, rfl, rfl, ha⟩ | ⟨k, hk, rfl, rfl, ha⟩ | ⟨k, hk, rfl, rfl, rfl⟩ | ⟨rfl, rfl, rfl⟩
  · exact countedFirst f g F hF v s k a w hx hf hlen hk ha
  · exact countedSecond f g G hG v s k a w hx hf hlen hk ha
  · exact countedLook f g v s k w hx hf hlen hk
  · exact countedScan f g v s w hx hf hlen

theorem cntS_no {p : List Int → Bool} {F G : List Int → Int → List Int × Int} {s : St} {c r a er : Int} (h : (s.all p && opMay c r a) = false) : cntS p F G s c r a er = (St.zero, 0, er) := by simp [cntS, h]
theorem cntS_yes {p : List Int → Bool} {F G : List Int → Int → List Int × Int} {s : St} {c r a er : Int} (h : (s.all p && opMay c r a) = true) : cntS p F G s c r a er = ((cntY F G s c r a).1, (cntY F G s c r a).2, 0) := by simp [cntS, h]
theorem cntS_scan {p : List Int → Bool} {F G : List Int → Int → List Int × Int} {s : St} {er : Int} (h : s.all p = true) : cntS p F G s 3 0 0 er = (s, manyTo s 4, 0) := by
  have : opMay 3 0 0 = true := by decide
  simp [cntS, cntY, h, this]
theorem cntS_look {p : List Int → Bool} {F G : List Int → Int → List Int × Int} {s : St} {k : Nat} {er : Int} (h : s.all p = true) (hk : k < 4) : cntS p F G s 2 k 0 er = (s, ((s.at k).length : Int), 0) := by
  have : opMay 2 k 0 = true := by simp [opMay]; omega
  simp [cntS, cntY, h, this]
theorem cntS_first {p : List Int → Bool} {F G : List Int → Int → List Int × Int} {s : St} {k : Nat} {a er : Int} (h : s.all p = true) (hk : k < 4) (ha : 0 ≤ a ∧ a ≤ 255) : cntS p F G s 0 k a er = (s.put k (F (s.at k) a).1, (F (s.at k) a).2, 0) := by
  have : opMay 0 k a = true := by simp [opMay]; omega
  simp [cntS, cntY, h, this]
theorem cntS_second {p : List Int → Bool} {F G : List Int → Int → List Int × Int} {s : St} {k : Nat} {a er : Int} (h : s.all p = true) (hk : k < 4) (ha : 0 ≤ a ∧ a ≤ 255) : cntS p F G s 1 k a er = (s.put k (G (s.at k) a).1, (G (s.at k) a).2, 0) := by
  have : opMay 1 k a = true := by simp [opMay]; omega
  simp [cntS, cntY, h, this]

end Go.Proofs.Ytnpejgendmgfaaa
