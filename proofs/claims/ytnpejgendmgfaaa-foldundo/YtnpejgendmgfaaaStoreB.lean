/-
  THE WALK over store.Apply: what it answers, for every state and operation, and that what it hands back lies in memory of its own. Condition: the state's rows can be copied.
-/
import Derived.Test.YtnpejgendmgfaaaStoreA
import Derived.Deep.RegionHeld3
import Derived.Deep.Cut
namespace Go.Proofs.Ytnpejgendmgfaaa
open Go.RowKit

/-- The document's answer: the state, the answer, the error. -/
def stoS (s : St) (c r a e : Int) : St × Int × Int :=
  if s.all rowMay1 && opMay c r a then
    (if c = 3 then (s, sumTo s 4, 0)
    else (if c = 0 then s.put r.toNat [a] else if c = 1 then s.put r.toNat [] else s, firstS (s.at r.toNat), 0))
  else (St.zero, 0, e)

set_option maxHeartbeats 2000000 in
theorem storeApplyNo (v : Value) (s : St) (c r a : Int) (w : World) (hx : HasS w v s) (h : (s.all rowMay1 && opMay c r a) = false) :
    Calls Try.prog 42 #[v, opV c r a] w fun e w' => e = .returned (.tuple #[stZ, .int .i64 0, .int .i64 300]) ∧ Le w w' := by
  have hx0 := hx
  obtain ⟨vs, rfl, hr⟩ := hx
  have hl := ((Le.alloc w (.cells (cells4 vs) 25)).trans (Le.alloc _ (.cells #[.int .i64 c, .int .i64 r, .int .i64 a] 43))).trans (Le.alloc _ (.cells (cells4 fun _ => slZ) 25))
  have hb1 := ((Box.new w (cells4 vs) 25).le (Le.alloc _ (.cells #[.int .i64 c, .int .i64 r, .int .i64 a] 43))).le (Le.alloc _ (.cells (cells4 fun _ => slZ) 25))
  have hb2 := (Box.new (w.alloc (.cells (cells4 vs) 25)) #[.int .i64 c, .int .i64 r, .int .i64 a] 43).le (Le.alloc _ (.cells (cells4 fun _ => slZ) 25))
  have hb3 := Box.new ((w.alloc (.cells (cells4 vs) 25)).alloc (.cells #[.int .i64 c, .int .i64 r, .int .i64 a] 43)) (cells4 fun _ => slZ) 25
  simp only [World.size_alloc] at hb1 hb2 hb3
  cases hm : s.all rowMay1
  · have hmay := storeMay (stV vs) s _ (hx0.le hl)
    rw [hm] at hmay
    go_enter Try.func42, Try.ntmps42
    go_wp2_with fail
    refine hmay.mono ?_
    rintro e w1 ⟨rfl, l1⟩
    obtain ⟨z0, z1, z2, z3, f0, f1, f2, f3⟩ := (hb3.le l1).st
    go_wp2_with fail
    refine bodyPost_ret (v := .tuple #[stZ, .int .i64 0, .int .i64 300]) (by simp [results, Try.results42, go_sem, z0, z1, z2, z3]) rfl ⟨rfl, ?_⟩
    exact (hl.trans l1).set4 (by omega) _ _ _ _
  · have hop : opMay c r a = false := by simpa [hm] using h
    have hmay := storeMay (stV vs) s _ (hx0.le hl)
    rw [hm] at hmay
    go_enter Try.func42, Try.ntmps42
    go_wp2_with fail
    refine hmay.mono ?_
    rintro e w1 ⟨rfl, l1⟩
    obtain ⟨y0, y1, y2, _, _, _⟩ := (hb2.le l1).op
    go_wp2_with fail
    refine (operMay _ _ _ _).mono ?_
    rw [hop]
    rintro e w2 ⟨rfl, l2⟩
    obtain ⟨z0, z1, z2, z3, f0, f1, f2, f3⟩ := ((hb3.le l1).le l2).st
    go_wp2_with fail
    refine bodyPost_ret (v := .tuple #[stZ, .int .i64 0, .int .i64 300]) (by simp [results, Try.results42, go_sem, z0, z1, z2, z3]) rfl ⟨rfl, ?_⟩
    exact ((hl.trans l1).trans l2).set4 (by omega) _ _ _ _

set_option maxHeartbeats 2000000 in
theorem storeApplyScan (v : Value) (s : St) (w : World) (hx : HasS w v s) (hf : Fit s) (hm : s.all rowMay1 = true) :
    Calls Try.prog 42 #[v, opV 3 0 0] w fun e w' => ∃ v', e = .returned (.tuple #[v', .int .i64 (sumTo s 4), .int .i64 0]) ∧ OwnS w' w.heap.size v' (s) ∧ Le w w' := by
  have hx0 := hx
  obtain ⟨vs, rfl, hr⟩ := hx
  have hl := ((Le.alloc w (.cells (cells4 vs) 25)).trans (Le.alloc _ (.cells #[.int .i64 3, .int .i64 0, .int .i64 0] 43))).trans (Le.alloc _ (.cells (cells4 fun _ => slZ) 25))
  have hb1 := ((Box.new w (cells4 vs) 25).le (Le.alloc _ (.cells #[.int .i64 3, .int .i64 0, .int .i64 0] 43))).le (Le.alloc _ (.cells (cells4 fun _ => slZ) 25))
  have hb2 := (Box.new (w.alloc (.cells (cells4 vs) 25)) #[.int .i64 3, .int .i64 0, .int .i64 0] 43).le (Le.alloc _ (.cells (cells4 fun _ => slZ) 25))
  have hb3 := Box.new ((w.alloc (.cells (cells4 vs) 25)).alloc (.cells #[.int .i64 3, .int .i64 0, .int .i64 0] 43)) (cells4 fun _ => slZ) 25
  simp only [World.size_alloc] at hb1 hb2 hb3
  have hmay := storeMay (stV vs) s _ (hx0.le hl)
  rw [hm] at hmay
  have hop : opMay 3 0 0 = true := by decide
  go_enter Try.func42, Try.ntmps42
  go_wp2_with fail
  refine hmay.mono ?_
  rintro e w1 ⟨rfl, l1⟩
  obtain ⟨y0, y1, y2, _, _, _⟩ := (hb2.le l1).op
  clear hmay
  go_wp2_with fail
  refine (operMay _ _ _ _).mono ?_
  rw [hop]
  rintro e w2 ⟨rfl, l2⟩
  replace l1 := l1.trans l2
  clear l2 y0 y1 y2
  obtain ⟨y0, y1, y2, y3, _, _, _, _⟩ := (hb1.le l1).st
  go_wp2_with fail
  refine (storeCopied (stV vs) s _ (hx0.le (hl.trans l1)) hf).mono ?_
  rintro e w3 ⟨_, rfl, ⟨us, rfl, hown⟩, l3⟩
  replace hown := fun i hi => (hown i hi).base (base' := w.heap.size) (hl.trans l1).size
  replace l1 := l1.trans l3
  clear l3 y0 y1 y2 y3
  have n0 : w.heap.size + 1 + 1 < w3.heap.size := (hb3.le l1).lt
  have n1 : ¬ w.heap.size + 1 + 1 = w3.heap.size := by omega
  have n2 : ¬ w.heap.size + 1 + 1 = w.heap.size := by omega
  have n3 : ¬ w.heap.size + 1 + 1 = w.heap.size + 1 := by omega
  have hb4 := Box.new w3 (cells4 us) 25
  replace l1 := l1.trans (Le.alloc w3 (.cells (cells4 us) 25))
  replace hown := fun i hi => (hown i hi).le (Le.alloc w3 (.cells (cells4 us) 25))
  obtain ⟨y0, y1, y2, _, _, _⟩ := (hb2.le l1).op
  go_upto_region 6 with fail
  generalize hW : w3.alloc (.cells (cells4 us) 25) = W at hb4 l1 hown ⊢
  clear y0 y1 y2 hW
  obtain ⟨y0, y1, y2, y3, _, _, _, _⟩ := hb4.st
  obtain ⟨x0, x1, x2, x3, _, _, _, _⟩ := (hb1.le l1).st
  obtain ⟨z0, z1, z2, z3, f0, f1, f2, f3⟩ := (hb3.le l1).st
  have hsum := fun (w' : World) (h : Le W w') => storeSum (stV vs) s w' (hx0.le ((hl.trans l1).trans h)) hm
  go_region_held3 (fun w' => w'.cell? ⟨w3.heap.size, 0, none⟩ = some (slV (us 0)) ∧ w'.cell? ⟨w3.heap.size, 1, none⟩ = some (slV (us 1)) ∧ w'.cell? ⟨w3.heap.size, 2, none⟩ = some (slV (us 2)) ∧ w'.cell? ⟨w3.heap.size, 3, none⟩ = some (slV (us 3)) ∧ w'.cell? ⟨w.heap.size, 0, none⟩ = some (slV (vs 0)) ∧ w'.cell? ⟨w.heap.size, 1, none⟩ = some (slV (vs 1)) ∧ w'.cell? ⟨w.heap.size, 2, none⟩ = some (slV (vs 2)) ∧ w'.cell? ⟨w.heap.size, 3, none⟩ = some (slV (vs 3))) (go_keep) ((go_at_call 48; refine (hsum _ (Le.drew _)).mono ?_; rintro e w4 ⟨rfl, l4⟩; replace l4 := (Le.drew W).trans l4; obtain ⟨y0', y1', y2', y3', _, _, _, _⟩ := (hb4.le l4).st; obtain ⟨x0', x1', x2', x3', _, _, _, _⟩ := (hb1.le (l1.trans l4)).st; obtain ⟨z0', z1', z2', z3', f0', f1', f2', f3'⟩ := (hb3.le (l1.trans l4)).st))
  all_goals
    go_wp2_with fail
    refine bodyPost_ret (v := .tuple #[stV us, .int .i64 (sumTo s 4), .int .i64 0]) (by simp [results, Try.results42, go_sem, z0', z1', z2', z3']) rfl ⟨_, rfl, ⟨us, rfl, fun i hi => ?_⟩, ?_⟩
    · exact ((hown i hi).le l4).set4 (hb3.le (l1.trans l4)) (by decide) _ _ _ _
    · exact ((hl.trans l1).trans l4).set4 (by omega) _ _ _ _

set_option maxHeartbeats 2000000 in
theorem storeApplyLook (v : Value) (s : St) (k : Nat) (w : World) (hx : HasS w v s) (hf : Fit s) (hm : s.all rowMay1 = true) (hk : k < 4) :
    Calls Try.prog 42 #[v, opV 2 k 0] w fun e w' => ∃ v', e = .returned (.tuple #[v', .int .i64 (firstS (s.at k)), .int .i64 0]) ∧ OwnS w' w.heap.size v' (s) ∧ Le w w' := by
  have hx0 := hx
  obtain ⟨vs, rfl, hr⟩ := hx
  have hl := ((Le.alloc w (.cells (cells4 vs) 25)).trans (Le.alloc _ (.cells #[.int .i64 2, .int .i64 k, .int .i64 0] 43))).trans (Le.alloc _ (.cells (cells4 fun _ => slZ) 25))
  have hb1 := ((Box.new w (cells4 vs) 25).le (Le.alloc _ (.cells #[.int .i64 2, .int .i64 k, .int .i64 0] 43))).le (Le.alloc _ (.cells (cells4 fun _ => slZ) 25))
  have hb2 := (Box.new (w.alloc (.cells (cells4 vs) 25)) #[.int .i64 2, .int .i64 k, .int .i64 0] 43).le (Le.alloc _ (.cells (cells4 fun _ => slZ) 25))
  have hb3 := Box.new ((w.alloc (.cells (cells4 vs) 25)).alloc (.cells #[.int .i64 2, .int .i64 k, .int .i64 0] 43)) (cells4 fun _ => slZ) 25
  simp only [World.size_alloc] at hb1 hb2 hb3
  have hmay := storeMay (stV vs) s _ (hx0.le hl)
  rw [hm] at hmay
  have hop : opMay 2 k 0 = true := by simp [opMay]; omega
  go_enter Try.func42, Try.ntmps42
  go_wp2_with fail
  refine hmay.mono ?_
  rintro e w1 ⟨rfl, l1⟩
  obtain ⟨y0, y1, y2, _, _, _⟩ := (hb2.le l1).op
  clear hmay
  go_wp2_with fail
  refine (operMay _ _ _ _).mono ?_
  rw [hop]
  rintro e w2 ⟨rfl, l2⟩
  replace l1 := l1.trans l2
  clear l2 y0 y1 y2
  obtain ⟨y0, y1, y2, y3, _, _, _, _⟩ := (hb1.le l1).st
  go_wp2_with fail
  refine (storeCopied (stV vs) s _ (hx0.le (hl.trans l1)) hf).mono ?_
  rintro e w3 ⟨_, rfl, ⟨us, rfl, hown⟩, l3⟩
  replace hown := fun i hi => (hown i hi).base (base' := w.heap.size) (hl.trans l1).size
  replace l1 := l1.trans l3
  clear l3 y0 y1 y2 y3
  have n0 : w.heap.size + 1 + 1 < w3.heap.size := (hb3.le l1).lt
  have n1 : ¬ w.heap.size + 1 + 1 = w3.heap.size := by omega
  have n2 : ¬ w.heap.size + 1 + 1 = w.heap.size := by omega
  have n3 : ¬ w.heap.size + 1 + 1 = w.heap.size + 1 := by omega
  have hb4 := Box.new w3 (cells4 us) 25
  replace l1 := l1.trans (Le.alloc w3 (.cells (cells4 us) 25))
  replace hown := fun i hi => (hown i hi).le (Le.alloc w3 (.cells (cells4 us) 25))
  obtain ⟨y0, y1, y2, _, _, _⟩ := (hb2.le l1).op
  go_upto_region 11 with fail
  generalize hW : w3.alloc (.cells (cells4 us) 25) = W at hb4 l1 hown ⊢
  clear y0 y1 y2 hW
  obtain ⟨y0, y1, y2, y3, _, _, _, _⟩ := hb4.st
  obtain ⟨z0, z1, z2, z3, f0, f1, f2, f3⟩ := (hb3.le l1).st
  have k0 : (0 : Int) ≤ (k : Int) := by omega
  have k1 : (k : Int) < 4 := by omega
  have o1 := (hb2.le l1).op.2.1
  have x1 : W.cell? ⟨w.heap.size, k, none⟩ = some (slV (vs k)) := ((hb1.le l1).cell k).trans (cells4_at vs hk)
  have hnum := storeNumber (slV (vs k)) (s.at k) W.drew ((hr k hk).le ((hl.trans l1).trans (Le.drew _)))
  go_region_held3 (fun w' => w'.cell? ⟨w3.heap.size, 0, none⟩ = some (slV (us 0)) ∧ w'.cell? ⟨w3.heap.size, 1, none⟩ = some (slV (us 1)) ∧ w'.cell? ⟨w3.heap.size, 2, none⟩ = some (slV (us 2)) ∧ w'.cell? ⟨w3.heap.size, 3, none⟩ = some (slV (us 3)) ∧ w'.cell? ⟨w.heap.size + 1, 1, none⟩ = some (.int .i64 k) ∧ w'.cell? ⟨w.heap.size, k, none⟩ = some (slV (vs k))) (go_keep) ((go_at_call 49; refine hnum.mono ?_; rintro e w4 ⟨rfl, rfl⟩))
  all_goals
    go_wp2_with fail
    refine bodyPost_ret (v := .tuple #[stV us, .int .i64 (firstS (s.at k)), .int .i64 0]) (by simp [results, Try.results42, go_sem, z0, z1, z2, z3]) rfl ⟨_, rfl, ⟨us, rfl, fun i hi => ?_⟩, ?_⟩
    · exact ((hown i hi).le (Le.drew _)).set4 (hb3.le (l1.trans (Le.drew _))) (by decide) _ _ _ _
    · exact ((hl.trans l1).trans (Le.drew _)).set4 (by omega) _ _ _ _

set_option maxHeartbeats 2000000 in
theorem storeApplyFirst (v : Value) (s : St) (k : Nat) (a : Int) (w : World) (hx : HasS w v s) (hf : Fit s) (hm : s.all rowMay1 = true) (hk : k < 4) (ha : 0 ≤ a ∧ a ≤ 255) :
    Calls Try.prog 42 #[v, opV 0 k a] w fun e w' => ∃ v', e = .returned (.tuple #[v', .int .i64 (firstS (s.at k)), .int .i64 0]) ∧ OwnS w' w.heap.size v' (s.put k [a]) ∧ Le w w' := by
  have hx0 := hx
  obtain ⟨vs, rfl, hr⟩ := hx
  have hl := ((Le.alloc w (.cells (cells4 vs) 25)).trans (Le.alloc _ (.cells #[.int .i64 0, .int .i64 k, .int .i64 a] 43))).trans (Le.alloc _ (.cells (cells4 fun _ => slZ) 25))
  have hb1 := ((Box.new w (cells4 vs) 25).le (Le.alloc _ (.cells #[.int .i64 0, .int .i64 k, .int .i64 a] 43))).le (Le.alloc _ (.cells (cells4 fun _ => slZ) 25))
  have hb2 := (Box.new (w.alloc (.cells (cells4 vs) 25)) #[.int .i64 0, .int .i64 k, .int .i64 a] 43).le (Le.alloc _ (.cells (cells4 fun _ => slZ) 25))
  have hb3 := Box.new ((w.alloc (.cells (cells4 vs) 25)).alloc (.cells #[.int .i64 0, .int .i64 k, .int .i64 a] 43)) (cells4 fun _ => slZ) 25
  simp only [World.size_alloc] at hb1 hb2 hb3
  have hmay := storeMay (stV vs) s _ (hx0.le hl)
  rw [hm] at hmay
  have hop : opMay 0 k a = true := by simp [opMay]; omega
  go_enter Try.func42, Try.ntmps42
  go_wp2_with fail
  refine hmay.mono ?_
  rintro e w1 ⟨rfl, l1⟩
  obtain ⟨y0, y1, y2, _, _, _⟩ := (hb2.le l1).op
  clear hmay
  go_wp2_with fail
  refine (operMay _ _ _ _).mono ?_
  rw [hop]
  rintro e w2 ⟨rfl, l2⟩
  replace l1 := l1.trans l2
  clear l2 y0 y1 y2
  obtain ⟨y0, y1, y2, y3, _, _, _, _⟩ := (hb1.le l1).st
  go_wp2_with fail
  refine (storeCopied (stV vs) s _ (hx0.le (hl.trans l1)) hf).mono ?_
  rintro e w3 ⟨_, rfl, ⟨us, rfl, hown⟩, l3⟩
  replace hown := fun i hi => (hown i hi).base (base' := w.heap.size) (hl.trans l1).size
  replace l1 := l1.trans l3
  clear l3 y0 y1 y2 y3
  have n0 : w.heap.size + 1 + 1 < w3.heap.size := (hb3.le l1).lt
  have n1 : ¬ w.heap.size + 1 + 1 = w3.heap.size := by omega
  have n2 : ¬ w.heap.size + 1 + 1 = w.heap.size := by omega
  have n3 : ¬ w.heap.size + 1 + 1 = w.heap.size + 1 := by omega
  have hb4 := Box.new w3 (cells4 us) 25
  replace l1 := l1.trans (Le.alloc w3 (.cells (cells4 us) 25))
  replace hown := fun i hi => (hown i hi).le (Le.alloc w3 (.cells (cells4 us) 25))
  obtain ⟨y0, y1, y2, _, _, _⟩ := (hb2.le l1).op
  go_upto_region 8 with fail
  generalize hW : w3.alloc (.cells (cells4 us) 25) = W at hb4 l1 hown ⊢
  clear y0 y1 y2 hW
  have o1 := (hb2.le l1).op.2.1
  have o2 := (hb2.le l1).op.2.2.1
  have t1 : (W.alloc (.cells #[.int .i64 a] 3)).cell? ⟨w3.heap.size, k, none⟩ = some (slV (us k)) := ((hb4.le (Le.alloc W _)).cell k).trans (cells4_at us hk)
  have tf := (hb4.le (Le.alloc W (.cells #[.int .i64 a] 3))).frozen k
  have hnew : Own (W.alloc (.cells #[.int .i64 a] 3)) w.heap.size (slV (some ⟨W.heap.size, 0, none⟩, 1, 1)) [a] := Own.lit W _ (hl.trans l1).size [a] (by simp)
  go_upto_region 11 with fail
  replace hnew := hnew.setBox (i := k) (u := slV (some ⟨W.heap.size, 0, none⟩, 1, 1)) (hb4.le (Le.alloc W _)) (by decide)
  replace hown := fun i hi => ((hown i hi).le (Le.alloc W (.cells #[.int .i64 a] 3))).setBox (i := k) (u := slV (some ⟨W.heap.size, 0, none⟩, 1, 1)) (hb4.le (Le.alloc W _)) (by decide)
  replace hb4 := (hb4.le (Le.alloc W (.cells #[.int .i64 a] 3))).set k (slV (some ⟨W.heap.size, 0, none⟩, 1, 1))
  rw [cells4_upd us hk] at hb4
  replace l1 : Le _ ((W.alloc (.cells #[.int .i64 a] 3)).setCell ⟨w3.heap.size, k, none⟩ (slV (some ⟨W.heap.size, 0, none⟩, 1, 1))) := Below.setCell (l1.trans (Le.alloc W _)) (by simp only [World.size_alloc]; show w.heap.size + 1 + 1 + 1 ≤ w3.heap.size; omega) _
  generalize hW2 : (W.alloc (.cells #[.int .i64 a] 3)).setCell ⟨w3.heap.size, k, none⟩ (slV (some ⟨W.heap.size, 0, none⟩, 1, 1)) = W2 at hb4 l1 hown hnew ⊢
  replace hown : ∀ i, i < 4 → Own W2 w.heap.size (slV (upd us k (some ⟨W.heap.size, 0, none⟩, 1, 1) i)) ((s.put k [a]).at i) := by
    intro i hi
    rw [St.at_put hk hi]
    by_cases e : i = k
    · rw [if_pos e, show upd us k (some ⟨W.heap.size, 0, none⟩, 1, 1) i = (some ⟨W.heap.size, 0, none⟩, 1, 1) by simp [upd, e]]; exact hnew
    · rw [if_neg e, show upd us k (some ⟨W.heap.size, 0, none⟩, 1, 1) i = us i by simp [upd, e]]; exact hown i hi
  generalize upd us k (some ⟨W.heap.size, 0, none⟩, 1, 1) = us at hb4 hown
  clear hW2 hnew t1 tf o1 o2
  generalize W2 = W at hb4 l1 hown ⊢
  obtain ⟨y0, y1, y2, y3, _, _, _, _⟩ := hb4.st
  obtain ⟨z0, z1, z2, z3, f0, f1, f2, f3⟩ := (hb3.le l1).st
  have k0 : (0 : Int) ≤ (k : Int) := by omega
  have k1 : (k : Int) < 4 := by omega
  have o1 := (hb2.le l1).op.2.1
  have x1 : W.cell? ⟨w.heap.size, k, none⟩ = some (slV (vs k)) := ((hb1.le l1).cell k).trans (cells4_at vs hk)
  have hnum := storeNumber (slV (vs k)) (s.at k) W.drew ((hr k hk).le ((hl.trans l1).trans (Le.drew _)))
  go_region_held3 (fun w' => w'.cell? ⟨w3.heap.size, 0, none⟩ = some (slV (us 0)) ∧ w'.cell? ⟨w3.heap.size, 1, none⟩ = some (slV (us 1)) ∧ w'.cell? ⟨w3.heap.size, 2, none⟩ = some (slV (us 2)) ∧ w'.cell? ⟨w3.heap.size, 3, none⟩ = some (slV (us 3)) ∧ w'.cell? ⟨w.heap.size + 1, 1, none⟩ = some (.int .i64 k) ∧ w'.cell? ⟨w.heap.size, k, none⟩ = some (slV (vs k))) (go_keep) ((go_at_call 49; refine hnum.mono ?_; rintro e w4 ⟨rfl, rfl⟩))
  all_goals
    go_wp2_with fail
    refine bodyPost_ret (v := .tuple #[stV us, .int .i64 (firstS (s.at k)), .int .i64 0]) (by simp [results, Try.results42, go_sem, z0, z1, z2, z3]) rfl ⟨_, rfl, ⟨us, rfl, fun i hi => ?_⟩, ?_⟩
    · exact ((hown i hi).le (Le.drew _)).set4 (hb3.le (l1.trans (Le.drew _))) (by decide) _ _ _ _
    · exact ((hl.trans l1).trans (Le.drew _)).set4 (by omega) _ _ _ _

set_option maxHeartbeats 2000000 in
theorem storeApplySecond (v : Value) (s : St) (k : Nat) (a : Int) (w : World) (hx : HasS w v s) (hf : Fit s) (hm : s.all rowMay1 = true) (hk : k < 4) (ha : 0 ≤ a ∧ a ≤ 255) :
    Calls Try.prog 42 #[v, opV 1 k a] w fun e w' => ∃ v', e = .returned (.tuple #[v', .int .i64 (firstS (s.at k)), .int .i64 0]) ∧ OwnS w' w.heap.size v' (s.put k []) ∧ Le w w' := by
  have hx0 := hx
  obtain ⟨vs, rfl, hr⟩ := hx
  have hl := ((Le.alloc w (.cells (cells4 vs) 25)).trans (Le.alloc _ (.cells #[.int .i64 1, .int .i64 k, .int .i64 a] 43))).trans (Le.alloc _ (.cells (cells4 fun _ => slZ) 25))
  have hb1 := ((Box.new w (cells4 vs) 25).le (Le.alloc _ (.cells #[.int .i64 1, .int .i64 k, .int .i64 a] 43))).le (Le.alloc _ (.cells (cells4 fun _ => slZ) 25))
  have hb2 := (Box.new (w.alloc (.cells (cells4 vs) 25)) #[.int .i64 1, .int .i64 k, .int .i64 a] 43).le (Le.alloc _ (.cells (cells4 fun _ => slZ) 25))
  have hb3 := Box.new ((w.alloc (.cells (cells4 vs) 25)).alloc (.cells #[.int .i64 1, .int .i64 k, .int .i64 a] 43)) (cells4 fun _ => slZ) 25
  simp only [World.size_alloc] at hb1 hb2 hb3
  have hmay := storeMay (stV vs) s _ (hx0.le hl)
  rw [hm] at hmay
  have hop : opMay 1 k a = true := by simp [opMay]; omega
  go_enter Try.func42, Try.ntmps42
  go_wp2_with fail
  refine hmay.mono ?_
  rintro e w1 ⟨rfl, l1⟩
  obtain ⟨y0, y1, y2, _, _, _⟩ := (hb2.le l1).op
  clear hmay
  go_wp2_with fail
  refine (operMay _ _ _ _).mono ?_
  rw [hop]
  rintro e w2 ⟨rfl, l2⟩
  replace l1 := l1.trans l2
  clear l2 y0 y1 y2
  obtain ⟨y0, y1, y2, y3, _, _, _, _⟩ := (hb1.le l1).st
  go_wp2_with fail
  refine (storeCopied (stV vs) s _ (hx0.le (hl.trans l1)) hf).mono ?_
  rintro e w3 ⟨_, rfl, ⟨us, rfl, hown⟩, l3⟩
  replace hown := fun i hi => (hown i hi).base (base' := w.heap.size) (hl.trans l1).size
  replace l1 := l1.trans l3
  clear l3 y0 y1 y2 y3
  have n0 : w.heap.size + 1 + 1 < w3.heap.size := (hb3.le l1).lt
  have n1 : ¬ w.heap.size + 1 + 1 = w3.heap.size := by omega
  have n2 : ¬ w.heap.size + 1 + 1 = w.heap.size := by omega
  have n3 : ¬ w.heap.size + 1 + 1 = w.heap.size + 1 := by omega
  have hb4 := Box.new w3 (cells4 us) 25
  replace l1 := l1.trans (Le.alloc w3 (.cells (cells4 us) 25))
  replace hown := fun i hi => (hown i hi).le (Le.alloc w3 (.cells (cells4 us) 25))
  obtain ⟨y0, y1, y2, _, _, _⟩ := (hb2.le l1).op
  go_upto_region 10 with fail
  generalize hW : w3.alloc (.cells (cells4 us) 25) = W at hb4 l1 hown ⊢
  clear y0 y1 y2 hW
  have o1 := (hb2.le l1).op.2.1
  have t1 : W.cell? ⟨w3.heap.size, k, none⟩ = some (slV (us k)) := (hb4.cell k).trans (cells4_at us hk)
  have tf := hb4.frozen k
  go_upto_region 11 with fail
  replace hown := fun i hi => (hown i hi).setBox (i := k) (u := slV slZ) hb4 (by decide)
  replace hb4 := hb4.set k (slV slZ)
  rw [cells4_upd us hk] at hb4
  replace l1 : Le _ (W.setCell ⟨w3.heap.size, k, none⟩ (slV slZ)) := Below.setCell l1 (by simp only [World.size_alloc]; show w.heap.size + 1 + 1 + 1 ≤ w3.heap.size; omega) _
  generalize hW2 : W.setCell ⟨w3.heap.size, k, none⟩ (slV slZ) = W2 at hb4 l1 hown ⊢
  replace hown : ∀ i, i < 4 → Own W2 w.heap.size (slV (upd us k slZ i)) ((s.put k []).at i) := by
    intro i hi
    rw [St.at_put hk hi]
    by_cases e : i = k
    · rw [if_pos e, show upd us k slZ i = slZ by simp [upd, e]]; exact Own.nil _ _
    · rw [if_neg e, show upd us k slZ i = us i by simp [upd, e]]; exact hown i hi
  generalize upd us k slZ = us at hb4 hown
  clear hW2 t1 tf o1
  generalize W2 = W at hb4 l1 hown ⊢
  obtain ⟨y0, y1, y2, y3, _, _, _, _⟩ := hb4.st
  obtain ⟨z0, z1, z2, z3, f0, f1, f2, f3⟩ := (hb3.le l1).st
  have k0 : (0 : Int) ≤ (k : Int) := by omega
  have k1 : (k : Int) < 4 := by omega
  have o1 := (hb2.le l1).op.2.1
  have x1 : W.cell? ⟨w.heap.size, k, none⟩ = some (slV (vs k)) := ((hb1.le l1).cell k).trans (cells4_at vs hk)
  have hnum := storeNumber (slV (vs k)) (s.at k) W.drew ((hr k hk).le ((hl.trans l1).trans (Le.drew _)))
  go_region_held3 (fun w' => w'.cell? ⟨w3.heap.size, 0, none⟩ = some (slV (us 0)) ∧ w'.cell? ⟨w3.heap.size, 1, none⟩ = some (slV (us 1)) ∧ w'.cell? ⟨w3.heap.size, 2, none⟩ = some (slV (us 2)) ∧ w'.cell? ⟨w3.heap.size, 3, none⟩ = some (slV (us 3)) ∧ w'.cell? ⟨w.heap.size + 1, 1, none⟩ = some (.int .i64 k) ∧ w'.cell? ⟨w.heap.size, k, none⟩ = some (slV (vs k))) (go_keep) ((go_at_call 49; refine hnum.mono ?_; rintro e w4 ⟨rfl, rfl⟩))
  all_goals
    go_wp2_with fail
    refine bodyPost_ret (v := .tuple #[stV us, .int .i64 (firstS (s.at k)), .int .i64 0]) (by simp [results, Try.results42, go_sem, z0, z1, z2, z3]) rfl ⟨_, rfl, ⟨us, rfl, fun i hi => ?_⟩, ?_⟩
    · exact ((hown i hi).le (Le.drew _)).set4 (hb3.le (l1.trans (Le.drew _))) (by decide) _ _ _ _
    · exact ((hl.trans l1).trans (Le.drew _)).set4 (by omega) _ _ _ _

end Go.Proofs.Ytnpejgendmgfaaa
