/-
  PARTS LAID TOGETHER, each with its own opening: StoreB, StoreC, Ins, InsA, FdsA, App, StPut2, Cnt, FdsB, FdsC, FdsD.
-/
import Derived.Test.YtibleipfablniaaAll3
import Derived.Deep.RegionHeld3
import Derived.Deep.Cut
import Derived.Shelf.Spec.SlicesInsertGrow
import Derived.Test.YtibleipfablniaaAll1
import Derived.Deep.RegionLaw
/-
  THE WALK over store.Apply: what it answers, for every state and operation, and that what it hands back lies in memory of its own. Condition: the state's rows can be copied.
-/
namespace Go.Proofs.Ytibleipfablniaa
open Go.RowKit

/-- The document's answer: the state, the answer, the error. -/
def stoS (s : St) (c r a e : Int) : St × Int × Int :=
  if s.all rowMay1 && opMay c r a then
    (if c = 3 then (s, sumTo s 4, 0)
    else (if c = 0 then s.put r.toNat [a] else if c = 1 then s.put r.toNat [] else s, firstS (s.at r.toNat), 0))
  else (St.zero, 0, e)

set_option maxHeartbeats 2000000 in
theorem storeApplyNo (v : Value) (s : St) (c r a : Int) (w : World) (hx : HasS w v s) (h : (s.all rowMay1 && opMay c r a) = false) :
    Calls Try.prog 70 #[v, opV c r a] w fun e w' => e = .returned (.tuple #[stZ, .int .i64 0, .int .i64 300]) ∧ Le w w' := by
  have hx0 := hx
  obtain ⟨vs, rfl, hr⟩ := hx
  have hl := ((Le.alloc w (.cells (cells4 vs) 44)).trans (Le.alloc _ (.cells #[.int .i64 c, .int .i64 r, .int .i64 a] 50))).trans (Le.alloc _ (.cells (cells4 fun _ => slZ) 44))
  have hb1 := ((Box.new w (cells4 vs) 44).le (Le.alloc _ (.cells #[.int .i64 c, .int .i64 r, .int .i64 a] 50))).le (Le.alloc _ (.cells (cells4 fun _ => slZ) 44))
  have hb2 := (Box.new (w.alloc (.cells (cells4 vs) 44)) #[.int .i64 c, .int .i64 r, .int .i64 a] 50).le (Le.alloc _ (.cells (cells4 fun _ => slZ) 44))
  have hb3 := Box.new ((w.alloc (.cells (cells4 vs) 44)).alloc (.cells #[.int .i64 c, .int .i64 r, .int .i64 a] 50)) (cells4 fun _ => slZ) 44
  simp only [World.size_alloc] at hb1 hb2 hb3
  cases hm : s.all rowMay1
  · have hmay := storeMay (stV vs) s _ (hx0.le hl)
    rw [hm] at hmay
    go_enter Try.func70, Try.ntmps70
    go_wp2_with fail
    refine hmay.mono ?_
    rintro e w1 ⟨rfl, l1⟩
    obtain ⟨z0, z1, z2, z3, f0, f1, f2, f3⟩ := (hb3.le l1).st
    go_wp2_with fail
    refine bodyPost_ret (v := .tuple #[stZ, .int .i64 0, .int .i64 300]) (by simp [results, Try.results70, go_sem, z0, z1, z2, z3]) rfl ⟨rfl, ?_⟩
    exact (hl.trans l1).set4 (by omega) _ _ _ _
  · have hop : opMay c r a = false := by simpa [hm] using h
    have hmay := storeMay (stV vs) s _ (hx0.le hl)
    rw [hm] at hmay
    go_enter Try.func70, Try.ntmps70
    go_wp2_with fail
    refine hmay.mono ?_
    rintro e w1 ⟨rfl, l1⟩
    obtain ⟨y0, y1, y2, _, _, _⟩ := (hb2.le l1).op
    go_wp2_with fail
    refine (operMay _ _ _ _).mono ?_
    rw [hop]
    rintro e w2 ⟨rfl, l2⟩
    obtain ⟨z0, z1, z2, z3, f0, f1, f2, f3⟩ := ((hb3.le l1).le l2).st
    go_wp2_with fail
    refine bodyPost_ret (v := .tuple #[stZ, .int .i64 0, .int .i64 300]) (by simp [results, Try.results70, go_sem, z0, z1, z2, z3]) rfl ⟨rfl, ?_⟩
    exact ((hl.trans l1).trans l2).set4 (by omega) _ _ _ _

set_option maxHeartbeats 2000000 in
theorem storeApplyScan (v : Value) (s : St) (w : World) (hx : HasS w v s) (hf : Fit s) (hm : s.all rowMay1 = true) :
    Calls Try.prog 70 #[v, opV 3 0 0] w fun e w' => ∃ v', e = .returned (.tuple #[v', .int .i64 (sumTo s 4), .int .i64 0]) ∧ OwnS w' w.heap.size v' (s) ∧ Le w w' := by
  have hx0 := hx
  obtain ⟨vs, rfl, hr⟩ := hx
  have hl := ((Le.alloc w (.cells (cells4 vs) 44)).trans (Le.alloc _ (.cells #[.int .i64 3, .int .i64 0, .int .i64 0] 50))).trans (Le.alloc _ (.cells (cells4 fun _ => slZ) 44))
  have hb1 := ((Box.new w (cells4 vs) 44).le (Le.alloc _ (.cells #[.int .i64 3, .int .i64 0, .int .i64 0] 50))).le (Le.alloc _ (.cells (cells4 fun _ => slZ) 44))
  have hb2 := (Box.new (w.alloc (.cells (cells4 vs) 44)) #[.int .i64 3, .int .i64 0, .int .i64 0] 50).le (Le.alloc _ (.cells (cells4 fun _ => slZ) 44))
  have hb3 := Box.new ((w.alloc (.cells (cells4 vs) 44)).alloc (.cells #[.int .i64 3, .int .i64 0, .int .i64 0] 50)) (cells4 fun _ => slZ) 44
  simp only [World.size_alloc] at hb1 hb2 hb3
  have hmay := storeMay (stV vs) s _ (hx0.le hl)
  rw [hm] at hmay
  have hop : opMay 3 0 0 = true := by decide
  go_enter Try.func70, Try.ntmps70
  go_wp2_with fail
  refine hmay.mono ?_
  rintro e w1 ⟨rfl, l1⟩
  obtain ⟨y0, y1, y2, _, _, _⟩ := (hb2.le l1).op
  clear hmay
  go_wp2_with fail
  refine (operMay _ _ _ _).mono ?_
  rw [hop]
  rintro e w2 ⟨rfl, l2⟩
  replace l1 := l1.trans l2
  clear l2 y0 y1 y2
  obtain ⟨y0, y1, y2, y3, _, _, _, _⟩ := (hb1.le l1).st
  go_wp2_with fail
  refine (storeCopied (stV vs) s _ (hx0.le (hl.trans l1)) hf).mono ?_
  rintro e w3 ⟨_, rfl, ⟨us, rfl, hown⟩, l3⟩
  replace hown := fun i hi => (hown i hi).base (base' := w.heap.size) (hl.trans l1).size
  replace l1 := l1.trans l3
  clear l3 y0 y1 y2 y3
  have n0 : w.heap.size + 1 + 1 < w3.heap.size := (hb3.le l1).lt
  have n1 : ¬ w.heap.size + 1 + 1 = w3.heap.size := by omega
  have n2 : ¬ w.heap.size + 1 + 1 = w.heap.size := by omega
  have n3 : ¬ w.heap.size + 1 + 1 = w.heap.size + 1 := by omega
  have hb4 := Box.new w3 (cells4 us) 44
  replace l1 := l1.trans (Le.alloc w3 (.cells (cells4 us) 44))
  replace hown := fun i hi => (hown i hi).le (Le.alloc w3 (.cells (cells4 us) 44))
  obtain ⟨y0, y1, y2, _, _, _⟩ := (hb2.le l1).op
  go_upto_region 6 with fail
  generalize hW : w3.alloc (.cells (cells4 us) 44) = W at hb4 l1 hown ⊢
  clear y0 y1 y2 hW
  obtain ⟨y0, y1, y2, y3, _, _, _, _⟩ := hb4.st
  obtain ⟨x0, x1, x2, x3, _, _, _, _⟩ := (hb1.le l1).st
  obtain ⟨z0, z1, z2, z3, f0, f1, f2, f3⟩ := (hb3.le l1).st
  have hsum := fun (w' : World) (h : Le W w') => storeSum (stV vs) s w' (hx0.le ((hl.trans l1).trans h)) hm
  go_region_held3 (fun w' => w'.cell? ⟨w3.heap.size, 0, none⟩ = some (slV (us 0)) ∧ w'.cell? ⟨w3.heap.size, 1, none⟩ = some (slV (us 1)) ∧ w'.cell? ⟨w3.heap.size, 2, none⟩ = some (slV (us 2)) ∧ w'.cell? ⟨w3.heap.size, 3, none⟩ = some (slV (us 3)) ∧ w'.cell? ⟨w.heap.size, 0, none⟩ = some (slV (vs 0)) ∧ w'.cell? ⟨w.heap.size, 1, none⟩ = some (slV (vs 1)) ∧ w'.cell? ⟨w.heap.size, 2, none⟩ = some (slV (vs 2)) ∧ w'.cell? ⟨w.heap.size, 3, none⟩ = some (slV (vs 3))) (go_keep) ((go_at_call 76; refine (hsum _ (Le.drew _)).mono ?_; rintro e w4 ⟨rfl, l4⟩; replace l4 := (Le.drew W).trans l4; obtain ⟨y0', y1', y2', y3', _, _, _, _⟩ := (hb4.le l4).st; obtain ⟨x0', x1', x2', x3', _, _, _, _⟩ := (hb1.le (l1.trans l4)).st; obtain ⟨z0', z1', z2', z3', f0', f1', f2', f3'⟩ := (hb3.le (l1.trans l4)).st))
  all_goals
    go_wp2_with fail
    refine bodyPost_ret (v := .tuple #[stV us, .int .i64 (sumTo s 4), .int .i64 0]) (by simp [results, Try.results70, go_sem, z0', z1', z2', z3']) rfl ⟨_, rfl, ⟨us, rfl, fun i hi => ?_⟩, ?_⟩
    · exact ((hown i hi).le l4).set4 (hb3.le (l1.trans l4)) (by decide) _ _ _ _
    · exact ((hl.trans l1).trans l4).set4 (by omega) _ _ _ _

set_option maxHeartbeats 2000000 in
theorem storeApplyLook (v : Value) (s : St) (k : Nat) (w : World) (hx : HasS w v s) (hf : Fit s) (hm : s.all rowMay1 = true) (hk : k < 4) :
    Calls Try.prog 70 #[v, opV 2 k 0] w fun e w' => ∃ v', e = .returned (.tuple #[v', .int .i64 (firstS (s.at k)), .int .i64 0]) ∧ OwnS w' w.heap.size v' (s) ∧ Le w w' := by
  have hx0 := hx
  obtain ⟨vs, rfl, hr⟩ := hx
  have hl := ((Le.alloc w (.cells (cells4 vs) 44)).trans (Le.alloc _ (.cells #[.int .i64 2, .int .i64 k, .int .i64 0] 50))).trans (Le.alloc _ (.cells (cells4 fun _ => slZ) 44))
  have hb1 := ((Box.new w (cells4 vs) 44).le (Le.alloc _ (.cells #[.int .i64 2, .int .i64 k, .int .i64 0] 50))).le (Le.alloc _ (.cells (cells4 fun _ => slZ) 44))
  have hb2 := (Box.new (w.alloc (.cells (cells4 vs) 44)) #[.int .i64 2, .int .i64 k, .int .i64 0] 50).le (Le.alloc _ (.cells (cells4 fun _ => slZ) 44))
  have hb3 := Box.new ((w.alloc (.cells (cells4 vs) 44)).alloc (.cells #[.int .i64 2, .int .i64 k, .int .i64 0] 50)) (cells4 fun _ => slZ) 44
  simp only [World.size_alloc] at hb1 hb2 hb3
  have hmay := storeMay (stV vs) s _ (hx0.le hl)
  rw [hm] at hmay
  have hop : opMay 2 k 0 = true := by simp [opMay]; omega
  go_enter Try.func70, Try.ntmps70
  go_wp2_with fail
  refine hmay.mono ?_
  rintro e w1 ⟨rfl, l1⟩
  obtain ⟨y0, y1, y2, _, _, _⟩ := (hb2.le l1).op
  clear hmay
  go_wp2_with fail
  refine (operMay _ _ _ _).mono ?_
  rw [hop]
  rintro e w2 ⟨rfl, l2⟩
  replace l1 := l1.trans l2
  clear l2 y0 y1 y2
  obtain ⟨y0, y1, y2, y3, _, _, _, _⟩ := (hb1.le l1).st
  go_wp2_with fail
  refine (storeCopied (stV vs) s _ (hx0.le (hl.trans l1)) hf).mono ?_
  rintro e w3 ⟨_, rfl, ⟨us, rfl, hown⟩, l3⟩
  replace hown := fun i hi => (hown i hi).base (base' := w.heap.size) (hl.trans l1).size
  replace l1 := l1.trans l3
  clear l3 y0 y1 y2 y3
  have n0 : w.heap.size + 1 + 1 < w3.heap.size := (hb3.le l1).lt
  have n1 : ¬ w.heap.size + 1 + 1 = w3.heap.size := by omega
  have n2 : ¬ w.heap.size + 1 + 1 = w.heap.size := by omega
  have n3 : ¬ w.heap.size + 1 + 1 = w.heap.size + 1 := by omega
  have hb4 := Box.new w3 (cells4 us) 44
  replace l1 := l1.trans (Le.alloc w3 (.cells (cells4 us) 44))
  replace hown := fun i hi => (hown i hi).le (Le.alloc w3 (.cells (cells4 us) 44))
  obtain ⟨y0, y1, y2, _, _, _⟩ := (hb2.le l1).op
  go_upto_region 11 with fail
  generalize hW : w3.alloc (.cells (cells4 us) 44) = W at hb4 l1 hown ⊢
  clear y0 y1 y2 hW
  obtain ⟨y0, y1, y2, y3, _, _, _, _⟩ := hb4.st
  obtain ⟨z0, z1, z2, z3, f0, f1, f2, f3⟩ := (hb3.le l1).st
  have k0 : (0 : Int) ≤ (k : Int) := by omega
  have k1 : (k : Int) < 4 := by omega
  have o1 := (hb2.le l1).op.2.1
  have x1 : W.cell? ⟨w.heap.size, k, none⟩ = some (slV (vs k)) := ((hb1.le l1).cell k).trans (cells4_at vs hk)
  have hnum := storeNumber (slV (vs k)) (s.at k) W.drew ((hr k hk).le ((hl.trans l1).trans (Le.drew _)))
  go_region_held3 (fun w' => w'.cell? ⟨w3.heap.size, 0, none⟩ = some (slV (us 0)) ∧ w'.cell? ⟨w3.heap.size, 1, none⟩ = some (slV (us 1)) ∧ w'.cell? ⟨w3.heap.size, 2, none⟩ = some (slV (us 2)) ∧ w'.cell? ⟨w3.heap.size, 3, none⟩ = some (slV (us 3)) ∧ w'.cell? ⟨w.heap.size + 1, 1, none⟩ = some (.int .i64 k) ∧ w'.cell? ⟨w.heap.size, k, none⟩ = some (slV (vs k))) (go_keep) ((go_at_call 77; refine hnum.mono ?_; rintro e w4 ⟨rfl, rfl⟩))
  all_goals
    go_wp2_with fail
    refine bodyPost_ret (v := .tuple #[stV us, .int .i64 (firstS (s.at k)), .int .i64 0]) (by simp [results, Try.results70, go_sem, z0, z1, z2, z3]) rfl ⟨_, rfl, ⟨us, rfl, fun i hi => ?_⟩, ?_⟩
    · exact ((hown i hi).le (Le.drew _)).set4 (hb3.le (l1.trans (Le.drew _))) (by decide) _ _ _ _
    · exact ((hl.trans l1).trans (Le.drew _)).set4 (by omega) _ _ _ _

set_option maxHeartbeats 2000000 in
theorem storeApplyFirst (v : Value) (s : St) (k : Nat) (a : Int) (w : World) (hx : HasS w v s) (hf : Fit s) (hm : s.all rowMay1 = true) (hk : k < 4) (ha : 0 ≤ a ∧ a ≤ 255) :
    Calls Try.prog 70 #[v, opV 0 k a] w fun e w' => ∃ v', e = .returned (.tuple #[v', .int .i64 (firstS (s.at k)), .int .i64 0]) ∧ OwnS w' w.heap.size v' (s.put k [a]) ∧ Le w w' := by
  have hx0 := hx
  obtain ⟨vs, rfl, hr⟩ := hx
  have hl := ((Le.alloc w (.cells (cells4 vs) 44)).trans (Le.alloc _ (.cells #[.int .i64 0, .int .i64 k, .int .i64 a] 50))).trans (Le.alloc _ (.cells (cells4 fun _ => slZ) 44))
  have hb1 := ((Box.new w (cells4 vs) 44).le (Le.alloc _ (.cells #[.int .i64 0, .int .i64 k, .int .i64 a] 50))).le (Le.alloc _ (.cells (cells4 fun _ => slZ) 44))
  have hb2 := (Box.new (w.alloc (.cells (cells4 vs) 44)) #[.int .i64 0, .int .i64 k, .int .i64 a] 50).le (Le.alloc _ (.cells (cells4 fun _ => slZ) 44))
  have hb3 := Box.new ((w.alloc (.cells (cells4 vs) 44)).alloc (.cells #[.int .i64 0, .int .i64 k, .int .i64 a] 50)) (cells4 fun _ => slZ) 44
  simp only [World.size_alloc] at hb1 hb2 hb3
  have hmay := storeMay (stV vs) s _ (hx0.le hl)
  rw [hm] at hmay
  have hop : opMay 0 k a = true := by simp [opMay]; omega
  go_enter Try.func70, Try.ntmps70
  go_wp2_with fail
  refine hmay.mono ?_
  rintro e w1 ⟨rfl, l1⟩
  obtain ⟨y0, y1, y2, _, _, _⟩ := (hb2.le l1).op
  clear hmay
  go_wp2_with fail
  refine (operMay _ _ _ _).mono ?_
  rw [hop]
  rintro e w2 ⟨rfl, l2⟩
  replace l1 := l1.trans l2
  clear l2 y0 y1 y2
  obtain ⟨y0, y1, y2, y3, _, _, _, _⟩ := (hb1.le l1).st
  go_wp2_with fail
  refine (storeCopied (stV vs) s _ (hx0.le (hl.trans l1)) hf).mono ?_
  rintro e w3 ⟨_, rfl, ⟨us, rfl, hown⟩, l3⟩
  replace hown := fun i hi => (hown i hi).base (base' := w.heap.size) (hl.trans l1).size
  replace l1 := l1.trans l3
  clear l3 y0 y1 y2 y3
  have n0 : w.heap.size + 1 + 1 < w3.heap.size := (hb3.le l1).lt
  have n1 : ¬ w.heap.size + 1 + 1 = w3.heap.size := by omega
  have n2 : ¬ w.heap.size + 1 + 1 = w.heap.size := by omega
  have n3 : ¬ w.heap.size + 1 + 1 = w.heap.size + 1 := by omega
  have hb4 := Box.new w3 (cells4 us) 44
  replace l1 := l1.trans (Le.alloc w3 (.cells (cells4 us) 44))
  replace hown := fun i hi => (hown i hi).le (Le.alloc w3 (.cells (cells4 us) 44))
  obtain ⟨y0, y1, y2, _, _, _⟩ := (hb2.le l1).op
  go_upto_region 8 with fail
  generalize hW : w3.alloc (.cells (cells4 us) 44) = W at hb4 l1 hown ⊢
  clear y0 y1 y2 hW
  have o1 := (hb2.le l1).op.2.1
  have o2 := (hb2.le l1).op.2.2.1
  have t1 : (W.alloc (.cells #[.int .i64 a] 3)).cell? ⟨w3.heap.size, k, none⟩ = some (slV (us k)) := ((hb4.le (Le.alloc W _)).cell k).trans (cells4_at us hk)
  have tf := (hb4.le (Le.alloc W (.cells #[.int .i64 a] 3))).frozen k
  have hnew : Own (W.alloc (.cells #[.int .i64 a] 3)) w.heap.size (slV (some ⟨W.heap.size, 0, none⟩, 1, 1)) [a] := Own.lit W _ (hl.trans l1).size [a] (by simp)
  go_upto_region 11 with fail
  replace hnew := hnew.setBox (i := k) (u := slV (some ⟨W.heap.size, 0, none⟩, 1, 1)) (hb4.le (Le.alloc W _)) (by decide)
  replace hown := fun i hi => ((hown i hi).le (Le.alloc W (.cells #[.int .i64 a] 3))).setBox (i := k) (u := slV (some ⟨W.heap.size, 0, none⟩, 1, 1)) (hb4.le (Le.alloc W _)) (by decide)
  replace hb4 := (hb4.le (Le.alloc W (.cells #[.int .i64 a] 3))).set k (slV (some ⟨W.heap.size, 0, none⟩, 1, 1))
  rw [cells4_upd us hk] at hb4
  replace l1 : Le _ ((W.alloc (.cells #[.int .i64 a] 3)).setCell ⟨w3.heap.size, k, none⟩ (slV (some ⟨W.heap.size, 0, none⟩, 1, 1))) := Below.setCell (l1.trans (Le.alloc W _)) (by simp only [World.size_alloc]; show w.heap.size + 1 + 1 + 1 ≤ w3.heap.size; omega) _
  generalize hW2 : (W.alloc (.cells #[.int .i64 a] 3)).setCell ⟨w3.heap.size, k, none⟩ (slV (some ⟨W.heap.size, 0, none⟩, 1, 1)) = W2 at hb4 l1 hown hnew ⊢
  replace hown : ∀ i, i < 4 → Own W2 w.heap.size (slV (upd us k (some ⟨W.heap.size, 0, none⟩, 1, 1) i)) ((s.put k [a]).at i) := by
    intro i hi
    rw [St.at_put hk hi]
    by_cases e : i = k
    · rw [if_pos e, show upd us k (some ⟨W.heap.size, 0, none⟩, 1, 1) i = (some ⟨W.heap.size, 0, none⟩, 1, 1) by simp [upd, e]]; exact hnew
    · rw [if_neg e, show upd us k (some ⟨W.heap.size, 0, none⟩, 1, 1) i = us i by simp [upd, e]]; exact hown i hi
  generalize upd us k (some ⟨W.heap.size, 0, none⟩, 1, 1) = us at hb4 hown
  clear hW2 hnew t1 tf o1 o2
  generalize W2 = W at hb4 l1 hown ⊢
  obtain ⟨y0, y1, y2, y3, _, _, _, _⟩ := hb4.st
  obtain ⟨z0, z1, z2, z3, f0, f1, f2, f3⟩ := (hb3.le l1).st
  have k0 : (0 : Int) ≤ (k : Int) := by omega
  have k1 : (k : Int) < 4 := by omega
  have o1 := (hb2.le l1).op.2.1
  have x1 : W.cell? ⟨w.heap.size, k, none⟩ = some (slV (vs k)) := ((hb1.le l1).cell k).trans (cells4_at vs hk)
  have hnum := storeNumber (slV (vs k)) (s.at k) W.drew ((hr k hk).le ((hl.trans l1).trans (Le.drew _)))
  go_region_held3 (fun w' => w'.cell? ⟨w3.heap.size, 0, none⟩ = some (slV (us 0)) ∧ w'.cell? ⟨w3.heap.size, 1, none⟩ = some (slV (us 1)) ∧ w'.cell? ⟨w3.heap.size, 2, none⟩ = some (slV (us 2)) ∧ w'.cell? ⟨w3.heap.size, 3, none⟩ = some (slV (us 3)) ∧ w'.cell? ⟨w.heap.size + 1, 1, none⟩ = some (.int .i64 k) ∧ w'.cell? ⟨w.heap.size, k, none⟩ = some (slV (vs k))) (go_keep) ((go_at_call 77; refine hnum.mono ?_; rintro e w4 ⟨rfl, rfl⟩))
  all_goals
    go_wp2_with fail
    refine bodyPost_ret (v := .tuple #[stV us, .int .i64 (firstS (s.at k)), .int .i64 0]) (by simp [results, Try.results70, go_sem, z0, z1, z2, z3]) rfl ⟨_, rfl, ⟨us, rfl, fun i hi => ?_⟩, ?_⟩
    · exact ((hown i hi).le (Le.drew _)).set4 (hb3.le (l1.trans (Le.drew _))) (by decide) _ _ _ _
    · exact ((hl.trans l1).trans (Le.drew _)).set4 (by omega) _ _ _ _

set_option maxHeartbeats 2000000 in
theorem storeApplySecond (v : Value) (s : St) (k : Nat) (a : Int) (w : World) (hx : HasS w v s) (hf : Fit s) (hm : s.all rowMay1 = true) (hk : k < 4) (ha : 0 ≤ a ∧ a ≤ 255) :
    Calls Try.prog 70 #[v, opV 1 k a] w fun e w' => ∃ v', e = .returned (.tuple #[v', .int .i64 (firstS (s.at k)), .int .i64 0]) ∧ OwnS w' w.heap.size v' (s.put k []) ∧ Le w w' := by
  have hx0 := hx
  obtain ⟨vs, rfl, hr⟩ := hx
  have hl := ((Le.alloc w (.cells (cells4 vs) 44)).trans (Le.alloc _ (.cells #[.int .i64 1, .int .i64 k, .int .i64 a] 50))).trans (Le.alloc _ (.cells (cells4 fun _ => slZ) 44))
  have hb1 := ((Box.new w (cells4 vs) 44).le (Le.alloc _ (.cells #[.int .i64 1, .int .i64 k, .int .i64 a] 50))).le (Le.alloc _ (.cells (cells4 fun _ => slZ) 44))
  have hb2 := (Box.new (w.alloc (.cells (cells4 vs) 44)) #[.int .i64 1, .int .i64 k, .int .i64 a] 50).le (Le.alloc _ (.cells (cells4 fun _ => slZ) 44))
  have hb3 := Box.new ((w.alloc (.cells (cells4 vs) 44)).alloc (.cells #[.int .i64 1, .int .i64 k, .int .i64 a] 50)) (cells4 fun _ => slZ) 44
  simp only [World.size_alloc] at hb1 hb2 hb3
  have hmay := storeMay (stV vs) s _ (hx0.le hl)
  rw [hm] at hmay
  have hop : opMay 1 k a = true := by simp [opMay]; omega
  go_enter Try.func70, Try.ntmps70
  go_wp2_with fail
  refine hmay.mono ?_
  rintro e w1 ⟨rfl, l1⟩
  obtain ⟨y0, y1, y2, _, _, _⟩ := (hb2.le l1).op
  clear hmay
  go_wp2_with fail
  refine (operMay _ _ _ _).mono ?_
  rw [hop]
  rintro e w2 ⟨rfl, l2⟩
  replace l1 := l1.trans l2
  clear l2 y0 y1 y2
  obtain ⟨y0, y1, y2, y3, _, _, _, _⟩ := (hb1.le l1).st
  go_wp2_with fail
  refine (storeCopied (stV vs) s _ (hx0.le (hl.trans l1)) hf).mono ?_
  rintro e w3 ⟨_, rfl, ⟨us, rfl, hown⟩, l3⟩
  replace hown := fun i hi => (hown i hi).base (base' := w.heap.size) (hl.trans l1).size
  replace l1 := l1.trans l3
  clear l3 y0 y1 y2 y3
  have n0 : w.heap.size + 1 + 1 < w3.heap.size := (hb3.le l1).lt
  have n1 : ¬ w.heap.size + 1 + 1 = w3.heap.size := by omega
  have n2 : ¬ w.heap.size + 1 + 1 = w.heap.size := by omega
  have n3 : ¬ w.heap.size + 1 + 1 = w.heap.size + 1 := by omega
  have hb4 := Box.new w3 (cells4 us) 44
  replace l1 := l1.trans (Le.alloc w3 (.cells (cells4 us) 44))
  replace hown := fun i hi => (hown i hi).le (Le.alloc w3 (.cells (cells4 us) 44))
  obtain ⟨y0, y1, y2, _, _, _⟩ := (hb2.le l1).op
  go_upto_region 10 with fail
  generalize hW : w3.alloc (.cells (cells4 us) 44) = W at hb4 l1 hown ⊢
  clear y0 y1 y2 hW
  have o1 := (hb2.le l1).op.2.1
  have t1 : W.cell? ⟨w3.heap.size, k, none⟩ = some (slV (us k)) := (hb4.cell k).trans (cells4_at us hk)
  have tf := hb4.frozen k
  go_upto_region 11 with fail
  replace hown := fun i hi => (hown i hi).setBox (i := k) (u := slV slZ) hb4 (by decide)
  replace hb4 := hb4.set k (slV slZ)
  rw [cells4_upd us hk] at hb4
  replace l1 : Le _ (W.setCell ⟨w3.heap.size, k, none⟩ (slV slZ)) := Below.setCell l1 (by simp only [World.size_alloc]; show w.heap.size + 1 + 1 + 1 ≤ w3.heap.size; omega) _
  generalize hW2 : W.setCell ⟨w3.heap.size, k, none⟩ (slV slZ) = W2 at hb4 l1 hown ⊢
  replace hown : ∀ i, i < 4 → Own W2 w.heap.size (slV (upd us k slZ i)) ((s.put k []).at i) := by
    intro i hi
    rw [St.at_put hk hi]
    by_cases e : i = k
    · rw [if_pos e, show upd us k slZ i = slZ by simp [upd, e]]; exact Own.nil _ _
    · rw [if_neg e, show upd us k slZ i = us i by simp [upd, e]]; exact hown i hi
  generalize upd us k slZ = us at hb4 hown
  clear hW2 t1 tf o1
  generalize W2 = W at hb4 l1 hown ⊢
  obtain ⟨y0, y1, y2, y3, _, _, _, _⟩ := hb4.st
  obtain ⟨z0, z1, z2, z3, f0, f1, f2, f3⟩ := (hb3.le l1).st
  have k0 : (0 : Int) ≤ (k : Int) := by omega
  have k1 : (k : Int) < 4 := by omega
  have o1 := (hb2.le l1).op.2.1
  have x1 : W.cell? ⟨w.heap.size, k, none⟩ = some (slV (vs k)) := ((hb1.le l1).cell k).trans (cells4_at vs hk)
  have hnum := storeNumber (slV (vs k)) (s.at k) W.drew ((hr k hk).le ((hl.trans l1).trans (Le.drew _)))
  go_region_held3 (fun w' => w'.cell? ⟨w3.heap.size, 0, none⟩ = some (slV (us 0)) ∧ w'.cell? ⟨w3.heap.size, 1, none⟩ = some (slV (us 1)) ∧ w'.cell? ⟨w3.heap.size, 2, none⟩ = some (slV (us 2)) ∧ w'.cell? ⟨w3.heap.size, 3, none⟩ = some (slV (us 3)) ∧ w'.cell? ⟨w.heap.size + 1, 1, none⟩ = some (.int .i64 k) ∧ w'.cell? ⟨w.heap.size, k, none⟩ = some (slV (vs k))) (go_keep) ((go_at_call 77; refine hnum.mono ?_; rintro e w4 ⟨rfl, rfl⟩))
  all_goals
    go_wp2_with fail
    refine bodyPost_ret (v := .tuple #[stV us, .int .i64 (firstS (s.at k)), .int .i64 0]) (by simp [results, Try.results70, go_sem, z0, z1, z2, z3]) rfl ⟨_, rfl, ⟨us, rfl, fun i hi => ?_⟩, ?_⟩
    · exact ((hown i hi).le (Le.drew _)).set4 (hb3.le (l1.trans (Le.drew _))) (by decide) _ _ _ _
    · exact ((hl.trans l1).trans (Le.drew _)).set4 (by omega) _ _ _ _

end Go.Proofs.Ytibleipfablniaa

/-
  PLAIN GROUND: store.Apply's contract in one, and that what it answers can be copied. Condition: the state's rows can be copied.
-/
namespace Go.Proofs.Ytibleipfablniaa
open Go.RowKit

theorem stoS_no {s : St} {c r a er : Int} (h : (s.all rowMay1 && opMay c r a) = false) : stoS s c r a er = (St.zero, 0, er) := by simp [stoS, h]
theorem stoS_scan {s : St} {er : Int} (h : s.all rowMay1 = true) : stoS s 3 0 0 er = (s, sumTo s 4, 0) := by
  have : opMay 3 0 0 = true := by decide
  simp [stoS, h, this]
theorem stoS_look {s : St} {k : Nat} {er : Int} (h : s.all rowMay1 = true) (hk : k < 4) : stoS s 2 k 0 er = (s, firstS (s.at k), 0) := by
  have : opMay 2 k 0 = true := by simp [opMay]; omega
  simp [stoS, h, this]
theorem stoS_first {s : St} {k : Nat} {a er : Int} (h : s.all rowMay1 = true) (hk : k < 4) (ha : 0 ≤ a ∧ a ≤ 255) : stoS s 0 k a er = (s.put k [a], firstS (s.at k), 0) := by
  have : opMay 0 k a = true := by simp [opMay]; omega
  simp [stoS, h, this]
theorem stoS_second {s : St} {k : Nat} {a er : Int} (h : s.all rowMay1 = true) (hk : k < 4) (ha : 0 ≤ a ∧ a ≤ 255) : stoS s 1 k a er = (s.put k [], firstS (s.at k), 0) := by
  have : opMay 1 k a = true := by simp [opMay]; omega
  simp [stoS, h, this]

theorem storeApply (v : Value) (s : St) (c r a : Int) (w : World) (hx : HasS w v s) (hf : Fit s) :
    Calls Try.prog 70 #[v, opV c r a] w fun e w' => ∃ v', e = .returned (.tuple #[v', .int .i64 (stoS s c r a 300).2.1, .int .i64 (stoS s c r a 300).2.2]) ∧ OwnS w' w.heap.size v' (stoS s c r a 300).1 ∧ Le w w' := by
  cases h : s.all rowMay1 && opMay c r a
  · rw [stoS_no h]
    exact (storeApplyNo v s c r a w hx h).mono fun e w' ⟨he, hl⟩ => ⟨stZ, he, OwnS.zero _ _, hl⟩
  · obtain ⟨hm, ho⟩ := Bool.and_eq_true_iff.mp h
    rcases opMay_cases ho with ⟨k, hk, rfl, rfl, ha⟩ | ⟨k, hk, rfl, rfl, ha⟩ | ⟨k, hk, rfl, rfl, rfl⟩ | ⟨rfl, rfl, rfl⟩
    · rw [stoS_first hm hk ha]; exact storeApplyFirst v s k a w hx hf hm hk ha
    · rw [stoS_second hm hk ha]; exact storeApplySecond v s k a w hx hf hm hk ha
    · rw [stoS_look hm hk]; exact storeApplyLook v s k w hx hf hm hk
    · rw [stoS_scan hm]; exact storeApplyScan v s w hx hf hm

theorem Fit.sto {s : St} (h : Fit s) (c r a er : Int) : Fit (stoS s c r a er).1 := by
  cases hh : s.all rowMay1 && opMay c r a
  · rw [stoS_no hh]; exact fit_zero
  · obtain ⟨hm, ho⟩ := Bool.and_eq_true_iff.mp hh
    rcases opMay_cases ho with ⟨k, hk, rfl, rfl, ha⟩ | ⟨k, hk, rfl, rfl, ha⟩ | ⟨k, hk, rfl, rfl, rfl⟩ | ⟨rfl, rfl, rfl⟩
    · rw [stoS_first hm hk ha]; exact h.put hk (by simp)
    · rw [stoS_second hm hk ha]; exact h.put hk (by simp)
    · rw [stoS_look hm hk]; exact h
    · rw [stoS_scan hm]; exact h

end Go.Proofs.Ytibleipfablniaa

/-
  THE SHELF'S CONTRACTS OF slices.Insert AT []int, LAID AT THIS PROGRAM. No condition.
-/
namespace Go.Proofs.Ytibleipfablniaa
open Go.RowKit Go.Shelf

/-- The shelf's numbers of functions and types, and this program's. -/
def insRen : Ren where
  f := fun x => match x with
    | 21 => 89
    | 27 => 93
    | 28 => 94
    | 35 => 96
    | 39 => 97
    | x => x
  t := fun x => match x with
    | 3 => 3
    | 4 => 4
    | 22 => 40
    | x => x
  g := fun x => x

theorem insLays : Lays2.n21 Try.prog insRen where
  mixed := by kernel_rfl
  f21 := by kernel_rfl
  f27 := by kernel_rfl
  f28 := by kernel_rfl
  f35 := by kernel_rfl
  f39 := by kernel_rfl
  t0 := by kernel_rfl
  a0 := fun _ => by kernel_rfl
  z0 := fun _ => by kernel_rfl
  v0 := fun _ => by kernel_rfl
  t3 := by kernel_rfl
  a3 := fun _ => by kernel_rfl
  z3 := fun _ => by kernel_rfl
  v3 := fun _ => by kernel_rfl
  t4 := by kernel_rfl
  a4 := fun _ => by kernel_rfl
  z4 := fun _ => by kernel_rfl
  v4 := fun _ => by kernel_rfl
  t22 := by kernel_rfl
  a22 := fun _ => by kernel_rfl
  z22 := fun _ => by kernel_rfl
  v22 := fun _ => by kernel_rfl
  i3 := by kernel_rfl

end Go.Proofs.Ytibleipfablniaa

/-
  slices.Insert OF ONE NUMBER INTO A ROW OF THE CALL'S OWN: the row with that number at that place, in the row's own memory or in new memory, and nothing else turned. Condition: the place is within the row, and the row has at most a thousand numbers.
-/
namespace Go.Proofs.Ytibleipfablniaa
open Go.RowKit Go.Shelf

theorem grown_set (w : World) (g i : Nat) (v : Value) : w.grownBy (w.setCell ⟨g, i, none⟩ v) (some g) :=
  ⟨rfl, rfl, rfl, by simp, fun k _ hne => Below.heap_setCell _ _ _ _ (fun e => hne (by rw [e]))⟩

theorem grown_drew (w : World) (row : Option Nat) : w.grownBy w.drew row := ⟨rfl, rfl, rfl, Nat.le_refl _, fun _ _ _ => rfl⟩

theorem grown_sets (g : Nat) : ∀ (vs : List Value) (o : Nat) (w : World), w.grownBy (w.setCells g o vs) (some g)
  | [], _, _ => World.grownBy.refl _ _
  | v :: r, o, w => grownBy_trans (grown_set w g o v) (grown_sets g r (o + 1) _)

theorem Box.sets {g : Nat} {t : TypeId} : ∀ (vs : List Value) (o : Nat) (w : World) (cur : Array Value), Box w g cur t → ∃ cur' : Array Value, cur'.size = cur.size ∧ Box (w.setCells g o vs) g cur' t
  | [], _, _, cur, h => ⟨cur, rfl, h⟩
  | v :: r, o, w, cur, h => by
    obtain ⟨c, hc, hb⟩ := Box.sets r (o + 1) (w.setCell ⟨g, o, none⟩ v) _ (h.set o v)
    exact ⟨c, by rw [hc]; simp, hb⟩

/-- A row of the call's own, told by its cells. -/
theorem Own.ofCells {w : World} {base g n cap : Nat} {cur : Array Value} {xs : List Int} (hb : Box w g cur 3) (hg : base ≤ g) (hn : n = xs.length) (hc : n ≤ cap) (hm : cap ≤ maxLen) (hs : cur.size = cap)
    (hx : ∀ j, j < n → w.cell? ⟨g, j, none⟩ = some (.int .i64 (xs.getD j 0))) : Own w base (.slice (some ⟨g, 0, none⟩) n cap) xs := by
  subst hn
  refine ⟨by simp, .inr ⟨g, cap, cur, rfl, hg, hb, hc, hm, by simp [hs], ?_⟩⟩
  apply List.ext_getElem?
  intro j
  rw [Nat.mul_one, List.getElem?_take]
  by_cases hj : j < xs.length
  · have := hx j hj
    rw [hb.cell j] at this
    rw [if_pos hj, Array.getElem?_toList, this]
    simp [hj, List.getD]
  · rw [if_neg hj, List.getElem?_eq_none (by simpa using hj)]

theorem getD_ins {xs : List Int} {i : Nat} {x : Int} (hi : i ≤ xs.length) (j : Nat) : (xs.take i ++ x :: xs.drop i).getD j 0 = if j < i then xs.getD j 0 else if j = i then x else xs.getD (j - 1) 0 := by
  have hl : (xs.take i).length = i := by rw [List.length_take]; omega
  simp only [List.getD]
  by_cases h1 : j < i
  · rw [if_pos h1, List.getElem?_append_left (by omega), List.getElem?_take, if_pos h1]
  · rw [if_neg h1, List.getElem?_append_right (by omega), hl]
    by_cases h2 : j = i
    · rw [if_pos h2, h2]; simp
    · rw [if_neg h2]
      obtain ⟨d, rfl⟩ : ∃ d, j = i + d + 1 := ⟨j - i - 1, by omega⟩
      rw [show i + d + 1 - i = d + 1 by omega, List.getElem?_cons_succ, List.getElem?_drop, show i + d + 1 - 1 = i + d by omega]

theorem map_at {xs : List Int} {j : Nat} {v : Value} (h : (xs.map (Value.int .i64))[j]? = some v) : j < xs.length ∧ v = .int .i64 (xs.getD j 0) := by
  rw [List.getElem?_map] at h
  have hlt : j < xs.length := by
    rcases Nat.lt_or_ge j xs.length with h' | h'
    · exact h'
    · rw [List.getElem?_eq_none h'] at h; cases h
  refine ⟨hlt, ?_⟩
  rw [List.getElem?_eq_getElem hlt] at h
  simp at h
  rw [← h]
  simp [List.getD, hlt]

theorem oneCell_ints (xs : List Int) : ∀ v ∈ xs.map (Value.int .i64), v.oneCell' = true := by
  intro v hv
  obtain ⟨x, _, rfl⟩ := List.mem_map.mp hv
  rfl

theorem slicesInsert (v : Value) (base : Nat) (xs : List Int) (i : Nat) (x : Int) (vb : Nat) (w : World) (hown : Own w base v xs) (hbase : base ≤ w.heap.size) (hi : i ≤ xs.length) (hl : xs.length ≤ 1000)
    (hv : Box w vb #[.int .i64 x] 3) (hvb : v.ownBlock ≠ some vb) :
    Calls Try.prog 89 #[v, .int .i64 i, .slice (some ⟨vb, 0, none⟩) 1 1] w fun e w' => ∃ v', e = .returned v' ∧ Own w' base v' (xs.take i ++ x :: xs.drop i) ∧ w.grownBy w' v.ownBlock := by
  have hvs : ∀ j u, [Value.int .i64 x][j]? = some u → w.cell? ⟨vb, 0 + j, none⟩ = some u := by
    intro j u hj
    rw [Nat.zero_add, hv.cell j]
    cases j with
    | zero => simpa using hj
    | succ j => simp at hj
  have h1v : ∀ u ∈ [Value.int .i64 x], u.oneCell' = true := by intro u hu; simp at hu; subst hu; rfl
  have hlen : (xs.take i ++ x :: xs.drop i).length = xs.length + 1 := by simp; omega
  have hmap : (xs.map (Value.int .i64)).length = xs.length := by simp
  have hcell := hown.has
  by_cases hend : i = xs.length
  · subst hend
    have htd : xs.take xs.length ++ x :: xs.drop xs.length = xs ++ [x] := by simp
    -- at the end
    by_cases hroom : ∃ g cap cur, v = .slice (some ⟨g, 0, none⟩) xs.length cap ∧ base ≤ g ∧ Box w g cur 3 ∧ xs.length + 1 ≤ cap ∧ cap ≤ maxLen ∧ cur.size = cap
    · obtain ⟨g, cap, cur, rfl, hg, hb, hc, hm, hs⟩ := hroom
      have hm' : cap ≤ 9223372036854775807 := by unfold maxLen at hm; omega
      have hc0 : ∀ j, j < xs.length → w.cell? ⟨g, j, none⟩ = some (.int .i64 (xs.getD j 0)) := by
        intro j hj
        obtain ⟨a, c', hv', _, _, hx⟩ := hcell
        obtain ⟨b, off, ha, hx⟩ := hx (by omega)
        cases hv'
        cases ha
        simpa using hx j hj
      refine (Any2.slices_Insert_int_end_room insLays g 0 xs.length cap vb 0 1 1 [.int .i64 x] w (by omega) hc hm' rfl (fun j hj => ?_) (fun j _ => hb.frozen _) hvs h1v).mono ?_
      · rw [hb.cell, Array.getElem?_eq_getElem (by omega)]; rfl
      rintro e w' ⟨rfl, rfl⟩
      obtain ⟨cur', hs', hb'⟩ := hb.sets [.int .i64 x] (0 + xs.length) w
      refine ⟨_, rfl, Own.ofCells hb' hg (by rw [hlen]) hc hm (by omega) (fun j hj => ?_), grown_sets g _ _ w⟩
      rw [getD_ins (Nat.le_refl _)]
      by_cases hj' : j < xs.length
      · rw [if_pos hj', World.cell?_setCells_out _ _ _ _ _ (fun _ _ => by simp; omega)]
        exact hc0 j hj'
      · obtain rfl : j = xs.length := by omega
        have := World.cell?_setCells_in g [.int .i64 x] (0 + xs.length) w (fun j hj => by simp at hj; subst hj; rw [hb.cell, Array.getElem?_eq_getElem (by omega)]; rfl) 0 (by simp)
        simpa using this
    · -- no room
      have hsh : ∃ (a : Option Addr) (cap : Nat), v = .slice a xs.length cap ∧ xs.length ≤ cap ∧ cap < xs.length + 1 ∧ (a = none → xs.length = 0) := by
        rcases hown.2 with ⟨h2, h3⟩ | ⟨g, cap, cur, h2, hg, hb, hc, hm, hs, _⟩
        · exact ⟨none, 0, by rw [h3]; exact h2, by omega, by omega, fun _ => h3⟩
        · refine ⟨_, cap, h2, hc, ?_, fun h => by cases h⟩
          rcases Nat.lt_or_ge cap (xs.length + 1) with h | h
          · exact h
          · exact absurd ⟨g, cap, cur, h2, hg, hb, h, hm, by omega⟩ hroom
      obtain ⟨a, cap, rfl, hc, hc', hnil⟩ := hsh
      refine (Any2.slices_Insert_int_end_grow insLays a xs.length cap vb 0 1 1 (xs.map (Value.int .i64)) [.int .i64 x] w (by omega) hc hc' (by omega) hmap rfl hnil (fun ad ha j u hj => ?_) hvs h1v).mono ?_
      · subst ha; exact hcell.cells j u hj
      rintro e w' ⟨rfl, rfl⟩
      have hG := grownCap_ge w (xs.length + 1) cap 3
      have hGm := grownCap_le_maxLen w (xs.length + 1) cap 3 (by unfold maxLen; omega)
      generalize hGG : grownCap w (xs.length + 1) cap (insRen.t 3) = G
      rw [show grownCap w (xs.length + 1) cap 3 = G from hGG] at hG hGm
      obtain ⟨ROW, hROW⟩ : ∃ ROW : Array Value, ROW = (xs.map (Value.int .i64) ++ [Value.int .i64 x]).toArray ++ Builtin.zeroCells (Value.int .i64 0).cells (G - (xs.length + 1)) := ⟨_, rfl⟩
      rw [← hROW]
      have hb0 : Box (w.drew.alloc (.cells ROW (insRen.t 3))) w.heap.size ROW 3 := Box.new w.drew ROW 3
      refine ⟨_, rfl, Own.ofCells hb0 hbase (by rw [hlen]) hG hGm ?_ (fun j hj => ?_), grownBy_trans (grown_drew w _) (World.grownBy_alloc _ _ _)⟩
      · rw [hROW, Array.size_append, size_zeroCells]
        simp [Value.cells]
        omega
      · rw [htd, hb0.cell j, hROW]
        rw [Array.getElem?_append_left (by simp; omega)]
        simp only [List.getElem?_toArray, List.getD]
        rw [show xs.map (Value.int .i64) ++ [Value.int .i64 x] = (xs ++ [x]).map (Value.int .i64) by simp, List.getElem?_map, List.getElem?_eq_getElem (by simp; omega)]
        rfl
  · have hlt : i < xs.length := by omega
    obtain ⟨g, cap, cur, rfl, hg, hb, hc, hm, hs⟩ : ∃ g cap cur, v = .slice (some ⟨g, 0, none⟩) xs.length cap ∧ base ≤ g ∧ Box w g cur 3 ∧ xs.length ≤ cap ∧ cap ≤ maxLen ∧ cur.size = cap := by
      rcases hown.2 with ⟨h2, h3⟩ | ⟨g, cap, cur, h2, hg, hb, hc, hm, hs, _⟩
      · omega
      · exact ⟨g, cap, cur, h2, hg, hb, hc, hm, by omega⟩
    have hm' : cap ≤ 9223372036854775807 := by unfold maxLen at hm; omega
    have hc0 : ∀ j, j < xs.length → w.cell? ⟨g, j, none⟩ = some (.int .i64 (xs.getD j 0)) := by
      intro j hj
      obtain ⟨a, c', hv', _, _, hx⟩ := hcell
      obtain ⟨b, off, ha, hx⟩ := hx (by omega)
      cases hv'
      cases ha
      simpa using hx j hj
    have hcs : ∀ j u, (xs.map (Value.int .i64))[j]? = some u → w.cell? ⟨g, 0 + j, none⟩ = some u := by
      intro j u hj
      obtain ⟨h1, rfl⟩ := map_at hj
      rw [Nat.zero_add]
      exact hc0 j h1
    have hdl : ((xs.map (Value.int .i64)).drop i).length = xs.length - i := by simp
    have hdat : ∀ j (h : j < ((xs.map (Value.int .i64)).drop i).length), ((xs.map (Value.int .i64)).drop i)[j] = .int .i64 (xs.getD (i + j) 0) := by
      intro j h
      have hh : i + j < xs.length := by omega
      simp [List.getD, hh]
    by_cases hroom : xs.length + 1 ≤ cap
    · refine (Any2.slices_Insert_int_shift insLays g 0 xs.length cap i vb 0 1 1 (xs.map (Value.int .i64)) [.int .i64 x] w hlt (by omega) hroom hm' (fun e => hvb (by rw [e]; rfl)) hmap rfl hcs (fun j hj => ?_) (fun j _ => hb.frozen _) hvs (oneCell_ints xs) h1v 3 3 1 cap ?_ ?_ (by omega) (hv.frozen _) (hv.frozen _)).mono ?_
      · rw [hb.cell, Array.getElem?_eq_getElem (by omega)]; rfl
      · unfold World.shape?; rw [show w.heap[vb]? = _ from hv]; rfl
      · unfold World.shape?; rw [show w.heap[g]? = _ from hb]; simp [hs]
      rintro e w' ⟨rfl, rfl⟩
      have hbd : Box w.drew g cur 3 := hb
      obtain ⟨c1, hs1, hb1⟩ := hbd.sets ((xs.map (Value.int .i64)).drop i) (0 + (i + 1)) w.drew
      obtain ⟨c2, hs2, hb2⟩ := hb1.sets [.int .i64 x] (0 + i) _
      refine ⟨_, rfl, Own.ofCells hb2 hg (by rw [hlen]) hroom hm (by omega) (fun j hj => ?_), grownBy_trans (grownBy_trans (grown_drew w _) (grown_sets g _ _ _)) (grown_sets g _ _ _)⟩
      rw [getD_ins hi]
      by_cases h1 : j = i
      · subst h1
        have := World.cell?_setCells_in g [.int .i64 x] (0 + j) (w.drew.setCells g (0 + (j + 1)) ((xs.map (Value.int .i64)).drop j)) (fun t ht => by simp at ht; subst ht; rw [hb1.cell, Array.getElem?_eq_getElem (by omega)]; rfl) 0 (by simp)
        simpa using this
      · rw [World.cell?_setCells_out _ _ _ _ _ (fun _ _ => by simp; omega)]
        by_cases h2 : j < i
        · rw [if_pos h2, World.cell?_setCells_out _ _ _ _ _ (fun _ _ => by left; show j < 0 + (i + 1); omega)]
          exact hc0 j (by omega)
        · rw [if_neg h2, if_neg h1]
          obtain ⟨d, rfl⟩ : ∃ d, j = i + 1 + d := ⟨j - i - 1, by omega⟩
          have := World.cell?_setCells_in g ((xs.map (Value.int .i64)).drop i) (0 + (i + 1)) w.drew (fun t ht => by rw [hbd.cell, Array.getElem?_eq_getElem (by omega)]; rfl) d (by omega)
          rw [hdat d (by omega), Nat.zero_add] at this
          rw [Nat.zero_add, this, show i + 1 + d - 1 = i + d by omega]
    · have hgw : g < w.heap.size := hb.lt
      refine (Any2.slices_Insert_int_grow insLays g 0 xs.length cap i vb 0 1 1 (xs.map (Value.int .i64)) [.int .i64 x] w hlt (by omega) hc (by omega) (by omega) hmap rfl hcs hvs (oneCell_ints xs) h1v).mono ?_
      rintro e w' ⟨rfl, rfl⟩
      have hG := grownCap_ge w (xs.length + 1) cap 3
      have hGm := grownCap_le_maxLen w (xs.length + 1) cap 3 (by unfold maxLen; omega)
      generalize hGG : grownCap w (xs.length + 1) cap (insRen.t 3) = G
      rw [show grownCap w (xs.length + 1) cap 3 = G from hGG] at hG hGm
      obtain ⟨ROW, hROW⟩ : ∃ ROW : Array Value, ROW = ((xs.map (Value.int .i64)).take i).toArray ++ Builtin.zeroCells (Value.int .i64 0).cells (xs.length + 1 - i) ++ Builtin.zeroCells (Value.int .i64 0).cells (G - (xs.length + 1)) := ⟨_, rfl⟩
      rw [← hROW]
      have hRs : ROW.size = G := by
        rw [hROW, Array.size_append, Array.size_append, size_zeroCells, size_zeroCells]
        simp [Value.cells]
        omega
      have hRat : ∀ j, j < i → ROW[j]? = some (.int .i64 (xs.getD j 0)) := by
        intro j hj
        rw [hROW, Array.getElem?_append_left (by simp; omega), Array.getElem?_append_left (by simp; omega)]
        simp only [List.getElem?_toArray]
        rw [List.getElem?_take, if_pos hj, List.getElem?_map, List.getElem?_eq_getElem (by omega)]
        simp [List.getD, show j < xs.length by omega]
      clear hROW
      have hb0 : Box (w.alloc (.cells ROW (insRen.t 3))).drew w.heap.size ROW 3 := Box.new w ROW 3
      obtain ⟨c1, hs1, hb1⟩ := hb0.sets [.int .i64 x] i _
      have hb1' : Box (((w.alloc (.cells ROW (insRen.t 3))).drew.setCells w.heap.size i [.int .i64 x]).drew) w.heap.size c1 3 := hb1
      obtain ⟨c2, hs2, hb2⟩ := hb1'.sets ((xs.map (Value.int .i64)).drop i) (i + 1) _
      refine ⟨_, rfl, Own.ofCells hb2 hbase (by rw [hlen]) hG hGm (by omega) (fun j hj => ?_), ?_⟩
      · rw [getD_ins hi]
        by_cases h2 : j < i
        · rw [if_pos h2, World.cell?_setCells_out _ _ _ _ _ (fun _ _ => by left; show j < i + 1; omega)]
          show ((w.alloc (.cells ROW (insRen.t 3))).drew.setCells w.heap.size i [.int .i64 x]).cell? ⟨w.heap.size, j, none⟩ = _
          rw [World.cell?_setCells_out _ _ _ _ _ (fun _ _ => by left; exact h2), hb0.cell j]
          exact hRat j h2
        · rw [if_neg h2]
          by_cases h1 : j = i
          · subst h1
            rw [if_pos rfl, World.cell?_setCells_out _ _ _ _ _ (fun _ _ => by left; show j < j + 1; omega)]
            have := World.cell?_setCells_in w.heap.size [.int .i64 x] j (w.alloc (.cells ROW (insRen.t 3))).drew (fun t ht => by simp at ht; subst ht; rw [hb0.cell, Array.getElem?_eq_getElem (by omega)]; rfl) 0 (by simp)
            simpa using this
          · rw [if_neg h1]
            obtain ⟨d, rfl⟩ : ∃ d, j = i + 1 + d := ⟨j - i - 1, by omega⟩
            have := World.cell?_setCells_in w.heap.size ((xs.map (Value.int .i64)).drop i) (i + 1) (((w.alloc (.cells ROW (insRen.t 3))).drew.setCells w.heap.size i [.int .i64 x]).drew) (fun t ht => by rw [hb1'.cell, Array.getElem?_eq_getElem (by omega)]; rfl) d (by omega)
            rw [hdat d (by omega)] at this
            rw [this, show i + 1 + d - 1 = i + d by omega]
      · have l1 : Le w (((((w.alloc (.cells ROW (insRen.t 3))).drew.setCells w.heap.size i [.int .i64 x]).drew).setCells w.heap.size (i + 1) ((xs.map (Value.int .i64)).drop i))) :=
          Below.grown (Below.grown ((Le.alloc w _).trans (Le.drew _)) (grownBy_trans (grown_sets w.heap.size [.int .i64 x] i _) (grown_drew _ _)) (by simp) (fun g e => by cases e; exact Nat.le_refl _)) (grown_sets w.heap.size _ _ _) (Nat.le_trans (show w.heap.size ≤ (w.alloc (.cells ROW (insRen.t 3))).drew.heap.size by simp) (grown_sets w.heap.size [.int .i64 x] i (w.alloc (.cells ROW (insRen.t 3))).drew).size) (fun g e => by cases e; exact Nat.le_refl _)
        exact ⟨l1.os, l1.tape, l1.output, l1.size, fun k hk _ => l1.block k hk⟩

end Go.Proofs.Ytibleipfablniaa

/-
  PLAIN GROUND AND THE WALKS over package fds' mayRow, free, put, and over slices.Index at []int: what each answers, for every row. Condition: at put, that the row is the call's own and may be a table's.
-/
namespace Go.Proofs.Ytibleipfablniaa
open Go.RowKit

/-- Do the numbers rise, above l, below 4? -/
def riseFrom (l : Int) : List Int → Bool
  | [] => true
  | x :: r => decide (l < x) && decide (x < 4) && riseFrom x r
/-- May a row be a table's? -/
def rowMay2 (xs : List Int) : Bool := riseFrom (-1) xs

/-- The rows whose numbers rise from 4 - k on. -/
def rowsAbove : Nat → List (List Int)
  | 0 => [[]]
  | k + 1 => rowsAbove k ++ (rowsAbove k).map (List.cons (3 - (k : Int)))

theorem nil_above : ∀ k, ([] : List Int) ∈ rowsAbove k
  | 0 => by simp [rowsAbove]
  | k + 1 => by simp [rowsAbove, nil_above k]

theorem rise_above : ∀ (k : Nat) (l : Int) (xs : List Int), 3 - (k : Int) ≤ l → riseFrom l xs = true → xs ∈ rowsAbove k
  | 0, _, [], _, _ => by simp [rowsAbove]
  | 0, l, x :: r, hl, h => by simp [riseFrom] at h; omega
  | k + 1, _, [], _, _ => nil_above _
  | k + 1, l, x :: r, hl, h => by
    simp only [riseFrom, Bool.and_eq_true, decide_eq_true_eq] at h
    obtain ⟨⟨h1, h2⟩, h3⟩ := h
    rw [rowsAbove, List.mem_append]
    by_cases e : x = 3 - k
    · right
      subst e
      exact List.mem_map.mpr ⟨r, rise_above k _ r (Int.le_refl _) h3, rfl⟩
    · left
      refine rise_above k (3 - k) (x :: r) (Int.le_refl _) ?_
      simp only [riseFrom, Bool.and_eq_true, decide_eq_true_eq]
      exact ⟨⟨by omega, h2⟩, h3⟩

/-- There are sixteen rows that may be a table's. -/
theorem rowMay2_mem {xs : List Int} (h : rowMay2 xs = true) : xs ∈ rowsAbove 4 := rise_above 4 (-1) xs (by omega) h

theorem rows_len : ∀ xs ∈ rowsAbove 4, xs.length ≤ 4 := by decide
theorem rowMay2_len {xs : List Int} (h : rowMay2 xs = true) : xs.length ≤ 4 := rows_len xs (rowMay2_mem h)

/-- The first place, from i on, that does not hold its own number. -/
def freeFrom (i : Int) : List Int → Int
  | [] => i
  | x :: r => if x = i then freeFrom (i + 1) r else i
/-- The least number that is free. -/
def freeS (xs : List Int) : Int := freeFrom 0 xs
/-- The place of a number, counted from i; else -1. -/
def idxFrom (i : Int) (a : Int) : List Int → Int
  | [] => -1
  | x :: r => if a = x then i else idxFrom (i + 1) a r
def idxS (xs : List Int) (a : Int) : Int := idxFrom 0 a xs

theorem freeFrom_bounds : ∀ (i : Int) (xs : List Int), i ≤ freeFrom i xs ∧ freeFrom i xs ≤ i + xs.length
  | i, [] => by simp [freeFrom]
  | i, x :: r => by
    have := freeFrom_bounds (i + 1) r
    simp only [freeFrom, List.length_cons]
    split <;> omega
theorem idxFrom_bounds (a : Int) : ∀ (i : Int) (xs : List Int), idxFrom i a xs = -1 ∨ (i ≤ idxFrom i a xs ∧ idxFrom i a xs < i + xs.length)
  | i, [] => by simp [idxFrom]
  | i, x :: r => by
    have := idxFrom_bounds a (i + 1) r
    simp only [idxFrom, List.length_cons]
    split <;> omega

/-- The row with the least number that is free; that number, or -1. -/
def putS (xs : List Int) : List Int × Int := if 4 ≤ freeS xs then (xs, -1) else (xs.take (freeS xs).toNat ++ freeS xs :: xs.drop (freeS xs).toNat, freeS xs)
/-- The row without a number; 1, or 0 if it was not there. -/
def takeS (xs : List Int) (a : Int) : List Int × Int := if idxS xs a < 0 then (xs, 0) else (xs.take (idxS xs a).toNat ++ xs.drop ((idxS xs a).toNat + 1), 1)

set_option maxHeartbeats 400000 in
theorem fdsMayRow (v : Value) (xs : List Int) (w : World) (hx : Has w v xs) :
    Calls Try.prog 78 #[v] w fun e w' => e = .returned (.bool (rowMay2 xs)) ∧ w = w' := by
  obtain ⟨a, cap, rfl, hc, _, hx⟩ := hx
  obtain ⟨n, hn⟩ : ∃ n, n = xs.length := ⟨_, rfl⟩
  rw [← hn] at hc hx ⊢
  have HN : Hid (n = xs.length) := hn
  clear hn
  go_enter Try.func78, Try.ntmps78
  go_wp2
  go_loop [3, 8] (fun l i => ∃ (k : Nat) (y : Int), k ≤ n ∧ (k : Int) ≤ y + 1 ∧ y < 4 ∧ i = .int .i64 k ∧ l = .int .i64 y ∧ Hid (rowMay2 xs = riseFrom y (xs.drop k))) (fun _ i => n - (intOf i).toNat)
  case atStart => exact ⟨0, -1, by omega, by omega, by omega, rfl, rfl, hid (by simp [rowMay2])⟩
  case round =>
    obtain ⟨k, y, hk, hy1, hy2, rfl, rfl, HR⟩ := hrel
    by_cases hlt : k < n
    · obtain ⟨b, off, rfl, hcell⟩ := hx (by omega)
      have c0 := hcell k hlt
      have hd := HR.out
      rw [drop_at (by have := HN.out; omega)] at hd
      obtain ⟨x, hxk⟩ : ∃ x, x = xs.getD k 0 := ⟨_, rfl⟩
      rw [← hxk] at c0 hd
      simp only [riseFrom] at hd
      have k0 : (0 : Int) ≤ (k : Int) := by omega
      have k1 : (k : Int) < (n : Int) := by omega
      by_cases h1 : y < x
      · by_cases h2 : x < 4
        · have HD : Hid (rowMay2 xs = riseFrom x (xs.drop (k + 1))) := hid (by rw [hd]; simp [h1, h2])
          clear hd hxk hcell hx HR
          go_wp2
          go_round
          case rel => exact ⟨k + 1, x, by omega, by omega, by omega, by go_num, rfl, HD⟩
          case measure => simp [intOf]; omega
        · have HD : Hid (rowMay2 xs = false) := hid (by rw [hd]; simp [h2])
          clear hd hxk hcell hx HR
          go_wp2
          go_ret
          exact ⟨ret_bool HD.out.symm, rfl⟩
      · have HD : Hid (rowMay2 xs = false) := hid (by rw [hd]; simp [h1])
        clear hd hxk hcell hx HR
        go_wp2
        go_ret
        exact ⟨ret_bool HD.out.symm, rfl⟩
    · obtain rfl : k = n := by omega
      have HD : Hid (rowMay2 xs = true) := hid (by have := HR.out; rw [List.drop_eq_nil_of_le (by have := HN.out; omega)] at this; exact this)
      go_wp2
      go_ret
      exact ⟨ret_bool HD.out.symm, rfl⟩

set_option maxHeartbeats 400000 in
theorem fdsFree (v : Value) (xs : List Int) (w : World) (hx : Has w v xs) (hl : xs.length ≤ 1000) :
    Calls Try.prog 88 #[v] w fun e w' => e = .returned (.int .i64 (freeS xs)) ∧ w = w' := by
  obtain ⟨a, cap, rfl, hc, _, hx⟩ := hx
  obtain ⟨n, hn⟩ : ∃ n, n = xs.length := ⟨_, rfl⟩
  rw [← hn] at hc hx hl ⊢
  have HN : Hid (n = xs.length) := hn
  clear hn
  go_enter Try.func88, Try.ntmps88
  go_wp2
  go_loop [7] (fun i => ∃ k : Nat, k ≤ n ∧ i = .int .i64 k ∧ Hid (freeS xs = freeFrom k (xs.drop k))) (fun i => n - (intOf i).toNat)
  case atStart => exact ⟨0, by omega, rfl, hid (by simp [freeS])⟩
  case round =>
    obtain ⟨k, hk, rfl, HR⟩ := hrel
    by_cases hlt : k < n
    · obtain ⟨b, off, rfl, hcell⟩ := hx (by omega)
      have c0 := hcell k hlt
      have hd := HR.out
      rw [drop_at (by have := HN.out; omega)] at hd
      obtain ⟨x, hxk⟩ : ∃ x, x = xs.getD k 0 := ⟨_, rfl⟩
      rw [← hxk] at c0 hd
      simp only [freeFrom] at hd
      have k0 : (0 : Int) ≤ (k : Int) := by omega
      have k1 : (k : Int) < (n : Int) := by omega
      by_cases h1 : x = k
      · have HD : Hid (freeS xs = freeFrom ((k + 1 : Nat) : Int) (xs.drop (k + 1))) := hid (by rw [hd]; simp [h1])
        clear hd hxk hcell hx HR
        go_wp2
        go_round
        case rel => exact ⟨k + 1, by omega, by go_num, HD⟩
        case measure => simp [intOf]; omega
      · have HD : Hid (freeS xs = k) := hid (by rw [hd]; simp [h1])
        clear hd hxk hcell hx HR
        go_wp2
        go_ret
        exact ⟨by rw [HD.out]; rfl, rfl⟩
    · obtain rfl : k = n := by omega
      have HD : Hid (freeS xs = k) := hid (by have := HR.out; rw [List.drop_eq_nil_of_le (by have := HN.out; omega)] at this; exact this)
      go_wp2
      go_ret
      exact ⟨by rw [HD.out]; rfl, rfl⟩

set_option maxHeartbeats 400000 in
theorem slicesIndex (v : Value) (xs : List Int) (x0 : Int) (w : World) (hx : Has w v xs) (hl : xs.length ≤ 1000) :
    Calls Try.prog 90 #[v, .int .i64 x0] w fun e w' => e = .returned (.int .i64 (idxS xs x0)) ∧ w = w' := by
  obtain ⟨a, cap, rfl, hc, _, hx⟩ := hx
  obtain ⟨n, hn⟩ : ∃ n, n = xs.length := ⟨_, rfl⟩
  rw [← hn] at hc hx hl ⊢
  have HN : Hid (n = xs.length) := hn
  clear hn
  go_enter Try.func90, Try.ntmps90
  go_wp2
  go_loop [8] (fun i => ∃ k : Nat, k ≤ n ∧ i = .int .i64 k ∧ Hid (idxS xs x0 = idxFrom k x0 (xs.drop k))) (fun i => n - (intOf i).toNat)
  case atStart => exact ⟨0, by omega, rfl, hid (by simp [idxS])⟩
  case round =>
    obtain ⟨k, hk, rfl, HR⟩ := hrel
    by_cases hlt : k < n
    · obtain ⟨b, off, rfl, hcell⟩ := hx (by omega)
      have c0 := hcell k hlt
      have hd := HR.out
      rw [drop_at (by have := HN.out; omega)] at hd
      obtain ⟨x, hxk⟩ : ∃ x, x = xs.getD k 0 := ⟨_, rfl⟩
      rw [← hxk] at c0 hd
      simp only [idxFrom] at hd
      have k0 : (0 : Int) ≤ (k : Int) := by omega
      have k1 : (k : Int) < (n : Int) := by omega
      by_cases h1 : x0 = x
      · subst h1
        have HD : Hid (idxS xs x0 = k) := hid (by rw [hd]; simp)
        clear hd hxk hcell hx HR
        go_wp2
        go_ret
        exact ⟨by rw [HD.out]; rfl, rfl⟩
      · have HD : Hid (idxS xs x0 = idxFrom ((k + 1 : Nat) : Int) x0 (xs.drop (k + 1))) := hid (by rw [hd]; simp [h1])
        clear hd hxk hcell hx HR
        go_wp2
        go_round
        case rel => exact ⟨k + 1, by omega, by go_num, HD⟩
        case measure => simp [intOf]; omega
    · obtain rfl : k = n := by omega
      have HD : Hid (idxS xs x0 = -1) := hid (by have := HR.out; rw [List.drop_eq_nil_of_le (by have := HN.out; omega)] at this; exact this)
      go_wp2
      go_ret
      exact ⟨by rw [HD.out]; rfl, rfl⟩

set_option maxHeartbeats 400000 in
theorem fdsPut (v : Value) (base : Nat) (xs : List Int) (a : Int) (w : World) (hown : Own w base v xs) (hbase : base ≤ w.heap.size) (hl : xs.length ≤ 1000) :
    Calls Try.prog 80 #[v, .int .i64 a] w fun e w' => ∃ v', e = .returned (.tuple #[v', .int .i64 (putS xs).2]) ∧ Own w' base v' (putS xs).1 ∧ w.grownBy w' v.ownBlock := by
  have hfree := fdsFree v xs w hown.has hl
  obtain ⟨b0, b1⟩ := freeFrom_bounds 0 xs
  rw [show freeFrom 0 xs = freeS xs from rfl] at b0 b1
  by_cases h4 : 4 ≤ freeS xs
  · have HP : Hid (putS xs = (xs, -1)) := hid (by simp [putS, h4])
    go_enter Try.func80, Try.ntmps80
    go_wp2_with fail
    refine hfree.mono ?_
    rintro e w1 ⟨rfl, rfl⟩
    go_wp2
    go_ret2
    rw [HP.out]
    exact ⟨_, rfl, hown, World.grownBy.refl _ _⟩
  · have HP : Hid (putS xs = (xs.take (freeS xs).toNat ++ freeS xs :: xs.drop (freeS xs).toNat, freeS xs)) := hid (by simp [putS, h4])
    obtain ⟨i, hi⟩ : ∃ i : Nat, freeS xs = i := ⟨(freeS xs).toNat, by omega⟩
    rw [hi] at h4 hfree b0 b1
    have hnb : v.ownBlock ≠ some w.heap.size := fun e => by have := (hown.block e).2; omega
    have hins := slicesInsert v base xs i i w.heap.size (w.alloc (.cells #[.int .i64 i] 3)) (hown.le (Le.alloc _ _)) (by simp; omega) (by omega) hl (Box.new w _ _) hnb
    go_enter Try.func80, Try.ntmps80
    go_wp2_with fail
    refine hfree.mono ?_
    rintro e w1 ⟨rfl, rfl⟩
    go_wp2_with fail
    refine hins.mono ?_
    rintro e w2 ⟨v', rfl, ho, hg⟩
    go_wp2
    go_ret2
    rw [HP.out, hi]
    exact ⟨_, rfl, ho, grownBy_trans (World.grownBy_alloc _ _ _) hg⟩

end Go.Proofs.Ytibleipfablniaa

/-
  PLAIN GROUND: an append of numbers to a row of the call's own, inside a statement that draws its order. Condition: that the bytes are within the reach that every row bears.
-/
namespace Go.Proofs.Ytibleipfablniaa
open Go.RowKit

/-- An append of a slice of numbers to one of the call's own, as one step of a region that draws its order. -/
theorem step_append_ints {ops : Array Oper} {o : Oper} {a : Act} {K : Act → World → Prop} {Q : Exit → Act → World → Prop} {E : Prop} {w : World} (hgd : o.guard = none) (s x : Operand)
    (ho : o.op = .call { callee := .builtin .append, args := #[s, x], argTypes := #[40, 40] }) (base : Nat) (v u : Value) (xs ys : List Int)
    (hs : a.eval s = v) (hx : a.eval x = u) (hown : Own w base v xs) (hu : Has w u ys) (hr : (xs.length + ys.length) * 8 ≤ 140737488355328) (hbase : base ≤ w.heap.size)
    (h : ∀ v' w', Own w' base v' (xs ++ ys) → w.grownBy w' v.ownBlock → K (a.put o.dst v') w') :
    if Region.wanted o (yielded ops a.tmps) = true then Oper.wp Try.prog o a w K Q else E := by
  have hw : Region.wanted o (yielded ops a.tmps) = true := by simp [Region.wanted, hgd]
  rw [if_pos hw]
  obtain ⟨i0, hi, hz0, hz1, hz2⟩ := info_parts info3
  have hu0 := hu
  obtain ⟨ad, cap, rfl, hc, hn, _⟩ := hu
  cases ad with
  | none =>
    have h0 := hn rfl
    have hnil : ys = [] := by cases ys with | nil => rfl | cons _ _ => simp at hc; omega
    subst hnil h0
    have hrun := run_append_owned_none (P := Try.prog) (w := w) base 40 o.type 3 i0 1 Try.underlying40 hi v _ _ hown
    unfold Oper.wp
    simp only [List.length_nil] at hx
    simp [execOp, ho, resolve, invoke, builtin, hs, hx, hrun, Result.andThen]
    exact h _ _ (by simpa using hown) (World.grownBy.refl _ _)
  | some ad =>
    refine wp_append_own w s x 40 ho base 3 i0 (.int .i64 0) 1 8 Try.underlying40 hi hz0 hz1 hz2 rfl (by decide) v _ _ hs hown ad ys.length cap (ys.map (Value.int .i64)) hx (by simp) hu0.cells (ints_oneCell _ _) (by unfold maxLen; omega) hr hbase ?_
    intro v' w' h1 h2 _
    exact h _ _ (Own.of h1 (by simp) (by simp)) h2

end Go.Proofs.Ytibleipfablniaa

/-
  PLAIN GROUND, NO WALK: a state with another row, again and again. No condition.
-/
namespace Go.Proofs.Ytibleipfablniaa

theorem St.put_put {s : St} {k : Nat} {x y : List Int} : (s.put k x).put k y = s.put k y := by
  match k with
  | 0 => rfl
  | 1 => rfl
  | 2 => rfl
  | _ + 3 => rfl
theorem St.zero_put {k : Nat} : St.zero.put k [] = St.zero := by
  unfold St.put; split <;> rfl
theorem St.put_at {s : St} {k : Nat} (hk : k < 4) {x : List Int} : (s.put k x).at k = x := by
  rw [St.at_put hk hk]; simp
theorem St.put_same {s : St} {k : Nat} (hk : k < 4) : s.put k (s.at k) = s :=
  St.ext_at fun i hi => by rw [St.at_put hk hi]; split <;> simp_all
theorem fit_small {s : St} (h : s.r0.length ≤ 100 ∧ s.r1.length ≤ 100 ∧ s.r2.length ≤ 100 ∧ s.r3.length ≤ 100) : Fit s := by
  intro i hi
  rcases four hi with rfl | rfl | rfl | rfl <;> simp only [St.at] <;> omega

end Go.Proofs.Ytibleipfablniaa

/-
  THE WALKS over package states' Counted: the state that an operation makes, and its answer, for every two functions that make another row of one, in the call's own memory. Condition: the state's rows can be copied, and are short.
-/
namespace Go.Proofs.Ytibleipfablniaa
open Go.RowKit

/-- The function f makes the row F of a row of the call's own, and answers a number; nothing else turns. -/
structure TurnsRow (f : Nat) (F : List Int → Int → List Int × Int) : Prop where
  enter : ∀ (u x : Value) (w : World), (callFunc f #[u, x]).run Try.prog w = .ok (.enter f #[u, x]) w
  calls : ∀ (v : Value) (base : Nat) (xs : List Int) (a : Int) (w : World), Own w base v xs → base ≤ w.heap.size → xs.length ≤ 4 → 0 ≤ a ∧ a ≤ 255 →
    Calls Try.prog f #[v, .int .i64 a] w fun e w' => ∃ v', e = .returned (.tuple #[v', .int .i64 (F xs a).2]) ∧ Own w' base v' (F xs a).1 ∧ w.grownBy w' v.ownBlock

theorem Le.grownBy {w w' : World} (h : Le w w') (row : Option Nat) : w.grownBy w' row := ⟨h.os, h.tape, h.output, h.size, fun k hk _ => h.block k hk⟩

set_option maxHeartbeats 2000000 in
theorem countedFirst (f g : Nat) (F : List Int → Int → List Int × Int) (hF : TurnsRow f F) (v : Value) (s : St) (k : Nat) (a : Int) (w : World) (hx : HasS w v s) (hf : Fit s) (hlen : ∀ j, j < 4 → (s.at j).length ≤ 4) (hk : k < 4) (ha : 0 ≤ a ∧ a ≤ 255) :
    Calls Try.prog 79 #[v, opV 0 k a, .func (.func f) #[] #[], .func (.func g) #[] #[]] w fun e w' => ∃ v', e = .returned (.tuple #[v', .int .i64 (F (s.at k) a).2]) ∧ OwnS w' w.heap.size v' (s.put k (F (s.at k) a).1) ∧ Le w w' := by
  have hx0 := hx
  obtain ⟨vs, rfl, hr⟩ := hx
  have hl := ((Le.alloc w (.cells (cells4 vs) 44)).trans (Le.alloc _ (.cells #[.int .i64 0, .int .i64 k, .int .i64 a] 50))).trans (Le.alloc _ (.cells (cells4 fun _ => slZ) 44))
  have hb2 := (Box.new (w.alloc (.cells (cells4 vs) 44)) #[.int .i64 0, .int .i64 k, .int .i64 a] 50).le (Le.alloc _ (.cells (cells4 fun _ => slZ) 44))
  have hb3 := Box.new ((w.alloc (.cells (cells4 vs) 44)).alloc (.cells #[.int .i64 0, .int .i64 k, .int .i64 a] 50)) (cells4 fun _ => slZ) 44
  simp only [World.size_alloc] at hb2 hb3
  go_enter Try.func79, Try.ntmps79
  go_wp2_with fail
  refine (statesCopy (stV vs) s _ (hx0.le hl) hf).mono ?_
  rintro e w3 ⟨us, rfl, hown, hap, l1⟩
  replace hown := fun i hi => (hown i hi).base (base' := w.heap.size + 1 + 1 + 1) (by simp)
  have n0 : w.heap.size + 1 + 1 < w3.heap.size := (hb3.le l1).lt
  have n1 : ¬ w.heap.size + 1 + 1 = w3.heap.size := by omega
  have n2 : ¬ w.heap.size + 1 + 1 = w.heap.size := by omega
  have n3 : ¬ w.heap.size + 1 + 1 = w.heap.size + 1 := by omega
  have n4 : ¬ w.heap.size + 1 = w3.heap.size := by omega
  have n5 : ¬ w3.heap.size = w.heap.size + 1 := by omega
  have hb4 := Box.new w3 (cells4 us) 44
  replace l1 := l1.trans (Le.alloc w3 (.cells (cells4 us) 44))
  replace hown := fun i hi => (hown i hi).le (Le.alloc w3 (.cells (cells4 us) 44))
  go_upto_region 2 with fail
  generalize hW : w3.alloc (.cells (cells4 us) 44) = W at hb4 l1 hown ⊢
  clear hW
  have o0 := (hb2.le l1).op.1
  have o1 := (hb2.le l1).op.2.1
  have o2 := (hb2.le l1).op.2.2.1
  have t1 : W.cell? ⟨w3.heap.size, k, none⟩ = some (slV (us k)) := (hb4.cell k).trans (cells4_at us hk)
  have k0 : (0 : Int) ≤ ((k : Nat) : Int) := by omega
  have k1 : ((k : Nat) : Int) < 4 := by omega
  have hcall := hF.calls (slV (us k)) (w.heap.size + 1 + 1 + 1) (s.at k) a W (hown k hk) (by have := l1.size; simpa using this) (hlen k hk) ha
  have hin := hF.enter
  go_wp2_with fail
  refine hcall.mono ?_
  rintro e w4 ⟨v', rfl, ho, hg⟩
  obtain ⟨q, rfl⟩ := ho.has.sl
  have hb5 : Box w4 w3.heap.size (cells4 us) 44 := Box.grown hb4 hg (fun e => (hown k hk).apart hb4 (by decide) e)
  have l5 : Le _ w4 := Below.grown l1 hg l1.size (fun g e => by have := ((hown k hk).block e).1; simpa using this)
  clear o0 o1 o2 t1 hcall hin
  have p1 := (hb2.le l5).op.2.1
  have c5 : w4.cell? ⟨w3.heap.size, k, none⟩ = some (slV (us k)) := (hb5.cell k).trans (cells4_at us hk)
  have f5 := hb5.frozen k
  have hown5 : ∀ i, i < 4 → Own (w4.setCell ⟨w3.heap.size, k, none⟩ (slV q)) (w.heap.size + 1 + 1 + 1) (slV (upd us k q i)) ((s.put k (F (s.at k) a).1).at i) := by
    intro i hi
    rw [St.at_put hk hi]
    by_cases e : i = k
    · rw [if_pos e, show upd us k q i = q by simp [upd, e]]; exact ho.setBox hb5 (by decide)
    · rw [if_neg e, show upd us k q i = us i by simp [upd, e]]; exact ((hown i hi).grown hg (fun g e1 e2 => hap i k hi hk e g e1 e2)).setBox hb5 (by decide)
  have hb6 := hb5.set k (slV q)
  rw [cells4_upd us hk] at hb6
  have l6 : Le _ (w4.setCell ⟨w3.heap.size, k, none⟩ (slV q)) := Below.setCell l5 (by simp only [World.size_alloc]; show w.heap.size + 1 + 1 + 1 ≤ w3.heap.size; omega) _
  go_upto_region 13 with fail
  generalize hW2 : w4.setCell ⟨w3.heap.size, k, none⟩ (slV q) = W2 at hb6 l6 hown5 ⊢
  generalize upd us k q = us' at hb6 hown5
  clear hW2 p1 c5 f5
  obtain ⟨y0, y1, y2, y3, _, _, _, _⟩ := hb6.st
  obtain ⟨z0, z1, z2, z3, f0, f1, f2, f3⟩ := (hb3.le l6).st
  go_wp2_with fail
  refine bodyPost_ret (v := .tuple #[stV us', .int .i64 (F (s.at k) a).2]) (by simp [results, Try.results79, go_sem, z0, z1, z2, z3]) rfl ⟨_, rfl, ⟨us', rfl, fun i hi => ?_⟩, ?_⟩
  · exact ((hown5 i hi).base (by omega)).set4 (hb3.le l6) (by decide) _ _ _ _
  · exact (hl.trans l6).set4 (by omega) _ _ _ _

set_option maxHeartbeats 2000000 in
theorem countedSecond (f g : Nat) (G : List Int → Int → List Int × Int) (hG : TurnsRow g G) (v : Value) (s : St) (k : Nat) (a : Int) (w : World) (hx : HasS w v s) (hf : Fit s) (hlen : ∀ j, j < 4 → (s.at j).length ≤ 4) (hk : k < 4) (ha : 0 ≤ a ∧ a ≤ 255) :
    Calls Try.prog 79 #[v, opV 1 k a, .func (.func f) #[] #[], .func (.func g) #[] #[]] w fun e w' => ∃ v', e = .returned (.tuple #[v', .int .i64 (G (s.at k) a).2]) ∧ OwnS w' w.heap.size v' (s.put k (G (s.at k) a).1) ∧ Le w w' := by
  have hx0 := hx
  obtain ⟨vs, rfl, hr⟩ := hx
  have hl := ((Le.alloc w (.cells (cells4 vs) 44)).trans (Le.alloc _ (.cells #[.int .i64 1, .int .i64 k, .int .i64 a] 50))).trans (Le.alloc _ (.cells (cells4 fun _ => slZ) 44))
  have hb2 := (Box.new (w.alloc (.cells (cells4 vs) 44)) #[.int .i64 1, .int .i64 k, .int .i64 a] 50).le (Le.alloc _ (.cells (cells4 fun _ => slZ) 44))
  have hb3 := Box.new ((w.alloc (.cells (cells4 vs) 44)).alloc (.cells #[.int .i64 1, .int .i64 k, .int .i64 a] 50)) (cells4 fun _ => slZ) 44
  simp only [World.size_alloc] at hb2 hb3
  go_enter Try.func79, Try.ntmps79
  go_wp2_with fail
  refine (statesCopy (stV vs) s _ (hx0.le hl) hf).mono ?_
  rintro e w3 ⟨us, rfl, hown, hap, l1⟩
  replace hown := fun i hi => (hown i hi).base (base' := w.heap.size + 1 + 1 + 1) (by simp)
  have n0 : w.heap.size + 1 + 1 < w3.heap.size := (hb3.le l1).lt
  have n1 : ¬ w.heap.size + 1 + 1 = w3.heap.size := by omega
  have n2 : ¬ w.heap.size + 1 + 1 = w.heap.size := by omega
  have n3 : ¬ w.heap.size + 1 + 1 = w.heap.size + 1 := by omega
  have n4 : ¬ w.heap.size + 1 = w3.heap.size := by omega
  have n5 : ¬ w3.heap.size = w.heap.size + 1 := by omega
  have hb4 := Box.new w3 (cells4 us) 44
  replace l1 := l1.trans (Le.alloc w3 (.cells (cells4 us) 44))
  replace hown := fun i hi => (hown i hi).le (Le.alloc w3 (.cells (cells4 us) 44))
  go_upto_region 2 with fail
  generalize hW : w3.alloc (.cells (cells4 us) 44) = W at hb4 l1 hown ⊢
  clear hW
  have o0 := (hb2.le l1).op.1
  have o1 := (hb2.le l1).op.2.1
  have o2 := (hb2.le l1).op.2.2.1
  have t1 : W.cell? ⟨w3.heap.size, k, none⟩ = some (slV (us k)) := (hb4.cell k).trans (cells4_at us hk)
  have k0 : (0 : Int) ≤ ((k : Nat) : Int) := by omega
  have k1 : ((k : Nat) : Int) < 4 := by omega
  have hcall := hG.calls (slV (us k)) (w.heap.size + 1 + 1 + 1) (s.at k) a W (hown k hk) (by have := l1.size; simpa using this) (hlen k hk) ha
  have hin := hG.enter
  go_wp2_with fail
  refine hcall.mono ?_
  rintro e w4 ⟨v', rfl, ho, hg⟩
  obtain ⟨q, rfl⟩ := ho.has.sl
  have hb5 : Box w4 w3.heap.size (cells4 us) 44 := Box.grown hb4 hg (fun e => (hown k hk).apart hb4 (by decide) e)
  have l5 : Le _ w4 := Below.grown l1 hg l1.size (fun g e => by have := ((hown k hk).block e).1; simpa using this)
  clear o0 o1 o2 t1 hcall hin
  have p1 := (hb2.le l5).op.2.1
  have c5 : w4.cell? ⟨w3.heap.size, k, none⟩ = some (slV (us k)) := (hb5.cell k).trans (cells4_at us hk)
  have f5 := hb5.frozen k
  have hown5 : ∀ i, i < 4 → Own (w4.setCell ⟨w3.heap.size, k, none⟩ (slV q)) (w.heap.size + 1 + 1 + 1) (slV (upd us k q i)) ((s.put k (G (s.at k) a).1).at i) := by
    intro i hi
    rw [St.at_put hk hi]
    by_cases e : i = k
    · rw [if_pos e, show upd us k q i = q by simp [upd, e]]; exact ho.setBox hb5 (by decide)
    · rw [if_neg e, show upd us k q i = us i by simp [upd, e]]; exact ((hown i hi).grown hg (fun g e1 e2 => hap i k hi hk e g e1 e2)).setBox hb5 (by decide)
  have hb6 := hb5.set k (slV q)
  rw [cells4_upd us hk] at hb6
  have l6 : Le _ (w4.setCell ⟨w3.heap.size, k, none⟩ (slV q)) := Below.setCell l5 (by simp only [World.size_alloc]; show w.heap.size + 1 + 1 + 1 ≤ w3.heap.size; omega) _
  go_upto_region 13 with fail
  generalize hW2 : w4.setCell ⟨w3.heap.size, k, none⟩ (slV q) = W2 at hb6 l6 hown5 ⊢
  generalize upd us k q = us' at hb6 hown5
  clear hW2 p1 c5 f5
  obtain ⟨y0, y1, y2, y3, _, _, _, _⟩ := hb6.st
  obtain ⟨z0, z1, z2, z3, f0, f1, f2, f3⟩ := (hb3.le l6).st
  go_wp2_with fail
  refine bodyPost_ret (v := .tuple #[stV us', .int .i64 (G (s.at k) a).2]) (by simp [results, Try.results79, go_sem, z0, z1, z2, z3]) rfl ⟨_, rfl, ⟨us', rfl, fun i hi => ?_⟩, ?_⟩
  · exact ((hown5 i hi).base (by omega)).set4 (hb3.le l6) (by decide) _ _ _ _
  · exact (hl.trans l6).set4 (by omega) _ _ _ _

set_option maxHeartbeats 2000000 in
theorem countedLook (f g : Nat) (v : Value) (s : St) (k : Nat) (w : World) (hx : HasS w v s) (hf : Fit s) (_hlen : ∀ j, j < 4 → (s.at j).length ≤ 4) (hk : k < 4) :
    Calls Try.prog 79 #[v, opV 2 k 0, .func (.func f) #[] #[], .func (.func g) #[] #[]] w fun e w' => ∃ v', e = .returned (.tuple #[v', .int .i64 ((s.at k).length : Int)]) ∧ OwnS w' w.heap.size v' (s) ∧ Le w w' := by
  have hx0 := hx
  obtain ⟨vs, rfl, hr⟩ := hx
  have hl := ((Le.alloc w (.cells (cells4 vs) 44)).trans (Le.alloc _ (.cells #[.int .i64 2, .int .i64 k, .int .i64 0] 50))).trans (Le.alloc _ (.cells (cells4 fun _ => slZ) 44))
  have hb2 := (Box.new (w.alloc (.cells (cells4 vs) 44)) #[.int .i64 2, .int .i64 k, .int .i64 0] 50).le (Le.alloc _ (.cells (cells4 fun _ => slZ) 44))
  have hb3 := Box.new ((w.alloc (.cells (cells4 vs) 44)).alloc (.cells #[.int .i64 2, .int .i64 k, .int .i64 0] 50)) (cells4 fun _ => slZ) 44
  simp only [World.size_alloc] at hb2 hb3
  go_enter Try.func79, Try.ntmps79
  go_wp2_with fail
  refine (statesCopy (stV vs) s _ (hx0.le hl) hf).mono ?_
  rintro e w3 ⟨us, rfl, hown, hap, l1⟩
  replace hown := fun i hi => (hown i hi).base (base' := w.heap.size + 1 + 1 + 1) (by simp)
  have n0 : w.heap.size + 1 + 1 < w3.heap.size := (hb3.le l1).lt
  have n1 : ¬ w.heap.size + 1 + 1 = w3.heap.size := by omega
  have n2 : ¬ w.heap.size + 1 + 1 = w.heap.size := by omega
  have n3 : ¬ w.heap.size + 1 + 1 = w.heap.size + 1 := by omega
  have n4 : ¬ w.heap.size + 1 = w3.heap.size := by omega
  have n5 : ¬ w3.heap.size = w.heap.size + 1 := by omega
  have hb4 := Box.new w3 (cells4 us) 44
  replace l1 := l1.trans (Le.alloc w3 (.cells (cells4 us) 44))
  replace hown := fun i hi => (hown i hi).le (Le.alloc w3 (.cells (cells4 us) 44))
  go_upto_region 2 with fail
  generalize hW : w3.alloc (.cells (cells4 us) 44) = W at hb4 l1 hown ⊢
  clear hW
  have o0 := (hb2.le l1).op.1
  have o1 := (hb2.le l1).op.2.1
  have o2 := (hb2.le l1).op.2.2.1
  have t1 : W.cell? ⟨w3.heap.size, k, none⟩ = some (slV (us k)) := (hb4.cell k).trans (cells4_at us hk)
  have k0 : (0 : Int) ≤ ((k : Nat) : Int) := by omega
  have k1 : ((k : Nat) : Int) < 4 := by omega
  have hle : (us k).2.1 = (s.at k).length := by
    obtain ⟨ad, cap, e, _⟩ := (hown k hk).has
    simp only [Value.slice.injEq] at e
    exact e.2.1
  have p1 := o1
  have c5 := t1
  have f5 := hb4.frozen k
  have hb5 := hb4
  have l5 := l1
  have ho := hown k hk
  have hg : W.grownBy W none := World.grownBy.refl _ _
  have hap : ∀ i j : Nat, i < 4 → j < 4 → i ≠ j → ∀ g : Nat, (slV (us i)).ownBlock = some g → (none : Option Nat) ≠ some g := fun _ _ _ _ _ _ _ h => by cases h
  have HLE : Hid ((us k).2.1 = (s.at k).length) := hle
  clear hle
  generalize hq : us k = q at ho t1 c5 HLE ⊢
  obtain ⟨w4, hw4⟩ : ∃ w4, w4 = W := ⟨_, rfl⟩
  subst hw4
  have hown5 : ∀ i, i < 4 → Own (w4.setCell ⟨w3.heap.size, k, none⟩ (slV q)) (w.heap.size + 1 + 1 + 1) (slV (upd us k q i)) ((s.put k (s.at k)).at i) := by
    intro i hi
    rw [St.at_put hk hi]
    by_cases e : i = k
    · rw [if_pos e, show upd us k q i = q by simp [upd, e]]; exact ho.setBox hb5 (by decide)
    · rw [if_neg e, show upd us k q i = us i by simp [upd, e]]; exact ((hown i hi).grown hg (fun g e1 e2 => hap i k hi hk e g e1 e2)).setBox hb5 (by decide)
  have hb6 := hb5.set k (slV q)
  rw [cells4_upd us hk] at hb6
  have l6 : Le _ (w4.setCell ⟨w3.heap.size, k, none⟩ (slV q)) := Below.setCell l5 (by simp only [World.size_alloc]; show w.heap.size + 1 + 1 + 1 ≤ w3.heap.size; omega) _
  go_upto_region 13 with fail
  generalize hW2 : w4.setCell ⟨w3.heap.size, k, none⟩ (slV q) = W2 at hb6 l6 hown5 ⊢
  generalize upd us k q = us' at hb6 hown5
  clear hW2 p1 c5 f5
  obtain ⟨y0, y1, y2, y3, _, _, _, _⟩ := hb6.st
  obtain ⟨z0, z1, z2, z3, f0, f1, f2, f3⟩ := (hb3.le l6).st
  go_wp2_with fail
  refine bodyPost_ret (v := .tuple #[stV us', .int .i64 (q.2.1 : Int)]) (by simp [results, Try.results79, go_sem, z0, z1, z2, z3]) rfl ⟨stV us', by rw [HLE.out], ⟨us', rfl, fun i hi => ?_⟩, ?_⟩
  · rw [← St.put_same (s := s) hk]; exact ((hown5 i hi).base (by omega)).set4 (hb3.le l6) (by decide) _ _ _ _
  · exact (hl.trans l6).set4 (by omega) _ _ _ _

set_option maxHeartbeats 2000000 in
theorem countedScan (f g : Nat) (v : Value) (s : St) (w : World) (hx : HasS w v s) (hf : Fit s) (hlen : ∀ j, j < 4 → (s.at j).length ≤ 4) :
    Calls Try.prog 79 #[v, opV 3 0 0, .func (.func f) #[] #[], .func (.func g) #[] #[]] w fun e w' => ∃ v', e = .returned (.tuple #[v', .int .i64 (manyTo s 4)]) ∧ OwnS w' w.heap.size v' (s) ∧ Le w w' := by
  have hk : (0 : Nat) < 4 := by omega
  have hx0 := hx
  obtain ⟨vs, rfl, hr⟩ := hx
  have hl := ((Le.alloc w (.cells (cells4 vs) 44)).trans (Le.alloc _ (.cells #[.int .i64 3, .int .i64 0, .int .i64 0] 50))).trans (Le.alloc _ (.cells (cells4 fun _ => slZ) 44))
  have hb2 := (Box.new (w.alloc (.cells (cells4 vs) 44)) #[.int .i64 3, .int .i64 0, .int .i64 0] 50).le (Le.alloc _ (.cells (cells4 fun _ => slZ) 44))
  have hb3 := Box.new ((w.alloc (.cells (cells4 vs) 44)).alloc (.cells #[.int .i64 3, .int .i64 0, .int .i64 0] 50)) (cells4 fun _ => slZ) 44
  simp only [World.size_alloc] at hb2 hb3
  go_enter Try.func79, Try.ntmps79
  go_wp2_with fail
  refine (statesCopy (stV vs) s _ (hx0.le hl) hf).mono ?_
  rintro e w3 ⟨us, rfl, hown, hap, l1⟩
  replace hown := fun i hi => (hown i hi).base (base' := w.heap.size + 1 + 1 + 1) (by simp)
  have n0 : w.heap.size + 1 + 1 < w3.heap.size := (hb3.le l1).lt
  have n1 : ¬ w.heap.size + 1 + 1 = w3.heap.size := by omega
  have n2 : ¬ w.heap.size + 1 + 1 = w.heap.size := by omega
  have n3 : ¬ w.heap.size + 1 + 1 = w.heap.size + 1 := by omega
  have n4 : ¬ w.heap.size + 1 = w3.heap.size := by omega
  have n5 : ¬ w3.heap.size = w.heap.size + 1 := by omega
  have hb4 := Box.new w3 (cells4 us) 44
  replace l1 := l1.trans (Le.alloc w3 (.cells (cells4 us) 44))
  replace hown := fun i hi => (hown i hi).le (Le.alloc w3 (.cells (cells4 us) 44))
  go_upto_region 2 with fail
  generalize hW : w3.alloc (.cells (cells4 us) 44) = W at hb4 l1 hown ⊢
  clear hW
  have o0 := (hb2.le l1).op.1
  have o1 := (hb2.le l1).op.2.1
  have o2 := (hb2.le l1).op.2.2.1
  have t1 : W.cell? ⟨w3.heap.size, 0, none⟩ = some (slV (us 0)) := (hb4.cell 0).trans (cells4_at us hk)
  have k0 : (0 : Int) ≤ ((0 : Nat) : Int) := by omega
  have k1 : ((0 : Nat) : Int) < 4 := by omega
  obtain ⟨x0, x1, x2, x3, _, _, _, _⟩ := hb4.st
  have hcount := statesCount (stV us) s W (OwnS.has ⟨us, rfl, hown⟩) (fun j hj => by have := hlen j hj; omega)
  go_wp2_with fail
  refine hcount.mono ?_
  rintro e w4 ⟨rfl, l4⟩
  have hb5 := hb4.le l4
  have l5 := l1.trans l4
  have ho := (hown 0 hk).le l4
  have hg := l4.grownBy none
  have hap : ∀ i j : Nat, i < 4 → j < 4 → i ≠ j → ∀ g : Nat, (slV (us i)).ownBlock = some g → (none : Option Nat) ≠ some g := fun _ _ _ _ _ _ _ h => by cases h
  clear o0 o1 o2 t1 x0 x1 x2 x3 hcount
  have p1 := (hb2.le l5).op.2.1
  have c5 : w4.cell? ⟨w3.heap.size, 0, none⟩ = some (slV (us 0)) := (hb5.cell 0).trans (cells4_at us hk)
  have f5 := hb5.frozen 0
  generalize hq : us 0 = q at ho c5 ⊢
  have hown5 : ∀ i, i < 4 → Own (w4.setCell ⟨w3.heap.size, 0, none⟩ (slV q)) (w.heap.size + 1 + 1 + 1) (slV (upd us 0 q i)) ((s.put 0 (s.at 0)).at i) := by
    intro i hi
    rw [St.at_put hk hi]
    by_cases e : i = 0
    · rw [if_pos e, show upd us 0 q i = q by simp [upd, e]]; exact ho.setBox hb5 (by decide)
    · rw [if_neg e, show upd us 0 q i = us i by simp [upd, e]]; exact ((hown i hi).grown hg (fun g e1 e2 => hap i 0 hi hk e g e1 e2)).setBox hb5 (by decide)
  have hb6 := hb5.set 0 (slV q)
  rw [cells4_upd us hk] at hb6
  have l6 : Le _ (w4.setCell ⟨w3.heap.size, 0, none⟩ (slV q)) := Below.setCell l5 (by simp only [World.size_alloc]; show w.heap.size + 1 + 1 + 1 ≤ w3.heap.size; omega) _
  go_upto_region 13 with fail
  generalize hW2 : w4.setCell ⟨w3.heap.size, 0, none⟩ (slV q) = W2 at hb6 l6 hown5 ⊢
  generalize upd us 0 q = us' at hb6 hown5
  clear hW2 p1 c5 f5
  obtain ⟨y0, y1, y2, y3, _, _, _, _⟩ := hb6.st
  obtain ⟨z0, z1, z2, z3, f0, f1, f2, f3⟩ := (hb3.le l6).st
  go_wp2_with fail
  refine bodyPost_ret (v := .tuple #[stV us', .int .i64 (manyTo s 4)]) (by simp [results, Try.results79, go_sem, z0, z1, z2, z3]) rfl ⟨_, rfl, ⟨us', rfl, fun i hi => ?_⟩, ?_⟩
  · rw [← St.put_same (s := s) hk]; exact ((hown5 i hi).base (by omega)).set4 (hb3.le l6) (by decide) _ _ _ _
  · exact (hl.trans l6).set4 (by omega) _ _ _ _

/-- What an operation that may be makes of a state, where looks and scans count. -/
def cntY (F G : List Int → Int → List Int × Int) (s : St) (c r a : Int) : St × Int :=
  if c = 3 then (s, manyTo s 4)
  else if c = 2 then (s, ((s.at r.toNat).length : Int))
  else if c = 1 then (s.put r.toNat (G (s.at r.toNat) a).1, (G (s.at r.toNat) a).2)
  else (s.put r.toNat (F (s.at r.toNat) a).1, (F (s.at r.toNat) a).2)

/-- .. the document's answer: the state, the answer, the error. -/
def cntS (p : List Int → Bool) (F G : List Int → Int → List Int × Int) (s : St) (c r a e : Int) : St × Int × Int :=
  if s.all p && opMay c r a then ((cntY F G s c r a).1, (cntY F G s c r a).2, 0) else (St.zero, 0, e)

theorem countedAll (f g : Nat) (F G : List Int → Int → List Int × Int) (hF : TurnsRow f F) (hG : TurnsRow g G) (v : Value) (s : St) (c r a : Int) (w : World) (hx : HasS w v s) (hf : Fit s) (hlen : ∀ j, j < 4 → (s.at j).length ≤ 4) (ho : opMay c r a = true) :
    Calls Try.prog 79 #[v, opV c r a, .func (.func f) #[] #[], .func (.func g) #[] #[]] w fun e w' => ∃ v', e = .returned (.tuple #[v', .int .i64 (cntY F G s c r a).2]) ∧ OwnS w' w.heap.size v' (cntY F G s c r a).1 ∧ Le w w' := by
  rcases opMay_cases ho with ⟨k, hk, rfl, rfl, ha⟩ | ⟨k, hk, rfl, rfl, ha⟩ | ⟨k, hk, rfl, rfl, rfl⟩ | ⟨rfl, rfl, rfl⟩
  · exact countedFirst f g F hF v s k a w hx hf hlen hk ha
  · exact countedSecond f g G hG v s k a w hx hf hlen hk ha
  · exact countedLook f g v s k w hx hf hlen hk
  · exact countedScan f g v s w hx hf hlen

theorem cntS_no {p : List Int → Bool} {F G : List Int → Int → List Int × Int} {s : St} {c r a er : Int} (h : (s.all p && opMay c r a) = false) : cntS p F G s c r a er = (St.zero, 0, er) := by simp [cntS, h]
theorem cntS_yes {p : List Int → Bool} {F G : List Int → Int → List Int × Int} {s : St} {c r a er : Int} (h : (s.all p && opMay c r a) = true) : cntS p F G s c r a er = ((cntY F G s c r a).1, (cntY F G s c r a).2, 0) := by simp [cntS, h]
theorem cntS_scan {p : List Int → Bool} {F G : List Int → Int → List Int × Int} {s : St} {er : Int} (h : s.all p = true) : cntS p F G s 3 0 0 er = (s, manyTo s 4, 0) := by
  have : opMay 3 0 0 = true := by decide
  simp [cntS, cntY, h, this]
theorem cntS_look {p : List Int → Bool} {F G : List Int → Int → List Int × Int} {s : St} {k : Nat} {er : Int} (h : s.all p = true) (hk : k < 4) : cntS p F G s 2 k 0 er = (s, ((s.at k).length : Int), 0) := by
  have : opMay 2 k 0 = true := by simp [opMay]; omega
  simp [cntS, cntY, h, this]
theorem cntS_first {p : List Int → Bool} {F G : List Int → Int → List Int × Int} {s : St} {k : Nat} {a er : Int} (h : s.all p = true) (hk : k < 4) (ha : 0 ≤ a ∧ a ≤ 255) : cntS p F G s 0 k a er = (s.put k (F (s.at k) a).1, (F (s.at k) a).2, 0) := by
  have : opMay 0 k a = true := by simp [opMay]; omega
  simp [cntS, cntY, h, this]
theorem cntS_second {p : List Int → Bool} {F G : List Int → Int → List Int × Int} {s : St} {k : Nat} {a er : Int} (h : s.all p = true) (hk : k < 4) (ha : 0 ≤ a ∧ a ≤ 255) : cntS p F G s 1 k a er = (s.put k (G (s.at k) a).1, (G (s.at k) a).2, 0) := by
  have : opMay 1 k a = true := by simp [opMay]; omega
  simp [cntS, cntY, h, this]

end Go.Proofs.Ytibleipfablniaa

/-
  THE WALK over fds.take: the row without a number, in memory of its own. Condition: the row is the call's own, and has at most a thousand numbers.
-/
namespace Go.Proofs.Ytibleipfablniaa
open Go.RowKit

set_option maxHeartbeats 1000000 in
theorem fdsTake (v : Value) (base : Nat) (xs : List Int) (a0 : Int) (w : World) (hown : Own w base v xs) (hbase : base ≤ w.heap.size) (hl : xs.length ≤ 1000) :
    Calls Try.prog 81 #[v, .int .i64 a0] w fun e w' => ∃ v', e = .returned (.tuple #[v', .int .i64 (takeS xs a0).2]) ∧ Own w' base v' (takeS xs a0).1 ∧ Le w w' := by
  have hidx := slicesIndex v xs a0 w hown.has hl
  have hb := idxFrom_bounds a0 0 xs
  rw [show idxFrom 0 a0 xs = idxS xs a0 from rfl] at hb
  by_cases h4 : idxS xs a0 < 0
  · have HP : Hid (takeS xs a0 = (xs, 0)) := hid (by simp [takeS, h4])
    clear hb
    go_enter Try.func81, Try.ntmps81
    go_wp2_with fail
    refine hidx.mono ?_
    rintro e w1 ⟨rfl, rfl⟩
    go_wp2
    go_ret2
    rw [HP.out]
    exact ⟨_, rfl, hown, Le.refl _⟩
  · have HP : Hid (takeS xs a0 = (xs.take (idxS xs a0).toNat ++ xs.drop ((idxS xs a0).toNat + 1), 1)) := hid (by simp [takeS, h4])
    obtain ⟨i, hi⟩ : ∃ i : Nat, idxS xs a0 = i := ⟨(idxS xs a0).toNat, by omega⟩
    rw [hi] at h4 hidx hb
    rw [show Hid (takeS xs a0 = (xs.take (idxS xs a0).toNat ++ xs.drop ((idxS xs a0).toNat + 1), 1)) = Hid (takeS xs a0 = (xs.take i ++ xs.drop (i + 1), 1)) by rw [hi]; rfl] at HP
    have hlt : i < xs.length := by omega
    obtain ⟨ad, cap, rfl, hc, _, hx⟩ := hown.has
    obtain ⟨b, off, rfl, hcell⟩ := hx (by omega)
    obtain ⟨n, hn⟩ : ∃ n, n = xs.length := ⟨_, rfl⟩
    have hA : Has w (.slice (some ⟨b, off, none⟩) i cap) (xs.take i) := by
      refine ⟨_, cap, by rw [List.length_take, Nat.min_eq_left (by omega)], by rw [List.length_take]; omega, (fun h => by cases h), fun _ => ⟨b, off, rfl, fun j hj => ?_⟩⟩
      rw [List.length_take] at hj
      rw [hcell j (by omega)]
      simp [List.getD, show j < i by omega]
    obtain ⟨A, hAe, hB⟩ : ∃ A, (if cap = i + 1 then some ⟨b, off, none⟩ else some ⟨b, off + (i + 1), none⟩ : Option Addr) = A ∧ Has w (.slice A (n - (i + 1)) (cap - (i + 1))) (xs.drop (i + 1)) := by
      refine ⟨_, rfl, _, _, by rw [List.length_drop, ← hn], by rw [List.length_drop]; omega, (fun h => by split at h <;> cases h), fun hp => ?_⟩
      rw [List.length_drop] at hp
      rw [if_neg (by omega)]
      refine ⟨b, off + (i + 1), rfl, fun j hj => ?_⟩
      rw [List.length_drop] at hj
      rw [getD_drop, Nat.add_assoc, hcell (i + 1 + j) (by omega)]
    have HN : Hid (n = xs.length) := hn
    have hown0 := hown
    rw [← hn] at hc hlt hidx ⊢
    clear hx hcell hb hown hn h4
    have i0 : (0 : Int) ≤ (i : Int) := by omega
    have i1 : (i : Int) < (n : Int) := by omega
    have i2 : (i : Int) + 1 ≤ (n : Int) := by omega
    have i3 : i ≤ cap := by omega
    have i4 : i + 1 ≤ n := by omega
    have i5 : (i : Int) ≤ (cap : Int) := by omega
    have i6 : ((i : Int) + 1).toNat = i + 1 := by omega
    have i7 : IntKind.i64.wrap ((i : Int) + 1) = (i : Int) + 1 := by rw [IntKind.wrap_i64]; have := HN.out; omega
    have i8 : (0 : Int) ≤ (i : Int) + 1 := by omega
    go_enter Try.func81, Try.ntmps81
    go_wp2_with fail
    refine hidx.mono ?_
    rintro e w1 ⟨rfl, rfl⟩
    go_wp2_with fail
    go_region_law (first
      | (refine step_append_ints rfl (.const (.slice none 0 0)) (.tmp 15) rfl w.heap.size (.slice none 0 0) (.slice (some ⟨b, off, none⟩) i cap) [] (xs.take i) (by simp [Act.eval]) (by simp [Act.eval, Act.put]) (Own.nil _ _) hA (by simp; omega) (Nat.le_refl _) ?_; intro v1 w1 o1 g1)
      | (refine step_append_ints rfl (.tmp 16) (.tmp 20) rfl w.heap.size v1 (.slice A (n - (i + 1)) (cap - (i + 1))) _ (xs.drop (i + 1)) (by simp [Act.eval]) (by simp [Act.eval]) o1 (hB.le (Below.grown (Le.drew w) g1 (Nat.le_refl _) (fun g e => by cases e))) (by simp; omega) g1.size ?_; intro v2 w2 o2 g2))
    all_goals
      go_wp2
      go_ret2
      rw [HP.out]
      rw [List.nil_append] at o2
      exact ⟨_, rfl, o2.base hbase, Below.grown (Below.grown (Le.drew w) g1 (Nat.le_refl _) (fun g e => by cases e)) g2 g1.size (fun g e => (o1.block e).1)⟩

theorem fdsPutT : TurnsRow 80 (fun xs _ => putS xs) :=
  ⟨fun _ _ _ => by kernel_rfl, fun v base xs a w ho hb hl _ => fdsPut v base xs a w ho hb (by omega)⟩
theorem fdsTakeT : TurnsRow 81 takeS :=
  ⟨fun _ _ _ => by kernel_rfl, fun v base xs a w ho hb hl _ => (fdsTake v base xs a w ho hb (by omega)).mono fun _ _ ⟨v', he, h1, h2⟩ => ⟨v', he, h1, h2.grownBy _⟩⟩

end Go.Proofs.Ytibleipfablniaa

/-
  THE WALK over fds.Apply: what it answers, for every state and operation, and that what it hands back lies in memory of its own. Condition: the state's rows can be copied.
-/
namespace Go.Proofs.Ytibleipfablniaa
open Go.RowKit

theorem fdsMay (v : Value) (s : St) (w : World) (hx : HasS w v s) :
    Calls Try.prog 73 #[v, .func (.func 78) #[] #[]] w fun e w' => e = .returned (.bool (s.all rowMay2)) ∧ Le w w' :=
  statesMay 78 rowMay2 (fun _ _ => by kernel_rfl) fdsMayRow v s w hx

/-- The document's answer: the state, the answer, the error. -/
def fdsS (s : St) (c r a e : Int) : St × Int × Int := cntS rowMay2 (fun xs _ => putS xs) takeS s c r a e

set_option maxHeartbeats 2000000 in
theorem fdsApplyNo (v : Value) (s : St) (c r a : Int) (w : World) (hx : HasS w v s) (h : (s.all rowMay2 && opMay c r a) = false) :
    Calls Try.prog 71 #[v, opV c r a] w fun e w' => e = .returned (.tuple #[stZ, .int .i64 0, .int .i64 400]) ∧ Le w w' := by
  have hx0 := hx
  obtain ⟨vs, rfl, hr⟩ := hx
  have hl := ((Le.alloc w (.cells (cells4 vs) 44)).trans (Le.alloc _ (.cells #[.int .i64 c, .int .i64 r, .int .i64 a] 50))).trans (Le.alloc _ (.cells (cells4 fun _ => slZ) 44))
  have hb1 := ((Box.new w (cells4 vs) 44).le (Le.alloc _ (.cells #[.int .i64 c, .int .i64 r, .int .i64 a] 50))).le (Le.alloc _ (.cells (cells4 fun _ => slZ) 44))
  have hb2 := (Box.new (w.alloc (.cells (cells4 vs) 44)) #[.int .i64 c, .int .i64 r, .int .i64 a] 50).le (Le.alloc _ (.cells (cells4 fun _ => slZ) 44))
  have hb3 := Box.new ((w.alloc (.cells (cells4 vs) 44)).alloc (.cells #[.int .i64 c, .int .i64 r, .int .i64 a] 50)) (cells4 fun _ => slZ) 44
  simp only [World.size_alloc] at hb1 hb2 hb3
  have hmay := fdsMay (stV vs) s _ (hx0.le hl)
  cases hm : s.all rowMay2
  · rw [hm] at hmay
    go_enter Try.func71, Try.ntmps71
    go_wp2_with fail
    refine hmay.mono ?_
    rintro e w1 ⟨rfl, l1⟩
    obtain ⟨z0, z1, z2, z3, f0, f1, f2, f3⟩ := (hb3.le l1).st
    go_wp2_with fail
    refine bodyPost_ret (v := .tuple #[stZ, .int .i64 0, .int .i64 400]) (by simp [results, Try.results71, go_sem, z0, z1, z2, z3]) rfl ⟨rfl, ?_⟩
    exact (hl.trans l1).set4 (by omega) _ _ _ _
  · have hop : opMay c r a = false := by simpa [hm] using h
    rw [hm] at hmay
    go_enter Try.func71, Try.ntmps71
    go_wp2_with fail
    refine hmay.mono ?_
    rintro e w1 ⟨rfl, l1⟩
    obtain ⟨y0, y1, y2, _, _, _⟩ := (hb2.le l1).op
    go_wp2_with fail
    refine (operMay _ _ _ _).mono ?_
    rw [hop]
    rintro e w2 ⟨rfl, l2⟩
    obtain ⟨z0, z1, z2, z3, f0, f1, f2, f3⟩ := ((hb3.le l1).le l2).st
    go_wp2_with fail
    refine bodyPost_ret (v := .tuple #[stZ, .int .i64 0, .int .i64 400]) (by simp [results, Try.results71, go_sem, z0, z1, z2, z3]) rfl ⟨rfl, ?_⟩
    exact ((hl.trans l1).trans l2).set4 (by omega) _ _ _ _

set_option maxHeartbeats 2000000 in
theorem fdsApplyYes (v : Value) (s : St) (c r a : Int) (w : World) (hx : HasS w v s) (hf : Fit s) (hm : s.all rowMay2 = true) (hop : opMay c r a = true) :
    Calls Try.prog 71 #[v, opV c r a] w fun e w' => ∃ v', e = .returned (.tuple #[v', .int .i64 (cntY (fun xs _ => putS xs) takeS s c r a).2, .int .i64 0]) ∧ OwnS w' w.heap.size v' (cntY (fun xs _ => putS xs) takeS s c r a).1 ∧ Le w w' := by
  have hx0 := hx
  obtain ⟨vs, rfl, hr⟩ := hx
  have hl := ((Le.alloc w (.cells (cells4 vs) 44)).trans (Le.alloc _ (.cells #[.int .i64 c, .int .i64 r, .int .i64 a] 50))).trans (Le.alloc _ (.cells (cells4 fun _ => slZ) 44))
  have hb1 := ((Box.new w (cells4 vs) 44).le (Le.alloc _ (.cells #[.int .i64 c, .int .i64 r, .int .i64 a] 50))).le (Le.alloc _ (.cells (cells4 fun _ => slZ) 44))
  have hb2 := (Box.new (w.alloc (.cells (cells4 vs) 44)) #[.int .i64 c, .int .i64 r, .int .i64 a] 50).le (Le.alloc _ (.cells (cells4 fun _ => slZ) 44))
  have hb3 := Box.new ((w.alloc (.cells (cells4 vs) 44)).alloc (.cells #[.int .i64 c, .int .i64 r, .int .i64 a] 50)) (cells4 fun _ => slZ) 44
  simp only [World.size_alloc] at hb1 hb2 hb3
  have hmay := fdsMay (stV vs) s _ (hx0.le hl)
  rw [hm] at hmay
  go_enter Try.func71, Try.ntmps71
  go_wp2_with fail
  refine hmay.mono ?_
  rintro e w1 ⟨rfl, l1⟩
  obtain ⟨y0, y1, y2, _, _, _⟩ := (hb2.le l1).op
  clear hmay
  go_wp2_with fail
  refine (operMay _ _ _ _).mono ?_
  rw [hop]
  rintro e w2 ⟨rfl, l2⟩
  replace l1 := l1.trans l2
  clear l2 y0 y1 y2
  obtain ⟨x0, x1, x2, x3, _, _, _, _⟩ := (hb1.le l1).st
  obtain ⟨y0, y1, y2, _, _, _⟩ := (hb2.le l1).op
  go_wp2_with fail
  refine (countedAll 80 81 (fun xs _ => putS xs) takeS fdsPutT fdsTakeT (stV vs) s c r a _ (hx0.le (hl.trans l1)) hf (fun j hj => rowMay2_len (St.all_at hm hj)) hop).mono ?_
  obtain ⟨Y, hY⟩ : ∃ Y, Y = cntY (fun xs _ => putS xs) takeS s c r a := ⟨_, rfl⟩
  rw [← hY]
  have HY : Hid (Y = cntY (fun xs _ => putS xs) takeS s c r a) := hY
  clear hY
  rintro e w3 ⟨_, rfl, ⟨us, rfl, hown⟩, l3⟩
  replace hown := fun i hi => (hown i hi).base (base' := w.heap.size) (hl.trans l1).size
  replace l1 := l1.trans l3
  clear l3 y0 y1 y2 x0 x1 x2 x3
  have n0 : w.heap.size + 1 + 1 < w3.heap.size := (hb3.le l1).lt
  have n1 : ¬ w.heap.size + 1 + 1 = w3.heap.size := by omega
  have hb4 := Box.new w3 (cells4 us) 44
  replace l1 := l1.trans (Le.alloc w3 (.cells (cells4 us) 44))
  replace hown := fun i hi => (hown i hi).le (Le.alloc w3 (.cells (cells4 us) 44))
  go_upto_region 4 with fail
  generalize hW : w3.alloc (.cells (cells4 us) 44) = W at hb4 l1 hown ⊢
  clear hW
  obtain ⟨y0, y1, y2, y3, _, _, _, _⟩ := hb4.st
  obtain ⟨z0, z1, z2, z3, f0, f1, f2, f3⟩ := (hb3.le l1).st
  go_wp2_with fail
  refine bodyPost_ret (v := .tuple #[stV us, .int .i64 Y.2, .int .i64 0]) (by simp [results, Try.results71, go_sem, z0, z1, z2, z3]) rfl ⟨stV us, by rw [HY.out], ⟨us, rfl, fun i hi => ?_⟩, ?_⟩
  · rw [← HY.out]; exact (hown i hi).set4 (hb3.le l1) (by decide) _ _ _ _
  · exact (hl.trans l1).set4 (by omega) _ _ _ _

theorem fdsS_no {s : St} {c r a er : Int} (h : (s.all rowMay2 && opMay c r a) = false) : fdsS s c r a er = (St.zero, 0, er) := cntS_no h
theorem fdsS_scan {s : St} {er : Int} (h : s.all rowMay2 = true) : fdsS s 3 0 0 er = (s, manyTo s 4, 0) := cntS_scan h
theorem fdsS_look {s : St} {k : Nat} {er : Int} (h : s.all rowMay2 = true) (hk : k < 4) : fdsS s 2 k 0 er = (s, ((s.at k).length : Int), 0) := cntS_look h hk

theorem fdsApply (v : Value) (s : St) (c r a : Int) (w : World) (hx : HasS w v s) (hf : Fit s) :
    Calls Try.prog 71 #[v, opV c r a] w fun e w' => ∃ v', e = .returned (.tuple #[v', .int .i64 (fdsS s c r a 400).2.1, .int .i64 (fdsS s c r a 400).2.2]) ∧ OwnS w' w.heap.size v' (fdsS s c r a 400).1 ∧ Le w w' := by
  cases h : s.all rowMay2 && opMay c r a
  · rw [fdsS_no h]
    exact (fdsApplyNo v s c r a w hx h).mono fun e w' ⟨he, hl⟩ => ⟨stZ, he, OwnS.zero _ _, hl⟩
  · obtain ⟨hm, ho⟩ := Bool.and_eq_true_iff.mp h
    rw [show fdsS s c r a 400 = _ from cntS_yes h]
    exact fdsApplyYes v s c r a w hx hf hm ho

end Go.Proofs.Ytibleipfablniaa

/-
  PLAIN GROUND: what the answers of fds.Apply keep. No condition.
-/
namespace Go.Proofs.Ytibleipfablniaa
open Go.RowKit

theorem fdsS_first {s : St} {k : Nat} {a er : Int} (h : s.all rowMay2 = true) (hk : k < 4) (ha : 0 ≤ a ∧ a ≤ 255) : fdsS s 0 k a er = (s.put k (putS (s.at k)).1, (putS (s.at k)).2, 0) := cntS_first h hk ha
theorem fdsS_second {s : St} {k : Nat} {a er : Int} (h : s.all rowMay2 = true) (hk : k < 4) (ha : 0 ≤ a ∧ a ≤ 255) : fdsS s 1 k a er = (s.put k (takeS (s.at k) a).1, (takeS (s.at k) a).2, 0) := cntS_second h hk ha

theorem idx_out {a : Int} : ∀ {i : Int} {xs : List Int}, a ∉ xs → idxFrom i a xs = -1
  | _, [], _ => rfl
  | i, x :: r, h => by
    simp only [List.mem_cons, not_or] at h
    simp only [idxFrom, if_neg h.1]
    exact idx_out h.2
theorem take_out {xs : List Int} {a : Int} (h : a ∉ xs) : takeS xs a = (xs, 0) := by
  have : idxS xs a = -1 := idx_out h
  simp [takeS, this]

theorem put_rows : ∀ xs ∈ rowsAbove 4, rowMay2 (putS xs).1 = true := by decide
theorem take_rows : ∀ xs ∈ rowsAbove 4, ∀ a ∈ xs, rowMay2 (takeS xs a).1 = true := by decide
theorem put_may {xs : List Int} (h : rowMay2 xs = true) : rowMay2 (putS xs).1 = true := put_rows xs (rowMay2_mem h)
theorem take_may {xs : List Int} {a : Int} (h : rowMay2 xs = true) : rowMay2 (takeS xs a).1 = true := by
  by_cases ha : a ∈ xs
  · exact take_rows xs (rowMay2_mem h) a ha
  · rw [take_out ha]; exact h

theorem may_all2 {s : St} (h : s.all rowMay2 = true) : Fit s := fun i hi => by
  have := rowMay2_len (St.all_at h hi)
  omega

theorem Fit.fds {s : St} (h : Fit s) (c r a er : Int) : Fit (fdsS s c r a er).1 := by
  cases hh : s.all rowMay2 && opMay c r a
  · rw [fdsS_no hh]; exact fit_zero
  · obtain ⟨hm, ho⟩ := Bool.and_eq_true_iff.mp hh
    rcases opMay_cases ho with ⟨k, hk, rfl, rfl, ha⟩ | ⟨k, hk, rfl, rfl, ha⟩ | ⟨k, hk, rfl, rfl, rfl⟩ | ⟨rfl, rfl, rfl⟩
    · rw [fdsS_first hm hk ha]; exact h.put hk (rowMay2_len (put_may (St.all_at hm hk)))
    · rw [fdsS_second hm hk ha]; exact h.put hk (rowMay2_len (take_may (St.all_at hm hk)))
    · rw [fdsS_look hm hk]; exact h
    · rw [fdsS_scan hm]; exact h

end Go.Proofs.Ytibleipfablniaa
