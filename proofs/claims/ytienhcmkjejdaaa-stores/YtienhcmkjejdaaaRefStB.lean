/-
  THE WALKS over the document's own Apply, at a store: what it answers, for every state and operation. Condition: the state's rows can be copied.
-/
import Derived.Test.YtienhcmkjejdaaaRefStA
namespace Go.Proofs.Ytienhcmkjejdaaa
open Go.RowKit

/-- How many numbers the rows below k have. -/
def manyTo (s : St) : Nat → Int
  | 0 => 0
  | k + 1 => manyTo s k + (s.at k).length

theorem manyTo_bounds {s : St} (h : s.all rowMay1 = true) : ∀ k, k ≤ 4 → 0 ≤ manyTo s k ∧ manyTo s k ≤ k
  | 0, _ => by simp [manyTo]
  | k + 1, hk => by
    have ih := manyTo_bounds h k (by omega)
    rcases rowMay1_cases (St.all_at h (k := k) (by omega)) with e | ⟨x, e, h0, h1⟩ <;> simp [manyTo, e] <;> omega

set_option maxHeartbeats 2000000 in
theorem refStoreNo (v : Value) (s : St) (c r a er : Int) (w : World) (hx : HasS w v s) (hf : Fit s) (h : (s.all rowMay1 && opMay c r a) = false) :
    Calls Try.prog 10 #[.int .i64 0, v, opV c r a, .int .i64 er] w fun e w' => e = .returned (.tuple #[stZ, .int .i64 0, .int .i64 er]) ∧ Le w w' := by
  have hx0 := hx
  obtain ⟨vs, rfl, hr⟩ := hx
  have hl := ((Le.alloc w (.cells (cells4 vs) 25)).trans (Le.alloc _ (.cells #[.int .i64 c, .int .i64 r, .int .i64 a] 27))).trans (Le.alloc _ (.cells (cells4 fun _ => slZ) 25))
  have hb1 := ((Box.new w (cells4 vs) 25).le (Le.alloc _ (.cells #[.int .i64 c, .int .i64 r, .int .i64 a] 27))).le (Le.alloc _ (.cells (cells4 fun _ => slZ) 25))
  have hb2 := (Box.new (w.alloc (.cells (cells4 vs) 25)) #[.int .i64 c, .int .i64 r, .int .i64 a] 27).le (Le.alloc _ (.cells (cells4 fun _ => slZ) 25))
  have hb3 := Box.new ((w.alloc (.cells (cells4 vs) 25)).alloc (.cells #[.int .i64 c, .int .i64 r, .int .i64 a] 27)) (cells4 fun _ => slZ) 25
  simp only [World.size_alloc] at hb1 hb2 hb3
  cases hm : s.all rowMay1
  · have hmay := refStateMay0 (stV vs) s _ (hx0.le hl) hf
    rw [hm] at hmay
    go_enter Try.func10, Try.ntmps10
    go_wp2_with fail
    refine hmay.mono ?_
    rintro e w1 ⟨rfl, l1⟩
    obtain ⟨z0, z1, z2, z3, f0, f1, f2, f3⟩ := (hb3.le l1).st
    go_wp2_with fail
    refine bodyPost_ret (v := .tuple #[stZ, .int .i64 0, .int .i64 er]) (by simp [results, Try.results10, go_sem, z0, z1, z2, z3]) rfl ⟨rfl, ?_⟩
    exact (hl.trans l1).set4 (by omega) _ _ _ _
  · have hop : opMay c r a = false := by simpa [hm] using h
    have hmay := refStateMay0 (stV vs) s _ (hx0.le hl) hf
    rw [hm] at hmay
    go_enter Try.func10, Try.ntmps10
    go_wp2_with fail
    refine hmay.mono ?_
    rintro e w1 ⟨rfl, l1⟩
    obtain ⟨y0, y1, y2, _, _, _⟩ := (hb2.le l1).op
    go_wp2_with fail
    refine (refOperMay _ _ _ _).mono ?_
    rw [hop]
    rintro e w2 ⟨rfl, l2⟩
    obtain ⟨z0, z1, z2, z3, f0, f1, f2, f3⟩ := ((hb3.le l1).le l2).st
    go_wp2_with fail
    refine bodyPost_ret (v := .tuple #[stZ, .int .i64 0, .int .i64 er]) (by simp [results, Try.results10, go_sem, z0, z1, z2, z3]) rfl ⟨rfl, ?_⟩
    exact ((hl.trans l1).trans l2).set4 (by omega) _ _ _ _

set_option maxHeartbeats 2000000 in
theorem refStoreScan (v : Value) (s : St) (er : Int) (w : World) (hx : HasS w v s) (hf : Fit s) (hm : s.all rowMay1 = true) :
    Calls Try.prog 10 #[.int .i64 0, v, opV 3 0 0, .int .i64 er] w fun e w' => ∃ v', e = .returned (.tuple #[v', .int .i64 (sumTo s 4), .int .i64 0]) ∧ OwnS w' w.heap.size v' (s) ∧ Le w w' := by
  have hx0 := hx
  obtain ⟨vs, rfl, hr⟩ := hx
  have hl := ((Le.alloc w (.cells (cells4 vs) 25)).trans (Le.alloc _ (.cells #[.int .i64 3, .int .i64 0, .int .i64 0] 27))).trans (Le.alloc _ (.cells (cells4 fun _ => slZ) 25))
  have hb1 := ((Box.new w (cells4 vs) 25).le (Le.alloc _ (.cells #[.int .i64 3, .int .i64 0, .int .i64 0] 27))).le (Le.alloc _ (.cells (cells4 fun _ => slZ) 25))
  have hb2 := (Box.new (w.alloc (.cells (cells4 vs) 25)) #[.int .i64 3, .int .i64 0, .int .i64 0] 27).le (Le.alloc _ (.cells (cells4 fun _ => slZ) 25))
  have hb3 := Box.new ((w.alloc (.cells (cells4 vs) 25)).alloc (.cells #[.int .i64 3, .int .i64 0, .int .i64 0] 27)) (cells4 fun _ => slZ) 25
  simp only [World.size_alloc] at hb1 hb2 hb3
  have hmay := refStateMay0 (stV vs) s _ (hx0.le hl) hf
  rw [hm] at hmay
  have hop : opMay 3 0 0 = true := by decide
  go_enter Try.func10, Try.ntmps10
  go_wp2_with fail
  refine hmay.mono ?_
  rintro e w1 ⟨rfl, l1⟩
  obtain ⟨y0, y1, y2, _, _, _⟩ := (hb2.le l1).op
  clear hmay
  go_wp2_with fail
  refine (refOperMay _ _ _ _).mono ?_
  rw [hop]
  rintro e w2 ⟨rfl, l2⟩
  replace l1 := l1.trans l2
  clear l2 y0 y1 y2
  obtain ⟨y0, y1, y2, y3, _, _, _, _⟩ := (hb1.le l1).st
  go_wp2_with fail
  refine (refCopyState (stV vs) s _ (hx0.le (hl.trans l1)) hf).mono ?_
  rintro e w3 ⟨_, rfl, ⟨us, rfl, hown⟩, l3⟩
  replace hown := fun i hi => (hown i hi).base (base' := w.heap.size) (hl.trans l1).size
  replace l1 := l1.trans l3
  clear l3 y0 y1 y2 y3
  have n0 : w.heap.size + 1 + 1 < w3.heap.size := (hb3.le l1).lt
  have n1 : ¬ w.heap.size + 1 + 1 = w3.heap.size := by omega
  have n2 : ¬ w.heap.size + 1 + 1 = w.heap.size := by omega
  have n3 : ¬ w.heap.size + 1 + 1 = w.heap.size + 1 := by omega
  have hb4 := Box.new w3 (cells4 us) 25
  replace l1 := l1.trans (Le.alloc w3 (.cells (cells4 us) 25))
  replace hown := fun i hi => (hown i hi).le (Le.alloc w3 (.cells (cells4 us) 25))
  go_wp2_with fail
  generalize hW : w3.alloc (.cells (cells4 us) 25) = W at hb4 l1 hown ⊢
  clear hW
  go_loop [12, 13, 14] (fun t m i => ∃ j : Nat, j ≤ 4 ∧ i = .int .i64 j ∧ t = .int .i64 (sumTo s j) ∧ m = .int .i64 (manyTo s j)) (fun _ _ i => 4 - (intOf i).toNat)
  case atStart => exact ⟨0, by omega, rfl, rfl, rfl⟩
  case round =>
    obtain ⟨j, hj, rfl, rfl, rfl⟩ := hrel
    by_cases hlt : j < 4
    · have c1 : W.cell? ⟨w.heap.size, j, none⟩ = some (slV (vs j)) := ((hb1.le l1).cell j).trans (cells4_at vs hlt)
      obtain ⟨b0, b1⟩ := sumTo_bounds hm j hj
      obtain ⟨b2, b3⟩ := manyTo_bounds hm j hj
      obtain ⟨ad, cap, hv, hc, _, hcell⟩ := (hr j hlt).le (hl.trans l1)
      have hs : sumTo s (j + 1) = sumTo s j + (s.at j).sum := rfl
      have hn : manyTo s (j + 1) = manyTo s j + (s.at j).length := rfl
      rw [hv] at c1
      rcases rowMay1_cases (St.all_at hm hlt) with e | ⟨x, e, h0, h1⟩
      · rw [e] at c1 hs hn
        simp at hs hn
        have HS : Hid (sumTo s (j + 1) = sumTo s j) := hs
        have HN : Hid (manyTo s (j + 1) = manyTo s j) := hn
        clear hs hn e hcell hc hv hm hr hown hb1 hb2 hb3 hb4 hop n0 n1 n2 n3
        go_wp2
        refine wp_loop_rounds 1 ?_
        rw [rounds_succ]
        go_wp2
        go_round
        case rel => exact ⟨j + 1, by omega, by go_num, by rw [HS.out], by rw [HN.out]⟩
        case measure => simp [intOf]; omega
      · rw [e] at c1 hs hn hcell
        obtain ⟨b, off, ha, hcl⟩ := hcell (by simp)
        clear hcell
        subst ha
        have c0 := hcl 0 (by simp)
        simp at hs hn c0
        have HS : Hid (sumTo s (j + 1) = sumTo s j + x) := hs
        have HN : Hid (manyTo s (j + 1) = manyTo s j + 1) := hn
        clear hs hn e hcl hc hv hm hr hown hb1 hb2 hb3 hb4 hop n0 n1 n2 n3
        go_wp2
        refine wp_loop_rounds 2 ?_
        rw [rounds_succ]
        go_wp2
        rw [rounds_succ]
        go_wp2
        go_round
        case rel => exact ⟨j + 1, by omega, by go_num, by rw [HS.out], by rw [HN.out]⟩
        case measure => simp [intOf]; omega
    · obtain rfl : j = 4 := by omega
      clear hlt hj
      obtain ⟨y0, y1, y2, y3, _, _, _, _⟩ := hb4.st
      obtain ⟨z0, z1, z2, z3, f0, f1, f2, f3⟩ := (hb3.le l1).st
      obtain ⟨o0, o1, o2, _, _, _⟩ := (hb2.le l1).op
      go_wp2_with fail
      refine bodyPost_ret (v := .tuple #[stV us, .int .i64 (sumTo s 4), .int .i64 0]) (by simp [results, Try.results10, go_sem, z0, z1, z2, z3]) rfl ⟨_, rfl, ⟨us, rfl, fun i hi => ?_⟩, ?_⟩
      · exact (hown i hi).set4 (hb3.le l1) (by decide) _ _ _ _
      · exact (hl.trans l1).set4 (by omega) _ _ _ _

set_option maxHeartbeats 2000000 in
theorem refStoreLook (v : Value) (s : St) (k : Nat) (er : Int) (w : World) (hx : HasS w v s) (hf : Fit s) (hm : s.all rowMay1 = true) (hk : k < 4) :
    Calls Try.prog 10 #[.int .i64 0, v, opV 2 k 0, .int .i64 er] w fun e w' => ∃ v', e = .returned (.tuple #[v', .int .i64 (firstS (s.at k)), .int .i64 0]) ∧ OwnS w' w.heap.size v' (s) ∧ Le w w' := by
  have hx0 := hx
  obtain ⟨vs, rfl, hr⟩ := hx
  have hl := ((Le.alloc w (.cells (cells4 vs) 25)).trans (Le.alloc _ (.cells #[.int .i64 2, .int .i64 k, .int .i64 0] 27))).trans (Le.alloc _ (.cells (cells4 fun _ => slZ) 25))
  have hb1 := ((Box.new w (cells4 vs) 25).le (Le.alloc _ (.cells #[.int .i64 2, .int .i64 k, .int .i64 0] 27))).le (Le.alloc _ (.cells (cells4 fun _ => slZ) 25))
  have hb2 := (Box.new (w.alloc (.cells (cells4 vs) 25)) #[.int .i64 2, .int .i64 k, .int .i64 0] 27).le (Le.alloc _ (.cells (cells4 fun _ => slZ) 25))
  have hb3 := Box.new ((w.alloc (.cells (cells4 vs) 25)).alloc (.cells #[.int .i64 2, .int .i64 k, .int .i64 0] 27)) (cells4 fun _ => slZ) 25
  simp only [World.size_alloc] at hb1 hb2 hb3
  have hmay := refStateMay0 (stV vs) s _ (hx0.le hl) hf
  rw [hm] at hmay
  have hop : opMay 2 k 0 = true := by simp [opMay]; omega
  go_enter Try.func10, Try.ntmps10
  go_wp2_with fail
  refine hmay.mono ?_
  rintro e w1 ⟨rfl, l1⟩
  obtain ⟨y0, y1, y2, _, _, _⟩ := (hb2.le l1).op
  clear hmay
  go_wp2_with fail
  refine (refOperMay _ _ _ _).mono ?_
  rw [hop]
  rintro e w2 ⟨rfl, l2⟩
  replace l1 := l1.trans l2
  clear l2 y0 y1 y2
  obtain ⟨y0, y1, y2, y3, _, _, _, _⟩ := (hb1.le l1).st
  go_wp2_with fail
  refine (refCopyState (stV vs) s _ (hx0.le (hl.trans l1)) hf).mono ?_
  rintro e w3 ⟨_, rfl, ⟨us, rfl, hown⟩, l3⟩
  replace hown := fun i hi => (hown i hi).base (base' := w.heap.size) (hl.trans l1).size
  replace l1 := l1.trans l3
  clear l3 y0 y1 y2 y3
  have n0 : w.heap.size + 1 + 1 < w3.heap.size := (hb3.le l1).lt
  have n1 : ¬ w.heap.size + 1 + 1 = w3.heap.size := by omega
  have n2 : ¬ w.heap.size + 1 + 1 = w.heap.size := by omega
  have n3 : ¬ w.heap.size + 1 + 1 = w.heap.size + 1 := by omega
  have hb4 := Box.new w3 (cells4 us) 25
  replace l1 := l1.trans (Le.alloc w3 (.cells (cells4 us) 25))
  replace hown := fun i hi => (hown i hi).le (Le.alloc w3 (.cells (cells4 us) 25))
  go_wp2_with fail
  generalize hW : w3.alloc (.cells (cells4 us) 25) = W at hb4 l1 hown ⊢
  clear hW
  go_loop [12, 13, 14] (fun t m i => ∃ j : Nat, j ≤ 4 ∧ i = .int .i64 j ∧ t = .int .i64 (sumTo s j) ∧ m = .int .i64 (manyTo s j)) (fun _ _ i => 4 - (intOf i).toNat)
  case atStart => exact ⟨0, by omega, rfl, rfl, rfl⟩
  case round =>
    obtain ⟨j, hj, rfl, rfl, rfl⟩ := hrel
    by_cases hlt : j < 4
    · have c1 : W.cell? ⟨w.heap.size, j, none⟩ = some (slV (vs j)) := ((hb1.le l1).cell j).trans (cells4_at vs hlt)
      obtain ⟨b0, b1⟩ := sumTo_bounds hm j hj
      obtain ⟨b2, b3⟩ := manyTo_bounds hm j hj
      obtain ⟨ad, cap, hv, hc, _, hcell⟩ := (hr j hlt).le (hl.trans l1)
      have hs : sumTo s (j + 1) = sumTo s j + (s.at j).sum := rfl
      have hn : manyTo s (j + 1) = manyTo s j + (s.at j).length := rfl
      rw [hv] at c1
      rcases rowMay1_cases (St.all_at hm hlt) with e | ⟨x, e, h0, h1⟩
      · rw [e] at c1 hs hn
        simp at hs hn
        have HS : Hid (sumTo s (j + 1) = sumTo s j) := hs
        have HN : Hid (manyTo s (j + 1) = manyTo s j) := hn
        clear hs hn e hcell hc hv hm hr hown hb1 hb2 hb3 hb4 hop n0 n1 n2 n3
        go_wp2
        refine wp_loop_rounds 1 ?_
        rw [rounds_succ]
        go_wp2
        go_round
        case rel => exact ⟨j + 1, by omega, by go_num, by rw [HS.out], by rw [HN.out]⟩
        case measure => simp [intOf]; omega
      · rw [e] at c1 hs hn hcell
        obtain ⟨b, off, ha, hcl⟩ := hcell (by simp)
        clear hcell
        subst ha
        have c0 := hcl 0 (by simp)
        simp at hs hn c0
        have HS : Hid (sumTo s (j + 1) = sumTo s j + x) := hs
        have HN : Hid (manyTo s (j + 1) = manyTo s j + 1) := hn
        clear hs hn e hcl hc hv hm hr hown hb1 hb2 hb3 hb4 hop n0 n1 n2 n3
        go_wp2
        refine wp_loop_rounds 2 ?_
        rw [rounds_succ]
        go_wp2
        rw [rounds_succ]
        go_wp2
        go_round
        case rel => exact ⟨j + 1, by omega, by go_num, by rw [HS.out], by rw [HN.out]⟩
        case measure => simp [intOf]; omega
    · obtain rfl : j = 4 := by omega
      clear hlt hj
      obtain ⟨y0, y1, y2, y3, _, _, _, _⟩ := hb4.st
      have yk : W.cell? ⟨w3.heap.size, k, none⟩ = some (slV (us k)) := (hb4.cell k).trans (cells4_at us hk)
      obtain ⟨z0, z1, z2, z3, f0, f1, f2, f3⟩ := (hb3.le l1).st
      obtain ⟨o0, o1, o2, _, _, _⟩ := (hb2.le l1).op
      have k0 : (0 : Int) ≤ (k : Int) := by omega
      have k1 : (k : Int) < 4 := by omega
      have hfi := refFirst (slV (us k)) (s.at k) W.drew ((hown k hk).has.le (Le.drew _))
      go_wp2_with fail
      go_region_held3 (fun w' => w'.cell? ⟨w3.heap.size, 0, none⟩ = some (slV (us 0)) ∧ w'.cell? ⟨w3.heap.size, 1, none⟩ = some (slV (us 1)) ∧ w'.cell? ⟨w3.heap.size, 2, none⟩ = some (slV (us 2)) ∧ w'.cell? ⟨w3.heap.size, 3, none⟩ = some (slV (us 3))) (go_keep) ((go_at_call 24; refine hfi.mono ?_; rintro e w4 ⟨rfl, rfl⟩))
      all_goals
        go_wp2_with fail
        refine bodyPost_ret (v := .tuple #[stV us, .int .i64 (firstS (s.at k)), .int .i64 0]) (by simp [results, Try.results10, go_sem, z0, z1, z2, z3]) rfl ⟨_, rfl, ⟨us, rfl, fun i hi => ?_⟩, ?_⟩
        · exact ((hown i hi).le (Le.drew _)).set4 (hb3.le (l1.trans (Le.drew _))) (by decide) _ _ _ _
        · exact ((hl.trans l1).trans (Le.drew _)).set4 (by omega) _ _ _ _

set_option maxHeartbeats 2000000 in
theorem refStoreFirst (v : Value) (s : St) (k : Nat) (a : Int) (er : Int) (w : World) (hx : HasS w v s) (hf : Fit s) (hm : s.all rowMay1 = true) (hk : k < 4) (ha : 0 ≤ a ∧ a ≤ 255) :
    Calls Try.prog 10 #[.int .i64 0, v, opV 0 k a, .int .i64 er] w fun e w' => ∃ v', e = .returned (.tuple #[v', .int .i64 (firstS (s.at k)), .int .i64 0]) ∧ OwnS w' w.heap.size v' (s.put k [a]) ∧ Le w w' := by
  have hx0 := hx
  obtain ⟨vs, rfl, hr⟩ := hx
  have hl := ((Le.alloc w (.cells (cells4 vs) 25)).trans (Le.alloc _ (.cells #[.int .i64 0, .int .i64 k, .int .i64 a] 27))).trans (Le.alloc _ (.cells (cells4 fun _ => slZ) 25))
  have hb1 := ((Box.new w (cells4 vs) 25).le (Le.alloc _ (.cells #[.int .i64 0, .int .i64 k, .int .i64 a] 27))).le (Le.alloc _ (.cells (cells4 fun _ => slZ) 25))
  have hb2 := (Box.new (w.alloc (.cells (cells4 vs) 25)) #[.int .i64 0, .int .i64 k, .int .i64 a] 27).le (Le.alloc _ (.cells (cells4 fun _ => slZ) 25))
  have hb3 := Box.new ((w.alloc (.cells (cells4 vs) 25)).alloc (.cells #[.int .i64 0, .int .i64 k, .int .i64 a] 27)) (cells4 fun _ => slZ) 25
  simp only [World.size_alloc] at hb1 hb2 hb3
  have hmay := refStateMay0 (stV vs) s _ (hx0.le hl) hf
  rw [hm] at hmay
  have hop : opMay 0 k a = true := by simp [opMay]; omega
  go_enter Try.func10, Try.ntmps10
  go_wp2_with fail
  refine hmay.mono ?_
  rintro e w1 ⟨rfl, l1⟩
  obtain ⟨y0, y1, y2, _, _, _⟩ := (hb2.le l1).op
  clear hmay
  go_wp2_with fail
  refine (refOperMay _ _ _ _).mono ?_
  rw [hop]
  rintro e w2 ⟨rfl, l2⟩
  replace l1 := l1.trans l2
  clear l2 y0 y1 y2
  obtain ⟨y0, y1, y2, y3, _, _, _, _⟩ := (hb1.le l1).st
  go_wp2_with fail
  refine (refCopyState (stV vs) s _ (hx0.le (hl.trans l1)) hf).mono ?_
  rintro e w3 ⟨_, rfl, ⟨us, rfl, hown⟩, l3⟩
  replace hown := fun i hi => (hown i hi).base (base' := w.heap.size) (hl.trans l1).size
  replace l1 := l1.trans l3
  clear l3 y0 y1 y2 y3
  have n0 : w.heap.size + 1 + 1 < w3.heap.size := (hb3.le l1).lt
  have n1 : ¬ w.heap.size + 1 + 1 = w3.heap.size := by omega
  have n2 : ¬ w.heap.size + 1 + 1 = w.heap.size := by omega
  have n3 : ¬ w.heap.size + 1 + 1 = w.heap.size + 1 := by omega
  have hb4 := Box.new w3 (cells4 us) 25
  replace l1 := l1.trans (Le.alloc w3 (.cells (cells4 us) 25))
  replace hown := fun i hi => (hown i hi).le (Le.alloc w3 (.cells (cells4 us) 25))
  go_wp2_with fail
  generalize hW : w3.alloc (.cells (cells4 us) 25) = W at hb4 l1 hown ⊢
  clear hW
  go_loop [12, 13, 14] (fun t m i => ∃ j : Nat, j ≤ 4 ∧ i = .int .i64 j ∧ t = .int .i64 (sumTo s j) ∧ m = .int .i64 (manyTo s j)) (fun _ _ i => 4 - (intOf i).toNat)
  case atStart => exact ⟨0, by omega, rfl, rfl, rfl⟩
  case round =>
    obtain ⟨j, hj, rfl, rfl, rfl⟩ := hrel
    by_cases hlt : j < 4
    · have c1 : W.cell? ⟨w.heap.size, j, none⟩ = some (slV (vs j)) := ((hb1.le l1).cell j).trans (cells4_at vs hlt)
      obtain ⟨b0, b1⟩ := sumTo_bounds hm j hj
      obtain ⟨b2, b3⟩ := manyTo_bounds hm j hj
      obtain ⟨ad, cap, hv, hc, _, hcell⟩ := (hr j hlt).le (hl.trans l1)
      have hs : sumTo s (j + 1) = sumTo s j + (s.at j).sum := rfl
      have hn : manyTo s (j + 1) = manyTo s j + (s.at j).length := rfl
      rw [hv] at c1
      rcases rowMay1_cases (St.all_at hm hlt) with e | ⟨x, e, h0, h1⟩
      · rw [e] at c1 hs hn
        simp at hs hn
        have HS : Hid (sumTo s (j + 1) = sumTo s j) := hs
        have HN : Hid (manyTo s (j + 1) = manyTo s j) := hn
        clear hs hn e hcell hc hv hm hr hown hb1 hb2 hb3 hb4 hop n0 n1 n2 n3
        go_wp2
        refine wp_loop_rounds 1 ?_
        rw [rounds_succ]
        go_wp2
        go_round
        case rel => exact ⟨j + 1, by omega, by go_num, by rw [HS.out], by rw [HN.out]⟩
        case measure => simp [intOf]; omega
      · rw [e] at c1 hs hn hcell
        obtain ⟨b, off, ha, hcl⟩ := hcell (by simp)
        clear hcell
        subst ha
        have c0 := hcl 0 (by simp)
        simp at hs hn c0
        have HS : Hid (sumTo s (j + 1) = sumTo s j + x) := hs
        have HN : Hid (manyTo s (j + 1) = manyTo s j + 1) := hn
        clear hs hn e hcl hc hv hm hr hown hb1 hb2 hb3 hb4 hop n0 n1 n2 n3
        go_wp2
        refine wp_loop_rounds 2 ?_
        rw [rounds_succ]
        go_wp2
        rw [rounds_succ]
        go_wp2
        go_round
        case rel => exact ⟨j + 1, by omega, by go_num, by rw [HS.out], by rw [HN.out]⟩
        case measure => simp [intOf]; omega
    · obtain rfl : j = 4 := by omega
      clear hlt hj
      have yk : W.cell? ⟨w3.heap.size, k, none⟩ = some (slV (us k)) := (hb4.cell k).trans (cells4_at us hk)
      obtain ⟨o0, o1, o2, _, _, _⟩ := (hb2.le l1).op
      have k0 : (0 : Int) ≤ (k : Int) := by omega
      have k1 : (k : Int) < 4 := by omega
      have hrow := refStoreRow0 (slV (us k)) (s.at k) k a W (hown k hk).has w.heap.size (hl.trans l1).size
      go_wp2_with fail
      refine hrow.mono ?_
      rintro e w4 ⟨q, rfl, hnew, l4⟩
      clear o0 o1 o2 yk hrow
      replace l1 := l1.trans l4
      replace hb4 := hb4.le l4
      replace hown := fun i hi => (hown i hi).le l4
      have yk : w4.cell? ⟨w3.heap.size, k, none⟩ = some (slV (us k)) := (hb4.cell k).trans (cells4_at us hk)
      have yf := hb4.frozen k
      obtain ⟨o0, o1, o2, _, _, _⟩ := (hb2.le l1).op
      go_upto_region 30 with fail
      replace hown := fun i hi => (hown i hi).setBox (i := k) (u := slV q) hb4 (by decide)
      replace hnew := hnew.setBox (i := k) (u := slV q) hb4 (by decide)
      replace hb4 := hb4.set k (slV q)
      rw [cells4_upd us hk] at hb4
      replace l1 : Le _ (w4.setCell ⟨w3.heap.size, k, none⟩ (slV q)) := Below.setCell l1 (by simp only [World.size_alloc]; show w.heap.size + 1 + 1 + 1 ≤ w3.heap.size; omega) _
      clear o0 o1 o2 yk yf
      generalize hW2 : w4.setCell ⟨w3.heap.size, k, none⟩ (slV q) = W2 at hb4 l1 hown hnew ⊢
      replace hown : ∀ i, i < 4 → Own W2 w.heap.size (slV (upd us k q i)) ((s.put k [a]).at i) := by
        intro i hi
        rw [St.at_put hk hi]
        by_cases e : i = k
        · rw [if_pos e, show upd us k q i = q by simp [upd, e]]; exact hnew
        · rw [if_neg e, show upd us k q i = us i by simp [upd, e]]; exact hown i hi
      generalize upd us k q = us at hb4 hown
      clear hW2 hnew
      obtain ⟨y0, y1, y2, y3, _, _, _, _⟩ := hb4.st
      obtain ⟨z0, z1, z2, z3, f0, f1, f2, f3⟩ := (hb3.le l1).st
      go_wp2_with fail
      refine bodyPost_ret (v := .tuple #[stV us, .int .i64 (firstS (s.at k)), .int .i64 0]) (by simp [results, Try.results10, go_sem, z0, z1, z2, z3]) rfl ⟨_, rfl, ⟨us, rfl, fun i hi => ?_⟩, ?_⟩
      · exact (hown i hi).set4 (hb3.le l1) (by decide) _ _ _ _
      · exact (hl.trans l1).set4 (by omega) _ _ _ _

set_option maxHeartbeats 2000000 in
theorem refStoreSecond (v : Value) (s : St) (k : Nat) (a : Int) (er : Int) (w : World) (hx : HasS w v s) (hf : Fit s) (hm : s.all rowMay1 = true) (hk : k < 4) (ha : 0 ≤ a ∧ a ≤ 255) :
    Calls Try.prog 10 #[.int .i64 0, v, opV 1 k a, .int .i64 er] w fun e w' => ∃ v', e = .returned (.tuple #[v', .int .i64 (firstS (s.at k)), .int .i64 0]) ∧ OwnS w' w.heap.size v' (s.put k []) ∧ Le w w' := by
  have hx0 := hx
  obtain ⟨vs, rfl, hr⟩ := hx
  have hl := ((Le.alloc w (.cells (cells4 vs) 25)).trans (Le.alloc _ (.cells #[.int .i64 1, .int .i64 k, .int .i64 a] 27))).trans (Le.alloc _ (.cells (cells4 fun _ => slZ) 25))
  have hb1 := ((Box.new w (cells4 vs) 25).le (Le.alloc _ (.cells #[.int .i64 1, .int .i64 k, .int .i64 a] 27))).le (Le.alloc _ (.cells (cells4 fun _ => slZ) 25))
  have hb2 := (Box.new (w.alloc (.cells (cells4 vs) 25)) #[.int .i64 1, .int .i64 k, .int .i64 a] 27).le (Le.alloc _ (.cells (cells4 fun _ => slZ) 25))
  have hb3 := Box.new ((w.alloc (.cells (cells4 vs) 25)).alloc (.cells #[.int .i64 1, .int .i64 k, .int .i64 a] 27)) (cells4 fun _ => slZ) 25
  simp only [World.size_alloc] at hb1 hb2 hb3
  have hmay := refStateMay0 (stV vs) s _ (hx0.le hl) hf
  rw [hm] at hmay
  have hop : opMay 1 k a = true := by simp [opMay]; omega
  go_enter Try.func10, Try.ntmps10
  go_wp2_with fail
  refine hmay.mono ?_
  rintro e w1 ⟨rfl, l1⟩
  obtain ⟨y0, y1, y2, _, _, _⟩ := (hb2.le l1).op
  clear hmay
  go_wp2_with fail
  refine (refOperMay _ _ _ _).mono ?_
  rw [hop]
  rintro e w2 ⟨rfl, l2⟩
  replace l1 := l1.trans l2
  clear l2 y0 y1 y2
  obtain ⟨y0, y1, y2, y3, _, _, _, _⟩ := (hb1.le l1).st
  go_wp2_with fail
  refine (refCopyState (stV vs) s _ (hx0.le (hl.trans l1)) hf).mono ?_
  rintro e w3 ⟨_, rfl, ⟨us, rfl, hown⟩, l3⟩
  replace hown := fun i hi => (hown i hi).base (base' := w.heap.size) (hl.trans l1).size
  replace l1 := l1.trans l3
  clear l3 y0 y1 y2 y3
  have n0 : w.heap.size + 1 + 1 < w3.heap.size := (hb3.le l1).lt
  have n1 : ¬ w.heap.size + 1 + 1 = w3.heap.size := by omega
  have n2 : ¬ w.heap.size + 1 + 1 = w.heap.size := by omega
  have n3 : ¬ w.heap.size + 1 + 1 = w.heap.size + 1 := by omega
  have hb4 := Box.new w3 (cells4 us) 25
  replace l1 := l1.trans (Le.alloc w3 (.cells (cells4 us) 25))
  replace hown := fun i hi => (hown i hi).le (Le.alloc w3 (.cells (cells4 us) 25))
  go_wp2_with fail
  generalize hW : w3.alloc (.cells (cells4 us) 25) = W at hb4 l1 hown ⊢
  clear hW
  go_loop [12, 13, 14] (fun t m i => ∃ j : Nat, j ≤ 4 ∧ i = .int .i64 j ∧ t = .int .i64 (sumTo s j) ∧ m = .int .i64 (manyTo s j)) (fun _ _ i => 4 - (intOf i).toNat)
  case atStart => exact ⟨0, by omega, rfl, rfl, rfl⟩
  case round =>
    obtain ⟨j, hj, rfl, rfl, rfl⟩ := hrel
    by_cases hlt : j < 4
    · have c1 : W.cell? ⟨w.heap.size, j, none⟩ = some (slV (vs j)) := ((hb1.le l1).cell j).trans (cells4_at vs hlt)
      obtain ⟨b0, b1⟩ := sumTo_bounds hm j hj
      obtain ⟨b2, b3⟩ := manyTo_bounds hm j hj
      obtain ⟨ad, cap, hv, hc, _, hcell⟩ := (hr j hlt).le (hl.trans l1)
      have hs : sumTo s (j + 1) = sumTo s j + (s.at j).sum := rfl
      have hn : manyTo s (j + 1) = manyTo s j + (s.at j).length := rfl
      rw [hv] at c1
      rcases rowMay1_cases (St.all_at hm hlt) with e | ⟨x, e, h0, h1⟩
      · rw [e] at c1 hs hn
        simp at hs hn
        have HS : Hid (sumTo s (j + 1) = sumTo s j) := hs
        have HN : Hid (manyTo s (j + 1) = manyTo s j) := hn
        clear hs hn e hcell hc hv hm hr hown hb1 hb2 hb3 hb4 hop n0 n1 n2 n3
        go_wp2
        refine wp_loop_rounds 1 ?_
        rw [rounds_succ]
        go_wp2
        go_round
        case rel => exact ⟨j + 1, by omega, by go_num, by rw [HS.out], by rw [HN.out]⟩
        case measure => simp [intOf]; omega
      · rw [e] at c1 hs hn hcell
        obtain ⟨b, off, ha, hcl⟩ := hcell (by simp)
        clear hcell
        subst ha
        have c0 := hcl 0 (by simp)
        simp at hs hn c0
        have HS : Hid (sumTo s (j + 1) = sumTo s j + x) := hs
        have HN : Hid (manyTo s (j + 1) = manyTo s j + 1) := hn
        clear hs hn e hcl hc hv hm hr hown hb1 hb2 hb3 hb4 hop n0 n1 n2 n3
        go_wp2
        refine wp_loop_rounds 2 ?_
        rw [rounds_succ]
        go_wp2
        rw [rounds_succ]
        go_wp2
        go_round
        case rel => exact ⟨j + 1, by omega, by go_num, by rw [HS.out], by rw [HN.out]⟩
        case measure => simp [intOf]; omega
    · obtain rfl : j = 4 := by omega
      clear hlt hj
      have yk : W.cell? ⟨w3.heap.size, k, none⟩ = some (slV (us k)) := (hb4.cell k).trans (cells4_at us hk)
      obtain ⟨o0, o1, o2, _, _, _⟩ := (hb2.le l1).op
      have k0 : (0 : Int) ≤ (k : Int) := by omega
      have k1 : (k : Int) < 4 := by omega
      have hrow := refStoreRow1 (slV (us k)) (s.at k) k a W (hown k hk).has
      go_wp2_with fail
      refine hrow.mono ?_
      rintro e w4 ⟨rfl, l4⟩
      have hnew : Own w4 w.heap.size (slV slZ) [] := Own.nil _ _
      generalize slZ = q at hnew ⊢
      clear o0 o1 o2 yk hrow
      replace l1 := l1.trans l4
      replace hb4 := hb4.le l4
      replace hown := fun i hi => (hown i hi).le l4
      have yk : w4.cell? ⟨w3.heap.size, k, none⟩ = some (slV (us k)) := (hb4.cell k).trans (cells4_at us hk)
      have yf := hb4.frozen k
      obtain ⟨o0, o1, o2, _, _, _⟩ := (hb2.le l1).op
      go_upto_region 30 with fail
      replace hown := fun i hi => (hown i hi).setBox (i := k) (u := slV q) hb4 (by decide)
      replace hnew := hnew.setBox (i := k) (u := slV q) hb4 (by decide)
      replace hb4 := hb4.set k (slV q)
      rw [cells4_upd us hk] at hb4
      replace l1 : Le _ (w4.setCell ⟨w3.heap.size, k, none⟩ (slV q)) := Below.setCell l1 (by simp only [World.size_alloc]; show w.heap.size + 1 + 1 + 1 ≤ w3.heap.size; omega) _
      clear o0 o1 o2 yk yf
      generalize hW2 : w4.setCell ⟨w3.heap.size, k, none⟩ (slV q) = W2 at hb4 l1 hown hnew ⊢
      replace hown : ∀ i, i < 4 → Own W2 w.heap.size (slV (upd us k q i)) ((s.put k []).at i) := by
        intro i hi
        rw [St.at_put hk hi]
        by_cases e : i = k
        · rw [if_pos e, show upd us k q i = q by simp [upd, e]]; exact hnew
        · rw [if_neg e, show upd us k q i = us i by simp [upd, e]]; exact hown i hi
      generalize upd us k q = us at hb4 hown
      clear hW2 hnew
      obtain ⟨y0, y1, y2, y3, _, _, _, _⟩ := hb4.st
      obtain ⟨z0, z1, z2, z3, f0, f1, f2, f3⟩ := (hb3.le l1).st
      go_wp2_with fail
      refine bodyPost_ret (v := .tuple #[stV us, .int .i64 (firstS (s.at k)), .int .i64 0]) (by simp [results, Try.results10, go_sem, z0, z1, z2, z3]) rfl ⟨_, rfl, ⟨us, rfl, fun i hi => ?_⟩, ?_⟩
      · exact (hown i hi).set4 (hb3.le l1) (by decide) _ _ _ _
      · exact (hl.trans l1).set4 (by omega) _ _ _ _

end Go.Proofs.Ytienhcmkjejdaaa
