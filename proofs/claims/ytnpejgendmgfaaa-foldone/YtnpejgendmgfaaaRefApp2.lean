/-
  THE WALKS over the document's own Apply, at object 2: what it answers, for every state and operation. Condition: the state's rows can be copied.
-/
import Derived.Test.YtnpejgendmgfaaaRefRow3
import Derived.Test.YtnpejgendmgfaaaRefSum
import Derived.Deep.RegionHeld3
import Derived.Deep.Cut
namespace Go.Proofs.Ytnpejgendmgfaaa
open Go.RowKit

theorem small3 {s : St} (hm : s.all rowMay3 = true) : ∀ k, k < 4 → Small (s.at k) := fun _ hk => ⟨rowMay3_len (St.all_at hm hk), rowMay3_all (St.all_at hm hk)⟩

set_option maxHeartbeats 2000000 in
theorem refQueueNo (v : Value) (s : St) (c r a er : Int) (w : World) (hx : HasS w v s) (hf : Fit s) (h : (s.all rowMay3 && opMay c r a) = false) :
    Calls Try.prog 20 #[.int .i64 2, v, opV c r a, .int .i64 er] w fun e w' => e = .returned (.tuple #[stZ, .int .i64 0, .int .i64 er]) ∧ Le w w' := by
  have hx0 := hx
  obtain ⟨vs, rfl, hr⟩ := hx
  have hl := ((Le.alloc w (.cells (cells4 vs) 25)).trans (Le.alloc _ (.cells #[.int .i64 c, .int .i64 r, .int .i64 a] 43))).trans (Le.alloc _ (.cells (cells4 fun _ => slZ) 25))
  have hb1 := ((Box.new w (cells4 vs) 25).le (Le.alloc _ (.cells #[.int .i64 c, .int .i64 r, .int .i64 a] 43))).le (Le.alloc _ (.cells (cells4 fun _ => slZ) 25))
  have hb2 := (Box.new (w.alloc (.cells (cells4 vs) 25)) #[.int .i64 c, .int .i64 r, .int .i64 a] 43).le (Le.alloc _ (.cells (cells4 fun _ => slZ) 25))
  have hb3 := Box.new ((w.alloc (.cells (cells4 vs) 25)).alloc (.cells #[.int .i64 c, .int .i64 r, .int .i64 a] 43)) (cells4 fun _ => slZ) 25
  simp only [World.size_alloc] at hb1 hb2 hb3
  have hmay := refStateMay2 (stV vs) s _ (hx0.le hl) hf
  cases hm : s.all rowMay3
  · rw [hm] at hmay
    go_enter Try.func20, Try.ntmps20
    go_wp2_with fail
    refine hmay.mono ?_
    rintro e w1 ⟨rfl, l1⟩
    obtain ⟨z0, z1, z2, z3, f0, f1, f2, f3⟩ := (hb3.le l1).st
    go_wp2_with fail
    refine bodyPost_ret (v := .tuple #[stZ, .int .i64 0, .int .i64 er]) (by simp [results, Try.results20, go_sem, z0, z1, z2, z3]) rfl ⟨rfl, ?_⟩
    exact (hl.trans l1).set4 (by omega) _ _ _ _
  · have hop : opMay c r a = false := by simpa [hm] using h
    rw [hm] at hmay
    go_enter Try.func20, Try.ntmps20
    go_wp2_with fail
    refine hmay.mono ?_
    rintro e w1 ⟨rfl, l1⟩
    obtain ⟨y0, y1, y2, _, _, _⟩ := (hb2.le l1).op
    go_wp2_with fail
    refine (refOperMay _ _ _ _).mono ?_
    rw [hop]
    rintro e w2 ⟨rfl, l2⟩
    obtain ⟨z0, z1, z2, z3, f0, f1, f2, f3⟩ := ((hb3.le l1).le l2).st
    go_wp2_with fail
    refine bodyPost_ret (v := .tuple #[stZ, .int .i64 0, .int .i64 er]) (by simp [results, Try.results20, go_sem, z0, z1, z2, z3]) rfl ⟨rfl, ?_⟩
    exact ((hl.trans l1).trans l2).set4 (by omega) _ _ _ _

set_option maxRecDepth 4000 in
set_option maxHeartbeats 4000000 in
theorem refQueueScan (v : Value) (s : St) (er : Int) (w : World) (hx : HasS w v s) (hf : Fit s) (hm : s.all rowMay3 = true) :
    Calls Try.prog 20 #[.int .i64 2, v, opV 3 0 0, .int .i64 er] w fun e w' => ∃ v', e = .returned (.tuple #[v', .int .i64 (manyTo s 4), .int .i64 0]) ∧ OwnS w' w.heap.size v' (s) ∧ Le w w' := by
  have hx0 := hx
  obtain ⟨vs, rfl, hr⟩ := hx
  have hl := ((Le.alloc w (.cells (cells4 vs) 25)).trans (Le.alloc _ (.cells #[.int .i64 3, .int .i64 0, .int .i64 0] 43))).trans (Le.alloc _ (.cells (cells4 fun _ => slZ) 25))
  have hb1 := ((Box.new w (cells4 vs) 25).le (Le.alloc _ (.cells #[.int .i64 3, .int .i64 0, .int .i64 0] 43))).le (Le.alloc _ (.cells (cells4 fun _ => slZ) 25))
  have hb2 := (Box.new (w.alloc (.cells (cells4 vs) 25)) #[.int .i64 3, .int .i64 0, .int .i64 0] 43).le (Le.alloc _ (.cells (cells4 fun _ => slZ) 25))
  have hb3 := Box.new ((w.alloc (.cells (cells4 vs) 25)).alloc (.cells #[.int .i64 3, .int .i64 0, .int .i64 0] 43)) (cells4 fun _ => slZ) 25
  simp only [World.size_alloc] at hb1 hb2 hb3
  have hmay := refStateMay2 (stV vs) s _ (hx0.le hl) hf
  rw [hm] at hmay
  have hop : opMay 3 0 0 = true := by decide
  have hsm := small3 hm
  go_enter Try.func20, Try.ntmps20
  go_wp2_with fail
  refine hmay.mono ?_
  rintro e w1 ⟨rfl, l1⟩
  obtain ⟨y0, y1, y2, _, _, _⟩ := (hb2.le l1).op
  clear hmay
  go_wp2_with fail
  refine (refOperMay _ _ _ _).mono ?_
  rw [hop]
  rintro e w2 ⟨rfl, l2⟩
  replace l1 := l1.trans l2
  clear l2 y0 y1 y2
  obtain ⟨y0, y1, y2, y3, _, _, _, _⟩ := (hb1.le l1).st
  go_wp2_with fail
  refine (refCopyState (stV vs) s _ (hx0.le (hl.trans l1)) hf).mono ?_
  rintro e w3 ⟨_, rfl, ⟨us, rfl, hown⟩, l3⟩
  replace hown := fun i hi => (hown i hi).base (base' := w.heap.size) (hl.trans l1).size
  replace l1 := l1.trans l3
  clear l3 y0 y1 y2 y3
  have n0 : w.heap.size + 1 + 1 < w3.heap.size := (hb3.le l1).lt
  have n1 : ¬ w.heap.size + 1 + 1 = w3.heap.size := by omega
  have n2 : ¬ w.heap.size + 1 + 1 = w.heap.size := by omega
  have n3 : ¬ w.heap.size + 1 + 1 = w.heap.size + 1 := by omega
  have hb4 := Box.new w3 (cells4 us) 25
  replace l1 := l1.trans (Le.alloc w3 (.cells (cells4 us) 25))
  replace hown := fun i hi => (hown i hi).le (Le.alloc w3 (.cells (cells4 us) 25))
  go_wp2_with fail
  generalize hW : w3.alloc (.cells (cells4 us) 25) = W at hb4 l1 hown ⊢
  clear hW
  go_loop [12, 13, 14] (fun t m i => ∃ j : Nat, j ≤ 4 ∧ i = .int .i64 j ∧ t = .int .i64 (sumTo s j) ∧ m = .int .i64 (manyTo s j)) (fun _ _ i => 4 - (intOf i).toNat)
  case atStart => exact ⟨0, by omega, rfl, rfl, rfl⟩
  case round =>
    obtain ⟨j, hj, rfl, rfl, rfl⟩ := hrel
    by_cases hlt : j < 4
    · have c1 : W.cell? ⟨w.heap.size, j, none⟩ = some (slV (vs j)) := ((hb1.le l1).cell j).trans (cells4_at vs hlt)
      obtain ⟨b0, b1⟩ := sumTo_small hsm j hj
      obtain ⟨b2, b3⟩ := manyTo_bounds (m := 4) (fun i hi => (hsm i hi).1) j hj
      obtain ⟨ad, cap, hv, hc, _, hcell⟩ := (hr j hlt).le (hl.trans l1)
      have hs : sumTo s (j + 1) = sumTo s j + sumOf (s.at j) (s.at j).length := by rw [sumOf_all]; rfl
      have hn : manyTo s (j + 1) = manyTo s j + (s.at j).length := rfl
      have hsj := hsm j hlt
      have hlj := hsj.1
      rw [hv] at c1
      obtain ⟨T, hT⟩ : ∃ T, T = sumTo s j := ⟨_, rfl⟩
      obtain ⟨M, hM⟩ : ∃ M, M = manyTo s j := ⟨_, rfl⟩
      obtain ⟨L, hL⟩ : ∃ L, L = (s.at j).length := ⟨_, rfl⟩
      rw [← hT] at b0 b1 hs ⊢
      rw [← hM] at b2 b3 hn ⊢
      rw [← hL] at c1 hc hcell hs hn hlj
      have HS : Hid (sumTo s (j + 1) = T + sumOf (s.at j) L) := hs
      have HN : Hid (manyTo s (j + 1) = M + L) := hn
      have HL : Hid (L = (s.at j).length) := hL
      clear hs hn hv hm hr hown hb1 hb2 hb3 hb4 hop n0 n1 n2 n3 hT hM hL hsm
      go_wp2
      go_loop [12, 15] (fun t i => ∃ m : Nat, m ≤ L ∧ i = .int .i64 m ∧ t = .int .i64 (T + sumOf (s.at j) m)) (fun _ i => L - (intOf i).toNat)
      case atStart => exact ⟨0, by omega, rfl, by simp [sumOf]⟩
      case round =>
        obtain ⟨m, hmL, rfl, rfl⟩ := hrel
        obtain ⟨d0, d1⟩ := hsj.sum m (by rw [← HL.out]; exact hmL)
        by_cases hlt2 : m < L
        · obtain ⟨b, off, rfl, hcl⟩ := hcell (by omega)
          have c2 := hcl m hlt2
          have hst := sumOf_step (xs := s.at j) (m := m) (by rw [← HL.out]; exact hlt2)
          obtain ⟨d2, d3⟩ := hsj.at (m := m) (by rw [← HL.out]; exact hlt2)
          obtain ⟨x, hx⟩ : ∃ x, x = (s.at j).getD m 0 := ⟨_, rfl⟩
          rw [← hx] at c2 hst d2 d3
          obtain ⟨t, ht⟩ : ∃ t, t = sumOf (s.at j) m := ⟨_, rfl⟩
          rw [← ht] at hst d0 d1 ⊢
          have HT : Hid (sumOf (s.at j) (m + 1) = t + x) := hst
          have m0 : (0 : Int) ≤ (m : Int) := by omega
          have m1 : (m : Int) < (L : Int) := by omega
          clear hst ht hx hcl hcell hsj
          go_wp2
          go_round
          case rel => exact ⟨m + 1, by omega, by go_num, by rw [HT.out, Int.add_assoc]⟩
          case measure => simp [intOf]; omega
        · obtain rfl : m = L := by omega
          clear hcell hsj
          go_wp2
          go_round
          case rel => exact ⟨j + 1, by omega, by go_num, by rw [HS.out], by rw [HN.out]⟩
          case measure => simp [intOf]; omega
    · obtain rfl : j = 4 := by omega
      clear hlt hj
      obtain ⟨y0, y1, y2, y3, _, _, _, _⟩ := hb4.st
      obtain ⟨z0, z1, z2, z3, f0, f1, f2, f3⟩ := (hb3.le l1).st
      obtain ⟨o0, o1, o2, _, _, _⟩ := (hb2.le l1).op
      go_wp2_with fail
      refine bodyPost_ret (v := .tuple #[stV us, .int .i64 (manyTo s 4), .int .i64 0]) (by simp [results, Try.results20, go_sem, z0, z1, z2, z3]) rfl ⟨_, rfl, ⟨us, rfl, fun i hi => ?_⟩, ?_⟩
      · exact (hown i hi).set4 (hb3.le l1) (by decide) _ _ _ _
      · exact (hl.trans l1).set4 (by omega) _ _ _ _

set_option maxRecDepth 4000 in
set_option maxHeartbeats 4000000 in
theorem refQueueLook (v : Value) (s : St) (k : Nat) (er : Int) (w : World) (hx : HasS w v s) (hf : Fit s) (hm : s.all rowMay3 = true) (hk : k < 4) :
    Calls Try.prog 20 #[.int .i64 2, v, opV 2 k 0, .int .i64 er] w fun e w' => ∃ v', e = .returned (.tuple #[v', .int .i64 ((s.at k).length : Int), .int .i64 0]) ∧ OwnS w' w.heap.size v' (s) ∧ Le w w' := by
  have hx0 := hx
  obtain ⟨vs, rfl, hr⟩ := hx
  have hl := ((Le.alloc w (.cells (cells4 vs) 25)).trans (Le.alloc _ (.cells #[.int .i64 2, .int .i64 k, .int .i64 0] 43))).trans (Le.alloc _ (.cells (cells4 fun _ => slZ) 25))
  have hb1 := ((Box.new w (cells4 vs) 25).le (Le.alloc _ (.cells #[.int .i64 2, .int .i64 k, .int .i64 0] 43))).le (Le.alloc _ (.cells (cells4 fun _ => slZ) 25))
  have hb2 := (Box.new (w.alloc (.cells (cells4 vs) 25)) #[.int .i64 2, .int .i64 k, .int .i64 0] 43).le (Le.alloc _ (.cells (cells4 fun _ => slZ) 25))
  have hb3 := Box.new ((w.alloc (.cells (cells4 vs) 25)).alloc (.cells #[.int .i64 2, .int .i64 k, .int .i64 0] 43)) (cells4 fun _ => slZ) 25
  simp only [World.size_alloc] at hb1 hb2 hb3
  have hmay := refStateMay2 (stV vs) s _ (hx0.le hl) hf
  rw [hm] at hmay
  have hop : opMay 2 k 0 = true := by simp [opMay]; omega
  have hsm := small3 hm
  go_enter Try.func20, Try.ntmps20
  go_wp2_with fail
  refine hmay.mono ?_
  rintro e w1 ⟨rfl, l1⟩
  obtain ⟨y0, y1, y2, _, _, _⟩ := (hb2.le l1).op
  clear hmay
  go_wp2_with fail
  refine (refOperMay _ _ _ _).mono ?_
  rw [hop]
  rintro e w2 ⟨rfl, l2⟩
  replace l1 := l1.trans l2
  clear l2 y0 y1 y2
  obtain ⟨y0, y1, y2, y3, _, _, _, _⟩ := (hb1.le l1).st
  go_wp2_with fail
  refine (refCopyState (stV vs) s _ (hx0.le (hl.trans l1)) hf).mono ?_
  rintro e w3 ⟨_, rfl, ⟨us, rfl, hown⟩, l3⟩
  replace hown := fun i hi => (hown i hi).base (base' := w.heap.size) (hl.trans l1).size
  replace l1 := l1.trans l3
  clear l3 y0 y1 y2 y3
  have n0 : w.heap.size + 1 + 1 < w3.heap.size := (hb3.le l1).lt
  have n1 : ¬ w.heap.size + 1 + 1 = w3.heap.size := by omega
  have n2 : ¬ w.heap.size + 1 + 1 = w.heap.size := by omega
  have n3 : ¬ w.heap.size + 1 + 1 = w.heap.size + 1 := by omega
  have hb4 := Box.new w3 (cells4 us) 25
  replace l1 := l1.trans (Le.alloc w3 (.cells (cells4 us) 25))
  replace hown := fun i hi => (hown i hi).le (Le.alloc w3 (.cells (cells4 us) 25))
  go_wp2_with fail
  generalize hW : w3.alloc (.cells (cells4 us) 25) = W at hb4 l1 hown ⊢
  clear hW
  go_loop [12, 13, 14] (fun t m i => ∃ j : Nat, j ≤ 4 ∧ i = .int .i64 j ∧ t = .int .i64 (sumTo s j) ∧ m = .int .i64 (manyTo s j)) (fun _ _ i => 4 - (intOf i).toNat)
  case atStart => exact ⟨0, by omega, rfl, rfl, rfl⟩
  case round =>
    obtain ⟨j, hj, rfl, rfl, rfl⟩ := hrel
    by_cases hlt : j < 4
    · have c1 : W.cell? ⟨w.heap.size, j, none⟩ = some (slV (vs j)) := ((hb1.le l1).cell j).trans (cells4_at vs hlt)
      obtain ⟨b0, b1⟩ := sumTo_small hsm j hj
      obtain ⟨b2, b3⟩ := manyTo_bounds (m := 4) (fun i hi => (hsm i hi).1) j hj
      obtain ⟨ad, cap, hv, hc, _, hcell⟩ := (hr j hlt).le (hl.trans l1)
      have hs : sumTo s (j + 1) = sumTo s j + sumOf (s.at j) (s.at j).length := by rw [sumOf_all]; rfl
      have hn : manyTo s (j + 1) = manyTo s j + (s.at j).length := rfl
      have hsj := hsm j hlt
      have hlj := hsj.1
      rw [hv] at c1
      obtain ⟨T, hT⟩ : ∃ T, T = sumTo s j := ⟨_, rfl⟩
      obtain ⟨M, hM⟩ : ∃ M, M = manyTo s j := ⟨_, rfl⟩
      obtain ⟨L, hL⟩ : ∃ L, L = (s.at j).length := ⟨_, rfl⟩
      rw [← hT] at b0 b1 hs ⊢
      rw [← hM] at b2 b3 hn ⊢
      rw [← hL] at c1 hc hcell hs hn hlj
      have HS : Hid (sumTo s (j + 1) = T + sumOf (s.at j) L) := hs
      have HN : Hid (manyTo s (j + 1) = M + L) := hn
      have HL : Hid (L = (s.at j).length) := hL
      clear hs hn hv hm hr hown hb1 hb2 hb3 hb4 hop n0 n1 n2 n3 hT hM hL hsm
      go_wp2
      go_loop [12, 15] (fun t i => ∃ m : Nat, m ≤ L ∧ i = .int .i64 m ∧ t = .int .i64 (T + sumOf (s.at j) m)) (fun _ i => L - (intOf i).toNat)
      case atStart => exact ⟨0, by omega, rfl, by simp [sumOf]⟩
      case round =>
        obtain ⟨m, hmL, rfl, rfl⟩ := hrel
        obtain ⟨d0, d1⟩ := hsj.sum m (by rw [← HL.out]; exact hmL)
        by_cases hlt2 : m < L
        · obtain ⟨b, off, rfl, hcl⟩ := hcell (by omega)
          have c2 := hcl m hlt2
          have hst := sumOf_step (xs := s.at j) (m := m) (by rw [← HL.out]; exact hlt2)
          obtain ⟨d2, d3⟩ := hsj.at (m := m) (by rw [← HL.out]; exact hlt2)
          obtain ⟨x, hx⟩ : ∃ x, x = (s.at j).getD m 0 := ⟨_, rfl⟩
          rw [← hx] at c2 hst d2 d3
          obtain ⟨t, ht⟩ : ∃ t, t = sumOf (s.at j) m := ⟨_, rfl⟩
          rw [← ht] at hst d0 d1 ⊢
          have HT : Hid (sumOf (s.at j) (m + 1) = t + x) := hst
          have m0 : (0 : Int) ≤ (m : Int) := by omega
          have m1 : (m : Int) < (L : Int) := by omega
          clear hst ht hx hcl hcell hsj
          go_wp2
          go_round
          case rel => exact ⟨m + 1, by omega, by go_num, by rw [HT.out, Int.add_assoc]⟩
          case measure => simp [intOf]; omega
        · obtain rfl : m = L := by omega
          clear hcell hsj
          go_wp2
          go_round
          case rel => exact ⟨j + 1, by omega, by go_num, by rw [HS.out], by rw [HN.out]⟩
          case measure => simp [intOf]; omega
    · obtain rfl : j = 4 := by omega
      clear hlt hj
      obtain ⟨y0, y1, y2, y3, _, _, _, _⟩ := hb4.st
      obtain ⟨z0, z1, z2, z3, f0, f1, f2, f3⟩ := (hb3.le l1).st
      obtain ⟨o0, o1, o2, _, _, _⟩ := (hb2.le l1).op
      have k0 : (0 : Int) ≤ (k : Int) := by omega
      have k1 : (k : Int) < 4 := by omega
      have yk : W.cell? ⟨w3.heap.size, k, none⟩ = some (slV (us k)) := (hb4.cell k).trans (cells4_at us hk)
      have hle : (us k).2.1 = (s.at k).length := by
        obtain ⟨ad, cap, e, _⟩ := (hown k hk).has
        simp only [Value.slice.injEq] at e
        exact e.2.1
      go_wp2_with fail
      refine bodyPost_ret (v := .tuple #[stV us, .int .i64 ((s.at k).length : Int), .int .i64 0]) (by simp [results, Try.results20, go_sem, z0, z1, z2, z3]) rfl ⟨_, rfl, ⟨us, rfl, fun i hi => ?_⟩, ?_⟩
      · exact (hown i hi).set4 (hb3.le l1) (by decide) _ _ _ _
      · exact (hl.trans l1).set4 (by omega) _ _ _ _

set_option maxRecDepth 4000 in
set_option maxHeartbeats 4000000 in
theorem refQueueFirst (v : Value) (s : St) (k : Nat) (a : Int) (er : Int) (w : World) (hx : HasS w v s) (hf : Fit s) (hm : s.all rowMay3 = true) (hk : k < 4) (ha : 0 ≤ a ∧ a ≤ 255) :
    Calls Try.prog 20 #[.int .i64 2, v, opV 0 k a, .int .i64 er] w fun e w' => ∃ v', e = .returned (.tuple #[v', .int .i64 (enqS (s.at k) a).2, .int .i64 0]) ∧ OwnS w' w.heap.size v' (s.put k (enqS (s.at k) a).1) ∧ Le w w' := by
  have hx0 := hx
  obtain ⟨vs, rfl, hr⟩ := hx
  have hl := ((Le.alloc w (.cells (cells4 vs) 25)).trans (Le.alloc _ (.cells #[.int .i64 0, .int .i64 k, .int .i64 a] 43))).trans (Le.alloc _ (.cells (cells4 fun _ => slZ) 25))
  have hb1 := ((Box.new w (cells4 vs) 25).le (Le.alloc _ (.cells #[.int .i64 0, .int .i64 k, .int .i64 a] 43))).le (Le.alloc _ (.cells (cells4 fun _ => slZ) 25))
  have hb2 := (Box.new (w.alloc (.cells (cells4 vs) 25)) #[.int .i64 0, .int .i64 k, .int .i64 a] 43).le (Le.alloc _ (.cells (cells4 fun _ => slZ) 25))
  have hb3 := Box.new ((w.alloc (.cells (cells4 vs) 25)).alloc (.cells #[.int .i64 0, .int .i64 k, .int .i64 a] 43)) (cells4 fun _ => slZ) 25
  simp only [World.size_alloc] at hb1 hb2 hb3
  have hmay := refStateMay2 (stV vs) s _ (hx0.le hl) hf
  rw [hm] at hmay
  have hop : opMay 0 k a = true := by simp [opMay]; omega
  have hsm := small3 hm
  go_enter Try.func20, Try.ntmps20
  go_wp2_with fail
  refine hmay.mono ?_
  rintro e w1 ⟨rfl, l1⟩
  obtain ⟨y0, y1, y2, _, _, _⟩ := (hb2.le l1).op
  clear hmay
  go_wp2_with fail
  refine (refOperMay _ _ _ _).mono ?_
  rw [hop]
  rintro e w2 ⟨rfl, l2⟩
  replace l1 := l1.trans l2
  clear l2 y0 y1 y2
  obtain ⟨y0, y1, y2, y3, _, _, _, _⟩ := (hb1.le l1).st
  go_wp2_with fail
  refine (refCopyState (stV vs) s _ (hx0.le (hl.trans l1)) hf).mono ?_
  rintro e w3 ⟨_, rfl, ⟨us, rfl, hown⟩, l3⟩
  replace hown := fun i hi => (hown i hi).base (base' := w.heap.size) (hl.trans l1).size
  replace l1 := l1.trans l3
  clear l3 y0 y1 y2 y3
  have n0 : w.heap.size + 1 + 1 < w3.heap.size := (hb3.le l1).lt
  have n1 : ¬ w.heap.size + 1 + 1 = w3.heap.size := by omega
  have n2 : ¬ w.heap.size + 1 + 1 = w.heap.size := by omega
  have n3 : ¬ w.heap.size + 1 + 1 = w.heap.size + 1 := by omega
  have hb4 := Box.new w3 (cells4 us) 25
  replace l1 := l1.trans (Le.alloc w3 (.cells (cells4 us) 25))
  replace hown := fun i hi => (hown i hi).le (Le.alloc w3 (.cells (cells4 us) 25))
  go_wp2_with fail
  generalize hW : w3.alloc (.cells (cells4 us) 25) = W at hb4 l1 hown ⊢
  clear hW
  go_loop [12, 13, 14] (fun t m i => ∃ j : Nat, j ≤ 4 ∧ i = .int .i64 j ∧ t = .int .i64 (sumTo s j) ∧ m = .int .i64 (manyTo s j)) (fun _ _ i => 4 - (intOf i).toNat)
  case atStart => exact ⟨0, by omega, rfl, rfl, rfl⟩
  case round =>
    obtain ⟨j, hj, rfl, rfl, rfl⟩ := hrel
    by_cases hlt : j < 4
    · have c1 : W.cell? ⟨w.heap.size, j, none⟩ = some (slV (vs j)) := ((hb1.le l1).cell j).trans (cells4_at vs hlt)
      obtain ⟨b0, b1⟩ := sumTo_small hsm j hj
      obtain ⟨b2, b3⟩ := manyTo_bounds (m := 4) (fun i hi => (hsm i hi).1) j hj
      obtain ⟨ad, cap, hv, hc, _, hcell⟩ := (hr j hlt).le (hl.trans l1)
      have hs : sumTo s (j + 1) = sumTo s j + sumOf (s.at j) (s.at j).length := by rw [sumOf_all]; rfl
      have hn : manyTo s (j + 1) = manyTo s j + (s.at j).length := rfl
      have hsj := hsm j hlt
      have hlj := hsj.1
      rw [hv] at c1
      obtain ⟨T, hT⟩ : ∃ T, T = sumTo s j := ⟨_, rfl⟩
      obtain ⟨M, hM⟩ : ∃ M, M = manyTo s j := ⟨_, rfl⟩
      obtain ⟨L, hL⟩ : ∃ L, L = (s.at j).length := ⟨_, rfl⟩
      rw [← hT] at b0 b1 hs ⊢
      rw [← hM] at b2 b3 hn ⊢
      rw [← hL] at c1 hc hcell hs hn hlj
      have HS : Hid (sumTo s (j + 1) = T + sumOf (s.at j) L) := hs
      have HN : Hid (manyTo s (j + 1) = M + L) := hn
      have HL : Hid (L = (s.at j).length) := hL
      clear hs hn hv hm hr hown hb1 hb2 hb3 hb4 hop n0 n1 n2 n3 hT hM hL hsm
      go_wp2
      go_loop [12, 15] (fun t i => ∃ m : Nat, m ≤ L ∧ i = .int .i64 m ∧ t = .int .i64 (T + sumOf (s.at j) m)) (fun _ i => L - (intOf i).toNat)
      case atStart => exact ⟨0, by omega, rfl, by simp [sumOf]⟩
      case round =>
        obtain ⟨m, hmL, rfl, rfl⟩ := hrel
        obtain ⟨d0, d1⟩ := hsj.sum m (by rw [← HL.out]; exact hmL)
        by_cases hlt2 : m < L
        · obtain ⟨b, off, rfl, hcl⟩ := hcell (by omega)
          have c2 := hcl m hlt2
          have hst := sumOf_step (xs := s.at j) (m := m) (by rw [← HL.out]; exact hlt2)
          obtain ⟨d2, d3⟩ := hsj.at (m := m) (by rw [← HL.out]; exact hlt2)
          obtain ⟨x, hx⟩ : ∃ x, x = (s.at j).getD m 0 := ⟨_, rfl⟩
          rw [← hx] at c2 hst d2 d3
          obtain ⟨t, ht⟩ : ∃ t, t = sumOf (s.at j) m := ⟨_, rfl⟩
          rw [← ht] at hst d0 d1 ⊢
          have HT : Hid (sumOf (s.at j) (m + 1) = t + x) := hst
          have m0 : (0 : Int) ≤ (m : Int) := by omega
          have m1 : (m : Int) < (L : Int) := by omega
          clear hst ht hx hcl hcell hsj
          go_wp2
          go_round
          case rel => exact ⟨m + 1, by omega, by go_num, by rw [HT.out, Int.add_assoc]⟩
          case measure => simp [intOf]; omega
        · obtain rfl : m = L := by omega
          clear hcell hsj
          go_wp2
          go_round
          case rel => exact ⟨j + 1, by omega, by go_num, by rw [HS.out], by rw [HN.out]⟩
          case measure => simp [intOf]; omega
    · obtain rfl : j = 4 := by omega
      clear hlt hj
      have k0 : (0 : Int) ≤ (k : Int) := by omega
      have k1 : (k : Int) < 4 := by omega
      have yk : W.cell? ⟨w3.heap.size, k, none⟩ = some (slV (us k)) := (hb4.cell k).trans (cells4_at us hk)
      obtain ⟨o0, o1, o2, _, _, _⟩ := (hb2.le l1).op
      have hrow := refQueueRow0 (slV (us k)) (s.at k) k a W w.heap.size (hown k hk) (hl.trans l1).size (St.all_at hm hk)
      go_wp2_with fail
      refine hrow.mono ?_
      rintro e w4 ⟨q, rfl, hnew, l4⟩
      clear o0 o1 o2 yk hrow
      replace l1 := l1.trans l4
      replace hb4 := hb4.le l4
      replace hown := fun i hi => (hown i hi).le l4
      have yk : w4.cell? ⟨w3.heap.size, k, none⟩ = some (slV (us k)) := (hb4.cell k).trans (cells4_at us hk)
      have yf := hb4.frozen k
      obtain ⟨o0, o1, o2, _, _, _⟩ := (hb2.le l1).op
      go_upto_region 30 with fail
      replace hown := fun i hi => (hown i hi).setBox (i := k) (u := slV q) hb4 (by decide)
      replace hnew := hnew.setBox (i := k) (u := slV q) hb4 (by decide)
      replace hb4 := hb4.set k (slV q)
      rw [cells4_upd us hk] at hb4
      replace l1 : Le _ (w4.setCell ⟨w3.heap.size, k, none⟩ (slV q)) := Below.setCell l1 (by simp only [World.size_alloc]; show w.heap.size + 1 + 1 + 1 ≤ w3.heap.size; omega) _
      clear o0 o1 o2 yk yf
      generalize hW2 : w4.setCell ⟨w3.heap.size, k, none⟩ (slV q) = W2 at hb4 l1 hown hnew ⊢
      replace hown : ∀ i, i < 4 → Own W2 w.heap.size (slV (upd us k q i)) ((s.put k (enqS (s.at k) a).1).at i) := by
        intro i hi
        rw [St.at_put hk hi]
        by_cases e : i = k
        · rw [if_pos e, show upd us k q i = q by simp [upd, e]]; exact hnew
        · rw [if_neg e, show upd us k q i = us i by simp [upd, e]]; exact hown i hi
      generalize upd us k q = us at hb4 hown
      clear hW2 hnew
      obtain ⟨y0, y1, y2, y3, _, _, _, _⟩ := hb4.st
      obtain ⟨z0, z1, z2, z3, f0, f1, f2, f3⟩ := (hb3.le l1).st
      go_wp2_with fail
      refine bodyPost_ret (v := .tuple #[stV us, .int .i64 (enqS (s.at k) a).2, .int .i64 0]) (by simp [results, Try.results20, go_sem, z0, z1, z2, z3]) rfl ⟨_, rfl, ⟨us, rfl, fun i hi => ?_⟩, ?_⟩
      · exact (hown i hi).set4 (hb3.le l1) (by decide) _ _ _ _
      · exact (hl.trans l1).set4 (by omega) _ _ _ _

set_option maxRecDepth 4000 in
set_option maxHeartbeats 4000000 in
theorem refQueueSecond (v : Value) (s : St) (k : Nat) (a : Int) (er : Int) (w : World) (hx : HasS w v s) (hf : Fit s) (hm : s.all rowMay3 = true) (hk : k < 4) (ha : 0 ≤ a ∧ a ≤ 255) :
    Calls Try.prog 20 #[.int .i64 2, v, opV 1 k a, .int .i64 er] w fun e w' => ∃ v', e = .returned (.tuple #[v', .int .i64 (deqS (s.at k)).2, .int .i64 0]) ∧ OwnS w' w.heap.size v' (s.put k (deqS (s.at k)).1) ∧ Le w w' := by
  have hx0 := hx
  obtain ⟨vs, rfl, hr⟩ := hx
  have hl := ((Le.alloc w (.cells (cells4 vs) 25)).trans (Le.alloc _ (.cells #[.int .i64 1, .int .i64 k, .int .i64 a] 43))).trans (Le.alloc _ (.cells (cells4 fun _ => slZ) 25))
  have hb1 := ((Box.new w (cells4 vs) 25).le (Le.alloc _ (.cells #[.int .i64 1, .int .i64 k, .int .i64 a] 43))).le (Le.alloc _ (.cells (cells4 fun _ => slZ) 25))
  have hb2 := (Box.new (w.alloc (.cells (cells4 vs) 25)) #[.int .i64 1, .int .i64 k, .int .i64 a] 43).le (Le.alloc _ (.cells (cells4 fun _ => slZ) 25))
  have hb3 := Box.new ((w.alloc (.cells (cells4 vs) 25)).alloc (.cells #[.int .i64 1, .int .i64 k, .int .i64 a] 43)) (cells4 fun _ => slZ) 25
  simp only [World.size_alloc] at hb1 hb2 hb3
  have hmay := refStateMay2 (stV vs) s _ (hx0.le hl) hf
  rw [hm] at hmay
  have hop : opMay 1 k a = true := by simp [opMay]; omega
  have hsm := small3 hm
  go_enter Try.func20, Try.ntmps20
  go_wp2_with fail
  refine hmay.mono ?_
  rintro e w1 ⟨rfl, l1⟩
  obtain ⟨y0, y1, y2, _, _, _⟩ := (hb2.le l1).op
  clear hmay
  go_wp2_with fail
  refine (refOperMay _ _ _ _).mono ?_
  rw [hop]
  rintro e w2 ⟨rfl, l2⟩
  replace l1 := l1.trans l2
  clear l2 y0 y1 y2
  obtain ⟨y0, y1, y2, y3, _, _, _, _⟩ := (hb1.le l1).st
  go_wp2_with fail
  refine (refCopyState (stV vs) s _ (hx0.le (hl.trans l1)) hf).mono ?_
  rintro e w3 ⟨_, rfl, ⟨us, rfl, hown⟩, l3⟩
  replace hown := fun i hi => (hown i hi).base (base' := w.heap.size) (hl.trans l1).size
  replace l1 := l1.trans l3
  clear l3 y0 y1 y2 y3
  have n0 : w.heap.size + 1 + 1 < w3.heap.size := (hb3.le l1).lt
  have n1 : ¬ w.heap.size + 1 + 1 = w3.heap.size := by omega
  have n2 : ¬ w.heap.size + 1 + 1 = w.heap.size := by omega
  have n3 : ¬ w.heap.size + 1 + 1 = w.heap.size + 1 := by omega
  have hb4 := Box.new w3 (cells4 us) 25
  replace l1 := l1.trans (Le.alloc w3 (.cells (cells4 us) 25))
  replace hown := fun i hi => (hown i hi).le (Le.alloc w3 (.cells (cells4 us) 25))
  go_wp2_with fail
  generalize hW : w3.alloc (.cells (cells4 us) 25) = W at hb4 l1 hown ⊢
  clear hW
  go_loop [12, 13, 14] (fun t m i => ∃ j : Nat, j ≤ 4 ∧ i = .int .i64 j ∧ t = .int .i64 (sumTo s j) ∧ m = .int .i64 (manyTo s j)) (fun _ _ i => 4 - (intOf i).toNat)
  case atStart => exact ⟨0, by omega, rfl, rfl, rfl⟩
  case round =>
    obtain ⟨j, hj, rfl, rfl, rfl⟩ := hrel
    by_cases hlt : j < 4
    · have c1 : W.cell? ⟨w.heap.size, j, none⟩ = some (slV (vs j)) := ((hb1.le l1).cell j).trans (cells4_at vs hlt)
      obtain ⟨b0, b1⟩ := sumTo_small hsm j hj
      obtain ⟨b2, b3⟩ := manyTo_bounds (m := 4) (fun i hi => (hsm i hi).1) j hj
      obtain ⟨ad, cap, hv, hc, _, hcell⟩ := (hr j hlt).le (hl.trans l1)
      have hs : sumTo s (j + 1) = sumTo s j + sumOf (s.at j) (s.at j).length := by rw [sumOf_all]; rfl
      have hn : manyTo s (j + 1) = manyTo s j + (s.at j).length := rfl
      have hsj := hsm j hlt
      have hlj := hsj.1
      rw [hv] at c1
      obtain ⟨T, hT⟩ : ∃ T, T = sumTo s j := ⟨_, rfl⟩
      obtain ⟨M, hM⟩ : ∃ M, M = manyTo s j := ⟨_, rfl⟩
      obtain ⟨L, hL⟩ : ∃ L, L = (s.at j).length := ⟨_, rfl⟩
      rw [← hT] at b0 b1 hs ⊢
      rw [← hM] at b2 b3 hn ⊢
      rw [← hL] at c1 hc hcell hs hn hlj
      have HS : Hid (sumTo s (j + 1) = T + sumOf (s.at j) L) := hs
      have HN : Hid (manyTo s (j + 1) = M + L) := hn
      have HL : Hid (L = (s.at j).length) := hL
      clear hs hn hv hm hr hown hb1 hb2 hb3 hb4 hop n0 n1 n2 n3 hT hM hL hsm
      go_wp2
      go_loop [12, 15] (fun t i => ∃ m : Nat, m ≤ L ∧ i = .int .i64 m ∧ t = .int .i64 (T + sumOf (s.at j) m)) (fun _ i => L - (intOf i).toNat)
      case atStart => exact ⟨0, by omega, rfl, by simp [sumOf]⟩
      case round =>
        obtain ⟨m, hmL, rfl, rfl⟩ := hrel
        obtain ⟨d0, d1⟩ := hsj.sum m (by rw [← HL.out]; exact hmL)
        by_cases hlt2 : m < L
        · obtain ⟨b, off, rfl, hcl⟩ := hcell (by omega)
          have c2 := hcl m hlt2
          have hst := sumOf_step (xs := s.at j) (m := m) (by rw [← HL.out]; exact hlt2)
          obtain ⟨d2, d3⟩ := hsj.at (m := m) (by rw [← HL.out]; exact hlt2)
          obtain ⟨x, hx⟩ : ∃ x, x = (s.at j).getD m 0 := ⟨_, rfl⟩
          rw [← hx] at c2 hst d2 d3
          obtain ⟨t, ht⟩ : ∃ t, t = sumOf (s.at j) m := ⟨_, rfl⟩
          rw [← ht] at hst d0 d1 ⊢
          have HT : Hid (sumOf (s.at j) (m + 1) = t + x) := hst
          have m0 : (0 : Int) ≤ (m : Int) := by omega
          have m1 : (m : Int) < (L : Int) := by omega
          clear hst ht hx hcl hcell hsj
          go_wp2
          go_round
          case rel => exact ⟨m + 1, by omega, by go_num, by rw [HT.out, Int.add_assoc]⟩
          case measure => simp [intOf]; omega
        · obtain rfl : m = L := by omega
          clear hcell hsj
          go_wp2
          go_round
          case rel => exact ⟨j + 1, by omega, by go_num, by rw [HS.out], by rw [HN.out]⟩
          case measure => simp [intOf]; omega
    · obtain rfl : j = 4 := by omega
      clear hlt hj
      have k0 : (0 : Int) ≤ (k : Int) := by omega
      have k1 : (k : Int) < 4 := by omega
      have yk : W.cell? ⟨w3.heap.size, k, none⟩ = some (slV (us k)) := (hb4.cell k).trans (cells4_at us hk)
      obtain ⟨o0, o1, o2, _, _, _⟩ := (hb2.le l1).op
      have hrow := refQueueRow1 (slV (us k)) (s.at k) k a W w.heap.size (hown k hk) (hl.trans l1).size (St.all_at hm hk)
      go_wp2_with fail
      refine hrow.mono ?_
      rintro e w4 ⟨q, rfl, hnew, l4⟩
      clear o0 o1 o2 yk hrow
      replace l1 := l1.trans l4
      replace hb4 := hb4.le l4
      replace hown := fun i hi => (hown i hi).le l4
      have yk : w4.cell? ⟨w3.heap.size, k, none⟩ = some (slV (us k)) := (hb4.cell k).trans (cells4_at us hk)
      have yf := hb4.frozen k
      obtain ⟨o0, o1, o2, _, _, _⟩ := (hb2.le l1).op
      go_upto_region 30 with fail
      replace hown := fun i hi => (hown i hi).setBox (i := k) (u := slV q) hb4 (by decide)
      replace hnew := hnew.setBox (i := k) (u := slV q) hb4 (by decide)
      replace hb4 := hb4.set k (slV q)
      rw [cells4_upd us hk] at hb4
      replace l1 : Le _ (w4.setCell ⟨w3.heap.size, k, none⟩ (slV q)) := Below.setCell l1 (by simp only [World.size_alloc]; show w.heap.size + 1 + 1 + 1 ≤ w3.heap.size; omega) _
      clear o0 o1 o2 yk yf
      generalize hW2 : w4.setCell ⟨w3.heap.size, k, none⟩ (slV q) = W2 at hb4 l1 hown hnew ⊢
      replace hown : ∀ i, i < 4 → Own W2 w.heap.size (slV (upd us k q i)) ((s.put k (deqS (s.at k)).1).at i) := by
        intro i hi
        rw [St.at_put hk hi]
        by_cases e : i = k
        · rw [if_pos e, show upd us k q i = q by simp [upd, e]]; exact hnew
        · rw [if_neg e, show upd us k q i = us i by simp [upd, e]]; exact hown i hi
      generalize upd us k q = us at hb4 hown
      clear hW2 hnew
      obtain ⟨y0, y1, y2, y3, _, _, _, _⟩ := hb4.st
      obtain ⟨z0, z1, z2, z3, f0, f1, f2, f3⟩ := (hb3.le l1).st
      go_wp2_with fail
      refine bodyPost_ret (v := .tuple #[stV us, .int .i64 (deqS (s.at k)).2, .int .i64 0]) (by simp [results, Try.results20, go_sem, z0, z1, z2, z3]) rfl ⟨_, rfl, ⟨us, rfl, fun i hi => ?_⟩, ?_⟩
      · exact (hown i hi).set4 (hb3.le l1) (by decide) _ _ _ _
      · exact (hl.trans l1).set4 (by omega) _ _ _ _

theorem refQueue (v : Value) (s : St) (c r a er : Int) (w : World) (hx : HasS w v s) (hf : Fit s) :
    Calls Try.prog 20 #[.int .i64 2, v, opV c r a, .int .i64 er] w fun e w' => ∃ v', e = .returned (.tuple #[v', .int .i64 (queS s c r a er).2.1, .int .i64 (queS s c r a er).2.2]) ∧ OwnS w' w.heap.size v' (queS s c r a er).1 ∧ Le w w' := by
  cases h : s.all rowMay3 && opMay c r a
  · rw [queS_no h]
    exact (refQueueNo v s c r a er w hx hf h).mono fun e w' ⟨he, hl⟩ => ⟨stZ, he, OwnS.zero _ _, hl⟩
  · obtain ⟨hm, ho⟩ := Bool.and_eq_true_iff.mp h
    rcases opMay_cases ho with ⟨k, hk, rfl, rfl, ha⟩ | ⟨k, hk, rfl, rfl, ha⟩ | ⟨k, hk, rfl, rfl, rfl⟩ | ⟨rfl, rfl, rfl⟩
    · rw [queS_first hm hk ha]; exact refQueueFirst v s k a er w hx hf hm hk ha
    · rw [queS_second hm hk ha]; exact refQueueSecond v s k a er w hx hf hm hk ha
    · rw [queS_look hm hk]; exact refQueueLook v s k er w hx hf hm hk
    · rw [queS_scan hm]; exact refQueueScan v s er w hx hf hm

end Go.Proofs.Ytnpejgendmgfaaa
