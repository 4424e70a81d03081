/-
  PARTS LAID TOGETHER, each with its own opening: RefApp2, RefObj, App2, FoR, SpoilA, StC, OpsB, FoldsW, OpenSt, OpenO.
-/
import Derived.Test.YtnpejgendmgfaaaAll2
import Derived.Deep.RegionHeld3
import Derived.Deep.Cut
import Derived.Test.YtnpejgendmgfaaaAll1
import Derived.Maps.AppendAt
import Derived.ProofKit
import Derived.OpenShut
import Derived.SizedLaws
import Derived.Lib.SmallJoins
import Derived.Laws.IdiomArrays
import Derived.Deep.Slices
import Derived.Deep.Strs
/-
  THE WALKS over the document's own Apply, at object 2: what it answers, for every state and operation. Condition: the state's rows can be copied.
-/
namespace Go.Proofs.Ytnpejgendmgfaaa
open Go.RowKit

theorem small3 {s : St} (hm : s.all rowMay3 = true) : ∀ k, k < 4 → Small (s.at k) := fun _ hk => ⟨rowMay3_len (St.all_at hm hk), rowMay3_all (St.all_at hm hk)⟩

set_option maxHeartbeats 2000000 in
theorem refQueueNo (v : Value) (s : St) (c r a er : Int) (w : World) (hx : HasS w v s) (hf : Fit s) (h : (s.all rowMay3 && opMay c r a) = false) :
    Calls Try.prog 20 #[.int .i64 2, v, opV c r a, .int .i64 er] w fun e w' => e = .returned (.tuple #[stZ, .int .i64 0, .int .i64 er]) ∧ Le w w' := by
  have hx0 := hx
  obtain ⟨vs, rfl, hr⟩ := hx
  have hl := ((Le.alloc w (.cells (cells4 vs) 25)).trans (Le.alloc _ (.cells #[.int .i64 c, .int .i64 r, .int .i64 a] 43))).trans (Le.alloc _ (.cells (cells4 fun _ => slZ) 25))
  have hb1 := ((Box.new w (cells4 vs) 25).le (Le.alloc _ (.cells #[.int .i64 c, .int .i64 r, .int .i64 a] 43))).le (Le.alloc _ (.cells (cells4 fun _ => slZ) 25))
  have hb2 := (Box.new (w.alloc (.cells (cells4 vs) 25)) #[.int .i64 c, .int .i64 r, .int .i64 a] 43).le (Le.alloc _ (.cells (cells4 fun _ => slZ) 25))
  have hb3 := Box.new ((w.alloc (.cells (cells4 vs) 25)).alloc (.cells #[.int .i64 c, .int .i64 r, .int .i64 a] 43)) (cells4 fun _ => slZ) 25
  simp only [World.size_alloc] at hb1 hb2 hb3
  have hmay := refStateMay2 (stV vs) s _ (hx0.le hl) hf
  cases hm : s.all rowMay3
  · rw [hm] at hmay
    go_enter Try.func20, Try.ntmps20
    go_wp2_with fail
    refine hmay.mono ?_
    rintro e w1 ⟨rfl, l1⟩
    obtain ⟨z0, z1, z2, z3, f0, f1, f2, f3⟩ := (hb3.le l1).st
    go_wp2_with fail
    refine bodyPost_ret (v := .tuple #[stZ, .int .i64 0, .int .i64 er]) (by simp [results, Try.results20, go_sem, z0, z1, z2, z3]) rfl ⟨rfl, ?_⟩
    exact (hl.trans l1).set4 (by omega) _ _ _ _
  · have hop : opMay c r a = false := by simpa [hm] using h
    rw [hm] at hmay
    go_enter Try.func20, Try.ntmps20
    go_wp2_with fail
    refine hmay.mono ?_
    rintro e w1 ⟨rfl, l1⟩
    obtain ⟨y0, y1, y2, _, _, _⟩ := (hb2.le l1).op
    go_wp2_with fail
    refine (refOperMay _ _ _ _).mono ?_
    rw [hop]
    rintro e w2 ⟨rfl, l2⟩
    obtain ⟨z0, z1, z2, z3, f0, f1, f2, f3⟩ := ((hb3.le l1).le l2).st
    go_wp2_with fail
    refine bodyPost_ret (v := .tuple #[stZ, .int .i64 0, .int .i64 er]) (by simp [results, Try.results20, go_sem, z0, z1, z2, z3]) rfl ⟨rfl, ?_⟩
    exact ((hl.trans l1).trans l2).set4 (by omega) _ _ _ _

set_option maxRecDepth 4000 in
set_option maxHeartbeats 4000000 in
theorem refQueueScan (v : Value) (s : St) (er : Int) (w : World) (hx : HasS w v s) (hf : Fit s) (hm : s.all rowMay3 = true) :
    Calls Try.prog 20 #[.int .i64 2, v, opV 3 0 0, .int .i64 er] w fun e w' => ∃ v', e = .returned (.tuple #[v', .int .i64 (manyTo s 4), .int .i64 0]) ∧ OwnS w' w.heap.size v' (s) ∧ Le w w' := by
  have hx0 := hx
  obtain ⟨vs, rfl, hr⟩ := hx
  have hl := ((Le.alloc w (.cells (cells4 vs) 25)).trans (Le.alloc _ (.cells #[.int .i64 3, .int .i64 0, .int .i64 0] 43))).trans (Le.alloc _ (.cells (cells4 fun _ => slZ) 25))
  have hb1 := ((Box.new w (cells4 vs) 25).le (Le.alloc _ (.cells #[.int .i64 3, .int .i64 0, .int .i64 0] 43))).le (Le.alloc _ (.cells (cells4 fun _ => slZ) 25))
  have hb2 := (Box.new (w.alloc (.cells (cells4 vs) 25)) #[.int .i64 3, .int .i64 0, .int .i64 0] 43).le (Le.alloc _ (.cells (cells4 fun _ => slZ) 25))
  have hb3 := Box.new ((w.alloc (.cells (cells4 vs) 25)).alloc (.cells #[.int .i64 3, .int .i64 0, .int .i64 0] 43)) (cells4 fun _ => slZ) 25
  simp only [World.size_alloc] at hb1 hb2 hb3
  have hmay := refStateMay2 (stV vs) s _ (hx0.le hl) hf
  rw [hm] at hmay
  have hop : opMay 3 0 0 = true := by decide
  have hsm := small3 hm
  go_enter Try.func20, Try.ntmps20
  go_wp2_with fail
  refine hmay.mono ?_
  rintro e w1 ⟨rfl, l1⟩
  obtain ⟨y0, y1, y2, _, _, _⟩ := (hb2.le l1).op
  clear hmay
  go_wp2_with fail
  refine (refOperMay _ _ _ _).mono ?_
  rw [hop]
  rintro e w2 ⟨rfl, l2⟩
  replace l1 := l1.trans l2
  clear l2 y0 y1 y2
  obtain ⟨y0, y1, y2, y3, _, _, _, _⟩ := (hb1.le l1).st
  go_wp2_with fail
  refine (refCopyState (stV vs) s _ (hx0.le (hl.trans l1)) hf).mono ?_
  rintro e w3 ⟨_, rfl, ⟨us, rfl, hown⟩, l3⟩
  replace hown := fun i hi => (hown i hi).base (base' := w.heap.size) (hl.trans l1).size
  replace l1 := l1.trans l3
  clear l3 y0 y1 y2 y3
  have n0 : w.heap.size + 1 + 1 < w3.heap.size := (hb3.le l1).lt
  have n1 : ¬ w.heap.size + 1 + 1 = w3.heap.size := by omega
  have n2 : ¬ w.heap.size + 1 + 1 = w.heap.size := by omega
  have n3 : ¬ w.heap.size + 1 + 1 = w.heap.size + 1 := by omega
  have hb4 := Box.new w3 (cells4 us) 25
  replace l1 := l1.trans (Le.alloc w3 (.cells (cells4 us) 25))
  replace hown := fun i hi => (hown i hi).le (Le.alloc w3 (.cells (cells4 us) 25))
  go_wp2_with fail
  generalize hW : w3.alloc (.cells (cells4 us) 25) = W at hb4 l1 hown ⊢
  clear hW
  go_loop [12, 13, 14] (fun t m i => ∃ j : Nat, j ≤ 4 ∧ i = .int .i64 j ∧ t = .int .i64 (sumTo s j) ∧ m = .int .i64 (manyTo s j)) (fun _ _ i => 4 - (intOf i).toNat)
  case atStart => exact ⟨0, by omega, rfl, rfl, rfl⟩
  case round =>
    obtain ⟨j, hj, rfl, rfl, rfl⟩ := hrel
    by_cases hlt : j < 4
    · have c1 : W.cell? ⟨w.heap.size, j, none⟩ = some (slV (vs j)) := ((hb1.le l1).cell j).trans (cells4_at vs hlt)
      obtain ⟨b0, b1⟩ := sumTo_small hsm j hj
      obtain ⟨b2, b3⟩ := manyTo_bounds (m := 4) (fun i hi => (hsm i hi).1) j hj
      obtain ⟨ad, cap, hv, hc, _, hcell⟩ := (hr j hlt).le (hl.trans l1)
      have hs : sumTo s (j + 1) = sumTo s j + sumOf (s.at j) (s.at j).length := by rw [sumOf_all]; rfl
      have hn : manyTo s (j + 1) = manyTo s j + (s.at j).length := rfl
      have hsj := hsm j hlt
      have hlj := hsj.1
      rw [hv] at c1
      obtain ⟨T, hT⟩ : ∃ T, T = sumTo s j := ⟨_, rfl⟩
      obtain ⟨M, hM⟩ : ∃ M, M = manyTo s j := ⟨_, rfl⟩
      obtain ⟨L, hL⟩ : ∃ L, L = (s.at j).length := ⟨_, rfl⟩
      rw [← hT] at b0 b1 hs ⊢
      rw [← hM] at b2 b3 hn ⊢
      rw [← hL] at c1 hc hcell hs hn hlj
      have HS : Hid (sumTo s (j + 1) = T + sumOf (s.at j) L) := hs
      have HN : Hid (manyTo s (j + 1) = M + L) := hn
      have HL : Hid (L = (s.at j).length) := hL
      clear hs hn hv hm hr hown hb1 hb2 hb3 hb4 hop n0 n1 n2 n3 hT hM hL hsm
      go_wp2
      go_loop [12, 15] (fun t i => ∃ m : Nat, m ≤ L ∧ i = .int .i64 m ∧ t = .int .i64 (T + sumOf (s.at j) m)) (fun _ i => L - (intOf i).toNat)
      case atStart => exact ⟨0, by omega, rfl, by simp [sumOf]⟩
      case round =>
        obtain ⟨m, hmL, rfl, rfl⟩ := hrel
        obtain ⟨d0, d1⟩ := hsj.sum m (by rw [← HL.out]; exact hmL)
        by_cases hlt2 : m < L
        · obtain ⟨b, off, rfl, hcl⟩ := hcell (by omega)
          have c2 := hcl m hlt2
          have hst := sumOf_step (xs := s.at j) (m := m) (by rw [← HL.out]; exact hlt2)
          obtain ⟨d2, d3⟩ := hsj.at (m := m) (by rw [← HL.out]; exact hlt2)
          obtain ⟨x, hx⟩ : ∃ x, x = (s.at j).getD m 0 := ⟨_, rfl⟩
          rw [← hx] at c2 hst d2 d3
          obtain ⟨t, ht⟩ : ∃ t, t = sumOf (s.at j) m := ⟨_, rfl⟩
          rw [← ht] at hst d0 d1 ⊢
          have HT : Hid (sumOf (s.at j) (m + 1) = t + x) := hst
          have m0 : (0 : Int) ≤ (m : Int) := by omega
          have m1 : (m : Int) < (L : Int) := by omega
          clear hst ht hx hcl hcell hsj
          go_wp2
          go_round
          case rel => exact ⟨m + 1, by omega, by go_num, by rw [HT.out, Int.add_assoc]⟩
          case measure => simp [intOf]; omega
        · obtain rfl : m = L := by omega
          clear hcell hsj
          go_wp2
          go_round
          case rel => exact ⟨j + 1, by omega, by go_num, by rw [HS.out], by rw [HN.out]⟩
          case measure => simp [intOf]; omega
    · obtain rfl : j = 4 := by omega
      clear hlt hj
      obtain ⟨y0, y1, y2, y3, _, _, _, _⟩ := hb4.st
      obtain ⟨z0, z1, z2, z3, f0, f1, f2, f3⟩ := (hb3.le l1).st
      obtain ⟨o0, o1, o2, _, _, _⟩ := (hb2.le l1).op
      go_wp2_with fail
      refine bodyPost_ret (v := .tuple #[stV us, .int .i64 (manyTo s 4), .int .i64 0]) (by simp [results, Try.results20, go_sem, z0, z1, z2, z3]) rfl ⟨_, rfl, ⟨us, rfl, fun i hi => ?_⟩, ?_⟩
      · exact (hown i hi).set4 (hb3.le l1) (by decide) _ _ _ _
      · exact (hl.trans l1).set4 (by omega) _ _ _ _

set_option maxRecDepth 4000 in
set_option maxHeartbeats 4000000 in
theorem refQueueLook (v : Value) (s : St) (k : Nat) (er : Int) (w : World) (hx : HasS w v s) (hf : Fit s) (hm : s.all rowMay3 = true) (hk : k < 4) :
    Calls Try.prog 20 #[.int .i64 2, v, opV 2 k 0, .int .i64 er] w fun e w' => ∃ v', e = .returned (.tuple #[v', .int .i64 ((s.at k).length : Int), .int .i64 0]) ∧ OwnS w' w.heap.size v' (s) ∧ Le w w' := by
  have hx0 := hx
  obtain ⟨vs, rfl, hr⟩ := hx
  have hl := ((Le.alloc w (.cells (cells4 vs) 25)).trans (Le.alloc _ (.cells #[.int .i64 2, .int .i64 k, .int .i64 0] 43))).trans (Le.alloc _ (.cells (cells4 fun _ => slZ) 25))
  have hb1 := ((Box.new w (cells4 vs) 25).le (Le.alloc _ (.cells #[.int .i64 2, .int .i64 k, .int .i64 0] 43))).le (Le.alloc _ (.cells (cells4 fun _ => slZ) 25))
  have hb2 := (Box.new (w.alloc (.cells (cells4 vs) 25)) #[.int .i64 2, .int .i64 k, .int .i64 0] 43).le (Le.alloc _ (.cells (cells4 fun _ => slZ) 25))
  have hb3 := Box.new ((w.alloc (.cells (cells4 vs) 25)).alloc (.cells #[.int .i64 2, .int .i64 k, .int .i64 0] 43)) (cells4 fun _ => slZ) 25
  simp only [World.size_alloc] at hb1 hb2 hb3
  have hmay := refStateMay2 (stV vs) s _ (hx0.le hl) hf
  rw [hm] at hmay
  have hop : opMay 2 k 0 = true := by simp [opMay]; omega
  have hsm := small3 hm
  go_enter Try.func20, Try.ntmps20
  go_wp2_with fail
  refine hmay.mono ?_
  rintro e w1 ⟨rfl, l1⟩
  obtain ⟨y0, y1, y2, _, _, _⟩ := (hb2.le l1).op
  clear hmay
  go_wp2_with fail
  refine (refOperMay _ _ _ _).mono ?_
  rw [hop]
  rintro e w2 ⟨rfl, l2⟩
  replace l1 := l1.trans l2
  clear l2 y0 y1 y2
  obtain ⟨y0, y1, y2, y3, _, _, _, _⟩ := (hb1.le l1).st
  go_wp2_with fail
  refine (refCopyState (stV vs) s _ (hx0.le (hl.trans l1)) hf).mono ?_
  rintro e w3 ⟨_, rfl, ⟨us, rfl, hown⟩, l3⟩
  replace hown := fun i hi => (hown i hi).base (base' := w.heap.size) (hl.trans l1).size
  replace l1 := l1.trans l3
  clear l3 y0 y1 y2 y3
  have n0 : w.heap.size + 1 + 1 < w3.heap.size := (hb3.le l1).lt
  have n1 : ¬ w.heap.size + 1 + 1 = w3.heap.size := by omega
  have n2 : ¬ w.heap.size + 1 + 1 = w.heap.size := by omega
  have n3 : ¬ w.heap.size + 1 + 1 = w.heap.size + 1 := by omega
  have hb4 := Box.new w3 (cells4 us) 25
  replace l1 := l1.trans (Le.alloc w3 (.cells (cells4 us) 25))
  replace hown := fun i hi => (hown i hi).le (Le.alloc w3 (.cells (cells4 us) 25))
  go_wp2_with fail
  generalize hW : w3.alloc (.cells (cells4 us) 25) = W at hb4 l1 hown ⊢
  clear hW
  go_loop [12, 13, 14] (fun t m i => ∃ j : Nat, j ≤ 4 ∧ i = .int .i64 j ∧ t = .int .i64 (sumTo s j) ∧ m = .int .i64 (manyTo s j)) (fun _ _ i => 4 - (intOf i).toNat)
  case atStart => exact ⟨0, by omega, rfl, rfl, rfl⟩
  case round =>
    obtain ⟨j, hj, rfl, rfl, rfl⟩ := hrel
    by_cases hlt : j < 4
    · have c1 : W.cell? ⟨w.heap.size, j, none⟩ = some (slV (vs j)) := ((hb1.le l1).cell j).trans (cells4_at vs hlt)
      obtain ⟨b0, b1⟩ := sumTo_small hsm j hj
      obtain ⟨b2, b3⟩ := manyTo_bounds (m := 4) (fun i hi => (hsm i hi).1) j hj
      obtain ⟨ad, cap, hv, hc, _, hcell⟩ := (hr j hlt).le (hl.trans l1)
      have hs : sumTo s (j + 1) = sumTo s j + sumOf (s.at j) (s.at j).length := by rw [sumOf_all]; rfl
      have hn : manyTo s (j + 1) = manyTo s j + (s.at j).length := rfl
      have hsj := hsm j hlt
      have hlj := hsj.1
      rw [hv] at c1
      obtain ⟨T, hT⟩ : ∃ T, T = sumTo s j := ⟨_, rfl⟩
      obtain ⟨M, hM⟩ : ∃ M, M = manyTo s j := ⟨_, rfl⟩
      obtain ⟨L, hL⟩ : ∃ L, L = (s.at j).length := ⟨_, rfl⟩
      rw [← hT] at b0 b1 hs ⊢
      rw [← hM] at b2 b3 hn ⊢
      rw [← hL] at c1 hc hcell hs hn hlj
      have HS : Hid (sumTo s (j + 1) = T + sumOf (s.at j) L) := hs
      have HN : Hid (manyTo s (j + 1) = M + L) := hn
      have HL : Hid (L = (s.at j).length) := hL
      clear hs hn hv hm hr hown hb1 hb2 hb3 hb4 hop n0 n1 n2 n3 hT hM hL hsm
      go_wp2
      go_loop [12, 15] (fun t i => ∃ m : Nat, m ≤ L ∧ i = .int .i64 m ∧ t = .int .i64 (T + sumOf (s.at j) m)) (fun _ i => L - (intOf i).toNat)
      case atStart => exact ⟨0, by omega, rfl, by simp [sumOf]⟩
      case round =>
        obtain ⟨m, hmL, rfl, rfl⟩ := hrel
        obtain ⟨d0, d1⟩ := hsj.sum m (by rw [← HL.out]; exact hmL)
        by_cases hlt2 : m < L
        · obtain ⟨b, off, rfl, hcl⟩ := hcell (by omega)
          have c2 := hcl m hlt2
          have hst := sumOf_step (xs := s.at j) (m := m) (by rw [← HL.out]; exact hlt2)
          obtain ⟨d2, d3⟩ := hsj.at (m := m) (by rw [← HL.out]; exact hlt2)
          obtain ⟨x, hx⟩ : ∃ x, x = (s.at j).getD m 0 := ⟨_, rfl⟩
          rw [← hx] at c2 hst d2 d3
          obtain ⟨t, ht⟩ : ∃ t, t = sumOf (s.at j) m := ⟨_, rfl⟩
          rw [← ht] at hst d0 d1 ⊢
          have HT : Hid (sumOf (s.at j) (m + 1) = t + x) := hst
          have m0 : (0 : Int) ≤ (m : Int) := by omega
          have m1 : (m : Int) < (L : Int) := by omega
          clear hst ht hx hcl hcell hsj
          go_wp2
          go_round
          case rel => exact ⟨m + 1, by omega, by go_num, by rw [HT.out, Int.add_assoc]⟩
          case measure => simp [intOf]; omega
        · obtain rfl : m = L := by omega
          clear hcell hsj
          go_wp2
          go_round
          case rel => exact ⟨j + 1, by omega, by go_num, by rw [HS.out], by rw [HN.out]⟩
          case measure => simp [intOf]; omega
    · obtain rfl : j = 4 := by omega
      clear hlt hj
      obtain ⟨y0, y1, y2, y3, _, _, _, _⟩ := hb4.st
      obtain ⟨z0, z1, z2, z3, f0, f1, f2, f3⟩ := (hb3.le l1).st
      obtain ⟨o0, o1, o2, _, _, _⟩ := (hb2.le l1).op
      have k0 : (0 : Int) ≤ (k : Int) := by omega
      have k1 : (k : Int) < 4 := by omega
      have yk : W.cell? ⟨w3.heap.size, k, none⟩ = some (slV (us k)) := (hb4.cell k).trans (cells4_at us hk)
      have hle : (us k).2.1 = (s.at k).length := by
        obtain ⟨ad, cap, e, _⟩ := (hown k hk).has
        simp only [Value.slice.injEq] at e
        exact e.2.1
      go_wp2_with fail
      refine bodyPost_ret (v := .tuple #[stV us, .int .i64 ((s.at k).length : Int), .int .i64 0]) (by simp [results, Try.results20, go_sem, z0, z1, z2, z3]) rfl ⟨_, rfl, ⟨us, rfl, fun i hi => ?_⟩, ?_⟩
      · exact (hown i hi).set4 (hb3.le l1) (by decide) _ _ _ _
      · exact (hl.trans l1).set4 (by omega) _ _ _ _

set_option maxRecDepth 4000 in
set_option maxHeartbeats 4000000 in
theorem refQueueFirst (v : Value) (s : St) (k : Nat) (a : Int) (er : Int) (w : World) (hx : HasS w v s) (hf : Fit s) (hm : s.all rowMay3 = true) (hk : k < 4) (ha : 0 ≤ a ∧ a ≤ 255) :
    Calls Try.prog 20 #[.int .i64 2, v, opV 0 k a, .int .i64 er] w fun e w' => ∃ v', e = .returned (.tuple #[v', .int .i64 (enqS (s.at k) a).2, .int .i64 0]) ∧ OwnS w' w.heap.size v' (s.put k (enqS (s.at k) a).1) ∧ Le w w' := by
  have hx0 := hx
  obtain ⟨vs, rfl, hr⟩ := hx
  have hl := ((Le.alloc w (.cells (cells4 vs) 25)).trans (Le.alloc _ (.cells #[.int .i64 0, .int .i64 k, .int .i64 a] 43))).trans (Le.alloc _ (.cells (cells4 fun _ => slZ) 25))
  have hb1 := ((Box.new w (cells4 vs) 25).le (Le.alloc _ (.cells #[.int .i64 0, .int .i64 k, .int .i64 a] 43))).le (Le.alloc _ (.cells (cells4 fun _ => slZ) 25))
  have hb2 := (Box.new (w.alloc (.cells (cells4 vs) 25)) #[.int .i64 0, .int .i64 k, .int .i64 a] 43).le (Le.alloc _ (.cells (cells4 fun _ => slZ) 25))
  have hb3 := Box.new ((w.alloc (.cells (cells4 vs) 25)).alloc (.cells #[.int .i64 0, .int .i64 k, .int .i64 a] 43)) (cells4 fun _ => slZ) 25
  simp only [World.size_alloc] at hb1 hb2 hb3
  have hmay := refStateMay2 (stV vs) s _ (hx0.le hl) hf
  rw [hm] at hmay
  have hop : opMay 0 k a = true := by simp [opMay]; omega
  have hsm := small3 hm
  go_enter Try.func20, Try.ntmps20
  go_wp2_with fail
  refine hmay.mono ?_
  rintro e w1 ⟨rfl, l1⟩
  obtain ⟨y0, y1, y2, _, _, _⟩ := (hb2.le l1).op
  clear hmay
  go_wp2_with fail
  refine (refOperMay _ _ _ _).mono ?_
  rw [hop]
  rintro e w2 ⟨rfl, l2⟩
  replace l1 := l1.trans l2
  clear l2 y0 y1 y2
  obtain ⟨y0, y1, y2, y3, _, _, _, _⟩ := (hb1.le l1).st
  go_wp2_with fail
  refine (refCopyState (stV vs) s _ (hx0.le (hl.trans l1)) hf).mono ?_
  rintro e w3 ⟨_, rfl, ⟨us, rfl, hown⟩, l3⟩
  replace hown := fun i hi => (hown i hi).base (base' := w.heap.size) (hl.trans l1).size
  replace l1 := l1.trans l3
  clear l3 y0 y1 y2 y3
  have n0 : w.heap.size + 1 + 1 < w3.heap.size := (hb3.le l1).lt
  have n1 : ¬ w.heap.size + 1 + 1 = w3.heap.size := by omega
  have n2 : ¬ w.heap.size + 1 + 1 = w.heap.size := by omega
  have n3 : ¬ w.heap.size + 1 + 1 = w.heap.size + 1 := by omega
  have hb4 := Box.new w3 (cells4 us) 25
  replace l1 := l1.trans (Le.alloc w3 (.cells (cells4 us) 25))
  replace hown := fun i hi => (hown i hi).le (Le.alloc w3 (.cells (cells4 us) 25))
  go_wp2_with fail
  generalize hW : w3.alloc (.cells (cells4 us) 25) = W at hb4 l1 hown ⊢
  clear hW
  go_loop [12, 13, 14] (fun t m i => ∃ j : Nat, j ≤ 4 ∧ i = .int .i64 j ∧ t = .int .i64 (sumTo s j) ∧ m = .int .i64 (manyTo s j)) (fun _ _ i => 4 - (intOf i).toNat)
  case atStart => exact ⟨0, by omega, rfl, rfl, rfl⟩
  case round =>
    obtain ⟨j, hj, rfl, rfl, rfl⟩ := hrel
    by_cases hlt : j < 4
    · have c1 : W.cell? ⟨w.heap.size, j, none⟩ = some (slV (vs j)) := ((hb1.le l1).cell j).trans (cells4_at vs hlt)
      obtain ⟨b0, b1⟩ := sumTo_small hsm j hj
      obtain ⟨b2, b3⟩ := manyTo_bounds (m := 4) (fun i hi => (hsm i hi).1) j hj
      obtain ⟨ad, cap, hv, hc, _, hcell⟩ := (hr j hlt).le (hl.trans l1)
      have hs : sumTo s (j + 1) = sumTo s j + sumOf (s.at j) (s.at j).length := by rw [sumOf_all]; rfl
      have hn : manyTo s (j + 1) = manyTo s j + (s.at j).length := rfl
      have hsj := hsm j hlt
      have hlj := hsj.1
      rw [hv] at c1
      obtain ⟨T, hT⟩ : ∃ T, T = sumTo s j := ⟨_, rfl⟩
      obtain ⟨M, hM⟩ : ∃ M, M = manyTo s j := ⟨_, rfl⟩
      obtain ⟨L, hL⟩ : ∃ L, L = (s.at j).length := ⟨_, rfl⟩
      rw [← hT] at b0 b1 hs ⊢
      rw [← hM] at b2 b3 hn ⊢
      rw [← hL] at c1 hc hcell hs hn hlj
      have HS : Hid (sumTo s (j + 1) = T + sumOf (s.at j) L) := hs
      have HN : Hid (manyTo s (j + 1) = M + L) := hn
      have HL : Hid (L = (s.at j).length) := hL
      clear hs hn hv hm hr hown hb1 hb2 hb3 hb4 hop n0 n1 n2 n3 hT hM hL hsm
      go_wp2
      go_loop [12, 15] (fun t i => ∃ m : Nat, m ≤ L ∧ i = .int .i64 m ∧ t = .int .i64 (T + sumOf (s.at j) m)) (fun _ i => L - (intOf i).toNat)
      case atStart => exact ⟨0, by omega, rfl, by simp [sumOf]⟩
      case round =>
        obtain ⟨m, hmL, rfl, rfl⟩ := hrel
        obtain ⟨d0, d1⟩ := hsj.sum m (by rw [← HL.out]; exact hmL)
        by_cases hlt2 : m < L
        · obtain ⟨b, off, rfl, hcl⟩ := hcell (by omega)
          have c2 := hcl m hlt2
          have hst := sumOf_step (xs := s.at j) (m := m) (by rw [← HL.out]; exact hlt2)
          obtain ⟨d2, d3⟩ := hsj.at (m := m) (by rw [← HL.out]; exact hlt2)
          obtain ⟨x, hx⟩ : ∃ x, x = (s.at j).getD m 0 := ⟨_, rfl⟩
          rw [← hx] at c2 hst d2 d3
          obtain ⟨t, ht⟩ : ∃ t, t = sumOf (s.at j) m := ⟨_, rfl⟩
          rw [← ht] at hst d0 d1 ⊢
          have HT : Hid (sumOf (s.at j) (m + 1) = t + x) := hst
          have m0 : (0 : Int) ≤ (m : Int) := by omega
          have m1 : (m : Int) < (L : Int) := by omega
          clear hst ht hx hcl hcell hsj
          go_wp2
          go_round
          case rel => exact ⟨m + 1, by omega, by go_num, by rw [HT.out, Int.add_assoc]⟩
          case measure => simp [intOf]; omega
        · obtain rfl : m = L := by omega
          clear hcell hsj
          go_wp2
          go_round
          case rel => exact ⟨j + 1, by omega, by go_num, by rw [HS.out], by rw [HN.out]⟩
          case measure => simp [intOf]; omega
    · obtain rfl : j = 4 := by omega
      clear hlt hj
      have k0 : (0 : Int) ≤ (k : Int) := by omega
      have k1 : (k : Int) < 4 := by omega
      have yk : W.cell? ⟨w3.heap.size, k, none⟩ = some (slV (us k)) := (hb4.cell k).trans (cells4_at us hk)
      obtain ⟨o0, o1, o2, _, _, _⟩ := (hb2.le l1).op
      have hrow := refQueueRow0 (slV (us k)) (s.at k) k a W w.heap.size (hown k hk) (hl.trans l1).size (St.all_at hm hk)
      go_wp2_with fail
      refine hrow.mono ?_
      rintro e w4 ⟨q, rfl, hnew, l4⟩
      clear o0 o1 o2 yk hrow
      replace l1 := l1.trans l4
      replace hb4 := hb4.le l4
      replace hown := fun i hi => (hown i hi).le l4
      have yk : w4.cell? ⟨w3.heap.size, k, none⟩ = some (slV (us k)) := (hb4.cell k).trans (cells4_at us hk)
      have yf := hb4.frozen k
      obtain ⟨o0, o1, o2, _, _, _⟩ := (hb2.le l1).op
      go_upto_region 30 with fail
      replace hown := fun i hi => (hown i hi).setBox (i := k) (u := slV q) hb4 (by decide)
      replace hnew := hnew.setBox (i := k) (u := slV q) hb4 (by decide)
      replace hb4 := hb4.set k (slV q)
      rw [cells4_upd us hk] at hb4
      replace l1 : Le _ (w4.setCell ⟨w3.heap.size, k, none⟩ (slV q)) := Below.setCell l1 (by simp only [World.size_alloc]; show w.heap.size + 1 + 1 + 1 ≤ w3.heap.size; omega) _
      clear o0 o1 o2 yk yf
      generalize hW2 : w4.setCell ⟨w3.heap.size, k, none⟩ (slV q) = W2 at hb4 l1 hown hnew ⊢
      replace hown : ∀ i, i < 4 → Own W2 w.heap.size (slV (upd us k q i)) ((s.put k (enqS (s.at k) a).1).at i) := by
        intro i hi
        rw [St.at_put hk hi]
        by_cases e : i = k
        · rw [if_pos e, show upd us k q i = q by simp [upd, e]]; exact hnew
        · rw [if_neg e, show upd us k q i = us i by simp [upd, e]]; exact hown i hi
      generalize upd us k q = us at hb4 hown
      clear hW2 hnew
      obtain ⟨y0, y1, y2, y3, _, _, _, _⟩ := hb4.st
      obtain ⟨z0, z1, z2, z3, f0, f1, f2, f3⟩ := (hb3.le l1).st
      go_wp2_with fail
      refine bodyPost_ret (v := .tuple #[stV us, .int .i64 (enqS (s.at k) a).2, .int .i64 0]) (by simp [results, Try.results20, go_sem, z0, z1, z2, z3]) rfl ⟨_, rfl, ⟨us, rfl, fun i hi => ?_⟩, ?_⟩
      · exact (hown i hi).set4 (hb3.le l1) (by decide) _ _ _ _
      · exact (hl.trans l1).set4 (by omega) _ _ _ _

set_option maxRecDepth 4000 in
set_option maxHeartbeats 4000000 in
theorem refQueueSecond (v : Value) (s : St) (k : Nat) (a : Int) (er : Int) (w : World) (hx : HasS w v s) (hf : Fit s) (hm : s.all rowMay3 = true) (hk : k < 4) (ha : 0 ≤ a ∧ a ≤ 255) :
    Calls Try.prog 20 #[.int .i64 2, v, opV 1 k a, .int .i64 er] w fun e w' => ∃ v', e = .returned (.tuple #[v', .int .i64 (deqS (s.at k)).2, .int .i64 0]) ∧ OwnS w' w.heap.size v' (s.put k (deqS (s.at k)).1) ∧ Le w w' := by
  have hx0 := hx
  obtain ⟨vs, rfl, hr⟩ := hx
  have hl := ((Le.alloc w (.cells (cells4 vs) 25)).trans (Le.alloc _ (.cells #[.int .i64 1, .int .i64 k, .int .i64 a] 43))).trans (Le.alloc _ (.cells (cells4 fun _ => slZ) 25))
  have hb1 := ((Box.new w (cells4 vs) 25).le (Le.alloc _ (.cells #[.int .i64 1, .int .i64 k, .int .i64 a] 43))).le (Le.alloc _ (.cells (cells4 fun _ => slZ) 25))
  have hb2 := (Box.new (w.alloc (.cells (cells4 vs) 25)) #[.int .i64 1, .int .i64 k, .int .i64 a] 43).le (Le.alloc _ (.cells (cells4 fun _ => slZ) 25))
  have hb3 := Box.new ((w.alloc (.cells (cells4 vs) 25)).alloc (.cells #[.int .i64 1, .int .i64 k, .int .i64 a] 43)) (cells4 fun _ => slZ) 25
  simp only [World.size_alloc] at hb1 hb2 hb3
  have hmay := refStateMay2 (stV vs) s _ (hx0.le hl) hf
  rw [hm] at hmay
  have hop : opMay 1 k a = true := by simp [opMay]; omega
  have hsm := small3 hm
  go_enter Try.func20, Try.ntmps20
  go_wp2_with fail
  refine hmay.mono ?_
  rintro e w1 ⟨rfl, l1⟩
  obtain ⟨y0, y1, y2, _, _, _⟩ := (hb2.le l1).op
  clear hmay
  go_wp2_with fail
  refine (refOperMay _ _ _ _).mono ?_
  rw [hop]
  rintro e w2 ⟨rfl, l2⟩
  replace l1 := l1.trans l2
  clear l2 y0 y1 y2
  obtain ⟨y0, y1, y2, y3, _, _, _, _⟩ := (hb1.le l1).st
  go_wp2_with fail
  refine (refCopyState (stV vs) s _ (hx0.le (hl.trans l1)) hf).mono ?_
  rintro e w3 ⟨_, rfl, ⟨us, rfl, hown⟩, l3⟩
  replace hown := fun i hi => (hown i hi).base (base' := w.heap.size) (hl.trans l1).size
  replace l1 := l1.trans l3
  clear l3 y0 y1 y2 y3
  have n0 : w.heap.size + 1 + 1 < w3.heap.size := (hb3.le l1).lt
  have n1 : ¬ w.heap.size + 1 + 1 = w3.heap.size := by omega
  have n2 : ¬ w.heap.size + 1 + 1 = w.heap.size := by omega
  have n3 : ¬ w.heap.size + 1 + 1 = w.heap.size + 1 := by omega
  have hb4 := Box.new w3 (cells4 us) 25
  replace l1 := l1.trans (Le.alloc w3 (.cells (cells4 us) 25))
  replace hown := fun i hi => (hown i hi).le (Le.alloc w3 (.cells (cells4 us) 25))
  go_wp2_with fail
  generalize hW : w3.alloc (.cells (cells4 us) 25) = W at hb4 l1 hown ⊢
  clear hW
  go_loop [12, 13, 14] (fun t m i => ∃ j : Nat, j ≤ 4 ∧ i = .int .i64 j ∧ t = .int .i64 (sumTo s j) ∧ m = .int .i64 (manyTo s j)) (fun _ _ i => 4 - (intOf i).toNat)
  case atStart => exact ⟨0, by omega, rfl, rfl, rfl⟩
  case round =>
    obtain ⟨j, hj, rfl, rfl, rfl⟩ := hrel
    by_cases hlt : j < 4
    · have c1 : W.cell? ⟨w.heap.size, j, none⟩ = some (slV (vs j)) := ((hb1.le l1).cell j).trans (cells4_at vs hlt)
      obtain ⟨b0, b1⟩ := sumTo_small hsm j hj
      obtain ⟨b2, b3⟩ := manyTo_bounds (m := 4) (fun i hi => (hsm i hi).1) j hj
      obtain ⟨ad, cap, hv, hc, _, hcell⟩ := (hr j hlt).le (hl.trans l1)
      have hs : sumTo s (j + 1) = sumTo s j + sumOf (s.at j) (s.at j).length := by rw [sumOf_all]; rfl
      have hn : manyTo s (j + 1) = manyTo s j + (s.at j).length := rfl
      have hsj := hsm j hlt
      have hlj := hsj.1
      rw [hv] at c1
      obtain ⟨T, hT⟩ : ∃ T, T = sumTo s j := ⟨_, rfl⟩
      obtain ⟨M, hM⟩ : ∃ M, M = manyTo s j := ⟨_, rfl⟩
      obtain ⟨L, hL⟩ : ∃ L, L = (s.at j).length := ⟨_, rfl⟩
      rw [← hT] at b0 b1 hs ⊢
      rw [← hM] at b2 b3 hn ⊢
      rw [← hL] at c1 hc hcell hs hn hlj
      have HS : Hid (sumTo s (j + 1) = T + sumOf (s.at j) L) := hs
      have HN : Hid (manyTo s (j + 1) = M + L) := hn
      have HL : Hid (L = (s.at j).length) := hL
      clear hs hn hv hm hr hown hb1 hb2 hb3 hb4 hop n0 n1 n2 n3 hT hM hL hsm
      go_wp2
      go_loop [12, 15] (fun t i => ∃ m : Nat, m ≤ L ∧ i = .int .i64 m ∧ t = .int .i64 (T + sumOf (s.at j) m)) (fun _ i => L - (intOf i).toNat)
      case atStart => exact ⟨0, by omega, rfl, by simp [sumOf]⟩
      case round =>
        obtain ⟨m, hmL, rfl, rfl⟩ := hrel
        obtain ⟨d0, d1⟩ := hsj.sum m (by rw [← HL.out]; exact hmL)
        by_cases hlt2 : m < L
        · obtain ⟨b, off, rfl, hcl⟩ := hcell (by omega)
          have c2 := hcl m hlt2
          have hst := sumOf_step (xs := s.at j) (m := m) (by rw [← HL.out]; exact hlt2)
          obtain ⟨d2, d3⟩ := hsj.at (m := m) (by rw [← HL.out]; exact hlt2)
          obtain ⟨x, hx⟩ : ∃ x, x = (s.at j).getD m 0 := ⟨_, rfl⟩
          rw [← hx] at c2 hst d2 d3
          obtain ⟨t, ht⟩ : ∃ t, t = sumOf (s.at j) m := ⟨_, rfl⟩
          rw [← ht] at hst d0 d1 ⊢
          have HT : Hid (sumOf (s.at j) (m + 1) = t + x) := hst
          have m0 : (0 : Int) ≤ (m : Int) := by omega
          have m1 : (m : Int) < (L : Int) := by omega
          clear hst ht hx hcl hcell hsj
          go_wp2
          go_round
          case rel => exact ⟨m + 1, by omega, by go_num, by rw [HT.out, Int.add_assoc]⟩
          case measure => simp [intOf]; omega
        · obtain rfl : m = L := by omega
          clear hcell hsj
          go_wp2
          go_round
          case rel => exact ⟨j + 1, by omega, by go_num, by rw [HS.out], by rw [HN.out]⟩
          case measure => simp [intOf]; omega
    · obtain rfl : j = 4 := by omega
      clear hlt hj
      have k0 : (0 : Int) ≤ (k : Int) := by omega
      have k1 : (k : Int) < 4 := by omega
      have yk : W.cell? ⟨w3.heap.size, k, none⟩ = some (slV (us k)) := (hb4.cell k).trans (cells4_at us hk)
      obtain ⟨o0, o1, o2, _, _, _⟩ := (hb2.le l1).op
      have hrow := refQueueRow1 (slV (us k)) (s.at k) k a W w.heap.size (hown k hk) (hl.trans l1).size (St.all_at hm hk)
      go_wp2_with fail
      refine hrow.mono ?_
      rintro e w4 ⟨q, rfl, hnew, l4⟩
      clear o0 o1 o2 yk hrow
      replace l1 := l1.trans l4
      replace hb4 := hb4.le l4
      replace hown := fun i hi => (hown i hi).le l4
      have yk : w4.cell? ⟨w3.heap.size, k, none⟩ = some (slV (us k)) := (hb4.cell k).trans (cells4_at us hk)
      have yf := hb4.frozen k
      obtain ⟨o0, o1, o2, _, _, _⟩ := (hb2.le l1).op
      go_upto_region 30 with fail
      replace hown := fun i hi => (hown i hi).setBox (i := k) (u := slV q) hb4 (by decide)
      replace hnew := hnew.setBox (i := k) (u := slV q) hb4 (by decide)
      replace hb4 := hb4.set k (slV q)
      rw [cells4_upd us hk] at hb4
      replace l1 : Le _ (w4.setCell ⟨w3.heap.size, k, none⟩ (slV q)) := Below.setCell l1 (by simp only [World.size_alloc]; show w.heap.size + 1 + 1 + 1 ≤ w3.heap.size; omega) _
      clear o0 o1 o2 yk yf
      generalize hW2 : w4.setCell ⟨w3.heap.size, k, none⟩ (slV q) = W2 at hb4 l1 hown hnew ⊢
      replace hown : ∀ i, i < 4 → Own W2 w.heap.size (slV (upd us k q i)) ((s.put k (deqS (s.at k)).1).at i) := by
        intro i hi
        rw [St.at_put hk hi]
        by_cases e : i = k
        · rw [if_pos e, show upd us k q i = q by simp [upd, e]]; exact hnew
        · rw [if_neg e, show upd us k q i = us i by simp [upd, e]]; exact hown i hi
      generalize upd us k q = us at hb4 hown
      clear hW2 hnew
      obtain ⟨y0, y1, y2, y3, _, _, _, _⟩ := hb4.st
      obtain ⟨z0, z1, z2, z3, f0, f1, f2, f3⟩ := (hb3.le l1).st
      go_wp2_with fail
      refine bodyPost_ret (v := .tuple #[stV us, .int .i64 (deqS (s.at k)).2, .int .i64 0]) (by simp [results, Try.results20, go_sem, z0, z1, z2, z3]) rfl ⟨_, rfl, ⟨us, rfl, fun i hi => ?_⟩, ?_⟩
      · exact (hown i hi).set4 (hb3.le l1) (by decide) _ _ _ _
      · exact (hl.trans l1).set4 (by omega) _ _ _ _

theorem refQueue (v : Value) (s : St) (c r a er : Int) (w : World) (hx : HasS w v s) (hf : Fit s) :
    Calls Try.prog 20 #[.int .i64 2, v, opV c r a, .int .i64 er] w fun e w' => ∃ v', e = .returned (.tuple #[v', .int .i64 (queS s c r a er).2.1, .int .i64 (queS s c r a er).2.2]) ∧ OwnS w' w.heap.size v' (queS s c r a er).1 ∧ Le w w' := by
  cases h : s.all rowMay3 && opMay c r a
  · rw [queS_no h]
    exact (refQueueNo v s c r a er w hx hf h).mono fun e w' ⟨he, hl⟩ => ⟨stZ, he, OwnS.zero _ _, hl⟩
  · obtain ⟨hm, ho⟩ := Bool.and_eq_true_iff.mp h
    rcases opMay_cases ho with ⟨k, hk, rfl, rfl, ha⟩ | ⟨k, hk, rfl, rfl, ha⟩ | ⟨k, hk, rfl, rfl, rfl⟩ | ⟨rfl, rfl, rfl⟩
    · rw [queS_first hm hk ha]; exact refQueueFirst v s k a er w hx hf hm hk ha
    · rw [queS_second hm hk ha]; exact refQueueSecond v s k a er w hx hf hm hk ha
    · rw [queS_look hm hk]; exact refQueueLook v s k er w hx hf hm hk
    · rw [queS_scan hm]; exact refQueueScan v s er w hx hf hm

end Go.Proofs.Ytnpejgendmgfaaa

/-
  THE WALKS over the document's own StateMay and Apply, at every object: what they answer, for every state and operation. Condition: the state's rows can be copied.
-/
namespace Go.Proofs.Ytnpejgendmgfaaa
open Go.RowKit

set_option maxHeartbeats 400000 in
theorem refStateMayOut (o : Int) (ho : o < 0 ∨ 2 < o) (v : Value) (s : St) (w : World) (hx : HasS w v s) :
    Calls Try.prog 21 #[.int .i64 o, v] w fun e w' => e = .returned (.bool false) ∧ Le w w' := by
  obtain ⟨vs, rfl, hr⟩ := hx
  have hl := Le.alloc w (.cells (cells4 vs) 25)
  by_cases h0 : o < 0
  · go_enter Try.func21, Try.ntmps21
    go_wp2
    refine wp_loop_rounds 1 ?_
    rw [rounds_succ]
    go_wp2
    go_ret
    exact ⟨rfl, hl⟩
  · have h2 : 2 < o := by omega
    go_enter Try.func21, Try.ntmps21
    go_wp2
    refine wp_loop_rounds 1 ?_
    rw [rounds_succ]
    go_wp2
    go_ret
    exact ⟨rfl, hl⟩

theorem refStateMay (o : Int) (v : Value) (s : St) (w : World) (hx : HasS w v s) (hf : Fit s) :
    Calls Try.prog 21 #[.int .i64 o, v] w fun e w' => e = .returned (.bool (objMay o s)) ∧ Le w w' := by
  rcases obj_cases (o := o) with rfl | rfl | rfl | ho
  · exact refStateMay0 v s w hx hf
  · exact refStateMay1 v s w hx
  · exact refStateMay2 v s w hx hf
  · rw [objMay_out ho]; exact refStateMayOut o ho v s w hx

set_option maxHeartbeats 2000000 in
theorem refApplyOut (o : Int) (ho : o < 0 ∨ 2 < o) (v : Value) (s : St) (c r a er : Int) (w : World) (hx : HasS w v s) :
    Calls Try.prog 20 #[.int .i64 o, v, opV c r a, .int .i64 er] w fun e w' => e = .returned (.tuple #[stZ, .int .i64 0, .int .i64 er]) ∧ Le w w' := by
  have hx0 := hx
  obtain ⟨vs, rfl, hr⟩ := hx
  have hl := ((Le.alloc w (.cells (cells4 vs) 25)).trans (Le.alloc _ (.cells #[.int .i64 c, .int .i64 r, .int .i64 a] 43))).trans (Le.alloc _ (.cells (cells4 fun _ => slZ) 25))
  have hb3 := Box.new ((w.alloc (.cells (cells4 vs) 25)).alloc (.cells #[.int .i64 c, .int .i64 r, .int .i64 a] 43)) (cells4 fun _ => slZ) 25
  simp only [World.size_alloc] at hb3
  have hmay := refStateMayOut o ho (stV vs) s _ (hx0.le hl)
  clear ho
  go_enter Try.func20, Try.ntmps20
  go_wp2_with fail
  refine hmay.mono ?_
  rintro e w1 ⟨rfl, l1⟩
  obtain ⟨z0, z1, z2, z3, f0, f1, f2, f3⟩ := (hb3.le l1).st
  go_wp2_with fail
  refine bodyPost_ret (v := .tuple #[stZ, .int .i64 0, .int .i64 er]) (by simp [results, Try.results20, go_sem, z0, z1, z2, z3]) rfl ⟨rfl, ?_⟩
  exact (hl.trans l1).set4 (by omega) _ _ _ _

theorem refObj (o : Int) (v : Value) (s : St) (c r a er : Int) (w : World) (hx : HasS w v s) (hf : Fit s) :
    Calls Try.prog 20 #[.int .i64 o, v, opV c r a, .int .i64 er] w fun e w' => ∃ v', e = .returned (.tuple #[v', .int .i64 (objS o s c r a er).2.1, .int .i64 (objS o s c r a er).2.2]) ∧ OwnS w' w.heap.size v' (objS o s c r a er).1 ∧ Le w w' := by
  rcases obj_cases (o := o) with rfl | rfl | rfl | ho
  · exact refStore v s c r a er w hx hf
  · exact refFds v s c r a er w hx hf
  · exact refQueue v s c r a er w hx hf
  · rw [objS_out ho]
    exact (refApplyOut o ho v s c r a er w hx).mono fun e w' ⟨he, hl⟩ => ⟨stZ, he, OwnS.zero _ _, hl⟩

end Go.Proofs.Ytnpejgendmgfaaa

/-
  PLAIN GROUND: appends of numbers to two rows of the call's own that grow by turns, each in a block of its own. Condition: that the bytes are within the reach that every row bears.
-/
namespace Go.Proofs.Ytnpejgendmgfaaa
open Go.RowKit

/-- An append of a slice of numbers to one of the call's own: the new row lies in the old one's block or in a new one. -/
theorem wp_append_at {ops : Array Oper} {rest : List Oper} {o : Oper} {a : Act} {Q : Exit → Act → World → Prop} {w : World} (hgd : o.guard = none) (s x : Operand)
    (ho : o.op = .call { callee := .builtin .append, args := #[s, x], argTypes := #[22, 22] }) (base : Nat) (v u : Value) (xs ys : List Int)
    (hs : a.eval s = v) (hx : a.eval x = u) (hown : Own w base v xs) (hu : Has w u ys) (hr : (xs.length + ys.length) * 8 ≤ 140737488355328) (hbase : base ≤ w.heap.size)
    (h : ∀ v' w', Own w' base v' (xs ++ ys) → w.grownBy w' v.ownBlock → (v'.ownBlock = v.ownBlock ∨ v'.ownBlock = some w.heap.size) → wpList Try.prog ops Q rest (a.put o.dst v') w') : wpList Try.prog ops Q (o :: rest) a w := by
  obtain ⟨i0, hi, hz0, hz1, hz2⟩ := info_parts info3
  have hu0 := hu
  obtain ⟨ad, cap, rfl, hc, hn, _⟩ := hu
  cases ad with
  | none =>
    have h0 := hn rfl
    have hnil : ys = [] := by cases ys with | nil => rfl | cons _ _ => simp at hc; omega
    subst hnil h0
    refine wpList_append_own_none hgd s x 22 ho base 3 i0 1 Try.underlying22 hi v _ _ hs hown hx ?_
    exact h _ _ (by simpa using hown) (World.grownBy.refl _ _) (.inl rfl)
  | some ad =>
    refine wpList_append_own_at w hgd s x 22 ho base 3 i0 (.int .i64 0) 1 8 Try.underlying22 hi hz0 hz1 hz2 rfl (by decide) v _ _ hs hown ad ys.length cap (ys.map (Value.int .i64)) hx (by simp) hu0.cells (ints_oneCell _ _) (by unfold maxLen; omega) hr hbase ?_
    intro v' w' h1 h2 _ h4
    exact h _ _ (Own.of h1 (by simp) (by simp)) h2 h4

/-- Two rows of the call's own, each in another block. -/
structure Two (w wr : World) (y z : Value) (ys zs : List Int) : Prop where
  oy : Own wr w.heap.size y ys
  oz : Own wr w.heap.size z zs
  ap : ∀ g, y.ownBlock = some g → z.ownBlock ≠ some g
  le : Le w wr

theorem Two.nil (w : World) : Two w w (.slice none 0 0) (.slice none 0 0) [] [] := ⟨Own.nil _ _, Own.nil _ _, (fun g h => by simp [Value.ownBlock] at h), Le.refl _⟩
theorem Two.symm {w wr : World} {y z : Value} {ys zs : List Int} (h : Two w wr y z ys zs) : Two w wr z y zs ys := ⟨h.oz, h.oy, fun g h1 h2 => h.ap g h2 h1, h.le⟩
theorem Two.later {w wr w1 : World} {y z : Value} {ys zs : List Int} (h : Two w wr y z ys zs) (l : Le wr w1) : Two w w1 y z ys zs := ⟨h.oy.le l, h.oz.le l, h.ap, h.le.trans l⟩
theorem Two.left {w w1 w2 : World} {y y' z : Value} {ys ys' zs : List Int} (h : Two w w1 y z ys zs) (ho : Own w2 w.heap.size y' ys') (hg : w1.grownBy w2 y.ownBlock) (hat : y'.ownBlock = y.ownBlock ∨ y'.ownBlock = some w1.heap.size) : Two w w2 y' z ys' zs := by
  refine ⟨ho, h.oz.grown hg (fun g h1 h2 => h.ap g h2 h1), fun g h1 h2 => ?_, Below.grown h.le hg h.le.size (fun g hg => (World.ownsRow.lt h.oy g hg).1)⟩
  rcases hat with e | e
  · rw [e] at h1; exact h.ap g h1 h2
  · rw [e] at h1
    have := (World.ownsRow.lt h.oz g h2).2
    simp at h1
    omega

/-- The first n answers of f. -/
def ofF (f : Nat → Int) (n : Nat) : List Int := (List.range n).map f
theorem ofF_len (f : Nat → Int) (n : Nat) : (ofF f n).length = n := by simp [ofF]
theorem ofF_next (f : Nat → Int) (n : Nat) : ofF f (n + 1) = ofF f n ++ [f n] := by simp [ofF, List.range_succ]
theorem ofF_at {f : Nat → Int} {n i : Nat} (h : i < n) : (ofF f n).getD i 0 = f i := by simp [ofF, List.getD, h]
theorem ofF_mem {f : Nat → Int} {n i : Nat} (h : i < n) : f i ∈ ofF f n := by
  simp only [ofF, List.mem_map, List.mem_range]; exact ⟨i, h, rfl⟩
theorem ofF_of {f : Nat → Int} {n : Nat} {x : Int} (h : x ∈ ofF f n) : ∃ i, i < n ∧ x = f i := by
  simp only [ofF, List.mem_map, List.mem_range] at h
  obtain ⟨i, hi, e⟩ := h
  exact ⟨i, hi, e.symm⟩

end Go.Proofs.Ytnpejgendmgfaaa

/-
  THE WALK over the document's Fold: what it answers, for every object, state and operations. Condition: the state's rows and the operations can be copied.
-/
namespace Go.Proofs.Ytnpejgendmgfaaa
open Go.RowKit

/-- What stands ahead of each round of the document's loop. -/
structure FoJ (w : World) (o : Int) (s : St) (ps : List Opr) (g : Nat) (wr : World) (k : Nat) (us : Nat → Sl) (z : Value) : Prop where
  le : Le w wr
  res : Box wr (w.heap.size + 1) (cells4 fun _ => slZ) 25
  box : Box wr g (cells4 us) 25
  rows : ∀ i, i < 4 → Own wr w.heap.size (slV (us i)) ((foldSt o s (ps.take k)).at i)
  ans : Own wr w.heap.size z (foldAn o s (ps.take k))
  off : ∀ i, i < 4 → ∀ gz, z.ownBlock = some gz → (slV (us i)).ownBlock ≠ some gz
  gb : w.heap.size + 1 < g
  may : opsMay (ps.take k) = true

/-- The state that an operation leaves is stored into its variable; another variable lies between. -/
theorem FoJ.next {w wr w1 w2 : World} {o : Int} {s : St} {ps : List Opr} {g k : Nat} {us q : Nat → Sl} {z z' : Value} (h : FoJ w o s ps g wr k us z) (hk : k < ps.length) (hp : (ps.getD k Opr.zero).may = true) (l : Le wr w1)
    (hq : ∀ i, i < 4 → Own w1 wr.heap.size (slV (q i)) ((stepS o (foldSt o s (ps.take k)) (ps.getD k Opr.zero)).at i))
    (x : Int) (hx : x = stepA o (foldSt o s (ps.take k)) (ps.getD k Opr.zero))
    (ho : Own w2 w.heap.size z' (foldAn o s (ps.take k) ++ [x]))
    (hg : ((((((w1.setCell ⟨g, 0, none⟩ (slV (q 0))).setCell ⟨g, 1, none⟩ (slV (q 1))).setCell ⟨g, 2, none⟩ (slV (q 2))).setCell ⟨g, 3, none⟩ (slV (q 3))).alloc (.cells #[.int .i64 x] 3)).grownBy w2 z.ownBlock))
    (hat : z'.ownBlock = z.ownBlock ∨ z'.ownBlock = some (w1.heap.size + 1)) :
    FoJ w o s ps g w2 (k + 1) q z' := by
  have hb := h.box.le l
  have hsz := h.le.size
  have hsz1 := l.size
  have gb := h.gb
  have hA := Le.alloc ((((w1.setCell ⟨g, 0, none⟩ (slV (q 0))).setCell ⟨g, 1, none⟩ (slV (q 1))).setCell ⟨g, 2, none⟩ (slV (q 2))).setCell ⟨g, 3, none⟩ (slV (q 3))) (.cells #[.int .i64 x] 3)
  have hb1 : Box _ g (cells4 q) 25 := ((((hb.set 0 (slV (q 0))).set 1 (slV (q 1))).set 2 (slV (q 2))).set 3 (slV (q 3)))
  have hr1 := (h.res.le l).other4 (g' := g) (by omega) (slV (q 0)) (slV (q 1)) (slV (q 2)) (slV (q 3))
  have hz1 := (h.ans.le l).set4 hb (by decide) (slV (q 0)) (slV (q 1)) (slV (q 2)) (slV (q 3))
  have hzlt : ∀ gz, z.ownBlock = some gz → gz < wr.heap.size := fun gz e => (h.ans.block e).2
  have hrow : ∀ gz, z.ownBlock = some gz → w.heap.size ≤ gz := fun gz e => (h.ans.block e).1
  have l1 : Le w _ := ((h.le.trans l).set4 (g := g) (by omega) (slV (q 0)) (slV (q 1)) (slV (q 2)) (slV (q 3))).trans hA
  refine ⟨Below.grown l1 hg l1.size hrow, ?_, ?_, fun i hi => ?_, ?_, fun i hi gz e => ?_, gb, ?_⟩
  · exact (hr1.le hA).grown hg (fun e => h.ans.apart h.res (by decide) e)
  · exact (hb1.le hA).grown hg (fun e => h.ans.apart h.box (by decide) e)
  · rw [foldSt_take hk]
    refine Own.grown ((((hq i hi).base (by omega)).set4 hb (by decide) _ _ _ _).le hA) hg (fun g' e e2 => ?_)
    have := ((hq i hi).block e).1
    have := hzlt g' e2
    omega
  · rw [foldAn_take hk, ← hx]; exact ho
  · intro e2
    have h1 := (hq i hi).block e2
    rcases hat with e3 | e3
    · rw [e3] at e
      have := hzlt gz e
      omega
    · rw [e3] at e
      simp at e
      omega
  · rw [opsMay_take hk, h.may, hp]; rfl

theorem foldMay_bad0 {o : Int} {s : St} {ps : List Opr} {k : Nat} (h : k < ps.length) (hb : (ps.getD k Opr.zero).may = false) : foldMay o s ps = false := by
  unfold foldMay; rw [opsMay_bad h hb, Bool.and_false]

set_option maxRecDepth 4000 in
set_option maxHeartbeats 1000000 in
theorem refFold (o : Int) (v u : Value) (s : St) (ps : List Opr) (w : World) (hx : HasS w v s) (hf : Fit s) (ho : HasO w u ps) (hn : ps.length * 24 ≤ 140737488351232) :
    Calls Try.prog 12 #[.int .i64 o, v, u] w fun e w' => ∃ (v' z : Value), e = .returned (.tuple #[v', z, .int .i64 (foldS o s ps 1200).2.2]) ∧ OwnS w' w.heap.size v' (foldS o s ps 1200).1 ∧ Own w' w.heap.size z (foldS o s ps 1200).2.1 ∧ Le w w' := by
  have hx0 := hx
  obtain ⟨vs, rfl, hr⟩ := hx
  have hb1 := (Box.new w (cells4 vs) 25).le (Le.alloc _ (.cells (cells4 fun _ => slZ) 25))
  have hb2 := Box.new (w.alloc (.cells (cells4 vs) 25)) (cells4 fun _ => slZ) 25
  rw [World.size_alloc] at hb2
  have hl := (Le.alloc w (.cells (cells4 vs) 25)).trans (Le.alloc _ (.cells (cells4 fun _ => slZ) 25))
  have hmay := refStateMay o (stV vs) s _ (hx0.le hl) hf
  cases hm : objMay o s
  · have hfm : foldMay o s ps = false := by unfold foldMay; rw [hm]; rfl
    rw [foldS_no 1200 hfm]
    rw [hm] at hmay
    go_enter Try.func12, Try.ntmps12
    go_wp2_with fail
    refine hmay.mono ?_
    rintro e w1 ⟨rfl, l1⟩
    obtain ⟨z0, z1, z2, z3, f0, f1, f2, f3⟩ := (hb2.le l1).st
    go_wp2_with fail
    refine bodyPost_ret (v := .tuple #[stZ, .slice none 0 0, .int .i64 1200]) (by simp [results, Try.results12, go_sem, z0, z1, z2, z3]) rfl ⟨stZ, _, rfl, OwnS.zero _ _, Own.nil _ _, ?_⟩
    exact (hl.trans l1).set4 (by omega) _ _ _ _
  · rw [hm] at hmay
    obtain ⟨a, cap, rfl, hc, hnone, hops⟩ := ho
    have hopA : ∀ k, k < ps.length → ∃ b off, a = some ⟨b, off, none⟩ ∧ OprAt w b (off + k * 3) (ps.getD k Opr.zero) := fun k hk => by
      obtain ⟨b, off, ha, hcell⟩ := hops (by omega)
      exact ⟨b, off, ha, hcell k hk⟩
    clear hops hnone
    obtain ⟨L, hL⟩ : ∃ L, L = ps.length := ⟨_, rfl⟩
    have HL : Hid (L = ps.length) := hL
    rw [← hL] at hc hopA hn ⊢
    clear hL
    go_enter Try.func12, Try.ntmps12
    go_wp2_with fail
    refine hmay.mono ?_
    rintro e w1 ⟨rfl, l1⟩
    replace hb1 := hb1.le l1
    replace hb2 := hb2.le l1
    replace hl := hl.trans l1
    clear l1 hmay
    obtain ⟨y0, y1, y2, y3, _, _, _, _⟩ := hb1.st
    go_wp2_with fail
    refine (refCopyState (stV vs) s _ (hx0.le hl) hf).mono ?_
    rintro e w2 ⟨_, rfl, ⟨us, rfl, o2⟩, l2⟩
    clear y0 y1 y2 y3
    replace hb2 := hb2.le l2
    have hl2 := hl.trans l2
    have hs1 := hl.size
    have hb3 := Box.new w2 (cells4 us) 25
    have hA := Le.alloc w2 (.cells (cells4 us) 25)
    have hlt2 := hb2.lt
    replace hl2 := hl2.trans hA
    replace hb2 := hb2.le hA
    have o3 := fun i hi => ((o2 i hi).le hA).base (show w.heap.size ≤ w1.heap.size by omega)
    clear hA o2 l2
    go_upto_region 4 with fail
    generalize hW : w2.alloc (.cells (cells4 us) 25) = W at hb2 hb3 hl2 o3 ⊢
    clear hW
    generalize w2.heap.size = g3 at hb3 hlt2 ⊢
    have I0 : FoJ w o s ps g3 W 0 us (.slice none 0 0) := ⟨hl2, hb2, hb3, fun i hi => o3 i hi, Own.nil _ _, fun i _ gz e => by simp [Value.ownBlock] at e, by omega, rfl⟩
    clear hb2 hb3 hl2 o3 hlt2 hb1 hl hs1
    go_wp2_with fail
    go_loopw [10, 11] (fun z i wr => ∃ (k : Nat) (us : Nat → Sl), k ≤ L ∧ i = .int .i64 k ∧ FoJ w o s ps g3 wr k us z) (fun _ i _ => L - (intOf i).toNat)
    case atStart => exact ⟨0, us, by omega, rfl, I0⟩
    case round =>
      obtain ⟨k, us, hk, rfl, I⟩ := hrel
      clear I0
      by_cases hlt : k < L
      · obtain ⟨p, hpk⟩ : ∃ p, p = ps.getD k Opr.zero := ⟨_, rfl⟩
        obtain ⟨b, off, rfl, hcell⟩ := hopA k hlt
        obtain ⟨x0, x1, x2⟩ := hcell.le I.le
        rw [← hpk] at x0 x1 x2
        have HP : Hid (p = ps.getD k Opr.zero) := hpk
        have hlt' : (k : Int) < (L : Int) := by omega
        clear hcell hpk hopA
        have hmk : objMay o (foldSt o s (ps.take k)) = true := foldSt_may hm I.may
        have hfk : Fit (foldSt o s (ps.take k)) := hf.foldSt
        have hap := fun (w' : World) (h : Le wr w') => refObj o (stV us) (foldSt o s (ps.take k)) p.c p.r p.a 1200 w' (OwnS.has ⟨us, rfl, fun i hi => (I.rows i hi).le h⟩) hfk
        have HA : Hid ((p.may = true → (objS o (foldSt o s (ps.take k)) p.c p.r p.a 1200).1 = stepS o (foldSt o s (ps.take k)) p ∧ (objS o (foldSt o s (ps.take k)) p.c p.r p.a 1200).2.1 = stepA o (foldSt o s (ps.take k)) p ∧ (objS o (foldSt o s (ps.take k)) p.c p.r p.a 1200).2.2 = 0) ∧
          (p.may = false → (objS o (foldSt o s (ps.take k)) p.c p.r p.a 1200).1 = St.zero ∧ (objS o (foldSt o s (ps.take k)) p.c p.r p.a 1200).2.1 = 0 ∧ (objS o (foldSt o s (ps.take k)) p.c p.r p.a 1200).2.2 = 1200)) :=
          ⟨fun h => by rw [objS_step 1200 hmk h]; exact ⟨rfl, rfl, rfl⟩, fun h => by rw [objS_bad 1200 h]; exact ⟨rfl, rfl, rfl⟩⟩
        generalize objS o (foldSt o s (ps.take k)) p.c p.r p.a 1200 = A8 at hap HA
        obtain ⟨S1, x, e8⟩ := A8
        simp only at hap HA
        have hapA := hap wr.drew (Le.drew _)
        have hapB := hap (wr.alloc (.cells (cells4 fun _ => slZ) 25)).drew ((Le.alloc _ _).trans (Le.drew _))
        obtain ⟨b0, b1, b2, b3, _, _, _, _⟩ := I.box.st
        obtain ⟨qz, rfl⟩ := I.ans.has.sl
        have hblt : b < wr.heap.size := World.block_lt_of_cell? wr _ x0
        have hglt : g3 < wr.heap.size := I.box.lt
        have n4 : ¬ wr.heap.size = g3 := by omega
        have n5 : ¬ wr.heap.size = b := by omega
        have hO : OprAt wr b (off + k * 3) p := ⟨x0, x1, x2⟩
        clear hap
        go_upto_region 8 with fail
        go_region_held3 (fun w' => w'.cell? ⟨g3, 0, none⟩ = some (slV (us 0)) ∧ w'.cell? ⟨g3, 1, none⟩ = some (slV (us 1)) ∧ w'.cell? ⟨g3, 2, none⟩ = some (slV (us 2)) ∧ w'.cell? ⟨g3, 3, none⟩ = some (slV (us 3)) ∧ w'.cell? ⟨b, off + k * 3, none⟩ = some (.int .i64 p.c) ∧ w'.cell? ⟨b, off + k * 3 + 1, none⟩ = some (.int .i64 p.r) ∧ w'.cell? ⟨b, off + k * 3 + 2, none⟩ = some (.int .i64 p.a)) (go_keep) (first
          | (go_at_call 20; refine hapA.mono ?_; rintro e w2 ⟨_, rfl, ⟨q, rfl, o5⟩, l5⟩; have l6 := (Le.drew wr).trans l5; obtain ⟨p0, p1, p2, p3, _, _, _, _⟩ := (I.box.le l6).st; obtain ⟨c0, c1, c2⟩ := hO.le l6; have n2 : ¬ w2.heap.size = g3 := (by have := l6.size; omega); have n3 : ¬ w2.heap.size = b := (by have := l6.size; omega))
          | (go_at_call 20; refine hapB.mono ?_; rintro e w2 ⟨_, rfl, ⟨q, rfl, o5⟩, l5⟩; have l6 := ((Le.alloc wr (.cells (cells4 fun _ => slZ) 25)).trans (Le.drew _)).trans l5; obtain ⟨p0, p1, p2, p3, _, _, _, _⟩ := (I.box.le l6).st; obtain ⟨c0, c1, c2⟩ := hO.le l6; have hbz : Box w2 wr.heap.size (cells4 fun _ => slZ) 25 := ((Box.new wr (cells4 fun _ => slZ) 25).le (Le.drew _)).le l5; obtain ⟨v0, v1, v2, v3, t0, t1, t2, t3⟩ := hbz.st))
        all_goals clear hapA hapB hO x0 x1 x2 b0 b1 b2 b3
        · have hA := Le.alloc w2 (.cells (cells4 q) 25)
          have hb6 := Box.new w2 (cells4 q) 25
          have o6 := fun i hi => (o5 i hi).le hA
          have hn3 : ¬ g3 = w2.heap.size := fun e => n2 e.symm
          replace l6 := l6.trans hA
          clear hA o5 l5 p0 p1 p2 p3 c0 c1 c2 n2 n3 n4 n5 hblt hglt
          simp only [World.drew] at o6
          generalize hW5 : w2.alloc (.cells (cells4 q) 25) = W5 at hb6 o6 l6 ⊢
          clear hW5
          generalize w2.heap.size = g5 at hb6 hn3 ⊢
          clear hmk hfk hm hf hr hx0
          cases hp : p.may
          · have hbad : Hid (foldMay o s ps = false) := foldMay_bad0 (k := k) (by have := HL.out; omega) (by rw [← HP.out]; exact hp)
            obtain ⟨rfl, rfl, rfl⟩ := HA.out.2 hp
            have hr5 := I.res.le l6
            have l7 := I.le.trans l6
            obtain ⟨z0, z1, z2, z3, e0, e1, e2, e3⟩ := hr5.st
            clear I
            go_wp2_with fail
            refine bodyPost_ret (v := .tuple #[stZ, .slice none 0 0, .int .i64 1200]) (by simp [results, Try.results12, go_sem, z0, z1, z2, z3]) rfl ?_
            rw [foldS_no 1200 hbad.out]
            exact ⟨stZ, _, rfl, OwnS.zero _ _, Own.nil _ _, l7.set4 (by omega) _ _ _ _⟩
          · obtain ⟨rfl, hxx, rfl⟩ := HA.out.1 hp
            have HX : Hid (x = stepA o (foldSt o s (ps.take k)) p) := hxx
            clear hxx HA
            have hlt6 : g3 < W5.heap.size := Nat.lt_of_lt_of_le I.box.lt l6.size
            have hne : ¬ g5 = g3 := fun e => hn3 e.symm
            obtain ⟨b0, b1, b2, b3, f0, f1, f2, f3⟩ := (I.box.le l6).st
            obtain ⟨c0, c1, c2, c3, _, _, _, _⟩ := hb6.st
            have hlen : (foldAn o s (ps.take k)).length = k := by have := HL.out; rw [foldAn_len, List.length_take]; omega
            have hz4 := (I.ans.le l6).set4 (I.box.le l6) (by decide) (slV (q 0)) (slV (q 1)) (slV (q 2)) (slV (q 3))
            have hl4 : ((((W5.setCell ⟨g3, 0, none⟩ (slV (q 0))).setCell ⟨g3, 1, none⟩ (slV (q 1))).setCell ⟨g3, 2, none⟩ (slV (q 2))).setCell ⟨g3, 3, none⟩ (slV (q 3))).heap.size = W5.heap.size := by simp
            go_upto_region 12 with fail
            generalize hW6 : (((W5.setCell ⟨g3, 0, none⟩ (slV (q 0))).setCell ⟨g3, 1, none⟩ (slV (q 1))).setCell ⟨g3, 2, none⟩ (slV (q 2))).setCell ⟨g3, 3, none⟩ (slV (q 3)) = W6 at hz4 hl4 ⊢
            have HW6 : Hid ((((W5.setCell ⟨g3, 0, none⟩ (slV (q 0))).setCell ⟨g3, 1, none⟩ (slV (q 1))).setCell ⟨g3, 2, none⟩ (slV (q 2))).setCell ⟨g3, 3, none⟩ (slV (q 3)) = W6) := hW6
            have HL4 : Hid (W6.heap.size = W5.heap.size) := hl4
            have HN : Hid ((foldAn o s (ps.take k)).length = k) := hlen
            clear hW6 hl4 hlen b0 b1 b2 b3 f0 f1 f2 f3 c0 c1 c2 c3 hne hn3
            have hlit := Own.lit W6 W6.heap.size (Nat.le_refl _) [x] (by simp)
            have hbs : w.heap.size ≤ W6.heap.size + 1 := by have := I.le.size; have := l6.size; have := HL4.out; omega
            go_wp2_with (at_builtin; refine wp_append_at rfl _ _ rfl w.heap.size _ _ (foldAn o s (ps.take k)) [x] rfl rfl (hz4.le (Le.alloc _ _)) hlit.has (by simp [HN.out]; omega) (by simp only [World.size_alloc]; exact hbs) ?_; intro v' w7 hown7 hgrow7 hat7; rw [World.size_alloc] at hat7)
            have IN : FoJ w o s ps g3 w7 (k + 1) q v' := I.next (x := x) (by have := HL.out; omega) (by rw [← HP.out]; exact hp) l6 (fun i hi => by rw [← HP.out]; exact o6 i hi) (by rw [← HP.out]; exact HX.out) hown7 (by rw [HW6.out]; exact hgrow7) (by rw [← HL4.out]; exact hat7)
            clear hown7 hgrow7 hat7
            go_roundw
            case rel => exact ⟨k + 1, q, by omega, by go_num, IN⟩
            case measure => simp [intOf]; omega
        · have hb6 : Box ((((w2.setCell ⟨wr.heap.size, 0, none⟩ (slV (q 0))).setCell ⟨wr.heap.size, 1, none⟩ (slV (q 1))).setCell ⟨wr.heap.size, 2, none⟩ (slV (q 2))).setCell ⟨wr.heap.size, 3, none⟩ (slV (q 3))) wr.heap.size (cells4 q) 25 := (((hbz.set 0 (slV (q 0))).set 1 (slV (q 1))).set 2 (slV (q 2))).set 3 (slV (q 3))
          have o6 := fun i hi => ((o5 i hi).base (base' := wr.heap.size) (by simp [World.drew])).set4 hbz (by decide) (slV (q 0)) (slV (q 1)) (slV (q 2)) (slV (q 3))
          have hn3 : ¬ g3 = wr.heap.size := fun e => n4 e.symm
          replace l6 : Le wr ((((w2.setCell ⟨wr.heap.size, 0, none⟩ (slV (q 0))).setCell ⟨wr.heap.size, 1, none⟩ (slV (q 1))).setCell ⟨wr.heap.size, 2, none⟩ (slV (q 2))).setCell ⟨wr.heap.size, 3, none⟩ (slV (q 3))) := l6.set4 (Nat.le_refl _) _ _ _ _
          clear o5 l5 p0 p1 p2 p3 c0 c1 c2 n4 n5 hblt hglt v0 v1 v2 v3 t0 t1 t2 t3 hbz
          generalize hW5 : (((w2.setCell ⟨wr.heap.size, 0, none⟩ (slV (q 0))).setCell ⟨wr.heap.size, 1, none⟩ (slV (q 1))).setCell ⟨wr.heap.size, 2, none⟩ (slV (q 2))).setCell ⟨wr.heap.size, 3, none⟩ (slV (q 3)) = W5 at hb6 o6 l6 ⊢
          clear hW5
          generalize wr.heap.size = g5 at hb6 hn3 ⊢
          clear hmk hfk hm hf hr hx0
          cases hp : p.may
          · have hbad : Hid (foldMay o s ps = false) := foldMay_bad0 (k := k) (by have := HL.out; omega) (by rw [← HP.out]; exact hp)
            obtain ⟨rfl, rfl, rfl⟩ := HA.out.2 hp
            have hr5 := I.res.le l6
            have l7 := I.le.trans l6
            obtain ⟨z0, z1, z2, z3, e0, e1, e2, e3⟩ := hr5.st
            clear I
            go_wp2_with fail
            refine bodyPost_ret (v := .tuple #[stZ, .slice none 0 0, .int .i64 1200]) (by simp [results, Try.results12, go_sem, z0, z1, z2, z3]) rfl ?_
            rw [foldS_no 1200 hbad.out]
            exact ⟨stZ, _, rfl, OwnS.zero _ _, Own.nil _ _, l7.set4 (by omega) _ _ _ _⟩
          · obtain ⟨rfl, hxx, rfl⟩ := HA.out.1 hp
            have HX : Hid (x = stepA o (foldSt o s (ps.take k)) p) := hxx
            clear hxx HA
            have hlt6 : g3 < W5.heap.size := Nat.lt_of_lt_of_le I.box.lt l6.size
            have hne : ¬ g5 = g3 := fun e => hn3 e.symm
            obtain ⟨b0, b1, b2, b3, f0, f1, f2, f3⟩ := (I.box.le l6).st
            obtain ⟨c0, c1, c2, c3, _, _, _, _⟩ := hb6.st
            have hlen : (foldAn o s (ps.take k)).length = k := by have := HL.out; rw [foldAn_len, List.length_take]; omega
            have hz4 := (I.ans.le l6).set4 (I.box.le l6) (by decide) (slV (q 0)) (slV (q 1)) (slV (q 2)) (slV (q 3))
            have hl4 : ((((W5.setCell ⟨g3, 0, none⟩ (slV (q 0))).setCell ⟨g3, 1, none⟩ (slV (q 1))).setCell ⟨g3, 2, none⟩ (slV (q 2))).setCell ⟨g3, 3, none⟩ (slV (q 3))).heap.size = W5.heap.size := by simp
            go_upto_region 12 with fail
            generalize hW6 : (((W5.setCell ⟨g3, 0, none⟩ (slV (q 0))).setCell ⟨g3, 1, none⟩ (slV (q 1))).setCell ⟨g3, 2, none⟩ (slV (q 2))).setCell ⟨g3, 3, none⟩ (slV (q 3)) = W6 at hz4 hl4 ⊢
            have HW6 : Hid ((((W5.setCell ⟨g3, 0, none⟩ (slV (q 0))).setCell ⟨g3, 1, none⟩ (slV (q 1))).setCell ⟨g3, 2, none⟩ (slV (q 2))).setCell ⟨g3, 3, none⟩ (slV (q 3)) = W6) := hW6
            have HL4 : Hid (W6.heap.size = W5.heap.size) := hl4
            have HN : Hid ((foldAn o s (ps.take k)).length = k) := hlen
            clear hW6 hl4 hlen b0 b1 b2 b3 f0 f1 f2 f3 c0 c1 c2 c3 hne hn3
            have hlit := Own.lit W6 W6.heap.size (Nat.le_refl _) [x] (by simp)
            have hbs : w.heap.size ≤ W6.heap.size + 1 := by have := I.le.size; have := l6.size; have := HL4.out; omega
            go_wp2_with (at_builtin; refine wp_append_at rfl _ _ rfl w.heap.size _ _ (foldAn o s (ps.take k)) [x] rfl rfl (hz4.le (Le.alloc _ _)) hlit.has (by simp [HN.out]; omega) (by simp only [World.size_alloc]; exact hbs) ?_; intro v' w7 hown7 hgrow7 hat7; rw [World.size_alloc] at hat7)
            have IN : FoJ w o s ps g3 w7 (k + 1) q v' := I.next (x := x) (by have := HL.out; omega) (by rw [← HP.out]; exact hp) l6 (fun i hi => by rw [← HP.out]; exact o6 i hi) (by rw [← HP.out]; exact HX.out) hown7 (by rw [HW6.out]; exact hgrow7) (by rw [← HL4.out]; exact hat7)
            clear hown7 hgrow7 hat7
            go_roundw
            case rel => exact ⟨k + 1, q, by omega, by go_num, IN⟩
            case measure => simp [intOf]; omega
      · obtain rfl : k = L := by omega
        obtain ⟨b0, b1, b2, b3, _, _, _, _⟩ := I.box.st
        obtain ⟨z0, z1, z2, z3, e0, e1, e2, e3⟩ := I.res.st
        obtain ⟨qz, rfl⟩ := I.ans.has.sl
        have hall : Hid (foldMay o s ps = true) := by
          have := I.may
          rw [HL.out, List.take_length] at this
          unfold foldMay; rw [hm, this]; rfl
        go_wp2_with fail
        refine bodyPost_ret (v := .tuple #[stV us, slV qz, .int .i64 0]) (by simp [results, Try.results12, go_sem, z0, z1, z2, z3]) rfl ?_
        rw [foldS_yes 1200 hall.out]
        refine ⟨_, _, rfl, ⟨us, rfl, fun i hi => ?_⟩, ?_, I.le.set4 (by omega) _ _ _ _⟩
        · have := I.rows i hi
          rw [HL.out, List.take_length] at this
          exact this.set4 I.res (by decide) _ _ _ _
        · have := I.ans
          rw [HL.out, List.take_length] at this
          exact this.set4 I.res (by decide) _ _ _ _

end Go.Proofs.Ytnpejgendmgfaaa

/-
  THE WALK over choruslaw0.SpoilInts: numbers in the call's own memory are written over, and nothing else turns. No condition but that they may be written over.
-/
namespace Go.Proofs.Ytnpejgendmgfaaa
open Go.RowKit

set_option maxHeartbeats 400000 in
theorem lawSpoil (v : Value) (base : Nat) (w : World) (hx : Ints w base v) :
    Calls Try.prog 17 #[v] w fun e w' => e = .returned (.tuple #[]) ∧ Spoilt base w w' := by
  obtain ⟨a, L, cap, rfl, hc, hm, hx⟩ := hx
  rcases Nat.eq_zero_or_pos L with h0 | h0
  · subst h0
    go_enter Try.func17, Try.ntmps17
    go_wp2
    refine wp_loop_rounds 1 ?_
    rw [rounds_succ]
    go_wp2
    go_end0
    exact ⟨rfl, Spoilt.refl _ _⟩
  · obtain ⟨b, off, rfl, hb, hcell⟩ := hx h0
    clear hx
    go_enter Try.func17, Try.ntmps17
    go_wp2
    go_loopw [2] (fun i wr => ∃ k : Nat, k ≤ L ∧ i = .int .i64 k ∧ Spoilt base w wr) (fun i _ => L - (intOf i).toNat)
    case atStart => exact ⟨0, Nat.zero_le _, rfl, Spoilt.refl _ _⟩
    case round =>
      obtain ⟨k, hk, rfl, hsp⟩ := hrel
      by_cases hlt : k < L
      · obtain ⟨⟨x0, h1⟩, h2⟩ := hcell k hlt
        have hfz := hsp.thaw _ (World.block_lt_of_cell? w _ h1) h2
        obtain ⟨x, hcl⟩ := hsp.ints _ _ h1
        clear h1 h2 hcell
        go_wp2
        go_roundw
        case rel => exact ⟨k + 1, by omega, by go_num, hsp.trans (Spoilt.store hcl hb)⟩
        case measure => simp [intOf]; omega
      · go_wp2
        go_end0
        exact ⟨rfl, hsp⟩

end Go.Proofs.Ytnpejgendmgfaaa

/-
  THE WALKS over choruslaw0's CopyState and SpoilState: what each does, for every state. Condition: where memory is made, the rows' bytes are within the reach that every row bears.
-/
namespace Go.Proofs.Ytnpejgendmgfaaa
open Go.RowKit

set_option maxHeartbeats 400000 in
theorem lawCopyState (v : Value) (s : St) (w : World) (hx : HasS w v s) (hf : Fit s) :
    Calls Try.prog 9 #[v] w fun e w' => ∃ v', e = .returned v' ∧ OwnS w' w.heap.size v' s ∧ Le w w' := by
  obtain ⟨vs, rfl, hr⟩ := hx
  go_enter Try.func9, Try.ntmps9
  go_wp2
  go_loopw [4] (fun i wr => ∃ (k : Nat) (us : Nat → Sl), k ≤ 4 ∧ i = .int .i64 k ∧ Cp w s vs wr k us) (fun i _ => 4 - (intOf i).toNat)
  case atStart => exact ⟨0, _, by omega, rfl, Cp.start w s vs⟩
  case round =>
    obtain ⟨k, us, hk, rfl, hcp⟩ := hrel
    by_cases hlt : k < 4
    · have c1 : (wr.alloc (.cells #[] 3)).cell? ⟨w.heap.size, k, none⟩ = some (slV (vs k)) := ((hcp.given.le (Le.alloc wr _)).cell k).trans (cells4_at vs hlt)
      have hw1 : Has (wr.alloc (.cells #[] 3)) (slV (vs k)) (s.at k) := (hr k hlt).le (hcp.le.trans (Le.alloc wr _))
      have hn1 : Own (wr.alloc (.cells #[] 3)) wr.heap.size (.slice (some ⟨wr.heap.size, 0, none⟩) 0 0) [] := Own.lit wr _ (Nat.le_refl _) [] (by decide)
      have hfk := hf k hlt
      have hrow : ∀ g, (Value.slice (some ⟨wr.heap.size, 0, none⟩) 0 0).ownBlock = some g → wr.heap.size ≤ g := by intro g hg; cases hg; exact Nat.le_refl _
      go_wp2_with (at_builtin; refine wp_append_ints rfl _ _ rfl wr.heap.size _ _ [] (s.at k) rfl rfl hn1 hw1 (by simp; omega) (by simp) ?_; intro v' w2 hown hgrow; rw [List.nil_append] at hown; have l2 : Le wr w2 := Below.grown (Le.alloc wr _) hgrow (by simp) hrow; have c3 := (hcp.filled.le l2).cell k; rw [cells4_at us hlt] at c3; have f3 := (hcp.filled.le l2).frozen k; obtain ⟨q, rfl⟩ := hown.has.sl)
      go_roundw
      case rel => exact ⟨k + 1, _, by omega, by go_num, hcp.next hlt (Le.alloc wr _) hgrow hrow hown⟩
      case measure => simp [intOf]; omega
    · obtain rfl : k = 4 := by omega
      obtain ⟨p0, p1, p2, p3, _, _, _, _⟩ := hcp.filled.st
      obtain ⟨b0, b1, b2, b3, f0, f1, f2, f3⟩ := hcp.result.st
      go_wp2
      refine bodyPost_ret (v := stV us) (by simp [results, Try.results9, go_sem, b0, b1, b2, b3]) rfl ⟨_, rfl, ⟨us, rfl, fun i hi => ?_⟩, ?_⟩
      · exact ((((hcp.rows i hi).setBox hcp.result (by decide)).setBox (hcp.result.set _ _) (by decide)).setBox ((hcp.result.set _ _).set _ _) (by decide)).setBox (((hcp.result.set _ _).set _ _).set _ _) (by decide)
      · exact (((Below.setCell hcp.le (by show w.heap.size ≤ w.heap.size + 1; omega) _).setCell (by show w.heap.size ≤ w.heap.size + 1; omega) _).setCell (by show w.heap.size ≤ w.heap.size + 1; omega) _).setCell (by show w.heap.size ≤ w.heap.size + 1; omega) _

set_option maxHeartbeats 400000 in
theorem lawSpoilState (v : Value) (base : Nat) (w : World) (hx : IntsS w base v) (hbase : base ≤ w.heap.size) :
    Calls Try.prog 16 #[v] w fun e w' => e = .returned (.tuple #[]) ∧ Spoilt base w w' := by
  obtain ⟨vs, rfl, hr⟩ := hx
  have hb1 := Box.new w (cells4 vs) 25
  have hs1 : Spoilt base w (w.alloc (.cells (cells4 vs) 25)) := Spoilt.le hbase (Le.alloc _ _)
  go_enter Try.func16, Try.ntmps16
  go_wp2
  go_loopw [2] (fun i wr => ∃ k : Nat, k ≤ 4 ∧ i = .int .i64 k ∧ Spoilt base (w.alloc (.cells (cells4 vs) 25)) wr) (fun i _ => 4 - (intOf i).toNat)
  case atStart => exact ⟨0, by omega, rfl, Spoilt.refl _ _⟩
  case round =>
    obtain ⟨k, hk, rfl, hsp⟩ := hrel
    by_cases hlt : k < 4
    · have hi := (hr k hlt).spoilt (hs1.trans hsp)
      have c1 : wr.cell? ⟨w.heap.size, k, none⟩ = some (slV (vs k)) := hsp.rest _ _ ((hb1.cell k).trans (cells4_at vs hlt)) (fun x h => by cases h)
      go_wp2_with (go_at_call 17; refine (lawSpoil _ base _ hi).mono ?_; rintro e w1 ⟨rfl, s1⟩; clear hi c1)
      go_roundw
      case rel => exact ⟨k + 1, by omega, by go_num, hsp.trans s1⟩
      case measure => simp [intOf]; omega
    · obtain rfl : k = 4 := by omega
      go_wp2
      go_end0
      exact ⟨rfl, hs1.trans hsp⟩

end Go.Proofs.Ytnpejgendmgfaaa

/-
  THE WALKS over choruslaw0's SameOps, CopyOps, LendOps, KeptOps: what each does, for every slice of operations. Condition: where memory is made, that the bytes are within the reach that every row bears.
-/
namespace Go.Proofs.Ytnpejgendmgfaaa
open Go.RowKit

theorem take_sameO {xs ys : List Opr} {k : Nat} (h1 : k < xs.length) (h2 : k < ys.length) (h : xs.take k = ys.take k) (he : xs.getD k Opr.zero = ys.getD k Opr.zero) : xs.take (k + 1) = ys.take (k + 1) := by
  rw [List.take_succ_eq_append_getElem h1, List.take_succ_eq_append_getElem h2, h]
  simp [List.getD, h1, h2] at he
  rw [he]

theorem opr_ne {x y : Opr} (h : ¬ x = y) : (x.c == y.c) = false ∨ ((x.c == y.c) = true ∧ (x.r == y.r) = false) ∨ ((x.c == y.c) = true ∧ (x.r == y.r) = true ∧ (x.a == y.a) = false) := by
  cases e0 : x.c == y.c
  · exact .inl rfl
  cases e1 : x.r == y.r
  · exact .inr (.inl ⟨rfl, rfl⟩)
  cases e2 : x.a == y.a
  · exact .inr (.inr ⟨rfl, rfl, rfl⟩)
  exfalso
  obtain ⟨_, _, _⟩ := x
  obtain ⟨_, _, _⟩ := y
  simp at e0 e1 e2
  subst e0 e1 e2
  exact h rfl

theorem ne_of_atO {xs ys : List Opr} {k : Nat} (he : ¬ xs.getD k Opr.zero = ys.getD k Opr.zero) : ¬ xs = ys := fun h => he (by rw [h])

set_option maxHeartbeats 400000 in
theorem lawSameOps (v u : Value) (xs ys : List Opr) (w : World) (hx : HasO w v xs) (hy : HasO w u ys) (hm : xs.length ≤ 9223372036854775807) :
    Calls Try.prog 25 #[v, u] w fun e w' => e = .returned (.bool (decide (xs = ys))) ∧ ∃ n, w' = w.drewN n := by
  obtain ⟨a, cap, rfl, hc, _, hx⟩ := hx
  obtain ⟨c, cap', rfl, hc', _, hy⟩ := hy
  by_cases hl : xs.length = ys.length
  · by_cases h0 : 0 < xs.length
    · obtain ⟨b, off, rfl, hcell⟩ := hx h0
      obtain ⟨b', off', rfl, hcell'⟩ := hy (by omega)
      have HL : Hid (xs.length = ys.length) := hl
      obtain ⟨L, hL⟩ : ∃ L, L = xs.length := ⟨_, rfl⟩
      rw [← hL] at hm ⊢
      have hL' : ys.length = L := by omega
      rw [hL']
      have HLx : Hid (xs.length = L) := hL.symm
      have HLy : Hid (ys.length = L) := hL'
      rw [← hL] at hcell h0 hc
      rw [hL'] at hcell' hc'
      clear hl hx hy hL hL'
      go_enter Try.func25, Try.ntmps25
      go_wp2
      go_loopw [5] (fun i wr => ∃ k n : Nat, k ≤ L ∧ i = .int .i64 k ∧ Hid (xs.take k = ys.take k) ∧ wr = w.drewN n) (fun i _ => L - (intOf i).toNat)
      case atStart => exact ⟨0, 0, Nat.zero_le _, rfl, rfl, rfl⟩
      case round =>
        obtain ⟨k, n, hk, rfl, HT, rfl⟩ := hrel
        by_cases hlt : k < L
        · obtain ⟨x, hxk⟩ : ∃ x, x = xs.getD k Opr.zero := ⟨_, rfl⟩
          obtain ⟨x0, x1, x2⟩ := hcell k hlt
          rw [← hxk] at x0 x1 x2
          obtain ⟨y, hyk⟩ : ∃ y, y = ys.getD k Opr.zero := ⟨_, rfl⟩
          obtain ⟨y0, y1, y2⟩ := hcell' k hlt
          rw [← hyk] at y0 y1 y2
          have HX : Hid (x = xs.getD k Opr.zero) := hxk
          have HY : Hid (y = ys.getD k Opr.zero) := hyk
          have hlt' : (k : Int) < (L : Int) := by omega
          clear hxk hyk hcell hcell'
          by_cases hxy : x = y
          · subst hxy
            go_wp2
            go_quiet (fail)
            go_wp2
            go_roundw
            case rel => exact ⟨k + 1, n + nq, by omega, by go_num, take_sameO (by have := HLx.out; omega) (by have := HLy.out; omega) HT.out (by rw [← HX.out, ← HY.out]), rfl⟩
            case measure => simp [intOf]; omega
          · have HN : Hid (¬ x = y) := hxy
            rcases opr_ne hxy with e0 | ⟨e0, e1⟩ | ⟨e0, e1, e2⟩
            all_goals
              clear hxy
              go_wp2
              go_quiet (fail)
              go_wp2
              go_ret
              exact ⟨ret_bool (by have := ne_of_atO (k := k) (xs := xs) (ys := ys) (by rw [← HX.out, ← HY.out]; exact HN.out); simp [this]), n + nq, World.drewN_drewN _ _ _⟩
        · go_wp2
          go_ret
          refine ⟨ret_bool ?_, _, rfl⟩
          have h1 := HLx.out
          have h2 := HLy.out
          have := HT.out
          rw [List.take_of_length_le (by omega), List.take_of_length_le (by omega)] at this
          simp [this]
    · have hxn : xs = [] := by cases xs with | nil => rfl | cons _ _ => simp at h0
      have hyn : ys = [] := by cases ys with | nil => rfl | cons _ _ => subst hxn; simp at hl
      subst hxn hyn
      go_enter Try.func25, Try.ntmps25
      go_wp2
      refine wp_loop_rounds 1 ?_
      rw [rounds_succ]
      go_wp2
      go_ret
      exact ⟨ret_bool (by simp), 0, rfl⟩
  · have hne : (((xs.length : Int)) != (ys.length : Int)) = true := by simp; omega
    have HN : Hid (¬ xs = ys) := fun h => hl (by rw [h])
    clear hl
    go_enter Try.func25, Try.ntmps25
    go_wp2
    go_ret
    exact ⟨ret_bool (by have := HN.out; simp [this]), 0, rfl⟩

theorem lawSameO (v u : Value) (xs ys : List Opr) (w : World) (hx : HasO w v xs) (hy : HasO w u ys) (hm : xs.length * 24 ≤ 140737488351232) :
    Calls Try.prog 25 #[v, u] w fun e w' => e = .returned (.bool (decide (xs = ys))) ∧ Le w w' :=
  (lawSameOps v u xs ys w hx hy (by omega)).mono fun _ _ ⟨he, n, hw⟩ => ⟨he, by rw [hw]; exact Le.drewN _ _⟩


theorem lawCopyOps (v : Value) (xs : List Opr) (w : World) (hx : HasO w v xs) (hr : xs.length * 24 ≤ 140737488355328) :
    Calls Try.prog 22 #[v] w fun e w' => ∃ v', e = .returned v' ∧ OwnO w' w.heap.size v' xs ∧ Le w w' := by
  have hown := OwnO.lit w w.heap.size (Nat.le_refl _) [] (by simp)
  have hl := Le.alloc w (.cells #[] 43)
  go_enter Try.func22, Try.ntmps22
  go_wp2_with (at_builtin; refine wp_append_ops rfl _ _ rfl w.heap.size _ _ [] xs rfl rfl hown (hx.le hl) (by simp; omega) (by simp) ?_; intro v' w2 hown2 hgrow _; rw [List.nil_append] at hown2)
  go_ret
  exact ⟨_, rfl, hown2, Below.grown hl hgrow (by simp) (fun g hg => (World.ownsRow.lt hown g hg).1)⟩

/-- The marked operation. -/
abbrev mark : Opr := ⟨0, 77777, 0⟩
/-- v is a slice of the operations xs in the call's own memory, with the two marked ones in the room behind them. -/
def LentO (w : World) (base : Nat) (v : Value) (xs : List Opr) : Prop :=
  ∃ g cap, v = .slice (some ⟨g, 0, none⟩) xs.length cap ∧ xs.length + 2 ≤ cap ∧ OwnO w base (.slice (some ⟨g, 0, none⟩) (xs ++ [mark, mark]).length cap) (xs ++ [mark, mark])

theorem LentO.le {w w' : World} {base : Nat} {v : Value} {xs : List Opr} (h : LentO w base v xs) (hl : Le w w') : LentO w' base v xs := by
  obtain ⟨g, cap, hv, hc, ho⟩ := h
  exact ⟨g, cap, hv, hc, ho.le hl⟩

theorem LentO.has {w : World} {base : Nat} {v : Value} {xs : List Opr} (h : LentO w base v xs) : HasO w v xs := by
  obtain ⟨g, cap, rfl, hc, ho⟩ := h
  refine ⟨_, cap, rfl, by omega, (fun h => by cases h), fun hp => ⟨g, 0, rfl, fun i hi => ?_⟩⟩
  have := ho.has.at (i := i) (by simp; omega)
  rw [List.getD, List.getElem?_append_left hi] at this
  exact this

theorem rowO_shape {w : World} {base n : Nat} {v : Value} {us : List Value} (h : w.ownsRow base 43 3 v n us) (hn : 0 < n) : ∃ g cap, v = .slice (some ⟨g, 0, none⟩) n cap ∧ n ≤ cap ∧ base ≤ g ∧ cap ≤ maxLen := by
  rcases h.2 with ⟨_, h0⟩ | ⟨g, cap, cur, hv, hg, _, hn, hm, _⟩
  · omega
  · exact ⟨g, cap, hv, hn, hg, hm⟩

set_option maxHeartbeats 400000 in
theorem lawLendOps (v : Value) (xs : List Opr) (w : World) (hx : HasO w v xs) (hr : xs.length * 24 ≤ 140737488351232) :
    Calls Try.prog 10 #[v] w fun e w' => ∃ v', e = .returned v' ∧ LentO w' w.heap.size v' xs ∧ Le w w' := by
  obtain ⟨a, cap, rfl⟩ := hx.shape
  go_enter Try.func10, Try.ntmps10
  go_wp2_with (first | (go_at_call 22; refine (lawCopyOps _ xs _ hx (by omega)).mono ?_; rintro e w1 ⟨v1, rfl, hown, hbel⟩; have hsz := hbel.size; have hl2 := OwnO.lit w1 w1.heap.size (Nat.le_refl _) [mark, mark] (by simp)) | (at_builtin; refine wp_append_ops rfl _ _ rfl w.heap.size _ _ xs [mark, mark] rfl rfl (hown.le (Le.alloc _ _)) hl2.has (by simp; omega) (by simp; omega) ?_; intro v2 w2 hown2 hgrow2 _; obtain ⟨g, cap2, rfl, hn2, hg2, hm2⟩ := rowO_shape hown2 (by simp); have hn3 : xs.length + 2 ≤ cap2 := by simpa using hn2))
  go_ret
  refine ⟨_, rfl, ⟨g, cap2, rfl, hn3, hown2⟩, ?_⟩
  exact Below.grown (hbel.trans (Le.alloc _ _)) hgrow2 (by simp; omega) (fun k hk => (World.ownsRow.lt hown k hk).1)

set_option maxHeartbeats 400000 in
theorem lawKeptOps (v u : Value) (xs : List Opr) (base : Nat) (w : World) (hx : LentO w base v xs) (hy : HasO w u xs) (hm : xs.length * 24 ≤ 140737488351232) :
    Calls Try.prog 18 #[v, u] w fun e w' => e = .returned (.bool true) ∧ Le w w' := by
  have hx0 := hx.has
  obtain ⟨g, cap, rfl, hc, ho⟩ := hx
  obtain ⟨c1, c2, c3⟩ := ho.has.at (i := xs.length) (by simp)
  obtain ⟨d1, d2, d3⟩ := ho.has.at (i := xs.length + 1) (by simp)
  rw [List.getD, List.getElem?_append_right (Nat.le_refl _), Nat.sub_self] at c1 c2 c3
  rw [List.getD, List.getElem?_append_right (by omega), show xs.length + 1 - xs.length = 1 by omega] at d1 d2 d3
  simp only [List.getElem?_cons_zero, List.getElem?_cons_succ, Option.getD_some, Nat.zero_add] at c1 c2 c3 d1 d2 d3
  obtain ⟨a, cap', rfl⟩ := hy.shape
  have hcm : cap ≤ maxLen := by obtain ⟨_, _, h1, _, _, h2⟩ := rowO_shape ho (by simp); cases h1; exact h2
  unfold maxLen at hcm
  clear ho
  have hs : decide (xs = xs) = true := by simp
  go_enter Try.func18, Try.ntmps18
  go_wp2_with (go_at_call 25; refine (lawSameOps _ _ xs xs _ hx0 hy (by omega)).mono ?_; rw [hs]; rintro e w1 ⟨rfl, n1, rfl⟩)
  go_ret
  exact ⟨rfl, Le.drewN _ _⟩

end Go.Proofs.Ytnpejgendmgfaaa

/-
  THE WALK over choruslaw12.Folds: it answers true, for every object, state and operations, and turns nothing that was there. Condition: the state's rows and the operations can be copied.
-/
namespace Go.Proofs.Ytnpejgendmgfaaa
open Go.RowKit

set_option maxRecDepth 4000 in
set_option maxHeartbeats 2000000 in
theorem lawFolds (w : World) (o : Int) (v : Value) (s : St) (hx : HasS w v s) (hf : Fit s) (u : Value) (ps : List Opr) (ho : HasO w u ps) (hn : ps.length * 24 ≤ 140737488351232) :
    Calls Try.prog 3 #[.int .i64 o, v, u] w fun e w' => e = .returned (.bool true) ∧ Le w w' := by
  have hx0 := hx
  obtain ⟨vs, rfl, hr⟩ := hx
  have hl := Le.alloc w (.cells (cells4 vs) 25)
  have hb1 := Box.new w (cells4 vs) 25
  obtain ⟨S1, hS1⟩ : ∃ S1, S1 = foldS o s ps 1200 := ⟨_, rfl⟩
  have hfS : Fit S1.1 := by rw [hS1]; exact hf.fold o ps 1200
  have hlS : S1.2.1.length ≤ 9223372036854775807 := by have := foldS_len o s ps 1200; rw [← hS1] at this; omega
  have hfA := fun w' v' u' (h1 : HasS w' v' s) (h2 : HasO w' u' ps) => foldFold o v' u' s ps w' h1 hf h2 hn
  have hfB := fun w' v' u' (h1 : HasS w' v' s) (h2 : HasO w' u' ps) => refFold o v' u' s ps w' h1 hf h2 hn
  rw [← hS1] at hfA hfB
  clear hS1
  obtain ⟨s1, xs1, e1⟩ := S1
  simp only at hfA hfB hfS hlS
  obtain ⟨qu, rfl⟩ := ho.sl
  go_enter Try.func3, Try.ntmps3
  go_wp2_with fail
  refine (lawCopyState (stV vs) s _ (hx0.le hl) hf).mono ?_
  rintro e w1 ⟨_, rfl, ⟨us, rfl, ho1⟩, l1⟩
  go_wp2_with fail
  refine (lawLendOps _ ps _ ((ho.le hl).le l1) hn).mono ?_
  rintro e w2 ⟨vp, rfl, hp, l2⟩
  have hA := Le.alloc w2 (.cells (cells4 us) 25)
  have hb3 := Box.new w2 (cells4 us) 25
  have hx1 : HasS (w2.alloc (.cells (cells4 us) 25)) (stV us) s := OwnS.has ⟨us, rfl, fun i hi => ((ho1 i hi).le l2).le hA⟩
  replace hp := hp.le hA
  have l3 := (l1.trans l2).trans hA
  replace hb1 := hb1.le l3
  replace hl := hl.trans l3
  clear l1 l2 l3 hA ho1
  obtain ⟨qp, rfl⟩ := hp.has.sl
  go_upto_region 2 with fail
  generalize hW : w2.alloc (.cells (cells4 us) 25) = W at hb1 hb3 hl hx1 hp ⊢
  generalize w2.heap.size = g3 at hb3 ⊢
  generalize w1.heap.size = bp at hp
  clear hW
  obtain ⟨x0, x1, x2, x3, _, _, _, _⟩ := hb3.st
  go_wp2_with fail
  refine (hfA W (stV us) (slV qp) hx1 hp.has).mono ?_
  rintro e w3 ⟨_, z3, rfl, ⟨q3, rfl, o3⟩, oz3, l3⟩
  have hA := Le.alloc w3 (.cells (cells4 q3) 25)
  have hb4 := Box.new w3 (cells4 q3) 25
  replace l3 := l3.trans hA
  replace o3 := fun i hi => (o3 i hi).le hA
  replace oz3 := oz3.le hA
  clear x0 x1 x2 x3 hA hfA
  obtain ⟨qz, rfl⟩ := oz3.has.sl
  go_upto_region 3 with fail
  generalize hW : w3.alloc (.cells (cells4 q3) 25) = W3 at hb4 l3 o3 oz3 ⊢
  generalize w3.heap.size = g4 at hb4 ⊢
  clear hW
  obtain ⟨x0, x1, x2, x3, _, _, _, _⟩ := (hb1.le l3).st
  go_wp2_with fail
  refine (hfB W3 (stV vs) (slV qu) (hx0.le (hl.trans l3)) (ho.le (hl.trans l3))).mono ?_
  rintro e w5 ⟨_, z5, rfl, ⟨q5, rfl, o5⟩, oz5, l5⟩
  have hA := Le.alloc w5 (.cells (cells4 q5) 25)
  have hb5 := Box.new w5 (cells4 q5) 25
  replace l5 := l5.trans hA
  replace o5 := fun i hi => (o5 i hi).has.le hA
  replace oz5 := oz5.has.le hA
  replace o3 := fun i hi => (o3 i hi).le l5
  replace oz3 := oz3.le l5
  replace hb4 := hb4.le l5
  replace l3 := l3.trans l5
  clear x0 x1 x2 x3 hA hfB l5
  obtain ⟨qy, rfl⟩ := oz5.sl
  go_upto_region 4 with fail
  generalize hW : w5.alloc (.cells (cells4 q5) 25) = W5 at hb4 hb5 l3 o3 oz3 o5 oz5 ⊢
  generalize w5.heap.size = g5 at hb5 ⊢
  clear hW
  obtain ⟨x0, x1, x2, x3, _, _, _, _⟩ := hb4.st
  obtain ⟨y0, y1, y2, y3, _, _, _, _⟩ := hb5.st
  go_wp2_with fail
  refine (lawSameState (stV q3) (stV q5) s1 s1 _ (OwnS.has ⟨q3, rfl, o3⟩) ⟨q5, rfl, o5⟩ hfS).mono ?_
  rw [show decide (s1 = s1) = true by simp]
  rintro e w6 ⟨rfl, l6⟩
  go_wp2_with fail
  refine (lawSameInts (slV qz) (slV qy) xs1 xs1 _ (oz3.has.le l6) (oz5.le l6) hlS).mono ?_
  rw [show decide (xs1 = xs1) = true by simp]
  rintro e _ ⟨rfl, n7, rfl⟩
  replace l6 := l6.trans (Le.drewN w6 n7)
  generalize hW : w6.drewN n7 = W6 at l6 ⊢
  clear hW x0 x1 x2 x3 y0 y1 y2 y3 o5 oz5 hb5
  replace o3 := fun i hi => (o3 i hi).le l6
  replace oz3 := oz3.le l6
  replace hb4 := hb4.le l6
  replace l3 := l3.trans l6
  obtain ⟨x0, x1, x2, x3, _, _, _, _⟩ := hb4.st
  go_wp2_with (go_at_call 15; refine (lawNum _ _).mono ?_; rintro e _ ⟨rfl, rfl⟩)
  refine (lawSpoilState (stV q3) W.heap.size _ (OwnS.ints ⟨q3, rfl, o3⟩) l3.size).mono ?_
  rintro e w7 ⟨rfl, s7⟩
  have hz7 := (oz3.ints).spoilt s7
  have hs7 := s7.below.size
  go_wp2_with fail
  refine (lawSpoil (slV qz) W.heap.size _ hz7).mono ?_
  rintro e w8 ⟨rfl, s8⟩
  replace l3 : Le W w8 := Below.trans l3 (s7.trans s8).below
  clear x0 x1 x2 x3 o3 hb4 s7 s8 hz7 hs7 oz3 l6
  obtain ⟨y0, y1, y2, y3, _, _, _, _⟩ := (hb3.le l3).st
  obtain ⟨x0, x1, x2, x3, _, _, _, _⟩ := (hb1.le l3).st
  go_wp2_with fail
  refine (lawSameState (stV us) (stV vs) s s _ (hx1.le l3) (hx0.le (hl.trans l3)) hf).mono ?_
  rw [show decide (s = s) = true by simp]
  rintro e w9 ⟨rfl, l9⟩
  go_wp2_with fail
  refine (lawKeptOps (slV qp) (slV qu) ps bp _ (hp.le (l3.trans l9)) (ho.le ((hl.trans l3).trans l9)) hn).mono ?_
  rintro e w10 ⟨rfl, l10⟩
  go_wp2_with fail
  refine (lawAwake12 _).mono ?_
  rintro e w11 ⟨rfl, l11⟩
  go_wp2_with fail
  go_ret
  exact ⟨rfl, (((hl.trans l3).trans l9).trans l10).trans l11⟩

end Go.Proofs.Ytnpejgendmgfaaa

/-
  PLAIN GROUND: what a row's reading says of a slice of numbers and of a state that came in: the numbers that each row holds, and that its bytes are within the reach. No condition.
-/
namespace Go.Proofs.Ytnpejgendmgfaaa
open Go.ChangeShapes Go.WideShapes Go.ChangeAt Go.RowKit Go.Joins

theorem bytesInt : Try.prog.bytesOf 3 = 8 := by kernel_rfl
theorem cellsState : Try.prog.cellsOf 25 = 4 := by kernel_rfl
theorem cellsRows : Try.prog.cellsOf 23 = 4 := by kernel_rfl
theorem cellsInts : Try.prog.cellsOf 22 = 1 := by kernel_rfl

theorem has_of_ints {w : World} {a : Addr} {len cap : Nat} {zs : List Int} (hl : len ≤ cap) (hz : zs.length = cap) (hcell : ∀ i, i < zs.length → w.cell? (a.add i) = some (.int .i64 (zs.getD i 0))) : Has w (.slice (some a) len cap) (zs.take len) := by
  have hlen : (zs.take len).length = len := by rw [List.length_take]; omega
  refine ⟨some a, cap, by rw [hlen], by rw [hlen]; exact hl, (fun h => by cases h), fun hp => ?_⟩
  rw [hlen] at hp ⊢
  obtain ⟨b, off, spot⟩ := a
  have hc := hcell 0 (by omega)
  have hspot : spot = none := by simpa [Addr.add] using World.cell?_spot hc
  subst hspot
  refine ⟨b, off, rfl, fun i hi => ?_⟩
  have h1 := hcell i (by omega)
  rw [add_plain] at h1
  rw [h1]
  simp [List.getD, hi]

/-- A slice of numbers, read. -/
theorem open_nums {H : Type} {enc : TypeId × Value → H} {W : World} {n : Nat} {c : Value} {y : DataW H × List MemPlace} (h : DataW.trod enc Try.prog W 0 (fun _ => true) true n 22 [c] = some y)
    (hs : ∀ k ∈ y.1.weights Try.prog 22, k ≤ reachBytes) : ∃ xs, Has W c xs ∧ xs.length * 8 ≤ 140737488351232 := by
  rcases open_ints Try.underlying22 Try.underlying3 (by kernel_rfl) h with ⟨hcs, _⟩ | ⟨x, l, cp, zs, hcs, _, hl, hm, hz, hd, hcell, hwz⟩
  · simp at hcs
    subst hcs
    exact ⟨[], Has.nil _, by decide⟩
  · simp at hcs
    subst hcs
    have hd0 : y.1 = .slice (lits .i64 (zs.take l)) (lits .i64 (zs.drop l)) := congrArg Prod.fst hd
    have := hs _ (by rw [hd0]; simp [DataW.weights, Try.underlying22]; exact Or.inl rfl)
    rw [bytesInt] at this
    simp only [lits, List.length_map, List.length_take, List.length_drop, reachBytes] at this
    exact ⟨zs.take l, has_of_ints hl (by simpa using hz) hcell, by rw [List.length_take]; omega⟩

/-- A state, read. -/
theorem open_state {H : Type} {enc : TypeId × Value → H} {W : World} {base : Nat} {v : Value} {d : DataW H} {p : List MemPlace} (hv : Value.okWide Try.prog W .any base 25 v)
    (h : DataW.Trod enc Try.prog W 0 (fun _ => true) true 25 v d p) (hs : ∀ k ∈ d.weights Try.prog 25, k ≤ reachBytes) : ∃ s, HasS W v s ∧ Fit s := by
  obtain ⟨cs, rfl, hsz⟩ := okWide_struct Try.underlying25 hv
  obtain ⟨c0, c1, c2, c3, rfl⟩ := array4 (hsz.trans cellsState)
  obtain ⟨fuel, hf⟩ := h
  obtain ⟨y, n, hx, _, h1⟩ := trod_struct1 Try.underlying25 hf
  simp [Value.cells, cellsRows] at h1
  obtain ⟨y0, y1, y2, y3, m, hy, t0, t1, t2, t3⟩ := trod_array4 Try.underlying23 cellsInts h1
  have hd : d = .agg [.agg [y0.1, y1.1, y2.1, y3.1]] := by
    have := congrArg Prod.fst hx
    simp only [hy] at this
    exact this
  have hw : ∀ k, k ∈ y0.1.weights Try.prog 22 ∨ k ∈ y1.1.weights Try.prog 22 ∨ k ∈ y2.1.weights Try.prog 22 ∨ k ∈ y3.1.weights Try.prog 22 → k ≤ reachBytes := by
    intro k hk
    refine hs k ?_
    rw [hd]
    simp [DataW.weights, DataW.weightsEach, DataW.weightsAll, Try.underlying25, Try.underlying23]
    exact hk
  obtain ⟨x0, a0, b0⟩ := open_nums t0 (fun k hk => hw k (.inl hk))
  obtain ⟨x1, a1, b1⟩ := open_nums t1 (fun k hk => hw k (.inr (.inl hk)))
  obtain ⟨x2, a2, b2⟩ := open_nums t2 (fun k hk => hw k (.inr (.inr (.inl hk))))
  obtain ⟨x3, a3, b3⟩ := open_nums t3 (fun k hk => hw k (.inr (.inr (.inr hk))))
  obtain ⟨q0, rfl⟩ := a0.sl
  obtain ⟨q1, rfl⟩ := a1.sl
  obtain ⟨q2, rfl⟩ := a2.sl
  obtain ⟨q3, rfl⟩ := a3.sl
  refine ⟨⟨x0, x1, x2, x3⟩, ⟨fun i => match i with | 0 => q0 | 1 => q1 | 2 => q2 | _ => q3, rfl, fun i hi => ?_⟩, fun i hi => ?_⟩
  · rcases four hi with rfl | rfl | rfl | rfl
    · exact a0
    · exact a1
    · exact a2
    · exact a3
  · rcases four hi with rfl | rfl | rfl | rfl
    · exact b0
    · exact b1
    · exact b2
    · exact b3

end Go.Proofs.Ytnpejgendmgfaaa

/-
  PLAIN GROUND: what a row's reading says of a slice of operations that came in: which it holds, and that they can be copied. No condition.
-/
namespace Go.Proofs.Ytnpejgendmgfaaa
open Go.ChangeShapes Go.WideShapes Go.ChangeAt Go.RowKit Go.Joins Go.Deep

theorem bytesOpO : Try.prog.bytesOf 43 = 24 := by kernel_rfl
theorem cellsOpO : Try.prog.cellsOf 43 = 3 := by kernel_rfl
theorem cellsIntO : Try.prog.cellsOf 3 = 1 := by kernel_rfl

/-- Three cells that read as an operation are three numbers. -/
theorem trod_opr {H : Type} {enc : TypeId × Value → H} {W : World} {n : Nat} {c0 c1 c2 : Value} {y : DataW H × List MemPlace} (h : DataW.trod enc Try.prog W 0 (fun _ => true) true n 43 [c0, c1, c2] = some y) :
    ∃ c r a : Int, c0 = .int .i64 c ∧ c1 = .int .i64 r ∧ c2 = .int .i64 a := by
  obtain ⟨z0, z1, z2, m', _, _, g0, g1, g2⟩ := trod_struct3 Try.underlying43 h
  simp [cellsIntO] at g0 g1 g2
  obtain ⟨c, e0, _, wc⟩ := DataW.trod_int Try.underlying3 g0
  obtain ⟨r, e1, _, wr⟩ := DataW.trod_int Try.underlying3 g1
  obtain ⟨a, e2, _, wa⟩ := DataW.trod_int Try.underlying3 g2
  simp at e0 e1 e2
  exact ⟨c, r, a, e0, e1, e2⟩

/-- A slice of operations, read. -/
theorem open_ops {H : Type} {enc : TypeId × Value → H} {W : World} {n : Nat} {c : Value} {y : DataW H × List MemPlace} (h : DataW.trod enc Try.prog W 0 (fun _ => true) true n 26 [c] = some y)
    (hs : ∀ k ∈ y.1.weights Try.prog 26, k ≤ reachBytes) : ∃ ss, HasO W c ss ∧ ss.length * 24 ≤ 140737488351232 := by
  rcases open_slice Try.underlying26 h with ⟨hcs, _⟩ | ⟨a, len, cap, m, n', D, Pl, hcs, _, hl, hm, hmm, rfl, hx⟩
  · simp at hcs
    subst hcs
    exact ⟨[], HasO.nil _, by decide⟩
  · simp at hcs
    subst hcs
    simp only [if_true] at hmm
    subst hmm
    rw [cellsOpO] at hx
    have hw := hs _ (by simp [DataW.weights, Try.underlying26]; exact Or.inl rfl)
    rw [bytesOpO] at hw
    have each : ∀ i, i < m → ∃ s : Opr, ∀ j, j < 3 → W.cell? ((a.add (i * 3)).add j) = s.vals[j]? := by
      intro i hi
      obtain ⟨cs', h1, h2⟩ := hx i hi
      obtain ⟨_, hlen, hcell⟩ := World.cells?_some h1
      match cs', hlen with
      | [c0, c1, c2], _ =>
        obtain ⟨c, r, a', rfl, rfl, rfl⟩ := trod_opr h2
        exact ⟨⟨c, r, a'⟩, fun j hj => by rw [hcell j (by omega)]; rfl⟩
    have : Inhabited Opr := ⟨Opr.zero⟩
    obtain ⟨s, hsl⟩ := choose_lt each
    refine ⟨(List.range len).map s, ?_, by rw [List.length_map, List.length_range]; simp only [reachBytes] at hw; omega⟩
    have hlen : ((List.range len).map s).length = len := by simp
    refine ⟨some a, m, by rw [hlen], by rw [hlen]; exact hl, (fun h => by cases h), fun hp => ?_⟩
    rw [hlen] at hp ⊢
    obtain ⟨b, off, spot⟩ := a
    have hc := hsl 0 (by omega) 0 (by omega)
    have hspot : spot = none := by simpa [Addr.add] using World.cell?_spot hc
    subst hspot
    refine ⟨b, off, rfl, fun i hi => OprAt.of fun j hj => ?_⟩
    have h1 := hsl i (by omega) j hj
    rw [add_plain, add_plain] at h1
    rw [h1]
    simp [List.getD, hi]

/-- A slice of operations as a parameter, read. -/
theorem open_opsv {H : Type} {enc : TypeId × Value → H} {W : World} {base : Nat} {v : Value} {d : DataW H} {p : List MemPlace} (hv : Value.okWide Try.prog W .any base 26 v)
    (h : DataW.Trod enc Try.prog W 0 (fun _ => true) true 26 v d p) (hs : ∀ k ∈ d.weights Try.prog 26, k ≤ reachBytes) : ∃ ss, HasO W v ss ∧ ss.length * 24 ≤ 140737488351232 := by
  obtain ⟨a, len, cap, rfl⟩ := okWide_slice Try.underlying26 hv
  obtain ⟨fuel, hf⟩ := h
  exact open_ops (y := (d, p)) hf hs

end Go.Proofs.Ytnpejgendmgfaaa
