/-
  THE WALKS over the document's own NewRing, FreeTo, Entry: what each answers, for every ring and number. Condition: that the slots can be copied.
-/
import Derived.Test.YtgjhbhnfeeleeaaRfB
namespace Go.Proofs.Ytgjhbhnfeeleeaa
open Go.RowKit

set_option maxHeartbeats 1000000 in
theorem refNewRing (n : Int) (w : World) : Calls Try.prog 15 #[.int .i64 n] w fun e w' => ∃ v', e = .returned (.tuple #[v', .int .i64 (newS n).2]) ∧ OwnR w' w.heap.size v' (newS n).1 ∧ Le w w' := by
  have m1 := fun w => refSlotsMay n w
  have hb := Box.new w (cellsR 0 0 0 slZ) 24
  have hl := Le.alloc w (.cells (cellsR 0 0 0 slZ) 24)
  obtain ⟨b0, b1, b2, b3, f0, f1, f2, f3⟩ := hb.ring
  cases hn : slotsB n
  · rw [hn] at m1
    simp only [newS, hn]
    go_enter Try.func15, Try.ntmps15
    go_wp2_with (go_at_call 24; refine (m1 _).mono ?_; rintro e _ ⟨rfl, rfl⟩)
    refine bodyPost_ret (v := .tuple #[ringZ, .int .i64 1000]) (by simp [results, Try.results15, go_sem]) rfl ⟨_, rfl, OwnR.zero _ _, ?_⟩
    exact hl
  · rw [hn] at m1
    simp only [newS, hn]
    have k2 := make2
    have k4 := make4
    have k8 := make8
    have k16 := make16
    rcases slotsB_cases hn with rfl | rfl | rfl | rfl
    · go_enter Try.func15, Try.ntmps15
      go_wp2_with (go_at_call 24; refine (m1 _).mono ?_; rintro e _ ⟨rfl, rfl⟩)
      refine bodyPost_ret (v := .tuple #[ringV 0 0 0 (some ⟨w.heap.size + 1, 0, none⟩, 2, 2), .int .i64 0]) (by simp [results, Try.results15, go_sem]) rfl ⟨_, rfl, ⟨_, rfl, ?_⟩, (Le.alloc _ _).trans (Le.alloc _ _)⟩
      have := OwnL.made (w.alloc (.cells (cellsR 0 0 0 (some ⟨w.heap.size + 1, 0, none⟩, 2, 2)) 24)) w.heap.size 2 (by simp) (by decide)
      simp only [World.size_alloc] at this
      exact this
    · go_enter Try.func15, Try.ntmps15
      go_wp2_with (go_at_call 24; refine (m1 _).mono ?_; rintro e _ ⟨rfl, rfl⟩)
      refine bodyPost_ret (v := .tuple #[ringV 0 0 0 (some ⟨w.heap.size + 1, 0, none⟩, 4, 4), .int .i64 0]) (by simp [results, Try.results15, go_sem]) rfl ⟨_, rfl, ⟨_, rfl, ?_⟩, (Le.alloc _ _).trans (Le.alloc _ _)⟩
      have := OwnL.made (w.alloc (.cells (cellsR 0 0 0 (some ⟨w.heap.size + 1, 0, none⟩, 4, 4)) 24)) w.heap.size 4 (by simp) (by decide)
      simp only [World.size_alloc] at this
      exact this
    · go_enter Try.func15, Try.ntmps15
      go_wp2_with (go_at_call 24; refine (m1 _).mono ?_; rintro e _ ⟨rfl, rfl⟩)
      refine bodyPost_ret (v := .tuple #[ringV 0 0 0 (some ⟨w.heap.size + 1, 0, none⟩, 8, 8), .int .i64 0]) (by simp [results, Try.results15, go_sem]) rfl ⟨_, rfl, ⟨_, rfl, ?_⟩, (Le.alloc _ _).trans (Le.alloc _ _)⟩
      have := OwnL.made (w.alloc (.cells (cellsR 0 0 0 (some ⟨w.heap.size + 1, 0, none⟩, 8, 8)) 24)) w.heap.size 8 (by simp) (by decide)
      simp only [World.size_alloc] at this
      exact this
    · go_enter Try.func15, Try.ntmps15
      go_wp2_with (go_at_call 24; refine (m1 _).mono ?_; rintro e _ ⟨rfl, rfl⟩)
      refine bodyPost_ret (v := .tuple #[ringV 0 0 0 (some ⟨w.heap.size + 1, 0, none⟩, 16, 16), .int .i64 0]) (by simp [results, Try.results15, go_sem]) rfl ⟨_, rfl, ⟨_, rfl, ?_⟩, (Le.alloc _ _).trans (Le.alloc _ _)⟩
      have := OwnL.made (w.alloc (.cells (cellsR 0 0 0 (some ⟨w.heap.size + 1, 0, none⟩, 16, 16)) 24)) w.heap.size 16 (by simp) (by decide)
      simp only [World.size_alloc] at this
      exact this

set_option maxHeartbeats 1000000 in
theorem refFreeTo (v : Value) (R : Rg) (p : Int) (w : World) (hx : HasR w v R) (hf : FitR R) : Calls Try.prog 16 #[v, .int .i64 p] w fun e w' =>
    ∃ v', e = .returned (.tuple #[v', .int .i64 (freeS R p).2]) ∧ OwnR w' w.heap.size v' (freeS R p).1 ∧ Le w w' := by
  have hmay := fun w' (l : Le w w') => refRingMay v R w' (hx.le l) hf
  unfold freeS freeB
  obtain ⟨hh, t, f, ss⟩ := R
  obtain ⟨q, rfl, hq⟩ := hx
  simp only at hq hmay ⊢
  replace hf : ss.length * 40 ≤ 140737488351232 := hf
  have hl := (Le.alloc w (.cells (cellsR hh t f q) 24)).trans (Le.alloc _ (.cells (cellsR 0 0 0 slZ) 24))
  have hb := (Box.new w (cellsR hh t f q) 24).le (Le.alloc _ (.cells (cellsR 0 0 0 slZ) 24))
  have hb2 := Box.new (w.alloc (.cells (cellsR hh t f q) 24)) (cellsR 0 0 0 slZ) 24
  rw [World.size_alloc] at hb2
  have hm := hmay _ hl
  clear hmay
  cases h1 : mayR ⟨hh, t, f, ss⟩
  · rw [h1] at hm
    simp only [Bool.false_and]
    clear h1
    go_enter Try.func16, Try.ntmps16
    go_wp2_with fail
    refine hm.mono ?_
    rintro e w1 ⟨rfl, l1⟩
    obtain ⟨z0, z1, z2, z3, f0, f1, f2, f3⟩ := (hb2.le l1).ring
    go_wp2_with fail
    refine bodyPost_ret (v := .tuple #[ringZ, .int .i64 1000]) (by simp [results, Try.results16, go_sem, z0, z1, z2, z3]) rfl ⟨_, rfl, OwnR.zero _ _, ?_⟩
    exact (hl.trans l1).put4 (by omega)
  · rw [h1] at hm
    clear h1
    rcases (by omega : p < hh ∨ (hh ≤ p ∧ t < p) ∨ (hh ≤ p ∧ p ≤ t)) with h2 | ⟨h2, h3⟩ | ⟨h2, h3⟩
    · rw [show (true && decide (hh ≤ p) && decide (p ≤ t)) = false by simp; omega]
      simp only [Bool.false_eq_true, ↓reduceIte]
      go_enter Try.func16, Try.ntmps16
      go_wp2_with fail
      refine hm.mono ?_
      rintro e w1 ⟨rfl, l1⟩
      obtain ⟨b0, b1, b2, b3, _, _, _, _⟩ := (hb.le l1).ring
      obtain ⟨z0, z1, z2, z3, f0, f1, f2, f3⟩ := (hb2.le l1).ring
      go_wp2_with fail
      refine bodyPost_ret (v := .tuple #[ringZ, .int .i64 1000]) (by simp [results, Try.results16, go_sem, z0, z1, z2, z3]) rfl ⟨_, rfl, OwnR.zero _ _, ?_⟩
      exact (hl.trans l1).put4 (by omega)
    · rw [show (true && decide (hh ≤ p) && decide (p ≤ t)) = false by simp; omega]
      simp only [Bool.false_eq_true, ↓reduceIte]
      go_enter Try.func16, Try.ntmps16
      go_wp2_with fail
      refine hm.mono ?_
      rintro e w1 ⟨rfl, l1⟩
      obtain ⟨b0, b1, b2, b3, _, _, _, _⟩ := (hb.le l1).ring
      obtain ⟨z0, z1, z2, z3, f0, f1, f2, f3⟩ := (hb2.le l1).ring
      go_wp2_with fail
      refine bodyPost_ret (v := .tuple #[ringZ, .int .i64 1000]) (by simp [results, Try.results16, go_sem, z0, z1, z2, z3]) rfl ⟨_, rfl, OwnR.zero _ _, ?_⟩
      exact (hl.trans l1).put4 (by omega)
    · rw [show (true && decide (hh ≤ p) && decide (p ≤ t)) = true by simp; omega]
      simp only
      go_enter Try.func16, Try.ntmps16
      go_wp2_with fail
      refine hm.mono ?_
      rintro e w1 ⟨rfl, l1⟩
      obtain ⟨b0, b1, b2, b3, _, _, _, _⟩ := (hb.le l1).ring
      go_wp2_with fail
      have hap := refCopyRing hh t f q ss _ (hq.le (hl.trans l1)) hf
      refine hap.mono ?_
      rintro e w2 ⟨u, rfl, hown, l2⟩
      have hbz := (hb2.le l1).le l2
      have hlw := (hl.trans l1).trans l2
      have hne1 : (slV u).ownBlock ≠ some (w.heap.size + 1) := hown.off (hb2.le l1).lt
      have hbs : w.heap.size ≤ w1.heap.size := (hl.trans l1).size
      have hlt := hbz.lt
      have m1 : ¬ w.heap.size + 1 = w2.heap.size := by omega
      have hbo := Box.new w2 (cellsR p t f u) 24
      have lo := Le.alloc w2 (.cells (cellsR p t f u) 24)
      clear b0 b1 b2 b3 hap hm hb hb2 hl
      go_upto_region 5 with fail
      generalize hW : w2.alloc (.cells (cellsR p t f u) 24) = W at hbo lo ⊢
      clear hW
      obtain ⟨c0, c1, c2, c3, _, _, _, _⟩ := hbo.ring
      obtain ⟨z0, z1, z2, z3, f0, f1, f2, f3⟩ := (hbz.le lo).ring
      go_wp2_with fail
      refine bodyPost_ret (v := .tuple #[ringV p t f u, .int .i64 0]) (by simp [results, Try.results16, go_sem, z0, z1, z2, z3]) rfl ⟨_, rfl, ⟨u, rfl, ?_⟩, ?_⟩
      · exact ((hown.le lo).set4 hne1).base (by omega)
      · exact (hlw.trans lo).put4 (by omega)

end Go.Proofs.Ytgjhbhnfeeleeaa
