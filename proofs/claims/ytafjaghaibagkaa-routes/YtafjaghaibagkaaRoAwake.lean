/-
  THE WALK over choruslaw7.awake: it answers true and turns nothing that was there. No condition.
-/
import Derived.Test.YtafjaghaibagkaaRoB
import Derived.Test.YtafjaghaibagkaaNumA
import Derived.Deep.Cut
namespace Go.Proofs.Ytafjaghaibagkaa
open Go.RowKit

theorem ro1 : logS 0 3 0 2 = (1, 0) := by decide
theorem ro2 : logS 3 0 0 2 = (0, 700) := by decide
theorem ro3 : partS ⟨[1], [2], [3], [4]⟩ 1 2 = (⟨[], [2], [], [4]⟩, 0) := by decide
theorem ro4 : partS ⟨[1], [2], [3], [4]⟩ 2 2 = (St.zero, 700) := by decide

theorem litOwn {w : World} {base : Nat} (x : Int) (hb : base ≤ w.heap.size) : Own (w.alloc (.cells #[.int .i64 x] 3)) base (slV (some ⟨w.heap.size, 0, none⟩, 1, 1)) [x] := Own.lit w _ hb [x] (by simp)

/-- A state of four rows of one number each, made. -/
theorem lit4 (w : World) (a b c d : Int) : ∃ (W : World) (q : Nat → Sl), W = (((((w.alloc (.cells #[.int .i64 a] 3)).alloc (.cells #[.int .i64 b] 3)).alloc (.cells #[.int .i64 c] 3)).alloc (.cells #[.int .i64 d] 3)).alloc (.cells #[.slice (some ⟨w.heap.size, 0, none⟩) 1 1, .slice (some ⟨w.heap.size + 1, 0, none⟩) 1 1, .slice (some ⟨w.heap.size + 1 + 1, 0, none⟩) 1 1, .slice (some ⟨w.heap.size + 1 + 1 + 1, 0, none⟩) 1 1] 27)) ∧
    Le w W ∧ OwnS W w.heap.size (stV q) ⟨[a], [b], [c], [d]⟩ ∧ Box W (w.heap.size + 1 + 1 + 1 + 1) (cells4 q) 27 := by
  have hA : ∀ x : Int, ∀ W : World, Le W (W.alloc (.cells #[.int .i64 x] 3)) := fun x W => Le.alloc _ _
  have o1 := litOwn (w := w) (base := w.heap.size) a (Nat.le_refl _)
  have o2 := litOwn (w := w.alloc (.cells #[.int .i64 a] 3)) (base := w.heap.size) b (by simp)
  have o3 := litOwn (w := (w.alloc (.cells #[.int .i64 a] 3)).alloc (.cells #[.int .i64 b] 3)) (base := w.heap.size) c (by simp; omega)
  have o4 := litOwn (w := ((w.alloc (.cells #[.int .i64 a] 3)).alloc (.cells #[.int .i64 b] 3)).alloc (.cells #[.int .i64 c] 3)) (base := w.heap.size) d (by simp; omega)
  replace o1 := ((o1.le (hA b _)).le (hA c _)).le (hA d _)
  replace o2 := (o2.le (hA c _)).le (hA d _)
  replace o3 := o3.le (hA d _)
  have l2 := (((hA a w).trans (hA b _)).trans (hA c _)).trans (hA d _)
  simp only [World.size_alloc] at o1 o2 o3 o4
  let q : Nat → Sl := fun i => match i with | 0 => (some ⟨w.heap.size, 0, none⟩, 1, 1) | 1 => (some ⟨w.heap.size + 1, 0, none⟩, 1, 1) | 2 => (some ⟨w.heap.size + 1 + 1, 0, none⟩, 1, 1) | _ => (some ⟨w.heap.size + 1 + 1 + 1, 0, none⟩, 1, 1)
  have hb := Box.new ((((w.alloc (.cells #[.int .i64 a] 3)).alloc (.cells #[.int .i64 b] 3)).alloc (.cells #[.int .i64 c] 3)).alloc (.cells #[.int .i64 d] 3)) (cells4 q) 27
  have hl := Le.alloc ((((w.alloc (.cells #[.int .i64 a] 3)).alloc (.cells #[.int .i64 b] 3)).alloc (.cells #[.int .i64 c] 3)).alloc (.cells #[.int .i64 d] 3)) (.cells (cells4 q) 27)
  simp only [World.size_alloc] at hb
  refine ⟨_, q, rfl, l2.trans hl, ⟨q, rfl, fun i hi => ?_⟩, hb⟩
  rcases four hi with rfl | rfl | rfl | rfl
  · exact o1.le hl
  · exact o2.le hl
  · exact o3.le hl
  · exact o4.le hl

set_option maxRecDepth 4000 in
set_option maxHeartbeats 4000000 in
theorem lawAwake7 (w : World) : Calls Try.prog 15 #[] w fun e w' => e = .returned (.bool true) ∧ Le w w' := by
  go_enter Try.func15, Try.ntmps15
  go_wp2_with fail
  refine (routeLog 0 3 0 2 _).mono ?_
  rw [ro1]
  rintro e w1 ⟨rfl, l1⟩
  go_wp2_with fail
  refine (routeLog 3 0 0 2 _).mono ?_
  rw [ro2]
  rintro e w2 ⟨rfl, l2⟩
  replace l1 := l1.trans l2
  clear l2
  go_upto_region 4 with fail
  obtain ⟨W, q, hW, l2, hq, hb⟩ := lit4 w2 1 2 3 4
  rw [← hW]
  generalize w2.heap.size + 1 + 1 + 1 + 1 = g5 at hb ⊢
  clear hW
  replace hq := hq.has
  replace l1 := l1.trans l2
  clear l2
  obtain ⟨y0, y1, y2, y3, _, _, _, _⟩ := hb.st
  have hfit : Fit ⟨[1], [2], [3], [4]⟩ := fit_small (by simp)
  go_wp2_with fail
  refine (routePart (stV q) _ 1 2 _ hq hfit).mono ?_
  rw [ro3]
  rintro e w3 ⟨_, rfl, ⟨q3, rfl, o3⟩, l3⟩
  have hb3 := Box.new w3 (cells4 q3) 27
  have o3' : OwnS w3 W.heap.size (stV q3) ⟨[], [2], [], [4]⟩ := ⟨q3, rfl, o3⟩
  replace l3 := l3.trans (Le.alloc w3 (.cells (cells4 q3) 27))
  have h3 := o3'.has.le (Le.alloc w3 (.cells (cells4 q3) 27))
  replace hb := hb.le l3
  replace hq := hq.le l3
  replace l1 := l1.trans l3
  clear l3 o3 o3' y0 y1 y2 y3
  obtain ⟨y0, y1, y2, y3, _, _, _, _⟩ := hb.st
  go_wp2_with fail
  refine (routePart (stV q) _ 2 2 _ hq hfit).mono ?_
  rw [ro4]
  rintro e w4 ⟨_, rfl, ⟨q4, rfl, o4⟩, l4⟩
  replace l4 := l4.trans (Le.alloc w4 (.cells (cells4 q4) 27))
  replace hb3 := hb3.le l4
  replace h3 := h3.le l4
  replace l1 := l1.trans l4
  clear l4 o4 y0 y1 y2 y3 hq hb
  go_upto_region 6 with fail
  generalize hW : w4.alloc (.cells (cells4 q4) 27) = W4 at hb3 h3 l1 ⊢
  clear hW
  obtain ⟨z0, z1, z2, z3, _, _, _, _⟩ := hb3.st
  have o5 := (litOwn (w := W4) (base := W4.heap.size) 2 (Nat.le_refl _)).le (Le.alloc _ (.cells #[.int .i64 4] 3))
  have o6 := litOwn (w := W4.alloc (.cells #[.int .i64 2] 3)) (base := W4.heap.size) 4 (by simp)
  have l5 := (Le.alloc W4 (.cells #[.int .i64 2] 3)).trans (Le.alloc _ (.cells #[.int .i64 4] 3))
  simp only [World.size_alloc] at o5 o6
  have h5 : HasS ((W4.alloc (.cells #[.int .i64 2] 3)).alloc (.cells #[.int .i64 4] 3)) (.agg #[.slice none 0 0, .slice (some ⟨W4.heap.size, 0, none⟩) 1 1, .slice none 0 0, .slice (some ⟨W4.heap.size + 1, 0, none⟩) 1 1]) ⟨[], [2], [], [4]⟩ := by
    refine ⟨fun i => match i with | 0 => slZ | 1 => (some ⟨W4.heap.size, 0, none⟩, 1, 1) | 2 => slZ | _ => (some ⟨W4.heap.size + 1, 0, none⟩, 1, 1), rfl, fun i hi => ?_⟩
    rcases four hi with rfl | rfl | rfl | rfl
    · exact Has.nil _
    · exact o5.has
    · exact Has.nil _
    · exact o6.has
  have hsame := lawSameState (stV q3) _ _ _ _ (h3.le l5) h5 (fit_small (by simp))
  rw [show decide ((⟨[], [2], [], [4]⟩ : St) = ⟨[], [2], [], [4]⟩) = true by decide] at hsame
  go_wp2_with (first | (go_at_call 12; refine (lawNum _ _).mono ?_; rintro e _ ⟨rfl, rfl⟩) | (go_at_call 13; refine hsame.mono ?_; rintro e w6 ⟨rfl, l6⟩; replace l6 := l5.trans l6; clear hsame))
  go_ret
  exact ⟨rfl, l1.trans l6⟩

end Go.Proofs.Ytafjaghaibagkaa
