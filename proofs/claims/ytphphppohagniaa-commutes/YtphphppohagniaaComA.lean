/-
  THE WALKS over package commute's pair: same, turned: what each answers, for every two pairs. Condition: a slice's length is a number.
-/
import Derived.Test.YtphphppohagniaaEqA
import Derived.Deep.Cut
namespace Go.Proofs.Ytphphppohagniaa
open Go.RowKit

/-- The six cells of a pair. -/
abbrev cells6 (q : Nat → Sl) (x y : Int) : Array Value := #[slV (q 0), slV (q 1), slV (q 2), slV (q 3), .int .i64 x, .int .i64 y]
/-- .. its value. -/
abbrev pairV (q : Nat → Sl) (x y : Int) : Value := .agg (cells6 q x y)

theorem Box.pair {w : World} {g : Nat} {q : Nat → Sl} {x y : Int} {t : TypeId} (h : Box w g (cells6 q x y) t) :
    w.cell? ⟨g, 0, none⟩ = some (slV (q 0)) ∧ w.cell? ⟨g, 1, none⟩ = some (slV (q 1)) ∧ w.cell? ⟨g, 2, none⟩ = some (slV (q 2)) ∧ w.cell? ⟨g, 3, none⟩ = some (slV (q 3)) ∧ w.cell? ⟨g, 4, none⟩ = some (.int .i64 x) ∧ w.cell? ⟨g, 5, none⟩ = some (.int .i64 y) :=
  ⟨h.cell 0, h.cell 1, h.cell 2, h.cell 3, h.cell 4, h.cell 5⟩
theorem Box.pairF {w : World} {g : Nat} {q : Nat → Sl} {x y : Int} {t : TypeId} (h : Box w g (cells6 q x y) t) :
    w.frozen? ⟨g, 0, none⟩ = false ∧ w.frozen? ⟨g, 1, none⟩ = false ∧ w.frozen? ⟨g, 2, none⟩ = false ∧ w.frozen? ⟨g, 3, none⟩ = false ∧ w.frozen? ⟨g, 4, none⟩ = false ∧ w.frozen? ⟨g, 5, none⟩ = false :=
  ⟨h.frozen 0, h.frozen 1, h.frozen 2, h.frozen 3, h.frozen 4, h.frozen 5⟩
theorem Le.set6 {w w' : World} {g : Nat} (h : Le w w') (hg : w.heap.size ≤ g) (x0 x1 x2 x3 x4 x5 : Value) :
    Le w ((((((w'.setCell ⟨g, 0, none⟩ x0).setCell ⟨g, 1, none⟩ x1).setCell ⟨g, 2, none⟩ x2).setCell ⟨g, 3, none⟩ x3).setCell ⟨g, 4, none⟩ x4).setCell ⟨g, 5, none⟩ x5) :=
  (((((Below.setCell h hg _).setCell hg _).setCell hg _).setCell hg _).setCell hg _).setCell hg _

set_option maxHeartbeats 1000000 in
theorem comSame (q q' : Nat → Sl) (x y x' y' : Int) (s t : St) (w : World) (hx : HasS w (stV q) s) (hy : HasS w (stV q') t) (hf : Fit s) :
    Calls Try.prog 16 #[pairV q x y, pairV q' x' y'] w fun e w' => e = .returned (.bool (decide (s = t) && (x == x') && (y == y'))) ∧ Le w w' := by
  have hb1 := (Box.new w (cells6 q x y) 48).le (Le.alloc _ (.cells (cells6 q' x' y') 48))
  have hb2 := Box.new (w.alloc (.cells (cells6 q x y) 48)) (cells6 q' x' y') 48
  rw [World.size_alloc] at hb2
  have hl := (Le.alloc w (.cells (cells6 q x y) 48)).trans (Le.alloc _ (.cells (cells6 q' x' y') 48))
  have hsm := statesSame (stV q) (stV q') s t _ (hx.le hl) (hy.le hl) hf
  generalize decide (s = t) = b at hsm ⊢
  cases b
  all_goals cases hxx : (x == x')
  all_goals cases hyy : (y == y')
  all_goals
    go_enter Try.func16, Try.ntmps16
    go_upto_region 1 with fail
    generalize hW : (w.alloc (.cells (cells6 q x y) 48)).alloc (.cells (cells6 q' x' y') 48) = W at hb1 hb2 hl hsm ⊢
    clear hW
    obtain ⟨c0, c1, c2, c3, c4, c5⟩ := hb1.pair
    obtain ⟨d0, d1, d2, d3, d4, d5⟩ := hb2.pair
    go_wp2_with (go_at_call 28; refine hsm.mono ?_; rintro e w1 ⟨rfl, l1⟩; clear c0 c1 c2 c3 c4 c5 d0 d1 d2 d3 d4 d5; obtain ⟨_, _, _, _, c4, c5⟩ := (hb1.le l1).pair; obtain ⟨_, _, _, _, d4, d5⟩ := (hb2.le l1).pair)
    go_ret
    exact ⟨rfl, hl.trans l1⟩

set_option maxHeartbeats 1000000 in
theorem comTurned (q : Nat → Sl) (x y : Int) (w : World) :
    Calls Try.prog 17 #[pairV q x y] w fun e w' => e = .returned (pairV q y x) ∧ Le w w' := by
  have hb1 := (Box.new w (cells6 q x y) 48).le (Le.alloc _ (.cells (cells6 (fun _ => slZ) 0 0) 48))
  have hb2 := Box.new (w.alloc (.cells (cells6 q x y) 48)) (cells6 (fun _ => slZ) 0 0) 48
  rw [World.size_alloc] at hb2
  have hl := (Le.alloc w (.cells (cells6 q x y) 48)).trans (Le.alloc _ (.cells (cells6 (fun _ => slZ) 0 0) 48))
  go_enter Try.func17, Try.ntmps17
  go_upto_region 1 with fail
  generalize hW : (w.alloc (.cells (cells6 q x y) 48)).alloc (.cells (cells6 (fun _ => slZ) 0 0) 48) = W at hb1 hb2 hl ⊢
  clear hW
  obtain ⟨c0, c1, c2, c3, c4, c5⟩ := hb1.pair
  obtain ⟨d0, d1, d2, d3, d4, d5⟩ := hb2.pair
  obtain ⟨f0, f1, f2, f3, f4, f5⟩ := hb2.pairF
  go_wp2_with fail
  refine bodyPost_ret (v := pairV q y x) (by simp [results, Try.results17, go_sem, d0, d1, d2, d3, d4, d5]) rfl ⟨rfl, ?_⟩
  exact hl.set6 (g := w.heap.size + 1) (by omega) _ _ _ _ _ _

end Go.Proofs.Ytphphppohagniaa
