/-
  THE WALK over package fold's Fold: what it answers, for every object, state and operations. Condition: the state's rows and the operations can be copied.
-/
import Derived.Test.YtnpejgendmgfaaaFoA
namespace Go.Proofs.Ytnpejgendmgfaaa
open Go.RowKit

set_option maxRecDepth 4000 in
set_option maxHeartbeats 1000000 in
theorem foldFold (o : Int) (v u : Value) (s : St) (ps : List Opr) (w : World) (hx : HasS w v s) (hf : Fit s) (ho : HasO w u ps) (hn : ps.length * 24 ≤ 140737488351232) :
    Calls Try.prog 11 #[.int .i64 o, v, u] w fun e w' => ∃ (v' z : Value), e = .returned (.tuple #[v', z, .int .i64 (foldS o s ps 1200).2.2]) ∧ OwnS w' w.heap.size v' (foldS o s ps 1200).1 ∧ Own w' w.heap.size z (foldS o s ps 1200).2.1 ∧ Le w w' := by
  have hx0 := hx
  obtain ⟨vs, rfl, hr⟩ := hx
  have hb2 := Box.new (w.alloc (.cells (cells4 vs) 25)) (cells4 fun _ => slZ) 25
  rw [World.size_alloc] at hb2
  have hl := (Le.alloc w (.cells (cells4 vs) 25)).trans (Le.alloc _ (.cells (cells4 fun _ => slZ) 25))
  have hs0 := hl.size
  have hin := foldInTurn o (stV vs) u s ps _ (hx0.le hl) hf (ho.le hl) hn
  obtain ⟨qu, rfl⟩ := ho.sl
  cases hm : foldMay o s ps
  · rw [foldS_no 1200 hm]
    rw [hm] at hin
    go_enter Try.func11, Try.ntmps11
    go_wp2_with fail
    refine hin.mono ?_
    rintro e w1 ⟨q, z, rfl, l1, _⟩
    have hA := Le.alloc w1 (.cells (cells4 q) 25)
    replace hb2 := (hb2.le l1).le hA
    replace hl := (hl.trans l1).trans hA
    clear l1 hA hin
    go_upto_region 4 with fail
    generalize hW : w1.alloc (.cells (cells4 q) 25) = W at hb2 hl ⊢
    clear hW
    obtain ⟨z0, z1, z2, z3, e0, e1, e2, e3⟩ := hb2.st
    go_wp2_with fail
    refine bodyPost_ret (v := .tuple #[stZ, .slice none 0 0, .int .i64 1200]) (by simp [results, Try.results11, go_sem, z0, z1, z2, z3]) rfl ⟨stZ, _, rfl, OwnS.zero _ _, Own.nil _ _, ?_⟩
    exact hl.set4 (by omega) _ _ _ _
  · rw [foldS_yes 1200 hm]
    rw [hm] at hin
    go_enter Try.func11, Try.ntmps11
    go_wp2_with fail
    refine hin.mono ?_
    rintro e w1 ⟨q, z, rfl, l1, h1⟩
    obtain ⟨⟨_, hq, o1⟩, oz⟩ := h1 trivial
    simp only at hq o1 oz ⊢
    have hA := Le.alloc w1 (.cells (cells4 q) 25)
    replace hb2 := (hb2.le l1).le hA
    replace hl := (hl.trans l1).trans hA
    have o3 : OwnS (w1.alloc (.cells (cells4 q) 25)) w.heap.size (stV q) (foldSt o s ps) := ((h1 trivial).1.le hA).base hs0
    have z3 : Own (w1.alloc (.cells (cells4 q) 25)) w.heap.size z (foldAn o s ps) := (oz.le hA).base hs0
    have hb3 := Box.new w1 (cells4 q) 25
    have hne : w1.heap.size ≠ w.heap.size + 1 := by have := l1.size; simp only [World.size_alloc] at this; omega
    clear l1 hA hin h1 oz o1 hq
    obtain ⟨qz, rfl⟩ := z3.has.sl
    go_upto_region 3 with fail
    generalize hW : w1.alloc (.cells (cells4 q) 25) = W at hb2 hb3 hl o3 z3 ⊢
    generalize w1.heap.size = g3 at hb3 hne ⊢
    clear hW
    obtain ⟨b0, b1, b2, b3, _, _, _, _⟩ := hb3.st
    obtain ⟨y0, y1, y2, y3, e0, e1, e2, e3⟩ := hb2.st
    go_wp2_with fail
    refine bodyPost_ret (v := .tuple #[stV q, slV qz, .int .i64 0]) (by simp [results, Try.results11, go_sem, y0, y1, y2, y3]) rfl ⟨_, _, rfl, ?_, ?_, ?_⟩
    · obtain ⟨_, hq, o1⟩ := o3
      refine ⟨_, hq, fun i hi => (o1 i hi).set4 hb2 (by decide) _ _ _ _⟩
    · exact z3.set4 hb2 (by decide) _ _ _ _
    · exact hl.set4 (by omega) _ _ _ _

end Go.Proofs.Ytnpejgendmgfaaa
