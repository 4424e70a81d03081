/-
  PLAIN GROUND: package fold's Fold with its answer written out, as the laws use it. Condition: the state's rows and the operations can be copied.
-/
import Derived.Test.YtnpejgendmgfaaaFoAwake
import Derived.Test.YtnpejgendmgfaaaStC
namespace Go.Proofs.Ytnpejgendmgfaaa
open Go.RowKit

/-- A fold's answer S in variables. -/
theorem foldAs {o : Int} {v u : Value} {s : St} {ps : List Opr} {w : World} {a1 : St} {xs : List Int} {e1 : Int} (hx : HasS w v s) (hf : Fit s) (ho : HasO w u ps) (hn : ps.length * 24 ≤ 140737488351232) (hS : foldS o s ps 1200 = (a1, xs, e1)) :
    Calls Try.prog 11 #[.int .i64 o, v, u] w fun e w' => ∃ (q : Nat → Sl) (z : Sl), e = .returned (.tuple #[stV q, slV z, .int .i64 e1]) ∧ HasS w' (stV q) a1 ∧ Own w' w.heap.size (slV z) xs ∧ Le w w' := by
  have h := foldFold o v u s ps w hx hf ho hn
  simp only [hS] at h
  refine h.mono ?_
  rintro e w' ⟨v', z, rfl, ⟨q, rfl, hq⟩, hz, l⟩
  obtain ⟨z, rfl⟩ := hz.has.sl
  exact ⟨q, z, rfl, OwnS.has ⟨q, rfl, hq⟩, hz, l⟩

/-- .. and its rows are the call's own. -/
theorem foldAsO {o : Int} {v u : Value} {s : St} {ps : List Opr} {w : World} {a1 : St} {xs : List Int} {e1 : Int} (hx : HasS w v s) (hf : Fit s) (ho : HasO w u ps) (hn : ps.length * 24 ≤ 140737488351232) (hS : foldS o s ps 1200 = (a1, xs, e1)) :
    Calls Try.prog 11 #[.int .i64 o, v, u] w fun e w' => ∃ (q : Nat → Sl) (z : Sl), e = .returned (.tuple #[stV q, slV z, .int .i64 e1]) ∧ OwnS w' w.heap.size (stV q) a1 ∧ Own w' w.heap.size (slV z) xs ∧ Le w w' := by
  have h := foldFold o v u s ps w hx hf ho hn
  simp only [hS] at h
  refine h.mono ?_
  rintro e w' ⟨v', z, rfl, ⟨q, rfl, hq⟩, hz, l⟩
  obtain ⟨z, rfl⟩ := hz.has.sl
  exact ⟨q, z, rfl, ⟨q, rfl, hq⟩, hz, l⟩

theorem HasO.nil0 (w : World) : HasO w (.slice none 0 0) [] := HasO.nil w
theorem HasO.lit1 (w : World) (p : Opr) : HasO (w.alloc (.cells #[.int .i64 p.c, .int .i64 p.r, .int .i64 p.a] 43)) (.slice (some ⟨w.heap.size, 0, none⟩) 1 1) [p] :=
  (OwnO.lit w w.heap.size (Nat.le_refl _) [p] (by simp)).has
theorem Has.lit1 (w : World) (x : Int) : Has (w.alloc (.cells #[.int .i64 x] 3)) (.slice (some ⟨w.heap.size, 0, none⟩) 1 1) [x] :=
  (Own.lit w w.heap.size (Nat.le_refl _) [x] (by simp)).has

theorem foldS_fit {o : Int} {s : St} {ps : List Opr} {a1 : St} {xs : List Int} {e1 : Int} (hf : Fit s) (hS : foldS o s ps 1200 = (a1, xs, e1)) : Fit a1 := by
  have := hf.fold o ps 1200
  rw [hS] at this; exact this
theorem foldS_lens {o : Int} {s : St} {ps : List Opr} {a1 : St} {xs : List Int} {e1 : Int} (hS : foldS o s ps 1200 = (a1, xs, e1)) : xs.length ≤ ps.length := by
  have := foldS_len o s ps 1200
  rw [hS] at this; exact this

end Go.Proofs.Ytnpejgendmgfaaa
