/-
  PLAIN GROUND, NO WALK: rows of numbers behind a store into a variable that holds a state. No condition.
-/
import Derived.Test.YtnpejgendmgfaaaStB
namespace Go.Proofs.Ytnpejgendmgfaaa
open Go.RowKit

theorem cells4_int (vs : Nat → Sl) (i : Nat) (x : Int) : (cells4 vs)[i]? ≠ some (.int .i64 x) := by
  intro h
  match i, h with
  | 0, h => cases h
  | 1, h => cases h
  | 2, h => cases h
  | 3, h => cases h
  | n + 4, h => simp at h

theorem Has.setBox {w : World} {g i : Nat} {v u : Value} {xs : List Int} {vs : Nat → Sl} {t : TypeId} (h : Has w v xs) (hb : Box w g (cells4 vs) t) : Has (w.setCell ⟨g, i, none⟩ u) v xs := by
  obtain ⟨a, cap, hv, hc, hn, hx⟩ := h
  refine ⟨a, cap, hv, hc, hn, fun hp => ?_⟩
  obtain ⟨b, off, ha, hcell⟩ := hx hp
  refine ⟨b, off, ha, fun j hj => ?_⟩
  have h1 := hcell j hj
  have hne : b ≠ g := by
    intro e
    subst e
    rw [hb.cell (off + j)] at h1
    exact cells4_int vs _ _ h1
  rw [World.cell?_setCell_other _ _ _ _ (fun e => hne (by cases e; rfl))]
  exact h1

theorem Box.upd4 {w : World} {g i : Nat} {vs : Nat → Sl} {t : TypeId} (hb : Box w g (cells4 vs) t) (hi : i < 4) (q : Sl) : Box (w.setCell ⟨g, i, none⟩ (slV q)) g (cells4 (upd vs i q)) t := by
  have := hb.set i (slV q)
  rwa [cells4_upd vs hi] at this

theorem Has.set4 {w : World} {g : Nat} {v : Value} {xs : List Int} {vs us : Nat → Sl} {t : TypeId} (h : Has w v xs) (hb : Box w g (cells4 vs) t) :
    Has ((((w.setCell ⟨g, 0, none⟩ (slV (us 0))).setCell ⟨g, 1, none⟩ (slV (us 1))).setCell ⟨g, 2, none⟩ (slV (us 2))).setCell ⟨g, 3, none⟩ (slV (us 3))) v xs :=
  (((h.setBox hb).setBox (hb.upd4 (by omega) (us 0))).setBox ((hb.upd4 (by omega) (us 0)).upd4 (by omega) (us 1))).setBox (((hb.upd4 (by omega) (us 0)).upd4 (by omega) (us 1)).upd4 (by omega) (us 2))

theorem Box.all4 {w : World} {g : Nat} {vs us : Nat → Sl} {t : TypeId} (hb : Box w g (cells4 vs) t) :
    Box ((((w.setCell ⟨g, 0, none⟩ (slV (us 0))).setCell ⟨g, 1, none⟩ (slV (us 1))).setCell ⟨g, 2, none⟩ (slV (us 2))).setCell ⟨g, 3, none⟩ (slV (us 3))) g (cells4 us) t :=
  (((hb.set 0 _).set 1 _).set 2 _).set 3 _
theorem Box.other4 {w : World} {g g' : Nat} {cs : Array Value} {t : TypeId} (hb : Box w g cs t) (hne : g ≠ g') (x0 x1 x2 x3 : Value) :
    Box ((((w.setCell ⟨g', 0, none⟩ x0).setCell ⟨g', 1, none⟩ x1).setCell ⟨g', 2, none⟩ x2).setCell ⟨g', 3, none⟩ x3) g cs t :=
  (((hb.other hne 0 _).other hne 1 _).other hne 2 _).other hne 3 _

theorem Box.laterSt {w : World} {g : Nat} {vs : Nat → Sl} {t : TypeId} (h : Box w g (cells4 vs) t) :
    (∀ X : Later w, X.w.cell? ⟨g, 0, none⟩ = some (slV (vs 0))) ∧ (∀ X : Later w, X.w.cell? ⟨g, 1, none⟩ = some (slV (vs 1))) ∧ (∀ X : Later w, X.w.cell? ⟨g, 2, none⟩ = some (slV (vs 2))) ∧ (∀ X : Later w, X.w.cell? ⟨g, 3, none⟩ = some (slV (vs 3))) :=
  ⟨h.later 0, h.later 1, h.later 2, h.later 3⟩

end Go.Proofs.Ytnpejgendmgfaaa
