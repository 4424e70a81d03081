/-
  THE WALKS over choruslaw0's CopyInts, LendInts, KeptInts: new memory with two marked numbers behind it, and whether it is as it was, for every slice. Condition: the bytes are within the reach that every row bears.
-/
import Derived.Test.YtgjhbhnfeeleeaaSameA
namespace Go.Proofs.Ytgjhbhnfeeleeaa
open Go.RowKit

theorem lawCopyInts (v : Value) (xs : List Int) (w : World) (hx : Has w v xs) (hr : xs.length * 8 ≤ 140737488355328) :
    Calls Try.prog 17 #[v] w fun e w' => ∃ v', e = .returned v' ∧ Own w' w.heap.size v' xs ∧ Le w w' := by
  have hown := Own.lit w w.heap.size (Nat.le_refl _) [] (by simp)
  have hl := Le.alloc w (.cells #[] 3)
  go_enter Try.func17, Try.ntmps17
  go_wp2_with (at_builtin; refine wp_append_ints rfl _ _ rfl w.heap.size _ _ [] xs rfl rfl hown (hx.le hl) (by simp; omega) (by simp) ?_; intro v' w2 hown2 hgrow; rw [List.nil_append] at hown2)
  go_ret
  exact ⟨_, rfl, hown2, Below.grown hl hgrow (by simp) (fun g hg => (World.ownsRow.lt hown g hg).1)⟩

/-- v is a slice of the numbers xs in the call's own memory, with the two marked numbers in the room behind them. -/
def Lent (w : World) (base : Nat) (v : Value) (xs : List Int) : Prop :=
  ∃ g cap, v = .slice (some ⟨g, 0, none⟩) xs.length cap ∧ xs.length + 2 ≤ cap ∧ Own w base (.slice (some ⟨g, 0, none⟩) (xs ++ [-7777, -8888]).length cap) (xs ++ [-7777, -8888])

theorem Lent.le {w w' : World} {base : Nat} {v : Value} {xs : List Int} (h : Lent w base v xs) (hl : Le w w') : Lent w' base v xs := by
  obtain ⟨g, cap, hv, hc, ho⟩ := h
  exact ⟨g, cap, hv, hc, ho.le hl⟩

theorem Lent.has {w : World} {base : Nat} {v : Value} {xs : List Int} (h : Lent w base v xs) : Has w v xs := by
  obtain ⟨g, cap, rfl, hc, ho⟩ := h
  refine ⟨_, cap, rfl, by omega, (fun h => by cases h), fun hp => ⟨g, 0, rfl, fun i hi => ?_⟩⟩
  have h1 : i < ((xs ++ [-7777, -8888]).length) * 1 := by simp; omega
  have := World.ownsRow.cellAt (show w.ownsRow base 3 1 _ _ _ from ho) i h1
  rw [Nat.zero_add, this]
  rw [List.getElem?_map, List.getElem?_append_left hi, List.getElem?_eq_getElem hi]
  simp [List.getD, hi]

set_option maxHeartbeats 400000 in
theorem lawLendInts (v : Value) (xs : List Int) (w : World) (hx : Has w v xs) (hr : xs.length * 8 ≤ 140737488351232) :
    Calls Try.prog 7 #[v] w fun e w' => ∃ v', e = .returned v' ∧ Lent w' w.heap.size v' xs ∧ Le w w' := by
  obtain ⟨a, cap, rfl⟩ := hx.shape
  go_enter Try.func7, Try.ntmps7
  go_wp2_with (first | (go_at_call 17; refine (lawCopyInts _ xs _ hx (by omega)).mono ?_; rintro e w1 ⟨v1, rfl, hown, hbel⟩; have hsz := hbel.size; have hl2 := Own.lit w1 w1.heap.size (Nat.le_refl _) [-7777, -8888] (by simp)) | (at_builtin; refine wp_append_ints rfl _ _ rfl w.heap.size _ _ xs [-7777, -8888] rfl rfl (hown.le (Le.alloc _ _)) hl2.has (by simp; omega) (by simp; omega) ?_; intro v2 w2 hown2 hgrow2; obtain ⟨g, cap2, rfl, hn2, hg2, hm2⟩ := row_shape hown2 (by simp); have hn3 : xs.length + 2 ≤ cap2 := by simpa using hn2))
  go_ret
  refine ⟨_, rfl, ⟨g, cap2, rfl, hn3, hown2⟩, ?_⟩
  exact Below.grown (hbel.trans (Le.alloc _ _)) hgrow2 (by simp; omega) (fun k hk => (World.ownsRow.lt hown k hk).1)

set_option maxHeartbeats 400000 in
theorem lawKeptInts (v u : Value) (xs : List Int) (base : Nat) (w : World) (hx : Lent w base v xs) (hy : Has w u xs) (hm : xs.length ≤ 9223372036854775000) :
    Calls Try.prog 13 #[v, u] w fun e w' => e = .returned (.bool true) ∧ Le w w' := by
  have hx0 := hx.has
  obtain ⟨g, cap, rfl, hc, ho⟩ := hx
  have c1 : w.cell? ⟨g, xs.length, none⟩ = some (.int .i64 (-7777)) := by
    rw [World.ownsRow.cellAt (show w.ownsRow base 3 1 _ _ _ from ho) xs.length (by simp)]; simp
  have c2 : w.cell? ⟨g, xs.length + 1, none⟩ = some (.int .i64 (-8888)) := by
    rw [World.ownsRow.cellAt (show w.ownsRow base 3 1 _ _ _ from ho) (xs.length + 1) (by simp)]; simp
  obtain ⟨a, cap', rfl⟩ := hy.shape
  have hcm : cap ≤ maxLen := by obtain ⟨_, _, h1, _, _, h2⟩ := row_shape ho (by simp); cases h1; exact h2
  unfold maxLen at hcm
  clear ho
  have hs : decide (xs = xs) = true := by simp
  go_enter Try.func13, Try.ntmps13
  go_wp2_with (go_at_call 23; refine (lawSameInts _ _ xs xs _ hx0 hy (by omega)).mono ?_; rw [hs]; rintro e w1 ⟨rfl, n1, rfl⟩)
  go_ret
  exact ⟨rfl, Le.drewN _ _⟩

end Go.Proofs.Ytgjhbhnfeeleeaa
