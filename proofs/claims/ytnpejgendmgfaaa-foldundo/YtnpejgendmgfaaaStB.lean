/-
  THE WALK over choruslaw0's SameState, and the ground of loops that copy row by row. Condition: where memory is made, the rows' bytes are within the reach that every row bears.
-/
import Derived.Test.YtnpejgendmgfaaaStA
import Derived.Test.YtnpejgendmgfaaaSameA
import Derived.Test.YtnpejgendmgfaaaLater
namespace Go.Proofs.Ytnpejgendmgfaaa
open Go.RowKit

/-- In the midst of a copy: the given value's box, the result's, and the one that is filled up to row k. -/
structure Cp (w : World) (s : St) (vs : Nat → Sl) (wr : World) (k : Nat) (us : Nat → Sl) : Prop where
  le : Le w wr
  given : Box wr w.heap.size (cells4 vs) 25
  result : Box wr (w.heap.size + 1) (cells4 fun _ => slZ) 25
  filled : Box wr (w.heap.size + 1 + 1) (cells4 us) 25
  rows : ∀ j, j < k → Own wr w.heap.size (slV (us j)) (s.at j)
  apart : Apart us k

theorem Box.size {w : World} {g : Nat} {cs : Array Value} {t : TypeId} (h : Box w g cs t) : g < w.heap.size := h.lt

theorem Cp.start (w : World) (s : St) (vs : Nat → Sl) :
    Cp w s vs (((w.alloc (.cells (cells4 vs) 25)).alloc (.cells (cells4 fun _ => slZ) 25)).alloc (.cells (cells4 fun _ => slZ) 25)) 0 fun _ => slZ := by
  refine ⟨((Le.alloc _ _).trans (Le.alloc _ _)).trans (Le.alloc _ _), ((Box.new _ _ _).le (Le.alloc _ _)).le (Le.alloc _ _), ?_, ?_, (fun j hj => by omega), (fun i j hi => by omega)⟩
  · have := (Box.new (w.alloc (.cells (cells4 vs) 25)) (cells4 fun _ => slZ) 25).le (Le.alloc _ (.cells (cells4 fun _ => slZ) 25))
    simpa using this
  · have := Box.new ((w.alloc (.cells (cells4 vs) 25)).alloc (.cells (cells4 fun _ => slZ) 25)) (cells4 fun _ => slZ) 25
    simpa using this

theorem Box.st {w : World} {g : Nat} {vs : Nat → Sl} {t : TypeId} (h : Box w g (cells4 vs) t) :
    w.cell? ⟨g, 0, none⟩ = some (slV (vs 0)) ∧ w.cell? ⟨g, 1, none⟩ = some (slV (vs 1)) ∧ w.cell? ⟨g, 2, none⟩ = some (slV (vs 2)) ∧ w.cell? ⟨g, 3, none⟩ = some (slV (vs 3)) ∧
    w.frozen? ⟨g, 0, none⟩ = false ∧ w.frozen? ⟨g, 1, none⟩ = false ∧ w.frozen? ⟨g, 2, none⟩ = false ∧ w.frozen? ⟨g, 3, none⟩ = false :=
  ⟨h.cell 0, h.cell 1, h.cell 2, h.cell 3, h.frozen 0, h.frozen 1, h.frozen 2, h.frozen 3⟩

/-- One row more. -/
theorem Cp.next {w : World} {s : St} {vs : Nat → Sl} {wr w1 w2 : World} {k : Nat} {us : Nat → Sl} {row : Option Nat} {v' : Sl} (h : Cp w s vs wr k us) (hk : k < 4) (h1 : Le wr w1) (hg : w1.grownBy w2 row)
    (hrow : ∀ g, row = some g → wr.heap.size ≤ g) (hown : Own w2 wr.heap.size (slV v') (s.at k)) : Cp w s vs (w2.setCell ⟨w.heap.size + 1 + 1, k, none⟩ (slV v')) (k + 1) (upd us k v') := by
  have l2 : Le wr w2 := Below.grown h1 hg h1.size hrow
  have hb := h.filled.le l2
  refine ⟨?_, (h.given.le l2).other (by omega) _ _, (h.result.le l2).other (by omega) _ _, ?_, (fun j hj => ?_), h.apart.next (fun j hj g e => ((h.rows j hj).block e).2) (fun g e => (hown.block e).1)⟩
  · exact Below.setCell (h.le.trans l2) (by show w.heap.size ≤ w.heap.size + 1 + 1; omega) _
  · have := hb.set k (slV v'); rw [cells4_upd us hk v'] at this; exact this
  · by_cases e : j = k
    · rw [e, show upd us k v' k = v' by simp [upd]]; exact (hown.base h.le.size).setBox hb (by decide)
    · rw [show upd us k v' j = us j by simp [upd, e]]; exact ((h.rows j (by omega)).le l2).setBox hb (by decide)

theorem lawSameI (v u : Value) (xs ys : List Int) (w : World) (hx : Has w v xs) (hy : Has w u ys) (hm : xs.length * 8 ≤ 140737488351232) :
    Calls Try.prog 14 #[v, u] w fun e w' => e = .returned (.bool (decide (xs = ys))) ∧ Le w w' :=
  (lawSameInts v u xs ys w hx hy (by omega)).mono fun _ _ ⟨he, n, hw⟩ => ⟨he, by rw [hw]; exact Le.drewN _ _⟩

set_option maxHeartbeats 400000 in
theorem lawSameState (v u : Value) (s t : St) (w : World) (hx : HasS w v s) (hy : HasS w u t) (hf : Fit s) :
    Calls Try.prog 13 #[v, u] w fun e w' => e = .returned (.bool (decide (s = t))) ∧ Le w w' := by
  obtain ⟨vs, rfl, hr⟩ := hx
  obtain ⟨us, rfl, hr'⟩ := hy
  have hb1 := (Box.new w (cells4 vs) 25).le (Le.alloc _ (.cells (cells4 us) 25))
  have hb2 := Box.new (w.alloc (.cells (cells4 vs) 25)) (cells4 us) 25
  rw [World.size_alloc] at hb2
  have hl := (Le.alloc w (.cells (cells4 vs) 25)).trans (Le.alloc _ (.cells (cells4 us) 25))
  go_enter Try.func13, Try.ntmps13
  go_wp2
  go_loopw [5] (fun i wr => ∃ k : Nat, k ≤ 4 ∧ i = .int .i64 k ∧ Hid (∀ j, j < k → s.at j = t.at j) ∧ Le ((w.alloc (.cells (cells4 vs) 25)).alloc (.cells (cells4 us) 25)) wr) (fun i _ => 4 - (intOf i).toNat)
  case atStart => exact ⟨0, by omega, rfl, (fun j hj => by omega), Le.refl _⟩
  case round =>
    obtain ⟨k, hk, rfl, HS, hle⟩ := hrel
    by_cases hlt : k < 4
    · have c1 : ∀ X : Later wr, X.w.cell? ⟨w.heap.size, k, none⟩ = some (slV (vs k)) := fun X => (((hb1.le hle).le X.le).cell k).trans (cells4_at vs hlt)
      have c2 : ∀ X : Later wr, X.w.cell? ⟨w.heap.size + 1, k, none⟩ = some (slV (us k)) := fun X => (((hb2.le hle).le X.le).cell k).trans (cells4_at us hlt)
      have hfk := hf k hlt
      have hsm := fun X : Later wr => lawSameI (slV (vs k)) (slV (us k)) (s.at k) (t.at k) X.w ((hr k hlt).le ((hl.trans hle).trans X.le)) ((hr' k hlt).le ((hl.trans hle).trans X.le)) hfk
      by_cases he : s.at k = t.at k
      · rw [show decide (s.at k = t.at k) = true by simp [he]] at hsm
        have HE : Hid (s.at k = t.at k) := he
        clear he hb1 hb2 hfk
        go_wp2_with fail
        refine wp_region_later (by kernel_rfl) (by kernel_rfl) ?_
        repeat (go_big_quiet_step (first | (go_at_call 14; exact Calls.later (hsm _))))
        refine wpQuiet_nil ?_
        rintro _ ⟨x, rfl⟩
        go_wp2
        go_roundw
        case rel => exact ⟨k + 1, by omega, by go_num, (fun j hj => by rcases Nat.lt_or_eq_of_le (Nat.le_of_lt_succ hj) with h | h; exact HS.out j h; exact h ▸ HE.out), hle.trans x.le⟩
        case measure => simp [intOf]; omega
      · rw [show decide (s.at k = t.at k) = false by simp [he]] at hsm
        have HE : Hid (¬ s = t) := fun h => he (by rw [h])
        clear he hb1 hb2 hfk
        go_wp2_with fail
        refine wp_region_later (by kernel_rfl) (by kernel_rfl) ?_
        repeat (go_big_quiet_step (first | (go_at_call 14; exact Calls.later (hsm _))))
        refine wpQuiet_nil ?_
        rintro _ ⟨x, rfl⟩
        go_wp2
        go_ret
        exact ⟨ret_bool (by have := HE.out; simp [this]), (hl.trans hle).trans x.le⟩
    · obtain rfl : k = 4 := by omega
      go_wp2
      go_ret
      exact ⟨ret_bool (by have := St.ext_at HS.out; simp [this]), hl.trans hle⟩

end Go.Proofs.Ytnpejgendmgfaaa
