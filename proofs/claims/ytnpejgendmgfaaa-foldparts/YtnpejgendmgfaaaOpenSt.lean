/-
  PLAIN GROUND: what a row's reading says of a slice of numbers and of a state that came in: the numbers that each row holds, and that its bytes are within the reach. No condition.
-/
import Derived.Test.YtnpejgendmgfaaaStA
import Derived.ProofKit
import Derived.OpenShut
import Derived.SizedLaws
import Derived.Lib.SmallJoins
import Derived.Laws.IdiomArrays
namespace Go.Proofs.Ytnpejgendmgfaaa
open Go.ChangeShapes Go.WideShapes Go.ChangeAt Go.RowKit Go.Joins

theorem bytesInt : Try.prog.bytesOf 3 = 8 := by kernel_rfl
theorem cellsState : Try.prog.cellsOf 25 = 4 := by kernel_rfl
theorem cellsRows : Try.prog.cellsOf 23 = 4 := by kernel_rfl
theorem cellsInts : Try.prog.cellsOf 22 = 1 := by kernel_rfl

theorem has_of_ints {w : World} {a : Addr} {len cap : Nat} {zs : List Int} (hl : len ≤ cap) (hz : zs.length = cap) (hcell : ∀ i, i < zs.length → w.cell? (a.add i) = some (.int .i64 (zs.getD i 0))) : Has w (.slice (some a) len cap) (zs.take len) := by
  have hlen : (zs.take len).length = len := by rw [List.length_take]; omega
  refine ⟨some a, cap, by rw [hlen], by rw [hlen]; exact hl, (fun h => by cases h), fun hp => ?_⟩
  rw [hlen] at hp ⊢
  obtain ⟨b, off, spot⟩ := a
  have hc := hcell 0 (by omega)
  have hspot : spot = none := by simpa [Addr.add] using World.cell?_spot hc
  subst hspot
  refine ⟨b, off, rfl, fun i hi => ?_⟩
  have h1 := hcell i (by omega)
  rw [add_plain] at h1
  rw [h1]
  simp [List.getD, hi]

/-- A slice of numbers, read. -/
theorem open_nums {H : Type} {enc : TypeId × Value → H} {W : World} {n : Nat} {c : Value} {y : DataW H × List MemPlace} (h : DataW.trod enc Try.prog W 0 (fun _ => true) true n 22 [c] = some y)
    (hs : ∀ k ∈ y.1.weights Try.prog 22, k ≤ reachBytes) : ∃ xs, Has W c xs ∧ xs.length * 8 ≤ 140737488351232 := by
  rcases open_ints Try.underlying22 Try.underlying3 (by kernel_rfl) h with ⟨hcs, _⟩ | ⟨x, l, cp, zs, hcs, _, hl, hm, hz, hd, hcell, hwz⟩
  · simp at hcs
    subst hcs
    exact ⟨[], Has.nil _, by decide⟩
  · simp at hcs
    subst hcs
    have hd0 : y.1 = .slice (lits .i64 (zs.take l)) (lits .i64 (zs.drop l)) := congrArg Prod.fst hd
    have := hs _ (by rw [hd0]; simp [DataW.weights, Try.underlying22]; exact Or.inl rfl)
    rw [bytesInt] at this
    simp only [lits, List.length_map, List.length_take, List.length_drop, reachBytes] at this
    exact ⟨zs.take l, has_of_ints hl (by simpa using hz) hcell, by rw [List.length_take]; omega⟩

/-- A state, read. -/
theorem open_state {H : Type} {enc : TypeId × Value → H} {W : World} {base : Nat} {v : Value} {d : DataW H} {p : List MemPlace} (hv : Value.okWide Try.prog W .any base 25 v)
    (h : DataW.Trod enc Try.prog W 0 (fun _ => true) true 25 v d p) (hs : ∀ k ∈ d.weights Try.prog 25, k ≤ reachBytes) : ∃ s, HasS W v s ∧ Fit s := by
  obtain ⟨cs, rfl, hsz⟩ := okWide_struct Try.underlying25 hv
  obtain ⟨c0, c1, c2, c3, rfl⟩ := array4 (hsz.trans cellsState)
  obtain ⟨fuel, hf⟩ := h
  obtain ⟨y, n, hx, _, h1⟩ := trod_struct1 Try.underlying25 hf
  simp [Value.cells, cellsRows] at h1
  obtain ⟨y0, y1, y2, y3, m, hy, t0, t1, t2, t3⟩ := trod_array4 Try.underlying23 cellsInts h1
  have hd : d = .agg [.agg [y0.1, y1.1, y2.1, y3.1]] := by
    have := congrArg Prod.fst hx
    simp only [hy] at this
    exact this
  have hw : ∀ k, k ∈ y0.1.weights Try.prog 22 ∨ k ∈ y1.1.weights Try.prog 22 ∨ k ∈ y2.1.weights Try.prog 22 ∨ k ∈ y3.1.weights Try.prog 22 → k ≤ reachBytes := by
    intro k hk
    refine hs k ?_
    rw [hd]
    simp [DataW.weights, DataW.weightsEach, DataW.weightsAll, Try.underlying25, Try.underlying23]
    exact hk
  obtain ⟨x0, a0, b0⟩ := open_nums t0 (fun k hk => hw k (.inl hk))
  obtain ⟨x1, a1, b1⟩ := open_nums t1 (fun k hk => hw k (.inr (.inl hk)))
  obtain ⟨x2, a2, b2⟩ := open_nums t2 (fun k hk => hw k (.inr (.inr (.inl hk))))
  obtain ⟨x3, a3, b3⟩ := open_nums t3 (fun k hk => hw k (.inr (.inr (.inr hk))))
  obtain ⟨q0, rfl⟩ := a0.sl
  obtain ⟨q1, rfl⟩ := a1.sl
  obtain ⟨q2, rfl⟩ := a2.sl
  obtain ⟨q3, rfl⟩ := a3.sl
  refine ⟨⟨x0, x1, x2, x3⟩, ⟨fun i => match i with | 0 => q0 | 1 => q1 | 2 => q2 | _ => q3, rfl, fun i hi => ?_⟩, fun i hi => ?_⟩
  · rcases four hi with rfl | rfl | rfl | rfl
    · exact a0
    · exact a1
    · exact a2
    · exact a3
  · rcases four hi with rfl | rfl | rfl | rfl
    · exact b0
    · exact b1
    · exact b2
    · exact b3

end Go.Proofs.Ytnpejgendmgfaaa
