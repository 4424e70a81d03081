/-
  PLAIN GROUND: what a row's reading says of a ring that came in: its three numbers and its slots, and that the slots can be copied. No condition.
-/
import Derived.Test.YtgjhbhnfeeleeaaRgA
import Derived.Test.YtgjhbhnfeeleeaaOpenSl
import Derived.Deep.Slices
import Derived.Deep.Strs
namespace Go.Proofs.Ytgjhbhnfeeleeaa
open Go.ChangeShapes Go.WideShapes Go.ChangeAt Go.RowKit Go.Joins Go.Deep

theorem bytesSlot : Try.prog.bytesOf 53 = 40 := by kernel_rfl
theorem cellsRing : Try.prog.cellsOf 24 = 4 := by kernel_rfl
theorem cellsSlots : Try.prog.cellsOf 22 = 1 := by kernel_rfl

/-- A slice of slots, read. -/
theorem open_slots {H : Type} {enc : TypeId × Value → H} {W : World} {n : Nat} {c : Value} {y : DataW H × List MemPlace} (h : DataW.trod enc Try.prog W 0 (fun _ => true) true n 22 [c] = some y)
    (hs : ∀ k ∈ y.1.weights Try.prog 22, k ≤ reachBytes) : ∃ ss, HasL W c ss ∧ ss.length * 40 ≤ 140737488351232 := by
  rcases open_slice Try.underlying22 h with ⟨hcs, _⟩ | ⟨a, len, cap, m, n', D, Pl, hcs, _, hl, hm, hmm, rfl, hx⟩
  · simp at hcs
    subst hcs
    exact ⟨[], HasL.nil _, by decide⟩
  · simp at hcs
    subst hcs
    simp only [if_true] at hmm
    subst hmm
    rw [cellsSlot] at hx
    have hw := hs _ (by simp [DataW.weights, Try.underlying22]; exact Or.inl rfl)
    rw [bytesSlot] at hw
    have each : ∀ i, i < m → ∃ s : Slt, ∀ j, j < 5 → W.cell? ((a.add (i * 5)).add j) = s.vals[j]? := by
      intro i hi
      obtain ⟨cs', h1, h2⟩ := hx i hi
      obtain ⟨_, hlen, hcell⟩ := World.cells?_some h1
      match cs', hlen with
      | [c0, c1, c2, c3, c4], _ =>
        obtain ⟨c, r, a', t, b, rfl, rfl, rfl, rfl, rfl, _⟩ := trod_slot h2
        exact ⟨⟨c, r, a', t, b⟩, fun j hj => by rw [hcell j (by omega)]; rfl⟩
    have : Inhabited Slt := ⟨Slt.zero⟩
    obtain ⟨s, hsl⟩ := choose_lt each
    refine ⟨(List.range len).map s, ?_, by rw [List.length_map, List.length_range]; simp only [reachBytes] at hw; omega⟩
    have hlen : ((List.range len).map s).length = len := by simp
    refine ⟨some a, m, by rw [hlen], by rw [hlen]; exact hl, (fun h => by cases h), fun hp => ?_⟩
    rw [hlen] at hp ⊢
    obtain ⟨b, off, spot⟩ := a
    have hc := hsl 0 (by omega) 0 (by omega)
    have hspot : spot = none := by simpa [Addr.add] using World.cell?_spot hc
    subst hspot
    refine ⟨b, off, rfl, fun i hi => SlotAt.of fun j hj => ?_⟩
    have h1 := hsl i (by omega) j hj
    rw [add_plain, add_plain] at h1
    rw [h1]
    simp [List.getD, hi]

/-- A ring, read. -/
theorem open_ring {H : Type} {enc : TypeId × Value → H} {W : World} {base : Nat} {v : Value} {d : DataW H} {p : List MemPlace} (hv : Value.okWide Try.prog W .any base 24 v)
    (h : DataW.Trod enc Try.prog W 0 (fun _ => true) true 24 v d p) (hs : ∀ k ∈ d.weights Try.prog 24, k ≤ reachBytes) : ∃ R, HasR W v R ∧ FitR R ∧ (Lit.int .i64 R.h).wf = true ∧ (Lit.int .i64 R.t).wf = true ∧ (Lit.int .i64 R.f).wf = true := by
  obtain ⟨cs, rfl, hsz⟩ := okWide_struct Try.underlying24 hv
  obtain ⟨c0, c1, c2, c3, rfl⟩ := array4 (hsz.trans cellsRing)
  obtain ⟨fuel, hf⟩ := h
  obtain ⟨y0, y1, y2, y3, n, hx, _, h0, h1, h2, h3⟩ := trod_struct4 Try.underlying24 hf
  simp [Value.cells, cellsInt, cellsSlots] at h0 h1 h2 h3
  have hd : d = .agg [y0.1, y1.1, y2.1, y3.1] := congrArg Prod.fst hx
  obtain ⟨x0, e0, _, w0⟩ := DataW.trod_int Try.underlying3 h0
  obtain ⟨x1, e1, _, w1⟩ := DataW.trod_int Try.underlying3 h1
  obtain ⟨x2, e2, _, w2⟩ := DataW.trod_int Try.underlying3 h2
  simp at e0 e1 e2
  subst e0 e1 e2
  obtain ⟨ss, a0, b0⟩ := open_slots h3 (fun k hk => hs k (by
    rw [hd]
    simp [DataW.weights, DataW.weightsEach, Try.underlying24]
    exact Or.inr (Or.inr (Or.inr hk))))
  obtain ⟨q, rfl⟩ := a0.sl
  exact ⟨⟨x0, x1, x2, ss⟩, ⟨q, rfl, a0⟩, b0, w0, w1, w2⟩

end Go.Proofs.Ytgjhbhnfeeleeaa
