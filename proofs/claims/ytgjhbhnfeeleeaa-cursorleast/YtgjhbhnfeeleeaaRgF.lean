/-
  THE WALK over package ring's Publish: what it answers, for every ring, number, operation and thread. Condition: that the slots can be copied.
-/
import Derived.Test.YtgjhbhnfeeleeaaRgE
namespace Go.Proofs.Ytgjhbhnfeeleeaa
open Go.RowKit

theorem bitAt_two {p n : Int} : bitAt p n = 0 ∨ bitAt p n = 1 := by unfold bitAt; omega
def threadB (t : Int) : Bool := decide (0 ≤ t) && decide (t < 4)
def pubB (R : Rg) (p c r a t : Int) : Bool := mayR R && hasB R.h R.t p && opUp c r a && threadB t
def publishS (R : Rg) (p c r a t : Int) : Rg × Int :=
  if pubB R p c r a t then (⟨R.h, R.t, R.f, R.ss.set (seat R p) ⟨c, r, a, t, bitAt p R.ss.length⟩⟩, 0) else (Rg.zero, 1000)

theorem flatV_set : ∀ (ss : List Slt) (i : Nat) (s : Slt), i < ss.length →
    ((((((flatV ss).set (i * 5) (.int .i64 s.c)).set (i * 5 + 1) (.int .i64 s.r)).set (i * 5 + 2) (.int .i64 s.a)).set (i * 5 + 3) (.int .i64 s.t)).set (i * 5 + 4) (.int .i64 s.b)) = flatV (ss.set i s)
  | [], i, s, h => by simp at h
  | x :: ss, 0, s, _ => by simp [flatV, Slt.vals]
  | x :: ss, i + 1, s, h => by
    have ih := flatV_set ss i s (by simpa using h)
    simp only [flatV, Slt.vals, List.set_cons_succ]
    rw [← ih]
    have e0 : (i + 1) * 5 = i * 5 + 5 := by omega
    simp only [e0, List.cons_append, List.nil_append, List.set_cons_succ]

/-- A slot written into a row of the call's own. -/
theorem OwnL.put {w : World} {base g n cap i : Nat} {ss : List Slt} {s : Slt} (h : OwnL w base (.slice (some ⟨g, 0, none⟩) n cap) ss) (hi : i < ss.length) :
    OwnL (((((w.setCell ⟨g, i * 5, none⟩ (.int .i64 s.c)).setCell ⟨g, i * 5 + 1, none⟩ (.int .i64 s.r)).setCell ⟨g, i * 5 + 2, none⟩ (.int .i64 s.a)).setCell ⟨g, i * 5 + 3, none⟩ (.int .i64 s.t)).setCell ⟨g, i * 5 + 4, none⟩ (.int .i64 s.b)) base (.slice (some ⟨g, 0, none⟩) n cap) (ss.set i s) := by
  obtain ⟨h1, h2⟩ := h
  refine ⟨by rw [flatV_len], ?_⟩
  rcases h2 with ⟨h2, _⟩ | ⟨g', cap', cur, hv, hg, hh, hn, hm, hs, ht⟩
  · simp at h2
  · simp only [Value.slice.injEq, Option.some.injEq, Addr.mk.injEq] at hv
    obtain ⟨⟨rfl, _⟩, rfl, rfl⟩ := hv
    have hb : Box w g cur 53 := hh
    have hb5 := ((((hb.set (i * 5) (.int .i64 s.c)).set (i * 5 + 1) (.int .i64 s.r)).set (i * 5 + 2) (.int .i64 s.a)).set (i * 5 + 3) (.int .i64 s.t)).set (i * 5 + 4) (.int .i64 s.b)
    refine .inr ⟨g, cap, _, by rw [List.length_set], hg, hb5, by rw [List.length_set]; exact hn, hm, by simp [hs], ?_⟩
    rw [List.length_set, ← flatV_set ss i s hi, ← ht]
    simp [List.take_set]

/-- The five cells of slot i of a row of the call's own. -/
theorem OwnL.cell {w : World} {base g n cap i : Nat} {ss : List Slt} (h : OwnL w base (.slice (some ⟨g, 0, none⟩) n cap) ss) (hi : i < ss.length) :
    SlotAt w g (i * 5) (ss.getD i Slt.zero) ∧ (∀ j, w.frozen? ⟨g, j, none⟩ = false) := by
  have h0 := h.has
  obtain ⟨h1, h2⟩ := h
  rcases h2 with ⟨h2, _⟩ | ⟨g', cap', cur, hv, hg, hh, hn, hm, hs, ht⟩
  · simp at h2
  · simp only [Value.slice.injEq, Option.some.injEq, Addr.mk.injEq] at hv
    obtain ⟨⟨rfl, _⟩, rfl, rfl⟩ := hv
    have hb : Box w g cur 53 := hh
    refine ⟨?_, fun j => hb.frozen j⟩
    obtain ⟨a, cap', hv', _, _, hx⟩ := h0
    obtain ⟨b, off, ha, hc⟩ := hx (by omega)
    subst ha
    simp only [Value.slice.injEq, Option.some.injEq, Addr.mk.injEq] at hv'
    obtain ⟨⟨rfl, rfl, _⟩, _, rfl⟩ := hv'
    have := hc i hi
    rw [Nat.zero_add] at this
    exact this

theorem OwnL.shape {w : World} {base : Nat} {u : Sl} {ss : List Slt} (h : OwnL w base (slV u) ss) (hn : 0 < ss.length) : ∃ g cap, u = (some ⟨g, 0, none⟩, ss.length, cap) ∧ base ≤ g ∧ ss.length ≤ cap := by
  obtain ⟨a, n, c⟩ := u
  rcases h.2 with ⟨_, h0⟩ | ⟨g, cap, cur, hv, hg, _, hn, _, _, _⟩
  · omega
  · simp only [slV, Value.slice.injEq] at hv
    obtain ⟨rfl, rfl, rfl⟩ := hv
    exact ⟨g, _, rfl, hg, hn⟩

end Go.Proofs.Ytgjhbhnfeeleeaa
