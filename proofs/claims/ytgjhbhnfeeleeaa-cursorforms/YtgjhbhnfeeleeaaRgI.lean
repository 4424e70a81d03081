/-
  PLAIN GROUND, NO WALK: what the document's ring answers, case by case. No condition.
-/
import Derived.Test.YtgjhbhnfeeleeaaRgG
import Derived.Test.YtgjhbhnfeeleeaaRgC
namespace Go.Proofs.Ytgjhbhnfeeleeaa
open Go.RowKit

theorem reserve_no {R : Rg} {k : Int} (h : mayR R = true) (hk : k < 1 ∨ R.ss.length < k) : reserveS R k = (⟨0, 0, 0, []⟩, 0, 1000) := by
  have : askB R k = false := by simp [askB, h]; omega
  simp [reserveS, this, Rg.zero]
theorem reserve_bad {R : Rg} {k : Int} (h : mayR R = false) : reserveS R k = (⟨0, 0, 0, []⟩, 0, 1000) := by
  have : askB R k = false := by simp [askB, h]
  simp [reserveS, this, Rg.zero]
theorem reserve_full {R : Rg} {k : Int} (h : mayR R = true) (hk : 1 ≤ k ∧ k ≤ R.ss.length) (hr : R.f ≠ 0 ∨ R.h + R.ss.length < R.t + k) : reserveS R k = (⟨0, 0, 0, []⟩, 0, 1001) := by
  have h1 : askB R k = true := by simp [askB, h]; omega
  have h2 : roomB R k = false := by
    simp only [roomB, placesB]
    rcases hr with hr | hr
    · simp [hr]
    · simp; omega
  simp [reserveS, h1, h2, Rg.zero]
theorem reserve_ok {R : Rg} {k : Int} (h : mayR R = true) (hk : 1 ≤ k ∧ k ≤ R.ss.length) (hf : R.f = 0) (hr : R.t + k ≤ R.h + R.ss.length) (hm : R.t + k ≤ 1048576) : reserveS R k = (⟨R.h, R.t + k, R.f, R.ss⟩, R.t, 0) := by
  have h1 : askB R k = true := by simp [askB, h]; omega
  have hn := mayR_nums h
  have h2 : roomB R k = true := by
    simp only [roomB, placesB, hf]
    simp
    omega
  simp [reserveS, h1, h2]
theorem publish_bad {R : Rg} {p c r a t : Int} (h : mayR R = false) : publishS R p c r a t = (⟨0, 0, 0, []⟩, 1000) := by
  simp [publishS, pubB, h, Rg.zero]
theorem publish_off {R : Rg} {p c r a t : Int} (hp : p < R.h ∨ R.t ≤ p) : publishS R p c r a t = (⟨0, 0, 0, []⟩, 1000) := by
  have : hasB R.h R.t p = false := by simp [hasB]; omega
  simp [publishS, pubB, this, Rg.zero]
theorem publish_op {R : Rg} {p c r a t : Int} (hp : opUp c r a = false) : publishS R p c r a t = (⟨0, 0, 0, []⟩, 1000) := by
  simp [publishS, pubB, hp, Rg.zero]
theorem publish_thread {R : Rg} {p c r a t : Int} (hp : threadB t = false) : publishS R p c r a t = (⟨0, 0, 0, []⟩, 1000) := by
  simp [publishS, pubB, hp, Rg.zero]
theorem publish_ok {R : Rg} {p c r a t : Int} (h : mayR R = true) (hp : R.h ≤ p ∧ p < R.t) (ho : opUp c r a = true) (ht : threadB t = true) :
    publishS R p c r a t = (⟨R.h, R.t, R.f, R.ss.set (seat R p) ⟨c, r, a, t, bitAt p R.ss.length⟩⟩, 0) := by
  have : hasB R.h R.t p = true := by simp [hasB]; omega
  simp [publishS, pubB, h, this, ho, ht]
theorem entry_bad {R : Rg} {p : Int} (h : mayR R = false) : entryS R p = (⟨0, 0, 0, 0, 0⟩, 1000) := by
  simp [entryS, h, Slt.zero]
theorem entry_off {R : Rg} {p : Int} (h : mayR R = true) (hp : p < R.h ∨ R.t ≤ p) : entryS R p = (⟨0, 0, 0, 0, 0⟩, 1002) := by
  have : hasB R.h R.t p = false := by simp [hasB]; omega
  simp [entryS, entryB, h, this, Slt.zero]
theorem entry_dead {R : Rg} {p : Int} (h : mayR R = true) (hb : ¬ (R.ss.getD (seat R p) Slt.zero).b = bitAt p R.ss.length) : entryS R p = (⟨0, 0, 0, 0, 0⟩, 1002) := by
  have : entryB R p = false := by unfold entryB; rw [decide_eq_false hb, Bool.and_false]
  simp [entryS, h, this, Slt.zero]
theorem entry_live {R : Rg} {p : Int} {s : Slt} (h : mayR R = true) (hp : R.h ≤ p ∧ p < R.t) (hs : R.ss.getD (seat R p) Slt.zero = s) (hb : s.b = bitAt p R.ss.length) : entryS R p = (s, 0) := by
  have h1 : hasB R.h R.t p = true := by simp [hasB]; omega
  have : entryB R p = true := by unfold entryB; rw [hs, decide_eq_true hb, h1]; rfl
  simp only [entryS, h, this, if_true, hs]
theorem free_bad {R : Rg} {p : Int} (h : mayR R = false) : freeS R p = (⟨0, 0, 0, []⟩, 1000) := by
  simp [freeS, freeB, h, Rg.zero]
theorem free_no {R : Rg} {p : Int} (hp : p < R.h ∨ R.t < p) : freeS R p = (⟨0, 0, 0, []⟩, 1000) := by
  have : freeB R p = false := by simp [freeB]; omega
  simp [freeS, this, Rg.zero]
theorem free_ok {R : Rg} {p : Int} (h : mayR R = true) (hp : R.h ≤ p ∧ p ≤ R.t) : freeS R p = (⟨p, R.t, R.f, R.ss⟩, 0) := by
  have : freeB R p = true := by simp [freeB, h]; omega
  simp [freeS, this]
theorem mayR_of {R : Rg} (h1 : slotsB R.ss.length = true) (h2 : 0 ≤ R.h) (h3 : R.h ≤ R.t) (h4 : R.t ≤ 1048576) (h5 : R.t ≤ R.h + R.ss.length) (h6 : 0 ≤ R.f) (h7 : R.f ≤ 4) (h8 : R.ss.all slotB = true) : mayR R = true := by
  simp only [mayR, placesB, h1, h8]
  simp [h2, h3, h4, h5, h6, h7]

end Go.Proofs.Ytgjhbhnfeeleeaa
