/-
  choruslaw10.RingKeeps answers true, for every ring, operation and numbers, and turns nothing that was there. Condition: the ring's slots can be copied.
-/
import Derived.Test.YtnncmjliehoknaaRgKeeps0
import Derived.Test.YtnncmjliehoknaaRgKeeps1
namespace Go.Proofs.Ytnncmjliehoknaa
open Go.RowKit

theorem reserve_or (R : Rg) (k : Int) : (reserveS R k = (⟨R.h, R.t + k, R.f, R.ss⟩, R.t, 0) ∧ IntKind.i64.wrap (R.t + k) = R.t + k) ∨ ∃ ae : Int, (ae == 0) = false ∧ reserveS R k = (⟨0, 0, 0, []⟩, 0, ae) := by
  cases h : askB R k
  · exact .inr ⟨1000, by decide, by simp [reserveS, h, Rg.zero]⟩
  · cases h2 : roomB R k
    · exact .inr ⟨1001, by decide, by simp [reserveS, h, h2, Rg.zero]⟩
    · refine .inl ⟨by simp [reserveS, h, h2], ?_⟩
      simp [roomB, placesB] at h2
      simp [askB] at h
      have := mayR_nums h.1.1
      rw [IntKind.wrap_i64]
      omega
theorem free_or (R : Rg) (p : Int) : freeS R p = (⟨p, R.t, R.f, R.ss⟩, 0) ∨ freeS R p = (⟨0, 0, 0, []⟩, 1000) := by
  cases h : freeB R p
  · exact .inr (by simp [freeS, h, Rg.zero])
  · exact .inl (by simp [freeS, h])
theorem all_set {ss : List Slt} {s : Slt} {p : Slt → Bool} (h : ss.all p = true) (hs : p s = true) (i : Nat) : (ss.set i s).all p = true := by
  rw [List.all_eq_true] at h ⊢
  intro x hx
  rcases List.mem_or_eq_of_mem_set hx with hm | rfl
  · exact h x hm
  · exact hs
/-- A ring with another slot that may be. -/
theorem mayR_set {R : Rg} {s : Slt} {i : Nat} (h : mayR R = true) (hs : slotB s = true) : mayR ⟨R.h, R.t, R.f, R.ss.set i s⟩ = true := by
  have ha := all_set (mayR_all h) hs i
  have hb := mayR_all h
  unfold mayR at h ⊢
  simp only [hb, Bool.and_true] at h
  simp only [List.length_set, ha, Bool.and_true]
  exact h
theorem publish_or (R : Rg) (p c r a th : Int) : publishS R p c r a th = (⟨0, 0, 0, []⟩, 1000) ∨ ∃ (i : Nat) (s : Slt), i < R.ss.length ∧ 0 ≤ p ∧ p.tmod R.ss.length = i ∧ publishS R p c r a th = (⟨R.h, R.t, R.f, R.ss.set i s⟩, 0) ∧ mayR ⟨R.h, R.t, R.f, R.ss.set i s⟩ = true := by
  cases h : pubB R p c r a th
  · exact .inl (by simp [publishS, h, Rg.zero])
  · have h' := h
    rw [pubB_slot] at h'
    simp only [Bool.and_eq_true] at h'
    obtain ⟨⟨h1, h2⟩, h3⟩ := h'
    have hn := mayR_nums h1
    simp [hasB] at h2
    exact .inr ⟨seat R p, ⟨c, r, a, th, bitAt p R.ss.length⟩, seat_lt h1, by omega, seat_eq h1 (by omega), by simp [publishS, h], mayR_set h1 h3⟩

theorem lawRingKeeps (w : World) (v : Value) (R : Rg) (hx : HasR w v R) (hf : FitR R) (k p c r a th : Int) :
    Calls Try.prog 7 #[v, .int .i64 k, .int .i64 p, opV c r a, .int .i64 th] w fun e w' => e = .returned (.bool true) ∧ Le w w' := by
  rcases reserve_or R k with ⟨hA, hs⟩ | ⟨ae, hae, hA⟩ <;> rcases free_or R p with hB | hB <;> rcases publish_or R p c r a th with hC | ⟨i, s, hi, hp, hse, hC, hM⟩
  · exact lawKeeps110 w v R hx hf k p c r a th hA hs hB hC
  · exact lawKeeps111 w v R hx hf k p c r a th hA hs hB i s hi hp hse hC hM
  · exact lawKeeps100 w v R hx hf k p c r a th hA hs hB hC
  · exact lawKeeps101 w v R hx hf k p c r a th hA hs hB i s hi hp hse hC hM
  · exact lawKeeps010 w v R hx hf k p c r a th ae hae hA hB hC
  · exact lawKeeps011 w v R hx hf k p c r a th ae hae hA hB i s hi hp hse hC hM
  · exact lawKeeps000 w v R hx hf k p c r a th ae hae hA hB hC
  · exact lawKeeps001 w v R hx hf k p c r a th ae hae hA hB i s hi hp hse hC hM

end Go.Proofs.Ytnncmjliehoknaa
