/-
  PLAIN GROUND, NO WALK: what an operation that is no scan makes of its own row, at every object. No condition.
-/
import Derived.Test.YtnpejgendmgfaaaObjS
import Derived.Test.YtnpejgendmgfaaaStPut2
namespace Go.Proofs.Ytnpejgendmgfaaa
open Go.RowKit

/-- The row that an operation leaves, and what it tells. -/
def rowF (o c : Int) (xs : List Int) (a : Int) : List Int × Int :=
  if o = 0 then (if c = 0 then [a] else if c = 1 then [] else xs, firstS xs)
  else if o = 1 then (if c = 0 then putS xs else if c = 1 then takeS xs a else (xs, (xs.length : Int)))
  else (if c = 0 then enqS xs a else if c = 1 then deqS xs else (xs, (xs.length : Int)))

theorem objMay_in {o : Int} {s : St} (h : objMay o s = true) : o = 0 ∨ o = 1 ∨ o = 2 := by
  rcases obj_cases (o := o) with rfl | rfl | rfl | hn
  · exact .inl rfl
  · exact .inr (.inl rfl)
  · exact .inr (.inr rfl)
  · rw [objMay_out hn] at h; cases h
theorem objMay_all {o : Int} {s : St} (h : objMay o s = true) : s.all (rowMayO o) = true := (Bool.and_eq_true_iff.mp h).2
theorem objMay_row {o : Int} {s : St} (h : objMay o s = true) {k : Nat} (hk : k < 4) : rowMayO o (s.at k) = true := St.all_at (objMay_all h) hk
theorem objMay_of {o : Int} {s t : St} (h : objMay o s = true) (ht : ∀ k, k < 4 → rowMayO o (t.at k) = true) : objMay o t = true := by
  have h1 := (Bool.and_eq_true_iff.mp h).1
  unfold objMay
  rw [h1, St.all_of ht]; rfl
theorem rowMayO_nil (o : Int) : rowMayO o [] = true := by
  unfold rowMayO; split
  · rfl
  · split <;> rfl
theorem objMay_put {o : Int} {s : St} (h : objMay o s = true) {k : Nat} (hk : k < 4) {x : List Int} (hx : rowMayO o x = true) : objMay o (s.put k x) = true :=
  objMay_of h fun j hj => by rw [St.at_put hk hj]; split; exact hx; exact objMay_row h hj
theorem objMay_zero {o : Int} {s : St} (h : objMay o s = true) : objMay o St.zero = true :=
  objMay_of h fun j _ => by rw [St.at_zero]; exact rowMayO_nil o

theorem objS_row {o : Int} {s : St} {c a : Int} {k : Nat} (er : Int) (hm : objMay o s = true) (ho : opMay c k a = true) (hc : c ≠ 3) :
    objS o s c k a er = (s.put k (rowF o c (s.at k) a).1, (rowF o c (s.at k) a).2, 0) := by
  rcases objMay_in hm with rfl | rfl | rfl
  · replace hm : s.all rowMay1 = true := hm
    rcases opMay_cases ho with ⟨j, hj, rfl, hr, ha⟩ | ⟨j, hj, rfl, hr, ha⟩ | ⟨j, hj, rfl, hr, rfl⟩ | ⟨rfl, hr, rfl⟩
    · obtain rfl : k = j := by omega
      exact stoS_first hm hj ha
    · obtain rfl : k = j := by omega
      exact stoS_second hm hj ha
    · obtain rfl : k = j := by omega
      exact (stoS_look hm hj).trans (by show _ = (s.put k (s.at k), firstS (s.at k), 0); rw [St.put_same hj])
    · exact absurd rfl hc
  · replace hm : s.all rowMay2 = true := hm
    rcases opMay_cases ho with ⟨j, hj, rfl, hr, ha⟩ | ⟨j, hj, rfl, hr, ha⟩ | ⟨j, hj, rfl, hr, rfl⟩ | ⟨rfl, hr, rfl⟩
    · obtain rfl : k = j := by omega
      exact fdsS_first hm hj ha
    · obtain rfl : k = j := by omega
      exact fdsS_second hm hj ha
    · obtain rfl : k = j := by omega
      exact (fdsS_look hm hj).trans (by show _ = (s.put k (s.at k), ((s.at k).length : Int), 0); rw [St.put_same hj])
    · exact absurd rfl hc
  · replace hm : s.all rowMay3 = true := hm
    rcases opMay_cases ho with ⟨j, hj, rfl, hr, ha⟩ | ⟨j, hj, rfl, hr, ha⟩ | ⟨j, hj, rfl, hr, rfl⟩ | ⟨rfl, hr, rfl⟩
    · obtain rfl : k = j := by omega
      exact queS_first hm hj ha
    · obtain rfl : k = j := by omega
      exact queS_second hm hj ha
    · obtain rfl : k = j := by omega
      exact (queS_look hm hj).trans (by show _ = (s.put k (s.at k), ((s.at k).length : Int), 0); rw [St.put_same hj])
    · exact absurd rfl hc

theorem rowF_may {o c r a : Int} {s : St} {xs : List Int} (hm : objMay o s = true) (hx : rowMayO o xs = true) (ho : opMay c r a = true) : rowMayO o (rowF o c xs a).1 = true := by
  obtain ⟨_, _, _, _, ha⟩ := opMay_bounds ho
  rcases objMay_in hm with rfl | rfl | rfl
  · show rowMay1 (if c = 0 then [a] else if c = 1 then [] else xs) = true
    split
    · simp [rowMay1]; omega
    · split
      · rfl
      · exact hx
  · show rowMay2 (if c = 0 then putS xs else if c = 1 then takeS xs a else (xs, (xs.length : Int))).1 = true
    split
    · exact put_may hx
    · split
      · exact take_may hx
      · exact hx
  · show rowMay3 (if c = 0 then enqS xs a else if c = 1 then deqS xs else (xs, (xs.length : Int))).1 = true
    split
    · exact enq_may hx ha
    · split
      · exact deq_may hx
      · exact hx

end Go.Proofs.Ytnpejgendmgfaaa
