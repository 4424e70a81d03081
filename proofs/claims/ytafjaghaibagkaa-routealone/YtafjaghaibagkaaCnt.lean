/-
  THE WALKS over package states' Counted: the state that an operation makes, and its answer, for every two functions that make another row of one, in the call's own memory. Condition: the state's rows can be copied, and are short.
-/
import Derived.Test.YtafjaghaibagkaaSts
import Derived.Test.YtafjaghaibagkaaStPut2
import Derived.Deep.Cut
namespace Go.Proofs.Ytafjaghaibagkaa
open Go.RowKit

/-- The function f makes the row F of a row of the call's own, and answers a number; nothing else turns. -/
structure TurnsRow (f : Nat) (F : List Int → Int → List Int × Int) : Prop where
  enter : ∀ (u x : Value) (w : World), (callFunc f #[u, x]).run Try.prog w = .ok (.enter f #[u, x]) w
  calls : ∀ (v : Value) (base : Nat) (xs : List Int) (a : Int) (w : World), Own w base v xs → base ≤ w.heap.size → xs.length ≤ 4 → 0 ≤ a ∧ a ≤ 255 →
    Calls Try.prog f #[v, .int .i64 a] w fun e w' => ∃ v', e = .returned (.tuple #[v', .int .i64 (F xs a).2]) ∧ Own w' base v' (F xs a).1 ∧ w.grownBy w' v.ownBlock

theorem Le.grownBy {w w' : World} (h : Le w w') (row : Option Nat) : w.grownBy w' row := ⟨h.os, h.tape, h.output, h.size, fun k hk _ => h.block k hk⟩

/-- What an operation that may be makes of a state, where looks and scans count. -/
def cntY (F G : List Int → Int → List Int × Int) (s : St) (c r a : Int) : St × Int :=
  if c = 3 then (s, manyTo s 4)
  else if c = 2 then (s, ((s.at r.toNat).length : Int))
  else if c = 1 then (s.put r.toNat (G (s.at r.toNat) a).1, (G (s.at r.toNat) a).2)
  else (s.put r.toNat (F (s.at r.toNat) a).1, (F (s.at r.toNat) a).2)

/-- .. the document's answer: the state, the answer, the error. -/
def cntS (p : List Int → Bool) (F G : List Int → Int → List Int × Int) (s : St) (c r a e : Int) : St × Int × Int :=
  if s.all p && opMay c r a then ((cntY F G s c r a).1, (cntY F G s c r a).2, 0) else (St.zero, 0, e)

theorem cntS_no {p : List Int → Bool} {F G : List Int → Int → List Int × Int} {s : St} {c r a er : Int} (h : (s.all p && opMay c r a) = false) : cntS p F G s c r a er = (St.zero, 0, er) := by simp [cntS, h]
theorem cntS_yes {p : List Int → Bool} {F G : List Int → Int → List Int × Int} {s : St} {c r a er : Int} (h : (s.all p && opMay c r a) = true) : cntS p F G s c r a er = ((cntY F G s c r a).1, (cntY F G s c r a).2, 0) := by simp [cntS, h]
theorem cntS_scan {p : List Int → Bool} {F G : List Int → Int → List Int × Int} {s : St} {er : Int} (h : s.all p = true) : cntS p F G s 3 0 0 er = (s, manyTo s 4, 0) := by
  have : opMay 3 0 0 = true := by decide
  simp [cntS, cntY, h, this]
theorem cntS_look {p : List Int → Bool} {F G : List Int → Int → List Int × Int} {s : St} {k : Nat} {er : Int} (h : s.all p = true) (hk : k < 4) : cntS p F G s 2 k 0 er = (s, ((s.at k).length : Int), 0) := by
  have : opMay 2 k 0 = true := by simp [opMay]; omega
  simp [cntS, cntY, h, this]
theorem cntS_first {p : List Int → Bool} {F G : List Int → Int → List Int × Int} {s : St} {k : Nat} {a er : Int} (h : s.all p = true) (hk : k < 4) (ha : 0 ≤ a ∧ a ≤ 255) : cntS p F G s 0 k a er = (s.put k (F (s.at k) a).1, (F (s.at k) a).2, 0) := by
  have : opMay 0 k a = true := by simp [opMay]; omega
  simp [cntS, cntY, h, this]
theorem cntS_second {p : List Int → Bool} {F G : List Int → Int → List Int × Int} {s : St} {k : Nat} {a er : Int} (h : s.all p = true) (hk : k < 4) (ha : 0 ≤ a ∧ a ≤ 255) : cntS p F G s 1 k a er = (s.put k (G (s.at k) a).1, (G (s.at k) a).2, 0) := by
  have : opMay 1 k a = true := by simp [opMay]; omega
  simp [cntS, cntY, h, this]

end Go.Proofs.Ytafjaghaibagkaa
