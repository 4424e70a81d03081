/-
  THE WALKS over package ring's New, Reserve, Free: what each answers, for every ring and number, and that what it hands back lies in memory of its own. Condition: that the slots can be copied.
-/
import Derived.Test.YtgjhbhnfeeleeaaRgB
namespace Go.Proofs.Ytgjhbhnfeeleeaa
open Go.RowKit

def newS (n : Int) : Rg × Int := if slotsB n then (⟨0, 0, 0, List.replicate n.toNat Slt.zero⟩, 0) else (Rg.zero, 1000)
/-- May so many be reserved? -/
def askB (R : Rg) (k : Int) : Bool := mayR R && decide (1 ≤ k) && decide (k ≤ R.ss.length)
/-- .. is there room for them, and no fence? -/
def roomB (R : Rg) (k : Int) : Bool := decide (R.f = 0) && placesB R.h (R.t + k) R.ss.length
def reserveS (R : Rg) (k : Int) : Rg × Int × Int :=
  if askB R k then (if roomB R k then (⟨R.h, R.t + k, R.f, R.ss⟩, R.t, 0) else (Rg.zero, 0, 1001)) else (Rg.zero, 0, 1000)
def freeB (R : Rg) (p : Int) : Bool := mayR R && decide (R.h ≤ p) && decide (p ≤ R.t)
def freeS (R : Rg) (p : Int) : Rg × Int := if freeB R p then (⟨p, R.t, R.f, R.ss⟩, 0) else (Rg.zero, 1000)

theorem mayR_slots {R : Rg} (h : mayR R = true) : slotsB R.ss.length = true := by simp [mayR] at h; exact h.1.1.1.1
theorem mayR_all {R : Rg} (h : mayR R = true) : R.ss.all slotB = true := by simp [mayR] at h; rw [List.all_eq_true]; exact h.2
theorem mayR_places {R : Rg} (h : mayR R = true) : placesB R.h R.t R.ss.length = true := by simp [mayR] at h; exact h.1.1.1.2
theorem mayR_len {R : Rg} (h : mayR R = true) : R.ss.length = 2 ∨ R.ss.length = 4 ∨ R.ss.length = 8 ∨ R.ss.length = 16 := by
  have := slotsB_cases (mayR_slots h); omega
theorem mayR_nums {R : Rg} (h : mayR R = true) : 0 ≤ R.h ∧ R.h ≤ R.t ∧ R.t ≤ 1048576 ∧ R.t ≤ R.h + R.ss.length := by
  have := mayR_places h; simp [placesB] at this; omega
theorem mayR_fit {R : Rg} (h : mayR R = true) : FitR R := by
  have := mayR_len h; unfold FitR; omega

theorem flatV_zero : ∀ n, flatV (List.replicate n Slt.zero) = List.replicate (n * 5) (.int .i64 0)
  | 0 => rfl
  | n + 1 => by
    rw [List.replicate_succ, flatV, flatV_zero n, show (n + 1) * 5 = 5 + n * 5 by omega, ← List.replicate_append_replicate]
    rfl

/-- The cells of n slots that were never written to. -/
def zerosV (n : Nat) : Array Value := Array.replicate (n * 5) (.int .i64 0)

/-- Slots that were never written to, in a block of their own. -/
theorem OwnL.made (w : World) (base n : Nat) (hb : base ≤ w.heap.size) (hn : n ≤ 1000) : OwnL (w.alloc (.cells (zerosV n) 53)) base (.slice (some ⟨w.heap.size, 0, none⟩) n n) (List.replicate n Slt.zero) := by
  have := World.ownsRow_lit (e := 53) (size := 5) w (zerosV n) n hb (by unfold maxLen; omega) (by simp [zerosV])
  exact OwnL.of this (by simp) (by rw [flatV_zero]; simp [zerosV])

theorem make2 (w : World) : (Instr.makeSlice 22 (.int .i64 2) (.int .i64 2)).run Try.prog w = .ok (slV (some ⟨w.heap.size, 0, none⟩, 2, 2)) (w.alloc (.cells (zerosV 2) 53)) := by kernel_rfl
theorem make4 (w : World) : (Instr.makeSlice 22 (.int .i64 4) (.int .i64 4)).run Try.prog w = .ok (slV (some ⟨w.heap.size, 0, none⟩, 4, 4)) (w.alloc (.cells (zerosV 4) 53)) := by kernel_rfl
theorem make8 (w : World) : (Instr.makeSlice 22 (.int .i64 8) (.int .i64 8)).run Try.prog w = .ok (slV (some ⟨w.heap.size, 0, none⟩, 8, 8)) (w.alloc (.cells (zerosV 8) 53)) := by kernel_rfl
theorem make16 (w : World) : (Instr.makeSlice 22 (.int .i64 16) (.int .i64 16)).run Try.prog w = .ok (slV (some ⟨w.heap.size, 0, none⟩, 16, 16)) (w.alloc (.cells (zerosV 16) 53)) := by kernel_rfl

/-- A ring, stored into a variable. -/
theorem Box.put4 {w : World} {g : Nat} {h t f h' t' f' : Int} {q q' : Sl} {T : TypeId} (hb : Box w g (cellsR h t f q) T) :
    Box ((((w.setCell ⟨g, 0, none⟩ (.int .i64 h')).setCell ⟨g, 1, none⟩ (.int .i64 t')).setCell ⟨g, 2, none⟩ (.int .i64 f')).setCell ⟨g, 3, none⟩ (slV q')) g (cellsR h' t' f' q') T :=
  (((hb.set 0 _).set 1 _).set 2 _).set 3 _
theorem Box.other4 {w : World} {g g' : Nat} {cs : Array Value} {a b c d : Value} {T : TypeId} (hb : Box w g cs T) (hne : g ≠ g') :
    Box ((((w.setCell ⟨g', 0, none⟩ a).setCell ⟨g', 1, none⟩ b).setCell ⟨g', 2, none⟩ c).setCell ⟨g', 3, none⟩ d) g cs T :=
  (((hb.other hne 0 _).other hne 1 _).other hne 2 _).other hne 3 _
theorem OwnL.set4 {w : World} {base g : Nat} {v a b c d : Value} {ss : List Slt} (h : OwnL w base v ss) (hne : v.ownBlock ≠ some g) :
    OwnL ((((w.setCell ⟨g, 0, none⟩ a).setCell ⟨g, 1, none⟩ b).setCell ⟨g, 2, none⟩ c).setCell ⟨g, 3, none⟩ d) base v ss :=
  (((h.set hne).set hne).set hne).set hne
theorem Le.put4 {w w' : World} {g : Nat} {a b c d : Value} (h : Le w w') (hg : w.heap.size ≤ g) :
    Le w ((((w'.setCell ⟨g, 0, none⟩ a).setCell ⟨g, 1, none⟩ b).setCell ⟨g, 2, none⟩ c).setCell ⟨g, 3, none⟩ d) :=
  (((h.set hg).set hg).set hg).set hg

end Go.Proofs.Ytgjhbhnfeeleeaa
