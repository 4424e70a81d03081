/-
  THE WALK over choruslaw11.Cursors: it answers true, for every ring and all numbers, and turns nothing that was there. Condition: the ring's slots and the numbers can be copied.
-/
import Derived.Test.YtgjhbhnfeeleeaaCuAwake
import Derived.Test.YtgjhbhnfeeleeaaLendA
import Derived.Test.YtgjhbhnfeeleeaaLater
namespace Go.Proofs.Ytgjhbhnfeeleeaa
open Go.RowKit

set_option maxRecDepth 4000 in
set_option maxHeartbeats 2000000 in
theorem cursors_law (w : World) (v : Value) (R : Rg) (hx : HasR w v R) (hf : FitR R) (u : Value) (xs : List Int) (hu : Has w u xs) (hr : xs.length * 8 ≤ 140737488351232) :
    Calls Try.prog 3 #[v, u] w fun e w' => e = .returned (.bool true) ∧ Le w w' := by
  obtain ⟨h, t, f, ss⟩ := R
  obtain ⟨q, rfl, hq⟩ := hx
  have hb := Box.new w (cellsR h t f q) 24
  have hl := Le.alloc w (.cells (cellsR h t f q) 24)
  replace hq := hq.le hl
  replace hu := hu.le hl
  obtain ⟨x, er, hS⟩ : ∃ x er, leastS xs = (x, er) := ⟨_, _, rfl⟩
  have b1 := fun v w hx => leastAs hS (by omega) v w hx
  have b2 := fun v w (hx : Has w v xs) => refLeast v xs w hx (by omega)
  rw [hS] at b2
  obtain ⟨y, hy⟩ : ∃ y, cursB ⟨h, t, f, ss⟩ xs = y := ⟨_, rfl⟩
  have b3 := cursAs hy hf (by omega)
  have b4 := fun v w (hq : HasR w v ⟨h, t, f, ss⟩) u (hx : Has w u xs) => refCursorsMay v u ⟨h, t, f, ss⟩ xs w hq hf hx (by omega)
  rw [hy] at b4
  clear hS hy
  go_enter Try.func3, Try.ntmps3
  go_upto_region 1 with fail
  generalize hW : w.alloc (.cells (cellsR h t f q) 24) = W at hq hb hl hu ⊢
  go_wp2_with fail
  refine (lawLendInts _ xs _ hu hr).mono ?_
  rintro e w1 ⟨v1, rfl, hlent, l1⟩
  replace hu := hu.le l1
  replace hq := hq.le l1
  replace hb := hb.le l1
  replace hl := hl.trans l1
  go_wp2_with fail
  refine (b1 _ _ hlent.has).mono ?_
  rintro e _ ⟨rfl, rfl⟩
  go_wp2_with fail
  refine (b2 _ _ hu).mono ?_
  rintro e _ ⟨rfl, rfl⟩
  obtain ⟨q0, q1, q2, q3⟩ := hb.laterR
  go_upto_region 4 with fail
  have s1 := fun X : Later w1 => b3 q v1 X.w (hq.le X.le) (hlent.le X.le).has
  have s2 := fun X : Later w1 => b4 (ringV h t f q) X.w ⟨q, rfl, hq.le X.le⟩ u (hu.le X.le)
  have s3 := fun X : Later w1 => lawKeptInts v1 u xs _ X.w (hlent.le X.le) (hu.le X.le) (by omega)
  refine wp_region_later (by kernel_rfl) (by kernel_rfl) ?_
  repeat (go_big_quiet_step (first | (go_at_call 10; with_reducible exact Calls.later_same (lawNum _ _)) | (go_at_call 11; with_reducible exact Calls.later (s1 _)) | (go_at_call 12; with_reducible exact Calls.later (s2 _)) | (go_at_call 13; with_reducible exact Calls.later (s3 _)) | (go_at_call 14; with_reducible exact Calls.later (lawAwake11 _))))
  refine wpQuiet_nil ?_
  rintro _ ⟨X, rfl⟩
  go_wp2
  go_ret
  exact ⟨ret_bool (by simp), hl.trans X.le⟩

end Go.Proofs.Ytgjhbhnfeeleeaa
