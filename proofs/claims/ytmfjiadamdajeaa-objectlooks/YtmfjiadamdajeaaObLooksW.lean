/-
  THE WALK over choruslaw6.ObjectLooks: it answers true, for every object, state and row, and turns nothing that was there. Condition: the state's rows can be copied.
-/
import Derived.Test.YtmfjiadamdajeaaObAwake
import Derived.Test.YtmfjiadamdajeaaBits
namespace Go.Proofs.Ytmfjiadamdajeaa
open Go.RowKit

/-- What a look or a scan leaves: the state itself. -/
theorem objS_look {o : Int} {s : St} {k : Nat} (hk : k < 4) : ∃ x, objS o s 2 k 0 600 = if objMay o s then (s, x, 0) else (St.zero, 0, 600) := by
  have ho : opMay 2 k 0 = true := by simp [opMay]; omega
  cases hm : objMay o s
  · exact ⟨0, by rw [objS_no (by rw [hm]; rfl)]; rfl⟩
  · rcases obj_cases (o := o) with rfl | rfl | rfl | hn
    · exact ⟨_, stoS_look hm hk⟩
    · exact ⟨_, fdsS_look hm hk⟩
    · exact ⟨_, queS_look hm hk⟩
    · rw [objMay_out hn] at hm; cases hm
theorem objS_scan {o : Int} {s : St} : ∃ x, objS o s 3 0 0 600 = if objMay o s then (s, x, 0) else (St.zero, 0, 600) := by
  cases hm : objMay o s
  · exact ⟨0, by rw [objS_no (by rw [hm]; rfl)]; rfl⟩
  · rcases obj_cases (o := o) with rfl | rfl | rfl | hn
    · exact ⟨_, stoS_scan hm⟩
    · exact ⟨_, fdsS_scan hm⟩
    · exact ⟨_, queS_scan hm⟩
    · rw [objMay_out hn] at hm; cases hm

set_option maxRecDepth 4000 in
set_option maxHeartbeats 2000000 in
theorem lawLooks (w : World) (o : Int) (v : Value) (s : St) (hx : HasS w v s) (hf : Fit s) (row : Int) :
    Calls Try.prog 4 #[.int .i64 o, v, .int .i64 row] w fun e w' => e = .returned (.bool true) ∧ Le w w' := by
  have hx0 := hx
  obtain ⟨vs, rfl, hr⟩ := hx
  have hl := Le.alloc w (.cells (cells4 vs) 25)
  have hb1 := Box.new w (cells4 vs) 25
  obtain ⟨k, hk, k0⟩ : ∃ k : Nat, bits .and .i64 row 3 = (k : Int) ∧ k < 4 := ⟨(row % 4).toNat, by rw [and3]; omega, by omega⟩
  obtain ⟨x1, e1⟩ := objS_look (o := o) (s := s) k0
  obtain ⟨x2, e2⟩ := objS_scan (o := o) (s := s)
  have hap := fun (w' : World) (h : Le w w') => objApply o (stV vs) s 2 k 0 w' (hx0.le h) hf
  have haq := fun (w' : World) (h : Le w w') => objApply o (stV vs) s 3 0 0 w' (hx0.le h) hf
  have ham := fun (w' : World) (h : Le w w') => objMayC o (stV vs) s w' (hx0.le h) hf
  rw [e1] at hap
  rw [e2] at haq
  clear e1 e2
  cases hm : objMay o s
  all_goals
    rw [hm] at hap haq ham
    go_enter Try.func4, Try.ntmps4
    go_wp2_with fail
    refine (lawAwake6 _).mono ?_
    rintro e w1 ⟨rfl, l1⟩
    replace hl := hl.trans l1
    replace hb1 := hb1.le l1
    clear l1
    obtain ⟨y0, y1, y2, y3, _, _, _, _⟩ := hb1.st
    go_wp2_with fail
    refine (hap _ hl).mono ?_
    rintro e w2 ⟨_, rfl, ⟨q2, rfl, o2⟩, l2⟩
    have hb2 := Box.new w2 (cells4 q2) 25
    replace l2 := l2.trans (Le.alloc w2 (.cells (cells4 q2) 25))
    replace o2 := fun i hi => (o2 i hi).le (Le.alloc w2 (.cells (cells4 q2) 25))
    replace hl := hl.trans l2
    replace hb1 := hb1.le l2
    clear l2 hap y0 y1 y2 y3
    obtain ⟨y0, y1, y2, y3, _, _, _, _⟩ := hb1.st
    go_wp2_with fail
    refine (haq _ hl).mono ?_
    rintro e w3 ⟨_, rfl, ⟨q3, rfl, o3⟩, l3⟩
    have hb3 := Box.new w3 (cells4 q3) 25
    replace l3 := l3.trans (Le.alloc w3 (.cells (cells4 q3) 25))
    replace o3 := fun i hi => (o3 i hi).le (Le.alloc w3 (.cells (cells4 q3) 25))
    replace hl := hl.trans l3
    replace hb1 := hb1.le l3
    replace hb2 := hb2.le l3
    replace o2 := fun i hi => (o2 i hi).le l3
    clear l3 haq y0 y1 y2 y3
    obtain ⟨y0, y1, y2, y3, _, _, _, _⟩ := hb1.st
    go_wp2_with fail
    refine (ham _ hl).mono ?_
    rintro e w4 ⟨rfl, l4⟩
    replace hl := hl.trans l4
    replace hb1 := hb1.le l4
    replace hb2 := hb2.le l4
    replace hb3 := hb3.le l4
    replace o2 := fun i hi => (o2 i hi).le l4
    replace o3 := fun i hi => (o3 i hi).le l4
    clear l4 ham y0 y1 y2 y3
    obtain ⟨y0, y1, y2, y3, _, _, _, _⟩ := hb1.st
    obtain ⟨z0, z1, z2, z3, _, _, _, _⟩ := hb2.st
    go_wp2_with (go_at_call 11; refine (lawNum _ _).mono ?_; rintro e _ ⟨rfl, rfl⟩)
  · refine (lawSameState (stV q2) stZ St.zero St.zero _ (OwnS.has ⟨q2, rfl, o2⟩) (HasS.zero _) fit_zero).mono ?_
    rw [show decide (St.zero = St.zero) = true by decide]
    rintro e w5 ⟨rfl, l5⟩
    replace hl := hl.trans l5
    obtain ⟨x0, x1, x2, x3, _, _, _, _⟩ := (hb3.le l5).st
    replace o3 := fun i hi => (o3 i hi).le l5
    go_wp2_with fail
    refine (lawSameState (stV q3) stZ St.zero St.zero _ (OwnS.has ⟨q3, rfl, o3⟩) (HasS.zero _) fit_zero).mono ?_
    rw [show decide (St.zero = St.zero) = true by decide]
    rintro e w6 ⟨rfl, l6⟩
    go_wp2_with fail
    go_ret
    exact ⟨rfl, hl.trans l6⟩
  · refine (lawSameState (stV q2) (stV vs) s s _ (OwnS.has ⟨q2, rfl, o2⟩) (hx0.le hl) hf).mono ?_
    rw [show decide (s = s) = true by simp]
    rintro e w5 ⟨rfl, l5⟩
    replace hl := hl.trans l5
    clear y0 y1 y2 y3
    obtain ⟨y0, y1, y2, y3, _, _, _, _⟩ := (hb1.le l5).st
    obtain ⟨x0, x1, x2, x3, _, _, _, _⟩ := (hb3.le l5).st
    replace o3 := fun i hi => (o3 i hi).le l5
    go_wp2_with fail
    refine (lawSameState (stV q3) (stV vs) s s _ (OwnS.has ⟨q3, rfl, o3⟩) (hx0.le hl) hf).mono ?_
    rw [show decide (s = s) = true by simp]
    rintro e w6 ⟨rfl, l6⟩
    go_wp2_with fail
    go_ret
    exact ⟨rfl, hl.trans l6⟩

end Go.Proofs.Ytmfjiadamdajeaa
