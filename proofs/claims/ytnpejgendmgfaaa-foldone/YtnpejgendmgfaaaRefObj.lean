/-
  THE WALKS over the document's own StateMay and Apply, at every object: what they answer, for every state and operation. Condition: the state's rows can be copied.
-/
import Derived.Test.YtnpejgendmgfaaaObjS
import Derived.Test.YtnpejgendmgfaaaRefApp0
import Derived.Test.YtnpejgendmgfaaaRefApp1
import Derived.Test.YtnpejgendmgfaaaRefApp2
namespace Go.Proofs.Ytnpejgendmgfaaa
open Go.RowKit

set_option maxHeartbeats 400000 in
theorem refStateMayOut (o : Int) (ho : o < 0 ∨ 2 < o) (v : Value) (s : St) (w : World) (hx : HasS w v s) :
    Calls Try.prog 21 #[.int .i64 o, v] w fun e w' => e = .returned (.bool false) ∧ Le w w' := by
  obtain ⟨vs, rfl, hr⟩ := hx
  have hl := Le.alloc w (.cells (cells4 vs) 25)
  by_cases h0 : o < 0
  · go_enter Try.func21, Try.ntmps21
    go_wp2
    refine wp_loop_rounds 1 ?_
    rw [rounds_succ]
    go_wp2
    go_ret
    exact ⟨rfl, hl⟩
  · have h2 : 2 < o := by omega
    go_enter Try.func21, Try.ntmps21
    go_wp2
    refine wp_loop_rounds 1 ?_
    rw [rounds_succ]
    go_wp2
    go_ret
    exact ⟨rfl, hl⟩

theorem refStateMay (o : Int) (v : Value) (s : St) (w : World) (hx : HasS w v s) (hf : Fit s) :
    Calls Try.prog 21 #[.int .i64 o, v] w fun e w' => e = .returned (.bool (objMay o s)) ∧ Le w w' := by
  rcases obj_cases (o := o) with rfl | rfl | rfl | ho
  · exact refStateMay0 v s w hx hf
  · exact refStateMay1 v s w hx
  · exact refStateMay2 v s w hx hf
  · rw [objMay_out ho]; exact refStateMayOut o ho v s w hx

set_option maxHeartbeats 2000000 in
theorem refApplyOut (o : Int) (ho : o < 0 ∨ 2 < o) (v : Value) (s : St) (c r a er : Int) (w : World) (hx : HasS w v s) :
    Calls Try.prog 20 #[.int .i64 o, v, opV c r a, .int .i64 er] w fun e w' => e = .returned (.tuple #[stZ, .int .i64 0, .int .i64 er]) ∧ Le w w' := by
  have hx0 := hx
  obtain ⟨vs, rfl, hr⟩ := hx
  have hl := ((Le.alloc w (.cells (cells4 vs) 25)).trans (Le.alloc _ (.cells #[.int .i64 c, .int .i64 r, .int .i64 a] 43))).trans (Le.alloc _ (.cells (cells4 fun _ => slZ) 25))
  have hb3 := Box.new ((w.alloc (.cells (cells4 vs) 25)).alloc (.cells #[.int .i64 c, .int .i64 r, .int .i64 a] 43)) (cells4 fun _ => slZ) 25
  simp only [World.size_alloc] at hb3
  have hmay := refStateMayOut o ho (stV vs) s _ (hx0.le hl)
  clear ho
  go_enter Try.func20, Try.ntmps20
  go_wp2_with fail
  refine hmay.mono ?_
  rintro e w1 ⟨rfl, l1⟩
  obtain ⟨z0, z1, z2, z3, f0, f1, f2, f3⟩ := (hb3.le l1).st
  go_wp2_with fail
  refine bodyPost_ret (v := .tuple #[stZ, .int .i64 0, .int .i64 er]) (by simp [results, Try.results20, go_sem, z0, z1, z2, z3]) rfl ⟨rfl, ?_⟩
  exact (hl.trans l1).set4 (by omega) _ _ _ _

theorem refObj (o : Int) (v : Value) (s : St) (c r a er : Int) (w : World) (hx : HasS w v s) (hf : Fit s) :
    Calls Try.prog 20 #[.int .i64 o, v, opV c r a, .int .i64 er] w fun e w' => ∃ v', e = .returned (.tuple #[v', .int .i64 (objS o s c r a er).2.1, .int .i64 (objS o s c r a er).2.2]) ∧ OwnS w' w.heap.size v' (objS o s c r a er).1 ∧ Le w w' := by
  rcases obj_cases (o := o) with rfl | rfl | rfl | ho
  · exact refStore v s c r a er w hx hf
  · exact refFds v s c r a er w hx hf
  · exact refQueue v s c r a er w hx hf
  · rw [objS_out ho]
    exact (refApplyOut o ho v s c r a er w hx).mono fun e w' ⟨he, hl⟩ => ⟨stZ, he, OwnS.zero _ _, hl⟩

end Go.Proofs.Ytnpejgendmgfaaa
