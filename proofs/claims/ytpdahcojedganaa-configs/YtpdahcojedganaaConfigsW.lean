/-
  THE WALK over choruslaw13.Configs: it answers true, for every Config and every thread, and turns nothing that was there. No condition.
-/
import Derived.Test.YtpdahcojedganaaCfAwake
import Derived.Test.YtpdahcojedganaaCfR
import Derived.Test.YtpdahcojedganaaLater
namespace Go.Proofs.Ytpdahcojedganaa
open Go.RowKit

set_option maxHeartbeats 2000000 in
theorem configs_law (w : World) (o r l t s k : Int) : Calls Try.prog 3 #[cfgV o r l t s, .int .i64 k] w fun e w' => e = .returned (.bool true) ∧ Le w w' := by
  have h1 := fun w' => cfgReplica o r l t s k w'
  have h2 := fun w' => rmReplicaOf o r l t s k w'
  have h3 := fun w' => cfgMay o r l t s w'
  have h4 := fun w' => rmConfigMay o r l t s w'
  generalize (repS o r l t s k).1 = x1 at h1 h2
  generalize (repS o r l t s k).2 = x2 at h1 h2
  generalize cfgB o r l t s = x3 at h3 h4
  have hl := Le.alloc w (.cells #[.int .i64 o, .int .i64 r, .int .i64 l, .int .i64 t, .int .i64 s] 23)
  have hb := Box.new w #[.int .i64 o, .int .i64 r, .int .i64 l, .int .i64 t, .int .i64 s] 23
  go_enter Try.func3, Try.ntmps3
  go_wp2_with fail
  refine (h1 _).mono ?_; rintro e w1 ⟨rfl, l1⟩
  replace hb := hb.le l1
  obtain ⟨y0, y1, y2, y3, y4⟩ := hb.slot
  go_wp2_with fail
  refine (h2 _).mono ?_; rintro e w2 ⟨rfl, l2⟩
  replace hb := hb.le l2
  clear y0 y1 y2 y3 y4
  go_upto_region 3 with fail
  obtain ⟨q0, q1, q2, q3, q4⟩ := hb.laterS
  refine wp_region_later (by kernel_rfl) (by kernel_rfl) ?_
  repeat (go_big_quiet_step (first | (go_at_call 9; with_reducible exact Calls.later_same (lawNum _ _)) | (go_at_call 10; with_reducible exact Calls.later (h3 _)) | (go_at_call 11; with_reducible exact Calls.later (h4 _)) | (go_at_call 12; with_reducible exact Calls.later (lawAwake13 _))))
  refine wpQuiet_nil ?_
  rintro _ ⟨X, rfl⟩
  go_wp2
  go_ret
  exact ⟨ret_bool (by simp), ((hl.trans l1).trans l2).trans X.le⟩

end Go.Proofs.Ytpdahcojedganaa
