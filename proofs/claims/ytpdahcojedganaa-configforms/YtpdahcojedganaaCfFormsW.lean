/-
  THE WALK over choruslaw13.ConfigForms: it answers true, for every two numbers, and turns nothing that was there. No condition.
-/
import Derived.Test.YtpdahcojedganaaCfAwake
import Derived.Test.YtpdahcojedganaaBits
namespace Go.Proofs.Ytpdahcojedganaa
open Go.RowKit

theorem thirteen (a : Int) : ∃ q : Int, (IntKind.u64.wrap a).tmod 13 = q ∧ 0 ≤ q ∧ q < 13 := by
  have h : 0 ≤ IntKind.u64.wrap a := by simp [IntKind.wrap, IntKind.bits, IntKind.signed]; omega
  rw [Int.tmod_eq_emod_of_nonneg h]
  exact ⟨_, rfl, by omega, by omega⟩

theorem cfBad0 (d : Int) (d0 : 1 ≤ d) : cfgB (-d) 2 2 3 8 = false := by
  have h : inB 0 (-d) 2 = false := inB_off (by omega)
  simp [cfgB, h]

set_option maxRecDepth 4000 in
set_option maxHeartbeats 4000000 in
theorem cfForms0 (w : World) (a0 a1 : Int) (hq : (IntKind.u64.wrap a0).tmod 13 = 0) : Calls Try.prog 4 #[.int .i64 a0, .int .i64 a1] w fun e w' => e = .returned (.bool true) ∧ Le w w' := by
  obtain ⟨m, hm, m0, m1⟩ : ∃ m, bits .and .i64 a1 1023 = m ∧ 0 ≤ m ∧ m ≤ 1023 := ⟨_, and1023 a1, by omega, by omega⟩
  obtain ⟨d, hd⟩ : ∃ d, 1 + m = d := ⟨_, rfl⟩
  obtain ⟨d0, d1⟩ : 1 ≤ d ∧ d ≤ 1024 := by omega
  have b1 := fun w => repAs (repS_no (k := 0) (.inl (cfBad0 d d0))) w
  have b2 := fun w => repAs (show repS 1 2 2 3 8 (-d) = (0, 1300) from repS_no (.inr (.inl (by omega)))) w
  have b3 := fun w => repAs (show repS 1 2 2 3 8 (2 + d) = (0, 1300) from repS_no (.inr (.inr (by omega)))) w
  have b4 := fun w => cfgAs (show cfgB 1 2 2 3 8 = true by decide) w
  have b5 := fun w => cfgAs (cfBad0 d d0) w
  go_enter Try.func4, Try.ntmps4
  go_wp2_with fail
  refine (lawAwake13 _).mono ?_
  rintro e w1 ⟨rfl, l1⟩
  have hg := Box.new w1 #[.int .i64 1, .int .i64 2, .int .i64 2, .int .i64 3, .int .i64 8] 23
  have lg := Le.alloc w1 (.cells #[.int .i64 1, .int .i64 2, .int .i64 2, .int .i64 3, .int .i64 8] 23)
  go_upto_region 5 with fail
  clear hm hd
  generalize hW : w1.alloc (.cells #[.int .i64 1, .int .i64 2, .int .i64 2, .int .i64 3, .int .i64 8] 23) = W at hg lg ⊢
  obtain ⟨y0, y1, y2, y3, y4⟩ := hg.slot
  have hb := Box.new W #[.int .i64 (-d), .int .i64 2, .int .i64 2, .int .i64 3, .int .i64 8] 23
  have lb := Le.alloc W (.cells #[.int .i64 (-d), .int .i64 2, .int .i64 2, .int .i64 3, .int .i64 8] 23)
  go_upto_region 32 with fail
  clear y0 y1 y2 y3 y4
  generalize hV : W.alloc (.cells #[.int .i64 (-d), .int .i64 2, .int .i64 2, .int .i64 3, .int .i64 8] 23) = V at hb lb ⊢
  replace hg := hg.le lb
  obtain ⟨y0, y1, y2, y3, y4⟩ := hb.slot
  go_wp2_with fail
  refine (b1 _).mono ?_
  rintro e w2 ⟨rfl, l2⟩
  clear y0 y1 y2 y3 y4
  replace hg := hg.le l2
  replace hb := hb.le l2
  obtain ⟨y0, y1, y2, y3, y4⟩ := hg.slot
  go_wp2_with fail
  refine (b2 _).mono ?_
  rintro e w3 ⟨rfl, l3⟩
  clear y0 y1 y2 y3 y4
  replace hg := hg.le l3
  replace hb := hb.le l3
  obtain ⟨y0, y1, y2, y3, y4⟩ := hg.slot
  go_wp2_with fail
  refine (b3 _).mono ?_
  rintro e w4 ⟨rfl, l4⟩
  clear y0 y1 y2 y3 y4
  replace hg := hg.le l4
  replace hb := hb.le l4
  obtain ⟨y0, y1, y2, y3, y4⟩ := hg.slot
  go_wp2_with fail
  refine (b4 _).mono ?_
  rintro e w5 ⟨rfl, l5⟩
  clear y0 y1 y2 y3 y4
  replace hb := hb.le l5
  obtain ⟨y0, y1, y2, y3, y4⟩ := hb.slot
  go_wp2_with fail
  refine (b5 _).mono ?_
  rintro e w6 ⟨rfl, l6⟩
  go_wp2_with (go_at_call 9; refine (lawNum _ _).mono ?_; rintro e _ ⟨rfl, rfl⟩)
  go_ret
  exact ⟨rfl, ((((((l1.trans lg).trans lb).trans l2).trans l3).trans l4).trans l5).trans l6⟩

theorem cfBad1 (d : Int) (d0 : 1 ≤ d) : cfgB (2 + d) 2 2 3 8 = false := by
  have h : inB 0 (2 + d) 2 = false := inB_off (by omega)
  simp [cfgB, h]

set_option maxRecDepth 4000 in
set_option maxHeartbeats 4000000 in
theorem cfForms1 (w : World) (a0 a1 : Int) (hq : (IntKind.u64.wrap a0).tmod 13 = 1) : Calls Try.prog 4 #[.int .i64 a0, .int .i64 a1] w fun e w' => e = .returned (.bool true) ∧ Le w w' := by
  obtain ⟨m, hm, m0, m1⟩ : ∃ m, bits .and .i64 a1 1023 = m ∧ 0 ≤ m ∧ m ≤ 1023 := ⟨_, and1023 a1, by omega, by omega⟩
  obtain ⟨d, hd⟩ : ∃ d, 1 + m = d := ⟨_, rfl⟩
  obtain ⟨d0, d1⟩ : 1 ≤ d ∧ d ≤ 1024 := by omega
  have b1 := fun w => repAs (repS_no (k := 0) (.inl (cfBad1 d d0))) w
  have b2 := fun w => repAs (show repS 1 2 2 3 8 (-d) = (0, 1300) from repS_no (.inr (.inl (by omega)))) w
  have b3 := fun w => repAs (show repS 1 2 2 3 8 (2 + d) = (0, 1300) from repS_no (.inr (.inr (by omega)))) w
  have b4 := fun w => cfgAs (show cfgB 1 2 2 3 8 = true by decide) w
  have b5 := fun w => cfgAs (cfBad1 d d0) w
  go_enter Try.func4, Try.ntmps4
  go_wp2_with fail
  refine (lawAwake13 _).mono ?_
  rintro e w1 ⟨rfl, l1⟩
  have hg := Box.new w1 #[.int .i64 1, .int .i64 2, .int .i64 2, .int .i64 3, .int .i64 8] 23
  have lg := Le.alloc w1 (.cells #[.int .i64 1, .int .i64 2, .int .i64 2, .int .i64 3, .int .i64 8] 23)
  go_upto_region 5 with fail
  clear hm hd
  generalize hW : w1.alloc (.cells #[.int .i64 1, .int .i64 2, .int .i64 2, .int .i64 3, .int .i64 8] 23) = W at hg lg ⊢
  obtain ⟨y0, y1, y2, y3, y4⟩ := hg.slot
  have hb := Box.new W #[.int .i64 (2 + d), .int .i64 2, .int .i64 2, .int .i64 3, .int .i64 8] 23
  have lb := Le.alloc W (.cells #[.int .i64 (2 + d), .int .i64 2, .int .i64 2, .int .i64 3, .int .i64 8] 23)
  go_upto_region 32 with fail
  clear y0 y1 y2 y3 y4
  generalize hV : W.alloc (.cells #[.int .i64 (2 + d), .int .i64 2, .int .i64 2, .int .i64 3, .int .i64 8] 23) = V at hb lb ⊢
  replace hg := hg.le lb
  obtain ⟨y0, y1, y2, y3, y4⟩ := hb.slot
  go_wp2_with fail
  refine (b1 _).mono ?_
  rintro e w2 ⟨rfl, l2⟩
  clear y0 y1 y2 y3 y4
  replace hg := hg.le l2
  replace hb := hb.le l2
  obtain ⟨y0, y1, y2, y3, y4⟩ := hg.slot
  go_wp2_with fail
  refine (b2 _).mono ?_
  rintro e w3 ⟨rfl, l3⟩
  clear y0 y1 y2 y3 y4
  replace hg := hg.le l3
  replace hb := hb.le l3
  obtain ⟨y0, y1, y2, y3, y4⟩ := hg.slot
  go_wp2_with fail
  refine (b3 _).mono ?_
  rintro e w4 ⟨rfl, l4⟩
  clear y0 y1 y2 y3 y4
  replace hg := hg.le l4
  replace hb := hb.le l4
  obtain ⟨y0, y1, y2, y3, y4⟩ := hg.slot
  go_wp2_with fail
  refine (b4 _).mono ?_
  rintro e w5 ⟨rfl, l5⟩
  clear y0 y1 y2 y3 y4
  replace hb := hb.le l5
  obtain ⟨y0, y1, y2, y3, y4⟩ := hb.slot
  go_wp2_with fail
  refine (b5 _).mono ?_
  rintro e w6 ⟨rfl, l6⟩
  go_wp2_with (go_at_call 9; refine (lawNum _ _).mono ?_; rintro e _ ⟨rfl, rfl⟩)
  go_ret
  exact ⟨rfl, ((((((l1.trans lg).trans lb).trans l2).trans l3).trans l4).trans l5).trans l6⟩

theorem cfBad2 (d : Int) (d0 : 1 ≤ d) : cfgB 1 (1 - d) 2 3 8 = false := by
  have h : inB 1 (1 - d) 2 = false := inB_off (by omega)
  simp [cfgB, h]

set_option maxRecDepth 4000 in
set_option maxHeartbeats 4000000 in
theorem cfForms2 (w : World) (a0 a1 : Int) (hq : (IntKind.u64.wrap a0).tmod 13 = 2) : Calls Try.prog 4 #[.int .i64 a0, .int .i64 a1] w fun e w' => e = .returned (.bool true) ∧ Le w w' := by
  obtain ⟨m, hm, m0, m1⟩ : ∃ m, bits .and .i64 a1 1023 = m ∧ 0 ≤ m ∧ m ≤ 1023 := ⟨_, and1023 a1, by omega, by omega⟩
  obtain ⟨d, hd⟩ : ∃ d, 1 + m = d := ⟨_, rfl⟩
  obtain ⟨d0, d1⟩ : 1 ≤ d ∧ d ≤ 1024 := by omega
  have b1 := fun w => repAs (repS_no (k := 0) (.inl (cfBad2 d d0))) w
  have b2 := fun w => repAs (show repS 1 2 2 3 8 (-d) = (0, 1300) from repS_no (.inr (.inl (by omega)))) w
  have b3 := fun w => repAs (show repS 1 2 2 3 8 (2 + d) = (0, 1300) from repS_no (.inr (.inr (by omega)))) w
  have b4 := fun w => cfgAs (show cfgB 1 2 2 3 8 = true by decide) w
  have b5 := fun w => cfgAs (cfBad2 d d0) w
  go_enter Try.func4, Try.ntmps4
  go_wp2_with fail
  refine (lawAwake13 _).mono ?_
  rintro e w1 ⟨rfl, l1⟩
  have hg := Box.new w1 #[.int .i64 1, .int .i64 2, .int .i64 2, .int .i64 3, .int .i64 8] 23
  have lg := Le.alloc w1 (.cells #[.int .i64 1, .int .i64 2, .int .i64 2, .int .i64 3, .int .i64 8] 23)
  go_upto_region 5 with fail
  clear hm hd
  generalize hW : w1.alloc (.cells #[.int .i64 1, .int .i64 2, .int .i64 2, .int .i64 3, .int .i64 8] 23) = W at hg lg ⊢
  obtain ⟨y0, y1, y2, y3, y4⟩ := hg.slot
  have hb := Box.new W #[.int .i64 1, .int .i64 (1 - d), .int .i64 2, .int .i64 3, .int .i64 8] 23
  have lb := Le.alloc W (.cells #[.int .i64 1, .int .i64 (1 - d), .int .i64 2, .int .i64 3, .int .i64 8] 23)
  go_upto_region 32 with fail
  clear y0 y1 y2 y3 y4
  generalize hV : W.alloc (.cells #[.int .i64 1, .int .i64 (1 - d), .int .i64 2, .int .i64 3, .int .i64 8] 23) = V at hb lb ⊢
  replace hg := hg.le lb
  obtain ⟨y0, y1, y2, y3, y4⟩ := hb.slot
  go_wp2_with fail
  refine (b1 _).mono ?_
  rintro e w2 ⟨rfl, l2⟩
  clear y0 y1 y2 y3 y4
  replace hg := hg.le l2
  replace hb := hb.le l2
  obtain ⟨y0, y1, y2, y3, y4⟩ := hg.slot
  go_wp2_with fail
  refine (b2 _).mono ?_
  rintro e w3 ⟨rfl, l3⟩
  clear y0 y1 y2 y3 y4
  replace hg := hg.le l3
  replace hb := hb.le l3
  obtain ⟨y0, y1, y2, y3, y4⟩ := hg.slot
  go_wp2_with fail
  refine (b3 _).mono ?_
  rintro e w4 ⟨rfl, l4⟩
  clear y0 y1 y2 y3 y4
  replace hg := hg.le l4
  replace hb := hb.le l4
  obtain ⟨y0, y1, y2, y3, y4⟩ := hg.slot
  go_wp2_with fail
  refine (b4 _).mono ?_
  rintro e w5 ⟨rfl, l5⟩
  clear y0 y1 y2 y3 y4
  replace hb := hb.le l5
  obtain ⟨y0, y1, y2, y3, y4⟩ := hb.slot
  go_wp2_with fail
  refine (b5 _).mono ?_
  rintro e w6 ⟨rfl, l6⟩
  go_wp2_with (go_at_call 9; refine (lawNum _ _).mono ?_; rintro e _ ⟨rfl, rfl⟩)
  go_ret
  exact ⟨rfl, ((((((l1.trans lg).trans lb).trans l2).trans l3).trans l4).trans l5).trans l6⟩

theorem cfBad3 (d : Int) (d0 : 1 ≤ d) : cfgB 1 (2 + d) 2 3 8 = false := by
  have h : inB 1 (2 + d) 2 = false := inB_off (by omega)
  simp [cfgB, h]

set_option maxRecDepth 4000 in
set_option maxHeartbeats 4000000 in
theorem cfForms3 (w : World) (a0 a1 : Int) (hq : (IntKind.u64.wrap a0).tmod 13 = 3) : Calls Try.prog 4 #[.int .i64 a0, .int .i64 a1] w fun e w' => e = .returned (.bool true) ∧ Le w w' := by
  obtain ⟨m, hm, m0, m1⟩ : ∃ m, bits .and .i64 a1 1023 = m ∧ 0 ≤ m ∧ m ≤ 1023 := ⟨_, and1023 a1, by omega, by omega⟩
  obtain ⟨d, hd⟩ : ∃ d, 1 + m = d := ⟨_, rfl⟩
  obtain ⟨d0, d1⟩ : 1 ≤ d ∧ d ≤ 1024 := by omega
  have b1 := fun w => repAs (repS_no (k := 0) (.inl (cfBad3 d d0))) w
  have b2 := fun w => repAs (show repS 1 2 2 3 8 (-d) = (0, 1300) from repS_no (.inr (.inl (by omega)))) w
  have b3 := fun w => repAs (show repS 1 2 2 3 8 (2 + d) = (0, 1300) from repS_no (.inr (.inr (by omega)))) w
  have b4 := fun w => cfgAs (show cfgB 1 2 2 3 8 = true by decide) w
  have b5 := fun w => cfgAs (cfBad3 d d0) w
  go_enter Try.func4, Try.ntmps4
  go_wp2_with fail
  refine (lawAwake13 _).mono ?_
  rintro e w1 ⟨rfl, l1⟩
  have hg := Box.new w1 #[.int .i64 1, .int .i64 2, .int .i64 2, .int .i64 3, .int .i64 8] 23
  have lg := Le.alloc w1 (.cells #[.int .i64 1, .int .i64 2, .int .i64 2, .int .i64 3, .int .i64 8] 23)
  go_upto_region 5 with fail
  clear hm hd
  generalize hW : w1.alloc (.cells #[.int .i64 1, .int .i64 2, .int .i64 2, .int .i64 3, .int .i64 8] 23) = W at hg lg ⊢
  obtain ⟨y0, y1, y2, y3, y4⟩ := hg.slot
  have hb := Box.new W #[.int .i64 1, .int .i64 (2 + d), .int .i64 2, .int .i64 3, .int .i64 8] 23
  have lb := Le.alloc W (.cells #[.int .i64 1, .int .i64 (2 + d), .int .i64 2, .int .i64 3, .int .i64 8] 23)
  go_upto_region 32 with fail
  clear y0 y1 y2 y3 y4
  generalize hV : W.alloc (.cells #[.int .i64 1, .int .i64 (2 + d), .int .i64 2, .int .i64 3, .int .i64 8] 23) = V at hb lb ⊢
  replace hg := hg.le lb
  obtain ⟨y0, y1, y2, y3, y4⟩ := hb.slot
  go_wp2_with fail
  refine (b1 _).mono ?_
  rintro e w2 ⟨rfl, l2⟩
  clear y0 y1 y2 y3 y4
  replace hg := hg.le l2
  replace hb := hb.le l2
  obtain ⟨y0, y1, y2, y3, y4⟩ := hg.slot
  go_wp2_with fail
  refine (b2 _).mono ?_
  rintro e w3 ⟨rfl, l3⟩
  clear y0 y1 y2 y3 y4
  replace hg := hg.le l3
  replace hb := hb.le l3
  obtain ⟨y0, y1, y2, y3, y4⟩ := hg.slot
  go_wp2_with fail
  refine (b3 _).mono ?_
  rintro e w4 ⟨rfl, l4⟩
  clear y0 y1 y2 y3 y4
  replace hg := hg.le l4
  replace hb := hb.le l4
  obtain ⟨y0, y1, y2, y3, y4⟩ := hg.slot
  go_wp2_with fail
  refine (b4 _).mono ?_
  rintro e w5 ⟨rfl, l5⟩
  clear y0 y1 y2 y3 y4
  replace hb := hb.le l5
  obtain ⟨y0, y1, y2, y3, y4⟩ := hb.slot
  go_wp2_with fail
  refine (b5 _).mono ?_
  rintro e w6 ⟨rfl, l6⟩
  go_wp2_with (go_at_call 9; refine (lawNum _ _).mono ?_; rintro e _ ⟨rfl, rfl⟩)
  go_ret
  exact ⟨rfl, ((((((l1.trans lg).trans lb).trans l2).trans l3).trans l4).trans l5).trans l6⟩

theorem cfBad4 (d : Int) (d0 : 1 ≤ d) : cfgB 1 2 (1 - d) 3 8 = false := by
  have h : inB 1 (1 - d) 2 = false := inB_off (by omega)
  simp [cfgB, h]

set_option maxRecDepth 4000 in
set_option maxHeartbeats 4000000 in
theorem cfForms4 (w : World) (a0 a1 : Int) (hq : (IntKind.u64.wrap a0).tmod 13 = 4) : Calls Try.prog 4 #[.int .i64 a0, .int .i64 a1] w fun e w' => e = .returned (.bool true) ∧ Le w w' := by
  obtain ⟨m, hm, m0, m1⟩ : ∃ m, bits .and .i64 a1 1023 = m ∧ 0 ≤ m ∧ m ≤ 1023 := ⟨_, and1023 a1, by omega, by omega⟩
  obtain ⟨d, hd⟩ : ∃ d, 1 + m = d := ⟨_, rfl⟩
  obtain ⟨d0, d1⟩ : 1 ≤ d ∧ d ≤ 1024 := by omega
  have b1 := fun w => repAs (repS_no (k := 0) (.inl (cfBad4 d d0))) w
  have b2 := fun w => repAs (show repS 1 2 2 3 8 (-d) = (0, 1300) from repS_no (.inr (.inl (by omega)))) w
  have b3 := fun w => repAs (show repS 1 2 2 3 8 (2 + d) = (0, 1300) from repS_no (.inr (.inr (by omega)))) w
  have b4 := fun w => cfgAs (show cfgB 1 2 2 3 8 = true by decide) w
  have b5 := fun w => cfgAs (cfBad4 d d0) w
  go_enter Try.func4, Try.ntmps4
  go_wp2_with fail
  refine (lawAwake13 _).mono ?_
  rintro e w1 ⟨rfl, l1⟩
  have hg := Box.new w1 #[.int .i64 1, .int .i64 2, .int .i64 2, .int .i64 3, .int .i64 8] 23
  have lg := Le.alloc w1 (.cells #[.int .i64 1, .int .i64 2, .int .i64 2, .int .i64 3, .int .i64 8] 23)
  go_upto_region 5 with fail
  clear hm hd
  generalize hW : w1.alloc (.cells #[.int .i64 1, .int .i64 2, .int .i64 2, .int .i64 3, .int .i64 8] 23) = W at hg lg ⊢
  obtain ⟨y0, y1, y2, y3, y4⟩ := hg.slot
  have hb := Box.new W #[.int .i64 1, .int .i64 2, .int .i64 (1 - d), .int .i64 3, .int .i64 8] 23
  have lb := Le.alloc W (.cells #[.int .i64 1, .int .i64 2, .int .i64 (1 - d), .int .i64 3, .int .i64 8] 23)
  go_upto_region 32 with fail
  clear y0 y1 y2 y3 y4
  generalize hV : W.alloc (.cells #[.int .i64 1, .int .i64 2, .int .i64 (1 - d), .int .i64 3, .int .i64 8] 23) = V at hb lb ⊢
  replace hg := hg.le lb
  obtain ⟨y0, y1, y2, y3, y4⟩ := hb.slot
  go_wp2_with fail
  refine (b1 _).mono ?_
  rintro e w2 ⟨rfl, l2⟩
  clear y0 y1 y2 y3 y4
  replace hg := hg.le l2
  replace hb := hb.le l2
  obtain ⟨y0, y1, y2, y3, y4⟩ := hg.slot
  go_wp2_with fail
  refine (b2 _).mono ?_
  rintro e w3 ⟨rfl, l3⟩
  clear y0 y1 y2 y3 y4
  replace hg := hg.le l3
  replace hb := hb.le l3
  obtain ⟨y0, y1, y2, y3, y4⟩ := hg.slot
  go_wp2_with fail
  refine (b3 _).mono ?_
  rintro e w4 ⟨rfl, l4⟩
  clear y0 y1 y2 y3 y4
  replace hg := hg.le l4
  replace hb := hb.le l4
  obtain ⟨y0, y1, y2, y3, y4⟩ := hg.slot
  go_wp2_with fail
  refine (b4 _).mono ?_
  rintro e w5 ⟨rfl, l5⟩
  clear y0 y1 y2 y3 y4
  replace hb := hb.le l5
  obtain ⟨y0, y1, y2, y3, y4⟩ := hb.slot
  go_wp2_with fail
  refine (b5 _).mono ?_
  rintro e w6 ⟨rfl, l6⟩
  go_wp2_with (go_at_call 9; refine (lawNum _ _).mono ?_; rintro e _ ⟨rfl, rfl⟩)
  go_ret
  exact ⟨rfl, ((((((l1.trans lg).trans lb).trans l2).trans l3).trans l4).trans l5).trans l6⟩

theorem cfBad5 (d : Int) (d0 : 1 ≤ d) : cfgB 1 2 (2 + d) 3 8 = false := by
  have h : inB 1 (2 + d) 2 = false := inB_off (by omega)
  simp [cfgB, h]

set_option maxRecDepth 4000 in
set_option maxHeartbeats 4000000 in
theorem cfForms5 (w : World) (a0 a1 : Int) (hq : (IntKind.u64.wrap a0).tmod 13 = 5) : Calls Try.prog 4 #[.int .i64 a0, .int .i64 a1] w fun e w' => e = .returned (.bool true) ∧ Le w w' := by
  obtain ⟨m, hm, m0, m1⟩ : ∃ m, bits .and .i64 a1 1023 = m ∧ 0 ≤ m ∧ m ≤ 1023 := ⟨_, and1023 a1, by omega, by omega⟩
  obtain ⟨d, hd⟩ : ∃ d, 1 + m = d := ⟨_, rfl⟩
  obtain ⟨d0, d1⟩ : 1 ≤ d ∧ d ≤ 1024 := by omega
  have b1 := fun w => repAs (repS_no (k := 0) (.inl (cfBad5 d d0))) w
  have b2 := fun w => repAs (show repS 1 2 2 3 8 (-d) = (0, 1300) from repS_no (.inr (.inl (by omega)))) w
  have b3 := fun w => repAs (show repS 1 2 2 3 8 (2 + d) = (0, 1300) from repS_no (.inr (.inr (by omega)))) w
  have b4 := fun w => cfgAs (show cfgB 1 2 2 3 8 = true by decide) w
  have b5 := fun w => cfgAs (cfBad5 d d0) w
  go_enter Try.func4, Try.ntmps4
  go_wp2_with fail
  refine (lawAwake13 _).mono ?_
  rintro e w1 ⟨rfl, l1⟩
  have hg := Box.new w1 #[.int .i64 1, .int .i64 2, .int .i64 2, .int .i64 3, .int .i64 8] 23
  have lg := Le.alloc w1 (.cells #[.int .i64 1, .int .i64 2, .int .i64 2, .int .i64 3, .int .i64 8] 23)
  go_upto_region 5 with fail
  clear hm hd
  generalize hW : w1.alloc (.cells #[.int .i64 1, .int .i64 2, .int .i64 2, .int .i64 3, .int .i64 8] 23) = W at hg lg ⊢
  obtain ⟨y0, y1, y2, y3, y4⟩ := hg.slot
  have hb := Box.new W #[.int .i64 1, .int .i64 2, .int .i64 (2 + d), .int .i64 3, .int .i64 8] 23
  have lb := Le.alloc W (.cells #[.int .i64 1, .int .i64 2, .int .i64 (2 + d), .int .i64 3, .int .i64 8] 23)
  go_upto_region 32 with fail
  clear y0 y1 y2 y3 y4
  generalize hV : W.alloc (.cells #[.int .i64 1, .int .i64 2, .int .i64 (2 + d), .int .i64 3, .int .i64 8] 23) = V at hb lb ⊢
  replace hg := hg.le lb
  obtain ⟨y0, y1, y2, y3, y4⟩ := hb.slot
  go_wp2_with fail
  refine (b1 _).mono ?_
  rintro e w2 ⟨rfl, l2⟩
  clear y0 y1 y2 y3 y4
  replace hg := hg.le l2
  replace hb := hb.le l2
  obtain ⟨y0, y1, y2, y3, y4⟩ := hg.slot
  go_wp2_with fail
  refine (b2 _).mono ?_
  rintro e w3 ⟨rfl, l3⟩
  clear y0 y1 y2 y3 y4
  replace hg := hg.le l3
  replace hb := hb.le l3
  obtain ⟨y0, y1, y2, y3, y4⟩ := hg.slot
  go_wp2_with fail
  refine (b3 _).mono ?_
  rintro e w4 ⟨rfl, l4⟩
  clear y0 y1 y2 y3 y4
  replace hg := hg.le l4
  replace hb := hb.le l4
  obtain ⟨y0, y1, y2, y3, y4⟩ := hg.slot
  go_wp2_with fail
  refine (b4 _).mono ?_
  rintro e w5 ⟨rfl, l5⟩
  clear y0 y1 y2 y3 y4
  replace hb := hb.le l5
  obtain ⟨y0, y1, y2, y3, y4⟩ := hb.slot
  go_wp2_with fail
  refine (b5 _).mono ?_
  rintro e w6 ⟨rfl, l6⟩
  go_wp2_with (go_at_call 9; refine (lawNum _ _).mono ?_; rintro e _ ⟨rfl, rfl⟩)
  go_ret
  exact ⟨rfl, ((((((l1.trans lg).trans lb).trans l2).trans l3).trans l4).trans l5).trans l6⟩

theorem cfBad6 (d : Int) (d0 : 1 ≤ d) : cfgB 1 2 2 (1 - d) 8 = false := by
  have h : inB 1 (1 - d) 4 = false := inB_off (by omega)
  simp [cfgB, h]

set_option maxRecDepth 4000 in
set_option maxHeartbeats 4000000 in
theorem cfForms6 (w : World) (a0 a1 : Int) (hq : (IntKind.u64.wrap a0).tmod 13 = 6) : Calls Try.prog 4 #[.int .i64 a0, .int .i64 a1] w fun e w' => e = .returned (.bool true) ∧ Le w w' := by
  obtain ⟨m, hm, m0, m1⟩ : ∃ m, bits .and .i64 a1 1023 = m ∧ 0 ≤ m ∧ m ≤ 1023 := ⟨_, and1023 a1, by omega, by omega⟩
  obtain ⟨d, hd⟩ : ∃ d, 1 + m = d := ⟨_, rfl⟩
  obtain ⟨d0, d1⟩ : 1 ≤ d ∧ d ≤ 1024 := by omega
  have b1 := fun w => repAs (repS_no (k := 0) (.inl (cfBad6 d d0))) w
  have b2 := fun w => repAs (show repS 1 2 2 3 8 (-d) = (0, 1300) from repS_no (.inr (.inl (by omega)))) w
  have b3 := fun w => repAs (show repS 1 2 2 3 8 (2 + d) = (0, 1300) from repS_no (.inr (.inr (by omega)))) w
  have b4 := fun w => cfgAs (show cfgB 1 2 2 3 8 = true by decide) w
  have b5 := fun w => cfgAs (cfBad6 d d0) w
  go_enter Try.func4, Try.ntmps4
  go_wp2_with fail
  refine (lawAwake13 _).mono ?_
  rintro e w1 ⟨rfl, l1⟩
  have hg := Box.new w1 #[.int .i64 1, .int .i64 2, .int .i64 2, .int .i64 3, .int .i64 8] 23
  have lg := Le.alloc w1 (.cells #[.int .i64 1, .int .i64 2, .int .i64 2, .int .i64 3, .int .i64 8] 23)
  go_upto_region 5 with fail
  clear hm hd
  generalize hW : w1.alloc (.cells #[.int .i64 1, .int .i64 2, .int .i64 2, .int .i64 3, .int .i64 8] 23) = W at hg lg ⊢
  obtain ⟨y0, y1, y2, y3, y4⟩ := hg.slot
  have hb := Box.new W #[.int .i64 1, .int .i64 2, .int .i64 2, .int .i64 (1 - d), .int .i64 8] 23
  have lb := Le.alloc W (.cells #[.int .i64 1, .int .i64 2, .int .i64 2, .int .i64 (1 - d), .int .i64 8] 23)
  go_upto_region 32 with fail
  clear y0 y1 y2 y3 y4
  generalize hV : W.alloc (.cells #[.int .i64 1, .int .i64 2, .int .i64 2, .int .i64 (1 - d), .int .i64 8] 23) = V at hb lb ⊢
  replace hg := hg.le lb
  obtain ⟨y0, y1, y2, y3, y4⟩ := hb.slot
  go_wp2_with fail
  refine (b1 _).mono ?_
  rintro e w2 ⟨rfl, l2⟩
  clear y0 y1 y2 y3 y4
  replace hg := hg.le l2
  replace hb := hb.le l2
  obtain ⟨y0, y1, y2, y3, y4⟩ := hg.slot
  go_wp2_with fail
  refine (b2 _).mono ?_
  rintro e w3 ⟨rfl, l3⟩
  clear y0 y1 y2 y3 y4
  replace hg := hg.le l3
  replace hb := hb.le l3
  obtain ⟨y0, y1, y2, y3, y4⟩ := hg.slot
  go_wp2_with fail
  refine (b3 _).mono ?_
  rintro e w4 ⟨rfl, l4⟩
  clear y0 y1 y2 y3 y4
  replace hg := hg.le l4
  replace hb := hb.le l4
  obtain ⟨y0, y1, y2, y3, y4⟩ := hg.slot
  go_wp2_with fail
  refine (b4 _).mono ?_
  rintro e w5 ⟨rfl, l5⟩
  clear y0 y1 y2 y3 y4
  replace hb := hb.le l5
  obtain ⟨y0, y1, y2, y3, y4⟩ := hb.slot
  go_wp2_with fail
  refine (b5 _).mono ?_
  rintro e w6 ⟨rfl, l6⟩
  go_wp2_with (go_at_call 9; refine (lawNum _ _).mono ?_; rintro e _ ⟨rfl, rfl⟩)
  go_ret
  exact ⟨rfl, ((((((l1.trans lg).trans lb).trans l2).trans l3).trans l4).trans l5).trans l6⟩

theorem cfBad7 (d : Int) (d0 : 1 ≤ d) : cfgB 1 2 2 (4 + d) 8 = false := by
  have h : inB 1 (4 + d) 4 = false := inB_off (by omega)
  simp [cfgB, h]

set_option maxRecDepth 4000 in
set_option maxHeartbeats 4000000 in
theorem cfForms7 (w : World) (a0 a1 : Int) (hq : (IntKind.u64.wrap a0).tmod 13 = 7) : Calls Try.prog 4 #[.int .i64 a0, .int .i64 a1] w fun e w' => e = .returned (.bool true) ∧ Le w w' := by
  obtain ⟨m, hm, m0, m1⟩ : ∃ m, bits .and .i64 a1 1023 = m ∧ 0 ≤ m ∧ m ≤ 1023 := ⟨_, and1023 a1, by omega, by omega⟩
  obtain ⟨d, hd⟩ : ∃ d, 1 + m = d := ⟨_, rfl⟩
  obtain ⟨d0, d1⟩ : 1 ≤ d ∧ d ≤ 1024 := by omega
  have b1 := fun w => repAs (repS_no (k := 0) (.inl (cfBad7 d d0))) w
  have b2 := fun w => repAs (show repS 1 2 2 3 8 (-d) = (0, 1300) from repS_no (.inr (.inl (by omega)))) w
  have b3 := fun w => repAs (show repS 1 2 2 3 8 (2 + d) = (0, 1300) from repS_no (.inr (.inr (by omega)))) w
  have b4 := fun w => cfgAs (show cfgB 1 2 2 3 8 = true by decide) w
  have b5 := fun w => cfgAs (cfBad7 d d0) w
  go_enter Try.func4, Try.ntmps4
  go_wp2_with fail
  refine (lawAwake13 _).mono ?_
  rintro e w1 ⟨rfl, l1⟩
  have hg := Box.new w1 #[.int .i64 1, .int .i64 2, .int .i64 2, .int .i64 3, .int .i64 8] 23
  have lg := Le.alloc w1 (.cells #[.int .i64 1, .int .i64 2, .int .i64 2, .int .i64 3, .int .i64 8] 23)
  go_upto_region 5 with fail
  clear hm hd
  generalize hW : w1.alloc (.cells #[.int .i64 1, .int .i64 2, .int .i64 2, .int .i64 3, .int .i64 8] 23) = W at hg lg ⊢
  obtain ⟨y0, y1, y2, y3, y4⟩ := hg.slot
  have hb := Box.new W #[.int .i64 1, .int .i64 2, .int .i64 2, .int .i64 (4 + d), .int .i64 8] 23
  have lb := Le.alloc W (.cells #[.int .i64 1, .int .i64 2, .int .i64 2, .int .i64 (4 + d), .int .i64 8] 23)
  go_upto_region 32 with fail
  clear y0 y1 y2 y3 y4
  generalize hV : W.alloc (.cells #[.int .i64 1, .int .i64 2, .int .i64 2, .int .i64 (4 + d), .int .i64 8] 23) = V at hb lb ⊢
  replace hg := hg.le lb
  obtain ⟨y0, y1, y2, y3, y4⟩ := hb.slot
  go_wp2_with fail
  refine (b1 _).mono ?_
  rintro e w2 ⟨rfl, l2⟩
  clear y0 y1 y2 y3 y4
  replace hg := hg.le l2
  replace hb := hb.le l2
  obtain ⟨y0, y1, y2, y3, y4⟩ := hg.slot
  go_wp2_with fail
  refine (b2 _).mono ?_
  rintro e w3 ⟨rfl, l3⟩
  clear y0 y1 y2 y3 y4
  replace hg := hg.le l3
  replace hb := hb.le l3
  obtain ⟨y0, y1, y2, y3, y4⟩ := hg.slot
  go_wp2_with fail
  refine (b3 _).mono ?_
  rintro e w4 ⟨rfl, l4⟩
  clear y0 y1 y2 y3 y4
  replace hg := hg.le l4
  replace hb := hb.le l4
  obtain ⟨y0, y1, y2, y3, y4⟩ := hg.slot
  go_wp2_with fail
  refine (b4 _).mono ?_
  rintro e w5 ⟨rfl, l5⟩
  clear y0 y1 y2 y3 y4
  replace hb := hb.le l5
  obtain ⟨y0, y1, y2, y3, y4⟩ := hb.slot
  go_wp2_with fail
  refine (b5 _).mono ?_
  rintro e w6 ⟨rfl, l6⟩
  go_wp2_with (go_at_call 9; refine (lawNum _ _).mono ?_; rintro e _ ⟨rfl, rfl⟩)
  go_ret
  exact ⟨rfl, ((((((l1.trans lg).trans lb).trans l2).trans l3).trans l4).trans l5).trans l6⟩

theorem cfBad8 (d : Int) (_d0 : 1 ≤ d) : cfgB 1 2 2 3 4 = false := by decide

set_option maxRecDepth 4000 in
set_option maxHeartbeats 4000000 in
theorem cfForms8 (w : World) (a0 a1 : Int) (hq : (IntKind.u64.wrap a0).tmod 13 = 8) : Calls Try.prog 4 #[.int .i64 a0, .int .i64 a1] w fun e w' => e = .returned (.bool true) ∧ Le w w' := by
  obtain ⟨m, hm, m0, m1⟩ : ∃ m, bits .and .i64 a1 1023 = m ∧ 0 ≤ m ∧ m ≤ 1023 := ⟨_, and1023 a1, by omega, by omega⟩
  obtain ⟨d, hd⟩ : ∃ d, 1 + m = d := ⟨_, rfl⟩
  obtain ⟨d0, d1⟩ : 1 ≤ d ∧ d ≤ 1024 := by omega
  have b1 := fun w => repAs (repS_no (k := 0) (.inl (cfBad8 d d0))) w
  have b2 := fun w => repAs (show repS 1 2 2 3 8 (-d) = (0, 1300) from repS_no (.inr (.inl (by omega)))) w
  have b3 := fun w => repAs (show repS 1 2 2 3 8 (2 + d) = (0, 1300) from repS_no (.inr (.inr (by omega)))) w
  have b4 := fun w => cfgAs (show cfgB 1 2 2 3 8 = true by decide) w
  have b5 := fun w => cfgAs (cfBad8 d d0) w
  go_enter Try.func4, Try.ntmps4
  go_wp2_with fail
  refine (lawAwake13 _).mono ?_
  rintro e w1 ⟨rfl, l1⟩
  have hg := Box.new w1 #[.int .i64 1, .int .i64 2, .int .i64 2, .int .i64 3, .int .i64 8] 23
  have lg := Le.alloc w1 (.cells #[.int .i64 1, .int .i64 2, .int .i64 2, .int .i64 3, .int .i64 8] 23)
  go_upto_region 5 with fail
  clear hm hd
  generalize hW : w1.alloc (.cells #[.int .i64 1, .int .i64 2, .int .i64 2, .int .i64 3, .int .i64 8] 23) = W at hg lg ⊢
  obtain ⟨y0, y1, y2, y3, y4⟩ := hg.slot
  have hb := Box.new W #[.int .i64 1, .int .i64 2, .int .i64 2, .int .i64 3, .int .i64 4] 23
  have lb := Le.alloc W (.cells #[.int .i64 1, .int .i64 2, .int .i64 2, .int .i64 3, .int .i64 4] 23)
  go_upto_region 32 with fail
  clear y0 y1 y2 y3 y4
  generalize hV : W.alloc (.cells #[.int .i64 1, .int .i64 2, .int .i64 2, .int .i64 3, .int .i64 4] 23) = V at hb lb ⊢
  replace hg := hg.le lb
  obtain ⟨y0, y1, y2, y3, y4⟩ := hb.slot
  go_wp2_with fail
  refine (b1 _).mono ?_
  rintro e w2 ⟨rfl, l2⟩
  clear y0 y1 y2 y3 y4
  replace hg := hg.le l2
  replace hb := hb.le l2
  obtain ⟨y0, y1, y2, y3, y4⟩ := hg.slot
  go_wp2_with fail
  refine (b2 _).mono ?_
  rintro e w3 ⟨rfl, l3⟩
  clear y0 y1 y2 y3 y4
  replace hg := hg.le l3
  replace hb := hb.le l3
  obtain ⟨y0, y1, y2, y3, y4⟩ := hg.slot
  go_wp2_with fail
  refine (b3 _).mono ?_
  rintro e w4 ⟨rfl, l4⟩
  clear y0 y1 y2 y3 y4
  replace hg := hg.le l4
  replace hb := hb.le l4
  obtain ⟨y0, y1, y2, y3, y4⟩ := hg.slot
  go_wp2_with fail
  refine (b4 _).mono ?_
  rintro e w5 ⟨rfl, l5⟩
  clear y0 y1 y2 y3 y4
  replace hb := hb.le l5
  obtain ⟨y0, y1, y2, y3, y4⟩ := hb.slot
  go_wp2_with fail
  refine (b5 _).mono ?_
  rintro e w6 ⟨rfl, l6⟩
  go_wp2_with (go_at_call 9; refine (lawNum _ _).mono ?_; rintro e _ ⟨rfl, rfl⟩)
  go_ret
  exact ⟨rfl, ((((((l1.trans lg).trans lb).trans l2).trans l3).trans l4).trans l5).trans l6⟩

theorem cfBad9 (d : Int) (_d0 : 1 ≤ d) : cfgB 1 2 2 3 12 = false := by decide

set_option maxRecDepth 4000 in
set_option maxHeartbeats 4000000 in
theorem cfForms9 (w : World) (a0 a1 : Int) (hq : (IntKind.u64.wrap a0).tmod 13 = 9) : Calls Try.prog 4 #[.int .i64 a0, .int .i64 a1] w fun e w' => e = .returned (.bool true) ∧ Le w w' := by
  obtain ⟨m, hm, m0, m1⟩ : ∃ m, bits .and .i64 a1 1023 = m ∧ 0 ≤ m ∧ m ≤ 1023 := ⟨_, and1023 a1, by omega, by omega⟩
  obtain ⟨d, hd⟩ : ∃ d, 1 + m = d := ⟨_, rfl⟩
  obtain ⟨d0, d1⟩ : 1 ≤ d ∧ d ≤ 1024 := by omega
  have b1 := fun w => repAs (repS_no (k := 0) (.inl (cfBad9 d d0))) w
  have b2 := fun w => repAs (show repS 1 2 2 3 8 (-d) = (0, 1300) from repS_no (.inr (.inl (by omega)))) w
  have b3 := fun w => repAs (show repS 1 2 2 3 8 (2 + d) = (0, 1300) from repS_no (.inr (.inr (by omega)))) w
  have b4 := fun w => cfgAs (show cfgB 1 2 2 3 8 = true by decide) w
  have b5 := fun w => cfgAs (cfBad9 d d0) w
  go_enter Try.func4, Try.ntmps4
  go_wp2_with fail
  refine (lawAwake13 _).mono ?_
  rintro e w1 ⟨rfl, l1⟩
  have hg := Box.new w1 #[.int .i64 1, .int .i64 2, .int .i64 2, .int .i64 3, .int .i64 8] 23
  have lg := Le.alloc w1 (.cells #[.int .i64 1, .int .i64 2, .int .i64 2, .int .i64 3, .int .i64 8] 23)
  go_upto_region 5 with fail
  clear hm hd
  generalize hW : w1.alloc (.cells #[.int .i64 1, .int .i64 2, .int .i64 2, .int .i64 3, .int .i64 8] 23) = W at hg lg ⊢
  obtain ⟨y0, y1, y2, y3, y4⟩ := hg.slot
  have hb := Box.new W #[.int .i64 1, .int .i64 2, .int .i64 2, .int .i64 3, .int .i64 12] 23
  have lb := Le.alloc W (.cells #[.int .i64 1, .int .i64 2, .int .i64 2, .int .i64 3, .int .i64 12] 23)
  go_upto_region 32 with fail
  clear y0 y1 y2 y3 y4
  generalize hV : W.alloc (.cells #[.int .i64 1, .int .i64 2, .int .i64 2, .int .i64 3, .int .i64 12] 23) = V at hb lb ⊢
  replace hg := hg.le lb
  obtain ⟨y0, y1, y2, y3, y4⟩ := hb.slot
  go_wp2_with fail
  refine (b1 _).mono ?_
  rintro e w2 ⟨rfl, l2⟩
  clear y0 y1 y2 y3 y4
  replace hg := hg.le l2
  replace hb := hb.le l2
  obtain ⟨y0, y1, y2, y3, y4⟩ := hg.slot
  go_wp2_with fail
  refine (b2 _).mono ?_
  rintro e w3 ⟨rfl, l3⟩
  clear y0 y1 y2 y3 y4
  replace hg := hg.le l3
  replace hb := hb.le l3
  obtain ⟨y0, y1, y2, y3, y4⟩ := hg.slot
  go_wp2_with fail
  refine (b3 _).mono ?_
  rintro e w4 ⟨rfl, l4⟩
  clear y0 y1 y2 y3 y4
  replace hg := hg.le l4
  replace hb := hb.le l4
  obtain ⟨y0, y1, y2, y3, y4⟩ := hg.slot
  go_wp2_with fail
  refine (b4 _).mono ?_
  rintro e w5 ⟨rfl, l5⟩
  clear y0 y1 y2 y3 y4
  replace hb := hb.le l5
  obtain ⟨y0, y1, y2, y3, y4⟩ := hb.slot
  go_wp2_with fail
  refine (b5 _).mono ?_
  rintro e w6 ⟨rfl, l6⟩
  go_wp2_with (go_at_call 9; refine (lawNum _ _).mono ?_; rintro e _ ⟨rfl, rfl⟩)
  go_ret
  exact ⟨rfl, ((((((l1.trans lg).trans lb).trans l2).trans l3).trans l4).trans l5).trans l6⟩

theorem cfBad10 (d : Int) (d0 : 1 ≤ d) : cfgB 1 2 2 3 (16 + d) = false := by
  have h : slotsB (16 + d) = false := by simp [slotsB]; omega
  simp [cfgB, h]

set_option maxRecDepth 4000 in
set_option maxHeartbeats 4000000 in
theorem cfForms10 (w : World) (a0 a1 : Int) (hq : (IntKind.u64.wrap a0).tmod 13 = 10) : Calls Try.prog 4 #[.int .i64 a0, .int .i64 a1] w fun e w' => e = .returned (.bool true) ∧ Le w w' := by
  obtain ⟨m, hm, m0, m1⟩ : ∃ m, bits .and .i64 a1 1023 = m ∧ 0 ≤ m ∧ m ≤ 1023 := ⟨_, and1023 a1, by omega, by omega⟩
  obtain ⟨d, hd⟩ : ∃ d, 1 + m = d := ⟨_, rfl⟩
  obtain ⟨d0, d1⟩ : 1 ≤ d ∧ d ≤ 1024 := by omega
  have b1 := fun w => repAs (repS_no (k := 0) (.inl (cfBad10 d d0))) w
  have b2 := fun w => repAs (show repS 1 2 2 3 8 (-d) = (0, 1300) from repS_no (.inr (.inl (by omega)))) w
  have b3 := fun w => repAs (show repS 1 2 2 3 8 (2 + d) = (0, 1300) from repS_no (.inr (.inr (by omega)))) w
  have b4 := fun w => cfgAs (show cfgB 1 2 2 3 8 = true by decide) w
  have b5 := fun w => cfgAs (cfBad10 d d0) w
  go_enter Try.func4, Try.ntmps4
  go_wp2_with fail
  refine (lawAwake13 _).mono ?_
  rintro e w1 ⟨rfl, l1⟩
  have hg := Box.new w1 #[.int .i64 1, .int .i64 2, .int .i64 2, .int .i64 3, .int .i64 8] 23
  have lg := Le.alloc w1 (.cells #[.int .i64 1, .int .i64 2, .int .i64 2, .int .i64 3, .int .i64 8] 23)
  go_upto_region 5 with fail
  clear hm hd
  generalize hW : w1.alloc (.cells #[.int .i64 1, .int .i64 2, .int .i64 2, .int .i64 3, .int .i64 8] 23) = W at hg lg ⊢
  obtain ⟨y0, y1, y2, y3, y4⟩ := hg.slot
  have hb := Box.new W #[.int .i64 1, .int .i64 2, .int .i64 2, .int .i64 3, .int .i64 (16 + d)] 23
  have lb := Le.alloc W (.cells #[.int .i64 1, .int .i64 2, .int .i64 2, .int .i64 3, .int .i64 (16 + d)] 23)
  go_upto_region 32 with fail
  clear y0 y1 y2 y3 y4
  generalize hV : W.alloc (.cells #[.int .i64 1, .int .i64 2, .int .i64 2, .int .i64 3, .int .i64 (16 + d)] 23) = V at hb lb ⊢
  replace hg := hg.le lb
  obtain ⟨y0, y1, y2, y3, y4⟩ := hb.slot
  go_wp2_with fail
  refine (b1 _).mono ?_
  rintro e w2 ⟨rfl, l2⟩
  clear y0 y1 y2 y3 y4
  replace hg := hg.le l2
  replace hb := hb.le l2
  obtain ⟨y0, y1, y2, y3, y4⟩ := hg.slot
  go_wp2_with fail
  refine (b2 _).mono ?_
  rintro e w3 ⟨rfl, l3⟩
  clear y0 y1 y2 y3 y4
  replace hg := hg.le l3
  replace hb := hb.le l3
  obtain ⟨y0, y1, y2, y3, y4⟩ := hg.slot
  go_wp2_with fail
  refine (b3 _).mono ?_
  rintro e w4 ⟨rfl, l4⟩
  clear y0 y1 y2 y3 y4
  replace hg := hg.le l4
  replace hb := hb.le l4
  obtain ⟨y0, y1, y2, y3, y4⟩ := hg.slot
  go_wp2_with fail
  refine (b4 _).mono ?_
  rintro e w5 ⟨rfl, l5⟩
  clear y0 y1 y2 y3 y4
  replace hb := hb.le l5
  obtain ⟨y0, y1, y2, y3, y4⟩ := hb.slot
  go_wp2_with fail
  refine (b5 _).mono ?_
  rintro e w6 ⟨rfl, l6⟩
  go_wp2_with (go_at_call 9; refine (lawNum _ _).mono ?_; rintro e _ ⟨rfl, rfl⟩)
  go_ret
  exact ⟨rfl, ((((((l1.trans lg).trans lb).trans l2).trans l3).trans l4).trans l5).trans l6⟩

theorem cfBad11 (d : Int) (d0 : 1 ≤ d) : cfgB 1 2 2 3 (-d) = false := by
  have h : slotsB (-d) = false := by simp [slotsB]; omega
  simp [cfgB, h]

set_option maxRecDepth 4000 in
set_option maxHeartbeats 4000000 in
theorem cfForms11 (w : World) (a0 a1 : Int) (hq : (IntKind.u64.wrap a0).tmod 13 = 11) : Calls Try.prog 4 #[.int .i64 a0, .int .i64 a1] w fun e w' => e = .returned (.bool true) ∧ Le w w' := by
  obtain ⟨m, hm, m0, m1⟩ : ∃ m, bits .and .i64 a1 1023 = m ∧ 0 ≤ m ∧ m ≤ 1023 := ⟨_, and1023 a1, by omega, by omega⟩
  obtain ⟨d, hd⟩ : ∃ d, 1 + m = d := ⟨_, rfl⟩
  obtain ⟨d0, d1⟩ : 1 ≤ d ∧ d ≤ 1024 := by omega
  have b1 := fun w => repAs (repS_no (k := 0) (.inl (cfBad11 d d0))) w
  have b2 := fun w => repAs (show repS 1 2 2 3 8 (-d) = (0, 1300) from repS_no (.inr (.inl (by omega)))) w
  have b3 := fun w => repAs (show repS 1 2 2 3 8 (2 + d) = (0, 1300) from repS_no (.inr (.inr (by omega)))) w
  have b4 := fun w => cfgAs (show cfgB 1 2 2 3 8 = true by decide) w
  have b5 := fun w => cfgAs (cfBad11 d d0) w
  go_enter Try.func4, Try.ntmps4
  go_wp2_with fail
  refine (lawAwake13 _).mono ?_
  rintro e w1 ⟨rfl, l1⟩
  have hg := Box.new w1 #[.int .i64 1, .int .i64 2, .int .i64 2, .int .i64 3, .int .i64 8] 23
  have lg := Le.alloc w1 (.cells #[.int .i64 1, .int .i64 2, .int .i64 2, .int .i64 3, .int .i64 8] 23)
  go_upto_region 5 with fail
  clear hm hd
  generalize hW : w1.alloc (.cells #[.int .i64 1, .int .i64 2, .int .i64 2, .int .i64 3, .int .i64 8] 23) = W at hg lg ⊢
  obtain ⟨y0, y1, y2, y3, y4⟩ := hg.slot
  have hb := Box.new W #[.int .i64 1, .int .i64 2, .int .i64 2, .int .i64 3, .int .i64 (-d)] 23
  have lb := Le.alloc W (.cells #[.int .i64 1, .int .i64 2, .int .i64 2, .int .i64 3, .int .i64 (-d)] 23)
  go_upto_region 32 with fail
  clear y0 y1 y2 y3 y4
  generalize hV : W.alloc (.cells #[.int .i64 1, .int .i64 2, .int .i64 2, .int .i64 3, .int .i64 (-d)] 23) = V at hb lb ⊢
  replace hg := hg.le lb
  obtain ⟨y0, y1, y2, y3, y4⟩ := hb.slot
  go_wp2_with fail
  refine (b1 _).mono ?_
  rintro e w2 ⟨rfl, l2⟩
  clear y0 y1 y2 y3 y4
  replace hg := hg.le l2
  replace hb := hb.le l2
  obtain ⟨y0, y1, y2, y3, y4⟩ := hg.slot
  go_wp2_with fail
  refine (b2 _).mono ?_
  rintro e w3 ⟨rfl, l3⟩
  clear y0 y1 y2 y3 y4
  replace hg := hg.le l3
  replace hb := hb.le l3
  obtain ⟨y0, y1, y2, y3, y4⟩ := hg.slot
  go_wp2_with fail
  refine (b3 _).mono ?_
  rintro e w4 ⟨rfl, l4⟩
  clear y0 y1 y2 y3 y4
  replace hg := hg.le l4
  replace hb := hb.le l4
  obtain ⟨y0, y1, y2, y3, y4⟩ := hg.slot
  go_wp2_with fail
  refine (b4 _).mono ?_
  rintro e w5 ⟨rfl, l5⟩
  clear y0 y1 y2 y3 y4
  replace hb := hb.le l5
  obtain ⟨y0, y1, y2, y3, y4⟩ := hb.slot
  go_wp2_with fail
  refine (b5 _).mono ?_
  rintro e w6 ⟨rfl, l6⟩
  go_wp2_with (go_at_call 9; refine (lawNum _ _).mono ?_; rintro e _ ⟨rfl, rfl⟩)
  go_ret
  exact ⟨rfl, ((((((l1.trans lg).trans lb).trans l2).trans l3).trans l4).trans l5).trans l6⟩

theorem cfBad12 (d : Int) (_d0 : 1 ≤ d) : cfgB 1 2 2 3 2 = false := by decide

set_option maxRecDepth 4000 in
set_option maxHeartbeats 4000000 in
theorem cfForms12 (w : World) (a0 a1 : Int) (hq : (IntKind.u64.wrap a0).tmod 13 = 12) : Calls Try.prog 4 #[.int .i64 a0, .int .i64 a1] w fun e w' => e = .returned (.bool true) ∧ Le w w' := by
  obtain ⟨m, hm, m0, m1⟩ : ∃ m, bits .and .i64 a1 1023 = m ∧ 0 ≤ m ∧ m ≤ 1023 := ⟨_, and1023 a1, by omega, by omega⟩
  obtain ⟨d, hd⟩ : ∃ d, 1 + m = d := ⟨_, rfl⟩
  obtain ⟨d0, d1⟩ : 1 ≤ d ∧ d ≤ 1024 := by omega
  have b1 := fun w => repAs (repS_no (k := 0) (.inl (cfBad12 d d0))) w
  have b2 := fun w => repAs (show repS 1 2 2 3 8 (-d) = (0, 1300) from repS_no (.inr (.inl (by omega)))) w
  have b3 := fun w => repAs (show repS 1 2 2 3 8 (2 + d) = (0, 1300) from repS_no (.inr (.inr (by omega)))) w
  have b4 := fun w => cfgAs (show cfgB 1 2 2 3 8 = true by decide) w
  have b5 := fun w => cfgAs (cfBad12 d d0) w
  go_enter Try.func4, Try.ntmps4
  go_wp2_with fail
  refine (lawAwake13 _).mono ?_
  rintro e w1 ⟨rfl, l1⟩
  have hg := Box.new w1 #[.int .i64 1, .int .i64 2, .int .i64 2, .int .i64 3, .int .i64 8] 23
  have lg := Le.alloc w1 (.cells #[.int .i64 1, .int .i64 2, .int .i64 2, .int .i64 3, .int .i64 8] 23)
  go_upto_region 5 with fail
  clear hm hd
  generalize hW : w1.alloc (.cells #[.int .i64 1, .int .i64 2, .int .i64 2, .int .i64 3, .int .i64 8] 23) = W at hg lg ⊢
  obtain ⟨y0, y1, y2, y3, y4⟩ := hg.slot
  have hb := Box.new W #[.int .i64 1, .int .i64 2, .int .i64 2, .int .i64 3, .int .i64 2] 23
  have lb := Le.alloc W (.cells #[.int .i64 1, .int .i64 2, .int .i64 2, .int .i64 3, .int .i64 2] 23)
  go_upto_region 32 with fail
  clear y0 y1 y2 y3 y4
  generalize hV : W.alloc (.cells #[.int .i64 1, .int .i64 2, .int .i64 2, .int .i64 3, .int .i64 2] 23) = V at hb lb ⊢
  replace hg := hg.le lb
  obtain ⟨y0, y1, y2, y3, y4⟩ := hb.slot
  go_wp2_with fail
  refine (b1 _).mono ?_
  rintro e w2 ⟨rfl, l2⟩
  clear y0 y1 y2 y3 y4
  replace hg := hg.le l2
  replace hb := hb.le l2
  obtain ⟨y0, y1, y2, y3, y4⟩ := hg.slot
  go_wp2_with fail
  refine (b2 _).mono ?_
  rintro e w3 ⟨rfl, l3⟩
  clear y0 y1 y2 y3 y4
  replace hg := hg.le l3
  replace hb := hb.le l3
  obtain ⟨y0, y1, y2, y3, y4⟩ := hg.slot
  go_wp2_with fail
  refine (b3 _).mono ?_
  rintro e w4 ⟨rfl, l4⟩
  clear y0 y1 y2 y3 y4
  replace hg := hg.le l4
  replace hb := hb.le l4
  obtain ⟨y0, y1, y2, y3, y4⟩ := hg.slot
  go_wp2_with fail
  refine (b4 _).mono ?_
  rintro e w5 ⟨rfl, l5⟩
  clear y0 y1 y2 y3 y4
  replace hb := hb.le l5
  obtain ⟨y0, y1, y2, y3, y4⟩ := hb.slot
  go_wp2_with fail
  refine (b5 _).mono ?_
  rintro e w6 ⟨rfl, l6⟩
  go_wp2_with (go_at_call 9; refine (lawNum _ _).mono ?_; rintro e _ ⟨rfl, rfl⟩)
  go_ret
  exact ⟨rfl, ((((((l1.trans lg).trans lb).trans l2).trans l3).trans l4).trans l5).trans l6⟩

theorem configForms_law (w : World) (a0 a1 : Int) : Calls Try.prog 4 #[.int .i64 a0, .int .i64 a1] w fun e w' => e = .returned (.bool true) ∧ Le w w' := by
  obtain ⟨q, hq, q0, q1⟩ := thirteen a0
  rcases (by omega : q = 0 ∨ q = 1 ∨ q = 2 ∨ q = 3 ∨ q = 4 ∨ q = 5 ∨ q = 6 ∨ q = 7 ∨ q = 8 ∨ q = 9 ∨ q = 10 ∨ q = 11 ∨ q = 12) with rfl | rfl | rfl | rfl | rfl | rfl | rfl | rfl | rfl | rfl | rfl | rfl | rfl
  · exact cfForms0 w a0 a1 hq
  · exact cfForms1 w a0 a1 hq
  · exact cfForms2 w a0 a1 hq
  · exact cfForms3 w a0 a1 hq
  · exact cfForms4 w a0 a1 hq
  · exact cfForms5 w a0 a1 hq
  · exact cfForms6 w a0 a1 hq
  · exact cfForms7 w a0 a1 hq
  · exact cfForms8 w a0 a1 hq
  · exact cfForms9 w a0 a1 hq
  · exact cfForms10 w a0 a1 hq
  · exact cfForms11 w a0 a1 hq
  · exact cfForms12 w a0 a1 hq

end Go.Proofs.Ytpdahcojedganaa
