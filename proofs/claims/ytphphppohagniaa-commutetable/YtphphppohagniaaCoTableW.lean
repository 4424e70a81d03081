/-
  THE WALK over choruslaw8.CommuteTable: it answers true, for every number, and turns nothing that was there.
-/
import Derived.Test.YtphphppohagniaaComAwake
import Derived.Test.YtphphppohagniaaStPut2
namespace Go.Proofs.Ytphphppohagniaa
open Go.RowKit

/-- The two states of the table. -/
def fullS : St := ⟨[0, 1, 2, 3], [], [], []⟩
def oneS : St := ⟨[2], [], [], []⟩

theorem ta0 : bothS 0 oneS 0 0 2 0 0 2 = (true, 0) := by decide
theorem ta1 : bothS 0 St.zero 0 0 2 0 0 2 = (false, 0) := by decide
theorem ta2 : bothS 0 oneS 1 0 2 1 0 2 = (false, 0) := by decide
theorem ta3 : bothS 1 fullS 0 0 2 0 0 2 = (true, 0) := by decide
theorem ta4 : bothS 1 oneS 0 0 2 2 0 0 = (false, 0) := by decide
theorem ta5 : bothS 2 fullS 0 0 2 0 0 2 = (true, 0) := by decide
theorem ta6 : bothS 2 St.zero 0 0 2 0 0 2 = (true, 0) := by decide
theorem ta7 : bothS 2 oneS 0 0 2 1 0 2 = (true, 0) := by decide
theorem ta8 : bothS 0 oneS 0 0 2 0 1 2 = (true, 0) := by decide
theorem ta9 : bothS 2 oneS 0 0 2 3 0 0 = (false, 0) := by decide
theorem ta10 : bothS 1 St.zero 0 0 2 1 0 2 = (true, 0) := by decide
theorem ta11 : bothS 2 St.zero 1 0 2 1 0 2 = (true, 0) := by decide
theorem ta12 : bothS 0 St.zero 0 0 2 0 1 2 = (true, 0) := by decide

theorem thirteen (a : Int) : ∃ i : Int, 0 ≤ i ∧ i ≤ 12 ∧ (IntKind.u64.wrap a).tmod 13 = i := by
  have h : 0 ≤ IntKind.u64.wrap a := by simp [IntKind.wrap, IntKind.bits, IntKind.signed]; omega
  rw [Int.tmod_eq_emod_of_nonneg h]
  exact ⟨_, by omega, by omega, rfl⟩

abbrev tab0 : Array Value := #[.int .i64 0, .int .i64 0, .int .i64 0, .int .i64 1, .int .i64 1, .int .i64 2, .int .i64 2, .int .i64 2, .int .i64 0, .int .i64 2, .int .i64 1, .int .i64 2, .int .i64 0]
abbrev tab1 (qf qo : Nat → Sl) : Array Value := #[slV (qo 0), slV (qo 1), slV (qo 2), slV (qo 3), slV slZ, slV slZ, slV slZ, slV slZ, slV (qo 0), slV (qo 1), slV (qo 2), slV (qo 3), slV (qf 0), slV (qf 1), slV (qf 2), slV (qf 3), slV (qo 0), slV (qo 1), slV (qo 2), slV (qo 3), slV (qf 0), slV (qf 1), slV (qf 2), slV (qf 3), slV slZ, slV slZ, slV slZ, slV slZ, slV (qo 0), slV (qo 1), slV (qo 2), slV (qo 3), slV (qo 0), slV (qo 1), slV (qo 2), slV (qo 3), slV (qo 0), slV (qo 1), slV (qo 2), slV (qo 3), slV slZ, slV slZ, slV slZ, slV slZ, slV slZ, slV slZ, slV slZ, slV slZ, slV slZ, slV slZ, slV slZ, slV slZ]
abbrev tab2 : Array Value := #[.int .i64 0, .int .i64 0, .int .i64 2, .int .i64 0, .int .i64 0, .int .i64 2, .int .i64 1, .int .i64 0, .int .i64 2, .int .i64 0, .int .i64 0, .int .i64 2, .int .i64 0, .int .i64 0, .int .i64 2, .int .i64 0, .int .i64 0, .int .i64 2, .int .i64 0, .int .i64 0, .int .i64 2, .int .i64 0, .int .i64 0, .int .i64 2, .int .i64 0, .int .i64 0, .int .i64 2, .int .i64 0, .int .i64 0, .int .i64 2, .int .i64 0, .int .i64 0, .int .i64 2, .int .i64 1, .int .i64 0, .int .i64 2, .int .i64 0, .int .i64 0, .int .i64 2]
abbrev tab3 : Array Value := #[.int .i64 0, .int .i64 0, .int .i64 2, .int .i64 0, .int .i64 0, .int .i64 2, .int .i64 1, .int .i64 0, .int .i64 2, .int .i64 0, .int .i64 0, .int .i64 2, .int .i64 2, .int .i64 0, .int .i64 0, .int .i64 0, .int .i64 0, .int .i64 2, .int .i64 0, .int .i64 0, .int .i64 2, .int .i64 1, .int .i64 0, .int .i64 2, .int .i64 0, .int .i64 1, .int .i64 2, .int .i64 3, .int .i64 0, .int .i64 0, .int .i64 1, .int .i64 0, .int .i64 2, .int .i64 1, .int .i64 0, .int .i64 2, .int .i64 0, .int .i64 1, .int .i64 2]
abbrev tab4 : Array Value := #[.bool true, .bool false, .bool false, .bool true, .bool false, .bool true, .bool true, .bool true, .bool true, .bool false, .bool true, .bool true, .bool true]

theorem layStates (w : World) : ∃ (W : World) (qf qo : Nat → Sl), ((((w.alloc (.cells #[.slice (some ⟨w.heap.size + 1 + 1, 0, none⟩) 4 4, .slice none 0 0, .slice none 0 0, .slice none 0 0] 25)).alloc (.cells #[.slice (some ⟨w.heap.size + 1 + 1 + 1, 0, none⟩) 1 1, .slice none 0 0, .slice none 0 0, .slice none 0 0] 25)).alloc (.cells #[.int .i64 0, .int .i64 1, .int .i64 2, .int .i64 3] 3)).alloc (.cells #[.int .i64 2] 3)) = W ∧
    Le w W ∧ HasS W (stV qf) fullS ∧ HasS W (stV qo) oneS ∧ Box W w.heap.size (cells4 qf) 25 ∧ Box W (w.heap.size + 1) (cells4 qo) 25 := by
  let qf : Nat → Sl := fun i => match i with | 0 => (some ⟨w.heap.size + 1 + 1, 0, none⟩, 4, 4) | _ => slZ
  let qo : Nat → Sl := fun i => match i with | 0 => (some ⟨w.heap.size + 1 + 1 + 1, 0, none⟩, 1, 1) | _ => slZ
  have b1 := (((Box.new w (cells4 qf) 25).le (Le.alloc _ (.cells (cells4 qo) 25))).le (Le.alloc _ (.cells #[.int .i64 0, .int .i64 1, .int .i64 2, .int .i64 3] 3))).le (Le.alloc _ (.cells #[.int .i64 2] 3))
  have b2 := ((Box.new (w.alloc (.cells (cells4 qf) 25)) (cells4 qo) 25).le (Le.alloc _ (.cells #[.int .i64 0, .int .i64 1, .int .i64 2, .int .i64 3] 3))).le (Le.alloc _ (.cells #[.int .i64 2] 3))
  have o1 := (Own.lit ((w.alloc (.cells (cells4 qf) 25)).alloc (.cells (cells4 qo) 25)) 0 (by omega) [0, 1, 2, 3] (by simp)).le (Le.alloc _ (.cells #[.int .i64 2] 3))
  have o2 := Own.lit (((w.alloc (.cells (cells4 qf) 25)).alloc (.cells (cells4 qo) 25)).alloc (.cells #[.int .i64 0, .int .i64 1, .int .i64 2, .int .i64 3] 3)) 0 (by omega) [2] (by simp)
  simp only [World.size_alloc] at b1 b2 o1 o2
  refine ⟨_, qf, qo, rfl, (((Le.alloc _ _).trans (Le.alloc _ _)).trans (Le.alloc _ _)).trans (Le.alloc _ _), ⟨qf, rfl, fun i hi => ?_⟩, ⟨qo, rfl, fun i hi => ?_⟩, b1, b2⟩
  · rcases four hi with rfl | rfl | rfl | rfl
    · exact o1.has
    · exact Has.nil _
    · exact Has.nil _
    · exact Has.nil _
  · rcases four hi with rfl | rfl | rfl | rfl
    · exact o2.has
    · exact Has.nil _
    · exact Has.nil _
    · exact Has.nil _

theorem layOps (W : World) : ∃ V : World, (((((W.alloc (.cells #[.int .i64 0, .int .i64 0, .int .i64 2] 27)).alloc (.cells #[.int .i64 1, .int .i64 0, .int .i64 2] 27)).alloc (.cells #[.int .i64 2, .int .i64 0, .int .i64 0] 27)).alloc (.cells #[.int .i64 3, .int .i64 0, .int .i64 0] 27)).alloc (.cells #[.int .i64 0, .int .i64 1, .int .i64 2] 27)) = V ∧ Le W V ∧ Box V (W.heap.size) #[.int .i64 0, .int .i64 0, .int .i64 2] 27 ∧ Box V (W.heap.size + 1) #[.int .i64 1, .int .i64 0, .int .i64 2] 27 ∧ Box V (W.heap.size + 1 + 1) #[.int .i64 2, .int .i64 0, .int .i64 0] 27 ∧ Box V (W.heap.size + 1 + 1 + 1) #[.int .i64 3, .int .i64 0, .int .i64 0] 27 ∧ Box V (W.heap.size + 1 + 1 + 1 + 1) #[.int .i64 0, .int .i64 1, .int .i64 2] 27 := by
  have b0 := ((((Box.new W #[.int .i64 0, .int .i64 0, .int .i64 2] 27).le (Le.alloc _ (.cells #[.int .i64 1, .int .i64 0, .int .i64 2] 27))).le (Le.alloc _ (.cells #[.int .i64 2, .int .i64 0, .int .i64 0] 27))).le (Le.alloc _ (.cells #[.int .i64 3, .int .i64 0, .int .i64 0] 27))).le (Le.alloc _ (.cells #[.int .i64 0, .int .i64 1, .int .i64 2] 27))
  have b1 := (((Box.new (W.alloc (.cells #[.int .i64 0, .int .i64 0, .int .i64 2] 27)) #[.int .i64 1, .int .i64 0, .int .i64 2] 27).le (Le.alloc _ (.cells #[.int .i64 2, .int .i64 0, .int .i64 0] 27))).le (Le.alloc _ (.cells #[.int .i64 3, .int .i64 0, .int .i64 0] 27))).le (Le.alloc _ (.cells #[.int .i64 0, .int .i64 1, .int .i64 2] 27))
  have b2 := ((Box.new ((W.alloc (.cells #[.int .i64 0, .int .i64 0, .int .i64 2] 27)).alloc (.cells #[.int .i64 1, .int .i64 0, .int .i64 2] 27)) #[.int .i64 2, .int .i64 0, .int .i64 0] 27).le (Le.alloc _ (.cells #[.int .i64 3, .int .i64 0, .int .i64 0] 27))).le (Le.alloc _ (.cells #[.int .i64 0, .int .i64 1, .int .i64 2] 27))
  have b3 := (Box.new (((W.alloc (.cells #[.int .i64 0, .int .i64 0, .int .i64 2] 27)).alloc (.cells #[.int .i64 1, .int .i64 0, .int .i64 2] 27)).alloc (.cells #[.int .i64 2, .int .i64 0, .int .i64 0] 27)) #[.int .i64 3, .int .i64 0, .int .i64 0] 27).le (Le.alloc _ (.cells #[.int .i64 0, .int .i64 1, .int .i64 2] 27))
  have b4 := Box.new ((((W.alloc (.cells #[.int .i64 0, .int .i64 0, .int .i64 2] 27)).alloc (.cells #[.int .i64 1, .int .i64 0, .int .i64 2] 27)).alloc (.cells #[.int .i64 2, .int .i64 0, .int .i64 0] 27)).alloc (.cells #[.int .i64 3, .int .i64 0, .int .i64 0] 27)) #[.int .i64 0, .int .i64 1, .int .i64 2] 27
  simp only [World.size_alloc] at b0 b1 b2 b3 b4
  exact ⟨_, rfl, ((((Le.alloc _ _).trans (Le.alloc _ _)).trans (Le.alloc _ _)).trans (Le.alloc _ _)).trans (Le.alloc _ _), b0, b1, b2, b3, b4⟩

set_option maxRecDepth 20000 in
set_option maxHeartbeats 8000000 in
theorem lawTable8 (w : World) (a0 : Int) : Calls Try.prog 5 #[.int .i64 a0] w fun e w' => e = .returned (.bool true) ∧ Le w w' := by
  obtain ⟨i, i0, i1, hi⟩ := thirteen a0
  go_enter Try.func5, Try.ntmps5
  go_upto_region 3 with (go_at_call 13; refine (lawAwake8 _).mono ?_; rintro e w1 ⟨rfl, l1⟩)
  go_upto_region 6 with fail
  obtain ⟨W, qf, qo, hW, l2, hf, ho, hb1, hb2⟩ := layStates w1
  rw [hW]
  clear hW
  replace l1 := l1.trans l2
  clear l2
  go_upto_region 8 with fail
  obtain ⟨V, hV, l2, hc0, hc1, hc2, hc3, hc4⟩ := layOps W
  rw [hV]
  replace l1 := l1.trans l2
  replace hf := hf.le l2
  replace ho := ho.le l2
  replace hb1 := hb1.le l2
  replace hb2 := hb2.le l2
  clear hV l2
  go_upto_region 9 with fail
  have ht0 := Box.new V (tab0) 3
  have hA := Le.alloc V (.cells (tab0) 3)
  replace l1 := l1.trans hA
  replace hf := hf.le hA
  replace ho := ho.le hA
  replace hb1 := hb1.le hA
  replace hb2 := hb2.le hA
  replace hc0 := hc0.le hA
  replace hc1 := hc1.le hA
  replace hc2 := hc2.le hA
  replace hc3 := hc3.le hA
  replace hc4 := hc4.le hA
  generalize hV : V.alloc (.cells (tab0) 3) = V0 at hf ho hb1 hb2 hc0 hc1 hc2 hc3 hc4 ht0 l1 ⊢
  generalize V.heap.size = t0 at ht0 ⊢
  clear hV hA
  obtain ⟨y0, y1, y2, y3, _, _, _, _⟩ := hb1.st
  obtain ⟨z0, z1, z2, z3, _, _, _, _⟩ := hb2.st
  go_upto_region 10 with fail
  clear y0 y1 y2 y3 z0 z1 z2 z3
  have ht1 := Box.new V0 (tab1 qf qo) 25
  have hA := Le.alloc V0 (.cells (tab1 qf qo) 25)
  replace l1 := l1.trans hA
  replace hf := hf.le hA
  replace ho := ho.le hA
  replace hb1 := hb1.le hA
  replace hb2 := hb2.le hA
  replace hc0 := hc0.le hA
  replace hc1 := hc1.le hA
  replace hc2 := hc2.le hA
  replace hc3 := hc3.le hA
  replace hc4 := hc4.le hA
  replace ht0 := ht0.le hA
  generalize hV : V0.alloc (.cells (tab1 qf qo) 25) = V1 at hf ho hb1 hb2 hc0 hc1 hc2 hc3 hc4 ht0 ht1 l1 ⊢
  generalize V0.heap.size = t1 at ht1 ⊢
  clear hV hA
  obtain ⟨p00, p01, p02, _, _, _⟩ := hc0.op
  obtain ⟨p10, p11, p12, _, _, _⟩ := hc1.op
  obtain ⟨p20, p21, p22, _, _, _⟩ := hc2.op
  obtain ⟨p30, p31, p32, _, _, _⟩ := hc3.op
  obtain ⟨p40, p41, p42, _, _, _⟩ := hc4.op
  go_upto_region 11 with fail
  clear p00 p01 p02 p10 p11 p12 p20 p21 p22 p30 p31 p32 p40 p41 p42
  have ht2 := Box.new V1 (tab2) 27
  have hA := Le.alloc V1 (.cells (tab2) 27)
  replace l1 := l1.trans hA
  replace hf := hf.le hA
  replace ho := ho.le hA
  replace hb1 := hb1.le hA
  replace hb2 := hb2.le hA
  replace hc0 := hc0.le hA
  replace hc1 := hc1.le hA
  replace hc2 := hc2.le hA
  replace hc3 := hc3.le hA
  replace hc4 := hc4.le hA
  replace ht0 := ht0.le hA
  replace ht1 := ht1.le hA
  generalize hV : V1.alloc (.cells (tab2) 27) = V2 at hf ho hb1 hb2 hc0 hc1 hc2 hc3 hc4 ht0 ht1 ht2 l1 ⊢
  generalize V1.heap.size = t2 at ht2 ⊢
  clear hV hA
  obtain ⟨p00, p01, p02, _, _, _⟩ := hc0.op
  obtain ⟨p10, p11, p12, _, _, _⟩ := hc1.op
  obtain ⟨p20, p21, p22, _, _, _⟩ := hc2.op
  obtain ⟨p30, p31, p32, _, _, _⟩ := hc3.op
  obtain ⟨p40, p41, p42, _, _, _⟩ := hc4.op
  go_upto_region 12 with fail
  clear p00 p01 p02 p10 p11 p12 p20 p21 p22 p30 p31 p32 p40 p41 p42
  have ht3 := Box.new V2 (tab3) 27
  have hA := Le.alloc V2 (.cells (tab3) 27)
  replace l1 := l1.trans hA
  replace hf := hf.le hA
  replace ho := ho.le hA
  replace hb1 := hb1.le hA
  replace hb2 := hb2.le hA
  replace hc0 := hc0.le hA
  replace hc1 := hc1.le hA
  replace hc2 := hc2.le hA
  replace hc3 := hc3.le hA
  replace hc4 := hc4.le hA
  replace ht0 := ht0.le hA
  replace ht1 := ht1.le hA
  replace ht2 := ht2.le hA
  generalize hV : V2.alloc (.cells (tab3) 27) = V3 at hf ho hb1 hb2 hc0 hc1 hc2 hc3 hc4 ht0 ht1 ht2 ht3 l1 ⊢
  generalize V2.heap.size = t3 at ht3 ⊢
  clear hV hA
  go_upto_region 13 with fail
  have ht4 := Box.new V3 (tab4) 4
  have hA := Le.alloc V3 (.cells (tab4) 4)
  replace l1 := l1.trans hA
  replace hf := hf.le hA
  replace ho := ho.le hA
  replace hb1 := hb1.le hA
  replace hb2 := hb2.le hA
  replace hc0 := hc0.le hA
  replace hc1 := hc1.le hA
  replace hc2 := hc2.le hA
  replace hc3 := hc3.le hA
  replace hc4 := hc4.le hA
  replace ht0 := ht0.le hA
  replace ht1 := ht1.le hA
  replace ht2 := ht2.le hA
  replace ht3 := ht3.le hA
  generalize hV : V3.alloc (.cells (tab4) 4) = V4 at hf ho hb1 hb2 hc0 hc1 hc2 hc3 hc4 ht0 ht1 ht2 ht3 ht4 l1 ⊢
  generalize V3.heap.size = t4 at ht4 ⊢
  clear hV hA
  go_upto_region 14 with fail
  clear hb1 hb2 hc0 hc1 hc2 hc3 hc4 hi
  have HI : i = 0 ∨ i = 1 ∨ i = 2 ∨ i = 3 ∨ i = 4 ∨ i = 5 ∨ i = 6 ∨ i = 7 ∨ i = 8 ∨ i = 9 ∨ i = 10 ∨ i = 11 ∨ i = 12 := by omega
  clear i0 i1
  rcases HI with rfl | rfl | rfl | rfl | rfl | rfl | rfl | rfl | rfl | rfl | rfl | rfl | rfl
  · have y0 : ∀ X : Later V4, X.w.cell? ⟨t0, 0, none⟩ = some (.int .i64 0) := ht0.later 0
    have s0 : ∀ X : Later V4, X.w.cell? ⟨t1, 0, none⟩ = some (slV (qo 0)) := ht1.later 0
    have s1 : ∀ X : Later V4, X.w.cell? ⟨t1, 1, none⟩ = some (slV (qo 1)) := ht1.later 1
    have s2 : ∀ X : Later V4, X.w.cell? ⟨t1, 2, none⟩ = some (slV (qo 2)) := ht1.later 2
    have s3 : ∀ X : Later V4, X.w.cell? ⟨t1, 3, none⟩ = some (slV (qo 3)) := ht1.later 3
    have a1 : ∀ X : Later V4, X.w.cell? ⟨t2, 0, none⟩ = some (.int .i64 0) := ht2.later 0
    have a2 : ∀ X : Later V4, X.w.cell? ⟨t2, 1, none⟩ = some (.int .i64 0) := ht2.later 1
    have a3 : ∀ X : Later V4, X.w.cell? ⟨t2, 2, none⟩ = some (.int .i64 2) := ht2.later 2
    have b1 : ∀ X : Later V4, X.w.cell? ⟨t3, 0, none⟩ = some (.int .i64 0) := ht3.later 0
    have b2 : ∀ X : Later V4, X.w.cell? ⟨t3, 1, none⟩ = some (.int .i64 0) := ht3.later 1
    have b3 : ∀ X : Later V4, X.w.cell? ⟨t3, 2, none⟩ = some (.int .i64 2) := ht3.later 2
    have hap := fun X : Later V4 => comBoth 0 (stV qo) oneS 0 0 2 0 0 2 X.w (ho.le X.le) (fit_small (by decide))
    rw [ta0] at hap
    refine wp_region_later (by kernel_rfl) (by kernel_rfl) ?_
    repeat (go_big_quiet_step (first | (go_at_call 9; exact Calls.later (hap _))))
    refine wpQuiet_nil ?_
    rintro _ ⟨X, rfl⟩
    have y1 : X.w.cell? ⟨t4, 0, none⟩ = some (.bool true) := ht4.later 0 X
    clear y0 s0 s1 s2 s3 a1 a2 a3 b1 b2 b3 hap
    go_wp2_with (go_at_call 11; refine (lawNum _ _).mono ?_; rintro e _ ⟨rfl, rfl⟩)
    go_ret
    exact ⟨rfl, l1.trans X.le⟩
  · have y0 : ∀ X : Later V4, X.w.cell? ⟨t0, 1, none⟩ = some (.int .i64 0) := ht0.later 1
    have s0 : ∀ X : Later V4, X.w.cell? ⟨t1, 4, none⟩ = some (slV slZ) := ht1.later 4
    have s1 : ∀ X : Later V4, X.w.cell? ⟨t1, 5, none⟩ = some (slV slZ) := ht1.later 5
    have s2 : ∀ X : Later V4, X.w.cell? ⟨t1, 6, none⟩ = some (slV slZ) := ht1.later 6
    have s3 : ∀ X : Later V4, X.w.cell? ⟨t1, 7, none⟩ = some (slV slZ) := ht1.later 7
    have a1 : ∀ X : Later V4, X.w.cell? ⟨t2, 3, none⟩ = some (.int .i64 0) := ht2.later 3
    have a2 : ∀ X : Later V4, X.w.cell? ⟨t2, 4, none⟩ = some (.int .i64 0) := ht2.later 4
    have a3 : ∀ X : Later V4, X.w.cell? ⟨t2, 5, none⟩ = some (.int .i64 2) := ht2.later 5
    have b1 : ∀ X : Later V4, X.w.cell? ⟨t3, 3, none⟩ = some (.int .i64 0) := ht3.later 3
    have b2 : ∀ X : Later V4, X.w.cell? ⟨t3, 4, none⟩ = some (.int .i64 0) := ht3.later 4
    have b3 : ∀ X : Later V4, X.w.cell? ⟨t3, 5, none⟩ = some (.int .i64 2) := ht3.later 5
    have hap := fun X : Later V4 => comBoth 0 stZ St.zero 0 0 2 0 0 2 X.w (HasS.zero _) fit_zero
    rw [ta1] at hap
    refine wp_region_later (by kernel_rfl) (by kernel_rfl) ?_
    repeat (go_big_quiet_step (first | (go_at_call 9; exact Calls.later (hap _))))
    refine wpQuiet_nil ?_
    rintro _ ⟨X, rfl⟩
    have y1 : X.w.cell? ⟨t4, 1, none⟩ = some (.bool false) := ht4.later 1 X
    clear y0 s0 s1 s2 s3 a1 a2 a3 b1 b2 b3 hap
    go_wp2_with (go_at_call 11; refine (lawNum _ _).mono ?_; rintro e _ ⟨rfl, rfl⟩)
    go_ret
    exact ⟨rfl, l1.trans X.le⟩
  · have y0 : ∀ X : Later V4, X.w.cell? ⟨t0, 2, none⟩ = some (.int .i64 0) := ht0.later 2
    have s0 : ∀ X : Later V4, X.w.cell? ⟨t1, 8, none⟩ = some (slV (qo 0)) := ht1.later 8
    have s1 : ∀ X : Later V4, X.w.cell? ⟨t1, 9, none⟩ = some (slV (qo 1)) := ht1.later 9
    have s2 : ∀ X : Later V4, X.w.cell? ⟨t1, 10, none⟩ = some (slV (qo 2)) := ht1.later 10
    have s3 : ∀ X : Later V4, X.w.cell? ⟨t1, 11, none⟩ = some (slV (qo 3)) := ht1.later 11
    have a1 : ∀ X : Later V4, X.w.cell? ⟨t2, 6, none⟩ = some (.int .i64 1) := ht2.later 6
    have a2 : ∀ X : Later V4, X.w.cell? ⟨t2, 7, none⟩ = some (.int .i64 0) := ht2.later 7
    have a3 : ∀ X : Later V4, X.w.cell? ⟨t2, 8, none⟩ = some (.int .i64 2) := ht2.later 8
    have b1 : ∀ X : Later V4, X.w.cell? ⟨t3, 6, none⟩ = some (.int .i64 1) := ht3.later 6
    have b2 : ∀ X : Later V4, X.w.cell? ⟨t3, 7, none⟩ = some (.int .i64 0) := ht3.later 7
    have b3 : ∀ X : Later V4, X.w.cell? ⟨t3, 8, none⟩ = some (.int .i64 2) := ht3.later 8
    have hap := fun X : Later V4 => comBoth 0 (stV qo) oneS 1 0 2 1 0 2 X.w (ho.le X.le) (fit_small (by decide))
    rw [ta2] at hap
    refine wp_region_later (by kernel_rfl) (by kernel_rfl) ?_
    repeat (go_big_quiet_step (first | (go_at_call 9; exact Calls.later (hap _))))
    refine wpQuiet_nil ?_
    rintro _ ⟨X, rfl⟩
    have y1 : X.w.cell? ⟨t4, 2, none⟩ = some (.bool false) := ht4.later 2 X
    clear y0 s0 s1 s2 s3 a1 a2 a3 b1 b2 b3 hap
    go_wp2_with (go_at_call 11; refine (lawNum _ _).mono ?_; rintro e _ ⟨rfl, rfl⟩)
    go_ret
    exact ⟨rfl, l1.trans X.le⟩
  · have y0 : ∀ X : Later V4, X.w.cell? ⟨t0, 3, none⟩ = some (.int .i64 1) := ht0.later 3
    have s0 : ∀ X : Later V4, X.w.cell? ⟨t1, 12, none⟩ = some (slV (qf 0)) := ht1.later 12
    have s1 : ∀ X : Later V4, X.w.cell? ⟨t1, 13, none⟩ = some (slV (qf 1)) := ht1.later 13
    have s2 : ∀ X : Later V4, X.w.cell? ⟨t1, 14, none⟩ = some (slV (qf 2)) := ht1.later 14
    have s3 : ∀ X : Later V4, X.w.cell? ⟨t1, 15, none⟩ = some (slV (qf 3)) := ht1.later 15
    have a1 : ∀ X : Later V4, X.w.cell? ⟨t2, 9, none⟩ = some (.int .i64 0) := ht2.later 9
    have a2 : ∀ X : Later V4, X.w.cell? ⟨t2, 10, none⟩ = some (.int .i64 0) := ht2.later 10
    have a3 : ∀ X : Later V4, X.w.cell? ⟨t2, 11, none⟩ = some (.int .i64 2) := ht2.later 11
    have b1 : ∀ X : Later V4, X.w.cell? ⟨t3, 9, none⟩ = some (.int .i64 0) := ht3.later 9
    have b2 : ∀ X : Later V4, X.w.cell? ⟨t3, 10, none⟩ = some (.int .i64 0) := ht3.later 10
    have b3 : ∀ X : Later V4, X.w.cell? ⟨t3, 11, none⟩ = some (.int .i64 2) := ht3.later 11
    have hap := fun X : Later V4 => comBoth 1 (stV qf) fullS 0 0 2 0 0 2 X.w (hf.le X.le) (fit_small (by decide))
    rw [ta3] at hap
    refine wp_region_later (by kernel_rfl) (by kernel_rfl) ?_
    repeat (go_big_quiet_step (first | (go_at_call 9; exact Calls.later (hap _))))
    refine wpQuiet_nil ?_
    rintro _ ⟨X, rfl⟩
    have y1 : X.w.cell? ⟨t4, 3, none⟩ = some (.bool true) := ht4.later 3 X
    clear y0 s0 s1 s2 s3 a1 a2 a3 b1 b2 b3 hap
    go_wp2_with (go_at_call 11; refine (lawNum _ _).mono ?_; rintro e _ ⟨rfl, rfl⟩)
    go_ret
    exact ⟨rfl, l1.trans X.le⟩
  · have y0 : ∀ X : Later V4, X.w.cell? ⟨t0, 4, none⟩ = some (.int .i64 1) := ht0.later 4
    have s0 : ∀ X : Later V4, X.w.cell? ⟨t1, 16, none⟩ = some (slV (qo 0)) := ht1.later 16
    have s1 : ∀ X : Later V4, X.w.cell? ⟨t1, 17, none⟩ = some (slV (qo 1)) := ht1.later 17
    have s2 : ∀ X : Later V4, X.w.cell? ⟨t1, 18, none⟩ = some (slV (qo 2)) := ht1.later 18
    have s3 : ∀ X : Later V4, X.w.cell? ⟨t1, 19, none⟩ = some (slV (qo 3)) := ht1.later 19
    have a1 : ∀ X : Later V4, X.w.cell? ⟨t2, 12, none⟩ = some (.int .i64 0) := ht2.later 12
    have a2 : ∀ X : Later V4, X.w.cell? ⟨t2, 13, none⟩ = some (.int .i64 0) := ht2.later 13
    have a3 : ∀ X : Later V4, X.w.cell? ⟨t2, 14, none⟩ = some (.int .i64 2) := ht2.later 14
    have b1 : ∀ X : Later V4, X.w.cell? ⟨t3, 12, none⟩ = some (.int .i64 2) := ht3.later 12
    have b2 : ∀ X : Later V4, X.w.cell? ⟨t3, 13, none⟩ = some (.int .i64 0) := ht3.later 13
    have b3 : ∀ X : Later V4, X.w.cell? ⟨t3, 14, none⟩ = some (.int .i64 0) := ht3.later 14
    have hap := fun X : Later V4 => comBoth 1 (stV qo) oneS 0 0 2 2 0 0 X.w (ho.le X.le) (fit_small (by decide))
    rw [ta4] at hap
    refine wp_region_later (by kernel_rfl) (by kernel_rfl) ?_
    repeat (go_big_quiet_step (first | (go_at_call 9; exact Calls.later (hap _))))
    refine wpQuiet_nil ?_
    rintro _ ⟨X, rfl⟩
    have y1 : X.w.cell? ⟨t4, 4, none⟩ = some (.bool false) := ht4.later 4 X
    clear y0 s0 s1 s2 s3 a1 a2 a3 b1 b2 b3 hap
    go_wp2_with (go_at_call 11; refine (lawNum _ _).mono ?_; rintro e _ ⟨rfl, rfl⟩)
    go_ret
    exact ⟨rfl, l1.trans X.le⟩
  · have y0 : ∀ X : Later V4, X.w.cell? ⟨t0, 5, none⟩ = some (.int .i64 2) := ht0.later 5
    have s0 : ∀ X : Later V4, X.w.cell? ⟨t1, 20, none⟩ = some (slV (qf 0)) := ht1.later 20
    have s1 : ∀ X : Later V4, X.w.cell? ⟨t1, 21, none⟩ = some (slV (qf 1)) := ht1.later 21
    have s2 : ∀ X : Later V4, X.w.cell? ⟨t1, 22, none⟩ = some (slV (qf 2)) := ht1.later 22
    have s3 : ∀ X : Later V4, X.w.cell? ⟨t1, 23, none⟩ = some (slV (qf 3)) := ht1.later 23
    have a1 : ∀ X : Later V4, X.w.cell? ⟨t2, 15, none⟩ = some (.int .i64 0) := ht2.later 15
    have a2 : ∀ X : Later V4, X.w.cell? ⟨t2, 16, none⟩ = some (.int .i64 0) := ht2.later 16
    have a3 : ∀ X : Later V4, X.w.cell? ⟨t2, 17, none⟩ = some (.int .i64 2) := ht2.later 17
    have b1 : ∀ X : Later V4, X.w.cell? ⟨t3, 15, none⟩ = some (.int .i64 0) := ht3.later 15
    have b2 : ∀ X : Later V4, X.w.cell? ⟨t3, 16, none⟩ = some (.int .i64 0) := ht3.later 16
    have b3 : ∀ X : Later V4, X.w.cell? ⟨t3, 17, none⟩ = some (.int .i64 2) := ht3.later 17
    have hap := fun X : Later V4 => comBoth 2 (stV qf) fullS 0 0 2 0 0 2 X.w (hf.le X.le) (fit_small (by decide))
    rw [ta5] at hap
    refine wp_region_later (by kernel_rfl) (by kernel_rfl) ?_
    repeat (go_big_quiet_step (first | (go_at_call 9; exact Calls.later (hap _))))
    refine wpQuiet_nil ?_
    rintro _ ⟨X, rfl⟩
    have y1 : X.w.cell? ⟨t4, 5, none⟩ = some (.bool true) := ht4.later 5 X
    clear y0 s0 s1 s2 s3 a1 a2 a3 b1 b2 b3 hap
    go_wp2_with (go_at_call 11; refine (lawNum _ _).mono ?_; rintro e _ ⟨rfl, rfl⟩)
    go_ret
    exact ⟨rfl, l1.trans X.le⟩
  · have y0 : ∀ X : Later V4, X.w.cell? ⟨t0, 6, none⟩ = some (.int .i64 2) := ht0.later 6
    have s0 : ∀ X : Later V4, X.w.cell? ⟨t1, 24, none⟩ = some (slV slZ) := ht1.later 24
    have s1 : ∀ X : Later V4, X.w.cell? ⟨t1, 25, none⟩ = some (slV slZ) := ht1.later 25
    have s2 : ∀ X : Later V4, X.w.cell? ⟨t1, 26, none⟩ = some (slV slZ) := ht1.later 26
    have s3 : ∀ X : Later V4, X.w.cell? ⟨t1, 27, none⟩ = some (slV slZ) := ht1.later 27
    have a1 : ∀ X : Later V4, X.w.cell? ⟨t2, 18, none⟩ = some (.int .i64 0) := ht2.later 18
    have a2 : ∀ X : Later V4, X.w.cell? ⟨t2, 19, none⟩ = some (.int .i64 0) := ht2.later 19
    have a3 : ∀ X : Later V4, X.w.cell? ⟨t2, 20, none⟩ = some (.int .i64 2) := ht2.later 20
    have b1 : ∀ X : Later V4, X.w.cell? ⟨t3, 18, none⟩ = some (.int .i64 0) := ht3.later 18
    have b2 : ∀ X : Later V4, X.w.cell? ⟨t3, 19, none⟩ = some (.int .i64 0) := ht3.later 19
    have b3 : ∀ X : Later V4, X.w.cell? ⟨t3, 20, none⟩ = some (.int .i64 2) := ht3.later 20
    have hap := fun X : Later V4 => comBoth 2 stZ St.zero 0 0 2 0 0 2 X.w (HasS.zero _) fit_zero
    rw [ta6] at hap
    refine wp_region_later (by kernel_rfl) (by kernel_rfl) ?_
    repeat (go_big_quiet_step (first | (go_at_call 9; exact Calls.later (hap _))))
    refine wpQuiet_nil ?_
    rintro _ ⟨X, rfl⟩
    have y1 : X.w.cell? ⟨t4, 6, none⟩ = some (.bool true) := ht4.later 6 X
    clear y0 s0 s1 s2 s3 a1 a2 a3 b1 b2 b3 hap
    go_wp2_with (go_at_call 11; refine (lawNum _ _).mono ?_; rintro e _ ⟨rfl, rfl⟩)
    go_ret
    exact ⟨rfl, l1.trans X.le⟩
  · have y0 : ∀ X : Later V4, X.w.cell? ⟨t0, 7, none⟩ = some (.int .i64 2) := ht0.later 7
    have s0 : ∀ X : Later V4, X.w.cell? ⟨t1, 28, none⟩ = some (slV (qo 0)) := ht1.later 28
    have s1 : ∀ X : Later V4, X.w.cell? ⟨t1, 29, none⟩ = some (slV (qo 1)) := ht1.later 29
    have s2 : ∀ X : Later V4, X.w.cell? ⟨t1, 30, none⟩ = some (slV (qo 2)) := ht1.later 30
    have s3 : ∀ X : Later V4, X.w.cell? ⟨t1, 31, none⟩ = some (slV (qo 3)) := ht1.later 31
    have a1 : ∀ X : Later V4, X.w.cell? ⟨t2, 21, none⟩ = some (.int .i64 0) := ht2.later 21
    have a2 : ∀ X : Later V4, X.w.cell? ⟨t2, 22, none⟩ = some (.int .i64 0) := ht2.later 22
    have a3 : ∀ X : Later V4, X.w.cell? ⟨t2, 23, none⟩ = some (.int .i64 2) := ht2.later 23
    have b1 : ∀ X : Later V4, X.w.cell? ⟨t3, 21, none⟩ = some (.int .i64 1) := ht3.later 21
    have b2 : ∀ X : Later V4, X.w.cell? ⟨t3, 22, none⟩ = some (.int .i64 0) := ht3.later 22
    have b3 : ∀ X : Later V4, X.w.cell? ⟨t3, 23, none⟩ = some (.int .i64 2) := ht3.later 23
    have hap := fun X : Later V4 => comBoth 2 (stV qo) oneS 0 0 2 1 0 2 X.w (ho.le X.le) (fit_small (by decide))
    rw [ta7] at hap
    refine wp_region_later (by kernel_rfl) (by kernel_rfl) ?_
    repeat (go_big_quiet_step (first | (go_at_call 9; exact Calls.later (hap _))))
    refine wpQuiet_nil ?_
    rintro _ ⟨X, rfl⟩
    have y1 : X.w.cell? ⟨t4, 7, none⟩ = some (.bool true) := ht4.later 7 X
    clear y0 s0 s1 s2 s3 a1 a2 a3 b1 b2 b3 hap
    go_wp2_with (go_at_call 11; refine (lawNum _ _).mono ?_; rintro e _ ⟨rfl, rfl⟩)
    go_ret
    exact ⟨rfl, l1.trans X.le⟩
  · have y0 : ∀ X : Later V4, X.w.cell? ⟨t0, 8, none⟩ = some (.int .i64 0) := ht0.later 8
    have s0 : ∀ X : Later V4, X.w.cell? ⟨t1, 32, none⟩ = some (slV (qo 0)) := ht1.later 32
    have s1 : ∀ X : Later V4, X.w.cell? ⟨t1, 33, none⟩ = some (slV (qo 1)) := ht1.later 33
    have s2 : ∀ X : Later V4, X.w.cell? ⟨t1, 34, none⟩ = some (slV (qo 2)) := ht1.later 34
    have s3 : ∀ X : Later V4, X.w.cell? ⟨t1, 35, none⟩ = some (slV (qo 3)) := ht1.later 35
    have a1 : ∀ X : Later V4, X.w.cell? ⟨t2, 24, none⟩ = some (.int .i64 0) := ht2.later 24
    have a2 : ∀ X : Later V4, X.w.cell? ⟨t2, 25, none⟩ = some (.int .i64 0) := ht2.later 25
    have a3 : ∀ X : Later V4, X.w.cell? ⟨t2, 26, none⟩ = some (.int .i64 2) := ht2.later 26
    have b1 : ∀ X : Later V4, X.w.cell? ⟨t3, 24, none⟩ = some (.int .i64 0) := ht3.later 24
    have b2 : ∀ X : Later V4, X.w.cell? ⟨t3, 25, none⟩ = some (.int .i64 1) := ht3.later 25
    have b3 : ∀ X : Later V4, X.w.cell? ⟨t3, 26, none⟩ = some (.int .i64 2) := ht3.later 26
    have hap := fun X : Later V4 => comBoth 0 (stV qo) oneS 0 0 2 0 1 2 X.w (ho.le X.le) (fit_small (by decide))
    rw [ta8] at hap
    refine wp_region_later (by kernel_rfl) (by kernel_rfl) ?_
    repeat (go_big_quiet_step (first | (go_at_call 9; exact Calls.later (hap _))))
    refine wpQuiet_nil ?_
    rintro _ ⟨X, rfl⟩
    have y1 : X.w.cell? ⟨t4, 8, none⟩ = some (.bool true) := ht4.later 8 X
    clear y0 s0 s1 s2 s3 a1 a2 a3 b1 b2 b3 hap
    go_wp2_with (go_at_call 11; refine (lawNum _ _).mono ?_; rintro e _ ⟨rfl, rfl⟩)
    go_ret
    exact ⟨rfl, l1.trans X.le⟩
  · have y0 : ∀ X : Later V4, X.w.cell? ⟨t0, 9, none⟩ = some (.int .i64 2) := ht0.later 9
    have s0 : ∀ X : Later V4, X.w.cell? ⟨t1, 36, none⟩ = some (slV (qo 0)) := ht1.later 36
    have s1 : ∀ X : Later V4, X.w.cell? ⟨t1, 37, none⟩ = some (slV (qo 1)) := ht1.later 37
    have s2 : ∀ X : Later V4, X.w.cell? ⟨t1, 38, none⟩ = some (slV (qo 2)) := ht1.later 38
    have s3 : ∀ X : Later V4, X.w.cell? ⟨t1, 39, none⟩ = some (slV (qo 3)) := ht1.later 39
    have a1 : ∀ X : Later V4, X.w.cell? ⟨t2, 27, none⟩ = some (.int .i64 0) := ht2.later 27
    have a2 : ∀ X : Later V4, X.w.cell? ⟨t2, 28, none⟩ = some (.int .i64 0) := ht2.later 28
    have a3 : ∀ X : Later V4, X.w.cell? ⟨t2, 29, none⟩ = some (.int .i64 2) := ht2.later 29
    have b1 : ∀ X : Later V4, X.w.cell? ⟨t3, 27, none⟩ = some (.int .i64 3) := ht3.later 27
    have b2 : ∀ X : Later V4, X.w.cell? ⟨t3, 28, none⟩ = some (.int .i64 0) := ht3.later 28
    have b3 : ∀ X : Later V4, X.w.cell? ⟨t3, 29, none⟩ = some (.int .i64 0) := ht3.later 29
    have hap := fun X : Later V4 => comBoth 2 (stV qo) oneS 0 0 2 3 0 0 X.w (ho.le X.le) (fit_small (by decide))
    rw [ta9] at hap
    refine wp_region_later (by kernel_rfl) (by kernel_rfl) ?_
    repeat (go_big_quiet_step (first | (go_at_call 9; exact Calls.later (hap _))))
    refine wpQuiet_nil ?_
    rintro _ ⟨X, rfl⟩
    have y1 : X.w.cell? ⟨t4, 9, none⟩ = some (.bool false) := ht4.later 9 X
    clear y0 s0 s1 s2 s3 a1 a2 a3 b1 b2 b3 hap
    go_wp2_with (go_at_call 11; refine (lawNum _ _).mono ?_; rintro e _ ⟨rfl, rfl⟩)
    go_ret
    exact ⟨rfl, l1.trans X.le⟩
  · have y0 : ∀ X : Later V4, X.w.cell? ⟨t0, 10, none⟩ = some (.int .i64 1) := ht0.later 10
    have s0 : ∀ X : Later V4, X.w.cell? ⟨t1, 40, none⟩ = some (slV slZ) := ht1.later 40
    have s1 : ∀ X : Later V4, X.w.cell? ⟨t1, 41, none⟩ = some (slV slZ) := ht1.later 41
    have s2 : ∀ X : Later V4, X.w.cell? ⟨t1, 42, none⟩ = some (slV slZ) := ht1.later 42
    have s3 : ∀ X : Later V4, X.w.cell? ⟨t1, 43, none⟩ = some (slV slZ) := ht1.later 43
    have a1 : ∀ X : Later V4, X.w.cell? ⟨t2, 30, none⟩ = some (.int .i64 0) := ht2.later 30
    have a2 : ∀ X : Later V4, X.w.cell? ⟨t2, 31, none⟩ = some (.int .i64 0) := ht2.later 31
    have a3 : ∀ X : Later V4, X.w.cell? ⟨t2, 32, none⟩ = some (.int .i64 2) := ht2.later 32
    have b1 : ∀ X : Later V4, X.w.cell? ⟨t3, 30, none⟩ = some (.int .i64 1) := ht3.later 30
    have b2 : ∀ X : Later V4, X.w.cell? ⟨t3, 31, none⟩ = some (.int .i64 0) := ht3.later 31
    have b3 : ∀ X : Later V4, X.w.cell? ⟨t3, 32, none⟩ = some (.int .i64 2) := ht3.later 32
    have hap := fun X : Later V4 => comBoth 1 stZ St.zero 0 0 2 1 0 2 X.w (HasS.zero _) fit_zero
    rw [ta10] at hap
    refine wp_region_later (by kernel_rfl) (by kernel_rfl) ?_
    repeat (go_big_quiet_step (first | (go_at_call 9; exact Calls.later (hap _))))
    refine wpQuiet_nil ?_
    rintro _ ⟨X, rfl⟩
    have y1 : X.w.cell? ⟨t4, 10, none⟩ = some (.bool true) := ht4.later 10 X
    clear y0 s0 s1 s2 s3 a1 a2 a3 b1 b2 b3 hap
    go_wp2_with (go_at_call 11; refine (lawNum _ _).mono ?_; rintro e _ ⟨rfl, rfl⟩)
    go_ret
    exact ⟨rfl, l1.trans X.le⟩
  · have y0 : ∀ X : Later V4, X.w.cell? ⟨t0, 11, none⟩ = some (.int .i64 2) := ht0.later 11
    have s0 : ∀ X : Later V4, X.w.cell? ⟨t1, 44, none⟩ = some (slV slZ) := ht1.later 44
    have s1 : ∀ X : Later V4, X.w.cell? ⟨t1, 45, none⟩ = some (slV slZ) := ht1.later 45
    have s2 : ∀ X : Later V4, X.w.cell? ⟨t1, 46, none⟩ = some (slV slZ) := ht1.later 46
    have s3 : ∀ X : Later V4, X.w.cell? ⟨t1, 47, none⟩ = some (slV slZ) := ht1.later 47
    have a1 : ∀ X : Later V4, X.w.cell? ⟨t2, 33, none⟩ = some (.int .i64 1) := ht2.later 33
    have a2 : ∀ X : Later V4, X.w.cell? ⟨t2, 34, none⟩ = some (.int .i64 0) := ht2.later 34
    have a3 : ∀ X : Later V4, X.w.cell? ⟨t2, 35, none⟩ = some (.int .i64 2) := ht2.later 35
    have b1 : ∀ X : Later V4, X.w.cell? ⟨t3, 33, none⟩ = some (.int .i64 1) := ht3.later 33
    have b2 : ∀ X : Later V4, X.w.cell? ⟨t3, 34, none⟩ = some (.int .i64 0) := ht3.later 34
    have b3 : ∀ X : Later V4, X.w.cell? ⟨t3, 35, none⟩ = some (.int .i64 2) := ht3.later 35
    have hap := fun X : Later V4 => comBoth 2 stZ St.zero 1 0 2 1 0 2 X.w (HasS.zero _) fit_zero
    rw [ta11] at hap
    refine wp_region_later (by kernel_rfl) (by kernel_rfl) ?_
    repeat (go_big_quiet_step (first | (go_at_call 9; exact Calls.later (hap _))))
    refine wpQuiet_nil ?_
    rintro _ ⟨X, rfl⟩
    have y1 : X.w.cell? ⟨t4, 11, none⟩ = some (.bool true) := ht4.later 11 X
    clear y0 s0 s1 s2 s3 a1 a2 a3 b1 b2 b3 hap
    go_wp2_with (go_at_call 11; refine (lawNum _ _).mono ?_; rintro e _ ⟨rfl, rfl⟩)
    go_ret
    exact ⟨rfl, l1.trans X.le⟩
  · have y0 : ∀ X : Later V4, X.w.cell? ⟨t0, 12, none⟩ = some (.int .i64 0) := ht0.later 12
    have s0 : ∀ X : Later V4, X.w.cell? ⟨t1, 48, none⟩ = some (slV slZ) := ht1.later 48
    have s1 : ∀ X : Later V4, X.w.cell? ⟨t1, 49, none⟩ = some (slV slZ) := ht1.later 49
    have s2 : ∀ X : Later V4, X.w.cell? ⟨t1, 50, none⟩ = some (slV slZ) := ht1.later 50
    have s3 : ∀ X : Later V4, X.w.cell? ⟨t1, 51, none⟩ = some (slV slZ) := ht1.later 51
    have a1 : ∀ X : Later V4, X.w.cell? ⟨t2, 36, none⟩ = some (.int .i64 0) := ht2.later 36
    have a2 : ∀ X : Later V4, X.w.cell? ⟨t2, 37, none⟩ = some (.int .i64 0) := ht2.later 37
    have a3 : ∀ X : Later V4, X.w.cell? ⟨t2, 38, none⟩ = some (.int .i64 2) := ht2.later 38
    have b1 : ∀ X : Later V4, X.w.cell? ⟨t3, 36, none⟩ = some (.int .i64 0) := ht3.later 36
    have b2 : ∀ X : Later V4, X.w.cell? ⟨t3, 37, none⟩ = some (.int .i64 1) := ht3.later 37
    have b3 : ∀ X : Later V4, X.w.cell? ⟨t3, 38, none⟩ = some (.int .i64 2) := ht3.later 38
    have hap := fun X : Later V4 => comBoth 0 stZ St.zero 0 0 2 0 1 2 X.w (HasS.zero _) fit_zero
    rw [ta12] at hap
    refine wp_region_later (by kernel_rfl) (by kernel_rfl) ?_
    repeat (go_big_quiet_step (first | (go_at_call 9; exact Calls.later (hap _))))
    refine wpQuiet_nil ?_
    rintro _ ⟨X, rfl⟩
    have y1 : X.w.cell? ⟨t4, 12, none⟩ = some (.bool true) := ht4.later 12 X
    clear y0 s0 s1 s2 s3 a1 a2 a3 b1 b2 b3 hap
    go_wp2_with (go_at_call 11; refine (lawNum _ _).mono ?_; rintro e _ ⟨rfl, rfl⟩)
    go_ret
    exact ⟨rfl, l1.trans X.le⟩

end Go.Proofs.Ytphphppohagniaa
