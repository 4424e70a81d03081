/-
  PARTS LAID TOGETHER, each with its own opening: ObjA, ObjB, LoC, LoD, NwAwake, LmD, SpS, CfR.
-/
import Derived.Test.YtibleipfablniaaAll6
import Derived.Test.YtibleipfablniaaAll5
import Derived.Deep.RegionHeld3
import Derived.Deep.Cut
import Derived.Test.YtibleipfablniaaAll2
import Derived.BigRegion
import Derived.Test.YtibleipfablniaaAll3
import Derived.Test.YtibleipfablniaaAll1
/-
  THE WALKS over package object's three methods, its table of them, Apply and May: what each answers, for every object, state and operation. Condition: the state's rows can be copied.
-/
namespace Go.Proofs.Ytibleipfablniaa
open Go.RowKit

/-- A call's cells: the state's, the operation's. -/
abbrev cells7 (vs : Nat → Sl) (c r a : Int) : Array Value := #[slV (vs 0), slV (vs 1), slV (vs 2), slV (vs 3), .int .i64 c, .int .i64 r, .int .i64 a]

theorem Box.call {w : World} {g : Nat} {vs : Nat → Sl} {c r a : Int} {t : TypeId} (h : Box w g (cells7 vs c r a) t) :
    w.cell? ⟨g, 0, none⟩ = some (slV (vs 0)) ∧ w.cell? ⟨g, 1, none⟩ = some (slV (vs 1)) ∧ w.cell? ⟨g, 2, none⟩ = some (slV (vs 2)) ∧ w.cell? ⟨g, 3, none⟩ = some (slV (vs 3)) ∧
    w.cell? ⟨g, 4, none⟩ = some (.int .i64 c) ∧ w.cell? ⟨g, 5, none⟩ = some (.int .i64 r) ∧ w.cell? ⟨g, 6, none⟩ = some (.int .i64 a) :=
  ⟨h.cell 0, h.cell 1, h.cell 2, h.cell 3, h.cell 4, h.cell 5, h.cell 6⟩

/-- The three methods, as cells. -/
abbrev threeV : Array Value := #[.func (.func 67) #[] #[], .func (.func 68) #[] #[], .func (.func 69) #[] #[]]

set_option maxHeartbeats 400000 in
theorem objThree (w : World) : Calls Try.prog 66 #[] w fun e w' => e = .returned (.slice (some ⟨w.heap.size, 0, none⟩) 3 3) ∧ w.alloc (.cells threeV 105) = w' := by
  go_enter Try.func66, Try.ntmps66
  go_wp2
  go_ret
  exact ⟨rfl, rfl⟩

set_option maxHeartbeats 1000000 in
theorem ofStore (vs : Nat → Sl) (s : St) (c r a : Int) (w : World) (hx : HasS w (stV vs) s) (hf : Fit s) :
    Calls Try.prog 67 #[.agg (cells7 vs c r a)] w fun e w' => ∃ v', e = .returned (.tuple #[v', .int .i64 (stoS s c r a 300).2.1, .int .i64 (stoS s c r a 300).2.2]) ∧ OwnS w' w.heap.size v' (stoS s c r a 300).1 ∧ Le w w' := by
  have hl := (Le.alloc w (.cells (cells7 vs c r a) 107)).trans (Le.alloc _ (.cells (cells4 fun _ => slZ) 44))
  have hb1 := (Box.new w (cells7 vs c r a) 107).le (Le.alloc _ (.cells (cells4 fun _ => slZ) 44))
  have hb2 := Box.new (w.alloc (.cells (cells7 vs c r a) 107)) (cells4 fun _ => slZ) 44
  simp only [World.size_alloc] at hb2
  have hap := storeApply (stV vs) s c r a _ (hx.le hl) hf
  generalize stoS s c r a 300 = S1 at hap ⊢
  go_enter Try.func67, Try.ntmps67
  go_wp2_with fail
  refine hap.mono ?_
  rintro e w1 ⟨_, rfl, ⟨q, rfl, o1⟩, l1⟩
  replace o1 := fun i hi => (o1 i hi).base (base' := w.heap.size) hl.size
  obtain ⟨z0, z1, z2, z3, f0, f1, f2, f3⟩ := (hb2.le l1).st
  go_wp2_with fail
  refine bodyPost_ret (v := .tuple #[stV q, .int .i64 S1.2.1, .int .i64 S1.2.2]) (by simp [results, Try.results67, go_sem, z0, z1, z2, z3]) rfl ⟨_, rfl, ⟨q, rfl, fun i hi => ?_⟩, ?_⟩
  · exact (o1 i hi).set4 (hb2.le l1) (by decide) _ _ _ _
  · exact (hl.trans l1).set4 (by omega) _ _ _ _

set_option maxHeartbeats 1000000 in
theorem ofFds (vs : Nat → Sl) (s : St) (c r a : Int) (w : World) (hx : HasS w (stV vs) s) (hf : Fit s) :
    Calls Try.prog 68 #[.agg (cells7 vs c r a)] w fun e w' => ∃ v', e = .returned (.tuple #[v', .int .i64 (fdsS s c r a 400).2.1, .int .i64 (fdsS s c r a 400).2.2]) ∧ OwnS w' w.heap.size v' (fdsS s c r a 400).1 ∧ Le w w' := by
  have hl := (Le.alloc w (.cells (cells7 vs c r a) 107)).trans (Le.alloc _ (.cells (cells4 fun _ => slZ) 44))
  have hb1 := (Box.new w (cells7 vs c r a) 107).le (Le.alloc _ (.cells (cells4 fun _ => slZ) 44))
  have hb2 := Box.new (w.alloc (.cells (cells7 vs c r a) 107)) (cells4 fun _ => slZ) 44
  simp only [World.size_alloc] at hb2
  have hap := fdsApply (stV vs) s c r a _ (hx.le hl) hf
  generalize fdsS s c r a 400 = S1 at hap ⊢
  go_enter Try.func68, Try.ntmps68
  go_wp2_with fail
  refine hap.mono ?_
  rintro e w1 ⟨_, rfl, ⟨q, rfl, o1⟩, l1⟩
  replace o1 := fun i hi => (o1 i hi).base (base' := w.heap.size) hl.size
  obtain ⟨z0, z1, z2, z3, f0, f1, f2, f3⟩ := (hb2.le l1).st
  go_wp2_with fail
  refine bodyPost_ret (v := .tuple #[stV q, .int .i64 S1.2.1, .int .i64 S1.2.2]) (by simp [results, Try.results68, go_sem, z0, z1, z2, z3]) rfl ⟨_, rfl, ⟨q, rfl, fun i hi => ?_⟩, ?_⟩
  · exact (o1 i hi).set4 (hb2.le l1) (by decide) _ _ _ _
  · exact (hl.trans l1).set4 (by omega) _ _ _ _

set_option maxHeartbeats 1000000 in
theorem ofQueue (vs : Nat → Sl) (s : St) (c r a : Int) (w : World) (hx : HasS w (stV vs) s) (hf : Fit s) :
    Calls Try.prog 69 #[.agg (cells7 vs c r a)] w fun e w' => ∃ v', e = .returned (.tuple #[v', .int .i64 (queS s c r a 500).2.1, .int .i64 (queS s c r a 500).2.2]) ∧ OwnS w' w.heap.size v' (queS s c r a 500).1 ∧ Le w w' := by
  have hl := (Le.alloc w (.cells (cells7 vs c r a) 107)).trans (Le.alloc _ (.cells (cells4 fun _ => slZ) 44))
  have hb1 := (Box.new w (cells7 vs c r a) 107).le (Le.alloc _ (.cells (cells4 fun _ => slZ) 44))
  have hb2 := Box.new (w.alloc (.cells (cells7 vs c r a) 107)) (cells4 fun _ => slZ) 44
  simp only [World.size_alloc] at hb2
  have hap := queApply (stV vs) s c r a _ (hx.le hl) hf
  generalize queS s c r a 500 = S1 at hap ⊢
  go_enter Try.func69, Try.ntmps69
  go_wp2_with fail
  refine hap.mono ?_
  rintro e w1 ⟨_, rfl, ⟨q, rfl, o1⟩, l1⟩
  replace o1 := fun i hi => (o1 i hi).base (base' := w.heap.size) hl.size
  obtain ⟨z0, z1, z2, z3, f0, f1, f2, f3⟩ := (hb2.le l1).st
  go_wp2_with fail
  refine bodyPost_ret (v := .tuple #[stV q, .int .i64 S1.2.1, .int .i64 S1.2.2]) (by simp [results, Try.results69, go_sem, z0, z1, z2, z3]) rfl ⟨_, rfl, ⟨q, rfl, fun i hi => ?_⟩, ?_⟩
  · exact (o1 i hi).set4 (hb2.le l1) (by decide) _ _ _ _
  · exact (hl.trans l1).set4 (by omega) _ _ _ _

set_option maxHeartbeats 4000000 in
theorem objApply0 (v : Value) (s : St) (c r a : Int) (w : World) (hx : HasS w v s) (hf : Fit s) :
    Calls Try.prog 61 #[.int .i64 0, v, opV c r a] w fun e w' => ∃ v', e = .returned (.tuple #[v', .int .i64 (objS 0 s c r a 600).2.1, .int .i64 (objS 0 s c r a 600).2.2]) ∧ OwnS w' w.heap.size v' (objS 0 s c r a 600).1 ∧ Le w w' := by
  have hx0 := hx
  obtain ⟨vs, rfl, hr⟩ := hx
  have hl := ((Le.alloc w (.cells (cells4 vs) 44)).trans (Le.alloc _ (.cells #[.int .i64 c, .int .i64 r, .int .i64 a] 50))).trans (Le.alloc _ (.cells (cells4 fun _ => slZ) 44))
  have hb1 := ((Box.new w (cells4 vs) 44).le (Le.alloc _ (.cells #[.int .i64 c, .int .i64 r, .int .i64 a] 50))).le (Le.alloc _ (.cells (cells4 fun _ => slZ) 44))
  have hb2 := (Box.new (w.alloc (.cells (cells4 vs) 44)) #[.int .i64 c, .int .i64 r, .int .i64 a] 50).le (Le.alloc _ (.cells (cells4 fun _ => slZ) 44))
  have hb3 := Box.new ((w.alloc (.cells (cells4 vs) 44)).alloc (.cells #[.int .i64 c, .int .i64 r, .int .i64 a] 50)) (cells4 fun _ => slZ) 44
  simp only [World.size_alloc] at hb1 hb2 hb3
  have hA := Le.alloc (((w.alloc (.cells (cells4 vs) 44)).alloc (.cells #[.int .i64 c, .int .i64 r, .int .i64 a] 50)).alloc (.cells (cells4 fun _ => slZ) 44)) (.cells threeV 105)
  have hb4 := Box.new (((w.alloc (.cells (cells4 vs) 44)).alloc (.cells #[.int .i64 c, .int .i64 r, .int .i64 a] 50)).alloc (.cells (cells4 fun _ => slZ) 44)) threeV 105
  simp only [World.size_alloc] at hb4
  replace hb1 := hb1.le hA
  replace hb2 := hb2.le hA
  replace hb3 := hb3.le hA
  replace hl := hl.trans hA
  clear hA
  have HT : Hid ((objS 0 s c r a 600 = (St.zero, 0, 600) ∧ ¬ (stoS s c r a 300).2.2 = 0) ∨ (objS 0 s c r a 600 = ((stoS s c r a 300).1, (stoS s c r a 300).2.1, 0) ∧ (stoS s c r a 300).2.2 = 0)) := by
    cases hmo : s.all rowMay1 && opMay c r a
    · exact .inl ⟨stoS_no hmo, by rw [stoS_no hmo]; decide⟩
    · exact .inr ⟨(stoS_err hmo).trans (by rw [stoS_err (er := 300) hmo]), by rw [stoS_err (er := 300) hmo]⟩
  have hap := fun (w' : World) (h : Le w w') => ofStore vs s c r a w' (hx0.le h) hf
  generalize objS 0 s c r a 600 = T1 at HT ⊢
  generalize stoS s c r a 300 = S1 at HT hap
  clear hx0 hr
  go_enter Try.func61, Try.ntmps61
  go_upto_region 4 with (go_at_call 66; refine (objThree _).mono ?_; rintro e _ ⟨rfl, rfl⟩)
  generalize hW : (((w.alloc (.cells (cells4 vs) 44)).alloc (.cells #[.int .i64 c, .int .i64 r, .int .i64 a] 50)).alloc (.cells (cells4 fun _ => slZ) 44)).alloc (.cells threeV 105) = W at hb1 hb2 hb3 hb4 hl ⊢
  clear hW
  obtain ⟨x0, x1, x2, x3, _, _, _, _⟩ := hb1.st
  obtain ⟨y0, y1, y2, _, _, _⟩ := hb2.op
  have u0 : W.cell? ⟨w.heap.size + 1 + 1 + 1, 0, none⟩ = some (.func (.func 67) #[] #[]) := hb4.cell 0
  have hapA := hap W.drew (hl.trans (Le.drew _))
  have hapB := hap (W.alloc (.cells (cells4 fun _ => slZ) 44)).drew (hl.trans ((Le.alloc _ _).trans (Le.drew _)))
  clear hap
  have n1 : ¬ W.heap.size = w.heap.size := by have := hb1.lt; omega
  have n2 : ¬ W.heap.size = w.heap.size + 1 := by have := hb2.lt; omega
  have n3 : ¬ W.heap.size = w.heap.size + 1 + 1 + 1 := by have := hb4.lt; omega
  go_region_held3 (fun w' => w'.cell? ⟨w.heap.size, 0, none⟩ = some (slV (vs 0)) ∧ w'.cell? ⟨w.heap.size, 1, none⟩ = some (slV (vs 1)) ∧ w'.cell? ⟨w.heap.size, 2, none⟩ = some (slV (vs 2)) ∧ w'.cell? ⟨w.heap.size, 3, none⟩ = some (slV (vs 3)) ∧ w'.cell? ⟨w.heap.size + 1, 0, none⟩ = some (.int .i64 c) ∧ w'.cell? ⟨w.heap.size + 1, 1, none⟩ = some (.int .i64 r) ∧ w'.cell? ⟨w.heap.size + 1, 2, none⟩ = some (.int .i64 a) ∧ w'.cell? ⟨w.heap.size + 1 + 1 + 1, 0, none⟩ = some (.func (.func 67) #[] #[])) (go_keep) (first
    | (go_at_call 67; refine hapA.mono ?_; rintro e w2 ⟨_, rfl, ⟨q2, rfl, ho2⟩, l2⟩; replace l2 := (Le.drew W).trans l2; obtain ⟨x0', x1', x2', x3', _, _, _, _⟩ := (hb1.le l2).st; obtain ⟨y0', y1', y2', _, _, _⟩ := (hb2.le l2).op; have u0' : w2.cell? ⟨w.heap.size + 1 + 1 + 1, 0, none⟩ = some (.func (.func 67) #[] #[]) := (hb4.le l2).cell 0; have m1 : ¬ w2.heap.size = w.heap.size := (by have := (hb1.le l2).lt; omega); have m2 : ¬ w2.heap.size = w.heap.size + 1 := (by have := (hb2.le l2).lt; omega); have m3 : ¬ w2.heap.size = w.heap.size + 1 + 1 + 1 := (by have := (hb4.le l2).lt; omega))
    | (go_at_call 67; refine hapB.mono ?_; rintro e w2 ⟨_, rfl, ⟨q2, rfl, ho2⟩, l2⟩; have hbz := ((Box.new W (cells4 fun _ => slZ) 44).le (Le.drew _)).le l2; replace l2 := ((Le.alloc W (.cells (cells4 fun _ => slZ) 44)).trans (Le.drew _)).trans l2; obtain ⟨x0', x1', x2', x3', _, _, _, _⟩ := (hb1.le l2).st; obtain ⟨y0', y1', y2', _, _, _⟩ := (hb2.le l2).op; have u0' : w2.cell? ⟨w.heap.size + 1 + 1 + 1, 0, none⟩ = some (.func (.func 67) #[] #[]) := (hb4.le l2).cell 0; obtain ⟨v0, v1, v2, v3, g0, g1, g2, g3⟩ := hbz.st))
  all_goals clear hapA hapB x0 x1 x2 x3 y0 y1 y2 u0 x0' x1' x2' x3' y0' y1' y2' u0'
  · have ht := Box.new w2 (cells4 q2) 44
    have hz := (hb3.le l2).le (Le.alloc w2 (.cells (cells4 q2) 44))
    replace ho2 := fun i hi => ((ho2 i hi).base (base' := w.heap.size) hl.size).le (Le.alloc w2 (.cells (cells4 q2) 44))
    replace hl := (hl.trans l2).trans (Le.alloc w2 (.cells (cells4 q2) 44))
    have n9 : ¬ w.heap.size + 1 + 1 = w2.heap.size := by have := (hb3.le l2).lt; omega
    generalize hW : w2.alloc (.cells (cells4 q2) 44) = W2 at ht hz ho2 hl ⊢
    generalize w2.heap.size = g9 at n9 ht ⊢
    clear hW l2 m1 m2 m3 n1 n2 n3 hb1 hb2 hb3 hb4
    obtain ⟨z0, z1, z2, z3, f0, f1, f2, f3⟩ := hz.st
    obtain ⟨t0, t1, t2, t3, _, _, _, _⟩ := ht.st
    have n0 := hz.lt
    rcases HT.out with ⟨rfl, h0⟩ | ⟨rfl, h0⟩
    · clear HT
      go_wp2_with fail
      refine bodyPost_ret (v := .tuple #[stZ, .int .i64 0, .int .i64 600]) (by simp [results, Try.results61, go_sem, z0, z1, z2, z3]) rfl ⟨_, rfl, OwnS.zero _ _, ?_⟩
      exact hl.set4 (by omega) _ _ _ _
    · clear HT
      go_wp2_with fail
      refine bodyPost_ret (v := .tuple #[stV q2, .int .i64 S1.2.1, .int .i64 0]) (by simp [results, Try.results61, go_sem, z0, z1, z2, z3]) rfl ⟨_, rfl, ⟨q2, rfl, fun i hi => ?_⟩, ?_⟩
      · exact (ho2 i hi).set4 hz (by decide) _ _ _ _
      · exact hl.set4 (by omega) _ _ _ _
  · have g : ∀ i, i < 4 → Own ((((w2.setCell ⟨W.heap.size, 0, none⟩ (slV (q2 0))).setCell ⟨W.heap.size, 1, none⟩ (slV (q2 1))).setCell ⟨W.heap.size, 2, none⟩ (slV (q2 2))).setCell ⟨W.heap.size, 3, none⟩ (slV (q2 3))) w.heap.size (slV (q2 i)) (S1.1.at i) :=
      fun i hi => ((ho2 i hi).base (base' := w.heap.size) (hl.trans ((Le.alloc W _).trans (Le.drew _))).size).set4 hbz (by decide) _ _ _ _
    have n9 : ¬ w.heap.size + 1 + 1 = W.heap.size := by have := hb3.lt; omega
    have ht := hbz.all4 (us := q2)
    have hz := (hb3.le l2).other4 n9 (slV (q2 0)) (slV (q2 1)) (slV (q2 2)) (slV (q2 3))
    have hs := hl.size
    replace hl := (hl.trans l2).set4 hs (slV (q2 0)) (slV (q2 1)) (slV (q2 2)) (slV (q2 3))
    clear ho2
    have ho2 := g
    clear g
    generalize hW : (((w2.setCell ⟨W.heap.size, 0, none⟩ (slV (q2 0))).setCell ⟨W.heap.size, 1, none⟩ (slV (q2 1))).setCell ⟨W.heap.size, 2, none⟩ (slV (q2 2))).setCell ⟨W.heap.size, 3, none⟩ (slV (q2 3)) = W2 at ht hz ho2 hl ⊢
    clear hW l2 n1 n2 n3 hb1 hb2 hb3 hb4 hbz v0 v1 v2 v3 g0 g1 g2 g3 hs
    generalize W.heap.size = g9 at n9 ht ⊢
    obtain ⟨z0, z1, z2, z3, f0, f1, f2, f3⟩ := hz.st
    obtain ⟨t0, t1, t2, t3, _, _, _, _⟩ := ht.st
    have n0 := hz.lt
    rcases HT.out with ⟨rfl, h0⟩ | ⟨rfl, h0⟩
    · clear HT
      go_wp2_with fail
      refine bodyPost_ret (v := .tuple #[stZ, .int .i64 0, .int .i64 600]) (by simp [results, Try.results61, go_sem, z0, z1, z2, z3]) rfl ⟨_, rfl, OwnS.zero _ _, ?_⟩
      exact hl.set4 (by omega) _ _ _ _
    · clear HT
      go_wp2_with fail
      refine bodyPost_ret (v := .tuple #[stV q2, .int .i64 S1.2.1, .int .i64 0]) (by simp [results, Try.results61, go_sem, z0, z1, z2, z3]) rfl ⟨_, rfl, ⟨q2, rfl, fun i hi => ?_⟩, ?_⟩
      · exact (ho2 i hi).set4 hz (by decide) _ _ _ _
      · exact hl.set4 (by omega) _ _ _ _

set_option maxHeartbeats 4000000 in
theorem objApply1 (v : Value) (s : St) (c r a : Int) (w : World) (hx : HasS w v s) (hf : Fit s) :
    Calls Try.prog 61 #[.int .i64 1, v, opV c r a] w fun e w' => ∃ v', e = .returned (.tuple #[v', .int .i64 (objS 1 s c r a 600).2.1, .int .i64 (objS 1 s c r a 600).2.2]) ∧ OwnS w' w.heap.size v' (objS 1 s c r a 600).1 ∧ Le w w' := by
  have hx0 := hx
  obtain ⟨vs, rfl, hr⟩ := hx
  have hl := ((Le.alloc w (.cells (cells4 vs) 44)).trans (Le.alloc _ (.cells #[.int .i64 c, .int .i64 r, .int .i64 a] 50))).trans (Le.alloc _ (.cells (cells4 fun _ => slZ) 44))
  have hb1 := ((Box.new w (cells4 vs) 44).le (Le.alloc _ (.cells #[.int .i64 c, .int .i64 r, .int .i64 a] 50))).le (Le.alloc _ (.cells (cells4 fun _ => slZ) 44))
  have hb2 := (Box.new (w.alloc (.cells (cells4 vs) 44)) #[.int .i64 c, .int .i64 r, .int .i64 a] 50).le (Le.alloc _ (.cells (cells4 fun _ => slZ) 44))
  have hb3 := Box.new ((w.alloc (.cells (cells4 vs) 44)).alloc (.cells #[.int .i64 c, .int .i64 r, .int .i64 a] 50)) (cells4 fun _ => slZ) 44
  simp only [World.size_alloc] at hb1 hb2 hb3
  have hA := Le.alloc (((w.alloc (.cells (cells4 vs) 44)).alloc (.cells #[.int .i64 c, .int .i64 r, .int .i64 a] 50)).alloc (.cells (cells4 fun _ => slZ) 44)) (.cells threeV 105)
  have hb4 := Box.new (((w.alloc (.cells (cells4 vs) 44)).alloc (.cells #[.int .i64 c, .int .i64 r, .int .i64 a] 50)).alloc (.cells (cells4 fun _ => slZ) 44)) threeV 105
  simp only [World.size_alloc] at hb4
  replace hb1 := hb1.le hA
  replace hb2 := hb2.le hA
  replace hb3 := hb3.le hA
  replace hl := hl.trans hA
  clear hA
  have HT : Hid ((objS 1 s c r a 600 = (St.zero, 0, 600) ∧ ¬ (fdsS s c r a 400).2.2 = 0) ∨ (objS 1 s c r a 600 = ((fdsS s c r a 400).1, (fdsS s c r a 400).2.1, 0) ∧ (fdsS s c r a 400).2.2 = 0)) := by
    cases hmo : s.all rowMay2 && opMay c r a
    · exact .inl ⟨fdsS_no hmo, by rw [fdsS_no hmo]; decide⟩
    · exact .inr ⟨(fdsS_err hmo).trans (by rw [fdsS_err (er := 400) hmo]), by rw [fdsS_err (er := 400) hmo]⟩
  have hap := fun (w' : World) (h : Le w w') => ofFds vs s c r a w' (hx0.le h) hf
  generalize objS 1 s c r a 600 = T1 at HT ⊢
  generalize fdsS s c r a 400 = S1 at HT hap
  clear hx0 hr
  go_enter Try.func61, Try.ntmps61
  go_upto_region 4 with (go_at_call 66; refine (objThree _).mono ?_; rintro e _ ⟨rfl, rfl⟩)
  generalize hW : (((w.alloc (.cells (cells4 vs) 44)).alloc (.cells #[.int .i64 c, .int .i64 r, .int .i64 a] 50)).alloc (.cells (cells4 fun _ => slZ) 44)).alloc (.cells threeV 105) = W at hb1 hb2 hb3 hb4 hl ⊢
  clear hW
  obtain ⟨x0, x1, x2, x3, _, _, _, _⟩ := hb1.st
  obtain ⟨y0, y1, y2, _, _, _⟩ := hb2.op
  have u0 : W.cell? ⟨w.heap.size + 1 + 1 + 1, 1, none⟩ = some (.func (.func 68) #[] #[]) := hb4.cell 1
  have hapA := hap W.drew (hl.trans (Le.drew _))
  have hapB := hap (W.alloc (.cells (cells4 fun _ => slZ) 44)).drew (hl.trans ((Le.alloc _ _).trans (Le.drew _)))
  clear hap
  have n1 : ¬ W.heap.size = w.heap.size := by have := hb1.lt; omega
  have n2 : ¬ W.heap.size = w.heap.size + 1 := by have := hb2.lt; omega
  have n3 : ¬ W.heap.size = w.heap.size + 1 + 1 + 1 := by have := hb4.lt; omega
  go_region_held3 (fun w' => w'.cell? ⟨w.heap.size, 0, none⟩ = some (slV (vs 0)) ∧ w'.cell? ⟨w.heap.size, 1, none⟩ = some (slV (vs 1)) ∧ w'.cell? ⟨w.heap.size, 2, none⟩ = some (slV (vs 2)) ∧ w'.cell? ⟨w.heap.size, 3, none⟩ = some (slV (vs 3)) ∧ w'.cell? ⟨w.heap.size + 1, 0, none⟩ = some (.int .i64 c) ∧ w'.cell? ⟨w.heap.size + 1, 1, none⟩ = some (.int .i64 r) ∧ w'.cell? ⟨w.heap.size + 1, 2, none⟩ = some (.int .i64 a) ∧ w'.cell? ⟨w.heap.size + 1 + 1 + 1, 1, none⟩ = some (.func (.func 68) #[] #[])) (go_keep) (first
    | (go_at_call 68; refine hapA.mono ?_; rintro e w2 ⟨_, rfl, ⟨q2, rfl, ho2⟩, l2⟩; replace l2 := (Le.drew W).trans l2; obtain ⟨x0', x1', x2', x3', _, _, _, _⟩ := (hb1.le l2).st; obtain ⟨y0', y1', y2', _, _, _⟩ := (hb2.le l2).op; have u0' : w2.cell? ⟨w.heap.size + 1 + 1 + 1, 1, none⟩ = some (.func (.func 68) #[] #[]) := (hb4.le l2).cell 1; have m1 : ¬ w2.heap.size = w.heap.size := (by have := (hb1.le l2).lt; omega); have m2 : ¬ w2.heap.size = w.heap.size + 1 := (by have := (hb2.le l2).lt; omega); have m3 : ¬ w2.heap.size = w.heap.size + 1 + 1 + 1 := (by have := (hb4.le l2).lt; omega))
    | (go_at_call 68; refine hapB.mono ?_; rintro e w2 ⟨_, rfl, ⟨q2, rfl, ho2⟩, l2⟩; have hbz := ((Box.new W (cells4 fun _ => slZ) 44).le (Le.drew _)).le l2; replace l2 := ((Le.alloc W (.cells (cells4 fun _ => slZ) 44)).trans (Le.drew _)).trans l2; obtain ⟨x0', x1', x2', x3', _, _, _, _⟩ := (hb1.le l2).st; obtain ⟨y0', y1', y2', _, _, _⟩ := (hb2.le l2).op; have u0' : w2.cell? ⟨w.heap.size + 1 + 1 + 1, 1, none⟩ = some (.func (.func 68) #[] #[]) := (hb4.le l2).cell 1; obtain ⟨v0, v1, v2, v3, g0, g1, g2, g3⟩ := hbz.st))
  all_goals clear hapA hapB x0 x1 x2 x3 y0 y1 y2 u0 x0' x1' x2' x3' y0' y1' y2' u0'
  · have ht := Box.new w2 (cells4 q2) 44
    have hz := (hb3.le l2).le (Le.alloc w2 (.cells (cells4 q2) 44))
    replace ho2 := fun i hi => ((ho2 i hi).base (base' := w.heap.size) hl.size).le (Le.alloc w2 (.cells (cells4 q2) 44))
    replace hl := (hl.trans l2).trans (Le.alloc w2 (.cells (cells4 q2) 44))
    have n9 : ¬ w.heap.size + 1 + 1 = w2.heap.size := by have := (hb3.le l2).lt; omega
    generalize hW : w2.alloc (.cells (cells4 q2) 44) = W2 at ht hz ho2 hl ⊢
    generalize w2.heap.size = g9 at n9 ht ⊢
    clear hW l2 m1 m2 m3 n1 n2 n3 hb1 hb2 hb3 hb4
    obtain ⟨z0, z1, z2, z3, f0, f1, f2, f3⟩ := hz.st
    obtain ⟨t0, t1, t2, t3, _, _, _, _⟩ := ht.st
    have n0 := hz.lt
    rcases HT.out with ⟨rfl, h0⟩ | ⟨rfl, h0⟩
    · clear HT
      go_wp2_with fail
      refine bodyPost_ret (v := .tuple #[stZ, .int .i64 0, .int .i64 600]) (by simp [results, Try.results61, go_sem, z0, z1, z2, z3]) rfl ⟨_, rfl, OwnS.zero _ _, ?_⟩
      exact hl.set4 (by omega) _ _ _ _
    · clear HT
      go_wp2_with fail
      refine bodyPost_ret (v := .tuple #[stV q2, .int .i64 S1.2.1, .int .i64 0]) (by simp [results, Try.results61, go_sem, z0, z1, z2, z3]) rfl ⟨_, rfl, ⟨q2, rfl, fun i hi => ?_⟩, ?_⟩
      · exact (ho2 i hi).set4 hz (by decide) _ _ _ _
      · exact hl.set4 (by omega) _ _ _ _
  · have g : ∀ i, i < 4 → Own ((((w2.setCell ⟨W.heap.size, 0, none⟩ (slV (q2 0))).setCell ⟨W.heap.size, 1, none⟩ (slV (q2 1))).setCell ⟨W.heap.size, 2, none⟩ (slV (q2 2))).setCell ⟨W.heap.size, 3, none⟩ (slV (q2 3))) w.heap.size (slV (q2 i)) (S1.1.at i) :=
      fun i hi => ((ho2 i hi).base (base' := w.heap.size) (hl.trans ((Le.alloc W _).trans (Le.drew _))).size).set4 hbz (by decide) _ _ _ _
    have n9 : ¬ w.heap.size + 1 + 1 = W.heap.size := by have := hb3.lt; omega
    have ht := hbz.all4 (us := q2)
    have hz := (hb3.le l2).other4 n9 (slV (q2 0)) (slV (q2 1)) (slV (q2 2)) (slV (q2 3))
    have hs := hl.size
    replace hl := (hl.trans l2).set4 hs (slV (q2 0)) (slV (q2 1)) (slV (q2 2)) (slV (q2 3))
    clear ho2
    have ho2 := g
    clear g
    generalize hW : (((w2.setCell ⟨W.heap.size, 0, none⟩ (slV (q2 0))).setCell ⟨W.heap.size, 1, none⟩ (slV (q2 1))).setCell ⟨W.heap.size, 2, none⟩ (slV (q2 2))).setCell ⟨W.heap.size, 3, none⟩ (slV (q2 3)) = W2 at ht hz ho2 hl ⊢
    clear hW l2 n1 n2 n3 hb1 hb2 hb3 hb4 hbz v0 v1 v2 v3 g0 g1 g2 g3 hs
    generalize W.heap.size = g9 at n9 ht ⊢
    obtain ⟨z0, z1, z2, z3, f0, f1, f2, f3⟩ := hz.st
    obtain ⟨t0, t1, t2, t3, _, _, _, _⟩ := ht.st
    have n0 := hz.lt
    rcases HT.out with ⟨rfl, h0⟩ | ⟨rfl, h0⟩
    · clear HT
      go_wp2_with fail
      refine bodyPost_ret (v := .tuple #[stZ, .int .i64 0, .int .i64 600]) (by simp [results, Try.results61, go_sem, z0, z1, z2, z3]) rfl ⟨_, rfl, OwnS.zero _ _, ?_⟩
      exact hl.set4 (by omega) _ _ _ _
    · clear HT
      go_wp2_with fail
      refine bodyPost_ret (v := .tuple #[stV q2, .int .i64 S1.2.1, .int .i64 0]) (by simp [results, Try.results61, go_sem, z0, z1, z2, z3]) rfl ⟨_, rfl, ⟨q2, rfl, fun i hi => ?_⟩, ?_⟩
      · exact (ho2 i hi).set4 hz (by decide) _ _ _ _
      · exact hl.set4 (by omega) _ _ _ _

set_option maxHeartbeats 4000000 in
theorem objApply2 (v : Value) (s : St) (c r a : Int) (w : World) (hx : HasS w v s) (hf : Fit s) :
    Calls Try.prog 61 #[.int .i64 2, v, opV c r a] w fun e w' => ∃ v', e = .returned (.tuple #[v', .int .i64 (objS 2 s c r a 600).2.1, .int .i64 (objS 2 s c r a 600).2.2]) ∧ OwnS w' w.heap.size v' (objS 2 s c r a 600).1 ∧ Le w w' := by
  have hx0 := hx
  obtain ⟨vs, rfl, hr⟩ := hx
  have hl := ((Le.alloc w (.cells (cells4 vs) 44)).trans (Le.alloc _ (.cells #[.int .i64 c, .int .i64 r, .int .i64 a] 50))).trans (Le.alloc _ (.cells (cells4 fun _ => slZ) 44))
  have hb1 := ((Box.new w (cells4 vs) 44).le (Le.alloc _ (.cells #[.int .i64 c, .int .i64 r, .int .i64 a] 50))).le (Le.alloc _ (.cells (cells4 fun _ => slZ) 44))
  have hb2 := (Box.new (w.alloc (.cells (cells4 vs) 44)) #[.int .i64 c, .int .i64 r, .int .i64 a] 50).le (Le.alloc _ (.cells (cells4 fun _ => slZ) 44))
  have hb3 := Box.new ((w.alloc (.cells (cells4 vs) 44)).alloc (.cells #[.int .i64 c, .int .i64 r, .int .i64 a] 50)) (cells4 fun _ => slZ) 44
  simp only [World.size_alloc] at hb1 hb2 hb3
  have hA := Le.alloc (((w.alloc (.cells (cells4 vs) 44)).alloc (.cells #[.int .i64 c, .int .i64 r, .int .i64 a] 50)).alloc (.cells (cells4 fun _ => slZ) 44)) (.cells threeV 105)
  have hb4 := Box.new (((w.alloc (.cells (cells4 vs) 44)).alloc (.cells #[.int .i64 c, .int .i64 r, .int .i64 a] 50)).alloc (.cells (cells4 fun _ => slZ) 44)) threeV 105
  simp only [World.size_alloc] at hb4
  replace hb1 := hb1.le hA
  replace hb2 := hb2.le hA
  replace hb3 := hb3.le hA
  replace hl := hl.trans hA
  clear hA
  have HT : Hid ((objS 2 s c r a 600 = (St.zero, 0, 600) ∧ ¬ (queS s c r a 500).2.2 = 0) ∨ (objS 2 s c r a 600 = ((queS s c r a 500).1, (queS s c r a 500).2.1, 0) ∧ (queS s c r a 500).2.2 = 0)) := by
    cases hmo : s.all rowMay3 && opMay c r a
    · exact .inl ⟨queS_no hmo, by rw [queS_no hmo]; decide⟩
    · exact .inr ⟨(queS_err hmo).trans (by rw [queS_err (er := 500) hmo]), by rw [queS_err (er := 500) hmo]⟩
  have hap := fun (w' : World) (h : Le w w') => ofQueue vs s c r a w' (hx0.le h) hf
  generalize objS 2 s c r a 600 = T1 at HT ⊢
  generalize queS s c r a 500 = S1 at HT hap
  clear hx0 hr
  go_enter Try.func61, Try.ntmps61
  go_upto_region 4 with (go_at_call 66; refine (objThree _).mono ?_; rintro e _ ⟨rfl, rfl⟩)
  generalize hW : (((w.alloc (.cells (cells4 vs) 44)).alloc (.cells #[.int .i64 c, .int .i64 r, .int .i64 a] 50)).alloc (.cells (cells4 fun _ => slZ) 44)).alloc (.cells threeV 105) = W at hb1 hb2 hb3 hb4 hl ⊢
  clear hW
  obtain ⟨x0, x1, x2, x3, _, _, _, _⟩ := hb1.st
  obtain ⟨y0, y1, y2, _, _, _⟩ := hb2.op
  have u0 : W.cell? ⟨w.heap.size + 1 + 1 + 1, 2, none⟩ = some (.func (.func 69) #[] #[]) := hb4.cell 2
  have hapA := hap W.drew (hl.trans (Le.drew _))
  have hapB := hap (W.alloc (.cells (cells4 fun _ => slZ) 44)).drew (hl.trans ((Le.alloc _ _).trans (Le.drew _)))
  clear hap
  have n1 : ¬ W.heap.size = w.heap.size := by have := hb1.lt; omega
  have n2 : ¬ W.heap.size = w.heap.size + 1 := by have := hb2.lt; omega
  have n3 : ¬ W.heap.size = w.heap.size + 1 + 1 + 1 := by have := hb4.lt; omega
  go_region_held3 (fun w' => w'.cell? ⟨w.heap.size, 0, none⟩ = some (slV (vs 0)) ∧ w'.cell? ⟨w.heap.size, 1, none⟩ = some (slV (vs 1)) ∧ w'.cell? ⟨w.heap.size, 2, none⟩ = some (slV (vs 2)) ∧ w'.cell? ⟨w.heap.size, 3, none⟩ = some (slV (vs 3)) ∧ w'.cell? ⟨w.heap.size + 1, 0, none⟩ = some (.int .i64 c) ∧ w'.cell? ⟨w.heap.size + 1, 1, none⟩ = some (.int .i64 r) ∧ w'.cell? ⟨w.heap.size + 1, 2, none⟩ = some (.int .i64 a) ∧ w'.cell? ⟨w.heap.size + 1 + 1 + 1, 2, none⟩ = some (.func (.func 69) #[] #[])) (go_keep) (first
    | (go_at_call 69; refine hapA.mono ?_; rintro e w2 ⟨_, rfl, ⟨q2, rfl, ho2⟩, l2⟩; replace l2 := (Le.drew W).trans l2; obtain ⟨x0', x1', x2', x3', _, _, _, _⟩ := (hb1.le l2).st; obtain ⟨y0', y1', y2', _, _, _⟩ := (hb2.le l2).op; have u0' : w2.cell? ⟨w.heap.size + 1 + 1 + 1, 2, none⟩ = some (.func (.func 69) #[] #[]) := (hb4.le l2).cell 2; have m1 : ¬ w2.heap.size = w.heap.size := (by have := (hb1.le l2).lt; omega); have m2 : ¬ w2.heap.size = w.heap.size + 1 := (by have := (hb2.le l2).lt; omega); have m3 : ¬ w2.heap.size = w.heap.size + 1 + 1 + 1 := (by have := (hb4.le l2).lt; omega))
    | (go_at_call 69; refine hapB.mono ?_; rintro e w2 ⟨_, rfl, ⟨q2, rfl, ho2⟩, l2⟩; have hbz := ((Box.new W (cells4 fun _ => slZ) 44).le (Le.drew _)).le l2; replace l2 := ((Le.alloc W (.cells (cells4 fun _ => slZ) 44)).trans (Le.drew _)).trans l2; obtain ⟨x0', x1', x2', x3', _, _, _, _⟩ := (hb1.le l2).st; obtain ⟨y0', y1', y2', _, _, _⟩ := (hb2.le l2).op; have u0' : w2.cell? ⟨w.heap.size + 1 + 1 + 1, 2, none⟩ = some (.func (.func 69) #[] #[]) := (hb4.le l2).cell 2; obtain ⟨v0, v1, v2, v3, g0, g1, g2, g3⟩ := hbz.st))
  all_goals clear hapA hapB x0 x1 x2 x3 y0 y1 y2 u0 x0' x1' x2' x3' y0' y1' y2' u0'
  · have ht := Box.new w2 (cells4 q2) 44
    have hz := (hb3.le l2).le (Le.alloc w2 (.cells (cells4 q2) 44))
    replace ho2 := fun i hi => ((ho2 i hi).base (base' := w.heap.size) hl.size).le (Le.alloc w2 (.cells (cells4 q2) 44))
    replace hl := (hl.trans l2).trans (Le.alloc w2 (.cells (cells4 q2) 44))
    have n9 : ¬ w.heap.size + 1 + 1 = w2.heap.size := by have := (hb3.le l2).lt; omega
    generalize hW : w2.alloc (.cells (cells4 q2) 44) = W2 at ht hz ho2 hl ⊢
    generalize w2.heap.size = g9 at n9 ht ⊢
    clear hW l2 m1 m2 m3 n1 n2 n3 hb1 hb2 hb3 hb4
    obtain ⟨z0, z1, z2, z3, f0, f1, f2, f3⟩ := hz.st
    obtain ⟨t0, t1, t2, t3, _, _, _, _⟩ := ht.st
    have n0 := hz.lt
    rcases HT.out with ⟨rfl, h0⟩ | ⟨rfl, h0⟩
    · clear HT
      go_wp2_with fail
      refine bodyPost_ret (v := .tuple #[stZ, .int .i64 0, .int .i64 600]) (by simp [results, Try.results61, go_sem, z0, z1, z2, z3]) rfl ⟨_, rfl, OwnS.zero _ _, ?_⟩
      exact hl.set4 (by omega) _ _ _ _
    · clear HT
      go_wp2_with fail
      refine bodyPost_ret (v := .tuple #[stV q2, .int .i64 S1.2.1, .int .i64 0]) (by simp [results, Try.results61, go_sem, z0, z1, z2, z3]) rfl ⟨_, rfl, ⟨q2, rfl, fun i hi => ?_⟩, ?_⟩
      · exact (ho2 i hi).set4 hz (by decide) _ _ _ _
      · exact hl.set4 (by omega) _ _ _ _
  · have g : ∀ i, i < 4 → Own ((((w2.setCell ⟨W.heap.size, 0, none⟩ (slV (q2 0))).setCell ⟨W.heap.size, 1, none⟩ (slV (q2 1))).setCell ⟨W.heap.size, 2, none⟩ (slV (q2 2))).setCell ⟨W.heap.size, 3, none⟩ (slV (q2 3))) w.heap.size (slV (q2 i)) (S1.1.at i) :=
      fun i hi => ((ho2 i hi).base (base' := w.heap.size) (hl.trans ((Le.alloc W _).trans (Le.drew _))).size).set4 hbz (by decide) _ _ _ _
    have n9 : ¬ w.heap.size + 1 + 1 = W.heap.size := by have := hb3.lt; omega
    have ht := hbz.all4 (us := q2)
    have hz := (hb3.le l2).other4 n9 (slV (q2 0)) (slV (q2 1)) (slV (q2 2)) (slV (q2 3))
    have hs := hl.size
    replace hl := (hl.trans l2).set4 hs (slV (q2 0)) (slV (q2 1)) (slV (q2 2)) (slV (q2 3))
    clear ho2
    have ho2 := g
    clear g
    generalize hW : (((w2.setCell ⟨W.heap.size, 0, none⟩ (slV (q2 0))).setCell ⟨W.heap.size, 1, none⟩ (slV (q2 1))).setCell ⟨W.heap.size, 2, none⟩ (slV (q2 2))).setCell ⟨W.heap.size, 3, none⟩ (slV (q2 3)) = W2 at ht hz ho2 hl ⊢
    clear hW l2 n1 n2 n3 hb1 hb2 hb3 hb4 hbz v0 v1 v2 v3 g0 g1 g2 g3 hs
    generalize W.heap.size = g9 at n9 ht ⊢
    obtain ⟨z0, z1, z2, z3, f0, f1, f2, f3⟩ := hz.st
    obtain ⟨t0, t1, t2, t3, _, _, _, _⟩ := ht.st
    have n0 := hz.lt
    rcases HT.out with ⟨rfl, h0⟩ | ⟨rfl, h0⟩
    · clear HT
      go_wp2_with fail
      refine bodyPost_ret (v := .tuple #[stZ, .int .i64 0, .int .i64 600]) (by simp [results, Try.results61, go_sem, z0, z1, z2, z3]) rfl ⟨_, rfl, OwnS.zero _ _, ?_⟩
      exact hl.set4 (by omega) _ _ _ _
    · clear HT
      go_wp2_with fail
      refine bodyPost_ret (v := .tuple #[stV q2, .int .i64 S1.2.1, .int .i64 0]) (by simp [results, Try.results61, go_sem, z0, z1, z2, z3]) rfl ⟨_, rfl, ⟨q2, rfl, fun i hi => ?_⟩, ?_⟩
      · exact (ho2 i hi).set4 hz (by decide) _ _ _ _
      · exact hl.set4 (by omega) _ _ _ _

end Go.Proofs.Ytibleipfablniaa

/-
  THE WALKS over package object's Apply at no object, over Apply and May in one: what each answers, for every object, state and operation. Condition: the state's rows can be copied.
-/
namespace Go.Proofs.Ytibleipfablniaa
open Go.RowKit

set_option maxHeartbeats 1000000 in
theorem objApplyOut (o : Int) (ho : o < 0 ∨ 2 < o) (v : Value) (s : St) (c r a : Int) (w : World) (hx : HasS w v s) :
    Calls Try.prog 61 #[.int .i64 o, v, opV c r a] w fun e w' => e = .returned (.tuple #[stZ, .int .i64 0, .int .i64 600]) ∧ Le w w' := by
  obtain ⟨vs, rfl, hr⟩ := hx
  have hl := ((Le.alloc w (.cells (cells4 vs) 44)).trans (Le.alloc _ (.cells #[.int .i64 c, .int .i64 r, .int .i64 a] 50))).trans (Le.alloc _ (.cells (cells4 fun _ => slZ) 44))
  have hb3 := Box.new ((w.alloc (.cells (cells4 vs) 44)).alloc (.cells #[.int .i64 c, .int .i64 r, .int .i64 a] 50)) (cells4 fun _ => slZ) 44
  simp only [World.size_alloc] at hb3
  have hA := Le.alloc (((w.alloc (.cells (cells4 vs) 44)).alloc (.cells #[.int .i64 c, .int .i64 r, .int .i64 a] 50)).alloc (.cells (cells4 fun _ => slZ) 44)) (.cells threeV 105)
  replace hb3 := hb3.le hA
  replace hl := hl.trans hA
  clear hA
  by_cases h0 : o < 0
  · go_enter Try.func61, Try.ntmps61
    go_upto_region 2 with (go_at_call 66; refine (objThree _).mono ?_; rintro e _ ⟨rfl, rfl⟩)
    generalize hW : (((w.alloc (.cells (cells4 vs) 44)).alloc (.cells #[.int .i64 c, .int .i64 r, .int .i64 a] 50)).alloc (.cells (cells4 fun _ => slZ) 44)).alloc (.cells threeV 105) = W at hb3 hl ⊢
    clear hW
    obtain ⟨z0, z1, z2, z3, f0, f1, f2, f3⟩ := hb3.st
    go_wp2_with fail
    refine bodyPost_ret (v := .tuple #[stZ, .int .i64 0, .int .i64 600]) (by simp [results, Try.results61, go_sem, z0, z1, z2, z3]) rfl ⟨rfl, ?_⟩
    exact hl.set4 (g := w.heap.size + 1 + 1) (by omega) _ _ _ _
  · have h1 : 3 ≤ o := by omega
    go_enter Try.func61, Try.ntmps61
    go_upto_region 2 with (go_at_call 66; refine (objThree _).mono ?_; rintro e _ ⟨rfl, rfl⟩)
    generalize hW : (((w.alloc (.cells (cells4 vs) 44)).alloc (.cells #[.int .i64 c, .int .i64 r, .int .i64 a] 50)).alloc (.cells (cells4 fun _ => slZ) 44)).alloc (.cells threeV 105) = W at hb3 hl ⊢
    clear hW
    obtain ⟨z0, z1, z2, z3, f0, f1, f2, f3⟩ := hb3.st
    go_wp2_with fail
    refine bodyPost_ret (v := .tuple #[stZ, .int .i64 0, .int .i64 600]) (by simp [results, Try.results61, go_sem, z0, z1, z2, z3]) rfl ⟨rfl, ?_⟩
    exact hl.set4 (g := w.heap.size + 1 + 1) (by omega) _ _ _ _

theorem objApply (o : Int) (v : Value) (s : St) (c r a : Int) (w : World) (hx : HasS w v s) (hf : Fit s) :
    Calls Try.prog 61 #[.int .i64 o, v, opV c r a] w fun e w' => ∃ v', e = .returned (.tuple #[v', .int .i64 (objS o s c r a 600).2.1, .int .i64 (objS o s c r a 600).2.2]) ∧ OwnS w' w.heap.size v' (objS o s c r a 600).1 ∧ Le w w' := by
  rcases obj_cases (o := o) with rfl | rfl | rfl | ho
  · exact objApply0 v s c r a w hx hf
  · exact objApply1 v s c r a w hx hf
  · exact objApply2 v s c r a w hx hf
  · rw [objS_out ho]
    exact (objApplyOut o ho v s c r a w hx).mono fun e w' ⟨he, hl⟩ => ⟨stZ, he, OwnS.zero _ _, hl⟩

theorem objScan (o : Int) (s : St) (er : Int) (h : er ≠ 0) : ((objS o s 3 0 0 er).2.2 == 0) = objMay o s := by
  have ho : opMay 3 0 0 = true := by decide
  cases hm : objMay o s
  · rw [objS_no (by rw [hm]; rfl)]; simpa using h
  · rw [objS_yes _ (by rw [hm, ho]; rfl)]; rfl

set_option maxHeartbeats 1000000 in
theorem objMayC (o : Int) (v : Value) (s : St) (w : World) (hx : HasS w v s) (hf : Fit s) :
    Calls Try.prog 47 #[.int .i64 o, v] w fun e w' => e = .returned (.bool (objMay o s)) ∧ Le w w' := by
  have hx0 := hx
  obtain ⟨vs, rfl, hr⟩ := hx
  have hl := Le.alloc w (.cells (cells4 vs) 44)
  have hap := objApply o (stV vs) s 3 0 0 _ (hx0.le hl) hf
  have hsc := objScan o s 600 (by decide)
  generalize objS o s 3 0 0 600 = S1 at hap hsc
  generalize objMay o s = b at hsc ⊢
  go_enter Try.func47, Try.ntmps47
  go_wp2_with fail
  refine hap.mono ?_
  rintro e w1 ⟨_, rfl, ⟨q, rfl, o1⟩, l1⟩
  go_wp2_with fail
  go_ret
  exact ⟨rfl, (hl.trans l1).trans (Le.alloc _ _)⟩

end Go.Proofs.Ytibleipfablniaa

/-
  THE WALKS over package start's looker (mayReplica, mayThread) and May: what each answers, for every machine. Condition: that its rows can be copied.
-/
namespace Go.Proofs.Ytibleipfablniaa
open Go.RowKit

set_option maxHeartbeats 4000000 in
theorem lookMayReplica (c : Cfg) (q : Sl) (v : Value) (Rs : List Rg) (P : Rp) (w : World) (hR : HasRs w (slV q) Rs) (hm : Rs.length * 48 ≤ 140737488351232) (hn : (Rs.length : Int) = c.l) (hx : HasP w v P) (hf : Fit P.s) (hf2 : P.ls.length * 8 ≤ 140737488351232) :
    Calls Try.prog 23 #[lookV c q, v] w fun e w' => e = .returned (.bool (repB c Rs P)) ∧ Le w w' := by
  obtain ⟨vs, qc, ql, rfl, i0, i1, i2⟩ := hx
  have hb := Box.new (w.alloc (.cells (cellsK c q) 63)) (cellsP vs qc ql) 46
  have hk := (Box.new w (cellsK c q) 63).le (Le.alloc _ (.cells (cellsP vs qc ql) 46))
  rw [World.size_alloc] at hb
  have hl := (Le.alloc w (.cells (cellsK c q) 63)).trans (Le.alloc _ (.cells (cellsP vs qc ql) 46))
  have m1 := objMayC c.o (stV vs) P.s _ (HasS.le ⟨vs, rfl, i0⟩ hl) hf
  have hlen := i1.len
  have m2 := fun w' (l : Le w w') (hh : P.cs.length = Rs.length) => lookMayCursors c q (slV qc) Rs P.cs w' (hR.le l) (i1.le l) hh hm
  have m3 := fun w' (l : Le w w') => exactlyNum 43 (lookV c q) (fun x => inB 0 x c.t) (fun _ _ => by kernel_rfl) (slV ql) P.ls c.l w' (fun w'' _ v x _ _ h => by rw [show v = .int .i64 x from h]; exact lookMayHolder c q x w'') (i2.le l) (by omega)
  simp only [repB]
  obtain ⟨ua, n, ucap⟩ := qc
  simp only at hlen
  have HN : Hid (n = P.cs.length) := hlen
  rw [← hlen]
  clear hlen hf hf2 i0 i1 i2
  cases h1 : objMay c.o P.s
  · rw [h1] at m1
    go_enter Try.func23, Try.ntmps23
    go_wp2_with fail
    refine m1.mono ?_
    rintro e w1 ⟨rfl, l1⟩
    go_wp2_with fail
    go_ret
    exact ⟨rfl, hl.trans l1⟩
  rw [h1] at m1
  by_cases h2 : (n : Int) = c.l
  case neg =>
    have h2b : ((n : Int) == c.l) = false := by simp [h2]
    rw [decide_eq_false h2]
    clear h2
    go_enter Try.func23, Try.ntmps23
    go_wp2_with fail
    refine m1.mono ?_
    rintro e w1 ⟨rfl, l1⟩
    obtain ⟨b0, b1, b2, b3, b4, b5⟩ := (hb.le l1).rep
    obtain ⟨k0, k1, k2, k3, k4, k5⟩ := (hk.le l1).look
    simp only [slV] at b4
    go_wp2_with fail
    go_ret
    exact ⟨rfl, hl.trans l1⟩
  have h2b : ((n : Int) == c.l) = true := by simp [h2]
  replace m2 := fun w' (l : Le w w') => m2 w' l (by have := HN.out; omega)
  rw [decide_eq_true h2]
  clear h2 hn
  cases h3 : cursOK Rs P.cs
  · simp only [h3] at m2
    go_enter Try.func23, Try.ntmps23
    go_wp2_with fail
    refine m1.mono ?_
    rintro e w1 ⟨rfl, l1⟩
    obtain ⟨b0, b1, b2, b3, b4, b5⟩ := (hb.le l1).rep
    obtain ⟨k0, k1, k2, k3, k4, k5⟩ := (hk.le l1).look
    simp only [slV] at b4
    go_wp2_with fail
    refine (m2 _ (hl.trans l1)).mono ?_
    rintro e w2 ⟨rfl, l2⟩
    go_wp2_with fail
    go_ret
    exact ⟨rfl, (hl.trans l1).trans l2⟩
  · simp only [h3] at m2
    go_enter Try.func23, Try.ntmps23
    go_wp2_with fail
    refine m1.mono ?_
    rintro e w1 ⟨rfl, l1⟩
    obtain ⟨b0, b1, b2, b3, b4, b5⟩ := (hb.le l1).rep
    obtain ⟨k0, k1, k2, k3, k4, k5⟩ := (hk.le l1).look
    simp only [slV] at b4
    go_wp2_with fail
    refine (m2 _ (hl.trans l1)).mono ?_
    rintro e w2 ⟨rfl, l2⟩
    obtain ⟨_, _, _, _, _, b5'⟩ := ((hb.le l1).le l2).rep
    obtain ⟨k0', k1', k2', k3', k4', k5'⟩ := ((hk.le l1).le l2).look
    go_wp2_with fail
    refine (m3 _ ((hl.trans l1).trans l2)).mono ?_
    rintro e w3 ⟨rfl, l3⟩
    go_wp2_with fail
    go_ret
    exact ⟨rfl, ((hl.trans l1).trans l2).trans l3⟩

set_option maxRecDepth 4000 in
set_option maxHeartbeats 8000000 in
theorem lookMayThread (c : Cfg) (q : Sl) (v : Value) (T : Th) (w : World) (hc : c.ok = true) (hx : HasT w v T) (hf : T.b.length * 8 ≤ 140737488351232) (hf2 : T.tl.length * 8 ≤ 140737488351232) :
    Calls Try.prog 25 #[lookV c q, v] w fun e w' => e = .returned (.bool (thB c T)) ∧ Le w w' := by
  obtain ⟨⟨ba, bn, bc⟩, t, rfl, i1, i2⟩ := hx
  obtain ⟨_, _, ⟨l0, l1'⟩, ⟨t0, t1⟩, _, _⟩ := Cfg.ok_cases hc
  have hb := Box.new (w.alloc (.cells (cellsK c q) 63)) (cellsT T (ba, bn, bc) t) 52
  have hk := (Box.new w (cellsK c q) 63).le (Le.alloc _ (.cells (cellsT T (ba, bn, bc) t) 52))
  rw [World.size_alloc] at hb
  have hl := (Le.alloc w (.cells (cellsK c q) 63)).trans (Le.alloc _ (.cells (cellsT T (ba, bn, bc) t) 52))
  have hlen := i1.len
  simp only at hlen
  have m1 := fun w' => startWithin T.st 0 19 w'
  have m2 := fun w' => operMay T.c T.r T.a w'
  have m3 := fun w' => startWithin T.lg 0 (c.l - 1) w'
  have m4 := fun w' => startMayPlace T.sn w'
  have m5 := fun w' (l : Le w w') => atMostNum 55 (lookV c q) (fun x => inB 0 x (c.t - 1)) (fun _ _ => by kernel_rfl) (slV (ba, bn, bc)) T.b c.t w' (fun w'' _ v x _ _ h => by rw [show v = .int .i64 x from h]; exact lookIsThread c q x w'' hc) (i1.le l) (by omega)
  have m6 := fun w' => startWithin T.pl 0 bn w'
  have m7 := fun w' (l : Le w w') => atMostNum0 53 (fun x => inB 0 x 1048576) (fun _ _ => by kernel_rfl) (slV t) T.tl c.l w' (fun w'' _ v x _ _ h => by rw [show v = .int .i64 x from h]; exact (startMayPlace x w'').mono (fun _ _ ⟨he, hw⟩ => ⟨he, by rw [hw]; exact Le.refl _⟩)) (i2.le l) (by omega)
  simp only [thB]
  rw [← hlen] at m5 ⊢
  clear hlen hf hf2 i1 i2 hc
  cases h1 : inB 0 T.st 19
  · simp only [h1] at m1
    go_enter Try.func25, Try.ntmps25
    go_wp2_with fail
    refine (m1 _).mono ?_
    rintro e _ ⟨rfl, rfl⟩
    go_wp2_with fail
    go_ret
    exact ⟨rfl, hl⟩
  simp only [h1] at m1
  cases h2 : opMay T.c T.r T.a
  · simp only [h2] at m2
    go_enter Try.func25, Try.ntmps25
    go_wp2_with fail
    refine (m1 _).mono ?_
    rintro e _ ⟨rfl, rfl⟩
    go_wp2_with fail
    refine (m2 _).mono ?_
    rintro e w1 ⟨rfl, n1⟩
    go_wp2_with fail
    go_ret
    exact ⟨rfl, hl.trans n1⟩
  simp only [h2] at m2
  cases h3 : inB 0 T.lg (c.l - 1)
  · simp only [h3] at m3
    go_enter Try.func25, Try.ntmps25
    go_wp2_with fail
    refine (m1 _).mono ?_
    rintro e _ ⟨rfl, rfl⟩
    go_wp2_with fail
    refine (m2 _).mono ?_
    rintro e w1 ⟨rfl, n1⟩
    obtain ⟨b10, b11, b12, b13, b14, b15, b16, b17, b18, b19, b110, b111⟩ := (hb.le n1).th
    obtain ⟨k10, k11, k12, k13, k14, k15⟩ := (hk.le n1).look
    simp only [slV] at b16
    go_wp2_with fail
    refine (m3 _).mono ?_
    rintro e _ ⟨rfl, rfl⟩
    go_wp2_with fail
    go_ret
    exact ⟨rfl, hl.trans n1⟩
  simp only [h3] at m3
  cases h4 : inB 0 T.sn 1048576
  · simp only [h4] at m4
    go_enter Try.func25, Try.ntmps25
    go_wp2_with fail
    refine (m1 _).mono ?_
    rintro e _ ⟨rfl, rfl⟩
    go_wp2_with fail
    refine (m2 _).mono ?_
    rintro e w1 ⟨rfl, n1⟩
    obtain ⟨b10, b11, b12, b13, b14, b15, b16, b17, b18, b19, b110, b111⟩ := (hb.le n1).th
    obtain ⟨k10, k11, k12, k13, k14, k15⟩ := (hk.le n1).look
    simp only [slV] at b16
    go_wp2_with fail
    refine (m3 _).mono ?_
    rintro e _ ⟨rfl, rfl⟩
    go_wp2_with fail
    refine (m4 _).mono ?_
    rintro e _ ⟨rfl, rfl⟩
    go_wp2_with fail
    go_ret
    exact ⟨rfl, hl.trans n1⟩
  simp only [h4] at m4
  cases h5 : (decide ((bn : Int) ≤ c.t) && T.b.all (fun x => inB 0 x (c.t - 1)))
  · simp only [h5] at m5
    go_enter Try.func25, Try.ntmps25
    go_wp2_with fail
    refine (m1 _).mono ?_
    rintro e _ ⟨rfl, rfl⟩
    go_wp2_with fail
    refine (m2 _).mono ?_
    rintro e w1 ⟨rfl, n1⟩
    obtain ⟨b10, b11, b12, b13, b14, b15, b16, b17, b18, b19, b110, b111⟩ := (hb.le n1).th
    obtain ⟨k10, k11, k12, k13, k14, k15⟩ := (hk.le n1).look
    simp only [slV] at b16
    go_wp2_with fail
    refine (m3 _).mono ?_
    rintro e _ ⟨rfl, rfl⟩
    go_wp2_with fail
    refine (m4 _).mono ?_
    rintro e _ ⟨rfl, rfl⟩
    go_wp2_with fail
    refine (m5 _ (hl.trans n1)).mono ?_
    rintro e w2 ⟨rfl, n2⟩
    go_wp2_with fail
    go_ret
    exact ⟨rfl, (hl.trans n1).trans n2⟩
  simp only [h5] at m5
  cases h6 : inB 0 T.pl bn
  · simp only [h6] at m6
    go_enter Try.func25, Try.ntmps25
    go_wp2_with fail
    refine (m1 _).mono ?_
    rintro e _ ⟨rfl, rfl⟩
    go_wp2_with fail
    refine (m2 _).mono ?_
    rintro e w1 ⟨rfl, n1⟩
    obtain ⟨b10, b11, b12, b13, b14, b15, b16, b17, b18, b19, b110, b111⟩ := (hb.le n1).th
    obtain ⟨k10, k11, k12, k13, k14, k15⟩ := (hk.le n1).look
    simp only [slV] at b16
    go_wp2_with fail
    refine (m3 _).mono ?_
    rintro e _ ⟨rfl, rfl⟩
    go_wp2_with fail
    refine (m4 _).mono ?_
    rintro e _ ⟨rfl, rfl⟩
    go_wp2_with fail
    refine (m5 _ (hl.trans n1)).mono ?_
    rintro e w2 ⟨rfl, n2⟩
    obtain ⟨b20, b21, b22, b23, b24, b25, b26, b27, b28, b29, b210, b211⟩ := ((hb.le n1).le n2).th
    obtain ⟨k20, k21, k22, k23, k24, k25⟩ := ((hk.le n1).le n2).look
    simp only [slV] at b26
    go_wp2_with fail
    refine (m6 _).mono ?_
    rintro e _ ⟨rfl, rfl⟩
    go_wp2_with fail
    go_ret
    exact ⟨rfl, (hl.trans n1).trans n2⟩
  simp only [h6] at m6
  go_enter Try.func25, Try.ntmps25
  go_wp2_with fail
  refine (m1 _).mono ?_
  rintro e _ ⟨rfl, rfl⟩
  go_wp2_with fail
  refine (m2 _).mono ?_
  rintro e w1 ⟨rfl, n1⟩
  obtain ⟨b10, b11, b12, b13, b14, b15, b16, b17, b18, b19, b110, b111⟩ := (hb.le n1).th
  obtain ⟨k10, k11, k12, k13, k14, k15⟩ := (hk.le n1).look
  simp only [slV] at b16
  go_wp2_with fail
  refine (m3 _).mono ?_
  rintro e _ ⟨rfl, rfl⟩
  go_wp2_with fail
  refine (m4 _).mono ?_
  rintro e _ ⟨rfl, rfl⟩
  go_wp2_with fail
  refine (m5 _ (hl.trans n1)).mono ?_
  rintro e w2 ⟨rfl, n2⟩
  obtain ⟨b20, b21, b22, b23, b24, b25, b26, b27, b28, b29, b210, b211⟩ := ((hb.le n1).le n2).th
  obtain ⟨k20, k21, k22, k23, k24, k25⟩ := ((hk.le n1).le n2).look
  simp only [slV] at b26
  go_wp2_with fail
  refine (m6 _).mono ?_
  rintro e _ ⟨rfl, rfl⟩
  go_wp2_with fail
  refine (m7 _ ((hl.trans n1).trans n2)).mono ?_
  rintro e w3 ⟨rfl, n3⟩
  go_wp2_with fail
  go_ret
  exact ⟨rfl, ((hl.trans n1).trans n2).trans n3⟩

end Go.Proofs.Ytibleipfablniaa

/-
  THE WALK over package start's May: what it answers, for every machine. Condition: that its rows can be copied.
-/
namespace Go.Proofs.Ytibleipfablniaa
open Go.RowKit

set_option maxRecDepth 4000 in
set_option maxHeartbeats 8000000 in
theorem startMay (v : Value) (M : Mc) (w : World) (hx : HasM w v M) (hf : FitM M) : Calls Try.prog 12 #[v] w fun e w' => e = .returned (.bool (mayM M)) ∧ Le w w' := by
  obtain ⟨c, Rs, Ps, Ts, Es⟩ := M
  obtain ⟨qR, qP, qT, qH, rfl, hR, hP, hT, hH⟩ := hx
  obtain ⟨f1, f2, f3, f4, fr, fp, ft⟩ := hf
  simp only at hR hP hT hH f1 f2 f3 f4 fr fp ft
  have hb := (Box.new w (cells9 c qR qP qT qH) 31).le (Le.alloc _ (.cells (cellsK c qR) 63))
  have hk := Box.new (w.alloc (.cells (cells9 c qR qP qT qH) 31)) (cellsK c qR) 63
  rw [World.size_alloc] at hk
  have hl := (Le.alloc w (.cells (cells9 c qR qP qT qH) 31)).trans (Le.alloc _ (.cells (cellsK c qR) 63))
  have m1 := fun w' => cfgMay c.o c.r c.l c.t c.s w'
  simp only [mayM, Cfg.ok]
  cases h1 : cfgB c.o c.r c.l c.t c.s
  · simp only [h1] at m1
    go_enter Try.func12, Try.ntmps12
    go_wp2_with fail
    refine (m1 _).mono ?_
    rintro e w1 ⟨rfl, n1⟩
    go_wp2_with fail
    go_ret
    exact ⟨rfl, hl.trans n1⟩
  have hc : c.ok = true := h1
  simp only [h1] at m1
  have m2 := fun w' (l : Le w w') => exactlyRing 21 (lookV c qR) (ringB c) (fun _ _ => by kernel_rfl) (slV qR) Rs c.l w' (fun w'' _ u R hm _ h => lookMayRing c qR u R w'' hc h (fr R hm)) (hR.le l) (by omega)
  cases h2 : (decide ((Rs.length : Int) = c.l) && Rs.all (ringB c))
  · simp only [h2] at m2
    go_enter Try.func12, Try.ntmps12
    go_wp2_with fail
    refine (m1 _).mono ?_
    rintro e w1 ⟨rfl, n1⟩
    obtain ⟨_, b5, b6, b7, b8⟩ := (hb.le n1).mach
    obtain ⟨k0, k1, k2, k3, k4, k5⟩ := (hk.le n1).look
    go_wp2_with fail
    refine (m2 _ (hl.trans n1)).mono ?_
    rintro e w2 ⟨rfl, n2⟩
    go_wp2_with fail
    go_ret
    exact ⟨rfl, (hl.trans n1).trans n2⟩
  simp only [h2] at m2
  have hn : (Rs.length : Int) = c.l := by simp at h2; exact h2.1
  have m3 := fun w' (l : Le w w') => exactlyRep 23 (lookV c qR) (repB c Rs) (fun _ _ => by kernel_rfl) (slV qP) Ps c.r w' (fun w'' l' u P hm _ h => lookMayReplica c qR u Rs P w'' (hR.le (l.trans l')) f1 hn h (fp P hm).1 (fp P hm).2.2) (hP.le l) (by omega)
  clear hn
  cases h3 : (decide ((Ps.length : Int) = c.r) && Ps.all (repB c Rs))
  · simp only [h3] at m3
    go_enter Try.func12, Try.ntmps12
    go_wp2_with fail
    refine (m1 _).mono ?_
    rintro e w1 ⟨rfl, n1⟩
    obtain ⟨_, b5, b6, b7, b8⟩ := (hb.le n1).mach
    obtain ⟨k0, k1, k2, k3, k4, k5⟩ := (hk.le n1).look
    go_wp2_with fail
    refine (m2 _ (hl.trans n1)).mono ?_
    rintro e w2 ⟨rfl, n2⟩
    obtain ⟨_, b5', b6', b7', b8'⟩ := ((hb.le n1).le n2).mach
    obtain ⟨k0', k1', k2', k3', k4', k5'⟩ := ((hk.le n1).le n2).look
    go_wp2_with fail
    refine (m3 _ ((hl.trans n1).trans n2)).mono ?_
    rintro e w3 ⟨rfl, n3⟩
    go_wp2_with fail
    go_ret
    exact ⟨rfl, ((hl.trans n1).trans n2).trans n3⟩
  simp only [h3] at m3
  have m4 := fun w' (l : Le w w') => exactlyTh 25 (lookV c qR) (thB c) (fun _ _ => by kernel_rfl) (slV qT) Ts c.t w' (fun w'' _ u T hm _ h => lookMayThread c qR u T w'' hc h (ft T hm).1 (ft T hm).2) (hT.le l) (by omega)
  cases h4 : (decide ((Ts.length : Int) = c.t) && Ts.all (thB c))
  · simp only [h4] at m4
    go_enter Try.func12, Try.ntmps12
    go_wp2_with fail
    refine (m1 _).mono ?_
    rintro e w1 ⟨rfl, n1⟩
    obtain ⟨_, b5, b6, b7, b8⟩ := (hb.le n1).mach
    obtain ⟨k0, k1, k2, k3, k4, k5⟩ := (hk.le n1).look
    go_wp2_with fail
    refine (m2 _ (hl.trans n1)).mono ?_
    rintro e w2 ⟨rfl, n2⟩
    obtain ⟨_, b5', b6', b7', b8'⟩ := ((hb.le n1).le n2).mach
    obtain ⟨k0', k1', k2', k3', k4', k5'⟩ := ((hk.le n1).le n2).look
    go_wp2_with fail
    refine (m3 _ ((hl.trans n1).trans n2)).mono ?_
    rintro e w3 ⟨rfl, n3⟩
    obtain ⟨_, _, b6'', b7'', b8''⟩ := (((hb.le n1).le n2).le n3).mach
    obtain ⟨k0'', k1'', k2'', k3'', k4'', k5''⟩ := (((hk.le n1).le n2).le n3).look
    go_wp2_with fail
    refine (m4 _ (((hl.trans n1).trans n2).trans n3)).mono ?_
    rintro e w4 ⟨rfl, n4⟩
    go_wp2_with fail
    go_ret
    exact ⟨rfl, (((hl.trans n1).trans n2).trans n3).trans n4⟩
  simp only [h4] at m4
  have m5 := fun w' (l : Le w w') => atMostEv 27 (lookV c qR) (evB c) (fun _ _ => by kernel_rfl) (slV qH) Es 64 w' (fun w'' _ u E hm _ h => by rw [show u = evV E from h]; exact lookMayEvent c qR E w'' hc) (hH.le l) (by omega)
  go_enter Try.func12, Try.ntmps12
  go_wp2_with fail
  refine (m1 _).mono ?_
  rintro e w1 ⟨rfl, n1⟩
  obtain ⟨_, b5, b6, b7, b8⟩ := (hb.le n1).mach
  obtain ⟨k0, k1, k2, k3, k4, k5⟩ := (hk.le n1).look
  go_wp2_with fail
  refine (m2 _ (hl.trans n1)).mono ?_
  rintro e w2 ⟨rfl, n2⟩
  obtain ⟨_, b5', b6', b7', b8'⟩ := ((hb.le n1).le n2).mach
  obtain ⟨k0', k1', k2', k3', k4', k5'⟩ := ((hk.le n1).le n2).look
  go_wp2_with fail
  refine (m3 _ ((hl.trans n1).trans n2)).mono ?_
  rintro e w3 ⟨rfl, n3⟩
  obtain ⟨_, _, b6'', b7'', b8''⟩ := (((hb.le n1).le n2).le n3).mach
  obtain ⟨k0'', k1'', k2'', k3'', k4'', k5''⟩ := (((hk.le n1).le n2).le n3).look
  go_wp2_with fail
  refine (m4 _ (((hl.trans n1).trans n2).trans n3)).mono ?_
  rintro e w4 ⟨rfl, n4⟩
  have b9 := ((((hb.le n1).le n2).le n3).le n4).mach.2.2.2.2
  obtain ⟨j0, j1, j2, j3, j4, j5⟩ := ((((hk.le n1).le n2).le n3).le n4).look
  go_wp2_with fail
  refine (m5 _ ((((hl.trans n1).trans n2).trans n3).trans n4)).mono ?_
  rintro e w5 ⟨rfl, n5⟩
  go_wp2_with fail
  go_ret
  exact ⟨rfl, ((((hl.trans n1).trans n2).trans n3).trans n4).trans n5⟩

end Go.Proofs.Ytibleipfablniaa

/-
  THE WALK over choruslaw14.awake: it answers true and turns nothing that was there. No condition. Beside it the contracts of package start's New and choruslaw0's CopyMachine with their answers written out.
-/
namespace Go.Proofs.Ytibleipfablniaa
open Go.RowKit

theorem OwnM.open {w : World} {base : Nat} {v : Value} {M : Mc} (h : OwnM w base v M) : ∃ qR qP qT qH, v = machV M.c qR qP qT qH := by
  obtain ⟨L, rfl, rfl, _⟩ := h; exact ⟨_, _, _, _, rfl⟩
theorem startNewAs {c : Cfg} {M : Mc} {er : Int} (h : newM c = (M, er)) (w : World) : Calls Try.prog 6 #[cfgV c.o c.r c.l c.t c.s] w fun e w' => ∃ qR qP qT qH, e = .returned (.tuple #[machV M.c qR qP qT qH, .int .i64 er]) ∧ OwnM w' w.heap.size (machV M.c qR qP qT qH) M ∧ Le w w' := by
  have := startNew c w
  rw [h] at this
  refine this.mono ?_
  rintro e w' ⟨v', rfl, o, l⟩
  obtain ⟨qR, qP, qT, qH, rfl⟩ := o.open
  exact ⟨qR, qP, qT, qH, rfl, o, l⟩
theorem copyMachineAs (v : Value) (M : Mc) (w : World) (hx : HasM w v M) (hf : FitM M) : Calls Try.prog 16 #[v] w fun e w' => ∃ qR qP qT qH, e = .returned (machV M.c qR qP qT qH) ∧ OwnM w' w.heap.size (machV M.c qR qP qT qH) M ∧ Le w w' := by
  refine (lawCopyMachine v M w hx hf).mono ?_
  rintro e w' ⟨L, rfl, rfl, o, _, l⟩
  exact ⟨_, _, _, _, rfl, ⟨L, rfl, rfl, o⟩, l⟩

theorem fitM_small {M : Mc} (h1 : M.rs.length ≤ 100) (h2 : M.ps.length ≤ 100) (h3 : M.ts.length ≤ 100) (h4 : M.es.length ≤ 100) (hr : ∀ R ∈ M.rs, R.ss.length ≤ 100) (hp : ∀ P ∈ M.ps, Fit P.s ∧ P.cs.length ≤ 100 ∧ P.ls.length ≤ 100) (ht : ∀ T ∈ M.ts, T.b.length ≤ 100 ∧ T.tl.length ≤ 100) : FitM M :=
  ⟨by omega, by omega, by omega, by omega, fun R h => by have := hr R h; unfold FitR; omega, fun P h => ⟨(hp P h).1, by have := (hp P h).2; omega, by have := (hp P h).2; omega⟩, fun T h => ⟨by have := ht T h; omega, by have := ht T h; omega⟩⟩
theorem fitM_fresh {c : Cfg} (h : c.ok = true) : FitM (freshM c) := by
  obtain ⟨_, ⟨r0, r1⟩, ⟨l0, l1⟩, ⟨t0, t1⟩, hs, _⟩ := Cfg.ok_cases h
  have hs' := slotsB_cases hs
  refine fitM_small (by simp [freshM]; omega) (by simp [freshM]; omega) (by simp [freshM]; omega) (by simp [freshM]) (fun R hR => ?_) (fun P hP => ?_) (fun T hT => ?_)
  · obtain rfl := List.eq_of_mem_replicate hR
    simp only [newS, hs, if_true, List.length_replicate]
    omega
  · obtain rfl := List.eq_of_mem_replicate hP
    refine ⟨fit_zero, ?_, ?_⟩ <;> simp <;> omega
  · obtain rfl := List.eq_of_mem_replicate hT
    exact ⟨by decide, by decide⟩
theorem fitM_new (c : Cfg) : FitM (newM c).1 := by
  unfold newM
  split
  · next h => exact fitM_fresh h
  · exact fitM_zero

theorem HasM.reC {w : World} {M : Mc} {c c' : Cfg} {a b d e : Sl} (h : HasM w (machV c a b d e) M) : HasM w (machV c' a b d e) { M with c := c' } := by
  obtain ⟨qR, qP, qT, qH, hv, h1, h2, h3, h4⟩ := h
  simp only [machV, cells9, Value.agg.injEq, Array.mk.injEq, List.cons.injEq] at hv
  obtain ⟨_, _, _, _, _, e5, e6, e7, e8, _⟩ := hv
  exact ⟨a, b, d, e, rfl, by rw [e5]; exact h1, by rw [e6]; exact h2, by rw [e7]; exact h3, by rw [e8]; exact h4⟩
theorem HasM.lens {w : World} {M : Mc} {c : Cfg} {a b d e : Sl} (h : HasM w (machV c a b d e) M) : a.2.1 = M.rs.length ∧ b.2.1 = M.ps.length ∧ d.2.1 = M.ts.length ∧ e.2.1 = M.es.length := by
  obtain ⟨qR, qP, qT, qH, hv, h1, h2, h3, h4⟩ := h
  simp only [machV, cells9, Value.agg.injEq, Array.mk.injEq, List.cons.injEq] at hv
  obtain ⟨_, _, _, _, _, e5, e6, e7, e8, _⟩ := hv
  refine ⟨HasRs.len (w := w) (by rw [e5]; exact h1), HasPs.len (w := w) (by rw [e6]; exact h2), HasTs.len (w := w) (by rw [e7]; exact h3), HasE.len (K := evK) (w := w) (by rw [e8]; exact h4)⟩

def awakeC : Cfg := ⟨0, 2, 2, 3, 8⟩
theorem awake_new : newM awakeC = (freshM awakeC, 0) := by decide +kernel
theorem awake_zero : newM Cfg.zero = (Mc.zero, 1400) := by decide +kernel
theorem awake_may : mayM (freshM awakeC) = true := by decide +kernel
theorem awake_not : mayM { freshM awakeC with c := ⟨0, 2, 2, 3, 16⟩ } = false := by decide +kernel

set_option maxRecDepth 4000 in
set_option maxHeartbeats 4000000 in
theorem lawAwake14 (w : World) : Calls Try.prog 5 #[] w fun e w' => e = .returned (.bool true) ∧ Le w w' := by
  have n1 := fun w' => startNewAs awake_new w'
  have n2 := fun w' => startNewAs awake_zero w'
  have hfit := fitM_fresh (c := awakeC) (by decide)
  have hfit2 : FitM { freshM awakeC with c := ⟨0, 2, 2, 3, 16⟩ } := ⟨hfit.rs, hfit.ps, hfit.ts, hfit.es, hfit.r, hfit.p, hfit.t⟩
  simp only [awakeC, freshM, Cfg.zero, Mc.zero] at n1 n2
  have hl := Le.alloc w (.cells #[.int .i64 0, .int .i64 2, .int .i64 2, .int .i64 3, .int .i64 8] 25)
  go_enter Try.func5, Try.ntmps5
  go_wp2_with fail
  refine (n1 _).mono ?_
  rintro e w1 ⟨qR, qP, qT, qH, rfl, o1, l1⟩
  replace hl := hl.trans l1
  have hb1 := Box.new w1 (cells9 ⟨0, 2, 2, 3, 8⟩ qR qP qT qH) 31
  have a1 := Le.alloc w1 (.cells (cells9 ⟨0, 2, 2, 3, 8⟩ qR qP qT qH) 31)
  go_upto_region 3 with fail
  generalize hW1 : w1.alloc (.cells (cells9 ⟨0, 2, 2, 3, 8⟩ qR qP qT qH) 31) = W1 at hb1 a1 ⊢
  generalize w1.heap.size = g1 at hb1 ⊢
  clear hW1
  replace o1 := o1.le a1
  replace hl := hl.trans a1
  clear a1 l1 n1
  go_wp2_with fail
  refine (n2 _).mono ?_
  rintro e w2 ⟨pR, pP, pT, pH, rfl, _, l2⟩
  have a2 := l2.trans (Le.alloc w2 (.cells (cells9 ⟨0, 0, 0, 0, 0⟩ pR pP pT pH) 31))
  go_upto_region 4 with fail
  generalize hW2 : w2.alloc (.cells (cells9 ⟨0, 0, 0, 0, 0⟩ pR pP pT pH) 31) = W2 at a2 ⊢
  clear hW2 n2 l2
  generalize w2.heap.size = g2
  replace hb1 := hb1.le a2
  replace o1 := o1.le a2
  replace hl := hl.trans a2
  clear a2
  obtain ⟨⟨z0, z1, z2, z3, z4⟩, z5, z6, z7, z8⟩ := hb1.mach
  go_wp2_with fail
  refine (copyMachineAs _ _ _ o1.has hfit).mono ?_
  rintro e w3 ⟨xR, xP, xT, xH, rfl, o3, l3⟩
  have hx3 : HasM w3 (machV ⟨0, 2, 2, 3, 16⟩ xR xP xT xH) { freshM awakeC with c := ⟨0, 2, 2, 3, 16⟩ } := HasM.reC o3.has
  have hb3 := Box.new w3 (cells9 ⟨0, 2, 2, 3, 16⟩ xR xP xT xH) 31
  have a3 := Le.alloc w3 (.cells (cells9 ⟨0, 2, 2, 3, 16⟩ xR xP xT xH) 31)
  clear z0 z1 z2 z3 z4 z5 z6 z7 z8 o3
  go_upto_region 6 with fail
  generalize hW3 : w3.alloc (.cells (cells9 ⟨0, 2, 2, 3, 16⟩ xR xP xT xH) 31) = W3 at hb3 a3 ⊢
  clear hW3
  generalize w3.heap.size = g3 at hb3 ⊢
  replace hb1 := hb1.le (l3.trans a3)
  replace o1 := o1.le (l3.trans a3)
  replace hl := (hl.trans l3).trans a3
  replace hx3 := hx3.le a3
  clear l3 a3
  obtain ⟨⟨z0, z1, z2, z3, z4⟩, z5, z6, z7, z8⟩ := hb1.mach
  obtain ⟨n1, n2, n3, _⟩ := o1.has.lens
  have e1 : ((qR.2.1 : Int) == 2) = true := by rw [n1]; rfl
  have e2 : ((qP.2.1 : Int) == 2) = true := by rw [n2]; rfl
  have e3 : ((qT.2.1 : Int) == 3) = true := by rw [n3]; rfl
  clear n1 n2 n3
  have s1 := startMay _ (freshM awakeC) _ o1.has hfit
  rw [awake_may] at s1
  go_wp2_with fail
  refine (lawNum _ _).mono ?_
  rintro e _ ⟨rfl, rfl⟩
  go_wp2_with fail
  refine (lawNum _ _).mono ?_
  rintro e _ ⟨rfl, rfl⟩
  go_wp2_with fail
  refine s1.mono ?_
  rintro e w4 ⟨rfl, l4⟩
  have s2 := startMay _ { freshM awakeC with c := ⟨0, 2, 2, 3, 16⟩ } _ (hx3.le l4) hfit2
  rw [awake_not] at s2
  obtain ⟨⟨y0, y1, y2, y3, y4⟩, y5, y6, y7, y8⟩ := (hb3.le l4).mach
  go_wp2_with fail
  refine s2.mono ?_
  rintro e w5 ⟨rfl, l5⟩
  go_wp2_with fail
  go_ret
  exact ⟨rfl, (hl.trans l4).trans l5⟩

end Go.Proofs.Ytibleipfablniaa

/-
  THE WALK over choruslaw0's SpoilMachine: it writes over the numbers of a machine of the call's own alone. No condition.
-/
namespace Go.Proofs.Ytibleipfablniaa
open Go.RowKit

set_option maxHeartbeats 4000000 in
theorem lawSpoilMachine (v : Value) (base : Nat) (w : World) (hx : IntsM w base v) (hbase : base ≤ w.heap.size) :
    Calls Try.prog 14 #[v] w fun e w' => e = .returned (.tuple #[]) ∧ Spoilt base w w' := by
  obtain ⟨c, qR, qP, qT, qH, rfl, hR, hP, hT, hH⟩ := hx
  have hb := Box.new w (cells9 c qR qP qT qH) 31
  have hs0 : Spoilt base w (w.alloc (.cells (cells9 c qR qP qT qH) 31)) := Spoilt.le hbase (Le.alloc _ _)
  replace hR := hR.spoilt (fun _ _ h => h.spoilt hs0) hs0
  replace hP := hP.spoilt (fun _ _ h => h.spoilt hs0) hs0
  replace hT := hT.spoilt (fun _ _ h => h.spoilt hs0) hs0
  replace hH := hH.spoilt (fun _ _ h => h.spoilt hs0) hs0
  have hsz0 := Nat.le_trans hbase hs0.below.size
  obtain ⟨⟨_, _, _, _, _⟩, z5, z6, z7, z8⟩ := hb.mach
  have hev := lawSpoilEvents _ base _ hH
  clear hb
  generalize hW : w.alloc (.cells (cells9 c qR qP qT qH) 31) = W at *
  go_enter Try.func14, Try.ntmps14
  go_wp2_with fail
  refine hev.mono ?_
  rintro e w1 ⟨rfl, s1⟩
  clear hev hH
  obtain ⟨aR, nR, cR⟩ := qR
  obtain ⟨aP, nP, cP⟩ := qP
  obtain ⟨aT, nT, cT⟩ := qT
  simp only [slV] at z5 z6 z7 hR hP hT
  have y5 := s1.sl (q := (aR, nR, cR)) z5
  simp only [slV] at y5
  go_wp2_with fail
  go_loopw [2] (fun i wr => ∃ k : Nat, k ≤ nR ∧ i = .int .i64 k ∧ Spoilt base W wr) (fun i _ => nR - (intOf i).toNat)
  case atStart => exact ⟨0, Nat.zero_le _, rfl, s1⟩
  case round =>
    obtain ⟨k, hk, rfl, hsp⟩ := hrel
    clear y5 s1 w1
    have y5 := hsp.sl (q := (aR, nR, cR)) z5
    simp only [slV] at y5
    have hsz := Nat.le_trans hsz0 hsp.below.size
    by_cases hlt : k < nR
    · obtain ⟨a', n', c', hv, hnc, hm, hx⟩ := hR
      simp only [Value.slice.injEq] at hv
      obtain ⟨rfl, rfl, rfl⟩ := hv
      obtain ⟨b, off, rfl, hbb, hcell⟩ := hx (by omega)
      obtain ⟨⟨R, q, ⟨r0, r1, r2, r3⟩, hi⟩, hfz⟩ := (hcell k hlt).spoilt hsp
      have hsr := lawSpoilRing (ringV R.h R.t R.f q) base _ ⟨_, _, _, _, rfl, hi⟩ hsz
      have hlt' : (k : Int) < (nR : Int) := by omega
      have hk0 : (0 : Int) ≤ (k : Int) := by omega
      clear hP hT z6 z7 z8 hx
      go_wp2_with fail
      refine hsr.mono ?_
      rintro e w2 ⟨rfl, s2⟩
      have hsp2 := hsp.trans s2
      obtain ⟨⟨R', q', ⟨r0', r1', r2', r3'⟩, hi'⟩, hfz'⟩ := (hcell k hlt).spoilt hsp2
      have y5' := s2.sl (q := (some ⟨b, off, none⟩, nR, cR)) y5
      simp only [slV] at y5'
      clear hcell r0 r1 r2 r3 hi hfz hsr y5 hsp s2 r0' r2' r3' hi' z5
      generalize R'.t = x at r1'
      go_wp2_with fail
      go_region
      go_wp2_with fail
      go_roundw
      case rel => exact ⟨k + 1, by omega, by go_num, hsp2.trans ((Spoilt.le (Nat.le_trans hsz0 hsp2.below.size) (Le.drew _)).trans (Spoilt.store r1' hbb))⟩
      case measure => simp [intOf]; omega
    · clear hR
      have y6 := hsp.sl (q := (aP, nP, cP)) z6
      simp only [slV] at y6
      go_wp2_with fail
      go_loopw [3] (fun i wr => ∃ k : Nat, k ≤ nP ∧ i = .int .i64 k ∧ Spoilt base W wr) (fun i _ => nP - (intOf i).toNat)
      case atStart => exact ⟨0, Nat.zero_le _, rfl, hsp⟩
      case round =>
        obtain ⟨j, hj, rfl, hsp'⟩ := hrel
        clear y5 y6 hsz hsp hlt hk
        rename_i _ wq
        have y6 := hsp'.sl (q := (aP, nP, cP)) z6
        simp only [slV] at y6
        have hsz := Nat.le_trans hsz0 hsp'.below.size
        by_cases hlt : j < nP
        · obtain ⟨a', n', c', hv, hnc, hm, hx⟩ := hP
          simp only [Value.slice.injEq] at hv
          obtain ⟨rfl, rfl, rfl⟩ := hv
          obtain ⟨b, off, rfl, hbb, hcell⟩ := hx (by omega)
          have hlt' : (j : Int) < (nP : Int) := by omega
          have hj0 : (0 : Int) ≤ (j : Int) := by omega
          clear hT z5 z7 z8 hx
          obtain ⟨vs, cc, ll, ⟨r0, r1, r2, r3, r4, r5⟩, i0, i1, i2⟩ := (hcell j hlt).spoilt hsp'
          have hsr := lawSpoilState (stV vs) base _ ⟨vs, rfl, i0⟩ hsz
          go_wp2_with fail
          refine hsr.mono ?_
          rintro e w2 ⟨rfl, s2⟩
          have hsr2 := lawSpoil _ base _ (i1.spoilt s2)
          have r4' := s2.sl r4
          have y6' := s2.sl (q := (some ⟨b, off, none⟩, nP, cP)) y6
          simp only [slV] at y6'
          go_wp2_with fail
          refine hsr2.mono ?_
          rintro e w3 ⟨rfl, s3⟩
          have hsr3 := lawSpoil _ base _ ((i2.spoilt s2).spoilt s3)
          have r5' := s3.sl (s2.sl r5)
          have y6'' := s3.sl (q := (some ⟨b, off, none⟩, nP, cP)) y6'
          simp only [slV] at y6''
          go_wp2_with fail
          refine hsr3.mono ?_
          rintro e w4 ⟨rfl, s4⟩
          go_wp2_with fail
          go_roundw
          case rel => exact ⟨j + 1, by omega, by go_num, ((hsp'.trans s2).trans s3).trans s4⟩
          case measure => simp [intOf]; omega
        · clear hP
          have y7 := hsp'.sl (q := (aT, nT, cT)) z7
          simp only [slV] at y7
          go_wp2_with fail
          go_loopw [4] (fun i wr => ∃ k : Nat, k ≤ nT ∧ i = .int .i64 k ∧ Spoilt base W wr) (fun i _ => nT - (intOf i).toNat)
          case atStart => exact ⟨0, Nat.zero_le _, rfl, hsp'⟩
          case round =>
            obtain ⟨i, hi, rfl, hsp⟩ := hrel
            clear y6 y7 hsz hsp' hlt hj
            have y7 := hsp.sl (q := (aT, nT, cT)) z7
            simp only [slV] at y7
            have hsz := Nat.le_trans hsz0 hsp.below.size
            by_cases hlt : i < nT
            · obtain ⟨a', n', c', hv, hnc, hm, hx⟩ := hT
              simp only [Value.slice.injEq] at hv
              obtain ⟨rfl, rfl, rfl⟩ := hv
              obtain ⟨b, off, rfl, hbb, hcell⟩ := hx (by omega)
              have hlt' : (i : Int) < (nT : Int) := by omega
              have hi0 : (0 : Int) ≤ (i : Int) := by omega
              clear z5 z6 z8 hx
              obtain ⟨⟨T, q, t, ⟨_, _, _, _, _, _, r6, _, _, _, _, r11⟩, i0, i1⟩, _⟩ := (hcell i hlt).spoilt hsp
              have hsr := lawSpoil _ base _ i0
              go_wp2_with fail
              refine hsr.mono ?_
              rintro e w2 ⟨rfl, s2⟩
              have hsr2 := lawSpoil _ base _ (i1.spoilt s2)
              have r11' := s2.sl r11
              have y7' := s2.sl (q := (some ⟨b, off, none⟩, nT, cT)) y7
              simp only [slV] at y7'
              go_wp2_with fail
              refine hsr2.mono ?_
              rintro e w3 ⟨rfl, s3⟩
              have hsp3 := (hsp.trans s2).trans s3
              obtain ⟨⟨T', q', t', ⟨r0, _⟩, _⟩, hfz⟩ := (hcell i hlt).spoilt hsp3
              have y7'' := s3.sl (q := (some ⟨b, off, none⟩, nT, cT)) y7'
              simp only [slV] at y7''
              clear hcell hsr hsr2 y7 y7' hsp s2 s3 r6 r11 r11' i0 i1 z7
              generalize T'.st = x at r0
              go_wp2_with fail
              go_region
              go_wp2_with fail
              go_roundw
              case rel => exact ⟨i + 1, by omega, by go_num, hsp3.trans ((Spoilt.le (Nat.le_trans hsz0 hsp3.below.size) (Le.drew _)).trans (Spoilt.store r0 hbb))⟩
              case measure => simp [intOf]; omega
            · clear hT
              go_wp2_with fail
              go_end0
              exact ⟨rfl, hs0.trans hsp⟩

end Go.Proofs.Ytibleipfablniaa

/-
  THE WALKS over choruslaw0's SpoilInts, SpoilSlots, SpoilRing, SpoilState, SpoilEvents, SpoilMachine once more: what they write over lies in a given set of blocks; all else is as it was. Written by program out of Slc, SpoilA, StC, LwA, McB, LmA, LmD. No condition.
-/
namespace Go.Proofs.Ytibleipfablniaa.Sp
open Go.RowKit Go.Proofs.Ytibleipfablniaa

/-- v is a slice of whatever numbers, in blocks from S on, that may be written over. -/
def Ints (w : World) (S : Nat → Prop) (v : Value) : Prop :=
  ∃ (a : Option Addr) (n cap : Nat), v = .slice a n cap ∧ n ≤ cap ∧ n ≤ 9223372036854775807 ∧
    (0 < n → ∃ b off, a = some ⟨b, off, none⟩ ∧ S b ∧ ∀ i, i < n → (∃ x, w.cell? ⟨b, off + i, none⟩ = some (.int .i64 x)) ∧ w.frozen? ⟨b, off + i, none⟩ = false)

/-- What was there below S is as it was; numbers elsewhere may be other numbers, and all else is as it was. -/
structure Spoilt (S : Nat → Prop) (w w' : World) : Prop where
  os : w'.os = w.os
  tape : w'.tape = w.tape
  output : w'.output = w.output
  size : w.heap.size ≤ w'.heap.size
  keep : ∀ k, k < w.heap.size → ¬ S k → w'.heap[k]? = w.heap[k]?
  ints : ∀ p x, w.cell? p = some (.int .i64 x) → ∃ y, w'.cell? p = some (.int .i64 y)
  rest : ∀ p v, w.cell? p = some v → (∀ x, v ≠ .int .i64 x) → w'.cell? p = some v
  thaw : ∀ p, p.block < w.heap.size → w.frozen? p = false → w'.frozen? p = false

theorem Spoilt.refl (S : Nat → Prop) (w : World) : Spoilt S w w := ⟨rfl, rfl, rfl, Nat.le_refl _, fun _ _ _ => rfl, fun _ x h => ⟨x, h⟩, fun _ _ h _ => h, fun _ _ h => h⟩
theorem Spoilt.trans {S : Nat → Prop} {a b c : World} (h : Spoilt S a b) (k : Spoilt S b c) : Spoilt S a c :=
  ⟨k.os.trans h.os, k.tape.trans h.tape, k.output.trans h.output, Nat.le_trans h.size k.size, fun i hi hn => (k.keep i (Nat.lt_of_lt_of_le hi h.size) hn).trans (h.keep i hi hn), fun p x hp => by obtain ⟨y, hy⟩ := h.ints p x hp; exact k.ints p y hy, fun p v hp hv => k.rest p v (h.rest p v hp hv) hv, fun p hp hf => k.thaw p (Nat.lt_of_lt_of_le hp h.size) (h.thaw p hp hf)⟩

theorem Spoilt.le {S : Nat → Prop} {w w' : World} (_ : True) (h : Le w w') : Spoilt S w w' :=
  ⟨h.os, h.tape, h.output, h.size, fun k hk _ => h.block k hk, fun p x hp => ⟨x, by rw [h.cell (World.block_lt_of_cell? w _ hp)]; exact hp⟩, fun p v hp _ => by rw [h.cell (World.block_lt_of_cell? w _ hp)]; exact hp,
    fun p hp hf => by rw [h.frozen hp]; exact hf⟩

theorem Spoilt.store {S : Nat → Prop} {w : World} {p : Addr} {x y : Int} (hp : w.cell? p = some (.int .i64 x)) (hb : S p.block) : Spoilt S w (w.setCell p (.int .i64 y)) := by
  refine ⟨rfl, rfl, rfl, by simp, fun k _ hn => Below.heap_setCell _ _ _ _ (fun e => hn (by rw [e]; exact hb)), fun q z hq => ?_, fun q v hq hv => ?_, fun q _ hf => by simpa using hf⟩
  · by_cases e : p = q
    · subst e; exact ⟨y, World.cell?_setCell_same _ _ _ hp⟩
    · exact ⟨z, (World.cell?_setCell_other _ _ _ _ e).trans hq⟩
  · have e : p ≠ q := fun e => by subst e; rw [hp] at hq; exact hv x (Option.some.inj hq).symm
    exact (World.cell?_setCell_other _ _ _ _ e).trans hq

theorem Ints.spoilt {w w' : World} {S S' : Nat → Prop} {v : Value} (h : Ints w S v) (k : Spoilt S' w w') : Ints w' S v := by
  obtain ⟨a, n, cap, hv, hn, hm, hx⟩ := h
  refine ⟨a, n, cap, hv, hn, hm, fun hp => ?_⟩
  obtain ⟨b, off, ha, hb, hc⟩ := hx hp
  refine ⟨b, off, ha, hb, fun i hi => ?_⟩
  obtain ⟨⟨x, h1⟩, h2⟩ := hc i hi
  exact ⟨k.ints _ _ h1, k.thaw _ (World.block_lt_of_cell? w _ h1) h2⟩

set_option maxHeartbeats 400000 in
theorem lawSpoil (v : Value) (S : Nat → Prop) (w : World) (hx : Ints w S v) :
    Calls Try.prog 32 #[v] w fun e w' => e = .returned (.tuple #[]) ∧ Spoilt S w w' := by
  obtain ⟨a, L, cap, rfl, hc, hm, hx⟩ := hx
  rcases Nat.eq_zero_or_pos L with h0 | h0
  · subst h0
    go_enter Try.func32, Try.ntmps32
    go_wp2
    refine wp_loop_rounds 1 ?_
    rw [rounds_succ]
    go_wp2
    go_end0
    exact ⟨rfl, Spoilt.refl _ _⟩
  · obtain ⟨b, off, rfl, hb, hcell⟩ := hx h0
    clear hx
    go_enter Try.func32, Try.ntmps32
    go_wp2
    go_loopw [2] (fun i wr => ∃ k : Nat, k ≤ L ∧ i = .int .i64 k ∧ Spoilt S w wr) (fun i _ => L - (intOf i).toNat)
    case atStart => exact ⟨0, Nat.zero_le _, rfl, Spoilt.refl _ _⟩
    case round =>
      obtain ⟨k, hk, rfl, hsp⟩ := hrel
      by_cases hlt : k < L
      · obtain ⟨⟨x0, h1⟩, h2⟩ := hcell k hlt
        have hfz := hsp.thaw _ (World.block_lt_of_cell? w _ h1) h2
        obtain ⟨x, hcl⟩ := hsp.ints _ _ h1
        clear h1 h2 hcell
        go_wp2
        go_roundw
        case rel => exact ⟨k + 1, by omega, by go_num, hsp.trans (Spoilt.store hcl hb)⟩
        case measure => simp [intOf]; omega
      · go_wp2
        go_end0
        exact ⟨rfl, hsp⟩

/-- Rows of whatever numbers, that may be written over. -/
def IntsS (w : World) (S : Nat → Prop) (v : Value) : Prop := ∃ vs, v = stV vs ∧ ∀ i, i < 4 → Ints w S (slV (vs i))
theorem IntsS.spoilt {w w' : World} {S S' : Nat → Prop} {v : Value} (h : IntsS w S v) (k : Spoilt S' w w') : IntsS w' S v := by
  obtain ⟨vs, hv, hr⟩ := h; exact ⟨vs, hv, fun i hi => (hr i hi).spoilt k⟩
set_option maxHeartbeats 400000 in
theorem lawSpoilState (v : Value) (S : Nat → Prop) (w : World) (hx : IntsS w S v) (hbase : True) :
    Calls Try.prog 31 #[v] w fun e w' => e = .returned (.tuple #[]) ∧ Spoilt S w w' := by
  obtain ⟨vs, rfl, hr⟩ := hx
  have hb1 := Box.new w (cells4 vs) 44
  have hs1 : Spoilt S w (w.alloc (.cells (cells4 vs) 44)) := Spoilt.le hbase (Le.alloc _ _)
  go_enter Try.func31, Try.ntmps31
  go_wp2
  go_loopw [2] (fun i wr => ∃ k : Nat, k ≤ 4 ∧ i = .int .i64 k ∧ Spoilt S (w.alloc (.cells (cells4 vs) 44)) wr) (fun i _ => 4 - (intOf i).toNat)
  case atStart => exact ⟨0, by omega, rfl, Spoilt.refl _ _⟩
  case round =>
    obtain ⟨k, hk, rfl, hsp⟩ := hrel
    by_cases hlt : k < 4
    · have hi := (hr k hlt).spoilt (hs1.trans hsp)
      have c1 : wr.cell? ⟨w.heap.size, k, none⟩ = some (slV (vs k)) := hsp.rest _ _ ((hb1.cell k).trans (cells4_at vs hlt)) (fun x h => by cases h)
      go_wp2_with (go_at_call 32; refine (lawSpoil _ S _ hi).mono ?_; rintro e w1 ⟨rfl, s1⟩; clear hi c1)
      go_roundw
      case rel => exact ⟨k + 1, by omega, by go_num, hsp.trans s1⟩
      case measure => simp [intOf]; omega
    · obtain rfl : k = 4 := by omega
      go_wp2
      go_end0
      exact ⟨rfl, hs1.trans hsp⟩

/-- v is a slice of whatever slots, in blocks from S on, that may be written over. -/
def IntsL (w : World) (S : Nat → Prop) (v : Value) : Prop :=
  ∃ (a : Option Addr) (n cap : Nat), v = .slice a n cap ∧ n ≤ cap ∧ n ≤ 9223372036854775807 ∧
    (0 < n → ∃ b off, a = some ⟨b, off, none⟩ ∧ S b ∧ ∀ i, i < n → (∃ x, w.cell? ⟨b, off + i * 5 + 3, none⟩ = some (.int .i64 x)) ∧ w.frozen? ⟨b, off + i * 5 + 3, none⟩ = false)
def IntsR (w : World) (S : Nat → Prop) (v : Value) : Prop := ∃ h t f q, v = ringV h t f q ∧ IntsL w S (slV q)

theorem IntsL.spoilt {w w' : World} {S S' : Nat → Prop} {v : Value} (h : IntsL w S v) (k : Spoilt S' w w') : IntsL w' S v := by
  obtain ⟨a, n, cap, hv, hn, hm, hx⟩ := h
  refine ⟨a, n, cap, hv, hn, hm, fun hp => ?_⟩
  obtain ⟨b, off, ha, hb, hc⟩ := hx hp
  refine ⟨b, off, ha, hb, fun i hi => ?_⟩
  obtain ⟨⟨x, h1⟩, h2⟩ := hc i hi
  exact ⟨k.ints _ _ h1, k.thaw _ (World.block_lt_of_cell? w _ h1) h2⟩
theorem IntsR.spoilt {w w' : World} {S S' : Nat → Prop} {v : Value} (h : IntsR w S v) (k : Spoilt S' w w') : IntsR w' S v := by
  obtain ⟨h', t, f, q, hv, hi⟩ := h; exact ⟨h', t, f, q, hv, hi.spoilt k⟩

set_option maxHeartbeats 400000 in
theorem lawSpoilSlots (v : Value) (S : Nat → Prop) (w : World) (hx : IntsL w S v) :
    Calls Try.prog 57 #[v] w fun e w' => e = .returned (.tuple #[]) ∧ Spoilt S w w' := by
  obtain ⟨a, L, cap, rfl, hc, hm, hx⟩ := hx
  rcases Nat.eq_zero_or_pos L with h0 | h0
  · subst h0
    go_enter Try.func57, Try.ntmps57
    go_wp2
    refine wp_loop_rounds 1 ?_
    rw [rounds_succ]
    go_wp2
    go_end0
    exact ⟨rfl, Spoilt.refl _ _⟩
  · obtain ⟨b, off, rfl, hb, hcell⟩ := hx h0
    clear hx
    go_enter Try.func57, Try.ntmps57
    go_wp2
    go_loopw [2] (fun i wr => ∃ k : Nat, k ≤ L ∧ i = .int .i64 k ∧ Spoilt S w wr) (fun i _ => L - (intOf i).toNat)
    case atStart => exact ⟨0, Nat.zero_le _, rfl, Spoilt.refl _ _⟩
    case round =>
      obtain ⟨k, hk, rfl, hsp⟩ := hrel
      by_cases hlt : k < L
      · obtain ⟨⟨x0, h1⟩, h2⟩ := hcell k hlt
        have hfz := hsp.thaw _ (World.block_lt_of_cell? w _ h1) h2
        obtain ⟨x, hcl⟩ := hsp.ints _ _ h1
        clear h1 h2 hcell
        go_wp2
        go_roundw
        case rel => exact ⟨k + 1, by omega, by go_num, hsp.trans (Spoilt.store hcl hb)⟩
        case measure => simp [intOf]; omega
      · go_wp2
        go_end0
        exact ⟨rfl, hsp⟩

theorem lawSpoilRing (v : Value) (S : Nat → Prop) (w : World) (hx : IntsR w S v) (hbase : True) :
    Calls Try.prog 30 #[v] w fun e w' => e = .returned (.tuple #[]) ∧ Spoilt S w w' := by
  obtain ⟨h, t, f, q, rfl, hi⟩ := hx
  have hs1 : Spoilt S w (w.alloc (.cells (cellsR h t f q) 39)) := Spoilt.le hbase (Le.alloc _ _)
  have hsp := lawSpoilSlots _ S _ (hi.spoilt hs1)
  go_enter Try.func30, Try.ntmps30
  go_wp2_with fail
  refine hsp.mono ?_
  rintro e w1 ⟨rfl, s1⟩
  go_wp2_with fail
  go_end0
  exact ⟨rfl, hs1.trans s1⟩

/-- A row of elements of k cells each, each of which is as At says, in blocks from S on. -/
def IntsRow (k : Nat) (At : World → Nat → Nat → Prop) (w : World) (S : Nat → Prop) (v : Value) : Prop :=
  ∃ (a : Option Addr) (n cap : Nat), v = .slice a n cap ∧ n ≤ cap ∧ n ≤ 9223372036854775807 ∧ (0 < n → ∃ b off, a = some ⟨b, off, none⟩ ∧ S b ∧ ∀ i, i < n → At w b (off + i * k))
def RingX (S : Nat → Prop) (w : World) (b off : Nat) : Prop := (∃ R q, RingAt w b off R q ∧ IntsL w S (slV q)) ∧ w.frozen? ⟨b, off + 1, none⟩ = false
def RepX (S : Nat → Prop) (w : World) (b off : Nat) : Prop := ∃ vs c l, RepAt w b off vs c l ∧ (∀ i, i < 4 → Ints w S (slV (vs i))) ∧ Ints w S (slV c) ∧ Ints w S (slV l)
def ThX (S : Nat → Prop) (w : World) (b off : Nat) : Prop := (∃ T q t, ThAt w b off T q t ∧ Ints w S (slV q) ∧ Ints w S (slV t)) ∧ w.frozen? ⟨b, off, none⟩ = false
def EvX (w : World) (b off : Nat) : Prop := (∃ x, w.cell? ⟨b, off, none⟩ = some (.int .i64 x)) ∧ w.frozen? ⟨b, off, none⟩ = false
def IntsM (w : World) (S : Nat → Prop) (v : Value) : Prop := ∃ c qR qP qT qH, v = machV c qR qP qT qH ∧ IntsRow 4 (RingX S) w S (slV qR) ∧ IntsRow 6 (RepX S) w S (slV qP) ∧ IntsRow 12 (ThX S) w S (slV qT) ∧ IntsRow 6 EvX w S (slV qH)

theorem IntsRow.spoilt {k : Nat} {At : World → Nat → Nat → Prop} {w w' : World} {S S' : Nat → Prop} {v : Value} (h : IntsRow k At w S v) (hAt : ∀ b off, At w b off → At w' b off) (_k : Spoilt S' w w') : IntsRow k At w' S v := by
  obtain ⟨a, n, cap, hv, hn, hm, hx⟩ := h
  refine ⟨a, n, cap, hv, hn, hm, fun hp => ?_⟩
  obtain ⟨b, off, ha, hb, hc⟩ := hx hp
  exact ⟨b, off, ha, hb, fun i hi => hAt _ _ (hc i hi)⟩
theorem Spoilt.sl {S : Nat → Prop} {w w' : World} (k : Spoilt S w w') {p : Addr} {q : Sl} (h : w.cell? p = some (slV q)) : w'.cell? p = some (slV q) := k.rest p _ h (fun x e => by cases e)
theorem Spoilt.bool {S : Nat → Prop} {w w' : World} (k : Spoilt S w w') {p : Addr} {b : Bool} (h : w.cell? p = some (.bool b)) : w'.cell? p = some (.bool b) := k.rest p _ h (fun x e => by cases e)
theorem RingX.spoilt {S S' : Nat → Prop} {w w' : World} {b off : Nat} (h : RingX S w b off) (k : Spoilt S' w w') : RingX S w' b off := by
  obtain ⟨⟨R, q, ⟨h0, h1, h2, h3⟩, hi⟩, hf⟩ := h
  obtain ⟨x0, e0⟩ := k.ints _ _ h0
  obtain ⟨x1, e1⟩ := k.ints _ _ h1
  obtain ⟨x2, e2⟩ := k.ints _ _ h2
  exact ⟨⟨⟨x0, x1, x2, []⟩, q, ⟨e0, e1, e2, k.sl h3⟩, hi.spoilt k⟩, k.thaw _ (World.block_lt_of_cell? w ⟨b, off + 1, none⟩ h1) hf⟩
theorem RepX.spoilt {S S' : Nat → Prop} {w w' : World} {b off : Nat} (h : RepX S w b off) (k : Spoilt S' w w') : RepX S w' b off := by
  obtain ⟨vs, c, l, ⟨h0, h1, h2, h3, h4, h5⟩, i0, i1, i2⟩ := h
  exact ⟨vs, c, l, ⟨k.sl h0, k.sl h1, k.sl h2, k.sl h3, k.sl h4, k.sl h5⟩, fun i hi => (i0 i hi).spoilt k, i1.spoilt k, i2.spoilt k⟩
theorem ThX.spoilt {S S' : Nat → Prop} {w w' : World} {b off : Nat} (h : ThX S w b off) (k : Spoilt S' w w') : ThX S w' b off := by
  obtain ⟨⟨T, q, t, ⟨h0, h1, h2, h3, h4, h5, h6, h7, h8, h9, h10, h11⟩, i0, i1⟩, hf⟩ := h
  obtain ⟨x0, e0⟩ := k.ints _ _ h0
  obtain ⟨x1, e1⟩ := k.ints _ _ h1
  obtain ⟨x2, e2⟩ := k.ints _ _ h2
  obtain ⟨x3, e3⟩ := k.ints _ _ h3
  obtain ⟨x4, e4⟩ := k.ints _ _ h4
  obtain ⟨x5, e5⟩ := k.ints _ _ h5
  obtain ⟨x7, e7⟩ := k.ints _ _ h7
  obtain ⟨x10, e10⟩ := k.ints _ _ h10
  exact ⟨⟨⟨x0, x1, x2, x3, x4, x5, [], x7, T.po, T.re, x10, []⟩, q, t, ⟨e0, e1, e2, e3, e4, e5, k.sl h6, e7, k.bool h8, k.bool h9, e10, k.sl h11⟩, i0.spoilt k, i1.spoilt k⟩, k.thaw _ (World.block_lt_of_cell? w ⟨b, off, none⟩ h0) hf⟩
theorem EvX.spoilt {S' : Nat → Prop} {w w' : World} {b off : Nat} (h : EvX w b off) (k : Spoilt S' w w') : EvX w' b off := by
  obtain ⟨⟨x, h⟩, hf⟩ := h
  exact ⟨k.ints _ _ h, k.thaw _ (World.block_lt_of_cell? w ⟨b, off, none⟩ h) hf⟩
theorem IntsM.spoilt {w w' : World} {S S' : Nat → Prop} {v : Value} (h : IntsM w S v) (k : Spoilt S' w w') : IntsM w' S v := by
  obtain ⟨c, qR, qP, qT, qH, hv, h1, h2, h3, h4⟩ := h
  exact ⟨c, qR, qP, qT, qH, hv, h1.spoilt (fun _ _ h => h.spoilt k) k, h2.spoilt (fun _ _ h => h.spoilt k) k, h3.spoilt (fun _ _ h => h.spoilt k) k, h4.spoilt (fun _ _ h => h.spoilt k) k⟩

set_option maxHeartbeats 400000 in
theorem lawSpoilEvents (v : Value) (S : Nat → Prop) (w : World) (hx : IntsRow 6 EvX w S v) :
    Calls Try.prog 29 #[v] w fun e w' => e = .returned (.tuple #[]) ∧ Spoilt S w w' := by
  obtain ⟨a, L, cap, rfl, hc, hm, hx⟩ := hx
  rcases Nat.eq_zero_or_pos L with h0 | h0
  · subst h0
    go_enter Try.func29, Try.ntmps29
    go_wp2
    refine wp_loop_rounds 1 ?_
    rw [rounds_succ]
    go_wp2
    go_end0
    exact ⟨rfl, Spoilt.refl _ _⟩
  · obtain ⟨b, off, rfl, hb, hcell⟩ := hx h0
    clear hx
    go_enter Try.func29, Try.ntmps29
    go_wp2
    go_loopw [2] (fun i wr => ∃ k : Nat, k ≤ L ∧ i = .int .i64 k ∧ Spoilt S w wr) (fun i _ => L - (intOf i).toNat)
    case atStart => exact ⟨0, Nat.zero_le _, rfl, Spoilt.refl _ _⟩
    case round =>
      obtain ⟨k, hk, rfl, hsp⟩ := hrel
      by_cases hlt : k < L
      · obtain ⟨⟨x, hcl⟩, hfz⟩ := (hcell k hlt).spoilt hsp
        clear hcell
        go_wp2
        go_roundw
        case rel => exact ⟨k + 1, by omega, by go_num, hsp.trans (Spoilt.store hcl hb)⟩
        case measure => simp [intOf]; omega
      · go_wp2
        go_end0
        exact ⟨rfl, hsp⟩

set_option maxHeartbeats 4000000 in
theorem lawSpoilMachine (v : Value) (S : Nat → Prop) (w : World) (hx : IntsM w S v) (hbase : True) :
    Calls Try.prog 14 #[v] w fun e w' => e = .returned (.tuple #[]) ∧ Spoilt S w w' := by
  obtain ⟨c, qR, qP, qT, qH, rfl, hR, hP, hT, hH⟩ := hx
  have hb := Box.new w (cells9 c qR qP qT qH) 31
  have hs0 : Spoilt S w (w.alloc (.cells (cells9 c qR qP qT qH) 31)) := Spoilt.le hbase (Le.alloc _ _)
  replace hR := hR.spoilt (fun _ _ h => h.spoilt hs0) hs0
  replace hP := hP.spoilt (fun _ _ h => h.spoilt hs0) hs0
  replace hT := hT.spoilt (fun _ _ h => h.spoilt hs0) hs0
  replace hH := hH.spoilt (fun _ _ h => h.spoilt hs0) hs0
  have hsz0 : True := trivial
  obtain ⟨⟨_, _, _, _, _⟩, z5, z6, z7, z8⟩ := hb.mach
  have hev := lawSpoilEvents _ S _ hH
  clear hb
  generalize hW : w.alloc (.cells (cells9 c qR qP qT qH) 31) = W at *
  go_enter Try.func14, Try.ntmps14
  go_wp2_with fail
  refine hev.mono ?_
  rintro e w1 ⟨rfl, s1⟩
  clear hev hH
  obtain ⟨aR, nR, cR⟩ := qR
  obtain ⟨aP, nP, cP⟩ := qP
  obtain ⟨aT, nT, cT⟩ := qT
  simp only [slV] at z5 z6 z7 hR hP hT
  have y5 := s1.sl (q := (aR, nR, cR)) z5
  simp only [slV] at y5
  go_wp2_with fail
  go_loopw [2] (fun i wr => ∃ k : Nat, k ≤ nR ∧ i = .int .i64 k ∧ Spoilt S W wr) (fun i _ => nR - (intOf i).toNat)
  case atStart => exact ⟨0, Nat.zero_le _, rfl, s1⟩
  case round =>
    obtain ⟨k, hk, rfl, hsp⟩ := hrel
    clear y5 s1 w1
    have y5 := hsp.sl (q := (aR, nR, cR)) z5
    simp only [slV] at y5
    have hsz : True := trivial
    by_cases hlt : k < nR
    · obtain ⟨a', n', c', hv, hnc, hm, hx⟩ := hR
      simp only [Value.slice.injEq] at hv
      obtain ⟨rfl, rfl, rfl⟩ := hv
      obtain ⟨b, off, rfl, hbb, hcell⟩ := hx (by omega)
      obtain ⟨⟨R, q, ⟨r0, r1, r2, r3⟩, hi⟩, hfz⟩ := (hcell k hlt).spoilt hsp
      have hsr := lawSpoilRing (ringV R.h R.t R.f q) S _ ⟨_, _, _, _, rfl, hi⟩ hsz
      have hlt' : (k : Int) < (nR : Int) := by omega
      have hk0 : (0 : Int) ≤ (k : Int) := by omega
      clear hP hT z6 z7 z8 hx
      go_wp2_with fail
      refine hsr.mono ?_
      rintro e w2 ⟨rfl, s2⟩
      have hsp2 := hsp.trans s2
      obtain ⟨⟨R', q', ⟨r0', r1', r2', r3'⟩, hi'⟩, hfz'⟩ := (hcell k hlt).spoilt hsp2
      have y5' := s2.sl (q := (some ⟨b, off, none⟩, nR, cR)) y5
      simp only [slV] at y5'
      clear hcell r0 r1 r2 r3 hi hfz hsr y5 hsp s2 r0' r2' r3' hi' z5
      generalize R'.t = x at r1'
      go_wp2_with fail
      go_region
      go_wp2_with fail
      go_roundw
      case rel => exact ⟨k + 1, by omega, by go_num, hsp2.trans ((Spoilt.le trivial (Le.drew _)).trans (Spoilt.store r1' hbb))⟩
      case measure => simp [intOf]; omega
    · clear hR
      have y6 := hsp.sl (q := (aP, nP, cP)) z6
      simp only [slV] at y6
      go_wp2_with fail
      go_loopw [3] (fun i wr => ∃ k : Nat, k ≤ nP ∧ i = .int .i64 k ∧ Spoilt S W wr) (fun i _ => nP - (intOf i).toNat)
      case atStart => exact ⟨0, Nat.zero_le _, rfl, hsp⟩
      case round =>
        obtain ⟨j, hj, rfl, hsp'⟩ := hrel
        clear y5 y6 hsz hsp hlt hk
        rename_i _ wq
        have y6 := hsp'.sl (q := (aP, nP, cP)) z6
        simp only [slV] at y6
        have hsz : True := trivial
        by_cases hlt : j < nP
        · obtain ⟨a', n', c', hv, hnc, hm, hx⟩ := hP
          simp only [Value.slice.injEq] at hv
          obtain ⟨rfl, rfl, rfl⟩ := hv
          obtain ⟨b, off, rfl, hbb, hcell⟩ := hx (by omega)
          have hlt' : (j : Int) < (nP : Int) := by omega
          have hj0 : (0 : Int) ≤ (j : Int) := by omega
          clear hT z5 z7 z8 hx
          obtain ⟨vs, cc, ll, ⟨r0, r1, r2, r3, r4, r5⟩, i0, i1, i2⟩ := (hcell j hlt).spoilt hsp'
          have hsr := lawSpoilState (stV vs) S _ ⟨vs, rfl, i0⟩ hsz
          go_wp2_with fail
          refine hsr.mono ?_
          rintro e w2 ⟨rfl, s2⟩
          have hsr2 := lawSpoil _ S _ (i1.spoilt s2)
          have r4' := s2.sl r4
          have y6' := s2.sl (q := (some ⟨b, off, none⟩, nP, cP)) y6
          simp only [slV] at y6'
          go_wp2_with fail
          refine hsr2.mono ?_
          rintro e w3 ⟨rfl, s3⟩
          have hsr3 := lawSpoil _ S _ ((i2.spoilt s2).spoilt s3)
          have r5' := s3.sl (s2.sl r5)
          have y6'' := s3.sl (q := (some ⟨b, off, none⟩, nP, cP)) y6'
          simp only [slV] at y6''
          go_wp2_with fail
          refine hsr3.mono ?_
          rintro e w4 ⟨rfl, s4⟩
          go_wp2_with fail
          go_roundw
          case rel => exact ⟨j + 1, by omega, by go_num, ((hsp'.trans s2).trans s3).trans s4⟩
          case measure => simp [intOf]; omega
        · clear hP
          have y7 := hsp'.sl (q := (aT, nT, cT)) z7
          simp only [slV] at y7
          go_wp2_with fail
          go_loopw [4] (fun i wr => ∃ k : Nat, k ≤ nT ∧ i = .int .i64 k ∧ Spoilt S W wr) (fun i _ => nT - (intOf i).toNat)
          case atStart => exact ⟨0, Nat.zero_le _, rfl, hsp'⟩
          case round =>
            obtain ⟨i, hi, rfl, hsp⟩ := hrel
            clear y6 y7 hsz hsp' hlt hj
            have y7 := hsp.sl (q := (aT, nT, cT)) z7
            simp only [slV] at y7
            have hsz : True := trivial
            by_cases hlt : i < nT
            · obtain ⟨a', n', c', hv, hnc, hm, hx⟩ := hT
              simp only [Value.slice.injEq] at hv
              obtain ⟨rfl, rfl, rfl⟩ := hv
              obtain ⟨b, off, rfl, hbb, hcell⟩ := hx (by omega)
              have hlt' : (i : Int) < (nT : Int) := by omega
              have hi0 : (0 : Int) ≤ (i : Int) := by omega
              clear z5 z6 z8 hx
              obtain ⟨⟨T, q, t, ⟨_, _, _, _, _, _, r6, _, _, _, _, r11⟩, i0, i1⟩, _⟩ := (hcell i hlt).spoilt hsp
              have hsr := lawSpoil _ S _ i0
              go_wp2_with fail
              refine hsr.mono ?_
              rintro e w2 ⟨rfl, s2⟩
              have hsr2 := lawSpoil _ S _ (i1.spoilt s2)
              have r11' := s2.sl r11
              have y7' := s2.sl (q := (some ⟨b, off, none⟩, nT, cT)) y7
              simp only [slV] at y7'
              go_wp2_with fail
              refine hsr2.mono ?_
              rintro e w3 ⟨rfl, s3⟩
              have hsp3 := (hsp.trans s2).trans s3
              obtain ⟨⟨T', q', t', ⟨r0, _⟩, _⟩, hfz⟩ := (hcell i hlt).spoilt hsp3
              have y7'' := s3.sl (q := (some ⟨b, off, none⟩, nT, cT)) y7'
              simp only [slV] at y7''
              clear hcell hsr hsr2 y7 y7' hsp s2 s3 r6 r11 r11' i0 i1 z7
              generalize T'.st = x at r0
              go_wp2_with fail
              go_region
              go_wp2_with fail
              go_roundw
              case rel => exact ⟨i + 1, by omega, by go_num, hsp3.trans ((Spoilt.le trivial (Le.drew _)).trans (Spoilt.store r0 hbb))⟩
              case measure => simp [intOf]; omega
            · clear hT
              go_wp2_with fail
              go_end0
              exact ⟨rfl, hs0.trans hsp⟩


theorem own_ints {w : World} {base : Nat} {S : Nat → Prop} {v : Value} {xs : List Int} (h : Own w base v xs) (hS : ∀ g, base ≤ g → g < w.heap.size → S g) : Ints w S v := by
  obtain ⟨a, n, cap, hv, hn, hm, hx⟩ := Go.Proofs.Ytibleipfablniaa.Own.ints h
  refine ⟨a, n, cap, hv, hn, hm, fun hp => ?_⟩
  obtain ⟨b, off, ha, hb, hc⟩ := hx hp
  obtain ⟨⟨x, h1⟩, _⟩ := hc 0 hp
  exact ⟨b, off, ha, hS b hb (World.block_lt_of_cell? w _ h1), hc⟩
theorem ownL_ints {w : World} {base : Nat} {S : Nat → Prop} {v : Value} {ss : List Slt} (h : OwnL w base v ss) (hf : ss.length * 40 ≤ 140737488351232) (hS : ∀ g, base ≤ g → g < w.heap.size → S g) : IntsL w S v := by
  obtain ⟨a, n, cap, hv, hn, hm, hx⟩ := Go.Proofs.Ytibleipfablniaa.OwnL.ints h hf
  refine ⟨a, n, cap, hv, hn, hm, fun hp => ?_⟩
  obtain ⟨b, off, ha, hb, hc⟩ := hx hp
  obtain ⟨⟨x, h1⟩, _⟩ := hc 0 hp
  exact ⟨b, off, ha, hS b hb (World.block_lt_of_cell? w _ h1), hc⟩
theorem each {α : Type} {K : Kind α} {w : World} {base : Nat} {S : Nat → Prop} {v : Value} {xs : List α} (h : OwnE K w base v xs) (At : World → Nat → Nat → Prop) (hm : xs.length ≤ 9223372036854775807) (hS : ∀ g, base ≤ g → g < w.heap.size → S g)
    (hAt : ∀ b off x, x ∈ xs → (∀ j, j < K.k → w.cell? ⟨b, off + j, none⟩ = (K.f x)[j]?) → (∀ j, w.frozen? ⟨b, j, none⟩ = false) → At w b off) : IntsRow K.k At w S v := by
  obtain ⟨a, n, cap, hv, hn, hm', hx⟩ := Go.Proofs.Ytibleipfablniaa.OwnE.each h At hm hAt
  refine ⟨a, n, cap, hv, hn, hm', fun hp => ?_⟩
  obtain ⟨b, off, ha, hb, hc⟩ := hx hp
  refine ⟨b, off, ha, hS b hb ?_, hc⟩
  subst ha hv
  exact (h.block (g := b) rfl).2
theorem ownsM_ints {w : World} {base : Nat} {S : Nat → Prop} {L : Lay} (h : OwnsM w base L) (hf : FitM L.M) (hS : ∀ g, base ≤ g → g < w.heap.size → S g) : IntsM w S L.v := by
  have f1 := hf.rs
  have f2 := hf.ps
  have f3 := hf.ts
  have f4 := hf.es
  simp only [Lay.M, List.length_map] at f1 f2 f3 f4
  refine ⟨L.c, L.qR, L.qP, L.qT, L.qH, rfl, ?_, ?_, ?_, ?_⟩
  · refine each h.oR (RingX S) (by omega) hS fun b off x hx hc hz => ⟨⟨x.R, x.q, ⟨hc 0 (by decide), hc 1 (by decide), hc 2 (by decide), hc 3 (by decide)⟩, ownL_ints (h.iR x hx) (hf.r x.R (List.mem_map_of_mem hx)) hS⟩, hz _⟩
  · refine each h.oP (RepX S) (by omega) hS fun b off x hx hc hz => ⟨x.vs, x.c, x.l, ⟨hc 0 (by decide), hc 1 (by decide), hc 2 (by decide), hc 3 (by decide), hc 4 (by decide), hc 5 (by decide)⟩, fun i hi => own_ints ((h.iP x hx).1 i hi) hS, own_ints (h.iP x hx).2.1 hS, own_ints (h.iP x hx).2.2 hS⟩
  · refine each h.oT (ThX S) (by omega) hS fun b off x hx hc hz => ⟨⟨x.T, x.b, x.t, ⟨hc 0 (by decide), hc 1 (by decide), hc 2 (by decide), hc 3 (by decide), hc 4 (by decide), hc 5 (by decide), hc 6 (by decide), hc 7 (by decide), hc 8 (by decide), hc 9 (by decide), hc 10 (by decide), hc 11 (by decide)⟩, own_ints (h.iT x hx).1 hS, own_ints (h.iT x hx).2 hS⟩, hz _⟩
  · refine each h.oH EvX (by omega) hS fun b off x hx hc hz => ⟨⟨x.t, hc 0 (by decide)⟩, hz _⟩
/-- A row that lies outside stays. -/
theorem Spoilt.row {S : Nat → Prop} {w w' : World} (k : Spoilt S w w') {base kk n : Nat} {t : TypeId} {v : Value} {us : List Value} (h : w.ownsRow base t kk v n us) (hS : ∀ g, base ≤ g → ¬ S g) : w'.ownsRow base t kk v n us := by
  obtain ⟨h1, h2⟩ := h
  refine ⟨h1, ?_⟩
  rcases h2 with h2 | ⟨g, cap, cur, hv, hg, hh, r⟩
  · exact .inl h2
  · exact .inr ⟨g, cap, cur, hv, hg, by rw [k.keep g (block_lt hh) (hS g hg)]; exact hh, r⟩
theorem Spoilt.ownM {S : Nat → Prop} {w w' : World} (k : Spoilt S w w') {base : Nat} {v : Value} {M : Mc} (h : OwnM w base v M) (hS : ∀ g, base ≤ g → ¬ S g) : OwnM w' base v M := by
  obtain ⟨L, hv, hm, o⟩ := h
  exact ⟨L, hv, hm, ⟨k.row o.oR hS, k.row o.oP hS, k.row o.oT hS, k.row o.oH hS, fun y hy => k.row (o.iR y hy) hS, fun y hy => ⟨fun i hi => k.row ((o.iP y hy).1 i hi) hS, k.row (o.iP y hy).2.1 hS, k.row (o.iP y hy).2.2 hS⟩, fun y hy => ⟨k.row (o.iT y hy).1 hS, k.row (o.iT y hy).2 hS⟩⟩⟩
theorem Spoilt.box {S : Nat → Prop} {w w' : World} (k : Spoilt S w w') {g : Nat} {cs : Array Value} {t : TypeId} (h : Box w g cs t) (hS : ¬ S g) : Box w' g cs t := by
  unfold Box
  rw [k.keep g h.lt hS]
  exact h
theorem Spoilt.toLe {S : Nat → Prop} {w0 w w' : World} (k : Spoilt S w w') (l : Le w0 w) (hS : ∀ g, g < w0.heap.size → ¬ S g) : Le w0 w' :=
  ⟨k.os.trans l.os, k.tape.trans l.tape, k.output.trans l.output, Nat.le_trans l.size k.size, fun i hi => (k.keep i (Nat.lt_of_lt_of_le hi l.size) (hS i hi)).trans (l.block i hi)⟩

end Go.Proofs.Ytibleipfablniaa.Sp

/-
  THE WALKS over the document's own upTo, ConfigMay and ReplicaOf (chorusref13): what each answers, for every Config and every thread. No condition.
-/
namespace Go.Proofs.Ytibleipfablniaa
open Go.RowKit

theorem rmUpTo (x a b : Int) (w : World) : Calls Try.prog 33 #[.int .i64 x, .int .i64 a, .int .i64 b] w fun e w' => e = .returned (.bool (inB a x b)) ∧ w = w' := by
  by_cases h : a ≤ x
  all_goals
    go_enter Try.func33, Try.ntmps33
    go_wp2
    go_ret
    exact ⟨ret_bool (by simp [inB, h]; try omega), rfl⟩

set_option maxHeartbeats 2000000 in
theorem rmConfigMay (o r l t s : Int) (w : World) : Calls Try.prog 15 #[cfgV o r l t s] w fun e w' => e = .returned (.bool (cfgB o r l t s)) ∧ Le w w' := by
  have h1 := fun w' => rmUpTo o 0 2 w'
  have h2 := fun w' => rmUpTo r 1 2 w'
  have h3 := fun w' => rmUpTo l 1 2 w'
  have h4 := fun w' => rmUpTo t 1 4 w'
  have h5 := fun w' => refSlotsMay s w'
  cases k1 : inB 0 o 2
  · rw [k1] at h1
    go_enter Try.func15, Try.ntmps15
    go_wp2_with fail
    refine (h1 _).mono ?_; rintro e _ ⟨rfl, rfl⟩
    go_wp2_with fail
    go_ret
    exact ⟨ret_bool (by simp [cfgB, k1]), Le.alloc _ _⟩
  rw [k1] at h1
  cases k2 : inB 1 r 2
  · rw [k2] at h2
    go_enter Try.func15, Try.ntmps15
    go_wp2_with fail
    refine (h1 _).mono ?_; rintro e _ ⟨rfl, rfl⟩
    go_wp2_with fail
    refine (h2 _).mono ?_; rintro e _ ⟨rfl, rfl⟩
    go_wp2_with fail
    go_ret
    exact ⟨ret_bool (by simp [cfgB, k2]), Le.alloc _ _⟩
  rw [k2] at h2
  cases k3 : inB 1 l 2
  · rw [k3] at h3
    go_enter Try.func15, Try.ntmps15
    go_wp2_with fail
    refine (h1 _).mono ?_; rintro e _ ⟨rfl, rfl⟩
    go_wp2_with fail
    refine (h2 _).mono ?_; rintro e _ ⟨rfl, rfl⟩
    go_wp2_with fail
    refine (h3 _).mono ?_; rintro e _ ⟨rfl, rfl⟩
    go_wp2_with fail
    go_ret
    exact ⟨ret_bool (by simp [cfgB, k3]), Le.alloc _ _⟩
  rw [k3] at h3
  cases k4 : inB 1 t 4
  · rw [k4] at h4
    go_enter Try.func15, Try.ntmps15
    go_wp2_with fail
    refine (h1 _).mono ?_; rintro e _ ⟨rfl, rfl⟩
    go_wp2_with fail
    refine (h2 _).mono ?_; rintro e _ ⟨rfl, rfl⟩
    go_wp2_with fail
    refine (h3 _).mono ?_; rintro e _ ⟨rfl, rfl⟩
    go_wp2_with fail
    refine (h4 _).mono ?_; rintro e _ ⟨rfl, rfl⟩
    go_wp2_with fail
    go_ret
    exact ⟨ret_bool (by simp [cfgB, k4]), Le.alloc _ _⟩
  rw [k4] at h4
  obtain ⟨t0, t1⟩ := inB_cases k4
  have hb : cfgB o r l t s = (slotsB s && decide (2 * t ≤ s)) := by simp [cfgB, k1, k2, k3, k4]
  rw [hb]
  cases k5 : slotsB s
  all_goals
    rw [k5] at h5
    go_enter Try.func15, Try.ntmps15
    go_wp2_with fail
    refine (h1 _).mono ?_; rintro e _ ⟨rfl, rfl⟩
    go_wp2_with fail
    refine (h2 _).mono ?_; rintro e _ ⟨rfl, rfl⟩
    go_wp2_with fail
    refine (h3 _).mono ?_; rintro e _ ⟨rfl, rfl⟩
    go_wp2_with fail
    refine (h4 _).mono ?_; rintro e _ ⟨rfl, rfl⟩
    go_wp2_with fail
    refine (h5 _).mono ?_; rintro e _ ⟨rfl, rfl⟩
    go_wp2_with fail
    go_ret
    exact ⟨ret_bool (by simp), Le.alloc _ _⟩

end Go.Proofs.Ytibleipfablniaa
