/-
  THE WALK over choruslaw6.ObjectOwn: it answers true, for every object, state and operation, and turns nothing that was there. Condition: the state's rows can be copied.
-/
import Derived.Test.YtmfjiadamdajeaaObAwake
import Derived.Test.YtmfjiadamdajeaaObjR
import Derived.Test.YtmfjiadamdajeaaRefMay
import Derived.Test.YtmfjiadamdajeaaApp
import Derived.Test.YtmfjiadamdajeaaHasBox
import Derived.Deep.RegionHeld3
namespace Go.Proofs.Ytmfjiadamdajeaa
open Go.RowKit

set_option maxRecDepth 4000 in
set_option maxHeartbeats 2000000 in
theorem lawOwnNo (w : World) (o : Int) (v : Value) (s : St) (hx : HasS w v s) (hf : Fit s) (c r a : Int) (hno : (objMay o s && opMay c r a) = false ∨ c = 3) :
    Calls Try.prog 5 #[.int .i64 o, v, opV c r a] w fun e w' => e = .returned (.bool true) ∧ Le w w' := by
  have hx0 := hx
  obtain ⟨vs, rfl, hr⟩ := hx
  have hl := (Le.alloc w (.cells (cells4 vs) 25)).trans (Le.alloc _ (.cells #[.int .i64 c, .int .i64 r, .int .i64 a] 27))
  have hb1 := (Box.new w (cells4 vs) 25).le (Le.alloc _ (.cells #[.int .i64 c, .int .i64 r, .int .i64 a] 27))
  have hb2 := Box.new (w.alloc (.cells (cells4 vs) 25)) #[.int .i64 c, .int .i64 r, .int .i64 a] 27
  simp only [World.size_alloc] at hb1 hb2
  have hap := fun (w' : World) (h : Le w w') => objApply o (stV vs) s c r a w' (hx0.le h) hf
  cases hmo : objMay o s && opMay c r a
  · rw [objS_no hmo] at hap
    clear hno hmo
    go_enter Try.func5, Try.ntmps5
    go_wp2_with fail
    refine (lawAwake6 _).mono ?_
    rintro e w1 ⟨rfl, l1⟩
    replace hl := hl.trans l1
    replace hb1 := hb1.le l1
    replace hb2 := hb2.le l1
    clear l1
    obtain ⟨y0, y1, y2, y3, _, _, _, _⟩ := hb1.st
    obtain ⟨x0, x1, x2, _, _, _⟩ := hb2.op
    go_wp2_with fail
    refine (hap _ hl).mono ?_
    rintro e w2 ⟨_, rfl, ⟨q2, rfl, o2⟩, l2⟩
    replace l2 := l2.trans (Le.alloc w2 (.cells (cells4 q2) 25))
    replace o2 := fun i hi => (o2 i hi).le (Le.alloc w2 (.cells (cells4 q2) 25))
    replace hl := hl.trans l2
    clear l2 hap y0 y1 y2 y3 x0 x1 x2
    go_wp2_with (go_at_call 11; refine (lawNum _ _).mono ?_; rintro e _ ⟨rfl, rfl⟩)
    refine (lawSameState (stV q2) stZ St.zero St.zero _ (OwnS.has ⟨q2, rfl, o2⟩) (HasS.zero _) fit_zero).mono ?_
    rw [show decide (St.zero = St.zero) = true by decide]
    rintro e w5 ⟨rfl, l5⟩
    go_wp2_with fail
    go_ret
    exact ⟨rfl, hl.trans l5⟩
  · obtain rfl : c = 3 := by rcases hno with h | h; (rw [hmo] at h; cases h); exact h
    rw [objS_yes _ hmo] at hap
    clear hno hmo
    go_enter Try.func5, Try.ntmps5
    go_wp2_with fail
    refine (lawAwake6 _).mono ?_
    rintro e w1 ⟨rfl, l1⟩
    replace hl := hl.trans l1
    replace hb1 := hb1.le l1
    replace hb2 := hb2.le l1
    clear l1
    obtain ⟨y0, y1, y2, y3, _, _, _, _⟩ := hb1.st
    obtain ⟨x0, x1, x2, _, _, _⟩ := hb2.op
    go_wp2_with fail
    refine (hap _ hl).mono ?_
    rintro e w2 ⟨_, rfl, ⟨q2, rfl, o2⟩, l2⟩
    replace l2 := l2.trans (Le.alloc w2 (.cells (cells4 q2) 25))
    replace hl := hl.trans l2
    replace hb2 := hb2.le l2
    clear l2 hap y0 y1 y2 y3 x0 x1 x2
    obtain ⟨x0, x1, x2, _, _, _⟩ := hb2.op
    go_wp2_with (go_at_call 11; refine (lawNum _ _).mono ?_; rintro e _ ⟨rfl, rfl⟩)
    go_ret
    exact ⟨rfl, hl⟩

set_option maxRecDepth 4000 in
set_option maxHeartbeats 4000000 in
theorem lawOwnYes (w : World) (o : Int) (v : Value) (s : St) (hx : HasS w v s) (hf : Fit s) (c a : Int) (k : Nat) (hk : k < 4) (hm : objMay o s = true) (ho : opMay c k a = true) (hc : c ≠ 3) :
    Calls Try.prog 5 #[.int .i64 o, v, opV c k a] w fun e w' => e = .returned (.bool true) ∧ Le w w' := by
  have hx0 := hx
  obtain ⟨vs, rfl, hr⟩ := hx
  have hl := (Le.alloc w (.cells (cells4 vs) 25)).trans (Le.alloc _ (.cells #[.int .i64 c, .int .i64 k, .int .i64 a] 27))
  have hb1 := (Box.new w (cells4 vs) 25).le (Le.alloc _ (.cells #[.int .i64 c, .int .i64 k, .int .i64 a] 27))
  have hb2 := Box.new (w.alloc (.cells (cells4 vs) 25)) #[.int .i64 c, .int .i64 k, .int .i64 a] 27
  simp only [World.size_alloc] at hb1 hb2
  have hrow := objMay_row hm hk
  have hrow' := rowF_may hm hrow ho
  have hm2 : objMay o (s.put k (rowF o c (s.at k) a).1) = true := objMay_put hm hk hrow'
  have hm3 : objMay o (St.zero.put k (s.at k)) = true := objMay_put (objMay_zero hm) hk hrow
  have hf2 : Fit (s.put k (rowF o c (s.at k) a).1) := by have := hf.obj o c k a 600; rw [objS_row 600 hm ho hc] at this; exact this
  have hf3 : Fit (St.zero.put k (s.at k)) := fun i hi => by rw [St.at_put hk hi]; split; exact hf k hk; rw [St.at_zero]; decide
  have hap := fun (w' : World) (h : Le w w') => objApply o (stV vs) s c k a w' (hx0.le h) hf
  have haq := fun (w' : World) (v' : Value) (h : HasS w' v' (St.zero.put k (s.at k))) => objApply o v' (St.zero.put k (s.at k)) c k a w' h hf3
  have ham := fun (w' : World) (v' : Value) (h : HasS w' v' (s.put k (rowF o c (s.at k) a).1)) => objMayC o v' _ w' h hf2
  rw [objS_row 600 hm ho hc] at hap
  rw [objS_row 600 hm3 ho hc, St.put_at hk, St.put_put] at haq
  rw [hm2] at ham
  have hfk := hf k hk
  have hxk := (hr k hk)
  have hfy := hf2 k hk
  rw [St.put_at hk] at hfy
  generalize rowF o c (s.at k) a = Y at hap haq ham hf2 hfy hrow' hm2
  obtain ⟨ys, x⟩ := Y
  simp only at hap haq ham hf2 hfy
  clear hm2 hm3 hm hrow hrow'
  have hc3 : (c == 3) = false := by simp [hc]
  have k0 : (0 : Int) ≤ (k : Int) := by omega
  have k1 : (k : Int) < 4 := by omega
  go_enter Try.func5, Try.ntmps5
  go_wp2_with fail
  refine (lawAwake6 _).mono ?_
  rintro e w1 ⟨rfl, l1⟩
  replace hl := hl.trans l1
  replace hb1 := hb1.le l1
  replace hb2 := hb2.le l1
  clear l1
  obtain ⟨y0, y1, y2, y3, _, _, _, _⟩ := hb1.st
  obtain ⟨x0, x1, x2, _, _, _⟩ := hb2.op
  go_wp2_with fail
  refine (hap _ hl).mono ?_
  rintro e w2 ⟨_, rfl, ⟨q2, rfl, o2⟩, l2⟩
  have hb3 := Box.new w2 (cells4 q2) 25
  have n0 := (hb2.le l2).lt
  replace l2 := l2.trans (Le.alloc w2 (.cells (cells4 q2) 25))
  replace o2 := fun i hi => (o2 i hi).le (Le.alloc w2 (.cells (cells4 q2) 25))
  replace hl := hl.trans l2
  replace hb1 := hb1.le l2
  replace hb2 := hb2.le l2
  clear l2 hap y0 y1 y2 y3 x0 x1 x2
  obtain ⟨x0, x1, x2, _, _, _⟩ := hb2.op
  go_wp2_with (go_at_call 11; refine (lawNum _ _).mono ?_; rintro e _ ⟨rfl, rfl⟩)
  refine (refOperMay _ _ _ _).mono ?_
  rw [ho]
  rintro e w3 ⟨rfl, l3⟩
  replace hl := hl.trans l3
  replace hb1 := hb1.le l3
  replace hb2 := hb2.le l3
  replace hb3 := hb3.le l3
  replace o2 := fun i hi => (o2 i hi).le l3
  clear l3 x0 x1 x2
  have n1 := hb3.lt
  have hb4 := Box.new w3 (cells4 fun _ => slZ) 25
  have hA := Le.alloc w3 (.cells (cells4 fun _ => slZ) 25)
  replace hl := hl.trans hA
  replace hb1 := hb1.le hA
  replace hb2 := hb2.le hA
  replace hb3 := hb3.le hA
  replace o2 := fun i hi => (o2 i hi).le hA
  clear hA
  go_upto_region 9 with fail
  generalize hW : w3.alloc (.cells (cells4 fun _ => slZ) 25) = W at hb1 hb2 hb3 hb4 hl o2 ⊢
  clear hW
  generalize w3.heap.size = g4 at hb4 n1 ⊢
  have hA := (Le.drew W).trans (Le.alloc W.drew (.cells #[] 3))
  have hn1 : Own (W.drew.alloc (.cells #[] 3)) W.heap.size (.slice (some ⟨W.heap.size, 0, none⟩) 0 0) [] := Own.lit W.drew _ (Nat.le_refl _) [] (by decide)
  have c1 : W.cell? ⟨w.heap.size + 1, 1, none⟩ = some (.int .i64 k) := hb2.cell 1
  have c2 : W.cell? ⟨w.heap.size, k, none⟩ = some (slV (vs k)) := (hb1.cell k).trans (cells4_at vs hk)
  have m1 : ¬ W.heap.size = w.heap.size := by have := hb1.lt; omega
  have m2 : ¬ W.heap.size = w.heap.size + 1 := by have := hb2.lt; omega
  have m3 : ¬ g4 = w.heap.size := by omega
  have m4 : ¬ g4 = w.heap.size + 1 := by omega
  go_region_held3 (fun w' => w'.cell? ⟨w.heap.size + 1, 1, none⟩ = some (.int .i64 k) ∧ w'.cell? ⟨w.heap.size, k, none⟩ = some (slV (vs k))) (go_keep) ((refine step_append_ints rfl (.tmp 56) (.tmp 61) rfl W.heap.size (.slice (some ⟨W.heap.size, 0, none⟩) 0 0) (slV (vs k)) [] (s.at k) (by simp [Act.eval]) (by simp [Act.eval]) hn1 (hxk.le (hl.trans hA)) (by simp; omega) hA.size ?_; intro v1 w4 o4 gr; have l4 : Le W w4 := Below.grown hA gr hA.size (fun g e => (by cases e; exact Nat.le_refl _)); rw [List.nil_append] at o4; obtain ⟨q4, rfl⟩ := o4.has.sl; have c1' : w4.cell? ⟨w.heap.size + 1, 1, none⟩ = some (.int .i64 k) := (hb2.le l4).cell 1; have c2' : w4.cell? ⟨w.heap.size, k, none⟩ = some (slV (vs k)) := ((hb1.le l4).cell k).trans (cells4_at vs hk); have c3' : w4.cell? ⟨g4, k, none⟩ = some (slV slZ) := ((hb4.le l4).cell k).trans (cells4_at _ hk); have f3' := (hb4.le l4).frozen k))
  clear c1 c2 c1' c2' c3' f3' m1 m2 hn1 hA gr
  have hs4 : w.heap.size ≤ g4 := by omega
  have hT : HasS (w4.setCell ⟨g4, k, none⟩ (slV q4)) (stV (upd (fun _ => slZ) k q4)) (St.zero.put k (s.at k)) := by
    refine ⟨_, rfl, fun i hi => ?_⟩
    rw [St.at_put hk hi]
    by_cases e : i = k
    · rw [if_pos e, show upd (fun _ => slZ) k q4 i = q4 by simp [upd, e]]; exact (o4.setBox (hb4.le l4) (by decide)).has
    · rw [if_neg e, show upd (fun _ => slZ) k q4 i = slZ by simp [upd, e], St.at_zero]; exact Has.nil _
  have hb5 := (hb4.le l4).upd4 hk q4
  replace hb1 := (hb1.le l4).other (g' := g4) (by omega) k (slV q4)
  replace hb2 := (hb2.le l4).other (g' := g4) (by omega) k (slV q4)
  replace hb3 := (hb3.le l4).other (g' := g4) (by omega) k (slV q4)
  replace o2 := fun i hi => ((o2 i hi).le l4).setBox (i := k) (u := slV q4) (hb4.le l4) (by decide)
  replace hl : Le w (w4.setCell ⟨g4, k, none⟩ (slV q4)) := Below.setCell (hl.trans l4) hs4 _
  clear hb4 o4 m3 m4 l4
  generalize hW : w4.setCell ⟨g4, k, none⟩ (slV q4) = W5 at hb1 hb2 hb3 hb5 hl o2 hT ⊢
  generalize upd (fun _ => slZ) k q4 = q5 at hb5 hT
  clear hW
  obtain ⟨z0, z1, z2, z3, _, _, _, _⟩ := hb5.st
  obtain ⟨x0, x1, x2, _, _, _⟩ := hb2.op
  go_wp2_with fail
  refine (haq _ _ hT).mono ?_
  rintro e w6 ⟨_, rfl, ⟨q6, rfl, o6⟩, l6⟩
  have hb6 := Box.new w6 (cells4 q6) 25
  replace l6 := l6.trans (Le.alloc w6 (.cells (cells4 q6) 25))
  replace o6 := fun i hi => (o6 i hi).le (Le.alloc w6 (.cells (cells4 q6) 25))
  replace hl := hl.trans l6
  replace hb1 := hb1.le l6
  replace hb2 := hb2.le l6
  replace hb3 := hb3.le l6
  replace o2 := fun i hi => (o2 i hi).le l6
  clear l6 haq hT hb5 z0 z1 z2 z3 x0 x1 x2
  go_wp2_with fail
  generalize hW : w6.alloc (.cells (cells4 q6) 25) = W6 at hb1 hb2 hb3 hb6 hl o2 o6 ⊢
  generalize w6.heap.size = g6 at hb6 ⊢
  clear hW
  replace hr := fun i hi => (hr i hi).le hl
  go_loopw [14] (fun i wr => ∃ j : Nat, j ≤ 4 ∧ i = .int .i64 j ∧ Le W6 wr) (fun i _ => 4 - (intOf i).toNat)
  case atStart => exact ⟨0, by omega, rfl, Le.refl _⟩
  case round =>
    obtain ⟨j, hj, rfl, lr⟩ := hrel
    by_cases hlt : j < 4
    · obtain ⟨p0, p1, p2⟩ := (hb2.le lr).later3
      have x1 : ∀ X : Later wr, X.w.cell? ⟨w.heap.size, j, none⟩ = some (slV (vs j)) := fun X => (((hb1.le lr).le X.le).cell j).trans (cells4_at vs hlt)
      have x2 : ∀ X : Later wr, X.w.cell? ⟨w2.heap.size, j, none⟩ = some (slV (q2 j)) := fun X => (((hb3.le lr).le X.le).cell j).trans (cells4_at q2 hlt)
      have j0 : (0 : Int) ≤ (j : Int) := by omega
      have j1 : (j : Int) < 4 := by omega
      by_cases hjk : j = k
      · subst hjk
        go_wp2_with fail
        refine wp_region_later (by kernel_rfl) (by kernel_rfl) ?_
        repeat (go_big_quiet_step (fail))
        refine wpQuiet_nil ?_
        rintro _ ⟨X, rfl⟩
        go_wp2
        go_roundw
        case rel => exact ⟨j + 1, by omega, by go_num, lr.trans X.le⟩
        case measure => simp [intOf]; omega
      · have hjk' : ((j : Int) != (k : Int)) = true := by simp; omega
        have hl6 : (q6 j).2.1 = 0 := by
          obtain ⟨ad, cap, e, _⟩ := (o6 j hlt).has
          rw [St.at_put hk hlt, if_neg hjk, St.at_zero] at e
          simp only [Value.slice.injEq] at e
          exact e.2.1
        have x3 : ∀ X : Later wr, X.w.cell? ⟨g6, j, none⟩ = some (.slice (q6 j).1 0 (q6 j).2.2) := fun X => (((hb6.le lr).le X.le).cell j).trans ((cells4_at q6 hlt).trans (by rw [← hl6]))
        have hsm := fun X : Later wr => lawSameI (slV (q2 j)) (slV (vs j)) ((s.put k ys).at j) (s.at j) X.w ((o2 j hlt).has.le (lr.trans X.le)) ((hr j hlt).le (lr.trans X.le)) (hf2 j hlt)
        rw [show decide ((s.put k ys).at j = s.at j) = true by rw [St.at_put hk hlt, if_neg hjk]; simp] at hsm
        clear hl6
        go_wp2_with fail
        refine wp_region_later (by kernel_rfl) (by kernel_rfl) ?_
        repeat (go_big_quiet_step (first | (go_at_call 17; exact Calls.later (hsm _))))
        refine wpQuiet_nil ?_
        rintro _ ⟨X, rfl⟩
        go_wp2
        go_roundw
        case rel => exact ⟨j + 1, by omega, by go_num, lr.trans X.le⟩
        case measure => simp [intOf]; omega
    · obtain rfl : j = 4 := by omega
      clear hlt hj
      obtain ⟨p0, p1, p2⟩ := (hb2.le lr).later3
      obtain ⟨y0, y1, y2, y3⟩ := (hb3.le lr).laterSt
      have x2 : ∀ X : Later wr, X.w.cell? ⟨w2.heap.size, k, none⟩ = some (slV (q2 k)) := fun X => (((hb3.le lr).le X.le).cell k).trans (cells4_at q2 hk)
      have x3 : ∀ X : Later wr, X.w.cell? ⟨g6, k, none⟩ = some (slV (q6 k)) := fun X => (((hb6.le lr).le X.le).cell k).trans (cells4_at q6 hk)
      have hsm := fun X : Later wr => lawSameI (slV (q2 k)) (slV (q6 k)) ((s.put k ys).at k) ((St.zero.put k ys).at k) X.w ((o2 k hk).has.le (lr.trans X.le)) ((o6 k hk).has.le (lr.trans X.le)) (hf2 k hk)
      rw [show decide ((s.put k ys).at k = (St.zero.put k ys).at k) = true by rw [St.put_at hk, St.put_at hk]; simp] at hsm
      have hmy := fun X : Later wr => ham X.w (stV q2) (OwnS.has ⟨q2, rfl, fun i hi => (o2 i hi).le (lr.trans X.le)⟩)
      go_wp2_with fail
      refine wp_region_later (by kernel_rfl) (by kernel_rfl) ?_
      repeat (go_big_quiet_step (first | (go_at_call 17; exact Calls.later (hsm _)) | (go_at_call 11; exact Calls.later_same (lawNum _ _)) | (go_at_call 12; exact Calls.later (hmy _))))
      refine wpQuiet_nil ?_
      rintro _ ⟨X, rfl⟩
      go_wp2
      go_ret
      exact ⟨rfl, hl.trans (lr.trans X.le)⟩

theorem lawOwn (w : World) (o : Int) (v : Value) (s : St) (hx : HasS w v s) (hf : Fit s) (c r a : Int) :
    Calls Try.prog 5 #[.int .i64 o, v, opV c r a] w fun e w' => e = .returned (.bool true) ∧ Le w w' := by
  by_cases hc : c = 3
  · exact lawOwnNo w o v s hx hf c r a (.inr hc)
  cases hmo : objMay o s && opMay c r a
  · exact lawOwnNo w o v s hx hf c r a (.inl hmo)
  · obtain ⟨hm, ho⟩ := Bool.and_eq_true_iff.mp hmo
    obtain ⟨_, _, r0, r3, _, _⟩ := opMay_bounds ho
    obtain ⟨k, rfl⟩ : ∃ k : Nat, r = k := ⟨r.toNat, by omega⟩
    exact lawOwnYes w o v s hx hf c a k (by omega) hm ho hc

end Go.Proofs.Ytmfjiadamdajeaa
