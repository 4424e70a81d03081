/-
  THE WALK over choruslaw3.StoreKeeps: it answers true, for every state and operation, and turns nothing that was there. Condition: the state's rows can be copied.
-/
import Derived.Test.YtdcmmchlmjhgjaaStAwake
import Derived.Test.YtdcmmchlmjhgjaaStPut
import Derived.Test.YtdcmmchlmjhgjaaLater
namespace Go.Proofs.Ytdcmmchlmjhgjaa
open Go.RowKit

/-- What an operation that may be leaves of a store. -/
theorem sto_keeps {s : St} {c r a : Int} (hm : s.all rowMay1 = true) (ho : opMay c r a = true) :
    ∃ S1 x, stoS s c r a 300 = (S1, x, 0) ∧ S1.all rowMay1 = true ∧ (∀ j : Nat, j < 4 → ((j : Int) ≠ r ∨ 2 ≤ c) → S1.at j = s.at j) ∧ (∀ j : Nat, j < 4 → (j : Int) = r → c = 0 → firstS (S1.at j) = a) ∧ (∀ j : Nat, j < 4 → (j : Int) = r → c = 1 → firstS (S1.at j) = -1) := by
  rcases opMay_cases ho with ⟨k, hk, rfl, rfl, ha⟩ | ⟨k, hk, rfl, rfl, ha⟩ | ⟨k, hk, rfl, rfl, rfl⟩ | ⟨rfl, rfl, rfl⟩
  · refine ⟨_, _, stoS_first hm hk ha, St.all_put' hk hm (may_one ha), fun j hj h => ?_, fun j hj h _ => ?_, fun j hj h h' => by omega⟩
    · rw [St.at_put hk hj, if_neg (by omega)]
    · rw [St.at_put hk hj, if_pos (by omega)]; rfl
  · refine ⟨_, _, stoS_second hm hk ha, St.all_put' hk hm rfl, fun j hj h => ?_, fun j hj h h' => by omega, fun j hj h _ => ?_⟩
    · rw [St.at_put hk hj, if_neg (by omega)]
    · rw [St.at_put hk hj, if_pos (by omega)]; rfl
  · exact ⟨_, _, stoS_look hm hk, hm, fun j hj h => rfl, fun j hj h h' => by omega, fun j hj h h' => by omega⟩
  · exact ⟨_, _, stoS_scan hm, hm, fun j hj h => rfl, fun j hj h h' => by omega, fun j hj h h' => by omega⟩

theorem max_first {xs : List Int} (h : rowMay1 xs = true) : max 0 (firstS xs) = xs.sum := by
  rcases rowMay1_cases h with e | ⟨x, e, h0, h1⟩
  · subst e; rfl
  · subst e; simp [firstS]; omega

theorem first_bounds {xs : List Int} (h : rowMay1 xs = true) : -1 ≤ firstS xs ∧ firstS xs ≤ 255 := by
  rcases rowMay1_cases h with e | ⟨x, e, h0, h1⟩
  · subst e; decide
  · subst e; simp [firstS]; omega

set_option maxRecDepth 4000 in
set_option maxHeartbeats 2000000 in
theorem lawKeeps (w : World) (v : Value) (s : St) (hx : HasS w v s) (hf : Fit s) (c r a : Int) :
    Calls Try.prog 4 #[v, opV c r a] w fun e w' => e = .returned (.bool true) ∧ Le w w' := by
  have hx0 := hx
  obtain ⟨vs, rfl, hr⟩ := hx
  have hl := (Le.alloc w (.cells (cells4 vs) 25)).trans (Le.alloc _ (.cells #[.int .i64 c, .int .i64 r, .int .i64 a] 27))
  have hb1 := (Box.new w (cells4 vs) 25).le (Le.alloc _ (.cells #[.int .i64 c, .int .i64 r, .int .i64 a] 27))
  have hb2 := Box.new (w.alloc (.cells (cells4 vs) 25)) #[.int .i64 c, .int .i64 r, .int .i64 a] 27
  simp only [World.size_alloc] at hb1 hb2
  cases hmo : s.all rowMay1 && opMay c r a
  · go_enter Try.func4, Try.ntmps4
    go_wp2_with fail
    refine (lawAwake3 _).mono ?_
    rintro e w1 ⟨rfl, l1⟩
    obtain ⟨y0, y1, y2, _, _, _⟩ := (hb2.le l1).op
    obtain ⟨x0, x1, x2, x3, _, _, _, _⟩ := (hb1.le l1).st
    go_wp2_with fail
    refine (storeApply (stV vs) s c r a _ (hx0.le (hl.trans l1)) hf).mono ?_
    rw [stoS_no hmo]
    rintro e w2 ⟨_, rfl, ⟨q2, rfl, o2⟩, l2⟩
    replace l2 := l2.trans (Le.alloc w2 (.cells (cells4 q2) 25))
    replace o2 := fun i hi => (o2 i hi).le (Le.alloc w2 (.cells (cells4 q2) 25))
    go_wp2_with (go_at_call 12; refine (lawNum _ _).mono ?_; rintro e _ ⟨rfl, rfl⟩)
    refine (lawSameState (stV q2) stZ St.zero St.zero _ (OwnS.has ⟨q2, rfl, o2⟩) (HasS.zero _) fit_zero).mono ?_
    rw [show decide (St.zero = St.zero) = true by decide]
    rintro e w3 ⟨rfl, l3⟩
    go_wp2_with fail
    go_ret
    exact ⟨rfl, ((hl.trans l1).trans l2).trans l3⟩
  · obtain ⟨hm, ho⟩ := Bool.and_eq_true_iff.mp hmo
    obtain ⟨S1, x, eS, hm1, k1, k2, k3⟩ := sto_keeps hm ho
    have hf1 : Fit S1 := by have := hf.sto c r a 300; rw [eS] at this; exact this
    go_enter Try.func4, Try.ntmps4
    go_wp2_with fail
    refine (lawAwake3 _).mono ?_
    rintro e w1 ⟨rfl, l1⟩
    obtain ⟨y0, y1, y2, _, _, _⟩ := (hb2.le l1).op
    obtain ⟨x0, x1, x2, x3, _, _, _, _⟩ := (hb1.le l1).st
    go_wp2_with fail
    refine (storeApply (stV vs) s c r a _ (hx0.le (hl.trans l1)) hf).mono ?_
    rw [eS]
    rintro e w2 ⟨_, rfl, ⟨q2, rfl, o2⟩, l2⟩
    have hb3 := Box.new w2 (cells4 q2) 25
    replace l2 := l2.trans (Le.alloc w2 (.cells (cells4 q2) 25))
    replace o2 := fun i hi => (o2 i hi).le (Le.alloc w2 (.cells (cells4 q2) 25))
    replace l1 := l1.trans l2
    clear l2 x0 x1 x2 x3 y0 y1 y2 hm hmo eS
    obtain ⟨hc0, hc3, _, _, _, _⟩ := opMay_bounds ho
    clear ho
    go_wp2_with (go_at_call 12; refine (lawNum _ _).mono ?_; rintro e _ ⟨rfl, rfl⟩)
    generalize hW : w2.alloc (.cells (cells4 q2) 25) = W at hb3 l1 o2 ⊢
    clear hW
    replace hb1 := hb1.le l1
    replace hb2 := hb2.le l1
    replace hl := hl.trans l1
    replace hr := fun i hi => (hr i hi).le hl
    clear l1
    go_loopw [8, 9] (fun t i wr => ∃ j : Nat, j ≤ 4 ∧ i = .int .i64 j ∧ t = .int .i64 (sumTo S1 j) ∧ Le W wr) (fun _ i _ => 4 - (intOf i).toNat)
    case atStart => exact ⟨0, by omega, rfl, rfl, Le.refl _⟩
    case round =>
      obtain ⟨j, hj, rfl, rfl, lr⟩ := hrel
      by_cases hlt : j < 4
      · have mj := St.all_at hm1 hlt
        obtain ⟨b0, b1⟩ := sumTo_bounds hm1 j hj
        obtain ⟨b2, b3⟩ := first_bounds mj
        have hs : sumTo S1 (j + 1) = sumTo S1 j + max 0 (firstS (S1.at j)) := by rw [max_first mj]; rfl
        have el := stoS_look (er := 300) hm1 hlt
        obtain ⟨f, hfj⟩ : ∃ f, f = firstS (S1.at j) := ⟨_, rfl⟩
        rw [← hfj] at hs el b2 b3
        obtain ⟨mx, hmx⟩ : ∃ mx, (if 0 < f then f else 0) = mx := ⟨_, rfl⟩
        have hmx' : max 0 f = mx := by rw [← hmx]; split <;> omega
        have HS : Hid (sumTo S1 (j + 1) = sumTo S1 j + mx) := by rw [hs, hmx']; exact rfl
        have b4 : 0 ≤ mx := by omega
        have b5 : mx ≤ 255 := by omega
        clear hs mj hmx'
        obtain ⟨y0, y1, y2, y3, _, _, _, _⟩ := (hb3.le lr).st
        by_cases hjr : (j : Int) = r
        · subst hjr
          rcases (by omega : 2 ≤ c ∨ c = 0 ∨ c = 1) with hc2 | hc2 | hc2
          · have EJ : Hid (S1.at j = s.at j) := k1 j hlt (.inr hc2)
            have c0 : (c == 0) = false := by simp; omega
            have c1 : (c == 1) = false := by simp; omega
            clear hfj k1 k2 k3
            go_wp2_with fail
            refine (storeApply (stV q2) S1 2 j 0 _ (OwnS.has ⟨q2, rfl, fun i hi => (o2 i hi).le lr⟩) hf1).mono ?_
            rw [el]
            rintro e w3 ⟨_, rfl, ⟨q3, rfl, o3⟩, l3⟩
            replace l3 := l3.trans (Le.alloc w3 (.cells (cells4 q3) 25))
            replace lr := lr.trans l3
            clear o3 l3 y0 y1 y2 y3 el
            go_upto_region 11 with fail
            generalize hW : w3.alloc (.cells (cells4 q3) 25) = W3 at lr ⊢
            clear hW
            obtain ⟨z0, z1, z2⟩ := (hb2.le lr).later3
            have x1 : ∀ X : Later W3, X.w.cell? ⟨w.heap.size, j, none⟩ = some (slV (vs j)) := fun X => (((hb1.le lr).le X.le).cell j).trans (cells4_at vs hlt)
            have x3 : ∀ X : Later W3, X.w.cell? ⟨w2.heap.size, j, none⟩ = some (slV (q2 j)) := fun X => (((hb3.le lr).le X.le).cell j).trans (cells4_at q2 hlt)
            have hsm := fun X : Later W3 => lawSameI (slV (q2 j)) (slV (vs j)) (S1.at j) (s.at j) X.w ((o2 j hlt).has.le (lr.trans X.le)) ((hr j hlt).le (lr.trans X.le)) (hf1 j hlt)
            rw [show decide (S1.at j = s.at j) = true by simp [EJ.out]] at hsm
            refine wp_region_later (by kernel_rfl) (by kernel_rfl) ?_
            repeat (go_big_quiet_step (first | (go_at_call 12; exact Calls.later_same (lawNum _ _)) | (go_at_call 15; exact Calls.later (hsm _))))
            refine wpQuiet_nil ?_
            rintro _ ⟨X, rfl⟩
            clear z0 z1 z2 x1 x3
            obtain ⟨o0, o1, o2', _, _, _⟩ := ((hb2.le lr).le X.le).op
            go_wp2_with fail
            go_roundw
            case rel => exact ⟨j + 1, by omega, by go_num, (by rw [HS.out]; try simp), lr.trans X.le⟩
            case measure => simp [intOf]; omega
          · subst hc2
            have HF : f = a := hfj.trans (k2 j hlt rfl rfl)
            clear hfj k1 k2 k3
            subst HF
            go_wp2_with fail
            refine (storeApply (stV q2) S1 2 j 0 _ (OwnS.has ⟨q2, rfl, fun i hi => (o2 i hi).le lr⟩) hf1).mono ?_
            rw [el]
            rintro e w3 ⟨_, rfl, ⟨q3, rfl, o3⟩, l3⟩
            replace l3 := l3.trans (Le.alloc w3 (.cells (cells4 q3) 25))
            replace lr := lr.trans l3
            clear o3 l3 y0 y1 y2 y3 el
            go_upto_region 11 with fail
            generalize hW : w3.alloc (.cells (cells4 q3) 25) = W3 at lr ⊢
            clear hW
            obtain ⟨z0, z1, z2⟩ := (hb2.le lr).later3
            have x1 : ∀ X : Later W3, X.w.cell? ⟨w.heap.size, j, none⟩ = some (slV (vs j)) := fun X => (((hb1.le lr).le X.le).cell j).trans (cells4_at vs hlt)
            have x3 : ∀ X : Later W3, X.w.cell? ⟨w2.heap.size, j, none⟩ = some (slV (q2 j)) := fun X => (((hb3.le lr).le X.le).cell j).trans (cells4_at q2 hlt)
            refine wp_region_later (by kernel_rfl) (by kernel_rfl) ?_
            repeat (go_big_quiet_step (first | (go_at_call 12; exact Calls.later_same (lawNum _ _))))
            refine wpQuiet_nil ?_
            rintro _ ⟨X, rfl⟩
            clear z0 z1 z2 x1 x3
            obtain ⟨o0, o1, o2', _, _, _⟩ := ((hb2.le lr).le X.le).op
            go_wp2_with fail
            go_roundw
            case rel => exact ⟨j + 1, by omega, by go_num, (by rw [HS.out]; try simp), lr.trans X.le⟩
            case measure => simp [intOf]; omega
          · subst hc2
            have HF : f = -1 := hfj.trans (k3 j hlt rfl rfl)
            clear hfj k1 k2 k3
            subst HF
            obtain rfl : 0 = mx := hmx
            go_wp2_with fail
            refine (storeApply (stV q2) S1 2 j 0 _ (OwnS.has ⟨q2, rfl, fun i hi => (o2 i hi).le lr⟩) hf1).mono ?_
            rw [el]
            rintro e w3 ⟨_, rfl, ⟨q3, rfl, o3⟩, l3⟩
            replace l3 := l3.trans (Le.alloc w3 (.cells (cells4 q3) 25))
            replace lr := lr.trans l3
            clear o3 l3 y0 y1 y2 y3 el
            go_upto_region 11 with fail
            generalize hW : w3.alloc (.cells (cells4 q3) 25) = W3 at lr ⊢
            clear hW
            obtain ⟨z0, z1, z2⟩ := (hb2.le lr).later3
            have x1 : ∀ X : Later W3, X.w.cell? ⟨w.heap.size, j, none⟩ = some (slV (vs j)) := fun X => (((hb1.le lr).le X.le).cell j).trans (cells4_at vs hlt)
            have x3 : ∀ X : Later W3, X.w.cell? ⟨w2.heap.size, j, none⟩ = some (slV (q2 j)) := fun X => (((hb3.le lr).le X.le).cell j).trans (cells4_at q2 hlt)
            refine wp_region_later (by kernel_rfl) (by kernel_rfl) ?_
            repeat (go_big_quiet_step (first | (go_at_call 12; exact Calls.later_same (lawNum _ _))))
            refine wpQuiet_nil ?_
            rintro _ ⟨X, rfl⟩
            clear z0 z1 z2 x1 x3
            obtain ⟨o0, o1, o2', _, _, _⟩ := ((hb2.le lr).le X.le).op
            go_wp2_with fail
            go_roundw
            case rel => exact ⟨j + 1, by omega, by go_num, (by rw [HS.out]; try simp), lr.trans X.le⟩
            case measure => simp [intOf]; omega
        · have EJ : Hid (S1.at j = s.at j) := k1 j hlt (.inl hjr)
          have hne : ((j : Int) != r) = true := by simp [hjr]
          have heq : ((j : Int) == r) = false := by simp [hjr]
          clear hfj k1 k2 k3
          go_wp2_with fail
          refine (storeApply (stV q2) S1 2 j 0 _ (OwnS.has ⟨q2, rfl, fun i hi => (o2 i hi).le lr⟩) hf1).mono ?_
          rw [el]
          rintro e w3 ⟨_, rfl, ⟨q3, rfl, o3⟩, l3⟩
          replace l3 := l3.trans (Le.alloc w3 (.cells (cells4 q3) 25))
          replace lr := lr.trans l3
          clear o3 l3 y0 y1 y2 y3 el
          go_upto_region 11 with fail
          generalize hW : w3.alloc (.cells (cells4 q3) 25) = W3 at lr ⊢
          clear hW
          obtain ⟨z0, z1, z2⟩ := (hb2.le lr).later3
          have x1 : ∀ X : Later W3, X.w.cell? ⟨w.heap.size, j, none⟩ = some (slV (vs j)) := fun X => (((hb1.le lr).le X.le).cell j).trans (cells4_at vs hlt)
          have x3 : ∀ X : Later W3, X.w.cell? ⟨w2.heap.size, j, none⟩ = some (slV (q2 j)) := fun X => (((hb3.le lr).le X.le).cell j).trans (cells4_at q2 hlt)
          have hsm := fun X : Later W3 => lawSameI (slV (q2 j)) (slV (vs j)) (S1.at j) (s.at j) X.w ((o2 j hlt).has.le (lr.trans X.le)) ((hr j hlt).le (lr.trans X.le)) (hf1 j hlt)
          rw [show decide (S1.at j = s.at j) = true by simp [EJ.out]] at hsm
          refine wp_region_later (by kernel_rfl) (by kernel_rfl) ?_
          repeat (go_big_quiet_step (first | (go_at_call 12; exact Calls.later_same (lawNum _ _)) | (go_at_call 15; exact Calls.later (hsm _))))
          refine wpQuiet_nil ?_
          rintro _ ⟨X, rfl⟩
          clear z0 z1 z2 x1 x3
          obtain ⟨o0, o1, o2', _, _, _⟩ := ((hb2.le lr).le X.le).op
          go_wp2_with fail
          go_roundw
          case rel => exact ⟨j + 1, by omega, by go_num, (by rw [HS.out]; try simp), lr.trans X.le⟩
          case measure => simp [intOf]; omega
      · obtain rfl : j = 4 := by omega
        obtain ⟨y0, y1, y2, y3, _, _, _, _⟩ := (hb3.le lr).st
        go_wp2_with fail
        refine (storeApply (stV q2) S1 3 0 0 _ (OwnS.has ⟨q2, rfl, fun i hi => (o2 i hi).le lr⟩) hf1).mono ?_
        rw [stoS_scan hm1]
        rintro e w3 ⟨_, rfl, ⟨q3, rfl, o3⟩, l3⟩
        go_wp2_with (go_at_call 12; refine (lawNum _ _).mono ?_; rintro e _ ⟨rfl, rfl⟩)
        go_ret
        exact ⟨ret_bool (by simp), ((hl.trans lr).trans l3).trans (Le.alloc _ _)⟩

end Go.Proofs.Ytdcmmchlmjhgjaa
