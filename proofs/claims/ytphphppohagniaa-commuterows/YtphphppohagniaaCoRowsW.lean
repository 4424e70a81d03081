/-
  THE WALK over choruslaw8.CommuteRows: it answers true, for every object, state and operations, and turns nothing that was there. Condition: the state's rows can be copied.
-/
import Derived.Test.YtphphppohagniaaComAwake
namespace Go.Proofs.Ytphphppohagniaa
open Go.RowKit

theorem St.put_comm {s : St} {k j : Nat} (hk : k < 4) (hj : j < 4) (h : k ≠ j) (x y : List Int) : (s.put k x).put j y = (s.put j y).put k x := by
  refine St.ext_at fun i hi => ?_
  rw [St.at_put hj hi, St.at_put hk hi, St.at_put hk hi, St.at_put hj hi]
  by_cases e1 : i = j
  · have : ¬ i = k := by omega
    simp [e1, show ¬ j = k by omega]
  · simp [e1]

/-- Operations of unlike rows that are no scans: either one first. -/
theorem bothB_apart {o : Int} {s : St} {c r a c' r' a' : Int} (hm : bothMay o s c r a c' r' a' = true) (h : r ≠ r') (hc : c ≠ 3) (hc' : c' ≠ 3) : bothB o s c r a c' r' a' = true := by
  obtain ⟨h0, h1, h2⟩ := bothMay_parts hm
  obtain ⟨_, _, r0, r3, _, _⟩ := opMay_bounds h1
  obtain ⟨k, rfl⟩ : ∃ k : Nat, r = k := ⟨r.toNat, by omega⟩
  obtain ⟨_, _, j0, j3, _, _⟩ := opMay_bounds h2
  obtain ⟨j, rfl⟩ : ∃ j : Nat, r' = j := ⟨r'.toNat, by omega⟩
  have hk : k < 4 := by omega
  have hj : j < 4 := by omega
  have hkj : k ≠ j := by omega
  have m1 := objS_may 0 h0 h1
  have m2 := objS_may 0 h0 h2
  unfold bothB
  rw [objS_row 0 h0 h1 hc] at m1 ⊢
  rw [objS_row 0 h0 h2 hc'] at m2 ⊢
  simp only at m1 m2 ⊢
  rw [objS_row 0 m1 h2 hc', objS_row 0 m2 h1 hc]
  simp only [St.at_put hk hj, St.at_put hj hk, if_neg hkj, if_neg (Ne.symm hkj)]
  rw [St.put_comm hk hj hkj]
  simp

/-- A look or a scan turns nothing. -/
theorem objS_look0 {o : Int} {s : St} {c r a : Int} (er : Int) (hm : objMay o s = true) (ho : opMay c r a = true) (hc : 2 ≤ c) : (objS o s c r a er).1 = s := by
  by_cases h3 : c = 3
  · subst h3
    have : r = 0 ∧ a = 0 := by simp [opMay] at ho; omega
    obtain ⟨rfl, rfl⟩ := this
    exact objS_scan0 er hm
  · obtain ⟨_, c3, r0, r3, _, _⟩ := opMay_bounds ho
    obtain rfl : c = 2 := by omega
    obtain ⟨k, rfl⟩ : ∃ k : Nat, r = k := ⟨r.toNat, by omega⟩
    rw [objS_row er hm ho h3]
    show s.put k (rowF o 2 (s.at k) a).1 = s
    have : (rowF o 2 (s.at k) a).1 = s.at k := by
      unfold rowF; split
      · rfl
      · split <;> rfl
    rw [this, St.put_same (by omega)]

theorem bothB_looks {o : Int} {s : St} {c r a c' r' a' : Int} (hm : bothMay o s c r a c' r' a' = true) (hc : 2 ≤ c) (hc' : 2 ≤ c') : bothB o s c r a c' r' a' = true := by
  obtain ⟨h0, h1, h2⟩ := bothMay_parts hm
  unfold bothB
  rw [objS_look0 0 h0 h1 hc, objS_look0 0 h0 h2 hc', objS_look0 0 h0 h1 hc]
  simp

set_option maxRecDepth 4000 in
set_option maxHeartbeats 4000000 in
theorem lawRows8 (w : World) (o : Int) (v : Value) (s : St) (hx : HasS w v s) (hf : Fit s) (c r a c' r' a' : Int) :
    Calls Try.prog 4 #[.int .i64 o, v, opV c r a, opV c' r' a'] w fun e w' => e = .returned (.bool true) ∧ Le w w' := by
  have hx0 := hx
  obtain ⟨vs, rfl, hr⟩ := hx
  obtain ⟨W, hW, hn, hl, hb1, hb2, hb3⟩ := lay3 w vs c r a c' r' a'
  have hap := fun (w' : World) (h : Le w w') => comBoth o (stV vs) s c r a c' r' a' w' (hx0.le h) hf
  have haq := fun (w' : World) (h : Le w w') => comBoth o (stV vs) s c' r' a' c r a w' (hx0.le h) hf
  cases hm : bothMay o s c r a c' r' a'
  · rw [bothS_no hm] at hap
    rw [bothS_no ((bothMay_turn _ _ _ _ _ _ _ _).trans hm)] at haq
    simp only at hap haq
    clear hm
    go_enter Try.func4, Try.ntmps4
    go_upto_region 1 with fail
    clear hW hn hr
    go_wp2_with fail
    refine (lawAwake8 _).mono ?_
    rintro e w1 ⟨rfl, l1⟩
    replace hl := hl.trans l1
    replace hb1 := hb1.le l1
    replace hb2 := hb2.le l1
    replace hb3 := hb3.le l1
    clear l1
    obtain ⟨y0, y1, y2, y3, _, _, _, _⟩ := hb1.st
    obtain ⟨x0, x1, x2, _, _, _⟩ := hb2.op
    obtain ⟨z0, z1, z2, _, _, _⟩ := hb3.op
    go_wp2_with fail
    refine (hap _ hl).mono ?_
    rintro e w2 ⟨rfl, l2⟩
    replace hl := hl.trans l2
    replace hb1 := hb1.le l2
    replace hb2 := hb2.le l2
    replace hb3 := hb3.le l2
    clear y0 y1 y2 y3 x0 x1 x2 z0 z1 z2 l2 hap
    obtain ⟨y0, y1, y2, y3, _, _, _, _⟩ := hb1.st
    obtain ⟨x0, x1, x2, _, _, _⟩ := hb2.op
    obtain ⟨z0, z1, z2, _, _, _⟩ := hb3.op
    go_wp2_with fail
    refine (haq _ hl).mono ?_
    rintro e w3 ⟨rfl, l3⟩
    replace hl := hl.trans l3
    clear y0 y1 y2 y3 x0 x1 x2 z0 z1 z2 l3 haq hb1 hb2 hb3
    go_wp2_with (go_at_call 11; refine (lawNum _ _).mono ?_; rintro e _ ⟨rfl, rfl⟩)
    go_ret
    exact ⟨rfl, hl⟩
  · rw [bothS_yes hm] at hap
    rw [bothS_yes ((bothMay_turn _ _ _ _ _ _ _ _).trans hm), bothB_turn] at haq
    simp only at hap haq
    have key : bothB o s c r a c' r' a' = true ∨ (bothB o s c r a c' r' a' = false ∧ ((r != r') = false ∨ ((r != r') = true ∧ (c != 3) = false) ∨ ((r != r') = true ∧ (c != 3) = true ∧ (c' != 3) = false)) ∧ (c < 2 ∨ (2 ≤ c ∧ c' < 2))) := by
      cases hB : bothB o s c r a c' r' a'
      · refine .inr ⟨rfl, ?_, ?_⟩
        · by_cases e1 : r = r'
          · exact .inl (by simp [e1])
          · by_cases e2 : c = 3
            · exact .inr (.inl ⟨by simp [e1], by simp [e2]⟩)
            · by_cases e3 : c' = 3
              · exact .inr (.inr ⟨by simp [e1], by simp [e2], by simp [e3]⟩)
              · rw [bothB_apart hm e1 e2 e3] at hB; cases hB
        · by_cases e1 : c < 2
          · exact .inl e1
          · by_cases e2 : c' < 2
            · exact .inr ⟨by omega, e2⟩
            · rw [bothB_looks hm (by omega) (by omega)] at hB; cases hB
      · exact .inl rfl
    generalize bothB o s c r a c' r' a' = b at hap haq key
    replace key : Hid _ := key
    clear hm
    go_enter Try.func4, Try.ntmps4
    go_upto_region 1 with fail
    clear hW hn hr
    go_wp2_with fail
    refine (lawAwake8 _).mono ?_
    rintro e w1 ⟨rfl, l1⟩
    replace hl := hl.trans l1
    replace hb1 := hb1.le l1
    replace hb2 := hb2.le l1
    replace hb3 := hb3.le l1
    clear l1
    obtain ⟨y0, y1, y2, y3, _, _, _, _⟩ := hb1.st
    obtain ⟨x0, x1, x2, _, _, _⟩ := hb2.op
    obtain ⟨z0, z1, z2, _, _, _⟩ := hb3.op
    go_wp2_with fail
    refine (hap _ hl).mono ?_
    rintro e w2 ⟨rfl, l2⟩
    replace hl := hl.trans l2
    replace hb1 := hb1.le l2
    replace hb2 := hb2.le l2
    replace hb3 := hb3.le l2
    clear y0 y1 y2 y3 x0 x1 x2 z0 z1 z2 l2 hap
    obtain ⟨y0, y1, y2, y3, _, _, _, _⟩ := hb1.st
    obtain ⟨x0, x1, x2, _, _, _⟩ := hb2.op
    obtain ⟨z0, z1, z2, _, _, _⟩ := hb3.op
    go_wp2_with fail
    refine (haq _ hl).mono ?_
    rintro e w3 ⟨rfl, l3⟩
    replace hl := hl.trans l3
    replace hb2 := hb2.le l3
    replace hb3 := hb3.le l3
    clear y0 y1 y2 y3 x0 x1 x2 z0 z1 z2 l3 haq hb1
    obtain ⟨x0, x1, x2, _, _, _⟩ := hb2.op
    obtain ⟨z0, z1, z2, _, _, _⟩ := hb3.op
    go_upto_region 5 with fail
    rcases key.out with rfl | ⟨rfl, h | ⟨h, h'⟩ | ⟨h, h', h''⟩, k | ⟨k, k'⟩⟩
    · clear key
      cases h : (r != r')
      all_goals cases h' : (c != 3)
      all_goals cases h'' : (c' != 3)
      all_goals by_cases k : c < 2
      all_goals try replace k : 2 ≤ c := by omega
      all_goals by_cases k' : c' < 2
      all_goals try replace k' : 2 ≤ c' := by omega
      all_goals
        go_wp2_with (go_at_call 11; refine (lawNum _ _).mono ?_; rintro e _ ⟨rfl, rfl⟩)
        go_ret
        exact ⟨rfl, hl⟩
    all_goals
      clear key
      go_wp2_with (go_at_call 11; refine (lawNum _ _).mono ?_; rintro e _ ⟨rfl, rfl⟩)
      go_ret
      exact ⟨rfl, hl⟩

end Go.Proofs.Ytphphppohagniaa
