/-
  THE WALK over choruslaw6.ObjectBounds: it answers true, for every object, state and operation, and turns nothing that was there. Condition: the state's rows can be copied.
-/
import Derived.Test.YtmfjiadamdajeaaObAwake
import Derived.Test.YtmfjiadamdajeaaRefObj
namespace Go.Proofs.Ytmfjiadamdajeaa
open Go.RowKit

theorem first_least {xs : List Int} (h : rowMay1 xs = true) : -1 ≤ firstS xs ∧ firstS xs ≤ 255 := by
  rcases rowMay1_cases h with e | ⟨x, e, h0, h1⟩
  · subst e; decide
  · subst e; simp [firstS]; omega
theorem put_ans : ∀ xs ∈ rowsAbove 4, -1 ≤ (putS xs).2 ∧ (putS xs).2 ≤ 255 := by decide
theorem take_ans (xs : List Int) (a : Int) : -1 ≤ (takeS xs a).2 ∧ (takeS xs a).2 ≤ 255 := by
  unfold takeS; split <;> simp
theorem enq_ans (xs : List Int) (a : Int) : -1 ≤ (enqS xs a).2 ∧ (enqS xs a).2 ≤ 255 := by
  unfold enqS; split <;> simp
theorem deq_ans {xs : List Int} (h : rowMay3 xs = true) : -1 ≤ (deqS xs).2 ∧ (deqS xs).2 ≤ 255 := by
  match xs, h with
  | [], _ => decide
  | x :: r, h =>
    have := rowMay3_all h x (by simp)
    show -1 ≤ x ∧ x ≤ 255
    omega

/-- The greatest answer that there may be. -/
def mostO (o c : Int) : Int := if o = 0 then (if c = 3 then 1020 else 255) else if 2 ≤ c then 16 else 255

theorem many_most {s : St} {m : Nat} (h : ∀ k, k < 4 → (s.at k).length ≤ m) (hm : m ≤ 4) : 0 ≤ manyTo s 4 ∧ manyTo s 4 ≤ 16 := by
  have := manyTo_bounds h 4 (by omega)
  omega

theorem objS_bounds {o : Int} {s : St} {c r a : Int} (h : (objMay o s && opMay c r a) = true) :
    -1 ≤ (objS o s c r a 600).2.1 ∧ (objS o s c r a 600).2.1 ≤ mostO o c ∧ (c = 3 → 0 ≤ (objS o s c r a 600).2.1) := by
  obtain ⟨hm, ho⟩ := Bool.and_eq_true_iff.mp h
  rcases obj_cases (o := o) with rfl | rfl | rfl | hn
  · replace hm : s.all rowMay1 = true := hm
    show -1 ≤ (stoS s c r a 600).2.1 ∧ (stoS s c r a 600).2.1 ≤ mostO 0 c ∧ (c = 3 → 0 ≤ (stoS s c r a 600).2.1)
    rcases opMay_cases ho with ⟨k, hk, rfl, rfl, ha⟩ | ⟨k, hk, rfl, rfl, ha⟩ | ⟨k, hk, rfl, rfl, rfl⟩ | ⟨rfl, rfl, rfl⟩
    · rw [stoS_first hm hk ha]; have := first_least (St.all_at hm hk); exact ⟨this.1, this.2, fun e => by omega⟩
    · rw [stoS_second hm hk ha]; have := first_least (St.all_at hm hk); exact ⟨this.1, this.2, fun e => by omega⟩
    · rw [stoS_look hm hk]; have := first_least (St.all_at hm hk); exact ⟨this.1, this.2, fun e => by omega⟩
    · rw [stoS_scan hm]
      have := sumTo_bounds hm 4 (by omega)
      have e : mostO 0 3 = 1020 := by decide
      rw [e]
      show -1 ≤ sumTo s 4 ∧ sumTo s 4 ≤ 1020 ∧ (_ → 0 ≤ sumTo s 4)
      omega
  · replace hm : s.all rowMay2 = true := hm
    show -1 ≤ (fdsS s c r a 600).2.1 ∧ (fdsS s c r a 600).2.1 ≤ mostO 1 c ∧ (c = 3 → 0 ≤ (fdsS s c r a 600).2.1)
    rcases opMay_cases ho with ⟨k, hk, rfl, rfl, ha⟩ | ⟨k, hk, rfl, rfl, ha⟩ | ⟨k, hk, rfl, rfl, rfl⟩ | ⟨rfl, rfl, rfl⟩
    · rw [fdsS_first hm hk ha]; have := put_ans _ (rowMay2_mem (St.all_at hm hk)); exact ⟨this.1, this.2, fun e => by omega⟩
    · rw [fdsS_second hm hk ha]; have := take_ans (s.at k) a; exact ⟨this.1, this.2, fun e => by omega⟩
    · rw [fdsS_look hm hk]
      have := rowMay2_len (St.all_at hm hk)
      have e : mostO 1 2 = 16 := by decide
      rw [e]
      show -1 ≤ ((s.at k).length : Int) ∧ ((s.at k).length : Int) ≤ 16 ∧ (_ → 0 ≤ ((s.at k).length : Int))
      omega
    · rw [fdsS_scan hm]
      have := many_most (fun k hk => rowMay2_len (St.all_at hm hk)) (Nat.le_refl _)
      have e : mostO 1 3 = 16 := by decide
      rw [e]
      show -1 ≤ manyTo s 4 ∧ manyTo s 4 ≤ 16 ∧ (_ → 0 ≤ manyTo s 4)
      omega
  · replace hm : s.all rowMay3 = true := hm
    show -1 ≤ (queS s c r a 600).2.1 ∧ (queS s c r a 600).2.1 ≤ mostO 2 c ∧ (c = 3 → 0 ≤ (queS s c r a 600).2.1)
    rcases opMay_cases ho with ⟨k, hk, rfl, rfl, ha⟩ | ⟨k, hk, rfl, rfl, ha⟩ | ⟨k, hk, rfl, rfl, rfl⟩ | ⟨rfl, rfl, rfl⟩
    · rw [queS_first hm hk ha]; have := enq_ans (s.at k) a; exact ⟨this.1, this.2, fun e => by omega⟩
    · rw [queS_second hm hk ha]; have := deq_ans (St.all_at hm hk); exact ⟨this.1, this.2, fun e => by omega⟩
    · rw [queS_look hm hk]
      have := rowMay3_len (St.all_at hm hk)
      have e : mostO 2 2 = 16 := by decide
      rw [e]
      show -1 ≤ ((s.at k).length : Int) ∧ ((s.at k).length : Int) ≤ 16 ∧ (_ → 0 ≤ ((s.at k).length : Int))
      omega
    · rw [queS_scan hm]
      have := many_most (fun k hk => rowMay3_len (St.all_at hm hk)) (Nat.le_refl _)
      have e : mostO 2 3 = 16 := by decide
      rw [e]
      show -1 ≤ manyTo s 4 ∧ manyTo s 4 ≤ 16 ∧ (_ → 0 ≤ manyTo s 4)
      omega
  · rw [objMay_out hn] at hm; cases hm

set_option maxRecDepth 4000 in
set_option maxHeartbeats 2000000 in
theorem lawBounds (w : World) (o : Int) (v : Value) (s : St) (hx : HasS w v s) (hf : Fit s) (c r a : Int) :
    Calls Try.prog 6 #[.int .i64 o, v, opV c r a] w fun e w' => e = .returned (.bool true) ∧ Le w w' := by
  have hx0 := hx
  obtain ⟨vs, rfl, hr⟩ := hx
  have hl := (Le.alloc w (.cells (cells4 vs) 25)).trans (Le.alloc _ (.cells #[.int .i64 c, .int .i64 r, .int .i64 a] 27))
  have hb1 := (Box.new w (cells4 vs) 25).le (Le.alloc _ (.cells #[.int .i64 c, .int .i64 r, .int .i64 a] 27))
  have hb2 := Box.new (w.alloc (.cells (cells4 vs) 25)) #[.int .i64 c, .int .i64 r, .int .i64 a] 27
  simp only [World.size_alloc] at hb1 hb2
  have hap := fun (w' : World) (h : Le w w') => objApply o (stV vs) s c r a w' (hx0.le h) hf
  cases hmo : objMay o s && opMay c r a
  · rw [objS_no hmo] at hap
    have ham := fun (w' : World) (h : Le w w') => refStateMay o (stV vs) s w' (hx0.le h) hf
    go_enter Try.func6, Try.ntmps6
    go_wp2_with fail
    refine (lawAwake6 _).mono ?_
    rintro e w1 ⟨rfl, l1⟩
    replace hl := hl.trans l1
    replace hb1 := hb1.le l1
    replace hb2 := hb2.le l1
    clear l1
    obtain ⟨y0, y1, y2, y3, _, _, _, _⟩ := hb1.st
    obtain ⟨x0, x1, x2, _, _, _⟩ := hb2.op
    go_wp2_with fail
    refine (hap _ hl).mono ?_
    rintro e w2 ⟨_, rfl, ⟨q2, rfl, o2⟩, l2⟩
    replace l2 := l2.trans (Le.alloc w2 (.cells (cells4 q2) 25))
    replace hl := hl.trans l2
    replace hb1 := hb1.le l2
    replace hb2 := hb2.le l2
    clear l2 hap y0 y1 y2 y3 o2 x0 x1 x2
    obtain ⟨y0, y1, y2, y3, _, _, _, _⟩ := hb1.st
    go_wp2_with (go_at_call 11; refine (lawNum _ _).mono ?_; rintro e _ ⟨rfl, rfl⟩)
    refine (ham _ hl).mono ?_
    cases hm : objMay o s
    · rintro e w3 ⟨rfl, l3⟩
      go_wp2_with fail
      go_ret
      exact ⟨rfl, hl.trans l3⟩
    · rintro e w3 ⟨rfl, l3⟩
      have ho : opMay c r a = false := by simpa [hm] using hmo
      obtain ⟨x0, x1, x2, _, _, _⟩ := (hb2.le l3).op
      go_wp2_with fail
      refine (refOperMay _ _ _ _).mono ?_
      rw [ho]
      rintro e w4 ⟨rfl, l4⟩
      go_wp2_with fail
      go_ret
      exact ⟨rfl, (hl.trans l3).trans l4⟩
  · obtain ⟨b0, b1, b2⟩ := objS_bounds hmo
    have he : (objS o s c r a 600).2.2 = 0 := by rw [objS_yes _ hmo]
    obtain ⟨hm, ho⟩ := Bool.and_eq_true_iff.mp hmo
    obtain ⟨c0, c3, _, _, _, _⟩ := opMay_bounds ho
    generalize objS o s c r a 600 = S1 at hap b0 b1 b2 he
    obtain ⟨S2, x, er⟩ := S1
    simp only at hap b0 b1 b2 he
    subst he
    have hoo : 0 ≤ o ∧ o ≤ 2 := by
      rcases obj_cases (o := o) with rfl | rfl | rfl | hn
      · omega
      · omega
      · omega
      · rw [objMay_out hn] at hm; cases hm
    clear hmo hm ho
    rcases (by omega : o = 0 ∨ 0 < o) with h0 | h0 <;> rcases (by omega : c = 3 ∨ c = 2 ∨ c < 2) with hc | hc | hc
    all_goals (try subst h0); (try subst hc)
    all_goals (unfold mostO at b1; (first | rw [if_pos (by omega)] at b1 | rw [if_neg (by omega)] at b1); (first | rw [if_pos (by omega)] at b1 | rw [if_neg (by omega)] at b1))
    all_goals
      go_enter Try.func6, Try.ntmps6
      go_wp2_with fail
      refine (lawAwake6 _).mono ?_
      rintro e w1 ⟨rfl, l1⟩
      replace hl := hl.trans l1
      replace hb1 := hb1.le l1
      replace hb2 := hb2.le l1
      clear l1
      obtain ⟨y0, y1, y2, y3, _, _, _, _⟩ := hb1.st
      obtain ⟨x0, x1, x2, _, _, _⟩ := hb2.op
      go_wp2_with fail
      refine (hap _ hl).mono ?_
      rintro e w2 ⟨_, rfl, ⟨q2, rfl, o2⟩, l2⟩
      replace l2 := l2.trans (Le.alloc w2 (.cells (cells4 q2) 25))
      replace hl := hl.trans l2
      replace hb2 := hb2.le l2
      clear l2 hap y0 y1 y2 y3 o2 x0 x1 x2 hb1
      obtain ⟨x0, x1, x2, _, _, _⟩ := hb2.op
      go_wp2_with (go_at_call 11; refine (lawNum _ _).mono ?_; rintro e _ ⟨rfl, rfl⟩)
      go_ret
      exact ⟨rfl, hl⟩

end Go.Proofs.Ytmfjiadamdajeaa
