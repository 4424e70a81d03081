/-
  THE WALKS over package lists' All and Copy at slots, and package ring's maySlot, maySlots, mayPlaces, has, apart, May: what each answers, for every ring. Condition: where memory is made, that the slots can be copied.
-/
import Derived.Test.YtgjhbhnfeeleeaaRgA
import Derived.Test.YtgjhbhnfeeleeaaOperA
namespace Go.Proofs.Ytgjhbhnfeeleeaa
open Go.RowKit

/-- May it be one of a ring's? -/
def slotB (s : Slt) : Bool := opUp s.c s.r s.a && (decide (0 ≤ s.t) && decide (s.t < 4)) && (decide (s.b = 0) || decide (s.b = 1))

set_option maxHeartbeats 2000000 in
theorem ringMaySlot (s : Slt) (w : World) : Calls Try.prog 29 #[s.v] w fun e w' => e = .returned (.bool (slotB s)) ∧ Le w w' := by
  obtain ⟨c, r, a, t, b⟩ := s
  have hb := Box.new w #[.int .i64 c, .int .i64 r, .int .i64 a, .int .i64 t, .int .i64 b] 53
  have hl := Le.alloc w (.cells #[.int .i64 c, .int .i64 r, .int .i64 a, .int .i64 t, .int .i64 b] 53)
  have hu := fun w => operUpdates c r a w
  simp only [slotB]
  cases hm : opUp c r a
  · rw [hm] at hu
    go_enter Try.func29, Try.ntmps29
    go_wp2_with (go_at_call 35; refine (hu _).mono ?_; rintro e w1 ⟨rfl, l1⟩)
    go_ret
    exact ⟨ret_bool (by simp), hl.trans l1⟩
  · rw [hm] at hu
    by_cases h1 : 0 ≤ t
    · by_cases h2 : t < 4
      · by_cases h3 : b = 0
        · subst h3
          go_enter Try.func29, Try.ntmps29
          go_wp2_with (go_at_call 35; refine (hu _).mono ?_; rintro e w1 ⟨rfl, l1⟩; obtain ⟨b0, b1, b2, b3, b4⟩ := (hb.le l1).slot)
          go_ret
          exact ⟨ret_bool (by simp [h1, h2]), hl.trans l1⟩
        · go_enter Try.func29, Try.ntmps29
          go_wp2_with (go_at_call 35; refine (hu _).mono ?_; rintro e w1 ⟨rfl, l1⟩; obtain ⟨b0, b1, b2, b3, b4⟩ := (hb.le l1).slot)
          go_ret
          exact ⟨ret_bool (by simp [h1, h2, h3, beq_int]), hl.trans l1⟩
      · go_enter Try.func29, Try.ntmps29
        go_wp2_with (go_at_call 35; refine (hu _).mono ?_; rintro e w1 ⟨rfl, l1⟩; obtain ⟨b0, b1, b2, b3, b4⟩ := (hb.le l1).slot)
        go_ret
        exact ⟨ret_bool (by simp; omega), hl.trans l1⟩
    · go_enter Try.func29, Try.ntmps29
      go_wp2_with (go_at_call 35; refine (hu _).mono ?_; rintro e w1 ⟨rfl, l1⟩; obtain ⟨b0, b1, b2, b3, b4⟩ := (hb.le l1).slot)
      go_ret
      exact ⟨ret_bool (by simp; omega), hl.trans l1⟩

theorem ringMaySlots (n : Int) (w : World) : Calls Try.prog 26 #[.int .i64 n] w fun e w' => e = .returned (.bool (slotsB n)) ∧ w = w' := by
  have h := fun w => slotBit 0 n w
  cases hn : slotsB n
  · rw [bitS_no (.inl hn)] at h
    go_enter Try.func26, Try.ntmps26
    go_wp2_with (go_at_call 34; refine (h _).mono ?_; rintro e _ ⟨rfl, rfl⟩)
    go_ret
    exact ⟨rfl, rfl⟩
  · rw [bitS_yes hn (by decide)] at h
    go_enter Try.func26, Try.ntmps26
    go_wp2_with (go_at_call 34; refine (h _).mono ?_; rintro e _ ⟨rfl, rfl⟩)
    go_ret
    exact ⟨rfl, rfl⟩

theorem all_take {ss : List Slt} {p : Slt → Bool} {k : Nat} (hk : k < ss.length) (h : (ss.take k).all p = true) (hp : p (ss.getD k Slt.zero) = true) : (ss.take (k + 1)).all p = true := by
  rw [List.take_succ_eq_append_getElem hk, List.all_append, h]
  simp [List.getD, hk] at hp
  simp [hp]
theorem all_no {ss : List Slt} {p : Slt → Bool} {k : Nat} (hk : k < ss.length) (hp : p (ss.getD k Slt.zero) = false) : ss.all p = false := by
  rw [List.all_eq_false]
  refine ⟨ss.getD k Slt.zero, ?_, by rw [hp]; decide⟩
  simp [List.getD, hk]

set_option maxHeartbeats 400000 in
theorem listsAll (f : Nat) (p : Slt → Bool) (hc : ∀ (u : Value) (w : World), (callFunc f #[u]).run Try.prog w = .ok (.enter f #[u]) w) (hp : ∀ (s : Slt) w, Calls Try.prog f #[s.v] w fun e w' => e = .returned (.bool (p s)) ∧ Le w w') (v : Value) (ss : List Slt) (w : World) (hx : HasL w v ss) (hm : ss.length ≤ 9223372036854775807) :
    Calls Try.prog 28 #[v, .func (.func f) #[] #[]] w fun e w' => e = .returned (.bool (ss.all p)) ∧ Le w w' := by
  obtain ⟨a, cap, rfl, hc', _, hx⟩ := hx
  by_cases h0 : 0 < ss.length
  · obtain ⟨b, off, rfl, hcell⟩ := hx h0
    clear hx
    obtain ⟨L, hL⟩ : ∃ L, L = ss.length := ⟨_, rfl⟩
    have HL : Hid (L = ss.length) := hL
    rw [← hL] at hm h0 hc' hcell ⊢
    clear hL
    go_enter Try.func28, Try.ntmps28
    go_wp2
    go_loopw [9] (fun i wr => ∃ k : Nat, k ≤ L ∧ i = .int .i64 k ∧ Hid ((ss.take k).all p = true) ∧ Le w wr) (fun i _ => L - (intOf i).toNat)
    case atStart => exact ⟨0, by omega, rfl, rfl, Le.refl _⟩
    case round =>
      obtain ⟨k, hk, rfl, HA, hle⟩ := hrel
      by_cases hlt : k < L
      · obtain ⟨s, hs⟩ : ∃ s, s = ss.getD k Slt.zero := ⟨_, rfl⟩
        have HS : Hid (s = ss.getD k Slt.zero) := hs
        obtain ⟨x0, x1, x2, x3, x4⟩ := (hcell k hlt).le hle
        rw [← hs] at x0 x1 x2 x3 x4
        clear hs hcell
        have hlt' : (k : Int) < (L : Int) := by omega
        have hm := fun w => hp s w
        cases hh : p s
        · rw [hh] at hm
          go_wp2_with fail
          refine (hm _).mono ?_
          rintro e w1 ⟨rfl, l1⟩
          go_wp2
          go_ret
          exact ⟨ret_bool (all_no (k := k) (by have := HL.out; omega) (by rw [← HS.out]; exact hh)).symm, (hle.trans (Le.alloc _ _)).trans l1⟩
        · rw [hh] at hm
          go_wp2_with fail
          refine (hm _).mono ?_
          rintro e w1 ⟨rfl, l1⟩
          go_wp2
          go_roundw
          case rel => exact ⟨k + 1, by omega, by go_num, all_take (by have := HL.out; omega) HA.out (by rw [← HS.out]; exact hh), (hle.trans (Le.alloc _ _)).trans l1⟩
          case measure => simp [intOf]; omega
      · obtain rfl : k = L := by omega
        go_wp2
        go_ret
        exact ⟨ret_bool (by have := HA.out; rw [HL.out, List.take_length] at this; exact this.symm), hle⟩
  · have hxn : ss = [] := by cases ss with | nil => rfl | cons _ _ => simp at h0
    subst hxn
    go_enter Try.func28, Try.ntmps28
    go_wp2
    refine wp_loop_rounds 1 ?_
    rw [rounds_succ]
    go_wp2
    go_ret
    exact ⟨rfl, Le.refl _⟩

/-- May a ring's places be? -/
def placesB (h t : Int) (n : Nat) : Bool := decide (0 ≤ h) && decide (h ≤ t) && decide (t ≤ 1048576) && decide (t ≤ h + n)

set_option maxHeartbeats 400000 in
theorem ringMayPlaces (h t f : Int) (q : Sl) (w : World) (hq : q.2.1 ≤ 4611686018427387904) : Calls Try.prog 27 #[ringV h t f q] w fun e w' => e = .returned (.bool (placesB h t q.2.1)) ∧ Le w w' := by
  obtain ⟨a, n, cap⟩ := q
  simp only at hq
  rcases (by omega : h < 0 ∨ (0 ≤ h ∧ t < h) ∨ (0 ≤ h ∧ h ≤ t ∧ 1048576 < t) ∨ (0 ≤ h ∧ h ≤ t ∧ t ≤ 1048576)) with h1 | ⟨h1, h2⟩ | ⟨h1, h2, h3⟩ | ⟨h1, h2, h3⟩
  all_goals
    go_enter Try.func27, Try.ntmps27
    go_wp2
    go_ret
    exact ⟨ret_bool (by simp [placesB]; omega), Le.alloc _ _⟩

/-- Is entry number p in it? -/
def hasB (h t p : Int) : Bool := decide (h ≤ p) && decide (p < t)

/-- May a ring be? -/
def mayR (R : Rg) : Bool := slotsB R.ss.length && placesB R.h R.t R.ss.length && decide (0 ≤ R.f) && decide (R.f ≤ 4) && R.ss.all slotB

set_option maxHeartbeats 1000000 in
theorem ringMay (v : Value) (R : Rg) (w : World) (hx : HasR w v R) (hf : FitR R) : Calls Try.prog 20 #[v] w fun e w' => e = .returned (.bool (mayR R)) ∧ Le w w' := by
  obtain ⟨h, t, f, ss⟩ := R
  obtain ⟨q, rfl, hq⟩ := hx
  simp only [FitR] at hf hq ⊢
  simp only [mayR]
  have hb := Box.new w (cellsR h t f q) 24
  have hl := Le.alloc w (.cells (cellsR h t f q) 24)
  have hn := hq.len
  have hq0 : q.2.1 ≤ 4611686018427387904 := by omega
  rw [← hn]
  clear hn
  have m1 := fun w => ringMaySlots q.2.1 w
  have m2 := fun w => ringMayPlaces h t f q w hq0
  cases h1 : slotsB q.2.1
  · rw [h1] at m1
    go_enter Try.func20, Try.ntmps20
    go_wp2_with (go_at_call 26; refine (m1 _).mono ?_; rintro e _ ⟨rfl, rfl⟩)
    go_ret
    exact ⟨ret_bool (by simp), hl⟩
  · rw [h1] at m1
    cases h2 : placesB h t q.2.1
    · rw [h2] at m2
      go_enter Try.func20, Try.ntmps20
      go_wp2_with (first | (go_at_call 26; refine (m1 _).mono ?_; rintro e _ ⟨rfl, rfl⟩) | (go_at_call 27; refine (m2 _).mono ?_; rintro e w1 ⟨rfl, l1⟩))
      go_ret
      exact ⟨ret_bool (by simp), hl.trans l1⟩
    · rw [h2] at m2
      by_cases h3 : 0 ≤ f
      · by_cases h4 : f ≤ 4
        · go_enter Try.func20, Try.ntmps20
          go_wp2_with (first | (go_at_call 26; refine (m1 _).mono ?_; rintro e _ ⟨rfl, rfl⟩) | (go_at_call 27; refine (m2 _).mono ?_; rintro e w1 ⟨rfl, l1⟩; obtain ⟨b0, b1, b2, b3, _, _, _, _⟩ := (hb.le l1).ring) | (go_at_call 28; refine (listsAll 29 slotB (fun _ _ => by rfl) ringMaySlot _ ss _ (hq.le (hl.trans l1)) (by omega)).mono ?_; rintro e w2 ⟨rfl, l2⟩))
          go_ret
          exact ⟨ret_bool (by simp [h3, h4]), (hl.trans l1).trans l2⟩
        · go_enter Try.func20, Try.ntmps20
          go_wp2_with (first | (go_at_call 26; refine (m1 _).mono ?_; rintro e _ ⟨rfl, rfl⟩) | (go_at_call 27; refine (m2 _).mono ?_; rintro e w1 ⟨rfl, l1⟩; obtain ⟨b0, b1, b2, b3, _, _, _, _⟩ := (hb.le l1).ring))
          go_ret
          exact ⟨ret_bool (by simp; omega), hl.trans l1⟩
      · go_enter Try.func20, Try.ntmps20
        go_wp2_with (first | (go_at_call 26; refine (m1 _).mono ?_; rintro e _ ⟨rfl, rfl⟩) | (go_at_call 27; refine (m2 _).mono ?_; rintro e w1 ⟨rfl, l1⟩; obtain ⟨b0, b1, b2, b3, _, _, _, _⟩ := (hb.le l1).ring))
        go_ret
        exact ⟨ret_bool (by simp; omega), hl.trans l1⟩

end Go.Proofs.Ytgjhbhnfeeleeaa
