/-
  THE WALKS over the document's own OperMay, Updates, PutOper, GetOper: they answer what package oper's answer, for every operation and every text. No condition.
-/
import Derived.Test.YtcjflnhpfkkmpaaOperB
namespace Go.Proofs.Ytcjflnhpfkkmpaa
open Go.RowKit

theorem refUpTo (x a b : Int) (w : World) : Calls Try.prog 16 #[.int .i64 x, .int .i64 a, .int .i64 b] w fun e w' => e = .returned (.bool (decide (a ≤ x) && decide (x ≤ b))) ∧ w = w' := by
  by_cases h : a ≤ x
  all_goals
    go_enter Try.func16, Try.ntmps16
    go_wp2
    go_ret
    exact ⟨ret_bool (by simp [h]; try omega), rfl⟩

theorem in_yes {a x b : Int} (h : a ≤ x) (k : x ≤ b) : (decide (a ≤ x) && decide (x ≤ b)) = true := by simp [h, k]
theorem in_no {a x b : Int} (h : x < a ∨ b < x) : (decide (a ≤ x) && decide (x ≤ b)) = false := by simp; omega

set_option maxHeartbeats 2000000 in
theorem refOperMay (c r a : Int) (w : World) :
    Calls Try.prog 12 #[opV c r a] w fun e w' => e = .returned (.bool (opMay c r a)) ∧ Le w w' := by
  by_cases hc : c < 0 ∨ 3 < c
  · go_enter Try.func12, Try.ntmps12
    go_wp2_with (go_at_call 16; refine (refUpTo _ _ _ _).mono ?_; rw [in_no hc]; rintro e w1 ⟨rfl, rfl⟩)
    go_ret
    exact ⟨ret_bool (by simp [opMay]; omega), Le.alloc _ _⟩
  have hc' := in_yes (a := 0) (x := c) (b := 3) (by omega) (by omega)
  by_cases hr : r < 0 ∨ 3 < r
  · go_enter Try.func12, Try.ntmps12
    go_wp2_with (go_at_call 16; refine (refUpTo _ _ _ _).mono ?_; (first | rw [hc'] | rw [in_no hr]); rintro e w1 ⟨rfl, rfl⟩)
    go_ret
    exact ⟨ret_bool (by simp [opMay]; omega), Le.alloc _ _⟩
  have hr' := in_yes (a := 0) (x := r) (b := 3) (by omega) (by omega)
  by_cases ha : a < 0 ∨ 255 < a
  · go_enter Try.func12, Try.ntmps12
    go_wp2_with (go_at_call 16; refine (refUpTo _ _ _ _).mono ?_; (first | rw [hc'] | rw [hr'] | rw [in_no ha]); rintro e w1 ⟨rfl, rfl⟩)
    go_ret
    exact ⟨ret_bool (by simp [opMay]; omega), Le.alloc _ _⟩
  have ha' := in_yes (a := 0) (x := a) (b := 255) (by omega) (by omega)
  have hH : opMay c r a = (decide (c < 2) || (decide (a = 0) && (decide (c = 2) || decide (r = 0)))) := by
    rw [Bool.eq_iff_iff]; simp [opMay]; omega
  rw [hH]
  clear hH
  by_cases h2 : c < 2
  · go_enter Try.func12, Try.ntmps12
    go_wp2_with (go_at_call 16; refine (refUpTo _ _ _ _).mono ?_; (first | rw [hc'] | rw [hr'] | rw [ha']); rintro e w1 ⟨rfl, rfl⟩)
    go_ret
    exact ⟨ret_bool (by simp [h2]), Le.alloc _ _⟩
  by_cases h0 : a = 0
  · subst h0
    by_cases h3 : c = 2
    · subst h3
      go_enter Try.func12, Try.ntmps12
      go_wp2_with (go_at_call 16; refine (refUpTo _ _ _ _).mono ?_; (first | rw [hc'] | rw [hr'] | rw [ha']); rintro e w1 ⟨rfl, rfl⟩)
      go_ret
      exact ⟨ret_bool (by simp), Le.alloc _ _⟩
    · go_enter Try.func12, Try.ntmps12
      go_wp2_with (go_at_call 16; refine (refUpTo _ _ _ _).mono ?_; (first | rw [hc'] | rw [hr'] | rw [ha']); rintro e w1 ⟨rfl, rfl⟩)
      go_ret
      exact ⟨ret_bool (by simp [h3, beq_int]), Le.alloc _ _⟩
  · go_enter Try.func12, Try.ntmps12
    go_wp2_with (go_at_call 16; refine (refUpTo _ _ _ _).mono ?_; (first | rw [hc'] | rw [hr'] | rw [ha']); rintro e w1 ⟨rfl, rfl⟩)
    go_ret
    exact ⟨ret_bool (by simp [h0]), Le.alloc _ _⟩

theorem opUp_lt (c r a : Int) : opUp c r a = (opMay c r a && decide (c < 2)) := by
  rw [Bool.eq_iff_iff]; simp [opUp, opMay]; omega

set_option maxHeartbeats 2000000 in
theorem refUpdates (c r a : Int) (w : World) :
    Calls Try.prog 14 #[opV c r a] w fun e w' => e = .returned (.bool (opUp c r a)) ∧ Le w w' := by
  have hb := Box.new w #[.int .i64 c, .int .i64 r, .int .i64 a] 23
  have hl := Le.alloc w (.cells #[.int .i64 c, .int .i64 r, .int .i64 a] 23)
  rw [opUp_lt]
  cases hm : opMay c r a
  all_goals
    go_enter Try.func14, Try.ntmps14
    go_wp2_with (go_at_call 12; refine (refOperMay _ _ _ _).mono ?_; rw [hm]; rintro e w1 ⟨rfl, l1⟩; obtain ⟨b0, b1, b2, f0, f1, f2⟩ := (hb.le l1).op)
    go_ret
    exact ⟨ret_bool (by simp), hl.trans l1⟩


set_option maxHeartbeats 2000000 in
theorem refPut (c r a : Int) (w : World) :
    Calls Try.prog 7 #[opV c r a] w fun e w' => e = .returned (.tuple #[.string (putS c r a).1, .int .i64 (putS c r a).2]) ∧ Le w w' := by
  have hb := Box.new w #[.int .i64 c, .int .i64 r, .int .i64 a] 23
  have hl := Le.alloc w (.cells #[.int .i64 c, .int .i64 r, .int .i64 a] 23)
  cases hm : opMay c r a
  · rw [show putS c r a = (⟨#[]⟩, 200) by simp [putS, hm]]
    go_enter Try.func7, Try.ntmps7
    go_wp2_with (go_at_call 12; refine (refOperMay _ _ _ _).mono ?_; rw [hm]; rintro e w1 ⟨rfl, l1⟩)
    go_ret2
    exact ⟨rfl, hl.trans l1⟩
  · rw [show putS c r a = (strOfNums [c, r, a], 0) by simp [putS, hm]]
    obtain ⟨m0, m1, m2, m3, m4, m5⟩ := opMay_bounds hm
    have hcv := fun w : World => bytes3_string w c r a 5
    go_enter Try.func7, Try.ntmps7
    go_wp2_with (go_at_call 12; refine (refOperMay _ _ _ _).mono ?_; rw [hm]; rintro e w1 ⟨rfl, l1⟩; obtain ⟨b0, b1, b2, f0, f1, f2⟩ := (hb.le l1).op)
    go_ret2
    exact ⟨rfl, (hl.trans l1).trans (Le.alloc _ _)⟩

set_option linter.unusedSimpArgs false in
set_option maxHeartbeats 2000000 in
theorem refGet (s : ByteArray) (w : World) :
    Calls Try.prog 9 #[.string s] w fun e w' => e = .returned (.tuple #[opV (getS s).1 (getS s).2.1 (getS s).2.2.1, .int .i64 (getS s).2.2.2]) ∧ Le w w' := by
  by_cases hs : s.size = 3
  · obtain ⟨x, y, z, rfl⟩ := three hs
    have e0 : ∀ h, (ByteArray.mk #[x, y, z])[0]'h = x := fun _ => rfl
    have e1 : ∀ h, (ByteArray.mk #[x, y, z])[1]'h = y := fun _ => rfl
    have e2 : ∀ h, (ByteArray.mk #[x, y, z])[2]'h = z := fun _ => rfl
    have hb := Box.new w #[.int .i64 0, .int .i64 0, .int .i64 0] 23
    have hl := Le.alloc w (.cells #[.int .i64 0, .int .i64 0, .int .i64 0] 23)
    cases hm : opMay x.toNat y.toNat z.toNat
    · rw [show getS ⟨#[x, y, z]⟩ = (0, 0, 0, 200) by simp [getS, byteAt, hm]]
      go_enter Try.func9, Try.ntmps9
      go_wp2
      go_region
      simp only [wrap64_u8, e0, e1, e2]
      go_wp2_with fail
      refine (refOperMay _ _ _ _).mono ?_
      rw [hm]
      rintro e w1 ⟨rfl, l1⟩
      replace l1 := ((Le.alloc _ _).trans (Le.drew _)).trans l1
      obtain ⟨b0, b1, b2, f0, f1, f2⟩ := (hb.le l1).op
      go_wp2
      refine bodyPost_ret (v := .tuple #[opV 0 0 0, .int .i64 200]) (by simp [results, Try.results9, go_sem, b0, b1, b2]) rfl ⟨rfl, ?_⟩
      exact (((hl.trans l1).setCell (Nat.le_refl _) _).setCell (Nat.le_refl _) _).setCell (Nat.le_refl _) _
    · rw [show getS ⟨#[x, y, z]⟩ = ((x.toNat : Int), (y.toNat : Int), (z.toNat : Int), 0) by simp [getS, byteAt, hm, hs]]
      go_enter Try.func9, Try.ntmps9
      go_wp2
      go_region
      simp only [wrap64_u8, e0, e1, e2]
      go_wp2_with fail
      refine (refOperMay _ _ _ _).mono ?_
      rw [hm]
      rintro e w1 ⟨rfl, l1⟩
      have hb2 := (Box.new _ _ _).le ((Le.drew _).trans l1)
      rw [World.size_alloc] at hb2
      replace l1 := ((Le.alloc _ _).trans (Le.drew _)).trans l1
      obtain ⟨b0, b1, b2, f0, f1, f2⟩ := (hb.le l1).op
      obtain ⟨d0, d1, d2, _, _, _⟩ := hb2.op
      go_wp2
      refine bodyPost_ret (v := .tuple #[opV x.toNat y.toNat z.toNat, .int .i64 0]) (by simp [results, Try.results9, go_sem, b0, b1, b2]) rfl ⟨rfl, ?_⟩
      exact (((hl.trans l1).setCell (Nat.le_refl _) _).setCell (Nat.le_refl _) _).setCell (Nat.le_refl _) _
  · rw [show getS s = (0, 0, 0, 200) by simp [getS, hs]]
    have hne : (((s.size : Int)) != 3) = true := by simp; omega
    go_enter Try.func9, Try.ntmps9
    go_wp2
    refine bodyPost_ret (v := .tuple #[opV 0 0 0, .int .i64 200]) (by simp [results, Try.results9, go_sem]) rfl ⟨rfl, Le.alloc _ _⟩

end Go.Proofs.Ytcjflnhpfkkmpaa
