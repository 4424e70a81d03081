/-
  THE WALKS over package oper's Put and Get: what each answers, for every operation and every text. No condition.
-/
import Derived.Test.YtcjflnhpfkkmpaaOperA
import Derived.Laws.BytesArg
namespace Go.Proofs.Ytcjflnhpfkkmpaa
open Go.RowKit

/-- Put's answer. -/
def putS (c r a : Int) : ByteArray × Int := if opMay c r a then (strOfNums [c, r, a], 0) else (⟨#[]⟩, 200)

theorem opMay_bounds {c r a : Int} (h : opMay c r a = true) : 0 ≤ c ∧ c ≤ 3 ∧ 0 ≤ r ∧ r ≤ 3 ∧ 0 ≤ a ∧ a ≤ 255 := by
  simp [opMay] at h; omega

theorem bytes3_string (w : World) (x y z : Int) (t : TypeId) : (convert 42 9 (.slice (some ⟨w.heap.size, 0, none⟩) 3 3)).run Try.prog (w.alloc (.cells #[.int .u8 x, .int .u8 y, .int .u8 z] t)) = .ok (.string (strOfNums [x, y, z])) (w.alloc (.cells #[.int .u8 x, .int .u8 y, .int .u8 z] t)) := by
  refine run_convert_bytes_arg _ 42 5 Try.underlying42 Try.underlying5 w.heap.size 0 3 3 [x, y, z] rfl (fun i hi => ?_) 9 Try.underlying9
  rw [cell_of_row _ w.heap.size _ _ t (0, 0) (heap_alloc_new w _)]
  rcases (by omega : i = 0 ∨ i = 1 ∨ i = 2) with rfl | rfl | rfl <;> rfl

set_option maxHeartbeats 2000000 in
theorem operPut (c r a : Int) (w : World) :
    Calls Try.prog 6 #[opV c r a] w fun e w' => e = .returned (.tuple #[.string (putS c r a).1, .int .i64 (putS c r a).2]) ∧ Le w w' := by
  have hb := Box.new w #[.int .i64 c, .int .i64 r, .int .i64 a] 23
  have hl := Le.alloc w (.cells #[.int .i64 c, .int .i64 r, .int .i64 a] 23)
  cases hm : opMay c r a
  · rw [show putS c r a = (⟨#[]⟩, 200) by simp [putS, hm]]
    go_enter Try.func6, Try.ntmps6
    go_wp2_with (go_at_call 11; refine (operMay _ _ _ _).mono ?_; rw [hm]; rintro e w1 ⟨rfl, l1⟩)
    go_ret2
    exact ⟨rfl, hl.trans l1⟩
  · rw [show putS c r a = (strOfNums [c, r, a], 0) by simp [putS, hm]]
    obtain ⟨m0, m1, m2, m3, m4, m5⟩ := opMay_bounds hm
    have hcv := fun w : World => bytes3_string w c r a 5
    go_enter Try.func6, Try.ntmps6
    go_wp2_with (go_at_call 11; refine (operMay _ _ _ _).mono ?_; rw [hm]; rintro e w1 ⟨rfl, l1⟩; obtain ⟨b0, b1, b2, f0, f1, f2⟩ := (hb.le l1).op)
    go_ret2
    exact ⟨rfl, (hl.trans l1).trans (Le.alloc _ _)⟩

/-- What byte a text has at a place. -/
def byteAt (s : ByteArray) (i : Nat) : Int := ((s.data.toList.getD i 0).toNat : Int)
/-- Get's answer. -/
def getS (s : ByteArray) : Int × Int × Int × Int :=
  if decide (s.size = 3) && opMay (byteAt s 0) (byteAt s 1) (byteAt s 2) then (byteAt s 0, byteAt s 1, byteAt s 2, 0) else (0, 0, 0, 200)

theorem three {s : ByteArray} (h : s.size = 3) : ∃ a b c, s = ⟨#[a, b, c]⟩ := by
  obtain ⟨⟨l⟩⟩ := s
  have h' : l.length = 3 := h
  match l, h' with
  | [a, b, c], _ => exact ⟨a, b, c, rfl⟩

theorem wrap64_u8 (x : UInt8) : wrap64 (x.toNat : Int) = x.toNat := by
  have := x.toNat_lt
  simp [wrap64]
  omega

set_option linter.unusedSimpArgs false in
set_option maxHeartbeats 2000000 in
theorem operGet (s : ByteArray) (w : World) :
    Calls Try.prog 8 #[.string s] w fun e w' => e = .returned (.tuple #[opV (getS s).1 (getS s).2.1 (getS s).2.2.1, .int .i64 (getS s).2.2.2]) ∧ Le w w' := by
  by_cases hs : s.size = 3
  · obtain ⟨x, y, z, rfl⟩ := three hs
    have e0 : ∀ h, (ByteArray.mk #[x, y, z])[0]'h = x := fun _ => rfl
    have e1 : ∀ h, (ByteArray.mk #[x, y, z])[1]'h = y := fun _ => rfl
    have e2 : ∀ h, (ByteArray.mk #[x, y, z])[2]'h = z := fun _ => rfl
    have hb := Box.new w #[.int .i64 0, .int .i64 0, .int .i64 0] 23
    have hl := Le.alloc w (.cells #[.int .i64 0, .int .i64 0, .int .i64 0] 23)
    cases hm : opMay x.toNat y.toNat z.toNat
    · rw [show getS ⟨#[x, y, z]⟩ = (0, 0, 0, 200) by simp [getS, byteAt, hm]]
      go_enter Try.func8, Try.ntmps8
      go_wp2
      go_region
      simp only [wrap64_u8, e0, e1, e2]
      go_wp2_with fail
      refine (operMay _ _ _ _).mono ?_
      rw [hm]
      rintro e w1 ⟨rfl, l1⟩
      replace l1 := ((Le.alloc _ _).trans (Le.drew _)).trans l1
      obtain ⟨b0, b1, b2, f0, f1, f2⟩ := (hb.le l1).op
      go_wp2
      refine bodyPost_ret (v := .tuple #[opV 0 0 0, .int .i64 200]) (by simp [results, Try.results8, go_sem, b0, b1, b2]) rfl ⟨rfl, ?_⟩
      exact (((hl.trans l1).setCell (Nat.le_refl _) _).setCell (Nat.le_refl _) _).setCell (Nat.le_refl _) _
    · rw [show getS ⟨#[x, y, z]⟩ = ((x.toNat : Int), (y.toNat : Int), (z.toNat : Int), 0) by simp [getS, byteAt, hm, hs]]
      go_enter Try.func8, Try.ntmps8
      go_wp2
      go_region
      simp only [wrap64_u8, e0, e1, e2]
      go_wp2_with fail
      refine (operMay _ _ _ _).mono ?_
      rw [hm]
      rintro e w1 ⟨rfl, l1⟩
      have hb2 := (Box.new _ _ _).le ((Le.drew _).trans l1)
      rw [World.size_alloc] at hb2
      replace l1 := ((Le.alloc _ _).trans (Le.drew _)).trans l1
      obtain ⟨b0, b1, b2, f0, f1, f2⟩ := (hb.le l1).op
      obtain ⟨d0, d1, d2, _, _, _⟩ := hb2.op
      go_wp2
      refine bodyPost_ret (v := .tuple #[opV x.toNat y.toNat z.toNat, .int .i64 0]) (by simp [results, Try.results8, go_sem, b0, b1, b2]) rfl ⟨rfl, ?_⟩
      exact (((hl.trans l1).setCell (Nat.le_refl _) _).setCell (Nat.le_refl _) _).setCell (Nat.le_refl _) _
  · rw [show getS s = (0, 0, 0, 200) by simp [getS, hs]]
    have hne : (((s.size : Int)) != 3) = true := by simp; omega
    go_enter Try.func8, Try.ntmps8
    go_wp2
    refine bodyPost_ret (v := .tuple #[opV 0 0 0, .int .i64 200]) (by simp [results, Try.results8, go_sem]) rfl ⟨rfl, Le.alloc _ _⟩

theorem u8_back {x : Int} (h0 : 0 ≤ x) (h1 : x ≤ 255) : ((UInt8.ofNat x.toNat).toNat : Int) = x := by
  simp [UInt8.toNat_ofNat']; omega

theorem get_put {c r a : Int} (h : opMay c r a = true) : getS (strOfNums [c, r, a]) = (c, r, a, 0) := by
  obtain ⟨m0, m1, m2, m3, m4, m5⟩ := opMay_bounds h
  have hs : (strOfNums [c, r, a]).size = 3 := by rw [strOfNums_size]; rfl
  have e0 : byteAt (strOfNums [c, r, a]) 0 = c := u8_back (x := c) (by omega) (by omega)
  have e1 : byteAt (strOfNums [c, r, a]) 1 = r := u8_back (x := r) (by omega) (by omega)
  have e2 : byteAt (strOfNums [c, r, a]) 2 = a := u8_back (x := a) (by omega) (by omega)
  simp [getS, hs, e0, e1, e2, h]

theorem put_may {c r a : Int} (h : opMay c r a = true) : putS c r a = (strOfNums [c, r, a], 0) := by simp [putS, h]

theorem put_apart {c r a c' r' a' : Int} {xs ys : ByteArray} (hx : (xs, (0 : Int)) = putS c r a) (hy : (ys, (0 : Int)) = putS c' r' a') (h : ¬ (c = c' ∧ r = r' ∧ a = a')) : (xs.toList == ys.toList) = false := by
  have m : opMay c r a = true := by
    cases hm : opMay c r a with
    | true => rfl
    | false => simp [putS, hm] at hx
  have m' : opMay c' r' a' = true := by
    cases hm : opMay c' r' a' with
    | true => rfl
    | false => simp [putS, hm] at hy
  rw [put_may m] at hx
  rw [put_may m'] at hy
  have ex : xs = strOfNums [c, r, a] := congrArg Prod.fst hx
  have ey : ys = strOfNums [c', r', a'] := congrArg Prod.fst hy
  have : xs.toList ≠ ys.toList := by
    intro e
    rw [ByteArray.toList_eq, ByteArray.toList_eq] at e
    have e' : xs = ys := ByteArray.ext (Array.toList_inj.mp e)
    have g := get_put m
    rw [← ex, e', ey, get_put m'] at g
    simp only [Prod.mk.injEq] at g
    exact h ⟨g.1.symm, g.2.1.symm, g.2.2.1.symm⟩
  simpa using this

end Go.Proofs.Ytcjflnhpfkkmpaa
