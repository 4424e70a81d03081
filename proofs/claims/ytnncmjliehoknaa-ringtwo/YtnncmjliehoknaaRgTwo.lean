/-
  THE WALK over choruslaw10.RingTwo: it answers true, for every three numbers, and turns nothing that was there. No condition.
-/
import Derived.Test.YtnncmjliehoknaaRgAwake
import Derived.Test.YtnncmjliehoknaaRgI
import Derived.Test.YtnncmjliehoknaaBits
import Derived.Test.YtnncmjliehoknaaLater
import Derived.Deep.Cut
namespace Go.Proofs.Ytnncmjliehoknaa
open Go.RowKit

/-- Eight answers in a variable. -/
abbrev cellsB (ds : Nat → Bool) : Array Value := #[.bool (ds 0), .bool (ds 1), .bool (ds 2), .bool (ds 3), .bool (ds 4), .bool (ds 5), .bool (ds 6), .bool (ds 7)]
theorem eight {p : Nat} (h : p < 8) : p = 0 ∨ p = 1 ∨ p = 2 ∨ p = 3 ∨ p = 4 ∨ p = 5 ∨ p = 6 ∨ p = 7 := by omega
theorem cellsB_at (ds : Nat → Bool) {p : Nat} (h : p < 8) : (cellsB ds)[p]? = some (.bool (ds p)) := by
  rcases eight h with rfl | rfl | rfl | rfl | rfl | rfl | rfl | rfl <;> rfl
def updB (ds : Nat → Bool) (p : Nat) : Nat → Bool := fun j => if j = p then true else ds j
theorem cellsB_upd (ds : Nat → Bool) {p : Nat} (h : p < 8) : (cellsB ds).set! p (.bool true) = cellsB (updB ds p) := by
  rcases eight h with rfl | rfl | rfl | rfl | rfl | rfl | rfl | rfl <;> simp [updB, cellsB]

/-- What stands in slot j. -/
def slD (ds : Nat → Bool) (j : Nat) : Slt := if ds j then ⟨0, 0, j, bits .and .i64 j 3, 1⟩ else Slt.zero
def slotsD (ds : Nat → Bool) : List Slt := [slD ds 0, slD ds 1, slD ds 2, slD ds 3, slD ds 4, slD ds 5, slD ds 6, slD ds 7]
theorem slotsD_len (ds : Nat → Bool) : (slotsD ds).length = 8 := rfl
theorem slotsD_fit (ds : Nat → Bool) : (slotsD ds).length * 40 ≤ 140737488351232 := by rw [slotsD_len]; decide
theorem slotsD_at (ds : Nat → Bool) {j : Nat} (h : j < 8) : (slotsD ds).getD j Slt.zero = slD ds j := by
  rcases eight h with rfl | rfl | rfl | rfl | rfl | rfl | rfl | rfl <;> rfl
theorem slotsD_set (ds : Nat → Bool) {p : Nat} (h : p < 8) : (slotsD ds).set p ⟨0, 0, p, bits .and .i64 p 3, 1⟩ = slotsD (updB ds p) := by
  rcases eight h with rfl | rfl | rfl | rfl | rfl | rfl | rfl | rfl <;> simp [slotsD, slD, updB]
theorem slotsD_none : slotsD (fun _ => false) = [Slt.zero, Slt.zero, Slt.zero, Slt.zero, Slt.zero, Slt.zero, Slt.zero, Slt.zero] := rfl
theorem slD_ok (ds : Nat → Bool) {j : Nat} (h : j < 8) : slotB (slD ds j) = true := by
  unfold slD
  split
  · have := and3 (j : Int)
    simp [slotB, opUp, opMay, this]
    omega
  · decide
theorem slotsD_all (ds : Nat → Bool) : (slotsD ds).all slotB = true := by
  simp only [slotsD, List.all_cons, List.all_nil, slD_ok ds (show 0 < 8 by decide), slD_ok ds (show 1 < 8 by decide), slD_ok ds (show 2 < 8 by decide), slD_ok ds (show 3 < 8 by decide), slD_ok ds (show 4 < 8 by decide), slD_ok ds (show 5 < 8 by decide), slD_ok ds (show 6 < 8 by decide), slD_ok ds (show 7 < 8 by decide), Bool.and_true]
theorem mayD (ds : Nat → Bool) {t : Int} (h0 : 0 ≤ t) (h1 : t ≤ 8) : mayR ⟨0, t, 0, slotsD ds⟩ = true :=
  mayR_of (show slotsB (8 : Int) = true by decide) (by simp only; omega) h0 (by simp only; omega) (by simp only [slotsD_len]; omega) (by simp only; omega) (by simp only; omega) (slotsD_all ds)
theorem seatD {h t f : Int} (ds : Nat → Bool) {p : Nat} (hp : p < 8) : seat ⟨h, t, f, slotsD ds⟩ (p : Int) = p := by
  unfold seat
  simp only [slotsD_len]
  omega
theorem bitD {p : Nat} (hp : p < 8) : bitAt (p : Int) ((8 : Nat) : Int) = 1 := by
  unfold bitAt
  rw [Int.ediv_eq_zero_of_lt (by omega) (by omega)]
  decide
theorem publishD (ds : Nat → Bool) {t : Int} {p : Nat} (h1 : t ≤ 8) (hp : (p : Int) < t) : publishS ⟨0, t, 0, slotsD ds⟩ p 0 0 p (bits .and .i64 p 3) = (⟨0, t, 0, slotsD (updB ds p)⟩, 0) := by
  have h3 := and3 (p : Int)
  rw [publish_ok (mayD ds (by omega) h1) (by simp only; omega) (by simp [opUp, opMay]; omega) (by simp [threadB, h3]; omega), seatD ds (by omega)]
  simp only [slotsD_len, bitD (show p < 8 by omega), slotsD_set ds (show p < 8 by omega)]
theorem entryYes (ds : Nat → Bool) {t : Int} {j : Nat} (h1 : t ≤ 8) (hp : (j : Int) < t) (hd : ds j = true) : entryS ⟨0, t, 0, slotsD ds⟩ j = (⟨0, 0, j, bits .and .i64 j 3, 1⟩, 0) :=
  entry_live (mayD ds (by omega) h1) (by simp only; omega) (by rw [seatD ds (by omega)]; simp only [slotsD_at ds (show j < 8 by omega), slD, hd, if_true]) (by simp only [slotsD_len]; exact (bitD (by omega)).symm)
theorem entryNo (ds : Nat → Bool) {t : Int} {j : Nat} (h1 : t ≤ 8) (hp : (j : Int) < t) (hd : ds j = false) : entryS ⟨0, t, 0, slotsD ds⟩ j = (⟨0, 0, 0, 0, 0⟩, 1002) :=
  entry_dead (mayD ds (by omega) h1) (by rw [seatD ds (by omega)]; simp only [slotsD_at ds (show j < 8 by omega), slD, hd, slotsD_len, bitD (show j < 8 by omega), Bool.false_eq_true, ↓reduceIte]; decide)

/-- How many of the first n are done. -/
def cntTo (ds : Nat → Bool) : Nat → Nat
  | 0 => 0
  | n + 1 => cntTo ds n + (if ds n then 1 else 0)
theorem cntTo_none : ∀ n, cntTo (fun _ => false) n = 0
  | 0 => rfl
  | n + 1 => by simp [cntTo, cntTo_none n]
theorem cntTo_free (ds : Nat → Bool) : ∀ n, cntTo ds n < n → ∃ f, f < n ∧ ds f = false
  | 0, h => by omega
  | n + 1, h => by
    cases e : ds n
    · exact ⟨n, by omega, e⟩
    · simp [cntTo, e] at h
      obtain ⟨f, h1, h2⟩ := cntTo_free ds n h
      exact ⟨f, by omega, h2⟩
theorem cntTo_off (ds : Nat → Bool) {p : Nat} : ∀ n, n ≤ p → cntTo (updB ds p) n = cntTo ds n
  | 0, _ => rfl
  | n + 1, h => by
    have e : updB ds p n = ds n := by simp [updB]; omega
    have ih := cntTo_off ds (p := p) n (by omega)
    simp only [cntTo, ih, e]
theorem cntTo_upd (ds : Nat → Bool) {p : Nat} (hd : ds p = false) : ∀ n, p < n → cntTo (updB ds p) n = cntTo ds n + 1
  | 0, h => by omega
  | n + 1, h => by
    by_cases e : n = p
    · subst e
      have e2 : updB ds n n = true := by simp [updB]
      simp [cntTo, cntTo_off ds n (Nat.le_refl _), e2, hd]
    · have e2 : updB ds p n = ds n := by simp [updB, e]
      have ih := cntTo_upd ds hd n (by omega)
      simp only [cntTo, ih, e2]
      omega

set_option maxRecDepth 20000 in
set_option maxHeartbeats 4000000 in
theorem lawTwo (w : World) (a b c : Int) (A B C : Nat) (hA : bits .and .i64 a 3 = (A : Int)) (hB : bits .and .i64 b 3 = (B : Int)) (hC : bits .and .i64 c 7 = (C : Int)) (A1 : A ≤ 3) (B1 : B ≤ 3) (C1 : C ≤ 7) :
    Calls Try.prog 8 #[.int .i64 a, .int .i64 b, .int .i64 c] w fun e w' => e = .returned (.bool true) ∧ Le w w' := by
  have k1 := newAs (show newS 8 = (⟨0, 0, 0, slotsD fun _ => false⟩, 0) by decide)
  have k2 := reserveAs (show reserveS ⟨0, 0, 0, slotsD fun _ => false⟩ (1 + (A : Int)) = (⟨0, 1 + (A : Int), 0, slotsD fun _ => false⟩, 0, 0) by
    rw [reserve_ok (mayD _ (by omega) (by omega)) (by simp only [slotsD_len]; omega) rfl (by simp only [slotsD_len]; omega) (by simp only; omega)]; simp) (slotsD_fit _)
  have k3 := reserveAs (show reserveS ⟨0, 1 + (A : Int), 0, slotsD fun _ => false⟩ (1 + (B : Int)) = (⟨0, 1 + (A : Int) + (1 + (B : Int)), 0, slotsD fun _ => false⟩, 1 + (A : Int), 0) from
    reserve_ok (mayD _ (by omega) (by omega)) (by simp only [slotsD_len]; omega) rfl (by simp only [slotsD_len]; omega) (by simp only; omega)) (slotsD_fit _)
  go_enter Try.func8, Try.ntmps8
  go_wp2_with fail
  refine (lawAwake10 _).mono ?_
  rintro e w1 ⟨rfl, l1⟩
  go_wp2_with fail
  refine (k1 _).mono ?_
  rintro e w2 ⟨q2, rfl, o2, l2⟩
  have a2 := Le.alloc w2 (.cells (cellsR 0 0 0 q2) 24)
  replace l2 := (l1.trans l2).trans a2
  go_wp2_with fail
  refine (k2 q2 _ (o2.has.le a2)).mono ?_
  rintro e w3 ⟨q3, rfl, o3, l3⟩
  have a3 := Le.alloc w3 (.cells (cellsR 0 (1 + A) 0 q3) 24)
  replace l3 := (l2.trans l3).trans a3
  go_wp2_with fail
  refine (k3 q3 _ (o3.has.le a3)).mono ?_
  rintro e w4 ⟨q4, rfl, o4, l4⟩
  have hgs : w.heap.size ≤ w4.heap.size := (l3.trans l4).size
  have a4 := Le.alloc w4 (.cells (cellsR 0 (1 + A + (1 + B)) 0 q4) 24)
  have hby := Box.new w4 (cellsR 0 (1 + A + (1 + B)) 0 q4) 24
  have ho := (o4.le a4).base l3.size
  have hle := (l3.trans l4).trans a4
  clear l1 l2 l3 l4 a2 a3 a4 o2 o3 o4 k1 k2 k3
  go_upto_region 7 with fail
  generalize hW : w4.alloc (.cells (cellsR 0 (1 + A + (1 + B)) 0 q4) 24) = W4 at hby ho hle ⊢
  clear hW
  go_upto_region 10 with (go_at_call 21; refine (lawNum _ _).mono ?_; rintro e _ ⟨rfl, rfl⟩)
  have hgd : w.heap.size ≤ W4.heap.size := hle.size
  have hgy : w4.heap.size < W4.heap.size := hby.lt
  have hbd := Box.new W4 (cellsB fun _ => false) 59
  have a5 := Le.alloc W4 (.cells (cellsB fun _ => false) 59)
  replace hby := hby.le a5
  replace ho := ho.le a5
  replace hle := hle.trans a5
  generalize hW : W4.alloc (.cells (cellsB fun _ => false) 59) = W5 at hby hbd ho hle ⊢
  clear hW a5
  go_wp2_with fail
  go_loopw [18] (fun i wr => ∃ (I : Nat) (ds : Nat → Bool) (q : Sl), I ≤ A + B + 2 ∧ i = .int .i64 I ∧ cntTo ds (A + B + 2) = I ∧ Box wr w4.heap.size (cellsR 0 (1 + A + (1 + B)) 0 q) 24 ∧ Box wr W4.heap.size (cellsB ds) 59 ∧ OwnL wr w.heap.size (slV q) (slotsD ds) ∧ Le w wr) (fun i _ => A + B + 2 - (intOf i).toNat)
  case atStart => exact ⟨0, fun _ => false, q4, by omega, rfl, cntTo_none _, hby, hbd, ho, hle⟩
  case round =>
    clear hby hbd ho hle
    obtain ⟨I, ds, q, hI, rfl, hcnt, hby, hbd, ho, hle⟩ := hrel
    by_cases hgo : I < A + B + 2
    · have hgo' : (I : Int) < 1 + (A : Int) + (1 + (B : Int)) := by omega
      obtain ⟨f, hf1, hf2⟩ := cntTo_free ds (A + B + 2) (by omega)
      obtain ⟨p0, hp0, hp1⟩ : ∃ p : Nat, ((I : Int) * 3 + (C : Int)).tmod 8 = (p : Int) ∧ p < 8 := by
        rw [Int.tmod_eq_emod_of_nonneg (by omega)]
        exact ⟨(((I : Int) * 3 + C) % 8).toNat, by omega, by omega⟩
      have HC : Hid (cntTo ds (A + B + 2) = I) := hcnt
      have HF : Hid (ds f = false) := hf2
      clear hcnt hf2
      go_wp2_with fail
      go_loop [19] (fun v => ∃ p : Nat, p < 8 ∧ v = .int .i64 p) (fun v => (f + 8 - (intOf v).toNat) % 8)
      case atStart => exact ⟨p0, hp1, rfl⟩
      case round =>
        clear hp0 hp1
        obtain ⟨p, hp, rfl⟩ := hrel
        obtain ⟨p1, hq1, hq2⟩ : ∃ r : Nat, ((p : Int) + 1).tmod 8 = (r : Int) ∧ r = (p + 1) % 8 := by
          rw [Int.tmod_eq_emod_of_nonneg (by omega)]
          exact ⟨(p + 1) % 8, by omega, rfl⟩
        have HQ : Hid (p1 = (p + 1) % 8) := hq2
        clear hq2
        by_cases hN : A + B + 2 ≤ p
        · have hN' : 1 + (A : Int) + (1 + (B : Int)) ≤ (p : Int) := by omega
          go_wp2_with fail
          go_round
          case rel => exact ⟨p1, by have := HQ.out; omega, rfl⟩
          case measure => have := HQ.out; simp [intOf]; omega
        · have hN' : ¬ 1 + (A : Int) + (1 + (B : Int)) ≤ (p : Int) := by omega
          have hpi0 : (0 : Int) ≤ (p : Int) := by omega
          have hpi1 : (p : Int) < 8 := by omega
          have hcd := (hbd.cell p).trans (cellsB_at ds hp)
          cases hd : ds p
          · rw [hd] at hcd
            have kP := publishAs (publishD ds (t := (1 + A + (1 + B))) (p := p) (by omega) (by omega)) (slotsD_fit ds)
            obtain ⟨y0, y1, y2, y3, _, _, _, _⟩ := hby.ring
            clear hq1 HQ p1
            go_wp2_with fail
            refine (kP q _ ho.has).mono ?_
            rintro e w6 ⟨q6, rfl, o6, l6⟩
            have a6 := Le.alloc w6 (.cells (cellsR 0 (1 + A + (1 + B)) 0 q6) 24)
            have hbz := Box.new w6 (cellsR 0 (1 + A + (1 + B)) 0 q6) 24
            have ho6 := (o6.le a6).base hle.size
            replace hby := (hby.le l6).le a6
            replace hbd := (hbd.le l6).le a6
            replace hle := (hle.trans l6).trans a6
            clear y0 y1 y2 y3 l6 a6 o6 kP ho hcd
            go_upto_region 19 with (go_at_call 21; refine (lawNum _ _).mono ?_; rintro e _ ⟨rfl, rfl⟩)
            generalize hW : w6.alloc (.cells (cellsR 0 (1 + A + (1 + B)) 0 q6) 24) = V6 at hby hbd hbz ho6 hle ⊢
            clear hW
            obtain ⟨y0, y1, y2, y3, f0, f1, f2, f3⟩ := hby.ring
            obtain ⟨z0, z1, z2, z3, _, _, _, _⟩ := hbz.ring
            have hne := ho6.apart hby (by decide)
            go_upto_region 20 with fail
            have hby7 := hby.put4 (h' := 0) (t' := (1 + A + (1 + B))) (f' := 0) (q' := q6)
            have hbd7 := hbd.other4 (g' := w4.heap.size) (a := .int .i64 0) (b := .int .i64 (1 + A + (1 + B))) (c := .int .i64 0) (d := slV q6) (by omega)
            have ho7 := ho6.set4 (a := .int .i64 0) (b := .int .i64 (1 + A + (1 + B))) (c := .int .i64 0) (d := slV q6) hne
            have hle7 := hle.put4 (g := w4.heap.size) (a := .int .i64 0) (b := .int .i64 (1 + A + (1 + B))) (c := .int .i64 0) (d := slV q6) hgs
            generalize hW : ((((V6.setCell ⟨w4.heap.size, 0, none⟩ (.int .i64 0)).setCell ⟨w4.heap.size, 1, none⟩ (.int .i64 (1 + A + (1 + B)))).setCell ⟨w4.heap.size, 2, none⟩ (.int .i64 0)).setCell ⟨w4.heap.size, 3, none⟩ (slV q6)) = V7 at hby7 hbd7 ho7 hle7 ⊢
            clear hW y0 y1 y2 y3 f0 f1 f2 f3 z0 z1 z2 z3 hby hbd hbz ho6 hle hne
            have hcd := (hbd7.cell p).trans (cellsB_at ds hp)
            have hfd := hbd7.frozen p
            go_upto_region 21 with fail
            have hbd8 : Box (V7.setCell ⟨W4.heap.size, p, none⟩ (.bool true)) W4.heap.size (cellsB (updB ds p)) 59 := by
              have := hbd7.set p (.bool true)
              rw [cellsB_upd ds hp] at this
              exact this
            have hby8 := hby7.other (g' := W4.heap.size) (by omega) p (.bool true)
            have ho8 := ho7.setBox (i := p) (u := .bool true) hbd7 (by decide)
            have hle8 := hle7.set (g := W4.heap.size) (i := p) (u := .bool true) hgd
            generalize hW : V7.setCell ⟨W4.heap.size, p, none⟩ (.bool true) = V8 at hbd8 hby8 ho8 hle8 ⊢
            clear hW hcd hfd hbd7 hby7 ho7 hle7
            go_wp2_with fail
            go_loopw [22] (fun j wj => ∃ J : Nat, J ≤ A + B + 2 ∧ j = .int .i64 J ∧ Le V8 wj) (fun j _ => A + B + 2 - (intOf j).toNat)
            case atStart => exact ⟨0, by omega, rfl, Le.refl _⟩
            case round =>
              obtain ⟨J, hJ, rfl, hV⟩ := hrel
              by_cases hJ2 : J < A + B + 2
              · have hJ' : (J : Int) < 1 + (A : Int) + (1 + (B : Int)) := by omega
                have hJi0 : (0 : Int) ≤ (J : Int) := by omega
                have hJi1 : (J : Int) < 8 := by omega
                cases hd2 : updB ds p J
                · have kE := entryAs (entryNo (updB ds p) (t := (1 + A + (1 + B))) (j := J) (by omega) (by omega) hd2) (slotsD_fit _)
                  obtain ⟨y0, y1, y2, y3, _, _, _, _⟩ := (hby8.le hV).ring
                  go_wp2_with fail
                  refine (kE q6 _ (ho8.has.le hV)).mono ?_
                  rintro e w9 ⟨rfl, l9⟩
                  have hbs := Box.new w9 #[.int .i64 0, .int .i64 0, .int .i64 0, .int .i64 0, .int .i64 0] 38
                  replace l9 := l9.trans (Le.alloc w9 (.cells #[.int .i64 0, .int .i64 0, .int .i64 0, .int .i64 0, .int .i64 0] 38))
                  replace hV := hV.trans l9
                  have hbj := hbd8.le hV
                  clear y0 y1 y2 y3 l9 kE
                  go_upto_region 25 with fail
                  generalize hW : w9.alloc (.cells #[.int .i64 0, .int .i64 0, .int .i64 0, .int .i64 0, .int .i64 0] 38) = V9 at hbs hV hbj ⊢
                  clear hW
                  obtain ⟨s0, s1, s2, s3, s4⟩ := hbs.laterS
                  have hdj : ∀ X : Later V9, X.w.cell? ⟨W4.heap.size, J, none⟩ = some (.bool false) := fun X => by rw [← hd2]; exact ((hbj.le X.le).cell J).trans (cellsB_at _ (by omega))
                  refine wp_region_later (by kernel_rfl) (by kernel_rfl) ?_
                  repeat (go_big_quiet_step (first | (go_at_call 21; exact Calls.later_same (lawNum _ _))))
                  refine wpQuiet_nil ?_
                  rintro _ ⟨X, rfl⟩
                  go_wp2_with fail
                  go_roundw
                  case rel => exact ⟨J + 1, by omega, by go_num, hV.trans X.le⟩
                  case measure => simp [intOf]; omega
                · have kE := entryAs (entryYes (updB ds p) (t := (1 + A + (1 + B))) (j := J) (by omega) (by omega) hd2) (slotsD_fit _)
                  obtain ⟨y0, y1, y2, y3, _, _, _, _⟩ := (hby8.le hV).ring
                  go_wp2_with fail
                  refine (kE q6 _ (ho8.has.le hV)).mono ?_
                  rintro e w9 ⟨rfl, l9⟩
                  have hbs := Box.new w9 #[.int .i64 0, .int .i64 0, .int .i64 J, .int .i64 (bits .and .i64 J 3), .int .i64 1] 38
                  replace l9 := l9.trans (Le.alloc w9 (.cells #[.int .i64 0, .int .i64 0, .int .i64 J, .int .i64 (bits .and .i64 J 3), .int .i64 1] 38))
                  replace hV := hV.trans l9
                  have hbj := hbd8.le hV
                  clear y0 y1 y2 y3 l9 kE
                  go_upto_region 25 with fail
                  generalize hW : w9.alloc (.cells #[.int .i64 0, .int .i64 0, .int .i64 J, .int .i64 (bits .and .i64 J 3), .int .i64 1] 38) = V9 at hbs hV hbj ⊢
                  clear hW
                  obtain ⟨s0, s1, s2, s3, s4⟩ := hbs.laterS
                  have hdj : ∀ X : Later V9, X.w.cell? ⟨W4.heap.size, J, none⟩ = some (.bool true) := fun X => by rw [← hd2]; exact ((hbj.le X.le).cell J).trans (cellsB_at _ (by omega))
                  refine wp_region_later (by kernel_rfl) (by kernel_rfl) ?_
                  repeat (go_big_quiet_step (first | (go_at_call 21; exact Calls.later_same (lawNum _ _))))
                  refine wpQuiet_nil ?_
                  rintro _ ⟨X, rfl⟩
                  go_wp2_with fail
                  go_roundw
                  case rel => exact ⟨J + 1, by omega, by go_num, hV.trans X.le⟩
                  case measure => simp [intOf]; omega
              · have hJ' : ¬ (J : Int) < 1 + (A : Int) + (1 + (B : Int)) := by omega
                go_wp2_with fail
                go_roundw
                case rel => exact ⟨I + 1, updB ds p, q6, by omega, by go_num, (by rw [cntTo_upd ds hd _ (by omega), HC.out]), hby8.le hV, hbd8.le hV, ho8.le hV, hle8.trans hV⟩
                case measure => simp [intOf]; omega
          · rw [hd] at hcd
            have hpf : p ≠ f := fun e => by rw [e, HF.out] at hd; cases hd
            go_wp2_with fail
            go_round
            case rel => exact ⟨p1, by have := HQ.out; omega, rfl⟩
            case measure => have := HQ.out; simp [intOf]; omega
    · have hgo' : ¬ (I : Int) < 1 + (A : Int) + (1 + (B : Int)) := by omega
      go_wp2_with fail
      go_ret
      exact ⟨rfl, hle⟩

theorem lawRingTwo (w : World) (a b c : Int) : Calls Try.prog 8 #[.int .i64 a, .int .i64 b, .int .i64 c] w fun e w' => e = .returned (.bool true) ∧ Le w w' := by
  obtain ⟨A, hA, A1⟩ : ∃ y : Nat, bits .and .i64 a 3 = (y : Int) ∧ y ≤ 3 := ⟨(a % 4).toNat, by rw [and3]; omega, by omega⟩
  obtain ⟨B, hB, B1⟩ : ∃ y : Nat, bits .and .i64 b 3 = (y : Int) ∧ y ≤ 3 := ⟨(b % 4).toNat, by rw [and3]; omega, by omega⟩
  obtain ⟨C, hC, C1⟩ : ∃ y : Nat, bits .and .i64 c 7 = (y : Int) ∧ y ≤ 7 := ⟨(c % 8).toNat, by rw [and7]; omega, by omega⟩
  exact lawTwo w a b c A B C hA hB hC A1 B1 C1

end Go.Proofs.Ytnncmjliehoknaa
