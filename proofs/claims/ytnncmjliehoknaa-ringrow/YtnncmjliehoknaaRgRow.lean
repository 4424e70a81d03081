/-
  THE WALKS over choruslaw10.RingRow: it answers true, for every row of numbers and every number, and turns nothing that was there. Condition: the row's bytes are within the reach.
-/
import Derived.Test.YtnncmjliehoknaaRgAwake
import Derived.Test.YtnncmjliehoknaaRgI
import Derived.Test.YtnncmjliehoknaaBits
namespace Go.Proofs.Ytnncmjliehoknaa
open Go.RowKit

theorem seat_nat {h t f : Int} {ss : List Slt} {p : Nat} : seat ⟨h, t, f, ss⟩ (p : Int) = p % ss.length := by
  unfold seat
  rw [← Int.natCast_emod]
  exact Int.toNat_natCast _

/-- So many slots that may be, and none is of the lap that entry number J begins. -/
structure RowI (ss : List Slt) (J K : Nat) : Prop where
  len : ss.length = K
  all : ss.all slotB = true
  old : ∀ p : Nat, J ≤ p → p < J + K → ¬ (ss.getD (p % K) Slt.zero).b = bitAt p K

theorem getD_set_self {ss : List Slt} {i : Nat} {s : Slt} (h : i < ss.length) : (ss.set i s).getD i Slt.zero = s := by
  simp only [List.getD]
  rw [List.getElem?_set_self h]
  rfl
theorem getD_set_not {ss : List Slt} {i j : Nat} {s : Slt} (h : ¬ j = i) : (ss.set i s).getD j Slt.zero = ss.getD j Slt.zero := by
  simp only [List.getD]
  rw [List.getElem?_set_ne (fun e => h e.symm)]
theorem all_put {ss : List Slt} {s : Slt} {p : Slt → Bool} (h : ss.all p = true) (hs : p s = true) (i : Nat) : (ss.set i s).all p = true := by
  rw [List.all_eq_true] at h ⊢
  intro x hx
  rcases List.mem_or_eq_of_mem_set hx with hm | rfl
  · exact h x hm
  · exact hs

theorem RowI.next {ss : List Slt} {J K : Nat} {s : Slt} (h : RowI ss J K) (hK : K = 2 ∨ K = 4 ∨ K = 8 ∨ K = 16) (hs : slotB s = true) (hb : s.b = bitAt J K) : RowI (ss.set (J % K) s) (J + 1) K := by
  refine ⟨by rw [List.length_set]; exact h.len, all_put h.all hs _, fun p h1 h2 => ?_⟩
  by_cases e : p = J + K
  · rw [show p % K = J % K by rcases hK with rfl | rfl | rfl | rfl <;> omega, getD_set_self (by rw [h.len]; rcases hK with rfl | rfl | rfl | rfl <;> omega), hb, e]
    unfold bitAt
    rcases hK with rfl | rfl | rfl | rfl <;> simp only [Int.natCast_add] <;> omega
  · rw [getD_set_not (by rcases hK with rfl | rfl | rfl | rfl <;> omega)]
    exact h.old p (by omega) (by omega)
theorem RowI.start {K : Nat} (hK : K = 2 ∨ K = 4 ∨ K = 8 ∨ K = 16) : RowI (List.replicate K Slt.zero) 0 K := by
  refine ⟨by simp, ?_, fun p _ h2 => ?_⟩
  · rcases hK with rfl | rfl | rfl | rfl <;> decide
  · rw [show (List.replicate K Slt.zero).getD (p % K) Slt.zero = Slt.zero by simp [List.getD, List.getElem?_replicate]; split <;> rfl]
    unfold bitAt
    rw [Int.ediv_eq_zero_of_lt (by omega) (by omega)]
    decide
theorem RowI.may {ss : List Slt} {J K : Nat} {h t : Int} (hi : RowI ss J K) (hK : K = 2 ∨ K = 4 ∨ K = 8 ∨ K = 16) (h1 : 0 ≤ h) (h2 : h ≤ t) (h3 : t ≤ 1048576) (h4 : t ≤ h + K) : mayR ⟨h, t, 0, ss⟩ = true :=
  mayR_of (by simp only; rw [hi.len]; rcases hK with rfl | rfl | rfl | rfl <;> decide) h1 h2 h3 (by simp only; rw [hi.len]; exact h4) (by simp only; omega) (by simp only; omega) hi.all

theorem kk2 : (2 : Nat) = 2 ∨ (2 : Nat) = 4 ∨ (2 : Nat) = 8 ∨ (2 : Nat) = 16 := by decide

set_option maxRecDepth 20000 in
set_option maxHeartbeats 4000000 in
theorem lawRgRow2 (w : World) (v : Value) (xs : List Int) (hx : Has w v xs) (hr : xs.length * 8 ≤ 140737488351232) (which : Int) (h : bits .and .i64 which 3 = 0) : Calls Try.prog 4 #[v, .int .i64 which] w fun e w' => e = .returned (.bool true) ∧ Le w w' := by
  have HX : Hid (Has w v xs) := hx
  obtain ⟨av, cap, rfl, hc, _, hx⟩ := hx
  obtain ⟨L, hL⟩ : ∃ L, L = xs.length := ⟨_, rfl⟩
  have HL : Hid (L = xs.length) := hL
  rw [← hL] at hr hc ⊢
  clear hL
  go_enter Try.func4, Try.ntmps4
  go_wp2_with fail
  refine (lawAwake10 _).mono ?_
  rintro e w1 ⟨rfl, l1⟩
  go_wp2_with fail
  refine (newAs (show newS 2 = (⟨0, 0, 0, List.replicate 2 Slt.zero⟩, 0) by decide) _).mono ?_
  rintro e w2 ⟨q, rfl, o2, l2⟩
  have hgs : w.heap.size ≤ w2.heap.size := (l1.trans l2).size
  have hgs1 : w.heap.size ≤ w1.heap.size := l1.size
  have hl := (l1.trans l2).trans (Le.alloc w2 (.cells (cellsR 0 0 0 q) 24))
  have hbr := Box.new w2 (cellsR 0 0 0 q) 24
  have ho := (o2.le (Le.alloc w2 (.cells (cellsR 0 0 0 q) 24))).base hgs1
  clear l1 l2 o2 h
  go_wp2_with (go_at_call 21; refine (lawNum _ _).mono ?_; rintro e _ ⟨rfl, rfl⟩)
  go_loopw [8] (fun i wr => ∃ (I T : Nat) (q : Sl) (ss : List Slt), I ≤ 30 ∧ I ≤ L ∧ i = .int .i64 I ∧ T ≤ 16 * I ∧ RowI ss T 2 ∧ Box wr w2.heap.size (cellsR T T 0 q) 24 ∧ OwnL wr w.heap.size (slV q) ss ∧ Le w wr) (fun i _ => L - (intOf i).toNat)
  case atStart => exact ⟨0, 0, q, _, by omega, by omega, rfl, by omega, RowI.start kk2, hbr, ho, hl⟩
  case round =>
    clear hbr ho hl
    obtain ⟨I, T, q', ss, hI, hIL, rfl, hT, hri, hbr, ho, hle⟩ := hrel
    by_cases hgo : I < L ∧ I < 30
    · obtain ⟨g1, g2⟩ := hgo
      have g1' : (I : Int) < (L : Int) := by omega
      have g2' : (I : Int) < 30 := by omega
      obtain ⟨bb, off, rfl, hcell⟩ := hx (by have := HL.out; omega)
      have hci := hcell I (by have := HL.out; omega)
      obtain ⟨x, hxx⟩ : ∃ x, x = xs.getD I 0 := ⟨_, rfl⟩
      rw [← hxx] at hci
      replace hci : wr.cell? ⟨bb, off + I, none⟩ = some (.int .i64 x) := by rw [hle.cell (World.block_lt_of_cell? w _ hci)]; exact hci
      clear hxx hcell
      obtain ⟨c0, hcx, hc0⟩ : ∃ c : Nat, (IntKind.u64.wrap x).tmod 2 = (c : Int) ∧ c < 2 := by
        have h0 : 0 ≤ IntKind.u64.wrap x := by simp [IntKind.wrap, IntKind.bits, IntKind.signed]; omega
        rw [Int.tmod_eq_emod_of_nonneg h0]
        exact ⟨(IntKind.u64.wrap x % 2).toNat, by omega, by omega⟩
      have hlen := hri.len
      have hfit : ss.length * 40 ≤ 140737488351232 := by omega
      have hM := hri.may (h := T) (t := T) kk2 (by omega) (by omega) (by omega) (by omega)
      obtain ⟨r0, r1, r2, r3, _, _, _, _⟩ := hbr.ring
      have kR := reserveAs ((reserve_ok (k := 1 + (c0 : Int)) hM (by simp only; omega) rfl (by simp only; omega) (by simp only; omega))) hfit
      simp only at kR
      clear hM
      go_wp2_with fail
      refine (kR q' _ ho.has).mono ?_
      rintro e w3 ⟨q3, rfl, o3, l3⟩
      have a3 := Le.alloc w3 (.cells (cellsR T (T + (1 + c0)) 0 q3) 24)
      have hba := Box.new w3 (cellsR T (T + (1 + c0)) 0 q3) 24
      have hgs3 : w.heap.size ≤ wr.heap.size := hle.size
      have ho3 := (o3.le a3).base hgs3
      replace hbr := (hbr.le l3).le a3
      replace hle := (hle.trans l3).trans a3
      clear r0 r1 r2 r3 l3 a3 o3 kR ho hci
      obtain ⟨r0, r1, r2, r3, _, _, _, _⟩ := hbr.ring
      go_upto_region 14 with (go_at_call 21; refine (lawNum _ _).mono ?_; rintro e _ ⟨rfl, rfl⟩)
      generalize hW : w3.alloc (.cells (cellsR T (T + (1 + c0)) 0 q3) 24) = V3 at hba hbr ho3 hle r0 r1 r2 r3 ⊢
      clear hW r0 r1 r2 r3
      have hne3 := hbr.lt
      obtain ⟨r0, r1, r2, r3, f0, f1, f2, f3⟩ := hbr.ring
      obtain ⟨x0, x1, x2, x3, _, _, _, _⟩ := hba.ring
      have hne := ho3.apart hbr (by decide)
      go_upto_region 15 with fail
      have hbr4 := hbr.put4 (h' := T) (t' := T + (1 + c0)) (f' := 0) (q' := q3)
      have ho4 := ho3.set4 (a := .int .i64 T) (b := .int .i64 (T + (1 + c0))) (c := .int .i64 0) (d := slV q3) hne
      have hle4 := hle.put4 (g := w2.heap.size) (a := .int .i64 T) (b := .int .i64 (T + (1 + c0))) (c := .int .i64 0) (d := slV q3) hgs
      generalize hW : ((((V3.setCell ⟨w2.heap.size, 0, none⟩ (.int .i64 T)).setCell ⟨w2.heap.size, 1, none⟩ (.int .i64 (T + (1 + c0)))).setCell ⟨w2.heap.size, 2, none⟩ (.int .i64 0)).setCell ⟨w2.heap.size, 3, none⟩ (slV q3)) = V4 at hbr4 ho4 hle4 ⊢
      clear hW r0 r1 r2 r3 f0 f1 f2 f3 x0 x1 x2 x3 hba hbr ho3 hle hne hne3
      go_wp2_with fail
      go_loopw [13] (fun j wj => ∃ (J : Nat) (q : Sl) (ss : List Slt), T ≤ J ∧ J ≤ T + (1 + c0) ∧ j = .int .i64 J ∧ RowI ss J 2 ∧ Box wj w2.heap.size (cellsR T (T + (1 + c0)) 0 q) 24 ∧ OwnL wj w.heap.size (slV q) ss ∧ Le w wj) (fun j _ => (T + (1 + c0)) - (intOf j).toNat)
      case atStart => exact ⟨T, q3, ss, by omega, by omega, rfl, hri, hbr4, ho4, hle4⟩
      case round =>
        clear hbr4 ho4 hle4 hri hlen hfit
        obtain ⟨J, qj, sj, hJ0, hJ1, rfl, hri, hbr, ho, hle⟩ := hrel
        have hlen := hri.len
        have hfit : sj.length * 40 ≤ 140737488351232 := by omega
        have hM := hri.may (h := T) (t := T + (1 + c0)) kk2 (by omega) (by omega) (by omega) (by omega)
        by_cases hJ : J < T + (1 + c0)
        · have hJ' : (J : Int) < (T : Int) + (1 + (c0 : Int)) := by omega
          obtain ⟨m, hm, m0, m1⟩ : ∃ m, bits .and .i64 (J : Int) 3 = m ∧ 0 ≤ m ∧ m ≤ 3 := ⟨_, and3 J, by omega, by omega⟩
          obtain ⟨n, hn, n0, n1⟩ : ∃ m, bits .and .i64 ((I : Int) + (J : Int)) 255 = m ∧ 0 ≤ m ∧ m ≤ 255 := ⟨_, and255 _, by omega, by omega⟩
          have hold := hri.old J (by omega) (by omega)
          obtain ⟨y, hy⟩ : ∃ y, y = bitAt (J : Int) ((2 : Nat) : Int) := ⟨_, rfl⟩
          have hsb : slotB ⟨0, m, n, m, y⟩ = true := by
            have := bitAt_two (p := J) (n := ((2 : Nat) : Int))
            rw [← hy] at this
            simp [slotB, opUp, opMay]
            omega
          have hri' := hri.next (s := ⟨0, m, n, m, y⟩) kk2 hsb hy
          have hM' := hri'.may (h := T) (t := T + (1 + c0)) kk2 (by omega) (by omega) (by omega) (by omega)
          have kE := entryAs (entry_dead (p := J) hM (by rw [seat_nat]; simp only [hlen]; exact hold)) hfit
          have kP : ∀ (q : Sl) (w : World), HasL w (slV q) sj → Calls Try.prog 12 #[ringV T (T + (1 + c0)) 0 q, .int .i64 J, opV 0 m n, .int .i64 m] w fun e w' => ∃ q : Sl, e = .returned (.tuple #[ringV T (T + (1 + c0)) 0 q, .int .i64 0]) ∧ OwnL w' w.heap.size (slV q) (sj.set (J % 2) ⟨0, m, n, m, y⟩) ∧ Le w w' :=
            publishAs (by
              rw [publish_ok hM (by simp only; omega) (by simp [opUp, opMay]; omega) (by simp [threadB]; omega), seat_nat]
              simp only [hlen, ← hy]) hfit
          have kF := entryAs (entry_live (p := J) (s := ⟨0, m, n, m, y⟩) hM' (by simp only; omega) (by rw [seat_nat]; simp only [List.length_set, hlen]; exact getD_set_self (by omega)) (by simp only [List.length_set, hlen]; exact hy)) (by rw [List.length_set]; exact hfit)
          clear hM hM' hold hy hsb hri
          obtain ⟨r0, r1, r2, r3, _, _, _, _⟩ := hbr.ring
          go_wp2_with fail
          refine (kE qj _ ho.has).mono ?_
          rintro e w5 ⟨rfl, l5⟩
          replace l5 := l5.trans (Le.alloc w5 (.cells #[.int .i64 0, .int .i64 0, .int .i64 0, .int .i64 0, .int .i64 0] 38))
          replace hbr := hbr.le l5
          replace ho := ho.le l5
          replace hle := hle.trans l5
          clear r0 r1 r2 r3 l5 kE
          go_upto_region 19 with fail
          generalize hW : w5.alloc (.cells #[.int .i64 0, .int .i64 0, .int .i64 0, .int .i64 0, .int .i64 0] 38) = V5 at hbr ho hle ⊢
          clear hW
          obtain ⟨r0, r1, r2, r3, _, _, _, _⟩ := hbr.ring
          go_wp2_with fail
          refine (kP qj _ ho.has).mono ?_
          rintro e w6 ⟨q6, rfl, o6, l6⟩
          have a6 := Le.alloc w6 (.cells (cellsR T (T + (1 + c0)) 0 q6) 24)
          have hbb := Box.new w6 (cellsR T (T + (1 + c0)) 0 q6) 24
          have hgs6 : w.heap.size ≤ V5.heap.size := hle.size
          have ho6 := (o6.le a6).base hgs6
          replace hbr := (hbr.le l6).le a6
          replace hle := (hle.trans l6).trans a6
          clear r0 r1 r2 r3 l6 a6 o6 kP ho
          go_upto_region 20 with fail
          generalize hW : w6.alloc (.cells (cellsR T (T + (1 + c0)) 0 q6) 24) = V6 at hbr hbb ho6 hle ⊢
          clear hW
          obtain ⟨r0, r1, r2, r3, _, _, _, _⟩ := hbb.ring
          go_wp2_with fail
          refine (kF q6 _ ho6.has).mono ?_
          rintro e w7 ⟨rfl, l7⟩
          have hbs := Box.new w7 #[.int .i64 0, .int .i64 m, .int .i64 n, .int .i64 m, .int .i64 y] 38
          replace l7 := l7.trans (Le.alloc w7 (.cells #[.int .i64 0, .int .i64 m, .int .i64 n, .int .i64 m, .int .i64 y] 38))
          replace hbr := hbr.le l7
          replace hbb := hbb.le l7
          replace ho6 := ho6.le l7
          replace hle := hle.trans l7
          clear r0 r1 r2 r3 l7 kF
          go_upto_region 21 with fail
          generalize hW : w7.alloc (.cells #[.int .i64 0, .int .i64 m, .int .i64 n, .int .i64 m, .int .i64 y] 38) = V7 at hbr hbb hbs ho6 hle ⊢
          clear hW
          obtain ⟨s0, s1, s2, s3, s4⟩ := hbs.slot
          obtain ⟨r0, r1, r2, r3, f0, f1, f2, f3⟩ := hbr.ring
          obtain ⟨x0, x1, x2, x3, _, _, _, _⟩ := hbb.ring
          have hne := ho6.apart hbr (by decide)
          go_wp2_with (go_at_call 21; refine (lawNum _ _).mono ?_; rintro e _ ⟨rfl, rfl⟩)
          go_roundw
          case rel => exact ⟨J + 1, q6, _, by omega, by omega, by go_num, hri', hbr.put4, ho6.set4 hne, hle.put4 hgs⟩
          case measure => simp [intOf]; omega
        · have hJ' : ¬ (J : Int) < (T : Int) + (1 + (c0 : Int)) := by omega
          have HE : Hid ((T : Int) + (1 + (c0 : Int)) = (J : Int)) := by unfold Hid; omega
          have kG := freeAs (free_ok (p := T + (1 + c0)) hM (by simp only; omega)) hfit
          have kM := mayAs (hri.may (h := T + (1 + c0)) (t := T + (1 + c0)) kk2 (by omega) (by omega) (by omega) (by omega)) hfit
          simp only at kG
          clear hM
          obtain ⟨r0, r1, r2, r3, _, _, _, _⟩ := hbr.ring
          go_wp2_with fail
          refine (kG qj _ ho.has).mono ?_
          rintro e w8 ⟨q8, rfl, o8, l8⟩
          have a8 := Le.alloc w8 (.cells (cellsR (T + (1 + c0)) (T + (1 + c0)) 0 q8) 24)
          have hbd := Box.new w8 (cellsR (T + (1 + c0)) (T + (1 + c0)) 0 q8) 24
          have hgs8 : w.heap.size ≤ wr.heap.size := hle.size
          have ho8 := (o8.le a8).base hgs8
          replace hbr := (hbr.le l8).le a8
          replace hle := (hle.trans l8).trans a8
          clear r0 r1 r2 r3 l8 a8 o8 kG ho
          go_upto_region 25 with fail
          generalize hW : w8.alloc (.cells (cellsR (T + (1 + c0)) (T + (1 + c0)) 0 q8) 24) = V8 at hbr hbd ho8 hle ⊢
          clear hW
          obtain ⟨x0, x1, x2, x3, _, _, _, _⟩ := hbd.ring
          go_wp2_with (go_at_call 21; refine (lawNum _ _).mono ?_; rintro e _ ⟨rfl, rfl⟩)
          refine (kM q8 _ ho8.has).mono ?_
          rintro e w9 ⟨rfl, l9⟩
          replace hbr := hbr.le l9
          replace hbd := hbd.le l9
          replace ho8 := ho8.le l9
          replace hle := hle.trans l9
          clear x0 x1 x2 x3 l9 kM
          obtain ⟨r0, r1, r2, r3, f0, f1, f2, f3⟩ := hbr.ring
          obtain ⟨x0, x1, x2, x3, _, _, _, _⟩ := hbd.ring
          have hne := ho8.apart hbr (by decide)
          go_wp2_with fail
          go_roundw
          case rel => exact ⟨I + 1, J, q8, sj, by omega, by omega, by go_num, by omega, hri, (by rw [← HE.out]; exact hbr.put4), ho8.set4 hne, hle.put4 hgs⟩
          case measure => simp [intOf]; omega
    · rcases (by omega : ¬ I < L ∨ (I < L ∧ ¬ I < 30)) with g1 | ⟨g1, g2⟩
      · have g1' : ¬ (I : Int) < (L : Int) := by omega
        clear hgo
        go_wp2
        go_ret
        exact ⟨rfl, hle⟩
      · have g1' : (I : Int) < (L : Int) := by omega
        have g2' : ¬ (I : Int) < 30 := by omega
        clear hgo
        go_wp2
        go_ret
        exact ⟨rfl, hle⟩

theorem kk4 : (4 : Nat) = 2 ∨ (4 : Nat) = 4 ∨ (4 : Nat) = 8 ∨ (4 : Nat) = 16 := by decide

set_option maxRecDepth 20000 in
set_option maxHeartbeats 4000000 in
theorem lawRgRow4 (w : World) (v : Value) (xs : List Int) (hx : Has w v xs) (hr : xs.length * 8 ≤ 140737488351232) (which : Int) (h : bits .and .i64 which 3 = 1) : Calls Try.prog 4 #[v, .int .i64 which] w fun e w' => e = .returned (.bool true) ∧ Le w w' := by
  have HX : Hid (Has w v xs) := hx
  obtain ⟨av, cap, rfl, hc, _, hx⟩ := hx
  obtain ⟨L, hL⟩ : ∃ L, L = xs.length := ⟨_, rfl⟩
  have HL : Hid (L = xs.length) := hL
  rw [← hL] at hr hc ⊢
  clear hL
  go_enter Try.func4, Try.ntmps4
  go_wp2_with fail
  refine (lawAwake10 _).mono ?_
  rintro e w1 ⟨rfl, l1⟩
  go_wp2_with fail
  refine (newAs (show newS 4 = (⟨0, 0, 0, List.replicate 4 Slt.zero⟩, 0) by decide) _).mono ?_
  rintro e w2 ⟨q, rfl, o2, l2⟩
  have hgs : w.heap.size ≤ w2.heap.size := (l1.trans l2).size
  have hgs1 : w.heap.size ≤ w1.heap.size := l1.size
  have hl := (l1.trans l2).trans (Le.alloc w2 (.cells (cellsR 0 0 0 q) 24))
  have hbr := Box.new w2 (cellsR 0 0 0 q) 24
  have ho := (o2.le (Le.alloc w2 (.cells (cellsR 0 0 0 q) 24))).base hgs1
  clear l1 l2 o2 h
  go_wp2_with (go_at_call 21; refine (lawNum _ _).mono ?_; rintro e _ ⟨rfl, rfl⟩)
  go_loopw [8] (fun i wr => ∃ (I T : Nat) (q : Sl) (ss : List Slt), I ≤ 30 ∧ I ≤ L ∧ i = .int .i64 I ∧ T ≤ 16 * I ∧ RowI ss T 4 ∧ Box wr w2.heap.size (cellsR T T 0 q) 24 ∧ OwnL wr w.heap.size (slV q) ss ∧ Le w wr) (fun i _ => L - (intOf i).toNat)
  case atStart => exact ⟨0, 0, q, _, by omega, by omega, rfl, by omega, RowI.start kk4, hbr, ho, hl⟩
  case round =>
    clear hbr ho hl
    obtain ⟨I, T, q', ss, hI, hIL, rfl, hT, hri, hbr, ho, hle⟩ := hrel
    by_cases hgo : I < L ∧ I < 30
    · obtain ⟨g1, g2⟩ := hgo
      have g1' : (I : Int) < (L : Int) := by omega
      have g2' : (I : Int) < 30 := by omega
      obtain ⟨bb, off, rfl, hcell⟩ := hx (by have := HL.out; omega)
      have hci := hcell I (by have := HL.out; omega)
      obtain ⟨x, hxx⟩ : ∃ x, x = xs.getD I 0 := ⟨_, rfl⟩
      rw [← hxx] at hci
      replace hci : wr.cell? ⟨bb, off + I, none⟩ = some (.int .i64 x) := by rw [hle.cell (World.block_lt_of_cell? w _ hci)]; exact hci
      clear hxx hcell
      obtain ⟨c0, hcx, hc0⟩ : ∃ c : Nat, (IntKind.u64.wrap x).tmod 4 = (c : Int) ∧ c < 4 := by
        have h0 : 0 ≤ IntKind.u64.wrap x := by simp [IntKind.wrap, IntKind.bits, IntKind.signed]; omega
        rw [Int.tmod_eq_emod_of_nonneg h0]
        exact ⟨(IntKind.u64.wrap x % 4).toNat, by omega, by omega⟩
      have hlen := hri.len
      have hfit : ss.length * 40 ≤ 140737488351232 := by omega
      have hM := hri.may (h := T) (t := T) kk4 (by omega) (by omega) (by omega) (by omega)
      obtain ⟨r0, r1, r2, r3, _, _, _, _⟩ := hbr.ring
      have kR := reserveAs ((reserve_ok (k := 1 + (c0 : Int)) hM (by simp only; omega) rfl (by simp only; omega) (by simp only; omega))) hfit
      simp only at kR
      clear hM
      go_wp2_with fail
      refine (kR q' _ ho.has).mono ?_
      rintro e w3 ⟨q3, rfl, o3, l3⟩
      have a3 := Le.alloc w3 (.cells (cellsR T (T + (1 + c0)) 0 q3) 24)
      have hba := Box.new w3 (cellsR T (T + (1 + c0)) 0 q3) 24
      have hgs3 : w.heap.size ≤ wr.heap.size := hle.size
      have ho3 := (o3.le a3).base hgs3
      replace hbr := (hbr.le l3).le a3
      replace hle := (hle.trans l3).trans a3
      clear r0 r1 r2 r3 l3 a3 o3 kR ho hci
      obtain ⟨r0, r1, r2, r3, _, _, _, _⟩ := hbr.ring
      go_upto_region 14 with (go_at_call 21; refine (lawNum _ _).mono ?_; rintro e _ ⟨rfl, rfl⟩)
      generalize hW : w3.alloc (.cells (cellsR T (T + (1 + c0)) 0 q3) 24) = V3 at hba hbr ho3 hle r0 r1 r2 r3 ⊢
      clear hW r0 r1 r2 r3
      have hne3 := hbr.lt
      obtain ⟨r0, r1, r2, r3, f0, f1, f2, f3⟩ := hbr.ring
      obtain ⟨x0, x1, x2, x3, _, _, _, _⟩ := hba.ring
      have hne := ho3.apart hbr (by decide)
      go_upto_region 15 with fail
      have hbr4 := hbr.put4 (h' := T) (t' := T + (1 + c0)) (f' := 0) (q' := q3)
      have ho4 := ho3.set4 (a := .int .i64 T) (b := .int .i64 (T + (1 + c0))) (c := .int .i64 0) (d := slV q3) hne
      have hle4 := hle.put4 (g := w2.heap.size) (a := .int .i64 T) (b := .int .i64 (T + (1 + c0))) (c := .int .i64 0) (d := slV q3) hgs
      generalize hW : ((((V3.setCell ⟨w2.heap.size, 0, none⟩ (.int .i64 T)).setCell ⟨w2.heap.size, 1, none⟩ (.int .i64 (T + (1 + c0)))).setCell ⟨w2.heap.size, 2, none⟩ (.int .i64 0)).setCell ⟨w2.heap.size, 3, none⟩ (slV q3)) = V4 at hbr4 ho4 hle4 ⊢
      clear hW r0 r1 r2 r3 f0 f1 f2 f3 x0 x1 x2 x3 hba hbr ho3 hle hne hne3
      go_wp2_with fail
      go_loopw [13] (fun j wj => ∃ (J : Nat) (q : Sl) (ss : List Slt), T ≤ J ∧ J ≤ T + (1 + c0) ∧ j = .int .i64 J ∧ RowI ss J 4 ∧ Box wj w2.heap.size (cellsR T (T + (1 + c0)) 0 q) 24 ∧ OwnL wj w.heap.size (slV q) ss ∧ Le w wj) (fun j _ => (T + (1 + c0)) - (intOf j).toNat)
      case atStart => exact ⟨T, q3, ss, by omega, by omega, rfl, hri, hbr4, ho4, hle4⟩
      case round =>
        clear hbr4 ho4 hle4 hri hlen hfit
        obtain ⟨J, qj, sj, hJ0, hJ1, rfl, hri, hbr, ho, hle⟩ := hrel
        have hlen := hri.len
        have hfit : sj.length * 40 ≤ 140737488351232 := by omega
        have hM := hri.may (h := T) (t := T + (1 + c0)) kk4 (by omega) (by omega) (by omega) (by omega)
        by_cases hJ : J < T + (1 + c0)
        · have hJ' : (J : Int) < (T : Int) + (1 + (c0 : Int)) := by omega
          obtain ⟨m, hm, m0, m1⟩ : ∃ m, bits .and .i64 (J : Int) 3 = m ∧ 0 ≤ m ∧ m ≤ 3 := ⟨_, and3 J, by omega, by omega⟩
          obtain ⟨n, hn, n0, n1⟩ : ∃ m, bits .and .i64 ((I : Int) + (J : Int)) 255 = m ∧ 0 ≤ m ∧ m ≤ 255 := ⟨_, and255 _, by omega, by omega⟩
          have hold := hri.old J (by omega) (by omega)
          obtain ⟨y, hy⟩ : ∃ y, y = bitAt (J : Int) ((4 : Nat) : Int) := ⟨_, rfl⟩
          have hsb : slotB ⟨0, m, n, m, y⟩ = true := by
            have := bitAt_two (p := J) (n := ((4 : Nat) : Int))
            rw [← hy] at this
            simp [slotB, opUp, opMay]
            omega
          have hri' := hri.next (s := ⟨0, m, n, m, y⟩) kk4 hsb hy
          have hM' := hri'.may (h := T) (t := T + (1 + c0)) kk4 (by omega) (by omega) (by omega) (by omega)
          have kE := entryAs (entry_dead (p := J) hM (by rw [seat_nat]; simp only [hlen]; exact hold)) hfit
          have kP : ∀ (q : Sl) (w : World), HasL w (slV q) sj → Calls Try.prog 12 #[ringV T (T + (1 + c0)) 0 q, .int .i64 J, opV 0 m n, .int .i64 m] w fun e w' => ∃ q : Sl, e = .returned (.tuple #[ringV T (T + (1 + c0)) 0 q, .int .i64 0]) ∧ OwnL w' w.heap.size (slV q) (sj.set (J % 4) ⟨0, m, n, m, y⟩) ∧ Le w w' :=
            publishAs (by
              rw [publish_ok hM (by simp only; omega) (by simp [opUp, opMay]; omega) (by simp [threadB]; omega), seat_nat]
              simp only [hlen, ← hy]) hfit
          have kF := entryAs (entry_live (p := J) (s := ⟨0, m, n, m, y⟩) hM' (by simp only; omega) (by rw [seat_nat]; simp only [List.length_set, hlen]; exact getD_set_self (by omega)) (by simp only [List.length_set, hlen]; exact hy)) (by rw [List.length_set]; exact hfit)
          clear hM hM' hold hy hsb hri
          obtain ⟨r0, r1, r2, r3, _, _, _, _⟩ := hbr.ring
          go_wp2_with fail
          refine (kE qj _ ho.has).mono ?_
          rintro e w5 ⟨rfl, l5⟩
          replace l5 := l5.trans (Le.alloc w5 (.cells #[.int .i64 0, .int .i64 0, .int .i64 0, .int .i64 0, .int .i64 0] 38))
          replace hbr := hbr.le l5
          replace ho := ho.le l5
          replace hle := hle.trans l5
          clear r0 r1 r2 r3 l5 kE
          go_upto_region 19 with fail
          generalize hW : w5.alloc (.cells #[.int .i64 0, .int .i64 0, .int .i64 0, .int .i64 0, .int .i64 0] 38) = V5 at hbr ho hle ⊢
          clear hW
          obtain ⟨r0, r1, r2, r3, _, _, _, _⟩ := hbr.ring
          go_wp2_with fail
          refine (kP qj _ ho.has).mono ?_
          rintro e w6 ⟨q6, rfl, o6, l6⟩
          have a6 := Le.alloc w6 (.cells (cellsR T (T + (1 + c0)) 0 q6) 24)
          have hbb := Box.new w6 (cellsR T (T + (1 + c0)) 0 q6) 24
          have hgs6 : w.heap.size ≤ V5.heap.size := hle.size
          have ho6 := (o6.le a6).base hgs6
          replace hbr := (hbr.le l6).le a6
          replace hle := (hle.trans l6).trans a6
          clear r0 r1 r2 r3 l6 a6 o6 kP ho
          go_upto_region 20 with fail
          generalize hW : w6.alloc (.cells (cellsR T (T + (1 + c0)) 0 q6) 24) = V6 at hbr hbb ho6 hle ⊢
          clear hW
          obtain ⟨r0, r1, r2, r3, _, _, _, _⟩ := hbb.ring
          go_wp2_with fail
          refine (kF q6 _ ho6.has).mono ?_
          rintro e w7 ⟨rfl, l7⟩
          have hbs := Box.new w7 #[.int .i64 0, .int .i64 m, .int .i64 n, .int .i64 m, .int .i64 y] 38
          replace l7 := l7.trans (Le.alloc w7 (.cells #[.int .i64 0, .int .i64 m, .int .i64 n, .int .i64 m, .int .i64 y] 38))
          replace hbr := hbr.le l7
          replace hbb := hbb.le l7
          replace ho6 := ho6.le l7
          replace hle := hle.trans l7
          clear r0 r1 r2 r3 l7 kF
          go_upto_region 21 with fail
          generalize hW : w7.alloc (.cells #[.int .i64 0, .int .i64 m, .int .i64 n, .int .i64 m, .int .i64 y] 38) = V7 at hbr hbb hbs ho6 hle ⊢
          clear hW
          obtain ⟨s0, s1, s2, s3, s4⟩ := hbs.slot
          obtain ⟨r0, r1, r2, r3, f0, f1, f2, f3⟩ := hbr.ring
          obtain ⟨x0, x1, x2, x3, _, _, _, _⟩ := hbb.ring
          have hne := ho6.apart hbr (by decide)
          go_wp2_with (go_at_call 21; refine (lawNum _ _).mono ?_; rintro e _ ⟨rfl, rfl⟩)
          go_roundw
          case rel => exact ⟨J + 1, q6, _, by omega, by omega, by go_num, hri', hbr.put4, ho6.set4 hne, hle.put4 hgs⟩
          case measure => simp [intOf]; omega
        · have hJ' : ¬ (J : Int) < (T : Int) + (1 + (c0 : Int)) := by omega
          have HE : Hid ((T : Int) + (1 + (c0 : Int)) = (J : Int)) := by unfold Hid; omega
          have kG := freeAs (free_ok (p := T + (1 + c0)) hM (by simp only; omega)) hfit
          have kM := mayAs (hri.may (h := T + (1 + c0)) (t := T + (1 + c0)) kk4 (by omega) (by omega) (by omega) (by omega)) hfit
          simp only at kG
          clear hM
          obtain ⟨r0, r1, r2, r3, _, _, _, _⟩ := hbr.ring
          go_wp2_with fail
          refine (kG qj _ ho.has).mono ?_
          rintro e w8 ⟨q8, rfl, o8, l8⟩
          have a8 := Le.alloc w8 (.cells (cellsR (T + (1 + c0)) (T + (1 + c0)) 0 q8) 24)
          have hbd := Box.new w8 (cellsR (T + (1 + c0)) (T + (1 + c0)) 0 q8) 24
          have hgs8 : w.heap.size ≤ wr.heap.size := hle.size
          have ho8 := (o8.le a8).base hgs8
          replace hbr := (hbr.le l8).le a8
          replace hle := (hle.trans l8).trans a8
          clear r0 r1 r2 r3 l8 a8 o8 kG ho
          go_upto_region 25 with fail
          generalize hW : w8.alloc (.cells (cellsR (T + (1 + c0)) (T + (1 + c0)) 0 q8) 24) = V8 at hbr hbd ho8 hle ⊢
          clear hW
          obtain ⟨x0, x1, x2, x3, _, _, _, _⟩ := hbd.ring
          go_wp2_with (go_at_call 21; refine (lawNum _ _).mono ?_; rintro e _ ⟨rfl, rfl⟩)
          refine (kM q8 _ ho8.has).mono ?_
          rintro e w9 ⟨rfl, l9⟩
          replace hbr := hbr.le l9
          replace hbd := hbd.le l9
          replace ho8 := ho8.le l9
          replace hle := hle.trans l9
          clear x0 x1 x2 x3 l9 kM
          obtain ⟨r0, r1, r2, r3, f0, f1, f2, f3⟩ := hbr.ring
          obtain ⟨x0, x1, x2, x3, _, _, _, _⟩ := hbd.ring
          have hne := ho8.apart hbr (by decide)
          go_wp2_with fail
          go_roundw
          case rel => exact ⟨I + 1, J, q8, sj, by omega, by omega, by go_num, by omega, hri, (by rw [← HE.out]; exact hbr.put4), ho8.set4 hne, hle.put4 hgs⟩
          case measure => simp [intOf]; omega
    · rcases (by omega : ¬ I < L ∨ (I < L ∧ ¬ I < 30)) with g1 | ⟨g1, g2⟩
      · have g1' : ¬ (I : Int) < (L : Int) := by omega
        clear hgo
        go_wp2
        go_ret
        exact ⟨rfl, hle⟩
      · have g1' : (I : Int) < (L : Int) := by omega
        have g2' : ¬ (I : Int) < 30 := by omega
        clear hgo
        go_wp2
        go_ret
        exact ⟨rfl, hle⟩

theorem kk8 : (8 : Nat) = 2 ∨ (8 : Nat) = 4 ∨ (8 : Nat) = 8 ∨ (8 : Nat) = 16 := by decide

set_option maxRecDepth 20000 in
set_option maxHeartbeats 4000000 in
theorem lawRgRow8 (w : World) (v : Value) (xs : List Int) (hx : Has w v xs) (hr : xs.length * 8 ≤ 140737488351232) (which : Int) (h : bits .and .i64 which 3 = 2) : Calls Try.prog 4 #[v, .int .i64 which] w fun e w' => e = .returned (.bool true) ∧ Le w w' := by
  have HX : Hid (Has w v xs) := hx
  obtain ⟨av, cap, rfl, hc, _, hx⟩ := hx
  obtain ⟨L, hL⟩ : ∃ L, L = xs.length := ⟨_, rfl⟩
  have HL : Hid (L = xs.length) := hL
  rw [← hL] at hr hc ⊢
  clear hL
  go_enter Try.func4, Try.ntmps4
  go_wp2_with fail
  refine (lawAwake10 _).mono ?_
  rintro e w1 ⟨rfl, l1⟩
  go_wp2_with fail
  refine (newAs (show newS 8 = (⟨0, 0, 0, List.replicate 8 Slt.zero⟩, 0) by decide) _).mono ?_
  rintro e w2 ⟨q, rfl, o2, l2⟩
  have hgs : w.heap.size ≤ w2.heap.size := (l1.trans l2).size
  have hgs1 : w.heap.size ≤ w1.heap.size := l1.size
  have hl := (l1.trans l2).trans (Le.alloc w2 (.cells (cellsR 0 0 0 q) 24))
  have hbr := Box.new w2 (cellsR 0 0 0 q) 24
  have ho := (o2.le (Le.alloc w2 (.cells (cellsR 0 0 0 q) 24))).base hgs1
  clear l1 l2 o2 h
  go_wp2_with (go_at_call 21; refine (lawNum _ _).mono ?_; rintro e _ ⟨rfl, rfl⟩)
  go_loopw [8] (fun i wr => ∃ (I T : Nat) (q : Sl) (ss : List Slt), I ≤ 30 ∧ I ≤ L ∧ i = .int .i64 I ∧ T ≤ 16 * I ∧ RowI ss T 8 ∧ Box wr w2.heap.size (cellsR T T 0 q) 24 ∧ OwnL wr w.heap.size (slV q) ss ∧ Le w wr) (fun i _ => L - (intOf i).toNat)
  case atStart => exact ⟨0, 0, q, _, by omega, by omega, rfl, by omega, RowI.start kk8, hbr, ho, hl⟩
  case round =>
    clear hbr ho hl
    obtain ⟨I, T, q', ss, hI, hIL, rfl, hT, hri, hbr, ho, hle⟩ := hrel
    by_cases hgo : I < L ∧ I < 30
    · obtain ⟨g1, g2⟩ := hgo
      have g1' : (I : Int) < (L : Int) := by omega
      have g2' : (I : Int) < 30 := by omega
      obtain ⟨bb, off, rfl, hcell⟩ := hx (by have := HL.out; omega)
      have hci := hcell I (by have := HL.out; omega)
      obtain ⟨x, hxx⟩ : ∃ x, x = xs.getD I 0 := ⟨_, rfl⟩
      rw [← hxx] at hci
      replace hci : wr.cell? ⟨bb, off + I, none⟩ = some (.int .i64 x) := by rw [hle.cell (World.block_lt_of_cell? w _ hci)]; exact hci
      clear hxx hcell
      obtain ⟨c0, hcx, hc0⟩ : ∃ c : Nat, (IntKind.u64.wrap x).tmod 8 = (c : Int) ∧ c < 8 := by
        have h0 : 0 ≤ IntKind.u64.wrap x := by simp [IntKind.wrap, IntKind.bits, IntKind.signed]; omega
        rw [Int.tmod_eq_emod_of_nonneg h0]
        exact ⟨(IntKind.u64.wrap x % 8).toNat, by omega, by omega⟩
      have hlen := hri.len
      have hfit : ss.length * 40 ≤ 140737488351232 := by omega
      have hM := hri.may (h := T) (t := T) kk8 (by omega) (by omega) (by omega) (by omega)
      obtain ⟨r0, r1, r2, r3, _, _, _, _⟩ := hbr.ring
      have kR := reserveAs ((reserve_ok (k := 1 + (c0 : Int)) hM (by simp only; omega) rfl (by simp only; omega) (by simp only; omega))) hfit
      simp only at kR
      clear hM
      go_wp2_with fail
      refine (kR q' _ ho.has).mono ?_
      rintro e w3 ⟨q3, rfl, o3, l3⟩
      have a3 := Le.alloc w3 (.cells (cellsR T (T + (1 + c0)) 0 q3) 24)
      have hba := Box.new w3 (cellsR T (T + (1 + c0)) 0 q3) 24
      have hgs3 : w.heap.size ≤ wr.heap.size := hle.size
      have ho3 := (o3.le a3).base hgs3
      replace hbr := (hbr.le l3).le a3
      replace hle := (hle.trans l3).trans a3
      clear r0 r1 r2 r3 l3 a3 o3 kR ho hci
      obtain ⟨r0, r1, r2, r3, _, _, _, _⟩ := hbr.ring
      go_upto_region 14 with (go_at_call 21; refine (lawNum _ _).mono ?_; rintro e _ ⟨rfl, rfl⟩)
      generalize hW : w3.alloc (.cells (cellsR T (T + (1 + c0)) 0 q3) 24) = V3 at hba hbr ho3 hle r0 r1 r2 r3 ⊢
      clear hW r0 r1 r2 r3
      have hne3 := hbr.lt
      obtain ⟨r0, r1, r2, r3, f0, f1, f2, f3⟩ := hbr.ring
      obtain ⟨x0, x1, x2, x3, _, _, _, _⟩ := hba.ring
      have hne := ho3.apart hbr (by decide)
      go_upto_region 15 with fail
      have hbr4 := hbr.put4 (h' := T) (t' := T + (1 + c0)) (f' := 0) (q' := q3)
      have ho4 := ho3.set4 (a := .int .i64 T) (b := .int .i64 (T + (1 + c0))) (c := .int .i64 0) (d := slV q3) hne
      have hle4 := hle.put4 (g := w2.heap.size) (a := .int .i64 T) (b := .int .i64 (T + (1 + c0))) (c := .int .i64 0) (d := slV q3) hgs
      generalize hW : ((((V3.setCell ⟨w2.heap.size, 0, none⟩ (.int .i64 T)).setCell ⟨w2.heap.size, 1, none⟩ (.int .i64 (T + (1 + c0)))).setCell ⟨w2.heap.size, 2, none⟩ (.int .i64 0)).setCell ⟨w2.heap.size, 3, none⟩ (slV q3)) = V4 at hbr4 ho4 hle4 ⊢
      clear hW r0 r1 r2 r3 f0 f1 f2 f3 x0 x1 x2 x3 hba hbr ho3 hle hne hne3
      go_wp2_with fail
      go_loopw [13] (fun j wj => ∃ (J : Nat) (q : Sl) (ss : List Slt), T ≤ J ∧ J ≤ T + (1 + c0) ∧ j = .int .i64 J ∧ RowI ss J 8 ∧ Box wj w2.heap.size (cellsR T (T + (1 + c0)) 0 q) 24 ∧ OwnL wj w.heap.size (slV q) ss ∧ Le w wj) (fun j _ => (T + (1 + c0)) - (intOf j).toNat)
      case atStart => exact ⟨T, q3, ss, by omega, by omega, rfl, hri, hbr4, ho4, hle4⟩
      case round =>
        clear hbr4 ho4 hle4 hri hlen hfit
        obtain ⟨J, qj, sj, hJ0, hJ1, rfl, hri, hbr, ho, hle⟩ := hrel
        have hlen := hri.len
        have hfit : sj.length * 40 ≤ 140737488351232 := by omega
        have hM := hri.may (h := T) (t := T + (1 + c0)) kk8 (by omega) (by omega) (by omega) (by omega)
        by_cases hJ : J < T + (1 + c0)
        · have hJ' : (J : Int) < (T : Int) + (1 + (c0 : Int)) := by omega
          obtain ⟨m, hm, m0, m1⟩ : ∃ m, bits .and .i64 (J : Int) 3 = m ∧ 0 ≤ m ∧ m ≤ 3 := ⟨_, and3 J, by omega, by omega⟩
          obtain ⟨n, hn, n0, n1⟩ : ∃ m, bits .and .i64 ((I : Int) + (J : Int)) 255 = m ∧ 0 ≤ m ∧ m ≤ 255 := ⟨_, and255 _, by omega, by omega⟩
          have hold := hri.old J (by omega) (by omega)
          obtain ⟨y, hy⟩ : ∃ y, y = bitAt (J : Int) ((8 : Nat) : Int) := ⟨_, rfl⟩
          have hsb : slotB ⟨0, m, n, m, y⟩ = true := by
            have := bitAt_two (p := J) (n := ((8 : Nat) : Int))
            rw [← hy] at this
            simp [slotB, opUp, opMay]
            omega
          have hri' := hri.next (s := ⟨0, m, n, m, y⟩) kk8 hsb hy
          have hM' := hri'.may (h := T) (t := T + (1 + c0)) kk8 (by omega) (by omega) (by omega) (by omega)
          have kE := entryAs (entry_dead (p := J) hM (by rw [seat_nat]; simp only [hlen]; exact hold)) hfit
          have kP : ∀ (q : Sl) (w : World), HasL w (slV q) sj → Calls Try.prog 12 #[ringV T (T + (1 + c0)) 0 q, .int .i64 J, opV 0 m n, .int .i64 m] w fun e w' => ∃ q : Sl, e = .returned (.tuple #[ringV T (T + (1 + c0)) 0 q, .int .i64 0]) ∧ OwnL w' w.heap.size (slV q) (sj.set (J % 8) ⟨0, m, n, m, y⟩) ∧ Le w w' :=
            publishAs (by
              rw [publish_ok hM (by simp only; omega) (by simp [opUp, opMay]; omega) (by simp [threadB]; omega), seat_nat]
              simp only [hlen, ← hy]) hfit
          have kF := entryAs (entry_live (p := J) (s := ⟨0, m, n, m, y⟩) hM' (by simp only; omega) (by rw [seat_nat]; simp only [List.length_set, hlen]; exact getD_set_self (by omega)) (by simp only [List.length_set, hlen]; exact hy)) (by rw [List.length_set]; exact hfit)
          clear hM hM' hold hy hsb hri
          obtain ⟨r0, r1, r2, r3, _, _, _, _⟩ := hbr.ring
          go_wp2_with fail
          refine (kE qj _ ho.has).mono ?_
          rintro e w5 ⟨rfl, l5⟩
          replace l5 := l5.trans (Le.alloc w5 (.cells #[.int .i64 0, .int .i64 0, .int .i64 0, .int .i64 0, .int .i64 0] 38))
          replace hbr := hbr.le l5
          replace ho := ho.le l5
          replace hle := hle.trans l5
          clear r0 r1 r2 r3 l5 kE
          go_upto_region 19 with fail
          generalize hW : w5.alloc (.cells #[.int .i64 0, .int .i64 0, .int .i64 0, .int .i64 0, .int .i64 0] 38) = V5 at hbr ho hle ⊢
          clear hW
          obtain ⟨r0, r1, r2, r3, _, _, _, _⟩ := hbr.ring
          go_wp2_with fail
          refine (kP qj _ ho.has).mono ?_
          rintro e w6 ⟨q6, rfl, o6, l6⟩
          have a6 := Le.alloc w6 (.cells (cellsR T (T + (1 + c0)) 0 q6) 24)
          have hbb := Box.new w6 (cellsR T (T + (1 + c0)) 0 q6) 24
          have hgs6 : w.heap.size ≤ V5.heap.size := hle.size
          have ho6 := (o6.le a6).base hgs6
          replace hbr := (hbr.le l6).le a6
          replace hle := (hle.trans l6).trans a6
          clear r0 r1 r2 r3 l6 a6 o6 kP ho
          go_upto_region 20 with fail
          generalize hW : w6.alloc (.cells (cellsR T (T + (1 + c0)) 0 q6) 24) = V6 at hbr hbb ho6 hle ⊢
          clear hW
          obtain ⟨r0, r1, r2, r3, _, _, _, _⟩ := hbb.ring
          go_wp2_with fail
          refine (kF q6 _ ho6.has).mono ?_
          rintro e w7 ⟨rfl, l7⟩
          have hbs := Box.new w7 #[.int .i64 0, .int .i64 m, .int .i64 n, .int .i64 m, .int .i64 y] 38
          replace l7 := l7.trans (Le.alloc w7 (.cells #[.int .i64 0, .int .i64 m, .int .i64 n, .int .i64 m, .int .i64 y] 38))
          replace hbr := hbr.le l7
          replace hbb := hbb.le l7
          replace ho6 := ho6.le l7
          replace hle := hle.trans l7
          clear r0 r1 r2 r3 l7 kF
          go_upto_region 21 with fail
          generalize hW : w7.alloc (.cells #[.int .i64 0, .int .i64 m, .int .i64 n, .int .i64 m, .int .i64 y] 38) = V7 at hbr hbb hbs ho6 hle ⊢
          clear hW
          obtain ⟨s0, s1, s2, s3, s4⟩ := hbs.slot
          obtain ⟨r0, r1, r2, r3, f0, f1, f2, f3⟩ := hbr.ring
          obtain ⟨x0, x1, x2, x3, _, _, _, _⟩ := hbb.ring
          have hne := ho6.apart hbr (by decide)
          go_wp2_with (go_at_call 21; refine (lawNum _ _).mono ?_; rintro e _ ⟨rfl, rfl⟩)
          go_roundw
          case rel => exact ⟨J + 1, q6, _, by omega, by omega, by go_num, hri', hbr.put4, ho6.set4 hne, hle.put4 hgs⟩
          case measure => simp [intOf]; omega
        · have hJ' : ¬ (J : Int) < (T : Int) + (1 + (c0 : Int)) := by omega
          have HE : Hid ((T : Int) + (1 + (c0 : Int)) = (J : Int)) := by unfold Hid; omega
          have kG := freeAs (free_ok (p := T + (1 + c0)) hM (by simp only; omega)) hfit
          have kM := mayAs (hri.may (h := T + (1 + c0)) (t := T + (1 + c0)) kk8 (by omega) (by omega) (by omega) (by omega)) hfit
          simp only at kG
          clear hM
          obtain ⟨r0, r1, r2, r3, _, _, _, _⟩ := hbr.ring
          go_wp2_with fail
          refine (kG qj _ ho.has).mono ?_
          rintro e w8 ⟨q8, rfl, o8, l8⟩
          have a8 := Le.alloc w8 (.cells (cellsR (T + (1 + c0)) (T + (1 + c0)) 0 q8) 24)
          have hbd := Box.new w8 (cellsR (T + (1 + c0)) (T + (1 + c0)) 0 q8) 24
          have hgs8 : w.heap.size ≤ wr.heap.size := hle.size
          have ho8 := (o8.le a8).base hgs8
          replace hbr := (hbr.le l8).le a8
          replace hle := (hle.trans l8).trans a8
          clear r0 r1 r2 r3 l8 a8 o8 kG ho
          go_upto_region 25 with fail
          generalize hW : w8.alloc (.cells (cellsR (T + (1 + c0)) (T + (1 + c0)) 0 q8) 24) = V8 at hbr hbd ho8 hle ⊢
          clear hW
          obtain ⟨x0, x1, x2, x3, _, _, _, _⟩ := hbd.ring
          go_wp2_with (go_at_call 21; refine (lawNum _ _).mono ?_; rintro e _ ⟨rfl, rfl⟩)
          refine (kM q8 _ ho8.has).mono ?_
          rintro e w9 ⟨rfl, l9⟩
          replace hbr := hbr.le l9
          replace hbd := hbd.le l9
          replace ho8 := ho8.le l9
          replace hle := hle.trans l9
          clear x0 x1 x2 x3 l9 kM
          obtain ⟨r0, r1, r2, r3, f0, f1, f2, f3⟩ := hbr.ring
          obtain ⟨x0, x1, x2, x3, _, _, _, _⟩ := hbd.ring
          have hne := ho8.apart hbr (by decide)
          go_wp2_with fail
          go_roundw
          case rel => exact ⟨I + 1, J, q8, sj, by omega, by omega, by go_num, by omega, hri, (by rw [← HE.out]; exact hbr.put4), ho8.set4 hne, hle.put4 hgs⟩
          case measure => simp [intOf]; omega
    · rcases (by omega : ¬ I < L ∨ (I < L ∧ ¬ I < 30)) with g1 | ⟨g1, g2⟩
      · have g1' : ¬ (I : Int) < (L : Int) := by omega
        clear hgo
        go_wp2
        go_ret
        exact ⟨rfl, hle⟩
      · have g1' : (I : Int) < (L : Int) := by omega
        have g2' : ¬ (I : Int) < 30 := by omega
        clear hgo
        go_wp2
        go_ret
        exact ⟨rfl, hle⟩

theorem kk16 : (16 : Nat) = 2 ∨ (16 : Nat) = 4 ∨ (16 : Nat) = 8 ∨ (16 : Nat) = 16 := by decide

set_option maxRecDepth 20000 in
set_option maxHeartbeats 4000000 in
theorem lawRgRow16 (w : World) (v : Value) (xs : List Int) (hx : Has w v xs) (hr : xs.length * 8 ≤ 140737488351232) (which : Int) (h : bits .and .i64 which 3 = 3) : Calls Try.prog 4 #[v, .int .i64 which] w fun e w' => e = .returned (.bool true) ∧ Le w w' := by
  have HX : Hid (Has w v xs) := hx
  obtain ⟨av, cap, rfl, hc, _, hx⟩ := hx
  obtain ⟨L, hL⟩ : ∃ L, L = xs.length := ⟨_, rfl⟩
  have HL : Hid (L = xs.length) := hL
  rw [← hL] at hr hc ⊢
  clear hL
  go_enter Try.func4, Try.ntmps4
  go_wp2_with fail
  refine (lawAwake10 _).mono ?_
  rintro e w1 ⟨rfl, l1⟩
  go_wp2_with fail
  refine (newAs (show newS 16 = (⟨0, 0, 0, List.replicate 16 Slt.zero⟩, 0) by decide) _).mono ?_
  rintro e w2 ⟨q, rfl, o2, l2⟩
  have hgs : w.heap.size ≤ w2.heap.size := (l1.trans l2).size
  have hgs1 : w.heap.size ≤ w1.heap.size := l1.size
  have hl := (l1.trans l2).trans (Le.alloc w2 (.cells (cellsR 0 0 0 q) 24))
  have hbr := Box.new w2 (cellsR 0 0 0 q) 24
  have ho := (o2.le (Le.alloc w2 (.cells (cellsR 0 0 0 q) 24))).base hgs1
  clear l1 l2 o2 h
  go_wp2_with (go_at_call 21; refine (lawNum _ _).mono ?_; rintro e _ ⟨rfl, rfl⟩)
  go_loopw [8] (fun i wr => ∃ (I T : Nat) (q : Sl) (ss : List Slt), I ≤ 30 ∧ I ≤ L ∧ i = .int .i64 I ∧ T ≤ 16 * I ∧ RowI ss T 16 ∧ Box wr w2.heap.size (cellsR T T 0 q) 24 ∧ OwnL wr w.heap.size (slV q) ss ∧ Le w wr) (fun i _ => L - (intOf i).toNat)
  case atStart => exact ⟨0, 0, q, _, by omega, by omega, rfl, by omega, RowI.start kk16, hbr, ho, hl⟩
  case round =>
    clear hbr ho hl
    obtain ⟨I, T, q', ss, hI, hIL, rfl, hT, hri, hbr, ho, hle⟩ := hrel
    by_cases hgo : I < L ∧ I < 30
    · obtain ⟨g1, g2⟩ := hgo
      have g1' : (I : Int) < (L : Int) := by omega
      have g2' : (I : Int) < 30 := by omega
      obtain ⟨bb, off, rfl, hcell⟩ := hx (by have := HL.out; omega)
      have hci := hcell I (by have := HL.out; omega)
      obtain ⟨x, hxx⟩ : ∃ x, x = xs.getD I 0 := ⟨_, rfl⟩
      rw [← hxx] at hci
      replace hci : wr.cell? ⟨bb, off + I, none⟩ = some (.int .i64 x) := by rw [hle.cell (World.block_lt_of_cell? w _ hci)]; exact hci
      clear hxx hcell
      obtain ⟨c0, hcx, hc0⟩ : ∃ c : Nat, (IntKind.u64.wrap x).tmod 16 = (c : Int) ∧ c < 16 := by
        have h0 : 0 ≤ IntKind.u64.wrap x := by simp [IntKind.wrap, IntKind.bits, IntKind.signed]; omega
        rw [Int.tmod_eq_emod_of_nonneg h0]
        exact ⟨(IntKind.u64.wrap x % 16).toNat, by omega, by omega⟩
      have hlen := hri.len
      have hfit : ss.length * 40 ≤ 140737488351232 := by omega
      have hM := hri.may (h := T) (t := T) kk16 (by omega) (by omega) (by omega) (by omega)
      obtain ⟨r0, r1, r2, r3, _, _, _, _⟩ := hbr.ring
      have kR := reserveAs ((reserve_ok (k := 1 + (c0 : Int)) hM (by simp only; omega) rfl (by simp only; omega) (by simp only; omega))) hfit
      simp only at kR
      clear hM
      go_wp2_with fail
      refine (kR q' _ ho.has).mono ?_
      rintro e w3 ⟨q3, rfl, o3, l3⟩
      have a3 := Le.alloc w3 (.cells (cellsR T (T + (1 + c0)) 0 q3) 24)
      have hba := Box.new w3 (cellsR T (T + (1 + c0)) 0 q3) 24
      have hgs3 : w.heap.size ≤ wr.heap.size := hle.size
      have ho3 := (o3.le a3).base hgs3
      replace hbr := (hbr.le l3).le a3
      replace hle := (hle.trans l3).trans a3
      clear r0 r1 r2 r3 l3 a3 o3 kR ho hci
      obtain ⟨r0, r1, r2, r3, _, _, _, _⟩ := hbr.ring
      go_upto_region 14 with (go_at_call 21; refine (lawNum _ _).mono ?_; rintro e _ ⟨rfl, rfl⟩)
      generalize hW : w3.alloc (.cells (cellsR T (T + (1 + c0)) 0 q3) 24) = V3 at hba hbr ho3 hle r0 r1 r2 r3 ⊢
      clear hW r0 r1 r2 r3
      have hne3 := hbr.lt
      obtain ⟨r0, r1, r2, r3, f0, f1, f2, f3⟩ := hbr.ring
      obtain ⟨x0, x1, x2, x3, _, _, _, _⟩ := hba.ring
      have hne := ho3.apart hbr (by decide)
      go_upto_region 15 with fail
      have hbr4 := hbr.put4 (h' := T) (t' := T + (1 + c0)) (f' := 0) (q' := q3)
      have ho4 := ho3.set4 (a := .int .i64 T) (b := .int .i64 (T + (1 + c0))) (c := .int .i64 0) (d := slV q3) hne
      have hle4 := hle.put4 (g := w2.heap.size) (a := .int .i64 T) (b := .int .i64 (T + (1 + c0))) (c := .int .i64 0) (d := slV q3) hgs
      generalize hW : ((((V3.setCell ⟨w2.heap.size, 0, none⟩ (.int .i64 T)).setCell ⟨w2.heap.size, 1, none⟩ (.int .i64 (T + (1 + c0)))).setCell ⟨w2.heap.size, 2, none⟩ (.int .i64 0)).setCell ⟨w2.heap.size, 3, none⟩ (slV q3)) = V4 at hbr4 ho4 hle4 ⊢
      clear hW r0 r1 r2 r3 f0 f1 f2 f3 x0 x1 x2 x3 hba hbr ho3 hle hne hne3
      go_wp2_with fail
      go_loopw [13] (fun j wj => ∃ (J : Nat) (q : Sl) (ss : List Slt), T ≤ J ∧ J ≤ T + (1 + c0) ∧ j = .int .i64 J ∧ RowI ss J 16 ∧ Box wj w2.heap.size (cellsR T (T + (1 + c0)) 0 q) 24 ∧ OwnL wj w.heap.size (slV q) ss ∧ Le w wj) (fun j _ => (T + (1 + c0)) - (intOf j).toNat)
      case atStart => exact ⟨T, q3, ss, by omega, by omega, rfl, hri, hbr4, ho4, hle4⟩
      case round =>
        clear hbr4 ho4 hle4 hri hlen hfit
        obtain ⟨J, qj, sj, hJ0, hJ1, rfl, hri, hbr, ho, hle⟩ := hrel
        have hlen := hri.len
        have hfit : sj.length * 40 ≤ 140737488351232 := by omega
        have hM := hri.may (h := T) (t := T + (1 + c0)) kk16 (by omega) (by omega) (by omega) (by omega)
        by_cases hJ : J < T + (1 + c0)
        · have hJ' : (J : Int) < (T : Int) + (1 + (c0 : Int)) := by omega
          obtain ⟨m, hm, m0, m1⟩ : ∃ m, bits .and .i64 (J : Int) 3 = m ∧ 0 ≤ m ∧ m ≤ 3 := ⟨_, and3 J, by omega, by omega⟩
          obtain ⟨n, hn, n0, n1⟩ : ∃ m, bits .and .i64 ((I : Int) + (J : Int)) 255 = m ∧ 0 ≤ m ∧ m ≤ 255 := ⟨_, and255 _, by omega, by omega⟩
          have hold := hri.old J (by omega) (by omega)
          obtain ⟨y, hy⟩ : ∃ y, y = bitAt (J : Int) ((16 : Nat) : Int) := ⟨_, rfl⟩
          have hsb : slotB ⟨0, m, n, m, y⟩ = true := by
            have := bitAt_two (p := J) (n := ((16 : Nat) : Int))
            rw [← hy] at this
            simp [slotB, opUp, opMay]
            omega
          have hri' := hri.next (s := ⟨0, m, n, m, y⟩) kk16 hsb hy
          have hM' := hri'.may (h := T) (t := T + (1 + c0)) kk16 (by omega) (by omega) (by omega) (by omega)
          have kE := entryAs (entry_dead (p := J) hM (by rw [seat_nat]; simp only [hlen]; exact hold)) hfit
          have kP : ∀ (q : Sl) (w : World), HasL w (slV q) sj → Calls Try.prog 12 #[ringV T (T + (1 + c0)) 0 q, .int .i64 J, opV 0 m n, .int .i64 m] w fun e w' => ∃ q : Sl, e = .returned (.tuple #[ringV T (T + (1 + c0)) 0 q, .int .i64 0]) ∧ OwnL w' w.heap.size (slV q) (sj.set (J % 16) ⟨0, m, n, m, y⟩) ∧ Le w w' :=
            publishAs (by
              rw [publish_ok hM (by simp only; omega) (by simp [opUp, opMay]; omega) (by simp [threadB]; omega), seat_nat]
              simp only [hlen, ← hy]) hfit
          have kF := entryAs (entry_live (p := J) (s := ⟨0, m, n, m, y⟩) hM' (by simp only; omega) (by rw [seat_nat]; simp only [List.length_set, hlen]; exact getD_set_self (by omega)) (by simp only [List.length_set, hlen]; exact hy)) (by rw [List.length_set]; exact hfit)
          clear hM hM' hold hy hsb hri
          obtain ⟨r0, r1, r2, r3, _, _, _, _⟩ := hbr.ring
          go_wp2_with fail
          refine (kE qj _ ho.has).mono ?_
          rintro e w5 ⟨rfl, l5⟩
          replace l5 := l5.trans (Le.alloc w5 (.cells #[.int .i64 0, .int .i64 0, .int .i64 0, .int .i64 0, .int .i64 0] 38))
          replace hbr := hbr.le l5
          replace ho := ho.le l5
          replace hle := hle.trans l5
          clear r0 r1 r2 r3 l5 kE
          go_upto_region 19 with fail
          generalize hW : w5.alloc (.cells #[.int .i64 0, .int .i64 0, .int .i64 0, .int .i64 0, .int .i64 0] 38) = V5 at hbr ho hle ⊢
          clear hW
          obtain ⟨r0, r1, r2, r3, _, _, _, _⟩ := hbr.ring
          go_wp2_with fail
          refine (kP qj _ ho.has).mono ?_
          rintro e w6 ⟨q6, rfl, o6, l6⟩
          have a6 := Le.alloc w6 (.cells (cellsR T (T + (1 + c0)) 0 q6) 24)
          have hbb := Box.new w6 (cellsR T (T + (1 + c0)) 0 q6) 24
          have hgs6 : w.heap.size ≤ V5.heap.size := hle.size
          have ho6 := (o6.le a6).base hgs6
          replace hbr := (hbr.le l6).le a6
          replace hle := (hle.trans l6).trans a6
          clear r0 r1 r2 r3 l6 a6 o6 kP ho
          go_upto_region 20 with fail
          generalize hW : w6.alloc (.cells (cellsR T (T + (1 + c0)) 0 q6) 24) = V6 at hbr hbb ho6 hle ⊢
          clear hW
          obtain ⟨r0, r1, r2, r3, _, _, _, _⟩ := hbb.ring
          go_wp2_with fail
          refine (kF q6 _ ho6.has).mono ?_
          rintro e w7 ⟨rfl, l7⟩
          have hbs := Box.new w7 #[.int .i64 0, .int .i64 m, .int .i64 n, .int .i64 m, .int .i64 y] 38
          replace l7 := l7.trans (Le.alloc w7 (.cells #[.int .i64 0, .int .i64 m, .int .i64 n, .int .i64 m, .int .i64 y] 38))
          replace hbr := hbr.le l7
          replace hbb := hbb.le l7
          replace ho6 := ho6.le l7
          replace hle := hle.trans l7
          clear r0 r1 r2 r3 l7 kF
          go_upto_region 21 with fail
          generalize hW : w7.alloc (.cells #[.int .i64 0, .int .i64 m, .int .i64 n, .int .i64 m, .int .i64 y] 38) = V7 at hbr hbb hbs ho6 hle ⊢
          clear hW
          obtain ⟨s0, s1, s2, s3, s4⟩ := hbs.slot
          obtain ⟨r0, r1, r2, r3, f0, f1, f2, f3⟩ := hbr.ring
          obtain ⟨x0, x1, x2, x3, _, _, _, _⟩ := hbb.ring
          have hne := ho6.apart hbr (by decide)
          go_wp2_with (go_at_call 21; refine (lawNum _ _).mono ?_; rintro e _ ⟨rfl, rfl⟩)
          go_roundw
          case rel => exact ⟨J + 1, q6, _, by omega, by omega, by go_num, hri', hbr.put4, ho6.set4 hne, hle.put4 hgs⟩
          case measure => simp [intOf]; omega
        · have hJ' : ¬ (J : Int) < (T : Int) + (1 + (c0 : Int)) := by omega
          have HE : Hid ((T : Int) + (1 + (c0 : Int)) = (J : Int)) := by unfold Hid; omega
          have kG := freeAs (free_ok (p := T + (1 + c0)) hM (by simp only; omega)) hfit
          have kM := mayAs (hri.may (h := T + (1 + c0)) (t := T + (1 + c0)) kk16 (by omega) (by omega) (by omega) (by omega)) hfit
          simp only at kG
          clear hM
          obtain ⟨r0, r1, r2, r3, _, _, _, _⟩ := hbr.ring
          go_wp2_with fail
          refine (kG qj _ ho.has).mono ?_
          rintro e w8 ⟨q8, rfl, o8, l8⟩
          have a8 := Le.alloc w8 (.cells (cellsR (T + (1 + c0)) (T + (1 + c0)) 0 q8) 24)
          have hbd := Box.new w8 (cellsR (T + (1 + c0)) (T + (1 + c0)) 0 q8) 24
          have hgs8 : w.heap.size ≤ wr.heap.size := hle.size
          have ho8 := (o8.le a8).base hgs8
          replace hbr := (hbr.le l8).le a8
          replace hle := (hle.trans l8).trans a8
          clear r0 r1 r2 r3 l8 a8 o8 kG ho
          go_upto_region 25 with fail
          generalize hW : w8.alloc (.cells (cellsR (T + (1 + c0)) (T + (1 + c0)) 0 q8) 24) = V8 at hbr hbd ho8 hle ⊢
          clear hW
          obtain ⟨x0, x1, x2, x3, _, _, _, _⟩ := hbd.ring
          go_wp2_with (go_at_call 21; refine (lawNum _ _).mono ?_; rintro e _ ⟨rfl, rfl⟩)
          refine (kM q8 _ ho8.has).mono ?_
          rintro e w9 ⟨rfl, l9⟩
          replace hbr := hbr.le l9
          replace hbd := hbd.le l9
          replace ho8 := ho8.le l9
          replace hle := hle.trans l9
          clear x0 x1 x2 x3 l9 kM
          obtain ⟨r0, r1, r2, r3, f0, f1, f2, f3⟩ := hbr.ring
          obtain ⟨x0, x1, x2, x3, _, _, _, _⟩ := hbd.ring
          have hne := ho8.apart hbr (by decide)
          go_wp2_with fail
          go_roundw
          case rel => exact ⟨I + 1, J, q8, sj, by omega, by omega, by go_num, by omega, hri, (by rw [← HE.out]; exact hbr.put4), ho8.set4 hne, hle.put4 hgs⟩
          case measure => simp [intOf]; omega
    · rcases (by omega : ¬ I < L ∨ (I < L ∧ ¬ I < 30)) with g1 | ⟨g1, g2⟩
      · have g1' : ¬ (I : Int) < (L : Int) := by omega
        clear hgo
        go_wp2
        go_ret
        exact ⟨rfl, hle⟩
      · have g1' : (I : Int) < (L : Int) := by omega
        have g2' : ¬ (I : Int) < 30 := by omega
        clear hgo
        go_wp2
        go_ret
        exact ⟨rfl, hle⟩

theorem lawRingRow (w : World) (v : Value) (xs : List Int) (hx : Has w v xs) (hr : xs.length * 8 ≤ 140737488351232) (which : Int) : Calls Try.prog 4 #[v, .int .i64 which] w fun e w' => e = .returned (.bool true) ∧ Le w w' := by
  rcases (by rw [and3]; omega : bits .and .i64 which 3 = 0 ∨ bits .and .i64 which 3 = 1 ∨ bits .and .i64 which 3 = 2 ∨ bits .and .i64 which 3 = 3) with h | h | h | h
  · exact lawRgRow2 w v xs hx hr which h
  · exact lawRgRow4 w v xs hx hr which h
  · exact lawRgRow8 w v xs hx hr which h
  · exact lawRgRow16 w v xs hx hr which h

end Go.Proofs.Ytnncmjliehoknaa
