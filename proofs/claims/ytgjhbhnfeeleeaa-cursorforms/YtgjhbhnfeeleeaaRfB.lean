/-
  THE WALKS over the document's own RingMay and NewRing: what each answers, for every ring. Condition: that the slots can be copied.
-/
import Derived.Test.YtgjhbhnfeeleeaaRfA
namespace Go.Proofs.Ytgjhbhnfeeleeaa
open Go.RowKit

theorem slotB_up {s : Slt} : slotB s = (opUp s.c s.r s.a && threadB s.t && (decide (0 ≤ s.b) && decide (s.b ≤ 1))) := by
  rw [Bool.eq_iff_iff]
  simp [slotB, threadB]
  omega

theorem mayR_doc (R : Rg) : mayR R = (slotsB R.ss.length && holdB R.h && (decide (R.h ≤ R.t) && decide (R.t ≤ R.h + R.ss.length)) && holdB R.t && (decide (0 ≤ R.f) && decide (R.f ≤ 4)) && R.ss.all slotB) := by
  unfold mayR
  generalize R.ss.all slotB = z
  generalize slotsB R.ss.length = y
  cases z <;> cases y <;> simp only [Bool.and_false, Bool.false_and, Bool.true_and, Bool.and_true]
  rw [Bool.eq_iff_iff]
  simp [placesB, holdB]
  omega

set_option maxHeartbeats 1000000 in
theorem refRingMay (v : Value) (R : Rg) (w : World) (hx : HasR w v R) (hf : FitR R) : Calls Try.prog 22 #[v] w fun e w' => e = .returned (.bool (mayR R)) ∧ Le w w' := by
  rw [mayR_doc]
  obtain ⟨h, t, f, ss⟩ := R
  obtain ⟨q, rfl, hq⟩ := hx
  simp only [FitR] at hf hq ⊢
  have hb := Box.new w (cellsR h t f q) 24
  have hl := Le.alloc w (.cells (cellsR h t f q) 24)
  have hn := hq.len
  have hq0 : q.2.1 ≤ 4611686018427387904 := by omega
  rw [← hn]
  have HN : Hid (q.2.1 = ss.length) := hn
  clear hn
  have m1 := fun w => refSlotsMay q.2.1 w
  have m2 := fun w => refCellMay h w
  have m3 := fun w => refUpTo t h (h + q.2.1) w
  have m4 := fun w => refCellMay t w
  have m5 := fun w => refUpTo f 0 4 w
  cases h1 : slotsB q.2.1
  · rw [h1] at m1
    go_enter Try.func22, Try.ntmps22
    go_wp2_with (go_at_call 24; refine (m1 _).mono ?_; rintro e _ ⟨rfl, rfl⟩)
    go_ret
    exact ⟨ret_bool (by simp), hl⟩
  rw [h1] at m1
  have hlen := slotsB_cases h1
  cases h2 : holdB h
  · rw [h2] at m2
    go_enter Try.func22, Try.ntmps22
    go_wp2_with fail
    refine (m1 _).mono ?_
    rintro e _ ⟨rfl, rfl⟩
    go_wp2_with fail
    refine (m2 _).mono ?_
    rintro e _ ⟨rfl, rfl⟩
    go_wp2_with fail
    go_ret
    exact ⟨ret_bool (by simp), hl⟩
  rw [h2] at m2
  obtain ⟨p0, p1⟩ := holdB_cases h2
  have hsum : IntKind.i64.wrap (h + (q.2.1 : Int)) = h + (q.2.1 : Int) := by rw [IntKind.wrap_i64]; omega
  cases h3 : (decide (h ≤ t) && decide (t ≤ h + (q.2.1 : Int)))
  · rw [h3] at m3
    clear hlen
    go_enter Try.func22, Try.ntmps22
    go_wp2_with fail
    refine (m1 _).mono ?_
    rintro e _ ⟨rfl, rfl⟩
    go_wp2_with fail
    refine (m2 _).mono ?_
    rintro e _ ⟨rfl, rfl⟩
    go_wp2_with fail
    refine (m3 _).mono ?_
    rintro e _ ⟨rfl, rfl⟩
    go_wp2_with fail
    go_ret
    exact ⟨ret_bool (by simp), hl⟩
  rw [h3] at m3
  cases h4 : holdB t
  · rw [h4] at m4
    clear hlen
    go_enter Try.func22, Try.ntmps22
    go_wp2_with fail
    refine (m1 _).mono ?_
    rintro e _ ⟨rfl, rfl⟩
    go_wp2_with fail
    refine (m2 _).mono ?_
    rintro e _ ⟨rfl, rfl⟩
    go_wp2_with fail
    refine (m3 _).mono ?_
    rintro e _ ⟨rfl, rfl⟩
    go_wp2_with fail
    refine (m4 _).mono ?_
    rintro e _ ⟨rfl, rfl⟩
    go_wp2_with fail
    go_ret
    exact ⟨ret_bool (by simp), hl⟩
  rw [h4] at m4
  cases h5 : (decide (0 ≤ f) && decide (f ≤ 4))
  · rw [h5] at m5
    clear hlen
    go_enter Try.func22, Try.ntmps22
    go_wp2_with fail
    refine (m1 _).mono ?_
    rintro e _ ⟨rfl, rfl⟩
    go_wp2_with fail
    refine (m2 _).mono ?_
    rintro e _ ⟨rfl, rfl⟩
    go_wp2_with fail
    refine (m3 _).mono ?_
    rintro e _ ⟨rfl, rfl⟩
    go_wp2_with fail
    refine (m4 _).mono ?_
    rintro e _ ⟨rfl, rfl⟩
    go_wp2_with fail
    refine (m5 _).mono ?_
    rintro e _ ⟨rfl, rfl⟩
    go_wp2_with fail
    go_ret
    exact ⟨ret_bool (by simp), hl⟩
  rw [h5] at m5
  simp only [Bool.true_and]
  obtain ⟨a, cap, hqv, hcap, _, hxx⟩ := hq
  obtain ⟨b, off, rfl, hcell⟩ := hxx (by have := HN.out; omega)
  obtain ⟨qa, L, qc⟩ := q
  simp only [slV, Value.slice.injEq] at hqv
  obtain ⟨rfl, hn, rfl⟩ := hqv
  rw [← hn] at hcell
  have HL : Hid (L = ss.length) := hn
  have hL : L ≤ 16 := by simp only at hlen; omega
  clear hn HN hlen h1 h2 h3 h4 h5 hxx hcap hq0 hf
  go_enter Try.func22, Try.ntmps22
  go_wp2_with fail
  refine (m1 _).mono ?_
  rintro e _ ⟨rfl, rfl⟩
  go_wp2_with fail
  refine (m2 _).mono ?_
  rintro e _ ⟨rfl, rfl⟩
  go_wp2_with fail
  refine (m3 _).mono ?_
  rintro e _ ⟨rfl, rfl⟩
  go_wp2_with fail
  refine (m4 _).mono ?_
  rintro e _ ⟨rfl, rfl⟩
  go_wp2_with fail
  refine (m5 _).mono ?_
  rintro e _ ⟨rfl, rfl⟩
  go_wp2_with fail
  clear m1 m2 m3 m4 m5
  go_loopw [4] (fun i wr => ∃ k : Nat, k ≤ L ∧ i = .int .i64 k ∧ Hid ((ss.take k).all slotB = true) ∧ Le (w.alloc (.cells (cellsR h t f (some ⟨b, off, none⟩, L, qc)) 24)) wr) (fun i _ => L - (intOf i).toNat)
  case atStart => exact ⟨0, by omega, rfl, rfl, Le.refl _⟩
  case round =>
    obtain ⟨k, hk, rfl, HA, hle⟩ := hrel
    by_cases hlt : k < L
    · obtain ⟨s, hs⟩ : ∃ s, s = ss.getD k Slt.zero := ⟨_, rfl⟩
      have HS : Hid (s = ss.getD k Slt.zero) := hs
      obtain ⟨x0, x1, x2, x3, x4⟩ := ((hcell k hlt).le hl).le hle
      rw [← hs] at x0 x1 x2 x3 x4
      obtain ⟨b0, b1, b2, b3, _, _, _, _⟩ := (hb.le hle).ring
      replace b3 : wr.cell? ⟨w.heap.size, 3, none⟩ = some (.slice (some ⟨b, off, none⟩) L qc) := b3
      clear hs hcell
      have hlt' : (k : Int) < (L : Int) := by omega
      have hbs := Box.new wr #[.int .i64 s.c, .int .i64 s.r, .int .i64 s.a, .int .i64 s.t, .int .i64 s.b] 53
      have hls := Le.alloc wr (.cells #[.int .i64 s.c, .int .i64 s.r, .int .i64 s.a, .int .i64 s.t, .int .i64 s.b] 53)
      have r1 := fun w => refUpdates s.c s.r s.a w
      have r2 := fun w => refThreadMay s.t w
      have r3 := fun w => refUpTo s.b 0 1 w
      have HB : Hid (slotB s = (opUp s.c s.r s.a && threadB s.t && (decide (0 ≤ s.b) && decide (s.b ≤ 1)))) := slotB_up
      cases g1 : opUp s.c s.r s.a
      · rw [g1] at r1
        go_wp2_with fail
        refine (r1 _).mono ?_
        rintro e w1 ⟨rfl, l1⟩
        go_wp2_with fail
        go_ret
        exact ⟨ret_bool (all_no (k := k) (by have := HL.out; omega) (by rw [← HS.out, HB.out, g1]; rfl)).symm, ((hl.trans hle).trans hls).trans l1⟩
      rw [g1] at r1
      cases g2 : threadB s.t
      · rw [g2] at r2
        go_wp2_with fail
        refine (r1 _).mono ?_
        rintro e w1 ⟨rfl, l1⟩
        obtain ⟨y0, y1, y2, y3, y4⟩ := (hbs.le l1).slot
        go_wp2_with (go_at_call 33; refine (r2 _).mono ?_; rintro e _ ⟨rfl, rfl⟩)
        go_ret
        exact ⟨ret_bool (all_no (k := k) (by have := HL.out; omega) (by rw [← HS.out, HB.out, g1, g2]; rfl)).symm, ((hl.trans hle).trans hls).trans l1⟩
      rw [g2] at r2
      cases g3 : (decide (0 ≤ s.b) && decide (s.b ≤ 1))
      · rw [g3] at r3
        go_wp2_with fail
        refine (r1 _).mono ?_
        rintro e w1 ⟨rfl, l1⟩
        obtain ⟨y0, y1, y2, y3, y4⟩ := (hbs.le l1).slot
        go_wp2_with fail
        refine (r2 _).mono ?_
        rintro e _ ⟨rfl, rfl⟩
        go_wp2_with fail
        refine (r3 _).mono ?_
        rintro e _ ⟨rfl, rfl⟩
        go_wp2_with fail
        go_ret
        exact ⟨ret_bool (all_no (k := k) (by have := HL.out; omega) (by rw [← HS.out, HB.out, g1, g2, g3]; rfl)).symm, ((hl.trans hle).trans hls).trans l1⟩
      · rw [g3] at r3
        go_wp2_with fail
        refine (r1 _).mono ?_
        rintro e w1 ⟨rfl, l1⟩
        obtain ⟨y0, y1, y2, y3, y4⟩ := (hbs.le l1).slot
        go_wp2_with fail
        refine (r2 _).mono ?_
        rintro e _ ⟨rfl, rfl⟩
        go_wp2_with fail
        refine (r3 _).mono ?_
        rintro e _ ⟨rfl, rfl⟩
        go_wp2_with fail
        go_roundw
        case rel => exact ⟨k + 1, by omega, by go_num, all_take (by have := HL.out; omega) HA.out (by rw [← HS.out, HB.out, g1, g2, g3]; rfl), (hle.trans hls).trans l1⟩
        case measure => simp [intOf]; omega
    · obtain rfl : k = L := by omega
      go_wp2_with fail
      go_ret
      exact ⟨ret_bool (by have := HA.out; rw [HL.out, List.take_length] at this; exact this.symm), hl.trans hle⟩

end Go.Proofs.Ytgjhbhnfeeleeaa
