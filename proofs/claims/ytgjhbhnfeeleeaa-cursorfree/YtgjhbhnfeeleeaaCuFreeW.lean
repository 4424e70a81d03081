/-
  THE WALK over choruslaw11.CursorFree: it answers true, for all numbers, and turns nothing that was there. No condition.
-/
import Derived.Test.YtgjhbhnfeeleeaaCuAwake
import Derived.Test.YtgjhbhnfeeleeaaRgI
import Derived.Test.YtgjhbhnfeeleeaaApp
import Derived.Test.YtgjhbhnfeeleeaaBits2
import Derived.Deep.Cut
namespace Go.Proofs.Ytgjhbhnfeeleeaa
open Go.RowKit

def cu16 : List Slt := [Slt.zero, Slt.zero, Slt.zero, Slt.zero, Slt.zero, Slt.zero, Slt.zero, Slt.zero, Slt.zero, Slt.zero, Slt.zero, Slt.zero, Slt.zero, Slt.zero, Slt.zero, Slt.zero]
theorem cu16_may {h t : Int} (h0 : 0 ≤ h) (h1 : h ≤ t) (h2 : t ≤ h + 16) (h3 : t ≤ 1048576) : mayR ⟨h, t, 0, cu16⟩ = true :=
  mayR_of (R := ⟨h, t, 0, cu16⟩) (show slotsB (cu16.length : Nat) = true by decide) h0 h1 h3 h2 (show (0 : Int) ≤ 0 by decide) (show (0 : Int) ≤ 4 by decide) (show cu16.all slotB = true by decide)
theorem cu16_curs {h t : Int} {zs : List Int} (h0 : 0 ≤ h) (h1 : h ≤ t) (h2 : t ≤ h + 16) (h3 : t ≤ 1048576) (hz : ∀ z ∈ zs, h ≤ z ∧ z ≤ t) : cursB ⟨h, t, 0, cu16⟩ zs = true := by
  simp only [cursB, cu16_may h0 h1 h2 h3, Bool.true_and, List.all_eq_true]
  intro z hzz
  have := hz z hzz
  simp [insB]
  omega
theorem curs_outs {h t f : Int} {ss : List Slt} {xs : List Int} {x : Int} (hx : x ∈ xs) (ho : x < h ∨ t < x) : cursB ⟨h, t, f, ss⟩ xs = false := by
  rw [Bool.eq_false_iff]
  intro hm
  simp only [cursB, Bool.and_eq_true, List.all_eq_true] at hm
  have := hm.2 x hx
  simp [insB] at this
  omega

set_option maxRecDepth 4000 in
set_option maxHeartbeats 2000000 in
theorem cursorFree_law (w : World) (a0 a1 : Int) (v : Value) (xs : List Int) (hu : Has w v xs) (hr : xs.length * 8 ≤ 140737488351232) :
    Calls Try.prog 6 #[.int .i64 a0, .int .i64 a1, v] w fun e w' => e = .returned (.bool true) ∧ Le w w' := by
  obtain ⟨m, hm, m0, m1⟩ : ∃ m, bits .and .i64 a0 1023 = m ∧ 0 ≤ m ∧ m ≤ 1023 := ⟨_, and1023 a0, by omega, by omega⟩
  obtain ⟨n, hn, n0, n1⟩ : ∃ m, bits .and .i64 a1 15 = m ∧ 0 ≤ m ∧ m ≤ 15 := ⟨_, and15 a1, by omega, by omega⟩
  obtain ⟨t, ht⟩ : ∃ t, m + n = t := ⟨_, rfl⟩
  obtain ⟨N, hN⟩ : ∃ N, n + 1 = N := ⟨_, rfl⟩
  have t0 : m ≤ t := by omega
  have t1 : t ≤ 1038 := by omega
  have N0 : 1 ≤ N := by omega
  have N1 : N ≤ 16 := by omega
  have N2 : ¬ N = 0 := by omega
  have N4 : IntKind.i64.wrap N = N := by rw [IntKind.wrap_i64]; omega
  have N3 : IntKind.u64.wrap N = N := by rw [IntKind.wrap_u64]; omega
  have HT : Hid (t = m + N - 1) := by show t = m + N - 1; omega
  have b0 := refNewAs (show newS 16 = (⟨0, 0, 0, cu16⟩, 0) by decide)
  obtain ⟨a, cap, hv, hc', hna, hx⟩ := hu
  subst hv
  obtain ⟨L, hL⟩ : ∃ L, L = xs.length := ⟨_, rfl⟩
  rw [← hL] at hr hc' hx ⊢
  clear hL
  go_enter Try.func6, Try.ntmps6
  go_wp2_with fail
  refine (lawAwake11 _).mono ?_
  rintro e w1 ⟨rfl, l1⟩
  go_wp2_with fail
  refine (b0 _).mono ?_
  rintro e w2 ⟨q, rfl, o2, l2⟩
  replace l2 := (l1.trans l2).trans (Le.alloc w2 (.cells (cellsR m t 0 q) 24))
  have hq := o2.has.le (Le.alloc w2 (.cells (cellsR m t 0 q) 24))
  have hb := Box.new w2 (cellsR m t 0 q) 24
  go_upto_region 6 with fail
  generalize hW : w2.alloc (.cells (cellsR m t 0 q) 24) = W at hq hb l2 ⊢
  clear hW o2
  go_wp2
  go_loopw [9, 10] (fun y i wr => ∃ (k : Nat) (zs : List Int), k ≤ L ∧ k ≤ 3 ∧ i = .int .i64 k ∧ Hid (zs.length = k) ∧ Hid (∀ z ∈ zs, m ≤ z ∧ z ≤ t) ∧ Own wr W.heap.size y zs ∧ Le W wr) (fun _ i _ => 3 - (intOf i).toNat)
  case atStart => exact ⟨0, [], by omega, by omega, rfl, rfl, (fun z hz => by cases hz), Own.nil _ _, Le.refl _⟩
  case round =>
    obtain ⟨k, zs, hk, hk3, rfl, HZ, HA, ho, hle⟩ := hrel
    have hb' := hb.le hle
    obtain ⟨c0, c1, c2, c3, _, _, _, _⟩ := hb'.ring
    by_cases hlt : k < L ∧ k < 3
    · obtain ⟨b, off, rfl, hcell⟩ := hx (by omega)
      obtain ⟨x, hxx⟩ : ∃ x, x = xs.getD k 0 := ⟨_, rfl⟩
      have d0 := hcell k hlt.1
      have hbw : b < w.heap.size := World.block_lt_of_cell? w _ d0
      rw [← hxx, ← (l2.trans hle).cell (p := ⟨b, off + k, none⟩) hbw] at d0
      obtain ⟨J, hJ, J0, J1⟩ : ∃ J : Int, (IntKind.u64.wrap x).tmod N = J ∧ 0 ≤ J ∧ J < N := by
        have hw : 0 ≤ IntKind.u64.wrap x := wrap_u64_nonneg x
        exact ⟨_, rfl, by rw [Int.tmod_eq_emod_of_nonneg hw]; exact Int.emod_nonneg _ (by omega), by rw [Int.tmod_eq_emod_of_nonneg hw]; exact Int.emod_lt_of_pos _ (by omega)⟩
      obtain ⟨z, hz⟩ : ∃ z, m + J = z := ⟨_, rfl⟩
      have J2 : IntKind.i64.wrap J = J := by rw [IntKind.wrap_i64]; omega
      have z2 : IntKind.i64.wrap z = z := by rw [IntKind.wrap_i64]; omega
      have h1 : (k : Int) < (L : Int) := by omega
      have h2 : (k : Int) < 3 := by omega
      have hbr : b < wr.heap.size := World.block_lt_of_cell? wr _ d0
      have HZ' : Hid ((zs ++ [z]).length = k + 1) := by show (zs ++ [z]).length = k + 1; rw [List.length_append, HZ.out]; rfl
      have HA' : Hid (∀ y ∈ zs ++ [z], m ≤ y ∧ y ≤ t) := fun y hy => by
        rcases List.mem_append.1 hy with hy | hy
        · exact HA.out y hy
        · simp at hy; have := HT.out; omega
      have hA := (Le.drew wr).trans (Le.alloc wr.drew (.cells #[.int .i64 z] 3))
      have q1 : Own (wr.drew.alloc (.cells #[.int .i64 z] 3)) wr.heap.size (.slice (some ⟨wr.heap.size, 0, none⟩) 1 1) [z] := Own.lit wr.drew _ (Nat.le_refl _) [z] (by simp)
      have hzl : (zs.length + [z].length) * 8 ≤ 140737488355328 := by rw [HZ.out]; simp; omega
      clear hcell hx hxx b0 
      go_upto_region 10 with fail
      go_region_law ((refine step_append_ints rfl (.tmp 42) (.tmp 57) rfl W.heap.size u9 (.slice (some ⟨wr.heap.size, 0, none⟩) 1 1) zs [z] (by simp [Act.eval]) (by simp [Act.eval]) (ho.le hA) q1.has hzl (hle.trans hA).size ?_; intro v1 w3 o3 g3; have l3 : Le W w3 := Below.grown (hle.trans hA) g3 (hle.trans hA).size (fun g e => (World.ownsRow.lt ho g e).1)))
      all_goals
        go_wp2
        go_roundw
        case rel => exact ⟨k + 1, _, by omega, by omega, by go_num, HZ', HA', o3, l3⟩
        case measure => simp [intOf]; omega
    · have hend : ¬ ((k : Int) < (L : Int)) ∨ ((k : Int) < (L : Int) ∧ ¬ (k : Int) < 3) := by omega
      clear hx b0
      rcases Nat.eq_zero_or_pos k with k0 | k0
      · obtain ⟨a', cap', hv'⟩ := ho.has.shape
        rw [HZ.out, k0] at hv'
        subst hv'
        rcases hend with h1 | ⟨h1, h2⟩
        · go_wp2
          go_ret
          exact ⟨rfl, l2.trans hle⟩
        · omega
      · obtain ⟨a', cap', hv'⟩ := ho.has.shape
        obtain ⟨p, hp⟩ : ∃ p, p = minL zs := ⟨_, rfl⟩
        have hzz : ∀ z ∈ zs, m ≤ z ∧ z ≤ t := HA.out
        have hzl : 0 < zs.length := by rw [HZ.out]; exact k0
        have hmem : p ∈ zs := by rw [hp]; exact minL_mem hzl
        have hmin : ∀ z ∈ zs, p ≤ z := fun z hz => by rw [hp]; exact minL_le hz
        obtain ⟨p0, p1⟩ := hzz p hmem
        have b1 := leastAs (show leastS zs = (p, 0) by
          rw [hp]; refine least_pos hzl (fun i hi => ?_)
          have := hzz (zs.getD i 0) (by simp [List.getD, hi])
          omega) (by rw [HZ.out]; omega)
        have hfit : cu16.length * 40 ≤ 140737488351232 := by decide
        have b2 := refFreeAs (show freeS ⟨m, t, 0, cu16⟩ p = (⟨p, t, 0, cu16⟩, 0) from free_ok (cu16_may m0 t0 (by omega) (by omega)) ⟨p0, p1⟩) hfit
        have b3 := cursAs (show cursB ⟨m, t, 0, cu16⟩ zs = true from cu16_curs m0 t0 (by omega) (by omega) hzz) hfit (by rw [HZ.out]; omega)
        have b4 := cursAs (show cursB ⟨p, t, 0, cu16⟩ zs = true from cu16_curs (by omega) p1 (by omega) (by omega) (fun z hz => ⟨hmin z hz, (hzz z hz).2⟩)) hfit (by rw [HZ.out]; omega)
        have b5 := cursAs (show cursB ⟨p + 1, t, 0, cu16⟩ zs = false from curs_outs hmem (by omega)) hfit (by rw [HZ.out]; omega)
        have HO := ho.has
        rw [HZ.out] at hv'
        subst hv'
        replace hq := hq.le hle
        replace l2 := l2.trans hle
        clear hzz hmin hmem hp hzl HA ho hb
        have kn : ((k : Int) == 0) = false := by simp; omega
        rcases hend with h1 | ⟨h1, h2⟩
        all_goals
          go_wp2_with fail
          refine (b1 _ _ HO).mono ?_
          rintro e _ ⟨rfl, rfl⟩
          go_wp2_with fail
          refine (b2 q _ hq).mono ?_
          rintro e w5 ⟨q5, rfl, o5, l5⟩
          have hb5 := Box.new w5 (cellsR p t 0 q5) 24
          have a5 := Le.alloc w5 (.cells (cellsR p t 0 q5) 24)
          have hq5 := o5.has.le a5
          replace l5 := l5.trans a5
          go_upto_region 15 with fail
          generalize hW5 : w5.alloc (.cells (cellsR p t 0 q5) 24) = W5 at hb5 a5 hq5 l5 ⊢
          clear hW5 o5 a5 c0 c1 c2 c3
          replace hb' := hb'.le l5
          obtain ⟨c0, c1, c2, c3, _, _, _, _⟩ := hb'.ring
          replace HO := HO.le l5
          replace hq := hq.le l5
          replace l5 := l2.trans l5
          go_wp2_with (go_at_call 10; refine (lawNum _ _).mono ?_; rintro e _ ⟨rfl, rfl⟩)
          refine (b3 q _ _ hq HO).mono ?_
          rintro e w6 ⟨rfl, l6⟩
          replace hb' := hb'.le l6
          replace HO := HO.le l6
          replace hq := hq.le l6
          replace hq5 := hq5.le l6
          obtain ⟨d0, d1, d2, d3, _, _, _, _⟩ := (hb5.le l6).ring
          replace l6 := l5.trans l6
          go_wp2_with fail
          refine (b4 q5 _ _ hq5 HO).mono ?_
          rintro e w7 ⟨rfl, l7⟩
          replace hb' := hb'.le l7
          replace HO := HO.le l7
          replace hq := hq.le l7
          replace l7 := l6.trans l7
          clear c0 c1 c2 c3 d0 d1 d2 d3
          obtain ⟨c0, c1, c2, c3, _, _, _, _⟩ := hb'.ring
          by_cases hpt : p + 1 ≤ t
          · have b6 := refFreeAs (show freeS ⟨m, t, 0, cu16⟩ (p + 1) = (⟨p + 1, t, 0, cu16⟩, 0) from free_ok (cu16_may m0 t0 (by omega) (by omega)) ⟨by show m ≤ p + 1; omega, hpt⟩) hfit
            go_wp2_with fail
            refine (b6 q _ hq).mono ?_
            rintro e w8 ⟨q8, rfl, o8, l8⟩
            have hb8 := Box.new w8 (cellsR (p + 1) t 0 q8) 24
            have a8 := Le.alloc w8 (.cells (cellsR (p + 1) t 0 q8) 24)
            have hq8 := o8.has.le a8
            replace l8 := l8.trans a8
            go_upto_region 18 with fail
            generalize hW8 : w8.alloc (.cells (cellsR (p + 1) t 0 q8) 24) = W8 at hb8 a8 hq8 l8 ⊢
            clear c0 c1 c2 c3
            obtain ⟨c0, c1, c2, c3, _, _, _, _⟩ := hb8.ring
            go_wp2_with fail
            refine (b5 q8 _ _ hq8 (HO.le l8)).mono ?_
            rintro e w9 ⟨rfl, l9⟩
            go_wp2
            go_ret
            exact ⟨rfl, (l7.trans l8).trans l9⟩
          · have b6 := refFreeAs (show freeS ⟨m, t, 0, cu16⟩ (p + 1) = (⟨0, 0, 0, []⟩, 1000) from free_no (.inr (by show t < p + 1; omega))) hfit
            go_wp2_with fail
            refine (b6 q _ hq).mono ?_
            rintro e w8 ⟨q8, rfl, o8, l8⟩
            have a8 := Le.alloc w8 (.cells (cellsR 0 0 0 q8) 24)
            go_wp2
            go_ret
            exact ⟨rfl, (l7.trans l8).trans a8⟩

end Go.Proofs.Ytgjhbhnfeeleeaa
