/-
  THE WALK over the document's own SameState: are they the same numbers, for every two states. No condition but that a slice's length is a number.
-/
import Derived.Test.YtphphppohagniaaStB
import Derived.Test.YtphphppohagniaaSameA
import Derived.Test.YtphphppohagniaaLater
namespace Go.Proofs.Ytphphppohagniaa
open Go.RowKit

set_option maxHeartbeats 1000000 in
theorem refSameState (v u : Value) (s t : St) (w : World) (hx : HasS w v s) (hy : HasS w u t) (hf : Fit s) :
    Calls Try.prog 18 #[v, u] w fun e w' => e = .returned (.bool (decide (s = t))) ∧ Le w w' := by
  obtain ⟨vs, rfl, hr⟩ := hx
  obtain ⟨us, rfl, hr'⟩ := hy
  have hb1 := (Box.new w (cells4 vs) 25).le (Le.alloc _ (.cells (cells4 us) 25))
  have hb2 := Box.new (w.alloc (.cells (cells4 vs) 25)) (cells4 us) 25
  rw [World.size_alloc] at hb2
  have hl := (Le.alloc w (.cells (cells4 vs) 25)).trans (Le.alloc _ (.cells (cells4 us) 25))
  go_enter Try.func18, Try.ntmps18
  go_wp2
  go_loopw [5] (fun i wr => ∃ k : Nat, k ≤ 4 ∧ i = .int .i64 k ∧ Hid (∀ j, j < k → s.at j = t.at j) ∧ Le ((w.alloc (.cells (cells4 vs) 25)).alloc (.cells (cells4 us) 25)) wr) (fun i _ => 4 - (intOf i).toNat)
  case atStart => exact ⟨0, by omega, rfl, (fun j hj => by omega), Le.refl _⟩
  case round =>
    obtain ⟨k, hk, rfl, HS, hle⟩ := hrel
    by_cases hlt : k < 4
    · obtain ⟨a, cap, hv, hc, _, hcell⟩ := (hr k hlt).le (hl.trans hle)
      obtain ⟨b, cap', hv', hc', _, hcell'⟩ := (hr' k hlt).le (hl.trans hle)
      have hbk := hb1.le hle
      have hbk' := hb2.le hle
      have hfk := hf k hlt
      generalize hxs : s.at k = xs at hcell hv hc hfk
      generalize hys : t.at k = ys at hcell' hv' hc'
      have c1 : wr.cell? ⟨w.heap.size, k, none⟩ = some (.slice a xs.length cap) := by rw [← hv]; exact (hbk.cell k).trans (cells4_at vs hlt)
      have c2 : wr.cell? ⟨w.heap.size + 1, k, none⟩ = some (.slice b ys.length cap') := by rw [← hv']; exact (hbk'.cell k).trans (cells4_at us hlt)
      have k0 : (0 : Int) ≤ (k : Int) := by omega
      have k1 : (k : Int) < 4 := by omega
      have HX : Hid (s.at k = xs) := hxs
      have HY : Hid (t.at k = ys) := hys
      clear hxs hys hv hv' hb1 hb2 hbk hbk'
      by_cases hL : xs.length = ys.length
      · have HL : Hid (xs.length = ys.length) := hL
        rw [← hL] at c2
        obtain ⟨L, hL1⟩ : ∃ L, L = xs.length := ⟨_, rfl⟩
        have HLx : Hid (xs.length = L) := hL1.symm
        have HLy : Hid (ys.length = L) := by show ys.length = L; omega
        rw [← hL1] at c1 c2 hc
        have hfL : L * 8 ≤ 140737488351232 := by omega
        clear hL hL1 hc hc' hfk
        go_wp2
        go_quiet (fail)
        go_wp2
        have hlq : Le wr (wr.drewN nq) := Le.drewN _ _
        generalize wr.drewN nq = W at hlq ⊢
        go_loopw [6] (fun i w' => ∃ m : Nat, m ≤ L ∧ i = .int .i64 m ∧ Hid (xs.take m = ys.take m) ∧ Le wr w') (fun i _ => L - (intOf i).toNat)
        case atStart => exact ⟨0, Nat.zero_le _, rfl, rfl, hlq⟩
        case round =>
          obtain ⟨m, hm, rfl, HT, hle2⟩ := hrel
          have d1 : wr.cell? ⟨w.heap.size, k, none⟩ = some (.slice a L cap) := (Below.cell (p := ⟨w.heap.size, k, none⟩) hle2 (World.block_lt_of_cell? _ _ c1)).trans c1
          have d2 : wr.cell? ⟨w.heap.size + 1, k, none⟩ = some (.slice b L cap') := (Below.cell (p := ⟨w.heap.size + 1, k, none⟩) hle2 (World.block_lt_of_cell? _ _ c2)).trans c2
          by_cases hlm : m < L
          · have e1 := HLx.out
            have e2 := HLy.out
            obtain ⟨g, off, rfl, hca⟩ := hcell (by omega)
            obtain ⟨g', off', rfl, hcb⟩ := hcell' (by omega)
            obtain ⟨x, hxk⟩ : ∃ x, x = xs.getD m 0 := ⟨_, rfl⟩
            have q1 := hca m (by omega)
            have hck : wr.cell? ⟨g, off + m, none⟩ = some (.int .i64 x) := by rw [hxk]; exact (Below.cell (p := ⟨g, off + m, none⟩) hle2 (World.block_lt_of_cell? _ _ q1)).trans q1
            obtain ⟨y, hyk⟩ : ∃ y, y = ys.getD m 0 := ⟨_, rfl⟩
            have q2 := hcb m (by omega)
            have hck' : wr.cell? ⟨g', off' + m, none⟩ = some (.int .i64 y) := by rw [hyk]; exact (Below.cell (p := ⟨g', off' + m, none⟩) hle2 (World.block_lt_of_cell? _ _ q2)).trans q2
            have HXm : Hid (x = xs.getD m 0) := hxk
            have HYm : Hid (y = ys.getD m 0) := hyk
            have hlm' : (m : Int) < (L : Int) := by omega
            clear hxk hyk hcell hcell' hca hcb q1 q2 e1 e2 c1 c2
            by_cases hxy : x = y
            · subst hxy
              go_wp2
              go_quiet (fail)
              go_wp2
              go_roundw
              case rel => exact ⟨m + 1, by omega, by go_num, take_same (by have := HLx.out; omega) (by have := HLy.out; omega) HT.out (by rw [← HXm.out, ← HYm.out]), hle2.trans (Le.drewN _ _)⟩
              case measure => simp [intOf]; omega
            · have hne : (x != y) = true := by simp [hxy]
              have HN : Hid (¬ x = y) := hxy
              clear hxy
              go_wp2
              go_quiet (fail)
              go_wp2
              go_ret
              refine ⟨ret_bool ?_, (hl.trans hle).trans (hle2.trans (Le.drewN _ _))⟩
              have := ne_of_at (k := m) (xs := xs) (ys := ys) (by rw [← HXm.out, ← HYm.out]; exact HN.out)
              have h2 : ¬ s = t := fun h => this (by rw [← HX.out, ← HY.out, h])
              simp [h2]
          · have HT2 : Hid (xs = ys) := by
              have h1 := HLx.out
              have h2 := HLy.out
              have := HT.out
              rw [List.take_of_length_le (by omega), List.take_of_length_le (by omega)] at this
              exact this
            clear c1 c2 hcell hcell'
            go_wp2
            go_roundw
            case rel => exact ⟨k + 1, by omega, by go_num, (fun j hj => by rcases Nat.lt_or_eq_of_le (Nat.le_of_lt_succ hj) with h | h; exact HS.out j h; subst h; rw [HX.out, HY.out, HT2.out]), hle.trans hle2⟩
            case measure => simp [intOf]; omega
      · have hne : ((xs.length : Int) != (ys.length : Int)) = true := by simp; omega
        have HN : Hid (¬ s = t) := fun h => hL (by rw [← HX.out, ← HY.out, h])
        clear hL hc hc' hcell hcell'
        go_wp2
        go_quiet (fail)
        go_wp2
        go_ret
        exact ⟨ret_bool (by have := HN.out; simp [this]), (hl.trans hle).trans (Le.drewN _ _)⟩
    · obtain rfl : k = 4 := by omega
      go_wp2
      go_ret
      exact ⟨ret_bool (by have := St.ext_at HS.out; simp [this]), hl.trans hle⟩

end Go.Proofs.Ytphphppohagniaa
