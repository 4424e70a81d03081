/-
  THE WALK over choruslaw5.QueueForms: it answers true, for every two numbers, and turns nothing that was there.
-/
import Derived.Test.YthgligelghhjaaaQAwake
import Derived.Test.YthgligelghhjaaaStPut2
import Derived.Test.YthgligelghhjaaaBits
namespace Go.Proofs.Ythgligelghhjaaa
open Go.RowKit

set_option maxHeartbeats 2000000 in
theorem lawForms5 (w : World) (a0 a1 : Int) : Calls Try.prog 5 #[.int .i64 a0, .int .i64 a1] w fun e w' => e = .returned (.bool true) ∧ Le w w' := by
  obtain ⟨d, hd, d0⟩ : ∃ m, bits .and .i64 a1 1023 = m ∧ 0 ≤ m ∧ m ≤ 1023 := ⟨_, and1023 a1, by omega, by omega⟩
  obtain ⟨m, hm, m0⟩ : ∃ k : Nat, bits .and .i64 a0 3 = (k : Int) ∧ k < 4 := ⟨(a0 % 4).toNat, by rw [and3]; omega, by omega⟩
  obtain ⟨k, hk, k0⟩ : ∃ k : Nat, bits .and .i64 (a0 / 4) 3 = (k : Int) ∧ k < 4 := ⟨((a0 / 4) % 4).toNat, by rw [and3]; omega, by omega⟩
  go_enter Try.func5, Try.ntmps5
  go_upto_region 3 with (go_at_call 14; refine (lawAwake5 _).mono ?_; rintro e w1 ⟨rfl, l1⟩)
  go_upto_region 6 with fail
  have bad : ∀ V : World, V = (((((w1.alloc (.cells #[.int .i64 1, .int .i64 1, .int .i64 1, .int .i64 1, .int .i64 1] 3)).alloc (.cells #[.int .i64 (-(1 + d))] 3)).alloc (.cells #[.int .i64 (255 + (1 + d))] 3)).alloc (.cells #[.int .i64 0, .int .i64 0, .int .i64 (-1)] 3)).alloc (.cells #[slV (some ⟨w1.heap.size, 0, none⟩, 5, 5), slV (some ⟨w1.heap.size + 1, 0, none⟩, 1, 1), slV (some ⟨w1.heap.size + 1 + 1, 0, none⟩, 1, 1), slV (some ⟨w1.heap.size + 1 + 1 + 1, 0, none⟩, 3, 3)] 22)).alloc (.cells (cells4 fun _ => slZ) 25) →
      Le w1 V ∧ Box V (w1.heap.size + 1 + 1 + 1 + 1 + 1) (cells4 fun _ => slZ) 25 ∧ ∃ (q : Sl) (bd : List Int), V.cell? ⟨w1.heap.size + 1 + 1 + 1 + 1, m, none⟩ = some (slV q) ∧ Own V w1.heap.size (slV q) bd ∧ rowMay3 bd = false ∧ bd.length ≤ 5 := by
    rintro V rfl
    have hb := Box.new ((((w1.alloc (.cells #[.int .i64 1, .int .i64 1, .int .i64 1, .int .i64 1, .int .i64 1] 3)).alloc (.cells #[.int .i64 (-(1 + d))] 3)).alloc (.cells #[.int .i64 (255 + (1 + d))] 3)).alloc (.cells #[.int .i64 0, .int .i64 0, .int .i64 (-1)] 3)) #[slV (some ⟨w1.heap.size, 0, none⟩, 5, 5), slV (some ⟨w1.heap.size + 1, 0, none⟩, 1, 1), slV (some ⟨w1.heap.size + 1 + 1, 0, none⟩, 1, 1), slV (some ⟨w1.heap.size + 1 + 1 + 1, 0, none⟩, 3, 3)] 22
    replace hb := hb.le (Le.alloc _ (.cells (cells4 fun _ => slZ) 25))
    simp only [World.size_alloc] at hb
    refine ⟨(((((Le.alloc _ _).trans (Le.alloc _ _)).trans (Le.alloc _ _)).trans (Le.alloc _ _)).trans (Le.alloc _ _)).trans (Le.alloc _ _), ?_, ?_⟩
    · have := Box.new (((((w1.alloc (.cells #[.int .i64 1, .int .i64 1, .int .i64 1, .int .i64 1, .int .i64 1] 3)).alloc (.cells #[.int .i64 (-(1 + d))] 3)).alloc (.cells #[.int .i64 (255 + (1 + d))] 3)).alloc (.cells #[.int .i64 0, .int .i64 0, .int .i64 (-1)] 3)).alloc (.cells #[slV (some ⟨w1.heap.size, 0, none⟩, 5, 5), slV (some ⟨w1.heap.size + 1, 0, none⟩, 1, 1), slV (some ⟨w1.heap.size + 1 + 1, 0, none⟩, 1, 1), slV (some ⟨w1.heap.size + 1 + 1 + 1, 0, none⟩, 3, 3)] 22)) (cells4 fun _ => slZ) 25
      simp only [World.size_alloc] at this
      exact this
    · rcases four m0 with rfl | rfl | rfl | rfl
      · exact ⟨_, [1, 1, 1, 1, 1], hb.cell 0, ((((((Own.lit w1 _ (Nat.le_refl _) [1, 1, 1, 1, 1] (by simp)).le (Le.alloc _ _)).le (Le.alloc _ _)).le (Le.alloc _ _)).le (Le.alloc _ _)).le (Le.alloc _ _)), by simp [rowMay3, argB], by simp⟩
      · refine ⟨_, [-(1 + d)], hb.cell 1, ?_, by simp [rowMay3, argB]; omega, by simp⟩
        have := (((((Own.lit (w1.alloc (.cells #[.int .i64 1, .int .i64 1, .int .i64 1, .int .i64 1, .int .i64 1] 3)) w1.heap.size (by simp) [-(1 + d)] (by simp)).le (Le.alloc _ (.cells #[.int .i64 (255 + (1 + d))] 3))).le (Le.alloc _ (.cells #[.int .i64 0, .int .i64 0, .int .i64 (-1)] 3))).le (Le.alloc _ (.cells #[slV (some ⟨w1.heap.size, 0, none⟩, 5, 5), slV (some ⟨w1.heap.size + 1, 0, none⟩, 1, 1), slV (some ⟨w1.heap.size + 1 + 1, 0, none⟩, 1, 1), slV (some ⟨w1.heap.size + 1 + 1 + 1, 0, none⟩, 3, 3)] 22))).le (Le.alloc _ (.cells (cells4 fun _ => slZ) 25)))
        simp only [World.size_alloc] at this
        exact this
      · refine ⟨_, [255 + (1 + d)], hb.cell 2, ?_, by simp [rowMay3, argB]; omega, by simp⟩
        have := ((((Own.lit ((w1.alloc (.cells #[.int .i64 1, .int .i64 1, .int .i64 1, .int .i64 1, .int .i64 1] 3)).alloc (.cells #[.int .i64 (-(1 + d))] 3)) w1.heap.size (by simp; omega) [255 + (1 + d)] (by simp)).le (Le.alloc _ (.cells #[.int .i64 0, .int .i64 0, .int .i64 (-1)] 3))).le (Le.alloc _ (.cells #[slV (some ⟨w1.heap.size, 0, none⟩, 5, 5), slV (some ⟨w1.heap.size + 1, 0, none⟩, 1, 1), slV (some ⟨w1.heap.size + 1 + 1, 0, none⟩, 1, 1), slV (some ⟨w1.heap.size + 1 + 1 + 1, 0, none⟩, 3, 3)] 22))).le (Le.alloc _ (.cells (cells4 fun _ => slZ) 25)))
        simp only [World.size_alloc] at this
        exact this
      · refine ⟨_, [0, 0, -1], hb.cell 3, ?_, by simp [rowMay3, argB], by simp⟩
        have := (((Own.lit (((w1.alloc (.cells #[.int .i64 1, .int .i64 1, .int .i64 1, .int .i64 1, .int .i64 1] 3)).alloc (.cells #[.int .i64 (-(1 + d))] 3)).alloc (.cells #[.int .i64 (255 + (1 + d))] 3)) w1.heap.size (by simp; omega) [0, 0, -1] (by simp)).le (Le.alloc _ (.cells #[slV (some ⟨w1.heap.size, 0, none⟩, 5, 5), slV (some ⟨w1.heap.size + 1, 0, none⟩, 1, 1), slV (some ⟨w1.heap.size + 1 + 1, 0, none⟩, 1, 1), slV (some ⟨w1.heap.size + 1 + 1 + 1, 0, none⟩, 3, 3)] 22))).le (Le.alloc _ (.cells (cells4 fun _ => slZ) 25)))
        simp only [World.size_alloc] at this
        exact this
  generalize hV : (((((w1.alloc (.cells #[.int .i64 1, .int .i64 1, .int .i64 1, .int .i64 1, .int .i64 1] 3)).alloc (.cells #[.int .i64 (-(1 + d))] 3)).alloc (.cells #[.int .i64 (255 + (1 + d))] 3)).alloc (.cells #[.int .i64 0, .int .i64 0, .int .i64 (-1)] 3)).alloc (.cells #[slV (some ⟨w1.heap.size, 0, none⟩, 5, 5), slV (some ⟨w1.heap.size + 1, 0, none⟩, 1, 1), slV (some ⟨w1.heap.size + 1 + 1, 0, none⟩, 1, 1), slV (some ⟨w1.heap.size + 1 + 1 + 1, 0, none⟩, 3, 3)] 22)).alloc (.cells (cells4 fun _ => slZ) 25) = V at ⊢
  obtain ⟨l2, hb, q, bd, hc, hq, hbad, hlen⟩ := bad V hV.symm
  clear bad hV
  have h0 := (hb.cell k).trans (cells4_at _ k0)
  have hz := hb.frozen k
  go_upto_region 7 with fail
  replace hq := hq.setBox (i := k) (u := slV q) hb (by decide)
  replace hb := hb.set k (slV q)
  rw [cells4_upd _ k0] at hb
  replace l1 : Le w (V.setCell ⟨w1.heap.size + 1 + 1 + 1 + 1 + 1, k, none⟩ (slV q)) := Below.setCell (l1.trans l2) (by have := l1.size; show w.heap.size ≤ w1.heap.size + 1 + 1 + 1 + 1 + 1; omega) _
  generalize hV : V.setCell ⟨w1.heap.size + 1 + 1 + 1 + 1 + 1, k, none⟩ (slV q) = W at hq hb l1 ⊢
  have hS : HasS W (stV (upd (fun _ => slZ) k q)) (St.zero.put k bd) := by
    refine ⟨_, rfl, fun i hi => ?_⟩
    rw [St.at_put k0 hi]
    by_cases e : i = k
    · rw [if_pos e, show upd (fun _ => slZ) k q i = q by simp [upd, e]]; exact hq.has
    · rw [if_neg e, show upd (fun _ => slZ) k q i = slZ by simp [upd, e], St.at_zero]; exact Has.nil _
  have hF : Fit (St.zero.put k bd) := fun i hi => by rw [St.at_put k0 hi, St.at_zero]; split <;> first | omega | simp
  have e1 : queS (St.zero.put k bd) 0 0 0 500 = (St.zero, 0, 500) := queS_no (by rw [St.all_not (k := k) k0 (by rw [St.put_at k0]; exact hbad)]; rfl)
  have e2 : queS St.zero 0 0 (255 + (1 + d)) 500 = (St.zero, 0, 500) := queS_no (by simp [opMay]; omega)
  generalize upd (fun _ => slZ) k q = us at hb hS
  clear hV hq hc h0 hz l2 hbad hlen
  obtain ⟨y0, y1, y2, y3, _, _, _, _⟩ := hb.st
  go_wp2_with fail
  refine (queApply _ (St.zero.put k bd) 0 0 0 _ hS hF).mono ?_
  rw [e1]
  rintro e w2 ⟨_, rfl, ⟨q2, rfl, o2⟩, l2⟩
  have hb2 := Box.new w2 (cells4 q2) 25
  replace l2 := l2.trans (Le.alloc w2 (.cells (cells4 q2) 25))
  replace o2 := fun i hi => (o2 i hi).le (Le.alloc w2 (.cells (cells4 q2) 25))
  replace l1 := l1.trans l2
  clear l2 y0 y1 y2 y3 hb hS hF
  go_wp2_with fail
  refine (queApply _ St.zero 0 0 (255 + (1 + d)) _ (HasS.zero _) fit_zero).mono ?_
  rw [e2]
  rintro e w3 ⟨_, rfl, ⟨q3, rfl, o3⟩, l3⟩
  have hb3 := Box.new w3 (cells4 q3) 25
  replace l3 := l3.trans (Le.alloc w3 (.cells (cells4 q3) 25))
  replace o3 := fun i hi => (o3 i hi).le (Le.alloc w3 (.cells (cells4 q3) 25))
  replace o2 := fun i hi => (o2 i hi).le l3
  replace hb2 := hb2.le l3
  replace l1 := l1.trans l3
  clear l3
  obtain ⟨y0, y1, y2, y3, _, _, _, _⟩ := hb2.st
  go_wp2_with fail
  refine (lawSameState (stV q2) stZ St.zero St.zero _ (OwnS.has ⟨q2, rfl, o2⟩) (HasS.zero _) fit_zero).mono ?_
  rw [show decide (St.zero = St.zero) = true by decide]
  rintro e w4 ⟨rfl, l4⟩
  obtain ⟨x0, x1, x2, x3, _, _, _, _⟩ := (hb3.le l4).st
  go_wp2_with (go_at_call 12; refine (lawNum _ _).mono ?_; rintro e _ ⟨rfl, rfl⟩)
  refine (lawSameState (stV q3) stZ St.zero St.zero _ (OwnS.has ⟨q3, rfl, fun i hi => (o3 i hi).le l4⟩) (HasS.zero _) fit_zero).mono ?_
  rw [show decide (St.zero = St.zero) = true by decide]
  rintro e w5 ⟨rfl, l5⟩
  go_wp2_with (go_at_call 12; refine (lawNum _ _).mono ?_; rintro e _ ⟨rfl, rfl⟩)
  go_ret
  exact ⟨rfl, (l1.trans l4).trans l5⟩

end Go.Proofs.Ythgligelghhjaaa
