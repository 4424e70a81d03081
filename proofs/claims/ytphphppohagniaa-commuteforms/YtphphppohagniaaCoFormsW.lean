/-
  THE WALK over choruslaw8.CommuteForms: it answers true, for every two numbers, and turns nothing that was there.
-/
import Derived.Test.YtphphppohagniaaComAwake
import Derived.Test.YtphphppohagniaaBits
import Derived.Test.YtphphppohagniaaStPut2
namespace Go.Proofs.Ytphphppohagniaa
open Go.RowKit

theorem five (a : Int) : (IntKind.u64.wrap a).tmod 5 = 0 ∨ (IntKind.u64.wrap a).tmod 5 = 1 ∨ (IntKind.u64.wrap a).tmod 5 = 2 ∨ (IntKind.u64.wrap a).tmod 5 = 3 ∨ (IntKind.u64.wrap a).tmod 5 = 4 := by
  have h : 0 ≤ IntKind.u64.wrap a := by simp [IntKind.wrap, IntKind.bits, IntKind.signed]; omega
  rw [Int.tmod_eq_emod_of_nonneg h]
  omega

theorem comBothNo (o : Int) (v : Value) (s : St) (c r a c' r' a' : Int) (w : World) (hx : HasS w v s) (hf : Fit s) (h : objMay o s = false ∨ opMay c r a = false ∨ opMay c' r' a' = false) :
    Calls Try.prog 9 #[.int .i64 o, v, opV c r a, opV c' r' a'] w fun e w' => e = .returned (.tuple #[.bool false, .int .i64 800]) ∧ Le w w' := by
  have := comBoth o v s c r a c' r' a' w hx hf
  rwa [bothS_no (by unfold bothMay; rcases h with h | h | h <;> simp [h])] at this

set_option maxRecDepth 4000 in
set_option maxHeartbeats 4000000 in
theorem lawForms8 (w : World) (a0 a1 : Int) : Calls Try.prog 6 #[.int .i64 a0, .int .i64 a1] w fun e w' => e = .returned (.bool true) ∧ Le w w' := by
  obtain ⟨d, hd, d0, d1⟩ : ∃ m, bits .and .i64 a1 1023 = m ∧ 0 ≤ m ∧ m ≤ 1023 := ⟨_, and1023 a1, by omega, by omega⟩
  obtain ⟨k, hk, k0⟩ : ∃ k : Nat, bits .and .i64 (a0 / 8) 3 = (k : Int) ∧ k < 4 := ⟨((a0 / 8) % 4).toNat, by rw [and3]; omega, by omega⟩
  rcases five a0 with h | h | h | h | h
  all_goals
    go_enter Try.func6, Try.ntmps6
    go_upto_region 3 with (go_at_call 13; refine (lawAwake8 _).mono ?_; rintro e w1 ⟨rfl, l1⟩)
    go_upto_region 6 with fail
    obtain ⟨W, hW, hn, l2, hb1, hb2, hb3⟩ := lay3 w1 (fun _ => slZ) 0 0 0 0 0 0
    rw [hW]
    have hs := l1.size
    replace l1 := l1.trans l2
    clear hW hn l2
    obtain ⟨y0, y1, y2, y3, f0, f1, f2, f3⟩ := hb1.st
    obtain ⟨x0, x1, x2, e0, e1, e2⟩ := hb2.op
    obtain ⟨z0, z1, z2, g0, g1, g2⟩ := hb3.op
  · go_wp2_with fail
    refine (comBothNo _ stZ St.zero 0 0 0 0 0 0 _ (HasS.zero _) fit_zero (.inl (objMay_out (.inr (by omega)) _))).mono ?_
    rintro e w2 ⟨rfl, l2⟩
    replace l1 := l1.trans l2
    clear y0 y1 y2 y3 x0 x1 x2 z0 z1 z2 l2 hb1 hb2 hb3
    go_wp2_with (go_at_call 11; refine (lawNum _ _).mono ?_; rintro e _ ⟨rfl, rfl⟩)
    go_ret
    exact ⟨rfl, l1⟩
  · go_wp2_with fail
    refine (comBothNo _ stZ St.zero 0 0 0 0 0 0 _ (HasS.zero _) fit_zero (.inl (objMay_out (.inl (by omega)) _))).mono ?_
    rintro e w2 ⟨rfl, l2⟩
    replace l1 := l1.trans l2
    clear y0 y1 y2 y3 x0 x1 x2 z0 z1 z2 l2 hb1 hb2 hb3
    go_wp2_with (go_at_call 11; refine (lawNum _ _).mono ?_; rintro e _ ⟨rfl, rfl⟩)
    go_ret
    exact ⟨rfl, l1⟩
  · have hA := Le.alloc W (.cells #[.int .i64 (-(1 + d))] 3)
    have hnew : Own (W.alloc (.cells #[.int .i64 (-(1 + d))] 3)) w.heap.size (slV (some ⟨W.heap.size, 0, none⟩, 1, 1)) [-(1 + d)] := Own.lit W _ l1.size [-(1 + d)] (by simp)
    replace l1 := l1.trans hA
    replace hb1 := hb1.le hA
    replace hb2 := hb2.le hA
    replace hb3 := hb3.le hA
    clear y0 y1 y2 y3 f0 f1 f2 f3 x0 x1 x2 e0 e1 e2 z0 z1 z2 g0 g1 g2 hA
    have c3 := (hb1.cell k).trans (cells4_at _ k0)
    have f3 := hb1.frozen k
    have k1 : (0 : Int) ≤ (k : Int) := by omega
    have k2 : (k : Int) < 4 := by omega
    go_upto_region 16 with fail
    replace hnew := hnew.setBox (i := k) (u := slV (some ⟨W.heap.size, 0, none⟩, 1, 1)) hb1 (by decide)
    replace l1 : Le w ((W.alloc (.cells #[.int .i64 (-(1 + d))] 3)).setCell ⟨w1.heap.size, k, none⟩ (slV (some ⟨W.heap.size, 0, none⟩, 1, 1))) := Below.setCell l1 hs _
    replace hb2 := hb2.other (g' := w1.heap.size) (by omega) k (slV (some ⟨W.heap.size, 0, none⟩, 1, 1))
    replace hb3 := hb3.other (g' := w1.heap.size) (by omega) k (slV (some ⟨W.heap.size, 0, none⟩, 1, 1))
    replace hb1 := hb1.upd4 k0 (some ⟨W.heap.size, 0, none⟩, 1, 1)
    generalize hV : (W.alloc (.cells #[.int .i64 (-(1 + d))] 3)).setCell ⟨w1.heap.size, k, none⟩ (slV (some ⟨W.heap.size, 0, none⟩, 1, 1)) = V at hnew l1 hb1 hb2 hb3 ⊢
    have hS : HasS V (stV (upd (fun _ => slZ) k (some ⟨W.heap.size, 0, none⟩, 1, 1))) (St.zero.put k [-(1 + d)]) := by
      refine ⟨_, rfl, fun i hi => ?_⟩
      rw [St.at_put k0 hi]
      by_cases e : i = k
      · rw [if_pos e, show upd (fun _ => slZ) k (some ⟨W.heap.size, 0, none⟩, 1, 1) i = (some ⟨W.heap.size, 0, none⟩, 1, 1) by simp [upd, e]]; exact hnew.has
      · rw [if_neg e, show upd (fun _ => slZ) k (some ⟨W.heap.size, 0, none⟩, 1, 1) i = slZ by simp [upd, e], St.at_zero]; exact Has.nil _
    have hF : Fit (St.zero.put k [-(1 + d)]) := fun i hi => by rw [St.at_put k0 hi, St.at_zero]; split <;> simp
    have hbad : objMay 2 (St.zero.put k [-(1 + d)]) = false := by
      rw [objMay2]
      exact St.all_not (k := k) k0 (by rw [St.put_at k0]; simp [rowMay3, argB]; omega)
    generalize upd (fun _ => slZ) k (some ⟨W.heap.size, 0, none⟩, 1, 1) = us at hb1 hS
    clear hV hnew c3 f3
    obtain ⟨y0, y1, y2, y3, _, _, _, _⟩ := hb1.st
    obtain ⟨x0, x1, x2, _, _, _⟩ := hb2.op
    obtain ⟨z0, z1, z2, _, _, _⟩ := hb3.op
    go_wp2_with fail
    refine (comBothNo 2 _ _ 0 0 0 0 0 0 _ hS hF (.inl hbad)).mono ?_
    rintro e w2 ⟨rfl, l2⟩
    replace l1 := l1.trans l2
    clear y0 y1 y2 y3 x0 x1 x2 z0 z1 z2 l2 hb1 hb2 hb3
    go_wp2_with (go_at_call 11; refine (lawNum _ _).mono ?_; rintro e _ ⟨rfl, rfl⟩)
    go_ret
    exact ⟨rfl, l1⟩
  · go_wp2_with fail
    refine (comBothNo _ stZ St.zero _ 0 0 0 0 0 _ (HasS.zero _) fit_zero (.inr (.inl ?_))).mono ?_
    · simp [opMay]; omega
    rintro e w2 ⟨rfl, l2⟩
    replace l1 : Le w _ := Below.setCell (p := ⟨w1.heap.size + 1, 0, none⟩) l1 (by show w.heap.size ≤ w1.heap.size + 1; omega) (.int .i64 (3 + (1 + d)))
    replace l1 := l1.trans l2
    clear y0 y1 y2 y3 x0 x1 x2 z0 z1 z2 l2 hb1 hb2 hb3
    go_wp2_with (go_at_call 11; refine (lawNum _ _).mono ?_; rintro e _ ⟨rfl, rfl⟩)
    go_ret
    exact ⟨rfl, l1⟩
  · go_wp2_with fail
    refine (comBothNo _ stZ St.zero 0 0 0 0 _ 0 _ (HasS.zero _) fit_zero (.inr (.inr ?_))).mono ?_
    · simp [opMay]; omega
    rintro e w2 ⟨rfl, l2⟩
    replace l1 : Le w _ := Below.setCell (p := ⟨w1.heap.size + 1 + 1, 1, none⟩) l1 (by show w.heap.size ≤ w1.heap.size + 1 + 1; omega) (.int .i64 (-(1 + d)))
    replace l1 := l1.trans l2
    clear y0 y1 y2 y3 x0 x1 x2 z0 z1 z2 l2 hb1 hb2 hb3
    go_wp2_with (go_at_call 11; refine (lawNum _ _).mono ?_; rintro e _ ⟨rfl, rfl⟩)
    go_ret
    exact ⟨rfl, l1⟩

end Go.Proofs.Ytphphppohagniaa
