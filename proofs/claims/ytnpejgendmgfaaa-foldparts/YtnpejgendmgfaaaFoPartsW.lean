/-
  THE WALK over choruslaw12.FoldParts: it answers true, for every object, state, operations and cut, and turns nothing that was there. Condition: the state's rows and the operations can be copied.
-/
import Derived.Test.YtnpejgendmgfaaaCutO
import Derived.Test.YtnpejgendmgfaaaSlc
import Derived.Test.YtnpejgendmgfaaaHasBox
import Derived.Deep.RegionHeld3
namespace Go.Proofs.Ytnpejgendmgfaaa
open Go.RowKit

theorem cut_at (cut : Int) (L : Nat) (hL : L ≤ 5864062014635) : ∃ k : Nat, wrap64 ((IntKind.u64.wrap cut).tmod ((L : Int) + 1)) = (k : Int) ∧ k ≤ L := by
  have h : 0 ≤ IntKind.u64.wrap cut := by simp only [IntKind.wrap_u64]; omega
  rw [Int.tmod_eq_emod_of_nonneg h]
  have h1 := Int.emod_nonneg (IntKind.u64.wrap cut) (show ((L : Int) + 1) ≠ 0 by omega)
  have h2 := Int.emod_lt_of_pos (IntKind.u64.wrap cut) (show 0 < ((L : Int) + 1) by omega)
  refine ⟨(IntKind.u64.wrap cut % ((L : Int) + 1)).toNat, ?_, by omega⟩
  unfold wrap64
  omega

/-- The two ways that it goes. -/
theorem parts_cases (o : Int) (s : St) (ps : List Opr) (k : Nat) : ∃ a1 xs e1 b1 ys f c1 zs g, foldS o s ps 1200 = (a1, xs, e1) ∧ foldS o s (ps.take k) 1200 = (b1, ys, f) ∧ foldS o b1 (ps.drop k) 1200 = (c1, zs, g) ∧
    Hid ((e1 = 1200 ∧ a1 = St.zero ∧ xs = [] ∧ (f = 1200 ∨ (f = 0 ∧ g = 1200))) ∨ (e1 = 0 ∧ f = 0 ∧ g = 0 ∧ a1 = c1 ∧ xs = ys ++ zs)) := by
  have hps : ps.take k ++ ps.drop k = ps := List.take_append_drop k ps
  cases h1 : foldMay o s (ps.take k)
  · have h0 : foldMay o s ps = false := by
      rw [← hps]
      simp only [foldMay, opsMay_append] at h1 ⊢
      cases hm : objMay o s
      · rfl
      · rw [hm, Bool.true_and] at h1; rw [h1]; rfl
    exact ⟨_, _, _, _, _, _, _, _, _, foldS_no 1200 h0, foldS_no 1200 h1, rfl, .inl ⟨rfl, rfl, rfl, .inl rfl⟩⟩
  · have hm : objMay o s = true := (Bool.and_eq_true_iff.mp h1).1
    have hk : opsMay (ps.take k) = true := (Bool.and_eq_true_iff.mp h1).2
    have hm2 := foldSt_may hm hk
    cases h2 : opsMay (ps.drop k)
    · have h0 : foldMay o s ps = false := by rw [← hps, foldMay, opsMay_append, h2, Bool.and_false, Bool.and_false]
      exact ⟨_, _, _, _, _, _, _, _, _, foldS_no 1200 h0, foldS_yes 1200 h1, foldS_no 1200 (by simp [foldMay, h2]), .inl ⟨rfl, rfl, rfl, .inr ⟨rfl, rfl⟩⟩⟩
    · have h0 : foldMay o s ps = true := by rw [← hps, foldMay, opsMay_append, hm, hk, h2]; rfl
      refine ⟨_, _, _, _, _, _, _, _, _, foldS_yes 1200 h0, foldS_yes 1200 h1, foldS_yes 1200 (by simp [foldMay, hm2, h2]), .inr ⟨rfl, rfl, rfl, ?_, ?_⟩⟩
      · rw [← foldSt_append, hps]
      · rw [← foldAn_append, hps]

set_option maxRecDepth 4000 in
set_option maxHeartbeats 4000000 in
theorem lawFoldParts (w : World) (o : Int) (v : Value) (s : St) (hx : HasS w v s) (hf : Fit s) (u : Value) (ps : List Opr) (ho : HasO w u ps) (hn : ps.length * 24 ≤ 140737488351232) (cut : Int) :
    Calls Try.prog 5 #[.int .i64 o, v, u, .int .i64 cut] w fun e w' => e = .returned (.bool true) ∧ Le w w' := by
  obtain ⟨vs, rfl, hr⟩ := hx
  have hl := Le.alloc w (.cells (cells4 vs) 25)
  have hb1 := Box.new w (cells4 vs) 25
  have hx : HasS _ (stV vs) s := HasS.le ⟨vs, rfl, hr⟩ hl
  clear hr
  obtain ⟨k, hkk, hk⟩ := cut_at cut ps.length (by omega)
  obtain ⟨a1, xs, e1, c1, ys, f, d1, zs, g, hS1, hS2, hS3, HC⟩ := parts_cases o s ps k
  have hfa := foldS_fit hf hS1
  have hfb := foldS_fit hf hS2
  have hlx := foldS_lens hS1
  have hly := foldS_lens hS2
  have hlz := foldS_lens hS3
  rw [List.length_take] at hly
  rw [List.length_drop] at hlz
  have HYZ : Hid (ys.length + zs.length ≤ ps.length ∧ xs.length ≤ ps.length ∧ ps.length * 24 ≤ 140737488351232) := ⟨by omega, hlx, hn⟩
  have hnq1 : (ps.take k).length * 24 ≤ 140737488351232 := by rw [List.length_take]; omega
  have hnq2 : (ps.drop k).length * 24 ≤ 140737488351232 := by rw [List.length_drop]; omega
  obtain ⟨a, cap, rfl⟩ := ho.shape
  obtain ⟨u1, u2, hsl1, hsl2, hq1, hq2⟩ := ho.cut hk
  have hsa1 : ∀ w', (Instr.sliceAt 26 (.slice a ps.length cap) none (some (.int .i64 (k : Int))) none).run Try.prog w' = .ok (slV u1) w' := fun w' => by rw [run_sliceAt_slice _ _ _ _ _ _ under_ops]; exact hsl1 w'
  have hsa2 : ∀ w', (Instr.sliceAt 26 (.slice a ps.length cap) (some (.int .i64 (k : Int))) none none).run Try.prog w' = .ok (slV u2) w' := fun w' => by rw [run_sliceAt_slice _ _ _ _ _ _ under_ops]; exact hsl2 w'
  replace ho := ho.le hl
  replace hq1 := hq1.le hl
  replace hq2 := hq2.le hl
  obtain ⟨L, hL⟩ : ∃ L, L = ps.length := ⟨_, rfl⟩
  rw [← hL] at ho hn hkk hsl1 hsl2 hsa1 hsa2 ⊢
  clear hL hlx hly hlz hk
  go_enter Try.func5, Try.ntmps5
  go_wp2_with fail
  refine (lawAwake12 _).mono ?_
  rintro e w0 ⟨rfl, l0⟩
  replace hl := hl.trans l0
  replace hb1 := hb1.le l0
  replace hx := hx.le l0
  replace ho := ho.le l0
  replace hq1 := hq1.le l0
  replace hq2 := hq2.le l0
  clear l0
  have hn0 : ps.length * 24 ≤ 140737488351232 := HYZ.out.2.2
  have hF1 := foldAs (o := o) hx hf ho hn0 hS1
  clear hn0
  obtain ⟨x0, x1, x2, x3, _, _, _, _⟩ := hb1.st
  go_upto_region 4 with fail
  rw [hkk]
  clear hkk
  go_wp2_with fail
  refine hF1.mono ?_
  rintro e w1 ⟨q1, z1, rfl, h1, i1, l1⟩
  have hA := Le.alloc w1 (.cells (cells4 q1) 25)
  have b1 := Box.new w1 (cells4 q1) 25
  replace l1 := l1.trans hA
  replace h1 := h1.le hA
  replace i1 := i1.has.le hA
  replace hl := hl.trans l1
  replace hb1 := hb1.le l1
  replace hx := hx.le l1
  replace ho := ho.le l1
  replace hq1 := hq1.le l1
  replace hq2 := hq2.le l1
  clear hA l1 x0 x1 x2 x3 hF1 hn
  go_upto_region 5 with fail
  generalize hW : w1.alloc (.cells (cells4 q1) 25) = W1 at hl hb1 hx ho hq1 hq2 b1 h1 i1 ⊢
  generalize w1.heap.size = g1 at b1 ⊢
  clear hW
  have hW1 := hl.size
  have hF2 := fun w' (h : Le W1 w') => foldAsO (o := o) (hx.le h) hf (hq1.le h) hnq1 hS2
  obtain ⟨x0, x1, x2, x3, _, _, _, _⟩ := hb1.st
  have n4 : ¬ W1.heap.size = w.heap.size := by have := hb1.lt; omega
  have hapA := hF2 W1.drew (Le.drew _)
  have hapB := hF2 (W1.alloc (.cells (cells4 fun _ => slZ) 25)).drew ((Le.alloc _ _).trans (Le.drew _))
  go_region_held3 (fun w' => w'.cell? ⟨w.heap.size, 0, none⟩ = some (slV (vs 0)) ∧ w'.cell? ⟨w.heap.size, 1, none⟩ = some (slV (vs 1)) ∧ w'.cell? ⟨w.heap.size, 2, none⟩ = some (slV (vs 2)) ∧ w'.cell? ⟨w.heap.size, 3, none⟩ = some (slV (vs 3))) (go_keep) (first
    | (go_at_call 11; refine hapA.mono ?_; rintro e w2 ⟨q2, z2, rfl, h2, y2, l2⟩; replace y2 := y2.base (base' := W1.heap.size) (Le.drew _).size; replace h2 := h2.base (base' := W1.heap.size) (Le.drew _).size; have m2 := (Le.drew W1).trans l2; obtain ⟨p0, p1, p2, p3, _, _, _, _⟩ := (hb1.le m2).st; have n2 : ¬ w2.heap.size = w.heap.size := (by have := m2.size; have := hb1.lt; omega))
    | (go_at_call 11; refine hapB.mono ?_; rintro e w2 ⟨q2, z2, rfl, h2, y2, l2⟩; replace y2 := y2.base (base' := W1.heap.size) ((Le.alloc _ _).trans (Le.drew _)).size; replace h2 := h2.base (base' := W1.heap.size) ((Le.alloc _ _).trans (Le.drew _)).size; have m2 := ((Le.alloc W1 (.cells (cells4 fun _ => slZ) 25)).trans (Le.drew _)).trans l2; obtain ⟨p0, p1, p2, p3, _, _, _, _⟩ := (hb1.le m2).st; have hbz : Box w2 W1.heap.size (cells4 fun _ => slZ) 25 := ((Box.new W1 (cells4 fun _ => slZ) 25).le (Le.drew _)).le l2; obtain ⟨v0, v1, v2, v3, t0, t1, t2, t3⟩ := hbz.st))
  all_goals clear hapA hapB x0 x1 x2 x3
  · have hA := Le.alloc w2 (.cells (cells4 q2) 25)
    have b2 := Box.new w2 (cells4 q2) 25
    replace h2 := h2.le hA
    replace y2 := y2.le hA
    replace m2 := m2.trans hA
    clear hA l2 p0 p1 p2 p3 n2 n4
    replace hb1 := hb1.le m2
    replace hx := hx.le m2
    replace ho := ho.le m2
    replace hq1 := hq1.le m2
    replace hq2 := hq2.le m2
    replace b1 := b1.le m2
    replace hl := hl.trans m2
    generalize hW : w2.alloc (.cells (cells4 q2) 25) = W2 at hl hb1 hx ho hq1 hq2 b1 m2 b2 h2 y2 ⊢
    clear hW
    generalize w2.heap.size = g2 at b2 ⊢
    clear hF2
    have hy2 := fun gz (e : (slV z2).ownBlock = some gz) => (y2.block (g := gz) e).2
    have hF3 := fun w' (h : Le W2 w') => foldAsO (o := o) (h2.has.le h) hfb (hq2.le h) hnq2 hS3
    go_upto_region 6 with fail
    obtain ⟨x0, x1, x2, x3, _, _, _, _⟩ := b2.st
    have n4 : ¬ W2.heap.size = g2 := by have := b2.lt; omega
    have hapA := hF3 W2.drew (Le.drew _)
    have hapB := hF3 (W2.alloc (.cells (cells4 fun _ => slZ) 25)).drew ((Le.alloc _ _).trans (Le.drew _))
    go_region_held3 (fun w' => w'.cell? ⟨g2, 0, none⟩ = some (slV (q2 0)) ∧ w'.cell? ⟨g2, 1, none⟩ = some (slV (q2 1)) ∧ w'.cell? ⟨g2, 2, none⟩ = some (slV (q2 2)) ∧ w'.cell? ⟨g2, 3, none⟩ = some (slV (q2 3))) (go_keep) (first
      | (go_at_call 11; refine hapA.mono ?_; rintro e w3 ⟨q3, z3, rfl, h3, y3, l3⟩; replace y3 := y3.base (base' := W2.heap.size) (Le.drew _).size; replace h3 := h3.base (base' := W2.heap.size) (Le.drew _).size; have m3 := (Le.drew W2).trans l3; obtain ⟨p0, p1, p2, p3, _, _, _, _⟩ := (b2.le m3).st; have n2 : ¬ w3.heap.size = g2 := (by have := m3.size; have := b2.lt; omega))
      | (go_at_call 11; refine hapB.mono ?_; rintro e w3 ⟨q3, z3, rfl, h3, y3, l3⟩; replace y3 := y3.base (base' := W2.heap.size) ((Le.alloc _ _).trans (Le.drew _)).size; replace h3 := h3.base (base' := W2.heap.size) ((Le.alloc _ _).trans (Le.drew _)).size; have m3 := ((Le.alloc W2 (.cells (cells4 fun _ => slZ) 25)).trans (Le.drew _)).trans l3; obtain ⟨p0, p1, p2, p3, _, _, _, _⟩ := (b2.le m3).st; have hbz : Box w3 W2.heap.size (cells4 fun _ => slZ) 25 := ((Box.new W2 (cells4 fun _ => slZ) 25).le (Le.drew _)).le l3; obtain ⟨v0, v1, v2, v3, t0, t1, t2, t3⟩ := hbz.st))
    all_goals clear hapA hapB x0 x1 x2 x3
    · have hA := Le.alloc w3 (.cells (cells4 q3) 25)
      have b3 := Box.new w3 (cells4 q3) 25
      replace h3 := h3.le hA
      replace y3 := y3.le hA
      replace m3 := m3.trans hA
      clear hA l3 p0 p1 p2 p3 n2 n4
      replace b1 := b1.le m3
      replace b2 := b2.le m3
      replace y2 := y2.le m3
      replace hl := hl.trans m3
      replace m2 := m2.trans m3
      generalize hW : w3.alloc (.cells (cells4 q3) 25) = W3 at hl m2 b1 b2 y2 m3 b3 h3 y3 ⊢
      clear hW
      generalize w3.heap.size = g3 at b3 ⊢
      clear hF3 hnq2 hnq1 hS1 hS2 hS3 hfb
      rcases HC with ⟨rfl, rfl, rfl, HF⟩ | ⟨rfl, rfl, rfl, rfl, rfl⟩
      · obtain ⟨az, cz, hz⟩ := i1.shape
        rw [hz]
        clear HYZ
        obtain ⟨x0, x1, x2, x3, _, _, _, _⟩ := b1.st
        go_wp2_with (go_at_call 15; refine (lawNum _ _).mono ?_; rintro e _ ⟨rfl, rfl⟩)
        refine (lawSameState (stV q1) stZ St.zero St.zero _ (h1.le m2) (HasS.zero _) fit_zero).mono ?_
        rw [show decide (St.zero = St.zero) = true by simp]
        rintro e w4 ⟨rfl, l4⟩
        replace hl := hl.trans l4
        clear l4
        rcases HF with rfl | ⟨rfl, rfl⟩
        · go_wp2_with (go_at_call 15; refine (lawNum _ _).mono ?_; rintro e _ ⟨rfl, rfl⟩)
          go_ret
          exact ⟨rfl, hl⟩
        · go_wp2_with (go_at_call 15; refine (lawNum _ _).mono ?_; rintro e _ ⟨rfl, rfl⟩)
          go_ret
          exact ⟨rfl, hl⟩
      · go_upto_region 9 with (go_at_call 15; refine (lawNum _ _).mono ?_; rintro e _ ⟨rfl, rfl⟩)
        go_wp2_with (first | (at_builtin; refine wp_append_ints rfl _ _ rfl W1.heap.size _ _ ys zs rfl rfl y2 y3.has (by have := HYZ.out; omega) m2.size ?_; intro v4 w4 o4 g4; have hrow := (fun gz e => (y2.block (g := gz) e).1); have l4 : Le W1 w4 := Below.grown m2 g4 m2.size hrow; have hl4 : Le w w4 := Below.grown hl g4 hl.size (fun gz e => Nat.le_trans hW1 (hrow gz e)); have b14 := b1.grown g4 (fun e => y2.apart b1 (by decide) e); have b34 := b3.grown g4 (fun e => y2.apart b3 (by decide) e); obtain ⟨x0, x1, x2, x3, _, _, _, _⟩ := b14.st; obtain ⟨c0, c1, c2, c3, _, _, _, _⟩ := b34.st; obtain ⟨z4, rfl⟩ := o4.has.sl) | (go_at_call 15; refine (lawNum _ _).mono ?_; rintro e _ ⟨rfl, rfl⟩))
        refine (lawSameState (stV q1) (stV q3) a1 a1 _ (h1.le l4) (h3.grown g4 hy2).has hfa).mono ?_
        rw [show decide (a1 = a1) = true by simp]
        rintro e w5 ⟨rfl, l5⟩
        go_wp2_with fail
        refine (lawSameInts (slV z1) (slV z4) (ys ++ zs) (ys ++ zs) _ ((i1.le l4).le l5) (o4.has.le l5) (by have := HYZ.out; omega)).mono ?_
        rw [show decide (ys ++ zs = ys ++ zs) = true by simp]
        rintro e _ ⟨rfl, n6, rfl⟩
        go_wp2_with fail
        go_ret
        exact ⟨rfl, (hl4.trans l5).trans (Le.drewN _ _)⟩
    · have b3 : Box ((((w3.setCell ⟨W2.heap.size, 0, none⟩ (slV (q3 0))).setCell ⟨W2.heap.size, 1, none⟩ (slV (q3 1))).setCell ⟨W2.heap.size, 2, none⟩ (slV (q3 2))).setCell ⟨W2.heap.size, 3, none⟩ (slV (q3 3))) W2.heap.size (cells4 q3) 25 := (((hbz.set 0 (slV (q3 0))).set 1 (slV (q3 1))).set 2 (slV (q3 2))).set 3 (slV (q3 3))
      replace h3 : OwnS ((((w3.setCell ⟨W2.heap.size, 0, none⟩ (slV (q3 0))).setCell ⟨W2.heap.size, 1, none⟩ (slV (q3 1))).setCell ⟨W2.heap.size, 2, none⟩ (slV (q3 2))).setCell ⟨W2.heap.size, 3, none⟩ (slV (q3 3))) _ _ _ := OwnS.put4 h3 hbz (by decide)
      replace y3 := y3.set4 hbz (by decide) (slV (q3 0)) (slV (q3 1)) (slV (q3 2)) (slV (q3 3))
      replace m3 : Le W2 ((((w3.setCell ⟨W2.heap.size, 0, none⟩ (slV (q3 0))).setCell ⟨W2.heap.size, 1, none⟩ (slV (q3 1))).setCell ⟨W2.heap.size, 2, none⟩ (slV (q3 2))).setCell ⟨W2.heap.size, 3, none⟩ (slV (q3 3))) := m3.set4 (Nat.le_refl _) _ _ _ _
      clear l3 p0 p1 p2 p3 n4 v0 v1 v2 v3 t0 t1 t2 t3 hbz
      replace b1 := b1.le m3
      replace b2 := b2.le m3
      replace y2 := y2.le m3
      replace hl := hl.trans m3
      replace m2 := m2.trans m3
      generalize hW : (((w3.setCell ⟨W2.heap.size, 0, none⟩ (slV (q3 0))).setCell ⟨W2.heap.size, 1, none⟩ (slV (q3 1))).setCell ⟨W2.heap.size, 2, none⟩ (slV (q3 2))).setCell ⟨W2.heap.size, 3, none⟩ (slV (q3 3)) = W3 at hl m2 b1 b2 y2 m3 b3 h3 y3 ⊢
      clear hW
      generalize W2.heap.size = g3 at b3 ⊢
      clear hF3 hnq2 hnq1 hS1 hS2 hS3 hfb
      rcases HC with ⟨rfl, rfl, rfl, HF⟩ | ⟨rfl, rfl, rfl, rfl, rfl⟩
      · obtain ⟨az, cz, hz⟩ := i1.shape
        rw [hz]
        clear HYZ
        obtain ⟨x0, x1, x2, x3, _, _, _, _⟩ := b1.st
        go_wp2_with (go_at_call 15; refine (lawNum _ _).mono ?_; rintro e _ ⟨rfl, rfl⟩)
        refine (lawSameState (stV q1) stZ St.zero St.zero _ (h1.le m2) (HasS.zero _) fit_zero).mono ?_
        rw [show decide (St.zero = St.zero) = true by simp]
        rintro e w4 ⟨rfl, l4⟩
        replace hl := hl.trans l4
        clear l4
        rcases HF with rfl | ⟨rfl, rfl⟩
        · go_wp2_with (go_at_call 15; refine (lawNum _ _).mono ?_; rintro e _ ⟨rfl, rfl⟩)
          go_ret
          exact ⟨rfl, hl⟩
        · go_wp2_with (go_at_call 15; refine (lawNum _ _).mono ?_; rintro e _ ⟨rfl, rfl⟩)
          go_ret
          exact ⟨rfl, hl⟩
      · go_upto_region 9 with (go_at_call 15; refine (lawNum _ _).mono ?_; rintro e _ ⟨rfl, rfl⟩)
        go_wp2_with (first | (at_builtin; refine wp_append_ints rfl _ _ rfl W1.heap.size _ _ ys zs rfl rfl y2 y3.has (by have := HYZ.out; omega) m2.size ?_; intro v4 w4 o4 g4; have hrow := (fun gz e => (y2.block (g := gz) e).1); have l4 : Le W1 w4 := Below.grown m2 g4 m2.size hrow; have hl4 : Le w w4 := Below.grown hl g4 hl.size (fun gz e => Nat.le_trans hW1 (hrow gz e)); have b14 := b1.grown g4 (fun e => y2.apart b1 (by decide) e); have b34 := b3.grown g4 (fun e => y2.apart b3 (by decide) e); obtain ⟨x0, x1, x2, x3, _, _, _, _⟩ := b14.st; obtain ⟨c0, c1, c2, c3, _, _, _, _⟩ := b34.st; obtain ⟨z4, rfl⟩ := o4.has.sl) | (go_at_call 15; refine (lawNum _ _).mono ?_; rintro e _ ⟨rfl, rfl⟩))
        refine (lawSameState (stV q1) (stV q3) a1 a1 _ (h1.le l4) (h3.grown g4 hy2).has hfa).mono ?_
        rw [show decide (a1 = a1) = true by simp]
        rintro e w5 ⟨rfl, l5⟩
        go_wp2_with fail
        refine (lawSameInts (slV z1) (slV z4) (ys ++ zs) (ys ++ zs) _ ((i1.le l4).le l5) (o4.has.le l5) (by have := HYZ.out; omega)).mono ?_
        rw [show decide (ys ++ zs = ys ++ zs) = true by simp]
        rintro e _ ⟨rfl, n6, rfl⟩
        go_wp2_with fail
        go_ret
        exact ⟨rfl, (hl4.trans l5).trans (Le.drewN _ _)⟩
  · have b2 : Box ((((w2.setCell ⟨W1.heap.size, 0, none⟩ (slV (q2 0))).setCell ⟨W1.heap.size, 1, none⟩ (slV (q2 1))).setCell ⟨W1.heap.size, 2, none⟩ (slV (q2 2))).setCell ⟨W1.heap.size, 3, none⟩ (slV (q2 3))) W1.heap.size (cells4 q2) 25 := (((hbz.set 0 (slV (q2 0))).set 1 (slV (q2 1))).set 2 (slV (q2 2))).set 3 (slV (q2 3))
    replace h2 : OwnS ((((w2.setCell ⟨W1.heap.size, 0, none⟩ (slV (q2 0))).setCell ⟨W1.heap.size, 1, none⟩ (slV (q2 1))).setCell ⟨W1.heap.size, 2, none⟩ (slV (q2 2))).setCell ⟨W1.heap.size, 3, none⟩ (slV (q2 3))) _ _ _ := OwnS.put4 h2 hbz (by decide)
    replace y2 := y2.set4 hbz (by decide) (slV (q2 0)) (slV (q2 1)) (slV (q2 2)) (slV (q2 3))
    replace m2 : Le W1 ((((w2.setCell ⟨W1.heap.size, 0, none⟩ (slV (q2 0))).setCell ⟨W1.heap.size, 1, none⟩ (slV (q2 1))).setCell ⟨W1.heap.size, 2, none⟩ (slV (q2 2))).setCell ⟨W1.heap.size, 3, none⟩ (slV (q2 3))) := m2.set4 (Nat.le_refl _) _ _ _ _
    clear l2 p0 p1 p2 p3 n4 v0 v1 v2 v3 t0 t1 t2 t3 hbz
    replace hb1 := hb1.le m2
    replace hx := hx.le m2
    replace ho := ho.le m2
    replace hq1 := hq1.le m2
    replace hq2 := hq2.le m2
    replace b1 := b1.le m2
    replace hl := hl.trans m2
    generalize hW : (((w2.setCell ⟨W1.heap.size, 0, none⟩ (slV (q2 0))).setCell ⟨W1.heap.size, 1, none⟩ (slV (q2 1))).setCell ⟨W1.heap.size, 2, none⟩ (slV (q2 2))).setCell ⟨W1.heap.size, 3, none⟩ (slV (q2 3)) = W2 at hl hb1 hx ho hq1 hq2 b1 m2 b2 h2 y2 ⊢
    clear hW
    generalize W1.heap.size = g2 at b2 ⊢
    clear hF2
    have hy2 := fun gz (e : (slV z2).ownBlock = some gz) => (y2.block (g := gz) e).2
    have hF3 := fun w' (h : Le W2 w') => foldAsO (o := o) (h2.has.le h) hfb (hq2.le h) hnq2 hS3
    go_upto_region 6 with fail
    obtain ⟨x0, x1, x2, x3, _, _, _, _⟩ := b2.st
    have n4 : ¬ W2.heap.size = g2 := by have := b2.lt; omega
    have hapA := hF3 W2.drew (Le.drew _)
    have hapB := hF3 (W2.alloc (.cells (cells4 fun _ => slZ) 25)).drew ((Le.alloc _ _).trans (Le.drew _))
    go_region_held3 (fun w' => w'.cell? ⟨g2, 0, none⟩ = some (slV (q2 0)) ∧ w'.cell? ⟨g2, 1, none⟩ = some (slV (q2 1)) ∧ w'.cell? ⟨g2, 2, none⟩ = some (slV (q2 2)) ∧ w'.cell? ⟨g2, 3, none⟩ = some (slV (q2 3))) (go_keep) (first
      | (go_at_call 11; refine hapA.mono ?_; rintro e w3 ⟨q3, z3, rfl, h3, y3, l3⟩; replace y3 := y3.base (base' := W2.heap.size) (Le.drew _).size; replace h3 := h3.base (base' := W2.heap.size) (Le.drew _).size; have m3 := (Le.drew W2).trans l3; obtain ⟨p0, p1, p2, p3, _, _, _, _⟩ := (b2.le m3).st; have n2 : ¬ w3.heap.size = g2 := (by have := m3.size; have := b2.lt; omega))
      | (go_at_call 11; refine hapB.mono ?_; rintro e w3 ⟨q3, z3, rfl, h3, y3, l3⟩; replace y3 := y3.base (base' := W2.heap.size) ((Le.alloc _ _).trans (Le.drew _)).size; replace h3 := h3.base (base' := W2.heap.size) ((Le.alloc _ _).trans (Le.drew _)).size; have m3 := ((Le.alloc W2 (.cells (cells4 fun _ => slZ) 25)).trans (Le.drew _)).trans l3; obtain ⟨p0, p1, p2, p3, _, _, _, _⟩ := (b2.le m3).st; have hbz : Box w3 W2.heap.size (cells4 fun _ => slZ) 25 := ((Box.new W2 (cells4 fun _ => slZ) 25).le (Le.drew _)).le l3; obtain ⟨v0, v1, v2, v3, t0, t1, t2, t3⟩ := hbz.st))
    all_goals clear hapA hapB x0 x1 x2 x3
    · have hA := Le.alloc w3 (.cells (cells4 q3) 25)
      have b3 := Box.new w3 (cells4 q3) 25
      replace h3 := h3.le hA
      replace y3 := y3.le hA
      replace m3 := m3.trans hA
      clear hA l3 p0 p1 p2 p3 n2 n4
      replace b1 := b1.le m3
      replace b2 := b2.le m3
      replace y2 := y2.le m3
      replace hl := hl.trans m3
      replace m2 := m2.trans m3
      generalize hW : w3.alloc (.cells (cells4 q3) 25) = W3 at hl m2 b1 b2 y2 m3 b3 h3 y3 ⊢
      clear hW
      generalize w3.heap.size = g3 at b3 ⊢
      clear hF3 hnq2 hnq1 hS1 hS2 hS3 hfb
      rcases HC with ⟨rfl, rfl, rfl, HF⟩ | ⟨rfl, rfl, rfl, rfl, rfl⟩
      · obtain ⟨az, cz, hz⟩ := i1.shape
        rw [hz]
        clear HYZ
        obtain ⟨x0, x1, x2, x3, _, _, _, _⟩ := b1.st
        go_wp2_with (go_at_call 15; refine (lawNum _ _).mono ?_; rintro e _ ⟨rfl, rfl⟩)
        refine (lawSameState (stV q1) stZ St.zero St.zero _ (h1.le m2) (HasS.zero _) fit_zero).mono ?_
        rw [show decide (St.zero = St.zero) = true by simp]
        rintro e w4 ⟨rfl, l4⟩
        replace hl := hl.trans l4
        clear l4
        rcases HF with rfl | ⟨rfl, rfl⟩
        · go_wp2_with (go_at_call 15; refine (lawNum _ _).mono ?_; rintro e _ ⟨rfl, rfl⟩)
          go_ret
          exact ⟨rfl, hl⟩
        · go_wp2_with (go_at_call 15; refine (lawNum _ _).mono ?_; rintro e _ ⟨rfl, rfl⟩)
          go_ret
          exact ⟨rfl, hl⟩
      · go_upto_region 9 with (go_at_call 15; refine (lawNum _ _).mono ?_; rintro e _ ⟨rfl, rfl⟩)
        go_wp2_with (first | (at_builtin; refine wp_append_ints rfl _ _ rfl W1.heap.size _ _ ys zs rfl rfl y2 y3.has (by have := HYZ.out; omega) m2.size ?_; intro v4 w4 o4 g4; have hrow := (fun gz e => (y2.block (g := gz) e).1); have l4 : Le W1 w4 := Below.grown m2 g4 m2.size hrow; have hl4 : Le w w4 := Below.grown hl g4 hl.size (fun gz e => Nat.le_trans hW1 (hrow gz e)); have b14 := b1.grown g4 (fun e => y2.apart b1 (by decide) e); have b34 := b3.grown g4 (fun e => y2.apart b3 (by decide) e); obtain ⟨x0, x1, x2, x3, _, _, _, _⟩ := b14.st; obtain ⟨c0, c1, c2, c3, _, _, _, _⟩ := b34.st; obtain ⟨z4, rfl⟩ := o4.has.sl) | (go_at_call 15; refine (lawNum _ _).mono ?_; rintro e _ ⟨rfl, rfl⟩))
        refine (lawSameState (stV q1) (stV q3) a1 a1 _ (h1.le l4) (h3.grown g4 hy2).has hfa).mono ?_
        rw [show decide (a1 = a1) = true by simp]
        rintro e w5 ⟨rfl, l5⟩
        go_wp2_with fail
        refine (lawSameInts (slV z1) (slV z4) (ys ++ zs) (ys ++ zs) _ ((i1.le l4).le l5) (o4.has.le l5) (by have := HYZ.out; omega)).mono ?_
        rw [show decide (ys ++ zs = ys ++ zs) = true by simp]
        rintro e _ ⟨rfl, n6, rfl⟩
        go_wp2_with fail
        go_ret
        exact ⟨rfl, (hl4.trans l5).trans (Le.drewN _ _)⟩
    · have b3 : Box ((((w3.setCell ⟨W2.heap.size, 0, none⟩ (slV (q3 0))).setCell ⟨W2.heap.size, 1, none⟩ (slV (q3 1))).setCell ⟨W2.heap.size, 2, none⟩ (slV (q3 2))).setCell ⟨W2.heap.size, 3, none⟩ (slV (q3 3))) W2.heap.size (cells4 q3) 25 := (((hbz.set 0 (slV (q3 0))).set 1 (slV (q3 1))).set 2 (slV (q3 2))).set 3 (slV (q3 3))
      replace h3 : OwnS ((((w3.setCell ⟨W2.heap.size, 0, none⟩ (slV (q3 0))).setCell ⟨W2.heap.size, 1, none⟩ (slV (q3 1))).setCell ⟨W2.heap.size, 2, none⟩ (slV (q3 2))).setCell ⟨W2.heap.size, 3, none⟩ (slV (q3 3))) _ _ _ := OwnS.put4 h3 hbz (by decide)
      replace y3 := y3.set4 hbz (by decide) (slV (q3 0)) (slV (q3 1)) (slV (q3 2)) (slV (q3 3))
      replace m3 : Le W2 ((((w3.setCell ⟨W2.heap.size, 0, none⟩ (slV (q3 0))).setCell ⟨W2.heap.size, 1, none⟩ (slV (q3 1))).setCell ⟨W2.heap.size, 2, none⟩ (slV (q3 2))).setCell ⟨W2.heap.size, 3, none⟩ (slV (q3 3))) := m3.set4 (Nat.le_refl _) _ _ _ _
      clear l3 p0 p1 p2 p3 n4 v0 v1 v2 v3 t0 t1 t2 t3 hbz
      replace b1 := b1.le m3
      replace b2 := b2.le m3
      replace y2 := y2.le m3
      replace hl := hl.trans m3
      replace m2 := m2.trans m3
      generalize hW : (((w3.setCell ⟨W2.heap.size, 0, none⟩ (slV (q3 0))).setCell ⟨W2.heap.size, 1, none⟩ (slV (q3 1))).setCell ⟨W2.heap.size, 2, none⟩ (slV (q3 2))).setCell ⟨W2.heap.size, 3, none⟩ (slV (q3 3)) = W3 at hl m2 b1 b2 y2 m3 b3 h3 y3 ⊢
      clear hW
      generalize W2.heap.size = g3 at b3 ⊢
      clear hF3 hnq2 hnq1 hS1 hS2 hS3 hfb
      rcases HC with ⟨rfl, rfl, rfl, HF⟩ | ⟨rfl, rfl, rfl, rfl, rfl⟩
      · obtain ⟨az, cz, hz⟩ := i1.shape
        rw [hz]
        clear HYZ
        obtain ⟨x0, x1, x2, x3, _, _, _, _⟩ := b1.st
        go_wp2_with (go_at_call 15; refine (lawNum _ _).mono ?_; rintro e _ ⟨rfl, rfl⟩)
        refine (lawSameState (stV q1) stZ St.zero St.zero _ (h1.le m2) (HasS.zero _) fit_zero).mono ?_
        rw [show decide (St.zero = St.zero) = true by simp]
        rintro e w4 ⟨rfl, l4⟩
        replace hl := hl.trans l4
        clear l4
        rcases HF with rfl | ⟨rfl, rfl⟩
        · go_wp2_with (go_at_call 15; refine (lawNum _ _).mono ?_; rintro e _ ⟨rfl, rfl⟩)
          go_ret
          exact ⟨rfl, hl⟩
        · go_wp2_with (go_at_call 15; refine (lawNum _ _).mono ?_; rintro e _ ⟨rfl, rfl⟩)
          go_ret
          exact ⟨rfl, hl⟩
      · go_upto_region 9 with (go_at_call 15; refine (lawNum _ _).mono ?_; rintro e _ ⟨rfl, rfl⟩)
        go_wp2_with (first | (at_builtin; refine wp_append_ints rfl _ _ rfl W1.heap.size _ _ ys zs rfl rfl y2 y3.has (by have := HYZ.out; omega) m2.size ?_; intro v4 w4 o4 g4; have hrow := (fun gz e => (y2.block (g := gz) e).1); have l4 : Le W1 w4 := Below.grown m2 g4 m2.size hrow; have hl4 : Le w w4 := Below.grown hl g4 hl.size (fun gz e => Nat.le_trans hW1 (hrow gz e)); have b14 := b1.grown g4 (fun e => y2.apart b1 (by decide) e); have b34 := b3.grown g4 (fun e => y2.apart b3 (by decide) e); obtain ⟨x0, x1, x2, x3, _, _, _, _⟩ := b14.st; obtain ⟨c0, c1, c2, c3, _, _, _, _⟩ := b34.st; obtain ⟨z4, rfl⟩ := o4.has.sl) | (go_at_call 15; refine (lawNum _ _).mono ?_; rintro e _ ⟨rfl, rfl⟩))
        refine (lawSameState (stV q1) (stV q3) a1 a1 _ (h1.le l4) (h3.grown g4 hy2).has hfa).mono ?_
        rw [show decide (a1 = a1) = true by simp]
        rintro e w5 ⟨rfl, l5⟩
        go_wp2_with fail
        refine (lawSameInts (slV z1) (slV z4) (ys ++ zs) (ys ++ zs) _ ((i1.le l4).le l5) (o4.has.le l5) (by have := HYZ.out; omega)).mono ?_
        rw [show decide (ys ++ zs = ys ++ zs) = true by simp]
        rintro e _ ⟨rfl, n6, rfl⟩
        go_wp2_with fail
        go_ret
        exact ⟨rfl, (hl4.trans l5).trans (Le.drewN _ _)⟩

end Go.Proofs.Ytnpejgendmgfaaa
