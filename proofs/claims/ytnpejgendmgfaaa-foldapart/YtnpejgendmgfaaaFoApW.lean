/-
  THE WALK over choruslaw12.FoldApart: it answers true, for every object, state and operations, and turns nothing that was there. Condition: the state's rows and the operations can be copied.
-/
import Derived.Test.YtnpejgendmgfaaaFoApS
import Derived.Test.YtnpejgendmgfaaaFoC
import Derived.Test.YtnpejgendmgfaaaBits
namespace Go.Proofs.Ytnpejgendmgfaaa
open Go.RowKit

set_option maxRecDepth 4000 in
set_option maxHeartbeats 4000000 in
theorem lawFoldApart (w : World) (o : Int) (v : Value) (s : St) (hx : HasS w v s) (hf : Fit s) (u : Value) (ps : List Opr) (ho : HasO w u ps) (hn : ps.length * 24 ≤ 140737488351232) :
    Calls Try.prog 4 #[.int .i64 o, v, u] w fun e w' => e = .returned (.bool true) ∧ Le w w' := by
  obtain ⟨vs, rfl, hr⟩ := hx
  have hl := Le.alloc w (.cells (cells4 vs) 25)
  have hb1 := Box.new w (cells4 vs) 25
  have hx : HasS _ (stV vs) s := HasS.le ⟨vs, rfl, hr⟩ hl
  clear hr
  obtain ⟨a1, xa, e1, c1, xc, e2, d1, xd, e3, f1, xf, e4, j1, xj, e5, hS1, hS2, hS3, hS4, hS5, HC⟩ := apart_cases o s ps
  have hfa := foldS_fit hf hS1
  have hfc := foldS_fit hf hS2
  have hff := foldS_fit hf hS4
  have hne : (evens ps).length * 24 ≤ 140737488351232 := by have := evens_len ps; omega
  have hno : (odds ps).length * 24 ≤ 140737488351232 := by have := odds_len ps; omega
  have ho0 := ho
  have hF1 := fun w' u' (h : HasS w' (stV vs) s) (h2 : HasO w' u' ps) => foldAs (o := o) h hf h2 hn hS1
  have hF2 := fun w' u' (h : HasS w' (stV vs) s) (h2 : HasO w' u' (evens ps)) => foldAs (o := o) h hf h2 hne hS2
  have hF3 := fun w' v' u' (h : HasS w' v' c1) (h2 : HasO w' u' (odds ps)) => foldAs (o := o) h hfc h2 hno hS3
  have hF4 := fun w' u' (h : HasS w' (stV vs) s) (h2 : HasO w' u' (odds ps)) => foldAs (o := o) h hf h2 hno hS4
  have hF5 := fun w' v' u' (h : HasS w' v' f1) (h2 : HasO w' u' (evens ps)) => foldAs (o := o) h hff h2 hne hS5
  clear hS1 hS2 hS3 hS4 hS5 hne hno hfc hff
  obtain ⟨a, cap, rfl, hc, hnone, hops⟩ := ho
  have hopA : ∀ k, k < ps.length → ∃ b off, a = some ⟨b, off, none⟩ ∧ OprAt w b (off + k * 3) (ps.getD k Opr.zero) := fun k hk => by
    obtain ⟨b, off, ha, hcell⟩ := hops (by omega)
    exact ⟨b, off, ha, hcell k hk⟩
  clear hops hnone
  obtain ⟨L, hL⟩ : ∃ L, L = ps.length := ⟨_, rfl⟩
  have HL : Hid (L = ps.length) := hL
  rw [← hL] at hc hopA hn ho0 ⊢
  clear hL
  go_enter Try.func4, Try.ntmps4
  go_wp2_with fail
  refine (lawAwake12 _).mono ?_
  rintro e w0 ⟨rfl, l0⟩
  replace hl := hl.trans l0
  replace hb1 := hb1.le l0
  replace hx := hx.le l0
  clear l0
  have I0 := TwoO.nil w0
  go_wp2_with fail
  go_loopw [7, 8, 9] (fun y z i wr => ∃ k : Nat, k ≤ L ∧ i = .int .i64 k ∧ TwoO w0 wr y z (evens (ps.take k)) (odds (ps.take k))) (fun _ _ i _ => L - (intOf i).toNat)
  case atStart => exact ⟨0, by omega, rfl, I0⟩
  case round =>
    obtain ⟨k, hk, rfl, I⟩ := hrel
    clear I0
    by_cases hlt : k < L
    · clear hF1 hF2 hF3 hF4 hF5 HC
      obtain ⟨p, hpk⟩ : ∃ p, p = ps.getD k Opr.zero := ⟨_, rfl⟩
      obtain ⟨b, off, rfl, hcell⟩ := hopA k hlt
      obtain ⟨x0, x1, x2⟩ := (hcell.le hl).le I.le
      rw [← hpk] at x0 x1 x2
      have hlt' : (k : Int) < (L : Int) := by omega
      have hev := evens_take (ps := ps) (k := k) (by have := HL.out; omega)
      have hod := odds_take (ps := ps) (k := k) (by have := HL.out; omega)
      rw [← hpk] at hev hod
      have hol := evens_len (ps.take k)
      have hwl := odds_len (ps.take k)
      have htk : (ps.take k).length = k := by rw [List.length_take]; have := HL.out; omega
      rw [htk] at hol hwl
      have HO2 : Hid ((evens (ps.take k)).length ≤ k ∧ (odds (ps.take k)).length ≤ k) := ⟨hol, hwl⟩
      clear hcell hpk hol hwl htk hopA
      obtain ⟨qy, rfl⟩ := I.oy.has.sl
      obtain ⟨qz, rfl⟩ := I.oz.has.sl
      have hlit := HasO.lit1 wr p
      have I1 := I.later (Le.alloc wr (.cells #[.int .i64 p.c, .int .i64 p.r, .int .i64 p.a] 43))
      by_cases hcc : p.c = 3
      · rw [hcc] at x0
        go_wp2_with fail
        go_ret
        exact ⟨rfl, hl.trans I.le⟩
      · have e0 : (p.c == 3) = false := by simp [hcc]
        cases hi : evenB p
        · rw [hi] at hev hod
          simp only [Bool.false_eq_true, if_false, List.append_nil, Bool.not_false, if_true] at hev hod
          have e1' : bits .and .i64 p.r 1 = 1 := by rw [and1]; simp [evenB] at hi; omega
          have HE : Hid (evens (ps.take (k + 1)) = evens (ps.take k) ∧ odds (ps.take (k + 1)) = odds (ps.take k) ++ [p]) := ⟨hev, hod⟩
          clear hev hod hi hcc
          go_wp2_with (at_builtin; refine wp_append_ops rfl _ _ rfl w0.heap.size _ _ (odds (ps.take k)) [p] rfl rfl I1.oz hlit (by have := HO2.out; simp; omega) I1.le.size ?_; intro v2 w2 o2 g2 at2)
          have I2 := (I1.symm.left o2 g2 at2).symm
          rw [← HE.out.1, ← HE.out.2] at I2
          clear I1 hlit o2 g2 at2
          go_roundw
          case rel => exact ⟨k + 1, by omega, by go_num, I2⟩
          case measure => simp [intOf]; omega
        · rw [hi] at hev hod
          simp only [Bool.false_eq_true, if_false, List.append_nil, Bool.not_true, if_true] at hev hod
          have e1' : bits .and .i64 p.r 1 = 0 := by rw [and1]; simp [evenB] at hi; omega
          have HE : Hid (evens (ps.take (k + 1)) = evens (ps.take k) ++ [p] ∧ odds (ps.take (k + 1)) = odds (ps.take k)) := ⟨hev, hod⟩
          clear hev hod hi hcc
          go_wp2_with (at_builtin; refine wp_append_ops rfl _ _ rfl w0.heap.size _ _ (evens (ps.take k)) [p] rfl rfl I1.oy hlit (by have := HO2.out; simp; omega) I1.le.size ?_; intro v2 w2 o2 g2 at2)
          have I2 := I1.left o2 g2 at2
          rw [← HE.out.1, ← HE.out.2] at I2
          clear I1 hlit o2 g2 at2
          go_roundw
          case rel => exact ⟨k + 1, by omega, by go_num, I2⟩
          case measure => simp [intOf]; omega
    · obtain rfl : k = L := by omega
      rw [List.take_of_length_le (by have := HL.out; omega)] at I
      clear hopA
      obtain ⟨qy, rfl⟩ := I.oy.has.sl
      obtain ⟨qz, rfl⟩ := I.oz.has.sl
      have hev := I.oy.has
      have hod := I.oz.has
      replace hb1 := hb1.le I.le
      replace hx := hx.le I.le
      replace ho0 := ho0.le (hl.trans I.le)
      replace hl := hl.trans I.le
      clear I
      obtain ⟨x0, x1, x2, x3, _, _, _, _⟩ := hb1.st
      go_wp2_with fail
      refine (hF1 wr _ hx ho0).mono ?_
      rintro e w1 ⟨q1, z1, rfl, h1, i1, l1⟩
      have hA := Le.alloc w1 (.cells (cells4 q1) 25)
      have b1 := Box.new w1 (cells4 q1) 25
      replace l1 := l1.trans hA
      replace h1 := h1.le hA
      replace hl := hl.trans l1
      replace hb1 := hb1.le l1
      replace hx := hx.le l1
      replace ho0 := ho0.le l1
      replace hev := hev.le l1
      replace hod := hod.le l1
      clear hA l1 x0 x1 x2 x3 i1 hF1
      go_upto_region 13 with fail
      generalize hW : w1.alloc (.cells (cells4 q1) 25) = W1 at hl hb1 hx ho0 hev hod b1 h1 ⊢
      generalize w1.heap.size = g1 at b1 ⊢
      clear hW
      obtain ⟨x0, x1, x2, x3, _, _, _, _⟩ := hb1.st
      go_wp2_with fail
      refine (hF2 W1 _ hx hev).mono ?_
      rintro e w2 ⟨q2, z2, rfl, h2, i2, l2⟩
      have hA := Le.alloc w2 (.cells (cells4 q2) 25)
      have b2 := Box.new w2 (cells4 q2) 25
      replace l2 := l2.trans hA
      replace h2 := h2.le hA
      replace hl := hl.trans l2
      replace hb1 := hb1.le l2
      replace hx := hx.le l2
      replace ho0 := ho0.le l2
      replace hev := hev.le l2
      replace hod := hod.le l2
      replace b1 := b1.le l2
      replace h1 := h1.le l2
      clear hA l2 x0 x1 x2 x3 i2 hF2
      go_upto_region 14 with fail
      generalize hW : w2.alloc (.cells (cells4 q2) 25) = W2 at hl hb1 hx ho0 hev hod b1 h1 b2 h2 ⊢
      generalize w2.heap.size = g2 at b2 ⊢
      clear hW
      obtain ⟨x0, x1, x2, x3, _, _, _, _⟩ := b2.st
      go_wp2_with fail
      refine (hF3 W2 _ _ h2 hod).mono ?_
      rintro e w3 ⟨q3, z3, rfl, h3, i3, l3⟩
      have hA := Le.alloc w3 (.cells (cells4 q3) 25)
      have b3 := Box.new w3 (cells4 q3) 25
      replace l3 := l3.trans hA
      replace h3 := h3.le hA
      replace hl := hl.trans l3
      replace hb1 := hb1.le l3
      replace hx := hx.le l3
      replace ho0 := ho0.le l3
      replace hev := hev.le l3
      replace hod := hod.le l3
      replace b1 := b1.le l3
      replace h1 := h1.le l3
      replace b2 := b2.le l3
      replace h2 := h2.le l3
      clear hA l3 x0 x1 x2 x3 i3 hF3
      go_upto_region 15 with fail
      generalize hW : w3.alloc (.cells (cells4 q3) 25) = W3 at hl hb1 hx ho0 hev hod b1 h1 b2 h2 b3 h3 ⊢
      generalize w3.heap.size = g3 at b3 ⊢
      clear hW
      obtain ⟨x0, x1, x2, x3, _, _, _, _⟩ := hb1.st
      go_wp2_with fail
      refine (hF4 W3 _ hx hod).mono ?_
      rintro e w4 ⟨q4, z4, rfl, h4, i4, l4⟩
      have hA := Le.alloc w4 (.cells (cells4 q4) 25)
      have b4 := Box.new w4 (cells4 q4) 25
      replace l4 := l4.trans hA
      replace h4 := h4.le hA
      replace hl := hl.trans l4
      replace hb1 := hb1.le l4
      replace hx := hx.le l4
      replace ho0 := ho0.le l4
      replace hev := hev.le l4
      replace hod := hod.le l4
      replace b1 := b1.le l4
      replace h1 := h1.le l4
      replace b2 := b2.le l4
      replace h2 := h2.le l4
      replace b3 := b3.le l4
      replace h3 := h3.le l4
      clear hA l4 x0 x1 x2 x3 i4 hF4
      go_upto_region 16 with fail
      generalize hW : w4.alloc (.cells (cells4 q4) 25) = W4 at hl hb1 hx ho0 hev hod b1 h1 b2 h2 b3 h3 b4 h4 ⊢
      generalize w4.heap.size = g4 at b4 ⊢
      clear hW
      obtain ⟨x0, x1, x2, x3, _, _, _, _⟩ := b4.st
      go_wp2_with fail
      refine (hF5 W4 _ _ h4 hev).mono ?_
      rintro e w5 ⟨q5, z5, rfl, h5, i5, l5⟩
      have hA := Le.alloc w5 (.cells (cells4 q5) 25)
      have b5 := Box.new w5 (cells4 q5) 25
      replace l5 := l5.trans hA
      replace h5 := h5.le hA
      replace hl := hl.trans l5
      replace hb1 := hb1.le l5
      replace hx := hx.le l5
      replace ho0 := ho0.le l5
      replace hev := hev.le l5
      replace hod := hod.le l5
      replace b1 := b1.le l5
      replace h1 := h1.le l5
      replace b2 := b2.le l5
      replace h2 := h2.le l5
      replace b3 := b3.le l5
      replace h3 := h3.le l5
      replace b4 := b4.le l5
      replace h4 := h4.le l5
      clear hA l5 x0 x1 x2 x3 i5 hF5
      go_upto_region 17 with fail
      generalize hW : w5.alloc (.cells (cells4 q5) 25) = W5 at hl hb1 hx ho0 hev hod b1 h1 b2 h2 b3 h3 b4 h4 b5 h5 ⊢
      generalize w5.heap.size = g5 at b5 ⊢
      clear hW
      rcases HC with ⟨rfl, HF⟩ | ⟨rfl, rfl, rfl, rfl, rfl, rfl, rfl⟩
      · rcases HF with rfl | ⟨rfl, rfl⟩
        · go_wp2_with (go_at_call 15; refine (lawNum _ _).mono ?_; rintro e _ ⟨rfl, rfl⟩)
          go_ret
          exact ⟨rfl, hl⟩
        · go_wp2_with (go_at_call 15; refine (lawNum _ _).mono ?_; rintro e _ ⟨rfl, rfl⟩)
          go_ret
          exact ⟨rfl, hl⟩
      · obtain ⟨x0, x1, x2, x3, _, _, _, _⟩ := b1.st
        obtain ⟨y0, y1, y2, y3, _, _, _, _⟩ := b3.st
        go_wp2_with (go_at_call 15; refine (lawNum _ _).mono ?_; rintro e _ ⟨rfl, rfl⟩)
        refine (lawSameState (stV q1) (stV q3) a1 a1 _ h1 h3 hfa).mono ?_
        rw [show decide (a1 = a1) = true by simp]
        rintro e w6 ⟨rfl, l6⟩
        clear x0 x1 x2 x3 y0 y1 y2 y3
        obtain ⟨x0, x1, x2, x3, _, _, _, _⟩ := (b1.le l6).st
        obtain ⟨y0, y1, y2, y3, _, _, _, _⟩ := (b5.le l6).st
        go_wp2_with fail
        refine (lawSameState (stV q1) (stV q5) a1 a1 _ (h1.le l6) (h5.le l6) hfa).mono ?_
        rw [show decide (a1 = a1) = true by simp]
        rintro e w7 ⟨rfl, l7⟩
        go_wp2_with fail
        go_ret
        exact ⟨rfl, (hl.trans l6).trans l7⟩

end Go.Proofs.Ytnpejgendmgfaaa
