/-
  THE WALK over choruslaw12.FoldUndo: it answers true, for every row and number, and turns nothing that was there. No condition.
-/
import Derived.Test.YtnpejgendmgfaaaFoC
import Derived.Test.YtnpejgendmgfaaaBits
namespace Go.Proofs.Ytnpejgendmgfaaa
open Go.RowKit

/-- The first n operations of f. -/
def ofO (f : Nat → Opr) (n : Nat) : List Opr := (List.range n).map f
theorem ofO_len (f : Nat → Opr) (n : Nat) : (ofO f n).length = n := by simp [ofO]
theorem ofO_next (f : Nat → Opr) (n : Nat) : ofO f (n + 1) = ofO f n ++ [f n] := by simp [ofO, List.range_succ]
def opn1 (r : Nat) (_ : Nat) : Opr := ⟨0, r, 0⟩
def opn2 (r : Nat) (i : Nat) : Opr := ⟨1, r, i⟩
def put1 (r : Nat) (i : Nat) : Opr := ⟨0, r, 10 + i⟩
def put2 (r : Nat) (_ : Nat) : Opr := ⟨1, r, 0⟩
/-- What the tables and the queues tell. -/
def toldT : Nat → List Int
  | 0 => [0, 1]
  | 1 => [0, 1, 1, 1]
  | 2 => [0, 1, 2, 1, 1, 1]
  | _ => [0, 1, 2, 3, 1, 1, 1, 1]
def toldQ : Nat → List Int
  | 0 => [1, 10]
  | 1 => [1, 1, 10, 11]
  | 2 => [1, 1, 1, 10, 11, 12]
  | _ => [1, 1, 1, 1, 10, 11, 12, 13]
set_option maxRecDepth 20000 in
theorem undoT : ∀ r, r < 4 → ∀ k, k < 4 → foldS 1 St.zero (ofO (opn1 r) (k + 1) ++ ofO (opn2 r) (k + 1)) 1200 = (St.zero, toldT k, 0) := by decide +kernel
set_option maxRecDepth 20000 in
theorem undoQ : ∀ r, r < 4 → ∀ k, k < 4 → foldS 2 St.zero (ofO (put1 r) (k + 1) ++ ofO (put2 r) (k + 1)) 1200 = (St.zero, toldQ k, 0) := by decide +kernel

theorem Own.at {w : World} {base g n cap : Nat} {xs : List Int} (h : Own w base (.slice (some ⟨g, 0, none⟩) n cap) xs) {i : Nat} (hi : i < xs.length) : w.cell? ⟨g, i, none⟩ = some (.int .i64 (xs.getD i 0)) := by
  have h0 := h
  obtain ⟨a, c, hv, _⟩ := h0.has
  simp only [Value.slice.injEq] at hv
  obtain ⟨_, rfl, _⟩ := hv
  rw [World.ownsRow.cellAt (show w.ownsRow base 3 1 _ _ _ from h) i (by omega)]
  simp [List.getElem?_map, List.getElem?_eq_getElem hi, List.getD]

set_option maxRecDepth 4000 in
set_option maxHeartbeats 4000000 in
theorem lawFoldUndo (w : World) (row many : Int) :
    Calls Try.prog 8 #[.int .i64 row, .int .i64 many] w fun e w' => e = .returned (.bool true) ∧ Le w w' := by
  obtain ⟨r, hr, r4⟩ : ∃ r : Nat, bits .and .i64 row 3 = (r : Int) ∧ r < 4 := ⟨(row % 4).toNat, by rw [and3]; omega, by omega⟩
  obtain ⟨k, hk, k4⟩ : ∃ k : Nat, bits .and .i64 many 3 = (k : Int) ∧ k < 4 := ⟨(many % 4).toNat, by rw [and3]; omega, by omega⟩
  have hS1 := undoT r r4 k k4
  have hS2 := undoQ r r4 k k4
  go_enter Try.func8, Try.ntmps8
  go_wp2_with fail
  refine (lawAwake12 _).mono ?_
  rintro e w0 ⟨rfl, hl⟩
  have I0 := TwoO.nil w0
  go_wp2_with fail
  clear hr hk
  go_loopw [7, 8, 9] (fun y z i wr => ∃ j : Nat, j ≤ k + 1 ∧ i = .int .i64 j ∧ TwoO w0 wr y z (ofO (opn1 r) j) (ofO (put1 r) j)) (fun _ _ i _ => k + 1 - (intOf i).toNat)
  case atStart => exact ⟨0, by omega, rfl, I0⟩
  case round =>
    obtain ⟨j, hj, rfl, I⟩ := hrel
    clear I0
    by_cases hlt : j ≤ k
    · clear hS1 hS2
      obtain ⟨qy, rfl⟩ := I.oy.has.sl
      obtain ⟨qz, rfl⟩ := I.oz.has.sl
      have hlt' : (j : Int) ≤ (k : Int) := by omega
      have hlit := HasO.lit1 wr (opn1 r j)
      have I1 := I.later (Le.alloc wr (.cells #[.int .i64 0, .int .i64 r, .int .i64 0] 43))
      go_wp2_with (first | (at_builtin; refine wp_append_ops rfl _ _ rfl w0.heap.size _ _ (ofO (opn1 r) j) [opn1 r j] rfl rfl I1.oy hlit (by simp [ofO_len]; omega) I1.le.size ?_; intro v2 w2 o2 g2 at2; have I2 := I1.left o2 g2 at2; have hlit2 := HasO.lit1 w2 (put1 r j); have I3 := I2.later (Le.alloc w2 (.cells #[.int .i64 0, .int .i64 r, .int .i64 (10 + j)] 43)); obtain ⟨q2, rfl⟩ := o2.has.sl) | (at_builtin; refine wp_append_ops rfl _ _ rfl w0.heap.size _ _ (ofO (put1 r) j) [put1 r j] rfl rfl I3.oz hlit2 (by simp [ofO_len]; omega) I3.le.size ?_; intro v4 w4 o4 g4 at4; have I4 := (I3.symm.left o4 g4 at4).symm))
      rw [← ofO_next, ← ofO_next] at I4
      clear I1 I2 I3 hlit hlit2 o2 g2 at2 o4 g4 at4
      go_roundw
      case rel => exact ⟨j + 1, by omega, by go_num, I4⟩
      case measure => simp [intOf]; omega
    · obtain rfl : j = k + 1 := by omega
      have hlt' : ¬ ((k : Int) + 1 ≤ (k : Int)) := by omega
      have J0 := I
      rw [show ofO (opn1 r) (k + 1) = ofO (opn1 r) (k + 1) ++ ofO (opn2 r) 0 by simp [ofO], show ofO (put1 r) (k + 1) = ofO (put1 r) (k + 1) ++ ofO (put2 r) 0 by simp [ofO]] at J0
      clear I
      obtain ⟨qy0, rfl⟩ := J0.oy.has.sl
      obtain ⟨qz0, rfl⟩ := J0.oz.has.sl
      go_wp2_with fail
      go_loopw [7, 8, 10] (fun y z i wr => ∃ j : Nat, j ≤ k + 1 ∧ i = .int .i64 j ∧ TwoO w0 wr y z (ofO (opn1 r) (k + 1) ++ ofO (opn2 r) j) (ofO (put1 r) (k + 1) ++ ofO (put2 r) j)) (fun _ _ i _ => k + 1 - (intOf i).toNat)
      case atStart => exact ⟨0, by omega, rfl, J0⟩
      case round =>
        obtain ⟨j, hj, rfl, I⟩ := hrel
        clear J0 hlt hlt'
        by_cases hlt : j ≤ k
        · clear hS1 hS2
          obtain ⟨qy, rfl⟩ := I.oy.has.sl
          obtain ⟨qz, rfl⟩ := I.oz.has.sl
          have hlt' : (j : Int) ≤ (k : Int) := by omega
          have hlit := HasO.lit1 wr (opn2 r j)
          have I1 := I.later (Le.alloc wr (.cells #[.int .i64 1, .int .i64 r, .int .i64 j] 43))
          go_wp2_with (first | (at_builtin; refine wp_append_ops rfl _ _ rfl w0.heap.size _ _ (ofO (opn1 r) (k + 1) ++ ofO (opn2 r) j) [opn2 r j] rfl rfl I1.oy hlit (by simp [ofO_len]; omega) I1.le.size ?_; intro v2 w2 o2 g2 at2; have I2 := I1.left o2 g2 at2; have hlit2 := HasO.lit1 w2 (put2 r j); have I3 := I2.later (Le.alloc w2 (.cells #[.int .i64 1, .int .i64 r, .int .i64 0] 43)); obtain ⟨q2, rfl⟩ := o2.has.sl) | (at_builtin; refine wp_append_ops rfl _ _ rfl w0.heap.size _ _ (ofO (put1 r) (k + 1) ++ ofO (put2 r) j) [put2 r j] rfl rfl I3.oz hlit2 (by simp [ofO_len]; omega) I3.le.size ?_; intro v4 w4 o4 g4 at4; have I4 := (I3.symm.left o4 g4 at4).symm))
          rw [List.append_assoc, List.append_assoc, ← ofO_next, ← ofO_next] at I4
          clear I1 I2 I3 hlit hlit2 o2 g2 at2 o4 g4 at4
          go_roundw
          case rel => exact ⟨j + 1, by omega, by go_num, I4⟩
          case measure => simp [intOf]; omega
        · obtain rfl : j = k + 1 := by omega
          have hlt' : ¬ ((k : Int) + 1 ≤ (k : Int)) := by omega
          obtain ⟨qy, rfl⟩ := I.oy.has.sl
          obtain ⟨qz, rfl⟩ := I.oz.has.sl
          have hy := I.oy.has
          have hz := I.oz.has
          replace hl := hl.trans I.le
          clear I
          have hF1 := foldAs (o := 1) (HasS.zero _) fit_zero hy (by simp [ofO_len]; omega) hS1
          have hF2 := fun w' (h : HasO w' (slV qz) _) => foldAs (o := 2) (HasS.zero w') fit_zero h (by simp [ofO_len]; omega) hS2
          clear hS1 hS2
          go_wp2_with fail
          refine hF1.mono ?_
          rintro e w1 ⟨q1, z1, rfl, h1, i1, l1⟩
          have hA := Le.alloc w1 (.cells (cells4 q1) 25)
          have b1 := Box.new w1 (cells4 q1) 25
          replace l1 := l1.trans hA
          replace h1 := h1.le hA
          replace i1 := i1.le hA
          replace hl := hl.trans l1
          replace hz := hz.le l1
          clear hA l1 hF1 hy hlt'
          go_upto_region 16 with fail
          generalize hW : w1.alloc (.cells (cells4 q1) 25) = W1 at hl hz b1 h1 i1 ⊢
          generalize w1.heap.size = g1 at b1 ⊢
          clear hW
          have hF3 := hF2 W1 hz
          clear hF2
          go_wp2_with fail
          refine hF3.mono ?_
          rintro e w2 ⟨q2, z2, rfl, h2, i2, l2⟩
          have hA := Le.alloc w2 (.cells (cells4 q2) 25)
          have b2 := Box.new w2 (cells4 q2) 25
          replace l2 := l2.trans hA
          replace h2 := h2.le hA
          replace i2 := i2.le hA
          replace h1 := h1.le l2
          replace i1 := i1.le l2
          replace b1 := b1.le l2
          replace hl := hl.trans l2
          clear hA l2 hF3 hz
          go_upto_region 17 with fail
          generalize hW : w2.alloc (.cells (cells4 q2) 25) = W2 at hl b1 h1 i1 b2 h2 i2 ⊢
          generalize w2.heap.size = g2 at b2 ⊢
          clear hW
          obtain ⟨gx, cx, ex, _, _, _⟩ := row_shape i1 (by unfold toldT; split <;> decide)
          obtain ⟨gy, cy, ey, _, _, _⟩ := row_shape i2 (by unfold toldQ; split <;> decide)
          rw [ex] at i1 ⊢
          rw [ey] at i2 ⊢
          have hcx := fun (i : Nat) (hi : i < (toldT k).length) => i1.at hi
          have hcy := fun (i : Nat) (hi : i < (toldQ k).length) => i2.at hi
          clear i1 i2 ex ey hj hlt
          rcases (by omega : k = 0 ∨ k = 1 ∨ k = 2 ∨ k = 3) with rfl | rfl | rfl | rfl
          · clear k4
            have x0 : W2.cell? ⟨gx, 0, none⟩ = some (.int .i64 0) := hcx 0 (by decide)
            have y0 : W2.cell? ⟨gy, 0, none⟩ = some (.int .i64 1) := hcy 0 (by decide)
            have x1 : W2.cell? ⟨gx, 1, none⟩ = some (.int .i64 1) := hcx 1 (by decide)
            have y1 : W2.cell? ⟨gy, 1, none⟩ = some (.int .i64 10) := hcy 1 (by decide)
            clear hcx hcy
            rw [show (toldT 0).length = 2 by rfl, show (toldQ 0).length = 2 by rfl]
            go_wp2_with (go_at_call 15; refine (lawNum _ _).mono ?_; rintro e _ ⟨rfl, rfl⟩)
            go_loopw [17] (fun i wr => ∃ j : Nat, j ≤ 1 ∧ i = .int .i64 j ∧ wr = W2) (fun i _ => 1 - (intOf i).toNat)
            case atStart => exact ⟨0, by omega, rfl, rfl⟩
            case round =>
              obtain ⟨j, hj, rfl, rfl⟩ := hrel
              rcases (by omega : j = 0 ∨ j = 1) with rfl | rfl
              · go_wp2_with fail
                go_roundw
                case rel => exact ⟨1, by omega, rfl, trivial⟩
                case measure => simp [intOf]
              · obtain ⟨t0, t1, t2, t3, _, _, _, _⟩ := b1.st
                go_wp2_with fail
                refine (lawSameState (stV q1) stZ St.zero St.zero _ h1 (HasS.zero _) fit_zero).mono ?_
                rw [show decide (St.zero = St.zero) = true by simp]
                rintro e w6 ⟨rfl, l6⟩
                obtain ⟨s0, s1, s2, s3, _, _, _, _⟩ := (b2.le l6).st
                go_wp2_with fail
                refine (lawSameState (stV q2) stZ St.zero St.zero _ (h2.le l6) (HasS.zero _) fit_zero).mono ?_
                rw [show decide (St.zero = St.zero) = true by simp]
                rintro e w7 ⟨rfl, l7⟩
                go_wp2_with fail
                go_ret
                exact ⟨rfl, (hl.trans l6).trans l7⟩
          · clear k4
            have x0 : W2.cell? ⟨gx, 0, none⟩ = some (.int .i64 0) := hcx 0 (by decide)
            have y0 : W2.cell? ⟨gy, 0, none⟩ = some (.int .i64 1) := hcy 0 (by decide)
            have x1 : W2.cell? ⟨gx, 1, none⟩ = some (.int .i64 1) := hcx 1 (by decide)
            have y1 : W2.cell? ⟨gy, 1, none⟩ = some (.int .i64 1) := hcy 1 (by decide)
            have x2 : W2.cell? ⟨gx, 2, none⟩ = some (.int .i64 1) := hcx 2 (by decide)
            have y2 : W2.cell? ⟨gy, 2, none⟩ = some (.int .i64 10) := hcy 2 (by decide)
            have x3 : W2.cell? ⟨gx, 3, none⟩ = some (.int .i64 1) := hcx 3 (by decide)
            have y3 : W2.cell? ⟨gy, 3, none⟩ = some (.int .i64 11) := hcy 3 (by decide)
            clear hcx hcy
            rw [show (toldT 1).length = 4 by rfl, show (toldQ 1).length = 4 by rfl]
            go_wp2_with (go_at_call 15; refine (lawNum _ _).mono ?_; rintro e _ ⟨rfl, rfl⟩)
            go_loopw [17] (fun i wr => ∃ j : Nat, j ≤ 2 ∧ i = .int .i64 j ∧ wr = W2) (fun i _ => 2 - (intOf i).toNat)
            case atStart => exact ⟨0, by omega, rfl, rfl⟩
            case round =>
              obtain ⟨j, hj, rfl, rfl⟩ := hrel
              rcases (by omega : j = 0 ∨ j = 1 ∨ j = 2) with rfl | rfl | rfl
              · go_wp2_with fail
                go_roundw
                case rel => exact ⟨1, by omega, rfl, trivial⟩
                case measure => simp [intOf]
              · go_wp2_with fail
                go_roundw
                case rel => exact ⟨2, by omega, rfl, trivial⟩
                case measure => simp [intOf]
              · obtain ⟨t0, t1, t2, t3, _, _, _, _⟩ := b1.st
                go_wp2_with fail
                refine (lawSameState (stV q1) stZ St.zero St.zero _ h1 (HasS.zero _) fit_zero).mono ?_
                rw [show decide (St.zero = St.zero) = true by simp]
                rintro e w6 ⟨rfl, l6⟩
                obtain ⟨s0, s1, s2, s3, _, _, _, _⟩ := (b2.le l6).st
                go_wp2_with fail
                refine (lawSameState (stV q2) stZ St.zero St.zero _ (h2.le l6) (HasS.zero _) fit_zero).mono ?_
                rw [show decide (St.zero = St.zero) = true by simp]
                rintro e w7 ⟨rfl, l7⟩
                go_wp2_with fail
                go_ret
                exact ⟨rfl, (hl.trans l6).trans l7⟩
          · clear k4
            have x0 : W2.cell? ⟨gx, 0, none⟩ = some (.int .i64 0) := hcx 0 (by decide)
            have y0 : W2.cell? ⟨gy, 0, none⟩ = some (.int .i64 1) := hcy 0 (by decide)
            have x1 : W2.cell? ⟨gx, 1, none⟩ = some (.int .i64 1) := hcx 1 (by decide)
            have y1 : W2.cell? ⟨gy, 1, none⟩ = some (.int .i64 1) := hcy 1 (by decide)
            have x2 : W2.cell? ⟨gx, 2, none⟩ = some (.int .i64 2) := hcx 2 (by decide)
            have y2 : W2.cell? ⟨gy, 2, none⟩ = some (.int .i64 1) := hcy 2 (by decide)
            have x3 : W2.cell? ⟨gx, 3, none⟩ = some (.int .i64 1) := hcx 3 (by decide)
            have y3 : W2.cell? ⟨gy, 3, none⟩ = some (.int .i64 10) := hcy 3 (by decide)
            have x4 : W2.cell? ⟨gx, 4, none⟩ = some (.int .i64 1) := hcx 4 (by decide)
            have y4 : W2.cell? ⟨gy, 4, none⟩ = some (.int .i64 11) := hcy 4 (by decide)
            have x5 : W2.cell? ⟨gx, 5, none⟩ = some (.int .i64 1) := hcx 5 (by decide)
            have y5 : W2.cell? ⟨gy, 5, none⟩ = some (.int .i64 12) := hcy 5 (by decide)
            clear hcx hcy
            rw [show (toldT 2).length = 6 by rfl, show (toldQ 2).length = 6 by rfl]
            go_wp2_with (go_at_call 15; refine (lawNum _ _).mono ?_; rintro e _ ⟨rfl, rfl⟩)
            go_loopw [17] (fun i wr => ∃ j : Nat, j ≤ 3 ∧ i = .int .i64 j ∧ wr = W2) (fun i _ => 3 - (intOf i).toNat)
            case atStart => exact ⟨0, by omega, rfl, rfl⟩
            case round =>
              obtain ⟨j, hj, rfl, rfl⟩ := hrel
              rcases (by omega : j = 0 ∨ j = 1 ∨ j = 2 ∨ j = 3) with rfl | rfl | rfl | rfl
              · go_wp2_with fail
                go_roundw
                case rel => exact ⟨1, by omega, rfl, trivial⟩
                case measure => simp [intOf]
              · go_wp2_with fail
                go_roundw
                case rel => exact ⟨2, by omega, rfl, trivial⟩
                case measure => simp [intOf]
              · go_wp2_with fail
                go_roundw
                case rel => exact ⟨3, by omega, rfl, trivial⟩
                case measure => simp [intOf]
              · obtain ⟨t0, t1, t2, t3, _, _, _, _⟩ := b1.st
                go_wp2_with fail
                refine (lawSameState (stV q1) stZ St.zero St.zero _ h1 (HasS.zero _) fit_zero).mono ?_
                rw [show decide (St.zero = St.zero) = true by simp]
                rintro e w6 ⟨rfl, l6⟩
                obtain ⟨s0, s1, s2, s3, _, _, _, _⟩ := (b2.le l6).st
                go_wp2_with fail
                refine (lawSameState (stV q2) stZ St.zero St.zero _ (h2.le l6) (HasS.zero _) fit_zero).mono ?_
                rw [show decide (St.zero = St.zero) = true by simp]
                rintro e w7 ⟨rfl, l7⟩
                go_wp2_with fail
                go_ret
                exact ⟨rfl, (hl.trans l6).trans l7⟩
          · clear k4
            have x0 : W2.cell? ⟨gx, 0, none⟩ = some (.int .i64 0) := hcx 0 (by decide)
            have y0 : W2.cell? ⟨gy, 0, none⟩ = some (.int .i64 1) := hcy 0 (by decide)
            have x1 : W2.cell? ⟨gx, 1, none⟩ = some (.int .i64 1) := hcx 1 (by decide)
            have y1 : W2.cell? ⟨gy, 1, none⟩ = some (.int .i64 1) := hcy 1 (by decide)
            have x2 : W2.cell? ⟨gx, 2, none⟩ = some (.int .i64 2) := hcx 2 (by decide)
            have y2 : W2.cell? ⟨gy, 2, none⟩ = some (.int .i64 1) := hcy 2 (by decide)
            have x3 : W2.cell? ⟨gx, 3, none⟩ = some (.int .i64 3) := hcx 3 (by decide)
            have y3 : W2.cell? ⟨gy, 3, none⟩ = some (.int .i64 1) := hcy 3 (by decide)
            have x4 : W2.cell? ⟨gx, 4, none⟩ = some (.int .i64 1) := hcx 4 (by decide)
            have y4 : W2.cell? ⟨gy, 4, none⟩ = some (.int .i64 10) := hcy 4 (by decide)
            have x5 : W2.cell? ⟨gx, 5, none⟩ = some (.int .i64 1) := hcx 5 (by decide)
            have y5 : W2.cell? ⟨gy, 5, none⟩ = some (.int .i64 11) := hcy 5 (by decide)
            have x6 : W2.cell? ⟨gx, 6, none⟩ = some (.int .i64 1) := hcx 6 (by decide)
            have y6 : W2.cell? ⟨gy, 6, none⟩ = some (.int .i64 12) := hcy 6 (by decide)
            have x7 : W2.cell? ⟨gx, 7, none⟩ = some (.int .i64 1) := hcx 7 (by decide)
            have y7 : W2.cell? ⟨gy, 7, none⟩ = some (.int .i64 13) := hcy 7 (by decide)
            clear hcx hcy
            rw [show (toldT 3).length = 8 by rfl, show (toldQ 3).length = 8 by rfl]
            go_wp2_with (go_at_call 15; refine (lawNum _ _).mono ?_; rintro e _ ⟨rfl, rfl⟩)
            go_loopw [17] (fun i wr => ∃ j : Nat, j ≤ 4 ∧ i = .int .i64 j ∧ wr = W2) (fun i _ => 4 - (intOf i).toNat)
            case atStart => exact ⟨0, by omega, rfl, rfl⟩
            case round =>
              obtain ⟨j, hj, rfl, rfl⟩ := hrel
              rcases (by omega : j = 0 ∨ j = 1 ∨ j = 2 ∨ j = 3 ∨ j = 4) with rfl | rfl | rfl | rfl | rfl
              · go_wp2_with fail
                go_roundw
                case rel => exact ⟨1, by omega, rfl, trivial⟩
                case measure => simp [intOf]
              · go_wp2_with fail
                go_roundw
                case rel => exact ⟨2, by omega, rfl, trivial⟩
                case measure => simp [intOf]
              · go_wp2_with fail
                go_roundw
                case rel => exact ⟨3, by omega, rfl, trivial⟩
                case measure => simp [intOf]
              · go_wp2_with fail
                go_roundw
                case rel => exact ⟨4, by omega, rfl, trivial⟩
                case measure => simp [intOf]
              · obtain ⟨t0, t1, t2, t3, _, _, _, _⟩ := b1.st
                go_wp2_with fail
                refine (lawSameState (stV q1) stZ St.zero St.zero _ h1 (HasS.zero _) fit_zero).mono ?_
                rw [show decide (St.zero = St.zero) = true by simp]
                rintro e w6 ⟨rfl, l6⟩
                obtain ⟨s0, s1, s2, s3, _, _, _, _⟩ := (b2.le l6).st
                go_wp2_with fail
                refine (lawSameState (stV q2) stZ St.zero St.zero _ (h2.le l6) (HasS.zero _) fit_zero).mono ?_
                rw [show decide (St.zero = St.zero) = true by simp]
                rintro e w7 ⟨rfl, l7⟩
                go_wp2_with fail
                go_ret
                exact ⟨rfl, (hl.trans l6).trans l7⟩


end Go.Proofs.Ytnpejgendmgfaaa
