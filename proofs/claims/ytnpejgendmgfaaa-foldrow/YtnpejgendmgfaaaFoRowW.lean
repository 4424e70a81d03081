/-
  THE WALK over choruslaw12.FoldRow: it answers true, for every object, state, operations and row, and turns nothing that was there. Condition: the state's rows and the operations can be copied.
-/
import Derived.Test.YtnpejgendmgfaaaFoRowS
import Derived.Test.YtnpejgendmgfaaaFoC
import Derived.Test.YtnpejgendmgfaaaApp2
import Derived.Test.YtnpejgendmgfaaaBits
namespace Go.Proofs.Ytnpejgendmgfaaa
open Go.RowKit

/-- A row of operations and a row of numbers, each of the call's own. -/
structure FoK (w wr : World) (y z : Value) (ys : List Opr) (zs : List Int) : Prop where
  oy : OwnO wr w.heap.size y ys
  oz : Own wr w.heap.size z zs
  le : Le w wr

theorem apart_types {w : World} {b b' : Nat} {y z : Value} {ys : List Opr} {zs : List Int} (oy : OwnO w b y ys) (oz : Own w b' z zs) : ∀ g, y.ownBlock = some g → z.ownBlock ≠ some g := by
  intro g h1 h2
  rcases oy.2 with ⟨e, _⟩ | ⟨g1, cap1, cur1, e1, _, hh1, _⟩
  · rw [e] at h1; simp [Value.ownBlock] at h1
  · rcases oz.2 with ⟨e, _⟩ | ⟨g2, cap2, cur2, e2, _, hh2, _⟩
    · rw [e] at h2; simp [Value.ownBlock] at h2
    · rw [e1] at h1
      rw [e2] at h2
      simp [Value.ownBlock] at h1 h2
      subst h1 h2
      rw [hh1] at hh2
      simp at hh2

theorem FoK.nil (w : World) : FoK w w (.slice none 0 0) (.slice none 0 0) [] [] := ⟨OwnO.nil _ _, Own.nil _ _, Le.refl _⟩
theorem FoK.later {w wr w1 : World} {y z : Value} {ys : List Opr} {zs : List Int} (h : FoK w wr y z ys zs) (l : Le wr w1) : FoK w w1 y z ys zs := ⟨h.oy.le l, h.oz.le l, h.le.trans l⟩
theorem FoK.left {w w1 w2 : World} {y y' z : Value} {ys ys' : List Opr} {zs : List Int} (h : FoK w w1 y z ys zs) (ho : OwnO w2 w.heap.size y' ys') (hg : w1.grownBy w2 y.ownBlock) : FoK w w2 y' z ys' zs :=
  ⟨ho, h.oz.grown hg (fun g h1 h2 => apart_types h.oy h.oz g h2 h1), Below.grown h.le hg h.le.size (fun g hg => (World.ownsRow.lt h.oy g hg).1)⟩
theorem FoK.right {w w1 w2 : World} {y z z' : Value} {ys : List Opr} {zs zs' : List Int} (h : FoK w w1 y z ys zs) (ho : Own w2 w.heap.size z' zs') (hg : w1.grownBy w2 z.ownBlock) : FoK w w2 y z' ys zs' :=
  ⟨h.oy.grown hg (fun g h1 h2 => apart_types h.oy h.oz g h1 h2), ho, Below.grown h.le hg h.le.size (fun g hg => (World.ownsRow.lt h.oz g hg).1)⟩

set_option maxRecDepth 4000 in
set_option maxHeartbeats 2000000 in
theorem lawFoldRow (w : World) (o : Int) (v : Value) (s : St) (hx : HasS w v s) (hf : Fit s) (u : Value) (ps : List Opr) (ho : HasO w u ps) (hn : ps.length * 24 ≤ 140737488351232) (row : Int) :
    Calls Try.prog 7 #[.int .i64 o, v, u, .int .i64 row] w fun e w' => e = .returned (.bool true) ∧ Le w w' := by
  obtain ⟨vs, rfl, hr⟩ := hx
  have hl := Le.alloc w (.cells (cells4 vs) 25)
  have hb1 := Box.new w (cells4 vs) 25
  have hx : HasS _ (stV vs) s := HasS.le ⟨vs, rfl, hr⟩ hl
  clear hr
  obtain ⟨r, hr, r4⟩ : ∃ r : Nat, bits .and .i64 row 3 = (r : Int) ∧ r < 4 := ⟨(row % 4).toNat, by rw [and3]; omega, by omega⟩
  obtain ⟨a1, xs, e1, c1, f, hS1, hS2, HC⟩ := row_cases o s ps r r4
  have hF1 := fun w' (h : Le w w') (h2 : HasS w' (stV vs) s) => foldAs (o := o) h2 hf (ho.le h) hn hS1
  have hF2 := fun w' y (h2 : HasS w' (stV vs) s) (h : HasO w' y (ownOf r ps)) => foldAs (o := o) h2 hf h (by have := ownOf_len r ps; omega) hS2
  have hwl := wantOf_len r ps xs
  obtain ⟨a, cap, rfl, hc, hnone, hops⟩ := ho
  have hopA : ∀ k, k < ps.length → ∃ b off, a = some ⟨b, off, none⟩ ∧ OprAt w b (off + k * 3) (ps.getD k Opr.zero) := fun k hk => by
    obtain ⟨b, off, ha, hcell⟩ := hops (by omega)
    exact ⟨b, off, ha, hcell k hk⟩
  clear hops hnone hS1 hS2
  obtain ⟨L, hL⟩ : ∃ L, L = ps.length := ⟨_, rfl⟩
  have HL : Hid (L = ps.length) := hL
  rw [← hL] at hc hopA hn hF1 hwl ⊢
  have HW : Hid ((wantOf r ps xs).length ≤ L) := hwl
  clear hL hwl
  go_enter Try.func7, Try.ntmps7
  go_wp2_with fail
  refine (lawAwake12 _).mono ?_
  rintro e w0 ⟨rfl, l0⟩
  replace hl := hl.trans l0
  replace hb1 := hb1.le l0
  replace hx := hx.le l0
  clear l0
  obtain ⟨x0, x1, x2, x3, _, _, _, _⟩ := hb1.st
  go_wp2_with fail
  refine (hF1 w0 hl hx).mono ?_
  rintro e w1 ⟨q1, z1, rfl, h1, i1, l1⟩
  have hA := Le.alloc w1 (.cells (cells4 q1) 25)
  replace l1 := l1.trans hA
  replace i1 := i1.has.le hA
  replace hl := hl.trans l1
  replace hb1 := hb1.le l1
  replace hx := hx.le l1
  clear hA l1 x0 x1 x2 x3 hF1 h1
  go_upto_region 5 with fail
  generalize hW : w1.alloc (.cells (cells4 q1) 25) = W1 at hl hb1 hx i1 ⊢
  clear hW
  rcases HC with ⟨rfl, rfl⟩ | ⟨rfl, rfl, hxl⟩
  · obtain ⟨az, cz, hz⟩ := i1.shape
    rw [hz]
    go_wp2_with (go_at_call 15; refine (lawNum _ _).mono ?_; rintro e _ ⟨rfl, rfl⟩)
    go_ret
    exact ⟨rfl, hl⟩
  · have HX : Hid (xs.length = ps.length) := hxl
    obtain ⟨az, cz, hz, hcz, _, hcx⟩ := i1
    have hxA : ∀ k, k < L → ∃ b off, az = some ⟨b, off, none⟩ ∧ W1.cell? ⟨b, off + k, none⟩ = some (.int .i64 (xs.getD k 0)) := fun k hk => by
      have := HL.out
      obtain ⟨b, off, ha, hcell⟩ := hcx (by omega)
      exact ⟨b, off, ha, hcell k (by omega)⟩
    have hzl : xs.length = L := by rw [hxl]; exact HL.out.symm
    rw [hzl] at hz hcz
    rw [hz]
    clear hcx hxl hz hzl
    have I0 := FoK.nil W1
    go_upto_region 7 with (go_at_call 15; refine (lawNum _ _).mono ?_; rintro e _ ⟨rfl, rfl⟩)
    go_wp2_with fail
    go_loopw [13, 14, 15] (fun y z i wr => ∃ k : Nat, k ≤ L ∧ i = .int .i64 k ∧ FoK W1 wr y z (ownOf r (ps.take k)) (wantOf r (ps.take k) (xs.take k))) (fun _ _ i _ => L - (intOf i).toNat)
    case atStart => exact ⟨0, by omega, rfl, I0⟩
    case round =>
      obtain ⟨k, hk, rfl, I⟩ := hrel
      clear I0
      by_cases hlt : k < L
      · obtain ⟨p, hpk⟩ : ∃ p, p = ps.getD k Opr.zero := ⟨_, rfl⟩
        obtain ⟨x, hxk⟩ : ∃ x, x = xs.getD k 0 := ⟨_, rfl⟩
        obtain ⟨b, off, rfl, hcell⟩ := hopA k hlt
        have hO := (hcell.le hl).le I.le
        obtain ⟨bx, offx, rfl, hcx⟩ := hxA k hlt
        have hblx : bx < W1.heap.size := World.block_lt_of_cell? W1 _ hcx
        rw [← hpk] at hO
        rw [← hxk] at hcx
        have HP : Hid (p = ps.getD k Opr.zero) := hpk
        have HXK : Hid (x = xs.getD k 0) := hxk
        have hlt' : (k : Int) < (L : Int) := by omega
        have hcx1 : wr.cell? ⟨bx, offx + k, none⟩ = some (.int .i64 x) := by rw [I.le.cell (p := ⟨bx, offx + k, none⟩) hblx]; exact hcx
        have hown := ownOf_take (r := r) (ps := ps) (k := k) (by have := HL.out; omega)
        have hwant := wantOf_take (r := r) (ps := ps) (xs := xs) (k := k) (by have := HL.out; omega) HX.out
        rw [← hpk] at hown hwant
        rw [← hxk] at hwant
        have hol := ownOf_len r (ps.take k)
        have hwl := wantOf_len r (ps.take k) (xs.take k)
        have htk : (ps.take k).length = k := by rw [List.length_take]; have := HL.out; omega
        rw [htk] at hol hwl
        have HO2 : Hid ((ownOf r (ps.take k)).length ≤ k ∧ (wantOf r (ps.take k) (xs.take k)).length ≤ k) := ⟨hol, hwl⟩
        obtain ⟨x0, x1, x2⟩ := hO
        clear hcell hpk hxk hol hwl htk
        obtain ⟨qy, rfl⟩ := I.oy.has.sl
        obtain ⟨qz, rfl⟩ := I.oz.has.sl
        cases hi : isOwn r p
        · rw [hi] at hown hwant
          simp only [Bool.false_eq_true, if_false, List.append_nil] at hown hwant
          rw [← hown, ← hwant] at I
          clear hown hwant
          by_cases e0 : p.r = r
          · have hcc : p.c = 3 := by simpa [isOwn, e0] using hi
            rw [hcc] at x0
            have e0' : (p.r == (r : Int)) = true := by simp [e0]
            clear hi hopA hxA hcx hcx1
            go_wp2_with fail
            go_roundw
            case rel => exact ⟨k + 1, by omega, by go_num, I⟩
            case measure => simp [intOf]; omega
          · have e0' : (p.r == (r : Int)) = false := by simp [e0]
            clear hi hopA hxA hcx hcx1
            go_wp2_with fail
            go_roundw
            case rel => exact ⟨k + 1, by omega, by go_num, I⟩
            case measure => simp [intOf]; omega
        · rw [hi] at hown hwant
          simp only [if_true] at hown hwant
          have hi2 : p.r = r ∧ ¬ p.c = 3 := by simpa [isOwn] using hi
          have e0' : (p.r == (r : Int)) = true := by simp [hi2.1]
          have e1' : (p.c != 3) = true := by simp [hi2.2]
          have HOW : Hid (ownOf r (ps.take (k + 1)) = ownOf r (ps.take k) ++ [p] ∧ wantOf r (ps.take (k + 1)) (xs.take (k + 1)) = wantOf r (ps.take k) (xs.take k) ++ [x]) := ⟨hown, hwant⟩
          clear hown hwant hi hopA hxA hcx hi2
          go_upto_region 13 with fail
          have hlit := HasO.lit1 wr p
          have I1 := I.later (Le.alloc wr (.cells #[.int .i64 p.c, .int .i64 p.r, .int .i64 p.a] 43))
          go_wp2_with (first | (at_builtin; refine wp_append_ops rfl _ _ rfl W1.heap.size _ _ (ownOf r (ps.take k)) [p] rfl rfl I1.oy hlit (by have := HO2.out; simp; omega) I1.le.size ?_; intro v2 w2 o2 g2 _; have I2 := I1.left o2 g2; have c2 : w2.cell? ⟨bx, offx + k, none⟩ = some (.int .i64 x) := (by rw [I2.le.cell (p := ⟨bx, offx + k, none⟩) hblx, ← I.le.cell (p := ⟨bx, offx + k, none⟩) hblx]; exact hcx1); have hlit2 := Has.lit1 w2 x; have I3 := I2.later (Le.alloc w2 (.cells #[.int .i64 x] 3)); obtain ⟨q2, rfl⟩ := o2.has.sl) | (at_builtin; refine wp_append_ints rfl _ _ rfl W1.heap.size _ _ (wantOf r (ps.take k) (xs.take k)) [x] rfl rfl I3.oz hlit2 (by have := HO2.out; simp; omega) I3.le.size ?_; intro v3 w3 o3 g3; have I4 := I3.right o3 g3; obtain ⟨q3, rfl⟩ := o3.has.sl))
          rw [← HOW.out.1, ← HOW.out.2] at I4
          clear o2 g2 o3 g3 I1 I2 I3 c2 hlit hlit2
          go_roundw
          case rel => exact ⟨k + 1, by omega, by go_num, I4⟩
          case measure => simp [intOf]; omega
      · obtain rfl : k = L := by omega
        have hlen := HL.out
        have hlx := HX.out
        rw [List.take_of_length_le (by omega), List.take_of_length_le (by omega)] at I
        clear hlen hlx hopA hxA
        obtain ⟨qy, rfl⟩ := I.oy.has.sl
        obtain ⟨qz, rfl⟩ := I.oz.has.sl
        obtain ⟨x0, x1, x2, x3, _, _, _, _⟩ := (hb1.le I.le).st
        have hF3 := hF2 wr (slV qy) (hx.le I.le) I.oy.has
        simp only [if_true] at hF3
        go_wp2_with fail
        refine hF3.mono ?_
        rintro e w4 ⟨q4, z4, rfl, h4, i4, l4⟩
        have hA := Le.alloc w4 (.cells (cells4 q4) 25)
        go_wp2_with (go_at_call 15; refine (lawNum _ _).mono ?_; rintro e _ ⟨rfl, rfl⟩)
        refine (lawSameInts (slV z4) (slV qz) (wantOf r ps xs) (wantOf r ps xs) _ (i4.has.le hA) ((I.oz.has.le l4).le hA) (by have := HW.out; omega)).mono ?_
        rw [show decide (wantOf r ps xs = wantOf r ps xs) = true by simp]
        rintro e _ ⟨rfl, n6, rfl⟩
        go_wp2_with fail
        go_ret
        exact ⟨rfl, (((hl.trans I.le).trans l4).trans hA).trans (Le.drewN _ _)⟩

end Go.Proofs.Ytnpejgendmgfaaa
