/-
  THE WALK over choruslaw4.TableSets: it answers true, for every numbers, and turns nothing that was there. Condition: the slice's bytes are within the reach that every row bears.
-/
import Derived.Test.YtkppohpjlaeloaaFdAwake
import Derived.Test.YtkppohpjlaeloaaStPut2
import Derived.Test.YtkppohpjlaeloaaBits
import Derived.BigQuiet
import Derived.Deep.RegionHeld3
namespace Go.Proofs.Ytkppohpjlaeloaa
open Go.RowKit

/-- Four flags' cells. -/
abbrev bools4 (f : Nat → Bool) : Array Value := #[.bool (f 0), .bool (f 1), .bool (f 2), .bool (f 3)]
theorem bools4_at (f : Nat → Bool) {i : Nat} (h : i < 4) : (bools4 f)[i]? = some (.bool (f i)) := by
  rcases four h with rfl | rfl | rfl | rfl <;> rfl
def updB (f : Nat → Bool) (i : Nat) (v : Bool) : Nat → Bool := fun j => if j = i then v else f j
theorem bools4_upd (f : Nat → Bool) {i : Nat} (h : i < 4) (v : Bool) : (bools4 f).set! i (.bool v) = bools4 (updB f i v) := by
  rcases four h with rfl | rfl | rfl | rfl <;> simp [updB, bools4]
theorem bools4_same {f g : Nat → Bool} (h : ∀ i, i < 4 → f i = g i) : bools4 f = bools4 g := by
  simp [bools4, h 0, h 1, h 2, h 3]

/-- Is a number in the row? -/
def memB (xs : List Int) (i : Nat) : Bool := decide ((i : Int) ∈ xs)
/-- How many numbers of the row are below m. -/
def below (xs : List Int) (m : Nat) : Nat := (xs.filter fun y => decide (y < (m : Int))).length

theorem set_take : ∀ xs ∈ rowsAbove 4, ∀ k : Nat, k < 4 → (takeS xs k).2 = (if memB xs k then 1 else 0) ∧ ∀ i, i < 4 → memB (takeS xs k).1 i = updB (memB xs) k false i := by decide
theorem set_put : ∀ xs ∈ rowsAbove 4, (putS xs = (xs, -1) ∧ memB xs 0 = true ∧ memB xs 1 = true ∧ memB xs 2 = true ∧ memB xs 3 = true) ∨ (0 ≤ (putS xs).2 ∧ (putS xs).2 ≤ 3 ∧ memB xs (putS xs).2.toNat = false ∧ ∀ i : Nat, i < 4 → memB (putS xs).1 i = updB (memB xs) (putS xs).2.toNat true i) := by decide
theorem set_below : ∀ xs ∈ rowsAbove 4, below xs 4 = xs.length ∧ ∀ m : Nat, m < 4 → below xs (m + 1) = below xs m + (if memB xs m then 1 else 0) ∧ (memB xs m = true → below xs m < xs.length ∧ xs.getD (below xs m) 0 = m) := by decide

theorem below_rows : ∀ xs ∈ rowsAbove 4, below xs 0 = 0 := by decide
theorem below_zero (xs : List Int) (h : rowMay2 xs = true) : below xs 0 = 0 := below_rows xs (rowMay2_mem h)

/-- In the midst: the state's box, the box of the flags. -/
structure MidS (w : World) (g r : Nat) (wr : World) (st : St) (us : Nat → Sl) : Prop where
  le : Le w wr
  big : w.heap.size ≤ g
  state : Box wr g (cells4 us) 25
  flags : Box wr (g + 1) (bools4 (memB (st.at r))) 45
  rows : ∀ i, i < 4 → Own wr w.heap.size (slV (us i)) (st.at i)
  may : st.all rowMay2 = true

theorem MidS.later {w wr wr' : World} {g r : Nat} {st : St} {us : Nat → Sl} (h : MidS w g r wr st us) (hl : Le wr wr') : MidS w g r wr' st us :=
  ⟨h.le.trans hl, h.big, h.state.le hl, h.flags.le hl, fun i hi => (h.rows i hi).le hl, h.may⟩

set_option maxRecDepth 4000 in
set_option maxHeartbeats 4000000 in
theorem lawSets (w : World) (v : Value) (xs : List Int) (hx : Has w v xs) (hm : xs.length * 8 ≤ 140737488351232) (a0 : Int) :
    Calls Try.prog 8 #[v, .int .i64 a0] w fun e w' => e = .returned (.bool true) ∧ Le w w' := by
  obtain ⟨ad, cap, rfl, hcap, _, hcell⟩ := hx
  obtain ⟨L, hL⟩ : ∃ L, L = xs.length := ⟨_, rfl⟩
  rw [← hL] at hm hcap hcell ⊢
  have HL : Hid (L = xs.length) := hL
  clear hL
  obtain ⟨r, hr, r0⟩ : ∃ k : Nat, bits .and .i64 a0 3 = (k : Int) ∧ k < 4 := ⟨(a0 % 4).toNat, by rw [and3]; omega, by omega⟩
  go_enter Try.func8, Try.ntmps8
  go_wp2_with (go_at_call 15; refine (lawAwake4 _).mono ?_; rintro e w1 ⟨rfl, l1⟩)
  have hmid : MidS w w1.heap.size r ((w1.alloc (.cells (cells4 fun _ => slZ) 25)).alloc (.cells (bools4 fun _ => false) 45)) St.zero (fun _ => slZ) := by
    refine ⟨(l1.trans (Le.alloc _ _)).trans (Le.alloc _ _), l1.size, (Box.new _ _ _).le (Le.alloc _ _), ?_, fun i hi => ?_, by decide⟩
    · have := Box.new (w1.alloc (.cells (cells4 fun _ => slZ) 25)) (bools4 fun _ => false) 45
      rw [World.size_alloc] at this
      have e : bools4 (memB (St.zero.at r)) = bools4 (fun _ => false) := bools4_same (fun i _ => by rw [St.at_zero]; rfl)
      rw [e]
      exact this
    · rw [St.at_zero]; exact Own.nil _ _
  have i0 : (0 : Int) ≤ (r : Int) := by omega
  have i1 : (r : Int) < 4 := by omega
  go_loopw [8] (fun i wr => ∃ (j : Nat) (st : St) (us : Nat → Sl), j ≤ L ∧ j ≤ 40 ∧ i = .int .i64 j ∧ MidS w w1.heap.size r wr st us) (fun i _ => 40 - (intOf i).toNat)
  case atStart => exact ⟨0, _, _, by omega, by omega, rfl, hmid⟩
  case round =>
    clear hmid
    obtain ⟨j, st, us, hj, hj', rfl, hmid⟩ := hrel
    have hmr := St.all_at hmid.may r0
    by_cases hgo : j < L ∧ j < 40
    · obtain ⟨hlt, hlt'⟩ := hgo
      obtain ⟨b, off, rfl, hcl⟩ := hcell (by omega)
      obtain ⟨x, hxk⟩ : ∃ x, x = xs.getD j 0 := ⟨_, rfl⟩
      have hcx := hcl j hlt
      rw [← hxk] at hcx
      have hblt := World.block_lt_of_cell? w _ hcx
      have c1 : wr.cell? ⟨b, off + j, none⟩ = some (.int .i64 x) := by rw [hmid.le.cell (p := ⟨b, off + j, none⟩) hblt]; exact hcx
      clear hxk hcl hcell
      have hjL : (j : Int) < (L : Int) := by omega
      have hj40 : (j : Int) < 40 := by omega
      rcases (by omega : x % 2 = 1 ∨ x % 2 = 0) with hc | hc
      · have hc' : bits .and .i64 x 1 = 1 := by rw [and1]; exact hc
        obtain ⟨k, hk, k0⟩ : ∃ k : Nat, bits .and .i64 (x / 2) 3 = (k : Int) ∧ k < 4 := ⟨((x / 2) % 4).toNat, by rw [and3]; omega, by omega⟩
        clear hc
        have e1 := fdsS_second (er := 400) (a := (k : Int)) hmid.may r0 (by omega)
        obtain ⟨t1, t2⟩ := set_take _ (rowMay2_mem hmr) k k0
        obtain ⟨z, hz⟩ : ∃ z, z = (takeS (st.at r) k).2 := ⟨_, rfl⟩
        obtain ⟨ys, hys⟩ : ∃ ys, ys = (takeS (st.at r) k).1 := ⟨_, rfl⟩
        have hmy : rowMay2 ys = true := by rw [hys]; exact take_may hmr
        rw [← hz, ← hys] at e1
        rw [← hz] at t1
        simp only [← hys] at t2
        have hm1 : (st.put r ys).all rowMay2 = true := St.all_put hmid.may r0 hmy
        have zb : (z == 1) = memB (st.at r) k := by rw [t1]; cases memB (st.at r) k <;> rfl
        have T2 : Hid (∀ i, i < 4 → memB ys i = updB (memB (st.at r)) k false i) := t2
        have j0 : (0 : Int) ≤ (k : Int) := by omega
        have j1 : (k : Int) < 4 := by omega
        clear t1 t2 hz hys hmy hmr
        obtain ⟨z0, z1, z2, z3, _, _, _, _⟩ := hmid.state.st
        go_wp2_with fail
        refine (fdsApply (stV us) st 1 r k _ (OwnS.has ⟨us, rfl, hmid.rows⟩) (may_all2 hmid.may)).mono ?_
        rw [e1]
        rintro e w2 ⟨_, rfl, ⟨q2, rfl, o2⟩, l2⟩
        replace o2 := fun i hi => (o2 i hi).base (base' := w.heap.size) hmid.le.size
        have n1 := (hmid.later l2).flags.lt
        have hb9 := Box.new w2 (cells4 q2) 25
        replace l2 := l2.trans (Le.alloc w2 (.cells (cells4 q2) 25))
        replace o2 := fun i hi => (o2 i hi).le (Le.alloc w2 (.cells (cells4 q2) 25))
        replace hmid := hmid.later l2
        clear l2 z0 z1 z2 z3 c1 e1
        go_upto_region 12 with fail
        generalize hW : w2.alloc (.cells (cells4 q2) 25) = W2 at hb9 o2 hmid ⊢
        clear hW
        have t1 := (hmid.flags.cell k).trans (bools4_at _ k0)
        have tf := hmid.flags.frozen k
        rw [← zb] at t1
        go_upto_region 15 with (go_at_call 13; refine (lawNum _ _).mono ?_; rintro e _ ⟨rfl, rfl⟩)
        replace hb9 := hb9.other (g' := w1.heap.size + 1) (by omega) k (.bool false)
        replace o2 := fun i hi => (o2 i hi).setBox (i := k) (u := .bool false) hmid.flags (by decide)
        have hb3 := hmid.state.other (g' := w1.heap.size + 1) (by omega) k (.bool false)
        have hb4 := hmid.flags.set k (.bool false)
        rw [bools4_upd _ k0] at hb4
        have l3 : Le w (W2.setCell ⟨w1.heap.size + 1, k, none⟩ (.bool false)) := Below.setCell hmid.le (by have := hmid.big; show w.heap.size ≤ w1.heap.size + 1; omega) _
        generalize hW : W2.setCell ⟨w1.heap.size + 1, k, none⟩ (.bool false) = W3 at hb9 o2 hb3 hb4 l3 ⊢
        have big := hmid.big
        clear hW t1 tf hmid
        obtain ⟨z0, z1, z2, z3, g0, g1, g2, g3⟩ := hb3.st
        obtain ⟨x0, x1, x2, x3, _, _, _, _⟩ := hb9.st
        go_wp2_with fail
        go_roundw
        case rel =>
          refine ⟨j + 1, st.put r ys, q2, by omega, by omega, by go_num, ?_⟩
          refine ⟨l3.set4 big _ _ _ _, big, ?_, ?_, fun i hi => (o2 i hi).set4 hb3 (by decide) _ _ _ _, hm1⟩
          · exact (((hb3.set 0 _).set 1 _).set 2 _).set 3 _
          · rw [St.put_at r0, bools4_same T2.out]
            exact (((hb4.other (by omega) 0 _).other (by omega) 1 _).other (by omega) 2 _).other (by omega) 3 _
        case measure => simp [intOf]; omega
      · have hc' : bits .and .i64 x 1 = 0 := by rw [and1]; exact hc
        obtain ⟨y, hy, y0⟩ : ∃ m, bits .and .i64 (x / 2) 255 = m ∧ 0 ≤ m ∧ m ≤ 255 := ⟨_, and255 _, by omega, by omega⟩
        clear hc
        have e1 := fdsS_first (er := 400) hmid.may r0 y0
        obtain ⟨z0, z1, z2, z3, _, _, _, _⟩ := hmid.state.st
        go_upto_region 16 with fail
        have hapA := fdsApply (stV us) st 0 r y wr.drew (OwnS.has ⟨us, rfl, fun i hi => (hmid.rows i hi).le (Le.drew _)⟩) (may_all2 hmid.may)
        have hapB := fdsApply (stV us) st 0 r y (wr.alloc (.cells (cells4 fun _ => slZ) 25)).drew (OwnS.has ⟨us, rfl, fun i hi => (hmid.rows i hi).le ((Le.alloc _ _).trans (Le.drew _))⟩) (may_all2 hmid.may)
        rw [e1] at hapA hapB
        have n4 : ¬ wr.heap.size = w1.heap.size := by have := hmid.state.lt; omega
        have n5 : ¬ wr.heap.size = b := by have := hmid.le.size; have : b < w.heap.size := hblt; omega
        go_region_held3 (fun w' => w'.cell? ⟨w1.heap.size, 0, none⟩ = some (slV (us 0)) ∧ w'.cell? ⟨w1.heap.size, 1, none⟩ = some (slV (us 1)) ∧ w'.cell? ⟨w1.heap.size, 2, none⟩ = some (slV (us 2)) ∧ w'.cell? ⟨w1.heap.size, 3, none⟩ = some (slV (us 3)) ∧ w'.cell? ⟨b, off + j, none⟩ = some (.int .i64 x)) (go_keep) (first
          | (go_at_call 10; refine hapA.mono ?_; rintro e w2 ⟨_, rfl, ⟨q2, rfl, o2⟩, l2⟩; have m2 := hmid.later ((Le.drew wr).trans l2); obtain ⟨p0, p1, p2, p3, _, _, _, _⟩ := m2.state.st; have n1 := m2.flags.lt; have c2 : w2.cell? ⟨b, off + j, none⟩ = some (.int .i64 x) := (by rw [m2.le.cell (p := ⟨b, off + j, none⟩) hblt]; exact hcx); have n2 : ¬ w2.heap.size = w1.heap.size := (by omega); have n3 : ¬ w2.heap.size = b := (by have := m2.le.size; have : b < w.heap.size := hblt; omega))
          | (go_at_call 10; refine hapB.mono ?_; rintro e w2 ⟨_, rfl, ⟨q2, rfl, o2⟩, l2⟩; have m2 := hmid.later (((Le.alloc wr (.cells (cells4 fun _ => slZ) 25)).trans (Le.drew _)).trans l2); obtain ⟨p0, p1, p2, p3, _, _, _, _⟩ := m2.state.st; have n1 := m2.flags.lt; have c2 : w2.cell? ⟨b, off + j, none⟩ = some (.int .i64 x) := (by rw [m2.le.cell (p := ⟨b, off + j, none⟩) hblt]; exact hcx); have hbz : Box w2 wr.heap.size (cells4 fun _ => slZ) 25 := ((Box.new wr (cells4 fun _ => slZ) 25).le (Le.drew _)).le l2; obtain ⟨v0, v1, v2, v3, g0, g1, g2, g3⟩ := hbz.st))
        all_goals clear hapA hapB z0 z1 z2 z3 e1
        · have n9 : w1.heap.size + 1 < w2.heap.size := n1
          have hb9 := Box.new w2 (cells4 q2) 25
          replace o2 := fun i hi => ((o2 i hi).base (base' := w.heap.size) hmid.le.size).le (Le.alloc w2 (.cells (cells4 q2) 25))
          have hm3 := m2.later (Le.alloc w2 (.cells (cells4 q2) 25))
          generalize hW : w2.alloc (.cells (cells4 q2) 25) = W2 at hb9 o2 hm3 ⊢
          generalize w2.heap.size = g9 at n9 hb9 o2 hm3 ⊢
          clear hW m2 n1 p0 p1 p2 p3 c2
          rcases set_put _ (rowMay2_mem hmr) with ⟨hp, t0, t1, t2, t3⟩ | ⟨t0, t1, t2, t3⟩
          · rw [hp]
            rw [hp] at o2
            simp only [St.put_same r0] at o2
            have f0 : W2.cell? ⟨w1.heap.size + 1, 0, none⟩ = some (.bool true) := by rw [hm3.flags.cell 0, bools4_at _ (by omega), t0]
            have f1 : W2.cell? ⟨w1.heap.size + 1, 1, none⟩ = some (.bool true) := by rw [hm3.flags.cell 1, bools4_at _ (by omega), t1]
            have f2 : W2.cell? ⟨w1.heap.size + 1, 2, none⟩ = some (.bool true) := by rw [hm3.flags.cell 2, bools4_at _ (by omega), t2]
            have f3 : W2.cell? ⟨w1.heap.size + 1, 3, none⟩ = some (.bool true) := by rw [hm3.flags.cell 3, bools4_at _ (by omega), t3]
            clear hp t0 t1 t2 t3 hmr hmid
            go_upto_region 21 with (go_at_call 13; refine (lawNum _ _).mono ?_; rintro e _ ⟨rfl, rfl⟩)
            clear f0 f1 f2 f3
            obtain ⟨z0, z1, z2, z3, g0, g1, g2, g3⟩ := hm3.state.st
            obtain ⟨x0, x1, x2, x3, _, _, _, _⟩ := hb9.st
            go_wp2_with fail
            go_roundw
            case rel =>
              refine ⟨j + 1, st, q2, by omega, by omega, by go_num, ?_⟩
              refine ⟨hm3.le.set4 hm3.big _ _ _ _, hm3.big, ?_, ?_, fun i hi => (o2 i hi).set4 hm3.state (by decide) _ _ _ _, hm3.may⟩
              · exact (((hm3.state.set 0 _).set 1 _).set 2 _).set 3 _
              · exact (((hm3.flags.other (by omega) 0 _).other (by omega) 1 _).other (by omega) 2 _).other (by omega) 3 _
            case measure => simp [intOf]; omega
          · obtain ⟨m, hmm⟩ : ∃ m : Nat, (putS (st.at r)).2 = m := ⟨(putS (st.at r)).2.toNat, by omega⟩
            obtain ⟨ys, hys⟩ : ∃ ys, ys = (putS (st.at r)).1 := ⟨_, rfl⟩
            have hmy : rowMay2 ys = true := by rw [hys]; exact put_may hmr
            have hm1 : (st.put r ys).all rowMay2 = true := St.all_put hmid.may r0 hmy
            rw [hmm] at t0 t1 t2 t3 ⊢
            simp only [← hys, Int.toNat_natCast] at o2 t3
            simp only [Int.toNat_natCast] at t2
            have T3 : Hid (∀ i, i < 4 → memB ys i = updB (memB (st.at r)) m true i) := t3
            have m4 : m < 4 := by omega
            have f0 : W2.cell? ⟨w1.heap.size + 1, m, none⟩ = some (.bool false) := by rw [hm3.flags.cell m, bools4_at _ m4, t2]
            have tf := hm3.flags.frozen m
            have m0 : (0 : Int) ≤ (m : Int) := by omega
            have m5 : (m : Int) < 4 := by omega
            have m6 : ¬ (m : Int) = -1 := by omega
            have m7 : ¬ (m : Int) < -1 := by omega
            have m8 : (m : Int) ≤ 3 := by omega
            clear t0 t1 t2 t3 hmm hys hmy hmr hmid
            go_upto_region 21 with (go_at_call 13; refine (lawNum _ _).mono ?_; rintro e _ ⟨rfl, rfl⟩)
            replace hb9 := hb9.other (g' := w1.heap.size + 1) (by omega) m (.bool true)
            replace o2 := fun i hi => (o2 i hi).setBox (i := m) (u := .bool true) hm3.flags (by decide)
            have hb3 := hm3.state.other (g' := w1.heap.size + 1) (by omega) m (.bool true)
            have hb4 := hm3.flags.set m (.bool true)
            rw [bools4_upd _ m4] at hb4
            have l3 : Le w (W2.setCell ⟨w1.heap.size + 1, m, none⟩ (.bool true)) := Below.setCell hm3.le (by have := hm3.big; show w.heap.size ≤ w1.heap.size + 1; omega) _
            generalize hW : W2.setCell ⟨w1.heap.size + 1, m, none⟩ (.bool true) = W3 at hb9 o2 hb3 hb4 l3 ⊢
            have big := hm3.big
            clear hW f0 tf hm3
            obtain ⟨z0, z1, z2, z3, g0, g1, g2, g3⟩ := hb3.st
            obtain ⟨x0, x1, x2, x3, _, _, _, _⟩ := hb9.st
            go_wp2_with fail
            go_roundw
            case rel =>
              refine ⟨j + 1, st.put r ys, q2, by omega, by omega, by go_num, ?_⟩
              refine ⟨l3.set4 big _ _ _ _, big, ?_, ?_, fun i hi => (o2 i hi).set4 hb3 (by decide) _ _ _ _, hm1⟩
              · exact (((hb3.set 0 _).set 1 _).set 2 _).set 3 _
              · rw [St.put_at r0, bools4_same T3.out]
                exact (((hb4.other (by omega) 0 _).other (by omega) 1 _).other (by omega) 2 _).other (by omega) 3 _
            case measure => simp [intOf]; omega
        · have n9 : w1.heap.size + 1 < wr.heap.size := hmid.flags.lt
          have hb9 : Box ((((w2.setCell ⟨wr.heap.size, 0, none⟩ (slV (q2 0))).setCell ⟨wr.heap.size, 1, none⟩ (slV (q2 1))).setCell ⟨wr.heap.size, 2, none⟩ (slV (q2 2))).setCell ⟨wr.heap.size, 3, none⟩ (slV (q2 3))) wr.heap.size (cells4 q2) 25 := (((hbz.set 0 _).set 1 _).set 2 _).set 3 _
          replace o2 := fun i hi => ((o2 i hi).base (base' := w.heap.size) (Nat.le_trans hmid.le.size (Le.alloc wr (.cells (cells4 fun _ => slZ) 25)).size)).set4 hbz (by decide) (slV (q2 0)) (slV (q2 1)) (slV (q2 2)) (slV (q2 3))
          have hm3 : MidS w w1.heap.size r ((((w2.setCell ⟨wr.heap.size, 0, none⟩ (slV (q2 0))).setCell ⟨wr.heap.size, 1, none⟩ (slV (q2 1))).setCell ⟨wr.heap.size, 2, none⟩ (slV (q2 2))).setCell ⟨wr.heap.size, 3, none⟩ (slV (q2 3))) st us :=
            ⟨m2.le.set4 hmid.le.size _ _ _ _, m2.big, (((m2.state.other (by omega) _ _).other (by omega) _ _).other (by omega) _ _).other (by omega) _ _, (((m2.flags.other (by omega) _ _).other (by omega) _ _).other (by omega) _ _).other (by omega) _ _, fun i hi => (m2.rows i hi).set4 hbz (by decide) _ _ _ _, m2.may⟩
          generalize hW : (((w2.setCell ⟨wr.heap.size, 0, none⟩ (slV (q2 0))).setCell ⟨wr.heap.size, 1, none⟩ (slV (q2 1))).setCell ⟨wr.heap.size, 2, none⟩ (slV (q2 2))).setCell ⟨wr.heap.size, 3, none⟩ (slV (q2 3)) = W2 at hb9 o2 hm3 ⊢
          clear hbz v0 v1 v2 v3 g0 g1 g2 g3
          generalize wr.heap.size = g9 at n9 hb9 o2 hm3 ⊢
          clear hW m2 n1 p0 p1 p2 p3 c2
          rcases set_put _ (rowMay2_mem hmr) with ⟨hp, t0, t1, t2, t3⟩ | ⟨t0, t1, t2, t3⟩
          · rw [hp]
            rw [hp] at o2
            simp only [St.put_same r0] at o2
            have f0 : W2.cell? ⟨w1.heap.size + 1, 0, none⟩ = some (.bool true) := by rw [hm3.flags.cell 0, bools4_at _ (by omega), t0]
            have f1 : W2.cell? ⟨w1.heap.size + 1, 1, none⟩ = some (.bool true) := by rw [hm3.flags.cell 1, bools4_at _ (by omega), t1]
            have f2 : W2.cell? ⟨w1.heap.size + 1, 2, none⟩ = some (.bool true) := by rw [hm3.flags.cell 2, bools4_at _ (by omega), t2]
            have f3 : W2.cell? ⟨w1.heap.size + 1, 3, none⟩ = some (.bool true) := by rw [hm3.flags.cell 3, bools4_at _ (by omega), t3]
            clear hp t0 t1 t2 t3 hmr hmid
            go_upto_region 21 with (go_at_call 13; refine (lawNum _ _).mono ?_; rintro e _ ⟨rfl, rfl⟩)
            clear f0 f1 f2 f3
            obtain ⟨z0, z1, z2, z3, g0, g1, g2, g3⟩ := hm3.state.st
            obtain ⟨x0, x1, x2, x3, _, _, _, _⟩ := hb9.st
            go_wp2_with fail
            go_roundw
            case rel =>
              refine ⟨j + 1, st, q2, by omega, by omega, by go_num, ?_⟩
              refine ⟨hm3.le.set4 hm3.big _ _ _ _, hm3.big, ?_, ?_, fun i hi => (o2 i hi).set4 hm3.state (by decide) _ _ _ _, hm3.may⟩
              · exact (((hm3.state.set 0 _).set 1 _).set 2 _).set 3 _
              · exact (((hm3.flags.other (by omega) 0 _).other (by omega) 1 _).other (by omega) 2 _).other (by omega) 3 _
            case measure => simp [intOf]; omega
          · obtain ⟨m, hmm⟩ : ∃ m : Nat, (putS (st.at r)).2 = m := ⟨(putS (st.at r)).2.toNat, by omega⟩
            obtain ⟨ys, hys⟩ : ∃ ys, ys = (putS (st.at r)).1 := ⟨_, rfl⟩
            have hmy : rowMay2 ys = true := by rw [hys]; exact put_may hmr
            have hm1 : (st.put r ys).all rowMay2 = true := St.all_put hmid.may r0 hmy
            rw [hmm] at t0 t1 t2 t3 ⊢
            simp only [← hys, Int.toNat_natCast] at o2 t3
            simp only [Int.toNat_natCast] at t2
            have T3 : Hid (∀ i, i < 4 → memB ys i = updB (memB (st.at r)) m true i) := t3
            have m4 : m < 4 := by omega
            have f0 : W2.cell? ⟨w1.heap.size + 1, m, none⟩ = some (.bool false) := by rw [hm3.flags.cell m, bools4_at _ m4, t2]
            have tf := hm3.flags.frozen m
            have m0 : (0 : Int) ≤ (m : Int) := by omega
            have m5 : (m : Int) < 4 := by omega
            have m6 : ¬ (m : Int) = -1 := by omega
            have m7 : ¬ (m : Int) < -1 := by omega
            have m8 : (m : Int) ≤ 3 := by omega
            clear t0 t1 t2 t3 hmm hys hmy hmr hmid
            go_upto_region 21 with (go_at_call 13; refine (lawNum _ _).mono ?_; rintro e _ ⟨rfl, rfl⟩)
            replace hb9 := hb9.other (g' := w1.heap.size + 1) (by omega) m (.bool true)
            replace o2 := fun i hi => (o2 i hi).setBox (i := m) (u := .bool true) hm3.flags (by decide)
            have hb3 := hm3.state.other (g' := w1.heap.size + 1) (by omega) m (.bool true)
            have hb4 := hm3.flags.set m (.bool true)
            rw [bools4_upd _ m4] at hb4
            have l3 : Le w (W2.setCell ⟨w1.heap.size + 1, m, none⟩ (.bool true)) := Below.setCell hm3.le (by have := hm3.big; show w.heap.size ≤ w1.heap.size + 1; omega) _
            generalize hW : W2.setCell ⟨w1.heap.size + 1, m, none⟩ (.bool true) = W3 at hb9 o2 hb3 hb4 l3 ⊢
            have big := hm3.big
            clear hW f0 tf hm3
            obtain ⟨z0, z1, z2, z3, g0, g1, g2, g3⟩ := hb3.st
            obtain ⟨x0, x1, x2, x3, _, _, _, _⟩ := hb9.st
            go_wp2_with fail
            go_roundw
            case rel =>
              refine ⟨j + 1, st.put r ys, q2, by omega, by omega, by go_num, ?_⟩
              refine ⟨l3.set4 big _ _ _ _, big, ?_, ?_, fun i hi => (o2 i hi).set4 hb3 (by decide) _ _ _ _, hm1⟩
              · exact (((hb3.set 0 _).set 1 _).set 2 _).set 3 _
              · rw [St.put_at r0, bools4_same T3.out]
                exact (((hb4.other (by omega) 0 _).other (by omega) 1 _).other (by omega) 2 _).other (by omega) 3 _
            case measure => simp [intOf]; omega
    · obtain ⟨s1, s2⟩ := set_below _ (rowMay2_mem hmr)
      have s0 : below (st.at r) 0 = 0 := below_zero (st.at r) hmr
      have hlr := rowMay2_len hmr
      have c3 := (hmid.state.cell r).trans (cells4_at us r0)
      obtain ⟨adr, capr, her, hcr, _, hcellr⟩ := (hmid.rows r r0).has
      obtain ⟨n, hn⟩ : ∃ n, n = (st.at r).length := ⟨_, rfl⟩
      rw [her, ← hn] at c3
      rw [← hn] at s1 hcr hcellr hlr
      have HN : Hid (n = (st.at r).length) := hn
      have S1 : Hid (below (st.at r) 4 = n) := s1
      have S2 : Hid (∀ m : Nat, m < 4 → below (st.at r) (m + 1) = below (st.at r) m + (if memB (st.at r) m then 1 else 0) ∧ (memB (st.at r) m = true → below (st.at r) m < (st.at r).length ∧ (st.at r).getD (below (st.at r) m) 0 = m)) := s2
      clear s1 s2 hn her hmr
      have hex : (¬ j < L) ∨ (j < L ∧ ¬ j < 40) := by omega
      rcases hex with h | ⟨h, h'⟩
      · have h1 : ¬ (j : Int) < (L : Int) := by omega
        go_wp2
        go_loop [16, 17] (fun t i => ∃ m : Nat, m ≤ 4 ∧ i = .int .i64 m ∧ t = .int .i64 (below (st.at r) m)) (fun _ i => 4 - (intOf i).toNat)
        case atStart => exact ⟨0, by omega, rfl, by rw [s0]; rfl⟩
        case round =>
          obtain ⟨m, hm4, rfl, rfl⟩ := hrel
          by_cases hlt2 : m < 4
          · obtain ⟨s3, s4⟩ := S2.out m hlt2
            have c2 := (hmid.flags.cell m).trans (bools4_at _ hlt2)
            obtain ⟨t, ht⟩ : ∃ t, t = below (st.at r) m := ⟨_, rfl⟩
            rw [← ht] at s3 s4 ⊢
            have m0 : (0 : Int) ≤ (m : Int) := by omega
            have m1 : (m : Int) < 4 := by omega
            cases hb : memB (st.at r) m
            · rw [hb] at c2 s3
              have HS : Hid (below (st.at r) (m + 1) = t) := s3
              clear s3 s4 ht hb hcellr
              go_wp2
              go_round
              case rel => exact ⟨m + 1, by omega, by go_num, by rw [HS.out]⟩
              case measure => simp [intOf]; omega
            · rw [hb] at c2 s3
              obtain ⟨s5, s6⟩ := s4 hb
              rw [← HN.out] at s5
              obtain ⟨b2, off2, rfl, hcl2⟩ := hcellr (by omega)
              have c4 := hcl2 t s5
              rw [s6] at c4
              have HS : Hid (below (st.at r) (m + 1) = t + 1) := s3
              have t0 : (0 : Int) ≤ (t : Int) := by omega
              have t1 : (t : Int) < (n : Int) := by omega
              clear s3 s4 s6 ht hb hcellr hcl2
              go_wp2
              go_round
              case rel => exact ⟨m + 1, by omega, by go_num, by rw [HS.out]; go_num⟩
              case measure => simp [intOf]; omega
          · obtain rfl : m = 4 := by omega
            rw [show below (st.at r) 4 = n from S1.out]
            clear hcellr
            go_wp2
            go_ret
            exact ⟨ret_bool (by simp), hmid.le⟩
      · have h1 : (j : Int) < (L : Int) := by omega
        have h2 : ¬ (j : Int) < 40 := by omega
        go_wp2
        go_loop [16, 17] (fun t i => ∃ m : Nat, m ≤ 4 ∧ i = .int .i64 m ∧ t = .int .i64 (below (st.at r) m)) (fun _ i => 4 - (intOf i).toNat)
        case atStart => exact ⟨0, by omega, rfl, by rw [s0]; rfl⟩
        case round =>
          obtain ⟨m, hm4, rfl, rfl⟩ := hrel
          by_cases hlt2 : m < 4
          · obtain ⟨s3, s4⟩ := S2.out m hlt2
            have c2 := (hmid.flags.cell m).trans (bools4_at _ hlt2)
            obtain ⟨t, ht⟩ : ∃ t, t = below (st.at r) m := ⟨_, rfl⟩
            rw [← ht] at s3 s4 ⊢
            have m0 : (0 : Int) ≤ (m : Int) := by omega
            have m1 : (m : Int) < 4 := by omega
            cases hb : memB (st.at r) m
            · rw [hb] at c2 s3
              have HS : Hid (below (st.at r) (m + 1) = t) := s3
              clear s3 s4 ht hb hcellr
              go_wp2
              go_round
              case rel => exact ⟨m + 1, by omega, by go_num, by rw [HS.out]⟩
              case measure => simp [intOf]; omega
            · rw [hb] at c2 s3
              obtain ⟨s5, s6⟩ := s4 hb
              rw [← HN.out] at s5
              obtain ⟨b2, off2, rfl, hcl2⟩ := hcellr (by omega)
              have c4 := hcl2 t s5
              rw [s6] at c4
              have HS : Hid (below (st.at r) (m + 1) = t + 1) := s3
              have t0 : (0 : Int) ≤ (t : Int) := by omega
              have t1 : (t : Int) < (n : Int) := by omega
              clear s3 s4 s6 ht hb hcellr hcl2
              go_wp2
              go_round
              case rel => exact ⟨m + 1, by omega, by go_num, by rw [HS.out]; go_num⟩
              case measure => simp [intOf]; omega
          · obtain rfl : m = 4 := by omega
            rw [show below (st.at r) 4 = n from S1.out]
            clear hcellr
            go_wp2
            go_ret
            exact ⟨ret_bool (by simp), hmid.le⟩

end Go.Proofs.Ytkppohpjlaeloaa
