/-
  THE WALK over choruslaw3.StoreRows: it answers true, for every numbers, and turns nothing that was there. Condition: the slice's bytes are within the reach that every row bears.
-/
import Derived.Test.YtdcmmchlmjhgjaaStAwake
import Derived.Test.YtdcmmchlmjhgjaaStPut
import Derived.Test.YtdcmmchlmjhgjaaBits
import Derived.BigQuiet
namespace Go.Proofs.Ytdcmmchlmjhgjaa
open Go.RowKit

/-- Four numbers' cells. -/
abbrev nums4 (f : Nat → Int) : Array Value := #[.int .i64 (f 0), .int .i64 (f 1), .int .i64 (f 2), .int .i64 (f 3)]
theorem nums4_at (f : Nat → Int) {i : Nat} (h : i < 4) : (nums4 f)[i]? = some (.int .i64 (f i)) := by
  rcases four h with rfl | rfl | rfl | rfl <;> rfl
def updI (f : Nat → Int) (i : Nat) (v : Int) : Nat → Int := fun j => if j = i then v else f j
theorem nums4_upd (f : Nat → Int) {i : Nat} (h : i < 4) (v : Int) : (nums4 f).set! i (.int .i64 v) = nums4 (updI f i v) := by
  rcases four h with rfl | rfl | rfl | rfl <;> simp [updI, nums4]
theorem nums4_same {f g : Nat → Int} (h : ∀ i, i < 4 → f i = g i) : nums4 f = nums4 g := by
  simp [nums4, h 0, h 1, h 2, h 3]

/-- In the midst: the state's box, the box of what is awaited. -/
structure Mid (w : World) (g : Nat) (wr : World) (st : St) (us : Nat → Sl) : Prop where
  le : Le w wr
  big : w.heap.size ≤ g
  state : Box wr g (cells4 us) 25
  want : Box wr (g + 1) (nums4 fun i => firstS (st.at i)) 44
  rows : ∀ i, i < 4 → Own wr w.heap.size (slV (us i)) (st.at i)
  may : st.all rowMay1 = true
  fit : Fit st

theorem Mid.later {w wr wr' : World} {g : Nat} {st : St} {us : Nat → Sl} (h : Mid w g wr st us) (hl : Le wr wr') : Mid w g wr' st us :=
  ⟨h.le.trans hl, h.big, h.state.le hl, h.want.le hl, fun i hi => (h.rows i hi).le hl, h.may, h.fit⟩

set_option maxRecDepth 4000 in
set_option maxHeartbeats 2000000 in
theorem lawRows3 (w : World) (v : Value) (xs : List Int) (hx : Has w v xs) (hm : xs.length * 8 ≤ 140737488351232) :
    Calls Try.prog 7 #[v] w fun e w' => e = .returned (.bool true) ∧ Le w w' := by
  have hx0 := hx
  obtain ⟨ad, cap, rfl, hcap, _, hcell⟩ := hx
  obtain ⟨L, hL⟩ : ∃ L, L = xs.length := ⟨_, rfl⟩
  rw [← hL] at hm hcap hcell ⊢
  have HL : Hid (L = xs.length) := hL
  clear hL
  go_enter Try.func7, Try.ntmps7
  go_wp2_with (go_at_call 14; refine (lawAwake3 _).mono ?_; rintro e w1 ⟨rfl, l1⟩)
  have hmid : Mid w w1.heap.size ((w1.alloc (.cells (cells4 fun _ => slZ) 25)).alloc (.cells (nums4 fun _ => -1) 44)) St.zero (fun _ => slZ) := by
    refine ⟨(l1.trans (Le.alloc _ _)).trans (Le.alloc _ _), l1.size, (Box.new _ _ _).le (Le.alloc _ _), ?_, fun i hi => ?_, may_zero, fit_zero⟩
    · have := Box.new (w1.alloc (.cells (cells4 fun _ => slZ) 25)) (nums4 fun _ => -1) 44
      rw [World.size_alloc] at this
      have e : nums4 (fun i => firstS (St.zero.at i)) = nums4 (fun _ => -1) := nums4_same (fun i _ => by rw [St.at_zero]; rfl)
      rw [e]
      exact this
    · rw [St.at_zero]; exact Own.nil _ _
  go_loopw [5] (fun i wr => ∃ (j : Nat) (st : St) (us : Nat → Sl), j ≤ L ∧ j ≤ 40 ∧ i = .int .i64 j ∧ Mid w w1.heap.size wr st us) (fun i _ => 40 - (intOf i).toNat)
  case atStart => exact ⟨0, _, _, by omega, by omega, rfl, hmid⟩
  case round =>
    clear hmid
    obtain ⟨j, st, us, hj, hj', rfl, hmid⟩ := hrel
    by_cases hlt : j < L
    · by_cases hlt' : j < 40
      · obtain ⟨b, off, rfl, hcl⟩ := hcell (by omega)
        obtain ⟨x, hxk⟩ : ∃ x, x = xs.getD j 0 := ⟨_, rfl⟩
        have hcx := hcl j hlt
        rw [← hxk] at hcx
        have hblt := World.block_lt_of_cell? w _ hcx
        have c1 : wr.cell? ⟨b, off + j, none⟩ = some (.int .i64 x) := by rw [hmid.le.cell (p := ⟨b, off + j, none⟩) hblt]; exact hcx
        clear hxk hcl hcell
        obtain ⟨k, hk, k0⟩ : ∃ k : Nat, bits .and .i64 x 3 = (k : Int) ∧ k < 4 := ⟨(x % 4).toNat, by rw [and3]; omega, by omega⟩
        obtain ⟨y, hy, y0⟩ : ∃ m, bits .and .i64 (x / 16) 255 = m ∧ 0 ≤ m ∧ m ≤ 255 := ⟨_, and255 _, by omega, by omega⟩
        have hjL : (j : Int) < (L : Int) := by omega
        have hj40 : (j : Int) < 40 := by omega
        go_wp2
        go_quiet (fail)
        have lq := Le.drewN wr nq
        replace hmid := hmid.later lq
        replace c1 : (wr.drewN nq).cell? ⟨b, off + j, none⟩ = some (.int .i64 x) := c1
        generalize hW : wr.drewN nq = W0 at hmid c1 ⊢
        clear hW lq hcx hblt
        rcases (by omega : x / 4 % 2 = 0 ∨ x / 4 % 2 = 1) with hc | hc
        · have hc' : bits .and .i64 (x / 4) 1 = 0 := by rw [and1]; exact hc
          clear hc
          have e1 := stoS_first (er := 300) hmid.may k0 y0
          have m1 : (st.put k [y]).all rowMay1 = true := St.all_put' k0 hmid.may (may_one y0)
          have f1 : Fit (st.put k [y]) := hmid.fit.put k0 (by simp)
          have hb8 := Box.new W0 #[.int .i64 0, .int .i64 k, .int .i64 y] 27
          have hA := Le.alloc W0 (.cells #[.int .i64 0, .int .i64 k, .int .i64 y] 27)
          obtain ⟨z0, z1, z2, z3, _, _, _, _⟩ := (hmid.later hA).state.st
          go_wp2_with fail
          refine (storeApply (stV us) st 0 k y _ (OwnS.has ⟨us, rfl, (hmid.later hA).rows⟩) hmid.fit).mono ?_
          rw [e1]
          rintro e w2 ⟨_, rfl, ⟨q2, rfl, o2⟩, l2⟩
          replace o2 := fun i hi => (o2 i hi).base (base' := w.heap.size) (hmid.later hA).le.size
          clear z0 z1 z2 z3 c1
          have hb9 := Box.new w2 (cells4 q2) 25
          have n1 := (hmid.later (hA.trans l2)).want.lt
          have n2 := hb8.lt
          have n3 := hmid.want.lt
          have n4 := (hb8.le l2).lt
          replace l2 := l2.trans (Le.alloc w2 (.cells (cells4 q2) 25))
          replace hb8 := hb8.le l2
          replace o2 := fun i hi => (o2 i hi).le (Le.alloc w2 (.cells (cells4 q2) 25))
          replace hmid := hmid.later (hA.trans l2)
          clear hA l2
          go_upto_region 11 with fail
          generalize hW : w2.alloc (.cells (cells4 q2) 25) = W2 at hb8 hb9 o2 hmid ⊢
          clear hW
          have t1 := (hmid.want.cell k).trans (nums4_at _ k0)
          have tf := hmid.want.frozen k
          go_upto_region 14 with (go_at_call 12; refine (lawNum _ _).mono ?_; rintro e _ ⟨rfl, rfl⟩)
          replace hb8 := hb8.other (g' := w1.heap.size + 1) (by omega) k (.int .i64 y)
          replace hb9 := hb9.other (g' := w1.heap.size + 1) (by omega) k (.int .i64 y)
          replace o2 := fun i hi => (o2 i hi).setBox (i := k) (u := .int .i64 y) hmid.want (by decide)
          have hb3 := hmid.state.other (g' := w1.heap.size + 1) (by omega) k (.int .i64 y)
          have hb4 := hmid.want.set k (.int .i64 y)
          rw [nums4_upd _ k0] at hb4
          have l3 : Le w (W2.setCell ⟨w1.heap.size + 1, k, none⟩ (.int .i64 y)) := Below.setCell hmid.le (by have := hmid.big; show w.heap.size ≤ w1.heap.size + 1; omega) _
          generalize hW : W2.setCell ⟨w1.heap.size + 1, k, none⟩ (.int .i64 y) = W3 at hb8 hb9 o2 hb3 hb4 l3 ⊢
          have big := hmid.big
          clear hW t1 tf hmid
          obtain ⟨p0, p1, p2, _, _, _⟩ := hb8.op
          go_upto_region 16 with fail
          obtain ⟨z0, z1, z2, z3, g0, g1, g2, g3⟩ := hb3.st
          obtain ⟨x0, x1, x2, x3, _, _, _, _⟩ := hb9.st
          go_wp2_with fail
          go_roundw
          case rel =>
            refine ⟨j + 1, st.put k [y], q2, by omega, by omega, by go_num, ?_⟩
            refine ⟨l3.set4 big _ _ _ _, big, ?_, ?_, fun i hi => (o2 i hi).set4 hb3 (by decide) _ _ _ _, m1, f1⟩
            · exact (((hb3.set 0 _).set 1 _).set 2 _).set 3 _
            · rw [nums4_same (g := updI (fun i => firstS (st.at i)) k y) (fun i hi => by simp only [updI]; rw [St.at_put k0 hi]; split <;> rfl)]
              exact (((hb4.other (by omega) 0 _).other (by omega) 1 _).other (by omega) 2 _).other (by omega) 3 _
          case measure => simp [intOf]; omega
        · have hc' : bits .and .i64 (x / 4) 1 = 1 := by rw [and1]; exact hc
          clear hc
          have e1 := stoS_second (er := 300) hmid.may k0 y0
          have m1 : (st.put k []).all rowMay1 = true := St.all_put' k0 hmid.may rfl
          have f1 : Fit (st.put k []) := hmid.fit.put k0 (by simp)
          have hb8 := Box.new W0 #[.int .i64 1, .int .i64 k, .int .i64 y] 27
          have hA := Le.alloc W0 (.cells #[.int .i64 1, .int .i64 k, .int .i64 y] 27)
          obtain ⟨z0, z1, z2, z3, _, _, _, _⟩ := (hmid.later hA).state.st
          go_wp2_with fail
          refine (storeApply (stV us) st 1 k y _ (OwnS.has ⟨us, rfl, (hmid.later hA).rows⟩) hmid.fit).mono ?_
          rw [e1]
          rintro e w2 ⟨_, rfl, ⟨q2, rfl, o2⟩, l2⟩
          replace o2 := fun i hi => (o2 i hi).base (base' := w.heap.size) (hmid.later hA).le.size
          clear z0 z1 z2 z3 c1
          have hb9 := Box.new w2 (cells4 q2) 25
          have n1 := (hmid.later (hA.trans l2)).want.lt
          have n2 := hb8.lt
          have n3 := hmid.want.lt
          have n4 := (hb8.le l2).lt
          replace l2 := l2.trans (Le.alloc w2 (.cells (cells4 q2) 25))
          replace hb8 := hb8.le l2
          replace o2 := fun i hi => (o2 i hi).le (Le.alloc w2 (.cells (cells4 q2) 25))
          replace hmid := hmid.later (hA.trans l2)
          clear hA l2
          go_upto_region 11 with fail
          generalize hW : w2.alloc (.cells (cells4 q2) 25) = W2 at hb8 hb9 o2 hmid ⊢
          clear hW
          have t1 := (hmid.want.cell k).trans (nums4_at _ k0)
          have tf := hmid.want.frozen k
          go_upto_region 14 with (go_at_call 12; refine (lawNum _ _).mono ?_; rintro e _ ⟨rfl, rfl⟩)
          replace hb8 := hb8.other (g' := w1.heap.size + 1) (by omega) k (.int .i64 y)
          replace hb9 := hb9.other (g' := w1.heap.size + 1) (by omega) k (.int .i64 y)
          replace o2 := fun i hi => (o2 i hi).setBox (i := k) (u := .int .i64 y) hmid.want (by decide)
          have hb3 := hmid.state.other (g' := w1.heap.size + 1) (by omega) k (.int .i64 y)
          have hb4 := hmid.want.set k (.int .i64 y)
          rw [nums4_upd _ k0] at hb4
          have l3 : Le w (W2.setCell ⟨w1.heap.size + 1, k, none⟩ (.int .i64 y)) := Below.setCell hmid.le (by have := hmid.big; show w.heap.size ≤ w1.heap.size + 1; omega) _
          generalize hW : W2.setCell ⟨w1.heap.size + 1, k, none⟩ (.int .i64 y) = W3 at hb8 hb9 o2 hb3 hb4 l3 ⊢
          have big := hmid.big
          clear hW t1 tf hmid
          obtain ⟨p0, p1, p2, _, _, _⟩ := hb8.op
          have t1 := (hb4.cell k).trans (nums4_at _ k0)
          have tf := hb4.frozen k
          go_upto_region 16 with fail
          replace hb9 := hb9.other (g' := w1.heap.size + 1) (by omega) k (.int .i64 (-1))
          replace o2 := fun i hi => (o2 i hi).setBox (i := k) (u := .int .i64 (-1)) hb4 (by decide)
          replace hb3 := hb3.other (g' := w1.heap.size + 1) (by omega) k (.int .i64 (-1))
          replace l3 : Le w (W3.setCell ⟨w1.heap.size + 1, k, none⟩ (.int .i64 (-1))) := Below.setCell l3 (by show w.heap.size ≤ w1.heap.size + 1; omega) _
          replace hb4 := hb4.set k (.int .i64 (-1))
          rw [nums4_upd _ k0] at hb4
          generalize hW : W3.setCell ⟨w1.heap.size + 1, k, none⟩ (.int .i64 (-1)) = W4 at hb9 o2 hb3 hb4 l3 ⊢
          clear hW t1 tf
          obtain ⟨z0, z1, z2, z3, g0, g1, g2, g3⟩ := hb3.st
          obtain ⟨x0, x1, x2, x3, _, _, _, _⟩ := hb9.st
          go_wp2_with fail
          go_roundw
          case rel =>
            refine ⟨j + 1, st.put k [], q2, by omega, by omega, by go_num, ?_⟩
            refine ⟨l3.set4 big _ _ _ _, big, ?_, ?_, fun i hi => (o2 i hi).set4 hb3 (by decide) _ _ _ _, m1, f1⟩
            · exact (((hb3.set 0 _).set 1 _).set 2 _).set 3 _
            · rw [nums4_same (g := updI (updI (fun i => firstS (st.at i)) k y) k (-1)) (fun i hi => by simp only [updI]; rw [St.at_put k0 hi]; split <;> rfl)]
              exact (((hb4.other (by omega) 0 _).other (by omega) 1 _).other (by omega) 2 _).other (by omega) 3 _
          case measure => simp [intOf]; omega
      · obtain rfl : j = 40 := by omega
        go_wp2
        go_ret
        exact ⟨rfl, hmid.le⟩
    · go_wp2
      go_ret
      exact ⟨rfl, hmid.le⟩

end Go.Proofs.Ytdcmmchlmjhgjaa
