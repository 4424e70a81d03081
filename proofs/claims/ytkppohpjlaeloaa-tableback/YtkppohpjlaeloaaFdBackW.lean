/-
  THE WALK over choruslaw4.TableBack: it answers true, for every state and number, and turns nothing that was there. Condition: the state's rows can be copied.
-/
import Derived.Test.YtkppohpjlaeloaaFdAwake
import Derived.Test.YtkppohpjlaeloaaStPut2
import Derived.Test.YtkppohpjlaeloaaBits
namespace Go.Proofs.Ytkppohpjlaeloaa
open Go.RowKit

theorem put_facts : ∀ xs ∈ rowsAbove 4, putS xs = (xs, -1) ∨ (0 ≤ (putS xs).2 ∧ (putS xs).2 ≤ 3 ∧ takeS (putS xs).1 (putS xs).2 = (xs, 1) ∧ takeS xs (putS xs).2 = (xs, 0) ∧ (putS xs).1.length = xs.length + 1) := by decide

set_option maxRecDepth 4000 in
set_option maxHeartbeats 2000000 in
theorem lawBack4 (w : World) (v : Value) (s : St) (hx : HasS w v s) (hf : Fit s) (a0 : Int) :
    Calls Try.prog 6 #[v, .int .i64 a0] w fun e w' => e = .returned (.bool true) ∧ Le w w' := by
  have hx0 := hx
  obtain ⟨vs, rfl, hr⟩ := hx
  have hl := Le.alloc w (.cells (cells4 vs) 25)
  have hb1 := Box.new w (cells4 vs) 25
  obtain ⟨k, hk, k0⟩ : ∃ k : Nat, bits .and .i64 a0 3 = (k : Int) ∧ k < 4 := ⟨(a0 % 4).toNat, by rw [and3]; omega, by omega⟩
  cases hm : s.all rowMay2
  · go_enter Try.func6, Try.ntmps6
    go_wp2_with fail
    refine (lawAwake4 _).mono ?_
    rintro e w1 ⟨rfl, l1⟩
    obtain ⟨x0, x1, x2, x3, _, _, _, _⟩ := (hb1.le l1).st
    go_wp2_with fail
    refine (fdsApply (stV vs) s 0 k 0 _ (hx0.le (hl.trans l1)) hf).mono ?_
    rw [fdsS_no (by rw [hm]; rfl)]
    rintro e w2 ⟨_, rfl, ⟨q2, rfl, o2⟩, l2⟩
    replace l2 := l2.trans (Le.alloc w2 (.cells (cells4 q2) 25))
    go_wp2_with (go_at_call 13; refine (lawNum _ _).mono ?_; rintro e _ ⟨rfl, rfl⟩)
    go_ret
    exact ⟨rfl, (hl.trans l1).trans l2⟩
  · have e1 := fdsS_first (er := 400) (a := 0) hm k0 (by omega)
    have hmk := St.all_at hm k0
    rcases put_facts _ (rowMay2_mem hmk) with hp | ⟨p0, p1, p2, p3, p4⟩
    · rw [hp] at e1
      simp only [St.put_same k0] at e1
      go_enter Try.func6, Try.ntmps6
      go_wp2_with fail
      refine (lawAwake4 _).mono ?_
      rintro e w1 ⟨rfl, l1⟩
      obtain ⟨x0, x1, x2, x3, _, _, _, _⟩ := (hb1.le l1).st
      go_wp2_with fail
      refine (fdsApply (stV vs) s 0 k 0 _ (hx0.le (hl.trans l1)) hf).mono ?_
      rw [e1]
      rintro e w2 ⟨_, rfl, ⟨q2, rfl, o2⟩, l2⟩
      replace l2 := l2.trans (Le.alloc w2 (.cells (cells4 q2) 25))
      replace o2 := fun i hi => (o2 i hi).le (Le.alloc w2 (.cells (cells4 q2) 25))
      replace l1 := l1.trans l2
      clear x0 x1 x2 x3 e1 hp
      obtain ⟨x0, x1, x2, x3, _, _, _, _⟩ := (hb1.le l1).st
      go_wp2_with (go_at_call 13; refine (lawNum _ _).mono ?_; rintro e _ ⟨rfl, rfl⟩)
      refine (lawSameState (stV q2) (stV vs) s s _ (OwnS.has ⟨q2, rfl, o2⟩) (hx0.le (hl.trans l1)) hf).mono ?_
      rw [show decide (s = s) = true by simp]
      rintro e w4 ⟨rfl, l4⟩
      go_wp2_with fail
      go_ret
      exact ⟨rfl, (hl.trans l1).trans l4⟩
    · obtain ⟨x, hxe⟩ : ∃ x, x = (putS (s.at k)).2 := ⟨_, rfl⟩
      obtain ⟨ys, hys⟩ : ∃ ys, ys = (putS (s.at k)).1 := ⟨_, rfl⟩
      obtain ⟨L, hL⟩ : ∃ L, L = (s.at k).length := ⟨_, rfl⟩
      have hmy : rowMay2 ys = true := by rw [hys]; exact put_may hmk
      rw [← hxe, ← hys] at e1 p2
      rw [← hxe] at p0 p1 p3
      rw [← hys, ← hL] at p4
      have hm1 : (s.put k ys).all rowMay2 = true := St.all_put hm k0 hmy
      have hf1 : Fit (s.put k ys) := hf.put k0 (rowMay2_len hmy)
      have e2 : fdsS (s.put k ys) 1 k x 400 = (s, 1, 0) := by rw [fdsS_second hm1 k0 (by omega), St.put_at k0, p2, St.put_put, St.put_same k0]
      have e3 : fdsS s 1 k x 400 = (s, 0, 0) := by rw [fdsS_second hm k0 (by omega), p3, St.put_same k0]
      have e4 : fdsS (s.put k ys) 2 k 0 400 = (s.put k ys, ((L + 1 : Nat) : Int), 0) := by rw [fdsS_look hm1 k0, St.put_at k0, p4]
      have hL4 : L ≤ 4 := by rw [hL]; exact rowMay2_len hmk
      have hle : (vs k).2.1 = L := by
        obtain ⟨ad, cap, e, _⟩ := hr k k0
        simp only [Value.slice.injEq] at e
        rw [hL]
        exact e.2.1
      clear p2 p3 hxe hys hmy hmk p4 hL hm hm1
      go_enter Try.func6, Try.ntmps6
      go_wp2_with fail
      refine (lawAwake4 _).mono ?_
      rintro e w1 ⟨rfl, l1⟩
      obtain ⟨x0, x1, x2, x3, _, _, _, _⟩ := (hb1.le l1).st
      go_wp2_with fail
      refine (fdsApply (stV vs) s 0 k 0 _ (hx0.le (hl.trans l1)) hf).mono ?_
      rw [e1]
      rintro e w2 ⟨_, rfl, ⟨q2, rfl, o2⟩, l2⟩
      have hb2 := Box.new w2 (cells4 q2) 25
      replace l2 := l2.trans (Le.alloc w2 (.cells (cells4 q2) 25))
      replace o2 := fun i hi => (o2 i hi).le (Le.alloc w2 (.cells (cells4 q2) 25))
      replace l1 := l1.trans l2
      clear x0 x1 x2 x3 e1 l2
      go_wp2_with (go_at_call 13; refine (lawNum _ _).mono ?_; rintro e _ ⟨rfl, rfl⟩)
      refine (fdsApply (stV q2) (s.put k ys) 1 k x _ (OwnS.has ⟨q2, rfl, o2⟩) hf1).mono ?_
      rw [e2]
      rintro e w3 ⟨_, rfl, ⟨q3, rfl, o3⟩, l3⟩
      have hb3 := Box.new w3 (cells4 q3) 25
      replace l3 := l3.trans (Le.alloc w3 (.cells (cells4 q3) 25))
      replace o3 := fun i hi => (o3 i hi).le (Le.alloc w3 (.cells (cells4 q3) 25))
      replace o2 := fun i hi => (o2 i hi).le l3
      replace hb2 := hb2.le l3
      replace l1 := l1.trans l3
      clear e2 l3
      go_wp2_with fail
      refine (fdsApply (stV q3) s 1 k x _ (OwnS.has ⟨q3, rfl, o3⟩) hf).mono ?_
      rw [e3]
      rintro e w4 ⟨_, rfl, ⟨q4, rfl, o4⟩, l4⟩
      have hb4 := Box.new w4 (cells4 q4) 25
      replace l4 := l4.trans (Le.alloc w4 (.cells (cells4 q4) 25))
      replace o4 := fun i hi => (o4 i hi).le (Le.alloc w4 (.cells (cells4 q4) 25))
      replace o3 := fun i hi => (o3 i hi).le l4
      replace o2 := fun i hi => (o2 i hi).le l4
      replace hb2 := hb2.le l4
      replace hb3 := hb3.le l4
      replace l1 := l1.trans l4
      clear e3 l4
      obtain ⟨y0, y1, y2, y3, _, _, _, _⟩ := hb2.st
      go_wp2_with fail
      refine (fdsApply (stV q2) (s.put k ys) 2 k 0 _ (OwnS.has ⟨q2, rfl, o2⟩) hf1).mono ?_
      rw [e4]
      rintro e w5 ⟨_, rfl, ⟨q5, rfl, o5⟩, l5⟩
      replace l5 := l5.trans (Le.alloc w5 (.cells (cells4 q5) 25))
      replace o4 := fun i hi => (o4 i hi).le l5
      replace o3 := fun i hi => (o3 i hi).le l5
      replace hb3 := hb3.le l5
      replace hb4 := hb4.le l5
      replace l1 := l1.trans l5
      clear e4 l5 o5 o2 hb2 y0 y1 y2 y3
      go_upto_region 10 with fail
      generalize hW : w5.alloc (.cells (cells4 q5) 25) = W at hb3 hb4 l1 o3 o4 ⊢
      clear hW
      obtain ⟨x0, x1, x2, x3, _, _, _, _⟩ := (hb1.le l1).st
      obtain ⟨y0, y1, y2, y3, _, _, _, _⟩ := hb3.st
      have hs3 := lawSameState (stV q3) (stV vs) s s W (OwnS.has ⟨q3, rfl, o3⟩) (hx0.le (hl.trans l1)) hf
      rw [show decide (s = s) = true by simp] at hs3
      go_wp2_with (go_at_call 13; refine (lawNum _ _).mono ?_; rintro e _ ⟨rfl, rfl⟩)
      refine hs3.mono ?_
      rintro e w6 ⟨rfl, l6⟩
      replace hb4 := hb4.le l6
      replace o4 := fun i hi => (o4 i hi).le l6
      replace l1 := l1.trans l6
      clear x0 x1 x2 x3 y0 y1 y2 y3 hs3
      obtain ⟨x0, x1, x2, x3, _, _, _, _⟩ := (hb1.le l1).st
      obtain ⟨y0, y1, y2, y3, _, _, _, _⟩ := hb4.st
      go_wp2_with (go_at_call 13; refine (lawNum _ _).mono ?_; rintro e _ ⟨rfl, rfl⟩)
      refine (lawSameState (stV q4) (stV vs) s s _ (OwnS.has ⟨q4, rfl, o4⟩) (hx0.le (hl.trans l1)) hf).mono ?_
      rw [show decide (s = s) = true by simp]
      rintro e w7 ⟨rfl, l7⟩
      replace l1 := l1.trans l7
      clear x0 x1 x2 x3 y0 y1 y2 y3
      have c1 : w7.cell? ⟨w.heap.size, k, none⟩ = some (slV (vs k)) := ((hb1.le l1).cell k).trans (cells4_at vs k0)
      have i0 : (0 : Int) ≤ (k : Int) := by omega
      have i1 : (k : Int) < 4 := by omega
      go_wp2_with (go_at_call 13; refine (lawNum _ _).mono ?_; rintro e _ ⟨rfl, rfl⟩)
      go_ret
      exact ⟨ret_bool (by simp), hl.trans l1⟩

end Go.Proofs.Ytkppohpjlaeloaa
