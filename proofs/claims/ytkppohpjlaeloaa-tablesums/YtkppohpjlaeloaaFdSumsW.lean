/-
  THE WALK over choruslaw4.TableSums: it answers true, for every state, and turns nothing that was there. Condition: the state's rows can be copied.
-/
import Derived.Test.YtkppohpjlaeloaaFdAwake
import Derived.Test.YtkppohpjlaeloaaStPut2
namespace Go.Proofs.Ytkppohpjlaeloaa
open Go.RowKit

theorem len2 {s : St} (hm : s.all rowMay2 = true) : ∀ k, k < 4 → (s.at k).length ≤ 1000 := fun k hk => by
  have := rowMay2_len (St.all_at hm hk)
  omega

set_option maxRecDepth 4000 in
set_option maxHeartbeats 2000000 in
theorem lawSums (w : World) (v : Value) (s : St) (hx : HasS w v s) (hf : Fit s) :
    Calls Try.prog 7 #[v] w fun e w' => e = .returned (.bool true) ∧ Le w w' := by
  have hx0 := hx
  obtain ⟨vs, rfl, hr⟩ := hx
  have hl := Le.alloc w (.cells (cells4 vs) 25)
  have hb1 := Box.new w (cells4 vs) 25
  cases hm : s.all rowMay2
  · go_enter Try.func7, Try.ntmps7
    go_wp2_with fail
    refine (lawAwake4 _).mono ?_
    rintro e w1 ⟨rfl, l1⟩
    obtain ⟨x0, x1, x2, x3, _, _, _, _⟩ := (hb1.le l1).st
    go_wp2_with fail
    refine (fdsApply (stV vs) s 3 0 0 _ (hx0.le (hl.trans l1)) hf).mono ?_
    rw [fdsS_no (by rw [hm]; rfl)]
    rintro e w2 ⟨_, rfl, ⟨q2, rfl, o2⟩, l2⟩
    replace l2 := l2.trans (Le.alloc w2 (.cells (cells4 q2) 25))
    replace o2 := fun i hi => (o2 i hi).le (Le.alloc w2 (.cells (cells4 q2) 25))
    go_wp2_with (go_at_call 13; refine (lawNum _ _).mono ?_; rintro e _ ⟨rfl, rfl⟩)
    refine (lawSameState (stV q2) stZ St.zero St.zero _ (OwnS.has ⟨q2, rfl, o2⟩) (HasS.zero _) fit_zero).mono ?_
    rw [show decide (St.zero = St.zero) = true by decide]
    rintro e w3 ⟨rfl, l3⟩
    go_wp2_with fail
    go_ret
    exact ⟨rfl, ((hl.trans l1).trans l2).trans l3⟩
  · have hsc := fdsS_scan (er := 400) hm
    go_enter Try.func7, Try.ntmps7
    go_wp2_with fail
    refine (lawAwake4 _).mono ?_
    rintro e w1 ⟨rfl, l1⟩
    obtain ⟨x0, x1, x2, x3, _, _, _, _⟩ := (hb1.le l1).st
    go_wp2_with fail
    refine (fdsApply (stV vs) s 3 0 0 _ (hx0.le (hl.trans l1)) hf).mono ?_
    rw [hsc]
    rintro e w2 ⟨_, rfl, ⟨q2, rfl, o2⟩, l2⟩
    have hb3 := Box.new w2 (cells4 q2) 25
    replace l2 := l2.trans (Le.alloc w2 (.cells (cells4 q2) 25))
    replace o2 := fun i hi => (o2 i hi).le (Le.alloc w2 (.cells (cells4 q2) 25))
    replace l1 := l1.trans l2
    clear l2 x0 x1 x2 x3 hsc
    go_wp2_with (go_at_call 13; refine (lawNum _ _).mono ?_; rintro e _ ⟨rfl, rfl⟩)
    generalize hW : w2.alloc (.cells (cells4 q2) 25) = W at hb3 l1 o2 ⊢
    clear hW
    replace hb1 := hb1.le l1
    replace hl := hl.trans l1
    replace hx0 := hx0.le hl
    clear l1
    go_loopw [6, 7] (fun t i wr => ∃ j : Nat, j ≤ 4 ∧ i = .int .i64 j ∧ t = .int .i64 (manyTo s j) ∧ Le W wr) (fun _ i _ => 4 - (intOf i).toNat)
    case atStart => exact ⟨0, by omega, rfl, rfl, Le.refl _⟩
    case round =>
      obtain ⟨j, hj, rfl, rfl, lr⟩ := hrel
      by_cases hlt : j < 4
      · have el := fdsS_look (er := 400) hm hlt
        obtain ⟨b0, b1⟩ := manyTo_bounds (len2 hm) j hj
        have b2 := len2 hm j hlt
        obtain ⟨y0, y1, y2, y3, _, _, _, _⟩ := (hb1.le lr).st
        obtain ⟨t, ht⟩ : ∃ t, t = manyTo s j := ⟨_, rfl⟩
        obtain ⟨n, hn⟩ : ∃ n, n = (s.at j).length := ⟨_, rfl⟩
        have HS : Hid (manyTo s (j + 1) = t + n) := by rw [ht, hn]; rfl
        rw [← ht] at b0 b1 ⊢
        rw [← hn] at b2 el
        clear ht hn
        go_wp2_with fail
        refine (fdsApply (stV vs) s 2 j 0 _ (hx0.le lr) hf).mono ?_
        rw [el]
        rintro e w3 ⟨_, rfl, ⟨q3, rfl, o3⟩, l3⟩
        replace l3 := l3.trans (Le.alloc w3 (.cells (cells4 q3) 25))
        replace o3 := fun i hi => (o3 i hi).le (Le.alloc w3 (.cells (cells4 q3) 25))
        replace lr := lr.trans l3
        clear l3 y0 y1 y2 y3 el
        obtain ⟨y0, y1, y2, y3, _, _, _, _⟩ := (hb1.le lr).st
        go_wp2_with (go_at_call 13; refine (lawNum _ _).mono ?_; rintro e _ ⟨rfl, rfl⟩)
        refine (lawSameState (stV q3) (stV vs) s s _ (OwnS.has ⟨q3, rfl, o3⟩) (hx0.le lr) hf).mono ?_
        rw [show decide (s = s) = true by simp]
        rintro e w4 ⟨rfl, l4⟩
        go_wp2_with fail
        go_roundw
        case rel => exact ⟨j + 1, by omega, by go_num, by rw [HS.out], lr.trans l4⟩
        case measure => simp [intOf]; omega
      · obtain rfl : j = 4 := by omega
        obtain ⟨y0, y1, y2, y3, _, _, _, _⟩ := (hb1.le lr).st
        obtain ⟨z0, z1, z2, z3, _, _, _, _⟩ := (hb3.le lr).st
        go_wp2_with fail
        refine (lawSameState (stV q2) (stV vs) s s _ (OwnS.has ⟨q2, rfl, fun i hi => (o2 i hi).le lr⟩) (hx0.le lr) hf).mono ?_
        rw [show decide (s = s) = true by simp]
        rintro e w4 ⟨rfl, l4⟩
        go_wp2_with fail
        go_ret
        exact ⟨rfl, (hl.trans lr).trans l4⟩

end Go.Proofs.Ytkppohpjlaeloaa
