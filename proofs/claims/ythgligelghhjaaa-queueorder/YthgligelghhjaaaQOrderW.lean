/-
  THE WALK over choruslaw5.QueueOrder: it answers true, for every numbers and row, and turns nothing that was there. Condition: the slice's bytes are within the reach that every row bears.
-/
import Derived.Test.YthgligelghhjaaaQAwake
import Derived.Test.YthgligelghhjaaaHasBox
import Derived.Test.YthgligelghhjaaaOwnQ
import Derived.Test.YthgligelghhjaaaBits
namespace Go.Proofs.Ythgligelghhjaaa
open Go.RowKit

/-- In the midst: the state's box, whose row k has the numbers ws, and the list of these. -/
structure MidO (w : World) (g k : Nat) (wr : World) (ws : List Int) (us : Nat → Sl) (ad : Option Addr) (cap : Nat) : Prop where
  le : Le w wr
  big : w.heap.size ≤ g
  box : Box wr g (cells4 us) 25
  rows : ∀ i, i < 4 → Has wr (slV (us i)) ((St.zero.put k ws).at i)
  want : OwnQ wr w.heap.size (.slice ad ws.length cap) ws
  may : rowMay3 ws = true

theorem MidO.later {w : World} {g k : Nat} {wr wr' : World} {ws : List Int} {us : Nat → Sl} {ad : Option Addr} {cap : Nat} (h : MidO w g k wr ws us ad cap) (hl : Le wr wr') : MidO w g k wr' ws us ad cap :=
  ⟨h.le.trans hl, h.big, h.box.le hl, fun i hi => (h.rows i hi).le hl, h.want.le hl, h.may⟩

theorem zero_may {k : Nat} (hk : k < 4) {ws : List Int} (h : rowMay3 ws = true) : (St.zero.put k ws).all rowMay3 = true := St.all_put (by decide) hk h

set_option maxRecDepth 4000 in
set_option maxHeartbeats 4000000 in
theorem lawOrder (w : World) (v : Value) (xs : List Int) (hx : Has w v xs) (hm : xs.length * 8 ≤ 140737488351232) (a0 : Int) :
    Calls Try.prog 4 #[v, .int .i64 a0] w fun e w' => e = .returned (.bool true) ∧ Le w w' := by
  obtain ⟨ad, cap, rfl, hcap, _, hcell⟩ := hx
  obtain ⟨L, hL⟩ : ∃ L, L = xs.length := ⟨_, rfl⟩
  rw [← hL] at hm hcap hcell ⊢
  clear hL
  obtain ⟨k, hk, k0⟩ : ∃ k : Nat, wrap64 ((IntKind.u64.wrap a0).tmod 4) = (k : Int) ∧ k < 4 := by
    have h1 : IntKind.u64.wrap a0 = a0 % 18446744073709551616 := by simp [IntKind.wrap, IntKind.bits, IntKind.signed]
    have h2 : 0 ≤ a0 % 18446744073709551616 := by omega
    refine ⟨((a0 % 18446744073709551616) % 4).toNat, ?_, by omega⟩
    rw [h1, Int.tmod_eq_emod_of_nonneg h2]
    unfold wrap64
    omega
  have i0 : (0 : Int) ≤ (k : Int) := by omega
  have i1 : (k : Int) < 4 := by omega
  go_enter Try.func4, Try.ntmps4
  go_upto_region 4 with (go_at_call 14; refine (lawAwake5 _).mono ?_; rintro e w1 ⟨rfl, l1⟩)
  rw [hk]
  clear hk
  have hmid : MidO w w1.heap.size k (w1.alloc (.cells (cells4 fun _ => slZ) 25)) [] (fun _ => slZ) none 0 := by
    refine ⟨l1.trans (Le.alloc _ _), l1.size, Box.new _ _ _, fun i hi => ?_, OwnQ.nil _ _, by decide⟩
    rw [St.zero_put, St.at_zero]; exact Has.nil _
  go_wp2
  generalize hW : w1.alloc (.cells (cells4 fun _ => slZ) 25) = W at hmid ⊢
  clear hW l1
  generalize w1.heap.size = g at hmid ⊢
  go_loopw [7, 8] (fun q i wr => ∃ (j : Nat) (ws : List Int) (us : Nat → Sl) (ad : Option Addr) (cap : Nat), j ≤ L ∧ j ≤ 40 ∧ q = .slice ad ws.length cap ∧ i = .int .i64 j ∧ MidO w g k wr ws us ad cap) (fun _ i _ => 40 - (intOf i).toNat)
  case atStart => exact ⟨0, [], _, none, 0, by omega, by omega, rfl, rfl, hmid⟩
  case round =>
    clear hmid
    obtain ⟨j, ws, us, ad2, cap2, hj, hj', rfl, rfl, hmid⟩ := hrel
    have hlen := rowMay3_len hmid.may
    have hmst := zero_may k0 hmid.may
    by_cases hgo : j < L ∧ j < 40
    · obtain ⟨hlt, hlt'⟩ := hgo
      obtain ⟨b, off, rfl, hcl⟩ := hcell (by omega)
      obtain ⟨x, hxk⟩ : ∃ x, x = xs.getD j 0 := ⟨_, rfl⟩
      have hcx := hcl j hlt
      rw [← hxk] at hcx
      have hblt := World.block_lt_of_cell? w _ hcx
      have c1 : wr.cell? ⟨b, off + j, none⟩ = some (.int .i64 x) := by rw [hmid.le.cell (p := ⟨b, off + j, none⟩) hblt]; exact hcx
      clear hxk hcl hcell
      have j0 : (0 : Int) ≤ (j : Int) := by omega
      have hjL : (j : Int) < (L : Int) := by omega
      have hj40 : (j : Int) < 40 := by omega
      obtain ⟨y, hy, y0⟩ : ∃ m, bits .and .i64 x 255 = m ∧ 0 ≤ m ∧ m ≤ 255 := ⟨_, and255 _, by omega, by omega⟩
      obtain ⟨z0, z1, z2, z3, _, _, _, _⟩ := hmid.box.st
      by_cases hc : bits .and .i64 x 256 = 256
      · have e1 := queS_second (er := 500) (a := 0) hmst k0 (by omega)
        rw [St.put_at k0, St.put_put] at e1
        have hmy : rowMay3 (deqS ws).1 = true := deq_may hmid.may
        match ws, hlen, hmst, hmid, e1, hmy with
        | [], hlen, hmst, hmid, e1, hmy =>
          simp only [deqS] at e1
          clear hlen hmy
          go_wp2_with fail
          refine (queApply (stV us) (St.zero.put k []) 1 k 0 _ ⟨us, rfl, hmid.rows⟩ (may_all3 hmst)).mono ?_
          rw [e1]
          rintro e w2 ⟨_, rfl, ⟨q2, rfl, o2⟩, l2⟩
          have hb2 := Box.new w2 (cells4 q2) 25
          have n2 : g < w2.heap.size := (hmid.later l2).box.lt
          replace l2 := l2.trans (Le.alloc w2 (.cells (cells4 q2) 25))
          replace o2 := fun i hi => ((o2 i hi).le (Le.alloc w2 (.cells (cells4 q2) 25))).has
          replace hmid := hmid.later l2
          clear l2 z0 z1 z2 z3 e1 c1
          go_upto_region 12 with fail
          generalize hW : w2.alloc (.cells (cells4 q2) 25) = W2 at hb2 o2 hmid ⊢
          clear hW
          generalize w2.heap.size = g2 at hb2 n2 ⊢
          obtain ⟨z0, z1, z2, z3, f0, f1, f2, f3⟩ := hmid.box.st
          obtain ⟨p0, p1, p2, p3, _, _, _, _⟩ := hb2.st
          go_wp2_with (go_at_call 12; refine (lawNum _ _).mono ?_; rintro e _ ⟨rfl, rfl⟩)
          go_roundw
          case rel =>
            refine ⟨j + 1, [], q2, ad2, cap2, by omega, by omega, rfl, by go_num, hmid.le.set4 hmid.big _ _ _ _, hmid.big, hmid.box.all4, fun i hi => (o2 i hi).set4 hmid.box, ?_, by decide⟩
            exact hmid.want.set4 hmid.box (by decide) _ _ _ _
          case measure => simp [intOf]; omega
        | h :: rs, hlen, hmst, hmid, e1, hmy =>
          simp only [deqS] at e1 hmy
          obtain ⟨b2, off2, rfl, _, hcp, c2, htail⟩ := hmid.want.tail
          obtain ⟨A, hAe⟩ : ∃ A, (if cap2 = 1 then some ⟨b2, off2, none⟩ else some ⟨b2, off2 + 1, none⟩ : Option Addr) = A := ⟨_, rfl⟩
          rw [hAe] at htail
          obtain ⟨n, hn⟩ : ∃ n, n = rs.length := ⟨_, rfl⟩
          have HN : Hid (n = rs.length) := hn
          rw [← hn] at htail hcp
          have n1 : (1 : Int) ≤ (n : Int) + 1 := by omega
          have n3 : (0 : Int) < (n : Int) + 1 := by omega
          simp only [List.length_cons]
          rw [← hn]
          have hb1 := hmid.box
          have hle := hmid.le
          have hbig := hmid.big
          have hrows := hmid.rows
          clear hlen hn hmid
          go_wp2_with fail
          refine (queApply (stV us) (St.zero.put k (h :: rs)) 1 k 0 _ ⟨us, rfl, hrows⟩ (may_all3 hmst)).mono ?_
          rw [e1]
          rintro e w2 ⟨_, rfl, ⟨q2, rfl, o2⟩, l2⟩
          have hb2 := Box.new w2 (cells4 q2) 25
          have n2 : g < w2.heap.size := (hb1.le l2).lt
          replace l2 := l2.trans (Le.alloc w2 (.cells (cells4 q2) 25))
          replace o2 := fun i hi => ((o2 i hi).le (Le.alloc w2 (.cells (cells4 q2) 25))).has
          replace c2 : (w2.alloc (.cells (cells4 q2) 25)).cell? ⟨b2, off2, none⟩ = some (.int .i64 h) := by rw [l2.cell (p := ⟨b2, off2, none⟩) (World.block_lt_of_cell? _ _ c2)]; exact c2
          replace htail := htail.le l2
          replace hb1 := hb1.le l2
          replace hle := hle.trans l2
          clear l2 z0 z1 z2 z3 e1 c1 hrows
          go_upto_region 12 with fail
          generalize hW : w2.alloc (.cells (cells4 q2) 25) = W2 at hb2 o2 htail hb1 hle c2 ⊢
          clear hW
          generalize w2.heap.size = g2 at hb2 n2 ⊢
          go_upto_region 18 with (go_at_call 12; refine (lawNum _ _).mono ?_; rintro e _ ⟨rfl, rfl⟩)
          clear c2
          obtain ⟨z0, z1, z2, z3, f0, f1, f2, f3⟩ := hb1.st
          obtain ⟨p0, p1, p2, p3, _, _, _, _⟩ := hb2.st
          go_wp2_with fail
          go_roundw
          case rel =>
            refine ⟨j + 1, rs, q2, A, cap2 - 1, by omega, by omega, by rw [HN.out], by go_num, hle.set4 hbig _ _ _ _, hbig, hb1.all4, fun i hi => (o2 i hi).set4 hb1, ?_, hmy⟩
            rw [← HN.out]
            exact htail.set4 hb1 (by decide) _ _ _ _
          case measure => simp [intOf]; omega
      · have e1 := queS_first (er := 500) hmst k0 y0
        rw [St.put_at k0, St.put_put] at e1
        have hmy : rowMay3 (enqS ws y).1 = true := enq_may hmid.may y0
        have hcb : (bits .and .i64 x 256 == 256) = false := by simp [hc]
        by_cases h4 : 4 ≤ ws.length
        · rw [enqS, if_pos h4] at e1
          have h5 : ¬ (ws.length : Int) < 4 := by omega
          clear hmy
          go_wp2_with fail
          refine (queApply (stV us) (St.zero.put k ws) 0 k y _ ⟨us, rfl, hmid.rows⟩ (may_all3 hmst)).mono ?_
          rw [e1]
          rintro e w2 ⟨_, rfl, ⟨q2, rfl, o2⟩, l2⟩
          have hb2 := Box.new w2 (cells4 q2) 25
          have n2 : g < w2.heap.size := (hmid.later l2).box.lt
          replace l2 := l2.trans (Le.alloc w2 (.cells (cells4 q2) 25))
          replace o2 := fun i hi => ((o2 i hi).le (Le.alloc w2 (.cells (cells4 q2) 25))).has
          replace hmid := hmid.later l2
          clear l2 z0 z1 z2 z3 e1 c1
          go_upto_region 20 with fail
          generalize hW : w2.alloc (.cells (cells4 q2) 25) = W2 at hb2 o2 hmid ⊢
          clear hW
          generalize w2.heap.size = g2 at hb2 n2 ⊢
          obtain ⟨z0, z1, z2, z3, f0, f1, f2, f3⟩ := hmid.box.st
          obtain ⟨p0, p1, p2, p3, _, _, _, _⟩ := hb2.st
          go_wp2_with (go_at_call 12; refine (lawNum _ _).mono ?_; rintro e _ ⟨rfl, rfl⟩)
          go_roundw
          case rel =>
            refine ⟨j + 1, ws, q2, ad2, cap2, by omega, by omega, rfl, by go_num, hmid.le.set4 hmid.big _ _ _ _, hmid.big, hmid.box.all4, fun i hi => (o2 i hi).set4 hmid.box, ?_, hmid.may⟩
            exact hmid.want.set4 hmid.box (by decide) _ _ _ _
          case measure => simp [intOf]; omega
        · rw [enqS, if_neg h4] at e1 hmy
          have h5 : (ws.length : Int) < 4 := by omega
          have hlw : ∀ b, (Value.slice ad2 ws.length cap2).ownBlock = some b → w.heap.size ≤ b ∧ b < wr.heap.size := fun b e => by
            obtain ⟨h1, _, h2⟩ := hmid.want.block e
            exact ⟨h1, h2.lt⟩
          go_wp2_with fail
          refine (queApply (stV us) (St.zero.put k ws) 0 k y _ ⟨us, rfl, hmid.rows⟩ (may_all3 hmst)).mono ?_
          rw [e1]
          rintro e w2 ⟨_, rfl, ⟨q2, rfl, o2⟩, l2⟩
          have hb2 := Box.new w2 (cells4 q2) 25
          have n2 : g < w2.heap.size := (hmid.later l2).box.lt
          replace l2 := l2.trans (Le.alloc w2 (.cells (cells4 q2) 25))
          replace o2 := fun i hi => (o2 i hi).le (Le.alloc w2 (.cells (cells4 q2) 25))
          replace hmid := hmid.later l2
          clear l2 z0 z1 z2 z3 e1 c1
          go_upto_region 20 with fail
          generalize hW : w2.alloc (.cells (cells4 q2) 25) = W2 at hb2 o2 hmid ⊢
          clear hW
          generalize w2.heap.size = g2 at hb2 n2 ⊢
          have hA := Le.alloc W2 (.cells #[.int .i64 y] 3)
          have hone : Own (W2.alloc (.cells #[.int .i64 y] 3)) W2.heap.size (slV (some ⟨W2.heap.size, 0, none⟩, 1, 1)) [y] := Own.lit W2 _ (Nat.le_refl _) [y] (by simp)
          go_upto_region 24 with (first | (go_at_call 12; refine (lawNum _ _).mono ?_; rintro e _ ⟨rfl, rfl⟩) | (at_builtin; refine wp_append_q rfl _ _ rfl w.heap.size _ ⟨W2.heap.size, 0, none⟩ 1 ws [y] rfl rfl (hmid.want.le hA) hone.has (by simp) (by simp; omega) (Nat.le_trans hmid.le.size hA.size) ?_; intro v' w3 hown3 hgrow; obtain ⟨ad3, cap3, rfl, _, _, _⟩ := hown3.has))
          have hbw := (hmid.later hA).box
          have hwa := hmid.want.le hA
          have hb3 : Box w3 g2 (cells4 q2) 25 := (hb2.le hA).grown hgrow (hwa.apart (hb2.le hA) (by decide))
          have hb4 : Box w3 g (cells4 us) 25 := hbw.grown hgrow (hwa.apart hbw (by decide))
          have hle : Le w w3 := Below.grown (hmid.le.trans hA) hgrow (Nat.le_trans hmid.le.size hA.size) (fun b e => (hlw b e).1)
          replace o2 := fun i hi => (((o2 i hi).le hA).grown hgrow (fun b e1 e2 => by have := (hlw b e2).2; have := ((o2 i hi).block e1).1; omega)).has
          have hbig := hmid.big
          clear hA hone hbw hwa hgrow hmid hb2
          obtain ⟨z0, z1, z2, z3, f0, f1, f2, f3⟩ := hb4.st
          obtain ⟨p0, p1, p2, p3, _, _, _, _⟩ := hb3.st
          go_wp2_with fail
          go_roundw
          case rel =>
            refine ⟨j + 1, ws ++ [y], q2, ad3, cap3, by omega, by omega, by simp, by go_num, hle.set4 hbig _ _ _ _, hbig, hb4.all4, fun i hi => (o2 i hi).set4 hb4, ?_, hmy⟩
            exact hown3.set4 hb4 (by decide) _ _ _ _
          case measure => simp [intOf]; omega
    · have c3 : wr.cell? ⟨g, k, none⟩ = some (slV (us k)) := (hmid.box.cell k).trans (cells4_at us k0)
      have hrk := hmid.rows k k0
      rw [St.put_at k0] at hrk
      have hsame := lawSameI (slV (us k)) (.slice ad2 ws.length cap2) ws ws wr hrk hmid.want.has (by omega)
      rw [show decide (ws = ws) = true by simp] at hsame
      have hex : (¬ j < L) ∨ (j < L ∧ ¬ j < 40) := by omega
      rcases hex with h | ⟨h, h'⟩
      · have h1 : ¬ (j : Int) < (L : Int) := by omega
        go_wp2_with fail
        refine hsame.mono ?_
        rintro e w4 ⟨rfl, l4⟩
        go_wp2_with fail
        go_ret
        exact ⟨rfl, hmid.le.trans l4⟩
      · have h1 : (j : Int) < (L : Int) := by omega
        have h2 : ¬ (j : Int) < 40 := by omega
        go_wp2_with fail
        refine hsame.mono ?_
        rintro e w4 ⟨rfl, l4⟩
        go_wp2_with fail
        go_ret
        exact ⟨rfl, hmid.le.trans l4⟩

end Go.Proofs.Ythgligelghhjaaa
