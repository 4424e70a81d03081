/-
  THE WALKS over the document's own rowMay, StateMay, queueRow, at a queue: what they answer, for every row and state. Condition: where memory is made, that the rows can be copied, and are short.
-/
import Derived.Test.YtnpejgendmgfaaaQueC
import Derived.Test.YtnpejgendmgfaaaRefCp
import Derived.Test.YtnpejgendmgfaaaRefMay
import Derived.Test.YtnpejgendmgfaaaLater
namespace Go.Proofs.Ytnpejgendmgfaaa
open Go.RowKit

theorem rowMay3_eq (xs : List Int) : rowMay3 xs = (xs.all argB && decide (xs.length ≤ 4)) := by rw [rowMay3, Bool.and_comm]

set_option maxHeartbeats 400000 in
theorem refRowMay2 (v : Value) (xs : List Int) (w : World) (hx : Has w v xs) (hm : xs.length * 8 ≤ 140737488351232) :
    Calls Try.prog 31 #[.int .i64 2, v] w fun e w' => e = .returned (.bool (rowMay3 xs)) ∧ Le w w' := by
  have hl := Le.alloc w (.cells #[.int .i64 1, .int .i64 4, .int .i64 4] 3)
  obtain ⟨a, cap, rfl, hc, _, hx⟩ := hx
  rw [rowMay3_eq]
  by_cases h0 : 0 < xs.length
  · obtain ⟨b, off, rfl, hcell⟩ := hx h0
    obtain ⟨L, hL⟩ : ∃ L, L = xs.length := ⟨_, rfl⟩
    rw [← hL] at hm hc hcell h0 ⊢
    have HL : Hid (L = xs.length) := hL
    clear hL hx
    go_enter Try.func31, Try.ntmps31
    go_wp2
    go_loopw [6] (fun i wr => ∃ k : Nat, k ≤ L ∧ i = .int .i64 k ∧ Hid ((xs.take k).all argB = true) ∧ Le (w.alloc (.cells #[.int .i64 1, .int .i64 4, .int .i64 4] 3)) wr) (fun i _ => L - (intOf i).toNat)
    case atStart => exact ⟨0, Nat.zero_le _, rfl, rfl, Le.refl _⟩
    case round =>
      obtain ⟨k, hk, rfl, HA, hle⟩ := hrel
      by_cases hlt : k < L
      · obtain ⟨x, hxk⟩ : ∃ x, x = xs.getD k 0 := ⟨_, rfl⟩
        have hcx := hcell k hlt
        rw [← hxk] at hcx
        have c1 : ∀ X : Later wr, X.w.cell? ⟨b, off + k, none⟩ = some (.int .i64 x) := fun X => by
          have hb := World.block_lt_of_cell? w _ hcx
          rw [((hl.trans hle).trans X.le).cell (p := ⟨b, off + k, none⟩) hb]; exact hcx
        have HX : Hid (x = xs.getD k 0) := hxk
        clear hxk hcell hcx
        cases hh : argB x
        · have hup := fun w' => refUpTo x 0 255 w'
          have hh' : (decide (0 ≤ x) && decide (x ≤ 255)) = false := hh
          simp only [hh'] at hup
          go_wp2_with fail
          refine wp_region_later (by kernel_rfl) (by kernel_rfl) ?_
          repeat (go_big_quiet_step (first | (go_at_call 35; exact Calls.later_same (hup _))))
          refine wpQuiet_nil ?_
          rintro _ ⟨y, rfl⟩
          go_wp2
          go_ret
          exact ⟨ret_bool (by rw [all_bad (p := argB) (k := k) (by rw [← HL.out]; exact hlt) (HX.out ▸ hh)]; rfl), (hl.trans hle).trans y.le⟩
        · have hup := fun w' => refUpTo x 0 255 w'
          have hh' : (decide (0 ≤ x) && decide (x ≤ 255)) = true := hh
          simp only [hh'] at hup
          go_wp2_with fail
          refine wp_region_later (by kernel_rfl) (by kernel_rfl) ?_
          repeat (go_big_quiet_step (first | (go_at_call 35; exact Calls.later_same (hup _))))
          refine wpQuiet_nil ?_
          rintro _ ⟨y, rfl⟩
          go_wp2
          go_roundw
          case rel => exact ⟨k + 1, by omega, by go_num, by rw [all_take (by rw [← HL.out]; exact hlt), HA.out, ← HX.out, hh]; rfl, hle.trans y.le⟩
          case measure => simp [intOf]; omega
      · go_wp2
        go_ret
        refine ⟨ret_bool ?_, hl.trans hle⟩
        have := HA.out
        rw [List.take_of_length_le (by have := HL.out; omega)] at this
        rw [this, Bool.true_and, decide_eq_decide]
        omega
  · have hnil : xs = [] := by cases xs with | nil => rfl | cons _ _ => simp at h0
    subst hnil
    go_enter Try.func31, Try.ntmps31
    go_wp2
    refine wp_loop_rounds 1 ?_
    rw [rounds_succ]
    go_wp2
    go_ret
    exact ⟨ret_bool (by simp), hl⟩

set_option maxHeartbeats 400000 in
theorem refStateMay2 (v : Value) (s : St) (w : World) (hx : HasS w v s) (hf : Fit s) :
    Calls Try.prog 21 #[.int .i64 2, v] w fun e w' => e = .returned (.bool (s.all rowMay3)) ∧ Le w w' := by
  obtain ⟨vs, rfl, hr⟩ := hx
  have hl := Le.alloc w (.cells (cells4 vs) 25)
  have hb := Box.new w (cells4 vs) 25
  go_enter Try.func21, Try.ntmps21
  go_wp2
  go_loopw [5] (fun i wr => ∃ k : Nat, k ≤ 4 ∧ i = .int .i64 k ∧ Hid (∀ j, j < k → rowMay3 (s.at j) = true) ∧ Le (w.alloc (.cells (cells4 vs) 25)) wr) (fun i _ => 4 - (intOf i).toNat)
  case atStart => exact ⟨0, by omega, rfl, (fun j hj => by omega), Le.refl _⟩
  case round =>
    obtain ⟨k, hk, rfl, HA, hle⟩ := hrel
    by_cases hlt : k < 4
    · have hm := refRowMay2 (slV (vs k)) (s.at k) wr ((hr k hlt).le (hl.trans hle)) (hf k hlt)
      have c1 : wr.cell? ⟨w.heap.size, k, none⟩ = some (slV (vs k)) := ((hb.le hle).cell k).trans (cells4_at vs hlt)
      cases hh : rowMay3 (s.at k)
      · rw [hh] at hm
        go_wp2_with fail
        refine hm.mono ?_
        rintro e w1 ⟨rfl, l1⟩
        go_wp2
        go_ret
        exact ⟨ret_bool (St.all_not hlt hh).symm, (hl.trans hle).trans l1⟩
      · rw [hh] at hm
        go_wp2_with fail
        refine hm.mono ?_
        rintro e w1 ⟨rfl, l1⟩
        go_wp2
        go_roundw
        case rel => exact ⟨k + 1, by omega, by go_num, (fun j hj => by rcases Nat.lt_or_eq_of_le (Nat.le_of_lt_succ hj) with h | h; exact HA.out j h; exact h ▸ hh), hle.trans l1⟩
        case measure => simp [intOf]; omega
    · obtain rfl : k = 4 := by omega
      go_wp2
      go_ret
      exact ⟨ret_bool (St.all_of HA.out).symm, hl.trans hle⟩

set_option maxHeartbeats 1000000 in
theorem refQueueRow0 (v : Value) (xs : List Int) (r a : Int) (w : World) (base : Nat) (hown : Own w base v xs) (hbase : base ≤ w.heap.size) (hm : rowMay3 xs = true) :
    Calls Try.prog 30 #[v, opV 0 r a] w fun e w' => ∃ q : Sl, e = .returned (.tuple #[slV q, .int .i64 (enqS xs a).2]) ∧ Own w' base (slV q) (enqS xs a).1 ∧ Le w w' := by
  have hl := Le.alloc w (.cells #[.int .i64 0, .int .i64 r, .int .i64 a] 43)
  have hb := Box.new w #[.int .i64 0, .int .i64 r, .int .i64 a] 43
  have hlen := rowMay3_len hm
  have hown0 := hown
  obtain ⟨ad, cap, rfl, hc, _, hx⟩ := hown.has
  by_cases h4 : 4 ≤ xs.length
  · have HP : Hid (enqS xs a = (xs, 0)) := hid (by simp [enqS, h4])
    have h5 : (4 : Int) ≤ (xs.length : Int) := by omega
    clear hx
    go_enter Try.func30, Try.ntmps30
    go_wp2
    go_ret2
    rw [HP.out]
    exact ⟨(ad, xs.length, cap), rfl, hown.le hl, hl⟩
  · have HP : Hid (enqS xs a = (xs ++ [a], 1)) := hid (by simp [enqS, h4])
    have h5 : ¬ (4 : Int) ≤ (xs.length : Int) := by omega
    clear hx
    go_enter Try.func30, Try.ntmps30
    go_upto_region 4 with fail
    generalize hW : w.alloc (.cells #[.int .i64 0, .int .i64 r, .int .i64 a] 43) = W at hl hb ⊢
    clear hW
    have hA := Le.alloc W (.cells #[] 3)
    have hn1 : Own (W.alloc (.cells #[] 3)) W.heap.size (.slice (some ⟨W.heap.size, 0, none⟩) 0 0) [] := Own.lit W _ (Nat.le_refl _) [] (by decide)
    go_upto_region 5 with (at_builtin; refine wp_append_ints rfl _ _ rfl W.heap.size _ _ [] xs rfl rfl hn1 (hown0.has.le (hl.trans hA)) (by simp; omega) (by simp) ?_; intro v' w2 hown2 hgrow; rw [List.nil_append] at hown2; obtain ⟨q2, rfl⟩ := hown2.has.sl)
    have l2 : Le W w2 := Below.grown hA hgrow (by simp) (fun g e => by cases e; exact Nat.le_refl _)
    obtain ⟨o0, o1, o2, _, _, _⟩ := (hb.le l2).op
    have hA2 := Le.alloc w2 (.cells #[.int .i64 a] 3)
    have hone : Own (w2.alloc (.cells #[.int .i64 a] 3)) w2.heap.size (slV (some ⟨w2.heap.size, 0, none⟩, 1, 1)) [a] := Own.lit w2 _ (Nat.le_refl _) [a] (by simp)
    go_wp2_with (at_builtin; refine wp_append_ints rfl _ _ rfl W.heap.size _ _ xs [a] rfl rfl (hown2.le hA2) hone.has (by simp; omega) (Nat.le_trans l2.size hA2.size) ?_; intro v' w3 hown3 hgrow3; obtain ⟨q3, rfl⟩ := hown3.has.sl)
    go_ret2
    rw [HP.out]
    exact ⟨q3.1, q3.2.1, q3.2.2, rfl, hown3.base (Nat.le_trans hbase hl.size), hl.trans (Below.grown (l2.trans hA2) hgrow3 (Nat.le_trans l2.size hA2.size) (fun g e => (hown2.block e).1))⟩

set_option maxHeartbeats 1000000 in
theorem refQueueRow1 (v : Value) (xs : List Int) (r a : Int) (w : World) (base : Nat) (hown : Own w base v xs) (hbase : base ≤ w.heap.size) (hm : rowMay3 xs = true) :
    Calls Try.prog 30 #[v, opV 1 r a] w fun e w' => ∃ q : Sl, e = .returned (.tuple #[slV q, .int .i64 (deqS xs).2]) ∧ Own w' base (slV q) (deqS xs).1 ∧ Le w w' := by
  have hl := Le.alloc w (.cells #[.int .i64 1, .int .i64 r, .int .i64 a] 43)
  have hlen := rowMay3_len hm
  obtain ⟨ad, cap, rfl, hc, _, hx⟩ := hown.has
  match xs, hlen, hc, hx with
  | [], hlen, hc, hx =>
    go_enter Try.func30, Try.ntmps30
    go_wp2
    go_ret2
    exact ⟨slZ, rfl, Own.nil _ _, hl⟩
  | x :: zs, hlen, hc, hx =>
    obtain ⟨b, off, rfl, hcell⟩ := hx (by simp)
    have c0 : w.cell? ⟨b, off, none⟩ = some (.int .i64 x) := hcell 0 (by simp)
    obtain ⟨n, hn⟩ : ∃ n, n = zs.length := ⟨_, rfl⟩
    obtain ⟨A, hAe, hB⟩ : ∃ A, (if cap = 1 then some ⟨b, off, none⟩ else some ⟨b, off + 1, none⟩ : Option Addr) = A ∧ Has w (.slice A n (cap - 1)) zs := by
      refine ⟨_, rfl, _, _, by rw [← hn], by simp at hc; omega, (fun h => by split at h <;> cases h), fun hp => ?_⟩
      simp only [List.length_cons] at hc
      rw [if_neg (by omega)]
      refine ⟨b, off + 1, rfl, fun j hj => ?_⟩
      have := hcell (j + 1) (by simp; omega)
      rw [Nat.add_assoc, Nat.add_comm 1 j, this]
      rfl
    have HN : Hid (n = zs.length) := hn
    simp only [List.length_cons] at hc hlen ⊢
    rw [← hn] at hc hlen ⊢
    have n0 : ¬ (((n + 1 : Nat) : Int)) = 0 := by omega
    have n1 : (1 : Int) ≤ (n : Int) + 1 := by omega
    clear hx hcell hn
    go_enter Try.func30, Try.ntmps30
    go_upto_region 9 with fail
    replace c0 : (w.alloc (.cells #[.int .i64 1, .int .i64 r, .int .i64 a] 43)).cell? ⟨b, off, none⟩ = some (.int .i64 x) := by rw [hl.cell (p := ⟨b, off, none⟩) (World.block_lt_of_cell? w _ c0)]; exact c0
    replace hB := hB.le hl
    generalize hW : w.alloc (.cells #[.int .i64 1, .int .i64 r, .int .i64 a] 43) = W at hl c0 hB ⊢
    clear hW
    have hlt := World.block_lt_of_cell? W _ c0
    have hne : ¬ W.heap.size = b := by have : b < W.heap.size := hlt; omega
    have hA := (Le.drew W).trans (Le.alloc W.drew (.cells #[] 3))
    have hn1 : Own (W.drew.alloc (.cells #[] 3)) W.heap.size (.slice (some ⟨W.heap.size, 0, none⟩) 0 0) [] := Own.lit W.drew _ (Nat.le_refl _) [] (by decide)
    go_region_law ((refine step_append_ints rfl (.tmp 26) (.tmp 28) rfl W.heap.size (.slice (some ⟨W.heap.size, 0, none⟩) 0 0) (.slice A n (cap - 1)) [] zs (by simp [Act.eval]) (by simp [Act.eval]) hn1 (hB.le hA) (by simp; have := HN.out; omega) hA.size ?_; intro v1 w1 o1 g1; have l1 : Le W w1 := Below.grown hA g1 hA.size (fun g e => (by cases e; exact Nat.le_refl _)); have c1 : w1.cell? ⟨b, off, none⟩ = some (.int .i64 x) := (by rw [l1.cell (p := ⟨b, off, none⟩) hlt]; exact c0); rw [List.nil_append] at o1; obtain ⟨q1, rfl⟩ := o1.has.sl))
    all_goals
      go_wp2
      go_ret2
      exact ⟨q1.1, q1.2.1, q1.2.2, rfl, o1.base (Nat.le_trans hbase hl.size), hl.trans l1⟩

end Go.Proofs.Ytnpejgendmgfaaa
