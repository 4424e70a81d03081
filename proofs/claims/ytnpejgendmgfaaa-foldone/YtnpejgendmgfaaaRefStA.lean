/-
  THE WALKS over the document's own rowMay, StateMay, CopyState, first, storeRow, at a store: what they answer, for every row and state. Condition: where memory is made, that the rows can be copied.
-/
import Derived.Test.YtnpejgendmgfaaaStoreB
import Derived.Test.YtnpejgendmgfaaaRefCp
import Derived.Test.YtnpejgendmgfaaaRefMay
import Derived.Test.YtnpejgendmgfaaaLater
namespace Go.Proofs.Ytnpejgendmgfaaa
open Go.RowKit

theorem rowMay1_eq (xs : List Int) : rowMay1 xs = (xs.all argB && decide (xs.length ≤ 1)) := by
  match xs with
  | [] => rfl
  | [x] => simp [rowMay1, argB]
  | _ :: _ :: _ => simp [rowMay1]

set_option maxHeartbeats 400000 in
theorem refRowMay0 (v : Value) (xs : List Int) (w : World) (hx : Has w v xs) (hm : xs.length * 8 ≤ 140737488351232) :
    Calls Try.prog 31 #[.int .i64 0, v] w fun e w' => e = .returned (.bool (rowMay1 xs)) ∧ Le w w' := by
  have hl := Le.alloc w (.cells #[.int .i64 1, .int .i64 4, .int .i64 4] 3)
  obtain ⟨a, cap, rfl, hc, _, hx⟩ := hx
  rw [rowMay1_eq]
  by_cases h0 : 0 < xs.length
  · obtain ⟨b, off, rfl, hcell⟩ := hx h0
    obtain ⟨L, hL⟩ : ∃ L, L = xs.length := ⟨_, rfl⟩
    rw [← hL] at hm hc hcell h0 ⊢
    have HL : Hid (L = xs.length) := hL
    clear hL hx
    go_enter Try.func31, Try.ntmps31
    go_wp2
    go_loopw [6] (fun i wr => ∃ k : Nat, k ≤ L ∧ i = .int .i64 k ∧ Hid ((xs.take k).all argB = true) ∧ Le (w.alloc (.cells #[.int .i64 1, .int .i64 4, .int .i64 4] 3)) wr) (fun i _ => L - (intOf i).toNat)
    case atStart => exact ⟨0, Nat.zero_le _, rfl, rfl, Le.refl _⟩
    case round =>
      obtain ⟨k, hk, rfl, HA, hle⟩ := hrel
      by_cases hlt : k < L
      · obtain ⟨x, hxk⟩ : ∃ x, x = xs.getD k 0 := ⟨_, rfl⟩
        have hcx := hcell k hlt
        rw [← hxk] at hcx
        have c1 : ∀ X : Later wr, X.w.cell? ⟨b, off + k, none⟩ = some (.int .i64 x) := fun X => by
          have hb := World.block_lt_of_cell? w _ hcx
          rw [((hl.trans hle).trans X.le).cell (p := ⟨b, off + k, none⟩) hb]; exact hcx
        have HX : Hid (x = xs.getD k 0) := hxk
        clear hxk hcell hcx
        cases hh : argB x
        · have hup := fun w' => refUpTo x 0 255 w'
          have hh' : (decide (0 ≤ x) && decide (x ≤ 255)) = false := hh
          simp only [hh'] at hup
          go_wp2_with fail
          refine wp_region_later (by kernel_rfl) (by kernel_rfl) ?_
          repeat (go_big_quiet_step (first | (go_at_call 35; exact Calls.later_same (hup _))))
          refine wpQuiet_nil ?_
          rintro _ ⟨y, rfl⟩
          go_wp2
          go_ret
          exact ⟨ret_bool (by rw [all_bad (p := argB) (k := k) (by rw [← HL.out]; exact hlt) (HX.out ▸ hh)]; rfl), (hl.trans hle).trans y.le⟩
        · have hup := fun w' => refUpTo x 0 255 w'
          have hh' : (decide (0 ≤ x) && decide (x ≤ 255)) = true := hh
          simp only [hh'] at hup
          go_wp2_with fail
          refine wp_region_later (by kernel_rfl) (by kernel_rfl) ?_
          repeat (go_big_quiet_step (first | (go_at_call 35; exact Calls.later_same (hup _))))
          refine wpQuiet_nil ?_
          rintro _ ⟨y, rfl⟩
          go_wp2
          go_roundw
          case rel => exact ⟨k + 1, by omega, by go_num, by rw [all_take (by rw [← HL.out]; exact hlt), HA.out, ← HX.out, hh]; rfl, hle.trans y.le⟩
          case measure => simp [intOf]; omega
      · go_wp2
        go_ret
        refine ⟨ret_bool ?_, hl.trans hle⟩
        have := HA.out
        rw [List.take_of_length_le (by have := HL.out; omega)] at this
        rw [this, Bool.true_and, decide_eq_decide]
        omega
  · have hnil : xs = [] := by cases xs with | nil => rfl | cons _ _ => simp at h0
    subst hnil
    go_enter Try.func31, Try.ntmps31
    go_wp2
    refine wp_loop_rounds 1 ?_
    rw [rounds_succ]
    go_wp2
    go_ret
    exact ⟨ret_bool (by simp), hl⟩

set_option maxHeartbeats 400000 in
theorem refStateMay0 (v : Value) (s : St) (w : World) (hx : HasS w v s) (hf : Fit s) :
    Calls Try.prog 21 #[.int .i64 0, v] w fun e w' => e = .returned (.bool (s.all rowMay1)) ∧ Le w w' := by
  obtain ⟨vs, rfl, hr⟩ := hx
  have hl := Le.alloc w (.cells (cells4 vs) 25)
  have hb := Box.new w (cells4 vs) 25
  go_enter Try.func21, Try.ntmps21
  go_wp2
  go_loopw [5] (fun i wr => ∃ k : Nat, k ≤ 4 ∧ i = .int .i64 k ∧ Hid (∀ j, j < k → rowMay1 (s.at j) = true) ∧ Le (w.alloc (.cells (cells4 vs) 25)) wr) (fun i _ => 4 - (intOf i).toNat)
  case atStart => exact ⟨0, by omega, rfl, (fun j hj => by omega), Le.refl _⟩
  case round =>
    obtain ⟨k, hk, rfl, HA, hle⟩ := hrel
    by_cases hlt : k < 4
    · have hm := refRowMay0 (slV (vs k)) (s.at k) wr ((hr k hlt).le (hl.trans hle)) (hf k hlt)
      have c1 : wr.cell? ⟨w.heap.size, k, none⟩ = some (slV (vs k)) := ((hb.le hle).cell k).trans (cells4_at vs hlt)
      cases hh : rowMay1 (s.at k)
      · rw [hh] at hm
        go_wp2_with fail
        refine hm.mono ?_
        rintro e w1 ⟨rfl, l1⟩
        go_wp2
        go_ret
        exact ⟨ret_bool (St.all_not hlt hh).symm, (hl.trans hle).trans l1⟩
      · rw [hh] at hm
        go_wp2_with fail
        refine hm.mono ?_
        rintro e w1 ⟨rfl, l1⟩
        go_wp2
        go_roundw
        case rel => exact ⟨k + 1, by omega, by go_num, (fun j hj => by rcases Nat.lt_or_eq_of_le (Nat.le_of_lt_succ hj) with h | h; exact HA.out j h; exact h ▸ hh), hle.trans l1⟩
        case measure => simp [intOf]; omega
    · obtain rfl : k = 4 := by omega
      go_wp2
      go_ret
      exact ⟨ret_bool (St.all_of HA.out).symm, hl.trans hle⟩

set_option maxHeartbeats 400000 in
theorem refFirst (v : Value) (xs : List Int) (w : World) (hx : Has w v xs) :
    Calls Try.prog 27 #[v] w fun e w' => e = .returned (.int .i64 (firstS xs)) ∧ w = w' := by
  obtain ⟨a, cap, rfl, hc, _, hx⟩ := hx
  match xs, hc, hx with
  | [], hc, hx =>
    go_enter Try.func27, Try.ntmps27
    go_wp2
    go_ret
    exact ⟨rfl, rfl⟩
  | x :: zs, hc, hx =>
    obtain ⟨b, off, rfl, hcell⟩ := hx (by simp)
    have c0 : w.cell? ⟨b, off, none⟩ = some (.int .i64 x) := hcell 0 (by simp)
    simp only [List.length_cons] at hc ⊢
    have n0 : ¬ (((zs.length + 1 : Nat) : Int)) = 0 := by omega
    clear hx hcell
    go_enter Try.func27, Try.ntmps27
    go_wp2
    go_ret
    exact ⟨rfl, rfl⟩


set_option maxHeartbeats 400000 in
theorem refStoreRow0 (v : Value) (xs : List Int) (r a : Int) (w : World) (hx : Has w v xs) (base : Nat) (hbase : base ≤ w.heap.size) :
    Calls Try.prog 28 #[v, opV 0 r a] w fun e w' => ∃ q : Sl, e = .returned (.tuple #[slV q, .int .i64 (firstS xs)]) ∧ Own w' base (slV q) [a] ∧ Le w w' := by
  have hl := Le.alloc w (.cells #[.int .i64 0, .int .i64 r, .int .i64 a] 43)
  have hb := Box.new w #[.int .i64 0, .int .i64 r, .int .i64 a] 43
  have hfi := fun (w' : World) (h : Le w w') => refFirst v xs w' (hx.le h)
  go_enter Try.func28, Try.ntmps28
  go_wp2_with fail
  generalize hW : w.alloc (.cells #[.int .i64 0, .int .i64 r, .int .i64 a] 43) = W at hl hb ⊢
  have o2 := hb.op.2.2.1
  have hown : Own (W.alloc (.cells #[.int .i64 a] 3)) base (slV (some ⟨W.heap.size, 0, none⟩, 1, 1)) [a] := Own.lit W _ (Nat.le_trans hbase hl.size) [a] (by simp)
  clear hW hb
  go_region_held3 (fun w' => w'.cell? ⟨w.heap.size, 2, none⟩ = some (.int .i64 a)) (go_keep) (first | (go_at_call 27; refine (hfi _ (hl.trans (Le.drew _))).mono ?_; rintro e w1 ⟨rfl, rfl⟩) | (go_at_call 27; refine (hfi _ (hl.trans ((Le.alloc _ _).trans (Le.drew _)))).mono ?_; rintro e w1 ⟨rfl, rfl⟩))
  all_goals
    go_wp2_with fail
    refine bodyPost_ret (v := .tuple #[slV (some ⟨W.heap.size, 0, none⟩, 1, 1), .int .i64 (firstS xs)]) (by simp [results, Try.results28]) rfl ⟨_, rfl, hown.le (Le.drew _), hl.trans ((Le.alloc _ _).trans (Le.drew _))⟩

set_option maxHeartbeats 400000 in
theorem refStoreRow1 (v : Value) (xs : List Int) (r a : Int) (w : World) (hx : Has w v xs) :
    Calls Try.prog 28 #[v, opV 1 r a] w fun e w' => e = .returned (.tuple #[slV slZ, .int .i64 (firstS xs)]) ∧ Le w w' := by
  have hl := Le.alloc w (.cells #[.int .i64 1, .int .i64 r, .int .i64 a] 43)
  have hfi := fun (w' : World) (h : Le w w') => refFirst v xs w' (hx.le h)
  go_enter Try.func28, Try.ntmps28
  go_wp2_with (go_at_call 27; refine (hfi _ hl).mono ?_; rintro e w1 ⟨rfl, rfl⟩)
  refine bodyPost_ret (v := .tuple #[slV slZ, .int .i64 (firstS xs)]) (by simp [results, Try.results28]) rfl ⟨rfl, hl⟩

theorem refStoreRow1' (v : Value) (xs : List Int) (r a : Int) (w : World) (hx : Has w v xs) (base : Nat) :
    Calls Try.prog 28 #[v, opV 1 r a] w fun e w' => ∃ q : Sl, e = .returned (.tuple #[slV q, .int .i64 (firstS xs)]) ∧ Own w' base (slV q) [] ∧ Le w w' :=
  (refStoreRow1 v xs r a w hx).mono fun _ _ ⟨he, hl⟩ => ⟨slZ, he, Own.nil _ _, hl⟩

end Go.Proofs.Ytnpejgendmgfaaa
