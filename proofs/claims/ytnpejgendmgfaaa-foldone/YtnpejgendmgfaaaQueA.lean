/-
  PLAIN GROUND AND THE WALKS over package queue's mayRow, put, take, and over slices.ContainsFunc at []int: what each answers, for every row. Condition: at put and take, that the row is the call's own and short.
-/
import Derived.Test.YtnpejgendmgfaaaCnt
import Derived.Test.YtnpejgendmgfaaaApp
namespace Go.Proofs.Ytnpejgendmgfaaa
open Go.RowKit

/-- May a row be a queue's? -/
def rowMay3 (xs : List Int) : Bool := decide (xs.length ≤ 4) && xs.all argB
/-- The row with a number behind all others, and 1; the row as it is, and 0, if it is full. -/
def enqS (xs : List Int) (a : Int) : List Int × Int := if 4 ≤ xs.length then (xs, 0) else (xs ++ [a], 1)
/-- The row without its first number; that number, or -1. -/
def deqS : List Int → List Int × Int
  | [] => ([], -1)
  | x :: r => (r, x)

theorem rowMay3_len {xs : List Int} (h : rowMay3 xs = true) : xs.length ≤ 4 := by
  simp [rowMay3] at h; exact h.1
theorem rowMay3_all {xs : List Int} (h : rowMay3 xs = true) : ∀ x ∈ xs, 0 ≤ x ∧ x ≤ 255 := by
  simp [rowMay3, argB] at h; exact h.2
theorem rowMay3_of {xs : List Int} (h : xs.length ≤ 4) (k : ∀ x ∈ xs, 0 ≤ x ∧ x ≤ 255) : rowMay3 xs = true := by
  simp [rowMay3, argB]; exact ⟨h, k⟩

set_option maxHeartbeats 400000 in
theorem queOdd (x : Int) (w : World) : Calls Try.prog 62 #[.int .i64 x] w fun e w' => e = .returned (.bool (!argB x)) ∧ w = w' := by
  by_cases h : x < 0
  · go_enter Try.func62, Try.ntmps62
    go_wp2
    go_ret
    exact ⟨ret_bool (by simp [argB]; omega), rfl⟩
  · go_enter Try.func62, Try.ntmps62
    go_wp2
    go_ret
    exact ⟨ret_bool (by rw [Bool.eq_iff_iff]; simp [argB]; omega), rfl⟩

set_option maxHeartbeats 400000 in
theorem slicesIndexFunc (f : Nat) (p : Int → Bool) (hc : ∀ (u : Value) (w : World), (callFunc f #[u]).run Try.prog w = .ok (.enter f #[u]) w) (hp : ∀ x w, Calls Try.prog f #[.int .i64 x] w fun e w' => e = .returned (.bool (p x)) ∧ w = w') (v : Value) (xs : List Int) (w : World) (hx : Has w v xs) (hl : xs.length ≤ 1000) :
    Calls Try.prog 66 #[v, .func (.func f) #[] #[]] w fun e w' => (∃ i : Int, e = .returned (.int .i64 i) ∧ decide (0 ≤ i) = xs.any p) ∧ w = w' := by
  obtain ⟨a, cap, rfl, hcap, _, hx⟩ := hx
  obtain ⟨n, hn⟩ : ∃ n, n = xs.length := ⟨_, rfl⟩
  rw [← hn] at hcap hx hl ⊢
  have HN : Hid (n = xs.length) := hn
  clear hn
  go_enter Try.func66, Try.ntmps66
  go_wp2
  go_loop [8] (fun i => ∃ k : Nat, k ≤ n ∧ i = .int .i64 k ∧ Hid (xs.any p = (xs.drop k).any p)) (fun i => n - (intOf i).toNat)
  case atStart => exact ⟨0, by omega, rfl, hid (by simp)⟩
  case round =>
    obtain ⟨k, hk, rfl, HR⟩ := hrel
    by_cases hlt : k < n
    · obtain ⟨b, off, rfl, hcell⟩ := hx (by omega)
      have c0 := hcell k hlt
      have hd := HR.out
      rw [drop_at (by have := HN.out; omega)] at hd
      obtain ⟨x, hxk⟩ : ∃ x, x = xs.getD k 0 := ⟨_, rfl⟩
      rw [← hxk] at c0 hd
      simp only [List.any_cons] at hd
      have hm := hp x w
      have k0 : (0 : Int) ≤ (k : Int) := by omega
      have k1 : (k : Int) < (n : Int) := by omega
      cases hh : p x
      · rw [hh] at hm hd
        have HD : Hid (xs.any p = (xs.drop (k + 1)).any p) := hid (by rw [hd]; rfl)
        clear hd hxk hcell hx HR
        go_wp2_with fail
        refine hm.mono ?_
        rintro e w1 ⟨rfl, rfl⟩
        go_wp2
        go_round
        case rel => exact ⟨k + 1, by omega, by go_num, HD⟩
        case measure => simp [intOf]; omega
      · rw [hh] at hm hd
        have HD : Hid (xs.any p = true) := hid (by rw [hd]; rfl)
        clear hd hxk hcell hx HR
        go_wp2_with fail
        refine hm.mono ?_
        rintro e w1 ⟨rfl, rfl⟩
        go_wp2
        go_ret
        exact ⟨⟨k, rfl, by rw [HD.out]; simp⟩, rfl⟩
    · obtain rfl : k = n := by omega
      have HD : Hid (xs.any p = false) := hid (by have := HR.out; rw [List.drop_eq_nil_of_le (by have := HN.out; omega)] at this; exact this)
      go_wp2
      go_ret
      exact ⟨⟨-1, rfl, by rw [HD.out]; decide⟩, rfl⟩

set_option maxHeartbeats 400000 in
theorem slicesContainsFunc (f : Nat) (p : Int → Bool) (hc : ∀ (u : Value) (w : World), (callFunc f #[u]).run Try.prog w = .ok (.enter f #[u]) w) (hp : ∀ x w, Calls Try.prog f #[.int .i64 x] w fun e w' => e = .returned (.bool (p x)) ∧ w = w') (v : Value) (xs : List Int) (w : World) (hx : Has w v xs) (hl : xs.length ≤ 1000) :
    Calls Try.prog 63 #[v, .func (.func f) #[] #[]] w fun e w' => e = .returned (.bool (xs.any p)) ∧ w = w' := by
  have hi := slicesIndexFunc f p hc hp v xs w hx hl
  go_enter Try.func63, Try.ntmps63
  go_wp2_with fail
  refine hi.mono ?_
  rintro e w1 ⟨⟨i, rfl, hd⟩, rfl⟩
  have HD : Hid (decide (0 ≤ i) = xs.any p) := hd
  clear hd
  go_wp2
  go_ret
  exact ⟨ret_bool HD.out, rfl⟩

theorem any_not (xs : List Int) : (!xs.any fun x => !argB x) = xs.all argB := by
  induction xs with
  | nil => rfl
  | cons x r ih => simp only [List.any_cons, List.all_cons, ← ih, Bool.not_or, Bool.not_not]

set_option maxHeartbeats 400000 in
theorem queMayRow (v : Value) (xs : List Int) (w : World) (hx : Has w v xs) :
    Calls Try.prog 54 #[v] w fun e w' => e = .returned (.bool (rowMay3 xs)) ∧ w = w' := by
  have hx0 := hx
  obtain ⟨a, cap, rfl, hcap, _, hx⟩ := hx
  by_cases h4 : xs.length ≤ 4
  · have hcf := slicesContainsFunc 62 (fun x => !argB x) (fun _ _ => by kernel_rfl) queOdd _ xs w hx0 (by omega)
    obtain ⟨B, hB⟩ : ∃ B, B = xs.any fun x => !argB x := ⟨_, rfl⟩
    rw [← hB] at hcf
    have HB : Hid (rowMay3 xs = !B) := hid (by rw [hB, any_not]; simp [rowMay3, h4])
    have h5 : (xs.length : Int) ≤ 4 := by omega
    clear hB hx hx0
    go_enter Try.func54, Try.ntmps54
    go_wp2_with fail
    refine hcf.mono ?_
    rintro e w1 ⟨rfl, rfl⟩
    go_wp2
    go_ret
    exact ⟨ret_bool HB.out.symm, rfl⟩
  · have h5 : ¬ (xs.length : Int) ≤ 4 := by omega
    have HB : Hid (rowMay3 xs = false) := hid (by simp [rowMay3]; omega)
    clear hx hx0
    go_enter Try.func54, Try.ntmps54
    go_wp2
    go_ret
    exact ⟨ret_bool HB.out.symm, rfl⟩

set_option maxHeartbeats 400000 in
theorem quePut (v : Value) (base : Nat) (xs : List Int) (a : Int) (w : World) (hown : Own w base v xs) (hbase : base ≤ w.heap.size) (hl : xs.length ≤ 4) :
    Calls Try.prog 55 #[v, .int .i64 a] w fun e w' => ∃ v', e = .returned (.tuple #[v', .int .i64 (enqS xs a).2]) ∧ Own w' base v' (enqS xs a).1 ∧ w.grownBy w' v.ownBlock := by
  obtain ⟨ad, cap, rfl, hc, _, hx⟩ := hown.has
  by_cases h4 : 4 ≤ xs.length
  · have HP : Hid (enqS xs a = (xs, 0)) := hid (by simp [enqS, h4])
    have h5 : (4 : Int) ≤ (xs.length : Int) := by omega
    clear hx
    go_enter Try.func55, Try.ntmps55
    go_wp2
    go_ret2
    rw [HP.out]
    exact ⟨_, rfl, hown, World.grownBy.refl _ _⟩
  · have HP : Hid (enqS xs a = (xs ++ [a], 1)) := hid (by simp [enqS, h4])
    have h5 : ¬ (4 : Int) ≤ (xs.length : Int) := by omega
    have hA := Le.alloc w (.cells #[.int .i64 a] 3)
    have hone : Own (w.alloc (.cells #[.int .i64 a] 3)) w.heap.size (slV (some ⟨w.heap.size, 0, none⟩, 1, 1)) [a] := Own.lit w _ (Nat.le_refl _) [a] (by simp)
    clear hx
    go_enter Try.func55, Try.ntmps55
    go_wp2_with (at_builtin; refine wp_append_ints rfl _ _ rfl base _ _ xs [a] rfl rfl (hown.le hA) hone.has (by simp; omega) (Nat.le_trans hbase hA.size) ?_; intro v' w2 hown2 hgrow; obtain ⟨q2, rfl⟩ := hown2.has.sl)
    go_ret2
    rw [HP.out]
    exact ⟨_, rfl, hown2, grownBy_trans (World.grownBy_alloc _ _ _) hgrow⟩

theorem quePutT : TurnsRow 55 enqS :=
  ⟨fun _ _ _ => by kernel_rfl, fun v base xs a w ho hb hl _ => quePut v base xs a w ho hb hl⟩

set_option maxHeartbeats 1000000 in
theorem queTake (v : Value) (base : Nat) (xs : List Int) (a : Int) (w : World) (hown : Own w base v xs) (hbase : base ≤ w.heap.size) (hl : xs.length ≤ 4) :
    Calls Try.prog 56 #[v, .int .i64 a] w fun e w' => ∃ v', e = .returned (.tuple #[v', .int .i64 (deqS xs).2]) ∧ Own w' base v' (deqS xs).1 ∧ w.grownBy w' v.ownBlock := by
  obtain ⟨ad, cap, rfl, hc, _, hx⟩ := hown.has
  match xs, hl, hc, hx, hown with
  | [], hl, hc, hx, hown =>
    go_enter Try.func56, Try.ntmps56
    go_wp2
    go_ret2
    exact ⟨_, rfl, Own.nil _ _, World.grownBy.refl _ _⟩
  | x :: zs, hl, hc, hx, hown =>
    obtain ⟨b, off, rfl, hcell⟩ := hx (by simp)
    have c0 : w.cell? ⟨b, off, none⟩ = some (.int .i64 x) := hcell 0 (by simp)
    obtain ⟨n, hn⟩ : ∃ n, n = zs.length := ⟨_, rfl⟩
    obtain ⟨A, hAe, hB⟩ : ∃ A, (if cap = 1 then some ⟨b, off, none⟩ else some ⟨b, off + 1, none⟩ : Option Addr) = A ∧ Has w (.slice A n (cap - 1)) zs := by
      refine ⟨_, rfl, _, _, by rw [← hn], by simp at hc; omega, (fun h => by split at h <;> cases h), fun hp => ?_⟩
      simp only [List.length_cons] at hc
      rw [if_neg (by omega)]
      refine ⟨b, off + 1, rfl, fun j hj => ?_⟩
      have := hcell (j + 1) (by simp; omega)
      rw [Nat.add_assoc, Nat.add_comm 1 j, this]
      rfl
    have HN : Hid (n = zs.length) := hn
    simp only [List.length_cons] at hc hl ⊢
    rw [← hn] at hc hl ⊢
    have n0 : ¬ (((n + 1 : Nat) : Int)) = 0 := by omega
    have n1 : (1 : Int) ≤ (n : Int) + 1 := by omega
    clear hx hcell hn
    go_enter Try.func56, Try.ntmps56
    go_wp2_with fail
    go_region_law ((refine step_append_ints rfl (.const (.slice none 0 0)) (.tmp 10) rfl w.heap.size (.slice none 0 0) (.slice A n (cap - 1)) [] zs (by simp [Act.eval]) (by simp [Act.eval, Act.put]) (Own.nil _ _) hB (by simp; have := HN.out; omega) (Nat.le_refl _) ?_; intro v1 w1 o1 g1; have l1 : Le w w1 := Below.grown (Le.drew w) g1 (Nat.le_refl _) (fun g e => (by cases e)); have c1 : w1.cell? ⟨b, off, none⟩ = some (.int .i64 x) := (by rw [l1.cell (p := ⟨b, off, none⟩) (World.block_lt_of_cell? w _ c0)]; exact c0)))
    all_goals
      go_wp2
      go_ret2
      rw [List.nil_append] at o1
      exact ⟨_, rfl, o1.base hbase, l1.grownBy _⟩

theorem queTakeT : TurnsRow 56 (fun xs _ => deqS xs) :=
  ⟨fun _ _ _ => by kernel_rfl, fun v base xs a w ho hb hl _ => queTake v base xs a w ho hb hl⟩

end Go.Proofs.Ytnpejgendmgfaaa
