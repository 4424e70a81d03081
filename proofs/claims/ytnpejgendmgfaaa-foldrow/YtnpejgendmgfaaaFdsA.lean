/-
  PLAIN GROUND AND THE WALKS over package fds' mayRow, free, put, and over slices.Index at []int: what each answers, for every row. Condition: at put, that the row is the call's own and may be a table's.
-/
import Derived.Test.YtnpejgendmgfaaaInsA
namespace Go.Proofs.Ytnpejgendmgfaaa
open Go.RowKit

/-- Do the numbers rise, above l, below 4? -/
def riseFrom (l : Int) : List Int → Bool
  | [] => true
  | x :: r => decide (l < x) && decide (x < 4) && riseFrom x r
/-- May a row be a table's? -/
def rowMay2 (xs : List Int) : Bool := riseFrom (-1) xs

/-- The rows whose numbers rise from 4 - k on. -/
def rowsAbove : Nat → List (List Int)
  | 0 => [[]]
  | k + 1 => rowsAbove k ++ (rowsAbove k).map (List.cons (3 - (k : Int)))

theorem nil_above : ∀ k, ([] : List Int) ∈ rowsAbove k
  | 0 => by simp [rowsAbove]
  | k + 1 => by simp [rowsAbove, nil_above k]

theorem rise_above : ∀ (k : Nat) (l : Int) (xs : List Int), 3 - (k : Int) ≤ l → riseFrom l xs = true → xs ∈ rowsAbove k
  | 0, _, [], _, _ => by simp [rowsAbove]
  | 0, l, x :: r, hl, h => by simp [riseFrom] at h; omega
  | k + 1, _, [], _, _ => nil_above _
  | k + 1, l, x :: r, hl, h => by
    simp only [riseFrom, Bool.and_eq_true, decide_eq_true_eq] at h
    obtain ⟨⟨h1, h2⟩, h3⟩ := h
    rw [rowsAbove, List.mem_append]
    by_cases e : x = 3 - k
    · right
      subst e
      exact List.mem_map.mpr ⟨r, rise_above k _ r (Int.le_refl _) h3, rfl⟩
    · left
      refine rise_above k (3 - k) (x :: r) (Int.le_refl _) ?_
      simp only [riseFrom, Bool.and_eq_true, decide_eq_true_eq]
      exact ⟨⟨by omega, h2⟩, h3⟩

/-- There are sixteen rows that may be a table's. -/
theorem rowMay2_mem {xs : List Int} (h : rowMay2 xs = true) : xs ∈ rowsAbove 4 := rise_above 4 (-1) xs (by omega) h

theorem rows_len : ∀ xs ∈ rowsAbove 4, xs.length ≤ 4 := by decide
theorem rowMay2_len {xs : List Int} (h : rowMay2 xs = true) : xs.length ≤ 4 := rows_len xs (rowMay2_mem h)

/-- The first place, from i on, that does not hold its own number. -/
def freeFrom (i : Int) : List Int → Int
  | [] => i
  | x :: r => if x = i then freeFrom (i + 1) r else i
/-- The least number that is free. -/
def freeS (xs : List Int) : Int := freeFrom 0 xs
/-- The place of a number, counted from i; else -1. -/
def idxFrom (i : Int) (a : Int) : List Int → Int
  | [] => -1
  | x :: r => if a = x then i else idxFrom (i + 1) a r
def idxS (xs : List Int) (a : Int) : Int := idxFrom 0 a xs

theorem freeFrom_bounds : ∀ (i : Int) (xs : List Int), i ≤ freeFrom i xs ∧ freeFrom i xs ≤ i + xs.length
  | i, [] => by simp [freeFrom]
  | i, x :: r => by
    have := freeFrom_bounds (i + 1) r
    simp only [freeFrom, List.length_cons]
    split <;> omega
theorem idxFrom_bounds (a : Int) : ∀ (i : Int) (xs : List Int), idxFrom i a xs = -1 ∨ (i ≤ idxFrom i a xs ∧ idxFrom i a xs < i + xs.length)
  | i, [] => by simp [idxFrom]
  | i, x :: r => by
    have := idxFrom_bounds a (i + 1) r
    simp only [idxFrom, List.length_cons]
    split <;> omega

/-- The row with the least number that is free; that number, or -1. -/
def putS (xs : List Int) : List Int × Int := if 4 ≤ freeS xs then (xs, -1) else (xs.take (freeS xs).toNat ++ freeS xs :: xs.drop (freeS xs).toNat, freeS xs)
/-- The row without a number; 1, or 0 if it was not there. -/
def takeS (xs : List Int) (a : Int) : List Int × Int := if idxS xs a < 0 then (xs, 0) else (xs.take (idxS xs a).toNat ++ xs.drop ((idxS xs a).toNat + 1), 1)

set_option maxHeartbeats 400000 in
theorem fdsMayRow (v : Value) (xs : List Int) (w : World) (hx : Has w v xs) :
    Calls Try.prog 50 #[v] w fun e w' => e = .returned (.bool (rowMay2 xs)) ∧ w = w' := by
  obtain ⟨a, cap, rfl, hc, _, hx⟩ := hx
  obtain ⟨n, hn⟩ : ∃ n, n = xs.length := ⟨_, rfl⟩
  rw [← hn] at hc hx ⊢
  have HN : Hid (n = xs.length) := hn
  clear hn
  go_enter Try.func50, Try.ntmps50
  go_wp2
  go_loop [3, 8] (fun l i => ∃ (k : Nat) (y : Int), k ≤ n ∧ (k : Int) ≤ y + 1 ∧ y < 4 ∧ i = .int .i64 k ∧ l = .int .i64 y ∧ Hid (rowMay2 xs = riseFrom y (xs.drop k))) (fun _ i => n - (intOf i).toNat)
  case atStart => exact ⟨0, -1, by omega, by omega, by omega, rfl, rfl, hid (by simp [rowMay2])⟩
  case round =>
    obtain ⟨k, y, hk, hy1, hy2, rfl, rfl, HR⟩ := hrel
    by_cases hlt : k < n
    · obtain ⟨b, off, rfl, hcell⟩ := hx (by omega)
      have c0 := hcell k hlt
      have hd := HR.out
      rw [drop_at (by have := HN.out; omega)] at hd
      obtain ⟨x, hxk⟩ : ∃ x, x = xs.getD k 0 := ⟨_, rfl⟩
      rw [← hxk] at c0 hd
      simp only [riseFrom] at hd
      have k0 : (0 : Int) ≤ (k : Int) := by omega
      have k1 : (k : Int) < (n : Int) := by omega
      by_cases h1 : y < x
      · by_cases h2 : x < 4
        · have HD : Hid (rowMay2 xs = riseFrom x (xs.drop (k + 1))) := hid (by rw [hd]; simp [h1, h2])
          clear hd hxk hcell hx HR
          go_wp2
          go_round
          case rel => exact ⟨k + 1, x, by omega, by omega, by omega, by go_num, rfl, HD⟩
          case measure => simp [intOf]; omega
        · have HD : Hid (rowMay2 xs = false) := hid (by rw [hd]; simp [h2])
          clear hd hxk hcell hx HR
          go_wp2
          go_ret
          exact ⟨ret_bool HD.out.symm, rfl⟩
      · have HD : Hid (rowMay2 xs = false) := hid (by rw [hd]; simp [h1])
        clear hd hxk hcell hx HR
        go_wp2
        go_ret
        exact ⟨ret_bool HD.out.symm, rfl⟩
    · obtain rfl : k = n := by omega
      have HD : Hid (rowMay2 xs = true) := hid (by have := HR.out; rw [List.drop_eq_nil_of_le (by have := HN.out; omega)] at this; exact this)
      go_wp2
      go_ret
      exact ⟨ret_bool HD.out.symm, rfl⟩

set_option maxHeartbeats 400000 in
theorem fdsFree (v : Value) (xs : List Int) (w : World) (hx : Has w v xs) (hl : xs.length ≤ 1000) :
    Calls Try.prog 59 #[v] w fun e w' => e = .returned (.int .i64 (freeS xs)) ∧ w = w' := by
  obtain ⟨a, cap, rfl, hc, _, hx⟩ := hx
  obtain ⟨n, hn⟩ : ∃ n, n = xs.length := ⟨_, rfl⟩
  rw [← hn] at hc hx hl ⊢
  have HN : Hid (n = xs.length) := hn
  clear hn
  go_enter Try.func59, Try.ntmps59
  go_wp2
  go_loop [7] (fun i => ∃ k : Nat, k ≤ n ∧ i = .int .i64 k ∧ Hid (freeS xs = freeFrom k (xs.drop k))) (fun i => n - (intOf i).toNat)
  case atStart => exact ⟨0, by omega, rfl, hid (by simp [freeS])⟩
  case round =>
    obtain ⟨k, hk, rfl, HR⟩ := hrel
    by_cases hlt : k < n
    · obtain ⟨b, off, rfl, hcell⟩ := hx (by omega)
      have c0 := hcell k hlt
      have hd := HR.out
      rw [drop_at (by have := HN.out; omega)] at hd
      obtain ⟨x, hxk⟩ : ∃ x, x = xs.getD k 0 := ⟨_, rfl⟩
      rw [← hxk] at c0 hd
      simp only [freeFrom] at hd
      have k0 : (0 : Int) ≤ (k : Int) := by omega
      have k1 : (k : Int) < (n : Int) := by omega
      by_cases h1 : x = k
      · have HD : Hid (freeS xs = freeFrom ((k + 1 : Nat) : Int) (xs.drop (k + 1))) := hid (by rw [hd]; simp [h1])
        clear hd hxk hcell hx HR
        go_wp2
        go_round
        case rel => exact ⟨k + 1, by omega, by go_num, HD⟩
        case measure => simp [intOf]; omega
      · have HD : Hid (freeS xs = k) := hid (by rw [hd]; simp [h1])
        clear hd hxk hcell hx HR
        go_wp2
        go_ret
        exact ⟨by rw [HD.out]; rfl, rfl⟩
    · obtain rfl : k = n := by omega
      have HD : Hid (freeS xs = k) := hid (by have := HR.out; rw [List.drop_eq_nil_of_le (by have := HN.out; omega)] at this; exact this)
      go_wp2
      go_ret
      exact ⟨by rw [HD.out]; rfl, rfl⟩

set_option maxHeartbeats 400000 in
theorem slicesIndex (v : Value) (xs : List Int) (x0 : Int) (w : World) (hx : Has w v xs) (hl : xs.length ≤ 1000) :
    Calls Try.prog 61 #[v, .int .i64 x0] w fun e w' => e = .returned (.int .i64 (idxS xs x0)) ∧ w = w' := by
  obtain ⟨a, cap, rfl, hc, _, hx⟩ := hx
  obtain ⟨n, hn⟩ : ∃ n, n = xs.length := ⟨_, rfl⟩
  rw [← hn] at hc hx hl ⊢
  have HN : Hid (n = xs.length) := hn
  clear hn
  go_enter Try.func61, Try.ntmps61
  go_wp2
  go_loop [8] (fun i => ∃ k : Nat, k ≤ n ∧ i = .int .i64 k ∧ Hid (idxS xs x0 = idxFrom k x0 (xs.drop k))) (fun i => n - (intOf i).toNat)
  case atStart => exact ⟨0, by omega, rfl, hid (by simp [idxS])⟩
  case round =>
    obtain ⟨k, hk, rfl, HR⟩ := hrel
    by_cases hlt : k < n
    · obtain ⟨b, off, rfl, hcell⟩ := hx (by omega)
      have c0 := hcell k hlt
      have hd := HR.out
      rw [drop_at (by have := HN.out; omega)] at hd
      obtain ⟨x, hxk⟩ : ∃ x, x = xs.getD k 0 := ⟨_, rfl⟩
      rw [← hxk] at c0 hd
      simp only [idxFrom] at hd
      have k0 : (0 : Int) ≤ (k : Int) := by omega
      have k1 : (k : Int) < (n : Int) := by omega
      by_cases h1 : x0 = x
      · subst h1
        have HD : Hid (idxS xs x0 = k) := hid (by rw [hd]; simp)
        clear hd hxk hcell hx HR
        go_wp2
        go_ret
        exact ⟨by rw [HD.out]; rfl, rfl⟩
      · have HD : Hid (idxS xs x0 = idxFrom ((k + 1 : Nat) : Int) x0 (xs.drop (k + 1))) := hid (by rw [hd]; simp [h1])
        clear hd hxk hcell hx HR
        go_wp2
        go_round
        case rel => exact ⟨k + 1, by omega, by go_num, HD⟩
        case measure => simp [intOf]; omega
    · obtain rfl : k = n := by omega
      have HD : Hid (idxS xs x0 = -1) := hid (by have := HR.out; rw [List.drop_eq_nil_of_le (by have := HN.out; omega)] at this; exact this)
      go_wp2
      go_ret
      exact ⟨by rw [HD.out]; rfl, rfl⟩

set_option maxHeartbeats 400000 in
theorem fdsPut (v : Value) (base : Nat) (xs : List Int) (a : Int) (w : World) (hown : Own w base v xs) (hbase : base ≤ w.heap.size) (hl : xs.length ≤ 1000) :
    Calls Try.prog 52 #[v, .int .i64 a] w fun e w' => ∃ v', e = .returned (.tuple #[v', .int .i64 (putS xs).2]) ∧ Own w' base v' (putS xs).1 ∧ w.grownBy w' v.ownBlock := by
  have hfree := fdsFree v xs w hown.has hl
  obtain ⟨b0, b1⟩ := freeFrom_bounds 0 xs
  rw [show freeFrom 0 xs = freeS xs from rfl] at b0 b1
  by_cases h4 : 4 ≤ freeS xs
  · have HP : Hid (putS xs = (xs, -1)) := hid (by simp [putS, h4])
    go_enter Try.func52, Try.ntmps52
    go_wp2_with fail
    refine hfree.mono ?_
    rintro e w1 ⟨rfl, rfl⟩
    go_wp2
    go_ret2
    rw [HP.out]
    exact ⟨_, rfl, hown, World.grownBy.refl _ _⟩
  · have HP : Hid (putS xs = (xs.take (freeS xs).toNat ++ freeS xs :: xs.drop (freeS xs).toNat, freeS xs)) := hid (by simp [putS, h4])
    obtain ⟨i, hi⟩ : ∃ i : Nat, freeS xs = i := ⟨(freeS xs).toNat, by omega⟩
    rw [hi] at h4 hfree b0 b1
    have hnb : v.ownBlock ≠ some w.heap.size := fun e => by have := (hown.block e).2; omega
    have hins := slicesInsert v base xs i i w.heap.size (w.alloc (.cells #[.int .i64 i] 3)) (hown.le (Le.alloc _ _)) (by simp; omega) (by omega) hl (Box.new w _ _) hnb
    go_enter Try.func52, Try.ntmps52
    go_wp2_with fail
    refine hfree.mono ?_
    rintro e w1 ⟨rfl, rfl⟩
    go_wp2_with fail
    refine hins.mono ?_
    rintro e w2 ⟨v', rfl, ho, hg⟩
    go_wp2
    go_ret2
    rw [HP.out, hi]
    exact ⟨_, rfl, ho, grownBy_trans (World.grownBy_alloc _ _ _) hg⟩

end Go.Proofs.Ytnpejgendmgfaaa
