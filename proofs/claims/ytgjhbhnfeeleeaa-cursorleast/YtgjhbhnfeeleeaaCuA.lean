/-
  THE WALKS over slices.Min at []int, lists.All at int with a function that holds one variable, and package cursor's Least and May: what each answers, for every ring and all numbers. Condition: that the slots can be copied.
-/
import Derived.Test.YtgjhbhnfeeleeaaRgB
namespace Go.Proofs.Ytgjhbhnfeeleeaa
open Go.RowKit

/-- The least of some numbers. -/
def minL (xs : List Int) : Int := xs.foldl min (xs.getD 0 0)
/-- The document's Least: the least of them, and no error. -/
def leastS (xs : List Int) : Int × Int := if xs.length = 0 ∨ minL xs < 0 then (0, 1100) else (minL xs, 0)
/-- Is it from h to t? -/
def insB (h t x : Int) : Bool := decide (h ≤ x) && decide (x ≤ t)
/-- The document's May: may the ring be, and is each of them in it? -/
def cursB (R : Rg) (xs : List Int) : Bool := mayR R && xs.all (insB R.h R.t)

theorem foldmin_le : ∀ (xs : List Int) (a : Int), xs.foldl min a ≤ a ∧ ∀ x ∈ xs, xs.foldl min a ≤ x
  | [], a => ⟨Int.le_refl _, fun x h => by cases h⟩
  | y :: ys, a => by
    have h := foldmin_le ys (min a y)
    refine ⟨by have := h.1; simp only [List.foldl_cons]; omega, fun x hx => ?_⟩
    simp only [List.foldl_cons]
    rcases List.mem_cons.1 hx with rfl | hx
    · have := h.1; omega
    · exact h.2 x hx
theorem foldmin_mem : ∀ (xs : List Int) (a : Int), xs.foldl min a = a ∨ xs.foldl min a ∈ xs
  | [], a => .inl rfl
  | y :: ys, a => by
    simp only [List.foldl_cons]
    rcases foldmin_mem ys (min a y) with h | h
    · rcases (by omega : min a y = a ∨ min a y = y) with e | e
      · left; rw [h, e]
      · right; rw [h, e]; exact List.mem_cons_self
    · right; exact List.mem_cons_of_mem _ h
theorem minL_le {xs : List Int} {x : Int} (h : x ∈ xs) : minL xs ≤ x := (foldmin_le xs _).2 x h
theorem minL_mem {xs : List Int} (h : 0 < xs.length) : minL xs ∈ xs := by
  rcases foldmin_mem xs (xs.getD 0 0) with e | e
  · unfold minL; rw [e]; cases xs with
    | nil => simp at h
    | cons x r => simp
  · exact e
theorem take_min {xs : List Int} {k : Nat} (hk : k < xs.length) (a : Int) : (xs.take (k + 1)).foldl min a = min ((xs.take k).foldl min a) (xs.getD k 0) := by
  rw [List.take_succ_eq_append_getElem hk, List.foldl_append]
  simp [List.getD, hk]
theorem take1_min {xs : List Int} (hk : 0 < xs.length) : (xs.take 1).foldl min (xs.getD 0 0) = xs.getD 0 0 := by
  rw [take_min hk]; simp

set_option maxHeartbeats 400000 in
theorem slicesMin (v : Value) (xs : List Int) (w : World) (hx : Has w v xs) (h0 : 0 < xs.length) (hm : xs.length ≤ 9223372036854775807) :
    Calls Try.prog 18 #[v] w fun e w' => e = .returned (.int .i64 (minL xs)) ∧ w = w' := by
  obtain ⟨a, cap, rfl, hc', _, hx⟩ := hx
  obtain ⟨b, off, rfl, hcell⟩ := hx h0
  clear hx
  obtain ⟨x0, hx0⟩ : ∃ x0, x0 = xs.getD 0 0 := ⟨_, rfl⟩
  have c0 := hcell 0 h0
  rw [← hx0, Nat.add_zero] at c0
  obtain ⟨L, hL⟩ : ∃ L, L = xs.length := ⟨_, rfl⟩
  have HL : Hid (L = xs.length) := hL
  have HT : Hid ((xs.take 1).foldl min x0 = x0) := by rw [hx0]; exact take1_min h0
  have HM : Hid (minL xs = xs.foldl min x0) := by rw [hx0]; rfl
  rw [← hL] at hm h0 hc' hcell ⊢
  clear hL hx0
  go_enter Try.func18, Try.ntmps18
  go_wp2
  go_loop [3, 4] (fun m i => ∃ (k : Nat) (y : Int), 1 ≤ k ∧ k ≤ L ∧ m = .int .i64 y ∧ i = .int .i64 k ∧ Hid ((xs.take k).foldl min x0 = y)) (fun _ i => L - (intOf i).toNat)
  case atStart => exact ⟨1, x0, by omega, by omega, rfl, rfl, HT⟩
  case round =>
    obtain ⟨k, y, hk0, hk, rfl, rfl, HA⟩ := hrel
    by_cases hlt : k < L
    · obtain ⟨x, hx⟩ : ∃ x, x = xs.getD k 0 := ⟨_, rfl⟩
      have ck := hcell k hlt
      rw [← hx] at ck
      have HS : Hid ((xs.take (k + 1)).foldl min x0 = min y x) := by rw [hx, take_min (by have := HL.out; omega), HA.out]; rfl
      clear hx hcell HA
      have hlt' : (k : Int) < (L : Int) := by omega
      by_cases hxy : x < y
      · have HS' : Hid ((xs.take (k + 1)).foldl min x0 = x) := by rw [HS.out]; show min y x = x; omega
        go_wp2
        go_round
        case rel => exact ⟨k + 1, x, by omega, by omega, by go_num, by go_num, HS'⟩
        case measure => simp [intOf]; omega
      · have HS' : Hid ((xs.take (k + 1)).foldl min x0 = y) := by rw [HS.out]; show min y x = y; omega
        go_wp2
        go_round
        case rel => exact ⟨k + 1, y, by omega, by omega, by go_num, by go_num, HS'⟩
        case measure => simp [intOf]; omega
    · obtain rfl : k = L := by omega
      go_wp2
      go_ret
      exact ⟨by rw [HM.out]; have := HA.out; rw [HL.out, List.take_length] at this; rw [this]; rfl, rfl⟩

theorem ints_all_take {xs : List Int} {p : Int → Bool} {k : Nat} (hk : k < xs.length) (h : (xs.take k).all p = true) (hp : p (xs.getD k 0) = true) : (xs.take (k + 1)).all p = true := by
  rw [List.take_succ_eq_append_getElem hk, List.all_append, h]
  simp [List.getD, hk] at hp
  simp [hp]
theorem ints_all_no {xs : List Int} {p : Int → Bool} {k : Nat} (hk : k < xs.length) (hp : p (xs.getD k 0) = false) : xs.all p = false := by
  rw [← Bool.not_eq_true, List.all_eq_true]
  intro h
  have := h (xs.getD k 0) (by simp [List.getD, hk])
  rw [hp] at this
  cases this

set_option maxHeartbeats 400000 in
theorem listsAllInt (f : Nat) (c : Value) (p : Int → Bool) (hc : ∀ (u : Value) (w : World), (callFunc f #[u, c]).run Try.prog w = .ok (.enter f #[u, c]) w) (v : Value) (xs : List Int) (w : World) (hp : ∀ (x : Int), Calls Try.prog f #[.int .i64 x, c] w fun e w' => e = .returned (.bool (p x)) ∧ w = w') (hx : Has w v xs) (hm : xs.length ≤ 9223372036854775807) :
    Calls Try.prog 21 #[v, .func (.func f) #[] #[c]] w fun e w' => e = .returned (.bool (xs.all p)) ∧ w = w' := by
  obtain ⟨a, cap, rfl, hc', _, hx⟩ := hx
  by_cases h0 : 0 < xs.length
  · obtain ⟨b, off, rfl, hcell⟩ := hx h0
    clear hx
    obtain ⟨L, hL⟩ : ∃ L, L = xs.length := ⟨_, rfl⟩
    have HL : Hid (L = xs.length) := hL
    rw [← hL] at hm h0 hc' hcell ⊢
    clear hL
    go_enter Try.func21, Try.ntmps21
    go_wp2
    go_loop [9] (fun i => ∃ k : Nat, k ≤ L ∧ i = .int .i64 k ∧ Hid ((xs.take k).all p = true)) (fun i => L - (intOf i).toNat)
    case atStart => exact ⟨0, by omega, rfl, rfl⟩
    case round =>
      obtain ⟨k, hk, rfl, HA⟩ := hrel
      by_cases hlt : k < L
      · obtain ⟨s, hs⟩ : ∃ s, s = xs.getD k 0 := ⟨_, rfl⟩
        have HS : Hid (s = xs.getD k 0) := hs
        have x0 := hcell k hlt
        rw [← hs] at x0
        clear hs hcell
        have hlt' : (k : Int) < (L : Int) := by omega
        have hm := hp s
        cases hh : p s
        · rw [hh] at hm
          go_wp2_with fail
          refine hm.mono ?_
          rintro e w1 ⟨rfl, rfl⟩
          go_wp2
          go_ret
          exact ⟨ret_bool (ints_all_no (k := k) (by have := HL.out; omega) (by rw [← HS.out]; exact hh)).symm, rfl⟩
        · rw [hh] at hm
          go_wp2_with fail
          refine hm.mono ?_
          rintro e w1 ⟨rfl, rfl⟩
          go_wp2
          go_round
          case rel => exact ⟨k + 1, by omega, by go_num, ints_all_take (by have := HL.out; omega) HA.out (by rw [← HS.out]; exact hh)⟩
          case measure => simp [intOf]; omega
      · obtain rfl : k = L := by omega
        go_wp2
        go_ret
        exact ⟨ret_bool (by have := HA.out; rw [HL.out, List.take_length] at this; exact this.symm), rfl⟩
  · have hxn : xs = [] := by cases xs with | nil => rfl | cons _ _ => simp at h0
    subst hxn
    go_enter Try.func21, Try.ntmps21
    go_wp2
    refine wp_loop_rounds 1 ?_
    rw [rounds_succ]
    go_wp2
    go_ret
    exact ⟨rfl, rfl⟩

set_option maxHeartbeats 400000 in
theorem cursorLeast (v : Value) (xs : List Int) (w : World) (hx : Has w v xs) (hm : xs.length ≤ 9223372036854775807) :
    Calls Try.prog 8 #[v] w fun e w' => e = .returned (.tuple #[.int .i64 (leastS xs).1, .int .i64 (leastS xs).2]) ∧ w = w' := by
  by_cases h0 : 0 < xs.length
  · have hmin := slicesMin v xs w hx h0 hm
    obtain ⟨m, hmm⟩ : ∃ m, m = minL xs := ⟨_, rfl⟩
    have HS : Hid (leastS xs = if m < 0 then (0, 1100) else (m, 0)) := by
      rw [hmm]; unfold leastS
      show (if xs.length = 0 ∨ minL xs < 0 then _ else _) = _
      by_cases e : minL xs < 0
      · rw [if_pos (.inr e), if_pos e]
      · rw [if_neg (by omega), if_neg e]
    rw [← hmm] at hmin
    obtain ⟨a, cap, rfl, hc', _, hx⟩ := hx
    have h1 : ((xs.length : Int) == 0) = false := by simp; intro e; subst e; simp at h0
    clear hmm hx
    by_cases hneg : m < 0
    · rw [HS.out, if_pos hneg]
      go_enter Try.func8, Try.ntmps8
      go_wp2_with (go_at_call 18; refine hmin.mono ?_; rintro e _ ⟨rfl, rfl⟩)
      go_ret2
      exact ⟨rfl, rfl⟩
    · rw [HS.out, if_neg hneg]
      go_enter Try.func8, Try.ntmps8
      go_wp2_with (go_at_call 18; refine hmin.mono ?_; rintro e _ ⟨rfl, rfl⟩)
      go_ret2
      exact ⟨rfl, rfl⟩
  · have hxn : xs = [] := by cases xs with | nil => rfl | cons _ _ => simp at h0
    subst hxn
    obtain ⟨a, cap, rfl⟩ := hx.shape
    go_enter Try.func8, Try.ntmps8
    go_wp2
    go_ret2
    exact ⟨rfl, rfl⟩

set_option maxHeartbeats 400000 in
theorem cursorInside (h t f : Int) (q : Sl) (g : Nat) (x : Int) (w : World) (hb : Box w g (cellsR h t f q) 24) :
    Calls Try.prog 19 #[.int .i64 x, .pointer (some ⟨g, 0, none⟩)] w fun e w' => e = .returned (.bool (insB h t x)) ∧ w = w' := by
  obtain ⟨b0, b1, b2, b3, f0, f1, f2, f3⟩ := hb.ring
  by_cases h1 : h ≤ x
  · go_enter Try.func19, Try.ntmps19
    go_wp2
    go_ret
    exact ⟨ret_bool (by simp [insB, h1]), rfl⟩
  · go_enter Try.func19, Try.ntmps19
    go_wp2
    go_ret
    exact ⟨ret_bool (by simp [insB]; omega), rfl⟩

set_option maxHeartbeats 400000 in
theorem cursorMay (v u : Value) (R : Rg) (xs : List Int) (w : World) (hr : HasR w v R) (hf : FitR R) (hx : Has w u xs) (hm : xs.length ≤ 9223372036854775807) :
    Calls Try.prog 11 #[v, u] w fun e w' => e = .returned (.bool (cursB R xs)) ∧ Le w w' := by
  obtain ⟨h, t, f, ss⟩ := R
  obtain ⟨q, rfl, hq⟩ := hr
  have hb := Box.new w (cellsR h t f q) 24
  have hl := Le.alloc w (.cells (cellsR h t f q) 24)
  simp only [cursB]
  have m1 := fun w hq => ringMay (ringV h t f q) ⟨h, t, f, ss⟩ w ⟨q, rfl, hq⟩ hf
  have hq' := hq.le hl
  cases h1 : mayR ⟨h, t, f, ss⟩
  · rw [h1] at m1
    go_enter Try.func11, Try.ntmps11
    go_wp2_with (go_at_call 20; refine (m1 _ hq').mono ?_; rintro e w1 ⟨rfl, l1⟩)
    go_ret
    exact ⟨rfl, hl.trans l1⟩
  · rw [h1] at m1
    go_enter Try.func11, Try.ntmps11
    go_wp2_with (first | (go_at_call 20; refine (m1 _ hq').mono ?_; rintro e w1 ⟨rfl, l1⟩) | (go_at_call 21; refine (listsAllInt 19 _ (insB h t) (fun _ _ => by rfl) _ xs _ (fun x => cursorInside h t f q _ x _ (hb.le l1)) (hx.le (hl.trans l1)) hm).mono ?_; rintro e _ ⟨rfl, rfl⟩))
    go_ret
    exact ⟨rfl, hl.trans l1⟩

end Go.Proofs.Ytgjhbhnfeeleeaa
