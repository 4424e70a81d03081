/-
  THE WALKS over the document's own StateMay, has, fdsRow, at a table: what they answer, for every row and state. Condition: at fdsRow, that the row is the call's own and may be a table's.
-/
import Derived.Test.YtnpejgendmgfaaaRefRow1
namespace Go.Proofs.Ytnpejgendmgfaaa
open Go.RowKit

set_option maxHeartbeats 400000 in
theorem refStateMay1 (v : Value) (s : St) (w : World) (hx : HasS w v s) :
    Calls Try.prog 21 #[.int .i64 1, v] w fun e w' => e = .returned (.bool (s.all rowMay2)) ∧ Le w w' := by
  obtain ⟨vs, rfl, hr⟩ := hx
  have hl := Le.alloc w (.cells (cells4 vs) 25)
  have hb := Box.new w (cells4 vs) 25
  go_enter Try.func21, Try.ntmps21
  go_wp2
  go_loopw [5] (fun i wr => ∃ k : Nat, k ≤ 4 ∧ i = .int .i64 k ∧ Hid (∀ j, j < k → rowMay2 (s.at j) = true) ∧ Le (w.alloc (.cells (cells4 vs) 25)) wr) (fun i _ => 4 - (intOf i).toNat)
  case atStart => exact ⟨0, by omega, rfl, (fun j hj => by omega), Le.refl _⟩
  case round =>
    obtain ⟨k, hk, rfl, HA, hle⟩ := hrel
    by_cases hlt : k < 4
    · have hm := refRowMay1 (slV (vs k)) (s.at k) wr ((hr k hlt).le (hl.trans hle))
      have c1 : wr.cell? ⟨w.heap.size, k, none⟩ = some (slV (vs k)) := ((hb.le hle).cell k).trans (cells4_at vs hlt)
      cases hh : rowMay2 (s.at k)
      · rw [hh] at hm
        go_wp2_with fail
        refine hm.mono ?_
        rintro e w1 ⟨rfl, l1⟩
        go_wp2
        go_ret
        exact ⟨ret_bool (St.all_not hlt hh).symm, (hl.trans hle).trans l1⟩
      · rw [hh] at hm
        go_wp2_with fail
        refine hm.mono ?_
        rintro e w1 ⟨rfl, l1⟩
        go_wp2
        go_roundw
        case rel => exact ⟨k + 1, by omega, by go_num, (fun j hj => by rcases Nat.lt_or_eq_of_le (Nat.le_of_lt_succ hj) with h | h; exact HA.out j h; exact h ▸ hh), hle.trans l1⟩
        case measure => simp [intOf]; omega
    · obtain rfl : k = 4 := by omega
      go_wp2
      go_ret
      exact ⟨ret_bool (St.all_of HA.out).symm, hl.trans hle⟩

/-- Is a number in the row? -/
def inB (xs : List Int) (i : Nat) : Bool := decide ((i : Int) ∈ xs)

theorem not_take {xs : List Int} {x : Int} {m : Nat} (h : m < xs.length) (hn : x ∉ xs.take m) (hx : ¬ xs.getD m 0 = x) : x ∉ xs.take (m + 1) := by
  rw [List.take_succ_eq_append_getElem h, List.mem_append, not_or]
  refine ⟨hn, ?_⟩
  simp only [List.mem_singleton]
  intro e
  apply hx
  simp [List.getD, h, e]

set_option maxHeartbeats 400000 in
theorem refHas (v : Value) (xs : List Int) (x0 : Int) (w : World) (hx : Has w v xs) (hl : xs.length ≤ 1000) :
    Calls Try.prog 36 #[v, .int .i64 x0] w fun e w' => e = .returned (.bool (decide (x0 ∈ xs))) ∧ w = w' := by
  obtain ⟨a, cap, rfl, hc, _, hx⟩ := hx
  obtain ⟨n, hn⟩ : ∃ n, n = xs.length := ⟨_, rfl⟩
  rw [← hn] at hc hx hl ⊢
  have HN : Hid (n = xs.length) := hn
  clear hn
  obtain ⟨B, hB⟩ : ∃ B, B = decide (x0 ∈ xs) := ⟨_, rfl⟩
  rw [← hB]
  have HB : Hid (B = decide (x0 ∈ xs)) := hB
  clear hB
  go_enter Try.func36, Try.ntmps36
  go_wp2
  go_loop [5] (fun i => ∃ k : Nat, k ≤ n ∧ i = .int .i64 k ∧ Hid (x0 ∉ xs.take k)) (fun i => n - (intOf i).toNat)
  case atStart => exact ⟨0, by omega, rfl, hid (by simp)⟩
  case round =>
    obtain ⟨k, hk, rfl, HR⟩ := hrel
    by_cases hlt : k < n
    · obtain ⟨b, off, rfl, hcell⟩ := hx (by omega)
      have c0 := hcell k hlt
      obtain ⟨x, hxk⟩ : ∃ x, x = xs.getD k 0 := ⟨_, rfl⟩
      rw [← hxk] at c0
      have k0 : (0 : Int) ≤ (k : Int) := by omega
      have k1 : (k : Int) < (n : Int) := by omega
      by_cases h1 : x = x0
      · have HD : Hid (B = true) := hid (by
          have hh : k < xs.length := by rw [← HN.out]; exact hlt
          rw [HB.out, decide_eq_true_eq, ← h1, hxk]
          simp [List.getD, hh])
        clear hxk hcell hx HR HB
        subst h1
        go_wp2
        go_ret
        exact ⟨ret_bool HD.out.symm, rfl⟩
      · have HD : Hid (x0 ∉ xs.take (k + 1)) := hid (not_take (by rw [← HN.out]; exact hlt) HR.out (by rw [← hxk]; exact h1))
        clear hxk hcell hx HR
        go_wp2
        go_round
        case rel => exact ⟨k + 1, by omega, by go_num, HD⟩
        case measure => simp [intOf]; omega
    · obtain rfl : k = n := by omega
      have HD : Hid (B = false) := hid (by
        rw [HB.out, decide_eq_false_iff_not]
        have := HR.out
        rwa [List.take_of_length_le (by have := HN.out; omega)] at this)
      go_wp2
      go_ret
      exact ⟨ret_bool HD.out.symm, rfl⟩

/-- The numbers below m that are so. -/
def outTo (p : Nat → Bool) : Nat → List Int
  | 0 => []
  | m + 1 => if p m then outTo p m ++ [(m : Int)] else outTo p m

theorem outTo_len (p : Nat → Bool) : ∀ m, (outTo p m).length ≤ m
  | 0 => Nat.le_refl _
  | m + 1 => by
    have := outTo_len p m
    simp only [outTo]
    split
    · simp; omega
    · omega

theorem free_rows : ∀ xs ∈ rowsAbove 4, ∀ k : Nat, k < 5 → (∀ j, j < k → inB xs j = true) → inB xs k = false → freeS xs = k := by decide
theorem in_rows : ∀ xs ∈ rowsAbove 4, ∀ x ∈ xs, 0 ≤ x ∧ x < 4 := by decide
theorem out_put : ∀ xs ∈ rowsAbove 4, freeS xs < 4 → outTo (fun i => decide ((i : Int) = freeS xs) || inB xs i) 4 = (putS xs).1 ∧ (putS xs).2 = freeS xs := by decide
theorem out_take : ∀ xs ∈ rowsAbove 4, ∀ a ∈ xs, outTo (fun i => !decide ((i : Int) = a) && inB xs i) 4 = (takeS xs a).1 ∧ (takeS xs a).2 = 1 := by decide

set_option maxHeartbeats 2000000 in
theorem refFdsRow0 (v : Value) (xs : List Int) (r a : Int) (w : World) (base : Nat) (hown : Own w base v xs) (hbase : base ≤ w.heap.size) (hm : rowMay2 xs = true) :
    Calls Try.prog 29 #[v, opV 0 r a] w fun e w' => ∃ q : Sl, e = .returned (.tuple #[slV q, .int .i64 (putS xs).2]) ∧ Own w' base (slV q) (putS xs).1 ∧ Le w w' := by
  have hl := Le.alloc w (.cells #[.int .i64 0, .int .i64 r, .int .i64 a] 43)
  have hb := Box.new w #[.int .i64 0, .int .i64 r, .int .i64 a] 43
  have hlen := rowMay2_len hm
  obtain ⟨q0, rfl⟩ := hown.has.sl
  have hhas := fun (x : Int) (w' : World) (h : Le w w') => refHas (slV q0) xs x w' (hown.has.le h) (by omega)
  go_enter Try.func29, Try.ntmps29
  go_wp2
  generalize hW : w.alloc (.cells #[.int .i64 0, .int .i64 r, .int .i64 a] 43) = W at hl hb ⊢
  clear hW
  go_loop [6] (fun i => ∃ k : Nat, k ≤ 4 ∧ i = .int .i64 k ∧ Hid (∀ j, j < k → inB xs j = true)) (fun i => 4 - (intOf i).toNat)
  case atStart => exact ⟨0, by omega, rfl, hid (fun j hj => by omega)⟩
  case round =>
    obtain ⟨k, hk, rfl, HR⟩ := hrel
    have hc := hhas k W hl
    cases hin : inB xs k
    · rw [show decide ((k : Int) ∈ xs) = false from hin] at hc
      have hfree := free_rows xs (rowMay2_mem hm) k (by omega) HR.out hin
      by_cases h4 : k = 4
      · have HP : Hid (putS xs = (xs, -1)) := hid (by simp [putS, hfree, h4])
        have K4 : Hid ((k : Int) = 4) := hid (by omega)
        clear hhas hfree h4 hin HR
        go_wp2_with fail
        refine hc.mono ?_
        rintro e w1 ⟨rfl, rfl⟩
        have k4 := K4.out
        go_wp2
        go_ret2
        rw [HP.out]
        exact ⟨_, rfl, hown.le hl, hl⟩
      · have k4 : ¬ (k : Int) = 4 := by omega
        have k5 : ((k : Int) == 4) = false := by rw [beq_eq_false_iff_ne]; exact k4
        obtain ⟨hp1, hp2⟩ := out_put xs (rowMay2_mem hm) (by omega)
        rw [hfree] at hp1 hp2
        have HP : Hid (outTo (fun i => decide ((i : Int) = (k : Int)) || inB xs i) 4 = (putS xs).1) := hp1
        have HQ : Hid ((putS xs).2 = (k : Int)) := hp2
        clear hfree hp1 hp2 hin HR
        obtain ⟨o0, o1, o2, _, _, _⟩ := hb.op
        go_wp2_with fail
        refine hc.mono ?_
        rintro e w1 ⟨rfl, rfl⟩
        clear hc
        go_wp2
        clear o0 o1 o2
        go_loopw [7, 8] (fun o i wr => ∃ (m : Nat) (q : Sl), m ≤ 4 ∧ o = slV q ∧ i = .int .i64 m ∧ Own wr W.heap.size (slV q) (outTo (fun i => decide ((i : Int) = (k : Int)) || inB xs i) m) ∧ Le W wr) (fun _ i _ => 4 - (intOf i).toNat)
        case atStart => exact ⟨0, slZ, by omega, rfl, rfl, Own.nil _ _, Le.refl _⟩
        case round =>
          obtain ⟨m, q, hm4, rfl, rfl, ho, lr⟩ := hrel
          by_cases hlt : m < 4
          · have hc := hhas m wr (hl.trans lr)
            obtain ⟨o0, o1, o2, _, _, _⟩ := (hb.le lr).op
            have hol := outTo_len (fun i => decide ((i : Int) = (k : Int)) || inB xs i) m
            have hA := Le.alloc wr (.cells #[.int .i64 m] 3)
            have hone : Own (wr.alloc (.cells #[.int .i64 m] 3)) wr.heap.size (slV (some ⟨wr.heap.size, 0, none⟩, 1, 1)) [(m : Int)] := Own.lit wr _ (Nat.le_refl _) [(m : Int)] (by simp)
            have hrow : ∀ g, (slV q).ownBlock = some g → W.heap.size ≤ g := fun g e => (ho.block e).1
            by_cases hmk : (m : Int) = (k : Int)
            · have HO : Hid (outTo (fun i => decide ((i : Int) = (k : Int)) || inB xs i) (m + 1) = outTo (fun i => decide ((i : Int) = (k : Int)) || inB xs i) m ++ [(m : Int)]) := hid (by simp [outTo, hmk])
              have e1 : ((m : Int) == (k : Int)) = true := by simp [hmk]
              have hk2 : m = k := by omega
              subst hk2
              clear hc hmk hhas
              go_wp2_with (at_builtin; refine wp_append_ints rfl _ _ rfl W.heap.size _ _ (outTo (fun i => decide ((i : Int) = (m : Int)) || inB xs i) m) [(m : Int)] rfl rfl (ho.le hA) hone.has (by simp; omega) (Nat.le_trans lr.size hA.size) ?_; intro v' w2 hown2 hgrow; obtain ⟨q2, rfl⟩ := hown2.has.sl)
              go_roundw
              case rel => exact ⟨m + 1, q2, by omega, rfl, by go_num, by rw [HO.out]; exact hown2, Below.grown (lr.trans hA) hgrow (Nat.le_trans lr.size hA.size) hrow⟩
              case measure => simp [intOf]; omega
            · have e1 : ((m : Int) == (k : Int)) = false := by simp [hmk]
              have e2 : ((m : Int) != (k : Int)) = true := by simp [hmk]
              cases hin : inB xs m
              · have HO : Hid (outTo (fun i => decide ((i : Int) = (k : Int)) || inB xs i) (m + 1) = outTo (fun i => decide ((i : Int) = (k : Int)) || inB xs i) m) := hid (by simp [outTo, hmk, hin])
                rw [show decide ((m : Int) ∈ xs) = false from hin] at hc
                clear hhas hin
                go_wp2_with fail
                refine hc.mono ?_
                rintro e w1 ⟨rfl, rfl⟩
                go_wp2
                go_roundw
                case rel => exact ⟨m + 1, q, by omega, rfl, by go_num, by rw [HO.out]; exact ho, lr⟩
                case measure => simp [intOf]; omega
              · have HO : Hid (outTo (fun i => decide ((i : Int) = (k : Int)) || inB xs i) (m + 1) = outTo (fun i => decide ((i : Int) = (k : Int)) || inB xs i) m ++ [(m : Int)]) := hid (by simp [outTo, hin])
                rw [show decide ((m : Int) ∈ xs) = true from hin] at hc
                clear hhas hin
                go_wp2_with fail
                refine hc.mono ?_
                rintro e w1 ⟨rfl, rfl⟩
                go_wp2_with (at_builtin; refine wp_append_ints rfl _ _ rfl W.heap.size _ _ (outTo (fun i => decide ((i : Int) = (k : Int)) || inB xs i) m) [(m : Int)] rfl rfl (ho.le hA) hone.has (by simp; omega) (Nat.le_trans lr.size hA.size) ?_; intro v' w2 hown2 hgrow; obtain ⟨q2, rfl⟩ := hown2.has.sl)
                go_roundw
                case rel => exact ⟨m + 1, q2, by omega, rfl, by go_num, by rw [HO.out]; exact hown2, Below.grown (lr.trans hA) hgrow (Nat.le_trans lr.size hA.size) hrow⟩
                case measure => simp [intOf]; omega
          · obtain rfl : m = 4 := by omega
            obtain ⟨o0, o1, o2, _, _, _⟩ := (hb.le lr).op
            go_wp2
            go_ret2
            rw [HQ.out]
            exact ⟨q, rfl, by rw [← HP.out]; exact ho.base (Nat.le_trans hbase hl.size), hl.trans lr⟩
    · rw [show decide ((k : Int) ∈ xs) = true from hin] at hc
      have hk4 : k < 4 := by
        have := (in_rows xs (rowMay2_mem hm) k (by simpa [inB] using hin)).2
        omega
      have HD : Hid (∀ j, j < k + 1 → inB xs j = true) := hid (fun j hj => by rcases Nat.lt_or_eq_of_le (Nat.le_of_lt_succ hj) with h | h; exact HR.out j h; exact h ▸ hin)
      clear hhas hin HR
      go_wp2_with fail
      refine hc.mono ?_
      rintro e w1 ⟨rfl, rfl⟩
      go_wp2
      go_round
      case rel => exact ⟨k + 1, by omega, by go_num, HD⟩
      case measure => simp [intOf]; omega

set_option maxHeartbeats 2000000 in
theorem refFdsRow1 (v : Value) (xs : List Int) (r a : Int) (w : World) (base : Nat) (hown : Own w base v xs) (hbase : base ≤ w.heap.size) (hm : rowMay2 xs = true) :
    Calls Try.prog 29 #[v, opV 1 r a] w fun e w' => ∃ q : Sl, e = .returned (.tuple #[slV q, .int .i64 (takeS xs a).2]) ∧ Own w' base (slV q) (takeS xs a).1 ∧ Le w w' := by
  have hl := Le.alloc w (.cells #[.int .i64 1, .int .i64 r, .int .i64 a] 43)
  have hb := Box.new w #[.int .i64 1, .int .i64 r, .int .i64 a] 43
  have hlen := rowMay2_len hm
  obtain ⟨q0, rfl⟩ := hown.has.sl
  have hhas := fun (x : Int) (w' : World) (h : Le w w') => refHas (slV q0) xs x w' (hown.has.le h) (by omega)
  by_cases hin : a ∈ xs
  · have hc := hhas a _ hl
    rw [show decide (a ∈ xs) = true by simp [hin]] at hc
    obtain ⟨hp1, hp2⟩ := out_take xs (rowMay2_mem hm) a hin
    have HP : Hid (outTo (fun i => !decide ((i : Int) = a) && inB xs i) 4 = (takeS xs a).1) := hp1
    have HQ : Hid ((takeS xs a).2 = 1) := hp2
    clear hp1 hp2 hin
    go_enter Try.func29, Try.ntmps29
    go_wp2_with fail
    refine hc.mono ?_
    rintro e w1 ⟨rfl, rfl⟩
    clear hc
    go_wp2
    generalize hW : w.alloc (.cells #[.int .i64 1, .int .i64 r, .int .i64 a] 43) = W at hl hb ⊢
    clear hW
    go_loopw [7, 8] (fun o i wr => ∃ (m : Nat) (q : Sl), m ≤ 4 ∧ o = slV q ∧ i = .int .i64 m ∧ Own wr W.heap.size (slV q) (outTo (fun i => !decide ((i : Int) = a) && inB xs i) m) ∧ Le W wr) (fun _ i _ => 4 - (intOf i).toNat)
    case atStart => exact ⟨0, slZ, by omega, rfl, rfl, Own.nil _ _, Le.refl _⟩
    case round =>
      obtain ⟨m, q, hm4, rfl, rfl, ho, lr⟩ := hrel
      by_cases hlt : m < 4
      · have hc := hhas m wr (hl.trans lr)
        obtain ⟨o0, o1, o2, _, _, _⟩ := (hb.le lr).op
        have hol := outTo_len (fun i => !decide ((i : Int) = a) && inB xs i) m
        have hA := Le.alloc wr (.cells #[.int .i64 m] 3)
        have hone : Own (wr.alloc (.cells #[.int .i64 m] 3)) wr.heap.size (slV (some ⟨wr.heap.size, 0, none⟩, 1, 1)) [(m : Int)] := Own.lit wr _ (Nat.le_refl _) [(m : Int)] (by simp)
        have hrow : ∀ g, (slV q).ownBlock = some g → W.heap.size ≤ g := fun g e => (ho.block e).1
        by_cases hmk : (m : Int) = a
        · have HO : Hid (outTo (fun i => !decide ((i : Int) = a) && inB xs i) (m + 1) = outTo (fun i => !decide ((i : Int) = a) && inB xs i) m) := hid (by simp [outTo, hmk])
          have e1 : ((m : Int) == a) = true := by simp [hmk]
          have e2 : ((m : Int) != a) = false := by simp [hmk]
          subst hmk
          clear hc hhas
          go_wp2
          go_roundw
          case rel => exact ⟨m + 1, q, by omega, rfl, by go_num, by rw [HO.out]; exact ho, lr⟩
          case measure => simp [intOf]; omega
        · have e1 : ((m : Int) == a) = false := by simp [hmk]
          have e2 : ((m : Int) != a) = true := by simp [hmk]
          cases hin : inB xs m
          · have HO : Hid (outTo (fun i => !decide ((i : Int) = a) && inB xs i) (m + 1) = outTo (fun i => !decide ((i : Int) = a) && inB xs i) m) := hid (by simp [outTo, hin])
            rw [show decide ((m : Int) ∈ xs) = false from hin] at hc
            clear hhas hin
            go_wp2_with fail
            refine hc.mono ?_
            rintro e w1 ⟨rfl, rfl⟩
            go_wp2
            go_roundw
            case rel => exact ⟨m + 1, q, by omega, rfl, by go_num, by rw [HO.out]; exact ho, lr⟩
            case measure => simp [intOf]; omega
          · have HO : Hid (outTo (fun i => !decide ((i : Int) = a) && inB xs i) (m + 1) = outTo (fun i => !decide ((i : Int) = a) && inB xs i) m ++ [(m : Int)]) := hid (by simp [outTo, hin, hmk])
            rw [show decide ((m : Int) ∈ xs) = true from hin] at hc
            clear hhas hin
            go_wp2_with fail
            refine hc.mono ?_
            rintro e w1 ⟨rfl, rfl⟩
            go_wp2_with (at_builtin; refine wp_append_ints rfl _ _ rfl W.heap.size _ _ (outTo (fun i => !decide ((i : Int) = a) && inB xs i) m) [(m : Int)] rfl rfl (ho.le hA) hone.has (by simp; omega) (Nat.le_trans lr.size hA.size) ?_; intro v' w2 hown2 hgrow; obtain ⟨q2, rfl⟩ := hown2.has.sl)
            go_roundw
            case rel => exact ⟨m + 1, q2, by omega, rfl, by go_num, by rw [HO.out]; exact hown2, Below.grown (lr.trans hA) hgrow (Nat.le_trans lr.size hA.size) hrow⟩
            case measure => simp [intOf]; omega
      · obtain rfl : m = 4 := by omega
        obtain ⟨o0, o1, o2, _, _, _⟩ := (hb.le lr).op
        go_wp2
        go_ret2
        rw [HQ.out]
        exact ⟨q, rfl, by rw [← HP.out]; exact ho.base (Nat.le_trans hbase hl.size), hl.trans lr⟩
  · have hc := hhas a _ hl
    rw [show decide (a ∈ xs) = false by simp [hin]] at hc
    have HP : Hid (takeS xs a = (xs, 0)) := hid (take_out hin)
    clear hin hhas
    go_enter Try.func29, Try.ntmps29
    go_wp2_with fail
    refine hc.mono ?_
    rintro e w1 ⟨rfl, rfl⟩
    go_wp2
    go_ret2
    rw [HP.out]
    exact ⟨_, rfl, hown.le hl, hl⟩

end Go.Proofs.Ytnpejgendmgfaaa
