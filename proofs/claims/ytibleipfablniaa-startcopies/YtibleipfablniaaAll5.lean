/-
  PARTS LAID TOGETHER, each with its own opening: QueA, QueB, QueC, ObjS, McS, NwA, RgG, RgH, CfAwake, NwB, StC.
-/
import Derived.Test.YtibleipfablniaaAll4
import Derived.Test.YtibleipfablniaaAll2
import Derived.Test.YtibleipfablniaaAll3
import Derived.Test.YtibleipfablniaaAll1
import Derived.Deep.Cut
import Derived.Deep.CutRange
/-
  PLAIN GROUND AND THE WALKS over package queue's mayRow, put, take, and over slices.ContainsFunc at []int: what each answers, for every row. Condition: at put and take, that the row is the call's own and short.
-/
namespace Go.Proofs.Ytibleipfablniaa
open Go.RowKit

/-- May a row be a queue's? -/
def rowMay3 (xs : List Int) : Bool := decide (xs.length ≤ 4) && xs.all argB
/-- The row with a number behind all others, and 1; the row as it is, and 0, if it is full. -/
def enqS (xs : List Int) (a : Int) : List Int × Int := if 4 ≤ xs.length then (xs, 0) else (xs ++ [a], 1)
/-- The row without its first number; that number, or -1. -/
def deqS : List Int → List Int × Int
  | [] => ([], -1)
  | x :: r => (r, x)

theorem rowMay3_len {xs : List Int} (h : rowMay3 xs = true) : xs.length ≤ 4 := by
  simp [rowMay3] at h; exact h.1
theorem rowMay3_all {xs : List Int} (h : rowMay3 xs = true) : ∀ x ∈ xs, 0 ≤ x ∧ x ≤ 255 := by
  simp [rowMay3, argB] at h; exact h.2
theorem rowMay3_of {xs : List Int} (h : xs.length ≤ 4) (k : ∀ x ∈ xs, 0 ≤ x ∧ x ≤ 255) : rowMay3 xs = true := by
  simp [rowMay3, argB]; exact ⟨h, k⟩

set_option maxHeartbeats 400000 in
theorem queOdd (x : Int) (w : World) : Calls Try.prog 91 #[.int .i64 x] w fun e w' => e = .returned (.bool (!argB x)) ∧ w = w' := by
  by_cases h : x < 0
  · go_enter Try.func91, Try.ntmps91
    go_wp2
    go_ret
    exact ⟨ret_bool (by simp [argB]; omega), rfl⟩
  · go_enter Try.func91, Try.ntmps91
    go_wp2
    go_ret
    exact ⟨ret_bool (by rw [Bool.eq_iff_iff]; simp [argB]; omega), rfl⟩

set_option maxHeartbeats 400000 in
theorem slicesIndexFunc (f : Nat) (p : Int → Bool) (hc : ∀ (u : Value) (w : World), (callFunc f #[u]).run Try.prog w = .ok (.enter f #[u]) w) (hp : ∀ x w, Calls Try.prog f #[.int .i64 x] w fun e w' => e = .returned (.bool (p x)) ∧ w = w') (v : Value) (xs : List Int) (w : World) (hx : Has w v xs) (hl : xs.length ≤ 1000) :
    Calls Try.prog 95 #[v, .func (.func f) #[] #[]] w fun e w' => (∃ i : Int, e = .returned (.int .i64 i) ∧ decide (0 ≤ i) = xs.any p) ∧ w = w' := by
  obtain ⟨a, cap, rfl, hcap, _, hx⟩ := hx
  obtain ⟨n, hn⟩ : ∃ n, n = xs.length := ⟨_, rfl⟩
  rw [← hn] at hcap hx hl ⊢
  have HN : Hid (n = xs.length) := hn
  clear hn
  go_enter Try.func95, Try.ntmps95
  go_wp2
  go_loop [8] (fun i => ∃ k : Nat, k ≤ n ∧ i = .int .i64 k ∧ Hid (xs.any p = (xs.drop k).any p)) (fun i => n - (intOf i).toNat)
  case atStart => exact ⟨0, by omega, rfl, hid (by simp)⟩
  case round =>
    obtain ⟨k, hk, rfl, HR⟩ := hrel
    by_cases hlt : k < n
    · obtain ⟨b, off, rfl, hcell⟩ := hx (by omega)
      have c0 := hcell k hlt
      have hd := HR.out
      rw [drop_at (by have := HN.out; omega)] at hd
      obtain ⟨x, hxk⟩ : ∃ x, x = xs.getD k 0 := ⟨_, rfl⟩
      rw [← hxk] at c0 hd
      simp only [List.any_cons] at hd
      have hm := hp x w
      have k0 : (0 : Int) ≤ (k : Int) := by omega
      have k1 : (k : Int) < (n : Int) := by omega
      cases hh : p x
      · rw [hh] at hm hd
        have HD : Hid (xs.any p = (xs.drop (k + 1)).any p) := hid (by rw [hd]; rfl)
        clear hd hxk hcell hx HR
        go_wp2_with fail
        refine hm.mono ?_
        rintro e w1 ⟨rfl, rfl⟩
        go_wp2
        go_round
        case rel => exact ⟨k + 1, by omega, by go_num, HD⟩
        case measure => simp [intOf]; omega
      · rw [hh] at hm hd
        have HD : Hid (xs.any p = true) := hid (by rw [hd]; rfl)
        clear hd hxk hcell hx HR
        go_wp2_with fail
        refine hm.mono ?_
        rintro e w1 ⟨rfl, rfl⟩
        go_wp2
        go_ret
        exact ⟨⟨k, rfl, by rw [HD.out]; simp⟩, rfl⟩
    · obtain rfl : k = n := by omega
      have HD : Hid (xs.any p = false) := hid (by have := HR.out; rw [List.drop_eq_nil_of_le (by have := HN.out; omega)] at this; exact this)
      go_wp2
      go_ret
      exact ⟨⟨-1, rfl, by rw [HD.out]; decide⟩, rfl⟩

set_option maxHeartbeats 400000 in
theorem slicesContainsFunc (f : Nat) (p : Int → Bool) (hc : ∀ (u : Value) (w : World), (callFunc f #[u]).run Try.prog w = .ok (.enter f #[u]) w) (hp : ∀ x w, Calls Try.prog f #[.int .i64 x] w fun e w' => e = .returned (.bool (p x)) ∧ w = w') (v : Value) (xs : List Int) (w : World) (hx : Has w v xs) (hl : xs.length ≤ 1000) :
    Calls Try.prog 92 #[v, .func (.func f) #[] #[]] w fun e w' => e = .returned (.bool (xs.any p)) ∧ w = w' := by
  have hi := slicesIndexFunc f p hc hp v xs w hx hl
  go_enter Try.func92, Try.ntmps92
  go_wp2_with fail
  refine hi.mono ?_
  rintro e w1 ⟨⟨i, rfl, hd⟩, rfl⟩
  have HD : Hid (decide (0 ≤ i) = xs.any p) := hd
  clear hd
  go_wp2
  go_ret
  exact ⟨ret_bool HD.out, rfl⟩

theorem any_not (xs : List Int) : (!xs.any fun x => !argB x) = xs.all argB := by
  induction xs with
  | nil => rfl
  | cons x r ih => simp only [List.any_cons, List.all_cons, ← ih, Bool.not_or, Bool.not_not]

set_option maxHeartbeats 400000 in
theorem queMayRow (v : Value) (xs : List Int) (w : World) (hx : Has w v xs) :
    Calls Try.prog 82 #[v] w fun e w' => e = .returned (.bool (rowMay3 xs)) ∧ w = w' := by
  have hx0 := hx
  obtain ⟨a, cap, rfl, hcap, _, hx⟩ := hx
  by_cases h4 : xs.length ≤ 4
  · have hcf := slicesContainsFunc 91 (fun x => !argB x) (fun _ _ => by kernel_rfl) queOdd _ xs w hx0 (by omega)
    obtain ⟨B, hB⟩ : ∃ B, B = xs.any fun x => !argB x := ⟨_, rfl⟩
    rw [← hB] at hcf
    have HB : Hid (rowMay3 xs = !B) := hid (by rw [hB, any_not]; simp [rowMay3, h4])
    have h5 : (xs.length : Int) ≤ 4 := by omega
    clear hB hx hx0
    go_enter Try.func82, Try.ntmps82
    go_wp2_with fail
    refine hcf.mono ?_
    rintro e w1 ⟨rfl, rfl⟩
    go_wp2
    go_ret
    exact ⟨ret_bool HB.out.symm, rfl⟩
  · have h5 : ¬ (xs.length : Int) ≤ 4 := by omega
    have HB : Hid (rowMay3 xs = false) := hid (by simp [rowMay3]; omega)
    clear hx hx0
    go_enter Try.func82, Try.ntmps82
    go_wp2
    go_ret
    exact ⟨ret_bool HB.out.symm, rfl⟩

set_option maxHeartbeats 400000 in
theorem quePut (v : Value) (base : Nat) (xs : List Int) (a : Int) (w : World) (hown : Own w base v xs) (hbase : base ≤ w.heap.size) (hl : xs.length ≤ 4) :
    Calls Try.prog 83 #[v, .int .i64 a] w fun e w' => ∃ v', e = .returned (.tuple #[v', .int .i64 (enqS xs a).2]) ∧ Own w' base v' (enqS xs a).1 ∧ w.grownBy w' v.ownBlock := by
  obtain ⟨ad, cap, rfl, hc, _, hx⟩ := hown.has
  by_cases h4 : 4 ≤ xs.length
  · have HP : Hid (enqS xs a = (xs, 0)) := hid (by simp [enqS, h4])
    have h5 : (4 : Int) ≤ (xs.length : Int) := by omega
    clear hx
    go_enter Try.func83, Try.ntmps83
    go_wp2
    go_ret2
    rw [HP.out]
    exact ⟨_, rfl, hown, World.grownBy.refl _ _⟩
  · have HP : Hid (enqS xs a = (xs ++ [a], 1)) := hid (by simp [enqS, h4])
    have h5 : ¬ (4 : Int) ≤ (xs.length : Int) := by omega
    have hA := Le.alloc w (.cells #[.int .i64 a] 3)
    have hone : Own (w.alloc (.cells #[.int .i64 a] 3)) w.heap.size (slV (some ⟨w.heap.size, 0, none⟩, 1, 1)) [a] := Own.lit w _ (Nat.le_refl _) [a] (by simp)
    clear hx
    go_enter Try.func83, Try.ntmps83
    go_wp2_with (at_builtin; refine wp_append_ints rfl _ _ rfl base _ _ xs [a] rfl rfl (hown.le hA) hone.has (by simp; omega) (Nat.le_trans hbase hA.size) ?_; intro v' w2 hown2 hgrow; obtain ⟨q2, rfl⟩ := hown2.has.sl)
    go_ret2
    rw [HP.out]
    exact ⟨_, rfl, hown2, grownBy_trans (World.grownBy_alloc _ _ _) hgrow⟩

theorem quePutT : TurnsRow 83 enqS :=
  ⟨fun _ _ _ => by kernel_rfl, fun v base xs a w ho hb hl _ => quePut v base xs a w ho hb hl⟩

set_option maxHeartbeats 1000000 in
theorem queTake (v : Value) (base : Nat) (xs : List Int) (a : Int) (w : World) (hown : Own w base v xs) (hbase : base ≤ w.heap.size) (hl : xs.length ≤ 4) :
    Calls Try.prog 84 #[v, .int .i64 a] w fun e w' => ∃ v', e = .returned (.tuple #[v', .int .i64 (deqS xs).2]) ∧ Own w' base v' (deqS xs).1 ∧ w.grownBy w' v.ownBlock := by
  obtain ⟨ad, cap, rfl, hc, _, hx⟩ := hown.has
  match xs, hl, hc, hx, hown with
  | [], hl, hc, hx, hown =>
    go_enter Try.func84, Try.ntmps84
    go_wp2
    go_ret2
    exact ⟨_, rfl, Own.nil _ _, World.grownBy.refl _ _⟩
  | x :: zs, hl, hc, hx, hown =>
    obtain ⟨b, off, rfl, hcell⟩ := hx (by simp)
    have c0 : w.cell? ⟨b, off, none⟩ = some (.int .i64 x) := hcell 0 (by simp)
    obtain ⟨n, hn⟩ : ∃ n, n = zs.length := ⟨_, rfl⟩
    obtain ⟨A, hAe, hB⟩ : ∃ A, (if cap = 1 then some ⟨b, off, none⟩ else some ⟨b, off + 1, none⟩ : Option Addr) = A ∧ Has w (.slice A n (cap - 1)) zs := by
      refine ⟨_, rfl, _, _, by rw [← hn], by simp at hc; omega, (fun h => by split at h <;> cases h), fun hp => ?_⟩
      simp only [List.length_cons] at hc
      rw [if_neg (by omega)]
      refine ⟨b, off + 1, rfl, fun j hj => ?_⟩
      have := hcell (j + 1) (by simp; omega)
      rw [Nat.add_assoc, Nat.add_comm 1 j, this]
      rfl
    have HN : Hid (n = zs.length) := hn
    simp only [List.length_cons] at hc hl ⊢
    rw [← hn] at hc hl ⊢
    have n0 : ¬ (((n + 1 : Nat) : Int)) = 0 := by omega
    have n1 : (1 : Int) ≤ (n : Int) + 1 := by omega
    clear hx hcell hn
    go_enter Try.func84, Try.ntmps84
    go_wp2_with fail
    go_region_law ((refine step_append_ints rfl (.const (.slice none 0 0)) (.tmp 10) rfl w.heap.size (.slice none 0 0) (.slice A n (cap - 1)) [] zs (by simp [Act.eval]) (by simp [Act.eval, Act.put]) (Own.nil _ _) hB (by simp; have := HN.out; omega) (Nat.le_refl _) ?_; intro v1 w1 o1 g1; have l1 : Le w w1 := Below.grown (Le.drew w) g1 (Nat.le_refl _) (fun g e => (by cases e)); have c1 : w1.cell? ⟨b, off, none⟩ = some (.int .i64 x) := (by rw [l1.cell (p := ⟨b, off, none⟩) (World.block_lt_of_cell? w _ c0)]; exact c0)))
    all_goals
      go_wp2
      go_ret2
      rw [List.nil_append] at o1
      exact ⟨_, rfl, o1.base hbase, l1.grownBy _⟩

theorem queTakeT : TurnsRow 84 (fun xs _ => deqS xs) :=
  ⟨fun _ _ _ => by kernel_rfl, fun v base xs a w ho hb hl _ => queTake v base xs a w ho hb hl⟩

end Go.Proofs.Ytibleipfablniaa

/-
  THE WALK over queue.Apply: what it answers, for every state and operation, and that what it hands back lies in memory of its own. Condition: the state's rows can be copied.
-/
namespace Go.Proofs.Ytibleipfablniaa
open Go.RowKit

theorem queMay (v : Value) (s : St) (w : World) (hx : HasS w v s) :
    Calls Try.prog 73 #[v, .func (.func 82) #[] #[]] w fun e w' => e = .returned (.bool (s.all rowMay3)) ∧ Le w w' :=
  statesMay 82 rowMay3 (fun _ _ => by kernel_rfl) queMayRow v s w hx

/-- The document's answer: the state, the answer, the error. -/
def queS (s : St) (c r a e : Int) : St × Int × Int := cntS rowMay3 enqS (fun xs _ => deqS xs) s c r a e

set_option maxHeartbeats 2000000 in
theorem queApplyNo (v : Value) (s : St) (c r a : Int) (w : World) (hx : HasS w v s) (h : (s.all rowMay3 && opMay c r a) = false) :
    Calls Try.prog 72 #[v, opV c r a] w fun e w' => e = .returned (.tuple #[stZ, .int .i64 0, .int .i64 500]) ∧ Le w w' := by
  have hx0 := hx
  obtain ⟨vs, rfl, hr⟩ := hx
  have hl := ((Le.alloc w (.cells (cells4 vs) 44)).trans (Le.alloc _ (.cells #[.int .i64 c, .int .i64 r, .int .i64 a] 50))).trans (Le.alloc _ (.cells (cells4 fun _ => slZ) 44))
  have hb1 := ((Box.new w (cells4 vs) 44).le (Le.alloc _ (.cells #[.int .i64 c, .int .i64 r, .int .i64 a] 50))).le (Le.alloc _ (.cells (cells4 fun _ => slZ) 44))
  have hb2 := (Box.new (w.alloc (.cells (cells4 vs) 44)) #[.int .i64 c, .int .i64 r, .int .i64 a] 50).le (Le.alloc _ (.cells (cells4 fun _ => slZ) 44))
  have hb3 := Box.new ((w.alloc (.cells (cells4 vs) 44)).alloc (.cells #[.int .i64 c, .int .i64 r, .int .i64 a] 50)) (cells4 fun _ => slZ) 44
  simp only [World.size_alloc] at hb1 hb2 hb3
  have hmay := queMay (stV vs) s _ (hx0.le hl)
  cases hm : s.all rowMay3
  · rw [hm] at hmay
    go_enter Try.func72, Try.ntmps72
    go_wp2_with fail
    refine hmay.mono ?_
    rintro e w1 ⟨rfl, l1⟩
    obtain ⟨z0, z1, z2, z3, f0, f1, f2, f3⟩ := (hb3.le l1).st
    go_wp2_with fail
    refine bodyPost_ret (v := .tuple #[stZ, .int .i64 0, .int .i64 500]) (by simp [results, Try.results72, go_sem, z0, z1, z2, z3]) rfl ⟨rfl, ?_⟩
    exact (hl.trans l1).set4 (by omega) _ _ _ _
  · have hop : opMay c r a = false := by simpa [hm] using h
    rw [hm] at hmay
    go_enter Try.func72, Try.ntmps72
    go_wp2_with fail
    refine hmay.mono ?_
    rintro e w1 ⟨rfl, l1⟩
    obtain ⟨y0, y1, y2, _, _, _⟩ := (hb2.le l1).op
    go_wp2_with fail
    refine (operMay _ _ _ _).mono ?_
    rw [hop]
    rintro e w2 ⟨rfl, l2⟩
    obtain ⟨z0, z1, z2, z3, f0, f1, f2, f3⟩ := ((hb3.le l1).le l2).st
    go_wp2_with fail
    refine bodyPost_ret (v := .tuple #[stZ, .int .i64 0, .int .i64 500]) (by simp [results, Try.results72, go_sem, z0, z1, z2, z3]) rfl ⟨rfl, ?_⟩
    exact ((hl.trans l1).trans l2).set4 (by omega) _ _ _ _

set_option maxHeartbeats 2000000 in
theorem queApplyYes (v : Value) (s : St) (c r a : Int) (w : World) (hx : HasS w v s) (hf : Fit s) (hm : s.all rowMay3 = true) (hop : opMay c r a = true) :
    Calls Try.prog 72 #[v, opV c r a] w fun e w' => ∃ v', e = .returned (.tuple #[v', .int .i64 (cntY enqS (fun xs _ => deqS xs) s c r a).2, .int .i64 0]) ∧ OwnS w' w.heap.size v' (cntY enqS (fun xs _ => deqS xs) s c r a).1 ∧ Le w w' := by
  have hx0 := hx
  obtain ⟨vs, rfl, hr⟩ := hx
  have hl := ((Le.alloc w (.cells (cells4 vs) 44)).trans (Le.alloc _ (.cells #[.int .i64 c, .int .i64 r, .int .i64 a] 50))).trans (Le.alloc _ (.cells (cells4 fun _ => slZ) 44))
  have hb1 := ((Box.new w (cells4 vs) 44).le (Le.alloc _ (.cells #[.int .i64 c, .int .i64 r, .int .i64 a] 50))).le (Le.alloc _ (.cells (cells4 fun _ => slZ) 44))
  have hb2 := (Box.new (w.alloc (.cells (cells4 vs) 44)) #[.int .i64 c, .int .i64 r, .int .i64 a] 50).le (Le.alloc _ (.cells (cells4 fun _ => slZ) 44))
  have hb3 := Box.new ((w.alloc (.cells (cells4 vs) 44)).alloc (.cells #[.int .i64 c, .int .i64 r, .int .i64 a] 50)) (cells4 fun _ => slZ) 44
  simp only [World.size_alloc] at hb1 hb2 hb3
  have hmay := queMay (stV vs) s _ (hx0.le hl)
  rw [hm] at hmay
  go_enter Try.func72, Try.ntmps72
  go_wp2_with fail
  refine hmay.mono ?_
  rintro e w1 ⟨rfl, l1⟩
  obtain ⟨y0, y1, y2, _, _, _⟩ := (hb2.le l1).op
  clear hmay
  go_wp2_with fail
  refine (operMay _ _ _ _).mono ?_
  rw [hop]
  rintro e w2 ⟨rfl, l2⟩
  replace l1 := l1.trans l2
  clear l2 y0 y1 y2
  obtain ⟨x0, x1, x2, x3, _, _, _, _⟩ := (hb1.le l1).st
  obtain ⟨y0, y1, y2, _, _, _⟩ := (hb2.le l1).op
  go_wp2_with fail
  refine (countedAll 83 84 enqS (fun xs _ => deqS xs) quePutT queTakeT (stV vs) s c r a _ (hx0.le (hl.trans l1)) hf (fun j hj => rowMay3_len (St.all_at hm hj)) hop).mono ?_
  obtain ⟨Y, hY⟩ : ∃ Y, Y = cntY enqS (fun xs _ => deqS xs) s c r a := ⟨_, rfl⟩
  rw [← hY]
  have HY : Hid (Y = cntY enqS (fun xs _ => deqS xs) s c r a) := hY
  clear hY
  rintro e w3 ⟨_, rfl, ⟨us, rfl, hown⟩, l3⟩
  replace hown := fun i hi => (hown i hi).base (base' := w.heap.size) (hl.trans l1).size
  replace l1 := l1.trans l3
  clear l3 y0 y1 y2 x0 x1 x2 x3
  have n0 : w.heap.size + 1 + 1 < w3.heap.size := (hb3.le l1).lt
  have n1 : ¬ w.heap.size + 1 + 1 = w3.heap.size := by omega
  have hb4 := Box.new w3 (cells4 us) 44
  replace l1 := l1.trans (Le.alloc w3 (.cells (cells4 us) 44))
  replace hown := fun i hi => (hown i hi).le (Le.alloc w3 (.cells (cells4 us) 44))
  go_upto_region 4 with fail
  generalize hW : w3.alloc (.cells (cells4 us) 44) = W at hb4 l1 hown ⊢
  clear hW
  obtain ⟨y0, y1, y2, y3, _, _, _, _⟩ := hb4.st
  obtain ⟨z0, z1, z2, z3, f0, f1, f2, f3⟩ := (hb3.le l1).st
  go_wp2_with fail
  refine bodyPost_ret (v := .tuple #[stV us, .int .i64 Y.2, .int .i64 0]) (by simp [results, Try.results72, go_sem, z0, z1, z2, z3]) rfl ⟨stV us, by rw [HY.out], ⟨us, rfl, fun i hi => ?_⟩, ?_⟩
  · rw [← HY.out]; exact (hown i hi).set4 (hb3.le l1) (by decide) _ _ _ _
  · exact (hl.trans l1).set4 (by omega) _ _ _ _

theorem queS_no {s : St} {c r a er : Int} (h : (s.all rowMay3 && opMay c r a) = false) : queS s c r a er = (St.zero, 0, er) := cntS_no h
theorem queS_scan {s : St} {er : Int} (h : s.all rowMay3 = true) : queS s 3 0 0 er = (s, manyTo s 4, 0) := cntS_scan h
theorem queS_look {s : St} {k : Nat} {er : Int} (h : s.all rowMay3 = true) (hk : k < 4) : queS s 2 k 0 er = (s, ((s.at k).length : Int), 0) := cntS_look h hk

theorem queApply (v : Value) (s : St) (c r a : Int) (w : World) (hx : HasS w v s) (hf : Fit s) :
    Calls Try.prog 72 #[v, opV c r a] w fun e w' => ∃ v', e = .returned (.tuple #[v', .int .i64 (queS s c r a 500).2.1, .int .i64 (queS s c r a 500).2.2]) ∧ OwnS w' w.heap.size v' (queS s c r a 500).1 ∧ Le w w' := by
  cases h : s.all rowMay3 && opMay c r a
  · rw [queS_no h]
    exact (queApplyNo v s c r a w hx h).mono fun e w' ⟨he, hl⟩ => ⟨stZ, he, OwnS.zero _ _, hl⟩
  · obtain ⟨hm, ho⟩ := Bool.and_eq_true_iff.mp h
    rw [show queS s c r a 500 = _ from cntS_yes h]
    exact queApplyYes v s c r a w hx hf hm ho

end Go.Proofs.Ytibleipfablniaa

/-
  PLAIN GROUND: what the answers of queue.Apply keep. No condition.
-/
namespace Go.Proofs.Ytibleipfablniaa
open Go.RowKit

theorem queS_first {s : St} {k : Nat} {a er : Int} (h : s.all rowMay3 = true) (hk : k < 4) (ha : 0 ≤ a ∧ a ≤ 255) : queS s 0 k a er = (s.put k (enqS (s.at k) a).1, (enqS (s.at k) a).2, 0) := cntS_first h hk ha
theorem queS_second {s : St} {k : Nat} {a er : Int} (h : s.all rowMay3 = true) (hk : k < 4) (ha : 0 ≤ a ∧ a ≤ 255) : queS s 1 k a er = (s.put k (deqS (s.at k)).1, (deqS (s.at k)).2, 0) := cntS_second h hk ha

theorem enq_may {xs : List Int} {a : Int} (h : rowMay3 xs = true) (ha : 0 ≤ a ∧ a ≤ 255) : rowMay3 (enqS xs a).1 = true := by
  unfold enqS
  split
  · exact h
  · refine rowMay3_of (by simp; omega) fun x hx => ?_
    rcases List.mem_append.mp hx with hx | hx
    · exact rowMay3_all h x hx
    · simp at hx; subst hx; exact ha
theorem deq_may {xs : List Int} (h : rowMay3 xs = true) : rowMay3 (deqS xs).1 = true := by
  match xs, h with
  | [], h => exact h
  | x :: r, h =>
    have h1 := rowMay3_len h
    simp only [List.length_cons] at h1
    exact rowMay3_of (show r.length ≤ 4 by omega) fun y hy => rowMay3_all h y (List.mem_cons_of_mem _ hy)

theorem may_all3 {s : St} (h : s.all rowMay3 = true) : Fit s := fun i hi => by
  have := rowMay3_len (St.all_at h hi)
  omega

theorem Fit.que {s : St} (h : Fit s) (c r a er : Int) : Fit (queS s c r a er).1 := by
  cases hh : s.all rowMay3 && opMay c r a
  · rw [queS_no hh]; exact fit_zero
  · obtain ⟨hm, ho⟩ := Bool.and_eq_true_iff.mp hh
    rcases opMay_cases ho with ⟨k, hk, rfl, rfl, ha⟩ | ⟨k, hk, rfl, rfl, ha⟩ | ⟨k, hk, rfl, rfl, rfl⟩ | ⟨rfl, rfl, rfl⟩
    · rw [queS_first hm hk ha]; exact h.put hk (rowMay3_len (enq_may (St.all_at hm hk) ha))
    · rw [queS_second hm hk ha]; exact h.put hk (rowMay3_len (deq_may (St.all_at hm hk)))
    · rw [queS_look hm hk]; exact h
    · rw [queS_scan hm]; exact h

end Go.Proofs.Ytibleipfablniaa

/-
  PLAIN GROUND, NO WALK: the document's answer of one of three objects. No condition.
-/
namespace Go.Proofs.Ytibleipfablniaa
open Go.RowKit

/-- May a row be the object's? -/
def rowMayO (o : Int) (xs : List Int) : Bool := if o = 0 then rowMay1 xs else if o = 1 then rowMay2 xs else rowMay3 xs
/-- May it be such a state? -/
def objMay (o : Int) (s : St) : Bool := (decide (0 ≤ o) && decide (o ≤ 2)) && s.all (rowMayO o)
/-- The document's answer of object o: the state, the answer, the error. -/
def objS (o : Int) (s : St) (c r a e : Int) : St × Int × Int :=
  if o = 0 then stoS s c r a e else if o = 1 then fdsS s c r a e else if o = 2 then queS s c r a e else (St.zero, 0, e)

theorem objMay0 (s : St) : objMay 0 s = s.all rowMay1 := rfl
theorem objMay1 (s : St) : objMay 1 s = s.all rowMay2 := rfl
theorem objMay2 (s : St) : objMay 2 s = s.all rowMay3 := rfl
theorem objMay_out {o : Int} (h : o < 0 ∨ 2 < o) (s : St) : objMay o s = false := by
  have : (decide (0 ≤ o) && decide (o ≤ 2)) = false := by simp; omega
  simp [objMay, this]
theorem objS_out {o : Int} (h : o < 0 ∨ 2 < o) (s : St) (c r a e : Int) : objS o s c r a e = (St.zero, 0, e) := by
  unfold objS
  rw [if_neg (by omega), if_neg (by omega), if_neg (by omega)]
theorem obj_cases {o : Int} : o = 0 ∨ o = 1 ∨ o = 2 ∨ (o < 0 ∨ 2 < o) := by omega

theorem stoS_err {s : St} {c r a er : Int} (h : (s.all rowMay1 && opMay c r a) = true) : stoS s c r a er = ((stoS s c r a 0).1, (stoS s c r a 0).2.1, 0) := by
  simp only [stoS, if_pos h]
  split <;> rfl

theorem fdsS_err {s : St} {c r a er : Int} (h : (s.all rowMay2 && opMay c r a) = true) : fdsS s c r a er = ((fdsS s c r a 0).1, (fdsS s c r a 0).2.1, 0) := by
  rw [show fdsS s c r a 0 = _ from cntS_yes h]; exact cntS_yes h
theorem queS_err {s : St} {c r a er : Int} (h : (s.all rowMay3 && opMay c r a) = true) : queS s c r a er = ((queS s c r a 0).1, (queS s c r a 0).2.1, 0) := by
  rw [show queS s c r a 0 = _ from cntS_yes h]; exact cntS_yes h

theorem objS_no {o : Int} {s : St} {c r a er : Int} (h : (objMay o s && opMay c r a) = false) : objS o s c r a er = (St.zero, 0, er) := by
  rcases obj_cases (o := o) with rfl | rfl | rfl | ho
  · exact stoS_no h
  · exact fdsS_no h
  · exact queS_no h
  · exact objS_out ho _ _ _ _ _
theorem objS_yes {o : Int} {s : St} {c r a : Int} (er : Int) (h : (objMay o s && opMay c r a) = true) : objS o s c r a er = ((objS o s c r a 0).1, (objS o s c r a 0).2.1, 0) := by
  rcases obj_cases (o := o) with rfl | rfl | rfl | ho
  · exact stoS_err h
  · exact fdsS_err h
  · exact queS_err h
  · rw [objMay_out ho] at h; simp at h
theorem Fit.obj {s : St} (h : Fit s) (o c r a er : Int) : Fit (objS o s c r a er).1 := by
  rcases obj_cases (o := o) with rfl | rfl | rfl | ho
  · exact h.sto c r a er
  · exact h.fds c r a er
  · exact h.que c r a er
  · rw [objS_out ho]; exact fit_zero

end Go.Proofs.Ytibleipfablniaa

/-
  PLAIN GROUND, NO WALK: when a machine may be, by the document's chapter 14. No condition.
-/
namespace Go.Proofs.Ytibleipfablniaa
open Go.RowKit

/-- May a Config be? -/
def Cfg.ok (c : Cfg) : Bool := cfgB c.o c.r c.l c.t c.s
/-- May it be one of the logs? -/
def ringB (c : Cfg) (R : Rg) : Bool := mayR R && (decide ((R.ss.length : Int) = c.s) && (inB 0 R.f c.t && R.ss.all (fun s => inB 0 s.t (c.t - 1))))
/-- Is each cursor in its own log? -/
def cursOK (Rs : List Rg) (cs : List Int) : Bool := (List.range cs.length).all fun i => inB (Rs.getD i Rg.zero).h (cs.getD i 0) (Rs.getD i Rg.zero).t
/-- May it be one of the replicas? -/
def repB (c : Cfg) (Rs : List Rg) (P : Rp) : Bool := objMay c.o P.s && (decide ((P.cs.length : Int) = c.l) && (cursOK Rs P.cs && (decide ((P.ls.length : Int) = c.l) && P.ls.all (fun x => inB 0 x c.t))))
/-- May it be one of the threads? -/
def thB (c : Cfg) (T : Th) : Bool := inB 0 T.st 19 && (opMay T.c T.r T.a && (inB 0 T.lg (c.l - 1) && (inB 0 T.sn 1048576 && ((decide ((T.b.length : Int) ≤ c.t) && T.b.all (fun x => inB 0 x (c.t - 1))) && (inB 0 T.pl T.b.length && (decide ((T.tl.length : Int) ≤ c.l) && T.tl.all (fun x => inB 0 x 1048576)))))))
/-- May it be one of the history? -/
def evB (c : Cfg) (E : Ev) : Bool := inB 0 E.t (c.t - 1) && opMay E.c E.r E.a
/-- May a machine be? -/
def mayM (M : Mc) : Bool := M.c.ok && ((decide ((M.rs.length : Int) = M.c.l) && M.rs.all (ringB M.c)) && ((decide ((M.ps.length : Int) = M.c.r) && M.ps.all (repB M.c M.rs)) && ((decide ((M.ts.length : Int) = M.c.t) && M.ts.all (thB M.c)) && (decide ((M.es.length : Int) ≤ 64) && M.es.all (evB M.c)))))

theorem Cfg.ok_cases {c : Cfg} (h : c.ok = true) : (0 ≤ c.o ∧ c.o ≤ 2) ∧ (1 ≤ c.r ∧ c.r ≤ 2) ∧ (1 ≤ c.l ∧ c.l ≤ 2) ∧ (1 ≤ c.t ∧ c.t ≤ 4) ∧ slotsB c.s = true ∧ 2 * c.t ≤ c.s := cfgB_cases h

theorem cursOK_take {Rs : List Rg} {cs : List Int} {k : Nat} (h : ∀ i, i < k → inB (Rs.getD i Rg.zero).h (cs.getD i 0) (Rs.getD i Rg.zero).t = true) (hk : k = cs.length) : cursOK Rs cs = true := by
  subst hk
  simp only [cursOK, List.all_eq_true, List.mem_range]
  exact h
theorem cursOK_no {Rs : List Rg} {cs : List Int} {k : Nat} (hk : k < cs.length) (h : inB (Rs.getD k Rg.zero).h (cs.getD k 0) (Rs.getD k Rg.zero).t = false) : cursOK Rs cs = false := by
  rw [← Bool.not_eq_true]
  simp only [cursOK, List.all_eq_true, List.mem_range]
  intro hh
  have := hh k hk
  rw [h] at this
  cases this

end Go.Proofs.Ytibleipfablniaa

/-
  PLAIN GROUND: a new machine, and rows that a make gives. No condition.
-/
namespace Go.Proofs.Ytibleipfablniaa
open Go.RowKit

/-- A new machine of what c says that there is. -/
def freshM (c : Cfg) : Mc := ⟨c, List.replicate c.l.toNat (newS c.s).1, List.replicate c.r.toNat ⟨St.zero, List.replicate c.l.toNat 0, List.replicate c.l.toNat 0⟩, List.replicate c.t.toNat Th.zero, []⟩
/-- The document's New. -/
def newM (c : Cfg) : Mc × Int := if c.ok then (freshM c, 0) else (Mc.zero, 1400)

theorem le_grown {w w' : World} (h : w.grownBy w' none) : Le w w' := Below.grown (Le.refl w) h (Nat.le_refl _) (fun _ e => by cases e)

/-- A make of n numbers. -/
theorem run_make_ints (w : World) (base n : Nat) (hn : n ≤ 100) (hb : base ≤ w.heap.size) :
    ∃ w', (Instr.makeSlice 40 (.int .i64 (n : Int)) (.int .i64 (n : Int))).run Try.prog w = .ok (.slice (some ⟨w.heap.size, 0, none⟩) n n) w' ∧ Own w' base (.slice (some ⟨w.heap.size, 0, none⟩) n n) (List.replicate n 0) ∧ Le w w' := by
  obtain ⟨i0, hi, hz0, hz1, hz2⟩ := info_parts info3
  obtain ⟨w', h1, h2, h3⟩ := run_make_full (P := Try.prog) w base 40 3 i0 (.int .i64 0) 1 Try.underlying40 hi hz0 hz1 .i64 .i64 n (by rw [hz2]; omega) (by unfold maxLen; omega) hb
  exact ⟨w', h1, Own.of h2 (by simp) (by rw [show (Value.int .i64 0).cells = #[.int .i64 0] from rfl, Nat.mul_one, toList_madeCells_one]; simp), le_grown h3⟩

/-- A make of n threads. -/
theorem run_make_ths (w : World) (base n : Nat) (hn : n = 1 ∨ n = 2 ∨ n = 3 ∨ n = 4) (hb : base ≤ w.heap.size) :
    ∃ w', (Instr.makeSlice 28 (.int .i64 (n : Int)) (.int .i64 (n : Int))).run Try.prog w = .ok (.slice (some ⟨w.heap.size, 0, none⟩) n n) w' ∧ OwnE thK w' base (.slice (some ⟨w.heap.size, 0, none⟩) n n) (List.replicate n ⟨Th.zero, slZ, slZ⟩) ∧ Le w w' := by
  obtain ⟨z, hinfo, hzs⟩ := thIn.info
  have hz : z = .agg #[.int .i64 0, .int .i64 0, .int .i64 0, .int .i64 0, .int .i64 0, .int .i64 0, .slice none 0 0, .int .i64 0, .bool false, .bool false, .int .i64 0, .slice none 0 0] := by
    have h2 : (Try.prog.info? 52).map (fun i => (i.zero, i.size, i.bytes)) = some (some (.agg #[.int .i64 0, .int .i64 0, .int .i64 0, .int .i64 0, .int .i64 0, .int .i64 0, .slice none 0 0, .int .i64 0, .bool false, .bool false, .int .i64 0, .slice none 0 0]), 12, 120) := by kernel_rfl
    have h3 : (Try.prog.info? 52).map (fun i => (i.zero, i.size, i.bytes)) = some (some z, 12, 120) := hinfo
    rw [h2] at h3
    simp only [Option.some.injEq, Prod.mk.injEq] at h3
    exact h3.1.symm
  subst hz
  obtain ⟨i0, hi, hz0, hz1, hz2⟩ := info_parts hinfo
  obtain ⟨w', h1, h2, h3⟩ := run_make_full (P := Try.prog) w base 28 52 i0 _ 12 Try.underlying28 hi hz0 hz1 .i64 .i64 n (by rw [hz2]; show 120 * n ≤ _; omega) (by unfold maxLen; omega) hb
  refine ⟨w', h1, OwnE.of h2 (by simp) ?_, le_grown h3⟩
  rcases hn with rfl | rfl | rfl | rfl <;> kernel_rfl

end Go.Proofs.Ytibleipfablniaa

/-
  THE WALK over package ring's Publish: what it answers, for every ring, number, operation and thread. Condition: that the slots can be copied.
-/
namespace Go.Proofs.Ytibleipfablniaa
open Go.RowKit

theorem pubB_slot {R : Rg} {p c r a t : Int} : pubB R p c r a t = (mayR R && hasB R.h R.t p && slotB ⟨c, r, a, t, bitAt p R.ss.length⟩) := by
  have := bitAt_two (p := p) (n := R.ss.length)
  have e : (decide (bitAt p R.ss.length = 0) || decide (bitAt p R.ss.length = 1)) = true := by simpa using this
  simp only [pubB, slotB, threadB, e, Bool.and_true, Bool.and_assoc]

end Go.Proofs.Ytibleipfablniaa

/-
  PLAIN GROUND: package ring's contracts, their answers written out. Condition: that the slots can be copied.
-/
namespace Go.Proofs.Ytibleipfablniaa
open Go.RowKit

theorem fitR_small {R : Rg} (h : R.ss.length ≤ 100) : FitR R := by unfold FitR; omega

theorem newAs {n h t f er : Int} {ss : List Slt} (he : newS n = (⟨h, t, f, ss⟩, er)) (w : World) :
    Calls Try.prog 18 #[.int .i64 n] w fun e w' => ∃ q : Sl, e = .returned (.tuple #[ringV h t f q, .int .i64 er]) ∧ OwnL w' w.heap.size (slV q) ss ∧ Le w w' := by
  have := ringNew n w
  rw [he] at this
  exact this.mono fun e w' ⟨v', h1, ⟨q, h2, h3⟩, h4⟩ => ⟨q, by rw [h1, h2], h3, h4⟩
theorem mayAs {h t f : Int} {ss : List Slt} {y : Bool} (he : mayR ⟨h, t, f, ss⟩ = y) (hf : ss.length * 40 ≤ 140737488351232) (q : Sl) (w : World) (hq : HasL w (slV q) ss) :
    Calls Try.prog 42 #[ringV h t f q] w fun e w' => e = .returned (.bool y) ∧ Le w w' := by
  have := ringMay (ringV h t f q) ⟨h, t, f, ss⟩ w ⟨q, rfl, hq⟩ hf
  rw [he] at this
  exact this

end Go.Proofs.Ytibleipfablniaa

/-
  THE WALK over choruslaw13.awake: it answers true and turns nothing that was there. No condition. Beside it the contracts of package config with their answers given (repAs, cfgAs).
-/
namespace Go.Proofs.Ytibleipfablniaa
open Go.RowKit

theorem cfgAs {o r l t s : Int} {b : Bool} (h : cfgB o r l t s = b) (w : World) : Calls Try.prog 17 #[cfgV o r l t s] w fun e w' => e = .returned (.bool b) ∧ Le w w' := by
  have := cfgMay o r l t s w
  rw [h] at this
  exact this

theorem Box.cell5 {w : World} {g : Nat} {x y z u v : Value} {t : TypeId} (h : Box w g #[x, y, z, u, v] t) :
    (w.cell? ⟨g, 0, none⟩ = some x ∧ w.cell? ⟨g, 1, none⟩ = some y ∧ w.cell? ⟨g, 2, none⟩ = some z ∧ w.cell? ⟨g, 3, none⟩ = some u ∧ w.cell? ⟨g, 4, none⟩ = some v) ∧
    (w.frozen? ⟨g, 0, none⟩ = false ∧ w.frozen? ⟨g, 1, none⟩ = false ∧ w.frozen? ⟨g, 2, none⟩ = false ∧ w.frozen? ⟨g, 3, none⟩ = false ∧ w.frozen? ⟨g, 4, none⟩ = false) :=
  ⟨h.slot, h.frozen 0, h.frozen 1, h.frozen 2, h.frozen 3, h.frozen 4⟩

end Go.Proofs.Ytibleipfablniaa

/-
  THE WALK over package start's New: what it answers, for every Config, in memory of the call's own. No condition.
-/
namespace Go.Proofs.Ytibleipfablniaa
open Go.RowKit

abbrev cells5 (c : Cfg) : Array Value := #[.int .i64 c.o, .int .i64 c.r, .int .i64 c.l, .int .i64 c.t, .int .i64 c.s]

theorem OwnsM.put9 {w : World} {base g : Nat} {cs : Array Value} {L : Lay} (o : OwnsM w base L) (hb : Box w g cs 31) (c : Cfg) (a b d e : Sl) : OwnsM (put9 w g c a b d e) base L := by
  have hne : ∀ {t : TypeId} {kk n : Nat} {v : Value} {us : List Value}, World.ownsRow w base t kk v n us → t ≠ 31 → (Go.Proofs.Ytibleipfablniaa.put9 w g c a b d e).ownsRow base t kk v n us := fun {t kk n v us} h ht => row_put9 h (fun e => by
    rcases h.2 with ⟨e2, _⟩ | ⟨g', cap, cur, hv, _, hh, _⟩
    · rw [e2] at e; simp [Value.ownBlock] at e
    · rw [hv] at e
      simp [Value.ownBlock] at e
      subst e
      unfold Box at hb
      rw [hb] at hh
      simp at hh
      exact ht hh.2.symm) _ _ _ _ _
  exact ⟨hne o.oR (by decide), hne o.oP (by decide), hne o.oT (by decide), hne o.oH (by decide), fun y hy => hne (o.iR y hy) (by decide), fun y hy => ⟨fun i hi => hne ((o.iP y hy).1 i hi) (by decide), hne (o.iP y hy).2.1 (by decide), hne (o.iP y hy).2.2 (by decide)⟩, fun y hy => ⟨hne (o.iT y hy).1 (by decide), hne (o.iT y hy).2 (by decide)⟩⟩

/-- What stands when the threads are made. -/
theorem CpI.start2 {F : Prop} (hF : ¬ F) {w x : World} {cp : Array Value} {tp : TypeId} {c : Cfg} {q : Sl} {g n : Nat} (hl : Le w x) (bp : Box x w.heap.size cp tp) (br : Box x (w.heap.size + 1) cellsZ9 31) (bo : Box x g cellsZ9 31) (hg : w.heap.size + 2 ≤ g) (ho : OwnE thK x (w.heap.size + 2) (slV q) (List.replicate n ⟨Th.zero, slZ, slZ⟩)) :
    CpI F w cp tp c g (Go.Proofs.Ytibleipfablniaa.put9 x g c slZ slZ q slZ) ⟨c, slZ, slZ, q, slZ, [], [], List.replicate n ⟨Th.zero, slZ, slZ⟩, []⟩ := by
  refine ⟨hl.put9 (by omega) _ _ _ _ _, bp.off9 (by omega) _ _ _ _ _, br.off9 (by omega) _ _ _ _ _, bo.put9 rfl _ _ _ _ _, by omega, ⟨OwnE.nil _ _ _, OwnE.nil _ _ _, ?_, OwnE.nil _ _ _, (fun x h => by cases h), (fun x h => by cases h), (fun y h => ?_)⟩, fun hf => absurd hf hF⟩
  · exact row_put9 (ho.base (base' := w.heap.size) (by omega)) (ho.apart bo (by decide)) _ _ _ _ _
  · obtain rfl := List.eq_of_mem_replicate h
    exact ⟨Own.nil _ _, Own.nil _ _⟩

set_option maxRecDepth 8000 in
set_option maxHeartbeats 16000000 in
theorem startNew (c : Cfg) (w : World) : Calls Try.prog 6 #[cfgV c.o c.r c.l c.t c.s] w fun e w' => ∃ v', e = .returned (.tuple #[v', .int .i64 (newM c).2]) ∧ OwnM w' w.heap.size v' (newM c).1 ∧ Le w w' := by
  have hl := (Le.alloc w (.cells (cells5 c) 25)).trans (Le.alloc _ (.cells cellsZ9 31))
  have hb1 := (Box.new w (cells5 c) 25).le (Le.alloc _ (.cells cellsZ9 31))
  have hb2 := Box.new (w.alloc (.cells (cells5 c) 25)) cellsZ9 31
  have hWs : ((w.alloc (.cells (cells5 c) 25)).alloc (.cells cellsZ9 31)).heap.size = w.heap.size + 2 := by simp
  rw [World.size_alloc] at hb2
  have m1 := fun w' => cfgMay c.o c.r c.l c.t c.s w'
  cases h1 : cfgB c.o c.r c.l c.t c.s
  · have hN : newM c = (Mc.zero, 1400) := by unfold newM Cfg.ok; rw [h1]; rfl
    rw [hN]
    simp only [h1] at m1
    go_enter Try.func6, Try.ntmps6
    go_wp2_with fail
    refine (m1 _).mono ?_
    rintro e w1 ⟨rfl, n1⟩
    replace hb2 := hb2.le n1
    have r0 := hb2.cell 0
    have r1 := hb2.cell 1
    have r2 := hb2.cell 2
    have r3 := hb2.cell 3
    have r4 := hb2.cell 4
    have r5 := hb2.cell 5
    have r6 := hb2.cell 6
    have r7 := hb2.cell 7
    have r8 := hb2.cell 8
    simp only [List.getElem?_toArray, List.getElem?_cons_succ, List.getElem?_cons_zero] at r0 r1 r2 r3 r4 r5 r6 r7 r8
    have k0 := hb2.frozen 0
    have k1 := hb2.frozen 1
    have k2 := hb2.frozen 2
    have k3 := hb2.frozen 3
    have k4 := hb2.frozen 4
    have k5 := hb2.frozen 5
    have k6 := hb2.frozen 6
    have k7 := hb2.frozen 7
    have k8 := hb2.frozen 8
    go_wp2_with fail
    refine bodyPost_ret (v := .tuple #[machZ, .int .i64 1400]) (by simp [results, Try.results6, go_sem, r0, r1, r2, r3, r4, r5, r6, r7, r8]) rfl ⟨_, rfl, OwnM.zero _ _, ?_⟩
    exact (hl.trans n1).put9 (c := Cfg.zero) (by omega) slZ slZ slZ slZ
  have hN : newM c = (freshM c, 0) := by unfold newM Cfg.ok; rw [h1]; rfl
  rw [hN]
  simp only [h1] at m1
  obtain ⟨_, ⟨r0, r1⟩, ⟨l0, l1⟩, ⟨t0, t1⟩, hs, _⟩ := cfgB_cases h1
  obtain ⟨nl, hnl⟩ : ∃ n : Nat, c.l = n := ⟨c.l.toNat, by omega⟩
  obtain ⟨nr, hnr⟩ : ∃ n : Nat, c.r = n := ⟨c.r.toNat, by omega⟩
  obtain ⟨nt, hnt⟩ : ∃ n : Nat, c.t = n := ⟨c.t.toNat, by omega⟩
  have HNL : Hid (c.l = nl) := hnl
  have HNR : Hid (c.r = nr) := hnr
  have HNT : Hid (c.t = nt) := hnt
  have hnl2 : nl ≤ 2 := by omega
  have hnr2 : nr ≤ 2 := by omega
  have hnt4 : nt = 1 ∨ nt = 2 ∨ nt = 3 ∨ nt = 4 := by omega
  clear h1 hnl hnr hnt
  go_enter Try.func6, Try.ntmps6
  go_wp2_with fail
  refine (m1 _).mono ?_
  rintro e w1 ⟨rfl, n1⟩
  replace hb1 := hb1.le n1
  replace hb2 := hb2.le n1
  have hsz := hWs
  have hsz2 := n1.size
  rw [hWs] at hsz2
  replace hl := hl.trans n1
  clear m1 n1 hWs hsz
  obtain ⟨z0, z1, z2, z3, z4⟩ := hb1.slot
  go_upto_region 3 with fail
  go_cut [4] from 7 (fun s4 wc => ∃ g q, s4 = .pointer (some ⟨g, 0, none⟩) ∧ CpI False w (cells5 c) 25 c g wc ⟨c, slZ, slZ, q, slZ, [], [], List.replicate nt ⟨Th.zero, slZ, slZ⟩, []⟩)
  case first =>
    refine wp_region_any (by kernel_rfl) ?_
    refine wpAny_grow [] [0, 1, 2, 3, 4, 5] [6] (by decide) (by kernel_rfl) Le (Le.refl _) (fun _ _ _ => Le.trans)
      (fun vs i x => match i with
        | 0 => vs 0 = cfgV c.o c.r c.l c.t c.s
        | 1 => vs 1 = .pointer (some ⟨w.heap.size, 3, none⟩)
        | 2 => vs 2 = .int .i64 nt
        | 3 => ∃ q, vs 3 = slV q ∧ OwnE thK x (w.heap.size + 2) (slV q) (List.replicate nt ⟨Th.zero, slZ, slZ⟩)
        | 4 => ∃ q, vs 4 = machV c slZ slZ q slZ ∧ OwnE thK x (w.heap.size + 2) (slV q) (List.replicate nt ⟨Th.zero, slZ, slZ⟩)
        | _ => ∃ g, vs 5 = .pointer (some ⟨g, 0, none⟩) ∧ w.heap.size + 2 ≤ g ∧ Box x g cellsZ9 31) ?_ ?_ (by decide) ?_ ?_
    · intro vs i x y hi _ h hxy
      simp only [List.mem_cons, List.not_mem_nil, or_false] at hi
      rcases hi with rfl | rfl | rfl | rfl | rfl | rfl
      · exact h
      · exact h
      · exact h
      · obtain ⟨b, e, o⟩ := h; exact ⟨b, e, o.le hxy⟩
      · obtain ⟨b, e, o⟩ := h; exact ⟨b, e, o.le hxy⟩
      · obtain ⟨b, e, o, o'⟩ := h; exact ⟨b, e, o, o'.le hxy⟩
    · intro vs vs' i o x hi _ hk h
      have e := hk i (.inl rfl)
      simp only [List.mem_cons, List.not_mem_nil, or_false] at hi
      rcases hi with rfl | rfl | rfl | rfl | rfl | rfl
      all_goals
        simp only at h ⊢
        rw [← e]
        exact h
    · intro i o hi ho vs x hx hd
      have hx0 := (Le.drew w1).trans hx
      simp only [List.mem_cons, List.not_mem_nil, or_false] at hi
      generalize hρ : (putH _ _ _ vs).eval = ρ
      rcases hi with rfl | rfl | rfl | rfl | rfl | rfl
      · cases ho
        have r1 : ρ (.tmp 1) = .pointer (some ⟨w.heap.size, 0, none⟩) := by rw [← hρ]; kernel_rfl
        have y0 := cell_le z0 hx0
        have y1 := cell_le z1 hx0
        have y2 := cell_le z2 hx0
        have y3 := cell_le z3 hx0
        have y4 := cell_le z4 hx0
        exact gives_value (w' := x) (v := cfgV c.o c.r c.l c.t c.s) (by simp [go_sem, r1, y0, y1, y2, y3, y4]) ⟨Le.refl _, rfl⟩
      · cases ho
        have r1 : ρ (.tmp 1) = .pointer (some ⟨w.heap.size, 0, none⟩) := by rw [← hρ]; kernel_rfl
        exact gives_value (w' := x) (v := .pointer (some ⟨w.heap.size, 3, none⟩)) (by simp [go_sem, r1]) ⟨Le.refl _, rfl⟩
      · cases ho
        have r1 : ρ (.tmp 12) = vs 1 := by rw [← hρ]; kernel_rfl
        have d := hd 1 (by decide) (by kernel_rfl)
        simp only at d
        rw [d] at r1
        have y3 := cell_le z3 hx0
        rw [HNT.out] at y3
        exact gives_value (w' := x) (v := .int .i64 nt) (by simp [go_sem, r1, y3]) ⟨Le.refl _, rfl⟩
      · cases ho
        have r1 : ρ (.tmp 13) = vs 2 := by rw [← hρ]; kernel_rfl
        have d := hd 2 (by decide) (by kernel_rfl)
        simp only at d
        rw [d] at r1
        obtain ⟨x', hrun, o3, l3⟩ := run_make_ths x (w.heap.size + 2) nt hnt4 (Nat.le_trans hsz2 hx0.size)
        exact gives_value (w' := x') (v := slV (some ⟨x.heap.size, 0, none⟩, nt, nt)) (by simp [go_sem, r1, hrun]) ⟨l3, _, rfl, o3⟩
      · cases ho
        have r1 : ρ (.tmp 11) = vs 0 := by rw [← hρ]; kernel_rfl
        have r2 : ρ (.tmp 14) = vs 3 := by rw [← hρ]; kernel_rfl
        have e1 := hd 0 (by decide) (by kernel_rfl)
        have hh := hd 3 (by decide) (by kernel_rfl)
        simp only at e1 hh
        obtain ⟨q, e5, o5⟩ := hh
        rw [e1] at r1
        rw [e5] at r2
        exact gives_value (w' := x) (v := machV c slZ slZ q slZ) (by simp [go_sem, r1, r2]) ⟨Le.refl _, q, rfl, o5⟩
      · cases ho
        exact gives_value (w' := x.alloc (.cells cellsZ9 31)) (v := .pointer (some ⟨x.heap.size, 0, none⟩)) (by simp [go_sem]) ⟨Le.alloc _ _, x.heap.size, rfl, Nat.le_trans hsz2 hx0.size, Box.new _ _ _⟩
    · intro vs x hx hd
      have hx0 := (Le.drew w1).trans hx
      have hh := hd 4 (by decide)
      simp only at hh
      replace hh := hh.choose_spec
      generalize Exists.choose _ = q at hh
      have e6 := hh.1
      have o6 := hh.2
      have hh := hd 5 (by decide)
      simp only at hh
      replace hh := hh.choose_spec
      generalize Exists.choose _ = g at hh
      have e7 := hh.1
      have hg := hh.2.1
      have b7 := hh.2.2
      generalize hf0 : putH _ _ _ vs = fr0
      refine wpSeq_cons rfl ?_
      refine wp_skip_at (w0 := put9 x g c slZ slZ q slZ) ?_ ?_
      · generalize hρ : fr0.eval = ρ
        have r1 : ρ (.tmp 4) = vs 5 := by rw [← hρ, ← hf0]; kernel_rfl
        have r2 : ρ (.tmp 15) = vs 4 := by rw [← hρ, ← hf0]; kernel_rfl
        rw [e7] at r1
        rw [e6] at r2
        have c0 := b7.cell 0
        have c1 := b7.cell 1
        have c2 := b7.cell 2
        have c3 := b7.cell 3
        have c4 := b7.cell 4
        have c5 := b7.cell 5
        have c6 := b7.cell 6
        have c7 := b7.cell 7
        have c8 := b7.cell 8
        simp only [List.getElem?_toArray, List.getElem?_cons_succ, List.getElem?_cons_zero] at c0 c1 c2 c3 c4 c5 c6 c7 c8
        have k0 := b7.frozen 0
        have k1 := b7.frozen 1
        have k2 := b7.frozen 2
        have k3 := b7.frozen 3
        have k4 := b7.frozen 4
        have k5 := b7.frozen 5
        have k6 := b7.frozen 6
        have k7 := b7.frozen 7
        have k8 := b7.frozen 8
        simp [go_sem, r1, r2, c0, c1, c2, c3, c4, c5, c6, c7, c8, k0, k1, k2, k3, k4, k5, k6, k7, k8]
      · subst hf0
        simp only [wpSeq, putH, List.getElem?_cons_succ, List.getElem?_cons_zero, Option.bind_some, Act.put, List.setIfInBounds_toArray, List.set_cons_zero, List.set_cons_succ, e7]
        go_wp2_with fail
        go_meet
        case rel => exact ⟨g, q, rfl, CpI.start2 id (hl.trans hx0) (hb1.le hx0) (hb2.le hx0) b7 hg o6⟩
  case rest =>
    obtain ⟨g, q0, rfl, I0⟩ := hcut
    clear hb1 hb2 hl z0 z1 z2 z3 z4
    obtain ⟨R, hR⟩ : ∃ R, R = (newS c.s).1 := ⟨_, rfl⟩
    obtain ⟨er, her⟩ : ∃ e, e = (newS c.s).2 := ⟨_, rfl⟩
    have HR : Hid (R = (newS c.s).1) := hR
    have hnew := fun w' => ringNew c.s w'
    simp only [← hR, ← her] at hnew
    clear hR her
    obtain ⟨z0, z1, z2, z3, z4⟩ := I0.bp.slot
    go_wp2_with fail
    go_loopw [18] (fun i wr => ∃ (k : Nat) (L : Lay), k ≤ nl ∧ i = .int .i64 k ∧ CpI False w (cells5 c) 25 c g wr L ∧ Hid (L.c = c ∧ L.rs.map LR.R = List.replicate k R ∧ L.ps = [] ∧ L.ts.map LT.T = List.replicate nt Th.zero ∧ L.es = [])) (fun i _ => nl - (intOf i).toNat)
    case atStart => exact ⟨0, _, Nat.zero_le _, rfl, I0, rfl, rfl, rfl, by simp, rfl⟩
    case round =>
      clear I0 z0 z1 z2 z3 z4
      obtain ⟨k, L, hk, rfl, I, HL⟩ := hrel
      obtain ⟨z0, z1, z2, z3, z4⟩ := I.bp.slot
      by_cases hlt : k < nl
      · have hlt' : (k : Int) < c.l := by have := HNL.out; omega
        have hLn : L.rs.length = k := by
          have := congrArg List.length HL.out.2.1
          simp at this
          exact this
        have HLn : Hid (L.rs.length = k) := hLn
        clear hLn
        go_wp2_with fail
        refine (hnew _).mono ?_
        rintro e w2 ⟨v', rfl, ⟨q, rfl, oq⟩, l2⟩
        have hA := Le.alloc w2 (.cells (cellsR R.h R.t R.f q) 39)
        have hbx := Box.new w2 (cellsR R.h R.t R.f q) 39
        clear z0 z1 z2 z3 z4
        go_upto_region 7 with fail
        generalize hW2 : w2.alloc (.cells (cellsR R.h R.t R.f q) 39) = w3 at hA hbx ⊢
        generalize w2.heap.size = gx at hbx ⊢
        clear hW2
        have l3 := l2.trans hA
        replace oq := oq.le hA
        clear hA l2
        have hlit := OwnE.lit ringK w3 wr.heap.size l3.size [⟨R, q⟩] (by simp)
        replace hlit : OwnE ringK (w3.alloc (.cells (cellsR R.h R.t R.f q) 39)) wr.heap.size (.slice (some ⟨w3.heap.size, 0, none⟩) 1 1) [⟨R, q⟩] := hlit
        have hA6 := Le.alloc w3 (.cells (cellsR R.h R.t R.f q) 39)
        have I6 := I.later l3
        have y5 := I6.bo.mach.2.1
        have hoR := I6.own.oR.le hA6
        obtain ⟨s0, s1, s2, s3, _, _, _, _⟩ := hbx.ring
        go_wp2_with (at_builtin; refine wp_append_E ringIn rfl _ _ rfl w.heap.size _ _ L.rs [⟨R, q⟩] rfl rfl hoR hlit.has (by have := HLn.out; show (L.rs.length + 1) * 48 ≤ _; omega) (by have := HLn.out; show L.rs.length + 1 ≤ _; omega) (I6.le.trans hA6).size ?_; intro v' w7 o8 hg8 _; obtain ⟨q', rfl⟩ := o8.has.sl; have hb8 := (I6.bo.le hA6).grown hg8 (hoR.apart (I6.bo.le hA6) (by decide)); have c5 := hb8.cell 5; have k5 := hb8.frozen 5)
        have IN := I.ring (by decide) (l3.trans hA6) (x := ⟨R, q⟩) (oq.le hA6) o8 hg8
        go_roundw
        case rel => exact ⟨k + 1, _, by omega, by go_num, IN, HL.out.1, by rw [List.map_append, HL.out.2.1, List.replicate_succ']; rfl, HL.out.2.2.1, HL.out.2.2.2.1, HL.out.2.2.2.2⟩
        case measure => simp [intOf]; omega
      · have hge : c.l ≤ (k : Int) := by have := HNL.out; omega
        have hkl : k = nl := by omega
        have HL0 : Hid (L.c = c ∧ L.rs.map LR.R = List.replicate nl R ∧ L.ps.map LP.P = List.replicate 0 ⟨St.zero, List.replicate nl 0, List.replicate nl 0⟩ ∧ L.ts.map LT.T = List.replicate nt Th.zero ∧ L.es = []) := ⟨HL.out.1, by rw [HL.out.2.1, hkl], by rw [HL.out.2.2.1]; rfl, HL.out.2.2.2.1, HL.out.2.2.2.2⟩
        clear hkl hnew
        go_wp2_with fail
        go_loopw [35] (fun i wr => ∃ (k : Nat) (L : Lay), k ≤ nr ∧ i = .int .i64 k ∧ CpI False w (cells5 c) 25 c g wr L ∧ Hid (L.c = c ∧ L.rs.map LR.R = List.replicate nl R ∧ L.ps.map LP.P = List.replicate k ⟨St.zero, List.replicate nl 0, List.replicate nl 0⟩ ∧ L.ts.map LT.T = List.replicate nt Th.zero ∧ L.es = [])) (fun i _ => nr - (intOf i).toNat)
        case atStart => exact ⟨0, L, Nat.zero_le _, rfl, I, HL0⟩
        case round =>
          clear HL0 HL I z0 z1 z2 z3 z4 hlt hge hk
          rename_i _ k0 L0 _ _
          obtain ⟨k, L, hk, rfl, I, HL⟩ := hrel
          by_cases hlt : k < nr
          · have hlt' : (k : Int) < c.r := by have := HNR.out; omega
            have hLn : L.ps.length = k := by
              have := congrArg List.length HL.out.2.2.1
              simp at this
              exact this
            have HLn : Hid (L.ps.length = k) := hLn
            clear hLn
            obtain ⟨z0, z1, z2, z3, z4⟩ := I.bp.slot
            have y6 := I.bo.mach.2.2.1
            go_upto_region 11 with fail
            refine wp_region_any (by kernel_rfl) ?_
            refine wpAny_grow [] [0, 1, 2, 3, 4, 5, 6, 7, 8, 9] [10, 11, 12] (by decide) (by kernel_rfl) Le (Le.refl _) (fun _ _ _ => Le.trans)
              (fun vs i x => match i with
                | 0 => vs 0 = .pointer (some ⟨g, 6, none⟩)
                | 1 => vs 1 = slV L.qP
                | 2 => vs 2 = .pointer (some ⟨w.heap.size, 2, none⟩)
                | 3 => vs 3 = .int .i64 nl
                | 4 => ∃ q, vs 4 = slV q ∧ Own x wr.heap.size (slV q) (List.replicate nl 0)
                | 5 => vs 5 = .pointer (some ⟨w.heap.size, 2, none⟩)
                | 6 => vs 6 = .int .i64 nl
                | 7 => ∃ q, vs 7 = slV q ∧ Own x wr.heap.size (slV q) (List.replicate nl 0)
                | 8 => ∃ qa qb, vs 8 = repV (fun _ => slZ) qa qb ∧ Own x wr.heap.size (slV qa) (List.replicate nl 0) ∧ Own x wr.heap.size (slV qb) (List.replicate nl 0)
                | _ => ∃ qa qb, OwnE repK x wr.heap.size (vs 9) [⟨⟨St.zero, List.replicate nl 0, List.replicate nl 0⟩, fun _ => slZ, qa, qb⟩] ∧ Own x wr.heap.size (slV qa) (List.replicate nl 0) ∧ Own x wr.heap.size (slV qb) (List.replicate nl 0)) ?_ ?_ (by decide) ?_ ?_
            · intro vs i x y hi _ h hxy
              simp only [List.mem_cons, List.not_mem_nil, or_false] at hi
              rcases hi with rfl | rfl | rfl | rfl | rfl | rfl | rfl | rfl | rfl | rfl
              iterate 4
                · exact h
              · obtain ⟨b, e, o⟩ := h; exact ⟨b, e, o.le hxy⟩
              iterate 2
                · exact h
              · obtain ⟨b, e, o⟩ := h; exact ⟨b, e, o.le hxy⟩
              · obtain ⟨a, b, e, o, o'⟩ := h; exact ⟨a, b, e, o.le hxy, o'.le hxy⟩
              · obtain ⟨a, b, e, o, o'⟩ := h; exact ⟨a, b, e.le hxy, o.le hxy, o'.le hxy⟩
            · intro vs vs' i o x hi _ hk h
              have e := hk i (.inl rfl)
              simp only [List.mem_cons, List.not_mem_nil, or_false] at hi
              rcases hi with rfl | rfl | rfl | rfl | rfl | rfl | rfl | rfl | rfl | rfl
              all_goals
                simp only at h ⊢
                rw [← e]
                exact h
            · intro i o hi ho vs x hx hd
              have hx0 := (Le.drew wr).trans hx
              simp only [List.mem_cons, List.not_mem_nil, or_false] at hi
              generalize hρ : (putH _ _ _ vs).eval = ρ
              rcases hi with rfl | rfl | rfl | rfl | rfl | rfl | rfl | rfl | rfl | rfl
              · cases ho
                have r1 : ρ (.tmp 4) = .pointer (some ⟨g, 0, none⟩) := by rw [← hρ]; kernel_rfl
                exact gives_value (w' := x) (v := .pointer (some ⟨g, 6, none⟩)) (by simp [go_sem, r1]) ⟨Le.refl _, rfl⟩
              · cases ho
                have r1 : ρ (.tmp 37) = vs 0 := by rw [← hρ]; kernel_rfl
                have d := hd 0 (by decide) (by kernel_rfl)
                simp only at d
                rw [d] at r1
                have s6 := cell_le y6 hx0
                exact gives_value (w' := x) (v := slV L.qP) (by simp [go_sem, r1, s6]) ⟨Le.refl _, rfl⟩
              · cases ho
                have r1 : ρ (.tmp 1) = .pointer (some ⟨w.heap.size, 0, none⟩) := by rw [← hρ]; kernel_rfl
                exact gives_value (w' := x) (v := .pointer (some ⟨w.heap.size, 2, none⟩)) (by simp [go_sem, r1]) ⟨Le.refl _, rfl⟩
              · cases ho
                have r1 : ρ (.tmp 39) = vs 2 := by rw [← hρ]; kernel_rfl
                have d := hd 2 (by decide) (by kernel_rfl)
                simp only at d
                rw [d] at r1
                have s2 := cell_le z2 hx0
                rw [HNL.out] at s2
                exact gives_value (w' := x) (v := .int .i64 nl) (by simp [go_sem, r1, s2]) ⟨Le.refl _, rfl⟩
              · cases ho
                have r1 : ρ (.tmp 40) = vs 3 := by rw [← hρ]; kernel_rfl
                have d := hd 3 (by decide) (by kernel_rfl)
                simp only at d
                rw [d] at r1
                obtain ⟨x', hrun, o3, l3⟩ := run_make_ints x wr.heap.size nl (by omega) hx0.size
                exact gives_value (w' := x') (v := slV (some ⟨x.heap.size, 0, none⟩, nl, nl)) (by simp [go_sem, r1, hrun]) ⟨l3, _, rfl, o3⟩
              · cases ho
                have r1 : ρ (.tmp 1) = .pointer (some ⟨w.heap.size, 0, none⟩) := by rw [← hρ]; kernel_rfl
                exact gives_value (w' := x) (v := .pointer (some ⟨w.heap.size, 2, none⟩)) (by simp [go_sem, r1]) ⟨Le.refl _, rfl⟩
              · cases ho
                have r1 : ρ (.tmp 42) = vs 5 := by rw [← hρ]; kernel_rfl
                have d := hd 5 (by decide) (by kernel_rfl)
                simp only at d
                rw [d] at r1
                have s2 := cell_le z2 hx0
                rw [HNL.out] at s2
                exact gives_value (w' := x) (v := .int .i64 nl) (by simp [go_sem, r1, s2]) ⟨Le.refl _, rfl⟩
              · cases ho
                have r1 : ρ (.tmp 43) = vs 6 := by rw [← hρ]; kernel_rfl
                have d := hd 6 (by decide) (by kernel_rfl)
                simp only at d
                rw [d] at r1
                obtain ⟨x', hrun, o3, l3⟩ := run_make_ints x wr.heap.size nl (by omega) hx0.size
                exact gives_value (w' := x') (v := slV (some ⟨x.heap.size, 0, none⟩, nl, nl)) (by simp [go_sem, r1, hrun]) ⟨l3, _, rfl, o3⟩
              · cases ho
                have r1 : ρ (.tmp 41) = vs 4 := by rw [← hρ]; kernel_rfl
                have r2 : ρ (.tmp 44) = vs 7 := by rw [← hρ]; kernel_rfl
                have h4 := hd 4 (by decide) (by kernel_rfl)
                have h7 := hd 7 (by decide) (by kernel_rfl)
                simp only at h4 h7
                obtain ⟨qa, e4, o4⟩ := h4
                obtain ⟨qb, e7, o7⟩ := h7
                rw [e4] at r1
                rw [e7] at r2
                exact gives_value (w' := x) (v := repV (fun _ => slZ) qa qb) (by simp [go_sem, r1, r2]) ⟨Le.refl _, qa, qb, rfl, o4, o7⟩
              · cases ho
                have r1 : ρ (.tmp 45) = vs 8 := by rw [← hρ]; kernel_rfl
                have hh := hd 8 (by decide) (by kernel_rfl)
                simp only at hh
                obtain ⟨qa, qb, e8, o8, o9⟩ := hh
                rw [e8] at r1
                have hlit := OwnE.lit repK x wr.heap.size hx0.size [⟨⟨St.zero, List.replicate nl 0, List.replicate nl 0⟩, fun _ => slZ, qa, qb⟩] (by simp)
                exact gives_value (w' := x.alloc (.cells (cellsP (fun _ => slZ) qa qb) 46)) (v := .slice (some ⟨x.heap.size, 0, none⟩) 1 1) (by simp [go_sem, r1]) ⟨Le.alloc _ _, qa, qb, hlit, o8.le (Le.alloc _ _), o9.le (Le.alloc _ _)⟩
            · intro vs x hx hd
              have hx0 := (Le.drew wr).trans hx
              have e1 := hd 1 (by decide)
              simp only at e1
              have hh := hd 9 (by decide)
              simp only at hh
              replace hh := hh.choose_spec
              generalize Exists.choose _ = qa at hh
              replace hh := hh.choose_spec
              generalize Exists.choose _ = qb at hh
              have o9 := hh.1
              have oa := hh.2.1
              have ob := hh.2.2
              have hrun := run_append_E repIn 27 x w.heap.size (slV L.qP) (vs 9) L.ps [⟨⟨St.zero, List.replicate nl 0, List.replicate nl 0⟩, fun _ => slZ, qa, qb⟩] (I.own.oP.le hx0) o9.has (by simp) (by have := HLn.out; show (L.ps.length + 1) * 144 ≤ _; omega) (by have := HLn.out; show L.ps.length + 1 ≤ _; omega) (I.le.trans hx0).size
              replace hrun := hrun.choose_spec
              generalize Exists.choose _ = q' at hrun
              replace hrun := hrun.choose_spec
              generalize Exists.choose _ = x2 at hrun
              have hrn := hrun.1
              have IN := I.rep (by decide) hx0 (x := ⟨⟨St.zero, List.replicate nl 0, List.replicate nl 0⟩, fun _ => slZ, qa, qb⟩) (fun i _ => by show Own x _ _ (St.zero.at i); rw [St.at_zero]; exact Own.nil _ _) oa ob (fun h => h.elim) hrun.2.1 hrun.2.2
              have bo2 : x2.cell? ⟨g, 6, none⟩ = some (slV L.qP) ∧ x2.frozen? ⟨g, 6, none⟩ = false := by
                have hb := (I.bo.le hx0).grown hrun.2.2 ((I.own.oP.le hx0).apart (I.bo.le hx0) (by decide))
                exact ⟨hb.cell 6, hb.frozen 6⟩
              have c6 := bo2.1
              have k6 := bo2.2
              generalize hf0 : putH _ _ _ vs = fr0
              refine wpSeq_cons rfl ?_
              refine wp_value_at (v0 := slV q') (w0 := x2) ?_ ?_
              · have r1 : fr0.eval (.tmp 38) = vs 1 := by rw [← hf0]; kernel_rfl
                have r2 : fr0.eval (.tmp 46) = vs 9 := by rw [← hf0]; kernel_rfl
                rw [e1] at r1
                simp only [execOp, resolve, invoke, builtin, Sem.run_bind, Sem.run_pure, Result.andThen_ok, List.map_toArray, List.map_cons, List.map_nil, r1, r2, hrn]
              · generalize hf1 : Act.put fr0 _ _ = fr1
                refine wpSeq_cons rfl ?_
                refine wp_value_at (v0 := .pointer (some ⟨g, 6, none⟩)) (w0 := x2) ?_ ?_
                · generalize hρ : fr1.eval = ρ
                  have r1 : ρ (.tmp 4) = .pointer (some ⟨g, 0, none⟩) := by rw [← hρ, ← hf1, ← hf0]; kernel_rfl
                  simp [go_sem, r1]
                · generalize hf2 : Act.put fr1 _ _ = fr2
                  refine wpSeq_cons rfl ?_
                  refine wp_skip_at (w0 := x2.setCell ⟨g, 6, none⟩ (slV q')) ?_ ?_
                  · generalize hρ : fr2.eval = ρ
                    have r1 : ρ (.tmp 48) = .pointer (some ⟨g, 6, none⟩) := by rw [← hρ, ← hf2, ← hf1, ← hf0]; kernel_rfl
                    have r2 : ρ (.tmp 47) = slV q' := by rw [← hρ, ← hf2, ← hf1, ← hf0]; kernel_rfl
                    simp [go_sem, r1, r2, c6, k6]
                  · subst hf2 hf1 hf0
                    simp only [wpSeq, putH, List.getElem?_cons_succ, List.getElem?_cons_zero, Option.bind_some, Act.put, List.setIfInBounds_toArray, List.set_cons_zero, List.set_cons_succ]
                    go_wp2_with fail
                    go_roundw
                    case rel => exact ⟨k + 1, _, by omega, by go_num, IN, HL.out.1, HL.out.2.1, by rw [List.map_append, HL.out.2.2.1, List.replicate_succ']; rfl, HL.out.2.2.2.1, HL.out.2.2.2.2⟩
                    case measure => simp [intOf]; omega
          · have hge : c.r ≤ (k : Int) := by have := HNR.out; omega
            have HM : Hid (L.M = freshM c) := by
              have hkr : k = nr := by omega
              show Lay.M L = _
              unfold Lay.M freshM
              have h1 := HNL.out
              have h2 := HNR.out
              have h3 := HNT.out
              rw [HL.out.1, HL.out.2.1, HL.out.2.2.1, HL.out.2.2.2.1, HL.out.2.2.2.2, ← HR.out, h1, h2, h3, hkr]
              simp
            have HC : Hid (L.c = c) := HL.out.1
            obtain ⟨⟨m0, m1, m2, m3, m4⟩, m5, m6, m7, m8⟩ := I.bo.mach
            have r0 := I.br.cell 0
            have r1 := I.br.cell 1
            have r2 := I.br.cell 2
            have r3 := I.br.cell 3
            have r4 := I.br.cell 4
            have r5 := I.br.cell 5
            have r6 := I.br.cell 6
            have r7 := I.br.cell 7
            have r8 := I.br.cell 8
            simp only [List.getElem?_toArray, List.getElem?_cons_succ, List.getElem?_cons_zero] at r0 r1 r2 r3 r4 r5 r6 r7 r8
            have k0' := I.br.frozen 0
            have k1' := I.br.frozen 1
            have k2 := I.br.frozen 2
            have k3 := I.br.frozen 3
            have k4 := I.br.frozen 4
            have k5 := I.br.frozen 5
            have k6 := I.br.frozen 6
            have k7 := I.br.frozen 7
            have k8 := I.br.frozen 8
            clear HL
            go_wp2_with fail
            refine bodyPost_ret (v := .tuple #[machV c L.qR L.qP L.qT L.qH, .int .i64 0]) (by simp [results, Try.results6, go_sem, r0, r1, r2, r3, r4, r5, r6, r7, r8]) rfl ⟨_, rfl, ⟨L, by rw [← HC.out], HM.out.symm, ?_⟩, ?_⟩
            · exact I.own.put9 I.br c L.qR L.qP L.qT L.qH
            · exact I.le.put9 (by omega) _ _ _ _ _

end Go.Proofs.Ytibleipfablniaa

/-
  THE WALKS over choruslaw0's CopyState and SpoilState: what each does, for every state. Condition: where memory is made, the rows' bytes are within the reach that every row bears.
-/
namespace Go.Proofs.Ytibleipfablniaa
open Go.RowKit

set_option maxHeartbeats 400000 in
theorem lawCopyState (v : Value) (s : St) (w : World) (hx : HasS w v s) (hf : Fit s) :
    Calls Try.prog 36 #[v] w fun e w' => ∃ v', e = .returned v' ∧ OwnS w' w.heap.size v' s ∧ Le w w' := by
  obtain ⟨vs, rfl, hr⟩ := hx
  go_enter Try.func36, Try.ntmps36
  go_wp2
  go_loopw [4] (fun i wr => ∃ (k : Nat) (us : Nat → Sl), k ≤ 4 ∧ i = .int .i64 k ∧ Cp w s vs wr k us) (fun i _ => 4 - (intOf i).toNat)
  case atStart => exact ⟨0, _, by omega, rfl, Cp.start w s vs⟩
  case round =>
    obtain ⟨k, us, hk, rfl, hcp⟩ := hrel
    by_cases hlt : k < 4
    · have c1 : (wr.alloc (.cells #[] 3)).cell? ⟨w.heap.size, k, none⟩ = some (slV (vs k)) := ((hcp.given.le (Le.alloc wr _)).cell k).trans (cells4_at vs hlt)
      have hw1 : Has (wr.alloc (.cells #[] 3)) (slV (vs k)) (s.at k) := (hr k hlt).le (hcp.le.trans (Le.alloc wr _))
      have hn1 : Own (wr.alloc (.cells #[] 3)) wr.heap.size (.slice (some ⟨wr.heap.size, 0, none⟩) 0 0) [] := Own.lit wr _ (Nat.le_refl _) [] (by decide)
      have hfk := hf k hlt
      have hrow : ∀ g, (Value.slice (some ⟨wr.heap.size, 0, none⟩) 0 0).ownBlock = some g → wr.heap.size ≤ g := by intro g hg; cases hg; exact Nat.le_refl _
      go_wp2_with (at_builtin; refine wp_append_ints rfl _ _ rfl wr.heap.size _ _ [] (s.at k) rfl rfl hn1 hw1 (by simp; omega) (by simp) ?_; intro v' w2 hown hgrow; rw [List.nil_append] at hown; have l2 : Le wr w2 := Below.grown (Le.alloc wr _) hgrow (by simp) hrow; have c3 := (hcp.filled.le l2).cell k; rw [cells4_at us hlt] at c3; have f3 := (hcp.filled.le l2).frozen k; obtain ⟨q, rfl⟩ := hown.has.sl)
      go_roundw
      case rel => exact ⟨k + 1, _, by omega, by go_num, hcp.next hlt (Le.alloc wr _) hgrow hrow hown⟩
      case measure => simp [intOf]; omega
    · obtain rfl : k = 4 := by omega
      obtain ⟨p0, p1, p2, p3, _, _, _, _⟩ := hcp.filled.st
      obtain ⟨b0, b1, b2, b3, f0, f1, f2, f3⟩ := hcp.result.st
      go_wp2
      refine bodyPost_ret (v := stV us) (by simp [results, Try.results36, go_sem, b0, b1, b2, b3]) rfl ⟨_, rfl, ⟨us, rfl, fun i hi => ?_⟩, ?_⟩
      · exact ((((hcp.rows i hi).setBox hcp.result (by decide)).setBox (hcp.result.set _ _) (by decide)).setBox ((hcp.result.set _ _).set _ _) (by decide)).setBox (((hcp.result.set _ _).set _ _).set _ _) (by decide)
      · exact (((Below.setCell hcp.le (by show w.heap.size ≤ w.heap.size + 1; omega) _).setCell (by show w.heap.size ≤ w.heap.size + 1; omega) _).setCell (by show w.heap.size ≤ w.heap.size + 1; omega) _).setCell (by show w.heap.size ≤ w.heap.size + 1; omega) _

set_option maxHeartbeats 400000 in
theorem lawSpoilState (v : Value) (base : Nat) (w : World) (hx : IntsS w base v) (hbase : base ≤ w.heap.size) :
    Calls Try.prog 31 #[v] w fun e w' => e = .returned (.tuple #[]) ∧ Spoilt base w w' := by
  obtain ⟨vs, rfl, hr⟩ := hx
  have hb1 := Box.new w (cells4 vs) 44
  have hs1 : Spoilt base w (w.alloc (.cells (cells4 vs) 44)) := Spoilt.le hbase (Le.alloc _ _)
  go_enter Try.func31, Try.ntmps31
  go_wp2
  go_loopw [2] (fun i wr => ∃ k : Nat, k ≤ 4 ∧ i = .int .i64 k ∧ Spoilt base (w.alloc (.cells (cells4 vs) 44)) wr) (fun i _ => 4 - (intOf i).toNat)
  case atStart => exact ⟨0, by omega, rfl, Spoilt.refl _ _⟩
  case round =>
    obtain ⟨k, hk, rfl, hsp⟩ := hrel
    by_cases hlt : k < 4
    · have hi := (hr k hlt).spoilt (hs1.trans hsp)
      have c1 : wr.cell? ⟨w.heap.size, k, none⟩ = some (slV (vs k)) := hsp.rest _ _ ((hb1.cell k).trans (cells4_at vs hlt)) (fun x h => by cases h)
      go_wp2_with (go_at_call 32; refine (lawSpoil _ base _ hi).mono ?_; rintro e w1 ⟨rfl, s1⟩; clear hi c1)
      go_roundw
      case rel => exact ⟨k + 1, by omega, by go_num, hsp.trans s1⟩
      case measure => simp [intOf]; omega
    · obtain rfl : k = 4 := by omega
      go_wp2
      go_end0
      exact ⟨rfl, hs1.trans hsp⟩

end Go.Proofs.Ytibleipfablniaa
