/-
  PARTS LAID TOGETHER, each with its own opening: QueA, QueB, QueC, ObjS, McS, NwA, RgG, RgH, CfAwake, NwB, StC, LmE, LoA, LoB, HasBox, ObjA, ObjB.
-/
import Derived.Test.YtibleipfablniaaGreatAll2
import Derived.Test.YtibleipfablniaaGreatAll1
import Derived.Deep.Cut
import Derived.Deep.CutRange
import Derived.Deep.RegionHeld3
/-
  PLAIN GROUND AND THE WALKS over package queue's mayRow, put, take, and over slices.ContainsFunc at []int: what each answers, for every row. Condition: at put and take, that the row is the call's own and short.
-/
namespace Go.Proofs.YtibleipfablniaaGreat
open Go.RowKit

/-- May a row be a queue's? -/
def rowMay3 (xs : List Int) : Bool := decide (xs.length ≤ 4) && xs.all argB
/-- The row with a number behind all others, and 1; the row as it is, and 0, if it is full. -/
def enqS (xs : List Int) (a : Int) : List Int × Int := if 4 ≤ xs.length then (xs, 0) else (xs ++ [a], 1)
/-- The row without its first number; that number, or -1. -/
def deqS : List Int → List Int × Int
  | [] => ([], -1)
  | x :: r => (r, x)

theorem rowMay3_len {xs : List Int} (h : rowMay3 xs = true) : xs.length ≤ 4 := by
  simp [rowMay3] at h; exact h.1
theorem rowMay3_all {xs : List Int} (h : rowMay3 xs = true) : ∀ x ∈ xs, 0 ≤ x ∧ x ≤ 255 := by
  simp [rowMay3, argB] at h; exact h.2
theorem rowMay3_of {xs : List Int} (h : xs.length ≤ 4) (k : ∀ x ∈ xs, 0 ≤ x ∧ x ≤ 255) : rowMay3 xs = true := by
  simp [rowMay3, argB]; exact ⟨h, k⟩

set_option maxHeartbeats 400000 in
theorem queOdd (x : Int) (w : World) : Calls Tryz.prog 139 #[.int .i64 x] w fun e w' => e = .returned (.bool (!argB x)) ∧ w = w' := by
  by_cases h : x < 0
  · go_enter Tryz.func139, Tryz.ntmps139
    go_wp2
    go_ret
    exact ⟨ret_bool (by simp [argB]; omega), rfl⟩
  · go_enter Tryz.func139, Tryz.ntmps139
    go_wp2
    go_ret
    exact ⟨ret_bool (by rw [Bool.eq_iff_iff]; simp [argB]; omega), rfl⟩

set_option maxHeartbeats 400000 in
theorem slicesIndexFunc (f : Nat) (p : Int → Bool) (hc : ∀ (u : Value) (w : World), (callFunc f #[u]).run Tryz.prog w = .ok (.enter f #[u]) w) (hp : ∀ x w, Calls Tryz.prog f #[.int .i64 x] w fun e w' => e = .returned (.bool (p x)) ∧ w = w') (v : Value) (xs : List Int) (w : World) (hx : Has w v xs) (hl : xs.length ≤ 1000) :
    Calls Tryz.prog 143 #[v, .func (.func f) #[] #[]] w fun e w' => (∃ i : Int, e = .returned (.int .i64 i) ∧ decide (0 ≤ i) = xs.any p) ∧ w = w' := by
  obtain ⟨a, cap, rfl, hcap, _, hx⟩ := hx
  obtain ⟨n, hn⟩ : ∃ n, n = xs.length := ⟨_, rfl⟩
  rw [← hn] at hcap hx hl ⊢
  have HN : Hid (n = xs.length) := hn
  clear hn
  go_enter Tryz.func143, Tryz.ntmps143
  go_wp2
  go_loop [8] (fun i => ∃ k : Nat, k ≤ n ∧ i = .int .i64 k ∧ Hid (xs.any p = (xs.drop k).any p)) (fun i => n - (intOf i).toNat)
  case atStart => exact ⟨0, by omega, rfl, hid (by simp)⟩
  case round =>
    obtain ⟨k, hk, rfl, HR⟩ := hrel
    by_cases hlt : k < n
    · obtain ⟨b, off, rfl, hcell⟩ := hx (by omega)
      have c0 := hcell k hlt
      have hd := HR.out
      rw [drop_at (by have := HN.out; omega)] at hd
      obtain ⟨x, hxk⟩ : ∃ x, x = xs.getD k 0 := ⟨_, rfl⟩
      rw [← hxk] at c0 hd
      simp only [List.any_cons] at hd
      have hm := hp x w
      have k0 : (0 : Int) ≤ (k : Int) := by omega
      have k1 : (k : Int) < (n : Int) := by omega
      cases hh : p x
      · rw [hh] at hm hd
        have HD : Hid (xs.any p = (xs.drop (k + 1)).any p) := hid (by rw [hd]; rfl)
        clear hd hxk hcell hx HR
        go_wp2_with fail
        refine hm.mono ?_
        rintro e w1 ⟨rfl, rfl⟩
        go_wp2
        go_round
        case rel => exact ⟨k + 1, by omega, by go_num, HD⟩
        case measure => simp [intOf]; omega
      · rw [hh] at hm hd
        have HD : Hid (xs.any p = true) := hid (by rw [hd]; rfl)
        clear hd hxk hcell hx HR
        go_wp2_with fail
        refine hm.mono ?_
        rintro e w1 ⟨rfl, rfl⟩
        go_wp2
        go_ret
        exact ⟨⟨k, rfl, by rw [HD.out]; simp⟩, rfl⟩
    · obtain rfl : k = n := by omega
      have HD : Hid (xs.any p = false) := hid (by have := HR.out; rw [List.drop_eq_nil_of_le (by have := HN.out; omega)] at this; exact this)
      go_wp2
      go_ret
      exact ⟨⟨-1, rfl, by rw [HD.out]; decide⟩, rfl⟩

set_option maxHeartbeats 400000 in
theorem slicesContainsFunc (f : Nat) (p : Int → Bool) (hc : ∀ (u : Value) (w : World), (callFunc f #[u]).run Tryz.prog w = .ok (.enter f #[u]) w) (hp : ∀ x w, Calls Tryz.prog f #[.int .i64 x] w fun e w' => e = .returned (.bool (p x)) ∧ w = w') (v : Value) (xs : List Int) (w : World) (hx : Has w v xs) (hl : xs.length ≤ 1000) :
    Calls Tryz.prog 140 #[v, .func (.func f) #[] #[]] w fun e w' => e = .returned (.bool (xs.any p)) ∧ w = w' := by
  have hi := slicesIndexFunc f p hc hp v xs w hx hl
  go_enter Tryz.func140, Tryz.ntmps140
  go_wp2_with fail
  refine hi.mono ?_
  rintro e w1 ⟨⟨i, rfl, hd⟩, rfl⟩
  have HD : Hid (decide (0 ≤ i) = xs.any p) := hd
  clear hd
  go_wp2
  go_ret
  exact ⟨ret_bool HD.out, rfl⟩

theorem any_not (xs : List Int) : (!xs.any fun x => !argB x) = xs.all argB := by
  induction xs with
  | nil => rfl
  | cons x r ih => simp only [List.any_cons, List.all_cons, ← ih, Bool.not_or, Bool.not_not]

set_option maxHeartbeats 400000 in
theorem queMayRow (v : Value) (xs : List Int) (w : World) (hx : Has w v xs) :
    Calls Tryz.prog 130 #[v] w fun e w' => e = .returned (.bool (rowMay3 xs)) ∧ w = w' := by
  have hx0 := hx
  obtain ⟨a, cap, rfl, hcap, _, hx⟩ := hx
  by_cases h4 : xs.length ≤ 4
  · have hcf := slicesContainsFunc 139 (fun x => !argB x) (fun _ _ => by kernel_rfl) queOdd _ xs w hx0 (by omega)
    obtain ⟨B, hB⟩ : ∃ B, B = xs.any fun x => !argB x := ⟨_, rfl⟩
    rw [← hB] at hcf
    have HB : Hid (rowMay3 xs = !B) := hid (by rw [hB, any_not]; simp [rowMay3, h4])
    have h5 : (xs.length : Int) ≤ 4 := by omega
    clear hB hx hx0
    go_enter Tryz.func130, Tryz.ntmps130
    go_wp2_with fail
    refine hcf.mono ?_
    rintro e w1 ⟨rfl, rfl⟩
    go_wp2
    go_ret
    exact ⟨ret_bool HB.out.symm, rfl⟩
  · have h5 : ¬ (xs.length : Int) ≤ 4 := by omega
    have HB : Hid (rowMay3 xs = false) := hid (by simp [rowMay3]; omega)
    clear hx hx0
    go_enter Tryz.func130, Tryz.ntmps130
    go_wp2
    go_ret
    exact ⟨ret_bool HB.out.symm, rfl⟩

set_option maxHeartbeats 400000 in
theorem quePut (v : Value) (base : Nat) (xs : List Int) (a : Int) (w : World) (hown : Own w base v xs) (hbase : base ≤ w.heap.size) (hl : xs.length ≤ 4) :
    Calls Tryz.prog 131 #[v, .int .i64 a] w fun e w' => ∃ v', e = .returned (.tuple #[v', .int .i64 (enqS xs a).2]) ∧ Own w' base v' (enqS xs a).1 ∧ w.grownBy w' v.ownBlock := by
  obtain ⟨ad, cap, rfl, hc, _, hx⟩ := hown.has
  by_cases h4 : 4 ≤ xs.length
  · have HP : Hid (enqS xs a = (xs, 0)) := hid (by simp [enqS, h4])
    have h5 : (4 : Int) ≤ (xs.length : Int) := by omega
    clear hx
    go_enter Tryz.func131, Tryz.ntmps131
    go_wp2
    go_ret2
    rw [HP.out]
    exact ⟨_, rfl, hown, World.grownBy.refl _ _⟩
  · have HP : Hid (enqS xs a = (xs ++ [a], 1)) := hid (by simp [enqS, h4])
    have h5 : ¬ (4 : Int) ≤ (xs.length : Int) := by omega
    have hA := Le.alloc w (.cells #[.int .i64 a] 3)
    have hone : Own (w.alloc (.cells #[.int .i64 a] 3)) w.heap.size (slV (some ⟨w.heap.size, 0, none⟩, 1, 1)) [a] := Own.lit w _ (Nat.le_refl _) [a] (by simp)
    clear hx
    go_enter Tryz.func131, Tryz.ntmps131
    go_wp2_with (at_builtin; refine wp_append_ints rfl _ _ rfl base _ _ xs [a] rfl rfl (hown.le hA) hone.has (by simp; omega) (Nat.le_trans hbase hA.size) ?_; intro v' w2 hown2 hgrow; obtain ⟨q2, rfl⟩ := hown2.has.sl)
    go_ret2
    rw [HP.out]
    exact ⟨_, rfl, hown2, grownBy_trans (World.grownBy_alloc _ _ _) hgrow⟩

theorem quePutT : TurnsRow 131 enqS :=
  ⟨fun _ _ _ => by kernel_rfl, fun v base xs a w ho hb hl _ => quePut v base xs a w ho hb hl⟩

set_option maxHeartbeats 1000000 in
theorem queTake (v : Value) (base : Nat) (xs : List Int) (a : Int) (w : World) (hown : Own w base v xs) (hbase : base ≤ w.heap.size) (hl : xs.length ≤ 4) :
    Calls Tryz.prog 132 #[v, .int .i64 a] w fun e w' => ∃ v', e = .returned (.tuple #[v', .int .i64 (deqS xs).2]) ∧ Own w' base v' (deqS xs).1 ∧ w.grownBy w' v.ownBlock := by
  obtain ⟨ad, cap, rfl, hc, _, hx⟩ := hown.has
  match xs, hl, hc, hx, hown with
  | [], hl, hc, hx, hown =>
    go_enter Tryz.func132, Tryz.ntmps132
    go_wp2
    go_ret2
    exact ⟨_, rfl, Own.nil _ _, World.grownBy.refl _ _⟩
  | x :: zs, hl, hc, hx, hown =>
    obtain ⟨b, off, rfl, hcell⟩ := hx (by simp)
    have c0 : w.cell? ⟨b, off, none⟩ = some (.int .i64 x) := hcell 0 (by simp)
    obtain ⟨n, hn⟩ : ∃ n, n = zs.length := ⟨_, rfl⟩
    obtain ⟨A, hAe, hB⟩ : ∃ A, (if cap = 1 then some ⟨b, off, none⟩ else some ⟨b, off + 1, none⟩ : Option Addr) = A ∧ Has w (.slice A n (cap - 1)) zs := by
      refine ⟨_, rfl, _, _, by rw [← hn], by simp at hc; omega, (fun h => by split at h <;> cases h), fun hp => ?_⟩
      simp only [List.length_cons] at hc
      rw [if_neg (by omega)]
      refine ⟨b, off + 1, rfl, fun j hj => ?_⟩
      have := hcell (j + 1) (by simp; omega)
      rw [Nat.add_assoc, Nat.add_comm 1 j, this]
      rfl
    have HN : Hid (n = zs.length) := hn
    simp only [List.length_cons] at hc hl ⊢
    rw [← hn] at hc hl ⊢
    have n0 : ¬ (((n + 1 : Nat) : Int)) = 0 := by omega
    have n1 : (1 : Int) ≤ (n : Int) + 1 := by omega
    clear hx hcell hn
    go_enter Tryz.func132, Tryz.ntmps132
    go_wp2_with fail
    go_region_law ((refine step_append_ints rfl (.const (.slice none 0 0)) (.tmp 10) rfl w.heap.size (.slice none 0 0) (.slice A n (cap - 1)) [] zs (by simp [Act.eval]) (by simp [Act.eval, Act.put]) (Own.nil _ _) hB (by simp; have := HN.out; omega) (Nat.le_refl _) ?_; intro v1 w1 o1 g1; have l1 : Le w w1 := Below.grown (Le.drew w) g1 (Nat.le_refl _) (fun g e => (by cases e)); have c1 : w1.cell? ⟨b, off, none⟩ = some (.int .i64 x) := (by rw [l1.cell (p := ⟨b, off, none⟩) (World.block_lt_of_cell? w _ c0)]; exact c0)))
    all_goals
      go_wp2
      go_ret2
      rw [List.nil_append] at o1
      exact ⟨_, rfl, o1.base hbase, l1.grownBy _⟩

theorem queTakeT : TurnsRow 132 (fun xs _ => deqS xs) :=
  ⟨fun _ _ _ => by kernel_rfl, fun v base xs a w ho hb hl _ => queTake v base xs a w ho hb hl⟩

end Go.Proofs.YtibleipfablniaaGreat

/-
  THE WALK over queue.Apply: what it answers, for every state and operation, and that what it hands back lies in memory of its own. Condition: the state's rows can be copied.
-/
namespace Go.Proofs.YtibleipfablniaaGreat
open Go.RowKit

theorem queMay (v : Value) (s : St) (w : World) (hx : HasS w v s) :
    Calls Tryz.prog 121 #[v, .func (.func 130) #[] #[]] w fun e w' => e = .returned (.bool (s.all rowMay3)) ∧ Le w w' :=
  statesMay 130 rowMay3 (fun _ _ => by kernel_rfl) queMayRow v s w hx

/-- The document's answer: the state, the answer, the error. -/
def queS (s : St) (c r a e : Int) : St × Int × Int := cntS rowMay3 enqS (fun xs _ => deqS xs) s c r a e

set_option maxHeartbeats 2000000 in
theorem queApplyNo (v : Value) (s : St) (c r a : Int) (w : World) (hx : HasS w v s) (h : (s.all rowMay3 && opMay c r a) = false) :
    Calls Tryz.prog 119 #[v, opV c r a] w fun e w' => e = .returned (.tuple #[stZ, .int .i64 0, .int .i64 500]) ∧ Le w w' := by
  have hx0 := hx
  obtain ⟨vs, rfl, hr⟩ := hx
  have hl := ((Le.alloc w (.cells (cells4 vs) 54)).trans (Le.alloc _ (.cells #[.int .i64 c, .int .i64 r, .int .i64 a] 48))).trans (Le.alloc _ (.cells (cells4 fun _ => slZ) 54))
  have hb1 := ((Box.new w (cells4 vs) 54).le (Le.alloc _ (.cells #[.int .i64 c, .int .i64 r, .int .i64 a] 48))).le (Le.alloc _ (.cells (cells4 fun _ => slZ) 54))
  have hb2 := (Box.new (w.alloc (.cells (cells4 vs) 54)) #[.int .i64 c, .int .i64 r, .int .i64 a] 48).le (Le.alloc _ (.cells (cells4 fun _ => slZ) 54))
  have hb3 := Box.new ((w.alloc (.cells (cells4 vs) 54)).alloc (.cells #[.int .i64 c, .int .i64 r, .int .i64 a] 48)) (cells4 fun _ => slZ) 54
  simp only [World.size_alloc] at hb1 hb2 hb3
  have hmay := queMay (stV vs) s _ (hx0.le hl)
  cases hm : s.all rowMay3
  · rw [hm] at hmay
    go_enter Tryz.func119, Tryz.ntmps119
    go_wp2_with fail
    refine hmay.mono ?_
    rintro e w1 ⟨rfl, l1⟩
    obtain ⟨z0, z1, z2, z3, f0, f1, f2, f3⟩ := (hb3.le l1).st
    go_wp2_with fail
    refine bodyPost_ret (v := .tuple #[stZ, .int .i64 0, .int .i64 500]) (by simp [results, Tryz.results119, go_sem, z0, z1, z2, z3]) rfl ⟨rfl, ?_⟩
    exact (hl.trans l1).set4 (by omega) _ _ _ _
  · have hop : opMay c r a = false := by simpa [hm] using h
    rw [hm] at hmay
    go_enter Tryz.func119, Tryz.ntmps119
    go_wp2_with fail
    refine hmay.mono ?_
    rintro e w1 ⟨rfl, l1⟩
    obtain ⟨y0, y1, y2, _, _, _⟩ := (hb2.le l1).op
    go_wp2_with fail
    refine (operMay _ _ _ _).mono ?_
    rw [hop]
    rintro e w2 ⟨rfl, l2⟩
    obtain ⟨z0, z1, z2, z3, f0, f1, f2, f3⟩ := ((hb3.le l1).le l2).st
    go_wp2_with fail
    refine bodyPost_ret (v := .tuple #[stZ, .int .i64 0, .int .i64 500]) (by simp [results, Tryz.results119, go_sem, z0, z1, z2, z3]) rfl ⟨rfl, ?_⟩
    exact ((hl.trans l1).trans l2).set4 (by omega) _ _ _ _

set_option maxHeartbeats 2000000 in
theorem queApplyYes (v : Value) (s : St) (c r a : Int) (w : World) (hx : HasS w v s) (hf : Fit s) (hm : s.all rowMay3 = true) (hop : opMay c r a = true) :
    Calls Tryz.prog 119 #[v, opV c r a] w fun e w' => ∃ v', e = .returned (.tuple #[v', .int .i64 (cntY enqS (fun xs _ => deqS xs) s c r a).2, .int .i64 0]) ∧ OwnS w' w.heap.size v' (cntY enqS (fun xs _ => deqS xs) s c r a).1 ∧ Le w w' := by
  have hx0 := hx
  obtain ⟨vs, rfl, hr⟩ := hx
  have hl := ((Le.alloc w (.cells (cells4 vs) 54)).trans (Le.alloc _ (.cells #[.int .i64 c, .int .i64 r, .int .i64 a] 48))).trans (Le.alloc _ (.cells (cells4 fun _ => slZ) 54))
  have hb1 := ((Box.new w (cells4 vs) 54).le (Le.alloc _ (.cells #[.int .i64 c, .int .i64 r, .int .i64 a] 48))).le (Le.alloc _ (.cells (cells4 fun _ => slZ) 54))
  have hb2 := (Box.new (w.alloc (.cells (cells4 vs) 54)) #[.int .i64 c, .int .i64 r, .int .i64 a] 48).le (Le.alloc _ (.cells (cells4 fun _ => slZ) 54))
  have hb3 := Box.new ((w.alloc (.cells (cells4 vs) 54)).alloc (.cells #[.int .i64 c, .int .i64 r, .int .i64 a] 48)) (cells4 fun _ => slZ) 54
  simp only [World.size_alloc] at hb1 hb2 hb3
  have hmay := queMay (stV vs) s _ (hx0.le hl)
  rw [hm] at hmay
  go_enter Tryz.func119, Tryz.ntmps119
  go_wp2_with fail
  refine hmay.mono ?_
  rintro e w1 ⟨rfl, l1⟩
  obtain ⟨y0, y1, y2, _, _, _⟩ := (hb2.le l1).op
  clear hmay
  go_wp2_with fail
  refine (operMay _ _ _ _).mono ?_
  rw [hop]
  rintro e w2 ⟨rfl, l2⟩
  replace l1 := l1.trans l2
  clear l2 y0 y1 y2
  obtain ⟨x0, x1, x2, x3, _, _, _, _⟩ := (hb1.le l1).st
  obtain ⟨y0, y1, y2, _, _, _⟩ := (hb2.le l1).op
  go_wp2_with fail
  refine (countedAll 131 132 enqS (fun xs _ => deqS xs) quePutT queTakeT (stV vs) s c r a _ (hx0.le (hl.trans l1)) hf (fun j hj => rowMay3_len (St.all_at hm hj)) hop).mono ?_
  obtain ⟨Y, hY⟩ : ∃ Y, Y = cntY enqS (fun xs _ => deqS xs) s c r a := ⟨_, rfl⟩
  rw [← hY]
  have HY : Hid (Y = cntY enqS (fun xs _ => deqS xs) s c r a) := hY
  clear hY
  rintro e w3 ⟨_, rfl, ⟨us, rfl, hown⟩, l3⟩
  replace hown := fun i hi => (hown i hi).base (base' := w.heap.size) (hl.trans l1).size
  replace l1 := l1.trans l3
  clear l3 y0 y1 y2 x0 x1 x2 x3
  have n0 : w.heap.size + 1 + 1 < w3.heap.size := (hb3.le l1).lt
  have n1 : ¬ w.heap.size + 1 + 1 = w3.heap.size := by omega
  have hb4 := Box.new w3 (cells4 us) 54
  replace l1 := l1.trans (Le.alloc w3 (.cells (cells4 us) 54))
  replace hown := fun i hi => (hown i hi).le (Le.alloc w3 (.cells (cells4 us) 54))
  go_upto_region 4 with fail
  generalize hW : w3.alloc (.cells (cells4 us) 54) = W at hb4 l1 hown ⊢
  clear hW
  obtain ⟨y0, y1, y2, y3, _, _, _, _⟩ := hb4.st
  obtain ⟨z0, z1, z2, z3, f0, f1, f2, f3⟩ := (hb3.le l1).st
  go_wp2_with fail
  refine bodyPost_ret (v := .tuple #[stV us, .int .i64 Y.2, .int .i64 0]) (by simp [results, Tryz.results119, go_sem, z0, z1, z2, z3]) rfl ⟨stV us, by rw [HY.out], ⟨us, rfl, fun i hi => ?_⟩, ?_⟩
  · rw [← HY.out]; exact (hown i hi).set4 (hb3.le l1) (by decide) _ _ _ _
  · exact (hl.trans l1).set4 (by omega) _ _ _ _

theorem queS_no {s : St} {c r a er : Int} (h : (s.all rowMay3 && opMay c r a) = false) : queS s c r a er = (St.zero, 0, er) := cntS_no h
theorem queS_scan {s : St} {er : Int} (h : s.all rowMay3 = true) : queS s 3 0 0 er = (s, manyTo s 4, 0) := cntS_scan h
theorem queS_look {s : St} {k : Nat} {er : Int} (h : s.all rowMay3 = true) (hk : k < 4) : queS s 2 k 0 er = (s, ((s.at k).length : Int), 0) := cntS_look h hk

theorem queApply (v : Value) (s : St) (c r a : Int) (w : World) (hx : HasS w v s) (hf : Fit s) :
    Calls Tryz.prog 119 #[v, opV c r a] w fun e w' => ∃ v', e = .returned (.tuple #[v', .int .i64 (queS s c r a 500).2.1, .int .i64 (queS s c r a 500).2.2]) ∧ OwnS w' w.heap.size v' (queS s c r a 500).1 ∧ Le w w' := by
  cases h : s.all rowMay3 && opMay c r a
  · rw [queS_no h]
    exact (queApplyNo v s c r a w hx h).mono fun e w' ⟨he, hl⟩ => ⟨stZ, he, OwnS.zero _ _, hl⟩
  · obtain ⟨hm, ho⟩ := Bool.and_eq_true_iff.mp h
    rw [show queS s c r a 500 = _ from cntS_yes h]
    exact queApplyYes v s c r a w hx hf hm ho

end Go.Proofs.YtibleipfablniaaGreat

/-
  PLAIN GROUND: what the answers of queue.Apply keep. No condition.
-/
namespace Go.Proofs.YtibleipfablniaaGreat
open Go.RowKit

theorem queS_first {s : St} {k : Nat} {a er : Int} (h : s.all rowMay3 = true) (hk : k < 4) (ha : 0 ≤ a ∧ a ≤ 255) : queS s 0 k a er = (s.put k (enqS (s.at k) a).1, (enqS (s.at k) a).2, 0) := cntS_first h hk ha
theorem queS_second {s : St} {k : Nat} {a er : Int} (h : s.all rowMay3 = true) (hk : k < 4) (ha : 0 ≤ a ∧ a ≤ 255) : queS s 1 k a er = (s.put k (deqS (s.at k)).1, (deqS (s.at k)).2, 0) := cntS_second h hk ha

theorem enq_may {xs : List Int} {a : Int} (h : rowMay3 xs = true) (ha : 0 ≤ a ∧ a ≤ 255) : rowMay3 (enqS xs a).1 = true := by
  unfold enqS
  split
  · exact h
  · refine rowMay3_of (by simp; omega) fun x hx => ?_
    rcases List.mem_append.mp hx with hx | hx
    · exact rowMay3_all h x hx
    · simp at hx; subst hx; exact ha
theorem deq_may {xs : List Int} (h : rowMay3 xs = true) : rowMay3 (deqS xs).1 = true := by
  match xs, h with
  | [], h => exact h
  | x :: r, h =>
    have h1 := rowMay3_len h
    simp only [List.length_cons] at h1
    exact rowMay3_of (show r.length ≤ 4 by omega) fun y hy => rowMay3_all h y (List.mem_cons_of_mem _ hy)

theorem may_all3 {s : St} (h : s.all rowMay3 = true) : Fit s := fun i hi => by
  have := rowMay3_len (St.all_at h hi)
  omega

theorem Fit.que {s : St} (h : Fit s) (c r a er : Int) : Fit (queS s c r a er).1 := by
  cases hh : s.all rowMay3 && opMay c r a
  · rw [queS_no hh]; exact fit_zero
  · obtain ⟨hm, ho⟩ := Bool.and_eq_true_iff.mp hh
    rcases opMay_cases ho with ⟨k, hk, rfl, rfl, ha⟩ | ⟨k, hk, rfl, rfl, ha⟩ | ⟨k, hk, rfl, rfl, rfl⟩ | ⟨rfl, rfl, rfl⟩
    · rw [queS_first hm hk ha]; exact h.put hk (rowMay3_len (enq_may (St.all_at hm hk) ha))
    · rw [queS_second hm hk ha]; exact h.put hk (rowMay3_len (deq_may (St.all_at hm hk)))
    · rw [queS_look hm hk]; exact h
    · rw [queS_scan hm]; exact h

end Go.Proofs.YtibleipfablniaaGreat

/-
  PLAIN GROUND, NO WALK: the document's answer of one of three objects. No condition.
-/
namespace Go.Proofs.YtibleipfablniaaGreat
open Go.RowKit

/-- May a row be the object's? -/
def rowMayO (o : Int) (xs : List Int) : Bool := if o = 0 then rowMay1 xs else if o = 1 then rowMay2 xs else rowMay3 xs
/-- May it be such a state? -/
def objMay (o : Int) (s : St) : Bool := (decide (0 ≤ o) && decide (o ≤ 2)) && s.all (rowMayO o)
/-- The document's answer of object o: the state, the answer, the error. -/
def objS (o : Int) (s : St) (c r a e : Int) : St × Int × Int :=
  if o = 0 then stoS s c r a e else if o = 1 then fdsS s c r a e else if o = 2 then queS s c r a e else (St.zero, 0, e)

theorem objMay0 (s : St) : objMay 0 s = s.all rowMay1 := rfl
theorem objMay1 (s : St) : objMay 1 s = s.all rowMay2 := rfl
theorem objMay2 (s : St) : objMay 2 s = s.all rowMay3 := rfl
theorem objMay_out {o : Int} (h : o < 0 ∨ 2 < o) (s : St) : objMay o s = false := by
  have : (decide (0 ≤ o) && decide (o ≤ 2)) = false := by simp; omega
  simp [objMay, this]
theorem objS_out {o : Int} (h : o < 0 ∨ 2 < o) (s : St) (c r a e : Int) : objS o s c r a e = (St.zero, 0, e) := by
  unfold objS
  rw [if_neg (by omega), if_neg (by omega), if_neg (by omega)]
theorem obj_cases {o : Int} : o = 0 ∨ o = 1 ∨ o = 2 ∨ (o < 0 ∨ 2 < o) := by omega

theorem stoS_err {s : St} {c r a er : Int} (h : (s.all rowMay1 && opMay c r a) = true) : stoS s c r a er = ((stoS s c r a 0).1, (stoS s c r a 0).2.1, 0) := by
  simp only [stoS, if_pos h]
  split <;> rfl

theorem fdsS_err {s : St} {c r a er : Int} (h : (s.all rowMay2 && opMay c r a) = true) : fdsS s c r a er = ((fdsS s c r a 0).1, (fdsS s c r a 0).2.1, 0) := by
  rw [show fdsS s c r a 0 = _ from cntS_yes h]; exact cntS_yes h
theorem queS_err {s : St} {c r a er : Int} (h : (s.all rowMay3 && opMay c r a) = true) : queS s c r a er = ((queS s c r a 0).1, (queS s c r a 0).2.1, 0) := by
  rw [show queS s c r a 0 = _ from cntS_yes h]; exact cntS_yes h

theorem objS_no {o : Int} {s : St} {c r a er : Int} (h : (objMay o s && opMay c r a) = false) : objS o s c r a er = (St.zero, 0, er) := by
  rcases obj_cases (o := o) with rfl | rfl | rfl | ho
  · exact stoS_no h
  · exact fdsS_no h
  · exact queS_no h
  · exact objS_out ho _ _ _ _ _
theorem objS_yes {o : Int} {s : St} {c r a : Int} (er : Int) (h : (objMay o s && opMay c r a) = true) : objS o s c r a er = ((objS o s c r a 0).1, (objS o s c r a 0).2.1, 0) := by
  rcases obj_cases (o := o) with rfl | rfl | rfl | ho
  · exact stoS_err h
  · exact fdsS_err h
  · exact queS_err h
  · rw [objMay_out ho] at h; simp at h
theorem Fit.obj {s : St} (h : Fit s) (o c r a er : Int) : Fit (objS o s c r a er).1 := by
  rcases obj_cases (o := o) with rfl | rfl | rfl | ho
  · exact h.sto c r a er
  · exact h.fds c r a er
  · exact h.que c r a er
  · rw [objS_out ho]; exact fit_zero

end Go.Proofs.YtibleipfablniaaGreat

/-
  PLAIN GROUND, NO WALK: when a machine may be, by the document's chapter 14. No condition.
-/
namespace Go.Proofs.YtibleipfablniaaGreat
open Go.RowKit

/-- May a Config be? -/
def Cfg.ok (c : Cfg) : Bool := cfgB c.o c.r c.l c.t c.s
/-- May it be one of the logs? -/
def ringB (c : Cfg) (R : Rg) : Bool := mayR R && (decide ((R.ss.length : Int) = c.s) && (inB 0 R.f c.t && R.ss.all (fun s => inB 0 s.t (c.t - 1))))
/-- Is each cursor in its own log? -/
def cursOK (Rs : List Rg) (cs : List Int) : Bool := (List.range cs.length).all fun i => inB (Rs.getD i Rg.zero).h (cs.getD i 0) (Rs.getD i Rg.zero).t
/-- May it be one of the replicas? -/
def repB (c : Cfg) (Rs : List Rg) (P : Rp) : Bool := objMay c.o P.s && (decide ((P.cs.length : Int) = c.l) && (cursOK Rs P.cs && (decide ((P.ls.length : Int) = c.l) && P.ls.all (fun x => inB 0 x c.t))))
/-- May it be one of the threads? -/
def thB (c : Cfg) (T : Th) : Bool := inB 0 T.st 19 && (opMay T.c T.r T.a && (inB 0 T.lg (c.l - 1) && (inB 0 T.sn 1048576 && ((decide ((T.b.length : Int) ≤ c.t) && T.b.all (fun x => inB 0 x (c.t - 1))) && (inB 0 T.pl T.b.length && (decide ((T.tl.length : Int) ≤ c.l) && T.tl.all (fun x => inB 0 x 1048576)))))))
/-- May it be one of the history? -/
def evB (c : Cfg) (E : Ev) : Bool := inB 0 E.t (c.t - 1) && opMay E.c E.r E.a
/-- May a machine be? -/
def mayM (M : Mc) : Bool := M.c.ok && ((decide ((M.rs.length : Int) = M.c.l) && M.rs.all (ringB M.c)) && ((decide ((M.ps.length : Int) = M.c.r) && M.ps.all (repB M.c M.rs)) && ((decide ((M.ts.length : Int) = M.c.t) && M.ts.all (thB M.c)) && (decide ((M.es.length : Int) ≤ 64) && M.es.all (evB M.c)))))

theorem Cfg.ok_cases {c : Cfg} (h : c.ok = true) : (0 ≤ c.o ∧ c.o ≤ 2) ∧ (1 ≤ c.r ∧ c.r ≤ 2) ∧ (1 ≤ c.l ∧ c.l ≤ 2) ∧ (1 ≤ c.t ∧ c.t ≤ 4) ∧ slotsB c.s = true ∧ 2 * c.t ≤ c.s := cfgB_cases h

theorem cursOK_take {Rs : List Rg} {cs : List Int} {k : Nat} (h : ∀ i, i < k → inB (Rs.getD i Rg.zero).h (cs.getD i 0) (Rs.getD i Rg.zero).t = true) (hk : k = cs.length) : cursOK Rs cs = true := by
  subst hk
  simp only [cursOK, List.all_eq_true, List.mem_range]
  exact h
theorem cursOK_no {Rs : List Rg} {cs : List Int} {k : Nat} (hk : k < cs.length) (h : inB (Rs.getD k Rg.zero).h (cs.getD k 0) (Rs.getD k Rg.zero).t = false) : cursOK Rs cs = false := by
  rw [← Bool.not_eq_true]
  simp only [cursOK, List.all_eq_true, List.mem_range]
  intro hh
  have := hh k hk
  rw [h] at this
  cases this

end Go.Proofs.YtibleipfablniaaGreat

/-
  PLAIN GROUND: a new machine, and rows that a make gives. No condition.
-/
namespace Go.Proofs.YtibleipfablniaaGreat
open Go.RowKit

/-- A new machine of what c says that there is. -/
def freshM (c : Cfg) : Mc := ⟨c, List.replicate c.l.toNat (newS c.s).1, List.replicate c.r.toNat ⟨St.zero, List.replicate c.l.toNat 0, List.replicate c.l.toNat 0⟩, List.replicate c.t.toNat Th.zero, []⟩
/-- The document's New. -/
def newM (c : Cfg) : Mc × Int := if c.ok then (freshM c, 0) else (Mc.zero, 1400)

theorem le_grown {w w' : World} (h : w.grownBy w' none) : Le w w' := Below.grown (Le.refl w) h (Nat.le_refl _) (fun _ e => by cases e)

/-- A make of n numbers. -/
theorem run_make_ints (w : World) (base n : Nat) (hn : n ≤ 100) (hb : base ≤ w.heap.size) :
    ∃ w', (Instr.makeSlice 51 (.int .i64 (n : Int)) (.int .i64 (n : Int))).run Tryz.prog w = .ok (.slice (some ⟨w.heap.size, 0, none⟩) n n) w' ∧ Own w' base (.slice (some ⟨w.heap.size, 0, none⟩) n n) (List.replicate n 0) ∧ Le w w' := by
  obtain ⟨i0, hi, hz0, hz1, hz2⟩ := info_parts info3
  obtain ⟨w', h1, h2, h3⟩ := run_make_full (P := Tryz.prog) w base 51 3 i0 (.int .i64 0) 1 Tryz.underlying51 hi hz0 hz1 .i64 .i64 n (by rw [hz2]; omega) (by unfold maxLen; omega) hb
  exact ⟨w', h1, Own.of h2 (by simp) (by rw [show (Value.int .i64 0).cells = #[.int .i64 0] from rfl, Nat.mul_one, toList_madeCells_one]; simp), le_grown h3⟩

/-- A make of n threads. -/
theorem run_make_ths (w : World) (base n : Nat) (hn : n = 1 ∨ n = 2 ∨ n = 3 ∨ n = 4) (hb : base ≤ w.heap.size) :
    ∃ w', (Instr.makeSlice 26 (.int .i64 (n : Int)) (.int .i64 (n : Int))).run Tryz.prog w = .ok (.slice (some ⟨w.heap.size, 0, none⟩) n n) w' ∧ OwnE thK w' base (.slice (some ⟨w.heap.size, 0, none⟩) n n) (List.replicate n ⟨Th.zero, slZ, slZ⟩) ∧ Le w w' := by
  obtain ⟨z, hinfo, hzs⟩ := thIn.info
  have hz : z = .agg #[.int .i64 0, .int .i64 0, .int .i64 0, .int .i64 0, .int .i64 0, .int .i64 0, .slice none 0 0, .int .i64 0, .bool false, .bool false, .int .i64 0, .slice none 0 0] := by
    have h2 : (Tryz.prog.info? 58).map (fun i => (i.zero, i.size, i.bytes)) = some (some (.agg #[.int .i64 0, .int .i64 0, .int .i64 0, .int .i64 0, .int .i64 0, .int .i64 0, .slice none 0 0, .int .i64 0, .bool false, .bool false, .int .i64 0, .slice none 0 0]), 12, 120) := by kernel_rfl
    have h3 : (Tryz.prog.info? 58).map (fun i => (i.zero, i.size, i.bytes)) = some (some z, 12, 120) := hinfo
    rw [h2] at h3
    simp only [Option.some.injEq, Prod.mk.injEq] at h3
    exact h3.1.symm
  subst hz
  obtain ⟨i0, hi, hz0, hz1, hz2⟩ := info_parts hinfo
  obtain ⟨w', h1, h2, h3⟩ := run_make_full (P := Tryz.prog) w base 26 58 i0 _ 12 Tryz.underlying26 hi hz0 hz1 .i64 .i64 n (by rw [hz2]; show 120 * n ≤ _; omega) (by unfold maxLen; omega) hb
  refine ⟨w', h1, OwnE.of h2 (by simp) ?_, le_grown h3⟩
  rcases hn with rfl | rfl | rfl | rfl <;> kernel_rfl

end Go.Proofs.YtibleipfablniaaGreat

/-
  THE WALK over package ring's Publish: what it answers, for every ring, number, operation and thread. Condition: that the slots can be copied.
-/
namespace Go.Proofs.YtibleipfablniaaGreat
open Go.RowKit

theorem pubB_slot {R : Rg} {p c r a t : Int} : pubB R p c r a t = (mayR R && hasB R.h R.t p && slotB ⟨c, r, a, t, bitAt p R.ss.length⟩) := by
  have := bitAt_two (p := p) (n := R.ss.length)
  have e : (decide (bitAt p R.ss.length = 0) || decide (bitAt p R.ss.length = 1)) = true := by simpa using this
  simp only [pubB, slotB, threadB, e, Bool.and_true, Bool.and_assoc]

end Go.Proofs.YtibleipfablniaaGreat

/-
  PLAIN GROUND: package ring's contracts, their answers written out. Condition: that the slots can be copied.
-/
namespace Go.Proofs.YtibleipfablniaaGreat
open Go.RowKit

theorem fitR_small {R : Rg} (h : R.ss.length ≤ 100) : FitR R := by unfold FitR; omega

theorem newAs {n h t f er : Int} {ss : List Slt} (he : newS n = (⟨h, t, f, ss⟩, er)) (w : World) :
    Calls Tryz.prog 18 #[.int .i64 n] w fun e w' => ∃ q : Sl, e = .returned (.tuple #[ringV h t f q, .int .i64 er]) ∧ OwnL w' w.heap.size (slV q) ss ∧ Le w w' := by
  have := ringNew n w
  rw [he] at this
  exact this.mono fun e w' ⟨v', h1, ⟨q, h2, h3⟩, h4⟩ => ⟨q, by rw [h1, h2], h3, h4⟩
theorem mayAs {h t f : Int} {ss : List Slt} {y : Bool} (he : mayR ⟨h, t, f, ss⟩ = y) (hf : ss.length * 40 ≤ 140737488351232) (q : Sl) (w : World) (hq : HasL w (slV q) ss) :
    Calls Tryz.prog 52 #[ringV h t f q] w fun e w' => e = .returned (.bool y) ∧ Le w w' := by
  have := ringMay (ringV h t f q) ⟨h, t, f, ss⟩ w ⟨q, rfl, hq⟩ hf
  rw [he] at this
  exact this

end Go.Proofs.YtibleipfablniaaGreat

/-
  THE WALK over choruslaw13.awake: it answers true and turns nothing that was there. No condition. Beside it the contracts of package config with their answers given (repAs, cfgAs).
-/
namespace Go.Proofs.YtibleipfablniaaGreat
open Go.RowKit

theorem cfgAs {o r l t s : Int} {b : Bool} (h : cfgB o r l t s = b) (w : World) : Calls Tryz.prog 17 #[cfgV o r l t s] w fun e w' => e = .returned (.bool b) ∧ Le w w' := by
  have := cfgMay o r l t s w
  rw [h] at this
  exact this

theorem Box.cell5 {w : World} {g : Nat} {x y z u v : Value} {t : TypeId} (h : Box w g #[x, y, z, u, v] t) :
    (w.cell? ⟨g, 0, none⟩ = some x ∧ w.cell? ⟨g, 1, none⟩ = some y ∧ w.cell? ⟨g, 2, none⟩ = some z ∧ w.cell? ⟨g, 3, none⟩ = some u ∧ w.cell? ⟨g, 4, none⟩ = some v) ∧
    (w.frozen? ⟨g, 0, none⟩ = false ∧ w.frozen? ⟨g, 1, none⟩ = false ∧ w.frozen? ⟨g, 2, none⟩ = false ∧ w.frozen? ⟨g, 3, none⟩ = false ∧ w.frozen? ⟨g, 4, none⟩ = false) :=
  ⟨h.slot, h.frozen 0, h.frozen 1, h.frozen 2, h.frozen 3, h.frozen 4⟩

end Go.Proofs.YtibleipfablniaaGreat

/-
  THE WALK over package start's New: what it answers, for every Config, in memory of the call's own. No condition.
-/
namespace Go.Proofs.YtibleipfablniaaGreat
open Go.RowKit

abbrev cells5 (c : Cfg) : Array Value := #[.int .i64 c.o, .int .i64 c.r, .int .i64 c.l, .int .i64 c.t, .int .i64 c.s]

theorem OwnsM.put9 {w : World} {base g : Nat} {cs : Array Value} {L : Lay} (o : OwnsM w base L) (hb : Box w g cs 29) (c : Cfg) (a b d e : Sl) : OwnsM (put9 w g c a b d e) base L := by
  have hne : ∀ {t : TypeId} {kk n : Nat} {v : Value} {us : List Value}, World.ownsRow w base t kk v n us → t ≠ 29 → (Go.Proofs.YtibleipfablniaaGreat.put9 w g c a b d e).ownsRow base t kk v n us := fun {t kk n v us} h ht => row_put9 h (fun e => by
    rcases h.2 with ⟨e2, _⟩ | ⟨g', cap, cur, hv, _, hh, _⟩
    · rw [e2] at e; simp [Value.ownBlock] at e
    · rw [hv] at e
      simp [Value.ownBlock] at e
      subst e
      unfold Box at hb
      rw [hb] at hh
      simp at hh
      exact ht hh.2.symm) _ _ _ _ _
  exact ⟨hne o.oR (by decide), hne o.oP (by decide), hne o.oT (by decide), hne o.oH (by decide), fun y hy => hne (o.iR y hy) (by decide), fun y hy => ⟨fun i hi => hne ((o.iP y hy).1 i hi) (by decide), hne (o.iP y hy).2.1 (by decide), hne (o.iP y hy).2.2 (by decide)⟩, fun y hy => ⟨hne (o.iT y hy).1 (by decide), hne (o.iT y hy).2 (by decide)⟩⟩

/-- What stands when the threads are made. -/
theorem CpI.start2 {F : Prop} (hF : ¬ F) {w x : World} {cp : Array Value} {tp : TypeId} {c : Cfg} {q : Sl} {g n : Nat} (hl : Le w x) (bp : Box x w.heap.size cp tp) (br : Box x (w.heap.size + 1) cellsZ9 29) (bo : Box x g cellsZ9 29) (hg : w.heap.size + 2 ≤ g) (ho : OwnE thK x (w.heap.size + 2) (slV q) (List.replicate n ⟨Th.zero, slZ, slZ⟩)) :
    CpI F w cp tp c g (Go.Proofs.YtibleipfablniaaGreat.put9 x g c slZ slZ q slZ) ⟨c, slZ, slZ, q, slZ, [], [], List.replicate n ⟨Th.zero, slZ, slZ⟩, []⟩ := by
  refine ⟨hl.put9 (by omega) _ _ _ _ _, bp.off9 (by omega) _ _ _ _ _, br.off9 (by omega) _ _ _ _ _, bo.put9 rfl _ _ _ _ _, by omega, ⟨OwnE.nil _ _ _, OwnE.nil _ _ _, ?_, OwnE.nil _ _ _, (fun x h => by cases h), (fun x h => by cases h), (fun y h => ?_)⟩, fun hf => absurd hf hF⟩
  · exact row_put9 (ho.base (base' := w.heap.size) (by omega)) (ho.apart bo (by decide)) _ _ _ _ _
  · obtain rfl := List.eq_of_mem_replicate h
    exact ⟨Own.nil _ _, Own.nil _ _⟩

set_option maxRecDepth 8000 in
set_option maxHeartbeats 16000000 in
theorem startNew (c : Cfg) (w : World) : Calls Tryz.prog 6 #[cfgV c.o c.r c.l c.t c.s] w fun e w' => ∃ v', e = .returned (.tuple #[v', .int .i64 (newM c).2]) ∧ OwnM w' w.heap.size v' (newM c).1 ∧ Le w w' := by
  have hl := (Le.alloc w (.cells (cells5 c) 23)).trans (Le.alloc _ (.cells cellsZ9 29))
  have hb1 := (Box.new w (cells5 c) 23).le (Le.alloc _ (.cells cellsZ9 29))
  have hb2 := Box.new (w.alloc (.cells (cells5 c) 23)) cellsZ9 29
  have hWs : ((w.alloc (.cells (cells5 c) 23)).alloc (.cells cellsZ9 29)).heap.size = w.heap.size + 2 := by simp
  rw [World.size_alloc] at hb2
  have m1 := fun w' => cfgMay c.o c.r c.l c.t c.s w'
  cases h1 : cfgB c.o c.r c.l c.t c.s
  · have hN : newM c = (Mc.zero, 1400) := by unfold newM Cfg.ok; rw [h1]; rfl
    rw [hN]
    simp only [h1] at m1
    go_enter Tryz.func6, Tryz.ntmps6
    go_wp2_with fail
    refine (m1 _).mono ?_
    rintro e w1 ⟨rfl, n1⟩
    replace hb2 := hb2.le n1
    have r0 := hb2.cell 0
    have r1 := hb2.cell 1
    have r2 := hb2.cell 2
    have r3 := hb2.cell 3
    have r4 := hb2.cell 4
    have r5 := hb2.cell 5
    have r6 := hb2.cell 6
    have r7 := hb2.cell 7
    have r8 := hb2.cell 8
    simp only [List.getElem?_toArray, List.getElem?_cons_succ, List.getElem?_cons_zero] at r0 r1 r2 r3 r4 r5 r6 r7 r8
    have k0 := hb2.frozen 0
    have k1 := hb2.frozen 1
    have k2 := hb2.frozen 2
    have k3 := hb2.frozen 3
    have k4 := hb2.frozen 4
    have k5 := hb2.frozen 5
    have k6 := hb2.frozen 6
    have k7 := hb2.frozen 7
    have k8 := hb2.frozen 8
    go_wp2_with fail
    refine bodyPost_ret (v := .tuple #[machZ, .int .i64 1400]) (by simp [results, Tryz.results6, go_sem, r0, r1, r2, r3, r4, r5, r6, r7, r8]) rfl ⟨_, rfl, OwnM.zero _ _, ?_⟩
    exact (hl.trans n1).put9 (c := Cfg.zero) (by omega) slZ slZ slZ slZ
  have hN : newM c = (freshM c, 0) := by unfold newM Cfg.ok; rw [h1]; rfl
  rw [hN]
  simp only [h1] at m1
  obtain ⟨_, ⟨r0, r1⟩, ⟨l0, l1⟩, ⟨t0, t1⟩, hs, _⟩ := cfgB_cases h1
  obtain ⟨nl, hnl⟩ : ∃ n : Nat, c.l = n := ⟨c.l.toNat, by omega⟩
  obtain ⟨nr, hnr⟩ : ∃ n : Nat, c.r = n := ⟨c.r.toNat, by omega⟩
  obtain ⟨nt, hnt⟩ : ∃ n : Nat, c.t = n := ⟨c.t.toNat, by omega⟩
  have HNL : Hid (c.l = nl) := hnl
  have HNR : Hid (c.r = nr) := hnr
  have HNT : Hid (c.t = nt) := hnt
  have hnl2 : nl ≤ 2 := by omega
  have hnr2 : nr ≤ 2 := by omega
  have hnt4 : nt = 1 ∨ nt = 2 ∨ nt = 3 ∨ nt = 4 := by omega
  clear h1 hnl hnr hnt
  go_enter Tryz.func6, Tryz.ntmps6
  go_wp2_with fail
  refine (m1 _).mono ?_
  rintro e w1 ⟨rfl, n1⟩
  replace hb1 := hb1.le n1
  replace hb2 := hb2.le n1
  have hsz := hWs
  have hsz2 := n1.size
  rw [hWs] at hsz2
  replace hl := hl.trans n1
  clear m1 n1 hWs hsz
  obtain ⟨z0, z1, z2, z3, z4⟩ := hb1.slot
  go_upto_region 3 with fail
  go_cut [4] from 7 (fun s4 wc => ∃ g q, s4 = .pointer (some ⟨g, 0, none⟩) ∧ CpI False w (cells5 c) 23 c g wc ⟨c, slZ, slZ, q, slZ, [], [], List.replicate nt ⟨Th.zero, slZ, slZ⟩, []⟩)
  case first =>
    refine wp_region_any (by kernel_rfl) ?_
    refine wpAny_grow [] [0, 1, 2, 3, 4, 5] [6] (by decide) (by kernel_rfl) Le (Le.refl _) (fun _ _ _ => Le.trans)
      (fun vs i x => match i with
        | 0 => vs 0 = cfgV c.o c.r c.l c.t c.s
        | 1 => vs 1 = .pointer (some ⟨w.heap.size, 3, none⟩)
        | 2 => vs 2 = .int .i64 nt
        | 3 => ∃ q, vs 3 = slV q ∧ OwnE thK x (w.heap.size + 2) (slV q) (List.replicate nt ⟨Th.zero, slZ, slZ⟩)
        | 4 => ∃ q, vs 4 = machV c slZ slZ q slZ ∧ OwnE thK x (w.heap.size + 2) (slV q) (List.replicate nt ⟨Th.zero, slZ, slZ⟩)
        | _ => ∃ g, vs 5 = .pointer (some ⟨g, 0, none⟩) ∧ w.heap.size + 2 ≤ g ∧ Box x g cellsZ9 29) ?_ ?_ (by decide) ?_ ?_
    · intro vs i x y hi _ h hxy
      simp only [List.mem_cons, List.not_mem_nil, or_false] at hi
      rcases hi with rfl | rfl | rfl | rfl | rfl | rfl
      · exact h
      · exact h
      · exact h
      · obtain ⟨b, e, o⟩ := h; exact ⟨b, e, o.le hxy⟩
      · obtain ⟨b, e, o⟩ := h; exact ⟨b, e, o.le hxy⟩
      · obtain ⟨b, e, o, o'⟩ := h; exact ⟨b, e, o, o'.le hxy⟩
    · intro vs vs' i o x hi _ hk h
      have e := hk i (.inl rfl)
      simp only [List.mem_cons, List.not_mem_nil, or_false] at hi
      rcases hi with rfl | rfl | rfl | rfl | rfl | rfl
      all_goals
        simp only at h ⊢
        rw [← e]
        exact h
    · intro i o hi ho vs x hx hd
      have hx0 := (Le.drew w1).trans hx
      simp only [List.mem_cons, List.not_mem_nil, or_false] at hi
      generalize hρ : (putH _ _ _ vs).eval = ρ
      rcases hi with rfl | rfl | rfl | rfl | rfl | rfl
      · cases ho
        have r1 : ρ (.tmp 1) = .pointer (some ⟨w.heap.size, 0, none⟩) := by rw [← hρ]; kernel_rfl
        have y0 := cell_le z0 hx0
        have y1 := cell_le z1 hx0
        have y2 := cell_le z2 hx0
        have y3 := cell_le z3 hx0
        have y4 := cell_le z4 hx0
        exact gives_value (w' := x) (v := cfgV c.o c.r c.l c.t c.s) (by simp [go_sem, r1, y0, y1, y2, y3, y4]) ⟨Le.refl _, rfl⟩
      · cases ho
        have r1 : ρ (.tmp 1) = .pointer (some ⟨w.heap.size, 0, none⟩) := by rw [← hρ]; kernel_rfl
        exact gives_value (w' := x) (v := .pointer (some ⟨w.heap.size, 3, none⟩)) (by simp [go_sem, r1]) ⟨Le.refl _, rfl⟩
      · cases ho
        have r1 : ρ (.tmp 12) = vs 1 := by rw [← hρ]; kernel_rfl
        have d := hd 1 (by decide) (by kernel_rfl)
        simp only at d
        rw [d] at r1
        have y3 := cell_le z3 hx0
        rw [HNT.out] at y3
        exact gives_value (w' := x) (v := .int .i64 nt) (by simp [go_sem, r1, y3]) ⟨Le.refl _, rfl⟩
      · cases ho
        have r1 : ρ (.tmp 13) = vs 2 := by rw [← hρ]; kernel_rfl
        have d := hd 2 (by decide) (by kernel_rfl)
        simp only at d
        rw [d] at r1
        obtain ⟨x', hrun, o3, l3⟩ := run_make_ths x (w.heap.size + 2) nt hnt4 (Nat.le_trans hsz2 hx0.size)
        exact gives_value (w' := x') (v := slV (some ⟨x.heap.size, 0, none⟩, nt, nt)) (by simp [go_sem, r1, hrun]) ⟨l3, _, rfl, o3⟩
      · cases ho
        have r1 : ρ (.tmp 11) = vs 0 := by rw [← hρ]; kernel_rfl
        have r2 : ρ (.tmp 14) = vs 3 := by rw [← hρ]; kernel_rfl
        have e1 := hd 0 (by decide) (by kernel_rfl)
        have hh := hd 3 (by decide) (by kernel_rfl)
        simp only at e1 hh
        obtain ⟨q, e5, o5⟩ := hh
        rw [e1] at r1
        rw [e5] at r2
        exact gives_value (w' := x) (v := machV c slZ slZ q slZ) (by simp [go_sem, r1, r2]) ⟨Le.refl _, q, rfl, o5⟩
      · cases ho
        exact gives_value (w' := x.alloc (.cells cellsZ9 29)) (v := .pointer (some ⟨x.heap.size, 0, none⟩)) (by simp [go_sem]) ⟨Le.alloc _ _, x.heap.size, rfl, Nat.le_trans hsz2 hx0.size, Box.new _ _ _⟩
    · intro vs x hx hd
      have hx0 := (Le.drew w1).trans hx
      have hh := hd 4 (by decide)
      simp only at hh
      replace hh := hh.choose_spec
      generalize Exists.choose _ = q at hh
      have e6 := hh.1
      have o6 := hh.2
      have hh := hd 5 (by decide)
      simp only at hh
      replace hh := hh.choose_spec
      generalize Exists.choose _ = g at hh
      have e7 := hh.1
      have hg := hh.2.1
      have b7 := hh.2.2
      generalize hf0 : putH _ _ _ vs = fr0
      refine wpSeq_cons rfl ?_
      refine wp_skip_at (w0 := put9 x g c slZ slZ q slZ) ?_ ?_
      · generalize hρ : fr0.eval = ρ
        have r1 : ρ (.tmp 4) = vs 5 := by rw [← hρ, ← hf0]; kernel_rfl
        have r2 : ρ (.tmp 15) = vs 4 := by rw [← hρ, ← hf0]; kernel_rfl
        rw [e7] at r1
        rw [e6] at r2
        have c0 := b7.cell 0
        have c1 := b7.cell 1
        have c2 := b7.cell 2
        have c3 := b7.cell 3
        have c4 := b7.cell 4
        have c5 := b7.cell 5
        have c6 := b7.cell 6
        have c7 := b7.cell 7
        have c8 := b7.cell 8
        simp only [List.getElem?_toArray, List.getElem?_cons_succ, List.getElem?_cons_zero] at c0 c1 c2 c3 c4 c5 c6 c7 c8
        have k0 := b7.frozen 0
        have k1 := b7.frozen 1
        have k2 := b7.frozen 2
        have k3 := b7.frozen 3
        have k4 := b7.frozen 4
        have k5 := b7.frozen 5
        have k6 := b7.frozen 6
        have k7 := b7.frozen 7
        have k8 := b7.frozen 8
        simp [go_sem, r1, r2, c0, c1, c2, c3, c4, c5, c6, c7, c8, k0, k1, k2, k3, k4, k5, k6, k7, k8]
      · subst hf0
        simp only [wpSeq, putH, List.getElem?_cons_succ, List.getElem?_cons_zero, Option.bind_some, Act.put, List.setIfInBounds_toArray, List.set_cons_zero, List.set_cons_succ, e7]
        go_wp2_with fail
        go_meet
        case rel => exact ⟨g, q, rfl, CpI.start2 id (hl.trans hx0) (hb1.le hx0) (hb2.le hx0) b7 hg o6⟩
  case rest =>
    obtain ⟨g, q0, rfl, I0⟩ := hcut
    clear hb1 hb2 hl z0 z1 z2 z3 z4
    obtain ⟨R, hR⟩ : ∃ R, R = (newS c.s).1 := ⟨_, rfl⟩
    obtain ⟨er, her⟩ : ∃ e, e = (newS c.s).2 := ⟨_, rfl⟩
    have HR : Hid (R = (newS c.s).1) := hR
    have hnew := fun w' => ringNew c.s w'
    simp only [← hR, ← her] at hnew
    clear hR her
    obtain ⟨z0, z1, z2, z3, z4⟩ := I0.bp.slot
    go_wp2_with fail
    go_loopw [18] (fun i wr => ∃ (k : Nat) (L : Lay), k ≤ nl ∧ i = .int .i64 k ∧ CpI False w (cells5 c) 23 c g wr L ∧ Hid (L.c = c ∧ L.rs.map LR.R = List.replicate k R ∧ L.ps = [] ∧ L.ts.map LT.T = List.replicate nt Th.zero ∧ L.es = [])) (fun i _ => nl - (intOf i).toNat)
    case atStart => exact ⟨0, _, Nat.zero_le _, rfl, I0, rfl, rfl, rfl, by simp, rfl⟩
    case round =>
      clear I0 z0 z1 z2 z3 z4
      obtain ⟨k, L, hk, rfl, I, HL⟩ := hrel
      obtain ⟨z0, z1, z2, z3, z4⟩ := I.bp.slot
      by_cases hlt : k < nl
      · have hlt' : (k : Int) < c.l := by have := HNL.out; omega
        have hLn : L.rs.length = k := by
          have := congrArg List.length HL.out.2.1
          simp at this
          exact this
        have HLn : Hid (L.rs.length = k) := hLn
        clear hLn
        go_wp2_with fail
        refine (hnew _).mono ?_
        rintro e w2 ⟨v', rfl, ⟨q, rfl, oq⟩, l2⟩
        have hA := Le.alloc w2 (.cells (cellsR R.h R.t R.f q) 46)
        have hbx := Box.new w2 (cellsR R.h R.t R.f q) 46
        clear z0 z1 z2 z3 z4
        go_upto_region 7 with fail
        generalize hW2 : w2.alloc (.cells (cellsR R.h R.t R.f q) 46) = w3 at hA hbx ⊢
        generalize w2.heap.size = gx at hbx ⊢
        clear hW2
        have l3 := l2.trans hA
        replace oq := oq.le hA
        clear hA l2
        have hlit := OwnE.lit ringK w3 wr.heap.size l3.size [⟨R, q⟩] (by simp)
        replace hlit : OwnE ringK (w3.alloc (.cells (cellsR R.h R.t R.f q) 46)) wr.heap.size (.slice (some ⟨w3.heap.size, 0, none⟩) 1 1) [⟨R, q⟩] := hlit
        have hA6 := Le.alloc w3 (.cells (cellsR R.h R.t R.f q) 46)
        have I6 := I.later l3
        have y5 := I6.bo.mach.2.1
        have hoR := I6.own.oR.le hA6
        obtain ⟨s0, s1, s2, s3, _, _, _, _⟩ := hbx.ring
        go_wp2_with (at_builtin; refine wp_append_E ringIn rfl _ _ rfl w.heap.size _ _ L.rs [⟨R, q⟩] rfl rfl hoR hlit.has (by have := HLn.out; show (L.rs.length + 1) * 48 ≤ _; omega) (by have := HLn.out; show L.rs.length + 1 ≤ _; omega) (I6.le.trans hA6).size ?_; intro v' w7 o8 hg8 _; obtain ⟨q', rfl⟩ := o8.has.sl; have hb8 := (I6.bo.le hA6).grown hg8 (hoR.apart (I6.bo.le hA6) (by decide)); have c5 := hb8.cell 5; have k5 := hb8.frozen 5)
        have IN := I.ring (by decide) (l3.trans hA6) (x := ⟨R, q⟩) (oq.le hA6) o8 hg8
        go_roundw
        case rel => exact ⟨k + 1, _, by omega, by go_num, IN, HL.out.1, by rw [List.map_append, HL.out.2.1, List.replicate_succ']; rfl, HL.out.2.2.1, HL.out.2.2.2.1, HL.out.2.2.2.2⟩
        case measure => simp [intOf]; omega
      · have hge : c.l ≤ (k : Int) := by have := HNL.out; omega
        have hkl : k = nl := by omega
        have HL0 : Hid (L.c = c ∧ L.rs.map LR.R = List.replicate nl R ∧ L.ps.map LP.P = List.replicate 0 ⟨St.zero, List.replicate nl 0, List.replicate nl 0⟩ ∧ L.ts.map LT.T = List.replicate nt Th.zero ∧ L.es = []) := ⟨HL.out.1, by rw [HL.out.2.1, hkl], by rw [HL.out.2.2.1]; rfl, HL.out.2.2.2.1, HL.out.2.2.2.2⟩
        clear hkl hnew
        go_wp2_with fail
        go_loopw [35] (fun i wr => ∃ (k : Nat) (L : Lay), k ≤ nr ∧ i = .int .i64 k ∧ CpI False w (cells5 c) 23 c g wr L ∧ Hid (L.c = c ∧ L.rs.map LR.R = List.replicate nl R ∧ L.ps.map LP.P = List.replicate k ⟨St.zero, List.replicate nl 0, List.replicate nl 0⟩ ∧ L.ts.map LT.T = List.replicate nt Th.zero ∧ L.es = [])) (fun i _ => nr - (intOf i).toNat)
        case atStart => exact ⟨0, L, Nat.zero_le _, rfl, I, HL0⟩
        case round =>
          clear HL0 HL I z0 z1 z2 z3 z4 hlt hge hk
          rename_i _ k0 L0 _ _
          obtain ⟨k, L, hk, rfl, I, HL⟩ := hrel
          by_cases hlt : k < nr
          · have hlt' : (k : Int) < c.r := by have := HNR.out; omega
            have hLn : L.ps.length = k := by
              have := congrArg List.length HL.out.2.2.1
              simp at this
              exact this
            have HLn : Hid (L.ps.length = k) := hLn
            clear hLn
            obtain ⟨z0, z1, z2, z3, z4⟩ := I.bp.slot
            have y6 := I.bo.mach.2.2.1
            go_upto_region 11 with fail
            refine wp_region_any (by kernel_rfl) ?_
            refine wpAny_grow [] [0, 1, 2, 3, 4, 5, 6, 7, 8, 9] [10, 11, 12] (by decide) (by kernel_rfl) Le (Le.refl _) (fun _ _ _ => Le.trans)
              (fun vs i x => match i with
                | 0 => vs 0 = .pointer (some ⟨g, 6, none⟩)
                | 1 => vs 1 = slV L.qP
                | 2 => vs 2 = .pointer (some ⟨w.heap.size, 2, none⟩)
                | 3 => vs 3 = .int .i64 nl
                | 4 => ∃ q, vs 4 = slV q ∧ Own x wr.heap.size (slV q) (List.replicate nl 0)
                | 5 => vs 5 = .pointer (some ⟨w.heap.size, 2, none⟩)
                | 6 => vs 6 = .int .i64 nl
                | 7 => ∃ q, vs 7 = slV q ∧ Own x wr.heap.size (slV q) (List.replicate nl 0)
                | 8 => ∃ qa qb, vs 8 = repV (fun _ => slZ) qa qb ∧ Own x wr.heap.size (slV qa) (List.replicate nl 0) ∧ Own x wr.heap.size (slV qb) (List.replicate nl 0)
                | _ => ∃ qa qb, OwnE repK x wr.heap.size (vs 9) [⟨⟨St.zero, List.replicate nl 0, List.replicate nl 0⟩, fun _ => slZ, qa, qb⟩] ∧ Own x wr.heap.size (slV qa) (List.replicate nl 0) ∧ Own x wr.heap.size (slV qb) (List.replicate nl 0)) ?_ ?_ (by decide) ?_ ?_
            · intro vs i x y hi _ h hxy
              simp only [List.mem_cons, List.not_mem_nil, or_false] at hi
              rcases hi with rfl | rfl | rfl | rfl | rfl | rfl | rfl | rfl | rfl | rfl
              iterate 4
                · exact h
              · obtain ⟨b, e, o⟩ := h; exact ⟨b, e, o.le hxy⟩
              iterate 2
                · exact h
              · obtain ⟨b, e, o⟩ := h; exact ⟨b, e, o.le hxy⟩
              · obtain ⟨a, b, e, o, o'⟩ := h; exact ⟨a, b, e, o.le hxy, o'.le hxy⟩
              · obtain ⟨a, b, e, o, o'⟩ := h; exact ⟨a, b, e.le hxy, o.le hxy, o'.le hxy⟩
            · intro vs vs' i o x hi _ hk h
              have e := hk i (.inl rfl)
              simp only [List.mem_cons, List.not_mem_nil, or_false] at hi
              rcases hi with rfl | rfl | rfl | rfl | rfl | rfl | rfl | rfl | rfl | rfl
              all_goals
                simp only at h ⊢
                rw [← e]
                exact h
            · intro i o hi ho vs x hx hd
              have hx0 := (Le.drew wr).trans hx
              simp only [List.mem_cons, List.not_mem_nil, or_false] at hi
              generalize hρ : (putH _ _ _ vs).eval = ρ
              rcases hi with rfl | rfl | rfl | rfl | rfl | rfl | rfl | rfl | rfl | rfl
              · cases ho
                have r1 : ρ (.tmp 4) = .pointer (some ⟨g, 0, none⟩) := by rw [← hρ]; kernel_rfl
                exact gives_value (w' := x) (v := .pointer (some ⟨g, 6, none⟩)) (by simp [go_sem, r1]) ⟨Le.refl _, rfl⟩
              · cases ho
                have r1 : ρ (.tmp 37) = vs 0 := by rw [← hρ]; kernel_rfl
                have d := hd 0 (by decide) (by kernel_rfl)
                simp only at d
                rw [d] at r1
                have s6 := cell_le y6 hx0
                exact gives_value (w' := x) (v := slV L.qP) (by simp [go_sem, r1, s6]) ⟨Le.refl _, rfl⟩
              · cases ho
                have r1 : ρ (.tmp 1) = .pointer (some ⟨w.heap.size, 0, none⟩) := by rw [← hρ]; kernel_rfl
                exact gives_value (w' := x) (v := .pointer (some ⟨w.heap.size, 2, none⟩)) (by simp [go_sem, r1]) ⟨Le.refl _, rfl⟩
              · cases ho
                have r1 : ρ (.tmp 39) = vs 2 := by rw [← hρ]; kernel_rfl
                have d := hd 2 (by decide) (by kernel_rfl)
                simp only at d
                rw [d] at r1
                have s2 := cell_le z2 hx0
                rw [HNL.out] at s2
                exact gives_value (w' := x) (v := .int .i64 nl) (by simp [go_sem, r1, s2]) ⟨Le.refl _, rfl⟩
              · cases ho
                have r1 : ρ (.tmp 40) = vs 3 := by rw [← hρ]; kernel_rfl
                have d := hd 3 (by decide) (by kernel_rfl)
                simp only at d
                rw [d] at r1
                obtain ⟨x', hrun, o3, l3⟩ := run_make_ints x wr.heap.size nl (by omega) hx0.size
                exact gives_value (w' := x') (v := slV (some ⟨x.heap.size, 0, none⟩, nl, nl)) (by simp [go_sem, r1, hrun]) ⟨l3, _, rfl, o3⟩
              · cases ho
                have r1 : ρ (.tmp 1) = .pointer (some ⟨w.heap.size, 0, none⟩) := by rw [← hρ]; kernel_rfl
                exact gives_value (w' := x) (v := .pointer (some ⟨w.heap.size, 2, none⟩)) (by simp [go_sem, r1]) ⟨Le.refl _, rfl⟩
              · cases ho
                have r1 : ρ (.tmp 42) = vs 5 := by rw [← hρ]; kernel_rfl
                have d := hd 5 (by decide) (by kernel_rfl)
                simp only at d
                rw [d] at r1
                have s2 := cell_le z2 hx0
                rw [HNL.out] at s2
                exact gives_value (w' := x) (v := .int .i64 nl) (by simp [go_sem, r1, s2]) ⟨Le.refl _, rfl⟩
              · cases ho
                have r1 : ρ (.tmp 43) = vs 6 := by rw [← hρ]; kernel_rfl
                have d := hd 6 (by decide) (by kernel_rfl)
                simp only at d
                rw [d] at r1
                obtain ⟨x', hrun, o3, l3⟩ := run_make_ints x wr.heap.size nl (by omega) hx0.size
                exact gives_value (w' := x') (v := slV (some ⟨x.heap.size, 0, none⟩, nl, nl)) (by simp [go_sem, r1, hrun]) ⟨l3, _, rfl, o3⟩
              · cases ho
                have r1 : ρ (.tmp 41) = vs 4 := by rw [← hρ]; kernel_rfl
                have r2 : ρ (.tmp 44) = vs 7 := by rw [← hρ]; kernel_rfl
                have h4 := hd 4 (by decide) (by kernel_rfl)
                have h7 := hd 7 (by decide) (by kernel_rfl)
                simp only at h4 h7
                obtain ⟨qa, e4, o4⟩ := h4
                obtain ⟨qb, e7, o7⟩ := h7
                rw [e4] at r1
                rw [e7] at r2
                exact gives_value (w' := x) (v := repV (fun _ => slZ) qa qb) (by simp [go_sem, r1, r2]) ⟨Le.refl _, qa, qb, rfl, o4, o7⟩
              · cases ho
                have r1 : ρ (.tmp 45) = vs 8 := by rw [← hρ]; kernel_rfl
                have hh := hd 8 (by decide) (by kernel_rfl)
                simp only at hh
                obtain ⟨qa, qb, e8, o8, o9⟩ := hh
                rw [e8] at r1
                have hlit := OwnE.lit repK x wr.heap.size hx0.size [⟨⟨St.zero, List.replicate nl 0, List.replicate nl 0⟩, fun _ => slZ, qa, qb⟩] (by simp)
                exact gives_value (w' := x.alloc (.cells (cellsP (fun _ => slZ) qa qb) 56)) (v := .slice (some ⟨x.heap.size, 0, none⟩) 1 1) (by simp [go_sem, r1]) ⟨Le.alloc _ _, qa, qb, hlit, o8.le (Le.alloc _ _), o9.le (Le.alloc _ _)⟩
            · intro vs x hx hd
              have hx0 := (Le.drew wr).trans hx
              have e1 := hd 1 (by decide)
              simp only at e1
              have hh := hd 9 (by decide)
              simp only at hh
              replace hh := hh.choose_spec
              generalize Exists.choose _ = qa at hh
              replace hh := hh.choose_spec
              generalize Exists.choose _ = qb at hh
              have o9 := hh.1
              have oa := hh.2.1
              have ob := hh.2.2
              have hrun := run_append_E repIn 25 x w.heap.size (slV L.qP) (vs 9) L.ps [⟨⟨St.zero, List.replicate nl 0, List.replicate nl 0⟩, fun _ => slZ, qa, qb⟩] (I.own.oP.le hx0) o9.has (by simp) (by have := HLn.out; show (L.ps.length + 1) * 144 ≤ _; omega) (by have := HLn.out; show L.ps.length + 1 ≤ _; omega) (I.le.trans hx0).size
              replace hrun := hrun.choose_spec
              generalize Exists.choose _ = q' at hrun
              replace hrun := hrun.choose_spec
              generalize Exists.choose _ = x2 at hrun
              have hrn := hrun.1
              have IN := I.rep (by decide) hx0 (x := ⟨⟨St.zero, List.replicate nl 0, List.replicate nl 0⟩, fun _ => slZ, qa, qb⟩) (fun i _ => by show Own x _ _ (St.zero.at i); rw [St.at_zero]; exact Own.nil _ _) oa ob (fun h => h.elim) hrun.2.1 hrun.2.2
              have bo2 : x2.cell? ⟨g, 6, none⟩ = some (slV L.qP) ∧ x2.frozen? ⟨g, 6, none⟩ = false := by
                have hb := (I.bo.le hx0).grown hrun.2.2 ((I.own.oP.le hx0).apart (I.bo.le hx0) (by decide))
                exact ⟨hb.cell 6, hb.frozen 6⟩
              have c6 := bo2.1
              have k6 := bo2.2
              generalize hf0 : putH _ _ _ vs = fr0
              refine wpSeq_cons rfl ?_
              refine wp_value_at (v0 := slV q') (w0 := x2) ?_ ?_
              · have r1 : fr0.eval (.tmp 38) = vs 1 := by rw [← hf0]; kernel_rfl
                have r2 : fr0.eval (.tmp 46) = vs 9 := by rw [← hf0]; kernel_rfl
                rw [e1] at r1
                simp only [execOp, resolve, invoke, builtin, Sem.run_bind, Sem.run_pure, Result.andThen_ok, List.map_toArray, List.map_cons, List.map_nil, r1, r2, hrn]
              · generalize hf1 : Act.put fr0 _ _ = fr1
                refine wpSeq_cons rfl ?_
                refine wp_value_at (v0 := .pointer (some ⟨g, 6, none⟩)) (w0 := x2) ?_ ?_
                · generalize hρ : fr1.eval = ρ
                  have r1 : ρ (.tmp 4) = .pointer (some ⟨g, 0, none⟩) := by rw [← hρ, ← hf1, ← hf0]; kernel_rfl
                  simp [go_sem, r1]
                · generalize hf2 : Act.put fr1 _ _ = fr2
                  refine wpSeq_cons rfl ?_
                  refine wp_skip_at (w0 := x2.setCell ⟨g, 6, none⟩ (slV q')) ?_ ?_
                  · generalize hρ : fr2.eval = ρ
                    have r1 : ρ (.tmp 48) = .pointer (some ⟨g, 6, none⟩) := by rw [← hρ, ← hf2, ← hf1, ← hf0]; kernel_rfl
                    have r2 : ρ (.tmp 47) = slV q' := by rw [← hρ, ← hf2, ← hf1, ← hf0]; kernel_rfl
                    simp [go_sem, r1, r2, c6, k6]
                  · subst hf2 hf1 hf0
                    simp only [wpSeq, putH, List.getElem?_cons_succ, List.getElem?_cons_zero, Option.bind_some, Act.put, List.setIfInBounds_toArray, List.set_cons_zero, List.set_cons_succ]
                    go_wp2_with fail
                    go_roundw
                    case rel => exact ⟨k + 1, _, by omega, by go_num, IN, HL.out.1, HL.out.2.1, by rw [List.map_append, HL.out.2.2.1, List.replicate_succ']; rfl, HL.out.2.2.2.1, HL.out.2.2.2.2⟩
                    case measure => simp [intOf]; omega
          · have hge : c.r ≤ (k : Int) := by have := HNR.out; omega
            have HM : Hid (L.M = freshM c) := by
              have hkr : k = nr := by omega
              show Lay.M L = _
              unfold Lay.M freshM
              have h1 := HNL.out
              have h2 := HNR.out
              have h3 := HNT.out
              rw [HL.out.1, HL.out.2.1, HL.out.2.2.1, HL.out.2.2.2.1, HL.out.2.2.2.2, ← HR.out, h1, h2, h3, hkr]
              simp
            have HC : Hid (L.c = c) := HL.out.1
            obtain ⟨⟨m0, m1, m2, m3, m4⟩, m5, m6, m7, m8⟩ := I.bo.mach
            have r0 := I.br.cell 0
            have r1 := I.br.cell 1
            have r2 := I.br.cell 2
            have r3 := I.br.cell 3
            have r4 := I.br.cell 4
            have r5 := I.br.cell 5
            have r6 := I.br.cell 6
            have r7 := I.br.cell 7
            have r8 := I.br.cell 8
            simp only [List.getElem?_toArray, List.getElem?_cons_succ, List.getElem?_cons_zero] at r0 r1 r2 r3 r4 r5 r6 r7 r8
            have k0' := I.br.frozen 0
            have k1' := I.br.frozen 1
            have k2 := I.br.frozen 2
            have k3 := I.br.frozen 3
            have k4 := I.br.frozen 4
            have k5 := I.br.frozen 5
            have k6 := I.br.frozen 6
            have k7 := I.br.frozen 7
            have k8 := I.br.frozen 8
            clear HL
            go_wp2_with fail
            refine bodyPost_ret (v := .tuple #[machV c L.qR L.qP L.qT L.qH, .int .i64 0]) (by simp [results, Tryz.results6, go_sem, r0, r1, r2, r3, r4, r5, r6, r7, r8]) rfl ⟨_, rfl, ⟨L, by rw [← HC.out], HM.out.symm, ?_⟩, ?_⟩
            · exact I.own.put9 I.br c L.qR L.qP L.qT L.qH
            · exact I.le.put9 (by omega) _ _ _ _ _

end Go.Proofs.YtibleipfablniaaGreat

/-
  THE WALKS over choruslaw0's CopyState and SpoilState: what each does, for every state. Condition: where memory is made, the rows' bytes are within the reach that every row bears.
-/
namespace Go.Proofs.YtibleipfablniaaGreat
open Go.RowKit

set_option maxHeartbeats 400000 in
theorem lawCopyState (v : Value) (s : St) (w : World) (hx : HasS w v s) (hf : Fit s) :
    Calls Tryz.prog 16 #[v] w fun e w' => ∃ v', e = .returned v' ∧ OwnS w' w.heap.size v' s ∧ Le w w' := by
  obtain ⟨vs, rfl, hr⟩ := hx
  go_enter Tryz.func16, Tryz.ntmps16
  go_wp2
  go_loopw [4] (fun i wr => ∃ (k : Nat) (us : Nat → Sl), k ≤ 4 ∧ i = .int .i64 k ∧ Cp w s vs wr k us) (fun i _ => 4 - (intOf i).toNat)
  case atStart => exact ⟨0, _, by omega, rfl, Cp.start w s vs⟩
  case round =>
    obtain ⟨k, us, hk, rfl, hcp⟩ := hrel
    by_cases hlt : k < 4
    · have c1 : (wr.alloc (.cells #[] 3)).cell? ⟨w.heap.size, k, none⟩ = some (slV (vs k)) := ((hcp.given.le (Le.alloc wr _)).cell k).trans (cells4_at vs hlt)
      have hw1 : Has (wr.alloc (.cells #[] 3)) (slV (vs k)) (s.at k) := (hr k hlt).le (hcp.le.trans (Le.alloc wr _))
      have hn1 : Own (wr.alloc (.cells #[] 3)) wr.heap.size (.slice (some ⟨wr.heap.size, 0, none⟩) 0 0) [] := Own.lit wr _ (Nat.le_refl _) [] (by decide)
      have hfk := hf k hlt
      have hrow : ∀ g, (Value.slice (some ⟨wr.heap.size, 0, none⟩) 0 0).ownBlock = some g → wr.heap.size ≤ g := by intro g hg; cases hg; exact Nat.le_refl _
      go_wp2_with (at_builtin; refine wp_append_ints rfl _ _ rfl wr.heap.size _ _ [] (s.at k) rfl rfl hn1 hw1 (by simp; omega) (by simp) ?_; intro v' w2 hown hgrow; rw [List.nil_append] at hown; have l2 : Le wr w2 := Below.grown (Le.alloc wr _) hgrow (by simp) hrow; have c3 := (hcp.filled.le l2).cell k; rw [cells4_at us hlt] at c3; have f3 := (hcp.filled.le l2).frozen k; obtain ⟨q, rfl⟩ := hown.has.sl)
      go_roundw
      case rel => exact ⟨k + 1, _, by omega, by go_num, hcp.next hlt (Le.alloc wr _) hgrow hrow hown⟩
      case measure => simp [intOf]; omega
    · obtain rfl : k = 4 := by omega
      obtain ⟨p0, p1, p2, p3, _, _, _, _⟩ := hcp.filled.st
      obtain ⟨b0, b1, b2, b3, f0, f1, f2, f3⟩ := hcp.result.st
      go_wp2
      refine bodyPost_ret (v := stV us) (by simp [results, Tryz.results16, go_sem, b0, b1, b2, b3]) rfl ⟨_, rfl, ⟨us, rfl, fun i hi => ?_⟩, ?_⟩
      · exact ((((hcp.rows i hi).setBox hcp.result (by decide)).setBox (hcp.result.set _ _) (by decide)).setBox ((hcp.result.set _ _).set _ _) (by decide)).setBox (((hcp.result.set _ _).set _ _).set _ _) (by decide)
      · exact (((Below.setCell hcp.le (by show w.heap.size ≤ w.heap.size + 1; omega) _).setCell (by show w.heap.size ≤ w.heap.size + 1; omega) _).setCell (by show w.heap.size ≤ w.heap.size + 1; omega) _).setCell (by show w.heap.size ≤ w.heap.size + 1; omega) _

set_option maxHeartbeats 400000 in
theorem lawSpoilState (v : Value) (base : Nat) (w : World) (hx : IntsS w base v) (hbase : base ≤ w.heap.size) :
    Calls Tryz.prog 41 #[v] w fun e w' => e = .returned (.tuple #[]) ∧ Spoilt base w w' := by
  obtain ⟨vs, rfl, hr⟩ := hx
  have hb1 := Box.new w (cells4 vs) 54
  have hs1 : Spoilt base w (w.alloc (.cells (cells4 vs) 54)) := Spoilt.le hbase (Le.alloc _ _)
  go_enter Tryz.func41, Tryz.ntmps41
  go_wp2
  go_loopw [2] (fun i wr => ∃ k : Nat, k ≤ 4 ∧ i = .int .i64 k ∧ Spoilt base (w.alloc (.cells (cells4 vs) 54)) wr) (fun i _ => 4 - (intOf i).toNat)
  case atStart => exact ⟨0, by omega, rfl, Spoilt.refl _ _⟩
  case round =>
    obtain ⟨k, hk, rfl, hsp⟩ := hrel
    by_cases hlt : k < 4
    · have hi := (hr k hlt).spoilt (hs1.trans hsp)
      have c1 : wr.cell? ⟨w.heap.size, k, none⟩ = some (slV (vs k)) := hsp.rest _ _ ((hb1.cell k).trans (cells4_at vs hlt)) (fun x h => by cases h)
      go_wp2_with (go_at_call 42; refine (lawSpoil _ base _ hi).mono ?_; rintro e w1 ⟨rfl, s1⟩; clear hi c1)
      go_roundw
      case rel => exact ⟨k + 1, by omega, by go_num, hsp.trans s1⟩
      case measure => simp [intOf]; omega
    · obtain rfl : k = 4 := by omega
      go_wp2
      go_end0
      exact ⟨rfl, hs1.trans hsp⟩

end Go.Proofs.YtibleipfablniaaGreat

/-
  THE WALK over a machine's copy: the same machine, in memory of the call's own, each row in a block of its own. Condition: that its rows can be copied.
-/
namespace Go.Proofs.YtibleipfablniaaGreat
open Go.RowKit

set_option maxRecDepth 8000 in
set_option maxHeartbeats 16000000 in
theorem lawCopyMachine (v : Value) (M : Mc) (w : World) (hx : HasM w v M) (hf : FitM M) :
    Calls Tryz.prog 5 #[v] w fun e w' => ∃ L : Lay, e = .returned L.v ∧ L.M = M ∧ OwnsM w' w.heap.size L ∧ ApartM L ∧ Le w w' := by
  obtain ⟨c, Rs, Ps, Ts, Es⟩ := M
  obtain ⟨⟨aR, nR, cR⟩, ⟨aP, nP, cP⟩, ⟨aT, nT, cT⟩, qH, rfl, hR, hP, hT, hH⟩ := hx
  obtain ⟨f1, f2, f3, f4, fr, fp, ft⟩ := hf
  simp only at hR hP hT hH f1 f2 f3 f4 fr fp ft
  obtain ⟨a, n, hv, nc, _, oR⟩ := hR.open
  simp only [slV, Value.slice.injEq] at hv
  obtain ⟨rfl, rfl, rfl⟩ := hv
  obtain ⟨a, n, hv, pc, _, oP⟩ := hP.open
  simp only [slV, Value.slice.injEq] at hv
  obtain ⟨rfl, rfl, rfl⟩ := hv
  obtain ⟨a, n, hv, tc, _, oT⟩ := hT.open
  simp only [slV, Value.slice.injEq] at hv
  obtain ⟨rfl, rfl, rfl⟩ := hv
  clear hR hP hT
  obtain ⟨nR, hnR⟩ : ∃ n, n = Rs.length := ⟨_, rfl⟩
  obtain ⟨nP, hnP⟩ : ∃ n, n = Ps.length := ⟨_, rfl⟩
  obtain ⟨nT, hnT⟩ : ∃ n, n = Ts.length := ⟨_, rfl⟩
  have HR : Hid (nR = Rs.length) := hnR
  have HP : Hid (nP = Ps.length) := hnP
  have HT : Hid (nT = Ts.length) := hnT
  rw [← hnR] at nc oR f1 ⊢
  rw [← hnP] at pc oP f2 ⊢
  rw [← hnT] at tc oT f3 ⊢
  clear hnR hnP hnT
  have hl := (Le.alloc w (.cells (cells9 c (aR, nR, cR) (aP, nP, cP) (aT, nT, cT) qH) 29)).trans (Le.alloc _ (.cells cellsZ9 29))
  have hb1 := (Box.new w (cells9 c (aR, nR, cR) (aP, nP, cP) (aT, nT, cT) qH) 29).le (Le.alloc _ (.cells cellsZ9 29))
  have hb2 := Box.new (w.alloc (.cells (cells9 c (aR, nR, cR) (aP, nP, cP) (aT, nT, cT) qH) 29)) cellsZ9 29
  have hWs : ((w.alloc (.cells (cells9 c (aR, nR, cR) (aP, nP, cP) (aT, nT, cT) qH) 29)).alloc (.cells cellsZ9 29)).heap.size = w.heap.size + 2 := by simp
  rw [World.size_alloc] at hb2
  go_enter Tryz.func5, Tryz.ntmps5
  go_upto_region 1 with fail
  generalize hW : (w.alloc (.cells (cells9 c (aR, nR, cR) (aP, nP, cP) (aT, nT, cT) qH) 29)).alloc (.cells cellsZ9 29) = W at hl hb1 hb2 hWs ⊢
  clear hW
  go_cut [3] from 9 (fun s3 wc => ∃ g q, s3 = .pointer (some ⟨g, 0, none⟩) ∧ CpI True w (cells9 c (aR, nR, cR) (aP, nP, cP) (aT, nT, cT) qH) 29 c g wc ⟨c, slZ, slZ, slZ, q, [], [], [], Es⟩)
  case first =>
    refine wp_region_any (by kernel_rfl) ?_
    obtain ⟨⟨z0, z1, z2, z3, z4⟩, z5, z6, z7, z8⟩ := hb1.mach
    have hH' := hH.le hl
    refine wpAny_grow [] [0, 1, 2, 3, 4, 5, 6, 7] [8] (by decide) (by kernel_rfl) Le (Le.refl _) (fun _ _ _ => Le.trans)
      (fun vs i x => match i with
        | 0 => vs 0 = .pointer (some ⟨w.heap.size, 0, none⟩)
        | 1 => vs 1 = cfgV c.o c.r c.l c.t c.s
        | 2 => ∃ b, vs 2 = .slice (some ⟨b, 0, none⟩) 0 0 ∧ OwnE evK x (w.heap.size + 2) (.slice (some ⟨b, 0, none⟩) 0 0) []
        | 3 => vs 3 = .pointer (some ⟨w.heap.size, 8, none⟩)
        | 4 => vs 4 = slV qH
        | 5 => ∃ q, vs 5 = slV q ∧ OwnE evK x (w.heap.size + 2) (slV q) Es
        | 6 => ∃ q, vs 6 = machV c slZ slZ slZ q ∧ OwnE evK x (w.heap.size + 2) (slV q) Es
        | _ => ∃ g, vs 7 = .pointer (some ⟨g, 0, none⟩) ∧ w.heap.size + 2 ≤ g ∧ Box x g cellsZ9 29) ?_ ?_ (by decide) ?_ ?_
    · intro vs i x y hi _ h hxy
      simp only [List.mem_cons, List.not_mem_nil, or_false] at hi
      rcases hi with rfl | rfl | rfl | rfl | rfl | rfl | rfl | rfl
      · exact h
      · exact h
      · obtain ⟨b, e, o⟩ := h; exact ⟨b, e, o.le hxy⟩
      · exact h
      · exact h
      · obtain ⟨b, e, o⟩ := h; exact ⟨b, e, o.le hxy⟩
      · obtain ⟨b, e, o⟩ := h; exact ⟨b, e, o.le hxy⟩
      · obtain ⟨b, e, o, o'⟩ := h; exact ⟨b, e, o, o'.le hxy⟩
    · intro vs vs' i o x hi _ hk h
      have e := hk i (.inl rfl)
      simp only [List.mem_cons, List.not_mem_nil, or_false] at hi
      rcases hi with rfl | rfl | rfl | rfl | rfl | rfl | rfl | rfl
      all_goals
        simp only at h ⊢
        rw [← e]
        exact h
    · intro i o hi ho vs x hx hd
      have hx0 := (Le.drew W).trans hx
      simp only [List.mem_cons, List.not_mem_nil, or_false] at hi
      generalize hρ : (putH _ _ _ vs).eval = ρ
      rcases hi with rfl | rfl | rfl | rfl | rfl | rfl | rfl | rfl
      · cases ho
        have r1 : ρ (.tmp 1) = .pointer (some ⟨w.heap.size, 0, none⟩) := by rw [← hρ]; kernel_rfl
        exact gives_value (w' := x) (v := .pointer (some ⟨w.heap.size, 0, none⟩)) (by simp [go_sem, r1]) ⟨Le.refl _, rfl⟩
      · cases ho
        have r1 : ρ (.tmp 9) = vs 0 := by rw [← hρ]; kernel_rfl
        have d := hd 0 (by decide) (by kernel_rfl)
        simp only at d
        rw [d] at r1
        have y0 := cell_le z0 hx0
        have y1 := cell_le z1 hx0
        have y2 := cell_le z2 hx0
        have y3 := cell_le z3 hx0
        have y4 := cell_le z4 hx0
        exact gives_value (w' := x) (v := cfgV c.o c.r c.l c.t c.s) (by simp [go_sem, r1, y0, y1, y2, y3, y4]) ⟨Le.refl _, rfl⟩
      · cases ho
        exact gives_value (w' := x.alloc (.cells #[] 60)) (v := .slice (some ⟨x.heap.size, 0, none⟩) 0 0) (by simp [go_sem]) ⟨Le.alloc _ _, x.heap.size, rfl, OwnE.lit0 evK x _ (by have := hx0.size; omega)⟩
      · cases ho
        have r1 : ρ (.tmp 1) = .pointer (some ⟨w.heap.size, 0, none⟩) := by rw [← hρ]; kernel_rfl
        exact gives_value (w' := x) (v := .pointer (some ⟨w.heap.size, 8, none⟩)) (by simp [go_sem, r1]) ⟨Le.refl _, rfl⟩
      · cases ho
        have r1 : ρ (.tmp 12) = vs 3 := by rw [← hρ]; kernel_rfl
        have d := hd 3 (by decide) (by kernel_rfl)
        simp only at d
        rw [d] at r1
        have y8 := cell_le z8 hx0
        exact gives_value (w' := x) (v := slV qH) (by simp [go_sem, r1, y8]) ⟨Le.refl _, rfl⟩
      · cases ho
        have r1 : ρ (.tmp 11) = vs 2 := by rw [← hρ]; kernel_rfl
        have r2 : ρ (.tmp 13) = vs 4 := by rw [← hρ]; kernel_rfl
        have hh := hd 2 (by decide) (by kernel_rfl)
        simp only at hh
        replace hh := hh.choose_spec
        generalize Exists.choose _ = b at hh
        have e2 := hh.1
        have o2 := hh.2
        have e4 := hd 4 (by decide) (by kernel_rfl)
        simp only at e4
        rw [e2] at r1
        rw [e4] at r2
        obtain ⟨q, x', hrun, o5, l5, _⟩ := run_append_empty evIn 27 x (w.heap.size + 2) b (slV qH) Es o2 (hH'.le hx0) (by show Es.length * 48 ≤ _; omega) (by omega) (by have := hx0.size; omega)
        exact gives_value (w' := x') (v := slV q) (by simp only [execOp, resolve, invoke, builtin, Sem.run_bind, Sem.run_pure, Result.andThen_ok, List.map_toArray, List.map_cons, List.map_nil, r1, r2, hrun]) ⟨l5, q, rfl, o5⟩
      · cases ho
        have r1 : ρ (.tmp 10) = vs 1 := by rw [← hρ]; kernel_rfl
        have r2 : ρ (.tmp 14) = vs 5 := by rw [← hρ]; kernel_rfl
        have e1 := hd 1 (by decide) (by kernel_rfl)
        have hh := hd 5 (by decide) (by kernel_rfl)
        simp only at hh
        replace hh := hh.choose_spec
        generalize Exists.choose _ = q at hh
        have e5 := hh.1
        have o5 := hh.2
        simp only at e1
        rw [e1] at r1
        rw [e5] at r2
        exact gives_value (w' := x) (v := machV c slZ slZ slZ q) (by simp [go_sem, r1, r2]) ⟨Le.refl _, q, rfl, o5⟩
      · cases ho
        exact gives_value (w' := x.alloc (.cells cellsZ9 29)) (v := .pointer (some ⟨x.heap.size, 0, none⟩)) (by simp [go_sem]) ⟨Le.alloc _ _, x.heap.size, rfl, by have := hx0.size; omega, Box.new _ _ _⟩
    · intro vs x hx hd o ho
      have hx0 := (Le.drew W).trans hx
      cases ho
      have hh := hd 6 (by decide)
      simp only at hh
      replace hh := hh.choose_spec
      generalize Exists.choose _ = q at hh
      have e6 := hh.1
      have o6 := hh.2
      have hh := hd 7 (by decide)
      simp only at hh
      replace hh := hh.choose_spec
      generalize Exists.choose _ = g at hh
      have e7 := hh.1
      have hg := hh.2.1
      have b7 := hh.2.2
      refine gives_wp (K := fun v w' => v = undef ∧ w' = put9 x g c slZ slZ slZ q) ?_ ?_
      · generalize hρ : (putH _ _ _ vs).eval = ρ
        have r1 : ρ (.tmp 3) = vs 7 := by rw [← hρ]; kernel_rfl
        have r2 : ρ (.tmp 15) = vs 6 := by rw [← hρ]; kernel_rfl
        rw [e7] at r1
        rw [e6] at r2
        have c0 := b7.cell 0
        have c1 := b7.cell 1
        have c2 := b7.cell 2
        have c3 := b7.cell 3
        have c4 := b7.cell 4
        have c5 := b7.cell 5
        have c6 := b7.cell 6
        have c7 := b7.cell 7
        have c8 := b7.cell 8
        simp only [List.getElem?_toArray, List.getElem?_cons_succ, List.getElem?_cons_zero] at c0 c1 c2 c3 c4 c5 c6 c7 c8
        have k0 := b7.frozen 0
        have k1 := b7.frozen 1
        have k2 := b7.frozen 2
        have k3 := b7.frozen 3
        have k4 := b7.frozen 4
        have k5 := b7.frozen 5
        have k6 := b7.frozen 6
        have k7 := b7.frozen 7
        have k8 := b7.frozen 8
        unfold gives
        simp [go_sem, r1, r2, c0, c1, c2, c3, c4, c5, c6, c7, c8, k0, k1, k2, k3, k4, k5, k6, k7, k8]
      · rintro _ _ ⟨rfl, rfl⟩
        simp only [wpSeq, putH, List.getElem?_cons_succ, List.getElem?_cons_zero, Option.bind_some, Act.put, List.setIfInBounds_toArray, List.set_cons_zero, List.set_cons_succ, e7]
        go_wp2_with fail
        go_meet
        case rel => exact ⟨g, q, rfl, CpI.start (hl.trans hx0) (hb1.le hx0) (hb2.le hx0) b7 hg o6⟩
  case rest =>
    obtain ⟨g, q0, rfl, I0⟩ := hcut
    clear hb1 hb2 hWs hl hH
    have z5 := I0.bp.mach.2.1
    simp only [slV] at z5
    go_wp2_with fail
    go_loopw [4] (fun i wr => ∃ (k : Nat) (L : Lay), k ≤ nR ∧ i = .int .i64 k ∧ CpI True w (cells9 c (aR, nR, cR) (aP, nP, cP) (aT, nT, cT) qH) 29 c g wr L ∧ Hid (L.c = c ∧ L.rs.map LR.R = Rs.take k ∧ L.ps = [] ∧ L.ts = [] ∧ L.es = Es)) (fun i _ => nR - (intOf i).toNat)
    case atStart => exact ⟨0, _, Nat.zero_le _, rfl, I0, rfl, rfl, rfl, rfl, rfl⟩
    case round =>
      obtain ⟨k, L, hk, rfl, I, HL⟩ := hrel
      clear I0 z5
      have z5 := I.bp.mach.2.1
      simp only [slV] at z5
      by_cases hlt : k < nR
      · obtain ⟨b, off, rfl, oRk⟩ := oR (by omega)
        obtain ⟨q, rA, hq⟩ := oRk k hlt
        obtain ⟨R, hRk⟩ : ∃ R, R = Rs.getD k Rg.zero := ⟨_, rfl⟩
        have HX : Hid (R = Rs.getD k Rg.zero) := hRk
        rw [← hRk] at rA hq
        have hfR : FitR R := by rw [hRk]; exact fr _ (getD_mem (by have := HR.out; omega))
        have hlt' : (k : Int) < (nR : Int) := by omega
        have hk0 : (0 : Int) ≤ (k : Int) := by omega
        clear hRk oRk oR oP oT fr fp ft
        replace hq := hq.le I.le
        obtain ⟨x0, x1, x2, x3⟩ := rA.le I.le
        have y5 := I.bo.mach.2.1
        have hLn : L.rs.length = k := by
          have := congrArg List.length HL.out.2.1
          have := HR.out
          simp at *
          omega
        have HLn : Hid (L.rs.length = k) := hLn
        clear rA hLn
        go_upto_region 5 with fail
        refine wp_region_any (by kernel_rfl) ?_
        refine wpAny_grow [] [0, 1, 2, 3, 4, 5, 6, 7, 8] [9, 10, 11] (by decide) (by kernel_rfl) Le (Le.refl _) (fun _ _ _ => Le.trans)
          (fun vs i x => match i with
            | 0 => vs 0 = .pointer (some ⟨g, 5, none⟩)
            | 1 => vs 1 = slV L.qR
            | 2 => vs 2 = .pointer (some ⟨w.heap.size, 5, none⟩)
            | 3 => vs 3 = .slice (some ⟨b, off, none⟩) nR cR
            | 4 => vs 4 = .int .i64 k
            | 5 => vs 5 = .pointer (some ⟨b, off + k * 4, none⟩)
            | 6 => vs 6 = ringV R.h R.t R.f q
            | 7 => ∃ u, vs 7 = ringV R.h R.t R.f u ∧ OwnL x wr.heap.size (slV u) R.ss
            | _ => ∃ u, OwnE ringK x wr.heap.size (vs 8) [⟨R, u⟩] ∧ OwnL x wr.heap.size (slV u) R.ss) ?_ ?_ (by decide) ?_ ?_
        · intro vs i x y hi _ h hxy
          simp only [List.mem_cons, List.not_mem_nil, or_false] at hi
          rcases hi with rfl | rfl | rfl | rfl | rfl | rfl | rfl | rfl | rfl
          iterate 7
            · exact h
          · obtain ⟨u, e, o⟩ := h; exact ⟨u, e, o.le hxy⟩
          · obtain ⟨u, o, o'⟩ := h; exact ⟨u, o.le hxy, o'.le hxy⟩
        · intro vs vs' i o x hi _ hk h
          have e := hk i (.inl rfl)
          simp only [List.mem_cons, List.not_mem_nil, or_false] at hi
          rcases hi with rfl | rfl | rfl | rfl | rfl | rfl | rfl | rfl | rfl
          all_goals
            simp only at h ⊢
            rw [← e]
            exact h
        · intro i o hi ho vs x hx hd
          have hx0 := (Le.drew wr).trans hx
          simp only [List.mem_cons, List.not_mem_nil, or_false] at hi
          generalize hρ : (putH _ _ _ vs).eval = ρ
          rcases hi with rfl | rfl | rfl | rfl | rfl | rfl | rfl | rfl | rfl
          · cases ho
            have r1 : ρ (.tmp 3) = .pointer (some ⟨g, 0, none⟩) := by rw [← hρ]; kernel_rfl
            exact gives_value (w' := x) (v := .pointer (some ⟨g, 5, none⟩)) (by simp [go_sem, r1]) ⟨Le.refl _, rfl⟩
          · cases ho
            have r1 : ρ (.tmp 23) = vs 0 := by rw [← hρ]; kernel_rfl
            have d := hd 0 (by decide) (by kernel_rfl)
            simp only at d
            rw [d] at r1
            have t5 := cell_le y5 hx0
            exact gives_value (w' := x) (v := slV L.qR) (by simp [go_sem, r1, t5]) ⟨Le.refl _, rfl⟩
          · cases ho
            have r1 : ρ (.tmp 1) = .pointer (some ⟨w.heap.size, 0, none⟩) := by rw [← hρ]; kernel_rfl
            exact gives_value (w' := x) (v := .pointer (some ⟨w.heap.size, 5, none⟩)) (by simp [go_sem, r1]) ⟨Le.refl _, rfl⟩
          · cases ho
            have r1 : ρ (.tmp 25) = vs 2 := by rw [← hρ]; kernel_rfl
            have d := hd 2 (by decide) (by kernel_rfl)
            simp only at d
            rw [d] at r1
            have t5 := cell_le z5 hx0
            exact gives_value (w' := x) (v := .slice (some ⟨b, off, none⟩) nR cR) (by simp [go_sem, r1, t5]) ⟨Le.refl _, rfl⟩
          · cases ho
            have r1 : ρ (.tmp 4) = .int .i64 k := by rw [← hρ]; kernel_rfl
            exact gives_value (w' := x) (v := .int .i64 k) (by simp [go_sem, r1]) ⟨Le.refl _, rfl⟩
          · cases ho
            have r1 : ρ (.tmp 26) = vs 3 := by rw [← hρ]; kernel_rfl
            have r2 : ρ (.tmp 27) = vs 4 := by rw [← hρ]; kernel_rfl
            have d := hd 3 (by decide) (by kernel_rfl)
            have d2 := hd 4 (by decide) (by kernel_rfl)
            simp only at d d2
            rw [d] at r1
            rw [d2] at r2
            exact gives_value (w' := x) (v := .pointer (some ⟨b, off + k * 4, none⟩)) (by simp [go_sem, r1, r2, hlt', hk0]) ⟨Le.refl _, rfl⟩
          · cases ho
            have r1 : ρ (.tmp 28) = vs 5 := by rw [← hρ]; kernel_rfl
            have d := hd 5 (by decide) (by kernel_rfl)
            simp only at d
            rw [d] at r1
            have t0 := cell_le x0 hx0
            have t1 := cell_le x1 hx0
            have t2 := cell_le x2 hx0
            have t3 := cell_le x3 hx0
            exact gives_value (w' := x) (v := ringV R.h R.t R.f q) (by simp [go_sem, r1, t0, t1, t2, t3]) ⟨Le.refl _, rfl⟩
          · cases ho
            have r1 : ρ (.tmp 29) = vs 6 := by rw [← hρ]; kernel_rfl
            have d := hd 6 (by decide) (by kernel_rfl)
            simp only at d
            rw [d] at r1
            have rf : ρ (.func 15) = .func (.func 15) #[] #[] := by rw [← hρ]; kernel_rfl
            have hcall := lawCopyRing R.h R.t R.f q R.ss x (hq.le hx0) hfR
            refine gives_call (f := 15) (args := #[ringV R.h R.t R.f q]) (by simp [go_sem, r1, rf]) (hcall.mono ?_)
            rintro e x' ⟨u, rfl, ou, lu⟩
            exact ⟨_, rfl, lu, u, rfl, ou.base hx0.size⟩
          · cases ho
            have r1 : ρ (.tmp 30) = vs 7 := by rw [← hρ]; kernel_rfl
            have hh := hd 7 (by decide) (by kernel_rfl)
            simp only at hh
            replace hh := hh.choose_spec
            generalize Exists.choose _ = u at hh
            rw [hh.1] at r1
            have o7 := hh.2
            have hlit := OwnE.lit ringK x wr.heap.size hx0.size [⟨R, u⟩] (by simp)
            exact gives_value (w' := x.alloc (.cells #[.int .i64 R.h, .int .i64 R.t, .int .i64 R.f, slV u] 46)) (v := .slice (some ⟨x.heap.size, 0, none⟩) 1 1) (by simp [go_sem, r1]) ⟨Le.alloc _ _, u, hlit, o7.le (Le.alloc _ _)⟩
        · intro vs x hx hd
          have hx0 := (Le.drew wr).trans hx
          have e1 := hd 1 (by decide)
          simp only at e1
          have hh := hd 8 (by decide)
          simp only at hh
          replace hh := hh.choose_spec
          generalize Exists.choose _ = u at hh
          have o8 := hh.1
          have o7 := hh.2
          have hrun := run_append_E ringIn 24 x w.heap.size (slV L.qR) (vs 8) L.rs [⟨R, u⟩] (I.own.oR.le hx0) o8.has (by simp) (by have := HLn.out; show (L.rs.length + 1) * 48 ≤ _; omega) (by have := HLn.out; show L.rs.length + 1 ≤ _; omega) (I.le.trans hx0).size
          replace hrun := hrun.choose_spec
          generalize Exists.choose _ = q' at hrun
          replace hrun := hrun.choose_spec
          generalize Exists.choose _ = x2 at hrun
          have hrn := hrun.1
          have IN := I.ring (by decide) hx0 (x := ⟨R, u⟩) o7 hrun.2.1 hrun.2.2
          have bo2 : x2.cell? ⟨g, 5, none⟩ = some (slV L.qR) ∧ x2.frozen? ⟨g, 5, none⟩ = false := by
            have hb := (I.bo.le hx0).grown hrun.2.2 ((I.own.oR.le hx0).apart (I.bo.le hx0) (by decide))
            exact ⟨hb.cell 5, hb.frozen 5⟩
          have c5 := bo2.1
          have k5 := bo2.2
          generalize hf0 : putH _ _ _ vs = fr0
          refine wpSeq_cons rfl ?_
          refine wp_value_at (v0 := slV q') (w0 := x2) ?_ ?_
          · have r1 : fr0.eval (.tmp 24) = vs 1 := by rw [← hf0]; kernel_rfl
            have r2 : fr0.eval (.tmp 31) = vs 8 := by rw [← hf0]; kernel_rfl
            rw [e1] at r1
            simp only [execOp, resolve, invoke, builtin, Sem.run_bind, Sem.run_pure, Result.andThen_ok, List.map_toArray, List.map_cons, List.map_nil, r1, r2, hrn]
          · generalize hf1 : Act.put fr0 _ _ = fr1
            refine wpSeq_cons rfl ?_
            refine wp_value_at (v0 := .pointer (some ⟨g, 5, none⟩)) (w0 := x2) ?_ ?_
            · generalize hρ : fr1.eval = ρ
              have r1 : ρ (.tmp 3) = .pointer (some ⟨g, 0, none⟩) := by rw [← hρ, ← hf1, ← hf0]; kernel_rfl
              simp [go_sem, r1]
            · generalize hf2 : Act.put fr1 _ _ = fr2
              refine wpSeq_cons rfl ?_
              refine wp_skip_at (w0 := x2.setCell ⟨g, 5, none⟩ (slV q')) ?_ ?_
              · generalize hρ : fr2.eval = ρ
                have r1 : ρ (.tmp 33) = .pointer (some ⟨g, 5, none⟩) := by rw [← hρ, ← hf2, ← hf1, ← hf0]; kernel_rfl
                have r2 : ρ (.tmp 32) = slV q' := by rw [← hρ, ← hf2, ← hf1, ← hf0]; kernel_rfl
                simp [go_sem, r1, r2, c5, k5]
              · subst hf2 hf1 hf0
                simp only [wpSeq, putH, List.getElem?_cons_succ, List.getElem?_cons_zero, Option.bind_some, Act.put, List.setIfInBounds_toArray, List.set_cons_zero, List.set_cons_succ]
                go_wp2_with fail
                go_roundw
                case rel => exact ⟨k + 1, _, by omega, by go_num, IN, HL.out.1, by rw [List.map_append, HL.out.2.1, List.take_succ_eq_append_getElem (by have := HR.out; omega)]; simp [HX.out, List.getD, show k < Rs.length by have := HR.out; omega], HL.out.2.2.1, HL.out.2.2.2.1, HL.out.2.2.2.2⟩
                case measure => simp [intOf]; omega
      · have HR2 : Hid (L.rs.map LR.R = Rs) := by
          have h := HL.out.2.1
          rw [List.take_of_length_le (by have := HR.out; omega)] at h
          exact h
        have z6 := I.bp.mach.2.2.1
        simp only [slV] at z6
        clear oR fr
        have HL0 : Hid (L.c = c ∧ L.ps.map LP.P = Ps.take 0 ∧ L.rs.map LR.R = Rs ∧ L.ts = [] ∧ L.es = Es) := ⟨HL.out.1, by rw [HL.out.2.2.1]; rfl, HR2.out, HL.out.2.2.2.1, HL.out.2.2.2.2⟩
        go_wp2_with fail
        go_loopw [5] (fun i wq => ∃ (k : Nat) (L : Lay), k ≤ nP ∧ i = .int .i64 k ∧ CpI True w (cells9 c (aR, nR, cR) (aP, nP, cP) (aT, nT, cT) qH) 29 c g wq L ∧ Hid (L.c = c ∧ L.ps.map LP.P = Ps.take k ∧ L.rs.map LR.R = Rs ∧ L.ts = [] ∧ L.es = Es)) (fun i _ => nP - (intOf i).toNat)
        case atStart => exact ⟨0, L, Nat.zero_le _, rfl, I, HL0⟩
        case round =>
          clear HL0 HL HR2 I z5 z6 hlt hk
          rename_i _ k0 L0 _ _
          obtain ⟨k, L, hk, rfl, I, HL⟩ := hrel
          have z6 := I.bp.mach.2.2.1
          simp only [slV] at z6
          by_cases hlt : k < nP
          · obtain ⟨b, off, rfl, oPk⟩ := oP (by omega)
            obtain ⟨rs0, qc, ql, rA, hq0, hq1, hq2⟩ := oPk k hlt
            obtain ⟨P, hPk⟩ : ∃ R, R = Ps.getD k Rp.zero := ⟨_, rfl⟩
            have HX : Hid (P = Ps.getD k Rp.zero) := hPk
            rw [← hPk] at hq0 hq1 hq2
            obtain ⟨g0, g1, g2⟩ : Fit P.s ∧ P.cs.length * 8 ≤ 140737488351232 ∧ P.ls.length * 8 ≤ 140737488351232 := by rw [hPk]; exact fp _ (getD_mem (by have := HP.out; omega))
            have hlt' : (k : Int) < (nP : Int) := by omega
            have hk0 : (0 : Int) ≤ (k : Int) := by omega
            clear hPk oPk oP oT fp ft
            obtain ⟨x0, x1, x2, x3, x4, x5⟩ := rA.le I.le
            have hLn : L.ps.length = k := by
              have := congrArg List.length HL.out.2.1
              have := HP.out
              simp at *
              omega
            have HLn : Hid (L.ps.length = k) := hLn
            have hA := Le.alloc wr (.cells (cellsP rs0 qc ql) 56)
            have hbx := Box.new wr (cellsP rs0 qc ql) 56
            have I1 := I.later hA
            clear rA hLn
            go_upto_region 10 with fail
            generalize hW2 : wr.alloc (.cells (cellsP rs0 qc ql) 56) = wq at hA hbx I1 ⊢
            clear hW2 x0 x1 x2 x3 x4 x5 z6 I
            generalize wr.heap.size = gx at hbx ⊢
            have HS : HasS wq (stV rs0) P.s := ⟨rs0, rfl, fun i hi => (hq0 i hi).le I1.le⟩
            replace hq1 := hq1.le I1.le
            replace hq2 := hq2.le I1.le
            have y6 := I1.bo.mach.2.2.1
            obtain ⟨t0, t1, t2, t3, t4, t5⟩ := hbx.rep
            clear hq0 hbx hA
            refine wp_region_any (by kernel_rfl) ?_
            refine wpAny_grow [] [0, 1, 2, 3, 4, 5, 6, 7, 8, 9, 10, 11, 12, 13, 14] [15, 16, 17] (by decide) (by kernel_rfl) Le (Le.refl _) (fun _ _ _ => Le.trans)
              (fun vs i x => match i with
                | 0 => vs 0 = .pointer (some ⟨g, 6, none⟩)
                | 1 => vs 1 = slV L.qP
                | 2 => vs 2 = .pointer (some ⟨gx, 0, none⟩)
                | 3 => vs 3 = stV rs0
                | 4 => ∃ us : Nat → Sl, vs 4 = stV us ∧ ∀ i, i < 4 → Own x wq.heap.size (slV (us i)) (P.s.at i)
                | 5 => ∃ b, vs 5 = .slice (some ⟨b, 0, none⟩) 0 0 ∧ Own x wq.heap.size (.slice (some ⟨b, 0, none⟩) 0 0) []
                | 6 => vs 6 = .pointer (some ⟨gx, 4, none⟩)
                | 7 => vs 7 = slV qc
                | 8 => ∃ q : Sl, vs 8 = slV q ∧ Own x wq.heap.size (slV q) P.cs ∧ (0 < P.cs.length → ∀ us : Nat → Sl, vs 4 = stV us → ∀ i, i < 4 → ∀ b, (slV q).ownBlock = some b → (slV (us i)).ownBlock ≠ some b)
                | 9 => ∃ b, vs 9 = .slice (some ⟨b, 0, none⟩) 0 0 ∧ Own x wq.heap.size (.slice (some ⟨b, 0, none⟩) 0 0) []
                | 10 => vs 10 = .pointer (some ⟨gx, 5, none⟩)
                | 11 => vs 11 = slV ql
                | 12 => ∃ q : Sl, vs 12 = slV q ∧ Own x wq.heap.size (slV q) P.ls ∧ (0 < P.ls.length → (∀ us : Nat → Sl, vs 4 = stV us → ∀ i, i < 4 → ∀ b, (slV q).ownBlock = some b → (slV (us i)).ownBlock ≠ some b) ∧ ∀ qa : Sl, vs 8 = slV qa → ∀ b, (slV q).ownBlock = some b → (slV qa).ownBlock ≠ some b)
                | 13 => ∃ (us : Nat → Sl) (qa qb : Sl), vs 13 = repV us qa qb ∧ RepOwn x wq.heap.size P us qa qb
                | _ => ∃ (us : Nat → Sl) (qa qb : Sl), OwnE repK x wq.heap.size (vs 14) [⟨P, us, qa, qb⟩] ∧ RepOwn x wq.heap.size P us qa qb) ?_ ?_ (by decide) ?_ ?_
            · intro vs i x y hi _ h hxy
              simp only [List.mem_cons, List.not_mem_nil, or_false] at hi
              rcases hi with rfl | rfl | rfl | rfl | rfl | rfl | rfl | rfl | rfl | rfl | rfl | rfl | rfl | rfl | rfl
              iterate 4
                · exact h
              · obtain ⟨u, e, o⟩ := h; exact ⟨u, e, fun i hi => (o i hi).le hxy⟩
              · obtain ⟨u, e, o⟩ := h; exact ⟨u, e, o.le hxy⟩
              iterate 2
                · exact h
              · obtain ⟨u, e, o, o'⟩ := h; exact ⟨u, e, o.le hxy, o'⟩
              · obtain ⟨u, e, o⟩ := h; exact ⟨u, e, o.le hxy⟩
              iterate 2
                · exact h
              · obtain ⟨u, e, o, o'⟩ := h; exact ⟨u, e, o.le hxy, o'⟩
              · obtain ⟨u, a, b, e, o⟩ := h; exact ⟨u, a, b, e, o.le hxy⟩
              · obtain ⟨u, a, b, o, o'⟩ := h; exact ⟨u, a, b, o.le hxy, o'.le hxy⟩
            · intro vs vs' i o x hi _ hk h
              have e := hk i (.inl rfl)
              simp only [List.mem_cons, List.not_mem_nil, or_false] at hi
              rcases hi with rfl | rfl | rfl | rfl | rfl | rfl | rfl | rfl | rfl | rfl | rfl | rfl | rfl | rfl | rfl
              case inr.inr.inr.inr.inr.inr.inr.inr.inl =>
                have e4 := hk 4 (.inr (by kernel_rfl))
                simp only at h ⊢
                rw [← e, ← e4]
                exact h
              case inr.inr.inr.inr.inr.inr.inr.inr.inr.inr.inr.inr.inl =>
                have e4 := hk 4 (.inr (by kernel_rfl))
                have e8 := hk 8 (.inr (by kernel_rfl))
                simp only at h ⊢
                rw [← e, ← e4, ← e8]
                exact h
              all_goals
                simp only at h ⊢
                rw [← e]
                exact h
            · intro i o hi ho vs x hx hd
              have hx0 := (Le.drew wq).trans hx
              simp only [List.mem_cons, List.not_mem_nil, or_false] at hi
              generalize hρ : (putH _ _ _ vs).eval = ρ
              rcases hi with rfl | rfl | rfl | rfl | rfl | rfl | rfl | rfl | rfl | rfl | rfl | rfl | rfl | rfl | rfl
              · cases ho
                have r1 : ρ (.tmp 3) = .pointer (some ⟨g, 0, none⟩) := by rw [← hρ]; kernel_rfl
                exact gives_value (w' := x) (v := .pointer (some ⟨g, 6, none⟩)) (by simp [go_sem, r1]) ⟨Le.refl _, rfl⟩
              · cases ho
                have r1 : ρ (.tmp 46) = vs 0 := by rw [← hρ]; kernel_rfl
                have d := hd 0 (by decide) (by kernel_rfl)
                simp only at d
                rw [d] at r1
                have s6 := cell_le y6 hx0
                exact gives_value (w' := x) (v := slV L.qP) (by simp [go_sem, r1, s6]) ⟨Le.refl _, rfl⟩
              · cases ho
                have r1 : ρ (.tmp 6) = .pointer (some ⟨gx, 0, none⟩) := by rw [← hρ]; kernel_rfl
                exact gives_value (w' := x) (v := .pointer (some ⟨gx, 0, none⟩)) (by simp [go_sem, r1]) ⟨Le.refl _, rfl⟩
              · cases ho
                have r1 : ρ (.tmp 48) = vs 2 := by rw [← hρ]; kernel_rfl
                have d := hd 2 (by decide) (by kernel_rfl)
                simp only at d
                rw [d] at r1
                have s0 := cell_le t0 hx0
                have s1 := cell_le t1 hx0
                have s2 := cell_le t2 hx0
                have s3 := cell_le t3 hx0
                exact gives_value (w' := x) (v := stV rs0) (by simp [go_sem, r1, s0, s1, s2, s3]) ⟨Le.refl _, rfl⟩
              · cases ho
                have r1 : ρ (.tmp 49) = vs 3 := by rw [← hρ]; kernel_rfl
                have rf : ρ (.func 16) = .func (.func 16) #[] #[] := by rw [← hρ]; kernel_rfl
                have d := hd 3 (by decide) (by kernel_rfl)
                simp only at d
                rw [d] at r1
                have hcall := lawCopyState (stV rs0) P.s x (HS.le hx0) g0
                refine gives_call (f := 16) (args := #[stV rs0]) (by simp [go_sem, r1, rf]) (hcall.mono ?_)
                rintro e x' ⟨v', rfl, ⟨us, rfl, ou⟩, lu⟩
                exact ⟨_, rfl, lu, us, rfl, fun i hi => (ou i hi).base hx0.size⟩
              · cases ho
                exact gives_value (w' := x.alloc (.cells #[] 3)) (v := .slice (some ⟨x.heap.size, 0, none⟩) 0 0) (by simp [go_sem]) ⟨Le.alloc _ _, x.heap.size, rfl, Own.lit x _ hx0.size [] (by decide)⟩
              · cases ho
                have r1 : ρ (.tmp 6) = .pointer (some ⟨gx, 0, none⟩) := by rw [← hρ]; kernel_rfl
                exact gives_value (w' := x) (v := .pointer (some ⟨gx, 4, none⟩)) (by simp [go_sem, r1]) ⟨Le.refl _, rfl⟩
              · cases ho
                have r1 : ρ (.tmp 52) = vs 6 := by rw [← hρ]; kernel_rfl
                have d := hd 6 (by decide) (by kernel_rfl)
                simp only at d
                rw [d] at r1
                have s4 := cell_le t4 hx0
                exact gives_value (w' := x) (v := slV qc) (by simp [go_sem, r1, s4]) ⟨Le.refl _, rfl⟩
              · cases ho
                have r1 : ρ (.tmp 51) = vs 5 := by rw [← hρ]; kernel_rfl
                have r2 : ρ (.tmp 53) = vs 7 := by rw [← hρ]; kernel_rfl
                have hh := hd 5 (by decide) (by kernel_rfl)
                have h4 := hd 4 (by decide) (by kernel_rfl)
                have d := hd 7 (by decide) (by kernel_rfl)
                simp only at hh h4 d
                obtain ⟨bb, e5, o5⟩ := hh
                obtain ⟨us, e4, o4⟩ := h4
                rw [e5] at r1
                rw [d] at r2
                obtain ⟨q, x', hrun, o8, l8, n8⟩ := run_append_emptyI 51 x wq.heap.size bb (slV qc) P.cs o5 (hq1.le hx0) g1 hx0.size
                refine gives_value (w' := x') (v := slV q) (by simp only [execOp, resolve, invoke, builtin, Sem.run_bind, Sem.run_pure, Result.andThen_ok, List.map_toArray, List.map_cons, List.map_nil, r1, r2, hrun]) ⟨l8, q, rfl, o8, fun hpos us' e i hi b hb hb' => ?_⟩
                have e' : stV us = stV us' := by rw [← e4]; exact e
                have hus : slV (us' i) = slV (us i) := by
                  simp only [Value.agg.injEq, Array.mk.injEq, List.cons.injEq] at e'
                  rcases four hi with rfl | rfl | rfl | rfl
                  · exact e'.1.symm
                  · exact e'.2.1.symm
                  · exact e'.2.2.1.symm
                  · exact e'.2.2.2.1.symm
                rw [hus] at hb'
                have h1 := ((o4 i hi).block hb').2
                rw [n8 hpos] at hb
                simp only [Option.some.injEq] at hb
                omega
              · cases ho
                exact gives_value (w' := x.alloc (.cells #[] 3)) (v := .slice (some ⟨x.heap.size, 0, none⟩) 0 0) (by simp [go_sem]) ⟨Le.alloc _ _, x.heap.size, rfl, Own.lit x _ hx0.size [] (by decide)⟩
              · cases ho
                have r1 : ρ (.tmp 6) = .pointer (some ⟨gx, 0, none⟩) := by rw [← hρ]; kernel_rfl
                exact gives_value (w' := x) (v := .pointer (some ⟨gx, 5, none⟩)) (by simp [go_sem, r1]) ⟨Le.refl _, rfl⟩
              · cases ho
                have r1 : ρ (.tmp 56) = vs 10 := by rw [← hρ]; kernel_rfl
                have d := hd 10 (by decide) (by kernel_rfl)
                simp only at d
                rw [d] at r1
                have s5 := cell_le t5 hx0
                exact gives_value (w' := x) (v := slV ql) (by simp [go_sem, r1, s5]) ⟨Le.refl _, rfl⟩
              · cases ho
                have r1 : ρ (.tmp 55) = vs 9 := by rw [← hρ]; kernel_rfl
                have r2 : ρ (.tmp 57) = vs 11 := by rw [← hρ]; kernel_rfl
                have hh := hd 9 (by decide) (by kernel_rfl)
                have h4 := hd 4 (by decide) (by kernel_rfl)
                have h8 := hd 8 (by decide) (by kernel_rfl)
                have d := hd 11 (by decide) (by kernel_rfl)
                simp only at hh h4 h8 d
                obtain ⟨bb, e5, o5⟩ := hh
                obtain ⟨us, e4, o4⟩ := h4
                obtain ⟨q8, e8, o8, _⟩ := h8
                rw [e5] at r1
                rw [d] at r2
                obtain ⟨q, x', hrun, o12, l12, n12⟩ := run_append_emptyI 51 x wq.heap.size bb (slV ql) P.ls o5 (hq2.le hx0) g2 hx0.size
                refine gives_value (w' := x') (v := slV q) (by simp only [execOp, resolve, invoke, builtin, Sem.run_bind, Sem.run_pure, Result.andThen_ok, List.map_toArray, List.map_cons, List.map_nil, r1, r2, hrun]) ⟨l12, q, rfl, o12, fun hpos => ⟨fun us' e i hi b hb hb' => ?_, fun qa e b hb hb' => ?_⟩⟩
                · have e' : stV us = stV us' := by rw [← e4]; exact e
                  have hus : slV (us' i) = slV (us i) := by
                    simp only [Value.agg.injEq, Array.mk.injEq, List.cons.injEq] at e'
                    rcases four hi with rfl | rfl | rfl | rfl
                    · exact e'.1.symm
                    · exact e'.2.1.symm
                    · exact e'.2.2.1.symm
                    · exact e'.2.2.2.1.symm
                  rw [hus] at hb'
                  have h1 := ((o4 i hi).block hb').2
                  rw [n12 hpos] at hb
                  simp only [Option.some.injEq] at hb
                  omega
                · have e' : slV q8 = slV qa := by rw [← e8]; exact e
                  rw [← e'] at hb'
                  have h1 := (o8.block hb').2
                  rw [n12 hpos] at hb
                  simp only [Option.some.injEq] at hb
                  omega
              · cases ho
                have r1 : ρ (.tmp 50) = vs 4 := by rw [← hρ]; kernel_rfl
                have r2 : ρ (.tmp 54) = vs 8 := by rw [← hρ]; kernel_rfl
                have r3 : ρ (.tmp 58) = vs 12 := by rw [← hρ]; kernel_rfl
                have h4 := hd 4 (by decide) (by kernel_rfl)
                have h8 := hd 8 (by decide) (by kernel_rfl)
                have h12 := hd 12 (by decide) (by kernel_rfl)
                simp only at h4 h8 h12
                obtain ⟨us, e4, o4⟩ := h4
                obtain ⟨q8, e8, o8, a8⟩ := h8
                obtain ⟨q12, e12, o12, a12⟩ := h12
                rw [e4] at r1
                rw [e8] at r2
                rw [e12] at r3
                exact gives_value (w' := x) (v := repV us q8 q12) (by simp [go_sem, r1, r2, r3]) ⟨Le.refl _, us, q8, q12, rfl, o4, o8, o12, fun hp => a8 hp us e4, fun hp => (a12 hp).1 us e4, fun hp => (a12 hp).2 q8 e8⟩
              · cases ho
                have r1 : ρ (.tmp 59) = vs 13 := by rw [← hρ]; kernel_rfl
                have hh := hd 13 (by decide) (by kernel_rfl)
                simp only at hh
                obtain ⟨us, qa, qb, e13, o13⟩ := hh
                rw [e13] at r1
                have hlit := OwnE.lit repK x wq.heap.size hx0.size [⟨P, us, qa, qb⟩] (by simp)
                exact gives_value (w' := x.alloc (.cells (cellsP us qa qb) 56)) (v := .slice (some ⟨x.heap.size, 0, none⟩) 1 1) (by simp [go_sem, r1]) ⟨Le.alloc _ _, us, qa, qb, hlit, o13.le (Le.alloc _ _)⟩
            · intro vs x hx hd
              have hx0 := (Le.drew wq).trans hx
              have e1 := hd 1 (by decide)
              simp only at e1
              have hh := hd 14 (by decide)
              simp only at hh
              replace hh := hh.choose_spec
              generalize Exists.choose _ = us at hh
              replace hh := hh.choose_spec
              generalize Exists.choose _ = qa at hh
              replace hh := hh.choose_spec
              generalize Exists.choose _ = qb at hh
              have o14 := hh.1
              have o13 := hh.2
              have hrun := run_append_E repIn 25 x w.heap.size (slV L.qP) (vs 14) L.ps [⟨P, us, qa, qb⟩] (I1.own.oP.le hx0) o14.has (by simp) (by have := HLn.out; show (L.ps.length + 1) * 144 ≤ _; omega) (by have := HLn.out; show L.ps.length + 1 ≤ _; omega) (I1.le.trans hx0).size
              replace hrun := hrun.choose_spec
              generalize Exists.choose _ = q' at hrun
              replace hrun := hrun.choose_spec
              generalize Exists.choose _ = x2 at hrun
              have hrn := hrun.1
              have IN := I1.rep (by decide) hx0 (x := ⟨P, us, qa, qb⟩) o13.s o13.c o13.l (fun _ => o13.apart) hrun.2.1 hrun.2.2
              have bo2 : x2.cell? ⟨g, 6, none⟩ = some (slV L.qP) ∧ x2.frozen? ⟨g, 6, none⟩ = false := by
                have hb := (I1.bo.le hx0).grown hrun.2.2 ((I1.own.oP.le hx0).apart (I1.bo.le hx0) (by decide))
                exact ⟨hb.cell 6, hb.frozen 6⟩
              have c6 := bo2.1
              have k6 := bo2.2
              generalize hf0 : putH _ _ _ vs = fr0
              refine wpSeq_cons rfl ?_
              refine wp_value_at (v0 := slV q') (w0 := x2) ?_ ?_
              · have r1 : fr0.eval (.tmp 47) = vs 1 := by rw [← hf0]; kernel_rfl
                have r2 : fr0.eval (.tmp 60) = vs 14 := by rw [← hf0]; kernel_rfl
                rw [e1] at r1
                simp only [execOp, resolve, invoke, builtin, Sem.run_bind, Sem.run_pure, Result.andThen_ok, List.map_toArray, List.map_cons, List.map_nil, r1, r2, hrn]
              · generalize hf1 : Act.put fr0 _ _ = fr1
                refine wpSeq_cons rfl ?_
                refine wp_value_at (v0 := .pointer (some ⟨g, 6, none⟩)) (w0 := x2) ?_ ?_
                · generalize hρ : fr1.eval = ρ
                  have r1 : ρ (.tmp 3) = .pointer (some ⟨g, 0, none⟩) := by rw [← hρ, ← hf1, ← hf0]; kernel_rfl
                  simp [go_sem, r1]
                · generalize hf2 : Act.put fr1 _ _ = fr2
                  refine wpSeq_cons rfl ?_
                  refine wp_skip_at (w0 := x2.setCell ⟨g, 6, none⟩ (slV q')) ?_ ?_
                  · generalize hρ : fr2.eval = ρ
                    have r1 : ρ (.tmp 62) = .pointer (some ⟨g, 6, none⟩) := by rw [← hρ, ← hf2, ← hf1, ← hf0]; kernel_rfl
                    have r2 : ρ (.tmp 61) = slV q' := by rw [← hρ, ← hf2, ← hf1, ← hf0]; kernel_rfl
                    simp [go_sem, r1, r2, c6, k6]
                  · subst hf2 hf1 hf0
                    simp only [wpSeq, putH, List.getElem?_cons_succ, List.getElem?_cons_zero, Option.bind_some, Act.put, List.setIfInBounds_toArray, List.set_cons_zero, List.set_cons_succ]
                    go_wp2_with fail
                    go_roundw
                    case rel => exact ⟨k + 1, _, by omega, by go_num, IN, HL.out.1, by rw [List.map_append, HL.out.2.1, List.take_succ_eq_append_getElem (by have := HP.out; omega)]; simp [HX.out, List.getD, show k < Ps.length by have := HP.out; omega], HL.out.2.2.1, HL.out.2.2.2.1, HL.out.2.2.2.2⟩
                    case measure => simp [intOf]; omega
          · have HP2 : Hid (L.ps.map LP.P = Ps) := by
              have h := HL.out.2.1
              rw [List.take_of_length_le (by have := HP.out; omega)] at h
              exact h
            have z7 := I.bp.mach.2.2.2.1
            simp only [slV] at z7
            clear oP fp
            have HL0 : Hid (L.c = c ∧ L.ts.map LT.T = Ts.take 0 ∧ L.rs.map LR.R = Rs ∧ L.ps.map LP.P = Ps ∧ L.es = Es) := ⟨HL.out.1, by rw [HL.out.2.2.2.1]; rfl, HL.out.2.2.1, HP2.out, HL.out.2.2.2.2⟩
            go_wp2_with fail
            go_loopw [7] (fun i wq => ∃ (k : Nat) (L : Lay), k ≤ nT ∧ i = .int .i64 k ∧ CpI True w (cells9 c (aR, nR, cR) (aP, nP, cP) (aT, nT, cT) qH) 29 c g wq L ∧ Hid (L.c = c ∧ L.ts.map LT.T = Ts.take k ∧ L.rs.map LR.R = Rs ∧ L.ps.map LP.P = Ps ∧ L.es = Es)) (fun i _ => nT - (intOf i).toNat)
            case atStart => exact ⟨0, L, Nat.zero_le _, rfl, I, HL0⟩
            case round =>
              clear HL0 HL HP2 I z6 z7 hlt hk
              rename_i _ k1 L1 _ _
              obtain ⟨k, L, hk, rfl, I, HL⟩ := hrel
              have z7 := I.bp.mach.2.2.2.1
              simp only [slV] at z7
              by_cases hlt : k < nT
              · obtain ⟨b, off, rfl, oTk⟩ := oT (by omega)
                obtain ⟨qb, qt, rA, hq1, hq2⟩ := oTk k hlt
                obtain ⟨T, hTk⟩ : ∃ R, R = Ts.getD k Th.zero := ⟨_, rfl⟩
                have HX : Hid (T = Ts.getD k Th.zero) := hTk
                rw [← hTk] at rA hq1 hq2
                obtain ⟨g1, g2⟩ : T.b.length * 8 ≤ 140737488351232 ∧ T.tl.length * 8 ≤ 140737488351232 := by rw [hTk]; exact ft _ (getD_mem (by have := HT.out; omega))
                have hlt' : (k : Int) < (nT : Int) := by omega
                have hk0 : (0 : Int) ≤ (k : Int) := by omega
                clear hTk oTk oT ft
                obtain ⟨x0, x1, x2, x3, x4, x5, x6, x7, x8, x9, x10, x11⟩ := rA.le I.le
                have hLn : L.ts.length = k := by
                  have := congrArg List.length HL.out.2.1
                  have := HT.out
                  simp at *
                  omega
                have HLn : Hid (L.ts.length = k) := hLn
                clear rA hLn
                have hA := Le.alloc wr (.cells (cellsT T qb qt) 58)
                have hbx := Box.new wr (cellsT T qb qt) 58
                replace hq1 := hq1.le (I.le.trans hA)
                replace hq2 := hq2.le (I.le.trans hA)
                go_upto_region 15 with fail
                generalize hW2 : wr.alloc (.cells (cellsT T qb qt) 58) = wq at hA hbx hq1 hq2 ⊢
                generalize hgx : wr.heap.size = gx at hbx ⊢
                have hBg : wr.heap.size ≤ gx := by omega
                clear hW2 hgx x0 x1 x2 x3 x4 x5 x6 x7 x8 x9 x10 x11 z7
                have s6 := (hbx.le (Le.alloc wq (.cells #[] 3))).th.2.2.2.2.2.2.1
                have hn1 : Own (wq.alloc (.cells #[] 3)) wr.heap.size (.slice (some ⟨wq.heap.size, 0, none⟩) 0 0) [] := Own.lit wq _ hA.size [] (by decide)
                have hq1' := hq1.le (Le.alloc wq (.cells #[] 3))
                have hA1 := hA.trans (Le.alloc wq (.cells #[] 3))
                go_upto_region 16 with (at_builtin; refine wp_append_emptyI rfl _ _ rfl wr.heap.size _ _ T.b rfl rfl hn1 hq1' g1 hA1.size ?_; intro q1 w3 o1 l3 n1; have hb3 := (hbx.le (Le.alloc wq (.cells #[] 3))).le l3; have c6 := hb3.th.2.2.2.2.2.2.1; have k6 := hb3.frozen 6)
                have hb4 := hb3.setT6 (q := q1)
                have l4 : Le wr (w3.setCell ⟨gx, 6, none⟩ (slV q1)) := Le.set (hA1.trans l3) hBg
                have o4 := o1.setBox (i := 6) (u := slV q1) hb3 (by decide)
                have hq4 : Has (w3.setCell ⟨gx, 6, none⟩ (slV q1)) (slV qt) T.tl := by
                  have h0 := hq2.le ((Le.alloc wq (.cells #[] 3)).trans l3)
                  obtain ⟨a, cap, hv, hc, hn, hx⟩ := h0
                  refine ⟨a, cap, hv, hc, hn, fun hp => ?_⟩
                  obtain ⟨b', off', ha, hcell⟩ := hx hp
                  refine ⟨b', off', ha, fun i hi => ?_⟩
                  rw [World.cell?_setCell_other _ _ _ _ (fun e => ?_)]
                  · exact hcell i hi
                  · have h1 := hcell i hi
                    rw [← e, c6] at h1
                    cases h1
                clear s6 hn1 hq1 hq1' hq2 c6 k6 hbx hb3 o1
                generalize hW4 : w3.setCell ⟨gx, 6, none⟩ (slV q1) = w4 at hb4 l4 o4 hq4 ⊢
                clear hW4 l3 hA1 hA
                have s11 := (hb4.le (Le.alloc w4 (.cells #[] 3))).th.2.2.2.2.2.2.2.2.2.2.2
                have hn2 : Own (w4.alloc (.cells #[] 3)) wr.heap.size (.slice (some ⟨w4.heap.size, 0, none⟩) 0 0) [] := Own.lit w4 _ l4.size [] (by decide)
                have hq4' := hq4.le (Le.alloc w4 (.cells #[] 3))
                have hA4 := l4.trans (Le.alloc w4 (.cells #[] 3))
                have o4' := o4.le (Le.alloc w4 (.cells #[] 3))
                go_upto_region 17 with (at_builtin; refine wp_append_emptyI rfl _ _ rfl wr.heap.size _ _ T.tl rfl rfl hn2 hq4' g2 hA4.size ?_; intro q2 w5 o2 l5 n2; have hb5 := (hb4.le (Le.alloc w4 (.cells #[] 3))).le l5; have c11 := hb5.th.2.2.2.2.2.2.2.2.2.2.2; have k11 := hb5.frozen 11)
                have hb6 := hb5.setT11 (q := q2)
                have l6 : Le wr (w5.setCell ⟨gx, 11, none⟩ (slV q2)) := Le.set (hA4.trans l5) hBg
                have o6 := (o4'.le l5).setBox (i := 11) (u := slV q2) hb5 (by decide)
                have o7 := o2.setBox (i := 11) (u := slV q2) hb5 (by decide)
                have hap : 0 < q1.2.1 → 0 < q2.2.1 → ∀ b, (slV q1).ownBlock = some b → (slV q2).ownBlock ≠ some b := fun _ p2 b e1 e2 => by
                  have h1 := (o4'.block e1).2
                  have h2 := n2 (by have := own_len o2; omega)
                  rw [h2] at e2
                  simp only [Option.some.injEq] at e2
                  omega
                clear s11 hn2 hq4 hq4' c11 k11 hb4 hb5 o2 o4 o4' n1 n2
                generalize hW6 : w5.setCell ⟨gx, 11, none⟩ (slV q2) = w6 at hb6 l6 o6 o7 ⊢
                clear hW6 l5 hA4 l4
                obtain ⟨t0, t1, t2, t3, t4, t5, t6, t7, t8, t9, t10, t11⟩ := hb6.th
                have I6 := I.later l6
                have y7 := I6.bo.mach.2.2.2.1
                have hlit := OwnE.lit thK w6 wr.heap.size l6.size [⟨T, q1, q2⟩] (by simp)
                replace hlit : OwnE thK (w6.alloc (.cells (cellsT T q1 q2) 58)) wr.heap.size (.slice (some ⟨w6.heap.size, 0, none⟩) 1 1) [⟨T, q1, q2⟩] := hlit
                have hA6 := Le.alloc w6 (.cells (cellsT T q1 q2) 58)
                have hoT := (I6.own.oT.le hA6)
                have y7' := cell_le y7 hA6
                go_wp2_with (at_builtin; refine wp_append_E thIn rfl _ _ rfl w.heap.size _ _ L.ts [⟨T, q1, q2⟩] rfl rfl hoT hlit.has (by have := HLn.out; show (L.ts.length + 1) * 120 ≤ _; omega) (by have := HLn.out; show L.ts.length + 1 ≤ _; omega) (I6.le.trans hA6).size ?_; intro v' w7 o8 hg8 _; obtain ⟨q', rfl⟩ := o8.has.sl; have hb8 := (I6.bo.le hA6).grown hg8 (hoT.apart (I6.bo.le hA6) (by decide)); have c7 := hb8.cell 7; have k7 := hb8.frozen 7)
                have IN := I.th (by decide) (l6.trans hA6) (x := ⟨T, q1, q2⟩) (o6.le hA6) (o7.le hA6) (fun _ => hap) o8 hg8
                go_roundw
                case rel => exact ⟨k + 1, _, by omega, by go_num, IN, HL.out.1, by rw [List.map_append, HL.out.2.1, List.take_succ_eq_append_getElem (by have := HT.out; omega)]; simp [HX.out, List.getD, show k < Ts.length by have := HT.out; omega], HL.out.2.2.1, HL.out.2.2.2.1, HL.out.2.2.2.2⟩
                case measure => simp [intOf]; omega
              · have HM : Hid (L.M = ⟨c, Rs, Ps, Ts, Es⟩) := by
                  have h := HL.out.2.1
                  rw [List.take_of_length_le (by have := HT.out; omega)] at h
                  show Lay.M L = _
                  unfold Lay.M
                  rw [HL.out.1, h, HL.out.2.2.1, HL.out.2.2.2.1, HL.out.2.2.2.2]
                have HC : Hid (L.c = c) := HL.out.1
                obtain ⟨⟨m0, m1, m2, m3, m4⟩, m5, m6, m7, m8⟩ := I.bo.mach
                have r0 := I.br.cell 0
                have r1 := I.br.cell 1
                have r2 := I.br.cell 2
                have r3 := I.br.cell 3
                have r4 := I.br.cell 4
                have r5 := I.br.cell 5
                have r6 := I.br.cell 6
                have r7 := I.br.cell 7
                have r8 := I.br.cell 8
                simp only [List.getElem?_toArray, List.getElem?_cons_succ, List.getElem?_cons_zero] at r0 r1 r2 r3 r4 r5 r6 r7 r8
                have k0 := I.br.frozen 0
                have k1' := I.br.frozen 1
                have k2 := I.br.frozen 2
                have k3 := I.br.frozen 3
                have k4 := I.br.frozen 4
                have k5 := I.br.frozen 5
                have k6 := I.br.frozen 6
                have k7 := I.br.frozen 7
                have k8 := I.br.frozen 8
                clear oT ft HL
                go_wp2_with fail
                refine bodyPost_ret (v := machV c L.qR L.qP L.qT L.qH) (by simp [results, Tryz.results5, go_sem, r0, r1, r2, r3, r4, r5, r6, r7, r8]) rfl ⟨L, by rw [← HC.out], HM.out, ?_, I.ap trivial, ?_⟩
                · have hne : ∀ {t : TypeId} {kk n : Nat} {v : Value} {us : List Value}, World.ownsRow wr w.heap.size t kk v n us → t ≠ 29 → (put9 wr (w.heap.size + 1) c L.qR L.qP L.qT L.qH).ownsRow w.heap.size t kk v n us := fun {t kk n v us} h ht => row_put9 h (fun e => by
                    rcases h.2 with ⟨e2, _⟩ | ⟨g', cap, cur, hv, _, hh, _⟩
                    · rw [e2] at e; simp [Value.ownBlock] at e
                    · rw [hv] at e
                      simp [Value.ownBlock] at e
                      subst e
                      have hb := I.br
                      unfold Box at hb
                      rw [hb] at hh
                      simp at hh
                      exact ht hh.2.symm) _ _ _ _ _
                  have o := I.own
                  exact ⟨hne o.oR (by decide), hne o.oP (by decide), hne o.oT (by decide), hne o.oH (by decide), fun y hy => hne (o.iR y hy) (by decide), fun y hy => ⟨fun i hi => hne ((o.iP y hy).1 i hi) (by decide), hne (o.iP y hy).2.1 (by decide), hne (o.iP y hy).2.2 (by decide)⟩, fun y hy => ⟨hne (o.iT y hy).1 (by decide), hne (o.iT y hy).2 (by decide)⟩⟩
                · exact I.le.put9 (by omega) _ _ _ _ _

end Go.Proofs.YtibleipfablniaaGreat

/-
  THE WALKS over package lists' All and package start's exactly and atMost, at logs, slots, replicas, threads, events and numbers, with a method value that holds its receiver: what each answers. Condition: no more elements than an int tells.
-/
namespace Go.Proofs.YtibleipfablniaaGreat
open Go.RowKit

theorem allE_take {α : Type} {xs : List α} {d : α} {p : α → Bool} {k : Nat} (hk : k < xs.length) (h : (xs.take k).all p = true) (hp : p (xs.getD k d) = true) : (xs.take (k + 1)).all p = true := by
  rw [List.take_succ_eq_append_getElem hk, List.all_append, h]
  simp [List.getD, hk] at hp
  simp [hp]
theorem allE_no {α : Type} {xs : List α} {d : α} {p : α → Bool} {k : Nat} (hk : k < xs.length) (hp : p (xs.getD k d) = false) : xs.all p = false := by
  rw [← Bool.not_eq_true, List.all_eq_true]
  intro h
  have := h (xs.getD k d) (by simp [List.getD, hk])
  rw [hp] at this
  cases this
/-- The value v is a slot's. -/
def IsSlot (_w : World) (v : Value) (s : Slt) : Prop := v = s.v
/-- The value v is an event's. -/
def IsEv (_w : World) (v : Value) (E : Ev) : Prop := v = evV E
/-- The value v is a number's. -/
def IsInt (_w : World) (v : Value) (x : Int) : Prop := v = .int .i64 x
theorem HasL.open {w : World} {v : Value} {ss : List Slt} (h : HasL w v ss) : ∃ (a : Option Addr) (cap : Nat), v = .slice a ss.length cap ∧ ss.length ≤ cap ∧ (a = none → cap = 0) ∧
    (0 < ss.length → ∃ b off, a = some ⟨b, off, none⟩ ∧ ∀ i, i < ss.length → SlotAt w b (off + i * 5) (ss.getD i Slt.zero)) := h
theorem Has.open {w : World} {v : Value} {xs : List Int} (h : Has w v xs) : ∃ (a : Option Addr) (cap : Nat), v = .slice a xs.length cap ∧ xs.length ≤ cap ∧ (a = none → cap = 0) ∧
    (0 < xs.length → ∃ b off, a = some ⟨b, off, none⟩ ∧ ∀ i, i < xs.length → w.cell? ⟨b, off + i, none⟩ = some (.int .i64 (xs.getD i 0))) := h

set_option maxHeartbeats 1000000 in
theorem allRing (f : Nat) (c : Value) (p : Rg → Bool) (hc : ∀ (u : Value) (w : World), (callFunc f #[c, u]).run Tryz.prog w = .ok (.enter f #[c, u]) w) (v : Value) (xs : List Rg) (w : World)
    (hp : ∀ w', Le w w' → ∀ (u : Value) (x : Rg), x ∈ xs → HasR w' u x → Calls Tryz.prog f #[c, u] w' fun e w'' => e = .returned (.bool (p x)) ∧ Le w' w'') (hx : HasRs w v xs) (hm : xs.length ≤ 9223372036854775807) :
    Calls Tryz.prog 51 #[v, .func (.func f) #[c] #[]] w fun e w' => e = .returned (.bool (xs.all p)) ∧ Le w w' := by
  obtain ⟨a, cap, rfl, hc', _, hx⟩ := hx.open
  by_cases h0 : 0 < xs.length
  · obtain ⟨b, off, rfl, hcell⟩ := hx h0
    clear hx
    obtain ⟨L, hL⟩ : ∃ L, L = xs.length := ⟨_, rfl⟩
    have HL : Hid (L = xs.length) := hL
    rw [← hL] at hm h0 hc' hcell ⊢
    clear hL
    go_enter Tryz.func51, Tryz.ntmps51
    go_wp2
    go_loopw [9] (fun i wr => ∃ k : Nat, k ≤ L ∧ i = .int .i64 k ∧ Hid ((xs.take k).all p = true) ∧ Le w wr) (fun i _ => L - (intOf i).toNat)
    case atStart => exact ⟨0, by omega, rfl, rfl, Le.refl _⟩
    case round =>
      obtain ⟨k, hk, rfl, HA, hle⟩ := hrel
      by_cases hlt : k < L
      · obtain ⟨q, rA, hq⟩ := hcell k hlt
        obtain ⟨s, hs⟩ : ∃ s, s = xs.getD k Rg.zero := ⟨_, rfl⟩
        have HS : Hid (s = xs.getD k Rg.zero) := hs
        have hmem : s ∈ xs := by rw [hs]; exact getD_mem (by have := HL.out; omega)
        rw [← hs] at rA hq
        obtain ⟨x0, x1, x2, x3⟩ := rA.le hle
        have hlt' : (k : Int) < (L : Int) := by omega
        clear hs hcell
        have hm2 := fun o => hp (wr.alloc o) (hle.trans (Le.alloc _ _)) (ringV s.h s.t s.f q) s hmem (⟨q, rfl, (hq.le hle).le (Le.alloc _ _)⟩)
        clear hp hmem
        cases hh : p s
        · simp only [hh] at hm2
          go_wp2_with fail
          refine (hm2 _).mono ?_
          rintro e w1 ⟨rfl, l1⟩
          go_wp2
          go_ret
          exact ⟨ret_bool (allE_no (k := k) (d := Rg.zero) (by have := HL.out; omega) (by rw [← HS.out]; exact hh)).symm, (hle.trans (Le.alloc _ _)).trans l1⟩
        · simp only [hh] at hm2
          go_wp2_with fail
          refine (hm2 _).mono ?_
          rintro e w1 ⟨rfl, l1⟩
          go_wp2
          go_roundw
          case rel => exact ⟨k + 1, by omega, by go_num, allE_take (d := Rg.zero) (by have := HL.out; omega) HA.out (by rw [← HS.out]; exact hh), (hle.trans (Le.alloc _ _)).trans l1⟩
          case measure => simp [intOf]; omega
      · obtain rfl : k = L := by omega
        go_wp2
        go_ret
        exact ⟨ret_bool (by have := HA.out; rw [HL.out, List.take_length] at this; exact this.symm), hle⟩
  · have hxn : xs = [] := by cases xs with | nil => rfl | cons _ _ => simp at h0
    subst hxn
    go_enter Tryz.func51, Tryz.ntmps51
    go_wp2
    refine wp_loop_rounds 1 ?_
    rw [rounds_succ]
    go_wp2
    go_ret
    exact ⟨rfl, Le.refl _⟩

theorem exactlyRing (f : Nat) (c : Value) (p : Rg → Bool) (hc : ∀ (u : Value) (w : World), (callFunc f #[c, u]).run Tryz.prog w = .ok (.enter f #[c, u]) w) (v : Value) (xs : List Rg) (n : Int) (w : World)
    (hp : ∀ w', Le w w' → ∀ (u : Value) (x : Rg), x ∈ xs → (xs.length : Int) = n → HasR w' u x → Calls Tryz.prog f #[c, u] w' fun e w'' => e = .returned (.bool (p x)) ∧ Le w' w'') (hx : HasRs w v xs) (hm : xs.length ≤ 9223372036854775807) :
    Calls Tryz.prog 26 #[v, .int .i64 n, .func (.func f) #[c] #[]] w fun e w' => e = .returned (.bool (decide ((xs.length : Int) = n) && xs.all p)) ∧ Le w w' := by
  by_cases hn : (xs.length : Int) = n
  · have hall := allRing f c p hc v xs w (fun w' l u x hm h => hp w' l u x hm hn h) hx hm
    rw [decide_eq_true hn, Bool.true_and]
    generalize xs.all p = y at hall
    obtain ⟨a, cap, rfl, _, _, _⟩ := hx.open
    have hb : ((xs.length : Int) == n) = true := by simp [hn]
    clear hp hc hn
    go_enter Tryz.func26, Tryz.ntmps26
    go_wp2_with fail
    refine hall.mono ?_
    rintro e w1 ⟨rfl, l1⟩
    go_wp2_with fail
    go_ret
    exact ⟨rfl, l1⟩
  · rw [decide_eq_false hn, Bool.false_and]
    obtain ⟨a, cap, rfl, _, _, _⟩ := hx.open
    have hb : ((xs.length : Int) == n) = false := by simp [hn]
    clear hp hc hn
    go_enter Tryz.func26, Tryz.ntmps26
    go_wp2_with fail
    go_ret
    exact ⟨rfl, Le.refl _⟩

set_option maxHeartbeats 1000000 in
theorem allSlot (f : Nat) (c : Value) (p : Slt → Bool) (hc : ∀ (u : Value) (w : World), (callFunc f #[c, u]).run Tryz.prog w = .ok (.enter f #[c, u]) w) (v : Value) (xs : List Slt) (w : World)
    (hp : ∀ w', Le w w' → ∀ (u : Value) (x : Slt), x ∈ xs → IsSlot w' u x → Calls Tryz.prog f #[c, u] w' fun e w'' => e = .returned (.bool (p x)) ∧ Le w' w'') (hx : HasL w v xs) (hm : xs.length ≤ 9223372036854775807) :
    Calls Tryz.prog 54 #[v, .func (.func f) #[c] #[]] w fun e w' => e = .returned (.bool (xs.all p)) ∧ Le w w' := by
  obtain ⟨a, cap, rfl, hc', _, hx⟩ := hx.open
  by_cases h0 : 0 < xs.length
  · obtain ⟨b, off, rfl, hcell⟩ := hx h0
    clear hx
    obtain ⟨L, hL⟩ : ∃ L, L = xs.length := ⟨_, rfl⟩
    have HL : Hid (L = xs.length) := hL
    rw [← hL] at hm h0 hc' hcell ⊢
    clear hL
    go_enter Tryz.func54, Tryz.ntmps54
    go_wp2
    go_loopw [9] (fun i wr => ∃ k : Nat, k ≤ L ∧ i = .int .i64 k ∧ Hid ((xs.take k).all p = true) ∧ Le w wr) (fun i _ => L - (intOf i).toNat)
    case atStart => exact ⟨0, by omega, rfl, rfl, Le.refl _⟩
    case round =>
      obtain ⟨k, hk, rfl, HA, hle⟩ := hrel
      by_cases hlt : k < L
      · have rA := hcell k hlt
        obtain ⟨s, hs⟩ : ∃ s, s = xs.getD k Slt.zero := ⟨_, rfl⟩
        have HS : Hid (s = xs.getD k Slt.zero) := hs
        have hmem : s ∈ xs := by rw [hs]; exact getD_mem (by have := HL.out; omega)
        rw [← hs] at rA
        obtain ⟨x0, x1, x2, x3, x4⟩ := rA.le hle
        have hlt' : (k : Int) < (L : Int) := by omega
        clear hs hcell
        have hm2 := fun o => hp (wr.alloc o) (hle.trans (Le.alloc _ _)) (s.v) s hmem (rfl)
        clear hp hmem
        cases hh : p s
        · simp only [hh] at hm2
          go_wp2_with fail
          refine (hm2 _).mono ?_
          rintro e w1 ⟨rfl, l1⟩
          go_wp2
          go_ret
          exact ⟨ret_bool (allE_no (k := k) (d := Slt.zero) (by have := HL.out; omega) (by rw [← HS.out]; exact hh)).symm, (hle.trans (Le.alloc _ _)).trans l1⟩
        · simp only [hh] at hm2
          go_wp2_with fail
          refine (hm2 _).mono ?_
          rintro e w1 ⟨rfl, l1⟩
          go_wp2
          go_roundw
          case rel => exact ⟨k + 1, by omega, by go_num, allE_take (d := Slt.zero) (by have := HL.out; omega) HA.out (by rw [← HS.out]; exact hh), (hle.trans (Le.alloc _ _)).trans l1⟩
          case measure => simp [intOf]; omega
      · obtain rfl : k = L := by omega
        go_wp2
        go_ret
        exact ⟨ret_bool (by have := HA.out; rw [HL.out, List.take_length] at this; exact this.symm), hle⟩
  · have hxn : xs = [] := by cases xs with | nil => rfl | cons _ _ => simp at h0
    subst hxn
    go_enter Tryz.func54, Tryz.ntmps54
    go_wp2
    refine wp_loop_rounds 1 ?_
    rw [rounds_succ]
    go_wp2
    go_ret
    exact ⟨rfl, Le.refl _⟩

set_option maxHeartbeats 1000000 in
theorem allRep (f : Nat) (c : Value) (p : Rp → Bool) (hc : ∀ (u : Value) (w : World), (callFunc f #[c, u]).run Tryz.prog w = .ok (.enter f #[c, u]) w) (v : Value) (xs : List Rp) (w : World)
    (hp : ∀ w', Le w w' → ∀ (u : Value) (x : Rp), x ∈ xs → HasP w' u x → Calls Tryz.prog f #[c, u] w' fun e w'' => e = .returned (.bool (p x)) ∧ Le w' w'') (hx : HasPs w v xs) (hm : xs.length ≤ 9223372036854775807) :
    Calls Tryz.prog 56 #[v, .func (.func f) #[c] #[]] w fun e w' => e = .returned (.bool (xs.all p)) ∧ Le w w' := by
  obtain ⟨a, cap, rfl, hc', _, hx⟩ := hx.open
  by_cases h0 : 0 < xs.length
  · obtain ⟨b, off, rfl, hcell⟩ := hx h0
    clear hx
    obtain ⟨L, hL⟩ : ∃ L, L = xs.length := ⟨_, rfl⟩
    have HL : Hid (L = xs.length) := hL
    rw [← hL] at hm h0 hc' hcell ⊢
    clear hL
    go_enter Tryz.func56, Tryz.ntmps56
    go_wp2
    go_loopw [9] (fun i wr => ∃ k : Nat, k ≤ L ∧ i = .int .i64 k ∧ Hid ((xs.take k).all p = true) ∧ Le w wr) (fun i _ => L - (intOf i).toNat)
    case atStart => exact ⟨0, by omega, rfl, rfl, Le.refl _⟩
    case round =>
      obtain ⟨k, hk, rfl, HA, hle⟩ := hrel
      by_cases hlt : k < L
      · obtain ⟨vs, c0, l0, rA, hq0, hq1, hq2⟩ := hcell k hlt
        obtain ⟨s, hs⟩ : ∃ s, s = xs.getD k Rp.zero := ⟨_, rfl⟩
        have HS : Hid (s = xs.getD k Rp.zero) := hs
        have hmem : s ∈ xs := by rw [hs]; exact getD_mem (by have := HL.out; omega)
        rw [← hs] at hq0 hq1 hq2
        obtain ⟨x0, x1, x2, x3, x4, x5⟩ := rA.le hle
        have hlt' : (k : Int) < (L : Int) := by omega
        clear hs hcell
        have hm2 := fun o => hp (wr.alloc o) (hle.trans (Le.alloc _ _)) (repV vs c0 l0) s hmem (⟨vs, c0, l0, rfl, fun i hi => ((hq0 i hi).le hle).le (Le.alloc _ _), (hq1.le hle).le (Le.alloc _ _), (hq2.le hle).le (Le.alloc _ _)⟩)
        clear hp hmem
        cases hh : p s
        · simp only [hh] at hm2
          go_wp2_with fail
          refine (hm2 _).mono ?_
          rintro e w1 ⟨rfl, l1⟩
          go_wp2
          go_ret
          exact ⟨ret_bool (allE_no (k := k) (d := Rp.zero) (by have := HL.out; omega) (by rw [← HS.out]; exact hh)).symm, (hle.trans (Le.alloc _ _)).trans l1⟩
        · simp only [hh] at hm2
          go_wp2_with fail
          refine (hm2 _).mono ?_
          rintro e w1 ⟨rfl, l1⟩
          go_wp2
          go_roundw
          case rel => exact ⟨k + 1, by omega, by go_num, allE_take (d := Rp.zero) (by have := HL.out; omega) HA.out (by rw [← HS.out]; exact hh), (hle.trans (Le.alloc _ _)).trans l1⟩
          case measure => simp [intOf]; omega
      · obtain rfl : k = L := by omega
        go_wp2
        go_ret
        exact ⟨ret_bool (by have := HA.out; rw [HL.out, List.take_length] at this; exact this.symm), hle⟩
  · have hxn : xs = [] := by cases xs with | nil => rfl | cons _ _ => simp at h0
    subst hxn
    go_enter Tryz.func56, Tryz.ntmps56
    go_wp2
    refine wp_loop_rounds 1 ?_
    rw [rounds_succ]
    go_wp2
    go_ret
    exact ⟨rfl, Le.refl _⟩

theorem exactlyRep (f : Nat) (c : Value) (p : Rp → Bool) (hc : ∀ (u : Value) (w : World), (callFunc f #[c, u]).run Tryz.prog w = .ok (.enter f #[c, u]) w) (v : Value) (xs : List Rp) (n : Int) (w : World)
    (hp : ∀ w', Le w w' → ∀ (u : Value) (x : Rp), x ∈ xs → (xs.length : Int) = n → HasP w' u x → Calls Tryz.prog f #[c, u] w' fun e w'' => e = .returned (.bool (p x)) ∧ Le w' w'') (hx : HasPs w v xs) (hm : xs.length ≤ 9223372036854775807) :
    Calls Tryz.prog 28 #[v, .int .i64 n, .func (.func f) #[c] #[]] w fun e w' => e = .returned (.bool (decide ((xs.length : Int) = n) && xs.all p)) ∧ Le w w' := by
  by_cases hn : (xs.length : Int) = n
  · have hall := allRep f c p hc v xs w (fun w' l u x hm h => hp w' l u x hm hn h) hx hm
    rw [decide_eq_true hn, Bool.true_and]
    generalize xs.all p = y at hall
    obtain ⟨a, cap, rfl, _, _, _⟩ := hx.open
    have hb : ((xs.length : Int) == n) = true := by simp [hn]
    clear hp hc hn
    go_enter Tryz.func28, Tryz.ntmps28
    go_wp2_with fail
    refine hall.mono ?_
    rintro e w1 ⟨rfl, l1⟩
    go_wp2_with fail
    go_ret
    exact ⟨rfl, l1⟩
  · rw [decide_eq_false hn, Bool.false_and]
    obtain ⟨a, cap, rfl, _, _, _⟩ := hx.open
    have hb : ((xs.length : Int) == n) = false := by simp [hn]
    clear hp hc hn
    go_enter Tryz.func28, Tryz.ntmps28
    go_wp2_with fail
    go_ret
    exact ⟨rfl, Le.refl _⟩

set_option maxHeartbeats 1000000 in
theorem allTh (f : Nat) (c : Value) (p : Th → Bool) (hc : ∀ (u : Value) (w : World), (callFunc f #[c, u]).run Tryz.prog w = .ok (.enter f #[c, u]) w) (v : Value) (xs : List Th) (w : World)
    (hp : ∀ w', Le w w' → ∀ (u : Value) (x : Th), x ∈ xs → HasT w' u x → Calls Tryz.prog f #[c, u] w' fun e w'' => e = .returned (.bool (p x)) ∧ Le w' w'') (hx : HasTs w v xs) (hm : xs.length ≤ 9223372036854775807) :
    Calls Tryz.prog 60 #[v, .func (.func f) #[c] #[]] w fun e w' => e = .returned (.bool (xs.all p)) ∧ Le w w' := by
  obtain ⟨a, cap, rfl, hc', _, hx⟩ := hx.open
  by_cases h0 : 0 < xs.length
  · obtain ⟨b, off, rfl, hcell⟩ := hx h0
    clear hx
    obtain ⟨L, hL⟩ : ∃ L, L = xs.length := ⟨_, rfl⟩
    have HL : Hid (L = xs.length) := hL
    rw [← hL] at hm h0 hc' hcell ⊢
    clear hL
    go_enter Tryz.func60, Tryz.ntmps60
    go_wp2
    go_loopw [9] (fun i wr => ∃ k : Nat, k ≤ L ∧ i = .int .i64 k ∧ Hid ((xs.take k).all p = true) ∧ Le w wr) (fun i _ => L - (intOf i).toNat)
    case atStart => exact ⟨0, by omega, rfl, rfl, Le.refl _⟩
    case round =>
      obtain ⟨k, hk, rfl, HA, hle⟩ := hrel
      by_cases hlt : k < L
      · obtain ⟨q, t, rA, hq, ht⟩ := hcell k hlt
        obtain ⟨s, hs⟩ : ∃ s, s = xs.getD k Th.zero := ⟨_, rfl⟩
        have HS : Hid (s = xs.getD k Th.zero) := hs
        have hmem : s ∈ xs := by rw [hs]; exact getD_mem (by have := HL.out; omega)
        rw [← hs] at rA hq ht
        obtain ⟨x0, x1, x2, x3, x4, x5, x6, x7, x8, x9, x10, x11⟩ := rA.le hle
        have hlt' : (k : Int) < (L : Int) := by omega
        clear hs hcell
        have hm2 := fun o => hp (wr.alloc o) (hle.trans (Le.alloc _ _)) (thV s q t) s hmem (⟨q, t, rfl, (hq.le hle).le (Le.alloc _ _), (ht.le hle).le (Le.alloc _ _)⟩)
        clear hp hmem
        cases hh : p s
        · simp only [hh] at hm2
          go_wp2_with fail
          refine (hm2 _).mono ?_
          rintro e w1 ⟨rfl, l1⟩
          go_wp2
          go_ret
          exact ⟨ret_bool (allE_no (k := k) (d := Th.zero) (by have := HL.out; omega) (by rw [← HS.out]; exact hh)).symm, (hle.trans (Le.alloc _ _)).trans l1⟩
        · simp only [hh] at hm2
          go_wp2_with fail
          refine (hm2 _).mono ?_
          rintro e w1 ⟨rfl, l1⟩
          go_wp2
          go_roundw
          case rel => exact ⟨k + 1, by omega, by go_num, allE_take (d := Th.zero) (by have := HL.out; omega) HA.out (by rw [← HS.out]; exact hh), (hle.trans (Le.alloc _ _)).trans l1⟩
          case measure => simp [intOf]; omega
      · obtain rfl : k = L := by omega
        go_wp2
        go_ret
        exact ⟨ret_bool (by have := HA.out; rw [HL.out, List.take_length] at this; exact this.symm), hle⟩
  · have hxn : xs = [] := by cases xs with | nil => rfl | cons _ _ => simp at h0
    subst hxn
    go_enter Tryz.func60, Tryz.ntmps60
    go_wp2
    refine wp_loop_rounds 1 ?_
    rw [rounds_succ]
    go_wp2
    go_ret
    exact ⟨rfl, Le.refl _⟩

theorem exactlyTh (f : Nat) (c : Value) (p : Th → Bool) (hc : ∀ (u : Value) (w : World), (callFunc f #[c, u]).run Tryz.prog w = .ok (.enter f #[c, u]) w) (v : Value) (xs : List Th) (n : Int) (w : World)
    (hp : ∀ w', Le w w' → ∀ (u : Value) (x : Th), x ∈ xs → (xs.length : Int) = n → HasT w' u x → Calls Tryz.prog f #[c, u] w' fun e w'' => e = .returned (.bool (p x)) ∧ Le w' w'') (hx : HasTs w v xs) (hm : xs.length ≤ 9223372036854775807) :
    Calls Tryz.prog 30 #[v, .int .i64 n, .func (.func f) #[c] #[]] w fun e w' => e = .returned (.bool (decide ((xs.length : Int) = n) && xs.all p)) ∧ Le w w' := by
  by_cases hn : (xs.length : Int) = n
  · have hall := allTh f c p hc v xs w (fun w' l u x hm h => hp w' l u x hm hn h) hx hm
    rw [decide_eq_true hn, Bool.true_and]
    generalize xs.all p = y at hall
    obtain ⟨a, cap, rfl, _, _, _⟩ := hx.open
    have hb : ((xs.length : Int) == n) = true := by simp [hn]
    clear hp hc hn
    go_enter Tryz.func30, Tryz.ntmps30
    go_wp2_with fail
    refine hall.mono ?_
    rintro e w1 ⟨rfl, l1⟩
    go_wp2_with fail
    go_ret
    exact ⟨rfl, l1⟩
  · rw [decide_eq_false hn, Bool.false_and]
    obtain ⟨a, cap, rfl, _, _, _⟩ := hx.open
    have hb : ((xs.length : Int) == n) = false := by simp [hn]
    clear hp hc hn
    go_enter Tryz.func30, Tryz.ntmps30
    go_wp2_with fail
    go_ret
    exact ⟨rfl, Le.refl _⟩

set_option maxHeartbeats 1000000 in
theorem allEv (f : Nat) (c : Value) (p : Ev → Bool) (hc : ∀ (u : Value) (w : World), (callFunc f #[c, u]).run Tryz.prog w = .ok (.enter f #[c, u]) w) (v : Value) (xs : List Ev) (w : World)
    (hp : ∀ w', Le w w' → ∀ (u : Value) (x : Ev), x ∈ xs → IsEv w' u x → Calls Tryz.prog f #[c, u] w' fun e w'' => e = .returned (.bool (p x)) ∧ Le w' w'') (hx : HasE evK w v xs) (hm : xs.length ≤ 9223372036854775807) :
    Calls Tryz.prog 66 #[v, .func (.func f) #[c] #[]] w fun e w' => e = .returned (.bool (xs.all p)) ∧ Le w w' := by
  obtain ⟨a, cap, rfl, hc', _, hx⟩ := hx.openEv
  by_cases h0 : 0 < xs.length
  · obtain ⟨b, off, rfl, hcell⟩ := hx h0
    clear hx
    obtain ⟨L, hL⟩ : ∃ L, L = xs.length := ⟨_, rfl⟩
    have HL : Hid (L = xs.length) := hL
    rw [← hL] at hm h0 hc' hcell ⊢
    clear hL
    go_enter Tryz.func66, Tryz.ntmps66
    go_wp2
    go_loopw [9] (fun i wr => ∃ k : Nat, k ≤ L ∧ i = .int .i64 k ∧ Hid ((xs.take k).all p = true) ∧ Le w wr) (fun i _ => L - (intOf i).toNat)
    case atStart => exact ⟨0, by omega, rfl, rfl, Le.refl _⟩
    case round =>
      obtain ⟨k, hk, rfl, HA, hle⟩ := hrel
      by_cases hlt : k < L
      · have rA := hcell k hlt
        obtain ⟨s, hs⟩ : ∃ s, s = xs.getD k Ev.zero := ⟨_, rfl⟩
        have HS : Hid (s = xs.getD k Ev.zero) := hs
        have hmem : s ∈ xs := by rw [hs]; exact getD_mem (by have := HL.out; omega)
        rw [← hs] at rA
        obtain ⟨x0, x1, x2, x3, x4, x5⟩ := rA.le hle
        have hlt' : (k : Int) < (L : Int) := by omega
        clear hs hcell
        have hm2 := fun o => hp (wr.alloc o) (hle.trans (Le.alloc _ _)) (evV s) s hmem (rfl)
        clear hp hmem
        cases hh : p s
        · simp only [hh] at hm2
          go_wp2_with fail
          refine (hm2 _).mono ?_
          rintro e w1 ⟨rfl, l1⟩
          go_wp2
          go_ret
          exact ⟨ret_bool (allE_no (k := k) (d := Ev.zero) (by have := HL.out; omega) (by rw [← HS.out]; exact hh)).symm, (hle.trans (Le.alloc _ _)).trans l1⟩
        · simp only [hh] at hm2
          go_wp2_with fail
          refine (hm2 _).mono ?_
          rintro e w1 ⟨rfl, l1⟩
          go_wp2
          go_roundw
          case rel => exact ⟨k + 1, by omega, by go_num, allE_take (d := Ev.zero) (by have := HL.out; omega) HA.out (by rw [← HS.out]; exact hh), (hle.trans (Le.alloc _ _)).trans l1⟩
          case measure => simp [intOf]; omega
      · obtain rfl : k = L := by omega
        go_wp2
        go_ret
        exact ⟨ret_bool (by have := HA.out; rw [HL.out, List.take_length] at this; exact this.symm), hle⟩
  · have hxn : xs = [] := by cases xs with | nil => rfl | cons _ _ => simp at h0
    subst hxn
    go_enter Tryz.func66, Tryz.ntmps66
    go_wp2
    refine wp_loop_rounds 1 ?_
    rw [rounds_succ]
    go_wp2
    go_ret
    exact ⟨rfl, Le.refl _⟩

theorem atMostEv (f : Nat) (c : Value) (p : Ev → Bool) (hc : ∀ (u : Value) (w : World), (callFunc f #[c, u]).run Tryz.prog w = .ok (.enter f #[c, u]) w) (v : Value) (xs : List Ev) (n : Int) (w : World)
    (hp : ∀ w', Le w w' → ∀ (u : Value) (x : Ev), x ∈ xs → (xs.length : Int) ≤ n → IsEv w' u x → Calls Tryz.prog f #[c, u] w' fun e w'' => e = .returned (.bool (p x)) ∧ Le w' w'') (hx : HasE evK w v xs) (hm : xs.length ≤ 9223372036854775807) :
    Calls Tryz.prog 32 #[v, .int .i64 n, .func (.func f) #[c] #[]] w fun e w' => e = .returned (.bool (decide ((xs.length : Int) ≤ n) && xs.all p)) ∧ Le w w' := by
  by_cases hn : (xs.length : Int) ≤ n
  · have hall := allEv f c p hc v xs w (fun w' l u x hm h => hp w' l u x hm hn h) hx hm
    rw [decide_eq_true hn, Bool.true_and]
    generalize xs.all p = y at hall
    obtain ⟨a, cap, rfl, _, _, _⟩ := hx.openEv
    clear hp hc
    go_enter Tryz.func32, Tryz.ntmps32
    go_wp2_with fail
    refine hall.mono ?_
    rintro e w1 ⟨rfl, l1⟩
    go_wp2_with fail
    go_ret
    exact ⟨rfl, l1⟩
  · rw [decide_eq_false hn, Bool.false_and]
    obtain ⟨a, cap, rfl, _, _, _⟩ := hx.openEv
    have hb : n < (xs.length : Int) := by omega
    clear hp hc hn
    go_enter Tryz.func32, Tryz.ntmps32
    go_wp2_with fail
    go_ret
    exact ⟨rfl, Le.refl _⟩

set_option maxHeartbeats 1000000 in
theorem allNum (f : Nat) (c : Value) (p : Int → Bool) (hc : ∀ (u : Value) (w : World), (callFunc f #[c, u]).run Tryz.prog w = .ok (.enter f #[c, u]) w) (v : Value) (xs : List Int) (w : World)
    (hp : ∀ w', Le w w' → ∀ (u : Value) (x : Int), x ∈ xs → IsInt w' u x → Calls Tryz.prog f #[c, u] w' fun e w'' => e = .returned (.bool (p x)) ∧ Le w' w'') (hx : Has w v xs) (hm : xs.length ≤ 9223372036854775807) :
    Calls Tryz.prog 79 #[v, .func (.func f) #[c] #[]] w fun e w' => e = .returned (.bool (xs.all p)) ∧ Le w w' := by
  obtain ⟨a, cap, rfl, hc', _, hx⟩ := hx.open
  by_cases h0 : 0 < xs.length
  · obtain ⟨b, off, rfl, hcell⟩ := hx h0
    clear hx
    obtain ⟨L, hL⟩ : ∃ L, L = xs.length := ⟨_, rfl⟩
    have HL : Hid (L = xs.length) := hL
    rw [← hL] at hm h0 hc' hcell ⊢
    clear hL
    go_enter Tryz.func79, Tryz.ntmps79
    go_wp2
    go_loopw [9] (fun i wr => ∃ k : Nat, k ≤ L ∧ i = .int .i64 k ∧ Hid ((xs.take k).all p = true) ∧ Le w wr) (fun i _ => L - (intOf i).toNat)
    case atStart => exact ⟨0, by omega, rfl, rfl, Le.refl _⟩
    case round =>
      obtain ⟨k, hk, rfl, HA, hle⟩ := hrel
      by_cases hlt : k < L
      · have rA := hcell k hlt
        obtain ⟨s, hs⟩ : ∃ s, s = xs.getD k 0 := ⟨_, rfl⟩
        have HS : Hid (s = xs.getD k 0) := hs
        have hmem : s ∈ xs := by rw [hs]; exact getD_mem (by have := HL.out; omega)
        rw [← hs] at rA
        have x0 := cell_le rA hle
        have hlt' : (k : Int) < (L : Int) := by omega
        clear hs hcell
        have hm2 := hp _ hle (.int .i64 s) s hmem (rfl)
        clear hp hmem
        cases hh : p s
        · rw [hh] at hm2
          go_wp2_with fail
          refine hm2.mono ?_
          rintro e w1 ⟨rfl, l1⟩
          go_wp2
          go_ret
          exact ⟨ret_bool (allE_no (k := k) (d := 0) (by have := HL.out; omega) (by rw [← HS.out]; exact hh)).symm, hle.trans l1⟩
        · rw [hh] at hm2
          go_wp2_with fail
          refine hm2.mono ?_
          rintro e w1 ⟨rfl, l1⟩
          go_wp2
          go_roundw
          case rel => exact ⟨k + 1, by omega, by go_num, allE_take (d := 0) (by have := HL.out; omega) HA.out (by rw [← HS.out]; exact hh), hle.trans l1⟩
          case measure => simp [intOf]; omega
      · obtain rfl : k = L := by omega
        go_wp2
        go_ret
        exact ⟨ret_bool (by have := HA.out; rw [HL.out, List.take_length] at this; exact this.symm), hle⟩
  · have hxn : xs = [] := by cases xs with | nil => rfl | cons _ _ => simp at h0
    subst hxn
    go_enter Tryz.func79, Tryz.ntmps79
    go_wp2
    refine wp_loop_rounds 1 ?_
    rw [rounds_succ]
    go_wp2
    go_ret
    exact ⟨rfl, Le.refl _⟩

theorem exactlyNum (f : Nat) (c : Value) (p : Int → Bool) (hc : ∀ (u : Value) (w : World), (callFunc f #[c, u]).run Tryz.prog w = .ok (.enter f #[c, u]) w) (v : Value) (xs : List Int) (n : Int) (w : World)
    (hp : ∀ w', Le w w' → ∀ (u : Value) (x : Int), x ∈ xs → (xs.length : Int) = n → IsInt w' u x → Calls Tryz.prog f #[c, u] w' fun e w'' => e = .returned (.bool (p x)) ∧ Le w' w'') (hx : Has w v xs) (hm : xs.length ≤ 9223372036854775807) :
    Calls Tryz.prog 59 #[v, .int .i64 n, .func (.func f) #[c] #[]] w fun e w' => e = .returned (.bool (decide ((xs.length : Int) = n) && xs.all p)) ∧ Le w w' := by
  by_cases hn : (xs.length : Int) = n
  · have hall := allNum f c p hc v xs w (fun w' l u x hm h => hp w' l u x hm hn h) hx hm
    rw [decide_eq_true hn, Bool.true_and]
    generalize xs.all p = y at hall
    obtain ⟨a, cap, rfl, _, _, _⟩ := hx.open
    have hb : ((xs.length : Int) == n) = true := by simp [hn]
    clear hp hc hn
    go_enter Tryz.func59, Tryz.ntmps59
    go_wp2_with fail
    refine hall.mono ?_
    rintro e w1 ⟨rfl, l1⟩
    go_wp2_with fail
    go_ret
    exact ⟨rfl, l1⟩
  · rw [decide_eq_false hn, Bool.false_and]
    obtain ⟨a, cap, rfl, _, _, _⟩ := hx.open
    have hb : ((xs.length : Int) == n) = false := by simp [hn]
    clear hp hc hn
    go_enter Tryz.func59, Tryz.ntmps59
    go_wp2_with fail
    go_ret
    exact ⟨rfl, Le.refl _⟩

theorem atMostNum (f : Nat) (c : Value) (p : Int → Bool) (hc : ∀ (u : Value) (w : World), (callFunc f #[c, u]).run Tryz.prog w = .ok (.enter f #[c, u]) w) (v : Value) (xs : List Int) (n : Int) (w : World)
    (hp : ∀ w', Le w w' → ∀ (u : Value) (x : Int), x ∈ xs → (xs.length : Int) ≤ n → IsInt w' u x → Calls Tryz.prog f #[c, u] w' fun e w'' => e = .returned (.bool (p x)) ∧ Le w' w'') (hx : Has w v xs) (hm : xs.length ≤ 9223372036854775807) :
    Calls Tryz.prog 64 #[v, .int .i64 n, .func (.func f) #[c] #[]] w fun e w' => e = .returned (.bool (decide ((xs.length : Int) ≤ n) && xs.all p)) ∧ Le w w' := by
  by_cases hn : (xs.length : Int) ≤ n
  · have hall := allNum f c p hc v xs w (fun w' l u x hm h => hp w' l u x hm hn h) hx hm
    rw [decide_eq_true hn, Bool.true_and]
    generalize xs.all p = y at hall
    obtain ⟨a, cap, rfl, _, _, _⟩ := hx.open
    clear hp hc
    go_enter Tryz.func64, Tryz.ntmps64
    go_wp2_with fail
    refine hall.mono ?_
    rintro e w1 ⟨rfl, l1⟩
    go_wp2_with fail
    go_ret
    exact ⟨rfl, l1⟩
  · rw [decide_eq_false hn, Bool.false_and]
    obtain ⟨a, cap, rfl, _, _, _⟩ := hx.open
    have hb : n < (xs.length : Int) := by omega
    clear hp hc hn
    go_enter Tryz.func64, Tryz.ntmps64
    go_wp2_with fail
    go_ret
    exact ⟨rfl, Le.refl _⟩

set_option maxHeartbeats 1000000 in
theorem allNum0 (f : Nat) (p : Int → Bool) (hc : ∀ (u : Value) (w : World), (callFunc f #[u]).run Tryz.prog w = .ok (.enter f #[u]) w) (v : Value) (xs : List Int) (w : World)
    (hp : ∀ w', Le w w' → ∀ (u : Value) (x : Int), x ∈ xs → IsInt w' u x → Calls Tryz.prog f #[u] w' fun e w'' => e = .returned (.bool (p x)) ∧ Le w' w'') (hx : Has w v xs) (hm : xs.length ≤ 9223372036854775807) :
    Calls Tryz.prog 79 #[v, .func (.func f) #[] #[]] w fun e w' => e = .returned (.bool (xs.all p)) ∧ Le w w' := by
  obtain ⟨a, cap, rfl, hc', _, hx⟩ := hx.open
  by_cases h0 : 0 < xs.length
  · obtain ⟨b, off, rfl, hcell⟩ := hx h0
    clear hx
    obtain ⟨L, hL⟩ : ∃ L, L = xs.length := ⟨_, rfl⟩
    have HL : Hid (L = xs.length) := hL
    rw [← hL] at hm h0 hc' hcell ⊢
    clear hL
    go_enter Tryz.func79, Tryz.ntmps79
    go_wp2
    go_loopw [9] (fun i wr => ∃ k : Nat, k ≤ L ∧ i = .int .i64 k ∧ Hid ((xs.take k).all p = true) ∧ Le w wr) (fun i _ => L - (intOf i).toNat)
    case atStart => exact ⟨0, by omega, rfl, rfl, Le.refl _⟩
    case round =>
      obtain ⟨k, hk, rfl, HA, hle⟩ := hrel
      by_cases hlt : k < L
      · have rA := hcell k hlt
        obtain ⟨s, hs⟩ : ∃ s, s = xs.getD k 0 := ⟨_, rfl⟩
        have HS : Hid (s = xs.getD k 0) := hs
        have hmem : s ∈ xs := by rw [hs]; exact getD_mem (by have := HL.out; omega)
        rw [← hs] at rA
        have x0 := cell_le rA hle
        have hlt' : (k : Int) < (L : Int) := by omega
        clear hs hcell
        have hm2 := hp _ hle (.int .i64 s) s hmem (rfl)
        clear hp hmem
        cases hh : p s
        · rw [hh] at hm2
          go_wp2_with fail
          refine hm2.mono ?_
          rintro e w1 ⟨rfl, l1⟩
          go_wp2
          go_ret
          exact ⟨ret_bool (allE_no (k := k) (d := 0) (by have := HL.out; omega) (by rw [← HS.out]; exact hh)).symm, hle.trans l1⟩
        · rw [hh] at hm2
          go_wp2_with fail
          refine hm2.mono ?_
          rintro e w1 ⟨rfl, l1⟩
          go_wp2
          go_roundw
          case rel => exact ⟨k + 1, by omega, by go_num, allE_take (d := 0) (by have := HL.out; omega) HA.out (by rw [← HS.out]; exact hh), hle.trans l1⟩
          case measure => simp [intOf]; omega
      · obtain rfl : k = L := by omega
        go_wp2
        go_ret
        exact ⟨ret_bool (by have := HA.out; rw [HL.out, List.take_length] at this; exact this.symm), hle⟩
  · have hxn : xs = [] := by cases xs with | nil => rfl | cons _ _ => simp at h0
    subst hxn
    go_enter Tryz.func79, Tryz.ntmps79
    go_wp2
    refine wp_loop_rounds 1 ?_
    rw [rounds_succ]
    go_wp2
    go_ret
    exact ⟨rfl, Le.refl _⟩

theorem exactlyNum0 (f : Nat) (p : Int → Bool) (hc : ∀ (u : Value) (w : World), (callFunc f #[u]).run Tryz.prog w = .ok (.enter f #[u]) w) (v : Value) (xs : List Int) (n : Int) (w : World)
    (hp : ∀ w', Le w w' → ∀ (u : Value) (x : Int), x ∈ xs → (xs.length : Int) = n → IsInt w' u x → Calls Tryz.prog f #[u] w' fun e w'' => e = .returned (.bool (p x)) ∧ Le w' w'') (hx : Has w v xs) (hm : xs.length ≤ 9223372036854775807) :
    Calls Tryz.prog 59 #[v, .int .i64 n, .func (.func f) #[] #[]] w fun e w' => e = .returned (.bool (decide ((xs.length : Int) = n) && xs.all p)) ∧ Le w w' := by
  by_cases hn : (xs.length : Int) = n
  · have hall := allNum0 f p hc v xs w (fun w' l u x hm h => hp w' l u x hm hn h) hx hm
    rw [decide_eq_true hn, Bool.true_and]
    generalize xs.all p = y at hall
    obtain ⟨a, cap, rfl, _, _, _⟩ := hx.open
    have hb : ((xs.length : Int) == n) = true := by simp [hn]
    clear hp hc hn
    go_enter Tryz.func59, Tryz.ntmps59
    go_wp2_with fail
    refine hall.mono ?_
    rintro e w1 ⟨rfl, l1⟩
    go_wp2_with fail
    go_ret
    exact ⟨rfl, l1⟩
  · rw [decide_eq_false hn, Bool.false_and]
    obtain ⟨a, cap, rfl, _, _, _⟩ := hx.open
    have hb : ((xs.length : Int) == n) = false := by simp [hn]
    clear hp hc hn
    go_enter Tryz.func59, Tryz.ntmps59
    go_wp2_with fail
    go_ret
    exact ⟨rfl, Le.refl _⟩

theorem atMostNum0 (f : Nat) (p : Int → Bool) (hc : ∀ (u : Value) (w : World), (callFunc f #[u]).run Tryz.prog w = .ok (.enter f #[u]) w) (v : Value) (xs : List Int) (n : Int) (w : World)
    (hp : ∀ w', Le w w' → ∀ (u : Value) (x : Int), x ∈ xs → (xs.length : Int) ≤ n → IsInt w' u x → Calls Tryz.prog f #[u] w' fun e w'' => e = .returned (.bool (p x)) ∧ Le w' w'') (hx : Has w v xs) (hm : xs.length ≤ 9223372036854775807) :
    Calls Tryz.prog 64 #[v, .int .i64 n, .func (.func f) #[] #[]] w fun e w' => e = .returned (.bool (decide ((xs.length : Int) ≤ n) && xs.all p)) ∧ Le w w' := by
  by_cases hn : (xs.length : Int) ≤ n
  · have hall := allNum0 f p hc v xs w (fun w' l u x hm h => hp w' l u x hm hn h) hx hm
    rw [decide_eq_true hn, Bool.true_and]
    generalize xs.all p = y at hall
    obtain ⟨a, cap, rfl, _, _, _⟩ := hx.open
    clear hp hc
    go_enter Tryz.func64, Tryz.ntmps64
    go_wp2_with fail
    refine hall.mono ?_
    rintro e w1 ⟨rfl, l1⟩
    go_wp2_with fail
    go_ret
    exact ⟨rfl, l1⟩
  · rw [decide_eq_false hn, Bool.false_and]
    obtain ⟨a, cap, rfl, _, _, _⟩ := hx.open
    have hb : n < (xs.length : Int) := by omega
    clear hp hc hn
    go_enter Tryz.func64, Tryz.ntmps64
    go_wp2_with fail
    go_ret
    exact ⟨rfl, Le.refl _⟩

end Go.Proofs.YtibleipfablniaaGreat

/-
  THE WALKS over package start's looker (within, mayPlace, isThread, mayHolder, maySlot, mayEvent, mayCursors, mayRing): what each answers, where the Config may be. Condition: that the slots can be copied.
-/
namespace Go.Proofs.YtibleipfablniaaGreat
open Go.RowKit

theorem Has.len {w : World} {q : Sl} {xs : List Int} (h : Has w (slV q) xs) : q.2.1 = xs.length := by
  obtain ⟨a, cap, hv, _⟩ := h
  simp only [slV, Value.slice.injEq] at hv
  exact hv.2.1
/-- A looker's six cells. -/
abbrev cellsK (c : Cfg) (q : Sl) : Array Value := #[.int .i64 c.o, .int .i64 c.r, .int .i64 c.l, .int .i64 c.t, .int .i64 c.s, slV q]
abbrev lookV (c : Cfg) (q : Sl) : Value := .agg (cellsK c q)
theorem Box.look {w : World} {g : Nat} {c : Cfg} {q : Sl} {t : TypeId} (h : Box w g (cellsK c q) t) :
    w.cell? ⟨g, 0, none⟩ = some (.int .i64 c.o) ∧ w.cell? ⟨g, 1, none⟩ = some (.int .i64 c.r) ∧ w.cell? ⟨g, 2, none⟩ = some (.int .i64 c.l) ∧ w.cell? ⟨g, 3, none⟩ = some (.int .i64 c.t) ∧ w.cell? ⟨g, 4, none⟩ = some (.int .i64 c.s) ∧ w.cell? ⟨g, 5, none⟩ = some (slV q) :=
  ⟨h.cell 0, h.cell 1, h.cell 2, h.cell 3, h.cell 4, h.cell 5⟩

theorem startWithin (x a b : Int) (w : World) : Calls Tryz.prog 61 #[.int .i64 x, .int .i64 a, .int .i64 b] w fun e w' => e = .returned (.bool (inB a x b)) ∧ w = w' := by
  by_cases h : a ≤ x
  all_goals
    go_enter Tryz.func61, Tryz.ntmps61
    go_wp2
    go_ret
    exact ⟨ret_bool (by simp [inB, h]; try omega), rfl⟩

theorem startMayPlace (x : Int) (w : World) : Calls Tryz.prog 63 #[.int .i64 x] w fun e w' => e = .returned (.bool (inB 0 x 1048576)) ∧ w = w' := by
  go_enter Tryz.func63, Tryz.ntmps63
  go_wp2_with fail
  refine (startWithin _ _ _ _).mono ?_
  rintro e _ ⟨rfl, rfl⟩
  go_wp2_with fail
  go_ret
  exact ⟨rfl, rfl⟩

theorem lookIsThread (c : Cfg) (q : Sl) (x : Int) (w : World) (hc : c.ok = true) : Calls Tryz.prog 65 #[lookV c q, .int .i64 x] w fun e w' => e = .returned (.bool (inB 0 x (c.t - 1))) ∧ Le w w' := by
  obtain ⟨_, _, _, ⟨t0, t1⟩, _, _⟩ := Cfg.ok_cases hc
  have hl := Le.alloc w (.cells (cellsK c q) 75)
  have hs := fun w' => startWithin x 0 (c.t - 1) w'
  go_enter Tryz.func65, Tryz.ntmps65
  go_wp2_with fail
  refine (hs _).mono ?_
  rintro e _ ⟨rfl, rfl⟩
  go_wp2_with fail
  go_ret
  exact ⟨rfl, hl⟩

theorem lookMayHolder (c : Cfg) (q : Sl) (x : Int) (w : World) : Calls Tryz.prog 53 #[lookV c q, .int .i64 x] w fun e w' => e = .returned (.bool (inB 0 x c.t)) ∧ Le w w' := by
  have hl := Le.alloc w (.cells (cellsK c q) 75)
  go_enter Tryz.func53, Tryz.ntmps53
  go_wp2_with fail
  refine (startWithin _ _ _ _).mono ?_
  rintro e _ ⟨rfl, rfl⟩
  go_wp2_with fail
  go_ret
  exact ⟨rfl, hl⟩

theorem lookMaySlot (c : Cfg) (q : Sl) (s : Slt) (w : World) (hc : c.ok = true) : Calls Tryz.prog 55 #[lookV c q, s.v] w fun e w' => e = .returned (.bool (inB 0 s.t (c.t - 1))) ∧ Le w w' := by
  have hl := (Le.alloc w (.cells (cellsK c q) 75)).trans (Le.alloc _ (.cells #[.int .i64 s.c, .int .i64 s.r, .int .i64 s.a, .int .i64 s.t, .int .i64 s.b] 50))
  have hs := fun w' => lookIsThread c q s.t w' hc
  go_enter Tryz.func55, Tryz.ntmps55
  go_wp2_with fail
  refine (hs _).mono ?_
  rintro e w1 ⟨rfl, l1⟩
  go_wp2_with fail
  go_ret
  exact ⟨rfl, hl.trans l1⟩

set_option maxHeartbeats 400000 in
theorem lookMayEvent (c : Cfg) (q : Sl) (E : Ev) (w : World) (hc : c.ok = true) : Calls Tryz.prog 33 #[lookV c q, evV E] w fun e w' => e = .returned (.bool (evB c E)) ∧ Le w w' := by
  have hl := (Le.alloc w (.cells (cellsK c q) 75)).trans (Le.alloc _ (.cells #[.int .i64 E.t, .bool E.ca, .int .i64 E.c, .int .i64 E.r, .int .i64 E.a, .int .i64 E.an] 60))
  have hb := Box.new (w.alloc (.cells (cellsK c q) 75)) #[.int .i64 E.t, .bool E.ca, .int .i64 E.c, .int .i64 E.r, .int .i64 E.a, .int .i64 E.an] 60
  rw [World.size_alloc] at hb
  have hs := fun w' => lookIsThread c q E.t w' hc
  have ho := fun w' => operMay E.c E.r E.a w'
  simp only [evB]
  cases h1 : inB 0 E.t (c.t - 1)
  · simp only [h1] at hs
    go_enter Tryz.func33, Tryz.ntmps33
    go_wp2_with fail
    refine (hs _).mono ?_
    rintro e w1 ⟨rfl, l1⟩
    go_wp2_with fail
    go_ret
    exact ⟨rfl, hl.trans l1⟩
  · simp only [h1] at hs
    go_enter Tryz.func33, Tryz.ntmps33
    go_wp2_with fail
    refine (hs _).mono ?_
    rintro e w1 ⟨rfl, l1⟩
    replace hb := hb.le l1
    have y2 := hb.cell 2
    have y3 := hb.cell 3
    have y4 := hb.cell 4
    simp only [List.getElem?_toArray, List.getElem?_cons_succ, List.getElem?_cons_zero] at y2 y3 y4
    go_wp2_with fail
    refine (ho _).mono ?_
    rintro e w2 ⟨rfl, l2⟩
    go_wp2_with fail
    go_ret
    exact ⟨rfl, (hl.trans l1).trans l2⟩

set_option maxHeartbeats 1000000 in
theorem lookMayCursors (c : Cfg) (q : Sl) (v : Value) (Rs : List Rg) (cs : List Int) (w : World) (hR : HasRs w (slV q) Rs) (hx : Has w v cs) (hn : cs.length = Rs.length) (hm : Rs.length * 48 ≤ 140737488351232) :
    Calls Tryz.prog 58 #[lookV c q, v] w fun e w' => e = .returned (.bool (cursOK Rs cs)) ∧ Le w w' := by
  obtain ⟨qa, qn, qc⟩ := q
  obtain ⟨a, cap, rfl, hc, _, hx⟩ := hx.open
  obtain ⟨a', cap', hv, hc', _, hRo⟩ := hR.open
  clear hR
  simp only [slV, Value.slice.injEq] at hv
  obtain ⟨rfl, rfl, rfl⟩ := hv
  rw [← hn] at hRo hc' hm ⊢
  have HN : Hid (cs.length = Rs.length) := hn
  clear hn
  by_cases h0 : 0 < cs.length
  · obtain ⟨b, off, rfl, hcell⟩ := hx h0
    obtain ⟨b', off', rfl, hring⟩ := hRo h0
    clear hx hRo
    obtain ⟨L, hL⟩ : ∃ L, L = cs.length := ⟨_, rfl⟩
    have HL : Hid (L = cs.length) := hL
    rw [← hL] at h0 hc hc' hm hcell hring ⊢
    clear hL
    have hb := Box.new w (cellsK c (some ⟨b', off', none⟩, L, qc)) 75
    have hl := Le.alloc w (.cells (cellsK c (some ⟨b', off', none⟩, L, qc)) 75)
    have z5 := hb.look.2.2.2.2.2
    simp only [slV] at z5
    go_enter Tryz.func58, Tryz.ntmps58
    go_wp2
    generalize hW : w.alloc (.cells (cellsK c (some ⟨b', off', none⟩, L, qc)) 75) = W at hb hl z5 ⊢
    clear hW hb
    go_loopw [10] (fun i wr => ∃ k : Nat, k ≤ L ∧ i = .int .i64 k ∧ Hid (∀ i, i < k → inB (Rs.getD i Rg.zero).h (cs.getD i 0) (Rs.getD i Rg.zero).t = true) ∧ Le W wr) (fun i _ => L - (intOf i).toNat)
    case atStart => exact ⟨0, by omega, rfl, (fun i hi => by omega), Le.refl _⟩
    case round =>
      obtain ⟨k, hk, rfl, HA, hle⟩ := hrel
      by_cases hlt : k < L
      · obtain ⟨x, hxk⟩ : ∃ x, x = cs.getD k 0 := ⟨_, rfl⟩
        obtain ⟨R, hRk⟩ : ∃ R, R = Rs.getD k Rg.zero := ⟨_, rfl⟩
        have c0 := cell_le (cell_le (hcell k hlt) hl) hle
        obtain ⟨u, rA, _⟩ := hring k hlt
        rw [← hxk] at c0
        rw [← hRk] at rA
        have HX : Hid (x = cs.getD k 0) := hxk
        have HR : Hid (R = Rs.getD k Rg.zero) := hRk
        obtain ⟨x0, x1, x2, x3⟩ := (rA.le hl).le hle
        replace z5 := cell_le z5 hle
        have hlt' : (k : Int) < (L : Int) := by omega
        have hs := fun w' => startWithin x R.h R.t w'
        clear hxk hRk hcell hring rA
        cases hh : inB R.h x R.t
        · simp only [hh] at hs
          go_wp2_with fail
          refine (hs _).mono ?_
          rintro e _ ⟨rfl, rfl⟩
          go_wp2_with fail
          go_ret
          exact ⟨ret_bool (cursOK_no (k := k) (by have := HL.out; omega) (by rw [← HX.out, ← HR.out]; exact hh)).symm, (hl.trans hle).trans (Le.alloc _ _)⟩
        · simp only [hh] at hs
          go_wp2_with fail
          refine (hs _).mono ?_
          rintro e _ ⟨rfl, rfl⟩
          go_wp2_with fail
          go_roundw
          case rel =>
            refine ⟨k + 1, by omega, by go_num, fun i hi => ?_, hle.trans (Le.alloc _ _)⟩
            rcases Nat.lt_or_ge i k with h | h
            · exact HA.out i h
            · obtain rfl : i = k := by omega
              rw [← HX.out, ← HR.out]; exact hh
          case measure => simp [intOf]; omega
      · obtain rfl : k = L := by omega
        go_wp2_with fail
        go_ret
        exact ⟨ret_bool (cursOK_take HA.out HL.out).symm, hl.trans hle⟩
  · have hxn : cs = [] := by cases cs with | nil => rfl | cons _ _ => simp at h0
    subst hxn
    go_enter Tryz.func58, Tryz.ntmps58
    go_wp2
    refine wp_loop_rounds 1 ?_
    rw [rounds_succ]
    go_wp2
    go_ret
    exact ⟨rfl, Le.alloc _ _⟩

set_option maxHeartbeats 2000000 in
theorem lookMayRing (c : Cfg) (q : Sl) (v : Value) (R : Rg) (w : World) (hc : c.ok = true) (hx : HasR w v R) (hf : FitR R) :
    Calls Tryz.prog 27 #[lookV c q, v] w fun e w' => e = .returned (.bool (ringB c R)) ∧ Le w w' := by
  obtain ⟨u, rfl, hu⟩ := hx
  have hb := Box.new (w.alloc (.cells (cellsK c q) 75)) (cellsR R.h R.t R.f u) 46
  have hk := (Box.new w (cellsK c q) 75).le (Le.alloc _ (.cells (cellsR R.h R.t R.f u) 46))
  rw [World.size_alloc] at hb
  have hl := (Le.alloc w (.cells (cellsK c q) 75)).trans (Le.alloc _ (.cells (cellsR R.h R.t R.f u) 46))
  have m1 := ringMay (ringV R.h R.t R.f u) R _ ⟨u, rfl, hu.le hl⟩ hf
  have hlen := hu.len
  unfold FitR at hf
  have hss := fun w' (l : Le w w') => allSlot 55 (lookV c q) (fun s => inB 0 s.t (c.t - 1)) (fun _ _ => by kernel_rfl) (slV u) R.ss w' (fun w'' _ v s _ h => by rw [show v = s.v from h]; exact lookMaySlot c q s w'' hc) (hu.le l) (by omega)
  have m3 := fun w' => lookMayHolder c q R.f w'
  simp only [ringB]
  obtain ⟨ua, n, ucap⟩ := u
  simp only at hlen
  rw [← hlen]
  clear hlen hf hu
  cases h1 : mayR R
  · rw [h1] at m1
    go_enter Tryz.func27, Tryz.ntmps27
    go_wp2_with fail
    refine m1.mono ?_
    rintro e w1 ⟨rfl, l1⟩
    go_wp2_with fail
    go_ret
    exact ⟨rfl, hl.trans l1⟩
  rw [h1] at m1
  by_cases h2 : (n : Int) = c.s
  case neg =>
    have h2b : ((n : Int) == c.s) = false := by simp [h2]
    rw [decide_eq_false h2]
    clear h2
    go_enter Tryz.func27, Tryz.ntmps27
    go_wp2_with fail
    refine m1.mono ?_
    rintro e w1 ⟨rfl, l1⟩
    obtain ⟨b0, b1, b2, b3, _, _, _, _⟩ := (hb.le l1).ring
    obtain ⟨k0, k1, k2, k3, k4, k5⟩ := (hk.le l1).look
    simp only [slV] at b3
    go_wp2_with fail
    go_ret
    exact ⟨rfl, hl.trans l1⟩
  have h2b : ((n : Int) == c.s) = true := by simp [h2]
  rw [decide_eq_true h2]
  clear h2
  cases h3 : inB 0 R.f c.t
  · simp only [h3] at m3
    go_enter Tryz.func27, Tryz.ntmps27
    go_wp2_with fail
    refine m1.mono ?_
    rintro e w1 ⟨rfl, l1⟩
    obtain ⟨b0, b1, b2, b3, _, _, _, _⟩ := (hb.le l1).ring
    obtain ⟨k0, k1, k2, k3, k4, k5⟩ := (hk.le l1).look
    simp only [slV] at b3
    go_wp2_with fail
    refine (m3 _).mono ?_
    rintro e w2 ⟨rfl, l2⟩
    go_wp2_with fail
    go_ret
    exact ⟨rfl, (hl.trans l1).trans l2⟩
  · simp only [h3] at m3
    go_enter Tryz.func27, Tryz.ntmps27
    go_wp2_with fail
    refine m1.mono ?_
    rintro e w1 ⟨rfl, l1⟩
    obtain ⟨b0, b1, b2, b3, _, _, _, _⟩ := (hb.le l1).ring
    obtain ⟨k0, k1, k2, k3, k4, k5⟩ := (hk.le l1).look
    simp only [slV] at b3
    go_wp2_with fail
    refine (m3 _).mono ?_
    rintro e w2 ⟨rfl, l2⟩
    obtain ⟨_, _, _, b3', _, _, _, _⟩ := ((hb.le l1).le l2).ring
    obtain ⟨k0', k1', k2', k3', k4', k5'⟩ := ((hk.le l1).le l2).look
    go_wp2_with fail
    refine (hss _ ((hl.trans l1).trans l2)).mono ?_
    rintro e w3 ⟨rfl, l3⟩
    go_wp2_with fail
    go_ret
    exact ⟨rfl, ((hl.trans l1).trans l2).trans l3⟩

end Go.Proofs.YtibleipfablniaaGreat

/-
  PLAIN GROUND, NO WALK: rows of numbers behind a store into a variable that holds a state. No condition.
-/
namespace Go.Proofs.YtibleipfablniaaGreat
open Go.RowKit

theorem cells4_int (vs : Nat → Sl) (i : Nat) (x : Int) : (cells4 vs)[i]? ≠ some (.int .i64 x) := by
  intro h
  match i, h with
  | 0, h => cases h
  | 1, h => cases h
  | 2, h => cases h
  | 3, h => cases h
  | n + 4, h => simp at h

theorem Has.setBox {w : World} {g i : Nat} {v u : Value} {xs : List Int} {vs : Nat → Sl} {t : TypeId} (h : Has w v xs) (hb : Box w g (cells4 vs) t) : Has (w.setCell ⟨g, i, none⟩ u) v xs := by
  obtain ⟨a, cap, hv, hc, hn, hx⟩ := h
  refine ⟨a, cap, hv, hc, hn, fun hp => ?_⟩
  obtain ⟨b, off, ha, hcell⟩ := hx hp
  refine ⟨b, off, ha, fun j hj => ?_⟩
  have h1 := hcell j hj
  have hne : b ≠ g := by
    intro e
    subst e
    rw [hb.cell (off + j)] at h1
    exact cells4_int vs _ _ h1
  rw [World.cell?_setCell_other _ _ _ _ (fun e => hne (by cases e; rfl))]
  exact h1

theorem Box.upd4 {w : World} {g i : Nat} {vs : Nat → Sl} {t : TypeId} (hb : Box w g (cells4 vs) t) (hi : i < 4) (q : Sl) : Box (w.setCell ⟨g, i, none⟩ (slV q)) g (cells4 (upd vs i q)) t := by
  have := hb.set i (slV q)
  rwa [cells4_upd vs hi] at this

theorem Has.set4 {w : World} {g : Nat} {v : Value} {xs : List Int} {vs us : Nat → Sl} {t : TypeId} (h : Has w v xs) (hb : Box w g (cells4 vs) t) :
    Has ((((w.setCell ⟨g, 0, none⟩ (slV (us 0))).setCell ⟨g, 1, none⟩ (slV (us 1))).setCell ⟨g, 2, none⟩ (slV (us 2))).setCell ⟨g, 3, none⟩ (slV (us 3))) v xs :=
  (((h.setBox hb).setBox (hb.upd4 (by omega) (us 0))).setBox ((hb.upd4 (by omega) (us 0)).upd4 (by omega) (us 1))).setBox (((hb.upd4 (by omega) (us 0)).upd4 (by omega) (us 1)).upd4 (by omega) (us 2))

theorem Box.all4 {w : World} {g : Nat} {vs us : Nat → Sl} {t : TypeId} (hb : Box w g (cells4 vs) t) :
    Box ((((w.setCell ⟨g, 0, none⟩ (slV (us 0))).setCell ⟨g, 1, none⟩ (slV (us 1))).setCell ⟨g, 2, none⟩ (slV (us 2))).setCell ⟨g, 3, none⟩ (slV (us 3))) g (cells4 us) t :=
  (((hb.set 0 _).set 1 _).set 2 _).set 3 _
theorem Box.other4 {w : World} {g g' : Nat} {cs : Array Value} {t : TypeId} (hb : Box w g cs t) (hne : g ≠ g') (x0 x1 x2 x3 : Value) :
    Box ((((w.setCell ⟨g', 0, none⟩ x0).setCell ⟨g', 1, none⟩ x1).setCell ⟨g', 2, none⟩ x2).setCell ⟨g', 3, none⟩ x3) g cs t :=
  (((hb.other hne 0 _).other hne 1 _).other hne 2 _).other hne 3 _

theorem Box.laterSt {w : World} {g : Nat} {vs : Nat → Sl} {t : TypeId} (h : Box w g (cells4 vs) t) :
    (∀ X : Later w, X.w.cell? ⟨g, 0, none⟩ = some (slV (vs 0))) ∧ (∀ X : Later w, X.w.cell? ⟨g, 1, none⟩ = some (slV (vs 1))) ∧ (∀ X : Later w, X.w.cell? ⟨g, 2, none⟩ = some (slV (vs 2))) ∧ (∀ X : Later w, X.w.cell? ⟨g, 3, none⟩ = some (slV (vs 3))) :=
  ⟨h.later 0, h.later 1, h.later 2, h.later 3⟩

end Go.Proofs.YtibleipfablniaaGreat

/-
  THE WALKS over package object's three methods, its table of them, Apply and May: what each answers, for every object, state and operation. Condition: the state's rows can be copied.
-/
namespace Go.Proofs.YtibleipfablniaaGreat
open Go.RowKit

/-- A call's cells: the state's, the operation's. -/
abbrev cells7 (vs : Nat → Sl) (c r a : Int) : Array Value := #[slV (vs 0), slV (vs 1), slV (vs 2), slV (vs 3), .int .i64 c, .int .i64 r, .int .i64 a]

theorem Box.call {w : World} {g : Nat} {vs : Nat → Sl} {c r a : Int} {t : TypeId} (h : Box w g (cells7 vs c r a) t) :
    w.cell? ⟨g, 0, none⟩ = some (slV (vs 0)) ∧ w.cell? ⟨g, 1, none⟩ = some (slV (vs 1)) ∧ w.cell? ⟨g, 2, none⟩ = some (slV (vs 2)) ∧ w.cell? ⟨g, 3, none⟩ = some (slV (vs 3)) ∧
    w.cell? ⟨g, 4, none⟩ = some (.int .i64 c) ∧ w.cell? ⟨g, 5, none⟩ = some (.int .i64 r) ∧ w.cell? ⟨g, 6, none⟩ = some (.int .i64 a) :=
  ⟨h.cell 0, h.cell 1, h.cell 2, h.cell 3, h.cell 4, h.cell 5, h.cell 6⟩

/-- The three methods, as cells. -/
abbrev threeV : Array Value := #[.func (.func 110) #[] #[], .func (.func 111) #[] #[], .func (.func 112) #[] #[]]

set_option maxHeartbeats 400000 in
theorem objThree (w : World) : Calls Tryz.prog 99 #[] w fun e w' => e = .returned (.slice (some ⟨w.heap.size, 0, none⟩) 3 3) ∧ w.alloc (.cells threeV 123) = w' := by
  go_enter Tryz.func99, Tryz.ntmps99
  go_wp2
  go_ret
  exact ⟨rfl, rfl⟩

set_option maxHeartbeats 1000000 in
theorem ofStore (vs : Nat → Sl) (s : St) (c r a : Int) (w : World) (hx : HasS w (stV vs) s) (hf : Fit s) :
    Calls Tryz.prog 110 #[.agg (cells7 vs c r a)] w fun e w' => ∃ v', e = .returned (.tuple #[v', .int .i64 (stoS s c r a 300).2.1, .int .i64 (stoS s c r a 300).2.2]) ∧ OwnS w' w.heap.size v' (stoS s c r a 300).1 ∧ Le w w' := by
  have hl := (Le.alloc w (.cells (cells7 vs c r a) 125)).trans (Le.alloc _ (.cells (cells4 fun _ => slZ) 54))
  have hb1 := (Box.new w (cells7 vs c r a) 125).le (Le.alloc _ (.cells (cells4 fun _ => slZ) 54))
  have hb2 := Box.new (w.alloc (.cells (cells7 vs c r a) 125)) (cells4 fun _ => slZ) 54
  simp only [World.size_alloc] at hb2
  have hap := storeApply (stV vs) s c r a _ (hx.le hl) hf
  generalize stoS s c r a 300 = S1 at hap ⊢
  go_enter Tryz.func110, Tryz.ntmps110
  go_wp2_with fail
  refine hap.mono ?_
  rintro e w1 ⟨_, rfl, ⟨q, rfl, o1⟩, l1⟩
  replace o1 := fun i hi => (o1 i hi).base (base' := w.heap.size) hl.size
  obtain ⟨z0, z1, z2, z3, f0, f1, f2, f3⟩ := (hb2.le l1).st
  go_wp2_with fail
  refine bodyPost_ret (v := .tuple #[stV q, .int .i64 S1.2.1, .int .i64 S1.2.2]) (by simp [results, Tryz.results110, go_sem, z0, z1, z2, z3]) rfl ⟨_, rfl, ⟨q, rfl, fun i hi => ?_⟩, ?_⟩
  · exact (o1 i hi).set4 (hb2.le l1) (by decide) _ _ _ _
  · exact (hl.trans l1).set4 (by omega) _ _ _ _

set_option maxHeartbeats 1000000 in
theorem ofFds (vs : Nat → Sl) (s : St) (c r a : Int) (w : World) (hx : HasS w (stV vs) s) (hf : Fit s) :
    Calls Tryz.prog 111 #[.agg (cells7 vs c r a)] w fun e w' => ∃ v', e = .returned (.tuple #[v', .int .i64 (fdsS s c r a 400).2.1, .int .i64 (fdsS s c r a 400).2.2]) ∧ OwnS w' w.heap.size v' (fdsS s c r a 400).1 ∧ Le w w' := by
  have hl := (Le.alloc w (.cells (cells7 vs c r a) 125)).trans (Le.alloc _ (.cells (cells4 fun _ => slZ) 54))
  have hb1 := (Box.new w (cells7 vs c r a) 125).le (Le.alloc _ (.cells (cells4 fun _ => slZ) 54))
  have hb2 := Box.new (w.alloc (.cells (cells7 vs c r a) 125)) (cells4 fun _ => slZ) 54
  simp only [World.size_alloc] at hb2
  have hap := fdsApply (stV vs) s c r a _ (hx.le hl) hf
  generalize fdsS s c r a 400 = S1 at hap ⊢
  go_enter Tryz.func111, Tryz.ntmps111
  go_wp2_with fail
  refine hap.mono ?_
  rintro e w1 ⟨_, rfl, ⟨q, rfl, o1⟩, l1⟩
  replace o1 := fun i hi => (o1 i hi).base (base' := w.heap.size) hl.size
  obtain ⟨z0, z1, z2, z3, f0, f1, f2, f3⟩ := (hb2.le l1).st
  go_wp2_with fail
  refine bodyPost_ret (v := .tuple #[stV q, .int .i64 S1.2.1, .int .i64 S1.2.2]) (by simp [results, Tryz.results111, go_sem, z0, z1, z2, z3]) rfl ⟨_, rfl, ⟨q, rfl, fun i hi => ?_⟩, ?_⟩
  · exact (o1 i hi).set4 (hb2.le l1) (by decide) _ _ _ _
  · exact (hl.trans l1).set4 (by omega) _ _ _ _

set_option maxHeartbeats 1000000 in
theorem ofQueue (vs : Nat → Sl) (s : St) (c r a : Int) (w : World) (hx : HasS w (stV vs) s) (hf : Fit s) :
    Calls Tryz.prog 112 #[.agg (cells7 vs c r a)] w fun e w' => ∃ v', e = .returned (.tuple #[v', .int .i64 (queS s c r a 500).2.1, .int .i64 (queS s c r a 500).2.2]) ∧ OwnS w' w.heap.size v' (queS s c r a 500).1 ∧ Le w w' := by
  have hl := (Le.alloc w (.cells (cells7 vs c r a) 125)).trans (Le.alloc _ (.cells (cells4 fun _ => slZ) 54))
  have hb1 := (Box.new w (cells7 vs c r a) 125).le (Le.alloc _ (.cells (cells4 fun _ => slZ) 54))
  have hb2 := Box.new (w.alloc (.cells (cells7 vs c r a) 125)) (cells4 fun _ => slZ) 54
  simp only [World.size_alloc] at hb2
  have hap := queApply (stV vs) s c r a _ (hx.le hl) hf
  generalize queS s c r a 500 = S1 at hap ⊢
  go_enter Tryz.func112, Tryz.ntmps112
  go_wp2_with fail
  refine hap.mono ?_
  rintro e w1 ⟨_, rfl, ⟨q, rfl, o1⟩, l1⟩
  replace o1 := fun i hi => (o1 i hi).base (base' := w.heap.size) hl.size
  obtain ⟨z0, z1, z2, z3, f0, f1, f2, f3⟩ := (hb2.le l1).st
  go_wp2_with fail
  refine bodyPost_ret (v := .tuple #[stV q, .int .i64 S1.2.1, .int .i64 S1.2.2]) (by simp [results, Tryz.results112, go_sem, z0, z1, z2, z3]) rfl ⟨_, rfl, ⟨q, rfl, fun i hi => ?_⟩, ?_⟩
  · exact (o1 i hi).set4 (hb2.le l1) (by decide) _ _ _ _
  · exact (hl.trans l1).set4 (by omega) _ _ _ _

set_option maxHeartbeats 4000000 in
theorem objApply0 (v : Value) (s : St) (c r a : Int) (w : World) (hx : HasS w v s) (hf : Fit s) :
    Calls Tryz.prog 78 #[.int .i64 0, v, opV c r a] w fun e w' => ∃ v', e = .returned (.tuple #[v', .int .i64 (objS 0 s c r a 600).2.1, .int .i64 (objS 0 s c r a 600).2.2]) ∧ OwnS w' w.heap.size v' (objS 0 s c r a 600).1 ∧ Le w w' := by
  have hx0 := hx
  obtain ⟨vs, rfl, hr⟩ := hx
  have hl := ((Le.alloc w (.cells (cells4 vs) 54)).trans (Le.alloc _ (.cells #[.int .i64 c, .int .i64 r, .int .i64 a] 48))).trans (Le.alloc _ (.cells (cells4 fun _ => slZ) 54))
  have hb1 := ((Box.new w (cells4 vs) 54).le (Le.alloc _ (.cells #[.int .i64 c, .int .i64 r, .int .i64 a] 48))).le (Le.alloc _ (.cells (cells4 fun _ => slZ) 54))
  have hb2 := (Box.new (w.alloc (.cells (cells4 vs) 54)) #[.int .i64 c, .int .i64 r, .int .i64 a] 48).le (Le.alloc _ (.cells (cells4 fun _ => slZ) 54))
  have hb3 := Box.new ((w.alloc (.cells (cells4 vs) 54)).alloc (.cells #[.int .i64 c, .int .i64 r, .int .i64 a] 48)) (cells4 fun _ => slZ) 54
  simp only [World.size_alloc] at hb1 hb2 hb3
  have hA := Le.alloc (((w.alloc (.cells (cells4 vs) 54)).alloc (.cells #[.int .i64 c, .int .i64 r, .int .i64 a] 48)).alloc (.cells (cells4 fun _ => slZ) 54)) (.cells threeV 123)
  have hb4 := Box.new (((w.alloc (.cells (cells4 vs) 54)).alloc (.cells #[.int .i64 c, .int .i64 r, .int .i64 a] 48)).alloc (.cells (cells4 fun _ => slZ) 54)) threeV 123
  simp only [World.size_alloc] at hb4
  replace hb1 := hb1.le hA
  replace hb2 := hb2.le hA
  replace hb3 := hb3.le hA
  replace hl := hl.trans hA
  clear hA
  have HT : Hid ((objS 0 s c r a 600 = (St.zero, 0, 600) ∧ ¬ (stoS s c r a 300).2.2 = 0) ∨ (objS 0 s c r a 600 = ((stoS s c r a 300).1, (stoS s c r a 300).2.1, 0) ∧ (stoS s c r a 300).2.2 = 0)) := by
    cases hmo : s.all rowMay1 && opMay c r a
    · exact .inl ⟨stoS_no hmo, by rw [stoS_no hmo]; decide⟩
    · exact .inr ⟨(stoS_err hmo).trans (by rw [stoS_err (er := 300) hmo]), by rw [stoS_err (er := 300) hmo]⟩
  have hap := fun (w' : World) (h : Le w w') => ofStore vs s c r a w' (hx0.le h) hf
  generalize objS 0 s c r a 600 = T1 at HT ⊢
  generalize stoS s c r a 300 = S1 at HT hap
  clear hx0 hr
  go_enter Tryz.func78, Tryz.ntmps78
  go_upto_region 4 with (go_at_call 99; refine (objThree _).mono ?_; rintro e _ ⟨rfl, rfl⟩)
  generalize hW : (((w.alloc (.cells (cells4 vs) 54)).alloc (.cells #[.int .i64 c, .int .i64 r, .int .i64 a] 48)).alloc (.cells (cells4 fun _ => slZ) 54)).alloc (.cells threeV 123) = W at hb1 hb2 hb3 hb4 hl ⊢
  clear hW
  obtain ⟨x0, x1, x2, x3, _, _, _, _⟩ := hb1.st
  obtain ⟨y0, y1, y2, _, _, _⟩ := hb2.op
  have u0 : W.cell? ⟨w.heap.size + 1 + 1 + 1, 0, none⟩ = some (.func (.func 110) #[] #[]) := hb4.cell 0
  have hapA := hap W.drew (hl.trans (Le.drew _))
  have hapB := hap (W.alloc (.cells (cells4 fun _ => slZ) 54)).drew (hl.trans ((Le.alloc _ _).trans (Le.drew _)))
  clear hap
  have n1 : ¬ W.heap.size = w.heap.size := by have := hb1.lt; omega
  have n2 : ¬ W.heap.size = w.heap.size + 1 := by have := hb2.lt; omega
  have n3 : ¬ W.heap.size = w.heap.size + 1 + 1 + 1 := by have := hb4.lt; omega
  go_region_held3 (fun w' => w'.cell? ⟨w.heap.size, 0, none⟩ = some (slV (vs 0)) ∧ w'.cell? ⟨w.heap.size, 1, none⟩ = some (slV (vs 1)) ∧ w'.cell? ⟨w.heap.size, 2, none⟩ = some (slV (vs 2)) ∧ w'.cell? ⟨w.heap.size, 3, none⟩ = some (slV (vs 3)) ∧ w'.cell? ⟨w.heap.size + 1, 0, none⟩ = some (.int .i64 c) ∧ w'.cell? ⟨w.heap.size + 1, 1, none⟩ = some (.int .i64 r) ∧ w'.cell? ⟨w.heap.size + 1, 2, none⟩ = some (.int .i64 a) ∧ w'.cell? ⟨w.heap.size + 1 + 1 + 1, 0, none⟩ = some (.func (.func 110) #[] #[])) (go_keep) (first
    | (go_at_call 110; refine hapA.mono ?_; rintro e w2 ⟨_, rfl, ⟨q2, rfl, ho2⟩, l2⟩; replace l2 := (Le.drew W).trans l2; obtain ⟨x0', x1', x2', x3', _, _, _, _⟩ := (hb1.le l2).st; obtain ⟨y0', y1', y2', _, _, _⟩ := (hb2.le l2).op; have u0' : w2.cell? ⟨w.heap.size + 1 + 1 + 1, 0, none⟩ = some (.func (.func 110) #[] #[]) := (hb4.le l2).cell 0; have m1 : ¬ w2.heap.size = w.heap.size := (by have := (hb1.le l2).lt; omega); have m2 : ¬ w2.heap.size = w.heap.size + 1 := (by have := (hb2.le l2).lt; omega); have m3 : ¬ w2.heap.size = w.heap.size + 1 + 1 + 1 := (by have := (hb4.le l2).lt; omega))
    | (go_at_call 110; refine hapB.mono ?_; rintro e w2 ⟨_, rfl, ⟨q2, rfl, ho2⟩, l2⟩; have hbz := ((Box.new W (cells4 fun _ => slZ) 54).le (Le.drew _)).le l2; replace l2 := ((Le.alloc W (.cells (cells4 fun _ => slZ) 54)).trans (Le.drew _)).trans l2; obtain ⟨x0', x1', x2', x3', _, _, _, _⟩ := (hb1.le l2).st; obtain ⟨y0', y1', y2', _, _, _⟩ := (hb2.le l2).op; have u0' : w2.cell? ⟨w.heap.size + 1 + 1 + 1, 0, none⟩ = some (.func (.func 110) #[] #[]) := (hb4.le l2).cell 0; obtain ⟨v0, v1, v2, v3, g0, g1, g2, g3⟩ := hbz.st))
  all_goals clear hapA hapB x0 x1 x2 x3 y0 y1 y2 u0 x0' x1' x2' x3' y0' y1' y2' u0'
  · have ht := Box.new w2 (cells4 q2) 54
    have hz := (hb3.le l2).le (Le.alloc w2 (.cells (cells4 q2) 54))
    replace ho2 := fun i hi => ((ho2 i hi).base (base' := w.heap.size) hl.size).le (Le.alloc w2 (.cells (cells4 q2) 54))
    replace hl := (hl.trans l2).trans (Le.alloc w2 (.cells (cells4 q2) 54))
    have n9 : ¬ w.heap.size + 1 + 1 = w2.heap.size := by have := (hb3.le l2).lt; omega
    generalize hW : w2.alloc (.cells (cells4 q2) 54) = W2 at ht hz ho2 hl ⊢
    generalize w2.heap.size = g9 at n9 ht ⊢
    clear hW l2 m1 m2 m3 n1 n2 n3 hb1 hb2 hb3 hb4
    obtain ⟨z0, z1, z2, z3, f0, f1, f2, f3⟩ := hz.st
    obtain ⟨t0, t1, t2, t3, _, _, _, _⟩ := ht.st
    have n0 := hz.lt
    rcases HT.out with ⟨rfl, h0⟩ | ⟨rfl, h0⟩
    · clear HT
      go_wp2_with fail
      refine bodyPost_ret (v := .tuple #[stZ, .int .i64 0, .int .i64 600]) (by simp [results, Tryz.results78, go_sem, z0, z1, z2, z3]) rfl ⟨_, rfl, OwnS.zero _ _, ?_⟩
      exact hl.set4 (by omega) _ _ _ _
    · clear HT
      go_wp2_with fail
      refine bodyPost_ret (v := .tuple #[stV q2, .int .i64 S1.2.1, .int .i64 0]) (by simp [results, Tryz.results78, go_sem, z0, z1, z2, z3]) rfl ⟨_, rfl, ⟨q2, rfl, fun i hi => ?_⟩, ?_⟩
      · exact (ho2 i hi).set4 hz (by decide) _ _ _ _
      · exact hl.set4 (by omega) _ _ _ _
  · have g : ∀ i, i < 4 → Own ((((w2.setCell ⟨W.heap.size, 0, none⟩ (slV (q2 0))).setCell ⟨W.heap.size, 1, none⟩ (slV (q2 1))).setCell ⟨W.heap.size, 2, none⟩ (slV (q2 2))).setCell ⟨W.heap.size, 3, none⟩ (slV (q2 3))) w.heap.size (slV (q2 i)) (S1.1.at i) :=
      fun i hi => ((ho2 i hi).base (base' := w.heap.size) (hl.trans ((Le.alloc W _).trans (Le.drew _))).size).set4 hbz (by decide) _ _ _ _
    have n9 : ¬ w.heap.size + 1 + 1 = W.heap.size := by have := hb3.lt; omega
    have ht := hbz.all4 (us := q2)
    have hz := (hb3.le l2).other4 n9 (slV (q2 0)) (slV (q2 1)) (slV (q2 2)) (slV (q2 3))
    have hs := hl.size
    replace hl := (hl.trans l2).set4 hs (slV (q2 0)) (slV (q2 1)) (slV (q2 2)) (slV (q2 3))
    clear ho2
    have ho2 := g
    clear g
    generalize hW : (((w2.setCell ⟨W.heap.size, 0, none⟩ (slV (q2 0))).setCell ⟨W.heap.size, 1, none⟩ (slV (q2 1))).setCell ⟨W.heap.size, 2, none⟩ (slV (q2 2))).setCell ⟨W.heap.size, 3, none⟩ (slV (q2 3)) = W2 at ht hz ho2 hl ⊢
    clear hW l2 n1 n2 n3 hb1 hb2 hb3 hb4 hbz v0 v1 v2 v3 g0 g1 g2 g3 hs
    generalize W.heap.size = g9 at n9 ht ⊢
    obtain ⟨z0, z1, z2, z3, f0, f1, f2, f3⟩ := hz.st
    obtain ⟨t0, t1, t2, t3, _, _, _, _⟩ := ht.st
    have n0 := hz.lt
    rcases HT.out with ⟨rfl, h0⟩ | ⟨rfl, h0⟩
    · clear HT
      go_wp2_with fail
      refine bodyPost_ret (v := .tuple #[stZ, .int .i64 0, .int .i64 600]) (by simp [results, Tryz.results78, go_sem, z0, z1, z2, z3]) rfl ⟨_, rfl, OwnS.zero _ _, ?_⟩
      exact hl.set4 (by omega) _ _ _ _
    · clear HT
      go_wp2_with fail
      refine bodyPost_ret (v := .tuple #[stV q2, .int .i64 S1.2.1, .int .i64 0]) (by simp [results, Tryz.results78, go_sem, z0, z1, z2, z3]) rfl ⟨_, rfl, ⟨q2, rfl, fun i hi => ?_⟩, ?_⟩
      · exact (ho2 i hi).set4 hz (by decide) _ _ _ _
      · exact hl.set4 (by omega) _ _ _ _

set_option maxHeartbeats 4000000 in
theorem objApply1 (v : Value) (s : St) (c r a : Int) (w : World) (hx : HasS w v s) (hf : Fit s) :
    Calls Tryz.prog 78 #[.int .i64 1, v, opV c r a] w fun e w' => ∃ v', e = .returned (.tuple #[v', .int .i64 (objS 1 s c r a 600).2.1, .int .i64 (objS 1 s c r a 600).2.2]) ∧ OwnS w' w.heap.size v' (objS 1 s c r a 600).1 ∧ Le w w' := by
  have hx0 := hx
  obtain ⟨vs, rfl, hr⟩ := hx
  have hl := ((Le.alloc w (.cells (cells4 vs) 54)).trans (Le.alloc _ (.cells #[.int .i64 c, .int .i64 r, .int .i64 a] 48))).trans (Le.alloc _ (.cells (cells4 fun _ => slZ) 54))
  have hb1 := ((Box.new w (cells4 vs) 54).le (Le.alloc _ (.cells #[.int .i64 c, .int .i64 r, .int .i64 a] 48))).le (Le.alloc _ (.cells (cells4 fun _ => slZ) 54))
  have hb2 := (Box.new (w.alloc (.cells (cells4 vs) 54)) #[.int .i64 c, .int .i64 r, .int .i64 a] 48).le (Le.alloc _ (.cells (cells4 fun _ => slZ) 54))
  have hb3 := Box.new ((w.alloc (.cells (cells4 vs) 54)).alloc (.cells #[.int .i64 c, .int .i64 r, .int .i64 a] 48)) (cells4 fun _ => slZ) 54
  simp only [World.size_alloc] at hb1 hb2 hb3
  have hA := Le.alloc (((w.alloc (.cells (cells4 vs) 54)).alloc (.cells #[.int .i64 c, .int .i64 r, .int .i64 a] 48)).alloc (.cells (cells4 fun _ => slZ) 54)) (.cells threeV 123)
  have hb4 := Box.new (((w.alloc (.cells (cells4 vs) 54)).alloc (.cells #[.int .i64 c, .int .i64 r, .int .i64 a] 48)).alloc (.cells (cells4 fun _ => slZ) 54)) threeV 123
  simp only [World.size_alloc] at hb4
  replace hb1 := hb1.le hA
  replace hb2 := hb2.le hA
  replace hb3 := hb3.le hA
  replace hl := hl.trans hA
  clear hA
  have HT : Hid ((objS 1 s c r a 600 = (St.zero, 0, 600) ∧ ¬ (fdsS s c r a 400).2.2 = 0) ∨ (objS 1 s c r a 600 = ((fdsS s c r a 400).1, (fdsS s c r a 400).2.1, 0) ∧ (fdsS s c r a 400).2.2 = 0)) := by
    cases hmo : s.all rowMay2 && opMay c r a
    · exact .inl ⟨fdsS_no hmo, by rw [fdsS_no hmo]; decide⟩
    · exact .inr ⟨(fdsS_err hmo).trans (by rw [fdsS_err (er := 400) hmo]), by rw [fdsS_err (er := 400) hmo]⟩
  have hap := fun (w' : World) (h : Le w w') => ofFds vs s c r a w' (hx0.le h) hf
  generalize objS 1 s c r a 600 = T1 at HT ⊢
  generalize fdsS s c r a 400 = S1 at HT hap
  clear hx0 hr
  go_enter Tryz.func78, Tryz.ntmps78
  go_upto_region 4 with (go_at_call 99; refine (objThree _).mono ?_; rintro e _ ⟨rfl, rfl⟩)
  generalize hW : (((w.alloc (.cells (cells4 vs) 54)).alloc (.cells #[.int .i64 c, .int .i64 r, .int .i64 a] 48)).alloc (.cells (cells4 fun _ => slZ) 54)).alloc (.cells threeV 123) = W at hb1 hb2 hb3 hb4 hl ⊢
  clear hW
  obtain ⟨x0, x1, x2, x3, _, _, _, _⟩ := hb1.st
  obtain ⟨y0, y1, y2, _, _, _⟩ := hb2.op
  have u0 : W.cell? ⟨w.heap.size + 1 + 1 + 1, 1, none⟩ = some (.func (.func 111) #[] #[]) := hb4.cell 1
  have hapA := hap W.drew (hl.trans (Le.drew _))
  have hapB := hap (W.alloc (.cells (cells4 fun _ => slZ) 54)).drew (hl.trans ((Le.alloc _ _).trans (Le.drew _)))
  clear hap
  have n1 : ¬ W.heap.size = w.heap.size := by have := hb1.lt; omega
  have n2 : ¬ W.heap.size = w.heap.size + 1 := by have := hb2.lt; omega
  have n3 : ¬ W.heap.size = w.heap.size + 1 + 1 + 1 := by have := hb4.lt; omega
  go_region_held3 (fun w' => w'.cell? ⟨w.heap.size, 0, none⟩ = some (slV (vs 0)) ∧ w'.cell? ⟨w.heap.size, 1, none⟩ = some (slV (vs 1)) ∧ w'.cell? ⟨w.heap.size, 2, none⟩ = some (slV (vs 2)) ∧ w'.cell? ⟨w.heap.size, 3, none⟩ = some (slV (vs 3)) ∧ w'.cell? ⟨w.heap.size + 1, 0, none⟩ = some (.int .i64 c) ∧ w'.cell? ⟨w.heap.size + 1, 1, none⟩ = some (.int .i64 r) ∧ w'.cell? ⟨w.heap.size + 1, 2, none⟩ = some (.int .i64 a) ∧ w'.cell? ⟨w.heap.size + 1 + 1 + 1, 1, none⟩ = some (.func (.func 111) #[] #[])) (go_keep) (first
    | (go_at_call 111; refine hapA.mono ?_; rintro e w2 ⟨_, rfl, ⟨q2, rfl, ho2⟩, l2⟩; replace l2 := (Le.drew W).trans l2; obtain ⟨x0', x1', x2', x3', _, _, _, _⟩ := (hb1.le l2).st; obtain ⟨y0', y1', y2', _, _, _⟩ := (hb2.le l2).op; have u0' : w2.cell? ⟨w.heap.size + 1 + 1 + 1, 1, none⟩ = some (.func (.func 111) #[] #[]) := (hb4.le l2).cell 1; have m1 : ¬ w2.heap.size = w.heap.size := (by have := (hb1.le l2).lt; omega); have m2 : ¬ w2.heap.size = w.heap.size + 1 := (by have := (hb2.le l2).lt; omega); have m3 : ¬ w2.heap.size = w.heap.size + 1 + 1 + 1 := (by have := (hb4.le l2).lt; omega))
    | (go_at_call 111; refine hapB.mono ?_; rintro e w2 ⟨_, rfl, ⟨q2, rfl, ho2⟩, l2⟩; have hbz := ((Box.new W (cells4 fun _ => slZ) 54).le (Le.drew _)).le l2; replace l2 := ((Le.alloc W (.cells (cells4 fun _ => slZ) 54)).trans (Le.drew _)).trans l2; obtain ⟨x0', x1', x2', x3', _, _, _, _⟩ := (hb1.le l2).st; obtain ⟨y0', y1', y2', _, _, _⟩ := (hb2.le l2).op; have u0' : w2.cell? ⟨w.heap.size + 1 + 1 + 1, 1, none⟩ = some (.func (.func 111) #[] #[]) := (hb4.le l2).cell 1; obtain ⟨v0, v1, v2, v3, g0, g1, g2, g3⟩ := hbz.st))
  all_goals clear hapA hapB x0 x1 x2 x3 y0 y1 y2 u0 x0' x1' x2' x3' y0' y1' y2' u0'
  · have ht := Box.new w2 (cells4 q2) 54
    have hz := (hb3.le l2).le (Le.alloc w2 (.cells (cells4 q2) 54))
    replace ho2 := fun i hi => ((ho2 i hi).base (base' := w.heap.size) hl.size).le (Le.alloc w2 (.cells (cells4 q2) 54))
    replace hl := (hl.trans l2).trans (Le.alloc w2 (.cells (cells4 q2) 54))
    have n9 : ¬ w.heap.size + 1 + 1 = w2.heap.size := by have := (hb3.le l2).lt; omega
    generalize hW : w2.alloc (.cells (cells4 q2) 54) = W2 at ht hz ho2 hl ⊢
    generalize w2.heap.size = g9 at n9 ht ⊢
    clear hW l2 m1 m2 m3 n1 n2 n3 hb1 hb2 hb3 hb4
    obtain ⟨z0, z1, z2, z3, f0, f1, f2, f3⟩ := hz.st
    obtain ⟨t0, t1, t2, t3, _, _, _, _⟩ := ht.st
    have n0 := hz.lt
    rcases HT.out with ⟨rfl, h0⟩ | ⟨rfl, h0⟩
    · clear HT
      go_wp2_with fail
      refine bodyPost_ret (v := .tuple #[stZ, .int .i64 0, .int .i64 600]) (by simp [results, Tryz.results78, go_sem, z0, z1, z2, z3]) rfl ⟨_, rfl, OwnS.zero _ _, ?_⟩
      exact hl.set4 (by omega) _ _ _ _
    · clear HT
      go_wp2_with fail
      refine bodyPost_ret (v := .tuple #[stV q2, .int .i64 S1.2.1, .int .i64 0]) (by simp [results, Tryz.results78, go_sem, z0, z1, z2, z3]) rfl ⟨_, rfl, ⟨q2, rfl, fun i hi => ?_⟩, ?_⟩
      · exact (ho2 i hi).set4 hz (by decide) _ _ _ _
      · exact hl.set4 (by omega) _ _ _ _
  · have g : ∀ i, i < 4 → Own ((((w2.setCell ⟨W.heap.size, 0, none⟩ (slV (q2 0))).setCell ⟨W.heap.size, 1, none⟩ (slV (q2 1))).setCell ⟨W.heap.size, 2, none⟩ (slV (q2 2))).setCell ⟨W.heap.size, 3, none⟩ (slV (q2 3))) w.heap.size (slV (q2 i)) (S1.1.at i) :=
      fun i hi => ((ho2 i hi).base (base' := w.heap.size) (hl.trans ((Le.alloc W _).trans (Le.drew _))).size).set4 hbz (by decide) _ _ _ _
    have n9 : ¬ w.heap.size + 1 + 1 = W.heap.size := by have := hb3.lt; omega
    have ht := hbz.all4 (us := q2)
    have hz := (hb3.le l2).other4 n9 (slV (q2 0)) (slV (q2 1)) (slV (q2 2)) (slV (q2 3))
    have hs := hl.size
    replace hl := (hl.trans l2).set4 hs (slV (q2 0)) (slV (q2 1)) (slV (q2 2)) (slV (q2 3))
    clear ho2
    have ho2 := g
    clear g
    generalize hW : (((w2.setCell ⟨W.heap.size, 0, none⟩ (slV (q2 0))).setCell ⟨W.heap.size, 1, none⟩ (slV (q2 1))).setCell ⟨W.heap.size, 2, none⟩ (slV (q2 2))).setCell ⟨W.heap.size, 3, none⟩ (slV (q2 3)) = W2 at ht hz ho2 hl ⊢
    clear hW l2 n1 n2 n3 hb1 hb2 hb3 hb4 hbz v0 v1 v2 v3 g0 g1 g2 g3 hs
    generalize W.heap.size = g9 at n9 ht ⊢
    obtain ⟨z0, z1, z2, z3, f0, f1, f2, f3⟩ := hz.st
    obtain ⟨t0, t1, t2, t3, _, _, _, _⟩ := ht.st
    have n0 := hz.lt
    rcases HT.out with ⟨rfl, h0⟩ | ⟨rfl, h0⟩
    · clear HT
      go_wp2_with fail
      refine bodyPost_ret (v := .tuple #[stZ, .int .i64 0, .int .i64 600]) (by simp [results, Tryz.results78, go_sem, z0, z1, z2, z3]) rfl ⟨_, rfl, OwnS.zero _ _, ?_⟩
      exact hl.set4 (by omega) _ _ _ _
    · clear HT
      go_wp2_with fail
      refine bodyPost_ret (v := .tuple #[stV q2, .int .i64 S1.2.1, .int .i64 0]) (by simp [results, Tryz.results78, go_sem, z0, z1, z2, z3]) rfl ⟨_, rfl, ⟨q2, rfl, fun i hi => ?_⟩, ?_⟩
      · exact (ho2 i hi).set4 hz (by decide) _ _ _ _
      · exact hl.set4 (by omega) _ _ _ _

set_option maxHeartbeats 4000000 in
theorem objApply2 (v : Value) (s : St) (c r a : Int) (w : World) (hx : HasS w v s) (hf : Fit s) :
    Calls Tryz.prog 78 #[.int .i64 2, v, opV c r a] w fun e w' => ∃ v', e = .returned (.tuple #[v', .int .i64 (objS 2 s c r a 600).2.1, .int .i64 (objS 2 s c r a 600).2.2]) ∧ OwnS w' w.heap.size v' (objS 2 s c r a 600).1 ∧ Le w w' := by
  have hx0 := hx
  obtain ⟨vs, rfl, hr⟩ := hx
  have hl := ((Le.alloc w (.cells (cells4 vs) 54)).trans (Le.alloc _ (.cells #[.int .i64 c, .int .i64 r, .int .i64 a] 48))).trans (Le.alloc _ (.cells (cells4 fun _ => slZ) 54))
  have hb1 := ((Box.new w (cells4 vs) 54).le (Le.alloc _ (.cells #[.int .i64 c, .int .i64 r, .int .i64 a] 48))).le (Le.alloc _ (.cells (cells4 fun _ => slZ) 54))
  have hb2 := (Box.new (w.alloc (.cells (cells4 vs) 54)) #[.int .i64 c, .int .i64 r, .int .i64 a] 48).le (Le.alloc _ (.cells (cells4 fun _ => slZ) 54))
  have hb3 := Box.new ((w.alloc (.cells (cells4 vs) 54)).alloc (.cells #[.int .i64 c, .int .i64 r, .int .i64 a] 48)) (cells4 fun _ => slZ) 54
  simp only [World.size_alloc] at hb1 hb2 hb3
  have hA := Le.alloc (((w.alloc (.cells (cells4 vs) 54)).alloc (.cells #[.int .i64 c, .int .i64 r, .int .i64 a] 48)).alloc (.cells (cells4 fun _ => slZ) 54)) (.cells threeV 123)
  have hb4 := Box.new (((w.alloc (.cells (cells4 vs) 54)).alloc (.cells #[.int .i64 c, .int .i64 r, .int .i64 a] 48)).alloc (.cells (cells4 fun _ => slZ) 54)) threeV 123
  simp only [World.size_alloc] at hb4
  replace hb1 := hb1.le hA
  replace hb2 := hb2.le hA
  replace hb3 := hb3.le hA
  replace hl := hl.trans hA
  clear hA
  have HT : Hid ((objS 2 s c r a 600 = (St.zero, 0, 600) ∧ ¬ (queS s c r a 500).2.2 = 0) ∨ (objS 2 s c r a 600 = ((queS s c r a 500).1, (queS s c r a 500).2.1, 0) ∧ (queS s c r a 500).2.2 = 0)) := by
    cases hmo : s.all rowMay3 && opMay c r a
    · exact .inl ⟨queS_no hmo, by rw [queS_no hmo]; decide⟩
    · exact .inr ⟨(queS_err hmo).trans (by rw [queS_err (er := 500) hmo]), by rw [queS_err (er := 500) hmo]⟩
  have hap := fun (w' : World) (h : Le w w') => ofQueue vs s c r a w' (hx0.le h) hf
  generalize objS 2 s c r a 600 = T1 at HT ⊢
  generalize queS s c r a 500 = S1 at HT hap
  clear hx0 hr
  go_enter Tryz.func78, Tryz.ntmps78
  go_upto_region 4 with (go_at_call 99; refine (objThree _).mono ?_; rintro e _ ⟨rfl, rfl⟩)
  generalize hW : (((w.alloc (.cells (cells4 vs) 54)).alloc (.cells #[.int .i64 c, .int .i64 r, .int .i64 a] 48)).alloc (.cells (cells4 fun _ => slZ) 54)).alloc (.cells threeV 123) = W at hb1 hb2 hb3 hb4 hl ⊢
  clear hW
  obtain ⟨x0, x1, x2, x3, _, _, _, _⟩ := hb1.st
  obtain ⟨y0, y1, y2, _, _, _⟩ := hb2.op
  have u0 : W.cell? ⟨w.heap.size + 1 + 1 + 1, 2, none⟩ = some (.func (.func 112) #[] #[]) := hb4.cell 2
  have hapA := hap W.drew (hl.trans (Le.drew _))
  have hapB := hap (W.alloc (.cells (cells4 fun _ => slZ) 54)).drew (hl.trans ((Le.alloc _ _).trans (Le.drew _)))
  clear hap
  have n1 : ¬ W.heap.size = w.heap.size := by have := hb1.lt; omega
  have n2 : ¬ W.heap.size = w.heap.size + 1 := by have := hb2.lt; omega
  have n3 : ¬ W.heap.size = w.heap.size + 1 + 1 + 1 := by have := hb4.lt; omega
  go_region_held3 (fun w' => w'.cell? ⟨w.heap.size, 0, none⟩ = some (slV (vs 0)) ∧ w'.cell? ⟨w.heap.size, 1, none⟩ = some (slV (vs 1)) ∧ w'.cell? ⟨w.heap.size, 2, none⟩ = some (slV (vs 2)) ∧ w'.cell? ⟨w.heap.size, 3, none⟩ = some (slV (vs 3)) ∧ w'.cell? ⟨w.heap.size + 1, 0, none⟩ = some (.int .i64 c) ∧ w'.cell? ⟨w.heap.size + 1, 1, none⟩ = some (.int .i64 r) ∧ w'.cell? ⟨w.heap.size + 1, 2, none⟩ = some (.int .i64 a) ∧ w'.cell? ⟨w.heap.size + 1 + 1 + 1, 2, none⟩ = some (.func (.func 112) #[] #[])) (go_keep) (first
    | (go_at_call 112; refine hapA.mono ?_; rintro e w2 ⟨_, rfl, ⟨q2, rfl, ho2⟩, l2⟩; replace l2 := (Le.drew W).trans l2; obtain ⟨x0', x1', x2', x3', _, _, _, _⟩ := (hb1.le l2).st; obtain ⟨y0', y1', y2', _, _, _⟩ := (hb2.le l2).op; have u0' : w2.cell? ⟨w.heap.size + 1 + 1 + 1, 2, none⟩ = some (.func (.func 112) #[] #[]) := (hb4.le l2).cell 2; have m1 : ¬ w2.heap.size = w.heap.size := (by have := (hb1.le l2).lt; omega); have m2 : ¬ w2.heap.size = w.heap.size + 1 := (by have := (hb2.le l2).lt; omega); have m3 : ¬ w2.heap.size = w.heap.size + 1 + 1 + 1 := (by have := (hb4.le l2).lt; omega))
    | (go_at_call 112; refine hapB.mono ?_; rintro e w2 ⟨_, rfl, ⟨q2, rfl, ho2⟩, l2⟩; have hbz := ((Box.new W (cells4 fun _ => slZ) 54).le (Le.drew _)).le l2; replace l2 := ((Le.alloc W (.cells (cells4 fun _ => slZ) 54)).trans (Le.drew _)).trans l2; obtain ⟨x0', x1', x2', x3', _, _, _, _⟩ := (hb1.le l2).st; obtain ⟨y0', y1', y2', _, _, _⟩ := (hb2.le l2).op; have u0' : w2.cell? ⟨w.heap.size + 1 + 1 + 1, 2, none⟩ = some (.func (.func 112) #[] #[]) := (hb4.le l2).cell 2; obtain ⟨v0, v1, v2, v3, g0, g1, g2, g3⟩ := hbz.st))
  all_goals clear hapA hapB x0 x1 x2 x3 y0 y1 y2 u0 x0' x1' x2' x3' y0' y1' y2' u0'
  · have ht := Box.new w2 (cells4 q2) 54
    have hz := (hb3.le l2).le (Le.alloc w2 (.cells (cells4 q2) 54))
    replace ho2 := fun i hi => ((ho2 i hi).base (base' := w.heap.size) hl.size).le (Le.alloc w2 (.cells (cells4 q2) 54))
    replace hl := (hl.trans l2).trans (Le.alloc w2 (.cells (cells4 q2) 54))
    have n9 : ¬ w.heap.size + 1 + 1 = w2.heap.size := by have := (hb3.le l2).lt; omega
    generalize hW : w2.alloc (.cells (cells4 q2) 54) = W2 at ht hz ho2 hl ⊢
    generalize w2.heap.size = g9 at n9 ht ⊢
    clear hW l2 m1 m2 m3 n1 n2 n3 hb1 hb2 hb3 hb4
    obtain ⟨z0, z1, z2, z3, f0, f1, f2, f3⟩ := hz.st
    obtain ⟨t0, t1, t2, t3, _, _, _, _⟩ := ht.st
    have n0 := hz.lt
    rcases HT.out with ⟨rfl, h0⟩ | ⟨rfl, h0⟩
    · clear HT
      go_wp2_with fail
      refine bodyPost_ret (v := .tuple #[stZ, .int .i64 0, .int .i64 600]) (by simp [results, Tryz.results78, go_sem, z0, z1, z2, z3]) rfl ⟨_, rfl, OwnS.zero _ _, ?_⟩
      exact hl.set4 (by omega) _ _ _ _
    · clear HT
      go_wp2_with fail
      refine bodyPost_ret (v := .tuple #[stV q2, .int .i64 S1.2.1, .int .i64 0]) (by simp [results, Tryz.results78, go_sem, z0, z1, z2, z3]) rfl ⟨_, rfl, ⟨q2, rfl, fun i hi => ?_⟩, ?_⟩
      · exact (ho2 i hi).set4 hz (by decide) _ _ _ _
      · exact hl.set4 (by omega) _ _ _ _
  · have g : ∀ i, i < 4 → Own ((((w2.setCell ⟨W.heap.size, 0, none⟩ (slV (q2 0))).setCell ⟨W.heap.size, 1, none⟩ (slV (q2 1))).setCell ⟨W.heap.size, 2, none⟩ (slV (q2 2))).setCell ⟨W.heap.size, 3, none⟩ (slV (q2 3))) w.heap.size (slV (q2 i)) (S1.1.at i) :=
      fun i hi => ((ho2 i hi).base (base' := w.heap.size) (hl.trans ((Le.alloc W _).trans (Le.drew _))).size).set4 hbz (by decide) _ _ _ _
    have n9 : ¬ w.heap.size + 1 + 1 = W.heap.size := by have := hb3.lt; omega
    have ht := hbz.all4 (us := q2)
    have hz := (hb3.le l2).other4 n9 (slV (q2 0)) (slV (q2 1)) (slV (q2 2)) (slV (q2 3))
    have hs := hl.size
    replace hl := (hl.trans l2).set4 hs (slV (q2 0)) (slV (q2 1)) (slV (q2 2)) (slV (q2 3))
    clear ho2
    have ho2 := g
    clear g
    generalize hW : (((w2.setCell ⟨W.heap.size, 0, none⟩ (slV (q2 0))).setCell ⟨W.heap.size, 1, none⟩ (slV (q2 1))).setCell ⟨W.heap.size, 2, none⟩ (slV (q2 2))).setCell ⟨W.heap.size, 3, none⟩ (slV (q2 3)) = W2 at ht hz ho2 hl ⊢
    clear hW l2 n1 n2 n3 hb1 hb2 hb3 hb4 hbz v0 v1 v2 v3 g0 g1 g2 g3 hs
    generalize W.heap.size = g9 at n9 ht ⊢
    obtain ⟨z0, z1, z2, z3, f0, f1, f2, f3⟩ := hz.st
    obtain ⟨t0, t1, t2, t3, _, _, _, _⟩ := ht.st
    have n0 := hz.lt
    rcases HT.out with ⟨rfl, h0⟩ | ⟨rfl, h0⟩
    · clear HT
      go_wp2_with fail
      refine bodyPost_ret (v := .tuple #[stZ, .int .i64 0, .int .i64 600]) (by simp [results, Tryz.results78, go_sem, z0, z1, z2, z3]) rfl ⟨_, rfl, OwnS.zero _ _, ?_⟩
      exact hl.set4 (by omega) _ _ _ _
    · clear HT
      go_wp2_with fail
      refine bodyPost_ret (v := .tuple #[stV q2, .int .i64 S1.2.1, .int .i64 0]) (by simp [results, Tryz.results78, go_sem, z0, z1, z2, z3]) rfl ⟨_, rfl, ⟨q2, rfl, fun i hi => ?_⟩, ?_⟩
      · exact (ho2 i hi).set4 hz (by decide) _ _ _ _
      · exact hl.set4 (by omega) _ _ _ _

end Go.Proofs.YtibleipfablniaaGreat

/-
  THE WALKS over package object's Apply at no object, over Apply and May in one: what each answers, for every object, state and operation. Condition: the state's rows can be copied.
-/
namespace Go.Proofs.YtibleipfablniaaGreat
open Go.RowKit

set_option maxHeartbeats 1000000 in
theorem objApplyOut (o : Int) (ho : o < 0 ∨ 2 < o) (v : Value) (s : St) (c r a : Int) (w : World) (hx : HasS w v s) :
    Calls Tryz.prog 78 #[.int .i64 o, v, opV c r a] w fun e w' => e = .returned (.tuple #[stZ, .int .i64 0, .int .i64 600]) ∧ Le w w' := by
  obtain ⟨vs, rfl, hr⟩ := hx
  have hl := ((Le.alloc w (.cells (cells4 vs) 54)).trans (Le.alloc _ (.cells #[.int .i64 c, .int .i64 r, .int .i64 a] 48))).trans (Le.alloc _ (.cells (cells4 fun _ => slZ) 54))
  have hb3 := Box.new ((w.alloc (.cells (cells4 vs) 54)).alloc (.cells #[.int .i64 c, .int .i64 r, .int .i64 a] 48)) (cells4 fun _ => slZ) 54
  simp only [World.size_alloc] at hb3
  have hA := Le.alloc (((w.alloc (.cells (cells4 vs) 54)).alloc (.cells #[.int .i64 c, .int .i64 r, .int .i64 a] 48)).alloc (.cells (cells4 fun _ => slZ) 54)) (.cells threeV 123)
  replace hb3 := hb3.le hA
  replace hl := hl.trans hA
  clear hA
  by_cases h0 : o < 0
  · go_enter Tryz.func78, Tryz.ntmps78
    go_upto_region 2 with (go_at_call 99; refine (objThree _).mono ?_; rintro e _ ⟨rfl, rfl⟩)
    generalize hW : (((w.alloc (.cells (cells4 vs) 54)).alloc (.cells #[.int .i64 c, .int .i64 r, .int .i64 a] 48)).alloc (.cells (cells4 fun _ => slZ) 54)).alloc (.cells threeV 123) = W at hb3 hl ⊢
    clear hW
    obtain ⟨z0, z1, z2, z3, f0, f1, f2, f3⟩ := hb3.st
    go_wp2_with fail
    refine bodyPost_ret (v := .tuple #[stZ, .int .i64 0, .int .i64 600]) (by simp [results, Tryz.results78, go_sem, z0, z1, z2, z3]) rfl ⟨rfl, ?_⟩
    exact hl.set4 (g := w.heap.size + 1 + 1) (by omega) _ _ _ _
  · have h1 : 3 ≤ o := by omega
    go_enter Tryz.func78, Tryz.ntmps78
    go_upto_region 2 with (go_at_call 99; refine (objThree _).mono ?_; rintro e _ ⟨rfl, rfl⟩)
    generalize hW : (((w.alloc (.cells (cells4 vs) 54)).alloc (.cells #[.int .i64 c, .int .i64 r, .int .i64 a] 48)).alloc (.cells (cells4 fun _ => slZ) 54)).alloc (.cells threeV 123) = W at hb3 hl ⊢
    clear hW
    obtain ⟨z0, z1, z2, z3, f0, f1, f2, f3⟩ := hb3.st
    go_wp2_with fail
    refine bodyPost_ret (v := .tuple #[stZ, .int .i64 0, .int .i64 600]) (by simp [results, Tryz.results78, go_sem, z0, z1, z2, z3]) rfl ⟨rfl, ?_⟩
    exact hl.set4 (g := w.heap.size + 1 + 1) (by omega) _ _ _ _

theorem objApply (o : Int) (v : Value) (s : St) (c r a : Int) (w : World) (hx : HasS w v s) (hf : Fit s) :
    Calls Tryz.prog 78 #[.int .i64 o, v, opV c r a] w fun e w' => ∃ v', e = .returned (.tuple #[v', .int .i64 (objS o s c r a 600).2.1, .int .i64 (objS o s c r a 600).2.2]) ∧ OwnS w' w.heap.size v' (objS o s c r a 600).1 ∧ Le w w' := by
  rcases obj_cases (o := o) with rfl | rfl | rfl | ho
  · exact objApply0 v s c r a w hx hf
  · exact objApply1 v s c r a w hx hf
  · exact objApply2 v s c r a w hx hf
  · rw [objS_out ho]
    exact (objApplyOut o ho v s c r a w hx).mono fun e w' ⟨he, hl⟩ => ⟨stZ, he, OwnS.zero _ _, hl⟩

theorem objScan (o : Int) (s : St) (er : Int) (h : er ≠ 0) : ((objS o s 3 0 0 er).2.2 == 0) = objMay o s := by
  have ho : opMay 3 0 0 = true := by decide
  cases hm : objMay o s
  · rw [objS_no (by rw [hm]; rfl)]; simpa using h
  · rw [objS_yes _ (by rw [hm, ho]; rfl)]; rfl

set_option maxHeartbeats 1000000 in
theorem objMayC (o : Int) (v : Value) (s : St) (w : World) (hx : HasS w v s) (hf : Fit s) :
    Calls Tryz.prog 57 #[.int .i64 o, v] w fun e w' => e = .returned (.bool (objMay o s)) ∧ Le w w' := by
  have hx0 := hx
  obtain ⟨vs, rfl, hr⟩ := hx
  have hl := Le.alloc w (.cells (cells4 vs) 54)
  have hap := objApply o (stV vs) s 3 0 0 _ (hx0.le hl) hf
  have hsc := objScan o s 600 (by decide)
  generalize objS o s 3 0 0 600 = S1 at hap hsc
  generalize objMay o s = b at hsc ⊢
  go_enter Tryz.func57, Tryz.ntmps57
  go_wp2_with fail
  refine hap.mono ?_
  rintro e w1 ⟨_, rfl, ⟨q, rfl, o1⟩, l1⟩
  go_wp2_with fail
  go_ret
  exact ⟨rfl, (hl.trans l1).trans (Le.alloc _ _)⟩

end Go.Proofs.YtibleipfablniaaGreat
