/-
  PARTS LAID TOGETHER, each with its own opening: FdsC, FdsD, QueA, QueB, QueC, ObjS, McS, RfB, CfR, RmA, RefCp, RefStA, RefSum, RefApp0, RefRow1, RefRow2, RefApp1, RefRow3, RefApp2, RefObj, SpoilA, LmA, LmT, LmBa, LmBb, LmBc, LmBd, LmBe, LmBf, LmBg, LmBh, LmBi, LmBj, LmBk, LmBl, LmBm, LmB, LmC, LmF, RmB, RmC, RmD, RgG, MsS, MsT, MtA, Grow.
-/
import Derived.Test.YtnemldboiogdkaaGreatCom1
import Derived.Deep.RegionHeld3
import Derived.Deep.Cut
import Derived.Deep.CutRange
import Derived.BigRegion
import Derived.Orders
/-
  THE WALK over fds.Apply: what it answers, for every state and operation, and that what it hands back lies in memory of its own. Condition: the state's rows can be copied.
-/
namespace Go.Proofs.YtnemldboiogdkaaGreat
open Go.RowKit

theorem fdsMay (v : Value) (s : St) (w : World) (hx : HasS w v s) :
    Calls Tryz.prog 149 #[v, .func (.func 153) #[] #[]] w fun e w' => e = .returned (.bool (s.all rowMay2)) ∧ Le w w' :=
  statesMay 153 rowMay2 (fun _ _ => by kernel_rfl) fdsMayRow v s w hx

/-- The document's answer: the state, the answer, the error. -/
def fdsS (s : St) (c r a e : Int) : St × Int × Int := cntS rowMay2 (fun xs _ => putS xs) takeS s c r a e

set_option maxHeartbeats 2000000 in
theorem fdsApplyNo (v : Value) (s : St) (c r a : Int) (w : World) (hx : HasS w v s) (h : (s.all rowMay2 && opMay c r a) = false) :
    Calls Tryz.prog 147 #[v, opV c r a] w fun e w' => e = .returned (.tuple #[stZ, .int .i64 0, .int .i64 400]) ∧ Le w w' := by
  have hx0 := hx
  obtain ⟨vs, rfl, hr⟩ := hx
  have hl := ((Le.alloc w (.cells (cells4 vs) 54)).trans (Le.alloc _ (.cells #[.int .i64 c, .int .i64 r, .int .i64 a] 42))).trans (Le.alloc _ (.cells (cells4 fun _ => slZ) 54))
  have hb1 := ((Box.new w (cells4 vs) 54).le (Le.alloc _ (.cells #[.int .i64 c, .int .i64 r, .int .i64 a] 42))).le (Le.alloc _ (.cells (cells4 fun _ => slZ) 54))
  have hb2 := (Box.new (w.alloc (.cells (cells4 vs) 54)) #[.int .i64 c, .int .i64 r, .int .i64 a] 42).le (Le.alloc _ (.cells (cells4 fun _ => slZ) 54))
  have hb3 := Box.new ((w.alloc (.cells (cells4 vs) 54)).alloc (.cells #[.int .i64 c, .int .i64 r, .int .i64 a] 42)) (cells4 fun _ => slZ) 54
  simp only [World.size_alloc] at hb1 hb2 hb3
  have hmay := fdsMay (stV vs) s _ (hx0.le hl)
  cases hm : s.all rowMay2
  · rw [hm] at hmay
    go_enter Tryz.func147, Tryz.ntmps147
    go_wp2_with fail
    refine hmay.mono ?_
    rintro e w1 ⟨rfl, l1⟩
    obtain ⟨z0, z1, z2, z3, f0, f1, f2, f3⟩ := (hb3.le l1).st
    go_wp2_with fail
    refine bodyPost_ret (v := .tuple #[stZ, .int .i64 0, .int .i64 400]) (by simp [results, Tryz.results147, go_sem, z0, z1, z2, z3]) rfl ⟨rfl, ?_⟩
    exact (hl.trans l1).set4 (by omega) _ _ _ _
  · have hop : opMay c r a = false := by simpa [hm] using h
    rw [hm] at hmay
    go_enter Tryz.func147, Tryz.ntmps147
    go_wp2_with fail
    refine hmay.mono ?_
    rintro e w1 ⟨rfl, l1⟩
    obtain ⟨y0, y1, y2, _, _, _⟩ := (hb2.le l1).op
    go_wp2_with fail
    refine (operMay _ _ _ _).mono ?_
    rw [hop]
    rintro e w2 ⟨rfl, l2⟩
    obtain ⟨z0, z1, z2, z3, f0, f1, f2, f3⟩ := ((hb3.le l1).le l2).st
    go_wp2_with fail
    refine bodyPost_ret (v := .tuple #[stZ, .int .i64 0, .int .i64 400]) (by simp [results, Tryz.results147, go_sem, z0, z1, z2, z3]) rfl ⟨rfl, ?_⟩
    exact ((hl.trans l1).trans l2).set4 (by omega) _ _ _ _

set_option maxHeartbeats 2000000 in
theorem fdsApplyYes (v : Value) (s : St) (c r a : Int) (w : World) (hx : HasS w v s) (hf : Fit s) (hm : s.all rowMay2 = true) (hop : opMay c r a = true) :
    Calls Tryz.prog 147 #[v, opV c r a] w fun e w' => ∃ v', e = .returned (.tuple #[v', .int .i64 (cntY (fun xs _ => putS xs) takeS s c r a).2, .int .i64 0]) ∧ OwnS w' w.heap.size v' (cntY (fun xs _ => putS xs) takeS s c r a).1 ∧ Le w w' := by
  have hx0 := hx
  obtain ⟨vs, rfl, hr⟩ := hx
  have hl := ((Le.alloc w (.cells (cells4 vs) 54)).trans (Le.alloc _ (.cells #[.int .i64 c, .int .i64 r, .int .i64 a] 42))).trans (Le.alloc _ (.cells (cells4 fun _ => slZ) 54))
  have hb1 := ((Box.new w (cells4 vs) 54).le (Le.alloc _ (.cells #[.int .i64 c, .int .i64 r, .int .i64 a] 42))).le (Le.alloc _ (.cells (cells4 fun _ => slZ) 54))
  have hb2 := (Box.new (w.alloc (.cells (cells4 vs) 54)) #[.int .i64 c, .int .i64 r, .int .i64 a] 42).le (Le.alloc _ (.cells (cells4 fun _ => slZ) 54))
  have hb3 := Box.new ((w.alloc (.cells (cells4 vs) 54)).alloc (.cells #[.int .i64 c, .int .i64 r, .int .i64 a] 42)) (cells4 fun _ => slZ) 54
  simp only [World.size_alloc] at hb1 hb2 hb3
  have hmay := fdsMay (stV vs) s _ (hx0.le hl)
  rw [hm] at hmay
  go_enter Tryz.func147, Tryz.ntmps147
  go_wp2_with fail
  refine hmay.mono ?_
  rintro e w1 ⟨rfl, l1⟩
  obtain ⟨y0, y1, y2, _, _, _⟩ := (hb2.le l1).op
  clear hmay
  go_wp2_with fail
  refine (operMay _ _ _ _).mono ?_
  rw [hop]
  rintro e w2 ⟨rfl, l2⟩
  replace l1 := l1.trans l2
  clear l2 y0 y1 y2
  obtain ⟨x0, x1, x2, x3, _, _, _, _⟩ := (hb1.le l1).st
  obtain ⟨y0, y1, y2, _, _, _⟩ := (hb2.le l1).op
  go_wp2_with fail
  refine (countedAll 155 156 (fun xs _ => putS xs) takeS fdsPutT fdsTakeT (stV vs) s c r a _ (hx0.le (hl.trans l1)) hf (fun j hj => rowMay2_len (St.all_at hm hj)) hop).mono ?_
  obtain ⟨Y, hY⟩ : ∃ Y, Y = cntY (fun xs _ => putS xs) takeS s c r a := ⟨_, rfl⟩
  rw [← hY]
  have HY : Hid (Y = cntY (fun xs _ => putS xs) takeS s c r a) := hY
  clear hY
  rintro e w3 ⟨_, rfl, ⟨us, rfl, hown⟩, l3⟩
  replace hown := fun i hi => (hown i hi).base (base' := w.heap.size) (hl.trans l1).size
  replace l1 := l1.trans l3
  clear l3 y0 y1 y2 x0 x1 x2 x3
  have n0 : w.heap.size + 1 + 1 < w3.heap.size := (hb3.le l1).lt
  have n1 : ¬ w.heap.size + 1 + 1 = w3.heap.size := by omega
  have hb4 := Box.new w3 (cells4 us) 54
  replace l1 := l1.trans (Le.alloc w3 (.cells (cells4 us) 54))
  replace hown := fun i hi => (hown i hi).le (Le.alloc w3 (.cells (cells4 us) 54))
  go_upto_region 4 with fail
  generalize hW : w3.alloc (.cells (cells4 us) 54) = W at hb4 l1 hown ⊢
  clear hW
  obtain ⟨y0, y1, y2, y3, _, _, _, _⟩ := hb4.st
  obtain ⟨z0, z1, z2, z3, f0, f1, f2, f3⟩ := (hb3.le l1).st
  go_wp2_with fail
  refine bodyPost_ret (v := .tuple #[stV us, .int .i64 Y.2, .int .i64 0]) (by simp [results, Tryz.results147, go_sem, z0, z1, z2, z3]) rfl ⟨stV us, by rw [HY.out], ⟨us, rfl, fun i hi => ?_⟩, ?_⟩
  · rw [← HY.out]; exact (hown i hi).set4 (hb3.le l1) (by decide) _ _ _ _
  · exact (hl.trans l1).set4 (by omega) _ _ _ _

theorem fdsS_no {s : St} {c r a er : Int} (h : (s.all rowMay2 && opMay c r a) = false) : fdsS s c r a er = (St.zero, 0, er) := cntS_no h
theorem fdsApply (v : Value) (s : St) (c r a : Int) (w : World) (hx : HasS w v s) (hf : Fit s) :
    Calls Tryz.prog 147 #[v, opV c r a] w fun e w' => ∃ v', e = .returned (.tuple #[v', .int .i64 (fdsS s c r a 400).2.1, .int .i64 (fdsS s c r a 400).2.2]) ∧ OwnS w' w.heap.size v' (fdsS s c r a 400).1 ∧ Le w w' := by
  cases h : s.all rowMay2 && opMay c r a
  · rw [fdsS_no h]
    exact (fdsApplyNo v s c r a w hx h).mono fun e w' ⟨he, hl⟩ => ⟨stZ, he, OwnS.zero _ _, hl⟩
  · obtain ⟨hm, ho⟩ := Bool.and_eq_true_iff.mp h
    rw [show fdsS s c r a 400 = _ from cntS_yes h]
    exact fdsApplyYes v s c r a w hx hf hm ho

end Go.Proofs.YtnemldboiogdkaaGreat

/-
  PLAIN GROUND: what the answers of fds.Apply keep. No condition.
-/
namespace Go.Proofs.YtnemldboiogdkaaGreat
open Go.RowKit

end Go.Proofs.YtnemldboiogdkaaGreat

/-
  PLAIN GROUND AND THE WALKS over package queue's mayRow, put, take, and over slices.ContainsFunc at []int: what each answers, for every row. Condition: at put and take, that the row is the call's own and short.
-/
namespace Go.Proofs.YtnemldboiogdkaaGreat
open Go.RowKit

/-- May a row be a queue's? -/
def rowMay3 (xs : List Int) : Bool := decide (xs.length ≤ 4) && xs.all argB
/-- The row with a number behind all others, and 1; the row as it is, and 0, if it is full. -/
def enqS (xs : List Int) (a : Int) : List Int × Int := if 4 ≤ xs.length then (xs, 0) else (xs ++ [a], 1)
/-- The row without its first number; that number, or -1. -/
def deqS : List Int → List Int × Int
  | [] => ([], -1)
  | x :: r => (r, x)

theorem rowMay3_len {xs : List Int} (h : rowMay3 xs = true) : xs.length ≤ 4 := by
  simp [rowMay3] at h; exact h.1
set_option maxHeartbeats 400000 in
theorem queOdd (x : Int) (w : World) : Calls Tryz.prog 165 #[.int .i64 x] w fun e w' => e = .returned (.bool (!argB x)) ∧ w = w' := by
  by_cases h : x < 0
  · go_enter Tryz.func165, Tryz.ntmps165
    go_wp2
    go_ret
    exact ⟨ret_bool (by simp [argB]; omega), rfl⟩
  · go_enter Tryz.func165, Tryz.ntmps165
    go_wp2
    go_ret
    exact ⟨ret_bool (by rw [Bool.eq_iff_iff]; simp [argB]; omega), rfl⟩

set_option maxHeartbeats 400000 in
theorem slicesIndexFunc (f : Nat) (p : Int → Bool) (hc : ∀ (u : Value) (w : World), (callFunc f #[u]).run Tryz.prog w = .ok (.enter f #[u]) w) (hp : ∀ x w, Calls Tryz.prog f #[.int .i64 x] w fun e w' => e = .returned (.bool (p x)) ∧ w = w') (v : Value) (xs : List Int) (w : World) (hx : Has w v xs) (hl : xs.length ≤ 1000) :
    Calls Tryz.prog 169 #[v, .func (.func f) #[] #[]] w fun e w' => (∃ i : Int, e = .returned (.int .i64 i) ∧ decide (0 ≤ i) = xs.any p) ∧ w = w' := by
  obtain ⟨a, cap, rfl, hcap, _, hx⟩ := hx
  obtain ⟨n, hn⟩ : ∃ n, n = xs.length := ⟨_, rfl⟩
  rw [← hn] at hcap hx hl ⊢
  have HN : Hid (n = xs.length) := hn
  clear hn
  go_enter Tryz.func169, Tryz.ntmps169
  go_wp2
  go_loop [8] (fun i => ∃ k : Nat, k ≤ n ∧ i = .int .i64 k ∧ Hid (xs.any p = (xs.drop k).any p)) (fun i => n - (intOf i).toNat)
  case atStart => exact ⟨0, by omega, rfl, hid (by simp)⟩
  case round =>
    obtain ⟨k, hk, rfl, HR⟩ := hrel
    by_cases hlt : k < n
    · obtain ⟨b, off, rfl, hcell⟩ := hx (by omega)
      have c0 := hcell k hlt
      have hd := HR.out
      rw [drop_at (by have := HN.out; omega)] at hd
      obtain ⟨x, hxk⟩ : ∃ x, x = xs.getD k 0 := ⟨_, rfl⟩
      rw [← hxk] at c0 hd
      simp only [List.any_cons] at hd
      have hm := hp x w
      have k0 : (0 : Int) ≤ (k : Int) := by omega
      have k1 : (k : Int) < (n : Int) := by omega
      cases hh : p x
      · rw [hh] at hm hd
        have HD : Hid (xs.any p = (xs.drop (k + 1)).any p) := hid (by rw [hd]; rfl)
        clear hd hxk hcell hx HR
        go_wp2_with fail
        refine hm.mono ?_
        rintro e w1 ⟨rfl, rfl⟩
        go_wp2
        go_round
        case rel => exact ⟨k + 1, by omega, by go_num, HD⟩
        case measure => simp [intOf]; omega
      · rw [hh] at hm hd
        have HD : Hid (xs.any p = true) := hid (by rw [hd]; rfl)
        clear hd hxk hcell hx HR
        go_wp2_with fail
        refine hm.mono ?_
        rintro e w1 ⟨rfl, rfl⟩
        go_wp2
        go_ret
        exact ⟨⟨k, rfl, by rw [HD.out]; simp⟩, rfl⟩
    · obtain rfl : k = n := by omega
      have HD : Hid (xs.any p = false) := hid (by have := HR.out; rw [List.drop_eq_nil_of_le (by have := HN.out; omega)] at this; exact this)
      go_wp2
      go_ret
      exact ⟨⟨-1, rfl, by rw [HD.out]; decide⟩, rfl⟩

set_option maxHeartbeats 400000 in
theorem slicesContainsFunc (f : Nat) (p : Int → Bool) (hc : ∀ (u : Value) (w : World), (callFunc f #[u]).run Tryz.prog w = .ok (.enter f #[u]) w) (hp : ∀ x w, Calls Tryz.prog f #[.int .i64 x] w fun e w' => e = .returned (.bool (p x)) ∧ w = w') (v : Value) (xs : List Int) (w : World) (hx : Has w v xs) (hl : xs.length ≤ 1000) :
    Calls Tryz.prog 166 #[v, .func (.func f) #[] #[]] w fun e w' => e = .returned (.bool (xs.any p)) ∧ w = w' := by
  have hi := slicesIndexFunc f p hc hp v xs w hx hl
  go_enter Tryz.func166, Tryz.ntmps166
  go_wp2_with fail
  refine hi.mono ?_
  rintro e w1 ⟨⟨i, rfl, hd⟩, rfl⟩
  have HD : Hid (decide (0 ≤ i) = xs.any p) := hd
  clear hd
  go_wp2
  go_ret
  exact ⟨ret_bool HD.out, rfl⟩

theorem any_not (xs : List Int) : (!xs.any fun x => !argB x) = xs.all argB := by
  induction xs with
  | nil => rfl
  | cons x r ih => simp only [List.any_cons, List.all_cons, ← ih, Bool.not_or, Bool.not_not]

set_option maxHeartbeats 400000 in
theorem queMayRow (v : Value) (xs : List Int) (w : World) (hx : Has w v xs) :
    Calls Tryz.prog 157 #[v] w fun e w' => e = .returned (.bool (rowMay3 xs)) ∧ w = w' := by
  have hx0 := hx
  obtain ⟨a, cap, rfl, hcap, _, hx⟩ := hx
  by_cases h4 : xs.length ≤ 4
  · have hcf := slicesContainsFunc 165 (fun x => !argB x) (fun _ _ => by kernel_rfl) queOdd _ xs w hx0 (by omega)
    obtain ⟨B, hB⟩ : ∃ B, B = xs.any fun x => !argB x := ⟨_, rfl⟩
    rw [← hB] at hcf
    have HB : Hid (rowMay3 xs = !B) := hid (by rw [hB, any_not]; simp [rowMay3, h4])
    have h5 : (xs.length : Int) ≤ 4 := by omega
    clear hB hx hx0
    go_enter Tryz.func157, Tryz.ntmps157
    go_wp2_with fail
    refine hcf.mono ?_
    rintro e w1 ⟨rfl, rfl⟩
    go_wp2
    go_ret
    exact ⟨ret_bool HB.out.symm, rfl⟩
  · have h5 : ¬ (xs.length : Int) ≤ 4 := by omega
    have HB : Hid (rowMay3 xs = false) := hid (by simp [rowMay3]; omega)
    clear hx hx0
    go_enter Tryz.func157, Tryz.ntmps157
    go_wp2
    go_ret
    exact ⟨ret_bool HB.out.symm, rfl⟩

set_option maxHeartbeats 400000 in
theorem quePut (v : Value) (base : Nat) (xs : List Int) (a : Int) (w : World) (hown : Own w base v xs) (hbase : base ≤ w.heap.size) (hl : xs.length ≤ 4) :
    Calls Tryz.prog 158 #[v, .int .i64 a] w fun e w' => ∃ v', e = .returned (.tuple #[v', .int .i64 (enqS xs a).2]) ∧ Own w' base v' (enqS xs a).1 ∧ w.grownBy w' v.ownBlock := by
  obtain ⟨ad, cap, rfl, hc, _, hx⟩ := hown.has
  by_cases h4 : 4 ≤ xs.length
  · have HP : Hid (enqS xs a = (xs, 0)) := hid (by simp [enqS, h4])
    have h5 : (4 : Int) ≤ (xs.length : Int) := by omega
    clear hx
    go_enter Tryz.func158, Tryz.ntmps158
    go_wp2
    go_ret2
    rw [HP.out]
    exact ⟨_, rfl, hown, World.grownBy.refl _ _⟩
  · have HP : Hid (enqS xs a = (xs ++ [a], 1)) := hid (by simp [enqS, h4])
    have h5 : ¬ (4 : Int) ≤ (xs.length : Int) := by omega
    have hA := Le.alloc w (.cells #[.int .i64 a] 3)
    have hone : Own (w.alloc (.cells #[.int .i64 a] 3)) w.heap.size (slV (some ⟨w.heap.size, 0, none⟩, 1, 1)) [a] := Own.lit w _ (Nat.le_refl _) [a] (by simp)
    clear hx
    go_enter Tryz.func158, Tryz.ntmps158
    go_wp2_with (at_builtin; refine wp_append_ints rfl _ _ rfl base _ _ xs [a] rfl rfl (hown.le hA) hone.has (by simp; omega) (Nat.le_trans hbase hA.size) ?_; intro v' w2 hown2 hgrow; obtain ⟨q2, rfl⟩ := hown2.has.sl)
    go_ret2
    rw [HP.out]
    exact ⟨_, rfl, hown2, grownBy_trans (World.grownBy_alloc _ _ _) hgrow⟩

theorem quePutT : TurnsRow 158 enqS :=
  ⟨fun _ _ _ => by kernel_rfl, fun v base xs a w ho hb hl _ => quePut v base xs a w ho hb hl⟩

set_option maxHeartbeats 1000000 in
theorem queTake (v : Value) (base : Nat) (xs : List Int) (a : Int) (w : World) (hown : Own w base v xs) (hbase : base ≤ w.heap.size) (hl : xs.length ≤ 4) :
    Calls Tryz.prog 159 #[v, .int .i64 a] w fun e w' => ∃ v', e = .returned (.tuple #[v', .int .i64 (deqS xs).2]) ∧ Own w' base v' (deqS xs).1 ∧ w.grownBy w' v.ownBlock := by
  obtain ⟨ad, cap, rfl, hc, _, hx⟩ := hown.has
  match xs, hl, hc, hx, hown with
  | [], hl, hc, hx, hown =>
    go_enter Tryz.func159, Tryz.ntmps159
    go_wp2
    go_ret2
    exact ⟨_, rfl, Own.nil _ _, World.grownBy.refl _ _⟩
  | x :: zs, hl, hc, hx, hown =>
    obtain ⟨b, off, rfl, hcell⟩ := hx (by simp)
    have c0 : w.cell? ⟨b, off, none⟩ = some (.int .i64 x) := hcell 0 (by simp)
    obtain ⟨n, hn⟩ : ∃ n, n = zs.length := ⟨_, rfl⟩
    obtain ⟨A, hAe, hB⟩ : ∃ A, (if cap = 1 then some ⟨b, off, none⟩ else some ⟨b, off + 1, none⟩ : Option Addr) = A ∧ Has w (.slice A n (cap - 1)) zs := by
      refine ⟨_, rfl, _, _, by rw [← hn], by simp at hc; omega, (fun h => by split at h <;> cases h), fun hp => ?_⟩
      simp only [List.length_cons] at hc
      rw [if_neg (by omega)]
      refine ⟨b, off + 1, rfl, fun j hj => ?_⟩
      have := hcell (j + 1) (by simp; omega)
      rw [Nat.add_assoc, Nat.add_comm 1 j, this]
      rfl
    have HN : Hid (n = zs.length) := hn
    simp only [List.length_cons] at hc hl ⊢
    rw [← hn] at hc hl ⊢
    have n0 : ¬ (((n + 1 : Nat) : Int)) = 0 := by omega
    have n1 : (1 : Int) ≤ (n : Int) + 1 := by omega
    clear hx hcell hn
    go_enter Tryz.func159, Tryz.ntmps159
    go_wp2_with fail
    go_region_law ((refine step_append_ints rfl (.const (.slice none 0 0)) (.tmp 10) rfl w.heap.size (.slice none 0 0) (.slice A n (cap - 1)) [] zs (by simp [Act.eval]) (by simp [Act.eval, Act.put]) (Own.nil _ _) hB (by simp; have := HN.out; omega) (Nat.le_refl _) ?_; intro v1 w1 o1 g1; have l1 : Le w w1 := Below.grown (Le.drew w) g1 (Nat.le_refl _) (fun g e => (by cases e)); have c1 : w1.cell? ⟨b, off, none⟩ = some (.int .i64 x) := (by rw [l1.cell (p := ⟨b, off, none⟩) (World.block_lt_of_cell? w _ c0)]; exact c0)))
    all_goals
      go_wp2
      go_ret2
      rw [List.nil_append] at o1
      exact ⟨_, rfl, o1.base hbase, l1.grownBy _⟩

theorem queTakeT : TurnsRow 159 (fun xs _ => deqS xs) :=
  ⟨fun _ _ _ => by kernel_rfl, fun v base xs a w ho hb hl _ => queTake v base xs a w ho hb hl⟩

end Go.Proofs.YtnemldboiogdkaaGreat

/-
  THE WALK over queue.Apply: what it answers, for every state and operation, and that what it hands back lies in memory of its own. Condition: the state's rows can be copied.
-/
namespace Go.Proofs.YtnemldboiogdkaaGreat
open Go.RowKit

theorem queMay (v : Value) (s : St) (w : World) (hx : HasS w v s) :
    Calls Tryz.prog 149 #[v, .func (.func 157) #[] #[]] w fun e w' => e = .returned (.bool (s.all rowMay3)) ∧ Le w w' :=
  statesMay 157 rowMay3 (fun _ _ => by kernel_rfl) queMayRow v s w hx

/-- The document's answer: the state, the answer, the error. -/
def queS (s : St) (c r a e : Int) : St × Int × Int := cntS rowMay3 enqS (fun xs _ => deqS xs) s c r a e

set_option maxHeartbeats 2000000 in
theorem queApplyNo (v : Value) (s : St) (c r a : Int) (w : World) (hx : HasS w v s) (h : (s.all rowMay3 && opMay c r a) = false) :
    Calls Tryz.prog 148 #[v, opV c r a] w fun e w' => e = .returned (.tuple #[stZ, .int .i64 0, .int .i64 500]) ∧ Le w w' := by
  have hx0 := hx
  obtain ⟨vs, rfl, hr⟩ := hx
  have hl := ((Le.alloc w (.cells (cells4 vs) 54)).trans (Le.alloc _ (.cells #[.int .i64 c, .int .i64 r, .int .i64 a] 42))).trans (Le.alloc _ (.cells (cells4 fun _ => slZ) 54))
  have hb1 := ((Box.new w (cells4 vs) 54).le (Le.alloc _ (.cells #[.int .i64 c, .int .i64 r, .int .i64 a] 42))).le (Le.alloc _ (.cells (cells4 fun _ => slZ) 54))
  have hb2 := (Box.new (w.alloc (.cells (cells4 vs) 54)) #[.int .i64 c, .int .i64 r, .int .i64 a] 42).le (Le.alloc _ (.cells (cells4 fun _ => slZ) 54))
  have hb3 := Box.new ((w.alloc (.cells (cells4 vs) 54)).alloc (.cells #[.int .i64 c, .int .i64 r, .int .i64 a] 42)) (cells4 fun _ => slZ) 54
  simp only [World.size_alloc] at hb1 hb2 hb3
  have hmay := queMay (stV vs) s _ (hx0.le hl)
  cases hm : s.all rowMay3
  · rw [hm] at hmay
    go_enter Tryz.func148, Tryz.ntmps148
    go_wp2_with fail
    refine hmay.mono ?_
    rintro e w1 ⟨rfl, l1⟩
    obtain ⟨z0, z1, z2, z3, f0, f1, f2, f3⟩ := (hb3.le l1).st
    go_wp2_with fail
    refine bodyPost_ret (v := .tuple #[stZ, .int .i64 0, .int .i64 500]) (by simp [results, Tryz.results148, go_sem, z0, z1, z2, z3]) rfl ⟨rfl, ?_⟩
    exact (hl.trans l1).set4 (by omega) _ _ _ _
  · have hop : opMay c r a = false := by simpa [hm] using h
    rw [hm] at hmay
    go_enter Tryz.func148, Tryz.ntmps148
    go_wp2_with fail
    refine hmay.mono ?_
    rintro e w1 ⟨rfl, l1⟩
    obtain ⟨y0, y1, y2, _, _, _⟩ := (hb2.le l1).op
    go_wp2_with fail
    refine (operMay _ _ _ _).mono ?_
    rw [hop]
    rintro e w2 ⟨rfl, l2⟩
    obtain ⟨z0, z1, z2, z3, f0, f1, f2, f3⟩ := ((hb3.le l1).le l2).st
    go_wp2_with fail
    refine bodyPost_ret (v := .tuple #[stZ, .int .i64 0, .int .i64 500]) (by simp [results, Tryz.results148, go_sem, z0, z1, z2, z3]) rfl ⟨rfl, ?_⟩
    exact ((hl.trans l1).trans l2).set4 (by omega) _ _ _ _

set_option maxHeartbeats 2000000 in
theorem queApplyYes (v : Value) (s : St) (c r a : Int) (w : World) (hx : HasS w v s) (hf : Fit s) (hm : s.all rowMay3 = true) (hop : opMay c r a = true) :
    Calls Tryz.prog 148 #[v, opV c r a] w fun e w' => ∃ v', e = .returned (.tuple #[v', .int .i64 (cntY enqS (fun xs _ => deqS xs) s c r a).2, .int .i64 0]) ∧ OwnS w' w.heap.size v' (cntY enqS (fun xs _ => deqS xs) s c r a).1 ∧ Le w w' := by
  have hx0 := hx
  obtain ⟨vs, rfl, hr⟩ := hx
  have hl := ((Le.alloc w (.cells (cells4 vs) 54)).trans (Le.alloc _ (.cells #[.int .i64 c, .int .i64 r, .int .i64 a] 42))).trans (Le.alloc _ (.cells (cells4 fun _ => slZ) 54))
  have hb1 := ((Box.new w (cells4 vs) 54).le (Le.alloc _ (.cells #[.int .i64 c, .int .i64 r, .int .i64 a] 42))).le (Le.alloc _ (.cells (cells4 fun _ => slZ) 54))
  have hb2 := (Box.new (w.alloc (.cells (cells4 vs) 54)) #[.int .i64 c, .int .i64 r, .int .i64 a] 42).le (Le.alloc _ (.cells (cells4 fun _ => slZ) 54))
  have hb3 := Box.new ((w.alloc (.cells (cells4 vs) 54)).alloc (.cells #[.int .i64 c, .int .i64 r, .int .i64 a] 42)) (cells4 fun _ => slZ) 54
  simp only [World.size_alloc] at hb1 hb2 hb3
  have hmay := queMay (stV vs) s _ (hx0.le hl)
  rw [hm] at hmay
  go_enter Tryz.func148, Tryz.ntmps148
  go_wp2_with fail
  refine hmay.mono ?_
  rintro e w1 ⟨rfl, l1⟩
  obtain ⟨y0, y1, y2, _, _, _⟩ := (hb2.le l1).op
  clear hmay
  go_wp2_with fail
  refine (operMay _ _ _ _).mono ?_
  rw [hop]
  rintro e w2 ⟨rfl, l2⟩
  replace l1 := l1.trans l2
  clear l2 y0 y1 y2
  obtain ⟨x0, x1, x2, x3, _, _, _, _⟩ := (hb1.le l1).st
  obtain ⟨y0, y1, y2, _, _, _⟩ := (hb2.le l1).op
  go_wp2_with fail
  refine (countedAll 158 159 enqS (fun xs _ => deqS xs) quePutT queTakeT (stV vs) s c r a _ (hx0.le (hl.trans l1)) hf (fun j hj => rowMay3_len (St.all_at hm hj)) hop).mono ?_
  obtain ⟨Y, hY⟩ : ∃ Y, Y = cntY enqS (fun xs _ => deqS xs) s c r a := ⟨_, rfl⟩
  rw [← hY]
  have HY : Hid (Y = cntY enqS (fun xs _ => deqS xs) s c r a) := hY
  clear hY
  rintro e w3 ⟨_, rfl, ⟨us, rfl, hown⟩, l3⟩
  replace hown := fun i hi => (hown i hi).base (base' := w.heap.size) (hl.trans l1).size
  replace l1 := l1.trans l3
  clear l3 y0 y1 y2 x0 x1 x2 x3
  have n0 : w.heap.size + 1 + 1 < w3.heap.size := (hb3.le l1).lt
  have n1 : ¬ w.heap.size + 1 + 1 = w3.heap.size := by omega
  have hb4 := Box.new w3 (cells4 us) 54
  replace l1 := l1.trans (Le.alloc w3 (.cells (cells4 us) 54))
  replace hown := fun i hi => (hown i hi).le (Le.alloc w3 (.cells (cells4 us) 54))
  go_upto_region 4 with fail
  generalize hW : w3.alloc (.cells (cells4 us) 54) = W at hb4 l1 hown ⊢
  clear hW
  obtain ⟨y0, y1, y2, y3, _, _, _, _⟩ := hb4.st
  obtain ⟨z0, z1, z2, z3, f0, f1, f2, f3⟩ := (hb3.le l1).st
  go_wp2_with fail
  refine bodyPost_ret (v := .tuple #[stV us, .int .i64 Y.2, .int .i64 0]) (by simp [results, Tryz.results148, go_sem, z0, z1, z2, z3]) rfl ⟨stV us, by rw [HY.out], ⟨us, rfl, fun i hi => ?_⟩, ?_⟩
  · rw [← HY.out]; exact (hown i hi).set4 (hb3.le l1) (by decide) _ _ _ _
  · exact (hl.trans l1).set4 (by omega) _ _ _ _

theorem queS_no {s : St} {c r a er : Int} (h : (s.all rowMay3 && opMay c r a) = false) : queS s c r a er = (St.zero, 0, er) := cntS_no h
theorem queApply (v : Value) (s : St) (c r a : Int) (w : World) (hx : HasS w v s) (hf : Fit s) :
    Calls Tryz.prog 148 #[v, opV c r a] w fun e w' => ∃ v', e = .returned (.tuple #[v', .int .i64 (queS s c r a 500).2.1, .int .i64 (queS s c r a 500).2.2]) ∧ OwnS w' w.heap.size v' (queS s c r a 500).1 ∧ Le w w' := by
  cases h : s.all rowMay3 && opMay c r a
  · rw [queS_no h]
    exact (queApplyNo v s c r a w hx h).mono fun e w' ⟨he, hl⟩ => ⟨stZ, he, OwnS.zero _ _, hl⟩
  · obtain ⟨hm, ho⟩ := Bool.and_eq_true_iff.mp h
    rw [show queS s c r a 500 = _ from cntS_yes h]
    exact queApplyYes v s c r a w hx hf hm ho

end Go.Proofs.YtnemldboiogdkaaGreat

/-
  PLAIN GROUND: what the answers of queue.Apply keep. No condition.
-/
namespace Go.Proofs.YtnemldboiogdkaaGreat
open Go.RowKit

end Go.Proofs.YtnemldboiogdkaaGreat

/-
  PLAIN GROUND, NO WALK: the document's answer of one of three objects. No condition.
-/
namespace Go.Proofs.YtnemldboiogdkaaGreat
open Go.RowKit

/-- May a row be the object's? -/
def rowMayO (o : Int) (xs : List Int) : Bool := if o = 0 then rowMay1 xs else if o = 1 then rowMay2 xs else rowMay3 xs
/-- May it be such a state? -/
def objMay (o : Int) (s : St) : Bool := (decide (0 ≤ o) && decide (o ≤ 2)) && s.all (rowMayO o)
/-- The document's answer of object o: the state, the answer, the error. -/
def objS (o : Int) (s : St) (c r a e : Int) : St × Int × Int :=
  if o = 0 then stoS s c r a e else if o = 1 then fdsS s c r a e else if o = 2 then queS s c r a e else (St.zero, 0, e)

theorem objMay0 (s : St) : objMay 0 s = s.all rowMay1 := rfl
theorem objMay1 (s : St) : objMay 1 s = s.all rowMay2 := rfl
theorem objMay2 (s : St) : objMay 2 s = s.all rowMay3 := rfl
theorem objMay_out {o : Int} (h : o < 0 ∨ 2 < o) (s : St) : objMay o s = false := by
  have : (decide (0 ≤ o) && decide (o ≤ 2)) = false := by simp; omega
  simp [objMay, this]
theorem objS_out {o : Int} (h : o < 0 ∨ 2 < o) (s : St) (c r a e : Int) : objS o s c r a e = (St.zero, 0, e) := by
  unfold objS
  rw [if_neg (by omega), if_neg (by omega), if_neg (by omega)]
theorem obj_cases {o : Int} : o = 0 ∨ o = 1 ∨ o = 2 ∨ (o < 0 ∨ 2 < o) := by omega

theorem stoS_err {s : St} {c r a er : Int} (h : (s.all rowMay1 && opMay c r a) = true) : stoS s c r a er = ((stoS s c r a 0).1, (stoS s c r a 0).2.1, 0) := by
  simp only [stoS, if_pos h]
  split <;> rfl

theorem fdsS_err {s : St} {c r a er : Int} (h : (s.all rowMay2 && opMay c r a) = true) : fdsS s c r a er = ((fdsS s c r a 0).1, (fdsS s c r a 0).2.1, 0) := by
  rw [show fdsS s c r a 0 = _ from cntS_yes h]; exact cntS_yes h
theorem queS_err {s : St} {c r a er : Int} (h : (s.all rowMay3 && opMay c r a) = true) : queS s c r a er = ((queS s c r a 0).1, (queS s c r a 0).2.1, 0) := by
  rw [show queS s c r a 0 = _ from cntS_yes h]; exact cntS_yes h

theorem objS_no {o : Int} {s : St} {c r a er : Int} (h : (objMay o s && opMay c r a) = false) : objS o s c r a er = (St.zero, 0, er) := by
  rcases obj_cases (o := o) with rfl | rfl | rfl | ho
  · exact stoS_no h
  · exact fdsS_no h
  · exact queS_no h
  · exact objS_out ho _ _ _ _ _
theorem objS_yes {o : Int} {s : St} {c r a : Int} (er : Int) (h : (objMay o s && opMay c r a) = true) : objS o s c r a er = ((objS o s c r a 0).1, (objS o s c r a 0).2.1, 0) := by
  rcases obj_cases (o := o) with rfl | rfl | rfl | ho
  · exact stoS_err h
  · exact fdsS_err h
  · exact queS_err h
  · rw [objMay_out ho] at h; simp at h
end Go.Proofs.YtnemldboiogdkaaGreat

/-
  PLAIN GROUND, NO WALK: when a machine may be, by the document's chapter 14. No condition.
-/
namespace Go.Proofs.YtnemldboiogdkaaGreat
open Go.RowKit

/-- May a Config be? -/
def Cfg.ok (c : Cfg) : Bool := cfgB c.o c.r c.l c.t c.s
/-- May it be one of the logs? -/
def ringB (c : Cfg) (R : Rg) : Bool := mayR R && (decide ((R.ss.length : Int) = c.s) && (inB 0 R.f c.t && R.ss.all (fun s => inB 0 s.t (c.t - 1))))
/-- Is each cursor in its own log? -/
def cursOK (Rs : List Rg) (cs : List Int) : Bool := (List.range cs.length).all fun i => inB (Rs.getD i Rg.zero).h (cs.getD i 0) (Rs.getD i Rg.zero).t
/-- May it be one of the replicas? -/
def repB (c : Cfg) (Rs : List Rg) (P : Rp) : Bool := objMay c.o P.s && (decide ((P.cs.length : Int) = c.l) && (cursOK Rs P.cs && (decide ((P.ls.length : Int) = c.l) && P.ls.all (fun x => inB 0 x c.t))))
/-- May it be one of the threads? -/
def thB (c : Cfg) (T : Th) : Bool := inB 0 T.st 19 && (opMay T.c T.r T.a && (inB 0 T.lg (c.l - 1) && (inB 0 T.sn 1048576 && ((decide ((T.b.length : Int) ≤ c.t) && T.b.all (fun x => inB 0 x (c.t - 1))) && (inB 0 T.pl T.b.length && (decide ((T.tl.length : Int) ≤ c.l) && T.tl.all (fun x => inB 0 x 1048576)))))))
/-- May it be one of the history? -/
def evB (c : Cfg) (E : Ev) : Bool := inB 0 E.t (c.t - 1) && opMay E.c E.r E.a
/-- May a machine be? -/
def mayM (M : Mc) : Bool := M.c.ok && ((decide ((M.rs.length : Int) = M.c.l) && M.rs.all (ringB M.c)) && ((decide ((M.ps.length : Int) = M.c.r) && M.ps.all (repB M.c M.rs)) && ((decide ((M.ts.length : Int) = M.c.t) && M.ts.all (thB M.c)) && (decide ((M.es.length : Int) ≤ 64) && M.es.all (evB M.c)))))

theorem Cfg.ok_cases {c : Cfg} (h : c.ok = true) : (0 ≤ c.o ∧ c.o ≤ 2) ∧ (1 ≤ c.r ∧ c.r ≤ 2) ∧ (1 ≤ c.l ∧ c.l ≤ 2) ∧ (1 ≤ c.t ∧ c.t ≤ 4) ∧ slotsB c.s = true ∧ 2 * c.t ≤ c.s := cfgB_cases h

theorem cursOK_take {Rs : List Rg} {cs : List Int} {k : Nat} (h : ∀ i, i < k → inB (Rs.getD i Rg.zero).h (cs.getD i 0) (Rs.getD i Rg.zero).t = true) (hk : k = cs.length) : cursOK Rs cs = true := by
  subst hk
  simp only [cursOK, List.all_eq_true, List.mem_range]
  exact h
theorem cursOK_no {Rs : List Rg} {cs : List Int} {k : Nat} (hk : k < cs.length) (h : inB (Rs.getD k Rg.zero).h (cs.getD k 0) (Rs.getD k Rg.zero).t = false) : cursOK Rs cs = false := by
  rw [← Bool.not_eq_true]
  simp only [cursOK, List.all_eq_true, List.mem_range]
  intro hh
  have := hh k hk
  rw [h] at this
  cases this

end Go.Proofs.YtnemldboiogdkaaGreat

/-
  THE WALKS over the document's own RingMay and NewRing: what each answers, for every ring. Condition: that the slots can be copied.
-/
namespace Go.Proofs.YtnemldboiogdkaaGreat
open Go.RowKit

theorem slotB_up {s : Slt} : slotB s = (opUp s.c s.r s.a && threadB s.t && (decide (0 ≤ s.b) && decide (s.b ≤ 1))) := by
  rw [Bool.eq_iff_iff]
  simp [slotB, threadB]
  omega

theorem mayR_doc (R : Rg) : mayR R = (slotsB R.ss.length && holdB R.h && (decide (R.h ≤ R.t) && decide (R.t ≤ R.h + R.ss.length)) && holdB R.t && (decide (0 ≤ R.f) && decide (R.f ≤ 4)) && R.ss.all slotB) := by
  unfold mayR
  generalize R.ss.all slotB = z
  generalize slotsB R.ss.length = y
  cases z <;> cases y <;> simp only [Bool.and_false, Bool.false_and, Bool.true_and, Bool.and_true]
  rw [Bool.eq_iff_iff]
  simp [placesB, holdB]
  omega

set_option maxHeartbeats 1000000 in
theorem refRingMay (v : Value) (R : Rg) (w : World) (hx : HasR w v R) (hf : FitR R) : Calls Tryz.prog 94 #[v] w fun e w' => e = .returned (.bool (mayR R)) ∧ Le w w' := by
  rw [mayR_doc]
  obtain ⟨h, t, f, ss⟩ := R
  obtain ⟨q, rfl, hq⟩ := hx
  simp only [FitR] at hf hq ⊢
  have hb := Box.new w (cellsR h t f q) 60
  have hl := Le.alloc w (.cells (cellsR h t f q) 60)
  have hn := hq.len
  have hq0 : q.2.1 ≤ 4611686018427387904 := by omega
  rw [← hn]
  have HN : Hid (q.2.1 = ss.length) := hn
  clear hn
  have m1 := fun w => refSlotsMay q.2.1 w
  have m2 := fun w => refCellMay h w
  have m3 := fun w => refUpTo t h (h + q.2.1) w
  have m4 := fun w => refCellMay t w
  have m5 := fun w => refUpTo f 0 4 w
  cases h1 : slotsB q.2.1
  · rw [h1] at m1
    go_enter Tryz.func94, Tryz.ntmps94
    go_wp2_with (go_at_call 93; refine (m1 _).mono ?_; rintro e _ ⟨rfl, rfl⟩)
    go_ret
    exact ⟨ret_bool (by simp), hl⟩
  rw [h1] at m1
  have hlen := slotsB_cases h1
  cases h2 : holdB h
  · rw [h2] at m2
    go_enter Tryz.func94, Tryz.ntmps94
    go_wp2_with fail
    refine (m1 _).mono ?_
    rintro e _ ⟨rfl, rfl⟩
    go_wp2_with fail
    refine (m2 _).mono ?_
    rintro e _ ⟨rfl, rfl⟩
    go_wp2_with fail
    go_ret
    exact ⟨ret_bool (by simp), hl⟩
  rw [h2] at m2
  obtain ⟨p0, p1⟩ := holdB_cases h2
  have hsum : IntKind.i64.wrap (h + (q.2.1 : Int)) = h + (q.2.1 : Int) := by rw [IntKind.wrap_i64]; omega
  cases h3 : (decide (h ≤ t) && decide (t ≤ h + (q.2.1 : Int)))
  · rw [h3] at m3
    clear hlen
    go_enter Tryz.func94, Tryz.ntmps94
    go_wp2_with fail
    refine (m1 _).mono ?_
    rintro e _ ⟨rfl, rfl⟩
    go_wp2_with fail
    refine (m2 _).mono ?_
    rintro e _ ⟨rfl, rfl⟩
    go_wp2_with fail
    refine (m3 _).mono ?_
    rintro e _ ⟨rfl, rfl⟩
    go_wp2_with fail
    go_ret
    exact ⟨ret_bool (by simp), hl⟩
  rw [h3] at m3
  cases h4 : holdB t
  · rw [h4] at m4
    clear hlen
    go_enter Tryz.func94, Tryz.ntmps94
    go_wp2_with fail
    refine (m1 _).mono ?_
    rintro e _ ⟨rfl, rfl⟩
    go_wp2_with fail
    refine (m2 _).mono ?_
    rintro e _ ⟨rfl, rfl⟩
    go_wp2_with fail
    refine (m3 _).mono ?_
    rintro e _ ⟨rfl, rfl⟩
    go_wp2_with fail
    refine (m4 _).mono ?_
    rintro e _ ⟨rfl, rfl⟩
    go_wp2_with fail
    go_ret
    exact ⟨ret_bool (by simp), hl⟩
  rw [h4] at m4
  cases h5 : (decide (0 ≤ f) && decide (f ≤ 4))
  · rw [h5] at m5
    clear hlen
    go_enter Tryz.func94, Tryz.ntmps94
    go_wp2_with fail
    refine (m1 _).mono ?_
    rintro e _ ⟨rfl, rfl⟩
    go_wp2_with fail
    refine (m2 _).mono ?_
    rintro e _ ⟨rfl, rfl⟩
    go_wp2_with fail
    refine (m3 _).mono ?_
    rintro e _ ⟨rfl, rfl⟩
    go_wp2_with fail
    refine (m4 _).mono ?_
    rintro e _ ⟨rfl, rfl⟩
    go_wp2_with fail
    refine (m5 _).mono ?_
    rintro e _ ⟨rfl, rfl⟩
    go_wp2_with fail
    go_ret
    exact ⟨ret_bool (by simp), hl⟩
  rw [h5] at m5
  simp only [Bool.true_and]
  obtain ⟨a, cap, hqv, hcap, _, hxx⟩ := hq
  obtain ⟨b, off, rfl, hcell⟩ := hxx (by have := HN.out; omega)
  obtain ⟨qa, L, qc⟩ := q
  simp only [slV, Value.slice.injEq] at hqv
  obtain ⟨rfl, hn, rfl⟩ := hqv
  rw [← hn] at hcell
  have HL : Hid (L = ss.length) := hn
  have hL : L ≤ 16 := by simp only at hlen; omega
  clear hn HN hlen h1 h2 h3 h4 h5 hxx hcap hq0 hf
  go_enter Tryz.func94, Tryz.ntmps94
  go_wp2_with fail
  refine (m1 _).mono ?_
  rintro e _ ⟨rfl, rfl⟩
  go_wp2_with fail
  refine (m2 _).mono ?_
  rintro e _ ⟨rfl, rfl⟩
  go_wp2_with fail
  refine (m3 _).mono ?_
  rintro e _ ⟨rfl, rfl⟩
  go_wp2_with fail
  refine (m4 _).mono ?_
  rintro e _ ⟨rfl, rfl⟩
  go_wp2_with fail
  refine (m5 _).mono ?_
  rintro e _ ⟨rfl, rfl⟩
  go_wp2_with fail
  clear m1 m2 m3 m4 m5
  go_loopw [4] (fun i wr => ∃ k : Nat, k ≤ L ∧ i = .int .i64 k ∧ Hid ((ss.take k).all slotB = true) ∧ Le (w.alloc (.cells (cellsR h t f (some ⟨b, off, none⟩, L, qc)) 60)) wr) (fun i _ => L - (intOf i).toNat)
  case atStart => exact ⟨0, by omega, rfl, rfl, Le.refl _⟩
  case round =>
    obtain ⟨k, hk, rfl, HA, hle⟩ := hrel
    by_cases hlt : k < L
    · obtain ⟨s, hs⟩ : ∃ s, s = ss.getD k Slt.zero := ⟨_, rfl⟩
      have HS : Hid (s = ss.getD k Slt.zero) := hs
      obtain ⟨x0, x1, x2, x3, x4⟩ := ((hcell k hlt).le hl).le hle
      rw [← hs] at x0 x1 x2 x3 x4
      obtain ⟨b0, b1, b2, b3, _, _, _, _⟩ := (hb.le hle).ring
      replace b3 : wr.cell? ⟨w.heap.size, 3, none⟩ = some (.slice (some ⟨b, off, none⟩) L qc) := b3
      clear hs hcell
      have hlt' : (k : Int) < (L : Int) := by omega
      have hbs := Box.new wr #[.int .i64 s.c, .int .i64 s.r, .int .i64 s.a, .int .i64 s.t, .int .i64 s.b] 121
      have hls := Le.alloc wr (.cells #[.int .i64 s.c, .int .i64 s.r, .int .i64 s.a, .int .i64 s.t, .int .i64 s.b] 121)
      have r1 := fun w => refUpdates s.c s.r s.a w
      have r2 := fun w => refThreadMay s.t w
      have r3 := fun w => refUpTo s.b 0 1 w
      have HB : Hid (slotB s = (opUp s.c s.r s.a && threadB s.t && (decide (0 ≤ s.b) && decide (s.b ≤ 1)))) := slotB_up
      cases g1 : opUp s.c s.r s.a
      · rw [g1] at r1
        go_wp2_with fail
        refine (r1 _).mono ?_
        rintro e w1 ⟨rfl, l1⟩
        go_wp2_with fail
        go_ret
        exact ⟨ret_bool (all_no (k := k) (by have := HL.out; omega) (by rw [← HS.out, HB.out, g1]; rfl)).symm, ((hl.trans hle).trans hls).trans l1⟩
      rw [g1] at r1
      cases g2 : threadB s.t
      · rw [g2] at r2
        go_wp2_with fail
        refine (r1 _).mono ?_
        rintro e w1 ⟨rfl, l1⟩
        obtain ⟨y0, y1, y2, y3, y4⟩ := (hbs.le l1).slot
        go_wp2_with (go_at_call 127; refine (r2 _).mono ?_; rintro e _ ⟨rfl, rfl⟩)
        go_ret
        exact ⟨ret_bool (all_no (k := k) (by have := HL.out; omega) (by rw [← HS.out, HB.out, g1, g2]; rfl)).symm, ((hl.trans hle).trans hls).trans l1⟩
      rw [g2] at r2
      cases g3 : (decide (0 ≤ s.b) && decide (s.b ≤ 1))
      · rw [g3] at r3
        go_wp2_with fail
        refine (r1 _).mono ?_
        rintro e w1 ⟨rfl, l1⟩
        obtain ⟨y0, y1, y2, y3, y4⟩ := (hbs.le l1).slot
        go_wp2_with fail
        refine (r2 _).mono ?_
        rintro e _ ⟨rfl, rfl⟩
        go_wp2_with fail
        refine (r3 _).mono ?_
        rintro e _ ⟨rfl, rfl⟩
        go_wp2_with fail
        go_ret
        exact ⟨ret_bool (all_no (k := k) (by have := HL.out; omega) (by rw [← HS.out, HB.out, g1, g2, g3]; rfl)).symm, ((hl.trans hle).trans hls).trans l1⟩
      · rw [g3] at r3
        go_wp2_with fail
        refine (r1 _).mono ?_
        rintro e w1 ⟨rfl, l1⟩
        obtain ⟨y0, y1, y2, y3, y4⟩ := (hbs.le l1).slot
        go_wp2_with fail
        refine (r2 _).mono ?_
        rintro e _ ⟨rfl, rfl⟩
        go_wp2_with fail
        refine (r3 _).mono ?_
        rintro e _ ⟨rfl, rfl⟩
        go_wp2_with fail
        go_roundw
        case rel => exact ⟨k + 1, by omega, by go_num, allL_take (by have := HL.out; omega) HA.out (by rw [← HS.out, HB.out, g1, g2, g3]; rfl), (hle.trans hls).trans l1⟩
        case measure => simp [intOf]; omega
    · obtain rfl : k = L := by omega
      go_wp2_with fail
      go_ret
      exact ⟨ret_bool (by have := HA.out; rw [HL.out, List.take_length] at this; exact this.symm), hl.trans hle⟩

end Go.Proofs.YtnemldboiogdkaaGreat

/-
  THE WALKS over the document's own upTo, ConfigMay and ReplicaOf (chorusref13): what each answers, for every Config and every thread. No condition.
-/
namespace Go.Proofs.YtnemldboiogdkaaGreat
open Go.RowKit

theorem rmUpTo (x a b : Int) (w : World) : Calls Tryz.prog 52 #[.int .i64 x, .int .i64 a, .int .i64 b] w fun e w' => e = .returned (.bool (inB a x b)) ∧ w = w' := by
  by_cases h : a ≤ x
  all_goals
    go_enter Tryz.func52, Tryz.ntmps52
    go_wp2
    go_ret
    exact ⟨ret_bool (by simp [inB, h]; try omega), rfl⟩

set_option maxHeartbeats 2000000 in
theorem rmConfigMay (o r l t s : Int) (w : World) : Calls Tryz.prog 60 #[cfgV o r l t s] w fun e w' => e = .returned (.bool (cfgB o r l t s)) ∧ Le w w' := by
  have h1 := fun w' => rmUpTo o 0 2 w'
  have h2 := fun w' => rmUpTo r 1 2 w'
  have h3 := fun w' => rmUpTo l 1 2 w'
  have h4 := fun w' => rmUpTo t 1 4 w'
  have h5 := fun w' => refSlotsMay s w'
  cases k1 : inB 0 o 2
  · rw [k1] at h1
    go_enter Tryz.func60, Tryz.ntmps60
    go_wp2_with fail
    refine (h1 _).mono ?_; rintro e _ ⟨rfl, rfl⟩
    go_wp2_with fail
    go_ret
    exact ⟨ret_bool (by simp [cfgB, k1]), Le.alloc _ _⟩
  rw [k1] at h1
  cases k2 : inB 1 r 2
  · rw [k2] at h2
    go_enter Tryz.func60, Tryz.ntmps60
    go_wp2_with fail
    refine (h1 _).mono ?_; rintro e _ ⟨rfl, rfl⟩
    go_wp2_with fail
    refine (h2 _).mono ?_; rintro e _ ⟨rfl, rfl⟩
    go_wp2_with fail
    go_ret
    exact ⟨ret_bool (by simp [cfgB, k2]), Le.alloc _ _⟩
  rw [k2] at h2
  cases k3 : inB 1 l 2
  · rw [k3] at h3
    go_enter Tryz.func60, Tryz.ntmps60
    go_wp2_with fail
    refine (h1 _).mono ?_; rintro e _ ⟨rfl, rfl⟩
    go_wp2_with fail
    refine (h2 _).mono ?_; rintro e _ ⟨rfl, rfl⟩
    go_wp2_with fail
    refine (h3 _).mono ?_; rintro e _ ⟨rfl, rfl⟩
    go_wp2_with fail
    go_ret
    exact ⟨ret_bool (by simp [cfgB, k3]), Le.alloc _ _⟩
  rw [k3] at h3
  cases k4 : inB 1 t 4
  · rw [k4] at h4
    go_enter Tryz.func60, Tryz.ntmps60
    go_wp2_with fail
    refine (h1 _).mono ?_; rintro e _ ⟨rfl, rfl⟩
    go_wp2_with fail
    refine (h2 _).mono ?_; rintro e _ ⟨rfl, rfl⟩
    go_wp2_with fail
    refine (h3 _).mono ?_; rintro e _ ⟨rfl, rfl⟩
    go_wp2_with fail
    refine (h4 _).mono ?_; rintro e _ ⟨rfl, rfl⟩
    go_wp2_with fail
    go_ret
    exact ⟨ret_bool (by simp [cfgB, k4]), Le.alloc _ _⟩
  rw [k4] at h4
  obtain ⟨t0, t1⟩ := inB_cases k4
  have hb : cfgB o r l t s = (slotsB s && decide (2 * t ≤ s)) := by simp [cfgB, k1, k2, k3, k4]
  rw [hb]
  cases k5 : slotsB s
  all_goals
    rw [k5] at h5
    go_enter Tryz.func60, Tryz.ntmps60
    go_wp2_with fail
    refine (h1 _).mono ?_; rintro e _ ⟨rfl, rfl⟩
    go_wp2_with fail
    refine (h2 _).mono ?_; rintro e _ ⟨rfl, rfl⟩
    go_wp2_with fail
    refine (h3 _).mono ?_; rintro e _ ⟨rfl, rfl⟩
    go_wp2_with fail
    refine (h4 _).mono ?_; rintro e _ ⟨rfl, rfl⟩
    go_wp2_with fail
    refine (h5 _).mono ?_; rintro e _ ⟨rfl, rfl⟩
    go_wp2_with fail
    go_ret
    exact ⟨ret_bool (by simp), Le.alloc _ _⟩

end Go.Proofs.YtnemldboiogdkaaGreat

/-
  THE WALK over the document's ringMay: may it be one of a machine's logs? Condition: that the slots can be copied.
-/
namespace Go.Proofs.YtnemldboiogdkaaGreat
open Go.RowKit

/-- As the document asks it. -/
def ringD (c : Cfg) (R : Rg) : Bool := mayR R && (decide ((R.ss.length : Int) = c.s) && (decide (R.f ≤ c.t) && R.ss.all (fun s => decide (s.t < c.t))))
theorem ringB_doc (c : Cfg) (R : Rg) : ringB c R = ringD c R := by
  unfold ringB ringD
  cases h : mayR R
  · rfl
  simp only [Bool.true_and]
  have hf : 0 ≤ R.f := by unfold mayR at h; simp at h; exact h.1.1.2
  have hs : ∀ s ∈ R.ss, 0 ≤ s.t := by
    unfold mayR at h
    simp only [Bool.and_eq_true, List.all_eq_true] at h
    intro s hs
    have := h.2 s hs
    rw [slotB_up] at this
    simp [threadB] at this
    omega
  have e : R.ss.all (fun s => inB 0 s.t (c.t - 1)) = R.ss.all (fun s => decide (s.t < c.t)) := by
    rw [Bool.eq_iff_iff]
    simp only [List.all_eq_true, inB, Bool.and_eq_true, decide_eq_true_eq]
    constructor
    · intro h s hm; have := h s hm; omega
    · intro h s hm; have := h s hm; have := hs s hm; omega
  rw [e]
  have e2 : inB 0 R.f c.t = decide (R.f ≤ c.t) := by simp [inB, hf]
  rw [e2]

set_option maxHeartbeats 1000000 in
theorem rmRingMay (c : Cfg) (v : Value) (R : Rg) (w : World) (hx : HasR w v R) (hf : FitR R) : Calls Tryz.prog 61 #[cfgV c.o c.r c.l c.t c.s, v] w fun e w' => e = .returned (.bool (ringB c R)) ∧ Le w w' := by
  rw [ringB_doc]
  have hm := fun w' (l : Le w w') => refRingMay v R w' (hx.le l) hf
  obtain ⟨h, t, f, ss⟩ := R
  obtain ⟨q, rfl, hq⟩ := hx
  simp only [ringD] at hm hq ⊢
  have hl := (Le.alloc w (.cells #[.int .i64 c.o, .int .i64 c.r, .int .i64 c.l, .int .i64 c.t, .int .i64 c.s] 23)).trans (Le.alloc _ (.cells (cellsR h t f q) 60))
  have hb1 := (Box.new w #[.int .i64 c.o, .int .i64 c.r, .int .i64 c.l, .int .i64 c.t, .int .i64 c.s] 23).le (Le.alloc _ (.cells (cellsR h t f q) 60))
  have hb2 := Box.new (w.alloc (.cells #[.int .i64 c.o, .int .i64 c.r, .int .i64 c.l, .int .i64 c.t, .int .i64 c.s] 23)) (cellsR h t f q) 60
  rw [World.size_alloc] at hb2
  have hn := hq.len
  rw [← hn]
  have HN : Hid (q.2.1 = ss.length) := hn
  clear hn
  go_enter Tryz.func61, Tryz.ntmps61
  go_upto_region 1 with fail
  generalize hW : (w.alloc (.cells #[.int .i64 c.o, .int .i64 c.r, .int .i64 c.l, .int .i64 c.t, .int .i64 c.s] 23)).alloc (.cells (cellsR h t f q) 60) = W at hl hb1 hb2 ⊢
  clear hW
  obtain ⟨x0, x1, x2, x3, _, _, _, _⟩ := hb2.ring
  go_wp2_with fail
  refine (hm _ hl).mono ?_
  rintro e w1 ⟨rfl, l1⟩
  replace hb1 := hb1.le l1
  replace hb2 := hb2.le l1
  replace hl := hl.trans l1
  clear l1 x0 x1 x2 x3 hm
  obtain ⟨x0, x1, x2, x3, _, _, _, _⟩ := hb2.ring
  obtain ⟨z0, z1, z2, z3, z4⟩ := hb1.slot
  cases h1 : mayR ⟨h, t, f, ss⟩
  · go_wp2_with fail
    go_ret
    exact ⟨ret_bool (by rw [h1]; rfl), hl⟩
  by_cases h2 : (q.2.1 : Int) = c.s
  case neg =>
    go_wp2_with fail
    go_ret
    exact ⟨ret_bool (by rw [h1, decide_eq_false h2]; rfl), hl⟩
  by_cases h3 : f ≤ c.t
  case neg =>
    go_wp2_with fail
    go_ret
    exact ⟨ret_bool (by rw [h1, decide_eq_true h2, decide_eq_false (by omega)]; rfl), hl⟩
  obtain ⟨a, cap, hqv, hcap, _, hxx⟩ := hq
  obtain ⟨qa, L, qc⟩ := q
  simp only [slV, Value.slice.injEq] at hqv
  obtain ⟨rfl, hn, rfl⟩ := hqv
  rw [← hn] at hxx
  have HL : Hid (L = ss.length) := hn
  have HE : Hid (mayR ⟨h, t, f, ss⟩ = true ∧ (L : Int) = c.s ∧ f ≤ c.t) := ⟨h1, h2, h3⟩
  have hL0 : L ≤ 4611686018427387904 := by have := hf; simp only [FitR] at this; omega
  have b3 : w1.cell? ⟨w.heap.size + 1, 3, none⟩ = some (.slice qa L qc) := x3
  clear hn HN hcap hf x3
  go_wp2_with fail
  clear h1 h2 h3
  clear x0 x1 x2 z0 z1 z2 z3 z4 b3
  go_loopw [5] (fun i wr => ∃ k : Nat, k ≤ L ∧ i = .int .i64 k ∧ Hid ((ss.take k).all (fun s => decide (s.t < c.t)) = true) ∧ Le w1 wr) (fun i _ => L - (intOf i).toNat)
  case atStart => exact ⟨0, by omega, rfl, rfl, Le.refl _⟩
  case round =>
    obtain ⟨k, hk, rfl, HA, hle⟩ := hrel
    obtain ⟨x0, x1, x2, x3, _, _, _, _⟩ := (hb2.le hle).ring
    obtain ⟨z0, z1, z2, z3, z4⟩ := (hb1.le hle).slot
    replace x3 : wr.cell? ⟨w.heap.size + 1, 3, none⟩ = some (.slice qa L qc) := x3
    by_cases hlt : k < L
    · obtain ⟨b, off, rfl, hcell⟩ := hxx (by omega)
      obtain ⟨s, hs⟩ : ∃ s, s = ss.getD k Slt.zero := ⟨_, rfl⟩
      have HS : Hid (s = ss.getD k Slt.zero) := hs
      obtain ⟨y0, y1, y2, y3, y4⟩ := ((hcell k hlt).le hl).le hle
      rw [← hs] at y0 y1 y2 y3 y4
      clear hs hcell hxx
      have hlt' : (k : Int) < (L : Int) := by omega
      by_cases hg : c.t ≤ s.t
      · go_wp2_with fail
        go_quiet (fail)
        go_wp2_with fail
        go_ret
        have hno : ss.all (fun s => decide (s.t < c.t)) = false := all_no (k := k) (by have := HL.out; omega) (by rw [← HS.out]; exact decide_eq_false (by omega))
        have h1 := HE.out.1
        have h2 := HE.out.2.1
        have h3 := HE.out.2.2
        exact ⟨ret_bool (by rw [hno]; simp), (hl.trans hle).trans (Le.drewN _ _)⟩
      · go_wp2_with fail
        go_quiet (fail)
        go_wp2_with fail
        go_roundw
        case rel => exact ⟨k + 1, by omega, by go_num, allL_take (by have := HL.out; omega) HA.out (by rw [← HS.out]; exact decide_eq_true (by omega)), hle.trans (Le.drewN _ _)⟩
        case measure => simp [intOf]; omega
    · obtain rfl : k = L := by omega
      go_wp2_with fail
      go_ret
      have hyes := HA.out
      rw [HL.out, List.take_length] at hyes
      have h1 := HE.out.1
      have h2 := HE.out.2.1
      have h3 := HE.out.2.2
      exact ⟨ret_bool (by rw [hyes]; simp [h1, h2]), hl.trans hle⟩

end Go.Proofs.YtnemldboiogdkaaGreat

/-
  THE WALK over the document's own CopyState: the same rows, in memory of their own. Condition: the rows can be copied.
-/
namespace Go.Proofs.YtnemldboiogdkaaGreat
open Go.RowKit

set_option maxHeartbeats 400000 in
theorem refCopyState (v : Value) (s : St) (w : World) (hx : HasS w v s) (hf : Fit s) :
    Calls Tryz.prog 54 #[v] w fun e w' => ∃ v', e = .returned v' ∧ OwnS w' w.heap.size v' s ∧ Le w w' := by
  obtain ⟨vs, rfl, hr⟩ := hx
  go_enter Tryz.func54, Tryz.ntmps54
  go_wp2
  go_loopw [4] (fun i wr => ∃ (k : Nat) (us : Nat → Sl), k ≤ 4 ∧ i = .int .i64 k ∧ Cp w s vs wr k us) (fun i _ => 4 - (intOf i).toNat)
  case atStart => exact ⟨0, _, by omega, rfl, Cp.start w s vs⟩
  case round =>
    obtain ⟨k, us, hk, rfl, hcp⟩ := hrel
    by_cases hlt : k < 4
    · have c1 : (wr.alloc (.cells #[] 3)).cell? ⟨w.heap.size, k, none⟩ = some (slV (vs k)) := ((hcp.given.le (Le.alloc wr _)).cell k).trans (cells4_at vs hlt)
      have hw1 : Has (wr.alloc (.cells #[] 3)) (slV (vs k)) (s.at k) := (hr k hlt).le (hcp.le.trans (Le.alloc wr _))
      have hn1 : Own (wr.alloc (.cells #[] 3)) wr.heap.size (.slice (some ⟨wr.heap.size, 0, none⟩) 0 0) [] := Own.lit wr _ (Nat.le_refl _) [] (by decide)
      have hfk := hf k hlt
      have hrow : ∀ g, (Value.slice (some ⟨wr.heap.size, 0, none⟩) 0 0).ownBlock = some g → wr.heap.size ≤ g := by intro g hg; cases hg; exact Nat.le_refl _
      go_wp2_with (at_builtin; refine wp_append_ints rfl _ _ rfl wr.heap.size _ _ [] (s.at k) rfl rfl hn1 hw1 (by simp; omega) (by simp) ?_; intro v' w2 hown hgrow; rw [List.nil_append] at hown; have l2 : Le wr w2 := Below.grown (Le.alloc wr _) hgrow (by simp) hrow; have c3 := (hcp.filled.le l2).cell k; rw [cells4_at us hlt] at c3; have f3 := (hcp.filled.le l2).frozen k; obtain ⟨q, rfl⟩ := hown.has.sl)
      go_roundw
      case rel => exact ⟨k + 1, _, by omega, by go_num, hcp.next hlt (Le.alloc wr _) hgrow hrow hown⟩
      case measure => simp [intOf]; omega
    · obtain rfl : k = 4 := by omega
      obtain ⟨p0, p1, p2, p3, _, _, _, _⟩ := hcp.filled.st
      obtain ⟨b0, b1, b2, b3, f0, f1, f2, f3⟩ := hcp.result.st
      go_wp2
      refine bodyPost_ret (v := stV us) (by simp [results, Tryz.results54, go_sem, b0, b1, b2, b3]) rfl ⟨_, rfl, ⟨us, rfl, fun i hi => ?_⟩, ?_⟩
      · exact ((((hcp.rows i hi).setBox hcp.result (by decide)).setBox (hcp.result.set _ _) (by decide)).setBox ((hcp.result.set _ _).set _ _) (by decide)).setBox (((hcp.result.set _ _).set _ _).set _ _) (by decide)
      · exact (((Below.setCell hcp.le (by show w.heap.size ≤ w.heap.size + 1; omega) _).setCell (by show w.heap.size ≤ w.heap.size + 1; omega) _).setCell (by show w.heap.size ≤ w.heap.size + 1; omega) _).setCell (by show w.heap.size ≤ w.heap.size + 1; omega) _

end Go.Proofs.YtnemldboiogdkaaGreat

/-
  THE WALKS over the document's own rowMay, StateMay, CopyState, first, storeRow, at a store: what they answer, for every row and state. Condition: where memory is made, that the rows can be copied.
-/
namespace Go.Proofs.YtnemldboiogdkaaGreat
open Go.RowKit

theorem rowMay1_eq (xs : List Int) : rowMay1 xs = (xs.all argB && decide (xs.length ≤ 1)) := by
  match xs with
  | [] => rfl
  | [x] => simp [rowMay1, argB]
  | _ :: _ :: _ => simp [rowMay1]

set_option maxHeartbeats 400000 in
theorem refRowMay0 (v : Value) (xs : List Int) (w : World) (hx : Has w v xs) (hm : xs.length * 8 ≤ 140737488351232) :
    Calls Tryz.prog 128 #[.int .i64 0, v] w fun e w' => e = .returned (.bool (rowMay1 xs)) ∧ Le w w' := by
  have hl := Le.alloc w (.cells #[.int .i64 1, .int .i64 4, .int .i64 4] 3)
  obtain ⟨a, cap, rfl, hc, _, hx⟩ := hx
  rw [rowMay1_eq]
  by_cases h0 : 0 < xs.length
  · obtain ⟨b, off, rfl, hcell⟩ := hx h0
    obtain ⟨L, hL⟩ : ∃ L, L = xs.length := ⟨_, rfl⟩
    rw [← hL] at hm hc hcell h0 ⊢
    have HL : Hid (L = xs.length) := hL
    clear hL hx
    go_enter Tryz.func128, Tryz.ntmps128
    go_wp2
    go_loopw [6] (fun i wr => ∃ k : Nat, k ≤ L ∧ i = .int .i64 k ∧ Hid ((xs.take k).all argB = true) ∧ Le (w.alloc (.cells #[.int .i64 1, .int .i64 4, .int .i64 4] 3)) wr) (fun i _ => L - (intOf i).toNat)
    case atStart => exact ⟨0, Nat.zero_le _, rfl, rfl, Le.refl _⟩
    case round =>
      obtain ⟨k, hk, rfl, HA, hle⟩ := hrel
      by_cases hlt : k < L
      · obtain ⟨x, hxk⟩ : ∃ x, x = xs.getD k 0 := ⟨_, rfl⟩
        have hcx := hcell k hlt
        rw [← hxk] at hcx
        have c1 : ∀ X : Later wr, X.w.cell? ⟨b, off + k, none⟩ = some (.int .i64 x) := fun X => by
          have hb := World.block_lt_of_cell? w _ hcx
          rw [((hl.trans hle).trans X.le).cell (p := ⟨b, off + k, none⟩) hb]; exact hcx
        have HX : Hid (x = xs.getD k 0) := hxk
        clear hxk hcell hcx
        cases hh : argB x
        · have hup := fun w' => refUpTo x 0 255 w'
          have hh' : (decide (0 ≤ x) && decide (x ≤ 255)) = false := hh
          simp only [hh'] at hup
          go_wp2_with fail
          refine wp_region_later (by kernel_rfl) (by kernel_rfl) ?_
          repeat (go_big_quiet_step (first | (go_at_call 92; exact Calls.later_same (hup _))))
          refine wpQuiet_nil ?_
          rintro _ ⟨y, rfl⟩
          go_wp2
          go_ret
          exact ⟨ret_bool (by rw [all_bad (p := argB) (k := k) (by rw [← HL.out]; exact hlt) (HX.out ▸ hh)]; rfl), (hl.trans hle).trans y.le⟩
        · have hup := fun w' => refUpTo x 0 255 w'
          have hh' : (decide (0 ≤ x) && decide (x ≤ 255)) = true := hh
          simp only [hh'] at hup
          go_wp2_with fail
          refine wp_region_later (by kernel_rfl) (by kernel_rfl) ?_
          repeat (go_big_quiet_step (first | (go_at_call 92; exact Calls.later_same (hup _))))
          refine wpQuiet_nil ?_
          rintro _ ⟨y, rfl⟩
          go_wp2
          go_roundw
          case rel => exact ⟨k + 1, by omega, by go_num, by rw [all_take (by rw [← HL.out]; exact hlt), HA.out, ← HX.out, hh]; rfl, hle.trans y.le⟩
          case measure => simp [intOf]; omega
      · go_wp2
        go_ret
        refine ⟨ret_bool ?_, hl.trans hle⟩
        have := HA.out
        rw [List.take_of_length_le (by have := HL.out; omega)] at this
        rw [this, Bool.true_and, decide_eq_decide]
        omega
  · have hnil : xs = [] := by cases xs with | nil => rfl | cons _ _ => simp at h0
    subst hnil
    go_enter Tryz.func128, Tryz.ntmps128
    go_wp2
    refine wp_loop_rounds 1 ?_
    rw [rounds_succ]
    go_wp2
    go_ret
    exact ⟨ret_bool (by simp), hl⟩

set_option maxHeartbeats 400000 in
theorem refStateMay0 (v : Value) (s : St) (w : World) (hx : HasS w v s) (hf : Fit s) :
    Calls Tryz.prog 95 #[.int .i64 0, v] w fun e w' => e = .returned (.bool (s.all rowMay1)) ∧ Le w w' := by
  obtain ⟨vs, rfl, hr⟩ := hx
  have hl := Le.alloc w (.cells (cells4 vs) 54)
  have hb := Box.new w (cells4 vs) 54
  go_enter Tryz.func95, Tryz.ntmps95
  go_wp2
  go_loopw [5] (fun i wr => ∃ k : Nat, k ≤ 4 ∧ i = .int .i64 k ∧ Hid (∀ j, j < k → rowMay1 (s.at j) = true) ∧ Le (w.alloc (.cells (cells4 vs) 54)) wr) (fun i _ => 4 - (intOf i).toNat)
  case atStart => exact ⟨0, by omega, rfl, (fun j hj => by omega), Le.refl _⟩
  case round =>
    obtain ⟨k, hk, rfl, HA, hle⟩ := hrel
    by_cases hlt : k < 4
    · have hm := refRowMay0 (slV (vs k)) (s.at k) wr ((hr k hlt).le (hl.trans hle)) (hf k hlt)
      have c1 : wr.cell? ⟨w.heap.size, k, none⟩ = some (slV (vs k)) := ((hb.le hle).cell k).trans (cells4_at vs hlt)
      cases hh : rowMay1 (s.at k)
      · rw [hh] at hm
        go_wp2_with fail
        refine hm.mono ?_
        rintro e w1 ⟨rfl, l1⟩
        go_wp2
        go_ret
        exact ⟨ret_bool (St.all_not hlt hh).symm, (hl.trans hle).trans l1⟩
      · rw [hh] at hm
        go_wp2_with fail
        refine hm.mono ?_
        rintro e w1 ⟨rfl, l1⟩
        go_wp2
        go_roundw
        case rel => exact ⟨k + 1, by omega, by go_num, (fun j hj => by rcases Nat.lt_or_eq_of_le (Nat.le_of_lt_succ hj) with h | h; exact HA.out j h; exact h ▸ hh), hle.trans l1⟩
        case measure => simp [intOf]; omega
    · obtain rfl : k = 4 := by omega
      go_wp2
      go_ret
      exact ⟨ret_bool (St.all_of HA.out).symm, hl.trans hle⟩

end Go.Proofs.YtnemldboiogdkaaGreat

/-
  PLAIN GROUND, NO WALK: sums of numbers of rows that are short and of small numbers. No condition.
-/
namespace Go.Proofs.YtnemldboiogdkaaGreat

end Go.Proofs.YtnemldboiogdkaaGreat

/-
  THE WALKS over the document's own Apply, at object 0: what it answers, for every state and operation. Condition: the state's rows can be copied.
-/
namespace Go.Proofs.YtnemldboiogdkaaGreat
open Go.RowKit

end Go.Proofs.YtnemldboiogdkaaGreat

/-
  THE WALKS over the document's own rowMay, StateMay, has, fdsRow, at a table: what they answer, for every row and state. Condition: where memory is made, that the row may be a table's.
-/
namespace Go.Proofs.YtnemldboiogdkaaGreat
open Go.RowKit

set_option maxHeartbeats 4000000 in
theorem refRowMay1 (v : Value) (xs : List Int) (w : World) (hx : Has w v xs) :
    Calls Tryz.prog 128 #[.int .i64 1, v] w fun e w' => e = .returned (.bool (rowMay2 xs)) ∧ Le w w' := by
  have hl := Le.alloc w (.cells #[.int .i64 1, .int .i64 4, .int .i64 4] 3)
  obtain ⟨a, cap, rfl, hc, _, hx⟩ := hx
  obtain ⟨L, hL⟩ : ∃ L, L = xs.length := ⟨_, rfl⟩
  rw [← hL] at hc hx ⊢
  have HL : Hid (L = xs.length) := hL
  clear hL
  go_enter Tryz.func128, Tryz.ntmps128
  go_wp2
  go_loopw [6] (fun i wr => ∃ (k : Nat) (y : Int), k ≤ L ∧ (k : Int) ≤ y + 1 ∧ y < 4 ∧ i = .int .i64 k ∧ Hid ((0 < k → xs.getD (k - 1) 0 = y) ∧ (k = 0 → y = -1)) ∧ Hid (rowMay2 xs = riseFrom y (xs.drop k)) ∧ Le (w.alloc (.cells #[.int .i64 1, .int .i64 4, .int .i64 4] 3)) wr) (fun i _ => L - (intOf i).toNat)
  case atStart => exact ⟨0, -1, Nat.zero_le _, by omega, by omega, rfl, hid ⟨fun h => by omega, fun _ => rfl⟩, hid (by simp [rowMay2]), Le.refl _⟩
  case round =>
    obtain ⟨k, y, hk, hy1, hy2, rfl, HY, HA, hle⟩ := hrel
    by_cases hlt : k < L
    · obtain ⟨b, off, rfl, hcell⟩ := hx (by omega)
      obtain ⟨x, hxk⟩ : ∃ x, x = xs.getD k 0 := ⟨_, rfl⟩
      have hcx := hcell k hlt
      rw [← hxk] at hcx
      have c1 : ∀ X : Later wr, X.w.cell? ⟨b, off + k, none⟩ = some (.int .i64 x) := fun X => by
        have hb := World.block_lt_of_cell? w _ hcx
        rw [((hl.trans hle).trans X.le).cell (p := ⟨b, off + k, none⟩) hb]; exact hcx
      have hd := HA.out
      rw [drop_at (by have := HL.out; omega), ← hxk] at hd
      simp only [riseFrom] at hd
      have HX : Hid (x = xs.getD k 0) := hxk
      clear hxk
      have k0 : (0 : Int) ≤ (k : Int) := by omega
      have k1 : (k : Int) < (L : Int) := by omega
      have hup := fun w' => refUpTo x 0 255 w'
      by_cases h1 : 0 ≤ x ∧ x ≤ 255
      · have hh' : (decide (0 ≤ x) && decide (x ≤ 255)) = true := by simp [h1]
        simp only [hh'] at hup
        by_cases h2 : 4 ≤ x
        · have g2 : decide (4 ≤ x) = true := by simp [h2]
          have HD : Hid (rowMay2 xs = false) := hid (by rw [hd]; simp; omega)
          clear hd hcell hx HA HY
          go_wp2_with fail
          refine wp_region_later (by kernel_rfl) (by kernel_rfl) ?_
          repeat (go_big_quiet_step (first | (go_at_call 92; exact Calls.later_same (hup _))))
          refine wpQuiet_nil ?_
          rintro _ ⟨Y, rfl⟩
          go_wp2
          go_ret
          exact ⟨ret_bool HD.out.symm, (hl.trans hle).trans Y.le⟩
        · have g2 : decide (4 ≤ x) = false := by simp; omega
          by_cases h3 : k = 0
          · have g3 : decide (0 < k) = false := by rw [decide_eq_false_iff_not]; omega
            have hy3 := HY.out.2 h3
            have HD : Hid (rowMay2 xs = riseFrom x (xs.drop (k + 1))) := hid (by rw [hd]; simp [show x < 4 by omega, show y < x by omega])
            have hx1 : ((k + 1 : Nat) : Int) ≤ x + 1 := by omega
            clear hd hcell hx HA HY h3 hy3
            go_wp2_with fail
            refine wp_region_later (by kernel_rfl) (by kernel_rfl) ?_
            repeat (go_big_quiet_step (first | (go_at_call 92; exact Calls.later_same (hup _))))
            refine wpQuiet_nil ?_
            rintro _ ⟨Y, rfl⟩
            go_wp2
            go_roundw
            case rel => exact ⟨k + 1, x, by omega, by omega, by omega, by go_num, hid ⟨fun _ => HX.out.symm, fun h => by omega⟩, HD, hle.trans Y.le⟩
            case measure => simp [intOf]; omega
          · obtain ⟨p, rfl⟩ : ∃ p, k = p + 1 := ⟨k - 1, by omega⟩
            have g3 : decide ((0 : Int) < ((p + 1 : Nat) : Int)) = true := by rw [decide_eq_true_eq]; omega
            have g5 : (0 : Int) < (p : Int) + 1 := by omega
            have hyk := HY.out.1 (by omega)
            rw [show p + 1 - 1 = p from rfl] at hyk
            have hcy := hcell p (by omega)
            rw [hyk] at hcy
            have c2 : ∀ X : Later wr, X.w.cell? ⟨b, off + p, none⟩ = some (.int .i64 y) := fun X => by
              have hb := World.block_lt_of_cell? w _ hcy
              rw [((hl.trans hle).trans X.le).cell (p := ⟨b, off + p, none⟩) hb]; exact hcy
            have k3 : (0 : Int) ≤ (p : Int) := by omega
            have k4 : (p : Int) < (L : Int) := by omega
            clear hyk hcy
            by_cases h4 : y < x
            · have g4 : decide (x ≤ y) = false := by simp; omega
              have HD : Hid (rowMay2 xs = riseFrom x (xs.drop (p + 1 + 1))) := hid (by rw [hd]; simp [h4, show x < 4 by omega])
              clear hd hcell hx HA HY
              go_wp2_with fail
              refine wp_region_later (by kernel_rfl) (by kernel_rfl) ?_
              repeat (go_big_quiet_step (first | (go_at_call 92; exact Calls.later_same (hup _))))
              refine wpQuiet_nil ?_
              rintro _ ⟨Y, rfl⟩
              go_wp2
              go_roundw
              case rel => exact ⟨p + 1 + 1, x, by omega, by omega, by omega, by go_num, hid ⟨fun _ => HX.out.symm, fun h => by omega⟩, HD, hle.trans Y.le⟩
              case measure => simp [intOf]; omega
            · have g4 : decide (x ≤ y) = true := by simp; omega
              have HD : Hid (rowMay2 xs = false) := hid (by rw [hd]; simp [h4])
              clear hd hcell hx HA HY
              go_wp2_with fail
              refine wp_region_later (by kernel_rfl) (by kernel_rfl) ?_
              repeat (go_big_quiet_step (first | (go_at_call 92; exact Calls.later_same (hup _))))
              refine wpQuiet_nil ?_
              rintro _ ⟨Y, rfl⟩
              go_wp2
              go_ret
              exact ⟨ret_bool HD.out.symm, (hl.trans hle).trans Y.le⟩
      · have hh' : (decide (0 ≤ x) && decide (x ≤ 255)) = false := by rw [Bool.and_eq_false_iff]; simp; omega
        simp only [hh'] at hup
        have HD : Hid (rowMay2 xs = false) := hid (by rw [hd, show (decide (y < x) && decide (x < 4)) = false by rw [Bool.and_eq_false_iff]; simp; omega]; rfl)
        clear hd hcell hx HA HY
        go_wp2_with fail
        refine wp_region_later (by kernel_rfl) (by kernel_rfl) ?_
        repeat (go_big_quiet_step (first | (go_at_call 92; exact Calls.later_same (hup _))))
        refine wpQuiet_nil ?_
        rintro _ ⟨Y, rfl⟩
        go_wp2
        go_ret
        exact ⟨ret_bool HD.out.symm, (hl.trans hle).trans Y.le⟩
    · obtain rfl : k = L := by omega
      have hd := HA.out
      rw [List.drop_eq_nil_of_le (by have := HL.out; omega)] at hd
      have hlen := rowMay2_len hd
      rw [← HL.out] at hlen
      have HD : Hid (rowMay2 xs = true) := hd
      clear hd hx HA HY
      go_wp2
      go_ret
      exact ⟨ret_bool (by rw [HD.out]; simp; omega), hl.trans hle⟩

end Go.Proofs.YtnemldboiogdkaaGreat

/-
  THE WALKS over the document's own StateMay, has, fdsRow, at a table: what they answer, for every row and state. Condition: at fdsRow, that the row is the call's own and may be a table's.
-/
namespace Go.Proofs.YtnemldboiogdkaaGreat
open Go.RowKit

set_option maxHeartbeats 400000 in
theorem refStateMay1 (v : Value) (s : St) (w : World) (hx : HasS w v s) :
    Calls Tryz.prog 95 #[.int .i64 1, v] w fun e w' => e = .returned (.bool (s.all rowMay2)) ∧ Le w w' := by
  obtain ⟨vs, rfl, hr⟩ := hx
  have hl := Le.alloc w (.cells (cells4 vs) 54)
  have hb := Box.new w (cells4 vs) 54
  go_enter Tryz.func95, Tryz.ntmps95
  go_wp2
  go_loopw [5] (fun i wr => ∃ k : Nat, k ≤ 4 ∧ i = .int .i64 k ∧ Hid (∀ j, j < k → rowMay2 (s.at j) = true) ∧ Le (w.alloc (.cells (cells4 vs) 54)) wr) (fun i _ => 4 - (intOf i).toNat)
  case atStart => exact ⟨0, by omega, rfl, (fun j hj => by omega), Le.refl _⟩
  case round =>
    obtain ⟨k, hk, rfl, HA, hle⟩ := hrel
    by_cases hlt : k < 4
    · have hm := refRowMay1 (slV (vs k)) (s.at k) wr ((hr k hlt).le (hl.trans hle))
      have c1 : wr.cell? ⟨w.heap.size, k, none⟩ = some (slV (vs k)) := ((hb.le hle).cell k).trans (cells4_at vs hlt)
      cases hh : rowMay2 (s.at k)
      · rw [hh] at hm
        go_wp2_with fail
        refine hm.mono ?_
        rintro e w1 ⟨rfl, l1⟩
        go_wp2
        go_ret
        exact ⟨ret_bool (St.all_not hlt hh).symm, (hl.trans hle).trans l1⟩
      · rw [hh] at hm
        go_wp2_with fail
        refine hm.mono ?_
        rintro e w1 ⟨rfl, l1⟩
        go_wp2
        go_roundw
        case rel => exact ⟨k + 1, by omega, by go_num, (fun j hj => by rcases Nat.lt_or_eq_of_le (Nat.le_of_lt_succ hj) with h | h; exact HA.out j h; exact h ▸ hh), hle.trans l1⟩
        case measure => simp [intOf]; omega
    · obtain rfl : k = 4 := by omega
      go_wp2
      go_ret
      exact ⟨ret_bool (St.all_of HA.out).symm, hl.trans hle⟩

end Go.Proofs.YtnemldboiogdkaaGreat

/-
  THE WALKS over the document's own Apply, at object 1: what it answers, for every state and operation. Condition: the state's rows can be copied.
-/
namespace Go.Proofs.YtnemldboiogdkaaGreat
open Go.RowKit

end Go.Proofs.YtnemldboiogdkaaGreat

/-
  THE WALKS over the document's own rowMay, StateMay, queueRow, at a queue: what they answer, for every row and state. Condition: where memory is made, that the rows can be copied, and are short.
-/
namespace Go.Proofs.YtnemldboiogdkaaGreat
open Go.RowKit

theorem rowMay3_eq (xs : List Int) : rowMay3 xs = (xs.all argB && decide (xs.length ≤ 4)) := by rw [rowMay3, Bool.and_comm]

set_option maxHeartbeats 400000 in
theorem refRowMay2 (v : Value) (xs : List Int) (w : World) (hx : Has w v xs) (hm : xs.length * 8 ≤ 140737488351232) :
    Calls Tryz.prog 128 #[.int .i64 2, v] w fun e w' => e = .returned (.bool (rowMay3 xs)) ∧ Le w w' := by
  have hl := Le.alloc w (.cells #[.int .i64 1, .int .i64 4, .int .i64 4] 3)
  obtain ⟨a, cap, rfl, hc, _, hx⟩ := hx
  rw [rowMay3_eq]
  by_cases h0 : 0 < xs.length
  · obtain ⟨b, off, rfl, hcell⟩ := hx h0
    obtain ⟨L, hL⟩ : ∃ L, L = xs.length := ⟨_, rfl⟩
    rw [← hL] at hm hc hcell h0 ⊢
    have HL : Hid (L = xs.length) := hL
    clear hL hx
    go_enter Tryz.func128, Tryz.ntmps128
    go_wp2
    go_loopw [6] (fun i wr => ∃ k : Nat, k ≤ L ∧ i = .int .i64 k ∧ Hid ((xs.take k).all argB = true) ∧ Le (w.alloc (.cells #[.int .i64 1, .int .i64 4, .int .i64 4] 3)) wr) (fun i _ => L - (intOf i).toNat)
    case atStart => exact ⟨0, Nat.zero_le _, rfl, rfl, Le.refl _⟩
    case round =>
      obtain ⟨k, hk, rfl, HA, hle⟩ := hrel
      by_cases hlt : k < L
      · obtain ⟨x, hxk⟩ : ∃ x, x = xs.getD k 0 := ⟨_, rfl⟩
        have hcx := hcell k hlt
        rw [← hxk] at hcx
        have c1 : ∀ X : Later wr, X.w.cell? ⟨b, off + k, none⟩ = some (.int .i64 x) := fun X => by
          have hb := World.block_lt_of_cell? w _ hcx
          rw [((hl.trans hle).trans X.le).cell (p := ⟨b, off + k, none⟩) hb]; exact hcx
        have HX : Hid (x = xs.getD k 0) := hxk
        clear hxk hcell hcx
        cases hh : argB x
        · have hup := fun w' => refUpTo x 0 255 w'
          have hh' : (decide (0 ≤ x) && decide (x ≤ 255)) = false := hh
          simp only [hh'] at hup
          go_wp2_with fail
          refine wp_region_later (by kernel_rfl) (by kernel_rfl) ?_
          repeat (go_big_quiet_step (first | (go_at_call 92; exact Calls.later_same (hup _))))
          refine wpQuiet_nil ?_
          rintro _ ⟨y, rfl⟩
          go_wp2
          go_ret
          exact ⟨ret_bool (by rw [all_bad (p := argB) (k := k) (by rw [← HL.out]; exact hlt) (HX.out ▸ hh)]; rfl), (hl.trans hle).trans y.le⟩
        · have hup := fun w' => refUpTo x 0 255 w'
          have hh' : (decide (0 ≤ x) && decide (x ≤ 255)) = true := hh
          simp only [hh'] at hup
          go_wp2_with fail
          refine wp_region_later (by kernel_rfl) (by kernel_rfl) ?_
          repeat (go_big_quiet_step (first | (go_at_call 92; exact Calls.later_same (hup _))))
          refine wpQuiet_nil ?_
          rintro _ ⟨y, rfl⟩
          go_wp2
          go_roundw
          case rel => exact ⟨k + 1, by omega, by go_num, by rw [all_take (by rw [← HL.out]; exact hlt), HA.out, ← HX.out, hh]; rfl, hle.trans y.le⟩
          case measure => simp [intOf]; omega
      · go_wp2
        go_ret
        refine ⟨ret_bool ?_, hl.trans hle⟩
        have := HA.out
        rw [List.take_of_length_le (by have := HL.out; omega)] at this
        rw [this, Bool.true_and, decide_eq_decide]
        omega
  · have hnil : xs = [] := by cases xs with | nil => rfl | cons _ _ => simp at h0
    subst hnil
    go_enter Tryz.func128, Tryz.ntmps128
    go_wp2
    refine wp_loop_rounds 1 ?_
    rw [rounds_succ]
    go_wp2
    go_ret
    exact ⟨ret_bool (by simp), hl⟩

set_option maxHeartbeats 400000 in
theorem refStateMay2 (v : Value) (s : St) (w : World) (hx : HasS w v s) (hf : Fit s) :
    Calls Tryz.prog 95 #[.int .i64 2, v] w fun e w' => e = .returned (.bool (s.all rowMay3)) ∧ Le w w' := by
  obtain ⟨vs, rfl, hr⟩ := hx
  have hl := Le.alloc w (.cells (cells4 vs) 54)
  have hb := Box.new w (cells4 vs) 54
  go_enter Tryz.func95, Tryz.ntmps95
  go_wp2
  go_loopw [5] (fun i wr => ∃ k : Nat, k ≤ 4 ∧ i = .int .i64 k ∧ Hid (∀ j, j < k → rowMay3 (s.at j) = true) ∧ Le (w.alloc (.cells (cells4 vs) 54)) wr) (fun i _ => 4 - (intOf i).toNat)
  case atStart => exact ⟨0, by omega, rfl, (fun j hj => by omega), Le.refl _⟩
  case round =>
    obtain ⟨k, hk, rfl, HA, hle⟩ := hrel
    by_cases hlt : k < 4
    · have hm := refRowMay2 (slV (vs k)) (s.at k) wr ((hr k hlt).le (hl.trans hle)) (hf k hlt)
      have c1 : wr.cell? ⟨w.heap.size, k, none⟩ = some (slV (vs k)) := ((hb.le hle).cell k).trans (cells4_at vs hlt)
      cases hh : rowMay3 (s.at k)
      · rw [hh] at hm
        go_wp2_with fail
        refine hm.mono ?_
        rintro e w1 ⟨rfl, l1⟩
        go_wp2
        go_ret
        exact ⟨ret_bool (St.all_not hlt hh).symm, (hl.trans hle).trans l1⟩
      · rw [hh] at hm
        go_wp2_with fail
        refine hm.mono ?_
        rintro e w1 ⟨rfl, l1⟩
        go_wp2
        go_roundw
        case rel => exact ⟨k + 1, by omega, by go_num, (fun j hj => by rcases Nat.lt_or_eq_of_le (Nat.le_of_lt_succ hj) with h | h; exact HA.out j h; exact h ▸ hh), hle.trans l1⟩
        case measure => simp [intOf]; omega
    · obtain rfl : k = 4 := by omega
      go_wp2
      go_ret
      exact ⟨ret_bool (St.all_of HA.out).symm, hl.trans hle⟩

end Go.Proofs.YtnemldboiogdkaaGreat

/-
  THE WALKS over the document's own Apply, at object 2: what it answers, for every state and operation. Condition: the state's rows can be copied.
-/
namespace Go.Proofs.YtnemldboiogdkaaGreat
open Go.RowKit

end Go.Proofs.YtnemldboiogdkaaGreat

/-
  THE WALKS over the document's own StateMay and Apply, at every object: what they answer, for every state and operation. Condition: the state's rows can be copied.
-/
namespace Go.Proofs.YtnemldboiogdkaaGreat
open Go.RowKit

set_option maxHeartbeats 400000 in
theorem refStateMayOut (o : Int) (ho : o < 0 ∨ 2 < o) (v : Value) (s : St) (w : World) (hx : HasS w v s) :
    Calls Tryz.prog 95 #[.int .i64 o, v] w fun e w' => e = .returned (.bool false) ∧ Le w w' := by
  obtain ⟨vs, rfl, hr⟩ := hx
  have hl := Le.alloc w (.cells (cells4 vs) 54)
  by_cases h0 : o < 0
  · go_enter Tryz.func95, Tryz.ntmps95
    go_wp2
    refine wp_loop_rounds 1 ?_
    rw [rounds_succ]
    go_wp2
    go_ret
    exact ⟨rfl, hl⟩
  · have h2 : 2 < o := by omega
    go_enter Tryz.func95, Tryz.ntmps95
    go_wp2
    refine wp_loop_rounds 1 ?_
    rw [rounds_succ]
    go_wp2
    go_ret
    exact ⟨rfl, hl⟩

theorem refStateMay (o : Int) (v : Value) (s : St) (w : World) (hx : HasS w v s) (hf : Fit s) :
    Calls Tryz.prog 95 #[.int .i64 o, v] w fun e w' => e = .returned (.bool (objMay o s)) ∧ Le w w' := by
  rcases obj_cases (o := o) with rfl | rfl | rfl | ho
  · exact refStateMay0 v s w hx hf
  · exact refStateMay1 v s w hx
  · exact refStateMay2 v s w hx hf
  · rw [objMay_out ho]; exact refStateMayOut o ho v s w hx

end Go.Proofs.YtnemldboiogdkaaGreat

/-
  THE WALK over choruslaw0.SpoilInts: numbers in the call's own memory are written over, and nothing else turns. No condition but that they may be written over.
-/
namespace Go.Proofs.YtnemldboiogdkaaGreat
open Go.RowKit

end Go.Proofs.YtnemldboiogdkaaGreat

/-
  THE WALKS over choruslaw0's SameEvents, SpoilEvents, SameThread: what each does, for all events and threads. Condition: that the rows can be copied.
-/
namespace Go.Proofs.YtnemldboiogdkaaGreat
open Go.RowKit

theorem take_sameE {α : Type} {xs ys : List α} {d : α} {k : Nat} (h1 : k < xs.length) (h2 : k < ys.length) (h : xs.take k = ys.take k) (he : xs.getD k d = ys.getD k d) : xs.take (k + 1) = ys.take (k + 1) := by
  rw [List.take_succ_eq_append_getElem h1, List.take_succ_eq_append_getElem h2, h]
  simp [List.getD, h1, h2] at he
  rw [he]
theorem ne_of_atE {α : Type} {xs ys : List α} {d : α} {k : Nat} (he : ¬ xs.getD k d = ys.getD k d) : ¬ xs = ys := fun h => he (by rw [h])

theorem ev_ne {x y : Ev} (h : ¬ x = y) : (x.t == y.t) = false ∨ ((x.t == y.t) = true ∧ (x.ca == y.ca) = false) ∨ ((x.t == y.t) = true ∧ (x.ca == y.ca) = true ∧ (x.c == y.c) = false) ∨ ((x.t == y.t) = true ∧ (x.ca == y.ca) = true ∧ (x.c == y.c) = true ∧ (x.r == y.r) = false) ∨ ((x.t == y.t) = true ∧ (x.ca == y.ca) = true ∧ (x.c == y.c) = true ∧ (x.r == y.r) = true ∧ (x.a == y.a) = false) ∨ ((x.t == y.t) = true ∧ (x.ca == y.ca) = true ∧ (x.c == y.c) = true ∧ (x.r == y.r) = true ∧ (x.a == y.a) = true ∧ (x.an == y.an) = false) := by
  cases e0 : x.t == y.t
  · exact .inl rfl
  cases e1 : x.ca == y.ca
  · exact .inr (.inl ⟨rfl, rfl⟩)
  cases e2 : x.c == y.c
  · exact .inr (.inr (.inl ⟨rfl, rfl, rfl⟩))
  cases e3 : x.r == y.r
  · exact .inr (.inr (.inr (.inl ⟨rfl, rfl, rfl, rfl⟩)))
  cases e4 : x.a == y.a
  · exact .inr (.inr (.inr (.inr (.inl ⟨rfl, rfl, rfl, rfl, rfl⟩))))
  cases e5 : x.an == y.an
  · exact .inr (.inr (.inr (.inr (.inr ⟨rfl, rfl, rfl, rfl, rfl, rfl⟩))))
  exfalso
  obtain ⟨_, _, _, _, _, _⟩ := x
  obtain ⟨_, _, _, _, _, _⟩ := y
  simp at e0 e1 e2 e3 e4 e5
  subst e0 e1 e2 e3 e4 e5
  exact h rfl

set_option maxHeartbeats 1000000 in
theorem lawSameEvents (v u : Value) (xs ys : List Ev) (w : World) (hx : HasE evK w v xs) (hy : HasE evK w u ys) (hm : xs.length ≤ 9223372036854775807) :
    Calls Tryz.prog 26 #[v, u] w fun e w' => e = .returned (.bool (decide (xs = ys))) ∧ Le w w' := by
  obtain ⟨a, cap, rfl, hc, _, hx⟩ := hx.openEv
  obtain ⟨c, cap', rfl, hc', _, hy⟩ := hy.openEv
  by_cases hl : xs.length = ys.length
  · by_cases h0 : 0 < xs.length
    · obtain ⟨b, off, rfl, hcell⟩ := hx h0
      obtain ⟨b', off', rfl, hcell'⟩ := hy (by omega)
      have HL : Hid (xs.length = ys.length) := hl
      obtain ⟨L, hL⟩ : ∃ L, L = xs.length := ⟨_, rfl⟩
      rw [← hL] at hm ⊢
      have hL' : ys.length = L := by omega
      rw [hL']
      have HLx : Hid (xs.length = L) := hL.symm
      have HLy : Hid (ys.length = L) := hL'
      rw [← hL] at hcell h0 hc
      rw [hL'] at hcell' hc'
      clear hl hx hy hL hL'
      go_enter Tryz.func26, Tryz.ntmps26
      go_wp2
      go_loopw [5] (fun i wr => ∃ k n : Nat, k ≤ L ∧ i = .int .i64 k ∧ Hid (xs.take k = ys.take k) ∧ wr = w.drewN n) (fun i _ => L - (intOf i).toNat)
      case atStart => exact ⟨0, 0, Nat.zero_le _, rfl, rfl, rfl⟩
      case round =>
        obtain ⟨k, n, hk, rfl, HT, rfl⟩ := hrel
        by_cases hlt : k < L
        · obtain ⟨x, hxk⟩ : ∃ x, x = xs.getD k Ev.zero := ⟨_, rfl⟩
          obtain ⟨x0, x1, x2, x3, x4, x5⟩ := hcell k hlt
          rw [← hxk] at x0 x1 x2 x3 x4 x5
          obtain ⟨y, hyk⟩ : ∃ y, y = ys.getD k Ev.zero := ⟨_, rfl⟩
          obtain ⟨y0, y1, y2, y3, y4, y5⟩ := hcell' k hlt
          rw [← hyk] at y0 y1 y2 y3 y4 y5
          have HX : Hid (x = xs.getD k Ev.zero) := hxk
          have HY : Hid (y = ys.getD k Ev.zero) := hyk
          have hlt' : (k : Int) < (L : Int) := by omega
          clear hxk hyk hcell hcell'
          by_cases hxy : x = y
          · subst hxy
            go_wp2
            go_quiet (fail)
            go_wp2
            go_roundw
            case rel => exact ⟨k + 1, n + nq, by omega, by go_num, take_sameE (by have := HLx.out; omega) (by have := HLy.out; omega) HT.out (by rw [← HX.out, ← HY.out]), rfl⟩
            case measure => simp [intOf]; omega
          · have HN : Hid (¬ x = y) := hxy
            rcases ev_ne hxy with e0 | ⟨e0, e1⟩ | ⟨e0, e1, e2⟩ | ⟨e0, e1, e2, e3⟩ | ⟨e0, e1, e2, e3, e4⟩ | ⟨e0, e1, e2, e3, e4, e5⟩
            all_goals
              clear hxy
              go_wp2
              go_quiet (fail)
              go_wp2
              go_ret
              exact ⟨ret_bool (by have := ne_of_atE (k := k) (d := Ev.zero) (xs := xs) (ys := ys) (by rw [← HX.out, ← HY.out]; exact HN.out); simp [this]), by rw [World.drewN_drewN]; exact Le.drewN _ _⟩
        · go_wp2
          go_ret
          refine ⟨ret_bool ?_, Le.drewN _ _⟩
          have h1 := HLx.out
          have h2 := HLy.out
          have := HT.out
          rw [List.take_of_length_le (by omega), List.take_of_length_le (by omega)] at this
          simp [this]
    · have hxn : xs = [] := by cases xs with | nil => rfl | cons _ _ => simp at h0
      have hyn : ys = [] := by cases ys with | nil => rfl | cons _ _ => subst hxn; simp at hl
      subst hxn hyn
      go_enter Tryz.func26, Tryz.ntmps26
      go_wp2
      refine wp_loop_rounds 1 ?_
      rw [rounds_succ]
      go_wp2
      go_ret
      exact ⟨ret_bool (by simp), Le.refl _⟩
  · have hne : (((xs.length : Int)) != (ys.length : Int)) = true := by simp; omega
    have HN : Hid (¬ xs = ys) := fun h => hl (by rw [h])
    clear hl
    go_enter Tryz.func26, Tryz.ntmps26
    go_wp2
    go_ret
    exact ⟨ret_bool (by have := HN.out; simp [this]), Le.refl _⟩

end Go.Proofs.YtnemldboiogdkaaGreat

/-
  PLAIN GROUND, NO WALK: a thread in a variable. No condition.
-/
namespace Go.Proofs.YtnemldboiogdkaaGreat
open Go.RowKit

abbrev cellsT (T : Th) (b t : Sl) : Array Value := #[.int .i64 T.st, .int .i64 T.c, .int .i64 T.r, .int .i64 T.a, .int .i64 T.lg, .int .i64 T.sn, slV b, .int .i64 T.pl, .bool T.po, .bool T.re, .int .i64 T.an, slV t]
theorem Box.th {w : World} {g : Nat} {T : Th} {b t : Sl} {ty : TypeId} (h : Box w g (cellsT T b t) ty) :
    w.cell? ⟨g, 0, none⟩ = some (.int .i64 T.st) ∧ w.cell? ⟨g, 1, none⟩ = some (.int .i64 T.c) ∧ w.cell? ⟨g, 2, none⟩ = some (.int .i64 T.r) ∧ w.cell? ⟨g, 3, none⟩ = some (.int .i64 T.a) ∧
    w.cell? ⟨g, 4, none⟩ = some (.int .i64 T.lg) ∧ w.cell? ⟨g, 5, none⟩ = some (.int .i64 T.sn) ∧ w.cell? ⟨g, 6, none⟩ = some (slV b) ∧ w.cell? ⟨g, 7, none⟩ = some (.int .i64 T.pl) ∧
    w.cell? ⟨g, 8, none⟩ = some (.bool T.po) ∧ w.cell? ⟨g, 9, none⟩ = some (.bool T.re) ∧ w.cell? ⟨g, 10, none⟩ = some (.int .i64 T.an) ∧ w.cell? ⟨g, 11, none⟩ = some (slV t) :=
  ⟨h.cell 0, h.cell 1, h.cell 2, h.cell 3, h.cell 4, h.cell 5, h.cell 6, h.cell 7, h.cell 8, h.cell 9, h.cell 10, h.cell 11⟩

end Go.Proofs.YtnemldboiogdkaaGreat

/-
  THE WALK over choruslaw0's SameThread, where field 0 is the first that differs. Condition: that the threads' rows can be copied.
-/
namespace Go.Proofs.YtnemldboiogdkaaGreat
open Go.RowKit

set_option linter.unusedVariables false in
set_option maxRecDepth 8000 in
set_option maxHeartbeats 8000000 in
theorem sameTh0 (v u : Value) (T S : Th) (w : World) (hx : HasT w v T) (hy : HasT w u S) (hf : T.b.length * 8 ≤ 140737488351232) (hf2 : T.tl.length * 8 ≤ 140737488351232) (e0 : ¬ T.st = S.st) :
    Calls Tryz.prog 29 #[v, u] w fun e w' => e = .returned (.bool (decide (T = S))) ∧ Le w w' := by
  obtain ⟨q, t, rfl, hq, ht⟩ := hx
  obtain ⟨q', t', rfl, hq', ht'⟩ := hy
  have hl := (Le.alloc w (.cells (cellsT T q t) 45)).trans (Le.alloc _ (.cells (cellsT S q' t') 45))
  have hb1 := (Box.new w (cellsT T q t) 45).le (Le.alloc _ (.cells (cellsT S q' t') 45))
  have hb2 := Box.new (w.alloc (.cells (cellsT T q t) 45)) (cellsT S q' t') 45
  rw [World.size_alloc] at hb2
  obtain ⟨x0, x1, x2, x3, x4, x5, xb, x7, x8, x9, x10, xt⟩ := T
  obtain ⟨y0, y1, y2, y3, y4, y5, yb, y7, y8, y9, y10, yt⟩ := S
  simp only at hq ht hq' ht' hf hf2 e0 ⊢
  have hs := lawSameI _ _ xb yb _ (hq.le hl) (hq'.le hl) hf
  have hs2 := fun w' (l : Le ((w.alloc (.cells (cellsT ⟨x0, x1, x2, x3, x4, x5, xb, x7, x8, x9, x10, xt⟩ q t) 45)).alloc (.cells (cellsT ⟨y0, y1, y2, y3, y4, y5, yb, y7, y8, y9, y10, yt⟩ q' t') 45)) w') => lawSameI _ _ xt yt w' (ht.le (hl.trans l)) (ht'.le (hl.trans l)) hf2
  rw [show decide _ = false from decide_eq_false (fun h => e0 (congrArg Th.st h))]
  have hne : (x0 == y0) = false := by simp [e0]
  clear hs2
  clear e0
  go_enter Tryz.func29, Tryz.ntmps29
  go_wp2_with fail
  go_ret
  exact ⟨rfl, hl⟩

end Go.Proofs.YtnemldboiogdkaaGreat

/-
  THE WALK over choruslaw0's SameThread, where field 1 is the first that differs. Condition: that the threads' rows can be copied.
-/
namespace Go.Proofs.YtnemldboiogdkaaGreat
open Go.RowKit

set_option linter.unusedVariables false in
set_option maxRecDepth 8000 in
set_option maxHeartbeats 8000000 in
theorem sameTh1 (v u : Value) (T S : Th) (w : World) (hx : HasT w v T) (hy : HasT w u S) (hf : T.b.length * 8 ≤ 140737488351232) (hf2 : T.tl.length * 8 ≤ 140737488351232) (e0 : T.st = S.st) (e1 : ¬ T.c = S.c) :
    Calls Tryz.prog 29 #[v, u] w fun e w' => e = .returned (.bool (decide (T = S))) ∧ Le w w' := by
  obtain ⟨q, t, rfl, hq, ht⟩ := hx
  obtain ⟨q', t', rfl, hq', ht'⟩ := hy
  have hl := (Le.alloc w (.cells (cellsT T q t) 45)).trans (Le.alloc _ (.cells (cellsT S q' t') 45))
  have hb1 := (Box.new w (cellsT T q t) 45).le (Le.alloc _ (.cells (cellsT S q' t') 45))
  have hb2 := Box.new (w.alloc (.cells (cellsT T q t) 45)) (cellsT S q' t') 45
  rw [World.size_alloc] at hb2
  obtain ⟨x0, x1, x2, x3, x4, x5, xb, x7, x8, x9, x10, xt⟩ := T
  obtain ⟨y0, y1, y2, y3, y4, y5, yb, y7, y8, y9, y10, yt⟩ := S
  simp only at hq ht hq' ht' hf hf2 e0 e1 ⊢
  have hs := lawSameI _ _ xb yb _ (hq.le hl) (hq'.le hl) hf
  have hs2 := fun w' (l : Le ((w.alloc (.cells (cellsT ⟨x0, x1, x2, x3, x4, x5, xb, x7, x8, x9, x10, xt⟩ q t) 45)).alloc (.cells (cellsT ⟨y0, y1, y2, y3, y4, y5, yb, y7, y8, y9, y10, yt⟩ q' t') 45)) w') => lawSameI _ _ xt yt w' (ht.le (hl.trans l)) (ht'.le (hl.trans l)) hf2
  subst e0
  rw [show decide _ = false from decide_eq_false (fun h => e1 (congrArg Th.c h))]
  have hne : (x1 == y1) = false := by simp [e1]
  clear hs2
  clear e1
  go_enter Tryz.func29, Tryz.ntmps29
  go_wp2_with fail
  go_ret
  exact ⟨rfl, hl⟩

end Go.Proofs.YtnemldboiogdkaaGreat

/-
  THE WALK over choruslaw0's SameThread, where field 2 is the first that differs. Condition: that the threads' rows can be copied.
-/
namespace Go.Proofs.YtnemldboiogdkaaGreat
open Go.RowKit

set_option linter.unusedVariables false in
set_option maxRecDepth 8000 in
set_option maxHeartbeats 8000000 in
theorem sameTh2 (v u : Value) (T S : Th) (w : World) (hx : HasT w v T) (hy : HasT w u S) (hf : T.b.length * 8 ≤ 140737488351232) (hf2 : T.tl.length * 8 ≤ 140737488351232) (e0 : T.st = S.st) (e1 : T.c = S.c) (e2 : ¬ T.r = S.r) :
    Calls Tryz.prog 29 #[v, u] w fun e w' => e = .returned (.bool (decide (T = S))) ∧ Le w w' := by
  obtain ⟨q, t, rfl, hq, ht⟩ := hx
  obtain ⟨q', t', rfl, hq', ht'⟩ := hy
  have hl := (Le.alloc w (.cells (cellsT T q t) 45)).trans (Le.alloc _ (.cells (cellsT S q' t') 45))
  have hb1 := (Box.new w (cellsT T q t) 45).le (Le.alloc _ (.cells (cellsT S q' t') 45))
  have hb2 := Box.new (w.alloc (.cells (cellsT T q t) 45)) (cellsT S q' t') 45
  rw [World.size_alloc] at hb2
  obtain ⟨x0, x1, x2, x3, x4, x5, xb, x7, x8, x9, x10, xt⟩ := T
  obtain ⟨y0, y1, y2, y3, y4, y5, yb, y7, y8, y9, y10, yt⟩ := S
  simp only at hq ht hq' ht' hf hf2 e0 e1 e2 ⊢
  have hs := lawSameI _ _ xb yb _ (hq.le hl) (hq'.le hl) hf
  have hs2 := fun w' (l : Le ((w.alloc (.cells (cellsT ⟨x0, x1, x2, x3, x4, x5, xb, x7, x8, x9, x10, xt⟩ q t) 45)).alloc (.cells (cellsT ⟨y0, y1, y2, y3, y4, y5, yb, y7, y8, y9, y10, yt⟩ q' t') 45)) w') => lawSameI _ _ xt yt w' (ht.le (hl.trans l)) (ht'.le (hl.trans l)) hf2
  subst e0
  subst e1
  rw [show decide _ = false from decide_eq_false (fun h => e2 (congrArg Th.r h))]
  have hne : (x2 == y2) = false := by simp [e2]
  clear hs2
  clear e2
  go_enter Tryz.func29, Tryz.ntmps29
  go_wp2_with fail
  go_ret
  exact ⟨rfl, hl⟩

end Go.Proofs.YtnemldboiogdkaaGreat

/-
  THE WALK over choruslaw0's SameThread, where field 3 is the first that differs. Condition: that the threads' rows can be copied.
-/
namespace Go.Proofs.YtnemldboiogdkaaGreat
open Go.RowKit

set_option linter.unusedVariables false in
set_option maxRecDepth 8000 in
set_option maxHeartbeats 8000000 in
theorem sameTh3 (v u : Value) (T S : Th) (w : World) (hx : HasT w v T) (hy : HasT w u S) (hf : T.b.length * 8 ≤ 140737488351232) (hf2 : T.tl.length * 8 ≤ 140737488351232) (e0 : T.st = S.st) (e1 : T.c = S.c) (e2 : T.r = S.r) (e3 : ¬ T.a = S.a) :
    Calls Tryz.prog 29 #[v, u] w fun e w' => e = .returned (.bool (decide (T = S))) ∧ Le w w' := by
  obtain ⟨q, t, rfl, hq, ht⟩ := hx
  obtain ⟨q', t', rfl, hq', ht'⟩ := hy
  have hl := (Le.alloc w (.cells (cellsT T q t) 45)).trans (Le.alloc _ (.cells (cellsT S q' t') 45))
  have hb1 := (Box.new w (cellsT T q t) 45).le (Le.alloc _ (.cells (cellsT S q' t') 45))
  have hb2 := Box.new (w.alloc (.cells (cellsT T q t) 45)) (cellsT S q' t') 45
  rw [World.size_alloc] at hb2
  obtain ⟨x0, x1, x2, x3, x4, x5, xb, x7, x8, x9, x10, xt⟩ := T
  obtain ⟨y0, y1, y2, y3, y4, y5, yb, y7, y8, y9, y10, yt⟩ := S
  simp only at hq ht hq' ht' hf hf2 e0 e1 e2 e3 ⊢
  have hs := lawSameI _ _ xb yb _ (hq.le hl) (hq'.le hl) hf
  have hs2 := fun w' (l : Le ((w.alloc (.cells (cellsT ⟨x0, x1, x2, x3, x4, x5, xb, x7, x8, x9, x10, xt⟩ q t) 45)).alloc (.cells (cellsT ⟨y0, y1, y2, y3, y4, y5, yb, y7, y8, y9, y10, yt⟩ q' t') 45)) w') => lawSameI _ _ xt yt w' (ht.le (hl.trans l)) (ht'.le (hl.trans l)) hf2
  subst e0
  subst e1
  subst e2
  rw [show decide _ = false from decide_eq_false (fun h => e3 (congrArg Th.a h))]
  have hne : (x3 == y3) = false := by simp [e3]
  clear hs2
  clear e3
  go_enter Tryz.func29, Tryz.ntmps29
  go_wp2_with fail
  go_ret
  exact ⟨rfl, hl⟩

end Go.Proofs.YtnemldboiogdkaaGreat

/-
  THE WALK over choruslaw0's SameThread, where field 4 is the first that differs. Condition: that the threads' rows can be copied.
-/
namespace Go.Proofs.YtnemldboiogdkaaGreat
open Go.RowKit

set_option linter.unusedVariables false in
set_option maxRecDepth 8000 in
set_option maxHeartbeats 8000000 in
theorem sameTh4 (v u : Value) (T S : Th) (w : World) (hx : HasT w v T) (hy : HasT w u S) (hf : T.b.length * 8 ≤ 140737488351232) (hf2 : T.tl.length * 8 ≤ 140737488351232) (e0 : T.st = S.st) (e1 : T.c = S.c) (e2 : T.r = S.r) (e3 : T.a = S.a) (e4 : ¬ T.lg = S.lg) :
    Calls Tryz.prog 29 #[v, u] w fun e w' => e = .returned (.bool (decide (T = S))) ∧ Le w w' := by
  obtain ⟨q, t, rfl, hq, ht⟩ := hx
  obtain ⟨q', t', rfl, hq', ht'⟩ := hy
  have hl := (Le.alloc w (.cells (cellsT T q t) 45)).trans (Le.alloc _ (.cells (cellsT S q' t') 45))
  have hb1 := (Box.new w (cellsT T q t) 45).le (Le.alloc _ (.cells (cellsT S q' t') 45))
  have hb2 := Box.new (w.alloc (.cells (cellsT T q t) 45)) (cellsT S q' t') 45
  rw [World.size_alloc] at hb2
  obtain ⟨x0, x1, x2, x3, x4, x5, xb, x7, x8, x9, x10, xt⟩ := T
  obtain ⟨y0, y1, y2, y3, y4, y5, yb, y7, y8, y9, y10, yt⟩ := S
  simp only at hq ht hq' ht' hf hf2 e0 e1 e2 e3 e4 ⊢
  have hs := lawSameI _ _ xb yb _ (hq.le hl) (hq'.le hl) hf
  have hs2 := fun w' (l : Le ((w.alloc (.cells (cellsT ⟨x0, x1, x2, x3, x4, x5, xb, x7, x8, x9, x10, xt⟩ q t) 45)).alloc (.cells (cellsT ⟨y0, y1, y2, y3, y4, y5, yb, y7, y8, y9, y10, yt⟩ q' t') 45)) w') => lawSameI _ _ xt yt w' (ht.le (hl.trans l)) (ht'.le (hl.trans l)) hf2
  subst e0
  subst e1
  subst e2
  subst e3
  rw [show decide _ = false from decide_eq_false (fun h => e4 (congrArg Th.lg h))]
  have hne : (x4 == y4) = false := by simp [e4]
  clear hs2
  clear e4
  go_enter Tryz.func29, Tryz.ntmps29
  go_wp2_with fail
  go_ret
  exact ⟨rfl, hl⟩

end Go.Proofs.YtnemldboiogdkaaGreat

/-
  THE WALK over choruslaw0's SameThread, where field 5 is the first that differs. Condition: that the threads' rows can be copied.
-/
namespace Go.Proofs.YtnemldboiogdkaaGreat
open Go.RowKit

set_option linter.unusedVariables false in
set_option maxRecDepth 8000 in
set_option maxHeartbeats 8000000 in
theorem sameTh5 (v u : Value) (T S : Th) (w : World) (hx : HasT w v T) (hy : HasT w u S) (hf : T.b.length * 8 ≤ 140737488351232) (hf2 : T.tl.length * 8 ≤ 140737488351232) (e0 : T.st = S.st) (e1 : T.c = S.c) (e2 : T.r = S.r) (e3 : T.a = S.a) (e4 : T.lg = S.lg) (e5 : ¬ T.sn = S.sn) :
    Calls Tryz.prog 29 #[v, u] w fun e w' => e = .returned (.bool (decide (T = S))) ∧ Le w w' := by
  obtain ⟨q, t, rfl, hq, ht⟩ := hx
  obtain ⟨q', t', rfl, hq', ht'⟩ := hy
  have hl := (Le.alloc w (.cells (cellsT T q t) 45)).trans (Le.alloc _ (.cells (cellsT S q' t') 45))
  have hb1 := (Box.new w (cellsT T q t) 45).le (Le.alloc _ (.cells (cellsT S q' t') 45))
  have hb2 := Box.new (w.alloc (.cells (cellsT T q t) 45)) (cellsT S q' t') 45
  rw [World.size_alloc] at hb2
  obtain ⟨x0, x1, x2, x3, x4, x5, xb, x7, x8, x9, x10, xt⟩ := T
  obtain ⟨y0, y1, y2, y3, y4, y5, yb, y7, y8, y9, y10, yt⟩ := S
  simp only at hq ht hq' ht' hf hf2 e0 e1 e2 e3 e4 e5 ⊢
  have hs := lawSameI _ _ xb yb _ (hq.le hl) (hq'.le hl) hf
  have hs2 := fun w' (l : Le ((w.alloc (.cells (cellsT ⟨x0, x1, x2, x3, x4, x5, xb, x7, x8, x9, x10, xt⟩ q t) 45)).alloc (.cells (cellsT ⟨y0, y1, y2, y3, y4, y5, yb, y7, y8, y9, y10, yt⟩ q' t') 45)) w') => lawSameI _ _ xt yt w' (ht.le (hl.trans l)) (ht'.le (hl.trans l)) hf2
  subst e0
  subst e1
  subst e2
  subst e3
  subst e4
  rw [show decide _ = false from decide_eq_false (fun h => e5 (congrArg Th.sn h))]
  have hne : (x5 == y5) = false := by simp [e5]
  clear hs2
  clear e5
  go_enter Tryz.func29, Tryz.ntmps29
  go_wp2_with fail
  go_ret
  exact ⟨rfl, hl⟩

end Go.Proofs.YtnemldboiogdkaaGreat

/-
  THE WALK over choruslaw0's SameThread, where field 6 is the first that differs. Condition: that the threads' rows can be copied.
-/
namespace Go.Proofs.YtnemldboiogdkaaGreat
open Go.RowKit

set_option linter.unusedVariables false in
set_option maxRecDepth 8000 in
set_option maxHeartbeats 8000000 in
theorem sameTh6 (v u : Value) (T S : Th) (w : World) (hx : HasT w v T) (hy : HasT w u S) (hf : T.b.length * 8 ≤ 140737488351232) (hf2 : T.tl.length * 8 ≤ 140737488351232) (e0 : T.st = S.st) (e1 : T.c = S.c) (e2 : T.r = S.r) (e3 : T.a = S.a) (e4 : T.lg = S.lg) (e5 : T.sn = S.sn) (e6 : ¬ T.b = S.b) :
    Calls Tryz.prog 29 #[v, u] w fun e w' => e = .returned (.bool (decide (T = S))) ∧ Le w w' := by
  obtain ⟨q, t, rfl, hq, ht⟩ := hx
  obtain ⟨q', t', rfl, hq', ht'⟩ := hy
  have hl := (Le.alloc w (.cells (cellsT T q t) 45)).trans (Le.alloc _ (.cells (cellsT S q' t') 45))
  have hb1 := (Box.new w (cellsT T q t) 45).le (Le.alloc _ (.cells (cellsT S q' t') 45))
  have hb2 := Box.new (w.alloc (.cells (cellsT T q t) 45)) (cellsT S q' t') 45
  rw [World.size_alloc] at hb2
  obtain ⟨x0, x1, x2, x3, x4, x5, xb, x7, x8, x9, x10, xt⟩ := T
  obtain ⟨y0, y1, y2, y3, y4, y5, yb, y7, y8, y9, y10, yt⟩ := S
  simp only at hq ht hq' ht' hf hf2 e0 e1 e2 e3 e4 e5 e6 ⊢
  have hs := lawSameI _ _ xb yb _ (hq.le hl) (hq'.le hl) hf
  have hs2 := fun w' (l : Le ((w.alloc (.cells (cellsT ⟨x0, x1, x2, x3, x4, x5, xb, x7, x8, x9, x10, xt⟩ q t) 45)).alloc (.cells (cellsT ⟨y0, y1, y2, y3, y4, y5, yb, y7, y8, y9, y10, yt⟩ q' t') 45)) w') => lawSameI _ _ xt yt w' (ht.le (hl.trans l)) (ht'.le (hl.trans l)) hf2
  subst e0
  subst e1
  subst e2
  subst e3
  subst e4
  subst e5
  rw [show decide _ = false from decide_eq_false (fun h => e6 (congrArg Th.b h))]
  rw [decide_eq_false e6] at hs
  clear hs2
  clear e6
  go_enter Tryz.func29, Tryz.ntmps29
  go_wp2_with fail
  refine hs.mono ?_
  rintro e w1 ⟨rfl, l1⟩
  obtain ⟨b0, b1, b2, b3, b4, b5, b6, b7, b8, b9, b10, b11⟩ := (hb1.le l1).th
  obtain ⟨c0, c1, c2, c3, c4, c5, c6, c7, c8, c9, c10, c11⟩ := (hb2.le l1).th
  go_wp2_with fail
  go_ret
  exact ⟨rfl, hl.trans l1⟩

end Go.Proofs.YtnemldboiogdkaaGreat

/-
  THE WALK over choruslaw0's SameThread, where field 7 is the first that differs. Condition: that the threads' rows can be copied.
-/
namespace Go.Proofs.YtnemldboiogdkaaGreat
open Go.RowKit

set_option linter.unusedVariables false in
set_option maxRecDepth 8000 in
set_option maxHeartbeats 8000000 in
theorem sameTh7 (v u : Value) (T S : Th) (w : World) (hx : HasT w v T) (hy : HasT w u S) (hf : T.b.length * 8 ≤ 140737488351232) (hf2 : T.tl.length * 8 ≤ 140737488351232) (e0 : T.st = S.st) (e1 : T.c = S.c) (e2 : T.r = S.r) (e3 : T.a = S.a) (e4 : T.lg = S.lg) (e5 : T.sn = S.sn) (e6 : T.b = S.b) (e7 : ¬ T.pl = S.pl) :
    Calls Tryz.prog 29 #[v, u] w fun e w' => e = .returned (.bool (decide (T = S))) ∧ Le w w' := by
  obtain ⟨q, t, rfl, hq, ht⟩ := hx
  obtain ⟨q', t', rfl, hq', ht'⟩ := hy
  have hl := (Le.alloc w (.cells (cellsT T q t) 45)).trans (Le.alloc _ (.cells (cellsT S q' t') 45))
  have hb1 := (Box.new w (cellsT T q t) 45).le (Le.alloc _ (.cells (cellsT S q' t') 45))
  have hb2 := Box.new (w.alloc (.cells (cellsT T q t) 45)) (cellsT S q' t') 45
  rw [World.size_alloc] at hb2
  obtain ⟨x0, x1, x2, x3, x4, x5, xb, x7, x8, x9, x10, xt⟩ := T
  obtain ⟨y0, y1, y2, y3, y4, y5, yb, y7, y8, y9, y10, yt⟩ := S
  simp only at hq ht hq' ht' hf hf2 e0 e1 e2 e3 e4 e5 e6 e7 ⊢
  have hs := lawSameI _ _ xb yb _ (hq.le hl) (hq'.le hl) hf
  have hs2 := fun w' (l : Le ((w.alloc (.cells (cellsT ⟨x0, x1, x2, x3, x4, x5, xb, x7, x8, x9, x10, xt⟩ q t) 45)).alloc (.cells (cellsT ⟨y0, y1, y2, y3, y4, y5, yb, y7, y8, y9, y10, yt⟩ q' t') 45)) w') => lawSameI _ _ xt yt w' (ht.le (hl.trans l)) (ht'.le (hl.trans l)) hf2
  subst e0
  subst e1
  subst e2
  subst e3
  subst e4
  subst e5
  subst e6
  rw [show decide _ = false from decide_eq_false (fun h => e7 (congrArg Th.pl h))]
  simp only [decide_true] at hs
  have hne : (x7 == y7) = false := by simp [e7]
  clear hs2
  clear e7
  go_enter Tryz.func29, Tryz.ntmps29
  go_wp2_with fail
  refine hs.mono ?_
  rintro e w1 ⟨rfl, l1⟩
  obtain ⟨b0, b1, b2, b3, b4, b5, b6, b7, b8, b9, b10, b11⟩ := (hb1.le l1).th
  obtain ⟨c0, c1, c2, c3, c4, c5, c6, c7, c8, c9, c10, c11⟩ := (hb2.le l1).th
  go_wp2_with fail
  go_ret
  exact ⟨rfl, hl.trans l1⟩

end Go.Proofs.YtnemldboiogdkaaGreat

/-
  THE WALK over choruslaw0's SameThread, where field 8 is the first that differs. Condition: that the threads' rows can be copied.
-/
namespace Go.Proofs.YtnemldboiogdkaaGreat
open Go.RowKit

set_option linter.unusedVariables false in
set_option maxRecDepth 8000 in
set_option maxHeartbeats 8000000 in
theorem sameTh8 (v u : Value) (T S : Th) (w : World) (hx : HasT w v T) (hy : HasT w u S) (hf : T.b.length * 8 ≤ 140737488351232) (hf2 : T.tl.length * 8 ≤ 140737488351232) (e0 : T.st = S.st) (e1 : T.c = S.c) (e2 : T.r = S.r) (e3 : T.a = S.a) (e4 : T.lg = S.lg) (e5 : T.sn = S.sn) (e6 : T.b = S.b) (e7 : T.pl = S.pl) (e8 : ¬ T.po = S.po) :
    Calls Tryz.prog 29 #[v, u] w fun e w' => e = .returned (.bool (decide (T = S))) ∧ Le w w' := by
  obtain ⟨q, t, rfl, hq, ht⟩ := hx
  obtain ⟨q', t', rfl, hq', ht'⟩ := hy
  have hl := (Le.alloc w (.cells (cellsT T q t) 45)).trans (Le.alloc _ (.cells (cellsT S q' t') 45))
  have hb1 := (Box.new w (cellsT T q t) 45).le (Le.alloc _ (.cells (cellsT S q' t') 45))
  have hb2 := Box.new (w.alloc (.cells (cellsT T q t) 45)) (cellsT S q' t') 45
  rw [World.size_alloc] at hb2
  obtain ⟨x0, x1, x2, x3, x4, x5, xb, x7, x8, x9, x10, xt⟩ := T
  obtain ⟨y0, y1, y2, y3, y4, y5, yb, y7, y8, y9, y10, yt⟩ := S
  simp only at hq ht hq' ht' hf hf2 e0 e1 e2 e3 e4 e5 e6 e7 e8 ⊢
  have hs := lawSameI _ _ xb yb _ (hq.le hl) (hq'.le hl) hf
  have hs2 := fun w' (l : Le ((w.alloc (.cells (cellsT ⟨x0, x1, x2, x3, x4, x5, xb, x7, x8, x9, x10, xt⟩ q t) 45)).alloc (.cells (cellsT ⟨y0, y1, y2, y3, y4, y5, yb, y7, y8, y9, y10, yt⟩ q' t') 45)) w') => lawSameI _ _ xt yt w' (ht.le (hl.trans l)) (ht'.le (hl.trans l)) hf2
  subst e0
  subst e1
  subst e2
  subst e3
  subst e4
  subst e5
  subst e6
  subst e7
  rw [show decide _ = false from decide_eq_false (fun h => e8 (congrArg Th.po h))]
  simp only [decide_true] at hs
  have hne : (x8 == y8) = false := by simp [e8]
  clear hs2
  clear e8
  go_enter Tryz.func29, Tryz.ntmps29
  go_wp2_with fail
  refine hs.mono ?_
  rintro e w1 ⟨rfl, l1⟩
  obtain ⟨b0, b1, b2, b3, b4, b5, b6, b7, b8, b9, b10, b11⟩ := (hb1.le l1).th
  obtain ⟨c0, c1, c2, c3, c4, c5, c6, c7, c8, c9, c10, c11⟩ := (hb2.le l1).th
  go_wp2_with fail
  go_ret
  exact ⟨rfl, hl.trans l1⟩

end Go.Proofs.YtnemldboiogdkaaGreat

/-
  THE WALK over choruslaw0's SameThread, where field 9 is the first that differs. Condition: that the threads' rows can be copied.
-/
namespace Go.Proofs.YtnemldboiogdkaaGreat
open Go.RowKit

set_option linter.unusedVariables false in
set_option maxRecDepth 8000 in
set_option maxHeartbeats 8000000 in
theorem sameTh9 (v u : Value) (T S : Th) (w : World) (hx : HasT w v T) (hy : HasT w u S) (hf : T.b.length * 8 ≤ 140737488351232) (hf2 : T.tl.length * 8 ≤ 140737488351232) (e0 : T.st = S.st) (e1 : T.c = S.c) (e2 : T.r = S.r) (e3 : T.a = S.a) (e4 : T.lg = S.lg) (e5 : T.sn = S.sn) (e6 : T.b = S.b) (e7 : T.pl = S.pl) (e8 : T.po = S.po) (e9 : ¬ T.re = S.re) :
    Calls Tryz.prog 29 #[v, u] w fun e w' => e = .returned (.bool (decide (T = S))) ∧ Le w w' := by
  obtain ⟨q, t, rfl, hq, ht⟩ := hx
  obtain ⟨q', t', rfl, hq', ht'⟩ := hy
  have hl := (Le.alloc w (.cells (cellsT T q t) 45)).trans (Le.alloc _ (.cells (cellsT S q' t') 45))
  have hb1 := (Box.new w (cellsT T q t) 45).le (Le.alloc _ (.cells (cellsT S q' t') 45))
  have hb2 := Box.new (w.alloc (.cells (cellsT T q t) 45)) (cellsT S q' t') 45
  rw [World.size_alloc] at hb2
  obtain ⟨x0, x1, x2, x3, x4, x5, xb, x7, x8, x9, x10, xt⟩ := T
  obtain ⟨y0, y1, y2, y3, y4, y5, yb, y7, y8, y9, y10, yt⟩ := S
  simp only at hq ht hq' ht' hf hf2 e0 e1 e2 e3 e4 e5 e6 e7 e8 e9 ⊢
  have hs := lawSameI _ _ xb yb _ (hq.le hl) (hq'.le hl) hf
  have hs2 := fun w' (l : Le ((w.alloc (.cells (cellsT ⟨x0, x1, x2, x3, x4, x5, xb, x7, x8, x9, x10, xt⟩ q t) 45)).alloc (.cells (cellsT ⟨y0, y1, y2, y3, y4, y5, yb, y7, y8, y9, y10, yt⟩ q' t') 45)) w') => lawSameI _ _ xt yt w' (ht.le (hl.trans l)) (ht'.le (hl.trans l)) hf2
  subst e0
  subst e1
  subst e2
  subst e3
  subst e4
  subst e5
  subst e6
  subst e7
  subst e8
  rw [show decide _ = false from decide_eq_false (fun h => e9 (congrArg Th.re h))]
  simp only [decide_true] at hs
  have hne : (x9 == y9) = false := by simp [e9]
  clear hs2
  clear e9
  go_enter Tryz.func29, Tryz.ntmps29
  go_wp2_with fail
  refine hs.mono ?_
  rintro e w1 ⟨rfl, l1⟩
  obtain ⟨b0, b1, b2, b3, b4, b5, b6, b7, b8, b9, b10, b11⟩ := (hb1.le l1).th
  obtain ⟨c0, c1, c2, c3, c4, c5, c6, c7, c8, c9, c10, c11⟩ := (hb2.le l1).th
  go_wp2_with fail
  go_ret
  exact ⟨rfl, hl.trans l1⟩

end Go.Proofs.YtnemldboiogdkaaGreat

/-
  THE WALK over choruslaw0's SameThread, where field 10 is the first that differs. Condition: that the threads' rows can be copied.
-/
namespace Go.Proofs.YtnemldboiogdkaaGreat
open Go.RowKit

set_option linter.unusedVariables false in
set_option maxRecDepth 8000 in
set_option maxHeartbeats 8000000 in
theorem sameTh10 (v u : Value) (T S : Th) (w : World) (hx : HasT w v T) (hy : HasT w u S) (hf : T.b.length * 8 ≤ 140737488351232) (hf2 : T.tl.length * 8 ≤ 140737488351232) (e0 : T.st = S.st) (e1 : T.c = S.c) (e2 : T.r = S.r) (e3 : T.a = S.a) (e4 : T.lg = S.lg) (e5 : T.sn = S.sn) (e6 : T.b = S.b) (e7 : T.pl = S.pl) (e8 : T.po = S.po) (e9 : T.re = S.re) (e10 : ¬ T.an = S.an) :
    Calls Tryz.prog 29 #[v, u] w fun e w' => e = .returned (.bool (decide (T = S))) ∧ Le w w' := by
  obtain ⟨q, t, rfl, hq, ht⟩ := hx
  obtain ⟨q', t', rfl, hq', ht'⟩ := hy
  have hl := (Le.alloc w (.cells (cellsT T q t) 45)).trans (Le.alloc _ (.cells (cellsT S q' t') 45))
  have hb1 := (Box.new w (cellsT T q t) 45).le (Le.alloc _ (.cells (cellsT S q' t') 45))
  have hb2 := Box.new (w.alloc (.cells (cellsT T q t) 45)) (cellsT S q' t') 45
  rw [World.size_alloc] at hb2
  obtain ⟨x0, x1, x2, x3, x4, x5, xb, x7, x8, x9, x10, xt⟩ := T
  obtain ⟨y0, y1, y2, y3, y4, y5, yb, y7, y8, y9, y10, yt⟩ := S
  simp only at hq ht hq' ht' hf hf2 e0 e1 e2 e3 e4 e5 e6 e7 e8 e9 e10 ⊢
  have hs := lawSameI _ _ xb yb _ (hq.le hl) (hq'.le hl) hf
  have hs2 := fun w' (l : Le ((w.alloc (.cells (cellsT ⟨x0, x1, x2, x3, x4, x5, xb, x7, x8, x9, x10, xt⟩ q t) 45)).alloc (.cells (cellsT ⟨y0, y1, y2, y3, y4, y5, yb, y7, y8, y9, y10, yt⟩ q' t') 45)) w') => lawSameI _ _ xt yt w' (ht.le (hl.trans l)) (ht'.le (hl.trans l)) hf2
  subst e0
  subst e1
  subst e2
  subst e3
  subst e4
  subst e5
  subst e6
  subst e7
  subst e8
  subst e9
  rw [show decide _ = false from decide_eq_false (fun h => e10 (congrArg Th.an h))]
  simp only [decide_true] at hs
  have hne : (x10 == y10) = false := by simp [e10]
  clear hs2
  clear e10
  go_enter Tryz.func29, Tryz.ntmps29
  go_wp2_with fail
  refine hs.mono ?_
  rintro e w1 ⟨rfl, l1⟩
  obtain ⟨b0, b1, b2, b3, b4, b5, b6, b7, b8, b9, b10, b11⟩ := (hb1.le l1).th
  obtain ⟨c0, c1, c2, c3, c4, c5, c6, c7, c8, c9, c10, c11⟩ := (hb2.le l1).th
  go_wp2_with fail
  go_ret
  exact ⟨rfl, hl.trans l1⟩

end Go.Proofs.YtnemldboiogdkaaGreat

/-
  THE WALK over choruslaw0's SameThread, where field 11 is the first that differs. Condition: that the threads' rows can be copied.
-/
namespace Go.Proofs.YtnemldboiogdkaaGreat
open Go.RowKit

set_option linter.unusedVariables false in
set_option maxRecDepth 8000 in
set_option maxHeartbeats 8000000 in
theorem sameTh11 (v u : Value) (T S : Th) (w : World) (hx : HasT w v T) (hy : HasT w u S) (hf : T.b.length * 8 ≤ 140737488351232) (hf2 : T.tl.length * 8 ≤ 140737488351232) (e0 : T.st = S.st) (e1 : T.c = S.c) (e2 : T.r = S.r) (e3 : T.a = S.a) (e4 : T.lg = S.lg) (e5 : T.sn = S.sn) (e6 : T.b = S.b) (e7 : T.pl = S.pl) (e8 : T.po = S.po) (e9 : T.re = S.re) (e10 : T.an = S.an) (e11 : ¬ T.tl = S.tl) :
    Calls Tryz.prog 29 #[v, u] w fun e w' => e = .returned (.bool (decide (T = S))) ∧ Le w w' := by
  obtain ⟨q, t, rfl, hq, ht⟩ := hx
  obtain ⟨q', t', rfl, hq', ht'⟩ := hy
  have hl := (Le.alloc w (.cells (cellsT T q t) 45)).trans (Le.alloc _ (.cells (cellsT S q' t') 45))
  have hb1 := (Box.new w (cellsT T q t) 45).le (Le.alloc _ (.cells (cellsT S q' t') 45))
  have hb2 := Box.new (w.alloc (.cells (cellsT T q t) 45)) (cellsT S q' t') 45
  rw [World.size_alloc] at hb2
  obtain ⟨x0, x1, x2, x3, x4, x5, xb, x7, x8, x9, x10, xt⟩ := T
  obtain ⟨y0, y1, y2, y3, y4, y5, yb, y7, y8, y9, y10, yt⟩ := S
  simp only at hq ht hq' ht' hf hf2 e0 e1 e2 e3 e4 e5 e6 e7 e8 e9 e10 e11 ⊢
  have hs := lawSameI _ _ xb yb _ (hq.le hl) (hq'.le hl) hf
  have hs2 := fun w' (l : Le ((w.alloc (.cells (cellsT ⟨x0, x1, x2, x3, x4, x5, xb, x7, x8, x9, x10, xt⟩ q t) 45)).alloc (.cells (cellsT ⟨y0, y1, y2, y3, y4, y5, yb, y7, y8, y9, y10, yt⟩ q' t') 45)) w') => lawSameI _ _ xt yt w' (ht.le (hl.trans l)) (ht'.le (hl.trans l)) hf2
  subst e0
  subst e1
  subst e2
  subst e3
  subst e4
  subst e5
  subst e6
  subst e7
  subst e8
  subst e9
  subst e10
  rw [show decide _ = false from decide_eq_false (fun h => e11 (congrArg Th.tl h))]
  simp only [decide_true] at hs
  simp only [decide_eq_false e11] at hs2
  clear e11
  go_enter Tryz.func29, Tryz.ntmps29
  go_wp2_with fail
  refine hs.mono ?_
  rintro e w1 ⟨rfl, l1⟩
  obtain ⟨b0, b1, b2, b3, b4, b5, b6, b7, b8, b9, b10, b11⟩ := (hb1.le l1).th
  obtain ⟨c0, c1, c2, c3, c4, c5, c6, c7, c8, c9, c10, c11⟩ := (hb2.le l1).th
  go_wp2_with fail
  refine (hs2 _ l1).mono ?_
  rintro e w2 ⟨rfl, l2⟩
  go_wp2_with fail
  go_ret
  exact ⟨rfl, (hl.trans l1).trans l2⟩

end Go.Proofs.YtnemldboiogdkaaGreat

/-
  THE WALK over choruslaw0's SameThread, where they are the same. Condition: that the threads' rows can be copied.
-/
namespace Go.Proofs.YtnemldboiogdkaaGreat
open Go.RowKit

set_option linter.unusedVariables false in
set_option maxRecDepth 8000 in
set_option maxHeartbeats 8000000 in
theorem sameTh12 (v u : Value) (T S : Th) (w : World) (hx : HasT w v T) (hy : HasT w u S) (hf : T.b.length * 8 ≤ 140737488351232) (hf2 : T.tl.length * 8 ≤ 140737488351232) (e0 : T.st = S.st) (e1 : T.c = S.c) (e2 : T.r = S.r) (e3 : T.a = S.a) (e4 : T.lg = S.lg) (e5 : T.sn = S.sn) (e6 : T.b = S.b) (e7 : T.pl = S.pl) (e8 : T.po = S.po) (e9 : T.re = S.re) (e10 : T.an = S.an) (e11 : T.tl = S.tl) :
    Calls Tryz.prog 29 #[v, u] w fun e w' => e = .returned (.bool (decide (T = S))) ∧ Le w w' := by
  obtain ⟨q, t, rfl, hq, ht⟩ := hx
  obtain ⟨q', t', rfl, hq', ht'⟩ := hy
  have hl := (Le.alloc w (.cells (cellsT T q t) 45)).trans (Le.alloc _ (.cells (cellsT S q' t') 45))
  have hb1 := (Box.new w (cellsT T q t) 45).le (Le.alloc _ (.cells (cellsT S q' t') 45))
  have hb2 := Box.new (w.alloc (.cells (cellsT T q t) 45)) (cellsT S q' t') 45
  rw [World.size_alloc] at hb2
  obtain ⟨x0, x1, x2, x3, x4, x5, xb, x7, x8, x9, x10, xt⟩ := T
  obtain ⟨y0, y1, y2, y3, y4, y5, yb, y7, y8, y9, y10, yt⟩ := S
  simp only at hq ht hq' ht' hf hf2 e0 e1 e2 e3 e4 e5 e6 e7 e8 e9 e10 e11 ⊢
  have hs := lawSameI _ _ xb yb _ (hq.le hl) (hq'.le hl) hf
  have hs2 := fun w' (l : Le ((w.alloc (.cells (cellsT ⟨x0, x1, x2, x3, x4, x5, xb, x7, x8, x9, x10, xt⟩ q t) 45)).alloc (.cells (cellsT ⟨y0, y1, y2, y3, y4, y5, yb, y7, y8, y9, y10, yt⟩ q' t') 45)) w') => lawSameI _ _ xt yt w' (ht.le (hl.trans l)) (ht'.le (hl.trans l)) hf2
  subst e0
  subst e1
  subst e2
  subst e3
  subst e4
  subst e5
  subst e6
  subst e7
  subst e8
  subst e9
  subst e10
  subst e11
  simp only [decide_true] at hs hs2 ⊢
  go_enter Tryz.func29, Tryz.ntmps29
  go_wp2_with fail
  refine hs.mono ?_
  rintro e w1 ⟨rfl, l1⟩
  obtain ⟨b0, b1, b2, b3, b4, b5, b6, b7, b8, b9, b10, b11⟩ := (hb1.le l1).th
  obtain ⟨c0, c1, c2, c3, c4, c5, c6, c7, c8, c9, c10, c11⟩ := (hb2.le l1).th
  go_wp2_with fail
  refine (hs2 _ l1).mono ?_
  rintro e w2 ⟨rfl, l2⟩
  go_wp2_with fail
  go_ret
  exact ⟨rfl, (hl.trans l1).trans l2⟩

end Go.Proofs.YtnemldboiogdkaaGreat

/-
  THE LAW of choruslaw0's SameThread: whether two threads are the same, for all threads: its walks laid together. Condition: that their rows can be copied.
-/
namespace Go.Proofs.YtnemldboiogdkaaGreat
open Go.RowKit

theorem lawSameThread (v u : Value) (T S : Th) (w : World) (hx : HasT w v T) (hy : HasT w u S) (hf : T.b.length * 8 ≤ 140737488351232) (hf2 : T.tl.length * 8 ≤ 140737488351232) :
    Calls Tryz.prog 29 #[v, u] w fun e w' => e = .returned (.bool (decide (T = S))) ∧ Le w w' := by
  by_cases e0 : T.st = S.st
  case neg => exact sameTh0 v u T S w hx hy hf hf2 e0
  by_cases e1 : T.c = S.c
  case neg => exact sameTh1 v u T S w hx hy hf hf2 e0 e1
  by_cases e2 : T.r = S.r
  case neg => exact sameTh2 v u T S w hx hy hf hf2 e0 e1 e2
  by_cases e3 : T.a = S.a
  case neg => exact sameTh3 v u T S w hx hy hf hf2 e0 e1 e2 e3
  by_cases e4 : T.lg = S.lg
  case neg => exact sameTh4 v u T S w hx hy hf hf2 e0 e1 e2 e3 e4
  by_cases e5 : T.sn = S.sn
  case neg => exact sameTh5 v u T S w hx hy hf hf2 e0 e1 e2 e3 e4 e5
  by_cases e6 : T.b = S.b
  case neg => exact sameTh6 v u T S w hx hy hf hf2 e0 e1 e2 e3 e4 e5 e6
  by_cases e7 : T.pl = S.pl
  case neg => exact sameTh7 v u T S w hx hy hf hf2 e0 e1 e2 e3 e4 e5 e6 e7
  by_cases e8 : T.po = S.po
  case neg => exact sameTh8 v u T S w hx hy hf hf2 e0 e1 e2 e3 e4 e5 e6 e7 e8
  by_cases e9 : T.re = S.re
  case neg => exact sameTh9 v u T S w hx hy hf hf2 e0 e1 e2 e3 e4 e5 e6 e7 e8 e9
  by_cases e10 : T.an = S.an
  case neg => exact sameTh10 v u T S w hx hy hf hf2 e0 e1 e2 e3 e4 e5 e6 e7 e8 e9 e10
  by_cases e11 : T.tl = S.tl
  case neg => exact sameTh11 v u T S w hx hy hf hf2 e0 e1 e2 e3 e4 e5 e6 e7 e8 e9 e10 e11
  exact sameTh12 v u T S w hx hy hf hf2 e0 e1 e2 e3 e4 e5 e6 e7 e8 e9 e10 e11

end Go.Proofs.YtnemldboiogdkaaGreat

/-
  THE WALK over choruslaw0's SameMachine: whether two machines are the same, for all machines. Condition: that the first one's rows can be copied.
-/
namespace Go.Proofs.YtnemldboiogdkaaGreat
open Go.RowKit

theorem cell_later {w : World} {p : Addr} {v : Value} (h : w.cell? p = some v) : ∀ X : Later w, X.w.cell? p = some v := fun X => cell_le h X.le
theorem RingAt.later {w : World} {b off : Nat} {R : Rg} {q : Sl} (h : RingAt w b off R q) :
    (∀ X : Later w, X.w.cell? ⟨b, off, none⟩ = some (.int .i64 R.h)) ∧ (∀ X : Later w, X.w.cell? ⟨b, off + 1, none⟩ = some (.int .i64 R.t)) ∧ (∀ X : Later w, X.w.cell? ⟨b, off + 2, none⟩ = some (.int .i64 R.f)) ∧ (∀ X : Later w, X.w.cell? ⟨b, off + 3, none⟩ = some (slV q)) :=
  ⟨cell_later h.1, cell_later h.2.1, cell_later h.2.2.1, cell_later h.2.2.2⟩
theorem ThAt.later {w : World} {b off : Nat} {T : Th} {q t : Sl} (h : ThAt w b off T q t) :
    (∀ X : Later w, X.w.cell? ⟨b, off, none⟩ = some (.int .i64 T.st)) ∧ (∀ X : Later w, X.w.cell? ⟨b, off + 1, none⟩ = some (.int .i64 T.c)) ∧ (∀ X : Later w, X.w.cell? ⟨b, off + 2, none⟩ = some (.int .i64 T.r)) ∧ (∀ X : Later w, X.w.cell? ⟨b, off + 3, none⟩ = some (.int .i64 T.a)) ∧
    (∀ X : Later w, X.w.cell? ⟨b, off + 4, none⟩ = some (.int .i64 T.lg)) ∧ (∀ X : Later w, X.w.cell? ⟨b, off + 5, none⟩ = some (.int .i64 T.sn)) ∧ (∀ X : Later w, X.w.cell? ⟨b, off + 6, none⟩ = some (slV q)) ∧ (∀ X : Later w, X.w.cell? ⟨b, off + 7, none⟩ = some (.int .i64 T.pl)) ∧
    (∀ X : Later w, X.w.cell? ⟨b, off + 8, none⟩ = some (.bool T.po)) ∧ (∀ X : Later w, X.w.cell? ⟨b, off + 9, none⟩ = some (.bool T.re)) ∧ (∀ X : Later w, X.w.cell? ⟨b, off + 10, none⟩ = some (.int .i64 T.an)) ∧ (∀ X : Later w, X.w.cell? ⟨b, off + 11, none⟩ = some (slV t)) := by
  obtain ⟨h0, h1, h2, h3, h4, h5, h6, h7, h8, h9, h10, h11⟩ := h
  exact ⟨cell_later h0, cell_later h1, cell_later h2, cell_later h3, cell_later h4, cell_later h5, cell_later h6, cell_later h7, cell_later h8, cell_later h9, cell_later h10, cell_later h11⟩

theorem cfg_ne {x y : Cfg} (h : ¬ x = y) : (x.o == y.o) = false ∨ ((x.o == y.o) = true ∧ (x.r == y.r) = false) ∨ ((x.o == y.o) = true ∧ (x.r == y.r) = true ∧ (x.l == y.l) = false) ∨ ((x.o == y.o) = true ∧ (x.r == y.r) = true ∧ (x.l == y.l) = true ∧ (x.t == y.t) = false) ∨ ((x.o == y.o) = true ∧ (x.r == y.r) = true ∧ (x.l == y.l) = true ∧ (x.t == y.t) = true ∧ (x.s == y.s) = false) := by
  cases e0 : x.o == y.o
  · exact .inl rfl
  cases e1 : x.r == y.r
  · exact .inr (.inl ⟨rfl, rfl⟩)
  cases e2 : x.l == y.l
  · exact .inr (.inr (.inl ⟨rfl, rfl, rfl⟩))
  cases e3 : x.t == y.t
  · exact .inr (.inr (.inr (.inl ⟨rfl, rfl, rfl, rfl⟩)))
  cases e4 : x.s == y.s
  · exact .inr (.inr (.inr (.inr ⟨rfl, rfl, rfl, rfl, rfl⟩)))
  exfalso
  obtain ⟨_, _, _, _, _⟩ := x
  obtain ⟨_, _, _, _, _⟩ := y
  simp at e0 e1 e2 e3 e4
  subst e0 e1 e2 e3 e4
  exact h rfl

set_option maxRecDepth 4000 in
set_option maxHeartbeats 8000000 in
theorem lawSameMachineNo (v u : Value) (M N : Mc) (w : World) (hx : HasM w v M) (hy : HasM w u N) (hf : FitM M) (hne : ¬ (M.c = N.c ∧ M.rs.length = N.rs.length ∧ M.ps.length = N.ps.length ∧ M.ts.length = N.ts.length ∧ M.es = N.es)) :
    Calls Tryz.prog 10 #[v, u] w fun e w' => e = .returned (.bool false) ∧ Le w w' := by
  obtain ⟨c, Rs, Ps, Ts, Es⟩ := M
  obtain ⟨c', Rs', Ps', Ts', Es'⟩ := N
  obtain ⟨⟨aR, nR, cR⟩, ⟨aP, nP, cP⟩, ⟨aT, nT, cT⟩, qH, rfl, hR, hP, hT, hH⟩ := hx
  obtain ⟨⟨aR', nR', cR'⟩, ⟨aP', nP', cP'⟩, ⟨aT', nT', cT'⟩, qH', rfl, hR', hP', hT', hH'⟩ := hy
  have f4 := hf.es
  simp only at hR hP hT hH hR' hP' hT' hH' hne f4 ⊢
  have l1 := hR.len
  have l2 := hP.len
  have l3 := hT.len
  have l1' := hR'.len
  have l2' := hP'.len
  have l3' := hT'.len
  simp only at l1 l2 l3 l1' l2' l3'
  rw [← l1, ← l2, ← l3, ← l1', ← l2', ← l3'] at hne
  clear l1 l2 l3 l1' l2' l3' hR hP hT hR' hP' hT' hf
  have hl := (Le.alloc w (.cells (cells9 c (aR, nR, cR) (aP, nP, cP) (aT, nT, cT) qH) 29)).trans (Le.alloc _ (.cells (cells9 c' (aR', nR', cR') (aP', nP', cP') (aT', nT', cT') qH') 29))
  have hev := lawSameEvents _ _ Es Es' _ (hH.le hl) (hH'.le hl) (by omega)
  clear hH hH' f4
  by_cases ec : c = c'
  · subst ec
    by_cases e1 : nR = nR'
    · subst e1
      by_cases e2 : nP = nP'
      · subst e2
        by_cases e3 : nT = nT'
        · subst e3
          have e4 : ¬ Es = Es' := fun h => hne ⟨rfl, rfl, rfl, rfl, h⟩
          rw [decide_eq_false e4] at hev
          clear hne e4
          go_enter Tryz.func10, Tryz.ntmps10
          go_wp2_with fail
          refine hev.mono ?_
          rintro e w1 ⟨rfl, m1⟩
          go_wp2_with fail
          go_ret
          exact ⟨rfl, hl.trans m1⟩
        · have hn : ((nT : Int) != (nT' : Int)) = true := by simp; omega
          clear hne e3 hev
          go_enter Tryz.func10, Tryz.ntmps10
          go_wp2_with fail
          go_ret
          exact ⟨rfl, hl⟩
      · have hn : ((nP : Int) != (nP' : Int)) = true := by simp; omega
        clear hne e2 hev
        go_enter Tryz.func10, Tryz.ntmps10
        go_wp2_with fail
        go_ret
        exact ⟨rfl, hl⟩
    · have hn : ((nR : Int) != (nR' : Int)) = true := by simp; omega
      clear hne e1 hev
      go_enter Tryz.func10, Tryz.ntmps10
      go_wp2_with fail
      go_ret
      exact ⟨rfl, hl⟩
  · rcases cfg_ne ec with e0 | ⟨e0, e1⟩ | ⟨e0, e1, e2⟩ | ⟨e0, e1, e2, e3⟩ | ⟨e0, e1, e2, e3, e4⟩
    all_goals
      clear hne ec hev
      go_enter Tryz.func10, Tryz.ntmps10
      go_wp2_with fail
      go_ret
      exact ⟨rfl, hl⟩

end Go.Proofs.YtnemldboiogdkaaGreat

/-
  THE WALK over choruslaw0's SameMachine, the rest of it: machines whose Configs, numbers of parts and histories are the same. Condition: that the first one's rows can be copied.
-/
namespace Go.Proofs.YtnemldboiogdkaaGreat
open Go.RowKit

abbrev cellsP (vs : Nat → Sl) (c l : Sl) : Array Value := #[slV (vs 0), slV (vs 1), slV (vs 2), slV (vs 3), slV c, slV l]
theorem Box.rep {w : World} {g : Nat} {vs : Nat → Sl} {c l : Sl} {ty : TypeId} (h : Box w g (cellsP vs c l) ty) :
    w.cell? ⟨g, 0, none⟩ = some (slV (vs 0)) ∧ w.cell? ⟨g, 1, none⟩ = some (slV (vs 1)) ∧ w.cell? ⟨g, 2, none⟩ = some (slV (vs 2)) ∧ w.cell? ⟨g, 3, none⟩ = some (slV (vs 3)) ∧ w.cell? ⟨g, 4, none⟩ = some (slV c) ∧ w.cell? ⟨g, 5, none⟩ = some (slV l) :=
  ⟨h.cell 0, h.cell 1, h.cell 2, h.cell 3, h.cell 4, h.cell 5⟩
theorem eq_of_takes {α : Type} {xs ys : List α} {n : Nat} (h1 : xs.length = n) (h2 : ys.length = n) (h : xs.take n = ys.take n) : xs = ys := by
  rw [List.take_of_length_le (by omega), List.take_of_length_le (by omega)] at h
  exact h

theorem two_boxes (w : World) (xs ys : Array Value) (t : TypeId) : Box ((w.alloc (.cells xs t)).alloc (.cells ys t)).drew w.heap.size xs t ∧ Box ((w.alloc (.cells xs t)).alloc (.cells ys t)).drew (w.heap.size + 1) ys t ∧ Le w ((w.alloc (.cells xs t)).alloc (.cells ys t)).drew := by
  refine ⟨((Box.new w xs t).le (Le.alloc _ _)).le (Le.drew _), ?_, ((Le.alloc _ _).trans (Le.alloc _ _)).trans (Le.drew _)⟩
  have := (Box.new (w.alloc (.cells xs t)) ys t).le (Le.drew _)
  rw [World.size_alloc] at this
  exact this

set_option maxRecDepth 4000 in
set_option maxHeartbeats 16000000 in
theorem lawSameMachineYes (v u : Value) (M N : Mc) (w : World) (hx : HasM w v M) (hy : HasM w u N) (hf : FitM M) (hc : M.c = N.c) (h1 : M.rs.length = N.rs.length) (h2 : M.ps.length = N.ps.length) (h3 : M.ts.length = N.ts.length) (h4 : M.es = N.es) :
    Calls Tryz.prog 10 #[v, u] w fun e w' => e = .returned (.bool (decide (M = N))) ∧ Le w w' := by
  obtain ⟨c, Rs, Ps, Ts, Es⟩ := M
  obtain ⟨c', Rs', Ps', Ts', Es'⟩ := N
  simp only at hc h1 h2 h3 h4
  subst hc h4
  obtain ⟨⟨aR, nR, cR⟩, ⟨aP, nP, cP⟩, ⟨aT, nT, cT⟩, qH, rfl, hR, hP, hT, hH⟩ := hx
  obtain ⟨⟨aR', nR', cR'⟩, ⟨aP', nP', cP'⟩, ⟨aT', nT', cT'⟩, qH', rfl, hR', hP', hT', hH'⟩ := hy
  obtain ⟨f1, f2, f3, f4, fr, fp, ft⟩ := hf
  simp only at hR hP hT hH hR' hP' hT' hH' f1 f2 f3 f4 fr fp ft
  obtain ⟨a, n, hv, nc, _, oR⟩ := hR.open
  simp only [slV, Value.slice.injEq] at hv
  obtain ⟨rfl, rfl, rfl⟩ := hv
  obtain ⟨a, n, hv, nc', _, oR'⟩ := hR'.open
  simp only [slV, Value.slice.injEq] at hv
  obtain ⟨rfl, rfl, rfl⟩ := hv
  obtain ⟨a, n, hv, pc, _, oP⟩ := hP.open
  simp only [slV, Value.slice.injEq] at hv
  obtain ⟨rfl, rfl, rfl⟩ := hv
  obtain ⟨a, n, hv, pc', _, oP'⟩ := hP'.open
  simp only [slV, Value.slice.injEq] at hv
  obtain ⟨rfl, rfl, rfl⟩ := hv
  obtain ⟨a, n, hv, tc, _, oT⟩ := hT.open
  simp only [slV, Value.slice.injEq] at hv
  obtain ⟨rfl, rfl, rfl⟩ := hv
  obtain ⟨a, n, hv, tc', _, oT'⟩ := hT'.open
  simp only [slV, Value.slice.injEq] at hv
  obtain ⟨rfl, rfl, rfl⟩ := hv
  rw [← h1] at nc' oR' ⊢
  rw [← h2] at pc' oP' ⊢
  rw [← h3] at tc' oT' ⊢
  have HR' : Hid (Rs'.length = Rs.length) := h1.symm
  have HP' : Hid (Ps'.length = Ps.length) := h2.symm
  have HT' : Hid (Ts'.length = Ts.length) := h3.symm
  have HD : Hid (∀ b, (Rs = Rs' ∧ Ps = Ps' ∧ Ts = Ts' ↔ b = true) → decide ((⟨c, Rs, Ps, Ts, Es⟩ : Mc) = ⟨c, Rs', Ps', Ts', Es⟩) = b) := fun b hb => by
    rw [Bool.eq_iff_iff, ← hb]; simp
  clear h1 h2 h3 hR hR' hP hP' hT hT'
  obtain ⟨nR, hnR⟩ : ∃ n, n = Rs.length := ⟨_, rfl⟩
  obtain ⟨nP, hnP⟩ : ∃ n, n = Ps.length := ⟨_, rfl⟩
  obtain ⟨nT, hnT⟩ : ∃ n, n = Ts.length := ⟨_, rfl⟩
  have HR : Hid (nR = Rs.length) := hnR
  have HP : Hid (nP = Ps.length) := hnP
  have HT : Hid (nT = Ts.length) := hnT
  rw [← hnR] at nc nc' oR oR' f1 ⊢
  rw [← hnP] at pc pc' oP oP' f2 ⊢
  rw [← hnT] at tc tc' oT oT' f3 ⊢
  clear hnR hnP hnT
  have hl := (Le.alloc w (.cells (cells9 c (aR, nR, cR) (aP, nP, cP) (aT, nT, cT) qH) 29)).trans (Le.alloc _ (.cells (cells9 c (aR', nR, cR') (aP', nP, cP') (aT', nT, cT') qH') 29))
  have hb1 := (Box.new w (cells9 c (aR, nR, cR) (aP, nP, cP) (aT, nT, cT) qH) 29).le (Le.alloc _ (.cells (cells9 c (aR', nR, cR') (aP', nP, cP') (aT', nT, cT') qH') 29))
  have hb2 := Box.new (w.alloc (.cells (cells9 c (aR, nR, cR) (aP, nP, cP) (aT, nT, cT) qH) 29)) (cells9 c (aR', nR, cR') (aP', nP, cP') (aT', nT, cT') qH') 29
  rw [World.size_alloc] at hb2
  have hev := lawSameEvents _ _ Es Es _ (hH.le hl) (hH'.le hl) (by omega)
  rw [decide_eq_true rfl] at hev
  clear hH hH' f4
  go_enter Tryz.func10, Tryz.ntmps10
  go_wp2_with fail
  refine hev.mono ?_
  rintro e w1 ⟨rfl, m1⟩
  clear hev
  replace hl := hl.trans m1
  replace hb1 := hb1.le m1
  replace hb2 := hb2.le m1
  clear m1
  obtain ⟨_, z5, z6, z7, _⟩ := hb1.mach
  obtain ⟨_, y5, y6, y7, _⟩ := hb2.mach
  simp only [slV] at z5 z6 z7 y5 y6 y7
  go_wp2_with fail
  go_loopw [5] (fun i wr => ∃ k : Nat, k ≤ nR ∧ i = .int .i64 k ∧ Hid (Rs.take k = Rs'.take k) ∧ Le w1 wr) (fun i _ => nR - (intOf i).toNat)
  case atStart => exact ⟨0, Nat.zero_le _, rfl, rfl, Le.refl _⟩
  case round =>
    obtain ⟨k, hk, rfl, HA, hle⟩ := hrel
    by_cases hlt : k < nR
    · obtain ⟨b, off, rfl, oRk⟩ := oR (by omega)
      obtain ⟨b', off', rfl, oRk'⟩ := oR' (by omega)
      obtain ⟨q, rA, hq⟩ := oRk k hlt
      obtain ⟨q', rA', hq'⟩ := oRk' k hlt
      obtain ⟨R, hRk⟩ : ∃ R, R = Rs.getD k Rg.zero := ⟨_, rfl⟩
      obtain ⟨R', hRk'⟩ : ∃ R, R = Rs'.getD k Rg.zero := ⟨_, rfl⟩
      have HX : Hid (R = Rs.getD k Rg.zero) := hRk
      have HX' : Hid (R' = Rs'.getD k Rg.zero) := hRk'
      rw [← hRk] at rA hq
      rw [← hRk'] at rA' hq'
      have hfR : FitR R := by rw [hRk]; exact fr _ (getD_mem (by have := HR.out; omega))
      clear hRk hRk' oR oR' oRk oRk' oP oP' oT oT'
      replace hq := (hq.le hl).le hle
      replace hq' := (hq'.le hl).le hle
      obtain ⟨x0, x1, x2, x3⟩ := ((rA.le hl).le hle).later
      obtain ⟨x0', x1', x2', x3'⟩ := ((rA'.le hl).le hle).later
      replace z5 := cell_le z5 hle
      have u5 := cell_later z5
      have u5' := cell_later (cell_le y5 hle)
      have hlt' : (k : Int) < (nR : Int) := by omega
      have hk0 : (0 : Int) ≤ (k : Int) := by omega
      have hs := fun X : Later wr => lawSameRing (ringV R.h R.t R.f q) (ringV R'.h R'.t R'.f q') R R' X.w ⟨q, rfl, hq.le X.le⟩ ⟨q', rfl, hq'.le X.le⟩ hfR
      clear rA rA' hq hq' z6 z7 y5 y6 y7 fr fp ft hfR
      by_cases hRR : R = R'
      · simp only [decide_eq_true hRR] at hs
        have HRR : Hid (R = R') := hRR
        clear hRR
        go_wp2_with fail
        refine wp_region_later (by kernel_rfl) (by kernel_rfl) ?_
        repeat (go_big_quiet_step (first | (go_at_call 27; with_reducible exact Calls.later (hs _))))
        refine wpQuiet_nil ?_
        rintro _ ⟨x, rfl⟩
        go_wp2_with fail
        go_roundw
        case rel => exact ⟨k + 1, by omega, by go_num, take_sameE (d := Rg.zero) (by have := HR.out; omega) (by have := HR.out; have := HR'.out; omega) HA.out (by rw [← HX.out, ← HX'.out]; exact HRR.out), hle.trans x.le⟩
        case measure => simp [intOf]; omega
      · simp only [decide_eq_false hRR] at hs
        have HRR : Hid (¬ R = R') := hRR
        clear hRR
        go_wp2_with fail
        refine wp_region_later (by kernel_rfl) (by kernel_rfl) ?_
        repeat (go_big_quiet_step (first | (go_at_call 27; with_reducible exact Calls.later (hs _))))
        refine wpQuiet_nil ?_
        rintro _ ⟨x, rfl⟩
        go_wp2_with fail
        go_ret
        refine ⟨ret_bool (HD.out false ?_).symm, (hl.trans hle).trans x.le⟩
        have hn := ne_of_atE (k := k) (d := Rg.zero) (xs := Rs) (ys := Rs') (by rw [← HX.out, ← HX'.out]; exact HRR.out)
        exact ⟨fun h => absurd h.1 hn, fun h => by cases h⟩
    · have HRs : Hid (Rs = Rs') := by
        have e : k = nR := by omega
        subst e
        exact eq_of_takes HR.out.symm (HR'.out.trans HR.out.symm) HA.out
      clear HA oR oR' y5 fr
      replace hl := hl.trans hle
      replace z5 := cell_le z5 hle
      replace z6 := cell_le z6 hle
      replace z7 := cell_le z7 hle
      replace y6 := cell_le y6 hle
      replace y7 := cell_le y7 hle
      clear hle hb1 hb2
      go_wp2_with fail
      go_loopw [6] (fun i wq => ∃ k : Nat, k ≤ nP ∧ i = .int .i64 k ∧ Hid (Ps.take k = Ps'.take k) ∧ Le wr wq) (fun i _ => nP - (intOf i).toNat)
      case atStart => exact ⟨0, Nat.zero_le _, rfl, rfl, Le.refl _⟩
      case round =>
        obtain ⟨j, hj, rfl, HA, hle⟩ := hrel
        by_cases hlt2 : j < nP
        · obtain ⟨b, off, rfl, oPk⟩ := oP (by omega)
          obtain ⟨b', off', rfl, oPk'⟩ := oP' (by omega)
          obtain ⟨vs, qc, ql, rA, hq0, hq1, hq2⟩ := oPk j hlt2
          obtain ⟨vs', qc', ql', rA', hq0', hq1', hq2'⟩ := oPk' j hlt2
          obtain ⟨P, hPk⟩ : ∃ R, R = Ps.getD j Rp.zero := ⟨_, rfl⟩
          obtain ⟨P', hPk'⟩ : ∃ R, R = Ps'.getD j Rp.zero := ⟨_, rfl⟩
          have HX : Hid (P = Ps.getD j Rp.zero) := hPk
          have HX' : Hid (P' = Ps'.getD j Rp.zero) := hPk'
          rw [← hPk] at hq0 hq1 hq2
          rw [← hPk'] at hq0' hq1' hq2'
          obtain ⟨g0, g1, g2⟩ : Fit P.s ∧ P.cs.length * 8 ≤ 140737488351232 ∧ P.ls.length * 8 ≤ 140737488351232 := by rw [hPk]; exact fp _ (getD_mem (by have := HP.out; omega))
          clear hPk hPk' oP oP' oPk oPk' oT oT'
          have hlw := hl.trans hle
          have HS : HasS wr (stV vs) P.s := ⟨vs, rfl, fun i hi => (hq0 i hi).le hlw⟩
          have HS' : HasS wr (stV vs') P'.s := ⟨vs', rfl, fun i hi => (hq0' i hi).le hlw⟩
          replace hq1 := hq1.le hlw
          replace hq1' := hq1'.le hlw
          replace hq2 := hq2.le hlw
          replace hq2' := hq2'.le hlw
          obtain ⟨x0, x1, x2, x3, x4, x5⟩ := rA.le hlw
          obtain ⟨x0', x1', x2', x3', x4', x5'⟩ := rA'.le hlw
          replace z6 := cell_le z6 hle
          replace y6 := cell_le y6 hle
          have hlt' : (j : Int) < (nP : Int) := by omega
          have hj0 : (0 : Int) ≤ (j : Int) := by omega
          clear rA rA' z5 z7 y7 fp ft hq0 hq0'
          have n1 := World.new_ne wr _ z6
          have n2 := World.new_ne wr _ y6
          have n3 := World.new_ne wr _ x0
          have n4 := World.new_ne wr _ x0'
          simp only at n1 n2 n3 n4
          go_upto_region 11 with fail
          go_cut [7, 8] from 76 to 107 (fun s7 s8 wc => ∃ ga gb, s7 = .pointer (some ⟨ga, 0, none⟩) ∧ s8 = .pointer (some ⟨gb, 0, none⟩) ∧ Box wc ga (cellsP vs qc ql) 56 ∧ Box wc gb (cellsP vs' qc' ql') 56 ∧ Le wr wc)
          case first =>
            go_region_held3 (fun w' => w'.cell? ⟨w.heap.size, 6, none⟩ = some (.slice (some ⟨b, off, none⟩) nP cP) ∧ w'.cell? ⟨w.heap.size + 1, 6, none⟩ = some (.slice (some ⟨b', off', none⟩) nP cP') ∧ w'.cell? ⟨b, off + j * 6, none⟩ = some (slV (vs 0)) ∧ w'.cell? ⟨b, off + j * 6 + 1, none⟩ = some (slV (vs 1)) ∧ w'.cell? ⟨b, off + j * 6 + 2, none⟩ = some (slV (vs 2)) ∧ w'.cell? ⟨b, off + j * 6 + 3, none⟩ = some (slV (vs 3)) ∧ w'.cell? ⟨b, off + j * 6 + 4, none⟩ = some (slV qc) ∧ w'.cell? ⟨b, off + j * 6 + 5, none⟩ = some (slV ql) ∧ w'.cell? ⟨b', off' + j * 6, none⟩ = some (slV (vs' 0)) ∧ w'.cell? ⟨b', off' + j * 6 + 1, none⟩ = some (slV (vs' 1)) ∧ w'.cell? ⟨b', off' + j * 6 + 2, none⟩ = some (slV (vs' 2)) ∧ w'.cell? ⟨b', off' + j * 6 + 3, none⟩ = some (slV (vs' 3)) ∧ w'.cell? ⟨b', off' + j * 6 + 4, none⟩ = some (slV qc') ∧ w'.cell? ⟨b', off' + j * 6 + 5, none⟩ = some (slV ql')) (go_keep) (fail)
            all_goals
              go_wp2_with fail
              go_meet
              case rel => first | exact ⟨_, _, rfl, rfl, (two_boxes wr _ _ _).1, (two_boxes wr _ _ _).2.1, (two_boxes wr _ _ _).2.2⟩ | exact ⟨_, _, rfl, rfl, (two_boxes wr _ _ _).2.1, (two_boxes wr _ _ _).1, (two_boxes wr _ _ _).2.2⟩
          case rest =>
            obtain ⟨ga, gb, rfl, rfl, ba, bb, lc⟩ := hcut
            clear x0 x1 x2 x3 x4 x5 x0' x1' x2' x3' x4' x5' n1 n2 n3 n4 z6 y6
            have s1 := lawSameState (stV vs) (stV vs') P.s P'.s wc (HS.le lc) (HS'.le lc) g0
            have s2 := fun w' (l : Le wr w') => lawSameI _ _ P.cs P'.cs w' (hq1.le l) (hq1'.le l) g1
            have s3 := fun w' (l : Le wr w') => lawSameI _ _ P.ls P'.ls w' (hq2.le l) (hq2'.le l) g2
            have HW : Hid (¬ P = P' → decide ((⟨c, Rs, Ps, Ts, Es⟩ : Mc) = ⟨c, Rs', Ps', Ts', Es⟩) = false) := fun hn => HD.out false ⟨fun h => absurd h.2.1 (ne_of_atE (k := j) (d := Rp.zero) (by rw [← HX.out, ← HX'.out]; exact hn)), fun h => by cases h⟩
            obtain ⟨t0, t1, t2, t3, t4, t5⟩ := ba.rep
            obtain ⟨r0, r1, r2, r3, r4, r5⟩ := bb.rep
            by_cases d1 : P.s = P'.s
            · rw [decide_eq_true d1] at s1
              by_cases d2 : P.cs = P'.cs
              · simp only [decide_eq_true d2] at s2
                by_cases d3 : P.ls = P'.ls
                · simp only [decide_eq_true d3] at s3
                  have HPP : Hid (P = P') := by
                    obtain ⟨_, _, _⟩ := P
                    obtain ⟨_, _, _⟩ := P'
                    simp only at d1 d2 d3
                    subst d1 d2 d3
                    rfl
                  clear d1 d2 d3
                  go_wp2_with fail
                  refine s1.mono ?_
                  rintro e wd ⟨rfl, ld⟩
                  obtain ⟨t0', t1', t2', t3', t4', t5'⟩ := (ba.le ld).rep
                  obtain ⟨r0', r1', r2', r3', r4', r5'⟩ := (bb.le ld).rep
                  go_wp2_with fail
                  refine (s2 _ (lc.trans ld)).mono ?_
                  rintro e we ⟨rfl, le'⟩
                  obtain ⟨_, _, _, _, _, t6⟩ := ((ba.le ld).le le').rep
                  obtain ⟨_, _, _, _, _, r6⟩ := ((bb.le ld).le le').rep
                  go_wp2_with fail
                  refine (s3 _ ((lc.trans ld).trans le')).mono ?_
                  rintro e wf ⟨rfl, lf⟩
                  go_wp2_with fail
                  go_roundw
                  case rel => exact ⟨j + 1, by omega, by go_num, take_sameE (d := Rp.zero) (by have := HP.out; omega) (by have := HP.out; have := HP'.out; omega) HA.out (by rw [← HX.out, ← HX'.out]; exact HPP.out), (((hle.trans lc).trans ld).trans le').trans lf⟩
                  case measure => simp [intOf]; omega
                · simp only [decide_eq_false d3] at s3
                  have HN : Hid (decide ((⟨c, Rs, Ps, Ts, Es⟩ : Mc) = ⟨c, Rs', Ps', Ts', Es⟩) = false) := HW.out (fun h => d3 (by rw [h]))
                  clear d1 d2 d3
                  go_wp2_with fail
                  refine s1.mono ?_
                  rintro e wd ⟨rfl, ld⟩
                  obtain ⟨t0', t1', t2', t3', t4', t5'⟩ := (ba.le ld).rep
                  obtain ⟨r0', r1', r2', r3', r4', r5'⟩ := (bb.le ld).rep
                  go_wp2_with fail
                  refine (s2 _ (lc.trans ld)).mono ?_
                  rintro e we ⟨rfl, le'⟩
                  obtain ⟨_, _, _, _, _, t6⟩ := ((ba.le ld).le le').rep
                  obtain ⟨_, _, _, _, _, r6⟩ := ((bb.le ld).le le').rep
                  go_wp2_with fail
                  refine (s3 _ ((lc.trans ld).trans le')).mono ?_
                  rintro e wf ⟨rfl, lf⟩
                  go_wp2_with fail
                  go_ret
                  exact ⟨ret_bool HN.out.symm, ((((hl.trans hle).trans lc).trans ld).trans le').trans lf⟩
              · simp only [decide_eq_false d2] at s2
                have HN : Hid (decide ((⟨c, Rs, Ps, Ts, Es⟩ : Mc) = ⟨c, Rs', Ps', Ts', Es⟩) = false) := HW.out (fun h => d2 (by rw [h]))
                clear d1 d2 s3
                go_wp2_with fail
                refine s1.mono ?_
                rintro e wd ⟨rfl, ld⟩
                obtain ⟨t0', t1', t2', t3', t4', t5'⟩ := (ba.le ld).rep
                obtain ⟨r0', r1', r2', r3', r4', r5'⟩ := (bb.le ld).rep
                go_wp2_with fail
                refine (s2 _ (lc.trans ld)).mono ?_
                rintro e we ⟨rfl, le'⟩
                go_wp2_with fail
                go_ret
                exact ⟨ret_bool HN.out.symm, (((hl.trans hle).trans lc).trans ld).trans le'⟩
            · rw [decide_eq_false d1] at s1
              have HN : Hid (decide ((⟨c, Rs, Ps, Ts, Es⟩ : Mc) = ⟨c, Rs', Ps', Ts', Es⟩) = false) := HW.out (fun h => d1 (by rw [h]))
              clear d1 s2 s3
              go_wp2_with fail
              refine s1.mono ?_
              rintro e wd ⟨rfl, ld⟩
              go_wp2_with fail
              go_ret
              exact ⟨ret_bool HN.out.symm, ((hl.trans hle).trans lc).trans ld⟩
        · have HPs : Hid (Ps = Ps') := by
            have e : j = nP := by omega
            subst e
            exact eq_of_takes HP.out.symm (HP'.out.trans HP.out.symm) HA.out
          clear HA oP oP' y6 fp z5
          replace hl := hl.trans hle
          replace z6 := cell_le z6 hle
          replace z7 := cell_le z7 hle
          replace y7 := cell_le y7 hle
          clear hle
          go_wp2_with fail
          go_loopw [9] (fun i wq => ∃ k : Nat, k ≤ nT ∧ i = .int .i64 k ∧ Hid (Ts.take k = Ts'.take k) ∧ Le wr wq) (fun i _ => nT - (intOf i).toNat)
          case atStart => exact ⟨0, Nat.zero_le _, rfl, rfl, Le.refl _⟩
          case round =>
            obtain ⟨i, hi, rfl, HA, hle⟩ := hrel
            by_cases hlt3 : i < nT
            · obtain ⟨b, off, rfl, oTk⟩ := oT (by omega)
              obtain ⟨b', off', rfl, oTk'⟩ := oT' (by omega)
              obtain ⟨q, t, rA, hq, ht⟩ := oTk i hlt3
              obtain ⟨q', t', rA', hq', ht'⟩ := oTk' i hlt3
              obtain ⟨T, hTk⟩ : ∃ R, R = Ts.getD i Th.zero := ⟨_, rfl⟩
              obtain ⟨T', hTk'⟩ : ∃ R, R = Ts'.getD i Th.zero := ⟨_, rfl⟩
              have HX : Hid (T = Ts.getD i Th.zero) := hTk
              have HX' : Hid (T' = Ts'.getD i Th.zero) := hTk'
              rw [← hTk] at rA hq ht
              rw [← hTk'] at rA' hq' ht'
              obtain ⟨g0, g1⟩ : T.b.length * 8 ≤ 140737488351232 ∧ T.tl.length * 8 ≤ 140737488351232 := by rw [hTk]; exact ft _ (getD_mem (by have := HT.out; omega))
              clear hTk hTk' oT oT' oTk oTk'
              have hlw := hl.trans hle
              obtain ⟨x0, x1, x2, x3, x4, x5, x6, x7, x8, x9, x10, x11⟩ := (rA.le hlw).later
              obtain ⟨y0, y1, y2, y3, y4, y5', y6', y7', y8, y9, y10, y11⟩ := (rA'.le hlw).later
              replace z7 := cell_le z7 hle
              have u7 := cell_later z7
              have u7' := cell_later (cell_le y7 hle)
              have hlt' : (i : Int) < (nT : Int) := by omega
              have hi0 : (0 : Int) ≤ (i : Int) := by omega
              have hs := fun X : Later wr => lawSameThread (thV T q t) (thV T' q' t') T T' X.w ⟨q, t, rfl, hq.le (hlw.trans X.le), ht.le (hlw.trans X.le)⟩ ⟨q', t', rfl, hq'.le (hlw.trans X.le), ht'.le (hlw.trans X.le)⟩ g0 g1
              clear rA rA' hq hq' ht ht' z6 y7 ft g0 g1
              by_cases hTT : T = T'
              · simp only [decide_eq_true hTT] at hs
                have HTT : Hid (T = T') := hTT
                clear hTT
                go_wp2_with fail
                refine wp_region_later (by kernel_rfl) (by kernel_rfl) ?_
                repeat (go_big_quiet_step (first | (go_at_call 29; with_reducible exact Calls.later (hs _))))
                refine wpQuiet_nil ?_
                rintro _ ⟨x, rfl⟩
                go_wp2_with fail
                go_roundw
                case rel => exact ⟨i + 1, by omega, by go_num, take_sameE (d := Th.zero) (by have := HT.out; omega) (by have := HT.out; have := HT'.out; omega) HA.out (by rw [← HX.out, ← HX'.out]; exact HTT.out), hle.trans x.le⟩
                case measure => simp [intOf]; omega
              · simp only [decide_eq_false hTT] at hs
                have HTT : Hid (¬ T = T') := hTT
                clear hTT
                go_wp2_with fail
                refine wp_region_later (by kernel_rfl) (by kernel_rfl) ?_
                repeat (go_big_quiet_step (first | (go_at_call 29; with_reducible exact Calls.later (hs _))))
                refine wpQuiet_nil ?_
                rintro _ ⟨x, rfl⟩
                go_wp2_with fail
                go_ret
                refine ⟨ret_bool (HD.out false ?_).symm, (hl.trans hle).trans x.le⟩
                have hn := ne_of_atE (k := i) (d := Th.zero) (xs := Ts) (ys := Ts') (by rw [← HX.out, ← HX'.out]; exact HTT.out)
                exact ⟨fun h => absurd h.2.2 hn, fun h => by cases h⟩
            · have HTs : Hid (Ts = Ts') := by
                have e : i = nT := by omega
                subst e
                exact eq_of_takes HT.out.symm (HT'.out.trans HT.out.symm) HA.out
              replace z7 := cell_le z7 hle
              clear oT oT' y7 z6
              go_wp2_with fail
              go_ret
              exact ⟨ret_bool (HD.out true ⟨fun _ => rfl, fun _ => ⟨HRs.out, HPs.out, HTs.out⟩⟩).symm, hl.trans hle⟩

theorem lawSameMachine (v u : Value) (M N : Mc) (w : World) (hx : HasM w v M) (hy : HasM w u N) (hf : FitM M) :
    Calls Tryz.prog 10 #[v, u] w fun e w' => e = .returned (.bool (decide (M = N))) ∧ Le w w' := by
  by_cases h : M.c = N.c ∧ M.rs.length = N.rs.length ∧ M.ps.length = N.ps.length ∧ M.ts.length = N.ts.length ∧ M.es = N.es
  · obtain ⟨h0, h1, h2, h3, h4⟩ := h
    exact lawSameMachineYes v u M N w hx hy hf h0 h1 h2 h3 h4
  · rw [decide_eq_false (fun e => h (by rw [e]; exact ⟨rfl, rfl, rfl, rfl, rfl⟩))]
    exact lawSameMachineNo v u M N w hx hy hf h

end Go.Proofs.YtnemldboiogdkaaGreat

/-
  THE WALK over the document's replicaMay: may it be one of a machine's replicas? Condition: that its rows can be copied, and that the machine has as many logs as its Config says.
-/
namespace Go.Proofs.YtnemldboiogdkaaGreat
open Go.RowKit

theorem cell_later' {w : World} {p : Addr} {v : Value} (h : w.cell? p = some v) : ∀ X : Later w, X.w.cell? p = some v := fun X => cell_le h X.le

/-- As the document asks it. -/
def repD (c : Cfg) (Rs : List Rg) (P : Rp) : Bool := objMay c.o P.s && (decide ((P.cs.length : Int) = c.l) && (decide ((P.ls.length : Int) = c.l) && (List.range P.cs.length).all fun i => inB (Rs.getD i Rg.zero).h (P.cs.getD i 0) (Rs.getD i Rg.zero).t && inB 0 (P.ls.getD i 0) c.t))
theorem repB_doc (c : Cfg) (Rs : List Rg) (P : Rp) : repB c Rs P = repD c Rs P := by
  unfold repB repD
  cases objMay c.o P.s
  · rfl
  by_cases h1 : (P.cs.length : Int) = c.l
  · by_cases h2 : (P.ls.length : Int) = c.l
    · simp only [h1, h2, decide_true, Bool.true_and, cursOK]
      rw [Bool.eq_iff_iff]
      simp only [Bool.and_eq_true, List.all_eq_true, List.mem_range]
      constructor
      · rintro ⟨h3, h4⟩ i hi
        exact ⟨h3 i hi, h4 _ (getD_mem (by omega))⟩
      · intro h
        refine ⟨fun i hi => (h i hi).1, fun x hx => ?_⟩
        obtain ⟨i, hi, rfl⟩ := List.mem_iff_getElem.1 hx
        have := (h i (by omega)).2
        rw [show P.ls.getD i 0 = P.ls[i] by simp [List.getD, hi]] at this
        exact this
    · simp [h2]
  · simp [h1]
theorem repD_take {c : Cfg} {Rs : List Rg} {P : Rp} {k : Nat} (h : ∀ i, i < k → (inB (Rs.getD i Rg.zero).h (P.cs.getD i 0) (Rs.getD i Rg.zero).t && inB 0 (P.ls.getD i 0) c.t) = true) (hk : (k : Int) = c.l) (h0 : objMay c.o P.s = true) (h1 : (P.cs.length : Int) = c.l) (h2 : (P.ls.length : Int) = c.l) : repD c Rs P = true := by
  unfold repD
  rw [h0, decide_eq_true h1, decide_eq_true h2]
  simp only [Bool.true_and, List.all_eq_true, List.mem_range]
  intro i hi
  exact h i (by omega)
theorem repD_no {c : Cfg} {Rs : List Rg} {P : Rp} {k : Nat} (hk : k < P.cs.length) (h : (inB (Rs.getD k Rg.zero).h (P.cs.getD k 0) (Rs.getD k Rg.zero).t && inB 0 (P.ls.getD k 0) c.t) = false) : repD c Rs P = false := by
  unfold repD
  rw [Bool.and_eq_false_iff]; right
  rw [Bool.and_eq_false_iff]; right
  rw [Bool.and_eq_false_iff]; right
  rw [← Bool.not_eq_true]
  simp only [List.all_eq_true, List.mem_range]
  intro hh
  have := hh k hk
  rw [h] at this
  cases this

set_option maxRecDepth 4000 in
set_option maxHeartbeats 4000000 in
theorem rmReplicaMay (M : Mc) (v u : Value) (P : Rp) (w : World) (hM : HasM w v M) (hn : (M.rs.length : Int) = M.c.l) (hx : HasP w u P) (hf : Fit P.s) (hm : M.rs.length * 48 ≤ 140737488351232) (hfc : P.cs.length * 8 ≤ 140737488351232) (hfl : P.ls.length * 8 ≤ 140737488351232) :
    Calls Tryz.prog 62 #[v, u] w fun e w' => e = .returned (.bool (repB M.c M.rs P)) ∧ Le w w' := by
  rw [repB_doc]
  obtain ⟨c, Rs, Ps, Ts, Es⟩ := M
  obtain ⟨⟨ra, rn, rc⟩, qP, qT, qH, rfl, hR, _, _, _⟩ := hM
  obtain ⟨vs, ⟨ca, cn, cc⟩, ⟨la, ln, lc⟩, rfl, i0, i1, i2⟩ := hx
  simp only at hR hn hm ⊢
  have hb1 := (Box.new w (cells9 c (ra, rn, rc) qP qT qH) 29).le (Le.alloc _ (.cells (cellsP vs (ca, cn, cc) (la, ln, lc)) 56))
  have hb2 := Box.new (w.alloc (.cells (cells9 c (ra, rn, rc) qP qT qH) 29)) (cellsP vs (ca, cn, cc) (la, ln, lc)) 56
  rw [World.size_alloc] at hb2
  have hl := (Le.alloc w (.cells (cells9 c (ra, rn, rc) qP qT qH) 29)).trans (Le.alloc _ (.cells (cellsP vs (ca, cn, cc) (la, ln, lc)) 56))
  have m1 := fun w' (l : Le w w') => refStateMay c.o (stV vs) P.s w' (HasS.le ⟨vs, rfl, i0⟩ l) hf
  obtain ⟨a, n, hv, rcap, _, oR⟩ := hR.open
  simp only [slV, Value.slice.injEq] at hv
  obtain ⟨rfl, hrn, rfl⟩ := hv
  obtain ⟨a, n, hv, ccap, _, oC⟩ := i1
  simp only [slV, Value.slice.injEq] at hv
  obtain ⟨rfl, hcn, rfl⟩ := hv
  obtain ⟨a, n, hv, lcap, _, oL⟩ := i2
  simp only [slV, Value.slice.injEq] at hv
  obtain ⟨rfl, hln, rfl⟩ := hv
  rw [← hrn] at hn hm oR rcap
  rw [← hcn] at oC ccap hfc
  rw [← hln] at oL lcap hfl
  have HCN : Hid (cn = P.cs.length) := hcn
  have HLN : Hid (ln = P.ls.length) := hln
  have HRN : Hid ((rn : Int) = c.l) := hn
  clear hrn hcn hln hR i0 hn
  go_enter Tryz.func62, Tryz.ntmps62
  go_upto_region 1 with fail
  generalize hW : (w.alloc (.cells (cells9 c (ra, rn, rc) qP qT qH) 29)).alloc (.cells (cellsP vs (ca, cn, cc) (la, ln, lc)) 56) = W at hl hb1 hb2 ⊢
  clear hW
  obtain ⟨⟨z0, z1, z2, z3, z4⟩, z5, z6, z7, z8⟩ := hb1.mach
  obtain ⟨y0, y1, y2, y3, y4, y5⟩ := hb2.rep
  go_wp2_with fail
  refine (m1 _ hl).mono ?_
  rintro e w1 ⟨rfl, l1⟩
  clear z0 z1 z2 z3 z4 z5 z6 z7 z8 y0 y1 y2 y3 y4 y5
  replace hb1 := hb1.le l1
  replace hb2 := hb2.le l1
  replace hl := hl.trans l1
  clear l1 m1
  obtain ⟨⟨z0, z1, z2, z3, z4⟩, z5, z6, z7, z8⟩ := hb1.mach
  obtain ⟨y0, y1, y2, y3, y4, y5⟩ := hb2.rep
  simp only [slV] at y4 y5 z5
  cases h1 : objMay c.o P.s
  · go_wp2_with fail
    go_ret
    exact ⟨ret_bool (by unfold repD; rw [h1]; rfl), hl⟩
  by_cases h2 : (cn : Int) = c.l
  case neg =>
    go_wp2_with fail
    go_ret
    exact ⟨ret_bool (by unfold repD; rw [← HCN.out, decide_eq_false h2]; simp), hl⟩
  by_cases h3 : (ln : Int) = c.l
  case neg =>
    go_wp2_with fail
    go_ret
    exact ⟨ret_bool (by unfold repD; rw [← HLN.out, decide_eq_false h3]; simp), hl⟩
  have HE : Hid (objMay c.o P.s = true ∧ (cn : Int) = c.l ∧ (ln : Int) = c.l) := ⟨h1, h2, h3⟩
  go_wp2_with fail
  clear h1 h2 h3
  clear z0 z1 z2 z3 z4 z5 z6 z7 z8 y0 y1 y2 y3 y4 y5
  go_loopw [5] (fun i wr => ∃ k : Nat, (k : Int) ≤ cn ∧ i = .int .i64 k ∧ Hid (∀ i, i < k → (inB (Rs.getD i Rg.zero).h (P.cs.getD i 0) (Rs.getD i Rg.zero).t && inB 0 (P.ls.getD i 0) c.t) = true) ∧ Le w1 wr) (fun i _ => cn - (intOf i).toNat)
  case atStart => exact ⟨0, by omega, rfl, fun i hi => by omega, Le.refl _⟩
  case round =>
    obtain ⟨k, hk, rfl, HA, hle⟩ := hrel
    obtain ⟨⟨z0, z1, z2, z3, z4⟩, z5, z6, z7, z8⟩ := (hb1.le hle).mach
    obtain ⟨y0, y1, y2, y3, y4, y5⟩ := (hb2.le hle).rep
    simp only [slV] at y4 y5 z5
    by_cases hlt : (k : Int) < c.l
    · have hlc : (k : Int) < (cn : Int) := by have := HE.out.2.1; omega
      have hll : (k : Int) < (ln : Int) := by have := HE.out.2.2; omega
      have hlr : (k : Int) < (rn : Int) := by have := HRN.out; omega
      obtain ⟨b, off, rfl, hcell⟩ := oC (by omega)
      obtain ⟨b', off', rfl, hcell'⟩ := oL (by omega)
      obtain ⟨b'', off'', rfl, hcell''⟩ := oR (by omega)
      obtain ⟨x, hxk⟩ : ∃ x, x = P.cs.getD k 0 := ⟨_, rfl⟩
      obtain ⟨y, hyk⟩ : ∃ x, x = P.ls.getD k 0 := ⟨_, rfl⟩
      obtain ⟨R, hRk⟩ : ∃ x, x = Rs.getD k Rg.zero := ⟨_, rfl⟩
      have x0 := cell_le (cell_le (hcell k (by omega)) hl) hle
      have x1 := cell_le (cell_le (hcell' k (by omega)) hl) hle
      obtain ⟨q, hR0, _⟩ := hcell'' k (by omega)
      obtain ⟨x2, x3, _, _⟩ := (hR0.le hl).le hle
      rw [← hxk] at x0
      rw [← hyk] at x1
      rw [← hRk] at x2 x3
      have HX : Hid (x = P.cs.getD k 0) := hxk
      have HY : Hid (y = P.ls.getD k 0) := hyk
      have HR : Hid (R = Rs.getD k Rg.zero) := hRk
      clear hxk hyk hRk hR0 hcell hcell' hcell'' oC oL oR
      go_upto_region 6 with fail
      replace z0 := cell_later' z0
      replace z1 := cell_later' z1
      replace z2 := cell_later' z2
      replace z3 := cell_later' z3
      replace z4 := cell_later' z4
      replace z5 := cell_later' z5
      replace z6 := cell_later' z6
      replace z7 := cell_later' z7
      replace z8 := cell_later' z8
      replace y4 := cell_later' y4
      replace y5 := cell_later' y5
      replace x0 := cell_later' x0
      replace x1 := cell_later' x1
      replace x2 := cell_later' x2
      replace x3 := cell_later' x3
      clear y0 y1 y2 y3
      have u1 := fun w' => rmUpTo x R.h R.t w'
      have u2 := fun w' => rmUpTo y 0 c.t w'
      cases h1 : inB R.h x R.t
      · simp only [h1] at u1
        have HB : Hid (inB R.h x R.t = false) := h1
        clear h1
        refine wp_region_later (by kernel_rfl) (by kernel_rfl) ?_
        repeat (go_big_quiet_step (first | (go_at_call 52; first | (with_reducible exact Calls.later_same (u1 _)) | (with_reducible exact Calls.later_same (u2 _)))))
        refine wpQuiet_nil ?_
        rintro _ ⟨X, rfl⟩
        go_wp2_with fail
        go_ret
        exact ⟨ret_bool (by rw [repD_no (k := k) (by have := HCN.out; omega) (by rw [← HR.out, ← HX.out, HB.out]; rfl)]), (hl.trans hle).trans X.le⟩
      simp only [h1] at u1
      have HB : Hid (inB R.h x R.t = true) := h1
      clear h1
      cases h2 : inB 0 y c.t
      · simp only [h2] at u2
        have HB2 : Hid (inB 0 y c.t = false) := h2
        clear h2
        refine wp_region_later (by kernel_rfl) (by kernel_rfl) ?_
        repeat (go_big_quiet_step (first | (go_at_call 52; first | (with_reducible exact Calls.later_same (u1 _)) | (with_reducible exact Calls.later_same (u2 _)))))
        refine wpQuiet_nil ?_
        rintro _ ⟨X, rfl⟩
        go_wp2_with fail
        go_ret
        exact ⟨ret_bool (by rw [repD_no (k := k) (by have := HCN.out; omega) (by rw [← HR.out, ← HX.out, ← HY.out, HB.out, HB2.out]; rfl)]), (hl.trans hle).trans X.le⟩
      · simp only [h2] at u2
        have HB2 : Hid (inB 0 y c.t = true) := h2
        clear h2
        refine wp_region_later (by kernel_rfl) (by kernel_rfl) ?_
        repeat (go_big_quiet_step (first | (go_at_call 52; first | (with_reducible exact Calls.later_same (u1 _)) | (with_reducible exact Calls.later_same (u2 _)))))
        refine wpQuiet_nil ?_
        rintro _ ⟨X, rfl⟩
        go_wp2_with fail
        go_roundw
        case rel => exact ⟨k + 1, by omega, by go_num, (fun j hj => by rcases Nat.lt_or_eq_of_le (Nat.le_of_lt_succ hj) with h | h; exact HA.out j h; rw [h, ← HR.out, ← HX.out, ← HY.out, HB.out, HB2.out]; rfl), hle.trans X.le⟩
        case measure => simp [intOf]; omega
    · have hkl : (k : Int) = c.l := by have := HE.out.2.1; omega
      have hg : repD c Rs P = true := repD_take HA.out hkl HE.out.1 (by rw [← HCN.out]; exact HE.out.2.1) (by rw [← HLN.out]; exact HE.out.2.2)
      have HG : Hid (repD c Rs P = true) := hg
      clear hkl hg
      go_wp2_with fail
      go_ret
      exact ⟨ret_bool HG.out.symm, hl.trans hle⟩

end Go.Proofs.YtnemldboiogdkaaGreat

/-
  THE WALK over the document's threadMay: may it be one of a machine's threads? Condition: that the Config may be, and that the thread's rows can be copied.
-/
namespace Go.Proofs.YtnemldboiogdkaaGreat
open Go.RowKit

/-- As the document asks it. -/
def thD (c : Cfg) (T : Th) : Bool := inB 0 T.st 19 && (opMay T.c T.r T.a && (inB 0 T.lg (c.l - 1) && (inB 0 T.sn 1048576 && (decide ((T.b.length : Int) ≤ c.t) && (inB 0 T.pl T.b.length && (decide ((T.tl.length : Int) ≤ c.l) && (T.b.all (fun x => inB 0 x (c.t - 1)) && T.tl.all (fun x => inB 0 x 1048576))))))))
theorem thB_doc (c : Cfg) (T : Th) : thB c T = thD c T := by
  unfold thB thD
  cases T.b.all (fun x => inB 0 x (c.t - 1)) <;> simp

set_option maxRecDepth 4000 in
set_option maxHeartbeats 8000000 in
theorem rmThreadMay (c : Cfg) (v : Value) (T : Th) (w : World) (hc : c.ok = true) (hx : HasT w v T) (hf : T.b.length * 8 ≤ 140737488351232) (hf2 : T.tl.length * 8 ≤ 140737488351232) :
    Calls Tryz.prog 63 #[cfgV c.o c.r c.l c.t c.s, v] w fun e w' => e = .returned (.bool (thB c T)) ∧ Le w w' := by
  rw [thB_doc]
  obtain ⟨⟨ba, bn, bc⟩, ⟨ta, tn, tc⟩, rfl, i1, i2⟩ := hx
  obtain ⟨_, _, ⟨l0, l1'⟩, ⟨t0, t1⟩, _, _⟩ := Cfg.ok_cases hc
  have hb1 := (Box.new w (#[.int .i64 c.o, .int .i64 c.r, .int .i64 c.l, .int .i64 c.t, .int .i64 c.s]) 23).le (Le.alloc _ (.cells (cellsT T (ba, bn, bc) (ta, tn, tc)) 45))
  have hb2 := Box.new (w.alloc (.cells (#[.int .i64 c.o, .int .i64 c.r, .int .i64 c.l, .int .i64 c.t, .int .i64 c.s]) 23)) (cellsT T (ba, bn, bc) (ta, tn, tc)) 45
  rw [World.size_alloc] at hb2
  have hl := (Le.alloc w (.cells (#[.int .i64 c.o, .int .i64 c.r, .int .i64 c.l, .int .i64 c.t, .int .i64 c.s]) 23)).trans (Le.alloc _ (.cells (cellsT T (ba, bn, bc) (ta, tn, tc)) 45))
  obtain ⟨a, n, hv, bcap, _, oB⟩ := i1
  simp only [slV, Value.slice.injEq] at hv
  obtain ⟨rfl, hbn, rfl⟩ := hv
  obtain ⟨a, n, hv, tcap, _, oT⟩ := i2
  simp only [slV, Value.slice.injEq] at hv
  obtain ⟨rfl, htn, rfl⟩ := hv
  simp only [thD]
  rw [← hbn] at oB bcap hf ⊢
  rw [← htn] at oT tcap hf2 ⊢
  have HBN : Hid (bn = T.b.length) := hbn
  have HTN : Hid (tn = T.tl.length) := htn
  clear hbn htn
  go_enter Tryz.func63, Tryz.ntmps63
  go_upto_region 1 with fail
  generalize hW : (w.alloc (.cells (#[.int .i64 c.o, .int .i64 c.r, .int .i64 c.l, .int .i64 c.t, .int .i64 c.s]) 23)).alloc (.cells (cellsT T (ba, bn, bc) (ta, tn, tc)) 45) = W at hl hb1 hb2 ⊢
  clear hW
  obtain ⟨z0, z1, z2, z3, z4⟩ := hb1.slot
  obtain ⟨b0, b1, b2, b3, b4, b5, b6, b7, b8, b9, b10, b11⟩ := hb2.th
  simp only [slV] at b6 b11
  go_wp2_with fail
  refine (rmUpTo _ _ _ _).mono ?_
  rintro e _ ⟨rfl, rfl⟩
  cases h1 : inB 0 T.st 19
  · go_wp2_with fail
    go_ret
    exact ⟨ret_bool (by rw [h1]; simp), hl⟩
  have H1 : Hid (inB 0 T.st 19 = true) := h1
  clear h1
  go_wp2_with fail
  refine (refOperMay _ _ _ _).mono ?_
  rintro e w1 ⟨rfl, n1⟩
  replace hb1 := hb1.le n1
  replace hb2 := hb2.le n1
  replace hl := hl.trans n1
  clear n1 z0 z1 z2 z3 z4 b0 b1 b2 b3 b4 b5 b6 b7 b8 b9 b10 b11
  obtain ⟨z0, z1, z2, z3, z4⟩ := hb1.slot
  obtain ⟨b0, b1, b2, b3, b4, b5, b6, b7, b8, b9, b10, b11⟩ := hb2.th
  simp only [slV] at b6 b11
  cases h2 : opMay T.c T.r T.a
  · go_wp2_with fail
    go_ret
    exact ⟨ret_bool (by rw [h2]; simp), hl⟩
  have H2 : Hid (opMay T.c T.r T.a = true) := h2
  clear h2
  go_wp2_with fail
  refine (rmUpTo _ _ _ _).mono ?_
  rintro e _ ⟨rfl, rfl⟩
  cases h3 : inB 0 T.lg (c.l - 1)
  · go_wp2_with fail
    go_ret
    exact ⟨ret_bool (by rw [h3]; simp), hl⟩
  have H3 : Hid (inB 0 T.lg (c.l - 1) = true) := h3
  clear h3
  go_wp2_with fail
  refine (rmUpTo _ _ _ _).mono ?_
  rintro e _ ⟨rfl, rfl⟩
  cases h4 : inB 0 T.sn 1048576
  · go_wp2_with fail
    go_ret
    exact ⟨ret_bool (by rw [h4]; simp), hl⟩
  have H4 : Hid (inB 0 T.sn 1048576 = true) := h4
  clear h4
  by_cases h5 : (bn : Int) ≤ c.t
  case neg =>
    go_wp2_with fail
    go_ret
    exact ⟨ret_bool (by rw [decide_eq_false (p := (bn : Int) ≤ c.t) (by omega)]; simp), hl⟩
  have H5 : Hid ((bn : Int) ≤ c.t) := h5
  go_wp2_with fail
  refine (rmUpTo _ _ _ _).mono ?_
  rintro e _ ⟨rfl, rfl⟩
  cases h6 : inB 0 T.pl bn
  · go_wp2_with fail
    go_ret
    exact ⟨ret_bool (by rw [h6]; simp), hl⟩
  have H6 : Hid (inB 0 T.pl bn = true) := h6
  clear h6
  by_cases h7 : (tn : Int) ≤ c.l
  case neg =>
    go_wp2_with fail
    go_ret
    exact ⟨ret_bool (by rw [decide_eq_false (p := (tn : Int) ≤ c.l) (by omega)]; simp), hl⟩
  have H7 : Hid ((tn : Int) ≤ c.l) := h7
  go_wp2_with fail
  clear h5 h7
  clear z0 z1 z2 z3 z4 b0 b1 b2 b3 b4 b5 b6 b7 b8 b9 b10 b11
  go_loopw [5] (fun i wr => ∃ k : Nat, k ≤ bn ∧ i = .int .i64 k ∧ Hid ((T.b.take k).all (fun x => inB 0 x (c.t - 1)) = true) ∧ Le w1 wr) (fun i _ => bn - (intOf i).toNat)
  case atStart => exact ⟨0, by omega, rfl, rfl, Le.refl _⟩
  case round =>
    obtain ⟨k, hk, rfl, HA, hle⟩ := hrel
    obtain ⟨z0, z1, z2, z3, z4⟩ := (hb1.le hle).slot
    obtain ⟨b0, b1, b2, b3, b4, b5, b6, b7, b8, b9, b10, b11⟩ := (hb2.le hle).th
    simp only [slV] at b6 b11
    by_cases hlt : k < bn
    · have hlt' : (k : Int) < (bn : Int) := by omega
      obtain ⟨b, off, rfl, hcell⟩ := oB (by omega)
      obtain ⟨x, hxk⟩ : ∃ x, x = T.b.getD k 0 := ⟨_, rfl⟩
      have x0 := cell_le (cell_le (hcell k hlt) hl) hle
      rw [← hxk] at x0
      have HX : Hid (x = T.b.getD k 0) := hxk
      clear hxk hcell oB oT
      go_upto_region 6 with fail
      replace z0 := cell_later' z0
      replace z1 := cell_later' z1
      replace z2 := cell_later' z2
      replace z3 := cell_later' z3
      replace z4 := cell_later' z4
      replace b6 := cell_later' b6
      replace x0 := cell_later' x0
      have u1 := fun w' => rmUpTo x 0 (c.t - 1) w'
      cases h1 : inB 0 x (c.t - 1)
      · simp only [h1] at u1
        have HB : Hid (inB 0 x (c.t - 1) = false) := h1
        clear h1
        refine wp_region_later (by kernel_rfl) (by kernel_rfl) ?_
        repeat (go_big_quiet_step (first | (go_at_call 52; with_reducible exact Calls.later_same (u1 _))))
        refine wpQuiet_nil ?_
        rintro _ ⟨X, rfl⟩
        go_wp2_with fail
        go_ret
        exact ⟨ret_bool (by rw [Go.Proofs.YtnemldboiogdkaaGreat.all_bad (xs := T.b) (k := k) (p := fun x => inB 0 x (c.t - 1)) (by have := HBN.out; omega) (by rw [← HX.out]; exact HB.out)]; simp), (hl.trans hle).trans X.le⟩
      · simp only [h1] at u1
        have HB : Hid (inB 0 x (c.t - 1) = true) := h1
        clear h1
        refine wp_region_later (by kernel_rfl) (by kernel_rfl) ?_
        repeat (go_big_quiet_step (first | (go_at_call 52; with_reducible exact Calls.later_same (u1 _))))
        refine wpQuiet_nil ?_
        rintro _ ⟨X, rfl⟩
        go_wp2_with fail
        go_roundw
        case rel => exact ⟨k + 1, by omega, by go_num, (by rw [Go.Proofs.YtnemldboiogdkaaGreat.all_take (by have := HBN.out; omega), HA.out, ← HX.out, HB.out]; rfl), hle.trans X.le⟩
        case measure => simp [intOf]; omega
    · obtain rfl : k = bn := by omega
      have hall : T.b.all (fun x => inB 0 x (c.t - 1)) = true := by
        have := HA.out
        rwa [HBN.out, List.take_length] at this
      have HALL : Hid (T.b.all (fun x => inB 0 x (c.t - 1)) = true) := hall
      clear hall
      go_wp2_with fail
      clear z0 z1 z2 z3 z4 b0 b1 b2 b3 b4 b5 b6 b7 b8 b9 b10 b11
      go_loopw [6] (fun i wr' => ∃ k : Nat, k ≤ tn ∧ i = .int .i64 k ∧ Hid ((T.tl.take k).all (fun x => inB 0 x 1048576) = true) ∧ Le wr wr') (fun i _ => tn - (intOf i).toNat)
      case atStart => exact ⟨0, by omega, rfl, rfl, Le.refl _⟩
      case round =>
        clear HA hk hlt
        obtain ⟨k, hk, rfl, HA, hle2⟩ := hrel
        have hle0 := hle.trans hle2
        clear hle
        have hle := hle0
        clear hle0
        obtain ⟨z0, z1, z2, z3, z4⟩ := (hb1.le hle).slot
        obtain ⟨b0, b1, b2, b3, b4, b5, b6, b7, b8, b9, b10, b11⟩ := (hb2.le hle).th
        simp only [slV] at b6 b11
        by_cases hlt : k < tn
        · have hlt' : (k : Int) < (tn : Int) := by omega
          obtain ⟨b, off, rfl, hcell⟩ := oT (by omega)
          obtain ⟨x, hxk⟩ : ∃ x, x = T.tl.getD k 0 := ⟨_, rfl⟩
          have x0 := cell_le (cell_le (hcell k hlt) hl) hle
          rw [← hxk] at x0
          have HX : Hid (x = T.tl.getD k 0) := hxk
          clear hxk hcell oB oT
          go_wp2_with fail
          refine (rmUpTo _ _ _ _).mono ?_
          rintro e _ ⟨rfl, rfl⟩
          cases h1 : inB 0 x 1048576
          · have HB : Hid (inB 0 x 1048576 = false) := h1
            clear h1
            go_wp2_with fail
            go_ret
            exact ⟨ret_bool (by rw [Go.Proofs.YtnemldboiogdkaaGreat.all_bad (xs := T.tl) (k := k) (p := fun x => inB 0 x 1048576) (by have := HTN.out; omega) (by rw [← HX.out]; exact HB.out)]; simp), hl.trans hle⟩
          · have HB : Hid (inB 0 x 1048576 = true) := h1
            clear h1
            go_wp2_with fail
            go_roundw
            case rel => exact ⟨k + 1, by omega, by go_num, (by rw [Go.Proofs.YtnemldboiogdkaaGreat.all_take (by have := HTN.out; omega), HA.out, ← HX.out, HB.out]; rfl), hle2⟩
            case measure => simp [intOf]; omega
        · obtain rfl : k = tn := by omega
          have hall : T.tl.all (fun x => inB 0 x 1048576) = true := by
            have := HA.out
            rwa [HTN.out, List.take_length] at this
          have HALL2 : Hid (T.tl.all (fun x => inB 0 x 1048576) = true) := hall
          clear hall
          go_wp2_with fail
          go_ret
          exact ⟨ret_bool (by rw [H1.out, H2.out, H3.out, H4.out, decide_eq_true H5.out, H6.out, decide_eq_true H7.out, HALL.out, HALL2.out]; rfl), hl.trans hle⟩

end Go.Proofs.YtnemldboiogdkaaGreat

/-
  THE WALK over the document's May: may a machine be? Condition: that its rows can be copied.
-/
namespace Go.Proofs.YtnemldboiogdkaaGreat
open Go.RowKit

theorem allG_take {α : Type} {xs : List α} {p : α → Bool} {k : Nat} (d : α) (hk : k < xs.length) (h : (xs.take k).all p = true) (hp : p (xs.getD k d) = true) : (xs.take (k + 1)).all p = true := by
  rw [List.take_succ_eq_append_getElem hk, List.all_append, h]
  simp only [List.getD, List.getElem?_eq_getElem hk, Option.getD_some] at hp
  simp [hp]
theorem allG_no {α : Type} {xs : List α} {p : α → Bool} {k : Nat} (d : α) (hk : k < xs.length) (hp : p (xs.getD k d) = false) : xs.all p = false := by
  rw [← Bool.not_eq_true, List.all_eq_true]
  intro h
  have := h _ (getD_mem (d := d) hk)
  rw [hp] at this
  cases this

/-- As the document asks it. -/
def mayD (M : Mc) : Bool := M.c.ok && (decide ((M.rs.length : Int) = M.c.l) && (decide ((M.ps.length : Int) = M.c.r) && (decide ((M.ts.length : Int) = M.c.t) && (decide ((M.es.length : Int) ≤ 64) && (M.rs.all (ringB M.c) && (M.ps.all (repB M.c M.rs) && (M.ts.all (thB M.c) && M.es.all (evB M.c))))))))
theorem mayM_doc (M : Mc) : mayM M = mayD M := by
  unfold mayM mayD
  cases M.rs.all (ringB M.c) <;> cases M.ps.all (repB M.c M.rs) <;> cases M.ts.all (thB M.c) <;> simp

set_option maxRecDepth 4000 in
set_option maxHeartbeats 16000000 in
theorem rmMay (v : Value) (M : Mc) (w : World) (hx : HasM w v M) (hf : FitM M) : Calls Tryz.prog 37 #[v] w fun e w' => e = .returned (.bool (mayM M)) ∧ Le w w' := by
  rw [mayM_doc]
  have hx0 := hx
  obtain ⟨c, Rs, Ps, Ts, Es⟩ := M
  obtain ⟨⟨ra, rn, rc⟩, ⟨pa, pn, pc⟩, ⟨ta, tn, tc⟩, ⟨ea, en, ec⟩, rfl, hR, hP, hT, hH⟩ := hx
  obtain ⟨f1, f2, f3, f4, fr, fp, ft⟩ := hf
  simp only at hR hP hT hH f1 f2 f3 f4 fr fp ft
  obtain ⟨a, n, hv, _, _, oR⟩ := hR.open
  simp only [slV, Value.slice.injEq] at hv
  obtain ⟨rfl, hrn, rfl⟩ := hv
  obtain ⟨a, n, hv, _, _, oP⟩ := hP.open
  simp only [slV, Value.slice.injEq] at hv
  obtain ⟨rfl, hpn, rfl⟩ := hv
  obtain ⟨a, n, hv, _, _, oT⟩ := hT.open
  simp only [slV, Value.slice.injEq] at hv
  obtain ⟨rfl, htn, rfl⟩ := hv
  obtain ⟨a, n, hv, _, _, oE⟩ := hH.openEv
  simp only [slV, Value.slice.injEq] at hv
  obtain ⟨rfl, hen, rfl⟩ := hv
  clear hR hP hT hH
  simp only [mayD]
  rw [← hrn] at oR f1 ⊢
  rw [← hpn] at oP f2 ⊢
  rw [← htn] at oT f3 ⊢
  rw [← hen] at oE f4 ⊢
  have HRN : Hid (rn = Rs.length) := hrn
  have HPN : Hid (pn = Ps.length) := hpn
  have HTN : Hid (tn = Ts.length) := htn
  have HEN : Hid (en = Es.length) := hen
  clear hrn hpn htn hen
  have hb := Box.new w (cells9 c (ra, rn, rc) (pa, pn, pc) (ta, tn, tc) (ea, en, ec)) 29
  have hl := Le.alloc w (.cells (cells9 c (ra, rn, rc) (pa, pn, pc) (ta, tn, tc) (ea, en, ec)) 29)
  have m1 := fun w' => rmConfigMay c.o c.r c.l c.t c.s w'
  obtain ⟨⟨z0, z1, z2, z3, z4⟩, z5, z6, z7, z8⟩ := hb.mach
  go_enter Tryz.func37, Tryz.ntmps37
  go_upto_region 2 with fail
  have hb2 := Box.new (w.alloc (.cells (cells9 c (ra, rn, rc) (pa, pn, pc) (ta, tn, tc) (ea, en, ec)) 29)) #[.int .i64 c.o, .int .i64 c.r, .int .i64 c.l, .int .i64 c.t, .int .i64 c.s] 23
  rw [World.size_alloc] at hb2
  have hA := Le.alloc (w.alloc (.cells (cells9 c (ra, rn, rc) (pa, pn, pc) (ta, tn, tc) (ea, en, ec)) 29)) (.cells #[.int .i64 c.o, .int .i64 c.r, .int .i64 c.l, .int .i64 c.t, .int .i64 c.s] 23)
  replace hl := hl.trans hA
  replace hb := hb.le hA
  clear hA z0 z1 z2 z3 z4 z5 z6 z7 z8
  generalize hW : (w.alloc (.cells (cells9 c (ra, rn, rc) (pa, pn, pc) (ta, tn, tc) (ea, en, ec)) 29)).alloc (.cells #[.int .i64 c.o, .int .i64 c.r, .int .i64 c.l, .int .i64 c.t, .int .i64 c.s] 23) = W at hl hb hb2 ⊢
  clear hW
  obtain ⟨⟨z0, z1, z2, z3, z4⟩, z5, z6, z7, z8⟩ := hb.mach
  obtain ⟨y0, y1, y2, y3, y4⟩ := hb2.slot
  simp only [slV] at z5 z6 z7 z8
  go_wp2_with fail
  refine (m1 _).mono ?_
  rintro e w1 ⟨rfl, n1⟩
  clear z0 z1 z2 z3 z4 z5 z6 z7 z8 y0 y1 y2 y3 y4 m1
  replace hb := hb.le n1
  replace hb2 := hb2.le n1
  replace hl := hl.trans n1
  clear n1
  obtain ⟨⟨z0, z1, z2, z3, z4⟩, z5, z6, z7, z8⟩ := hb.mach
  obtain ⟨y0, y1, y2, y3, y4⟩ := hb2.slot
  simp only [slV] at z5 z6 z7 z8
  cases h1 : cfgB c.o c.r c.l c.t c.s
  · go_wp2_with fail
    go_ret
    exact ⟨ret_bool (by unfold Cfg.ok; rw [h1]; simp), hl⟩
  have hc : c.ok = true := h1
  have H1 : Hid (c.ok = true) := h1
  clear h1
  by_cases h2 : (rn : Int) = c.l
  case neg =>
    go_wp2_with fail
    go_ret
    exact ⟨ret_bool (by rw [decide_eq_false h2]; simp), hl⟩
  by_cases h3 : (pn : Int) = c.r
  case neg =>
    go_wp2_with fail
    go_ret
    exact ⟨ret_bool (by rw [decide_eq_false (p := (pn : Int) = c.r) h3]; simp), hl⟩
  by_cases h4 : (tn : Int) = c.t
  case neg =>
    go_wp2_with fail
    go_ret
    exact ⟨ret_bool (by rw [decide_eq_false (p := (tn : Int) = c.t) h4]; simp), hl⟩
  by_cases h5 : (en : Int) ≤ 64
  case neg =>
    go_wp2_with fail
    go_ret
    exact ⟨ret_bool (by rw [decide_eq_false (p := (en : Int) ≤ 64) (by omega)]; simp), hl⟩
  obtain ⟨_, _, _, ⟨t0, t1⟩, _, _⟩ := Cfg.ok_cases hc
  have H2 : Hid ((rn : Int) = c.l) := h2
  have H3 : Hid ((pn : Int) = c.r) := h3
  have H4 : Hid ((tn : Int) = c.t) := h4
  have H5 : Hid ((en : Int) ≤ 64) := h5
  go_wp2_with fail
  clear h2 h3 h4 h5 z0 z1 z2 z3 z4 z5 z6 z7 z8 y0 y1 y2 y3 y4
  go_loopw [4] (fun i wr => ∃ k : Nat, k ≤ rn ∧ i = .int .i64 k ∧ Hid ((Rs.take k).all (ringB c) = true) ∧ Le w1 wr) (fun i _ => rn - (intOf i).toNat)
  case atStart => exact ⟨0, by omega, rfl, rfl, Le.refl _⟩
  case round =>
    obtain ⟨k, hk, rfl, HA, hle⟩ := hrel
    obtain ⟨⟨z0, z1, z2, z3, z4⟩, z5, z6, z7, z8⟩ := (hb.le hle).mach
    obtain ⟨y0, y1, y2, y3, y4⟩ := (hb2.le hle).slot
    simp only [slV] at z5 z6 z7 z8
    by_cases hlt : k < rn
    · have hlt' : (k : Int) < c.l := by have := H2.out; omega
      have hltn : (k : Int) < (rn : Int) := by omega
      obtain ⟨b, off, rfl, hcell⟩ := oR (by omega)
      obtain ⟨q, hat, hq⟩ := hcell k hlt
      have hfr : FitR (Rs.getD k Rg.zero) := fr _ (getD_mem (by have := HRN.out; omega))
      obtain ⟨R, hRk⟩ : ∃ x, x = Rs.getD k Rg.zero := ⟨_, rfl⟩
      rw [← hRk] at hat hq hfr
      have HR : Hid (R = Rs.getD k Rg.zero) := hRk
      clear hRk hcell oR oP oT oE
      obtain ⟨x0, x1, x2, x3⟩ := (hat.le hl).le hle
      replace hq := (hq.le hl).le hle
      have u1 := fun X : Later wr => rmRingMay c (ringV R.h R.t R.f q) R X.w (HasR.le ⟨q, rfl, hq⟩ X.le) hfr
      clear hat hfr hq
      go_upto_region 7 with fail
      replace y0 := cell_later' y0
      replace y1 := cell_later' y1
      replace y2 := cell_later' y2
      replace y3 := cell_later' y3
      replace y4 := cell_later' y4
      replace z5 := cell_later' z5
      replace x0 := cell_later' x0
      replace x1 := cell_later' x1
      replace x2 := cell_later' x2
      replace x3 := cell_later' x3
      cases h1 : ringB c R
      · simp only [h1] at u1
        have HB : Hid (ringB c R = false) := h1
        clear h1
        refine wp_region_later (by kernel_rfl) (by kernel_rfl) ?_
        repeat (go_big_quiet_step (first | (go_at_call 61; with_reducible exact Calls.later (u1 _))))
        refine wpQuiet_nil ?_
        rintro _ ⟨X, rfl⟩
        go_wp2_with fail
        go_ret
        exact ⟨ret_bool (by rw [allG_no (xs := Rs) (k := k) (p := ringB c) Rg.zero (by have := HRN.out; omega) (by rw [← HR.out]; exact HB.out)]; simp), (hl.trans hle).trans X.le⟩
      · simp only [h1] at u1
        have HB : Hid (ringB c R = true) := h1
        clear h1
        refine wp_region_later (by kernel_rfl) (by kernel_rfl) ?_
        repeat (go_big_quiet_step (first | (go_at_call 61; with_reducible exact Calls.later (u1 _))))
        refine wpQuiet_nil ?_
        rintro _ ⟨X, rfl⟩
        go_wp2_with fail
        go_roundw
        case rel => exact ⟨k + 1, by omega, by go_num, allG_take Rg.zero (by have := HRN.out; omega) HA.out (by rw [← HR.out]; exact HB.out), hle.trans X.le⟩
        case measure => simp [intOf]; omega
    · obtain rfl : rn = k := by omega
      have hge : c.l ≤ (rn : Int) := by have := H2.out; omega
      have hall : Rs.all (ringB c) = true := by
        have := HA.out
        rwa [HRN.out, List.take_length] at this
      have HALL1 : Hid (Rs.all (ringB c) = true) := hall
      clear hall HA
      go_wp2_with fail
      clear hge z0 z1 z2 z3 z4 z5 z6 z7 z8 y0 y1 y2 y3 y4
      have hle1 := hl.trans hle
      replace hb := hb.le hle
      replace hb2 := hb2.le hle
      clear hle hlt hk hl
      have hn0 : (Rs.length : Int) = c.l := by have := HRN.out; have := H2.out; omega
      have HN0 : Hid ((Rs.length : Int) = c.l) := hn0
      clear hn0
      go_loopw [5] (fun i wr' => ∃ k : Nat, k ≤ pn ∧ i = .int .i64 k ∧ Hid ((Ps.take k).all (repB c Rs) = true) ∧ Le wr wr') (fun i _ => pn - (intOf i).toNat)
      case atStart => exact ⟨0, by omega, rfl, rfl, Le.refl _⟩
      case round =>
        obtain ⟨k, hk, rfl, HA, hle⟩ := hrel
        obtain ⟨⟨z0, z1, z2, z3, z4⟩, z5, z6, z7, z8⟩ := (hb.le hle).mach
        obtain ⟨y0, y1, y2, y3, y4⟩ := (hb2.le hle).slot
        simp only [slV] at z5 z6 z7 z8
        by_cases hlt : k < pn
        · have hlt' : (k : Int) < c.r := by have := H3.out; omega
          have hltn : (k : Int) < (pn : Int) := by omega
          obtain ⟨b, off, rfl, hcell⟩ := oP (by omega)
          obtain ⟨vs, qa, qb, hat, hs, ha, hb'⟩ := hcell k hlt
          have hfr := fp _ (getD_mem (xs := Ps) (d := Rp.zero) (i := k) (by have := HPN.out; omega))
          obtain ⟨P, hPk⟩ : ∃ x, x = Ps.getD k Rp.zero := ⟨_, rfl⟩
          rw [← hPk] at hs ha hb' hfr
          have HP : Hid (P = Ps.getD k Rp.zero) := hPk
          clear hPk hcell oR oP oT oE
          obtain ⟨x0, x1, x2, x3, x4, x5⟩ := (hat.le hle1).le hle
          have hPP : HasP wr (repV vs qa qb) P := ⟨vs, qa, qb, rfl, fun i hi => ((hs i hi).le hle1).le hle, (ha.le hle1).le hle, (hb'.le hle1).le hle⟩
          have u1 := fun X : Later wr => rmReplicaMay ⟨c, Rs, Ps, Ts, Es⟩ _ (repV vs qa qb) P X.w (((hx0.le hle1).le hle).le X.le) HN0.out (hPP.le X.le) hfr.1 (by show Rs.length * 48 ≤ _; have := HRN.out; omega) hfr.2.1 hfr.2.2
          simp only at u1
          clear hat hfr hs ha hb' hPP
          go_upto_region 12 with fail
          replace z0 := cell_later' z0
          replace z1 := cell_later' z1
          replace z2 := cell_later' z2
          replace z3 := cell_later' z3
          replace z4 := cell_later' z4
          replace z5 := cell_later' z5
          replace z6 := cell_later' z6
          replace z7 := cell_later' z7
          replace z8 := cell_later' z8
          replace x0 := cell_later' x0
          replace x1 := cell_later' x1
          replace x2 := cell_later' x2
          replace x3 := cell_later' x3
          replace x4 := cell_later' x4
          replace x5 := cell_later' x5
          cases h1 : repB c Rs P
          · simp only [h1] at u1
            have HB : Hid (repB c Rs P = false) := h1
            clear h1
            refine wp_region_later (by kernel_rfl) (by kernel_rfl) ?_
            repeat (go_big_quiet_step (first | (go_at_call 62; with_reducible exact Calls.later (u1 _))))
            refine wpQuiet_nil ?_
            rintro _ ⟨X, rfl⟩
            go_wp2_with fail
            go_ret
            exact ⟨ret_bool (by rw [allG_no (xs := Ps) (k := k) (p := repB c Rs) Rp.zero (by have := HPN.out; omega) (by rw [← HP.out]; exact HB.out)]; simp), (hle1.trans hle).trans X.le⟩
          · simp only [h1] at u1
            have HB : Hid (repB c Rs P = true) := h1
            clear h1
            refine wp_region_later (by kernel_rfl) (by kernel_rfl) ?_
            repeat (go_big_quiet_step (first | (go_at_call 62; with_reducible exact Calls.later (u1 _))))
            refine wpQuiet_nil ?_
            rintro _ ⟨X, rfl⟩
            go_wp2_with fail
            go_roundw
            case rel => exact ⟨k + 1, by omega, by go_num, allG_take Rp.zero (by have := HPN.out; omega) HA.out (by rw [← HP.out]; exact HB.out), hle.trans X.le⟩
            case measure => simp [intOf]; omega
        · obtain rfl : pn = k := by omega
          have hge : c.r ≤ (pn : Int) := by have := H3.out; omega
          have hall : Ps.all (repB c Rs) = true := by
            have := HA.out
            rwa [HPN.out, List.take_length] at this
          have HALL2 : Hid (Ps.all (repB c Rs) = true) := hall
          clear hall HA
          go_wp2_with fail
          clear hge z0 z1 z2 z3 z4 z5 z6 z7 z8 y0 y1 y2 y3 y4
          have hle2 := hle1.trans hle
          replace hb := hb.le hle
          replace hb2 := hb2.le hle
          clear hle hlt hk hle1
          go_loopw [6] (fun i wr' => ∃ k : Nat, k ≤ tn ∧ i = .int .i64 k ∧ Hid ((Ts.take k).all (thB c) = true) ∧ Le wr wr') (fun i _ => tn - (intOf i).toNat)
          case atStart => exact ⟨0, by omega, rfl, rfl, Le.refl _⟩
          case round =>
            obtain ⟨k, hk, rfl, HA, hle⟩ := hrel
            obtain ⟨⟨z0, z1, z2, z3, z4⟩, z5, z6, z7, z8⟩ := (hb.le hle).mach
            obtain ⟨y0, y1, y2, y3, y4⟩ := (hb2.le hle).slot
            simp only [slV] at z5 z6 z7 z8
            by_cases hlt : k < tn
            · have hlt' : (k : Int) < c.t := by have := H4.out; omega
              have hltn : (k : Int) < (tn : Int) := by omega
              obtain ⟨b, off, rfl, hcell⟩ := oT (by omega)
              obtain ⟨qa, qb, hat, ha, hb'⟩ := hcell k hlt
              have hfr := ft _ (getD_mem (xs := Ts) (d := Th.zero) (i := k) (by have := HTN.out; omega))
              obtain ⟨T, hTk⟩ : ∃ x, x = Ts.getD k Th.zero := ⟨_, rfl⟩
              rw [← hTk] at hat ha hb' hfr
              have HT : Hid (T = Ts.getD k Th.zero) := hTk
              clear hTk hcell oR oP oT oE
              obtain ⟨x0, x1, x2, x3, x4, x5, x6, x7, x8, x9, x10, x11⟩ := (hat.le hle2).le hle
              have hTT : HasT wr (thV T qa qb) T := ⟨qa, qb, rfl, (ha.le hle2).le hle, (hb'.le hle2).le hle⟩
              have u1 := fun X : Later wr => rmThreadMay c (thV T qa qb) T X.w H1.out (hTT.le X.le) hfr.1 hfr.2
              clear hat hfr ha hb' hTT
              go_upto_region 17 with fail
              replace y0 := cell_later' y0
              replace y1 := cell_later' y1
              replace y2 := cell_later' y2
              replace y3 := cell_later' y3
              replace y4 := cell_later' y4
              replace z7 := cell_later' z7
              replace x0 := cell_later' x0
              replace x1 := cell_later' x1
              replace x2 := cell_later' x2
              replace x3 := cell_later' x3
              replace x4 := cell_later' x4
              replace x5 := cell_later' x5
              replace x6 := cell_later' x6
              replace x7 := cell_later' x7
              replace x8 := cell_later' x8
              replace x9 := cell_later' x9
              replace x10 := cell_later' x10
              replace x11 := cell_later' x11
              cases h1 : thB c T
              · simp only [h1] at u1
                have HB : Hid (thB c T = false) := h1
                clear h1
                refine wp_region_later (by kernel_rfl) (by kernel_rfl) ?_
                repeat (go_big_quiet_step (first | (go_at_call 63; with_reducible exact Calls.later (u1 _))))
                refine wpQuiet_nil ?_
                rintro _ ⟨X, rfl⟩
                go_wp2_with fail
                go_ret
                exact ⟨ret_bool (by rw [allG_no (xs := Ts) (k := k) (p := thB c) Th.zero (by have := HTN.out; omega) (by rw [← HT.out]; exact HB.out)]; simp), (hle2.trans hle).trans X.le⟩
              · simp only [h1] at u1
                have HB : Hid (thB c T = true) := h1
                clear h1
                refine wp_region_later (by kernel_rfl) (by kernel_rfl) ?_
                repeat (go_big_quiet_step (first | (go_at_call 63; with_reducible exact Calls.later (u1 _))))
                refine wpQuiet_nil ?_
                rintro _ ⟨X, rfl⟩
                go_wp2_with fail
                go_roundw
                case rel => exact ⟨k + 1, by omega, by go_num, allG_take Th.zero (by have := HTN.out; omega) HA.out (by rw [← HT.out]; exact HB.out), hle.trans X.le⟩
                case measure => simp [intOf]; omega
            · obtain rfl : tn = k := by omega
              have hge : c.t ≤ (tn : Int) := by have := H4.out; omega
              have hall : Ts.all (thB c) = true := by
                have := HA.out
                rwa [HTN.out, List.take_length] at this
              have HALL3 : Hid (Ts.all (thB c) = true) := hall
              clear hall HA
              go_wp2_with fail
              clear hge z0 z1 z2 z3 z4 z5 z6 z7 z8 y0 y1 y2 y3 y4
              have hle3 := hle2.trans hle
              replace hb := hb.le hle
              replace hb2 := hb2.le hle
              clear hle hlt hk hle2
              go_loopw [7] (fun i wr' => ∃ k : Nat, k ≤ en ∧ i = .int .i64 k ∧ Hid ((Es.take k).all (evB c) = true) ∧ Le wr wr') (fun i _ => en - (intOf i).toNat)
              case atStart => exact ⟨0, by omega, rfl, rfl, Le.refl _⟩
              case round =>
                obtain ⟨k, hk, rfl, HA, hle⟩ := hrel
                obtain ⟨⟨z0, z1, z2, z3, z4⟩, z5, z6, z7, z8⟩ := (hb.le hle).mach
                obtain ⟨y0, y1, y2, y3, y4⟩ := (hb2.le hle).slot
                simp only [slV] at z5 z6 z7 z8
                by_cases hlt : k < en
                · have hltn : (k : Int) < (en : Int) := by omega
                  obtain ⟨b, off, rfl, hcell⟩ := oE (by omega)
                  have hat := hcell k hlt
                  obtain ⟨E, hEk⟩ : ∃ x, x = Es.getD k Ev.zero := ⟨_, rfl⟩
                  rw [← hEk] at hat
                  have HE : Hid (E = Es.getD k Ev.zero) := hEk
                  clear hEk hcell oR oP oT oE
                  obtain ⟨x0, x1, x2, x3, x4, x5⟩ := (hat.le hle3).le hle
                  have u1 := fun w' => rmUpTo E.t 0 (c.t - 1) w'
                  have u2 := fun w' => refOperMay E.c E.r E.a w'
                  clear hat
                  go_upto_region 22 with fail
                  replace y0 := cell_later' y0
                  replace y1 := cell_later' y1
                  replace y2 := cell_later' y2
                  replace y3 := cell_later' y3
                  replace y4 := cell_later' y4
                  replace z8 := cell_later' z8
                  replace x0 := cell_later' x0
                  replace x2 := cell_later' x2
                  replace x3 := cell_later' x3
                  replace x4 := cell_later' x4
                  cases h1 : inB 0 E.t (c.t - 1)
                  · simp only [h1] at u1
                    have HB : Hid (evB c E = false) := by unfold evB; rw [h1]; exact rfl
                    clear h1
                    refine wp_region_later (by kernel_rfl) (by kernel_rfl) ?_
                    repeat (go_big_quiet_step (first | (go_at_call 52; with_reducible exact Calls.later_same (u1 _)) | (go_at_call 58; with_reducible exact Calls.later (u2 _))))
                    refine wpQuiet_nil ?_
                    rintro _ ⟨X, rfl⟩
                    go_wp2_with fail
                    go_ret
                    exact ⟨ret_bool (by rw [allG_no (xs := Es) (k := k) (p := evB c) Ev.zero (by have := HEN.out; omega) (by rw [← HE.out]; exact HB.out)]; simp), (hle3.trans hle).trans X.le⟩
                  simp only [h1] at u1
                  cases h2 : opMay E.c E.r E.a
                  · simp only [h2] at u2
                    have HB : Hid (evB c E = false) := by unfold evB; rw [h1, h2]; exact rfl
                    clear h1 h2
                    refine wp_region_later (by kernel_rfl) (by kernel_rfl) ?_
                    repeat (go_big_quiet_step (first | (go_at_call 52; with_reducible exact Calls.later_same (u1 _)) | (go_at_call 58; with_reducible exact Calls.later (u2 _))))
                    refine wpQuiet_nil ?_
                    rintro _ ⟨X, rfl⟩
                    go_wp2_with fail
                    go_ret
                    exact ⟨ret_bool (by rw [allG_no (xs := Es) (k := k) (p := evB c) Ev.zero (by have := HEN.out; omega) (by rw [← HE.out]; exact HB.out)]; simp), (hle3.trans hle).trans X.le⟩
                  · simp only [h2] at u2
                    have HB : Hid (evB c E = true) := by unfold evB; rw [h1, h2]; exact rfl
                    clear h1 h2
                    refine wp_region_later (by kernel_rfl) (by kernel_rfl) ?_
                    repeat (go_big_quiet_step (first | (go_at_call 52; with_reducible exact Calls.later_same (u1 _)) | (go_at_call 58; with_reducible exact Calls.later (u2 _))))
                    refine wpQuiet_nil ?_
                    rintro _ ⟨X, rfl⟩
                    go_wp2_with fail
                    go_roundw
                    case rel => exact ⟨k + 1, by omega, by go_num, allG_take Ev.zero (by have := HEN.out; omega) HA.out (by rw [← HE.out]; exact HB.out), hle.trans X.le⟩
                    case measure => simp [intOf]; omega
                · obtain rfl : en = k := by omega
                  have hall : Es.all (evB c) = true := by
                    have := HA.out
                    rwa [HEN.out, List.take_length] at this
                  have HALL4 : Hid (Es.all (evB c) = true) := hall
                  clear hall HA
                  go_wp2_with fail
                  go_ret
                  exact ⟨ret_bool (by rw [H1.out, decide_eq_true H2.out, decide_eq_true H3.out, decide_eq_true H4.out, decide_eq_true H5.out, HALL1.out, HALL2.out, HALL3.out, HALL4.out]; rfl), hle3.trans hle⟩

end Go.Proofs.YtnemldboiogdkaaGreat

/-
  THE WALK over package ring's Publish: what it answers, for every ring, number, operation and thread. Condition: that the slots can be copied.
-/
namespace Go.Proofs.YtnemldboiogdkaaGreat
open Go.RowKit

end Go.Proofs.YtnemldboiogdkaaGreat

/-
  PLAIN GROUND, NO WALK: the document's machine, chapters 15 to 23, as functions on data: locks, board, batch, replaying, claiming, updates, looks, scans, calls and picks. No condition.
-/
namespace Go.Proofs.YtnemldboiogdkaaGreat
open Go.RowKit

def Mc.th (M : Mc) (t : Int) : Th := M.ts.getD t.toNat Th.zero
def Mc.rp (M : Mc) (r : Int) : Rp := M.ps.getD r.toNat Rp.zero
def Mc.putT (M : Mc) (t : Int) (x : Th) : Mc := { M with ts := M.ts.set t.toNat x }
def Mc.putP (M : Mc) (r : Int) (x : Rp) : Mc := { M with ps := M.ps.set r.toNat x }
def Rp.lock (P : Rp) (g : Int) : Int := P.ls.getD g.toNat 0
def Rp.setLock (P : Rp) (g x : Int) : Rp := { P with ls := P.ls.set g.toNat x }
/-- A thread's replica. -/
def Mc.home (M : Mc) (t : Int) : Int := t % M.c.r
/-- Is there such a replica, log, thread? -/
def thereB (M : Mc) (r g t : Int) : Bool := mayM M && (inB 0 r (M.c.r - 1) && (inB 0 g (M.c.l - 1) && inB 0 t (M.c.t - 1)))

/-! Chapter 15. -/
def tryM (M : Mc) (r g t : Int) : Mc × Bool × Int :=
  if thereB M r g t then (if (M.rp r).lock g = 0 then (M.putP r ((M.rp r).setLock g (t + 1)), true, 0) else (M, false, 0)) else (Mc.zero, false, 1500)
def freeM (M : Mc) (r g : Int) : Mc × Int := if thereB M r g 0 then (M.putP r ((M.rp r).setLock g 0), 0) else (Mc.zero, 1500)

/-! Chapter 16. -/
def postM (M : Mc) (t : Int) : Mc × Int := if thereB M 0 0 t then (M.putT t { M.th t with po := true, re := false }, 0) else (Mc.zero, 1600)
def waitsB (M : Mc) (r g : Int) (i : Nat) : Bool := decide ((i : Int) % M.c.r = r) && (opUp (M.th i).c (M.th i).r (M.th i).a && (decide ((M.th i).lg = g) && (M.th i).po))
def waiters (M : Mc) (r g : Int) (n : Nat) : List Int := ((List.range n).filter (waitsB M r g)).map Int.ofNat
def waitM (M : Mc) (r g : Int) : List Int × Int := if thereB M r g 0 then (waiters M r g M.c.t.toNat, 0) else ([], 1600)

/-! Chapter 17. -/
def unpost (M : Mc) (bs : List Int) : Mc := bs.foldl (fun M b => M.putT b { M.th b with po := false }) M
def collectM (M : Mc) (t : Int) : Mc × Int :=
  if thereB M 0 0 t && decide ((M.th t).st = 3) then
    ((unpost M (waitM M (M.home t) (M.th t).lg).1).putT t { (unpost M (waitM M (M.home t) (M.th t).lg).1).th t with b := (waitM M (M.home t) (M.th t).lg).1, pl := 0, st := if (waitM M (M.home t) (M.th t).lg).1 = [] then 9 else 4 }, 0)
  else (Mc.zero, 1700)

/-! Chapter 19. -/
def stepM (M : Mc) (t st : Int) : Mc := M.putT t { M.th t with st := st }
/-! Chapter 20. -/
def loosed (M : Mc) (t : Int) : Mc := (freeM (stepM M t 10) (M.home t) (M.th t).lg).1
/-! Chapter 22. -/
/-! Chapter 23. -/
def busy (ts : List Th) : Int := (ts.filter (fun T => decide (T.st ≠ 0))).length
def newT (M : Mc) (c r a : Int) : Th := { Th.zero with st := if c = 2 then 11 else if c = 3 then 17 else 1, c := c, r := r, a := a, lg := if c = 3 then 0 else r % M.c.l }
end Go.Proofs.YtnemldboiogdkaaGreat

/-
  PLAIN GROUND, NO WALK: what a machine that may be has. No condition.
-/
namespace Go.Proofs.YtnemldboiogdkaaGreat
open Go.RowKit

theorem mayM_ok {M : Mc} (h : mayM M = true) : M.c.ok = true := by
  unfold mayM at h
  simp only [Bool.and_eq_true] at h
  exact h.1
theorem mayM_lens {M : Mc} (h : mayM M = true) : (M.rs.length : Int) = M.c.l ∧ (M.ps.length : Int) = M.c.r ∧ (M.ts.length : Int) = M.c.t ∧ (M.es.length : Int) ≤ 64 := by
  unfold mayM at h
  simp only [Bool.and_eq_true, decide_eq_true_eq] at h
  exact ⟨h.2.1.1, h.2.2.1.1, h.2.2.2.1.1, h.2.2.2.2.1⟩
theorem mayM_rs {M : Mc} (h : mayM M = true) : ∀ R ∈ M.rs, ringB M.c R = true := by
  unfold mayM at h
  simp only [Bool.and_eq_true, List.all_eq_true] at h
  exact h.2.1.2
theorem mayM_ps {M : Mc} (h : mayM M = true) : ∀ P ∈ M.ps, repB M.c M.rs P = true := by
  unfold mayM at h
  simp only [Bool.and_eq_true, List.all_eq_true] at h
  exact h.2.2.1.2
theorem mayM_ts {M : Mc} (h : mayM M = true) : ∀ T ∈ M.ts, thB M.c T = true := by
  unfold mayM at h
  simp only [Bool.and_eq_true, List.all_eq_true] at h
  exact h.2.2.2.1.2
theorem mayM_es {M : Mc} (h : mayM M = true) : ∀ E ∈ M.es, evB M.c E = true := by
  unfold mayM at h
  simp only [Bool.and_eq_true, List.all_eq_true] at h
  exact h.2.2.2.2.2
theorem inB_yes {a x b : Int} (h : a ≤ x) (k : x ≤ b) : inB a x b = true := by simp [inB, h, k]
theorem thereB_cases {M : Mc} {r g t : Int} (h : thereB M r g t = true) : mayM M = true ∧ (0 ≤ r ∧ r ≤ M.c.r - 1) ∧ (0 ≤ g ∧ g ≤ M.c.l - 1) ∧ (0 ≤ t ∧ t ≤ M.c.t - 1) := by
  unfold thereB at h
  simp only [Bool.and_eq_true] at h
  exact ⟨h.1, inB_cases h.2.1, inB_cases h.2.2.1, inB_cases h.2.2.2⟩
theorem thereB_yes {M : Mc} {r g t : Int} (h : mayM M = true) (h1 : 0 ≤ r ∧ r ≤ M.c.r - 1) (h2 : 0 ≤ g ∧ g ≤ M.c.l - 1) (h3 : 0 ≤ t ∧ t ≤ M.c.t - 1) : thereB M r g t = true := by
  unfold thereB
  rw [h, inB_yes h1.1 h1.2, inB_yes h2.1 h2.2, inB_yes h3.1 h3.2]
  rfl

end Go.Proofs.YtnemldboiogdkaaGreat

/-
  THE WALK over the document's there: is there such a replica, log, thread? Condition: that the machine's rows can be copied.
-/
namespace Go.Proofs.YtnemldboiogdkaaGreat
open Go.RowKit

set_option maxRecDepth 4000 in
set_option maxHeartbeats 4000000 in
theorem rmThere (v : Value) (M : Mc) (r g t : Int) (w : World) (hx : HasM w v M) (hf : FitM M) : Calls Tryz.prog 24 #[v, .int .i64 r, .int .i64 g, .int .i64 t] w fun e w' => e = .returned (.bool (thereB M r g t)) ∧ Le w w' := by
  have m1 := fun w' (l : Le w w') => rmMay v M w' (hx.le l) hf
  obtain ⟨c, Rs, Ps, Ts, Es⟩ := M
  obtain ⟨qR, qP, qT, qH, rfl, _, _, _, _⟩ := hx
  simp only [thereB] at m1 ⊢
  have hb := Box.new w (cells9 c qR qP qT qH) 29
  have hl := Le.alloc w (.cells (cells9 c qR qP qT qH) 29)
  go_enter Tryz.func24, Tryz.ntmps24
  go_upto_region 1 with fail
  generalize hW : w.alloc (.cells (cells9 c qR qP qT qH) 29) = W at hl hb ⊢
  clear hW
  obtain ⟨⟨z0, z1, z2, z3, z4⟩, z5, z6, z7, z8⟩ := hb.mach
  go_wp2_with fail
  refine (m1 _ hl).mono ?_
  rintro e w1 ⟨rfl, l1⟩
  clear z0 z1 z2 z3 z4 z5 z6 z7 z8 m1
  replace hb := hb.le l1
  replace hl := hl.trans l1
  clear l1
  obtain ⟨⟨z0, z1, z2, z3, z4⟩, z5, z6, z7, z8⟩ := hb.mach
  cases h1 : mayM ⟨c, Rs, Ps, Ts, Es⟩
  · go_wp2_with fail
    go_ret
    exact ⟨ret_bool (by rw [h1]; rfl), hl⟩
  obtain ⟨_, ⟨r0, r1⟩, ⟨l0, l1⟩, ⟨t0, t1⟩, _, _⟩ := Cfg.ok_cases (mayM_ok h1)
  simp only at r0 r1 l0 l1 t0 t1
  have H1 : Hid (mayM ⟨c, Rs, Ps, Ts, Es⟩ = true) := h1
  clear h1
  go_wp2_with fail
  refine (rmUpTo _ _ _ _).mono ?_
  rintro e _ ⟨rfl, rfl⟩
  cases h2 : inB 0 r (c.r - 1)
  · go_wp2_with fail
    go_ret
    exact ⟨ret_bool (by rw [h2]; simp), hl⟩
  have H2 : Hid (inB 0 r (c.r - 1) = true) := h2
  clear h2
  go_wp2_with fail
  refine (rmUpTo _ _ _ _).mono ?_
  rintro e _ ⟨rfl, rfl⟩
  cases h3 : inB 0 g (c.l - 1)
  · go_wp2_with fail
    go_ret
    exact ⟨ret_bool (by rw [h3]; simp), hl⟩
  have H3 : Hid (inB 0 g (c.l - 1) = true) := h3
  clear h3
  go_wp2_with fail
  refine (rmUpTo _ _ _ _).mono ?_
  rintro e _ ⟨rfl, rfl⟩
  go_wp2_with fail
  go_ret
  exact ⟨ret_bool (by rw [H1.out, H2.out, H3.out]; simp), hl⟩

end Go.Proofs.YtnemldboiogdkaaGreat

/-
  PLAIN GROUND, NO WALK: a statement that leaves its order open, whose first operations only make memory and read what no other one writes, and whose last ones wait for all of them: each of the first is looked at once, in whatever world it may come up in; what it gives is told by an assertion that the others keep; the last ones are walked in a row. No condition but that.
-/
namespace Go.Proofs.YtnemldboiogdkaaGreat
open Go.RowKit

/-- What an operation gives, where it neither panics nor defers. -/
def gives (P : Program) (ρ : Operand → Value) (o : Oper) (w : World) (K : Value → World → Prop) : Prop :=
  match (execOp ρ o).run P w with
  | .ok (.value v) w' => K v w'
  | .ok .skip w' => K undef w'
  | .ok (.enter f args) w' => Calls P f args w' fun e w'' => ∃ v, e = .returned v ∧ K v w''
  | _ => False

theorem gives_wp {P : Program} {o : Oper} {a : Act} {w : World} {K : Value → World → Prop} {K' : Act → World → Prop} {Q : Exit → Act → World → Prop} (h : gives P a.eval o w K) (hK : ∀ v w', K v w' → K' (a.put o.dst v) w') : o.wp P a w K' Q := by
  unfold gives at h
  unfold Oper.wp
  generalize (execOp a.eval o).run P w = r at h ⊢
  cases r with
  | ok n w' =>
    cases n <;> simp only [Oper.upon] at h ⊢
    case value v => exact hK _ _ h
    case skip => exact hK _ _ h
    case enter f args =>
      refine Calls.mono h fun e w'' he => ?_
      obtain ⟨v, rfl, hk⟩ := he
      exact hK _ _ hk
  | halt x w' => simp only at h

theorem put_size (a : Act) (d : Option Tmp) (v : Value) : (a.put d v).tmps.size = a.tmps.size := by cases d <;> simp [Act.put]
theorem put_defers (a : Act) (d : Option Tmp) (v : Value) : (a.put d v).defers = a.defers := by cases d <;> rfl
theorem put_other (a : Act) (d : Option Tmp) (v : Value) {t : Tmp} (h : d ≠ some t) : (a.put d v).tmps[t]? = a.tmps[t]? := by
  cases d with
  | none => rfl
  | some e =>
    have hne : e ≠ t := fun x => h (by rw [x])
    simp [Act.put, Array.getElem?_setIfInBounds_ne hne]
theorem put_same (a : Act) (v : Value) {t : Tmp} (h : t < a.tmps.size) : (a.put (some t) v).tmps[t]? = some v := by
  simp [Act.put, h]

/-- The places that an operation looks at. -/
def tmpsOf (o : Oper) : List Tmp := o.op.operands.toList.filterMap fun | .tmp t => some t | _ => none
def notSelect (o : Oper) : Bool := match o.op with | .select _ _ => false | _ => true
def waitsFor (o : Oper) (j : Nat) : Bool := o.after.any fun e => Region.binds .any e && e.on == j
/-- Is there such an operation, and is it so of it? -/
def atL (l : List Oper) (i : Nat) (p : Oper → Bool) : Bool := match l[i]? with
  | none => false
  | some o => p o
theorem atL_spec {l : List Oper} {i : Nat} {p : Oper → Bool} {o : Oper} (ho : l[i]? = some o) (h : atL l i p = true) : p o = true := by
  unfold atL at h
  rw [ho] at h
  exact h
def plainB (i : Nat) (o : Oper) : Bool := o.guard.isNone && notSelect o && o.after.all (fun e => !Region.binds .any e || decide (e.on < i))
def pairB (o : Oper) (i j : Nat) (oj : Oper) : Bool := (decide (j = i) || !(oj.dst == o.dst)) && (!((tmpsOf o).any fun t => oj.dst == some t) || waitsFor o j)
/-- All that an operation waits for, one behind the other. -/
def need : Nat → List Oper → Nat → List Nat
  | 0, _, _ => []
  | f + 1, l, i => match l[i]? with
    | none => []
    | some o => (o.after.toList.filter (fun e => Region.binds .any e)).flatMap fun e => e.on :: need f l e.on
/-- Each of the last ones waits for all of H and for the last ones ahead of it, and stands behind them. -/
def lateB (l : List Oper) (H : List Nat) : List Nat → List Nat → Bool
  | _, [] => true
  | done, i :: rest => (H ++ done).all (fun j => (need l.length l i).contains j) && rest.all (fun j => decide (i < j)) && decide (i < l.length) && lateB l H (done ++ [i]) rest
/-- What the law asks. T: those that have come up; H: those that may come up in any order; late: the last ones. -/
def growB (l : List Oper) (T H late : List Nat) (listed : Array Bool) : Bool :=
  decide (listed.size = l.length) && (List.range l.length).all (fun i => atL l i (plainB i) && (T.contains i || H.contains i || late.contains i) && ((listed.getD i true) == T.contains i)) &&
  T.all (fun i => atL l i (fun o => o.after.all (fun e => !Region.binds .any e || T.contains e.on))) &&
  H.all (fun i => !T.contains i && !late.contains i && atL l i (fun o => o.dst.isSome && H.all (fun j => atL l j (pairB o i j)))) &&
  late.all (fun i => !T.contains i) && lateB l H [] late

theorem waitsFor_spec {o : Oper} {j : Nat} (h : waitsFor o j = true) : ∃ e ∈ o.after, Region.binds .any e = true ∧ e.on = j := by
  unfold waitsFor at h
  rw [Array.any_eq_true'] at h
  obtain ⟨e, he, hh⟩ := h
  simp at hh
  exact ⟨e, he, hh.1, hh.2⟩

/-- What has come up holds all that it waits for. -/
def Shut (l : List Oper) (listed : Array Bool) : Prop := ∀ i o, l[i]? = some o → listed.getD i false = true → ∀ e ∈ o.after, Region.binds .any e = true → listed.getD e.on false = true

theorem need_listed {l : List Oper} {listed : Array Bool} (hs : Shut l listed) : ∀ (f i : Nat), (∀ o, l[i]? = some o → ∀ e ∈ o.after, Region.binds .any e = true → listed.getD e.on false = true) → ∀ j ∈ need f l i, listed.getD j false = true
  | 0, _, _, j, hj => by simp [need] at hj
  | f + 1, i, h, j, hj => by
    unfold need at hj
    cases ho : l[i]? with
    | none => rw [ho] at hj; simp at hj
    | some o =>
      rw [ho] at hj
      simp only [List.mem_flatMap, List.mem_filter, List.mem_cons] at hj
      obtain ⟨e, ⟨he, hb⟩, hj⟩ := hj
      have hl := h o ho e (by simpa using he) hb
      rcases hj with rfl | hj
      · exact hl
      · exact need_listed hs f e.on (fun oe hoe => hs e.on oe hoe hl) j hj

structure GrowS (l : List Oper) (T H late : List Nat) : Prop where
  plain : ∀ i o, l[i]? = some o → o.guard = none ∧ notSelect o = true ∧ ∀ e ∈ o.after, Region.binds .any e = true → e.on < i
  cover : ∀ i o, l[i]? = some o → i ∈ T ∨ i ∈ H ∨ i ∈ late
  off : ∀ i, i ∈ H → i ∉ T ∧ i ∉ late
  offT : ∀ i, i ∈ late → i ∉ T
  dst : ∀ i o, i ∈ H → l[i]? = some o → ∃ t, o.dst = some t
  dist : ∀ i j o oj, i ∈ H → j ∈ H → l[i]? = some o → l[j]? = some oj → j ≠ i → oj.dst ≠ o.dst
  dep : ∀ i j o oj t, i ∈ H → j ∈ H → l[i]? = some o → l[j]? = some oj → t ∈ tmpsOf o → oj.dst = some t → waitsFor o j = true
  lateS : lateB l H [] late = true
  inH : ∀ i, i ∈ H → ∃ o, l[i]? = some o

theorem lt_of_at {l : List Oper} {i : Nat} {o : Oper} (hi : l[i]? = some o) : i < l.length := by
  rcases Nat.lt_or_ge i l.length with h' | h'
  · exact h'
  · rw [List.getElem?_eq_none h'] at hi; cases hi
theorem atL_some {l : List Oper} {i : Nat} {p : Oper → Bool} (h : atL l i p = true) : ∃ o, l[i]? = some o := by
  unfold atL at h
  cases ho : l[i]? with
  | none => rw [ho] at h; cases h
  | some o => exact ⟨o, rfl⟩

theorem growS {l : List Oper} {T H late : List Nat} {listed : Array Bool} (h : growB l T H late listed = true) : GrowS l T H late ∧ listed.size = l.length ∧ (∀ i, i < l.length → (listed.getD i true = true ↔ i ∈ T)) ∧ (∀ i o, i ∈ T → l[i]? = some o → ∀ e ∈ o.after, Region.binds .any e = true → e.on ∈ T) := by
  unfold growB at h
  simp only [Bool.and_eq_true, decide_eq_true_eq, List.all_eq_true, List.mem_range] at h
  obtain ⟨⟨⟨⟨⟨h0, h1⟩, h2⟩, h3⟩, h4⟩, h5⟩ := h
  refine ⟨⟨fun i o hi => ?_, fun i o hi => ?_, fun i hi => ?_, fun i hi => ?_, fun i o hi ho => ?_, fun i j o oj hi hj ho hoj hne e => ?_, fun i j o oj t hi hj ho hoj ht hd => ?_, h5, fun i hi => ?_⟩, h0, fun i hi => ?_, fun i o hi ho e he hb => ?_⟩
  · have := atL_spec hi (h1 i (lt_of_at hi)).1.1
    unfold plainB at this
    simp only [Bool.and_eq_true, Option.isNone_iff_eq_none] at this
    refine ⟨this.1.1, this.1.2, fun e he hb => ?_⟩
    have h6 := this.2
    rw [Array.all_eq_true'] at h6
    have := h6 e he
    simp [hb] at this
    exact this
  · have := (h1 i (lt_of_at hi)).1.2
    simp at this
    rcases this with (h | h) | h
    · exact .inl h
    · exact .inr (.inl h)
    · exact .inr (.inr h)
  · have := (h3 i hi).1
    simp at this
    exact this
  · have := h4 i hi
    simpa using this
  · have h6 := atL_spec ho (h3 i hi).2
    simp only [Bool.and_eq_true] at h6
    exact Option.isSome_iff_exists.1 h6.1
  · have h6 := atL_spec ho (h3 i hi).2
    simp only [Bool.and_eq_true, List.all_eq_true] at h6
    have h7 := atL_spec hoj (h6.2 j hj)
    unfold pairB at h7
    simp [hne, e] at h7
  · have h6 := atL_spec ho (h3 i hi).2
    simp only [Bool.and_eq_true, List.all_eq_true] at h6
    have h7 := atL_spec hoj (h6.2 j hj)
    unfold pairB at h7
    simp only [Bool.and_eq_true, Bool.or_eq_true, Bool.not_eq_true'] at h7
    rcases h7.2 with h8 | h8
    · exfalso
      rw [← Bool.not_eq_true, List.any_eq_true] at h8
      exact h8 ⟨t, ht, by simp [hd]⟩
    · exact h8
  · exact atL_some (h3 i hi).2
  · have := (h1 i hi).2
    simp only [beq_iff_eq] at this
    rw [this]
    simp
  · have h6 := atL_spec ho (h2 i hi)
    rw [Array.all_eq_true'] at h6
    have := h6 e he
    simpa [hb] using this

theorem notSelect_spec {o : Oper} (h : notSelect o = true) : ∀ cs b, o.op ≠ .select cs b := by
  intro cs b e
  unfold notSelect at h
  rw [e] at h
  cases h

/-- The values of the operations of H, laid into their places. -/
def putH (l : List Oper) : List Nat → Act → (Nat → Value) → Act
  | [], a, _ => a
  | i :: is, a, vs => putH l is (a.put ((l[i]?).bind (·.dst)) (vs i)) vs

theorem putH_size (l : List Oper) : ∀ (is : List Nat) (a : Act) (vs : Nat → Value), (putH l is a vs).tmps.size = a.tmps.size
  | [], _, _ => rfl
  | i :: is, a, vs => by rw [putH, putH_size l is, put_size]
theorem putH_defers (l : List Oper) : ∀ (is : List Nat) (a : Act) (vs : Nat → Value), (putH l is a vs).defers = a.defers
  | [], _, _ => rfl
  | i :: is, a, vs => by rw [putH, putH_defers l is, put_defers]
theorem putH_off (l : List Oper) : ∀ (is : List Nat) (a : Act) (vs : Nat → Value) (t : Tmp), (∀ i ∈ is, (l[i]?).bind (·.dst) ≠ some t) → (putH l is a vs).tmps[t]? = a.tmps[t]?
  | [], _, _, _, _ => rfl
  | i :: is, a, vs, t, h => by
    rw [putH, putH_off l is _ _ t (fun x hx => h x (List.mem_cons_of_mem _ hx)), put_other _ _ _ (h i List.mem_cons_self)]
theorem putH_at (l : List Oper) : ∀ (is : List Nat) (a : Act) (vs : Nat → Value) (t : Tmp) (i : Nat), i ∈ is → (l[i]?).bind (·.dst) = some t → (∀ j ∈ is, j ≠ i → (l[j]?).bind (·.dst) ≠ some t) → t < a.tmps.size → (putH l is a vs).tmps[t]? = some (vs i)
  | [], _, _, _, i, h, _, _, _ => by simp at h
  | x :: is, a, vs, t, i, h, hd, hn, ht => by
    by_cases hi : i ∈ is
    · rw [putH, putH_at l is _ vs t i hi hd (fun j hj hne => hn j (List.mem_cons_of_mem _ hj) hne) (by rw [put_size]; exact ht)]
    · have : i = x := (List.mem_cons.1 h).resolve_right hi
      subst this
      rw [putH, putH_off l is _ _ t (fun j hj => hn j (List.mem_cons_of_mem _ hj) (fun e => hi (e ▸ hj))), hd, put_same _ _ ht]

/-- What stands while the operations of H come up. -/
structure GrowI (l : List Oper) (T H late : List Nat) (a0 : Act) (A : (Nat → Value) → Nat → World → Prop) (Rel : World → World → Prop) (w0 : World) (listed : Array Bool) (vs : Nat → Value) (a : Act) (w : World) : Prop where
  ls : listed.size = l.length
  shut : Shut l listed
  t : ∀ i o, l[i]? = some o → i ∈ T → listed.getD i false = true
  lt : ∀ i o, l[i]? = some o → i ∈ late → listed.getD i true = false
  rel : Rel w0 w
  df : a.defers = a0.defers
  sz : a.tmps.size = a0.tmps.size
  at' : ∀ i o t, i ∈ H → l[i]? = some o → o.dst = some t → listed.getD i false = true → t < a0.tmps.size → a.tmps[t]? = some (vs i)
  off : ∀ t, (∀ i o, i ∈ H → l[i]? = some o → listed.getD i false = true → o.dst ≠ some t) → a.tmps[t]? = a0.tmps[t]?
  fact : ∀ i, i ∈ H → listed.getD i false = true → A vs i w

theorem getD_false_true {b : Array Bool} {i : Nat} (hi : i < b.size) (h : b.getD i true ≠ false) : b.getD i false = true := by
  simp [Array.getD, hi] at h ⊢
  exact h
theorem getD_size {b : Array Bool} {i : Nat} (h : b.getD i false = true) : i < b.size := by
  rcases Nat.lt_or_ge i b.size with h' | h'
  · exact h'
  · simp [Array.getD, Nat.not_lt.2 h'] at h
theorem getD_both {b : Array Bool} {i : Nat} (h : b.getD i false = true) (k : b.getD i true = false) : False := by
  have := getD_size h
  simp [Array.getD, this] at h k
  rw [h] at k
  cases k
theorem getD_set_other {b : Array Bool} {i j : Nat} (d : Bool) (h : j ≠ i) : (b.setIfInBounds i true).getD j d = b.getD j d := by
  rw [Array.getD_eq_getD_getElem?, Array.getElem?_setIfInBounds_ne (fun e => h e.symm), ← Array.getD_eq_getD_getElem?]
theorem getD_set_same {b : Array Bool} {i : Nat} (d : Bool) (h : i < b.size) : (b.setIfInBounds i true).getD i d = true := by
  simp [Array.getD_eq_getD_getElem?, h]

theorem GrowI.look {l : List Oper} {T H late : List Nat} {a0 : Act} {A : (Nat → Value) → Nat → World → Prop} {Rel : World → World → Prop} {w0 w : World} {listed : Array Bool} {vs : Nat → Value} {a : Act} (I : GrowI l T H late a0 A Rel w0 listed vs a w) (g : GrowS l T H late)
    (t : Tmp) (hl : ∀ j oj, j ∈ H → l[j]? = some oj → oj.dst = some t → listed.getD j false = true) : a.tmps[t]? = (putH l H a0 vs).tmps[t]? := by
  by_cases hd : ∃ j oj, j ∈ H ∧ l[j]? = some oj ∧ oj.dst = some t
  · obtain ⟨j, oj, hj, hoj, hdj⟩ := hd
    rcases Nat.lt_or_ge t a0.tmps.size with ht | ht
    · rw [I.at' _ oj t hj hoj hdj (hl j oj hj hoj hdj) ht]
      rw [putH_at l H a0 vs t j hj (by rw [hoj]; exact hdj) (fun k hk hne hdk => by
        obtain ⟨ok, hok⟩ := g.inH k hk
        rw [hok] at hdk
        exact g.dist j k oj ok hj hk hoj hok hne (by rw [hdj]; exact hdk)) ht]
    · rw [Array.getElem?_eq_none (by rw [I.sz]; exact ht), Array.getElem?_eq_none (by rw [putH_size]; exact ht)]
  · rw [I.off t (fun j oj hj hoj _ e => hd ⟨j, oj, hj, hoj, e⟩), putH_off]
    intro j hj e
    obtain ⟨oj, hoj⟩ := g.inH j hj
    rw [hoj] at e
    exact hd ⟨j, oj, hj, hoj, e⟩

theorem GrowI.eval {l : List Oper} {T H late : List Nat} {a0 : Act} {A : (Nat → Value) → Nat → World → Prop} {Rel : World → World → Prop} {w0 w : World} {listed : Array Bool} {vs : Nat → Value} {a : Act} (I : GrowI l T H late a0 A Rel w0 listed vs a w) (g : GrowS l T H late)
    {i : Nat} {o : Oper} (hi : i ∈ H) (ho : l[i]? = some o) (hr : ∀ e ∈ o.after, Region.binds .any e = true → listed.getD e.on false = true) : ∀ x ∈ o.op.operands, a.eval x = (putH l H a0 vs).eval x := by
  intro x hx
  cases x with
  | tmp t =>
    have hmem : t ∈ tmpsOf o := List.mem_filterMap.2 ⟨.tmp t, by simpa using hx, rfl⟩
    have h := I.look g t (fun j oj hj hoj hdj => by
      obtain ⟨e, he, hb, rfl⟩ := waitsFor_spec (g.dep i j o oj t hi hj ho hoj hmem hdj)
      exact hr e he hb)
    simp [Act.eval, h]
  | _ => rfl

theorem GrowI.frame {l : List Oper} {T H late : List Nat} {a0 : Act} {A : (Nat → Value) → Nat → World → Prop} {Rel : World → World → Prop} {w0 w : World} {listed : Array Bool} {vs : Nat → Value} {a : Act} (I : GrowI l T H late a0 A Rel w0 listed vs a w) (g : GrowS l T H late)
    (hall : ∀ j, j ∈ H → listed.getD j false = true) : a = putH l H a0 vs := by
  have h : a.tmps = (putH l H a0 vs).tmps := Array.ext_getElem? fun t => I.look g t (fun j _ hj _ _ => hall j hj)
  have h2 : a.defers = (putH l H a0 vs).defers := by rw [putH_defers]; exact I.df
  cases a
  cases hp : putH l H a0 vs
  rw [hp] at h h2
  simp only at h h2
  subst h h2
  rfl

theorem GrowI.next {l : List Oper} {T H late : List Nat} {a0 : Act} {A : (Nat → Value) → Nat → World → Prop} {Rel : World → World → Prop} {w0 w w' : World} {listed : Array Bool} {vs : Nat → Value} {a : Act} (I : GrowI l T H late a0 A Rel w0 listed vs a w) (g : GrowS l T H late)
    (ht : ∀ x y z, Rel x y → Rel y z → Rel x z) (hA : ∀ vs i x y, i ∈ H → Rel w0 x → A vs i x → Rel x y → A vs i y) (hC : ∀ vs vs' i o x, i ∈ H → l[i]? = some o → (∀ k, k = i ∨ (need l.length l i).contains k = true → vs k = vs' k) → A vs i x → A vs' i x) {i : Nat} {o : Oper} {v : Value} (hi : i ∈ H) (ho : l[i]? = some o) (hun : listed.getD i true = false) (hr : ∀ e ∈ o.after, Region.binds .any e = true → listed.getD e.on false = true) (hrel : Rel w w') (hv : A (fun j => if j = i then v else vs j) i w') :
    GrowI l T H late a0 A Rel w0 (listed.setIfInBounds i true) (fun j => if j = i then v else vs j) (a.put o.dst v) w' := by
  have hil : i < listed.size := by rw [I.ls]; exact lt_of_at ho
  have up : ∀ j, listed.getD j false = true → (listed.setIfInBounds i true).getD j false = true := fun j h => by
    by_cases e : j = i
    · subst e; exact getD_set_same _ hil
    · rw [getD_set_other _ e]; exact h
  have dn : ∀ j, (listed.setIfInBounds i true).getD j false = true → j = i ∨ (j ≠ i ∧ listed.getD j false = true) := fun j h => by
    by_cases e : j = i
    · exact .inl e
    · rw [getD_set_other _ e] at h; exact .inr ⟨e, h⟩
  refine ⟨by simpa using I.ls, fun j oj hoj hl e he hb => ?_, fun j oj hoj hj => up _ (I.t j oj hoj hj), fun j oj hoj hj => ?_, ht _ _ _ I.rel hrel, by rw [put_defers]; exact I.df, by rw [put_size]; exact I.sz, fun j oj t hj hoj hd hl hlt => ?_, fun t hno => ?_, fun j hj hl => ?_⟩
  · rcases dn j hl with rfl | ⟨_, hl'⟩
    · rw [ho] at hoj
      cases hoj
      exact up _ (hr e he hb)
    · exact up _ (I.shut j oj hoj hl' e he hb)
  · have hji : j ≠ i := fun e => by subst e; exact (g.off j hi).2 hj
    rw [getD_set_other _ hji]
    exact I.lt j oj hoj hj
  · rcases dn j hl with rfl | ⟨hne, hl'⟩
    · rw [ho] at hoj
      cases hoj
      rw [hd, put_same _ _ (by rw [I.sz]; exact hlt)]
      simp
    · rw [put_other _ _ _ (fun e => g.dist i j o oj hi hj ho hoj hne (by rw [hd, e])), I.at' j oj t hj hoj hd hl' hlt]
      simp [hne]
  · have hdi : o.dst ≠ some t := hno i o hi ho (getD_set_same _ hil)
    rw [put_other _ _ _ hdi]
    exact I.off t fun j oj hj hoj hl => hno j oj hj hoj (up j hl)
  · rcases dn j hl with rfl | ⟨hne, hl'⟩
    · exact hv
    · obtain ⟨oj, hoj⟩ := g.inH j hj
      refine hC vs _ j oj w' hj hoj (fun k hk => ?_) (hA vs j _ _ hj I.rel (I.fact j hj hl') hrel)
      have hki : k ≠ i := by
        rcases hk with rfl | hk
        · exact hne
        · rintro rfl
          exact getD_both (need_listed I.shut _ j (fun ok hok => I.shut j ok hok hl') k (by simpa using hk)) hun
      simp [hki]

theorem least_unlisted {listed : Array Bool} : ∀ (n : Nat), listed.getD n true = false → ∃ i, i ≤ n ∧ listed.getD i true = false ∧ ∀ j, j < i → listed.getD j true ≠ false := by
  intro n
  induction n using Nat.strongRecOn with
  | _ n ih =>
    intro h
    by_cases hx : ∃ j, j < n ∧ listed.getD j true = false
    · obtain ⟨j, hj, hjf⟩ := hx
      obtain ⟨i, hi, h1, h2⟩ := ih j hj hjf
      exact ⟨i, by omega, h1, h2⟩
    · exact ⟨n, Nat.le_refl _, h, fun j hj hf => hx ⟨j, hj, hf⟩⟩

theorem unlisted_lt {b : Array Bool} {i : Nat} (h : b.getD i true = false) : i < b.size := by
  rcases Nat.lt_or_ge i b.size with h' | h'
  · exact h'
  · simp [Array.getD, Nat.not_lt.2 h'] at h

/-- Something may come up while something has not. -/
theorem ready_some {l : List Oper} {listed : Array Bool} (plain : ∀ i o, l[i]? = some o → ∀ e ∈ o.after, Region.binds .any e = true → e.on < i) (hls : listed.size = l.length) {n : Nat} (hn : listed.getD n true = false) : Region.ready .any l.toArray listed ≠ [] := by
  intro hr
  obtain ⟨i, hi, h1, h2⟩ := least_unlisted n hn
  have hlt : i < l.length := by rw [← hls]; exact unlisted_lt h1
  have : i ∈ Region.ready .any l.toArray listed := mem_ready.2 ⟨h1, l[i], by simp [hlt], fun e he hb => by
    have := plain i l[i] (by simp [hlt]) e he hb
    exact getD_false_true (by omega) (h2 _ this)⟩
  rw [hr] at this
  cases this

theorem wpAny_all {P : Program} {ops : Array Oper} {Q : Exit → Act → World → Prop} {listed : Array Bool} {a : Act} {w : World} (hr : Region.ready .any ops listed = []) (h : Q .normal a w) : ∀ fuel, wpAny P .any ops Q fuel listed a w
  | 0 => ⟨hr, h⟩
  | _ + 1 => ⟨fun _ => h, by rw [hr]; simp⟩

/-- The last operations, one behind the other. -/
def wpSeq (P : Program) (l : List Oper) (Q : Exit → Act → World → Prop) : List Nat → Act → World → Prop
  | [], a, w => Q .normal a w
  | i :: is, a, w => ∀ o, l[i]? = some o → o.wp P a w (wpSeq P l Q is) Q

theorem wpSeq_cons {P : Program} {l : List Oper} {Q : Exit → Act → World → Prop} {i : Nat} {is : List Nat} {o : Oper} {a : Act} {w : World} (h : l[i]? = some o) (hh : o.wp P a w (wpSeq P l Q is) Q) : wpSeq P l Q (i :: is) a w := by
  intro o' ho'
  rw [h] at ho'
  cases ho'
  exact hh

theorem wpAny_late {P : Program} {l : List Oper} {H : List Nat} {Q : Exit → Act → World → Prop} (plain : ∀ i o, l[i]? = some o → o.guard = none ∧ notSelect o = true ∧ ∀ e ∈ o.after, Region.binds .any e = true → e.on < i) :
    ∀ (todo done : List Nat) (fuel : Nat) (listed : Array Bool) (a : Act) (w : World), lateB l H done todo = true → listed.size = l.length → Shut l listed → (∀ i, i ∈ todo → listed.getD i true = false) → (∀ i o, l[i]? = some o → listed.getD i true = false → i ∈ todo) → todo.length ≤ fuel → wpSeq P l Q todo a w → wpAny P .any l.toArray Q fuel listed a w
  | [], done, fuel, listed, a, w, _, hls, _, _, hun, _, h => by
    refine wpAny_all ?_ h fuel
    rw [List.eq_nil_iff_forall_not_mem]
    intro j hj
    obtain ⟨h1, oj, hoj, _⟩ := mem_ready.1 hj
    have := hun j oj (by simpa using hoj) h1
    cases this
  | i :: rest, done, 0, listed, a, w, _, _, _, _, _, hf, _ => by simp at hf
  | i :: rest, done, fuel + 1, listed, a, w, hB, hls, hsh, hin, hun, hf, h => by
    unfold lateB at hB
    simp only [Bool.and_eq_true, List.all_eq_true, decide_eq_true_eq] at hB
    obtain ⟨⟨⟨hneed, hlt⟩, hil⟩, hB⟩ := hB
    refine ⟨fun hr => absurd hr (ready_some (fun i o hi => (plain i o hi).2.2) hls (hin i List.mem_cons_self)), fun j hj => ?_⟩
    obtain ⟨h1, o, ho, hr⟩ := mem_ready.1 hj
    have hol : l[j]? = some o := by simpa using ho
    have hji : j = i := by
      rcases List.mem_cons.1 (hun j o hol h1) with e | hm
      · exact e
      · exfalso
        -- j waits for i, which has not come up
        have : listed.getD i false = true := by
          have hlB : ∀ (rest : List Nat) (d : List Nat), lateB l H d rest = true → i ∈ d → j ∈ rest → i ∈ need l.length l j := by
            intro rest
            induction rest with
            | nil => intro d _ _ hm; cases hm
            | cons x xs ih =>
              intro d hB hd hm
              unfold lateB at hB
              simp only [Bool.and_eq_true, List.all_eq_true, decide_eq_true_eq] at hB
              obtain ⟨⟨⟨hn, _⟩, _⟩, hB⟩ := hB
              rcases List.mem_cons.1 hm with rfl | hm
              · have := hn i (List.mem_append.2 (.inr hd))
                simpa using this
              · exact ih _ hB (List.mem_append.2 (.inl hd)) hm
          exact need_listed hsh _ j (fun oj hoj e he hb => by rw [hol] at hoj; cases hoj; exact hr e he hb) i (hlB rest (done ++ [i]) hB (by simp) hm)
        exact getD_both this (hin i List.mem_cons_self)
    subst hji
    obtain ⟨hg, _, _⟩ := plain j o hol
    unfold wpOp
    simp only [ho]
    rw [if_pos (by unfold Region.wanted; rw [hg])]
    left
    refine Oper.wp_mono (fun a' w' hq => ?_) (h o hol)
    have hjs : j < listed.size := by rw [hls]; exact lt_of_at hol
    refine wpAny_late plain rest (done ++ [j]) fuel _ a' w' hB (by simpa using hls) (fun k ok hok hl e he hb => ?_) (fun k hk => ?_) (fun k ok hok hk => ?_) (by simp at hf; exact hf) hq
    · by_cases e1 : e.on = j
      · rw [e1]; exact getD_set_same _ hjs
      · rw [getD_set_other _ e1]
        by_cases e2 : k = j
        · subst e2
          rw [hol] at hok
          cases hok
          exact hr e he hb
        · rw [getD_set_other _ e2] at hl
          exact hsh k ok hok hl e he hb
    · have : j < k := hlt k hk
      rw [getD_set_other _ (by omega)]
      exact hin k (List.mem_cons_of_mem _ hk)
    · have hne : k ≠ j := fun e => by
        subst e
        rw [getD_set_same _ hjs] at hk
        cases hk
      rw [getD_set_other _ hne] at hk
      rcases List.mem_cons.1 (hun k ok hok hk) with e | hm
      · exact absurd e hne
      · exact hm

theorem lateB_need {l : List Oper} {H : List Nat} : ∀ (late done : List Nat) (i : Nat), lateB l H done late = true → i ∈ late → ∀ j ∈ H, j ∈ need l.length l i
  | [], _, _, _, h, _, _ => by cases h
  | x :: xs, done, i, hB, hm, j, hj => by
    unfold lateB at hB
    simp only [Bool.and_eq_true, List.all_eq_true, decide_eq_true_eq] at hB
    obtain ⟨⟨⟨hn, _⟩, _⟩, hB⟩ := hB
    rcases List.mem_cons.1 hm with rfl | hm
    · have := hn j (List.mem_append.2 (.inl hj))
      simpa using this
    · exact lateB_need xs _ i hB hm j hj
theorem lateB_lt {l : List Oper} {H : List Nat} : ∀ (late done : List Nat) (i : Nat), lateB l H done late = true → i ∈ late → i < l.length
  | [], _, _, _, h => by cases h
  | x :: xs, done, i, hB, hm => by
    unfold lateB at hB
    simp only [Bool.and_eq_true, List.all_eq_true, decide_eq_true_eq] at hB
    obtain ⟨⟨⟨_, _⟩, hl⟩, hB⟩ := hB
    rcases List.mem_cons.1 hm with rfl | hm
    · exact hl
    · exact lateB_lt xs _ i hB hm

theorem wpAny_growI {P : Program} {l : List Oper} {T H late : List Nat} {Q : Exit → Act → World → Prop} {a0 : Act} {w0 : World} (g : GrowS l T H late) (hne : late ≠ [])
    (Rel : World → World → Prop) (ht : ∀ x y z, Rel x y → Rel y z → Rel x z) (A : (Nat → Value) → Nat → World → Prop) (hA : ∀ vs i x y, i ∈ H → Rel w0 x → A vs i x → Rel x y → A vs i y) (hC : ∀ vs vs' i o x, i ∈ H → l[i]? = some o → (∀ k, k = i ∨ (need l.length l i).contains k = true → vs k = vs' k) → A vs i x → A vs' i x)
    (steps : ∀ i o, i ∈ H → l[i]? = some o → ∀ vs w, Rel w0 w → (∀ j, j ∈ H → (need l.length l i).contains j = true → A vs j w) → gives P (putH l H a0 vs).eval o w (fun v w' => Rel w w' ∧ A (fun j => if j = i then v else vs j) i w'))
    (rest : ∀ vs w, Rel w0 w → (∀ j, j ∈ H → A vs j w) → wpSeq P l Q late (putH l H a0 vs) w) :
    ∀ (fuel : Nat) (U : List Nat) (listed : Array Bool) (vs : Nat → Value) (a : Act) (w : World), (∀ i o, l[i]? = some o → i ∉ late → listed.getD i true = false → i ∈ U) → U.length + late.length ≤ fuel → GrowI l T H late a0 A Rel w0 listed vs a w → wpAny P .any l.toArray Q fuel listed a w := by
  intro fuel
  have lfst : ∃ i0, i0 ∈ late := by cases late with | nil => exact absurd rfl hne | cons x _ => exact ⟨x, List.mem_cons_self⟩
  obtain ⟨i0, hi0⟩ := lfst
  have hi0l : ∃ o, l[i0]? = some o := ⟨_, List.getElem?_eq_getElem (lateB_lt _ _ _ g.lateS hi0)⟩
  obtain ⟨o0, ho0⟩ := hi0l
  induction fuel with
  | zero =>
    intro U listed vs a w _ hlen _
    cases late with
    | nil => exact absurd rfl hne
    | cons _ _ => simp at hlen
  | succ fuel ih =>
    intro U listed vs a w hU hlen I
    by_cases hall : ∀ j, j ∈ H → listed.getD j false = true
    · -- all of H have come up
      rw [I.frame g hall]
      refine wpAny_late g.plain late [] (fuel + 1) listed _ w g.lateS I.ls I.shut (fun i hi => ?_) (fun i o hi hf => ?_) (by omega) (rest vs w I.rel (fun j hj => I.fact j hj (hall j hj)))
      · exact I.lt i _ (List.getElem?_eq_getElem (lateB_lt _ _ _ g.lateS hi)) hi
      · rcases g.cover i o hi with h | h | h
        · exact (getD_both (I.t i o hi h) hf).elim
        · exact (getD_both (hall i h) hf).elim
        · exact h
    · refine ⟨fun hr => absurd hr (ready_some (fun i o hi => (g.plain i o hi).2.2) I.ls (I.lt i0 o0 ho0 hi0)), fun i hi => ?_⟩
      obtain ⟨h1, o, ho, hr⟩ := mem_ready.1 hi
      have hol : l[i]? = some o := by simpa using ho
      obtain ⟨hg, hs, _⟩ := g.plain i o hol
      rcases g.cover i o hol with hT | hH | hL
      · exact (getD_both (I.t i o hol hT) h1).elim
      · have hUi := hU i o hol (g.off i hH).2 h1
        unfold wpOp
        simp only [ho]
        rw [if_pos (by unfold Region.wanted; rw [hg])]
        left
        have hst := steps i o hH hol vs w I.rel (fun j hj hw => I.fact j hj (need_listed I.shut _ i (fun oi hoi e he hb => by rw [hol] at hoi; cases hoi; exact hr e he hb) j (by simpa using hw)))
        unfold gives at hst
        rw [← execOp_congr o (notSelect_spec hs) (I.eval g hH hol hr)] at hst
        refine gives_wp (K := fun v w' => Rel w w' ∧ A (fun j => if j = i then v else vs j) i w') hst fun v w' ⟨hrel, hv⟩ => ?_
        have hil : i < listed.size := by rw [I.ls]; exact lt_of_at hol
        refine ih (U.erase i) _ (fun j => if j = i then v else vs j) _ _ (fun j oj hoj hj hf => ?_) ?_ (I.next g ht hA hC hH hol h1 hr hrel hv)
        · have hne : j ≠ i := fun e => by
            subst e
            rw [getD_set_same _ hil] at hf
            cases hf
          rw [getD_set_other _ hne] at hf
          exact (List.mem_erase_of_ne hne).2 (hU j oj hoj hj hf)
        · rw [List.length_erase_of_mem hUi]
          have := List.length_pos_of_mem hUi
          omega
      · exfalso
        refine hall fun j hj => ?_
        exact need_listed I.shut _ i (fun oi hoi e he hb => by rw [hol] at hoi; cases hoi; exact hr e he hb) j (lateB_need _ _ _ g.lateS hL j hj)

/-- **The law**, from where some have come up already. -/
theorem wpAny_grow {P : Program} {l : List Oper} {Q : Exit → Act → World → Prop} {a0 : Act} {w0 : World} {listed : Array Bool} {fuel : Nat} (T H late : List Nat) (hne : late ≠ []) (hB : growB l T H late listed = true)
    (Rel : World → World → Prop) (hr : Rel w0 w0) (ht : ∀ x y z, Rel x y → Rel y z → Rel x z) (A : (Nat → Value) → Nat → World → Prop) (hA : ∀ vs i x y, i ∈ H → Rel w0 x → A vs i x → Rel x y → A vs i y) (hC : ∀ vs vs' i o x, i ∈ H → l[i]? = some o → (∀ k, k = i ∨ (need l.length l i).contains k = true → vs k = vs' k) → A vs i x → A vs' i x)
    (hlen : H.length + late.length ≤ fuel)
    (steps : ∀ i o, i ∈ H → l[i]? = some o → ∀ vs w, Rel w0 w → (∀ j, j ∈ H → (need l.length l i).contains j = true → A vs j w) → gives P (putH l H a0 vs).eval o w (fun v w' => Rel w w' ∧ A (fun j => if j = i then v else vs j) i w'))
    (rest : ∀ vs w, Rel w0 w → (∀ j, j ∈ H → A vs j w) → wpSeq P l Q late (putH l H a0 vs) w) : wpAny P .any l.toArray Q fuel listed a0 w0 := by
  obtain ⟨g, hls, hT, hTs⟩ := growS hB
  have hlT : ∀ i o, l[i]? = some o → listed.getD i false = true → i ∈ T := fun i o ho h => by
    have hi := lt_of_at ho
    refine (hT i hi).1 ?_
    have := getD_size h
    simp [Array.getD, this] at h ⊢
    exact h
  have hTl : ∀ i, i < l.length → i ∈ T → listed.getD i false = true := fun i hi h => by
    have := (hT i hi).2 h
    have hsz : i < listed.size := by omega
    simp [Array.getD, hsz] at this ⊢
    exact this
  refine wpAny_growI g hne Rel ht A hA hC steps rest fuel H listed (fun _ => undef) a0 w0 (fun i o ho hl hf => ?_) hlen ⟨hls, fun i o ho hl e he hb => ?_, fun i o ho h => hTl i (lt_of_at ho) h, fun i o ho h => ?_, hr, rfl, rfl, fun i o t hi ho _ hl _ => ?_, fun _ _ => rfl, fun i hi hl => ?_⟩
  · rcases g.cover i o ho with h | h | h
    · exact (getD_both (hTl i (lt_of_at ho) h) hf).elim
    · exact h
    · exact absurd h hl
  · have h1 := hTs i o (hlT i o ho hl) ho e he hb
    have h2 := (g.plain i o ho).2.2 e he hb
    exact hTl _ (by have := lt_of_at ho; omega) h1
  · have hi := lt_of_at ho
    have hnT := g.offT i h
    cases hx : listed.getD i true with
    | false => rfl
    | true => exact absurd ((hT i hi).1 hx) hnT
  · exact absurd (hlT i o ho hl) (g.off i hi).1
  · obtain ⟨o, ho⟩ := g.inH i hi
    exact absurd (hlT i o ho hl) (g.off i hi).1

end Go.Proofs.YtnemldboiogdkaaGreat
