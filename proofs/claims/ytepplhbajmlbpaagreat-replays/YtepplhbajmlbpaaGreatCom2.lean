/-
  PARTS LAID TOGETHER, each with its own opening: FdsB, FdsC, FdsD, QueA, QueB, QueC, ObjS, McS, RfB, CfR, RmA, RefCp, RefStA, RefSum, RefApp0, RefRow1, RefRow2, RefApp1, RefRow3, RefApp2, RefObj, SpoilA, LmA, LmT, LmBa, LmBb, LmBc, LmBd, LmBe, LmBf, LmBg, LmBh, LmBi, LmBj, LmBk, LmBl, LmBm.
-/
import Derived.Test.YtepplhbajmlbpaaGreatCom1
import Derived.Deep.RegionHeld3
import Derived.Deep.Cut
namespace Go.Proofs.YtepplhbajmlbpaaGreat
open Go.RowKit
set_option maxHeartbeats 1000000 in
theorem fdsTake (v : Value) (base : Nat) (xs : List Int) (a0 : Int) (w : World) (hown : Own w base v xs) (hbase : base ≤ w.heap.size) (hl : xs.length ≤ 1000) :
   Calls Tryz.prog 154 #[v, .int .i64 a0] w fun e w' => ∃ v', e = .returned (.tuple #[v', .int .i64 (takeS xs a0).2]) ∧ Own w' base v' (takeS xs a0).1 ∧ Le w w' := by
 have hidx := slicesIndex v xs a0 w hown.has hl
 have hb := idxFrom_bounds a0 0 xs
 rw [show idxFrom 0 a0 xs = idxS xs a0 from rfl] at hb
 by_cases h4 : idxS xs a0 < 0
 ·have HP : Hid (takeS xs a0 = (xs, 0)) := hid (by simp [takeS, h4])
  clear hb
  go_enter Tryz.func154, Tryz.ntmps154
  go_wp2_with fail
  refine hidx.mono ?_
  rintro e w1 ⟨rfl, rfl⟩
  go_wp2
  go_ret2
  rw [HP.out]
  exact ⟨_, rfl, hown, Le.refl _⟩
 ·have HP : Hid (takeS xs a0 = (xs.take (idxS xs a0).toNat ++ xs.drop ((idxS xs a0).toNat + 1), 1)) := hid (by simp [takeS, h4])
  obtain ⟨i, hi⟩ : ∃ i : Nat, idxS xs a0 = i := ⟨(idxS xs a0).toNat, by omega⟩
  rw [hi] at h4 hidx hb
  rw [show Hid (takeS xs a0 = (xs.take (idxS xs a0).toNat ++ xs.drop ((idxS xs a0).toNat + 1), 1)) = Hid (takeS xs a0 = (xs.take i ++ xs.drop (i + 1), 1)) by rw [hi]; rfl] at HP
  have hlt : i < xs.length := by omega
  obtain ⟨ad, cap, rfl, hc, _, hx⟩ := hown.has
  obtain ⟨b, off, rfl, hcell⟩ := hx (by omega)
  obtain ⟨n, hn⟩ : ∃ n, n = xs.length := ⟨_, rfl⟩
  have hA : Has w (.slice (some ⟨b, off, none⟩) i cap) (xs.take i) := by
    refine ⟨_, cap, by rw [List.length_take, Nat.min_eq_left (by omega)], by rw [List.length_take]; omega, (fun h => by cases h), fun _ => ⟨b, off, rfl, fun j hj => ?_⟩⟩
    rw [List.length_take] at hj
    rw [hcell j (by omega)]
    simp [List.getD, show j < i by omega]
  obtain ⟨A, hAe, hB⟩ : ∃ A, (if cap = i + 1 then some ⟨b, off, none⟩ else some ⟨b, off + (i + 1), none⟩ : Option Addr) = A ∧ Has w (.slice A (n - (i + 1)) (cap - (i + 1))) (xs.drop (i + 1)) := by
    refine ⟨_, rfl, _, _, by rw [List.length_drop, ← hn], by rw [List.length_drop]; omega, (fun h => by split at h <;> cases h), fun hp => ?_⟩
    rw [List.length_drop] at hp
    rw [if_neg (by omega)]
    refine ⟨b, off + (i + 1), rfl, fun j hj => ?_⟩
    rw [List.length_drop] at hj
    rw [getD_drop, Nat.add_assoc, hcell (i + 1 + j) (by omega)]
  have HN : Hid (n = xs.length) := hn
  have hown0 := hown
  rw [← hn] at hc hlt hidx ⊢
  clear hx hcell hb hown hn h4
  have i0 : (0 : Int) ≤ (i : Int) := by omega
  have i1 : (i : Int) < (n : Int) := by omega
  have i2 : (i : Int) + 1 ≤ (n : Int) := by omega
  have i3 : i ≤ cap := by omega
  have i4 : i + 1 ≤ n := by omega
  have i5 : (i : Int) ≤ (cap : Int) := by omega
  have i6 : ((i : Int) + 1).toNat = i + 1 := by omega
  have i7 : IntKind.i64.wrap ((i : Int) + 1) = (i : Int) + 1 := by rw [IntKind.wrap_i64]; have := HN.out; omega
  have i8 : (0 : Int) ≤ (i : Int) + 1 := by omega
  go_enter Tryz.func154, Tryz.ntmps154
  go_wp2_with fail
  refine hidx.mono ?_
  rintro e w1 ⟨rfl, rfl⟩
  go_wp2_with fail
  go_region_law (first
    | (refine step_append_ints rfl (.const (.slice none 0 0)) (.tmp 15) rfl w.heap.size (.slice none 0 0) (.slice (some ⟨b, off, none⟩) i cap) [] (xs.take i) (by simp [Act.eval]) (by simp [Act.eval, Act.put]) (Own.nil _ _) hA (by simp; omega) (Nat.le_refl _) ?_; intro v1 w1 o1 g1)
    | (refine step_append_ints rfl (.tmp 16) (.tmp 20) rfl w.heap.size v1 (.slice A (n - (i + 1)) (cap - (i + 1))) _ (xs.drop (i + 1)) (by simp [Act.eval]) (by simp [Act.eval]) o1 (hB.le (Below.grown (Le.drew w) g1 (Nat.le_refl _) (fun g e => by cases e))) (by simp; omega) g1.size ?_; intro v2 w2 o2 g2))
  all_goals
    go_wp2
    go_ret2
    rw [HP.out]
    rw [List.nil_append] at o2
    exact ⟨_, rfl, o2.base hbase, Below.grown (Below.grown (Le.drew w) g1 (Nat.le_refl _) (fun g e => by cases e)) g2 g1.size (fun g e => (o1.block e).1)⟩
theorem fdsPutT : TurnsRow 153 (fun xs _ => putS xs) :=
 ⟨fun _ _ _ => by kernel_rfl, fun v base xs a w ho hb hl _ => fdsPut v base xs a w ho hb (by omega)⟩
theorem fdsTakeT : TurnsRow 154 takeS :=
 ⟨fun _ _ _ => by kernel_rfl, fun v base xs a w ho hb hl _ => (fdsTake v base xs a w ho hb (by omega)).mono fun _ _ ⟨v', he, h1, h2⟩ => ⟨v', he, h1, h2.grownBy _⟩⟩
theorem fdsMay (v : Value) (s : St) (w : World) (hx : HasS w v s) :
   Calls Tryz.prog 147 #[v, .func (.func 151) #[] #[]] w fun e w' => e = .returned (.bool (s.all rowMay2)) ∧ Le w w' :=
 statesMay 151 rowMay2 (fun _ _ => by kernel_rfl) fdsMayRow v s w hx
def fdsS (s : St) (c r a e : Int) : St × Int × Int := cntS rowMay2 (fun xs _ => putS xs) takeS s c r a e
set_option maxHeartbeats 2000000 in
theorem fdsApplyNo (v : Value) (s : St) (c r a : Int) (w : World) (hx : HasS w v s) (h : (s.all rowMay2 && opMay c r a) = false) :
   Calls Tryz.prog 143 #[v, opV c r a] w fun e w' => e = .returned (.tuple #[stZ, .int .i64 0, .int .i64 400]) ∧ Le w w' := by
 have hx0 := hx
 obtain ⟨vs, rfl, hr⟩ := hx
 have hl := ((Le.alloc w (.cells (cells4 vs) 44)).trans (Le.alloc _ (.cells #[.int .i64 c, .int .i64 r, .int .i64 a] 48))).trans (Le.alloc _ (.cells (cells4 fun _ => slZ) 44))
 have hb1 := ((Box.new w (cells4 vs) 44).le (Le.alloc _ (.cells #[.int .i64 c, .int .i64 r, .int .i64 a] 48))).le (Le.alloc _ (.cells (cells4 fun _ => slZ) 44))
 have hb2 := (Box.new (w.alloc (.cells (cells4 vs) 44)) #[.int .i64 c, .int .i64 r, .int .i64 a] 48).le (Le.alloc _ (.cells (cells4 fun _ => slZ) 44))
 have hb3 := Box.new ((w.alloc (.cells (cells4 vs) 44)).alloc (.cells #[.int .i64 c, .int .i64 r, .int .i64 a] 48)) (cells4 fun _ => slZ) 44
 simp only [World.size_alloc] at hb1 hb2 hb3
 have hmay := fdsMay (stV vs) s _ (hx0.le hl)
 cases hm : s.all rowMay2
 ·rw [hm] at hmay
  go_enter Tryz.func143, Tryz.ntmps143
  go_wp2_with fail
  refine hmay.mono ?_
  rintro e w1 ⟨rfl, l1⟩
  obtain ⟨z0, z1, z2, z3, f0, f1, f2, f3⟩ := (hb3.le l1).st
  go_wp2_with fail
  refine bodyPost_ret (v := .tuple #[stZ, .int .i64 0, .int .i64 400]) (by simp [results, Tryz.results143, go_sem, z0, z1, z2, z3]) rfl ⟨rfl, ?_⟩
  exact (hl.trans l1).set4 (by omega) _ _ _ _
 ·have hop : opMay c r a = false := by simpa [hm] using h
  rw [hm] at hmay
  go_enter Tryz.func143, Tryz.ntmps143
  go_wp2_with fail
  refine hmay.mono ?_
  rintro e w1 ⟨rfl, l1⟩
  obtain ⟨y0, y1, y2, _, _, _⟩ := (hb2.le l1).op
  go_wp2_with fail
  refine (operMay _ _ _ _).mono ?_
  rw [hop]
  rintro e w2 ⟨rfl, l2⟩
  obtain ⟨z0, z1, z2, z3, f0, f1, f2, f3⟩ := ((hb3.le l1).le l2).st
  go_wp2_with fail
  refine bodyPost_ret (v := .tuple #[stZ, .int .i64 0, .int .i64 400]) (by simp [results, Tryz.results143, go_sem, z0, z1, z2, z3]) rfl ⟨rfl, ?_⟩
  exact ((hl.trans l1).trans l2).set4 (by omega) _ _ _ _
set_option maxHeartbeats 2000000 in
theorem fdsApplyYes (v : Value) (s : St) (c r a : Int) (w : World) (hx : HasS w v s) (hf : Fit s) (hm : s.all rowMay2 = true) (hop : opMay c r a = true) :
   Calls Tryz.prog 143 #[v, opV c r a] w fun e w' => ∃ v', e = .returned (.tuple #[v', .int .i64 (cntY (fun xs _ => putS xs) takeS s c r a).2, .int .i64 0]) ∧ OwnS w' w.heap.size v' (cntY (fun xs _ => putS xs) takeS s c r a).1 ∧ Le w w' := by
 have hx0 := hx
 obtain ⟨vs, rfl, hr⟩ := hx
 have hl := ((Le.alloc w (.cells (cells4 vs) 44)).trans (Le.alloc _ (.cells #[.int .i64 c, .int .i64 r, .int .i64 a] 48))).trans (Le.alloc _ (.cells (cells4 fun _ => slZ) 44))
 have hb1 := ((Box.new w (cells4 vs) 44).le (Le.alloc _ (.cells #[.int .i64 c, .int .i64 r, .int .i64 a] 48))).le (Le.alloc _ (.cells (cells4 fun _ => slZ) 44))
 have hb2 := (Box.new (w.alloc (.cells (cells4 vs) 44)) #[.int .i64 c, .int .i64 r, .int .i64 a] 48).le (Le.alloc _ (.cells (cells4 fun _ => slZ) 44))
 have hb3 := Box.new ((w.alloc (.cells (cells4 vs) 44)).alloc (.cells #[.int .i64 c, .int .i64 r, .int .i64 a] 48)) (cells4 fun _ => slZ) 44
 simp only [World.size_alloc] at hb1 hb2 hb3
 have hmay := fdsMay (stV vs) s _ (hx0.le hl)
 rw [hm] at hmay
 go_enter Tryz.func143, Tryz.ntmps143
 go_wp2_with fail
 refine hmay.mono ?_
 rintro e w1 ⟨rfl, l1⟩
 obtain ⟨y0, y1, y2, _, _, _⟩ := (hb2.le l1).op
 clear hmay
 go_wp2_with fail
 refine (operMay _ _ _ _).mono ?_
 rw [hop]
 rintro e w2 ⟨rfl, l2⟩
 replace l1 := l1.trans l2
 clear l2 y0 y1 y2
 obtain ⟨x0, x1, x2, x3, _, _, _, _⟩ := (hb1.le l1).st
 obtain ⟨y0, y1, y2, _, _, _⟩ := (hb2.le l1).op
 go_wp2_with fail
 refine (countedAll 153 154 (fun xs _ => putS xs) takeS fdsPutT fdsTakeT (stV vs) s c r a _ (hx0.le (hl.trans l1)) hf (fun j hj => rowMay2_len (St.all_at hm hj)) hop).mono ?_
 obtain ⟨Y, hY⟩ : ∃ Y, Y = cntY (fun xs _ => putS xs) takeS s c r a := ⟨_, rfl⟩
 rw [← hY]
 have HY : Hid (Y = cntY (fun xs _ => putS xs) takeS s c r a) := hY
 clear hY
 rintro e w3 ⟨_, rfl, ⟨us, rfl, hown⟩, l3⟩
 replace hown := fun i hi => (hown i hi).base (base' := w.heap.size) (hl.trans l1).size
 replace l1 := l1.trans l3
 clear l3 y0 y1 y2 x0 x1 x2 x3
 have n0 : w.heap.size + 1 + 1 < w3.heap.size := (hb3.le l1).lt
 have n1 : ¬ w.heap.size + 1 + 1 = w3.heap.size := by omega
 have hb4 := Box.new w3 (cells4 us) 44
 replace l1 := l1.trans (Le.alloc w3 (.cells (cells4 us) 44))
 replace hown := fun i hi => (hown i hi).le (Le.alloc w3 (.cells (cells4 us) 44))
 go_upto_region 4 with fail
 generalize hW : w3.alloc (.cells (cells4 us) 44) = W at hb4 l1 hown ⊢
 clear hW
 obtain ⟨y0, y1, y2, y3, _, _, _, _⟩ := hb4.st
 obtain ⟨z0, z1, z2, z3, f0, f1, f2, f3⟩ := (hb3.le l1).st
 go_wp2_with fail
 refine bodyPost_ret (v := .tuple #[stV us, .int .i64 Y.2, .int .i64 0]) (by simp [results, Tryz.results143, go_sem, z0, z1, z2, z3]) rfl ⟨stV us, by rw [HY.out], ⟨us, rfl, fun i hi => ?_⟩, ?_⟩
 ·rw [← HY.out]; exact (hown i hi).set4 (hb3.le l1) (by decide) _ _ _ _
 ·exact (hl.trans l1).set4 (by omega) _ _ _ _
theorem fdsS_no {s : St} {c r a er : Int} (h : (s.all rowMay2 && opMay c r a) = false) : fdsS s c r a er = (St.zero, 0, er) := cntS_no h
theorem fdsS_scan {s : St} {er : Int} (h : s.all rowMay2 = true) : fdsS s 3 0 0 er = (s, manyTo s 4, 0) := cntS_scan h
theorem fdsS_look {s : St} {k : Nat} {er : Int} (h : s.all rowMay2 = true) (hk : k < 4) : fdsS s 2 k 0 er = (s, ((s.at k).length : Int), 0) := cntS_look h hk
theorem fdsApply (v : Value) (s : St) (c r a : Int) (w : World) (hx : HasS w v s) (hf : Fit s) :
   Calls Tryz.prog 143 #[v, opV c r a] w fun e w' => ∃ v', e = .returned (.tuple #[v', .int .i64 (fdsS s c r a 400).2.1, .int .i64 (fdsS s c r a 400).2.2]) ∧ OwnS w' w.heap.size v' (fdsS s c r a 400).1 ∧ Le w w' := by
 cases h : s.all rowMay2 && opMay c r a
 ·rw [fdsS_no h]
  exact (fdsApplyNo v s c r a w hx h).mono fun e w' ⟨he, hl⟩ => ⟨stZ, he, OwnS.zero _ _, hl⟩
 ·obtain ⟨hm, ho⟩ := Bool.and_eq_true_iff.mp h
  rw [show fdsS s c r a 400 = _ from cntS_yes h]
  exact fdsApplyYes v s c r a w hx hf hm ho
theorem fdsS_first {s : St} {k : Nat} {a er : Int} (h : s.all rowMay2 = true) (hk : k < 4) (ha : 0 ≤ a ∧ a ≤ 255) : fdsS s 0 k a er = (s.put k (putS (s.at k)).1, (putS (s.at k)).2, 0) := cntS_first h hk ha
theorem fdsS_second {s : St} {k : Nat} {a er : Int} (h : s.all rowMay2 = true) (hk : k < 4) (ha : 0 ≤ a ∧ a ≤ 255) : fdsS s 1 k a er = (s.put k (takeS (s.at k) a).1, (takeS (s.at k) a).2, 0) := cntS_second h hk ha
theorem idx_out {a : Int} : ∀ {i : Int} {xs : List Int}, a ∉ xs → idxFrom i a xs = -1
 | _, [], _ => rfl
 | i, x :: r, h => by
   simp only [List.mem_cons, not_or] at h
   simp only [idxFrom, if_neg h.1]
   exact idx_out h.2
theorem take_out {xs : List Int} {a : Int} (h : a ∉ xs) : takeS xs a = (xs, 0) := by
 have : idxS xs a = -1 := idx_out h
 simp [takeS, this]
theorem put_rows : ∀ xs ∈ rowsAbove 4, rowMay2 (putS xs).1 = true := by decide
theorem take_rows : ∀ xs ∈ rowsAbove 4, ∀ a ∈ xs, rowMay2 (takeS xs a).1 = true := by decide
theorem put_may {xs : List Int} (h : rowMay2 xs = true) : rowMay2 (putS xs).1 = true := put_rows xs (rowMay2_mem h)
theorem take_may {xs : List Int} {a : Int} (h : rowMay2 xs = true) : rowMay2 (takeS xs a).1 = true := by
 by_cases ha : a ∈ xs
 ·exact take_rows xs (rowMay2_mem h) a ha
 ·rw [take_out ha]; exact h
theorem Fit.fds {s : St} (h : Fit s) (c r a er : Int) : Fit (fdsS s c r a er).1 := by
 cases hh : s.all rowMay2 && opMay c r a
 ·rw [fdsS_no hh]; exact fit_zero
 ·obtain ⟨hm, ho⟩ := Bool.and_eq_true_iff.mp hh
  rcases opMay_cases ho with ⟨k, hk, rfl, rfl, ha⟩ | ⟨k, hk, rfl, rfl, ha⟩ | ⟨k, hk, rfl, rfl, rfl⟩ | ⟨rfl, rfl, rfl⟩
  ·rw [fdsS_first hm hk ha]; exact h.put hk (rowMay2_len (put_may (St.all_at hm hk)))
  ·rw [fdsS_second hm hk ha]; exact h.put hk (rowMay2_len (take_may (St.all_at hm hk)))
  ·rw [fdsS_look hm hk]; exact h
  ·rw [fdsS_scan hm]; exact h
def rowMay3 (xs : List Int) : Bool := decide (xs.length ≤ 4) && xs.all argB
def enqS (xs : List Int) (a : Int) : List Int × Int := if 4 ≤ xs.length then (xs, 0) else (xs ++ [a], 1)
def deqS : List Int → List Int × Int
 | [] => ([], -1)
 | x :: r => (r, x)
theorem rowMay3_len {xs : List Int} (h : rowMay3 xs = true) : xs.length ≤ 4 := by
 simp [rowMay3] at h; exact h.1
theorem rowMay3_all {xs : List Int} (h : rowMay3 xs = true) : ∀ x ∈ xs, 0 ≤ x ∧ x ≤ 255 := by
 simp [rowMay3, argB] at h; exact h.2
theorem rowMay3_of {xs : List Int} (h : xs.length ≤ 4) (k : ∀ x ∈ xs, 0 ≤ x ∧ x ≤ 255) : rowMay3 xs = true := by
 simp [rowMay3, argB]; exact ⟨h, k⟩
set_option maxHeartbeats 400000 in
theorem queOdd (x : Int) (w : World) : Calls Tryz.prog 163 #[.int .i64 x] w fun e w' => e = .returned (.bool (!argB x)) ∧ w = w' := by
 by_cases h : x < 0
 ·go_enter Tryz.func163, Tryz.ntmps163
  go_wp2
  go_ret
  exact ⟨ret_bool (by simp [argB]; omega), rfl⟩
 ·go_enter Tryz.func163, Tryz.ntmps163
  go_wp2
  go_ret
  exact ⟨ret_bool (by rw [Bool.eq_iff_iff]; simp [argB]; omega), rfl⟩
set_option maxHeartbeats 400000 in
theorem slicesIndexFunc (f : Nat) (p : Int → Bool) (hc : ∀ (u : Value) (w : World), (callFunc f #[u]).run Tryz.prog w = .ok (.enter f #[u]) w) (hp : ∀ x w, Calls Tryz.prog f #[.int .i64 x] w fun e w' => e = .returned (.bool (p x)) ∧ w = w') (v : Value) (xs : List Int) (w : World) (hx : Has w v xs) (hl : xs.length ≤ 1000) :
   Calls Tryz.prog 167 #[v, .func (.func f) #[] #[]] w fun e w' => (∃ i : Int, e = .returned (.int .i64 i) ∧ decide (0 ≤ i) = xs.any p) ∧ w = w' := by
 obtain ⟨a, cap, rfl, hcap, _, hx⟩ := hx
 obtain ⟨n, hn⟩ : ∃ n, n = xs.length := ⟨_, rfl⟩
 rw [← hn] at hcap hx hl ⊢
 have HN : Hid (n = xs.length) := hn
 clear hn
 go_enter Tryz.func167, Tryz.ntmps167
 go_wp2
 go_loop [8] (fun i => ∃ k : Nat, k ≤ n ∧ i = .int .i64 k ∧ Hid (xs.any p = (xs.drop k).any p)) (fun i => n - (intOf i).toNat)
 case atStart => exact ⟨0, by omega, rfl, hid (by simp)⟩
 case round =>
   obtain ⟨k, hk, rfl, HR⟩ := hrel
   by_cases hlt : k < n
   ·obtain ⟨b, off, rfl, hcell⟩ := hx (by omega)
    have c0 := hcell k hlt
    have hd := HR.out
    rw [drop_at (by have := HN.out; omega)] at hd
    obtain ⟨x, hxk⟩ : ∃ x, x = xs.getD k 0 := ⟨_, rfl⟩
    rw [← hxk] at c0 hd
    simp only [List.any_cons] at hd
    have hm := hp x w
    have k0 : (0 : Int) ≤ (k : Int) := by omega
    have k1 : (k : Int) < (n : Int) := by omega
    cases hh : p x
    ·rw [hh] at hm hd
     have HD : Hid (xs.any p = (xs.drop (k + 1)).any p) := hid (by rw [hd]; rfl)
     clear hd hxk hcell hx HR
     go_wp2_with fail
     refine hm.mono ?_
     rintro e w1 ⟨rfl, rfl⟩
     go_wp2
     go_round
     case rel => exact ⟨k + 1, by omega, by go_num, HD⟩
     case measure => simp [intOf]; omega
    ·rw [hh] at hm hd
     have HD : Hid (xs.any p = true) := hid (by rw [hd]; rfl)
     clear hd hxk hcell hx HR
     go_wp2_with fail
     refine hm.mono ?_
     rintro e w1 ⟨rfl, rfl⟩
     go_wp2
     go_ret
     exact ⟨⟨k, rfl, by rw [HD.out]; simp⟩, rfl⟩
   ·obtain rfl : k = n := by omega
    have HD : Hid (xs.any p = false) := hid (by have := HR.out; rw [List.drop_eq_nil_of_le (by have := HN.out; omega)] at this; exact this)
    go_wp2
    go_ret
    exact ⟨⟨-1, rfl, by rw [HD.out]; decide⟩, rfl⟩
set_option maxHeartbeats 400000 in
theorem slicesContainsFunc (f : Nat) (p : Int → Bool) (hc : ∀ (u : Value) (w : World), (callFunc f #[u]).run Tryz.prog w = .ok (.enter f #[u]) w) (hp : ∀ x w, Calls Tryz.prog f #[.int .i64 x] w fun e w' => e = .returned (.bool (p x)) ∧ w = w') (v : Value) (xs : List Int) (w : World) (hx : Has w v xs) (hl : xs.length ≤ 1000) :
   Calls Tryz.prog 164 #[v, .func (.func f) #[] #[]] w fun e w' => e = .returned (.bool (xs.any p)) ∧ w = w' := by
 have hi := slicesIndexFunc f p hc hp v xs w hx hl
 go_enter Tryz.func164, Tryz.ntmps164
 go_wp2_with fail
 refine hi.mono ?_
 rintro e w1 ⟨⟨i, rfl, hd⟩, rfl⟩
 have HD : Hid (decide (0 ≤ i) = xs.any p) := hd
 clear hd
 go_wp2
 go_ret
 exact ⟨ret_bool HD.out, rfl⟩
theorem any_not (xs : List Int) : (!xs.any fun x => !argB x) = xs.all argB := by
 induction xs with
 | nil => rfl
 | cons x r ih => simp only [List.any_cons, List.all_cons, ← ih, Bool.not_or, Bool.not_not]
set_option maxHeartbeats 400000 in
theorem queMayRow (v : Value) (xs : List Int) (w : World) (hx : Has w v xs) :
   Calls Tryz.prog 155 #[v] w fun e w' => e = .returned (.bool (rowMay3 xs)) ∧ w = w' := by
 have hx0 := hx
 obtain ⟨a, cap, rfl, hcap, _, hx⟩ := hx
 by_cases h4 : xs.length ≤ 4
 ·have hcf := slicesContainsFunc 163 (fun x => !argB x) (fun _ _ => by kernel_rfl) queOdd _ xs w hx0 (by omega)
  obtain ⟨B, hB⟩ : ∃ B, B = xs.any fun x => !argB x := ⟨_, rfl⟩
  rw [← hB] at hcf
  have HB : Hid (rowMay3 xs = !B) := hid (by rw [hB, any_not]; simp [rowMay3, h4])
  have h5 : (xs.length : Int) ≤ 4 := by omega
  clear hB hx hx0
  go_enter Tryz.func155, Tryz.ntmps155
  go_wp2_with fail
  refine hcf.mono ?_
  rintro e w1 ⟨rfl, rfl⟩
  go_wp2
  go_ret
  exact ⟨ret_bool HB.out.symm, rfl⟩
 ·have h5 : ¬ (xs.length : Int) ≤ 4 := by omega
  have HB : Hid (rowMay3 xs = false) := hid (by simp [rowMay3]; omega)
  clear hx hx0
  go_enter Tryz.func155, Tryz.ntmps155
  go_wp2
  go_ret
  exact ⟨ret_bool HB.out.symm, rfl⟩
set_option maxHeartbeats 400000 in
theorem quePut (v : Value) (base : Nat) (xs : List Int) (a : Int) (w : World) (hown : Own w base v xs) (hbase : base ≤ w.heap.size) (hl : xs.length ≤ 4) :
   Calls Tryz.prog 156 #[v, .int .i64 a] w fun e w' => ∃ v', e = .returned (.tuple #[v', .int .i64 (enqS xs a).2]) ∧ Own w' base v' (enqS xs a).1 ∧ w.grownBy w' v.ownBlock := by
 obtain ⟨ad, cap, rfl, hc, _, hx⟩ := hown.has
 by_cases h4 : 4 ≤ xs.length
 ·have HP : Hid (enqS xs a = (xs, 0)) := hid (by simp [enqS, h4])
  have h5 : (4 : Int) ≤ (xs.length : Int) := by omega
  clear hx
  go_enter Tryz.func156, Tryz.ntmps156
  go_wp2
  go_ret2
  rw [HP.out]
  exact ⟨_, rfl, hown, World.grownBy.refl _ _⟩
 ·have HP : Hid (enqS xs a = (xs ++ [a], 1)) := hid (by simp [enqS, h4])
  have h5 : ¬ (4 : Int) ≤ (xs.length : Int) := by omega
  have hA := Le.alloc w (.cells #[.int .i64 a] 3)
  have hone : Own (w.alloc (.cells #[.int .i64 a] 3)) w.heap.size (slV (some ⟨w.heap.size, 0, none⟩, 1, 1)) [a] := Own.lit w _ (Nat.le_refl _) [a] (by simp)
  clear hx
  go_enter Tryz.func156, Tryz.ntmps156
  go_wp2_with (at_builtin; refine wp_append_ints rfl _ _ rfl base _ _ xs [a] rfl rfl (hown.le hA) hone.has (by simp; omega) (Nat.le_trans hbase hA.size) ?_; intro v' w2 hown2 hgrow; obtain ⟨q2, rfl⟩ := hown2.has.sl)
  go_ret2
  rw [HP.out]
  exact ⟨_, rfl, hown2, grownBy_trans (World.grownBy_alloc _ _ _) hgrow⟩
theorem quePutT : TurnsRow 156 enqS :=
 ⟨fun _ _ _ => by kernel_rfl, fun v base xs a w ho hb hl _ => quePut v base xs a w ho hb hl⟩
set_option maxHeartbeats 1000000 in
theorem queTake (v : Value) (base : Nat) (xs : List Int) (a : Int) (w : World) (hown : Own w base v xs) (hbase : base ≤ w.heap.size) (hl : xs.length ≤ 4) :
   Calls Tryz.prog 157 #[v, .int .i64 a] w fun e w' => ∃ v', e = .returned (.tuple #[v', .int .i64 (deqS xs).2]) ∧ Own w' base v' (deqS xs).1 ∧ w.grownBy w' v.ownBlock := by
 obtain ⟨ad, cap, rfl, hc, _, hx⟩ := hown.has
 match xs, hl, hc, hx, hown with
 | [], hl, hc, hx, hown =>
   go_enter Tryz.func157, Tryz.ntmps157
   go_wp2
   go_ret2
   exact ⟨_, rfl, Own.nil _ _, World.grownBy.refl _ _⟩
 | x :: zs, hl, hc, hx, hown =>
   obtain ⟨b, off, rfl, hcell⟩ := hx (by simp)
   have c0 : w.cell? ⟨b, off, none⟩ = some (.int .i64 x) := hcell 0 (by simp)
   obtain ⟨n, hn⟩ : ∃ n, n = zs.length := ⟨_, rfl⟩
   obtain ⟨A, hAe, hB⟩ : ∃ A, (if cap = 1 then some ⟨b, off, none⟩ else some ⟨b, off + 1, none⟩ : Option Addr) = A ∧ Has w (.slice A n (cap - 1)) zs := by
     refine ⟨_, rfl, _, _, by rw [← hn], by simp at hc; omega, (fun h => by split at h <;> cases h), fun hp => ?_⟩
     simp only [List.length_cons] at hc
     rw [if_neg (by omega)]
     refine ⟨b, off + 1, rfl, fun j hj => ?_⟩
     have := hcell (j + 1) (by simp; omega)
     rw [Nat.add_assoc, Nat.add_comm 1 j, this]
     rfl
   have HN : Hid (n = zs.length) := hn
   simp only [List.length_cons] at hc hl ⊢
   rw [← hn] at hc hl ⊢
   have n0 : ¬ (((n + 1 : Nat) : Int)) = 0 := by omega
   have n1 : (1 : Int) ≤ (n : Int) + 1 := by omega
   clear hx hcell hn
   go_enter Tryz.func157, Tryz.ntmps157
   go_wp2_with fail
   go_region_law ((refine step_append_ints rfl (.const (.slice none 0 0)) (.tmp 10) rfl w.heap.size (.slice none 0 0) (.slice A n (cap - 1)) [] zs (by simp [Act.eval]) (by simp [Act.eval, Act.put]) (Own.nil _ _) hB (by simp; have := HN.out; omega) (Nat.le_refl _) ?_; intro v1 w1 o1 g1; have l1 : Le w w1 := Below.grown (Le.drew w) g1 (Nat.le_refl _) (fun g e => (by cases e)); have c1 : w1.cell? ⟨b, off, none⟩ = some (.int .i64 x) := (by rw [l1.cell (p := ⟨b, off, none⟩) (World.block_lt_of_cell? w _ c0)]; exact c0)))
   all_goals
     go_wp2
     go_ret2
     rw [List.nil_append] at o1
     exact ⟨_, rfl, o1.base hbase, l1.grownBy _⟩
theorem queTakeT : TurnsRow 157 (fun xs _ => deqS xs) :=
 ⟨fun _ _ _ => by kernel_rfl, fun v base xs a w ho hb hl _ => queTake v base xs a w ho hb hl⟩
theorem queMay (v : Value) (s : St) (w : World) (hx : HasS w v s) :
   Calls Tryz.prog 147 #[v, .func (.func 155) #[] #[]] w fun e w' => e = .returned (.bool (s.all rowMay3)) ∧ Le w w' :=
 statesMay 155 rowMay3 (fun _ _ => by kernel_rfl) queMayRow v s w hx
def queS (s : St) (c r a e : Int) : St × Int × Int := cntS rowMay3 enqS (fun xs _ => deqS xs) s c r a e
set_option maxHeartbeats 2000000 in
theorem queApplyNo (v : Value) (s : St) (c r a : Int) (w : World) (hx : HasS w v s) (h : (s.all rowMay3 && opMay c r a) = false) :
   Calls Tryz.prog 144 #[v, opV c r a] w fun e w' => e = .returned (.tuple #[stZ, .int .i64 0, .int .i64 500]) ∧ Le w w' := by
 have hx0 := hx
 obtain ⟨vs, rfl, hr⟩ := hx
 have hl := ((Le.alloc w (.cells (cells4 vs) 44)).trans (Le.alloc _ (.cells #[.int .i64 c, .int .i64 r, .int .i64 a] 48))).trans (Le.alloc _ (.cells (cells4 fun _ => slZ) 44))
 have hb1 := ((Box.new w (cells4 vs) 44).le (Le.alloc _ (.cells #[.int .i64 c, .int .i64 r, .int .i64 a] 48))).le (Le.alloc _ (.cells (cells4 fun _ => slZ) 44))
 have hb2 := (Box.new (w.alloc (.cells (cells4 vs) 44)) #[.int .i64 c, .int .i64 r, .int .i64 a] 48).le (Le.alloc _ (.cells (cells4 fun _ => slZ) 44))
 have hb3 := Box.new ((w.alloc (.cells (cells4 vs) 44)).alloc (.cells #[.int .i64 c, .int .i64 r, .int .i64 a] 48)) (cells4 fun _ => slZ) 44
 simp only [World.size_alloc] at hb1 hb2 hb3
 have hmay := queMay (stV vs) s _ (hx0.le hl)
 cases hm : s.all rowMay3
 ·rw [hm] at hmay
  go_enter Tryz.func144, Tryz.ntmps144
  go_wp2_with fail
  refine hmay.mono ?_
  rintro e w1 ⟨rfl, l1⟩
  obtain ⟨z0, z1, z2, z3, f0, f1, f2, f3⟩ := (hb3.le l1).st
  go_wp2_with fail
  refine bodyPost_ret (v := .tuple #[stZ, .int .i64 0, .int .i64 500]) (by simp [results, Tryz.results144, go_sem, z0, z1, z2, z3]) rfl ⟨rfl, ?_⟩
  exact (hl.trans l1).set4 (by omega) _ _ _ _
 ·have hop : opMay c r a = false := by simpa [hm] using h
  rw [hm] at hmay
  go_enter Tryz.func144, Tryz.ntmps144
  go_wp2_with fail
  refine hmay.mono ?_
  rintro e w1 ⟨rfl, l1⟩
  obtain ⟨y0, y1, y2, _, _, _⟩ := (hb2.le l1).op
  go_wp2_with fail
  refine (operMay _ _ _ _).mono ?_
  rw [hop]
  rintro e w2 ⟨rfl, l2⟩
  obtain ⟨z0, z1, z2, z3, f0, f1, f2, f3⟩ := ((hb3.le l1).le l2).st
  go_wp2_with fail
  refine bodyPost_ret (v := .tuple #[stZ, .int .i64 0, .int .i64 500]) (by simp [results, Tryz.results144, go_sem, z0, z1, z2, z3]) rfl ⟨rfl, ?_⟩
  exact ((hl.trans l1).trans l2).set4 (by omega) _ _ _ _
set_option maxHeartbeats 2000000 in
theorem queApplyYes (v : Value) (s : St) (c r a : Int) (w : World) (hx : HasS w v s) (hf : Fit s) (hm : s.all rowMay3 = true) (hop : opMay c r a = true) :
   Calls Tryz.prog 144 #[v, opV c r a] w fun e w' => ∃ v', e = .returned (.tuple #[v', .int .i64 (cntY enqS (fun xs _ => deqS xs) s c r a).2, .int .i64 0]) ∧ OwnS w' w.heap.size v' (cntY enqS (fun xs _ => deqS xs) s c r a).1 ∧ Le w w' := by
 have hx0 := hx
 obtain ⟨vs, rfl, hr⟩ := hx
 have hl := ((Le.alloc w (.cells (cells4 vs) 44)).trans (Le.alloc _ (.cells #[.int .i64 c, .int .i64 r, .int .i64 a] 48))).trans (Le.alloc _ (.cells (cells4 fun _ => slZ) 44))
 have hb1 := ((Box.new w (cells4 vs) 44).le (Le.alloc _ (.cells #[.int .i64 c, .int .i64 r, .int .i64 a] 48))).le (Le.alloc _ (.cells (cells4 fun _ => slZ) 44))
 have hb2 := (Box.new (w.alloc (.cells (cells4 vs) 44)) #[.int .i64 c, .int .i64 r, .int .i64 a] 48).le (Le.alloc _ (.cells (cells4 fun _ => slZ) 44))
 have hb3 := Box.new ((w.alloc (.cells (cells4 vs) 44)).alloc (.cells #[.int .i64 c, .int .i64 r, .int .i64 a] 48)) (cells4 fun _ => slZ) 44
 simp only [World.size_alloc] at hb1 hb2 hb3
 have hmay := queMay (stV vs) s _ (hx0.le hl)
 rw [hm] at hmay
 go_enter Tryz.func144, Tryz.ntmps144
 go_wp2_with fail
 refine hmay.mono ?_
 rintro e w1 ⟨rfl, l1⟩
 obtain ⟨y0, y1, y2, _, _, _⟩ := (hb2.le l1).op
 clear hmay
 go_wp2_with fail
 refine (operMay _ _ _ _).mono ?_
 rw [hop]
 rintro e w2 ⟨rfl, l2⟩
 replace l1 := l1.trans l2
 clear l2 y0 y1 y2
 obtain ⟨x0, x1, x2, x3, _, _, _, _⟩ := (hb1.le l1).st
 obtain ⟨y0, y1, y2, _, _, _⟩ := (hb2.le l1).op
 go_wp2_with fail
 refine (countedAll 156 157 enqS (fun xs _ => deqS xs) quePutT queTakeT (stV vs) s c r a _ (hx0.le (hl.trans l1)) hf (fun j hj => rowMay3_len (St.all_at hm hj)) hop).mono ?_
 obtain ⟨Y, hY⟩ : ∃ Y, Y = cntY enqS (fun xs _ => deqS xs) s c r a := ⟨_, rfl⟩
 rw [← hY]
 have HY : Hid (Y = cntY enqS (fun xs _ => deqS xs) s c r a) := hY
 clear hY
 rintro e w3 ⟨_, rfl, ⟨us, rfl, hown⟩, l3⟩
 replace hown := fun i hi => (hown i hi).base (base' := w.heap.size) (hl.trans l1).size
 replace l1 := l1.trans l3
 clear l3 y0 y1 y2 x0 x1 x2 x3
 have n0 : w.heap.size + 1 + 1 < w3.heap.size := (hb3.le l1).lt
 have n1 : ¬ w.heap.size + 1 + 1 = w3.heap.size := by omega
 have hb4 := Box.new w3 (cells4 us) 44
 replace l1 := l1.trans (Le.alloc w3 (.cells (cells4 us) 44))
 replace hown := fun i hi => (hown i hi).le (Le.alloc w3 (.cells (cells4 us) 44))
 go_upto_region 4 with fail
 generalize hW : w3.alloc (.cells (cells4 us) 44) = W at hb4 l1 hown ⊢
 clear hW
 obtain ⟨y0, y1, y2, y3, _, _, _, _⟩ := hb4.st
 obtain ⟨z0, z1, z2, z3, f0, f1, f2, f3⟩ := (hb3.le l1).st
 go_wp2_with fail
 refine bodyPost_ret (v := .tuple #[stV us, .int .i64 Y.2, .int .i64 0]) (by simp [results, Tryz.results144, go_sem, z0, z1, z2, z3]) rfl ⟨stV us, by rw [HY.out], ⟨us, rfl, fun i hi => ?_⟩, ?_⟩
 ·rw [← HY.out]; exact (hown i hi).set4 (hb3.le l1) (by decide) _ _ _ _
 ·exact (hl.trans l1).set4 (by omega) _ _ _ _
theorem queS_no {s : St} {c r a er : Int} (h : (s.all rowMay3 && opMay c r a) = false) : queS s c r a er = (St.zero, 0, er) := cntS_no h
theorem queS_scan {s : St} {er : Int} (h : s.all rowMay3 = true) : queS s 3 0 0 er = (s, manyTo s 4, 0) := cntS_scan h
theorem queS_look {s : St} {k : Nat} {er : Int} (h : s.all rowMay3 = true) (hk : k < 4) : queS s 2 k 0 er = (s, ((s.at k).length : Int), 0) := cntS_look h hk
theorem queApply (v : Value) (s : St) (c r a : Int) (w : World) (hx : HasS w v s) (hf : Fit s) :
   Calls Tryz.prog 144 #[v, opV c r a] w fun e w' => ∃ v', e = .returned (.tuple #[v', .int .i64 (queS s c r a 500).2.1, .int .i64 (queS s c r a 500).2.2]) ∧ OwnS w' w.heap.size v' (queS s c r a 500).1 ∧ Le w w' := by
 cases h : s.all rowMay3 && opMay c r a
 ·rw [queS_no h]
  exact (queApplyNo v s c r a w hx h).mono fun e w' ⟨he, hl⟩ => ⟨stZ, he, OwnS.zero _ _, hl⟩
 ·obtain ⟨hm, ho⟩ := Bool.and_eq_true_iff.mp h
  rw [show queS s c r a 500 = _ from cntS_yes h]
  exact queApplyYes v s c r a w hx hf hm ho
theorem queS_first {s : St} {k : Nat} {a er : Int} (h : s.all rowMay3 = true) (hk : k < 4) (ha : 0 ≤ a ∧ a ≤ 255) : queS s 0 k a er = (s.put k (enqS (s.at k) a).1, (enqS (s.at k) a).2, 0) := cntS_first h hk ha
theorem queS_second {s : St} {k : Nat} {a er : Int} (h : s.all rowMay3 = true) (hk : k < 4) (ha : 0 ≤ a ∧ a ≤ 255) : queS s 1 k a er = (s.put k (deqS (s.at k)).1, (deqS (s.at k)).2, 0) := cntS_second h hk ha
theorem enq_may {xs : List Int} {a : Int} (h : rowMay3 xs = true) (ha : 0 ≤ a ∧ a ≤ 255) : rowMay3 (enqS xs a).1 = true := by
 unfold enqS
 split
 ·exact h
 ·refine rowMay3_of (by simp; omega) fun x hx => ?_
  rcases List.mem_append.mp hx with hx | hx
  ·exact rowMay3_all h x hx
  ·simp at hx; subst hx; exact ha
theorem deq_may {xs : List Int} (h : rowMay3 xs = true) : rowMay3 (deqS xs).1 = true := by
 match xs, h with
 | [], h => exact h
 | x :: r, h =>
   have h1 := rowMay3_len h
   simp only [List.length_cons] at h1
   exact rowMay3_of (show r.length ≤ 4 by omega) fun y hy => rowMay3_all h y (List.mem_cons_of_mem _ hy)
theorem Fit.que {s : St} (h : Fit s) (c r a er : Int) : Fit (queS s c r a er).1 := by
 cases hh : s.all rowMay3 && opMay c r a
 ·rw [queS_no hh]; exact fit_zero
 ·obtain ⟨hm, ho⟩ := Bool.and_eq_true_iff.mp hh
  rcases opMay_cases ho with ⟨k, hk, rfl, rfl, ha⟩ | ⟨k, hk, rfl, rfl, ha⟩ | ⟨k, hk, rfl, rfl, rfl⟩ | ⟨rfl, rfl, rfl⟩
  ·rw [queS_first hm hk ha]; exact h.put hk (rowMay3_len (enq_may (St.all_at hm hk) ha))
  ·rw [queS_second hm hk ha]; exact h.put hk (rowMay3_len (deq_may (St.all_at hm hk)))
  ·rw [queS_look hm hk]; exact h
  ·rw [queS_scan hm]; exact h
def rowMayO (o : Int) (xs : List Int) : Bool := if o = 0 then rowMay1 xs else if o = 1 then rowMay2 xs else rowMay3 xs
def objMay (o : Int) (s : St) : Bool := (decide (0 ≤ o) && decide (o ≤ 2)) && s.all (rowMayO o)
def objS (o : Int) (s : St) (c r a e : Int) : St × Int × Int :=
 if o = 0 then stoS s c r a e else if o = 1 then fdsS s c r a e else if o = 2 then queS s c r a e else (St.zero, 0, e)
theorem objMay0 (s : St) : objMay 0 s = s.all rowMay1 := rfl
theorem objMay1 (s : St) : objMay 1 s = s.all rowMay2 := rfl
theorem objMay2 (s : St) : objMay 2 s = s.all rowMay3 := rfl
theorem objMay_out {o : Int} (h : o < 0 ∨ 2 < o) (s : St) : objMay o s = false := by
 have : (decide (0 ≤ o) && decide (o ≤ 2)) = false := by simp; omega
 simp [objMay, this]
theorem objS_out {o : Int} (h : o < 0 ∨ 2 < o) (s : St) (c r a e : Int) : objS o s c r a e = (St.zero, 0, e) := by
 unfold objS
 rw [if_neg (by omega), if_neg (by omega), if_neg (by omega)]
theorem obj_cases {o : Int} : o = 0 ∨ o = 1 ∨ o = 2 ∨ (o < 0 ∨ 2 < o) := by omega
theorem stoS_err {s : St} {c r a er : Int} (h : (s.all rowMay1 && opMay c r a) = true) : stoS s c r a er = ((stoS s c r a 0).1, (stoS s c r a 0).2.1, 0) := by
 simp only [stoS, if_pos h]
 split <;> rfl
theorem fdsS_err {s : St} {c r a er : Int} (h : (s.all rowMay2 && opMay c r a) = true) : fdsS s c r a er = ((fdsS s c r a 0).1, (fdsS s c r a 0).2.1, 0) := by
 rw [show fdsS s c r a 0 = _ from cntS_yes h]; exact cntS_yes h
theorem queS_err {s : St} {c r a er : Int} (h : (s.all rowMay3 && opMay c r a) = true) : queS s c r a er = ((queS s c r a 0).1, (queS s c r a 0).2.1, 0) := by
 rw [show queS s c r a 0 = _ from cntS_yes h]; exact cntS_yes h
theorem objS_no {o : Int} {s : St} {c r a er : Int} (h : (objMay o s && opMay c r a) = false) : objS o s c r a er = (St.zero, 0, er) := by
 rcases obj_cases (o := o) with rfl | rfl | rfl | ho
 ·exact stoS_no h
 ·exact fdsS_no h
 ·exact queS_no h
 ·exact objS_out ho _ _ _ _ _
theorem objS_yes {o : Int} {s : St} {c r a : Int} (er : Int) (h : (objMay o s && opMay c r a) = true) : objS o s c r a er = ((objS o s c r a 0).1, (objS o s c r a 0).2.1, 0) := by
 rcases obj_cases (o := o) with rfl | rfl | rfl | ho
 ·exact stoS_err h
 ·exact fdsS_err h
 ·exact queS_err h
 ·rw [objMay_out ho] at h; simp at h
theorem Fit.obj {s : St} (h : Fit s) (o c r a er : Int) : Fit (objS o s c r a er).1 := by
 rcases obj_cases (o := o) with rfl | rfl | rfl | ho
 ·exact h.sto c r a er
 ·exact h.fds c r a er
 ·exact h.que c r a er
 ·rw [objS_out ho]; exact fit_zero
def Cfg.ok (c : Cfg) : Bool := cfgB c.o c.r c.l c.t c.s
def ringB (c : Cfg) (R : Rg) : Bool := mayR R && (decide ((R.ss.length : Int) = c.s) && (inB 0 R.f c.t && R.ss.all (fun s => inB 0 s.t (c.t - 1))))
def cursOK (Rs : List Rg) (cs : List Int) : Bool := (List.range cs.length).all fun i => inB (Rs.getD i Rg.zero).h (cs.getD i 0) (Rs.getD i Rg.zero).t
def repB (c : Cfg) (Rs : List Rg) (P : Rp) : Bool := objMay c.o P.s && (decide ((P.cs.length : Int) = c.l) && (cursOK Rs P.cs && (decide ((P.ls.length : Int) = c.l) && P.ls.all (fun x => inB 0 x c.t))))
def thB (c : Cfg) (T : Th) : Bool := inB 0 T.st 19 && (opMay T.c T.r T.a && (inB 0 T.lg (c.l - 1) && (inB 0 T.sn 1048576 && ((decide ((T.b.length : Int) ≤ c.t) && T.b.all (fun x => inB 0 x (c.t - 1))) && (inB 0 T.pl T.b.length && (decide ((T.tl.length : Int) ≤ c.l) && T.tl.all (fun x => inB 0 x 1048576)))))))
def evB (c : Cfg) (E : Ev) : Bool := inB 0 E.t (c.t - 1) && opMay E.c E.r E.a
def mayM (M : Mc) : Bool := M.c.ok && ((decide ((M.rs.length : Int) = M.c.l) && M.rs.all (ringB M.c)) && ((decide ((M.ps.length : Int) = M.c.r) && M.ps.all (repB M.c M.rs)) && ((decide ((M.ts.length : Int) = M.c.t) && M.ts.all (thB M.c)) && (decide ((M.es.length : Int) ≤ 64) && M.es.all (evB M.c)))))
theorem Cfg.ok_cases {c : Cfg} (h : c.ok = true) : (0 ≤ c.o ∧ c.o ≤ 2) ∧ (1 ≤ c.r ∧ c.r ≤ 2) ∧ (1 ≤ c.l ∧ c.l ≤ 2) ∧ (1 ≤ c.t ∧ c.t ≤ 4) ∧ slotsB c.s = true ∧ 2 * c.t ≤ c.s := cfgB_cases h
theorem cursOK_take {Rs : List Rg} {cs : List Int} {k : Nat} (h : ∀ i, i < k → inB (Rs.getD i Rg.zero).h (cs.getD i 0) (Rs.getD i Rg.zero).t = true) (hk : k = cs.length) : cursOK Rs cs = true := by
 subst hk
 simp only [cursOK, List.all_eq_true, List.mem_range]
 exact h
theorem cursOK_no {Rs : List Rg} {cs : List Int} {k : Nat} (hk : k < cs.length) (h : inB (Rs.getD k Rg.zero).h (cs.getD k 0) (Rs.getD k Rg.zero).t = false) : cursOK Rs cs = false := by
 rw [← Bool.not_eq_true]
 simp only [cursOK, List.all_eq_true, List.mem_range]
 intro hh
 have := hh k hk
 rw [h] at this
 cases this
theorem slotB_up {s : Slt} : slotB s = (opUp s.c s.r s.a && threadB s.t && (decide (0 ≤ s.b) && decide (s.b ≤ 1))) := by
 rw [Bool.eq_iff_iff]
 simp [slotB, threadB]
 omega
theorem mayR_doc (R : Rg) : mayR R = (slotsB R.ss.length && holdB R.h && (decide (R.h ≤ R.t) && decide (R.t ≤ R.h + R.ss.length)) && holdB R.t && (decide (0 ≤ R.f) && decide (R.f ≤ 4)) && R.ss.all slotB) := by
 unfold mayR
 generalize R.ss.all slotB = z
 generalize slotsB R.ss.length = y
 cases z <;> cases y <;> simp only [Bool.and_false, Bool.false_and, Bool.true_and, Bool.and_true]
 rw [Bool.eq_iff_iff]
 simp [placesB, holdB]
 omega
set_option maxHeartbeats 1000000 in
theorem refRingMay (v : Value) (R : Rg) (w : World) (hx : HasR w v R) (hf : FitR R) : Calls Tryz.prog 41 #[v] w fun e w' => e = .returned (.bool (mayR R)) ∧ Le w w' := by
 rw [mayR_doc]
 obtain ⟨h, t, f, ss⟩ := R
 obtain ⟨q, rfl, hq⟩ := hx
 simp only [FitR] at hf hq ⊢
 have hb := Box.new w (cellsR h t f q) 55
 have hl := Le.alloc w (.cells (cellsR h t f q) 55)
 have hn := hq.len
 have hq0 : q.2.1 ≤ 4611686018427387904 := by omega
 rw [← hn]
 have HN : Hid (q.2.1 = ss.length) := hn
 clear hn
 have m1 := fun w => refSlotsMay q.2.1 w
 have m2 := fun w => refCellMay h w
 have m3 := fun w => refUpTo t h (h + q.2.1) w
 have m4 := fun w => refCellMay t w
 have m5 := fun w => refUpTo f 0 4 w
 cases h1 : slotsB q.2.1
 ·rw [h1] at m1
  go_enter Tryz.func41, Tryz.ntmps41
  go_wp2_with (go_at_call 78; refine (m1 _).mono ?_; rintro e _ ⟨rfl, rfl⟩)
  go_ret
  exact ⟨ret_bool (by simp), hl⟩
 rw [h1] at m1
 have hlen := slotsB_cases h1
 cases h2 : holdB h
 ·rw [h2] at m2
  go_enter Tryz.func41, Tryz.ntmps41
  go_wp2_with fail
  refine (m1 _).mono ?_
  rintro e _ ⟨rfl, rfl⟩
  go_wp2_with fail
  refine (m2 _).mono ?_
  rintro e _ ⟨rfl, rfl⟩
  go_wp2_with fail
  go_ret
  exact ⟨ret_bool (by simp), hl⟩
 rw [h2] at m2
 obtain ⟨p0, p1⟩ := holdB_cases h2
 have hsum : IntKind.i64.wrap (h + (q.2.1 : Int)) = h + (q.2.1 : Int) := by rw [IntKind.wrap_i64]; omega
 cases h3 : (decide (h ≤ t) && decide (t ≤ h + (q.2.1 : Int)))
 ·rw [h3] at m3
  clear hlen
  go_enter Tryz.func41, Tryz.ntmps41
  go_wp2_with fail
  refine (m1 _).mono ?_
  rintro e _ ⟨rfl, rfl⟩
  go_wp2_with fail
  refine (m2 _).mono ?_
  rintro e _ ⟨rfl, rfl⟩
  go_wp2_with fail
  refine (m3 _).mono ?_
  rintro e _ ⟨rfl, rfl⟩
  go_wp2_with fail
  go_ret
  exact ⟨ret_bool (by simp), hl⟩
 rw [h3] at m3
 cases h4 : holdB t
 ·rw [h4] at m4
  clear hlen
  go_enter Tryz.func41, Tryz.ntmps41
  go_wp2_with fail
  refine (m1 _).mono ?_
  rintro e _ ⟨rfl, rfl⟩
  go_wp2_with fail
  refine (m2 _).mono ?_
  rintro e _ ⟨rfl, rfl⟩
  go_wp2_with fail
  refine (m3 _).mono ?_
  rintro e _ ⟨rfl, rfl⟩
  go_wp2_with fail
  refine (m4 _).mono ?_
  rintro e _ ⟨rfl, rfl⟩
  go_wp2_with fail
  go_ret
  exact ⟨ret_bool (by simp), hl⟩
 rw [h4] at m4
 cases h5 : (decide (0 ≤ f) && decide (f ≤ 4))
 ·rw [h5] at m5
  clear hlen
  go_enter Tryz.func41, Tryz.ntmps41
  go_wp2_with fail
  refine (m1 _).mono ?_
  rintro e _ ⟨rfl, rfl⟩
  go_wp2_with fail
  refine (m2 _).mono ?_
  rintro e _ ⟨rfl, rfl⟩
  go_wp2_with fail
  refine (m3 _).mono ?_
  rintro e _ ⟨rfl, rfl⟩
  go_wp2_with fail
  refine (m4 _).mono ?_
  rintro e _ ⟨rfl, rfl⟩
  go_wp2_with fail
  refine (m5 _).mono ?_
  rintro e _ ⟨rfl, rfl⟩
  go_wp2_with fail
  go_ret
  exact ⟨ret_bool (by simp), hl⟩
 rw [h5] at m5
 simp only [Bool.true_and]
 obtain ⟨a, cap, hqv, hcap, _, hxx⟩ := hq
 obtain ⟨b, off, rfl, hcell⟩ := hxx (by have := HN.out; omega)
 obtain ⟨qa, L, qc⟩ := q
 simp only [slV, Value.slice.injEq] at hqv
 obtain ⟨rfl, hn, rfl⟩ := hqv
 rw [← hn] at hcell
 have HL : Hid (L = ss.length) := hn
 have hL : L ≤ 16 := by simp only at hlen; omega
 clear hn HN hlen h1 h2 h3 h4 h5 hxx hcap hq0 hf
 go_enter Tryz.func41, Tryz.ntmps41
 go_wp2_with fail
 refine (m1 _).mono ?_
 rintro e _ ⟨rfl, rfl⟩
 go_wp2_with fail
 refine (m2 _).mono ?_
 rintro e _ ⟨rfl, rfl⟩
 go_wp2_with fail
 refine (m3 _).mono ?_
 rintro e _ ⟨rfl, rfl⟩
 go_wp2_with fail
 refine (m4 _).mono ?_
 rintro e _ ⟨rfl, rfl⟩
 go_wp2_with fail
 refine (m5 _).mono ?_
 rintro e _ ⟨rfl, rfl⟩
 go_wp2_with fail
 clear m1 m2 m3 m4 m5
 go_loopw [4] (fun i wr => ∃ k : Nat, k ≤ L ∧ i = .int .i64 k ∧ Hid ((ss.take k).all slotB = true) ∧ Le (w.alloc (.cells (cellsR h t f (some ⟨b, off, none⟩, L, qc)) 55)) wr) (fun i _ => L - (intOf i).toNat)
 case atStart => exact ⟨0, by omega, rfl, rfl, Le.refl _⟩
 case round =>
   obtain ⟨k, hk, rfl, HA, hle⟩ := hrel
   by_cases hlt : k < L
   ·obtain ⟨s, hs⟩ : ∃ s, s = ss.getD k Slt.zero := ⟨_, rfl⟩
    have HS : Hid (s = ss.getD k Slt.zero) := hs
    obtain ⟨x0, x1, x2, x3, x4⟩ := ((hcell k hlt).le hl).le hle
    rw [← hs] at x0 x1 x2 x3 x4
    obtain ⟨b0, b1, b2, b3, _, _, _, _⟩ := (hb.le hle).ring
    replace b3 : wr.cell? ⟨w.heap.size, 3, none⟩ = some (.slice (some ⟨b, off, none⟩) L qc) := b3
    clear hs hcell
    have hlt' : (k : Int) < (L : Int) := by omega
    have hbs := Box.new wr #[.int .i64 s.c, .int .i64 s.r, .int .i64 s.a, .int .i64 s.t, .int .i64 s.b] 50
    have hls := Le.alloc wr (.cells #[.int .i64 s.c, .int .i64 s.r, .int .i64 s.a, .int .i64 s.t, .int .i64 s.b] 50)
    have r1 := fun w => refUpdates s.c s.r s.a w
    have r2 := fun w => refThreadMay s.t w
    have r3 := fun w => refUpTo s.b 0 1 w
    have HB : Hid (slotB s = (opUp s.c s.r s.a && threadB s.t && (decide (0 ≤ s.b) && decide (s.b ≤ 1)))) := slotB_up
    cases g1 : opUp s.c s.r s.a
    ·rw [g1] at r1
     go_wp2_with fail
     refine (r1 _).mono ?_
     rintro e w1 ⟨rfl, l1⟩
     go_wp2_with fail
     go_ret
     exact ⟨ret_bool (all_no (k := k) (by have := HL.out; omega) (by rw [← HS.out, HB.out, g1]; rfl)).symm, ((hl.trans hle).trans hls).trans l1⟩
    rw [g1] at r1
    cases g2 : threadB s.t
    ·rw [g2] at r2
     go_wp2_with fail
     refine (r1 _).mono ?_
     rintro e w1 ⟨rfl, l1⟩
     obtain ⟨y0, y1, y2, y3, y4⟩ := (hbs.le l1).slot
     go_wp2_with (go_at_call 82; refine (r2 _).mono ?_; rintro e _ ⟨rfl, rfl⟩)
     go_ret
     exact ⟨ret_bool (all_no (k := k) (by have := HL.out; omega) (by rw [← HS.out, HB.out, g1, g2]; rfl)).symm, ((hl.trans hle).trans hls).trans l1⟩
    rw [g2] at r2
    cases g3 : (decide (0 ≤ s.b) && decide (s.b ≤ 1))
    ·rw [g3] at r3
     go_wp2_with fail
     refine (r1 _).mono ?_
     rintro e w1 ⟨rfl, l1⟩
     obtain ⟨y0, y1, y2, y3, y4⟩ := (hbs.le l1).slot
     go_wp2_with fail
     refine (r2 _).mono ?_
     rintro e _ ⟨rfl, rfl⟩
     go_wp2_with fail
     refine (r3 _).mono ?_
     rintro e _ ⟨rfl, rfl⟩
     go_wp2_with fail
     go_ret
     exact ⟨ret_bool (all_no (k := k) (by have := HL.out; omega) (by rw [← HS.out, HB.out, g1, g2, g3]; rfl)).symm, ((hl.trans hle).trans hls).trans l1⟩
    ·rw [g3] at r3
     go_wp2_with fail
     refine (r1 _).mono ?_
     rintro e w1 ⟨rfl, l1⟩
     obtain ⟨y0, y1, y2, y3, y4⟩ := (hbs.le l1).slot
     go_wp2_with fail
     refine (r2 _).mono ?_
     rintro e _ ⟨rfl, rfl⟩
     go_wp2_with fail
     refine (r3 _).mono ?_
     rintro e _ ⟨rfl, rfl⟩
     go_wp2_with fail
     go_roundw
     case rel => exact ⟨k + 1, by omega, by go_num, allL_take (by have := HL.out; omega) HA.out (by rw [← HS.out, HB.out, g1, g2, g3]; rfl), (hle.trans hls).trans l1⟩
     case measure => simp [intOf]; omega
   ·obtain rfl : k = L := by omega
    go_wp2_with fail
    go_ret
    exact ⟨ret_bool (by have := HA.out; rw [HL.out, List.take_length] at this; exact this.symm), hl.trans hle⟩
theorem rmUpTo (x a b : Int) (w : World) : Calls Tryz.prog 54 #[.int .i64 x, .int .i64 a, .int .i64 b] w fun e w' => e = .returned (.bool (inB a x b)) ∧ w = w' := by
 by_cases h : a ≤ x
 all_goals
   go_enter Tryz.func54, Tryz.ntmps54
   go_wp2
   go_ret
   exact ⟨ret_bool (by simp [inB, h]; try omega), rfl⟩
set_option maxHeartbeats 2000000 in
theorem rmConfigMay (o r l t s : Int) (w : World) : Calls Tryz.prog 50 #[cfgV o r l t s] w fun e w' => e = .returned (.bool (cfgB o r l t s)) ∧ Le w w' := by
 have h1 := fun w' => rmUpTo o 0 2 w'
 have h2 := fun w' => rmUpTo r 1 2 w'
 have h3 := fun w' => rmUpTo l 1 2 w'
 have h4 := fun w' => rmUpTo t 1 4 w'
 have h5 := fun w' => refSlotsMay s w'
 cases k1 : inB 0 o 2
 ·rw [k1] at h1
  go_enter Tryz.func50, Tryz.ntmps50
  go_wp2_with fail
  refine (h1 _).mono ?_; rintro e _ ⟨rfl, rfl⟩
  go_wp2_with fail
  go_ret
  exact ⟨ret_bool (by simp [cfgB, k1]), Le.alloc _ _⟩
 rw [k1] at h1
 cases k2 : inB 1 r 2
 ·rw [k2] at h2
  go_enter Tryz.func50, Tryz.ntmps50
  go_wp2_with fail
  refine (h1 _).mono ?_; rintro e _ ⟨rfl, rfl⟩
  go_wp2_with fail
  refine (h2 _).mono ?_; rintro e _ ⟨rfl, rfl⟩
  go_wp2_with fail
  go_ret
  exact ⟨ret_bool (by simp [cfgB, k2]), Le.alloc _ _⟩
 rw [k2] at h2
 cases k3 : inB 1 l 2
 ·rw [k3] at h3
  go_enter Tryz.func50, Tryz.ntmps50
  go_wp2_with fail
  refine (h1 _).mono ?_; rintro e _ ⟨rfl, rfl⟩
  go_wp2_with fail
  refine (h2 _).mono ?_; rintro e _ ⟨rfl, rfl⟩
  go_wp2_with fail
  refine (h3 _).mono ?_; rintro e _ ⟨rfl, rfl⟩
  go_wp2_with fail
  go_ret
  exact ⟨ret_bool (by simp [cfgB, k3]), Le.alloc _ _⟩
 rw [k3] at h3
 cases k4 : inB 1 t 4
 ·rw [k4] at h4
  go_enter Tryz.func50, Tryz.ntmps50
  go_wp2_with fail
  refine (h1 _).mono ?_; rintro e _ ⟨rfl, rfl⟩
  go_wp2_with fail
  refine (h2 _).mono ?_; rintro e _ ⟨rfl, rfl⟩
  go_wp2_with fail
  refine (h3 _).mono ?_; rintro e _ ⟨rfl, rfl⟩
  go_wp2_with fail
  refine (h4 _).mono ?_; rintro e _ ⟨rfl, rfl⟩
  go_wp2_with fail
  go_ret
  exact ⟨ret_bool (by simp [cfgB, k4]), Le.alloc _ _⟩
 rw [k4] at h4
 obtain ⟨t0, t1⟩ := inB_cases k4
 have hb : cfgB o r l t s = (slotsB s && decide (2 * t ≤ s)) := by simp [cfgB, k1, k2, k3, k4]
 rw [hb]
 cases k5 : slotsB s
 all_goals
   rw [k5] at h5
   go_enter Tryz.func50, Tryz.ntmps50
   go_wp2_with fail
   refine (h1 _).mono ?_; rintro e _ ⟨rfl, rfl⟩
   go_wp2_with fail
   refine (h2 _).mono ?_; rintro e _ ⟨rfl, rfl⟩
   go_wp2_with fail
   refine (h3 _).mono ?_; rintro e _ ⟨rfl, rfl⟩
   go_wp2_with fail
   refine (h4 _).mono ?_; rintro e _ ⟨rfl, rfl⟩
   go_wp2_with fail
   refine (h5 _).mono ?_; rintro e _ ⟨rfl, rfl⟩
   go_wp2_with fail
   go_ret
   exact ⟨ret_bool (by simp), Le.alloc _ _⟩
def ringD (c : Cfg) (R : Rg) : Bool := mayR R && (decide ((R.ss.length : Int) = c.s) && (decide (R.f ≤ c.t) && R.ss.all (fun s => decide (s.t < c.t))))
theorem ringB_doc (c : Cfg) (R : Rg) : ringB c R = ringD c R := by
 unfold ringB ringD
 cases h : mayR R
 ·rfl
 simp only [Bool.true_and]
 have hf : 0 ≤ R.f := by unfold mayR at h; simp at h; exact h.1.1.2
 have hs : ∀ s ∈ R.ss, 0 ≤ s.t := by
   unfold mayR at h
   simp only [Bool.and_eq_true, List.all_eq_true] at h
   intro s hs
   have := h.2 s hs
   rw [slotB_up] at this
   simp [threadB] at this
   omega
 have e : R.ss.all (fun s => inB 0 s.t (c.t - 1)) = R.ss.all (fun s => decide (s.t < c.t)) := by
   rw [Bool.eq_iff_iff]
   simp only [List.all_eq_true, inB, Bool.and_eq_true, decide_eq_true_eq]
   constructor
   ·intro h s hm; have := h s hm; omega
   ·intro h s hm; have := h s hm; have := hs s hm; omega
 rw [e]
 have e2 : inB 0 R.f c.t = decide (R.f ≤ c.t) := by simp [inB, hf]
 rw [e2]
set_option maxHeartbeats 1000000 in
theorem rmRingMay (c : Cfg) (v : Value) (R : Rg) (w : World) (hx : HasR w v R) (hf : FitR R) : Calls Tryz.prog 51 #[cfgV c.o c.r c.l c.t c.s, v] w fun e w' => e = .returned (.bool (ringB c R)) ∧ Le w w' := by
 rw [ringB_doc]
 have hm := fun w' (l : Le w w') => refRingMay v R w' (hx.le l) hf
 obtain ⟨h, t, f, ss⟩ := R
 obtain ⟨q, rfl, hq⟩ := hx
 simp only [ringD] at hm hq ⊢
 have hl := (Le.alloc w (.cells #[.int .i64 c.o, .int .i64 c.r, .int .i64 c.l, .int .i64 c.t, .int .i64 c.s] 23)).trans (Le.alloc _ (.cells (cellsR h t f q) 55))
 have hb1 := (Box.new w #[.int .i64 c.o, .int .i64 c.r, .int .i64 c.l, .int .i64 c.t, .int .i64 c.s] 23).le (Le.alloc _ (.cells (cellsR h t f q) 55))
 have hb2 := Box.new (w.alloc (.cells #[.int .i64 c.o, .int .i64 c.r, .int .i64 c.l, .int .i64 c.t, .int .i64 c.s] 23)) (cellsR h t f q) 55
 rw [World.size_alloc] at hb2
 have hn := hq.len
 rw [← hn]
 have HN : Hid (q.2.1 = ss.length) := hn
 clear hn
 go_enter Tryz.func51, Tryz.ntmps51
 go_upto_region 1 with fail
 generalize hW : (w.alloc (.cells #[.int .i64 c.o, .int .i64 c.r, .int .i64 c.l, .int .i64 c.t, .int .i64 c.s] 23)).alloc (.cells (cellsR h t f q) 55) = W at hl hb1 hb2 ⊢
 clear hW
 obtain ⟨x0, x1, x2, x3, _, _, _, _⟩ := hb2.ring
 go_wp2_with fail
 refine (hm _ hl).mono ?_
 rintro e w1 ⟨rfl, l1⟩
 replace hb1 := hb1.le l1
 replace hb2 := hb2.le l1
 replace hl := hl.trans l1
 clear l1 x0 x1 x2 x3 hm
 obtain ⟨x0, x1, x2, x3, _, _, _, _⟩ := hb2.ring
 obtain ⟨z0, z1, z2, z3, z4⟩ := hb1.slot
 cases h1 : mayR ⟨h, t, f, ss⟩
 ·go_wp2_with fail
  go_ret
  exact ⟨ret_bool (by rw [h1]; rfl), hl⟩
 by_cases h2 : (q.2.1 : Int) = c.s
 case neg =>
   go_wp2_with fail
   go_ret
   exact ⟨ret_bool (by rw [h1, decide_eq_false h2]; rfl), hl⟩
 by_cases h3 : f ≤ c.t
 case neg =>
   go_wp2_with fail
   go_ret
   exact ⟨ret_bool (by rw [h1, decide_eq_true h2, decide_eq_false (by omega)]; rfl), hl⟩
 obtain ⟨a, cap, hqv, hcap, _, hxx⟩ := hq
 obtain ⟨qa, L, qc⟩ := q
 simp only [slV, Value.slice.injEq] at hqv
 obtain ⟨rfl, hn, rfl⟩ := hqv
 rw [← hn] at hxx
 have HL : Hid (L = ss.length) := hn
 have HE : Hid (mayR ⟨h, t, f, ss⟩ = true ∧ (L : Int) = c.s ∧ f ≤ c.t) := ⟨h1, h2, h3⟩
 have hL0 : L ≤ 4611686018427387904 := by have := hf; simp only [FitR] at this; omega
 have b3 : w1.cell? ⟨w.heap.size + 1, 3, none⟩ = some (.slice qa L qc) := x3
 clear hn HN hcap hf x3
 go_wp2_with fail
 clear h1 h2 h3
 clear x0 x1 x2 z0 z1 z2 z3 z4 b3
 go_loopw [5] (fun i wr => ∃ k : Nat, k ≤ L ∧ i = .int .i64 k ∧ Hid ((ss.take k).all (fun s => decide (s.t < c.t)) = true) ∧ Le w1 wr) (fun i _ => L - (intOf i).toNat)
 case atStart => exact ⟨0, by omega, rfl, rfl, Le.refl _⟩
 case round =>
   obtain ⟨k, hk, rfl, HA, hle⟩ := hrel
   obtain ⟨x0, x1, x2, x3, _, _, _, _⟩ := (hb2.le hle).ring
   obtain ⟨z0, z1, z2, z3, z4⟩ := (hb1.le hle).slot
   replace x3 : wr.cell? ⟨w.heap.size + 1, 3, none⟩ = some (.slice qa L qc) := x3
   by_cases hlt : k < L
   ·obtain ⟨b, off, rfl, hcell⟩ := hxx (by omega)
    obtain ⟨s, hs⟩ : ∃ s, s = ss.getD k Slt.zero := ⟨_, rfl⟩
    have HS : Hid (s = ss.getD k Slt.zero) := hs
    obtain ⟨y0, y1, y2, y3, y4⟩ := ((hcell k hlt).le hl).le hle
    rw [← hs] at y0 y1 y2 y3 y4
    clear hs hcell hxx
    have hlt' : (k : Int) < (L : Int) := by omega
    by_cases hg : c.t ≤ s.t
    ·go_wp2_with fail
     go_quiet (fail)
     go_wp2_with fail
     go_ret
     have hno : ss.all (fun s => decide (s.t < c.t)) = false := all_no (k := k) (by have := HL.out; omega) (by rw [← HS.out]; exact decide_eq_false (by omega))
     have h1 := HE.out.1
     have h2 := HE.out.2.1
     have h3 := HE.out.2.2
     exact ⟨ret_bool (by rw [hno]; simp), (hl.trans hle).trans (Le.drewN _ _)⟩
    ·go_wp2_with fail
     go_quiet (fail)
     go_wp2_with fail
     go_roundw
     case rel => exact ⟨k + 1, by omega, by go_num, allL_take (by have := HL.out; omega) HA.out (by rw [← HS.out]; exact decide_eq_true (by omega)), hle.trans (Le.drewN _ _)⟩
     case measure => simp [intOf]; omega
   ·obtain rfl : k = L := by omega
    go_wp2_with fail
    go_ret
    have hyes := HA.out
    rw [HL.out, List.take_length] at hyes
    have h1 := HE.out.1
    have h2 := HE.out.2.1
    have h3 := HE.out.2.2
    exact ⟨ret_bool (by rw [hyes]; simp [h1, h2]), hl.trans hle⟩
set_option maxHeartbeats 400000 in
theorem refCopyState (v : Value) (s : St) (w : World) (hx : HasS w v s) (hf : Fit s) :
   Calls Tryz.prog 45 #[v] w fun e w' => ∃ v', e = .returned v' ∧ OwnS w' w.heap.size v' s ∧ Le w w' := by
 obtain ⟨vs, rfl, hr⟩ := hx
 go_enter Tryz.func45, Tryz.ntmps45
 go_wp2
 go_loopw [4] (fun i wr => ∃ (k : Nat) (us : Nat → Sl), k ≤ 4 ∧ i = .int .i64 k ∧ Cp w s vs wr k us) (fun i _ => 4 - (intOf i).toNat)
 case atStart => exact ⟨0, _, by omega, rfl, Cp.start w s vs⟩
 case round =>
   obtain ⟨k, us, hk, rfl, hcp⟩ := hrel
   by_cases hlt : k < 4
   ·have c1 : (wr.alloc (.cells #[] 3)).cell? ⟨w.heap.size, k, none⟩ = some (slV (vs k)) := ((hcp.given.le (Le.alloc wr _)).cell k).trans (cells4_at vs hlt)
    have hw1 : Has (wr.alloc (.cells #[] 3)) (slV (vs k)) (s.at k) := (hr k hlt).le (hcp.le.trans (Le.alloc wr _))
    have hn1 : Own (wr.alloc (.cells #[] 3)) wr.heap.size (.slice (some ⟨wr.heap.size, 0, none⟩) 0 0) [] := Own.lit wr _ (Nat.le_refl _) [] (by decide)
    have hfk := hf k hlt
    have hrow : ∀ g, (Value.slice (some ⟨wr.heap.size, 0, none⟩) 0 0).ownBlock = some g → wr.heap.size ≤ g := by intro g hg; cases hg; exact Nat.le_refl _
    go_wp2_with (at_builtin; refine wp_append_ints rfl _ _ rfl wr.heap.size _ _ [] (s.at k) rfl rfl hn1 hw1 (by simp; omega) (by simp) ?_; intro v' w2 hown hgrow; rw [List.nil_append] at hown; have l2 : Le wr w2 := Below.grown (Le.alloc wr _) hgrow (by simp) hrow; have c3 := (hcp.filled.le l2).cell k; rw [cells4_at us hlt] at c3; have f3 := (hcp.filled.le l2).frozen k; obtain ⟨q, rfl⟩ := hown.has.sl)
    go_roundw
    case rel => exact ⟨k + 1, _, by omega, by go_num, hcp.next hlt (Le.alloc wr _) hgrow hrow hown⟩
    case measure => simp [intOf]; omega
   ·obtain rfl : k = 4 := by omega
    obtain ⟨p0, p1, p2, p3, _, _, _, _⟩ := hcp.filled.st
    obtain ⟨b0, b1, b2, b3, f0, f1, f2, f3⟩ := hcp.result.st
    go_wp2
    refine bodyPost_ret (v := stV us) (by simp [results, Tryz.results45, go_sem, b0, b1, b2, b3]) rfl ⟨_, rfl, ⟨us, rfl, fun i hi => ?_⟩, ?_⟩
    ·exact ((((hcp.rows i hi).setBox hcp.result (by decide)).setBox (hcp.result.set _ _) (by decide)).setBox ((hcp.result.set _ _).set _ _) (by decide)).setBox (((hcp.result.set _ _).set _ _).set _ _) (by decide)
    ·exact (((Below.setCell hcp.le (by show w.heap.size ≤ w.heap.size + 1; omega) _).setCell (by show w.heap.size ≤ w.heap.size + 1; omega) _).setCell (by show w.heap.size ≤ w.heap.size + 1; omega) _).setCell (by show w.heap.size ≤ w.heap.size + 1; omega) _
theorem rowMay1_eq (xs : List Int) : rowMay1 xs = (xs.all argB && decide (xs.length ≤ 1)) := by
 match xs with
 | [] => rfl
 | [x] => simp [rowMay1, argB]
 | _ :: _ :: _ => simp [rowMay1]
set_option maxHeartbeats 400000 in
theorem refRowMay0 (v : Value) (xs : List Int) (w : World) (hx : Has w v xs) (hm : xs.length * 8 ≤ 140737488351232) :
   Calls Tryz.prog 84 #[.int .i64 0, v] w fun e w' => e = .returned (.bool (rowMay1 xs)) ∧ Le w w' := by
 have hl := Le.alloc w (.cells #[.int .i64 1, .int .i64 4, .int .i64 4] 3)
 obtain ⟨a, cap, rfl, hc, _, hx⟩ := hx
 rw [rowMay1_eq]
 by_cases h0 : 0 < xs.length
 ·obtain ⟨b, off, rfl, hcell⟩ := hx h0
  obtain ⟨L, hL⟩ : ∃ L, L = xs.length := ⟨_, rfl⟩
  rw [← hL] at hm hc hcell h0 ⊢
  have HL : Hid (L = xs.length) := hL
  clear hL hx
  go_enter Tryz.func84, Tryz.ntmps84
  go_wp2
  go_loopw [6] (fun i wr => ∃ k : Nat, k ≤ L ∧ i = .int .i64 k ∧ Hid ((xs.take k).all argB = true) ∧ Le (w.alloc (.cells #[.int .i64 1, .int .i64 4, .int .i64 4] 3)) wr) (fun i _ => L - (intOf i).toNat)
  case atStart => exact ⟨0, Nat.zero_le _, rfl, rfl, Le.refl _⟩
  case round =>
    obtain ⟨k, hk, rfl, HA, hle⟩ := hrel
    by_cases hlt : k < L
    ·obtain ⟨x, hxk⟩ : ∃ x, x = xs.getD k 0 := ⟨_, rfl⟩
     have hcx := hcell k hlt
     rw [← hxk] at hcx
     have c1 : ∀ X : Later wr, X.w.cell? ⟨b, off + k, none⟩ = some (.int .i64 x) := fun X => by
       have hb := World.block_lt_of_cell? w _ hcx
       rw [((hl.trans hle).trans X.le).cell (p := ⟨b, off + k, none⟩) hb]; exact hcx
     have HX : Hid (x = xs.getD k 0) := hxk
     clear hxk hcell hcx
     cases hh : argB x
     ·have hup := fun w' => refUpTo x 0 255 w'
      have hh' : (decide (0 ≤ x) && decide (x ≤ 255)) = false := hh
      simp only [hh'] at hup
      go_wp2_with fail
      refine wp_region_later (by kernel_rfl) (by kernel_rfl) ?_
      repeat (go_big_quiet_step (first | (go_at_call 80; exact Calls.later_same (hup _))))
      refine wpQuiet_nil ?_
      rintro _ ⟨y, rfl⟩
      go_wp2
      go_ret
      exact ⟨ret_bool (by rw [all_bad (p := argB) (k := k) (by rw [← HL.out]; exact hlt) (HX.out ▸ hh)]; rfl), (hl.trans hle).trans y.le⟩
     ·have hup := fun w' => refUpTo x 0 255 w'
      have hh' : (decide (0 ≤ x) && decide (x ≤ 255)) = true := hh
      simp only [hh'] at hup
      go_wp2_with fail
      refine wp_region_later (by kernel_rfl) (by kernel_rfl) ?_
      repeat (go_big_quiet_step (first | (go_at_call 80; exact Calls.later_same (hup _))))
      refine wpQuiet_nil ?_
      rintro _ ⟨y, rfl⟩
      go_wp2
      go_roundw
      case rel => exact ⟨k + 1, by omega, by go_num, by rw [all_take (by rw [← HL.out]; exact hlt), HA.out, ← HX.out, hh]; rfl, hle.trans y.le⟩
      case measure => simp [intOf]; omega
    ·go_wp2
     go_ret
     refine ⟨ret_bool ?_, hl.trans hle⟩
     have := HA.out
     rw [List.take_of_length_le (by have := HL.out; omega)] at this
     rw [this, Bool.true_and, decide_eq_decide]
     omega
 ·have hnil : xs = [] := by cases xs with | nil => rfl | cons _ _ => simp at h0
  subst hnil
  go_enter Tryz.func84, Tryz.ntmps84
  go_wp2
  refine wp_loop_rounds 1 ?_
  rw [rounds_succ]
  go_wp2
  go_ret
  exact ⟨ret_bool (by simp), hl⟩
set_option maxHeartbeats 400000 in
theorem refStateMay0 (v : Value) (s : St) (w : World) (hx : HasS w v s) (hf : Fit s) :
   Calls Tryz.prog 43 #[.int .i64 0, v] w fun e w' => e = .returned (.bool (s.all rowMay1)) ∧ Le w w' := by
 obtain ⟨vs, rfl, hr⟩ := hx
 have hl := Le.alloc w (.cells (cells4 vs) 44)
 have hb := Box.new w (cells4 vs) 44
 go_enter Tryz.func43, Tryz.ntmps43
 go_wp2
 go_loopw [5] (fun i wr => ∃ k : Nat, k ≤ 4 ∧ i = .int .i64 k ∧ Hid (∀ j, j < k → rowMay1 (s.at j) = true) ∧ Le (w.alloc (.cells (cells4 vs) 44)) wr) (fun i _ => 4 - (intOf i).toNat)
 case atStart => exact ⟨0, by omega, rfl, (fun j hj => by omega), Le.refl _⟩
 case round =>
   obtain ⟨k, hk, rfl, HA, hle⟩ := hrel
   by_cases hlt : k < 4
   ·have hm := refRowMay0 (slV (vs k)) (s.at k) wr ((hr k hlt).le (hl.trans hle)) (hf k hlt)
    have c1 : wr.cell? ⟨w.heap.size, k, none⟩ = some (slV (vs k)) := ((hb.le hle).cell k).trans (cells4_at vs hlt)
    cases hh : rowMay1 (s.at k)
    ·rw [hh] at hm
     go_wp2_with fail
     refine hm.mono ?_
     rintro e w1 ⟨rfl, l1⟩
     go_wp2
     go_ret
     exact ⟨ret_bool (St.all_not hlt hh).symm, (hl.trans hle).trans l1⟩
    ·rw [hh] at hm
     go_wp2_with fail
     refine hm.mono ?_
     rintro e w1 ⟨rfl, l1⟩
     go_wp2
     go_roundw
     case rel => exact ⟨k + 1, by omega, by go_num, (fun j hj => by rcases Nat.lt_or_eq_of_le (Nat.le_of_lt_succ hj) with h | h; exact HA.out j h; exact h ▸ hh), hle.trans l1⟩
     case measure => simp [intOf]; omega
   ·obtain rfl : k = 4 := by omega
    go_wp2
    go_ret
    exact ⟨ret_bool (St.all_of HA.out).symm, hl.trans hle⟩
set_option maxHeartbeats 400000 in
theorem refFirst (v : Value) (xs : List Int) (w : World) (hx : Has w v xs) :
   Calls Tryz.prog 46 #[v] w fun e w' => e = .returned (.int .i64 (firstS xs)) ∧ w = w' := by
 obtain ⟨a, cap, rfl, hc, _, hx⟩ := hx
 match xs, hc, hx with
 | [], hc, hx =>
   go_enter Tryz.func46, Tryz.ntmps46
   go_wp2
   go_ret
   exact ⟨rfl, rfl⟩
 | x :: zs, hc, hx =>
   obtain ⟨b, off, rfl, hcell⟩ := hx (by simp)
   have c0 : w.cell? ⟨b, off, none⟩ = some (.int .i64 x) := hcell 0 (by simp)
   simp only [List.length_cons] at hc ⊢
   have n0 : ¬ (((zs.length + 1 : Nat) : Int)) = 0 := by omega
   clear hx hcell
   go_enter Tryz.func46, Tryz.ntmps46
   go_wp2
   go_ret
   exact ⟨rfl, rfl⟩
set_option maxHeartbeats 400000 in
theorem refStoreRow0 (v : Value) (xs : List Int) (r a : Int) (w : World) (hx : Has w v xs) (base : Nat) (hbase : base ≤ w.heap.size) :
   Calls Tryz.prog 47 #[v, opV 0 r a] w fun e w' => ∃ q : Sl, e = .returned (.tuple #[slV q, .int .i64 (firstS xs)]) ∧ Own w' base (slV q) [a] ∧ Le w w' := by
 have hl := Le.alloc w (.cells #[.int .i64 0, .int .i64 r, .int .i64 a] 48)
 have hb := Box.new w #[.int .i64 0, .int .i64 r, .int .i64 a] 48
 have hfi := fun (w' : World) (h : Le w w') => refFirst v xs w' (hx.le h)
 go_enter Tryz.func47, Tryz.ntmps47
 go_wp2_with fail
 generalize hW : w.alloc (.cells #[.int .i64 0, .int .i64 r, .int .i64 a] 48) = W at hl hb ⊢
 have o2 := hb.op.2.2.1
 have hown : Own (W.alloc (.cells #[.int .i64 a] 3)) base (slV (some ⟨W.heap.size, 0, none⟩, 1, 1)) [a] := Own.lit W _ (Nat.le_trans hbase hl.size) [a] (by simp)
 clear hW hb
 go_region_held3 (fun w' => w'.cell? ⟨w.heap.size, 2, none⟩ = some (.int .i64 a)) (go_keep) (first | (go_at_call 46; refine (hfi _ (hl.trans (Le.drew _))).mono ?_; rintro e w1 ⟨rfl, rfl⟩) | (go_at_call 46; refine (hfi _ (hl.trans ((Le.alloc _ _).trans (Le.drew _)))).mono ?_; rintro e w1 ⟨rfl, rfl⟩))
 all_goals
   go_wp2_with fail
   refine bodyPost_ret (v := .tuple #[slV (some ⟨W.heap.size, 0, none⟩, 1, 1), .int .i64 (firstS xs)]) (by simp [results, Tryz.results47]) rfl ⟨_, rfl, hown.le (Le.drew _), hl.trans ((Le.alloc _ _).trans (Le.drew _))⟩
set_option maxHeartbeats 400000 in
theorem refStoreRow1 (v : Value) (xs : List Int) (r a : Int) (w : World) (hx : Has w v xs) :
   Calls Tryz.prog 47 #[v, opV 1 r a] w fun e w' => e = .returned (.tuple #[slV slZ, .int .i64 (firstS xs)]) ∧ Le w w' := by
 have hl := Le.alloc w (.cells #[.int .i64 1, .int .i64 r, .int .i64 a] 48)
 have hfi := fun (w' : World) (h : Le w w') => refFirst v xs w' (hx.le h)
 go_enter Tryz.func47, Tryz.ntmps47
 go_wp2_with (go_at_call 46; refine (hfi _ hl).mono ?_; rintro e w1 ⟨rfl, rfl⟩)
 refine bodyPost_ret (v := .tuple #[slV slZ, .int .i64 (firstS xs)]) (by simp [results, Tryz.results47]) rfl ⟨rfl, hl⟩
theorem refStoreRow1' (v : Value) (xs : List Int) (r a : Int) (w : World) (hx : Has w v xs) (base : Nat) :
   Calls Tryz.prog 47 #[v, opV 1 r a] w fun e w' => ∃ q : Sl, e = .returned (.tuple #[slV q, .int .i64 (firstS xs)]) ∧ Own w' base (slV q) [] ∧ Le w w' :=
 (refStoreRow1 v xs r a w hx).mono fun _ _ ⟨he, hl⟩ => ⟨slZ, he, Own.nil _ _, hl⟩
end Go.Proofs.YtepplhbajmlbpaaGreat

namespace Go.Proofs.YtepplhbajmlbpaaGreat
def Small (xs : List Int) : Prop := xs.length ≤ 4 ∧ ∀ x ∈ xs, 0 ≤ x ∧ x ≤ 255
def sumOf (xs : List Int) (m : Nat) : Int := (xs.take m).sum
theorem sumOf_step {xs : List Int} {m : Nat} (h : m < xs.length) : sumOf xs (m + 1) = sumOf xs m + xs.getD m 0 := by
 unfold sumOf
 have e : xs.getD m 0 = xs[m] := by simp [List.getD, h]
 rw [List.take_succ_eq_append_getElem h, List.sum_append, e]
 simp only [List.sum_cons, List.sum_nil, Int.add_zero]
theorem sumOf_all (xs : List Int) : sumOf xs xs.length = xs.sum := by unfold sumOf; rw [List.take_length]
theorem Small.at {xs : List Int} (h : Small xs) {m : Nat} (hm : m < xs.length) : 0 ≤ xs.getD m 0 ∧ xs.getD m 0 ≤ 255 := by
 have := h.2 xs[m] (List.getElem_mem hm)
 simpa [List.getD, hm] using this
theorem Small.sum {xs : List Int} (h : Small xs) : ∀ m, m ≤ xs.length → 0 ≤ sumOf xs m ∧ sumOf xs m ≤ 255 * m
 | 0, _ => by simp [sumOf]
 | m + 1, hm => by
   have ih := h.sum m (by omega)
   have := h.at (m := m) (by omega)
   rw [sumOf_step (by omega)]
   omega
theorem sumTo_small {s : St} (h : ∀ k, k < 4 → Small (s.at k)) : ∀ k, k ≤ 4 → 0 ≤ sumTo s k ∧ sumTo s k ≤ 1020 * k
 | 0, _ => by simp [sumTo]
 | k + 1, hk => by
   have ih := sumTo_small h k (by omega)
   have h1 := (h k (by omega)).1
   have h2 := (h k (by omega)).sum (s.at k).length (Nat.le_refl _)
   rw [sumOf_all] at h2
   simp only [sumTo]
   omega
end Go.Proofs.YtepplhbajmlbpaaGreat

namespace Go.Proofs.YtepplhbajmlbpaaGreat
open Go.RowKit
theorem small1 {s : St} (hm : s.all rowMay1 = true) : ∀ k, k < 4 → Small (s.at k) := fun k hk => by
 rcases rowMay1_cases (St.all_at hm hk) with e | ⟨x, e, h0, h1⟩ <;> rw [e]
 ·exact ⟨by simp, by simp⟩
 ·exact ⟨by simp, by simp; omega⟩
set_option maxHeartbeats 2000000 in
theorem refStoreNo (v : Value) (s : St) (c r a er : Int) (w : World) (hx : HasS w v s) (hf : Fit s) (h : (s.all rowMay1 && opMay c r a) = false) :
   Calls Tryz.prog 16 #[.int .i64 0, v, opV c r a, .int .i64 er] w fun e w' => e = .returned (.tuple #[stZ, .int .i64 0, .int .i64 er]) ∧ Le w w' := by
 have hx0 := hx
 obtain ⟨vs, rfl, hr⟩ := hx
 have hl := ((Le.alloc w (.cells (cells4 vs) 44)).trans (Le.alloc _ (.cells #[.int .i64 c, .int .i64 r, .int .i64 a] 48))).trans (Le.alloc _ (.cells (cells4 fun _ => slZ) 44))
 have hb1 := ((Box.new w (cells4 vs) 44).le (Le.alloc _ (.cells #[.int .i64 c, .int .i64 r, .int .i64 a] 48))).le (Le.alloc _ (.cells (cells4 fun _ => slZ) 44))
 have hb2 := (Box.new (w.alloc (.cells (cells4 vs) 44)) #[.int .i64 c, .int .i64 r, .int .i64 a] 48).le (Le.alloc _ (.cells (cells4 fun _ => slZ) 44))
 have hb3 := Box.new ((w.alloc (.cells (cells4 vs) 44)).alloc (.cells #[.int .i64 c, .int .i64 r, .int .i64 a] 48)) (cells4 fun _ => slZ) 44
 simp only [World.size_alloc] at hb1 hb2 hb3
 have hmay := refStateMay0 (stV vs) s _ (hx0.le hl) hf
 cases hm : s.all rowMay1
 ·rw [hm] at hmay
  go_enter Tryz.func16, Tryz.ntmps16
  go_wp2_with fail
  refine hmay.mono ?_
  rintro e w1 ⟨rfl, l1⟩
  obtain ⟨z0, z1, z2, z3, f0, f1, f2, f3⟩ := (hb3.le l1).st
  go_wp2_with fail
  refine bodyPost_ret (v := .tuple #[stZ, .int .i64 0, .int .i64 er]) (by simp [results, Tryz.results16, go_sem, z0, z1, z2, z3]) rfl ⟨rfl, ?_⟩
  exact (hl.trans l1).set4 (by omega) _ _ _ _
 ·have hop : opMay c r a = false := by simpa [hm] using h
  rw [hm] at hmay
  go_enter Tryz.func16, Tryz.ntmps16
  go_wp2_with fail
  refine hmay.mono ?_
  rintro e w1 ⟨rfl, l1⟩
  obtain ⟨y0, y1, y2, _, _, _⟩ := (hb2.le l1).op
  go_wp2_with fail
  refine (refOperMay _ _ _ _).mono ?_
  rw [hop]
  rintro e w2 ⟨rfl, l2⟩
  obtain ⟨z0, z1, z2, z3, f0, f1, f2, f3⟩ := ((hb3.le l1).le l2).st
  go_wp2_with fail
  refine bodyPost_ret (v := .tuple #[stZ, .int .i64 0, .int .i64 er]) (by simp [results, Tryz.results16, go_sem, z0, z1, z2, z3]) rfl ⟨rfl, ?_⟩
  exact ((hl.trans l1).trans l2).set4 (by omega) _ _ _ _
set_option maxRecDepth 4000 in
set_option maxHeartbeats 4000000 in
theorem refStoreScan (v : Value) (s : St) (er : Int) (w : World) (hx : HasS w v s) (hf : Fit s) (hm : s.all rowMay1 = true) :
   Calls Tryz.prog 16 #[.int .i64 0, v, opV 3 0 0, .int .i64 er] w fun e w' => ∃ v', e = .returned (.tuple #[v', .int .i64 (sumTo s 4), .int .i64 0]) ∧ OwnS w' w.heap.size v' (s) ∧ Le w w' := by
 have hx0 := hx
 obtain ⟨vs, rfl, hr⟩ := hx
 have hl := ((Le.alloc w (.cells (cells4 vs) 44)).trans (Le.alloc _ (.cells #[.int .i64 3, .int .i64 0, .int .i64 0] 48))).trans (Le.alloc _ (.cells (cells4 fun _ => slZ) 44))
 have hb1 := ((Box.new w (cells4 vs) 44).le (Le.alloc _ (.cells #[.int .i64 3, .int .i64 0, .int .i64 0] 48))).le (Le.alloc _ (.cells (cells4 fun _ => slZ) 44))
 have hb2 := (Box.new (w.alloc (.cells (cells4 vs) 44)) #[.int .i64 3, .int .i64 0, .int .i64 0] 48).le (Le.alloc _ (.cells (cells4 fun _ => slZ) 44))
 have hb3 := Box.new ((w.alloc (.cells (cells4 vs) 44)).alloc (.cells #[.int .i64 3, .int .i64 0, .int .i64 0] 48)) (cells4 fun _ => slZ) 44
 simp only [World.size_alloc] at hb1 hb2 hb3
 have hmay := refStateMay0 (stV vs) s _ (hx0.le hl) hf
 rw [hm] at hmay
 have hop : opMay 3 0 0 = true := by decide
 have hsm := small1 hm
 go_enter Tryz.func16, Tryz.ntmps16
 go_wp2_with fail
 refine hmay.mono ?_
 rintro e w1 ⟨rfl, l1⟩
 obtain ⟨y0, y1, y2, _, _, _⟩ := (hb2.le l1).op
 clear hmay
 go_wp2_with fail
 refine (refOperMay _ _ _ _).mono ?_
 rw [hop]
 rintro e w2 ⟨rfl, l2⟩
 replace l1 := l1.trans l2
 clear l2 y0 y1 y2
 obtain ⟨y0, y1, y2, y3, _, _, _, _⟩ := (hb1.le l1).st
 go_wp2_with fail
 refine (refCopyState (stV vs) s _ (hx0.le (hl.trans l1)) hf).mono ?_
 rintro e w3 ⟨_, rfl, ⟨us, rfl, hown⟩, l3⟩
 replace hown := fun i hi => (hown i hi).base (base' := w.heap.size) (hl.trans l1).size
 replace l1 := l1.trans l3
 clear l3 y0 y1 y2 y3
 have n0 : w.heap.size + 1 + 1 < w3.heap.size := (hb3.le l1).lt
 have n1 : ¬ w.heap.size + 1 + 1 = w3.heap.size := by omega
 have n2 : ¬ w.heap.size + 1 + 1 = w.heap.size := by omega
 have n3 : ¬ w.heap.size + 1 + 1 = w.heap.size + 1 := by omega
 have hb4 := Box.new w3 (cells4 us) 44
 replace l1 := l1.trans (Le.alloc w3 (.cells (cells4 us) 44))
 replace hown := fun i hi => (hown i hi).le (Le.alloc w3 (.cells (cells4 us) 44))
 go_wp2_with fail
 generalize hW : w3.alloc (.cells (cells4 us) 44) = W at hb4 l1 hown ⊢
 clear hW
 go_loop [12, 13, 14] (fun t m i => ∃ j : Nat, j ≤ 4 ∧ i = .int .i64 j ∧ t = .int .i64 (sumTo s j) ∧ m = .int .i64 (manyTo s j)) (fun _ _ i => 4 - (intOf i).toNat)
 case atStart => exact ⟨0, by omega, rfl, rfl, rfl⟩
 case round =>
   obtain ⟨j, hj, rfl, rfl, rfl⟩ := hrel
   by_cases hlt : j < 4
   ·have c1 : W.cell? ⟨w.heap.size, j, none⟩ = some (slV (vs j)) := ((hb1.le l1).cell j).trans (cells4_at vs hlt)
    obtain ⟨b0, b1⟩ := sumTo_small hsm j hj
    obtain ⟨b2, b3⟩ := manyTo_bounds (m := 4) (fun i hi => (hsm i hi).1) j hj
    obtain ⟨ad, cap, hv, hc, _, hcell⟩ := (hr j hlt).le (hl.trans l1)
    have hs : sumTo s (j + 1) = sumTo s j + sumOf (s.at j) (s.at j).length := by rw [sumOf_all]; rfl
    have hn : manyTo s (j + 1) = manyTo s j + (s.at j).length := rfl
    have hsj := hsm j hlt
    have hlj := hsj.1
    rw [hv] at c1
    obtain ⟨T, hT⟩ : ∃ T, T = sumTo s j := ⟨_, rfl⟩
    obtain ⟨M, hM⟩ : ∃ M, M = manyTo s j := ⟨_, rfl⟩
    obtain ⟨L, hL⟩ : ∃ L, L = (s.at j).length := ⟨_, rfl⟩
    rw [← hT] at b0 b1 hs ⊢
    rw [← hM] at b2 b3 hn ⊢
    rw [← hL] at c1 hc hcell hs hn hlj
    have HS : Hid (sumTo s (j + 1) = T + sumOf (s.at j) L) := hs
    have HN : Hid (manyTo s (j + 1) = M + L) := hn
    have HL : Hid (L = (s.at j).length) := hL
    clear hs hn hv hm hr hown hb1 hb2 hb3 hb4 hop n0 n1 n2 n3 hT hM hL hsm
    go_wp2
    go_loop [12, 15] (fun t i => ∃ m : Nat, m ≤ L ∧ i = .int .i64 m ∧ t = .int .i64 (T + sumOf (s.at j) m)) (fun _ i => L - (intOf i).toNat)
    case atStart => exact ⟨0, by omega, rfl, by simp [sumOf]⟩
    case round =>
      obtain ⟨m, hmL, rfl, rfl⟩ := hrel
      obtain ⟨d0, d1⟩ := hsj.sum m (by rw [← HL.out]; exact hmL)
      by_cases hlt2 : m < L
      ·obtain ⟨b, off, rfl, hcl⟩ := hcell (by omega)
       have c2 := hcl m hlt2
       have hst := sumOf_step (xs := s.at j) (m := m) (by rw [← HL.out]; exact hlt2)
       obtain ⟨d2, d3⟩ := hsj.at (m := m) (by rw [← HL.out]; exact hlt2)
       obtain ⟨x, hx⟩ : ∃ x, x = (s.at j).getD m 0 := ⟨_, rfl⟩
       rw [← hx] at c2 hst d2 d3
       obtain ⟨t, ht⟩ : ∃ t, t = sumOf (s.at j) m := ⟨_, rfl⟩
       rw [← ht] at hst d0 d1 ⊢
       have HT : Hid (sumOf (s.at j) (m + 1) = t + x) := hst
       have m0 : (0 : Int) ≤ (m : Int) := by omega
       have m1 : (m : Int) < (L : Int) := by omega
       clear hst ht hx hcl hcell hsj
       go_wp2
       go_round
       case rel => exact ⟨m + 1, by omega, by go_num, by rw [HT.out, Int.add_assoc]⟩
       case measure => simp [intOf]; omega
      ·obtain rfl : m = L := by omega
       clear hcell hsj
       go_wp2
       go_round
       case rel => exact ⟨j + 1, by omega, by go_num, by rw [HS.out], by rw [HN.out]⟩
       case measure => simp [intOf]; omega
   ·obtain rfl : j = 4 := by omega
    clear hlt hj
    obtain ⟨y0, y1, y2, y3, _, _, _, _⟩ := hb4.st
    obtain ⟨z0, z1, z2, z3, f0, f1, f2, f3⟩ := (hb3.le l1).st
    obtain ⟨o0, o1, o2, _, _, _⟩ := (hb2.le l1).op
    go_wp2_with fail
    refine bodyPost_ret (v := .tuple #[stV us, .int .i64 (sumTo s 4), .int .i64 0]) (by simp [results, Tryz.results16, go_sem, z0, z1, z2, z3]) rfl ⟨_, rfl, ⟨us, rfl, fun i hi => ?_⟩, ?_⟩
    ·exact (hown i hi).set4 (hb3.le l1) (by decide) _ _ _ _
    ·exact (hl.trans l1).set4 (by omega) _ _ _ _
set_option maxRecDepth 4000 in
set_option maxHeartbeats 4000000 in
theorem refStoreLook (v : Value) (s : St) (k : Nat) (er : Int) (w : World) (hx : HasS w v s) (hf : Fit s) (hm : s.all rowMay1 = true) (hk : k < 4) :
   Calls Tryz.prog 16 #[.int .i64 0, v, opV 2 k 0, .int .i64 er] w fun e w' => ∃ v', e = .returned (.tuple #[v', .int .i64 (firstS (s.at k)), .int .i64 0]) ∧ OwnS w' w.heap.size v' (s) ∧ Le w w' := by
 have hx0 := hx
 obtain ⟨vs, rfl, hr⟩ := hx
 have hl := ((Le.alloc w (.cells (cells4 vs) 44)).trans (Le.alloc _ (.cells #[.int .i64 2, .int .i64 k, .int .i64 0] 48))).trans (Le.alloc _ (.cells (cells4 fun _ => slZ) 44))
 have hb1 := ((Box.new w (cells4 vs) 44).le (Le.alloc _ (.cells #[.int .i64 2, .int .i64 k, .int .i64 0] 48))).le (Le.alloc _ (.cells (cells4 fun _ => slZ) 44))
 have hb2 := (Box.new (w.alloc (.cells (cells4 vs) 44)) #[.int .i64 2, .int .i64 k, .int .i64 0] 48).le (Le.alloc _ (.cells (cells4 fun _ => slZ) 44))
 have hb3 := Box.new ((w.alloc (.cells (cells4 vs) 44)).alloc (.cells #[.int .i64 2, .int .i64 k, .int .i64 0] 48)) (cells4 fun _ => slZ) 44
 simp only [World.size_alloc] at hb1 hb2 hb3
 have hmay := refStateMay0 (stV vs) s _ (hx0.le hl) hf
 rw [hm] at hmay
 have hop : opMay 2 k 0 = true := by simp [opMay]; omega
 have hsm := small1 hm
 go_enter Tryz.func16, Tryz.ntmps16
 go_wp2_with fail
 refine hmay.mono ?_
 rintro e w1 ⟨rfl, l1⟩
 obtain ⟨y0, y1, y2, _, _, _⟩ := (hb2.le l1).op
 clear hmay
 go_wp2_with fail
 refine (refOperMay _ _ _ _).mono ?_
 rw [hop]
 rintro e w2 ⟨rfl, l2⟩
 replace l1 := l1.trans l2
 clear l2 y0 y1 y2
 obtain ⟨y0, y1, y2, y3, _, _, _, _⟩ := (hb1.le l1).st
 go_wp2_with fail
 refine (refCopyState (stV vs) s _ (hx0.le (hl.trans l1)) hf).mono ?_
 rintro e w3 ⟨_, rfl, ⟨us, rfl, hown⟩, l3⟩
 replace hown := fun i hi => (hown i hi).base (base' := w.heap.size) (hl.trans l1).size
 replace l1 := l1.trans l3
 clear l3 y0 y1 y2 y3
 have n0 : w.heap.size + 1 + 1 < w3.heap.size := (hb3.le l1).lt
 have n1 : ¬ w.heap.size + 1 + 1 = w3.heap.size := by omega
 have n2 : ¬ w.heap.size + 1 + 1 = w.heap.size := by omega
 have n3 : ¬ w.heap.size + 1 + 1 = w.heap.size + 1 := by omega
 have hb4 := Box.new w3 (cells4 us) 44
 replace l1 := l1.trans (Le.alloc w3 (.cells (cells4 us) 44))
 replace hown := fun i hi => (hown i hi).le (Le.alloc w3 (.cells (cells4 us) 44))
 go_wp2_with fail
 generalize hW : w3.alloc (.cells (cells4 us) 44) = W at hb4 l1 hown ⊢
 clear hW
 go_loop [12, 13, 14] (fun t m i => ∃ j : Nat, j ≤ 4 ∧ i = .int .i64 j ∧ t = .int .i64 (sumTo s j) ∧ m = .int .i64 (manyTo s j)) (fun _ _ i => 4 - (intOf i).toNat)
 case atStart => exact ⟨0, by omega, rfl, rfl, rfl⟩
 case round =>
   obtain ⟨j, hj, rfl, rfl, rfl⟩ := hrel
   by_cases hlt : j < 4
   ·have c1 : W.cell? ⟨w.heap.size, j, none⟩ = some (slV (vs j)) := ((hb1.le l1).cell j).trans (cells4_at vs hlt)
    obtain ⟨b0, b1⟩ := sumTo_small hsm j hj
    obtain ⟨b2, b3⟩ := manyTo_bounds (m := 4) (fun i hi => (hsm i hi).1) j hj
    obtain ⟨ad, cap, hv, hc, _, hcell⟩ := (hr j hlt).le (hl.trans l1)
    have hs : sumTo s (j + 1) = sumTo s j + sumOf (s.at j) (s.at j).length := by rw [sumOf_all]; rfl
    have hn : manyTo s (j + 1) = manyTo s j + (s.at j).length := rfl
    have hsj := hsm j hlt
    have hlj := hsj.1
    rw [hv] at c1
    obtain ⟨T, hT⟩ : ∃ T, T = sumTo s j := ⟨_, rfl⟩
    obtain ⟨M, hM⟩ : ∃ M, M = manyTo s j := ⟨_, rfl⟩
    obtain ⟨L, hL⟩ : ∃ L, L = (s.at j).length := ⟨_, rfl⟩
    rw [← hT] at b0 b1 hs ⊢
    rw [← hM] at b2 b3 hn ⊢
    rw [← hL] at c1 hc hcell hs hn hlj
    have HS : Hid (sumTo s (j + 1) = T + sumOf (s.at j) L) := hs
    have HN : Hid (manyTo s (j + 1) = M + L) := hn
    have HL : Hid (L = (s.at j).length) := hL
    clear hs hn hv hm hr hown hb1 hb2 hb3 hb4 hop n0 n1 n2 n3 hT hM hL hsm
    go_wp2
    go_loop [12, 15] (fun t i => ∃ m : Nat, m ≤ L ∧ i = .int .i64 m ∧ t = .int .i64 (T + sumOf (s.at j) m)) (fun _ i => L - (intOf i).toNat)
    case atStart => exact ⟨0, by omega, rfl, by simp [sumOf]⟩
    case round =>
      obtain ⟨m, hmL, rfl, rfl⟩ := hrel
      obtain ⟨d0, d1⟩ := hsj.sum m (by rw [← HL.out]; exact hmL)
      by_cases hlt2 : m < L
      ·obtain ⟨b, off, rfl, hcl⟩ := hcell (by omega)
       have c2 := hcl m hlt2
       have hst := sumOf_step (xs := s.at j) (m := m) (by rw [← HL.out]; exact hlt2)
       obtain ⟨d2, d3⟩ := hsj.at (m := m) (by rw [← HL.out]; exact hlt2)
       obtain ⟨x, hx⟩ : ∃ x, x = (s.at j).getD m 0 := ⟨_, rfl⟩
       rw [← hx] at c2 hst d2 d3
       obtain ⟨t, ht⟩ : ∃ t, t = sumOf (s.at j) m := ⟨_, rfl⟩
       rw [← ht] at hst d0 d1 ⊢
       have HT : Hid (sumOf (s.at j) (m + 1) = t + x) := hst
       have m0 : (0 : Int) ≤ (m : Int) := by omega
       have m1 : (m : Int) < (L : Int) := by omega
       clear hst ht hx hcl hcell hsj
       go_wp2
       go_round
       case rel => exact ⟨m + 1, by omega, by go_num, by rw [HT.out, Int.add_assoc]⟩
       case measure => simp [intOf]; omega
      ·obtain rfl : m = L := by omega
       clear hcell hsj
       go_wp2
       go_round
       case rel => exact ⟨j + 1, by omega, by go_num, by rw [HS.out], by rw [HN.out]⟩
       case measure => simp [intOf]; omega
   ·obtain rfl : j = 4 := by omega
    clear hlt hj
    obtain ⟨y0, y1, y2, y3, _, _, _, _⟩ := hb4.st
    obtain ⟨z0, z1, z2, z3, f0, f1, f2, f3⟩ := (hb3.le l1).st
    obtain ⟨o0, o1, o2, _, _, _⟩ := (hb2.le l1).op
    have k0 : (0 : Int) ≤ (k : Int) := by omega
    have k1 : (k : Int) < 4 := by omega
    have yk : W.cell? ⟨w3.heap.size, k, none⟩ = some (slV (us k)) := (hb4.cell k).trans (cells4_at us hk)
    have hfi := refFirst (slV (us k)) (s.at k) W.drew ((hown k hk).has.le (Le.drew _))
    go_wp2_with fail
    go_region_held3 (fun w' => w'.cell? ⟨w3.heap.size, 0, none⟩ = some (slV (us 0)) ∧ w'.cell? ⟨w3.heap.size, 1, none⟩ = some (slV (us 1)) ∧ w'.cell? ⟨w3.heap.size, 2, none⟩ = some (slV (us 2)) ∧ w'.cell? ⟨w3.heap.size, 3, none⟩ = some (slV (us 3))) (go_keep) ((go_at_call 46; refine hfi.mono ?_; rintro e w4 ⟨rfl, rfl⟩))
    all_goals
      go_wp2_with fail
      refine bodyPost_ret (v := .tuple #[stV us, .int .i64 (firstS (s.at k)), .int .i64 0]) (by simp [results, Tryz.results16, go_sem, z0, z1, z2, z3]) rfl ⟨_, rfl, ⟨us, rfl, fun i hi => ?_⟩, ?_⟩
      ·exact ((hown i hi).le (Le.drew _)).set4 (hb3.le (l1.trans (Le.drew _))) (by decide) _ _ _ _
      ·exact ((hl.trans l1).trans (Le.drew _)).set4 (by omega) _ _ _ _
set_option maxRecDepth 4000 in
set_option maxHeartbeats 4000000 in
theorem refStoreFirst (v : Value) (s : St) (k : Nat) (a : Int) (er : Int) (w : World) (hx : HasS w v s) (hf : Fit s) (hm : s.all rowMay1 = true) (hk : k < 4) (ha : 0 ≤ a ∧ a ≤ 255) :
   Calls Tryz.prog 16 #[.int .i64 0, v, opV 0 k a, .int .i64 er] w fun e w' => ∃ v', e = .returned (.tuple #[v', .int .i64 (firstS (s.at k)), .int .i64 0]) ∧ OwnS w' w.heap.size v' (s.put k [a]) ∧ Le w w' := by
 have hx0 := hx
 obtain ⟨vs, rfl, hr⟩ := hx
 have hl := ((Le.alloc w (.cells (cells4 vs) 44)).trans (Le.alloc _ (.cells #[.int .i64 0, .int .i64 k, .int .i64 a] 48))).trans (Le.alloc _ (.cells (cells4 fun _ => slZ) 44))
 have hb1 := ((Box.new w (cells4 vs) 44).le (Le.alloc _ (.cells #[.int .i64 0, .int .i64 k, .int .i64 a] 48))).le (Le.alloc _ (.cells (cells4 fun _ => slZ) 44))
 have hb2 := (Box.new (w.alloc (.cells (cells4 vs) 44)) #[.int .i64 0, .int .i64 k, .int .i64 a] 48).le (Le.alloc _ (.cells (cells4 fun _ => slZ) 44))
 have hb3 := Box.new ((w.alloc (.cells (cells4 vs) 44)).alloc (.cells #[.int .i64 0, .int .i64 k, .int .i64 a] 48)) (cells4 fun _ => slZ) 44
 simp only [World.size_alloc] at hb1 hb2 hb3
 have hmay := refStateMay0 (stV vs) s _ (hx0.le hl) hf
 rw [hm] at hmay
 have hop : opMay 0 k a = true := by simp [opMay]; omega
 have hsm := small1 hm
 go_enter Tryz.func16, Tryz.ntmps16
 go_wp2_with fail
 refine hmay.mono ?_
 rintro e w1 ⟨rfl, l1⟩
 obtain ⟨y0, y1, y2, _, _, _⟩ := (hb2.le l1).op
 clear hmay
 go_wp2_with fail
 refine (refOperMay _ _ _ _).mono ?_
 rw [hop]
 rintro e w2 ⟨rfl, l2⟩
 replace l1 := l1.trans l2
 clear l2 y0 y1 y2
 obtain ⟨y0, y1, y2, y3, _, _, _, _⟩ := (hb1.le l1).st
 go_wp2_with fail
 refine (refCopyState (stV vs) s _ (hx0.le (hl.trans l1)) hf).mono ?_
 rintro e w3 ⟨_, rfl, ⟨us, rfl, hown⟩, l3⟩
 replace hown := fun i hi => (hown i hi).base (base' := w.heap.size) (hl.trans l1).size
 replace l1 := l1.trans l3
 clear l3 y0 y1 y2 y3
 have n0 : w.heap.size + 1 + 1 < w3.heap.size := (hb3.le l1).lt
 have n1 : ¬ w.heap.size + 1 + 1 = w3.heap.size := by omega
 have n2 : ¬ w.heap.size + 1 + 1 = w.heap.size := by omega
 have n3 : ¬ w.heap.size + 1 + 1 = w.heap.size + 1 := by omega
 have hb4 := Box.new w3 (cells4 us) 44
 replace l1 := l1.trans (Le.alloc w3 (.cells (cells4 us) 44))
 replace hown := fun i hi => (hown i hi).le (Le.alloc w3 (.cells (cells4 us) 44))
 go_wp2_with fail
 generalize hW : w3.alloc (.cells (cells4 us) 44) = W at hb4 l1 hown ⊢
 clear hW
 go_loop [12, 13, 14] (fun t m i => ∃ j : Nat, j ≤ 4 ∧ i = .int .i64 j ∧ t = .int .i64 (sumTo s j) ∧ m = .int .i64 (manyTo s j)) (fun _ _ i => 4 - (intOf i).toNat)
 case atStart => exact ⟨0, by omega, rfl, rfl, rfl⟩
 case round =>
   obtain ⟨j, hj, rfl, rfl, rfl⟩ := hrel
   by_cases hlt : j < 4
   ·have c1 : W.cell? ⟨w.heap.size, j, none⟩ = some (slV (vs j)) := ((hb1.le l1).cell j).trans (cells4_at vs hlt)
    obtain ⟨b0, b1⟩ := sumTo_small hsm j hj
    obtain ⟨b2, b3⟩ := manyTo_bounds (m := 4) (fun i hi => (hsm i hi).1) j hj
    obtain ⟨ad, cap, hv, hc, _, hcell⟩ := (hr j hlt).le (hl.trans l1)
    have hs : sumTo s (j + 1) = sumTo s j + sumOf (s.at j) (s.at j).length := by rw [sumOf_all]; rfl
    have hn : manyTo s (j + 1) = manyTo s j + (s.at j).length := rfl
    have hsj := hsm j hlt
    have hlj := hsj.1
    rw [hv] at c1
    obtain ⟨T, hT⟩ : ∃ T, T = sumTo s j := ⟨_, rfl⟩
    obtain ⟨M, hM⟩ : ∃ M, M = manyTo s j := ⟨_, rfl⟩
    obtain ⟨L, hL⟩ : ∃ L, L = (s.at j).length := ⟨_, rfl⟩
    rw [← hT] at b0 b1 hs ⊢
    rw [← hM] at b2 b3 hn ⊢
    rw [← hL] at c1 hc hcell hs hn hlj
    have HS : Hid (sumTo s (j + 1) = T + sumOf (s.at j) L) := hs
    have HN : Hid (manyTo s (j + 1) = M + L) := hn
    have HL : Hid (L = (s.at j).length) := hL
    clear hs hn hv hm hr hown hb1 hb2 hb3 hb4 hop n0 n1 n2 n3 hT hM hL hsm
    go_wp2
    go_loop [12, 15] (fun t i => ∃ m : Nat, m ≤ L ∧ i = .int .i64 m ∧ t = .int .i64 (T + sumOf (s.at j) m)) (fun _ i => L - (intOf i).toNat)
    case atStart => exact ⟨0, by omega, rfl, by simp [sumOf]⟩
    case round =>
      obtain ⟨m, hmL, rfl, rfl⟩ := hrel
      obtain ⟨d0, d1⟩ := hsj.sum m (by rw [← HL.out]; exact hmL)
      by_cases hlt2 : m < L
      ·obtain ⟨b, off, rfl, hcl⟩ := hcell (by omega)
       have c2 := hcl m hlt2
       have hst := sumOf_step (xs := s.at j) (m := m) (by rw [← HL.out]; exact hlt2)
       obtain ⟨d2, d3⟩ := hsj.at (m := m) (by rw [← HL.out]; exact hlt2)
       obtain ⟨x, hx⟩ : ∃ x, x = (s.at j).getD m 0 := ⟨_, rfl⟩
       rw [← hx] at c2 hst d2 d3
       obtain ⟨t, ht⟩ : ∃ t, t = sumOf (s.at j) m := ⟨_, rfl⟩
       rw [← ht] at hst d0 d1 ⊢
       have HT : Hid (sumOf (s.at j) (m + 1) = t + x) := hst
       have m0 : (0 : Int) ≤ (m : Int) := by omega
       have m1 : (m : Int) < (L : Int) := by omega
       clear hst ht hx hcl hcell hsj
       go_wp2
       go_round
       case rel => exact ⟨m + 1, by omega, by go_num, by rw [HT.out, Int.add_assoc]⟩
       case measure => simp [intOf]; omega
      ·obtain rfl : m = L := by omega
       clear hcell hsj
       go_wp2
       go_round
       case rel => exact ⟨j + 1, by omega, by go_num, by rw [HS.out], by rw [HN.out]⟩
       case measure => simp [intOf]; omega
   ·obtain rfl : j = 4 := by omega
    clear hlt hj
    have k0 : (0 : Int) ≤ (k : Int) := by omega
    have k1 : (k : Int) < 4 := by omega
    have yk : W.cell? ⟨w3.heap.size, k, none⟩ = some (slV (us k)) := (hb4.cell k).trans (cells4_at us hk)
    obtain ⟨o0, o1, o2, _, _, _⟩ := (hb2.le l1).op
    have hrow := refStoreRow0 (slV (us k)) (s.at k) k a W (hown k hk).has w.heap.size (hl.trans l1).size
    go_wp2_with fail
    refine hrow.mono ?_
    rintro e w4 ⟨q, rfl, hnew, l4⟩
    clear o0 o1 o2 yk hrow
    replace l1 := l1.trans l4
    replace hb4 := hb4.le l4
    replace hown := fun i hi => (hown i hi).le l4
    have yk : w4.cell? ⟨w3.heap.size, k, none⟩ = some (slV (us k)) := (hb4.cell k).trans (cells4_at us hk)
    have yf := hb4.frozen k
    obtain ⟨o0, o1, o2, _, _, _⟩ := (hb2.le l1).op
    go_upto_region 30 with fail
    replace hown := fun i hi => (hown i hi).setBox (i := k) (u := slV q) hb4 (by decide)
    replace hnew := hnew.setBox (i := k) (u := slV q) hb4 (by decide)
    replace hb4 := hb4.set k (slV q)
    rw [cells4_upd us hk] at hb4
    replace l1 : Le _ (w4.setCell ⟨w3.heap.size, k, none⟩ (slV q)) := Below.setCell l1 (by simp only [World.size_alloc]; show w.heap.size + 1 + 1 + 1 ≤ w3.heap.size; omega) _
    clear o0 o1 o2 yk yf
    generalize hW2 : w4.setCell ⟨w3.heap.size, k, none⟩ (slV q) = W2 at hb4 l1 hown hnew ⊢
    replace hown : ∀ i, i < 4 → Own W2 w.heap.size (slV (upd us k q i)) ((s.put k [a]).at i) := by
      intro i hi
      rw [St.at_put hk hi]
      by_cases e : i = k
      ·rw [if_pos e, show upd us k q i = q by simp [upd, e]]; exact hnew
      ·rw [if_neg e, show upd us k q i = us i by simp [upd, e]]; exact hown i hi
    generalize upd us k q = us at hb4 hown
    clear hW2 hnew
    obtain ⟨y0, y1, y2, y3, _, _, _, _⟩ := hb4.st
    obtain ⟨z0, z1, z2, z3, f0, f1, f2, f3⟩ := (hb3.le l1).st
    go_wp2_with fail
    refine bodyPost_ret (v := .tuple #[stV us, .int .i64 (firstS (s.at k)), .int .i64 0]) (by simp [results, Tryz.results16, go_sem, z0, z1, z2, z3]) rfl ⟨_, rfl, ⟨us, rfl, fun i hi => ?_⟩, ?_⟩
    ·exact (hown i hi).set4 (hb3.le l1) (by decide) _ _ _ _
    ·exact (hl.trans l1).set4 (by omega) _ _ _ _
set_option maxRecDepth 4000 in
set_option maxHeartbeats 4000000 in
theorem refStoreSecond (v : Value) (s : St) (k : Nat) (a : Int) (er : Int) (w : World) (hx : HasS w v s) (hf : Fit s) (hm : s.all rowMay1 = true) (hk : k < 4) (ha : 0 ≤ a ∧ a ≤ 255) :
   Calls Tryz.prog 16 #[.int .i64 0, v, opV 1 k a, .int .i64 er] w fun e w' => ∃ v', e = .returned (.tuple #[v', .int .i64 (firstS (s.at k)), .int .i64 0]) ∧ OwnS w' w.heap.size v' (s.put k []) ∧ Le w w' := by
 have hx0 := hx
 obtain ⟨vs, rfl, hr⟩ := hx
 have hl := ((Le.alloc w (.cells (cells4 vs) 44)).trans (Le.alloc _ (.cells #[.int .i64 1, .int .i64 k, .int .i64 a] 48))).trans (Le.alloc _ (.cells (cells4 fun _ => slZ) 44))
 have hb1 := ((Box.new w (cells4 vs) 44).le (Le.alloc _ (.cells #[.int .i64 1, .int .i64 k, .int .i64 a] 48))).le (Le.alloc _ (.cells (cells4 fun _ => slZ) 44))
 have hb2 := (Box.new (w.alloc (.cells (cells4 vs) 44)) #[.int .i64 1, .int .i64 k, .int .i64 a] 48).le (Le.alloc _ (.cells (cells4 fun _ => slZ) 44))
 have hb3 := Box.new ((w.alloc (.cells (cells4 vs) 44)).alloc (.cells #[.int .i64 1, .int .i64 k, .int .i64 a] 48)) (cells4 fun _ => slZ) 44
 simp only [World.size_alloc] at hb1 hb2 hb3
 have hmay := refStateMay0 (stV vs) s _ (hx0.le hl) hf
 rw [hm] at hmay
 have hop : opMay 1 k a = true := by simp [opMay]; omega
 have hsm := small1 hm
 go_enter Tryz.func16, Tryz.ntmps16
 go_wp2_with fail
 refine hmay.mono ?_
 rintro e w1 ⟨rfl, l1⟩
 obtain ⟨y0, y1, y2, _, _, _⟩ := (hb2.le l1).op
 clear hmay
 go_wp2_with fail
 refine (refOperMay _ _ _ _).mono ?_
 rw [hop]
 rintro e w2 ⟨rfl, l2⟩
 replace l1 := l1.trans l2
 clear l2 y0 y1 y2
 obtain ⟨y0, y1, y2, y3, _, _, _, _⟩ := (hb1.le l1).st
 go_wp2_with fail
 refine (refCopyState (stV vs) s _ (hx0.le (hl.trans l1)) hf).mono ?_
 rintro e w3 ⟨_, rfl, ⟨us, rfl, hown⟩, l3⟩
 replace hown := fun i hi => (hown i hi).base (base' := w.heap.size) (hl.trans l1).size
 replace l1 := l1.trans l3
 clear l3 y0 y1 y2 y3
 have n0 : w.heap.size + 1 + 1 < w3.heap.size := (hb3.le l1).lt
 have n1 : ¬ w.heap.size + 1 + 1 = w3.heap.size := by omega
 have n2 : ¬ w.heap.size + 1 + 1 = w.heap.size := by omega
 have n3 : ¬ w.heap.size + 1 + 1 = w.heap.size + 1 := by omega
 have hb4 := Box.new w3 (cells4 us) 44
 replace l1 := l1.trans (Le.alloc w3 (.cells (cells4 us) 44))
 replace hown := fun i hi => (hown i hi).le (Le.alloc w3 (.cells (cells4 us) 44))
 go_wp2_with fail
 generalize hW : w3.alloc (.cells (cells4 us) 44) = W at hb4 l1 hown ⊢
 clear hW
 go_loop [12, 13, 14] (fun t m i => ∃ j : Nat, j ≤ 4 ∧ i = .int .i64 j ∧ t = .int .i64 (sumTo s j) ∧ m = .int .i64 (manyTo s j)) (fun _ _ i => 4 - (intOf i).toNat)
 case atStart => exact ⟨0, by omega, rfl, rfl, rfl⟩
 case round =>
   obtain ⟨j, hj, rfl, rfl, rfl⟩ := hrel
   by_cases hlt : j < 4
   ·have c1 : W.cell? ⟨w.heap.size, j, none⟩ = some (slV (vs j)) := ((hb1.le l1).cell j).trans (cells4_at vs hlt)
    obtain ⟨b0, b1⟩ := sumTo_small hsm j hj
    obtain ⟨b2, b3⟩ := manyTo_bounds (m := 4) (fun i hi => (hsm i hi).1) j hj
    obtain ⟨ad, cap, hv, hc, _, hcell⟩ := (hr j hlt).le (hl.trans l1)
    have hs : sumTo s (j + 1) = sumTo s j + sumOf (s.at j) (s.at j).length := by rw [sumOf_all]; rfl
    have hn : manyTo s (j + 1) = manyTo s j + (s.at j).length := rfl
    have hsj := hsm j hlt
    have hlj := hsj.1
    rw [hv] at c1
    obtain ⟨T, hT⟩ : ∃ T, T = sumTo s j := ⟨_, rfl⟩
    obtain ⟨M, hM⟩ : ∃ M, M = manyTo s j := ⟨_, rfl⟩
    obtain ⟨L, hL⟩ : ∃ L, L = (s.at j).length := ⟨_, rfl⟩
    rw [← hT] at b0 b1 hs ⊢
    rw [← hM] at b2 b3 hn ⊢
    rw [← hL] at c1 hc hcell hs hn hlj
    have HS : Hid (sumTo s (j + 1) = T + sumOf (s.at j) L) := hs
    have HN : Hid (manyTo s (j + 1) = M + L) := hn
    have HL : Hid (L = (s.at j).length) := hL
    clear hs hn hv hm hr hown hb1 hb2 hb3 hb4 hop n0 n1 n2 n3 hT hM hL hsm
    go_wp2
    go_loop [12, 15] (fun t i => ∃ m : Nat, m ≤ L ∧ i = .int .i64 m ∧ t = .int .i64 (T + sumOf (s.at j) m)) (fun _ i => L - (intOf i).toNat)
    case atStart => exact ⟨0, by omega, rfl, by simp [sumOf]⟩
    case round =>
      obtain ⟨m, hmL, rfl, rfl⟩ := hrel
      obtain ⟨d0, d1⟩ := hsj.sum m (by rw [← HL.out]; exact hmL)
      by_cases hlt2 : m < L
      ·obtain ⟨b, off, rfl, hcl⟩ := hcell (by omega)
       have c2 := hcl m hlt2
       have hst := sumOf_step (xs := s.at j) (m := m) (by rw [← HL.out]; exact hlt2)
       obtain ⟨d2, d3⟩ := hsj.at (m := m) (by rw [← HL.out]; exact hlt2)
       obtain ⟨x, hx⟩ : ∃ x, x = (s.at j).getD m 0 := ⟨_, rfl⟩
       rw [← hx] at c2 hst d2 d3
       obtain ⟨t, ht⟩ : ∃ t, t = sumOf (s.at j) m := ⟨_, rfl⟩
       rw [← ht] at hst d0 d1 ⊢
       have HT : Hid (sumOf (s.at j) (m + 1) = t + x) := hst
       have m0 : (0 : Int) ≤ (m : Int) := by omega
       have m1 : (m : Int) < (L : Int) := by omega
       clear hst ht hx hcl hcell hsj
       go_wp2
       go_round
       case rel => exact ⟨m + 1, by omega, by go_num, by rw [HT.out, Int.add_assoc]⟩
       case measure => simp [intOf]; omega
      ·obtain rfl : m = L := by omega
       clear hcell hsj
       go_wp2
       go_round
       case rel => exact ⟨j + 1, by omega, by go_num, by rw [HS.out], by rw [HN.out]⟩
       case measure => simp [intOf]; omega
   ·obtain rfl : j = 4 := by omega
    clear hlt hj
    have k0 : (0 : Int) ≤ (k : Int) := by omega
    have k1 : (k : Int) < 4 := by omega
    have yk : W.cell? ⟨w3.heap.size, k, none⟩ = some (slV (us k)) := (hb4.cell k).trans (cells4_at us hk)
    obtain ⟨o0, o1, o2, _, _, _⟩ := (hb2.le l1).op
    have hrow := refStoreRow1' (slV (us k)) (s.at k) k a W (hown k hk).has w.heap.size
    go_wp2_with fail
    refine hrow.mono ?_
    rintro e w4 ⟨q, rfl, hnew, l4⟩
    clear o0 o1 o2 yk hrow
    replace l1 := l1.trans l4
    replace hb4 := hb4.le l4
    replace hown := fun i hi => (hown i hi).le l4
    have yk : w4.cell? ⟨w3.heap.size, k, none⟩ = some (slV (us k)) := (hb4.cell k).trans (cells4_at us hk)
    have yf := hb4.frozen k
    obtain ⟨o0, o1, o2, _, _, _⟩ := (hb2.le l1).op
    go_upto_region 30 with fail
    replace hown := fun i hi => (hown i hi).setBox (i := k) (u := slV q) hb4 (by decide)
    replace hnew := hnew.setBox (i := k) (u := slV q) hb4 (by decide)
    replace hb4 := hb4.set k (slV q)
    rw [cells4_upd us hk] at hb4
    replace l1 : Le _ (w4.setCell ⟨w3.heap.size, k, none⟩ (slV q)) := Below.setCell l1 (by simp only [World.size_alloc]; show w.heap.size + 1 + 1 + 1 ≤ w3.heap.size; omega) _
    clear o0 o1 o2 yk yf
    generalize hW2 : w4.setCell ⟨w3.heap.size, k, none⟩ (slV q) = W2 at hb4 l1 hown hnew ⊢
    replace hown : ∀ i, i < 4 → Own W2 w.heap.size (slV (upd us k q i)) ((s.put k []).at i) := by
      intro i hi
      rw [St.at_put hk hi]
      by_cases e : i = k
      ·rw [if_pos e, show upd us k q i = q by simp [upd, e]]; exact hnew
      ·rw [if_neg e, show upd us k q i = us i by simp [upd, e]]; exact hown i hi
    generalize upd us k q = us at hb4 hown
    clear hW2 hnew
    obtain ⟨y0, y1, y2, y3, _, _, _, _⟩ := hb4.st
    obtain ⟨z0, z1, z2, z3, f0, f1, f2, f3⟩ := (hb3.le l1).st
    go_wp2_with fail
    refine bodyPost_ret (v := .tuple #[stV us, .int .i64 (firstS (s.at k)), .int .i64 0]) (by simp [results, Tryz.results16, go_sem, z0, z1, z2, z3]) rfl ⟨_, rfl, ⟨us, rfl, fun i hi => ?_⟩, ?_⟩
    ·exact (hown i hi).set4 (hb3.le l1) (by decide) _ _ _ _
    ·exact (hl.trans l1).set4 (by omega) _ _ _ _
theorem refStore (v : Value) (s : St) (c r a er : Int) (w : World) (hx : HasS w v s) (hf : Fit s) :
   Calls Tryz.prog 16 #[.int .i64 0, v, opV c r a, .int .i64 er] w fun e w' => ∃ v', e = .returned (.tuple #[v', .int .i64 (stoS s c r a er).2.1, .int .i64 (stoS s c r a er).2.2]) ∧ OwnS w' w.heap.size v' (stoS s c r a er).1 ∧ Le w w' := by
 cases h : s.all rowMay1 && opMay c r a
 ·rw [stoS_no h]
  exact (refStoreNo v s c r a er w hx hf h).mono fun e w' ⟨he, hl⟩ => ⟨stZ, he, OwnS.zero _ _, hl⟩
 ·obtain ⟨hm, ho⟩ := Bool.and_eq_true_iff.mp h
  rcases opMay_cases ho with ⟨k, hk, rfl, rfl, ha⟩ | ⟨k, hk, rfl, rfl, ha⟩ | ⟨k, hk, rfl, rfl, rfl⟩ | ⟨rfl, rfl, rfl⟩
  ·rw [stoS_first hm hk ha]; exact refStoreFirst v s k a er w hx hf hm hk ha
  ·rw [stoS_second hm hk ha]; exact refStoreSecond v s k a er w hx hf hm hk ha
  ·rw [stoS_look hm hk]; exact refStoreLook v s k er w hx hf hm hk
  ·rw [stoS_scan hm]; exact refStoreScan v s er w hx hf hm
set_option maxHeartbeats 4000000 in
theorem refRowMay1 (v : Value) (xs : List Int) (w : World) (hx : Has w v xs) :
   Calls Tryz.prog 84 #[.int .i64 1, v] w fun e w' => e = .returned (.bool (rowMay2 xs)) ∧ Le w w' := by
 have hl := Le.alloc w (.cells #[.int .i64 1, .int .i64 4, .int .i64 4] 3)
 obtain ⟨a, cap, rfl, hc, _, hx⟩ := hx
 obtain ⟨L, hL⟩ : ∃ L, L = xs.length := ⟨_, rfl⟩
 rw [← hL] at hc hx ⊢
 have HL : Hid (L = xs.length) := hL
 clear hL
 go_enter Tryz.func84, Tryz.ntmps84
 go_wp2
 go_loopw [6] (fun i wr => ∃ (k : Nat) (y : Int), k ≤ L ∧ (k : Int) ≤ y + 1 ∧ y < 4 ∧ i = .int .i64 k ∧ Hid ((0 < k → xs.getD (k - 1) 0 = y) ∧ (k = 0 → y = -1)) ∧ Hid (rowMay2 xs = riseFrom y (xs.drop k)) ∧ Le (w.alloc (.cells #[.int .i64 1, .int .i64 4, .int .i64 4] 3)) wr) (fun i _ => L - (intOf i).toNat)
 case atStart => exact ⟨0, -1, Nat.zero_le _, by omega, by omega, rfl, hid ⟨fun h => by omega, fun _ => rfl⟩, hid (by simp [rowMay2]), Le.refl _⟩
 case round =>
   obtain ⟨k, y, hk, hy1, hy2, rfl, HY, HA, hle⟩ := hrel
   by_cases hlt : k < L
   ·obtain ⟨b, off, rfl, hcell⟩ := hx (by omega)
    obtain ⟨x, hxk⟩ : ∃ x, x = xs.getD k 0 := ⟨_, rfl⟩
    have hcx := hcell k hlt
    rw [← hxk] at hcx
    have c1 : ∀ X : Later wr, X.w.cell? ⟨b, off + k, none⟩ = some (.int .i64 x) := fun X => by
      have hb := World.block_lt_of_cell? w _ hcx
      rw [((hl.trans hle).trans X.le).cell (p := ⟨b, off + k, none⟩) hb]; exact hcx
    have hd := HA.out
    rw [drop_at (by have := HL.out; omega), ← hxk] at hd
    simp only [riseFrom] at hd
    have HX : Hid (x = xs.getD k 0) := hxk
    clear hxk
    have k0 : (0 : Int) ≤ (k : Int) := by omega
    have k1 : (k : Int) < (L : Int) := by omega
    have hup := fun w' => refUpTo x 0 255 w'
    by_cases h1 : 0 ≤ x ∧ x ≤ 255
    ·have hh' : (decide (0 ≤ x) && decide (x ≤ 255)) = true := by simp [h1]
     simp only [hh'] at hup
     by_cases h2 : 4 ≤ x
     ·have g2 : decide (4 ≤ x) = true := by simp [h2]
      have HD : Hid (rowMay2 xs = false) := hid (by rw [hd]; simp; omega)
      clear hd hcell hx HA HY
      go_wp2_with fail
      refine wp_region_later (by kernel_rfl) (by kernel_rfl) ?_
      repeat (go_big_quiet_step (first | (go_at_call 80; exact Calls.later_same (hup _))))
      refine wpQuiet_nil ?_
      rintro _ ⟨Y, rfl⟩
      go_wp2
      go_ret
      exact ⟨ret_bool HD.out.symm, (hl.trans hle).trans Y.le⟩
     ·have g2 : decide (4 ≤ x) = false := by simp; omega
      by_cases h3 : k = 0
      ·have g3 : decide (0 < k) = false := by rw [decide_eq_false_iff_not]; omega
       have hy3 := HY.out.2 h3
       have HD : Hid (rowMay2 xs = riseFrom x (xs.drop (k + 1))) := hid (by rw [hd]; simp [show x < 4 by omega, show y < x by omega])
       have hx1 : ((k + 1 : Nat) : Int) ≤ x + 1 := by omega
       clear hd hcell hx HA HY h3 hy3
       go_wp2_with fail
       refine wp_region_later (by kernel_rfl) (by kernel_rfl) ?_
       repeat (go_big_quiet_step (first | (go_at_call 80; exact Calls.later_same (hup _))))
       refine wpQuiet_nil ?_
       rintro _ ⟨Y, rfl⟩
       go_wp2
       go_roundw
       case rel => exact ⟨k + 1, x, by omega, by omega, by omega, by go_num, hid ⟨fun _ => HX.out.symm, fun h => by omega⟩, HD, hle.trans Y.le⟩
       case measure => simp [intOf]; omega
      ·obtain ⟨p, rfl⟩ : ∃ p, k = p + 1 := ⟨k - 1, by omega⟩
       have g3 : decide ((0 : Int) < ((p + 1 : Nat) : Int)) = true := by rw [decide_eq_true_eq]; omega
       have g5 : (0 : Int) < (p : Int) + 1 := by omega
       have hyk := HY.out.1 (by omega)
       rw [show p + 1 - 1 = p from rfl] at hyk
       have hcy := hcell p (by omega)
       rw [hyk] at hcy
       have c2 : ∀ X : Later wr, X.w.cell? ⟨b, off + p, none⟩ = some (.int .i64 y) := fun X => by
         have hb := World.block_lt_of_cell? w _ hcy
         rw [((hl.trans hle).trans X.le).cell (p := ⟨b, off + p, none⟩) hb]; exact hcy
       have k3 : (0 : Int) ≤ (p : Int) := by omega
       have k4 : (p : Int) < (L : Int) := by omega
       clear hyk hcy
       by_cases h4 : y < x
       ·have g4 : decide (x ≤ y) = false := by simp; omega
        have HD : Hid (rowMay2 xs = riseFrom x (xs.drop (p + 1 + 1))) := hid (by rw [hd]; simp [h4, show x < 4 by omega])
        clear hd hcell hx HA HY
        go_wp2_with fail
        refine wp_region_later (by kernel_rfl) (by kernel_rfl) ?_
        repeat (go_big_quiet_step (first | (go_at_call 80; exact Calls.later_same (hup _))))
        refine wpQuiet_nil ?_
        rintro _ ⟨Y, rfl⟩
        go_wp2
        go_roundw
        case rel => exact ⟨p + 1 + 1, x, by omega, by omega, by omega, by go_num, hid ⟨fun _ => HX.out.symm, fun h => by omega⟩, HD, hle.trans Y.le⟩
        case measure => simp [intOf]; omega
       ·have g4 : decide (x ≤ y) = true := by simp; omega
        have HD : Hid (rowMay2 xs = false) := hid (by rw [hd]; simp [h4])
        clear hd hcell hx HA HY
        go_wp2_with fail
        refine wp_region_later (by kernel_rfl) (by kernel_rfl) ?_
        repeat (go_big_quiet_step (first | (go_at_call 80; exact Calls.later_same (hup _))))
        refine wpQuiet_nil ?_
        rintro _ ⟨Y, rfl⟩
        go_wp2
        go_ret
        exact ⟨ret_bool HD.out.symm, (hl.trans hle).trans Y.le⟩
    ·have hh' : (decide (0 ≤ x) && decide (x ≤ 255)) = false := by rw [Bool.and_eq_false_iff]; simp; omega
     simp only [hh'] at hup
     have HD : Hid (rowMay2 xs = false) := hid (by rw [hd, show (decide (y < x) && decide (x < 4)) = false by rw [Bool.and_eq_false_iff]; simp; omega]; rfl)
     clear hd hcell hx HA HY
     go_wp2_with fail
     refine wp_region_later (by kernel_rfl) (by kernel_rfl) ?_
     repeat (go_big_quiet_step (first | (go_at_call 80; exact Calls.later_same (hup _))))
     refine wpQuiet_nil ?_
     rintro _ ⟨Y, rfl⟩
     go_wp2
     go_ret
     exact ⟨ret_bool HD.out.symm, (hl.trans hle).trans Y.le⟩
   ·obtain rfl : k = L := by omega
    have hd := HA.out
    rw [List.drop_eq_nil_of_le (by have := HL.out; omega)] at hd
    have hlen := rowMay2_len hd
    rw [← HL.out] at hlen
    have HD : Hid (rowMay2 xs = true) := hd
    clear hd hx HA HY
    go_wp2
    go_ret
    exact ⟨ret_bool (by rw [HD.out]; simp; omega), hl.trans hle⟩
set_option maxHeartbeats 400000 in
theorem refStateMay1 (v : Value) (s : St) (w : World) (hx : HasS w v s) :
   Calls Tryz.prog 43 #[.int .i64 1, v] w fun e w' => e = .returned (.bool (s.all rowMay2)) ∧ Le w w' := by
 obtain ⟨vs, rfl, hr⟩ := hx
 have hl := Le.alloc w (.cells (cells4 vs) 44)
 have hb := Box.new w (cells4 vs) 44
 go_enter Tryz.func43, Tryz.ntmps43
 go_wp2
 go_loopw [5] (fun i wr => ∃ k : Nat, k ≤ 4 ∧ i = .int .i64 k ∧ Hid (∀ j, j < k → rowMay2 (s.at j) = true) ∧ Le (w.alloc (.cells (cells4 vs) 44)) wr) (fun i _ => 4 - (intOf i).toNat)
 case atStart => exact ⟨0, by omega, rfl, (fun j hj => by omega), Le.refl _⟩
 case round =>
   obtain ⟨k, hk, rfl, HA, hle⟩ := hrel
   by_cases hlt : k < 4
   ·have hm := refRowMay1 (slV (vs k)) (s.at k) wr ((hr k hlt).le (hl.trans hle))
    have c1 : wr.cell? ⟨w.heap.size, k, none⟩ = some (slV (vs k)) := ((hb.le hle).cell k).trans (cells4_at vs hlt)
    cases hh : rowMay2 (s.at k)
    ·rw [hh] at hm
     go_wp2_with fail
     refine hm.mono ?_
     rintro e w1 ⟨rfl, l1⟩
     go_wp2
     go_ret
     exact ⟨ret_bool (St.all_not hlt hh).symm, (hl.trans hle).trans l1⟩
    ·rw [hh] at hm
     go_wp2_with fail
     refine hm.mono ?_
     rintro e w1 ⟨rfl, l1⟩
     go_wp2
     go_roundw
     case rel => exact ⟨k + 1, by omega, by go_num, (fun j hj => by rcases Nat.lt_or_eq_of_le (Nat.le_of_lt_succ hj) with h | h; exact HA.out j h; exact h ▸ hh), hle.trans l1⟩
     case measure => simp [intOf]; omega
   ·obtain rfl : k = 4 := by omega
    go_wp2
    go_ret
    exact ⟨ret_bool (St.all_of HA.out).symm, hl.trans hle⟩
def inF (xs : List Int) (i : Nat) : Bool := decide ((i : Int) ∈ xs)
theorem not_take {xs : List Int} {x : Int} {m : Nat} (h : m < xs.length) (hn : x ∉ xs.take m) (hx : ¬ xs.getD m 0 = x) : x ∉ xs.take (m + 1) := by
 rw [List.take_succ_eq_append_getElem h, List.mem_append, not_or]
 refine ⟨hn, ?_⟩
 simp only [List.mem_singleton]
 intro e
 apply hx
 simp [List.getD, h, e]
set_option maxHeartbeats 400000 in
theorem refHas (v : Value) (xs : List Int) (x0 : Int) (w : World) (hx : Has w v xs) (hl : xs.length ≤ 1000) :
   Calls Tryz.prog 85 #[v, .int .i64 x0] w fun e w' => e = .returned (.bool (decide (x0 ∈ xs))) ∧ w = w' := by
 obtain ⟨a, cap, rfl, hc, _, hx⟩ := hx
 obtain ⟨n, hn⟩ : ∃ n, n = xs.length := ⟨_, rfl⟩
 rw [← hn] at hc hx hl ⊢
 have HN : Hid (n = xs.length) := hn
 clear hn
 obtain ⟨B, hB⟩ : ∃ B, B = decide (x0 ∈ xs) := ⟨_, rfl⟩
 rw [← hB]
 have HB : Hid (B = decide (x0 ∈ xs)) := hB
 clear hB
 go_enter Tryz.func85, Tryz.ntmps85
 go_wp2
 go_loop [5] (fun i => ∃ k : Nat, k ≤ n ∧ i = .int .i64 k ∧ Hid (x0 ∉ xs.take k)) (fun i => n - (intOf i).toNat)
 case atStart => exact ⟨0, by omega, rfl, hid (by simp)⟩
 case round =>
   obtain ⟨k, hk, rfl, HR⟩ := hrel
   by_cases hlt : k < n
   ·obtain ⟨b, off, rfl, hcell⟩ := hx (by omega)
    have c0 := hcell k hlt
    obtain ⟨x, hxk⟩ : ∃ x, x = xs.getD k 0 := ⟨_, rfl⟩
    rw [← hxk] at c0
    have k0 : (0 : Int) ≤ (k : Int) := by omega
    have k1 : (k : Int) < (n : Int) := by omega
    by_cases h1 : x = x0
    ·have HD : Hid (B = true) := hid (by
       have hh : k < xs.length := by rw [← HN.out]; exact hlt
       rw [HB.out, decide_eq_true_eq, ← h1, hxk]
       simp [List.getD, hh])
     clear hxk hcell hx HR HB
     subst h1
     go_wp2
     go_ret
     exact ⟨ret_bool HD.out.symm, rfl⟩
    ·have HD : Hid (x0 ∉ xs.take (k + 1)) := hid (not_take (by rw [← HN.out]; exact hlt) HR.out (by rw [← hxk]; exact h1))
     clear hxk hcell hx HR
     go_wp2
     go_round
     case rel => exact ⟨k + 1, by omega, by go_num, HD⟩
     case measure => simp [intOf]; omega
   ·obtain rfl : k = n := by omega
    have HD : Hid (B = false) := hid (by
      rw [HB.out, decide_eq_false_iff_not]
      have := HR.out
      rwa [List.take_of_length_le (by have := HN.out; omega)] at this)
    go_wp2
    go_ret
    exact ⟨ret_bool HD.out.symm, rfl⟩
def outTo (p : Nat → Bool) : Nat → List Int
 | 0 => []
 | m + 1 => if p m then outTo p m ++ [(m : Int)] else outTo p m
theorem outTo_len (p : Nat → Bool) : ∀ m, (outTo p m).length ≤ m
 | 0 => Nat.le_refl _
 | m + 1 => by
   have := outTo_len p m
   simp only [outTo]
   split
   ·simp; omega
   ·omega
theorem free_rows : ∀ xs ∈ rowsAbove 4, ∀ k : Nat, k < 5 → (∀ j, j < k → inF xs j = true) → inF xs k = false → freeS xs = k := by decide
theorem in_rows : ∀ xs ∈ rowsAbove 4, ∀ x ∈ xs, 0 ≤ x ∧ x < 4 := by decide
theorem out_put : ∀ xs ∈ rowsAbove 4, freeS xs < 4 → outTo (fun i => decide ((i : Int) = freeS xs) || inF xs i) 4 = (putS xs).1 ∧ (putS xs).2 = freeS xs := by decide
theorem out_take : ∀ xs ∈ rowsAbove 4, ∀ a ∈ xs, outTo (fun i => !decide ((i : Int) = a) && inF xs i) 4 = (takeS xs a).1 ∧ (takeS xs a).2 = 1 := by decide
set_option maxHeartbeats 2000000 in
theorem refFdsRow0 (v : Value) (xs : List Int) (r a : Int) (w : World) (base : Nat) (hown : Own w base v xs) (hbase : base ≤ w.heap.size) (hm : rowMay2 xs = true) :
   Calls Tryz.prog 48 #[v, opV 0 r a] w fun e w' => ∃ q : Sl, e = .returned (.tuple #[slV q, .int .i64 (putS xs).2]) ∧ Own w' base (slV q) (putS xs).1 ∧ Le w w' := by
 have hl := Le.alloc w (.cells #[.int .i64 0, .int .i64 r, .int .i64 a] 48)
 have hb := Box.new w #[.int .i64 0, .int .i64 r, .int .i64 a] 48
 have hlen := rowMay2_len hm
 obtain ⟨q0, rfl⟩ := hown.has.sl
 have hhas := fun (x : Int) (w' : World) (h : Le w w') => refHas (slV q0) xs x w' (hown.has.le h) (by omega)
 go_enter Tryz.func48, Tryz.ntmps48
 go_wp2
 generalize hW : w.alloc (.cells #[.int .i64 0, .int .i64 r, .int .i64 a] 48) = W at hl hb ⊢
 clear hW
 go_loop [6] (fun i => ∃ k : Nat, k ≤ 4 ∧ i = .int .i64 k ∧ Hid (∀ j, j < k → inF xs j = true)) (fun i => 4 - (intOf i).toNat)
 case atStart => exact ⟨0, by omega, rfl, hid (fun j hj => by omega)⟩
 case round =>
   obtain ⟨k, hk, rfl, HR⟩ := hrel
   have hc := hhas k W hl
   cases hin : inF xs k
   ·rw [show decide ((k : Int) ∈ xs) = false from hin] at hc
    have hfree := free_rows xs (rowMay2_mem hm) k (by omega) HR.out hin
    by_cases h4 : k = 4
    ·have HP : Hid (putS xs = (xs, -1)) := hid (by simp [putS, hfree, h4])
     have K4 : Hid ((k : Int) = 4) := hid (by omega)
     clear hhas hfree h4 hin HR
     go_wp2_with fail
     refine hc.mono ?_
     rintro e w1 ⟨rfl, rfl⟩
     have k4 := K4.out
     go_wp2
     go_ret2
     rw [HP.out]
     exact ⟨_, rfl, hown.le hl, hl⟩
    ·have k4 : ¬ (k : Int) = 4 := by omega
     have k5 : ((k : Int) == 4) = false := by rw [beq_eq_false_iff_ne]; exact k4
     obtain ⟨hp1, hp2⟩ := out_put xs (rowMay2_mem hm) (by omega)
     rw [hfree] at hp1 hp2
     have HP : Hid (outTo (fun i => decide ((i : Int) = (k : Int)) || inF xs i) 4 = (putS xs).1) := hp1
     have HQ : Hid ((putS xs).2 = (k : Int)) := hp2
     clear hfree hp1 hp2 hin HR
     obtain ⟨o0, o1, o2, _, _, _⟩ := hb.op
     go_wp2_with fail
     refine hc.mono ?_
     rintro e w1 ⟨rfl, rfl⟩
     clear hc
     go_wp2
     clear o0 o1 o2
     go_loopw [7, 8] (fun o i wr => ∃ (m : Nat) (q : Sl), m ≤ 4 ∧ o = slV q ∧ i = .int .i64 m ∧ Own wr W.heap.size (slV q) (outTo (fun i => decide ((i : Int) = (k : Int)) || inF xs i) m) ∧ Le W wr) (fun _ i _ => 4 - (intOf i).toNat)
     case atStart => exact ⟨0, slZ, by omega, rfl, rfl, Own.nil _ _, Le.refl _⟩
     case round =>
       obtain ⟨m, q, hm4, rfl, rfl, ho, lr⟩ := hrel
       by_cases hlt : m < 4
       ·have hc := hhas m wr (hl.trans lr)
        obtain ⟨o0, o1, o2, _, _, _⟩ := (hb.le lr).op
        have hol := outTo_len (fun i => decide ((i : Int) = (k : Int)) || inF xs i) m
        have hA := Le.alloc wr (.cells #[.int .i64 m] 3)
        have hone : Own (wr.alloc (.cells #[.int .i64 m] 3)) wr.heap.size (slV (some ⟨wr.heap.size, 0, none⟩, 1, 1)) [(m : Int)] := Own.lit wr _ (Nat.le_refl _) [(m : Int)] (by simp)
        have hrow : ∀ g, (slV q).ownBlock = some g → W.heap.size ≤ g := fun g e => (ho.block e).1
        by_cases hmk : (m : Int) = (k : Int)
        ·have HO : Hid (outTo (fun i => decide ((i : Int) = (k : Int)) || inF xs i) (m + 1) = outTo (fun i => decide ((i : Int) = (k : Int)) || inF xs i) m ++ [(m : Int)]) := hid (by simp [outTo, hmk])
         have e1 : ((m : Int) == (k : Int)) = true := by simp [hmk]
         have hk2 : m = k := by omega
         subst hk2
         clear hc hmk hhas
         go_wp2_with (at_builtin; refine wp_append_ints rfl _ _ rfl W.heap.size _ _ (outTo (fun i => decide ((i : Int) = (m : Int)) || inF xs i) m) [(m : Int)] rfl rfl (ho.le hA) hone.has (by simp; omega) (Nat.le_trans lr.size hA.size) ?_; intro v' w2 hown2 hgrow; obtain ⟨q2, rfl⟩ := hown2.has.sl)
         go_roundw
         case rel => exact ⟨m + 1, q2, by omega, rfl, by go_num, by rw [HO.out]; exact hown2, Below.grown (lr.trans hA) hgrow (Nat.le_trans lr.size hA.size) hrow⟩
         case measure => simp [intOf]; omega
        ·have e1 : ((m : Int) == (k : Int)) = false := by simp [hmk]
         have e2 : ((m : Int) != (k : Int)) = true := by simp [hmk]
         cases hin : inF xs m
         ·have HO : Hid (outTo (fun i => decide ((i : Int) = (k : Int)) || inF xs i) (m + 1) = outTo (fun i => decide ((i : Int) = (k : Int)) || inF xs i) m) := hid (by simp [outTo, hmk, hin])
          rw [show decide ((m : Int) ∈ xs) = false from hin] at hc
          clear hhas hin
          go_wp2_with fail
          refine hc.mono ?_
          rintro e w1 ⟨rfl, rfl⟩
          go_wp2
          go_roundw
          case rel => exact ⟨m + 1, q, by omega, rfl, by go_num, by rw [HO.out]; exact ho, lr⟩
          case measure => simp [intOf]; omega
         ·have HO : Hid (outTo (fun i => decide ((i : Int) = (k : Int)) || inF xs i) (m + 1) = outTo (fun i => decide ((i : Int) = (k : Int)) || inF xs i) m ++ [(m : Int)]) := hid (by simp [outTo, hin])
          rw [show decide ((m : Int) ∈ xs) = true from hin] at hc
          clear hhas hin
          go_wp2_with fail
          refine hc.mono ?_
          rintro e w1 ⟨rfl, rfl⟩
          go_wp2_with (at_builtin; refine wp_append_ints rfl _ _ rfl W.heap.size _ _ (outTo (fun i => decide ((i : Int) = (k : Int)) || inF xs i) m) [(m : Int)] rfl rfl (ho.le hA) hone.has (by simp; omega) (Nat.le_trans lr.size hA.size) ?_; intro v' w2 hown2 hgrow; obtain ⟨q2, rfl⟩ := hown2.has.sl)
          go_roundw
          case rel => exact ⟨m + 1, q2, by omega, rfl, by go_num, by rw [HO.out]; exact hown2, Below.grown (lr.trans hA) hgrow (Nat.le_trans lr.size hA.size) hrow⟩
          case measure => simp [intOf]; omega
       ·obtain rfl : m = 4 := by omega
        obtain ⟨o0, o1, o2, _, _, _⟩ := (hb.le lr).op
        go_wp2
        go_ret2
        rw [HQ.out]
        exact ⟨q, rfl, by rw [← HP.out]; exact ho.base (Nat.le_trans hbase hl.size), hl.trans lr⟩
   ·rw [show decide ((k : Int) ∈ xs) = true from hin] at hc
    have hk4 : k < 4 := by
      have := (in_rows xs (rowMay2_mem hm) k (by simpa [inF] using hin)).2
      omega
    have HD : Hid (∀ j, j < k + 1 → inF xs j = true) := hid (fun j hj => by rcases Nat.lt_or_eq_of_le (Nat.le_of_lt_succ hj) with h | h; exact HR.out j h; exact h ▸ hin)
    clear hhas hin HR
    go_wp2_with fail
    refine hc.mono ?_
    rintro e w1 ⟨rfl, rfl⟩
    go_wp2
    go_round
    case rel => exact ⟨k + 1, by omega, by go_num, HD⟩
    case measure => simp [intOf]; omega
set_option maxHeartbeats 2000000 in
theorem refFdsRow1 (v : Value) (xs : List Int) (r a : Int) (w : World) (base : Nat) (hown : Own w base v xs) (hbase : base ≤ w.heap.size) (hm : rowMay2 xs = true) :
   Calls Tryz.prog 48 #[v, opV 1 r a] w fun e w' => ∃ q : Sl, e = .returned (.tuple #[slV q, .int .i64 (takeS xs a).2]) ∧ Own w' base (slV q) (takeS xs a).1 ∧ Le w w' := by
 have hl := Le.alloc w (.cells #[.int .i64 1, .int .i64 r, .int .i64 a] 48)
 have hb := Box.new w #[.int .i64 1, .int .i64 r, .int .i64 a] 48
 have hlen := rowMay2_len hm
 obtain ⟨q0, rfl⟩ := hown.has.sl
 have hhas := fun (x : Int) (w' : World) (h : Le w w') => refHas (slV q0) xs x w' (hown.has.le h) (by omega)
 by_cases hin : a ∈ xs
 ·have hc := hhas a _ hl
  rw [show decide (a ∈ xs) = true by simp [hin]] at hc
  obtain ⟨hp1, hp2⟩ := out_take xs (rowMay2_mem hm) a hin
  have HP : Hid (outTo (fun i => !decide ((i : Int) = a) && inF xs i) 4 = (takeS xs a).1) := hp1
  have HQ : Hid ((takeS xs a).2 = 1) := hp2
  clear hp1 hp2 hin
  go_enter Tryz.func48, Tryz.ntmps48
  go_wp2_with fail
  refine hc.mono ?_
  rintro e w1 ⟨rfl, rfl⟩
  clear hc
  go_wp2
  generalize hW : w.alloc (.cells #[.int .i64 1, .int .i64 r, .int .i64 a] 48) = W at hl hb ⊢
  clear hW
  go_loopw [7, 8] (fun o i wr => ∃ (m : Nat) (q : Sl), m ≤ 4 ∧ o = slV q ∧ i = .int .i64 m ∧ Own wr W.heap.size (slV q) (outTo (fun i => !decide ((i : Int) = a) && inF xs i) m) ∧ Le W wr) (fun _ i _ => 4 - (intOf i).toNat)
  case atStart => exact ⟨0, slZ, by omega, rfl, rfl, Own.nil _ _, Le.refl _⟩
  case round =>
    obtain ⟨m, q, hm4, rfl, rfl, ho, lr⟩ := hrel
    by_cases hlt : m < 4
    ·have hc := hhas m wr (hl.trans lr)
     obtain ⟨o0, o1, o2, _, _, _⟩ := (hb.le lr).op
     have hol := outTo_len (fun i => !decide ((i : Int) = a) && inF xs i) m
     have hA := Le.alloc wr (.cells #[.int .i64 m] 3)
     have hone : Own (wr.alloc (.cells #[.int .i64 m] 3)) wr.heap.size (slV (some ⟨wr.heap.size, 0, none⟩, 1, 1)) [(m : Int)] := Own.lit wr _ (Nat.le_refl _) [(m : Int)] (by simp)
     have hrow : ∀ g, (slV q).ownBlock = some g → W.heap.size ≤ g := fun g e => (ho.block e).1
     by_cases hmk : (m : Int) = a
     ·have HO : Hid (outTo (fun i => !decide ((i : Int) = a) && inF xs i) (m + 1) = outTo (fun i => !decide ((i : Int) = a) && inF xs i) m) := hid (by simp [outTo, hmk])
      have e1 : ((m : Int) == a) = true := by simp [hmk]
      have e2 : ((m : Int) != a) = false := by simp [hmk]
      subst hmk
      clear hc hhas
      go_wp2
      go_roundw
      case rel => exact ⟨m + 1, q, by omega, rfl, by go_num, by rw [HO.out]; exact ho, lr⟩
      case measure => simp [intOf]; omega
     ·have e1 : ((m : Int) == a) = false := by simp [hmk]
      have e2 : ((m : Int) != a) = true := by simp [hmk]
      cases hin : inF xs m
      ·have HO : Hid (outTo (fun i => !decide ((i : Int) = a) && inF xs i) (m + 1) = outTo (fun i => !decide ((i : Int) = a) && inF xs i) m) := hid (by simp [outTo, hin])
       rw [show decide ((m : Int) ∈ xs) = false from hin] at hc
       clear hhas hin
       go_wp2_with fail
       refine hc.mono ?_
       rintro e w1 ⟨rfl, rfl⟩
       go_wp2
       go_roundw
       case rel => exact ⟨m + 1, q, by omega, rfl, by go_num, by rw [HO.out]; exact ho, lr⟩
       case measure => simp [intOf]; omega
      ·have HO : Hid (outTo (fun i => !decide ((i : Int) = a) && inF xs i) (m + 1) = outTo (fun i => !decide ((i : Int) = a) && inF xs i) m ++ [(m : Int)]) := hid (by simp [outTo, hin, hmk])
       rw [show decide ((m : Int) ∈ xs) = true from hin] at hc
       clear hhas hin
       go_wp2_with fail
       refine hc.mono ?_
       rintro e w1 ⟨rfl, rfl⟩
       go_wp2_with (at_builtin; refine wp_append_ints rfl _ _ rfl W.heap.size _ _ (outTo (fun i => !decide ((i : Int) = a) && inF xs i) m) [(m : Int)] rfl rfl (ho.le hA) hone.has (by simp; omega) (Nat.le_trans lr.size hA.size) ?_; intro v' w2 hown2 hgrow; obtain ⟨q2, rfl⟩ := hown2.has.sl)
       go_roundw
       case rel => exact ⟨m + 1, q2, by omega, rfl, by go_num, by rw [HO.out]; exact hown2, Below.grown (lr.trans hA) hgrow (Nat.le_trans lr.size hA.size) hrow⟩
       case measure => simp [intOf]; omega
    ·obtain rfl : m = 4 := by omega
     obtain ⟨o0, o1, o2, _, _, _⟩ := (hb.le lr).op
     go_wp2
     go_ret2
     rw [HQ.out]
     exact ⟨q, rfl, by rw [← HP.out]; exact ho.base (Nat.le_trans hbase hl.size), hl.trans lr⟩
 ·have hc := hhas a _ hl
  rw [show decide (a ∈ xs) = false by simp [hin]] at hc
  have HP : Hid (takeS xs a = (xs, 0)) := hid (take_out hin)
  clear hin hhas
  go_enter Tryz.func48, Tryz.ntmps48
  go_wp2_with fail
  refine hc.mono ?_
  rintro e w1 ⟨rfl, rfl⟩
  go_wp2
  go_ret2
  rw [HP.out]
  exact ⟨_, rfl, hown.le hl, hl⟩
theorem small_rows : ∀ xs ∈ rowsAbove 4, xs.length ≤ 4 ∧ ∀ x ∈ xs, 0 ≤ x ∧ x ≤ 255 := by decide
theorem small2 {s : St} (hm : s.all rowMay2 = true) : ∀ k, k < 4 → Small (s.at k) := fun _ hk => small_rows _ (rowMay2_mem (St.all_at hm hk))
set_option maxHeartbeats 2000000 in
theorem refFdsNo (v : Value) (s : St) (c r a er : Int) (w : World) (hx : HasS w v s) (_hf : Fit s) (h : (s.all rowMay2 && opMay c r a) = false) :
   Calls Tryz.prog 16 #[.int .i64 1, v, opV c r a, .int .i64 er] w fun e w' => e = .returned (.tuple #[stZ, .int .i64 0, .int .i64 er]) ∧ Le w w' := by
 have hx0 := hx
 obtain ⟨vs, rfl, hr⟩ := hx
 have hl := ((Le.alloc w (.cells (cells4 vs) 44)).trans (Le.alloc _ (.cells #[.int .i64 c, .int .i64 r, .int .i64 a] 48))).trans (Le.alloc _ (.cells (cells4 fun _ => slZ) 44))
 have hb1 := ((Box.new w (cells4 vs) 44).le (Le.alloc _ (.cells #[.int .i64 c, .int .i64 r, .int .i64 a] 48))).le (Le.alloc _ (.cells (cells4 fun _ => slZ) 44))
 have hb2 := (Box.new (w.alloc (.cells (cells4 vs) 44)) #[.int .i64 c, .int .i64 r, .int .i64 a] 48).le (Le.alloc _ (.cells (cells4 fun _ => slZ) 44))
 have hb3 := Box.new ((w.alloc (.cells (cells4 vs) 44)).alloc (.cells #[.int .i64 c, .int .i64 r, .int .i64 a] 48)) (cells4 fun _ => slZ) 44
 simp only [World.size_alloc] at hb1 hb2 hb3
 have hmay := refStateMay1 (stV vs) s _ (hx0.le hl)
 cases hm : s.all rowMay2
 ·rw [hm] at hmay
  go_enter Tryz.func16, Tryz.ntmps16
  go_wp2_with fail
  refine hmay.mono ?_
  rintro e w1 ⟨rfl, l1⟩
  obtain ⟨z0, z1, z2, z3, f0, f1, f2, f3⟩ := (hb3.le l1).st
  go_wp2_with fail
  refine bodyPost_ret (v := .tuple #[stZ, .int .i64 0, .int .i64 er]) (by simp [results, Tryz.results16, go_sem, z0, z1, z2, z3]) rfl ⟨rfl, ?_⟩
  exact (hl.trans l1).set4 (by omega) _ _ _ _
 ·have hop : opMay c r a = false := by simpa [hm] using h
  rw [hm] at hmay
  go_enter Tryz.func16, Tryz.ntmps16
  go_wp2_with fail
  refine hmay.mono ?_
  rintro e w1 ⟨rfl, l1⟩
  obtain ⟨y0, y1, y2, _, _, _⟩ := (hb2.le l1).op
  go_wp2_with fail
  refine (refOperMay _ _ _ _).mono ?_
  rw [hop]
  rintro e w2 ⟨rfl, l2⟩
  obtain ⟨z0, z1, z2, z3, f0, f1, f2, f3⟩ := ((hb3.le l1).le l2).st
  go_wp2_with fail
  refine bodyPost_ret (v := .tuple #[stZ, .int .i64 0, .int .i64 er]) (by simp [results, Tryz.results16, go_sem, z0, z1, z2, z3]) rfl ⟨rfl, ?_⟩
  exact ((hl.trans l1).trans l2).set4 (by omega) _ _ _ _
set_option maxRecDepth 4000 in
set_option maxHeartbeats 4000000 in
theorem refFdsScan (v : Value) (s : St) (er : Int) (w : World) (hx : HasS w v s) (hf : Fit s) (hm : s.all rowMay2 = true) :
   Calls Tryz.prog 16 #[.int .i64 1, v, opV 3 0 0, .int .i64 er] w fun e w' => ∃ v', e = .returned (.tuple #[v', .int .i64 (manyTo s 4), .int .i64 0]) ∧ OwnS w' w.heap.size v' (s) ∧ Le w w' := by
 have hx0 := hx
 obtain ⟨vs, rfl, hr⟩ := hx
 have hl := ((Le.alloc w (.cells (cells4 vs) 44)).trans (Le.alloc _ (.cells #[.int .i64 3, .int .i64 0, .int .i64 0] 48))).trans (Le.alloc _ (.cells (cells4 fun _ => slZ) 44))
 have hb1 := ((Box.new w (cells4 vs) 44).le (Le.alloc _ (.cells #[.int .i64 3, .int .i64 0, .int .i64 0] 48))).le (Le.alloc _ (.cells (cells4 fun _ => slZ) 44))
 have hb2 := (Box.new (w.alloc (.cells (cells4 vs) 44)) #[.int .i64 3, .int .i64 0, .int .i64 0] 48).le (Le.alloc _ (.cells (cells4 fun _ => slZ) 44))
 have hb3 := Box.new ((w.alloc (.cells (cells4 vs) 44)).alloc (.cells #[.int .i64 3, .int .i64 0, .int .i64 0] 48)) (cells4 fun _ => slZ) 44
 simp only [World.size_alloc] at hb1 hb2 hb3
 have hmay := refStateMay1 (stV vs) s _ (hx0.le hl)
 rw [hm] at hmay
 have hop : opMay 3 0 0 = true := by decide
 have hsm := small2 hm
 go_enter Tryz.func16, Tryz.ntmps16
 go_wp2_with fail
 refine hmay.mono ?_
 rintro e w1 ⟨rfl, l1⟩
 obtain ⟨y0, y1, y2, _, _, _⟩ := (hb2.le l1).op
 clear hmay
 go_wp2_with fail
 refine (refOperMay _ _ _ _).mono ?_
 rw [hop]
 rintro e w2 ⟨rfl, l2⟩
 replace l1 := l1.trans l2
 clear l2 y0 y1 y2
 obtain ⟨y0, y1, y2, y3, _, _, _, _⟩ := (hb1.le l1).st
 go_wp2_with fail
 refine (refCopyState (stV vs) s _ (hx0.le (hl.trans l1)) hf).mono ?_
 rintro e w3 ⟨_, rfl, ⟨us, rfl, hown⟩, l3⟩
 replace hown := fun i hi => (hown i hi).base (base' := w.heap.size) (hl.trans l1).size
 replace l1 := l1.trans l3
 clear l3 y0 y1 y2 y3
 have n0 : w.heap.size + 1 + 1 < w3.heap.size := (hb3.le l1).lt
 have n1 : ¬ w.heap.size + 1 + 1 = w3.heap.size := by omega
 have n2 : ¬ w.heap.size + 1 + 1 = w.heap.size := by omega
 have n3 : ¬ w.heap.size + 1 + 1 = w.heap.size + 1 := by omega
 have hb4 := Box.new w3 (cells4 us) 44
 replace l1 := l1.trans (Le.alloc w3 (.cells (cells4 us) 44))
 replace hown := fun i hi => (hown i hi).le (Le.alloc w3 (.cells (cells4 us) 44))
 go_wp2_with fail
 generalize hW : w3.alloc (.cells (cells4 us) 44) = W at hb4 l1 hown ⊢
 clear hW
 go_loop [12, 13, 14] (fun t m i => ∃ j : Nat, j ≤ 4 ∧ i = .int .i64 j ∧ t = .int .i64 (sumTo s j) ∧ m = .int .i64 (manyTo s j)) (fun _ _ i => 4 - (intOf i).toNat)
 case atStart => exact ⟨0, by omega, rfl, rfl, rfl⟩
 case round =>
   obtain ⟨j, hj, rfl, rfl, rfl⟩ := hrel
   by_cases hlt : j < 4
   ·have c1 : W.cell? ⟨w.heap.size, j, none⟩ = some (slV (vs j)) := ((hb1.le l1).cell j).trans (cells4_at vs hlt)
    obtain ⟨b0, b1⟩ := sumTo_small hsm j hj
    obtain ⟨b2, b3⟩ := manyTo_bounds (m := 4) (fun i hi => (hsm i hi).1) j hj
    obtain ⟨ad, cap, hv, hc, _, hcell⟩ := (hr j hlt).le (hl.trans l1)
    have hs : sumTo s (j + 1) = sumTo s j + sumOf (s.at j) (s.at j).length := by rw [sumOf_all]; rfl
    have hn : manyTo s (j + 1) = manyTo s j + (s.at j).length := rfl
    have hsj := hsm j hlt
    have hlj := hsj.1
    rw [hv] at c1
    obtain ⟨T, hT⟩ : ∃ T, T = sumTo s j := ⟨_, rfl⟩
    obtain ⟨M, hM⟩ : ∃ M, M = manyTo s j := ⟨_, rfl⟩
    obtain ⟨L, hL⟩ : ∃ L, L = (s.at j).length := ⟨_, rfl⟩
    rw [← hT] at b0 b1 hs ⊢
    rw [← hM] at b2 b3 hn ⊢
    rw [← hL] at c1 hc hcell hs hn hlj
    have HS : Hid (sumTo s (j + 1) = T + sumOf (s.at j) L) := hs
    have HN : Hid (manyTo s (j + 1) = M + L) := hn
    have HL : Hid (L = (s.at j).length) := hL
    clear hs hn hv hm hr hown hb1 hb2 hb3 hb4 hop n0 n1 n2 n3 hT hM hL hsm
    go_wp2
    go_loop [12, 15] (fun t i => ∃ m : Nat, m ≤ L ∧ i = .int .i64 m ∧ t = .int .i64 (T + sumOf (s.at j) m)) (fun _ i => L - (intOf i).toNat)
    case atStart => exact ⟨0, by omega, rfl, by simp [sumOf]⟩
    case round =>
      obtain ⟨m, hmL, rfl, rfl⟩ := hrel
      obtain ⟨d0, d1⟩ := hsj.sum m (by rw [← HL.out]; exact hmL)
      by_cases hlt2 : m < L
      ·obtain ⟨b, off, rfl, hcl⟩ := hcell (by omega)
       have c2 := hcl m hlt2
       have hst := sumOf_step (xs := s.at j) (m := m) (by rw [← HL.out]; exact hlt2)
       obtain ⟨d2, d3⟩ := hsj.at (m := m) (by rw [← HL.out]; exact hlt2)
       obtain ⟨x, hx⟩ : ∃ x, x = (s.at j).getD m 0 := ⟨_, rfl⟩
       rw [← hx] at c2 hst d2 d3
       obtain ⟨t, ht⟩ : ∃ t, t = sumOf (s.at j) m := ⟨_, rfl⟩
       rw [← ht] at hst d0 d1 ⊢
       have HT : Hid (sumOf (s.at j) (m + 1) = t + x) := hst
       have m0 : (0 : Int) ≤ (m : Int) := by omega
       have m1 : (m : Int) < (L : Int) := by omega
       clear hst ht hx hcl hcell hsj
       go_wp2
       go_round
       case rel => exact ⟨m + 1, by omega, by go_num, by rw [HT.out, Int.add_assoc]⟩
       case measure => simp [intOf]; omega
      ·obtain rfl : m = L := by omega
       clear hcell hsj
       go_wp2
       go_round
       case rel => exact ⟨j + 1, by omega, by go_num, by rw [HS.out], by rw [HN.out]⟩
       case measure => simp [intOf]; omega
   ·obtain rfl : j = 4 := by omega
    clear hlt hj
    obtain ⟨y0, y1, y2, y3, _, _, _, _⟩ := hb4.st
    obtain ⟨z0, z1, z2, z3, f0, f1, f2, f3⟩ := (hb3.le l1).st
    obtain ⟨o0, o1, o2, _, _, _⟩ := (hb2.le l1).op
    go_wp2_with fail
    refine bodyPost_ret (v := .tuple #[stV us, .int .i64 (manyTo s 4), .int .i64 0]) (by simp [results, Tryz.results16, go_sem, z0, z1, z2, z3]) rfl ⟨_, rfl, ⟨us, rfl, fun i hi => ?_⟩, ?_⟩
    ·exact (hown i hi).set4 (hb3.le l1) (by decide) _ _ _ _
    ·exact (hl.trans l1).set4 (by omega) _ _ _ _
set_option maxRecDepth 4000 in
set_option maxHeartbeats 4000000 in
theorem refFdsLook (v : Value) (s : St) (k : Nat) (er : Int) (w : World) (hx : HasS w v s) (hf : Fit s) (hm : s.all rowMay2 = true) (hk : k < 4) :
   Calls Tryz.prog 16 #[.int .i64 1, v, opV 2 k 0, .int .i64 er] w fun e w' => ∃ v', e = .returned (.tuple #[v', .int .i64 ((s.at k).length : Int), .int .i64 0]) ∧ OwnS w' w.heap.size v' (s) ∧ Le w w' := by
 have hx0 := hx
 obtain ⟨vs, rfl, hr⟩ := hx
 have hl := ((Le.alloc w (.cells (cells4 vs) 44)).trans (Le.alloc _ (.cells #[.int .i64 2, .int .i64 k, .int .i64 0] 48))).trans (Le.alloc _ (.cells (cells4 fun _ => slZ) 44))
 have hb1 := ((Box.new w (cells4 vs) 44).le (Le.alloc _ (.cells #[.int .i64 2, .int .i64 k, .int .i64 0] 48))).le (Le.alloc _ (.cells (cells4 fun _ => slZ) 44))
 have hb2 := (Box.new (w.alloc (.cells (cells4 vs) 44)) #[.int .i64 2, .int .i64 k, .int .i64 0] 48).le (Le.alloc _ (.cells (cells4 fun _ => slZ) 44))
 have hb3 := Box.new ((w.alloc (.cells (cells4 vs) 44)).alloc (.cells #[.int .i64 2, .int .i64 k, .int .i64 0] 48)) (cells4 fun _ => slZ) 44
 simp only [World.size_alloc] at hb1 hb2 hb3
 have hmay := refStateMay1 (stV vs) s _ (hx0.le hl)
 rw [hm] at hmay
 have hop : opMay 2 k 0 = true := by simp [opMay]; omega
 have hsm := small2 hm
 go_enter Tryz.func16, Tryz.ntmps16
 go_wp2_with fail
 refine hmay.mono ?_
 rintro e w1 ⟨rfl, l1⟩
 obtain ⟨y0, y1, y2, _, _, _⟩ := (hb2.le l1).op
 clear hmay
 go_wp2_with fail
 refine (refOperMay _ _ _ _).mono ?_
 rw [hop]
 rintro e w2 ⟨rfl, l2⟩
 replace l1 := l1.trans l2
 clear l2 y0 y1 y2
 obtain ⟨y0, y1, y2, y3, _, _, _, _⟩ := (hb1.le l1).st
 go_wp2_with fail
 refine (refCopyState (stV vs) s _ (hx0.le (hl.trans l1)) hf).mono ?_
 rintro e w3 ⟨_, rfl, ⟨us, rfl, hown⟩, l3⟩
 replace hown := fun i hi => (hown i hi).base (base' := w.heap.size) (hl.trans l1).size
 replace l1 := l1.trans l3
 clear l3 y0 y1 y2 y3
 have n0 : w.heap.size + 1 + 1 < w3.heap.size := (hb3.le l1).lt
 have n1 : ¬ w.heap.size + 1 + 1 = w3.heap.size := by omega
 have n2 : ¬ w.heap.size + 1 + 1 = w.heap.size := by omega
 have n3 : ¬ w.heap.size + 1 + 1 = w.heap.size + 1 := by omega
 have hb4 := Box.new w3 (cells4 us) 44
 replace l1 := l1.trans (Le.alloc w3 (.cells (cells4 us) 44))
 replace hown := fun i hi => (hown i hi).le (Le.alloc w3 (.cells (cells4 us) 44))
 go_wp2_with fail
 generalize hW : w3.alloc (.cells (cells4 us) 44) = W at hb4 l1 hown ⊢
 clear hW
 go_loop [12, 13, 14] (fun t m i => ∃ j : Nat, j ≤ 4 ∧ i = .int .i64 j ∧ t = .int .i64 (sumTo s j) ∧ m = .int .i64 (manyTo s j)) (fun _ _ i => 4 - (intOf i).toNat)
 case atStart => exact ⟨0, by omega, rfl, rfl, rfl⟩
 case round =>
   obtain ⟨j, hj, rfl, rfl, rfl⟩ := hrel
   by_cases hlt : j < 4
   ·have c1 : W.cell? ⟨w.heap.size, j, none⟩ = some (slV (vs j)) := ((hb1.le l1).cell j).trans (cells4_at vs hlt)
    obtain ⟨b0, b1⟩ := sumTo_small hsm j hj
    obtain ⟨b2, b3⟩ := manyTo_bounds (m := 4) (fun i hi => (hsm i hi).1) j hj
    obtain ⟨ad, cap, hv, hc, _, hcell⟩ := (hr j hlt).le (hl.trans l1)
    have hs : sumTo s (j + 1) = sumTo s j + sumOf (s.at j) (s.at j).length := by rw [sumOf_all]; rfl
    have hn : manyTo s (j + 1) = manyTo s j + (s.at j).length := rfl
    have hsj := hsm j hlt
    have hlj := hsj.1
    rw [hv] at c1
    obtain ⟨T, hT⟩ : ∃ T, T = sumTo s j := ⟨_, rfl⟩
    obtain ⟨M, hM⟩ : ∃ M, M = manyTo s j := ⟨_, rfl⟩
    obtain ⟨L, hL⟩ : ∃ L, L = (s.at j).length := ⟨_, rfl⟩
    rw [← hT] at b0 b1 hs ⊢
    rw [← hM] at b2 b3 hn ⊢
    rw [← hL] at c1 hc hcell hs hn hlj
    have HS : Hid (sumTo s (j + 1) = T + sumOf (s.at j) L) := hs
    have HN : Hid (manyTo s (j + 1) = M + L) := hn
    have HL : Hid (L = (s.at j).length) := hL
    clear hs hn hv hm hr hown hb1 hb2 hb3 hb4 hop n0 n1 n2 n3 hT hM hL hsm
    go_wp2
    go_loop [12, 15] (fun t i => ∃ m : Nat, m ≤ L ∧ i = .int .i64 m ∧ t = .int .i64 (T + sumOf (s.at j) m)) (fun _ i => L - (intOf i).toNat)
    case atStart => exact ⟨0, by omega, rfl, by simp [sumOf]⟩
    case round =>
      obtain ⟨m, hmL, rfl, rfl⟩ := hrel
      obtain ⟨d0, d1⟩ := hsj.sum m (by rw [← HL.out]; exact hmL)
      by_cases hlt2 : m < L
      ·obtain ⟨b, off, rfl, hcl⟩ := hcell (by omega)
       have c2 := hcl m hlt2
       have hst := sumOf_step (xs := s.at j) (m := m) (by rw [← HL.out]; exact hlt2)
       obtain ⟨d2, d3⟩ := hsj.at (m := m) (by rw [← HL.out]; exact hlt2)
       obtain ⟨x, hx⟩ : ∃ x, x = (s.at j).getD m 0 := ⟨_, rfl⟩
       rw [← hx] at c2 hst d2 d3
       obtain ⟨t, ht⟩ : ∃ t, t = sumOf (s.at j) m := ⟨_, rfl⟩
       rw [← ht] at hst d0 d1 ⊢
       have HT : Hid (sumOf (s.at j) (m + 1) = t + x) := hst
       have m0 : (0 : Int) ≤ (m : Int) := by omega
       have m1 : (m : Int) < (L : Int) := by omega
       clear hst ht hx hcl hcell hsj
       go_wp2
       go_round
       case rel => exact ⟨m + 1, by omega, by go_num, by rw [HT.out, Int.add_assoc]⟩
       case measure => simp [intOf]; omega
      ·obtain rfl : m = L := by omega
       clear hcell hsj
       go_wp2
       go_round
       case rel => exact ⟨j + 1, by omega, by go_num, by rw [HS.out], by rw [HN.out]⟩
       case measure => simp [intOf]; omega
   ·obtain rfl : j = 4 := by omega
    clear hlt hj
    obtain ⟨y0, y1, y2, y3, _, _, _, _⟩ := hb4.st
    obtain ⟨z0, z1, z2, z3, f0, f1, f2, f3⟩ := (hb3.le l1).st
    obtain ⟨o0, o1, o2, _, _, _⟩ := (hb2.le l1).op
    have k0 : (0 : Int) ≤ (k : Int) := by omega
    have k1 : (k : Int) < 4 := by omega
    have yk : W.cell? ⟨w3.heap.size, k, none⟩ = some (slV (us k)) := (hb4.cell k).trans (cells4_at us hk)
    have hle : (us k).2.1 = (s.at k).length := by
      obtain ⟨ad, cap, e, _⟩ := (hown k hk).has
      simp only [Value.slice.injEq] at e
      exact e.2.1
    go_wp2_with fail
    refine bodyPost_ret (v := .tuple #[stV us, .int .i64 ((s.at k).length : Int), .int .i64 0]) (by simp [results, Tryz.results16, go_sem, z0, z1, z2, z3]) rfl ⟨_, rfl, ⟨us, rfl, fun i hi => ?_⟩, ?_⟩
    ·exact (hown i hi).set4 (hb3.le l1) (by decide) _ _ _ _
    ·exact (hl.trans l1).set4 (by omega) _ _ _ _
set_option maxRecDepth 4000 in
set_option maxHeartbeats 4000000 in
theorem refFdsFirst (v : Value) (s : St) (k : Nat) (a : Int) (er : Int) (w : World) (hx : HasS w v s) (hf : Fit s) (hm : s.all rowMay2 = true) (hk : k < 4) (ha : 0 ≤ a ∧ a ≤ 255) :
   Calls Tryz.prog 16 #[.int .i64 1, v, opV 0 k a, .int .i64 er] w fun e w' => ∃ v', e = .returned (.tuple #[v', .int .i64 (putS (s.at k)).2, .int .i64 0]) ∧ OwnS w' w.heap.size v' (s.put k (putS (s.at k)).1) ∧ Le w w' := by
 have hx0 := hx
 obtain ⟨vs, rfl, hr⟩ := hx
 have hl := ((Le.alloc w (.cells (cells4 vs) 44)).trans (Le.alloc _ (.cells #[.int .i64 0, .int .i64 k, .int .i64 a] 48))).trans (Le.alloc _ (.cells (cells4 fun _ => slZ) 44))
 have hb1 := ((Box.new w (cells4 vs) 44).le (Le.alloc _ (.cells #[.int .i64 0, .int .i64 k, .int .i64 a] 48))).le (Le.alloc _ (.cells (cells4 fun _ => slZ) 44))
 have hb2 := (Box.new (w.alloc (.cells (cells4 vs) 44)) #[.int .i64 0, .int .i64 k, .int .i64 a] 48).le (Le.alloc _ (.cells (cells4 fun _ => slZ) 44))
 have hb3 := Box.new ((w.alloc (.cells (cells4 vs) 44)).alloc (.cells #[.int .i64 0, .int .i64 k, .int .i64 a] 48)) (cells4 fun _ => slZ) 44
 simp only [World.size_alloc] at hb1 hb2 hb3
 have hmay := refStateMay1 (stV vs) s _ (hx0.le hl)
 rw [hm] at hmay
 have hop : opMay 0 k a = true := by simp [opMay]; omega
 have hsm := small2 hm
 go_enter Tryz.func16, Tryz.ntmps16
 go_wp2_with fail
 refine hmay.mono ?_
 rintro e w1 ⟨rfl, l1⟩
 obtain ⟨y0, y1, y2, _, _, _⟩ := (hb2.le l1).op
 clear hmay
 go_wp2_with fail
 refine (refOperMay _ _ _ _).mono ?_
 rw [hop]
 rintro e w2 ⟨rfl, l2⟩
 replace l1 := l1.trans l2
 clear l2 y0 y1 y2
 obtain ⟨y0, y1, y2, y3, _, _, _, _⟩ := (hb1.le l1).st
 go_wp2_with fail
 refine (refCopyState (stV vs) s _ (hx0.le (hl.trans l1)) hf).mono ?_
 rintro e w3 ⟨_, rfl, ⟨us, rfl, hown⟩, l3⟩
 replace hown := fun i hi => (hown i hi).base (base' := w.heap.size) (hl.trans l1).size
 replace l1 := l1.trans l3
 clear l3 y0 y1 y2 y3
 have n0 : w.heap.size + 1 + 1 < w3.heap.size := (hb3.le l1).lt
 have n1 : ¬ w.heap.size + 1 + 1 = w3.heap.size := by omega
 have n2 : ¬ w.heap.size + 1 + 1 = w.heap.size := by omega
 have n3 : ¬ w.heap.size + 1 + 1 = w.heap.size + 1 := by omega
 have hb4 := Box.new w3 (cells4 us) 44
 replace l1 := l1.trans (Le.alloc w3 (.cells (cells4 us) 44))
 replace hown := fun i hi => (hown i hi).le (Le.alloc w3 (.cells (cells4 us) 44))
 go_wp2_with fail
 generalize hW : w3.alloc (.cells (cells4 us) 44) = W at hb4 l1 hown ⊢
 clear hW
 go_loop [12, 13, 14] (fun t m i => ∃ j : Nat, j ≤ 4 ∧ i = .int .i64 j ∧ t = .int .i64 (sumTo s j) ∧ m = .int .i64 (manyTo s j)) (fun _ _ i => 4 - (intOf i).toNat)
 case atStart => exact ⟨0, by omega, rfl, rfl, rfl⟩
 case round =>
   obtain ⟨j, hj, rfl, rfl, rfl⟩ := hrel
   by_cases hlt : j < 4
   ·have c1 : W.cell? ⟨w.heap.size, j, none⟩ = some (slV (vs j)) := ((hb1.le l1).cell j).trans (cells4_at vs hlt)
    obtain ⟨b0, b1⟩ := sumTo_small hsm j hj
    obtain ⟨b2, b3⟩ := manyTo_bounds (m := 4) (fun i hi => (hsm i hi).1) j hj
    obtain ⟨ad, cap, hv, hc, _, hcell⟩ := (hr j hlt).le (hl.trans l1)
    have hs : sumTo s (j + 1) = sumTo s j + sumOf (s.at j) (s.at j).length := by rw [sumOf_all]; rfl
    have hn : manyTo s (j + 1) = manyTo s j + (s.at j).length := rfl
    have hsj := hsm j hlt
    have hlj := hsj.1
    rw [hv] at c1
    obtain ⟨T, hT⟩ : ∃ T, T = sumTo s j := ⟨_, rfl⟩
    obtain ⟨M, hM⟩ : ∃ M, M = manyTo s j := ⟨_, rfl⟩
    obtain ⟨L, hL⟩ : ∃ L, L = (s.at j).length := ⟨_, rfl⟩
    rw [← hT] at b0 b1 hs ⊢
    rw [← hM] at b2 b3 hn ⊢
    rw [← hL] at c1 hc hcell hs hn hlj
    have HS : Hid (sumTo s (j + 1) = T + sumOf (s.at j) L) := hs
    have HN : Hid (manyTo s (j + 1) = M + L) := hn
    have HL : Hid (L = (s.at j).length) := hL
    clear hs hn hv hm hr hown hb1 hb2 hb3 hb4 hop n0 n1 n2 n3 hT hM hL hsm
    go_wp2
    go_loop [12, 15] (fun t i => ∃ m : Nat, m ≤ L ∧ i = .int .i64 m ∧ t = .int .i64 (T + sumOf (s.at j) m)) (fun _ i => L - (intOf i).toNat)
    case atStart => exact ⟨0, by omega, rfl, by simp [sumOf]⟩
    case round =>
      obtain ⟨m, hmL, rfl, rfl⟩ := hrel
      obtain ⟨d0, d1⟩ := hsj.sum m (by rw [← HL.out]; exact hmL)
      by_cases hlt2 : m < L
      ·obtain ⟨b, off, rfl, hcl⟩ := hcell (by omega)
       have c2 := hcl m hlt2
       have hst := sumOf_step (xs := s.at j) (m := m) (by rw [← HL.out]; exact hlt2)
       obtain ⟨d2, d3⟩ := hsj.at (m := m) (by rw [← HL.out]; exact hlt2)
       obtain ⟨x, hx⟩ : ∃ x, x = (s.at j).getD m 0 := ⟨_, rfl⟩
       rw [← hx] at c2 hst d2 d3
       obtain ⟨t, ht⟩ : ∃ t, t = sumOf (s.at j) m := ⟨_, rfl⟩
       rw [← ht] at hst d0 d1 ⊢
       have HT : Hid (sumOf (s.at j) (m + 1) = t + x) := hst
       have m0 : (0 : Int) ≤ (m : Int) := by omega
       have m1 : (m : Int) < (L : Int) := by omega
       clear hst ht hx hcl hcell hsj
       go_wp2
       go_round
       case rel => exact ⟨m + 1, by omega, by go_num, by rw [HT.out, Int.add_assoc]⟩
       case measure => simp [intOf]; omega
      ·obtain rfl : m = L := by omega
       clear hcell hsj
       go_wp2
       go_round
       case rel => exact ⟨j + 1, by omega, by go_num, by rw [HS.out], by rw [HN.out]⟩
       case measure => simp [intOf]; omega
   ·obtain rfl : j = 4 := by omega
    clear hlt hj
    have k0 : (0 : Int) ≤ (k : Int) := by omega
    have k1 : (k : Int) < 4 := by omega
    have yk : W.cell? ⟨w3.heap.size, k, none⟩ = some (slV (us k)) := (hb4.cell k).trans (cells4_at us hk)
    obtain ⟨o0, o1, o2, _, _, _⟩ := (hb2.le l1).op
    have hrow := refFdsRow0 (slV (us k)) (s.at k) k a W w.heap.size (hown k hk) (hl.trans l1).size (St.all_at hm hk)
    go_wp2_with fail
    refine hrow.mono ?_
    rintro e w4 ⟨q, rfl, hnew, l4⟩
    clear o0 o1 o2 yk hrow
    replace l1 := l1.trans l4
    replace hb4 := hb4.le l4
    replace hown := fun i hi => (hown i hi).le l4
    have yk : w4.cell? ⟨w3.heap.size, k, none⟩ = some (slV (us k)) := (hb4.cell k).trans (cells4_at us hk)
    have yf := hb4.frozen k
    obtain ⟨o0, o1, o2, _, _, _⟩ := (hb2.le l1).op
    go_upto_region 30 with fail
    replace hown := fun i hi => (hown i hi).setBox (i := k) (u := slV q) hb4 (by decide)
    replace hnew := hnew.setBox (i := k) (u := slV q) hb4 (by decide)
    replace hb4 := hb4.set k (slV q)
    rw [cells4_upd us hk] at hb4
    replace l1 : Le _ (w4.setCell ⟨w3.heap.size, k, none⟩ (slV q)) := Below.setCell l1 (by simp only [World.size_alloc]; show w.heap.size + 1 + 1 + 1 ≤ w3.heap.size; omega) _
    clear o0 o1 o2 yk yf
    generalize hW2 : w4.setCell ⟨w3.heap.size, k, none⟩ (slV q) = W2 at hb4 l1 hown hnew ⊢
    replace hown : ∀ i, i < 4 → Own W2 w.heap.size (slV (upd us k q i)) ((s.put k (putS (s.at k)).1).at i) := by
      intro i hi
      rw [St.at_put hk hi]
      by_cases e : i = k
      ·rw [if_pos e, show upd us k q i = q by simp [upd, e]]; exact hnew
      ·rw [if_neg e, show upd us k q i = us i by simp [upd, e]]; exact hown i hi
    generalize upd us k q = us at hb4 hown
    clear hW2 hnew
    obtain ⟨y0, y1, y2, y3, _, _, _, _⟩ := hb4.st
    obtain ⟨z0, z1, z2, z3, f0, f1, f2, f3⟩ := (hb3.le l1).st
    go_wp2_with fail
    refine bodyPost_ret (v := .tuple #[stV us, .int .i64 (putS (s.at k)).2, .int .i64 0]) (by simp [results, Tryz.results16, go_sem, z0, z1, z2, z3]) rfl ⟨_, rfl, ⟨us, rfl, fun i hi => ?_⟩, ?_⟩
    ·exact (hown i hi).set4 (hb3.le l1) (by decide) _ _ _ _
    ·exact (hl.trans l1).set4 (by omega) _ _ _ _
set_option maxRecDepth 4000 in
set_option maxHeartbeats 4000000 in
theorem refFdsSecond (v : Value) (s : St) (k : Nat) (a : Int) (er : Int) (w : World) (hx : HasS w v s) (hf : Fit s) (hm : s.all rowMay2 = true) (hk : k < 4) (ha : 0 ≤ a ∧ a ≤ 255) :
   Calls Tryz.prog 16 #[.int .i64 1, v, opV 1 k a, .int .i64 er] w fun e w' => ∃ v', e = .returned (.tuple #[v', .int .i64 (takeS (s.at k) a).2, .int .i64 0]) ∧ OwnS w' w.heap.size v' (s.put k (takeS (s.at k) a).1) ∧ Le w w' := by
 have hx0 := hx
 obtain ⟨vs, rfl, hr⟩ := hx
 have hl := ((Le.alloc w (.cells (cells4 vs) 44)).trans (Le.alloc _ (.cells #[.int .i64 1, .int .i64 k, .int .i64 a] 48))).trans (Le.alloc _ (.cells (cells4 fun _ => slZ) 44))
 have hb1 := ((Box.new w (cells4 vs) 44).le (Le.alloc _ (.cells #[.int .i64 1, .int .i64 k, .int .i64 a] 48))).le (Le.alloc _ (.cells (cells4 fun _ => slZ) 44))
 have hb2 := (Box.new (w.alloc (.cells (cells4 vs) 44)) #[.int .i64 1, .int .i64 k, .int .i64 a] 48).le (Le.alloc _ (.cells (cells4 fun _ => slZ) 44))
 have hb3 := Box.new ((w.alloc (.cells (cells4 vs) 44)).alloc (.cells #[.int .i64 1, .int .i64 k, .int .i64 a] 48)) (cells4 fun _ => slZ) 44
 simp only [World.size_alloc] at hb1 hb2 hb3
 have hmay := refStateMay1 (stV vs) s _ (hx0.le hl)
 rw [hm] at hmay
 have hop : opMay 1 k a = true := by simp [opMay]; omega
 have hsm := small2 hm
 go_enter Tryz.func16, Tryz.ntmps16
 go_wp2_with fail
 refine hmay.mono ?_
 rintro e w1 ⟨rfl, l1⟩
 obtain ⟨y0, y1, y2, _, _, _⟩ := (hb2.le l1).op
 clear hmay
 go_wp2_with fail
 refine (refOperMay _ _ _ _).mono ?_
 rw [hop]
 rintro e w2 ⟨rfl, l2⟩
 replace l1 := l1.trans l2
 clear l2 y0 y1 y2
 obtain ⟨y0, y1, y2, y3, _, _, _, _⟩ := (hb1.le l1).st
 go_wp2_with fail
 refine (refCopyState (stV vs) s _ (hx0.le (hl.trans l1)) hf).mono ?_
 rintro e w3 ⟨_, rfl, ⟨us, rfl, hown⟩, l3⟩
 replace hown := fun i hi => (hown i hi).base (base' := w.heap.size) (hl.trans l1).size
 replace l1 := l1.trans l3
 clear l3 y0 y1 y2 y3
 have n0 : w.heap.size + 1 + 1 < w3.heap.size := (hb3.le l1).lt
 have n1 : ¬ w.heap.size + 1 + 1 = w3.heap.size := by omega
 have n2 : ¬ w.heap.size + 1 + 1 = w.heap.size := by omega
 have n3 : ¬ w.heap.size + 1 + 1 = w.heap.size + 1 := by omega
 have hb4 := Box.new w3 (cells4 us) 44
 replace l1 := l1.trans (Le.alloc w3 (.cells (cells4 us) 44))
 replace hown := fun i hi => (hown i hi).le (Le.alloc w3 (.cells (cells4 us) 44))
 go_wp2_with fail
 generalize hW : w3.alloc (.cells (cells4 us) 44) = W at hb4 l1 hown ⊢
 clear hW
 go_loop [12, 13, 14] (fun t m i => ∃ j : Nat, j ≤ 4 ∧ i = .int .i64 j ∧ t = .int .i64 (sumTo s j) ∧ m = .int .i64 (manyTo s j)) (fun _ _ i => 4 - (intOf i).toNat)
 case atStart => exact ⟨0, by omega, rfl, rfl, rfl⟩
 case round =>
   obtain ⟨j, hj, rfl, rfl, rfl⟩ := hrel
   by_cases hlt : j < 4
   ·have c1 : W.cell? ⟨w.heap.size, j, none⟩ = some (slV (vs j)) := ((hb1.le l1).cell j).trans (cells4_at vs hlt)
    obtain ⟨b0, b1⟩ := sumTo_small hsm j hj
    obtain ⟨b2, b3⟩ := manyTo_bounds (m := 4) (fun i hi => (hsm i hi).1) j hj
    obtain ⟨ad, cap, hv, hc, _, hcell⟩ := (hr j hlt).le (hl.trans l1)
    have hs : sumTo s (j + 1) = sumTo s j + sumOf (s.at j) (s.at j).length := by rw [sumOf_all]; rfl
    have hn : manyTo s (j + 1) = manyTo s j + (s.at j).length := rfl
    have hsj := hsm j hlt
    have hlj := hsj.1
    rw [hv] at c1
    obtain ⟨T, hT⟩ : ∃ T, T = sumTo s j := ⟨_, rfl⟩
    obtain ⟨M, hM⟩ : ∃ M, M = manyTo s j := ⟨_, rfl⟩
    obtain ⟨L, hL⟩ : ∃ L, L = (s.at j).length := ⟨_, rfl⟩
    rw [← hT] at b0 b1 hs ⊢
    rw [← hM] at b2 b3 hn ⊢
    rw [← hL] at c1 hc hcell hs hn hlj
    have HS : Hid (sumTo s (j + 1) = T + sumOf (s.at j) L) := hs
    have HN : Hid (manyTo s (j + 1) = M + L) := hn
    have HL : Hid (L = (s.at j).length) := hL
    clear hs hn hv hm hr hown hb1 hb2 hb3 hb4 hop n0 n1 n2 n3 hT hM hL hsm
    go_wp2
    go_loop [12, 15] (fun t i => ∃ m : Nat, m ≤ L ∧ i = .int .i64 m ∧ t = .int .i64 (T + sumOf (s.at j) m)) (fun _ i => L - (intOf i).toNat)
    case atStart => exact ⟨0, by omega, rfl, by simp [sumOf]⟩
    case round =>
      obtain ⟨m, hmL, rfl, rfl⟩ := hrel
      obtain ⟨d0, d1⟩ := hsj.sum m (by rw [← HL.out]; exact hmL)
      by_cases hlt2 : m < L
      ·obtain ⟨b, off, rfl, hcl⟩ := hcell (by omega)
       have c2 := hcl m hlt2
       have hst := sumOf_step (xs := s.at j) (m := m) (by rw [← HL.out]; exact hlt2)
       obtain ⟨d2, d3⟩ := hsj.at (m := m) (by rw [← HL.out]; exact hlt2)
       obtain ⟨x, hx⟩ : ∃ x, x = (s.at j).getD m 0 := ⟨_, rfl⟩
       rw [← hx] at c2 hst d2 d3
       obtain ⟨t, ht⟩ : ∃ t, t = sumOf (s.at j) m := ⟨_, rfl⟩
       rw [← ht] at hst d0 d1 ⊢
       have HT : Hid (sumOf (s.at j) (m + 1) = t + x) := hst
       have m0 : (0 : Int) ≤ (m : Int) := by omega
       have m1 : (m : Int) < (L : Int) := by omega
       clear hst ht hx hcl hcell hsj
       go_wp2
       go_round
       case rel => exact ⟨m + 1, by omega, by go_num, by rw [HT.out, Int.add_assoc]⟩
       case measure => simp [intOf]; omega
      ·obtain rfl : m = L := by omega
       clear hcell hsj
       go_wp2
       go_round
       case rel => exact ⟨j + 1, by omega, by go_num, by rw [HS.out], by rw [HN.out]⟩
       case measure => simp [intOf]; omega
   ·obtain rfl : j = 4 := by omega
    clear hlt hj
    have k0 : (0 : Int) ≤ (k : Int) := by omega
    have k1 : (k : Int) < 4 := by omega
    have yk : W.cell? ⟨w3.heap.size, k, none⟩ = some (slV (us k)) := (hb4.cell k).trans (cells4_at us hk)
    obtain ⟨o0, o1, o2, _, _, _⟩ := (hb2.le l1).op
    have hrow := refFdsRow1 (slV (us k)) (s.at k) k a W w.heap.size (hown k hk) (hl.trans l1).size (St.all_at hm hk)
    go_wp2_with fail
    refine hrow.mono ?_
    rintro e w4 ⟨q, rfl, hnew, l4⟩
    clear o0 o1 o2 yk hrow
    replace l1 := l1.trans l4
    replace hb4 := hb4.le l4
    replace hown := fun i hi => (hown i hi).le l4
    have yk : w4.cell? ⟨w3.heap.size, k, none⟩ = some (slV (us k)) := (hb4.cell k).trans (cells4_at us hk)
    have yf := hb4.frozen k
    obtain ⟨o0, o1, o2, _, _, _⟩ := (hb2.le l1).op
    go_upto_region 30 with fail
    replace hown := fun i hi => (hown i hi).setBox (i := k) (u := slV q) hb4 (by decide)
    replace hnew := hnew.setBox (i := k) (u := slV q) hb4 (by decide)
    replace hb4 := hb4.set k (slV q)
    rw [cells4_upd us hk] at hb4
    replace l1 : Le _ (w4.setCell ⟨w3.heap.size, k, none⟩ (slV q)) := Below.setCell l1 (by simp only [World.size_alloc]; show w.heap.size + 1 + 1 + 1 ≤ w3.heap.size; omega) _
    clear o0 o1 o2 yk yf
    generalize hW2 : w4.setCell ⟨w3.heap.size, k, none⟩ (slV q) = W2 at hb4 l1 hown hnew ⊢
    replace hown : ∀ i, i < 4 → Own W2 w.heap.size (slV (upd us k q i)) ((s.put k (takeS (s.at k) a).1).at i) := by
      intro i hi
      rw [St.at_put hk hi]
      by_cases e : i = k
      ·rw [if_pos e, show upd us k q i = q by simp [upd, e]]; exact hnew
      ·rw [if_neg e, show upd us k q i = us i by simp [upd, e]]; exact hown i hi
    generalize upd us k q = us at hb4 hown
    clear hW2 hnew
    obtain ⟨y0, y1, y2, y3, _, _, _, _⟩ := hb4.st
    obtain ⟨z0, z1, z2, z3, f0, f1, f2, f3⟩ := (hb3.le l1).st
    go_wp2_with fail
    refine bodyPost_ret (v := .tuple #[stV us, .int .i64 (takeS (s.at k) a).2, .int .i64 0]) (by simp [results, Tryz.results16, go_sem, z0, z1, z2, z3]) rfl ⟨_, rfl, ⟨us, rfl, fun i hi => ?_⟩, ?_⟩
    ·exact (hown i hi).set4 (hb3.le l1) (by decide) _ _ _ _
    ·exact (hl.trans l1).set4 (by omega) _ _ _ _
theorem refFds (v : Value) (s : St) (c r a er : Int) (w : World) (hx : HasS w v s) (hf : Fit s) :
   Calls Tryz.prog 16 #[.int .i64 1, v, opV c r a, .int .i64 er] w fun e w' => ∃ v', e = .returned (.tuple #[v', .int .i64 (fdsS s c r a er).2.1, .int .i64 (fdsS s c r a er).2.2]) ∧ OwnS w' w.heap.size v' (fdsS s c r a er).1 ∧ Le w w' := by
 cases h : s.all rowMay2 && opMay c r a
 ·rw [fdsS_no h]
  exact (refFdsNo v s c r a er w hx hf h).mono fun e w' ⟨he, hl⟩ => ⟨stZ, he, OwnS.zero _ _, hl⟩
 ·obtain ⟨hm, ho⟩ := Bool.and_eq_true_iff.mp h
  rcases opMay_cases ho with ⟨k, hk, rfl, rfl, ha⟩ | ⟨k, hk, rfl, rfl, ha⟩ | ⟨k, hk, rfl, rfl, rfl⟩ | ⟨rfl, rfl, rfl⟩
  ·rw [fdsS_first hm hk ha]; exact refFdsFirst v s k a er w hx hf hm hk ha
  ·rw [fdsS_second hm hk ha]; exact refFdsSecond v s k a er w hx hf hm hk ha
  ·rw [fdsS_look hm hk]; exact refFdsLook v s k er w hx hf hm hk
  ·rw [fdsS_scan hm]; exact refFdsScan v s er w hx hf hm
theorem rowMay3_eq (xs : List Int) : rowMay3 xs = (xs.all argB && decide (xs.length ≤ 4)) := by rw [rowMay3, Bool.and_comm]
set_option maxHeartbeats 400000 in
theorem refRowMay2 (v : Value) (xs : List Int) (w : World) (hx : Has w v xs) (hm : xs.length * 8 ≤ 140737488351232) :
   Calls Tryz.prog 84 #[.int .i64 2, v] w fun e w' => e = .returned (.bool (rowMay3 xs)) ∧ Le w w' := by
 have hl := Le.alloc w (.cells #[.int .i64 1, .int .i64 4, .int .i64 4] 3)
 obtain ⟨a, cap, rfl, hc, _, hx⟩ := hx
 rw [rowMay3_eq]
 by_cases h0 : 0 < xs.length
 ·obtain ⟨b, off, rfl, hcell⟩ := hx h0
  obtain ⟨L, hL⟩ : ∃ L, L = xs.length := ⟨_, rfl⟩
  rw [← hL] at hm hc hcell h0 ⊢
  have HL : Hid (L = xs.length) := hL
  clear hL hx
  go_enter Tryz.func84, Tryz.ntmps84
  go_wp2
  go_loopw [6] (fun i wr => ∃ k : Nat, k ≤ L ∧ i = .int .i64 k ∧ Hid ((xs.take k).all argB = true) ∧ Le (w.alloc (.cells #[.int .i64 1, .int .i64 4, .int .i64 4] 3)) wr) (fun i _ => L - (intOf i).toNat)
  case atStart => exact ⟨0, Nat.zero_le _, rfl, rfl, Le.refl _⟩
  case round =>
    obtain ⟨k, hk, rfl, HA, hle⟩ := hrel
    by_cases hlt : k < L
    ·obtain ⟨x, hxk⟩ : ∃ x, x = xs.getD k 0 := ⟨_, rfl⟩
     have hcx := hcell k hlt
     rw [← hxk] at hcx
     have c1 : ∀ X : Later wr, X.w.cell? ⟨b, off + k, none⟩ = some (.int .i64 x) := fun X => by
       have hb := World.block_lt_of_cell? w _ hcx
       rw [((hl.trans hle).trans X.le).cell (p := ⟨b, off + k, none⟩) hb]; exact hcx
     have HX : Hid (x = xs.getD k 0) := hxk
     clear hxk hcell hcx
     cases hh : argB x
     ·have hup := fun w' => refUpTo x 0 255 w'
      have hh' : (decide (0 ≤ x) && decide (x ≤ 255)) = false := hh
      simp only [hh'] at hup
      go_wp2_with fail
      refine wp_region_later (by kernel_rfl) (by kernel_rfl) ?_
      repeat (go_big_quiet_step (first | (go_at_call 80; exact Calls.later_same (hup _))))
      refine wpQuiet_nil ?_
      rintro _ ⟨y, rfl⟩
      go_wp2
      go_ret
      exact ⟨ret_bool (by rw [all_bad (p := argB) (k := k) (by rw [← HL.out]; exact hlt) (HX.out ▸ hh)]; rfl), (hl.trans hle).trans y.le⟩
     ·have hup := fun w' => refUpTo x 0 255 w'
      have hh' : (decide (0 ≤ x) && decide (x ≤ 255)) = true := hh
      simp only [hh'] at hup
      go_wp2_with fail
      refine wp_region_later (by kernel_rfl) (by kernel_rfl) ?_
      repeat (go_big_quiet_step (first | (go_at_call 80; exact Calls.later_same (hup _))))
      refine wpQuiet_nil ?_
      rintro _ ⟨y, rfl⟩
      go_wp2
      go_roundw
      case rel => exact ⟨k + 1, by omega, by go_num, by rw [all_take (by rw [← HL.out]; exact hlt), HA.out, ← HX.out, hh]; rfl, hle.trans y.le⟩
      case measure => simp [intOf]; omega
    ·go_wp2
     go_ret
     refine ⟨ret_bool ?_, hl.trans hle⟩
     have := HA.out
     rw [List.take_of_length_le (by have := HL.out; omega)] at this
     rw [this, Bool.true_and, decide_eq_decide]
     omega
 ·have hnil : xs = [] := by cases xs with | nil => rfl | cons _ _ => simp at h0
  subst hnil
  go_enter Tryz.func84, Tryz.ntmps84
  go_wp2
  refine wp_loop_rounds 1 ?_
  rw [rounds_succ]
  go_wp2
  go_ret
  exact ⟨ret_bool (by simp), hl⟩
set_option maxHeartbeats 400000 in
theorem refStateMay2 (v : Value) (s : St) (w : World) (hx : HasS w v s) (hf : Fit s) :
   Calls Tryz.prog 43 #[.int .i64 2, v] w fun e w' => e = .returned (.bool (s.all rowMay3)) ∧ Le w w' := by
 obtain ⟨vs, rfl, hr⟩ := hx
 have hl := Le.alloc w (.cells (cells4 vs) 44)
 have hb := Box.new w (cells4 vs) 44
 go_enter Tryz.func43, Tryz.ntmps43
 go_wp2
 go_loopw [5] (fun i wr => ∃ k : Nat, k ≤ 4 ∧ i = .int .i64 k ∧ Hid (∀ j, j < k → rowMay3 (s.at j) = true) ∧ Le (w.alloc (.cells (cells4 vs) 44)) wr) (fun i _ => 4 - (intOf i).toNat)
 case atStart => exact ⟨0, by omega, rfl, (fun j hj => by omega), Le.refl _⟩
 case round =>
   obtain ⟨k, hk, rfl, HA, hle⟩ := hrel
   by_cases hlt : k < 4
   ·have hm := refRowMay2 (slV (vs k)) (s.at k) wr ((hr k hlt).le (hl.trans hle)) (hf k hlt)
    have c1 : wr.cell? ⟨w.heap.size, k, none⟩ = some (slV (vs k)) := ((hb.le hle).cell k).trans (cells4_at vs hlt)
    cases hh : rowMay3 (s.at k)
    ·rw [hh] at hm
     go_wp2_with fail
     refine hm.mono ?_
     rintro e w1 ⟨rfl, l1⟩
     go_wp2
     go_ret
     exact ⟨ret_bool (St.all_not hlt hh).symm, (hl.trans hle).trans l1⟩
    ·rw [hh] at hm
     go_wp2_with fail
     refine hm.mono ?_
     rintro e w1 ⟨rfl, l1⟩
     go_wp2
     go_roundw
     case rel => exact ⟨k + 1, by omega, by go_num, (fun j hj => by rcases Nat.lt_or_eq_of_le (Nat.le_of_lt_succ hj) with h | h; exact HA.out j h; exact h ▸ hh), hle.trans l1⟩
     case measure => simp [intOf]; omega
   ·obtain rfl : k = 4 := by omega
    go_wp2
    go_ret
    exact ⟨ret_bool (St.all_of HA.out).symm, hl.trans hle⟩
set_option maxHeartbeats 1000000 in
theorem refQueueRow0 (v : Value) (xs : List Int) (r a : Int) (w : World) (base : Nat) (hown : Own w base v xs) (hbase : base ≤ w.heap.size) (hm : rowMay3 xs = true) :
   Calls Tryz.prog 49 #[v, opV 0 r a] w fun e w' => ∃ q : Sl, e = .returned (.tuple #[slV q, .int .i64 (enqS xs a).2]) ∧ Own w' base (slV q) (enqS xs a).1 ∧ Le w w' := by
 have hl := Le.alloc w (.cells #[.int .i64 0, .int .i64 r, .int .i64 a] 48)
 have hb := Box.new w #[.int .i64 0, .int .i64 r, .int .i64 a] 48
 have hlen := rowMay3_len hm
 have hown0 := hown
 obtain ⟨ad, cap, rfl, hc, _, hx⟩ := hown.has
 by_cases h4 : 4 ≤ xs.length
 ·have HP : Hid (enqS xs a = (xs, 0)) := hid (by simp [enqS, h4])
  have h5 : (4 : Int) ≤ (xs.length : Int) := by omega
  clear hx
  go_enter Tryz.func49, Tryz.ntmps49
  go_wp2
  go_ret2
  rw [HP.out]
  exact ⟨(ad, xs.length, cap), rfl, hown.le hl, hl⟩
 ·have HP : Hid (enqS xs a = (xs ++ [a], 1)) := hid (by simp [enqS, h4])
  have h5 : ¬ (4 : Int) ≤ (xs.length : Int) := by omega
  clear hx
  go_enter Tryz.func49, Tryz.ntmps49
  go_upto_region 4 with fail
  generalize hW : w.alloc (.cells #[.int .i64 0, .int .i64 r, .int .i64 a] 48) = W at hl hb ⊢
  clear hW
  have hA := Le.alloc W (.cells #[] 3)
  have hn1 : Own (W.alloc (.cells #[] 3)) W.heap.size (.slice (some ⟨W.heap.size, 0, none⟩) 0 0) [] := Own.lit W _ (Nat.le_refl _) [] (by decide)
  go_upto_region 5 with (at_builtin; refine wp_append_ints rfl _ _ rfl W.heap.size _ _ [] xs rfl rfl hn1 (hown0.has.le (hl.trans hA)) (by simp; omega) (by simp) ?_; intro v' w2 hown2 hgrow; rw [List.nil_append] at hown2; obtain ⟨q2, rfl⟩ := hown2.has.sl)
  have l2 : Le W w2 := Below.grown hA hgrow (by simp) (fun g e => by cases e; exact Nat.le_refl _)
  obtain ⟨o0, o1, o2, _, _, _⟩ := (hb.le l2).op
  have hA2 := Le.alloc w2 (.cells #[.int .i64 a] 3)
  have hone : Own (w2.alloc (.cells #[.int .i64 a] 3)) w2.heap.size (slV (some ⟨w2.heap.size, 0, none⟩, 1, 1)) [a] := Own.lit w2 _ (Nat.le_refl _) [a] (by simp)
  go_wp2_with (at_builtin; refine wp_append_ints rfl _ _ rfl W.heap.size _ _ xs [a] rfl rfl (hown2.le hA2) hone.has (by simp; omega) (Nat.le_trans l2.size hA2.size) ?_; intro v' w3 hown3 hgrow3; obtain ⟨q3, rfl⟩ := hown3.has.sl)
  go_ret2
  rw [HP.out]
  exact ⟨q3.1, q3.2.1, q3.2.2, rfl, hown3.base (Nat.le_trans hbase hl.size), hl.trans (Below.grown (l2.trans hA2) hgrow3 (Nat.le_trans l2.size hA2.size) (fun g e => (hown2.block e).1))⟩
set_option maxHeartbeats 1000000 in
theorem refQueueRow1 (v : Value) (xs : List Int) (r a : Int) (w : World) (base : Nat) (hown : Own w base v xs) (hbase : base ≤ w.heap.size) (hm : rowMay3 xs = true) :
   Calls Tryz.prog 49 #[v, opV 1 r a] w fun e w' => ∃ q : Sl, e = .returned (.tuple #[slV q, .int .i64 (deqS xs).2]) ∧ Own w' base (slV q) (deqS xs).1 ∧ Le w w' := by
 have hl := Le.alloc w (.cells #[.int .i64 1, .int .i64 r, .int .i64 a] 48)
 have hlen := rowMay3_len hm
 obtain ⟨ad, cap, rfl, hc, _, hx⟩ := hown.has
 match xs, hlen, hc, hx with
 | [], hlen, hc, hx =>
   go_enter Tryz.func49, Tryz.ntmps49
   go_wp2
   go_ret2
   exact ⟨slZ, rfl, Own.nil _ _, hl⟩
 | x :: zs, hlen, hc, hx =>
   obtain ⟨b, off, rfl, hcell⟩ := hx (by simp)
   have c0 : w.cell? ⟨b, off, none⟩ = some (.int .i64 x) := hcell 0 (by simp)
   obtain ⟨n, hn⟩ : ∃ n, n = zs.length := ⟨_, rfl⟩
   obtain ⟨A, hAe, hB⟩ : ∃ A, (if cap = 1 then some ⟨b, off, none⟩ else some ⟨b, off + 1, none⟩ : Option Addr) = A ∧ Has w (.slice A n (cap - 1)) zs := by
     refine ⟨_, rfl, _, _, by rw [← hn], by simp at hc; omega, (fun h => by split at h <;> cases h), fun hp => ?_⟩
     simp only [List.length_cons] at hc
     rw [if_neg (by omega)]
     refine ⟨b, off + 1, rfl, fun j hj => ?_⟩
     have := hcell (j + 1) (by simp; omega)
     rw [Nat.add_assoc, Nat.add_comm 1 j, this]
     rfl
   have HN : Hid (n = zs.length) := hn
   simp only [List.length_cons] at hc hlen ⊢
   rw [← hn] at hc hlen ⊢
   have n0 : ¬ (((n + 1 : Nat) : Int)) = 0 := by omega
   have n1 : (1 : Int) ≤ (n : Int) + 1 := by omega
   clear hx hcell hn
   go_enter Tryz.func49, Tryz.ntmps49
   go_upto_region 9 with fail
   replace c0 : (w.alloc (.cells #[.int .i64 1, .int .i64 r, .int .i64 a] 48)).cell? ⟨b, off, none⟩ = some (.int .i64 x) := by rw [hl.cell (p := ⟨b, off, none⟩) (World.block_lt_of_cell? w _ c0)]; exact c0
   replace hB := hB.le hl
   generalize hW : w.alloc (.cells #[.int .i64 1, .int .i64 r, .int .i64 a] 48) = W at hl c0 hB ⊢
   clear hW
   have hlt := World.block_lt_of_cell? W _ c0
   have hne : ¬ W.heap.size = b := by have : b < W.heap.size := hlt; omega
   have hA := (Le.drew W).trans (Le.alloc W.drew (.cells #[] 3))
   have hn1 : Own (W.drew.alloc (.cells #[] 3)) W.heap.size (.slice (some ⟨W.heap.size, 0, none⟩) 0 0) [] := Own.lit W.drew _ (Nat.le_refl _) [] (by decide)
   go_region_law ((refine step_append_ints rfl (.tmp 26) (.tmp 28) rfl W.heap.size (.slice (some ⟨W.heap.size, 0, none⟩) 0 0) (.slice A n (cap - 1)) [] zs (by simp [Act.eval]) (by simp [Act.eval]) hn1 (hB.le hA) (by simp; have := HN.out; omega) hA.size ?_; intro v1 w1 o1 g1; have l1 : Le W w1 := Below.grown hA g1 hA.size (fun g e => (by cases e; exact Nat.le_refl _)); have c1 : w1.cell? ⟨b, off, none⟩ = some (.int .i64 x) := (by rw [l1.cell (p := ⟨b, off, none⟩) hlt]; exact c0); rw [List.nil_append] at o1; obtain ⟨q1, rfl⟩ := o1.has.sl))
   all_goals
     go_wp2
     go_ret2
     exact ⟨q1.1, q1.2.1, q1.2.2, rfl, o1.base (Nat.le_trans hbase hl.size), hl.trans l1⟩
theorem small3 {s : St} (hm : s.all rowMay3 = true) : ∀ k, k < 4 → Small (s.at k) := fun _ hk => ⟨rowMay3_len (St.all_at hm hk), rowMay3_all (St.all_at hm hk)⟩
set_option maxHeartbeats 2000000 in
theorem refQueueNo (v : Value) (s : St) (c r a er : Int) (w : World) (hx : HasS w v s) (hf : Fit s) (h : (s.all rowMay3 && opMay c r a) = false) :
   Calls Tryz.prog 16 #[.int .i64 2, v, opV c r a, .int .i64 er] w fun e w' => e = .returned (.tuple #[stZ, .int .i64 0, .int .i64 er]) ∧ Le w w' := by
 have hx0 := hx
 obtain ⟨vs, rfl, hr⟩ := hx
 have hl := ((Le.alloc w (.cells (cells4 vs) 44)).trans (Le.alloc _ (.cells #[.int .i64 c, .int .i64 r, .int .i64 a] 48))).trans (Le.alloc _ (.cells (cells4 fun _ => slZ) 44))
 have hb1 := ((Box.new w (cells4 vs) 44).le (Le.alloc _ (.cells #[.int .i64 c, .int .i64 r, .int .i64 a] 48))).le (Le.alloc _ (.cells (cells4 fun _ => slZ) 44))
 have hb2 := (Box.new (w.alloc (.cells (cells4 vs) 44)) #[.int .i64 c, .int .i64 r, .int .i64 a] 48).le (Le.alloc _ (.cells (cells4 fun _ => slZ) 44))
 have hb3 := Box.new ((w.alloc (.cells (cells4 vs) 44)).alloc (.cells #[.int .i64 c, .int .i64 r, .int .i64 a] 48)) (cells4 fun _ => slZ) 44
 simp only [World.size_alloc] at hb1 hb2 hb3
 have hmay := refStateMay2 (stV vs) s _ (hx0.le hl) hf
 cases hm : s.all rowMay3
 ·rw [hm] at hmay
  go_enter Tryz.func16, Tryz.ntmps16
  go_wp2_with fail
  refine hmay.mono ?_
  rintro e w1 ⟨rfl, l1⟩
  obtain ⟨z0, z1, z2, z3, f0, f1, f2, f3⟩ := (hb3.le l1).st
  go_wp2_with fail
  refine bodyPost_ret (v := .tuple #[stZ, .int .i64 0, .int .i64 er]) (by simp [results, Tryz.results16, go_sem, z0, z1, z2, z3]) rfl ⟨rfl, ?_⟩
  exact (hl.trans l1).set4 (by omega) _ _ _ _
 ·have hop : opMay c r a = false := by simpa [hm] using h
  rw [hm] at hmay
  go_enter Tryz.func16, Tryz.ntmps16
  go_wp2_with fail
  refine hmay.mono ?_
  rintro e w1 ⟨rfl, l1⟩
  obtain ⟨y0, y1, y2, _, _, _⟩ := (hb2.le l1).op
  go_wp2_with fail
  refine (refOperMay _ _ _ _).mono ?_
  rw [hop]
  rintro e w2 ⟨rfl, l2⟩
  obtain ⟨z0, z1, z2, z3, f0, f1, f2, f3⟩ := ((hb3.le l1).le l2).st
  go_wp2_with fail
  refine bodyPost_ret (v := .tuple #[stZ, .int .i64 0, .int .i64 er]) (by simp [results, Tryz.results16, go_sem, z0, z1, z2, z3]) rfl ⟨rfl, ?_⟩
  exact ((hl.trans l1).trans l2).set4 (by omega) _ _ _ _
set_option maxRecDepth 4000 in
set_option maxHeartbeats 4000000 in
theorem refQueueScan (v : Value) (s : St) (er : Int) (w : World) (hx : HasS w v s) (hf : Fit s) (hm : s.all rowMay3 = true) :
   Calls Tryz.prog 16 #[.int .i64 2, v, opV 3 0 0, .int .i64 er] w fun e w' => ∃ v', e = .returned (.tuple #[v', .int .i64 (manyTo s 4), .int .i64 0]) ∧ OwnS w' w.heap.size v' (s) ∧ Le w w' := by
 have hx0 := hx
 obtain ⟨vs, rfl, hr⟩ := hx
 have hl := ((Le.alloc w (.cells (cells4 vs) 44)).trans (Le.alloc _ (.cells #[.int .i64 3, .int .i64 0, .int .i64 0] 48))).trans (Le.alloc _ (.cells (cells4 fun _ => slZ) 44))
 have hb1 := ((Box.new w (cells4 vs) 44).le (Le.alloc _ (.cells #[.int .i64 3, .int .i64 0, .int .i64 0] 48))).le (Le.alloc _ (.cells (cells4 fun _ => slZ) 44))
 have hb2 := (Box.new (w.alloc (.cells (cells4 vs) 44)) #[.int .i64 3, .int .i64 0, .int .i64 0] 48).le (Le.alloc _ (.cells (cells4 fun _ => slZ) 44))
 have hb3 := Box.new ((w.alloc (.cells (cells4 vs) 44)).alloc (.cells #[.int .i64 3, .int .i64 0, .int .i64 0] 48)) (cells4 fun _ => slZ) 44
 simp only [World.size_alloc] at hb1 hb2 hb3
 have hmay := refStateMay2 (stV vs) s _ (hx0.le hl) hf
 rw [hm] at hmay
 have hop : opMay 3 0 0 = true := by decide
 have hsm := small3 hm
 go_enter Tryz.func16, Tryz.ntmps16
 go_wp2_with fail
 refine hmay.mono ?_
 rintro e w1 ⟨rfl, l1⟩
 obtain ⟨y0, y1, y2, _, _, _⟩ := (hb2.le l1).op
 clear hmay
 go_wp2_with fail
 refine (refOperMay _ _ _ _).mono ?_
 rw [hop]
 rintro e w2 ⟨rfl, l2⟩
 replace l1 := l1.trans l2
 clear l2 y0 y1 y2
 obtain ⟨y0, y1, y2, y3, _, _, _, _⟩ := (hb1.le l1).st
 go_wp2_with fail
 refine (refCopyState (stV vs) s _ (hx0.le (hl.trans l1)) hf).mono ?_
 rintro e w3 ⟨_, rfl, ⟨us, rfl, hown⟩, l3⟩
 replace hown := fun i hi => (hown i hi).base (base' := w.heap.size) (hl.trans l1).size
 replace l1 := l1.trans l3
 clear l3 y0 y1 y2 y3
 have n0 : w.heap.size + 1 + 1 < w3.heap.size := (hb3.le l1).lt
 have n1 : ¬ w.heap.size + 1 + 1 = w3.heap.size := by omega
 have n2 : ¬ w.heap.size + 1 + 1 = w.heap.size := by omega
 have n3 : ¬ w.heap.size + 1 + 1 = w.heap.size + 1 := by omega
 have hb4 := Box.new w3 (cells4 us) 44
 replace l1 := l1.trans (Le.alloc w3 (.cells (cells4 us) 44))
 replace hown := fun i hi => (hown i hi).le (Le.alloc w3 (.cells (cells4 us) 44))
 go_wp2_with fail
 generalize hW : w3.alloc (.cells (cells4 us) 44) = W at hb4 l1 hown ⊢
 clear hW
 go_loop [12, 13, 14] (fun t m i => ∃ j : Nat, j ≤ 4 ∧ i = .int .i64 j ∧ t = .int .i64 (sumTo s j) ∧ m = .int .i64 (manyTo s j)) (fun _ _ i => 4 - (intOf i).toNat)
 case atStart => exact ⟨0, by omega, rfl, rfl, rfl⟩
 case round =>
   obtain ⟨j, hj, rfl, rfl, rfl⟩ := hrel
   by_cases hlt : j < 4
   ·have c1 : W.cell? ⟨w.heap.size, j, none⟩ = some (slV (vs j)) := ((hb1.le l1).cell j).trans (cells4_at vs hlt)
    obtain ⟨b0, b1⟩ := sumTo_small hsm j hj
    obtain ⟨b2, b3⟩ := manyTo_bounds (m := 4) (fun i hi => (hsm i hi).1) j hj
    obtain ⟨ad, cap, hv, hc, _, hcell⟩ := (hr j hlt).le (hl.trans l1)
    have hs : sumTo s (j + 1) = sumTo s j + sumOf (s.at j) (s.at j).length := by rw [sumOf_all]; rfl
    have hn : manyTo s (j + 1) = manyTo s j + (s.at j).length := rfl
    have hsj := hsm j hlt
    have hlj := hsj.1
    rw [hv] at c1
    obtain ⟨T, hT⟩ : ∃ T, T = sumTo s j := ⟨_, rfl⟩
    obtain ⟨M, hM⟩ : ∃ M, M = manyTo s j := ⟨_, rfl⟩
    obtain ⟨L, hL⟩ : ∃ L, L = (s.at j).length := ⟨_, rfl⟩
    rw [← hT] at b0 b1 hs ⊢
    rw [← hM] at b2 b3 hn ⊢
    rw [← hL] at c1 hc hcell hs hn hlj
    have HS : Hid (sumTo s (j + 1) = T + sumOf (s.at j) L) := hs
    have HN : Hid (manyTo s (j + 1) = M + L) := hn
    have HL : Hid (L = (s.at j).length) := hL
    clear hs hn hv hm hr hown hb1 hb2 hb3 hb4 hop n0 n1 n2 n3 hT hM hL hsm
    go_wp2
    go_loop [12, 15] (fun t i => ∃ m : Nat, m ≤ L ∧ i = .int .i64 m ∧ t = .int .i64 (T + sumOf (s.at j) m)) (fun _ i => L - (intOf i).toNat)
    case atStart => exact ⟨0, by omega, rfl, by simp [sumOf]⟩
    case round =>
      obtain ⟨m, hmL, rfl, rfl⟩ := hrel
      obtain ⟨d0, d1⟩ := hsj.sum m (by rw [← HL.out]; exact hmL)
      by_cases hlt2 : m < L
      ·obtain ⟨b, off, rfl, hcl⟩ := hcell (by omega)
       have c2 := hcl m hlt2
       have hst := sumOf_step (xs := s.at j) (m := m) (by rw [← HL.out]; exact hlt2)
       obtain ⟨d2, d3⟩ := hsj.at (m := m) (by rw [← HL.out]; exact hlt2)
       obtain ⟨x, hx⟩ : ∃ x, x = (s.at j).getD m 0 := ⟨_, rfl⟩
       rw [← hx] at c2 hst d2 d3
       obtain ⟨t, ht⟩ : ∃ t, t = sumOf (s.at j) m := ⟨_, rfl⟩
       rw [← ht] at hst d0 d1 ⊢
       have HT : Hid (sumOf (s.at j) (m + 1) = t + x) := hst
       have m0 : (0 : Int) ≤ (m : Int) := by omega
       have m1 : (m : Int) < (L : Int) := by omega
       clear hst ht hx hcl hcell hsj
       go_wp2
       go_round
       case rel => exact ⟨m + 1, by omega, by go_num, by rw [HT.out, Int.add_assoc]⟩
       case measure => simp [intOf]; omega
      ·obtain rfl : m = L := by omega
       clear hcell hsj
       go_wp2
       go_round
       case rel => exact ⟨j + 1, by omega, by go_num, by rw [HS.out], by rw [HN.out]⟩
       case measure => simp [intOf]; omega
   ·obtain rfl : j = 4 := by omega
    clear hlt hj
    obtain ⟨y0, y1, y2, y3, _, _, _, _⟩ := hb4.st
    obtain ⟨z0, z1, z2, z3, f0, f1, f2, f3⟩ := (hb3.le l1).st
    obtain ⟨o0, o1, o2, _, _, _⟩ := (hb2.le l1).op
    go_wp2_with fail
    refine bodyPost_ret (v := .tuple #[stV us, .int .i64 (manyTo s 4), .int .i64 0]) (by simp [results, Tryz.results16, go_sem, z0, z1, z2, z3]) rfl ⟨_, rfl, ⟨us, rfl, fun i hi => ?_⟩, ?_⟩
    ·exact (hown i hi).set4 (hb3.le l1) (by decide) _ _ _ _
    ·exact (hl.trans l1).set4 (by omega) _ _ _ _
set_option maxRecDepth 4000 in
set_option maxHeartbeats 4000000 in
theorem refQueueLook (v : Value) (s : St) (k : Nat) (er : Int) (w : World) (hx : HasS w v s) (hf : Fit s) (hm : s.all rowMay3 = true) (hk : k < 4) :
   Calls Tryz.prog 16 #[.int .i64 2, v, opV 2 k 0, .int .i64 er] w fun e w' => ∃ v', e = .returned (.tuple #[v', .int .i64 ((s.at k).length : Int), .int .i64 0]) ∧ OwnS w' w.heap.size v' (s) ∧ Le w w' := by
 have hx0 := hx
 obtain ⟨vs, rfl, hr⟩ := hx
 have hl := ((Le.alloc w (.cells (cells4 vs) 44)).trans (Le.alloc _ (.cells #[.int .i64 2, .int .i64 k, .int .i64 0] 48))).trans (Le.alloc _ (.cells (cells4 fun _ => slZ) 44))
 have hb1 := ((Box.new w (cells4 vs) 44).le (Le.alloc _ (.cells #[.int .i64 2, .int .i64 k, .int .i64 0] 48))).le (Le.alloc _ (.cells (cells4 fun _ => slZ) 44))
 have hb2 := (Box.new (w.alloc (.cells (cells4 vs) 44)) #[.int .i64 2, .int .i64 k, .int .i64 0] 48).le (Le.alloc _ (.cells (cells4 fun _ => slZ) 44))
 have hb3 := Box.new ((w.alloc (.cells (cells4 vs) 44)).alloc (.cells #[.int .i64 2, .int .i64 k, .int .i64 0] 48)) (cells4 fun _ => slZ) 44
 simp only [World.size_alloc] at hb1 hb2 hb3
 have hmay := refStateMay2 (stV vs) s _ (hx0.le hl) hf
 rw [hm] at hmay
 have hop : opMay 2 k 0 = true := by simp [opMay]; omega
 have hsm := small3 hm
 go_enter Tryz.func16, Tryz.ntmps16
 go_wp2_with fail
 refine hmay.mono ?_
 rintro e w1 ⟨rfl, l1⟩
 obtain ⟨y0, y1, y2, _, _, _⟩ := (hb2.le l1).op
 clear hmay
 go_wp2_with fail
 refine (refOperMay _ _ _ _).mono ?_
 rw [hop]
 rintro e w2 ⟨rfl, l2⟩
 replace l1 := l1.trans l2
 clear l2 y0 y1 y2
 obtain ⟨y0, y1, y2, y3, _, _, _, _⟩ := (hb1.le l1).st
 go_wp2_with fail
 refine (refCopyState (stV vs) s _ (hx0.le (hl.trans l1)) hf).mono ?_
 rintro e w3 ⟨_, rfl, ⟨us, rfl, hown⟩, l3⟩
 replace hown := fun i hi => (hown i hi).base (base' := w.heap.size) (hl.trans l1).size
 replace l1 := l1.trans l3
 clear l3 y0 y1 y2 y3
 have n0 : w.heap.size + 1 + 1 < w3.heap.size := (hb3.le l1).lt
 have n1 : ¬ w.heap.size + 1 + 1 = w3.heap.size := by omega
 have n2 : ¬ w.heap.size + 1 + 1 = w.heap.size := by omega
 have n3 : ¬ w.heap.size + 1 + 1 = w.heap.size + 1 := by omega
 have hb4 := Box.new w3 (cells4 us) 44
 replace l1 := l1.trans (Le.alloc w3 (.cells (cells4 us) 44))
 replace hown := fun i hi => (hown i hi).le (Le.alloc w3 (.cells (cells4 us) 44))
 go_wp2_with fail
 generalize hW : w3.alloc (.cells (cells4 us) 44) = W at hb4 l1 hown ⊢
 clear hW
 go_loop [12, 13, 14] (fun t m i => ∃ j : Nat, j ≤ 4 ∧ i = .int .i64 j ∧ t = .int .i64 (sumTo s j) ∧ m = .int .i64 (manyTo s j)) (fun _ _ i => 4 - (intOf i).toNat)
 case atStart => exact ⟨0, by omega, rfl, rfl, rfl⟩
 case round =>
   obtain ⟨j, hj, rfl, rfl, rfl⟩ := hrel
   by_cases hlt : j < 4
   ·have c1 : W.cell? ⟨w.heap.size, j, none⟩ = some (slV (vs j)) := ((hb1.le l1).cell j).trans (cells4_at vs hlt)
    obtain ⟨b0, b1⟩ := sumTo_small hsm j hj
    obtain ⟨b2, b3⟩ := manyTo_bounds (m := 4) (fun i hi => (hsm i hi).1) j hj
    obtain ⟨ad, cap, hv, hc, _, hcell⟩ := (hr j hlt).le (hl.trans l1)
    have hs : sumTo s (j + 1) = sumTo s j + sumOf (s.at j) (s.at j).length := by rw [sumOf_all]; rfl
    have hn : manyTo s (j + 1) = manyTo s j + (s.at j).length := rfl
    have hsj := hsm j hlt
    have hlj := hsj.1
    rw [hv] at c1
    obtain ⟨T, hT⟩ : ∃ T, T = sumTo s j := ⟨_, rfl⟩
    obtain ⟨M, hM⟩ : ∃ M, M = manyTo s j := ⟨_, rfl⟩
    obtain ⟨L, hL⟩ : ∃ L, L = (s.at j).length := ⟨_, rfl⟩
    rw [← hT] at b0 b1 hs ⊢
    rw [← hM] at b2 b3 hn ⊢
    rw [← hL] at c1 hc hcell hs hn hlj
    have HS : Hid (sumTo s (j + 1) = T + sumOf (s.at j) L) := hs
    have HN : Hid (manyTo s (j + 1) = M + L) := hn
    have HL : Hid (L = (s.at j).length) := hL
    clear hs hn hv hm hr hown hb1 hb2 hb3 hb4 hop n0 n1 n2 n3 hT hM hL hsm
    go_wp2
    go_loop [12, 15] (fun t i => ∃ m : Nat, m ≤ L ∧ i = .int .i64 m ∧ t = .int .i64 (T + sumOf (s.at j) m)) (fun _ i => L - (intOf i).toNat)
    case atStart => exact ⟨0, by omega, rfl, by simp [sumOf]⟩
    case round =>
      obtain ⟨m, hmL, rfl, rfl⟩ := hrel
      obtain ⟨d0, d1⟩ := hsj.sum m (by rw [← HL.out]; exact hmL)
      by_cases hlt2 : m < L
      ·obtain ⟨b, off, rfl, hcl⟩ := hcell (by omega)
       have c2 := hcl m hlt2
       have hst := sumOf_step (xs := s.at j) (m := m) (by rw [← HL.out]; exact hlt2)
       obtain ⟨d2, d3⟩ := hsj.at (m := m) (by rw [← HL.out]; exact hlt2)
       obtain ⟨x, hx⟩ : ∃ x, x = (s.at j).getD m 0 := ⟨_, rfl⟩
       rw [← hx] at c2 hst d2 d3
       obtain ⟨t, ht⟩ : ∃ t, t = sumOf (s.at j) m := ⟨_, rfl⟩
       rw [← ht] at hst d0 d1 ⊢
       have HT : Hid (sumOf (s.at j) (m + 1) = t + x) := hst
       have m0 : (0 : Int) ≤ (m : Int) := by omega
       have m1 : (m : Int) < (L : Int) := by omega
       clear hst ht hx hcl hcell hsj
       go_wp2
       go_round
       case rel => exact ⟨m + 1, by omega, by go_num, by rw [HT.out, Int.add_assoc]⟩
       case measure => simp [intOf]; omega
      ·obtain rfl : m = L := by omega
       clear hcell hsj
       go_wp2
       go_round
       case rel => exact ⟨j + 1, by omega, by go_num, by rw [HS.out], by rw [HN.out]⟩
       case measure => simp [intOf]; omega
   ·obtain rfl : j = 4 := by omega
    clear hlt hj
    obtain ⟨y0, y1, y2, y3, _, _, _, _⟩ := hb4.st
    obtain ⟨z0, z1, z2, z3, f0, f1, f2, f3⟩ := (hb3.le l1).st
    obtain ⟨o0, o1, o2, _, _, _⟩ := (hb2.le l1).op
    have k0 : (0 : Int) ≤ (k : Int) := by omega
    have k1 : (k : Int) < 4 := by omega
    have yk : W.cell? ⟨w3.heap.size, k, none⟩ = some (slV (us k)) := (hb4.cell k).trans (cells4_at us hk)
    have hle : (us k).2.1 = (s.at k).length := by
      obtain ⟨ad, cap, e, _⟩ := (hown k hk).has
      simp only [Value.slice.injEq] at e
      exact e.2.1
    go_wp2_with fail
    refine bodyPost_ret (v := .tuple #[stV us, .int .i64 ((s.at k).length : Int), .int .i64 0]) (by simp [results, Tryz.results16, go_sem, z0, z1, z2, z3]) rfl ⟨_, rfl, ⟨us, rfl, fun i hi => ?_⟩, ?_⟩
    ·exact (hown i hi).set4 (hb3.le l1) (by decide) _ _ _ _
    ·exact (hl.trans l1).set4 (by omega) _ _ _ _
set_option maxRecDepth 4000 in
set_option maxHeartbeats 4000000 in
theorem refQueueFirst (v : Value) (s : St) (k : Nat) (a : Int) (er : Int) (w : World) (hx : HasS w v s) (hf : Fit s) (hm : s.all rowMay3 = true) (hk : k < 4) (ha : 0 ≤ a ∧ a ≤ 255) :
   Calls Tryz.prog 16 #[.int .i64 2, v, opV 0 k a, .int .i64 er] w fun e w' => ∃ v', e = .returned (.tuple #[v', .int .i64 (enqS (s.at k) a).2, .int .i64 0]) ∧ OwnS w' w.heap.size v' (s.put k (enqS (s.at k) a).1) ∧ Le w w' := by
 have hx0 := hx
 obtain ⟨vs, rfl, hr⟩ := hx
 have hl := ((Le.alloc w (.cells (cells4 vs) 44)).trans (Le.alloc _ (.cells #[.int .i64 0, .int .i64 k, .int .i64 a] 48))).trans (Le.alloc _ (.cells (cells4 fun _ => slZ) 44))
 have hb1 := ((Box.new w (cells4 vs) 44).le (Le.alloc _ (.cells #[.int .i64 0, .int .i64 k, .int .i64 a] 48))).le (Le.alloc _ (.cells (cells4 fun _ => slZ) 44))
 have hb2 := (Box.new (w.alloc (.cells (cells4 vs) 44)) #[.int .i64 0, .int .i64 k, .int .i64 a] 48).le (Le.alloc _ (.cells (cells4 fun _ => slZ) 44))
 have hb3 := Box.new ((w.alloc (.cells (cells4 vs) 44)).alloc (.cells #[.int .i64 0, .int .i64 k, .int .i64 a] 48)) (cells4 fun _ => slZ) 44
 simp only [World.size_alloc] at hb1 hb2 hb3
 have hmay := refStateMay2 (stV vs) s _ (hx0.le hl) hf
 rw [hm] at hmay
 have hop : opMay 0 k a = true := by simp [opMay]; omega
 have hsm := small3 hm
 go_enter Tryz.func16, Tryz.ntmps16
 go_wp2_with fail
 refine hmay.mono ?_
 rintro e w1 ⟨rfl, l1⟩
 obtain ⟨y0, y1, y2, _, _, _⟩ := (hb2.le l1).op
 clear hmay
 go_wp2_with fail
 refine (refOperMay _ _ _ _).mono ?_
 rw [hop]
 rintro e w2 ⟨rfl, l2⟩
 replace l1 := l1.trans l2
 clear l2 y0 y1 y2
 obtain ⟨y0, y1, y2, y3, _, _, _, _⟩ := (hb1.le l1).st
 go_wp2_with fail
 refine (refCopyState (stV vs) s _ (hx0.le (hl.trans l1)) hf).mono ?_
 rintro e w3 ⟨_, rfl, ⟨us, rfl, hown⟩, l3⟩
 replace hown := fun i hi => (hown i hi).base (base' := w.heap.size) (hl.trans l1).size
 replace l1 := l1.trans l3
 clear l3 y0 y1 y2 y3
 have n0 : w.heap.size + 1 + 1 < w3.heap.size := (hb3.le l1).lt
 have n1 : ¬ w.heap.size + 1 + 1 = w3.heap.size := by omega
 have n2 : ¬ w.heap.size + 1 + 1 = w.heap.size := by omega
 have n3 : ¬ w.heap.size + 1 + 1 = w.heap.size + 1 := by omega
 have hb4 := Box.new w3 (cells4 us) 44
 replace l1 := l1.trans (Le.alloc w3 (.cells (cells4 us) 44))
 replace hown := fun i hi => (hown i hi).le (Le.alloc w3 (.cells (cells4 us) 44))
 go_wp2_with fail
 generalize hW : w3.alloc (.cells (cells4 us) 44) = W at hb4 l1 hown ⊢
 clear hW
 go_loop [12, 13, 14] (fun t m i => ∃ j : Nat, j ≤ 4 ∧ i = .int .i64 j ∧ t = .int .i64 (sumTo s j) ∧ m = .int .i64 (manyTo s j)) (fun _ _ i => 4 - (intOf i).toNat)
 case atStart => exact ⟨0, by omega, rfl, rfl, rfl⟩
 case round =>
   obtain ⟨j, hj, rfl, rfl, rfl⟩ := hrel
   by_cases hlt : j < 4
   ·have c1 : W.cell? ⟨w.heap.size, j, none⟩ = some (slV (vs j)) := ((hb1.le l1).cell j).trans (cells4_at vs hlt)
    obtain ⟨b0, b1⟩ := sumTo_small hsm j hj
    obtain ⟨b2, b3⟩ := manyTo_bounds (m := 4) (fun i hi => (hsm i hi).1) j hj
    obtain ⟨ad, cap, hv, hc, _, hcell⟩ := (hr j hlt).le (hl.trans l1)
    have hs : sumTo s (j + 1) = sumTo s j + sumOf (s.at j) (s.at j).length := by rw [sumOf_all]; rfl
    have hn : manyTo s (j + 1) = manyTo s j + (s.at j).length := rfl
    have hsj := hsm j hlt
    have hlj := hsj.1
    rw [hv] at c1
    obtain ⟨T, hT⟩ : ∃ T, T = sumTo s j := ⟨_, rfl⟩
    obtain ⟨M, hM⟩ : ∃ M, M = manyTo s j := ⟨_, rfl⟩
    obtain ⟨L, hL⟩ : ∃ L, L = (s.at j).length := ⟨_, rfl⟩
    rw [← hT] at b0 b1 hs ⊢
    rw [← hM] at b2 b3 hn ⊢
    rw [← hL] at c1 hc hcell hs hn hlj
    have HS : Hid (sumTo s (j + 1) = T + sumOf (s.at j) L) := hs
    have HN : Hid (manyTo s (j + 1) = M + L) := hn
    have HL : Hid (L = (s.at j).length) := hL
    clear hs hn hv hm hr hown hb1 hb2 hb3 hb4 hop n0 n1 n2 n3 hT hM hL hsm
    go_wp2
    go_loop [12, 15] (fun t i => ∃ m : Nat, m ≤ L ∧ i = .int .i64 m ∧ t = .int .i64 (T + sumOf (s.at j) m)) (fun _ i => L - (intOf i).toNat)
    case atStart => exact ⟨0, by omega, rfl, by simp [sumOf]⟩
    case round =>
      obtain ⟨m, hmL, rfl, rfl⟩ := hrel
      obtain ⟨d0, d1⟩ := hsj.sum m (by rw [← HL.out]; exact hmL)
      by_cases hlt2 : m < L
      ·obtain ⟨b, off, rfl, hcl⟩ := hcell (by omega)
       have c2 := hcl m hlt2
       have hst := sumOf_step (xs := s.at j) (m := m) (by rw [← HL.out]; exact hlt2)
       obtain ⟨d2, d3⟩ := hsj.at (m := m) (by rw [← HL.out]; exact hlt2)
       obtain ⟨x, hx⟩ : ∃ x, x = (s.at j).getD m 0 := ⟨_, rfl⟩
       rw [← hx] at c2 hst d2 d3
       obtain ⟨t, ht⟩ : ∃ t, t = sumOf (s.at j) m := ⟨_, rfl⟩
       rw [← ht] at hst d0 d1 ⊢
       have HT : Hid (sumOf (s.at j) (m + 1) = t + x) := hst
       have m0 : (0 : Int) ≤ (m : Int) := by omega
       have m1 : (m : Int) < (L : Int) := by omega
       clear hst ht hx hcl hcell hsj
       go_wp2
       go_round
       case rel => exact ⟨m + 1, by omega, by go_num, by rw [HT.out, Int.add_assoc]⟩
       case measure => simp [intOf]; omega
      ·obtain rfl : m = L := by omega
       clear hcell hsj
       go_wp2
       go_round
       case rel => exact ⟨j + 1, by omega, by go_num, by rw [HS.out], by rw [HN.out]⟩
       case measure => simp [intOf]; omega
   ·obtain rfl : j = 4 := by omega
    clear hlt hj
    have k0 : (0 : Int) ≤ (k : Int) := by omega
    have k1 : (k : Int) < 4 := by omega
    have yk : W.cell? ⟨w3.heap.size, k, none⟩ = some (slV (us k)) := (hb4.cell k).trans (cells4_at us hk)
    obtain ⟨o0, o1, o2, _, _, _⟩ := (hb2.le l1).op
    have hrow := refQueueRow0 (slV (us k)) (s.at k) k a W w.heap.size (hown k hk) (hl.trans l1).size (St.all_at hm hk)
    go_wp2_with fail
    refine hrow.mono ?_
    rintro e w4 ⟨q, rfl, hnew, l4⟩
    clear o0 o1 o2 yk hrow
    replace l1 := l1.trans l4
    replace hb4 := hb4.le l4
    replace hown := fun i hi => (hown i hi).le l4
    have yk : w4.cell? ⟨w3.heap.size, k, none⟩ = some (slV (us k)) := (hb4.cell k).trans (cells4_at us hk)
    have yf := hb4.frozen k
    obtain ⟨o0, o1, o2, _, _, _⟩ := (hb2.le l1).op
    go_upto_region 30 with fail
    replace hown := fun i hi => (hown i hi).setBox (i := k) (u := slV q) hb4 (by decide)
    replace hnew := hnew.setBox (i := k) (u := slV q) hb4 (by decide)
    replace hb4 := hb4.set k (slV q)
    rw [cells4_upd us hk] at hb4
    replace l1 : Le _ (w4.setCell ⟨w3.heap.size, k, none⟩ (slV q)) := Below.setCell l1 (by simp only [World.size_alloc]; show w.heap.size + 1 + 1 + 1 ≤ w3.heap.size; omega) _
    clear o0 o1 o2 yk yf
    generalize hW2 : w4.setCell ⟨w3.heap.size, k, none⟩ (slV q) = W2 at hb4 l1 hown hnew ⊢
    replace hown : ∀ i, i < 4 → Own W2 w.heap.size (slV (upd us k q i)) ((s.put k (enqS (s.at k) a).1).at i) := by
      intro i hi
      rw [St.at_put hk hi]
      by_cases e : i = k
      ·rw [if_pos e, show upd us k q i = q by simp [upd, e]]; exact hnew
      ·rw [if_neg e, show upd us k q i = us i by simp [upd, e]]; exact hown i hi
    generalize upd us k q = us at hb4 hown
    clear hW2 hnew
    obtain ⟨y0, y1, y2, y3, _, _, _, _⟩ := hb4.st
    obtain ⟨z0, z1, z2, z3, f0, f1, f2, f3⟩ := (hb3.le l1).st
    go_wp2_with fail
    refine bodyPost_ret (v := .tuple #[stV us, .int .i64 (enqS (s.at k) a).2, .int .i64 0]) (by simp [results, Tryz.results16, go_sem, z0, z1, z2, z3]) rfl ⟨_, rfl, ⟨us, rfl, fun i hi => ?_⟩, ?_⟩
    ·exact (hown i hi).set4 (hb3.le l1) (by decide) _ _ _ _
    ·exact (hl.trans l1).set4 (by omega) _ _ _ _
set_option maxRecDepth 4000 in
set_option maxHeartbeats 4000000 in
theorem refQueueSecond (v : Value) (s : St) (k : Nat) (a : Int) (er : Int) (w : World) (hx : HasS w v s) (hf : Fit s) (hm : s.all rowMay3 = true) (hk : k < 4) (ha : 0 ≤ a ∧ a ≤ 255) :
   Calls Tryz.prog 16 #[.int .i64 2, v, opV 1 k a, .int .i64 er] w fun e w' => ∃ v', e = .returned (.tuple #[v', .int .i64 (deqS (s.at k)).2, .int .i64 0]) ∧ OwnS w' w.heap.size v' (s.put k (deqS (s.at k)).1) ∧ Le w w' := by
 have hx0 := hx
 obtain ⟨vs, rfl, hr⟩ := hx
 have hl := ((Le.alloc w (.cells (cells4 vs) 44)).trans (Le.alloc _ (.cells #[.int .i64 1, .int .i64 k, .int .i64 a] 48))).trans (Le.alloc _ (.cells (cells4 fun _ => slZ) 44))
 have hb1 := ((Box.new w (cells4 vs) 44).le (Le.alloc _ (.cells #[.int .i64 1, .int .i64 k, .int .i64 a] 48))).le (Le.alloc _ (.cells (cells4 fun _ => slZ) 44))
 have hb2 := (Box.new (w.alloc (.cells (cells4 vs) 44)) #[.int .i64 1, .int .i64 k, .int .i64 a] 48).le (Le.alloc _ (.cells (cells4 fun _ => slZ) 44))
 have hb3 := Box.new ((w.alloc (.cells (cells4 vs) 44)).alloc (.cells #[.int .i64 1, .int .i64 k, .int .i64 a] 48)) (cells4 fun _ => slZ) 44
 simp only [World.size_alloc] at hb1 hb2 hb3
 have hmay := refStateMay2 (stV vs) s _ (hx0.le hl) hf
 rw [hm] at hmay
 have hop : opMay 1 k a = true := by simp [opMay]; omega
 have hsm := small3 hm
 go_enter Tryz.func16, Tryz.ntmps16
 go_wp2_with fail
 refine hmay.mono ?_
 rintro e w1 ⟨rfl, l1⟩
 obtain ⟨y0, y1, y2, _, _, _⟩ := (hb2.le l1).op
 clear hmay
 go_wp2_with fail
 refine (refOperMay _ _ _ _).mono ?_
 rw [hop]
 rintro e w2 ⟨rfl, l2⟩
 replace l1 := l1.trans l2
 clear l2 y0 y1 y2
 obtain ⟨y0, y1, y2, y3, _, _, _, _⟩ := (hb1.le l1).st
 go_wp2_with fail
 refine (refCopyState (stV vs) s _ (hx0.le (hl.trans l1)) hf).mono ?_
 rintro e w3 ⟨_, rfl, ⟨us, rfl, hown⟩, l3⟩
 replace hown := fun i hi => (hown i hi).base (base' := w.heap.size) (hl.trans l1).size
 replace l1 := l1.trans l3
 clear l3 y0 y1 y2 y3
 have n0 : w.heap.size + 1 + 1 < w3.heap.size := (hb3.le l1).lt
 have n1 : ¬ w.heap.size + 1 + 1 = w3.heap.size := by omega
 have n2 : ¬ w.heap.size + 1 + 1 = w.heap.size := by omega
 have n3 : ¬ w.heap.size + 1 + 1 = w.heap.size + 1 := by omega
 have hb4 := Box.new w3 (cells4 us) 44
 replace l1 := l1.trans (Le.alloc w3 (.cells (cells4 us) 44))
 replace hown := fun i hi => (hown i hi).le (Le.alloc w3 (.cells (cells4 us) 44))
 go_wp2_with fail
 generalize hW : w3.alloc (.cells (cells4 us) 44) = W at hb4 l1 hown ⊢
 clear hW
 go_loop [12, 13, 14] (fun t m i => ∃ j : Nat, j ≤ 4 ∧ i = .int .i64 j ∧ t = .int .i64 (sumTo s j) ∧ m = .int .i64 (manyTo s j)) (fun _ _ i => 4 - (intOf i).toNat)
 case atStart => exact ⟨0, by omega, rfl, rfl, rfl⟩
 case round =>
   obtain ⟨j, hj, rfl, rfl, rfl⟩ := hrel
   by_cases hlt : j < 4
   ·have c1 : W.cell? ⟨w.heap.size, j, none⟩ = some (slV (vs j)) := ((hb1.le l1).cell j).trans (cells4_at vs hlt)
    obtain ⟨b0, b1⟩ := sumTo_small hsm j hj
    obtain ⟨b2, b3⟩ := manyTo_bounds (m := 4) (fun i hi => (hsm i hi).1) j hj
    obtain ⟨ad, cap, hv, hc, _, hcell⟩ := (hr j hlt).le (hl.trans l1)
    have hs : sumTo s (j + 1) = sumTo s j + sumOf (s.at j) (s.at j).length := by rw [sumOf_all]; rfl
    have hn : manyTo s (j + 1) = manyTo s j + (s.at j).length := rfl
    have hsj := hsm j hlt
    have hlj := hsj.1
    rw [hv] at c1
    obtain ⟨T, hT⟩ : ∃ T, T = sumTo s j := ⟨_, rfl⟩
    obtain ⟨M, hM⟩ : ∃ M, M = manyTo s j := ⟨_, rfl⟩
    obtain ⟨L, hL⟩ : ∃ L, L = (s.at j).length := ⟨_, rfl⟩
    rw [← hT] at b0 b1 hs ⊢
    rw [← hM] at b2 b3 hn ⊢
    rw [← hL] at c1 hc hcell hs hn hlj
    have HS : Hid (sumTo s (j + 1) = T + sumOf (s.at j) L) := hs
    have HN : Hid (manyTo s (j + 1) = M + L) := hn
    have HL : Hid (L = (s.at j).length) := hL
    clear hs hn hv hm hr hown hb1 hb2 hb3 hb4 hop n0 n1 n2 n3 hT hM hL hsm
    go_wp2
    go_loop [12, 15] (fun t i => ∃ m : Nat, m ≤ L ∧ i = .int .i64 m ∧ t = .int .i64 (T + sumOf (s.at j) m)) (fun _ i => L - (intOf i).toNat)
    case atStart => exact ⟨0, by omega, rfl, by simp [sumOf]⟩
    case round =>
      obtain ⟨m, hmL, rfl, rfl⟩ := hrel
      obtain ⟨d0, d1⟩ := hsj.sum m (by rw [← HL.out]; exact hmL)
      by_cases hlt2 : m < L
      ·obtain ⟨b, off, rfl, hcl⟩ := hcell (by omega)
       have c2 := hcl m hlt2
       have hst := sumOf_step (xs := s.at j) (m := m) (by rw [← HL.out]; exact hlt2)
       obtain ⟨d2, d3⟩ := hsj.at (m := m) (by rw [← HL.out]; exact hlt2)
       obtain ⟨x, hx⟩ : ∃ x, x = (s.at j).getD m 0 := ⟨_, rfl⟩
       rw [← hx] at c2 hst d2 d3
       obtain ⟨t, ht⟩ : ∃ t, t = sumOf (s.at j) m := ⟨_, rfl⟩
       rw [← ht] at hst d0 d1 ⊢
       have HT : Hid (sumOf (s.at j) (m + 1) = t + x) := hst
       have m0 : (0 : Int) ≤ (m : Int) := by omega
       have m1 : (m : Int) < (L : Int) := by omega
       clear hst ht hx hcl hcell hsj
       go_wp2
       go_round
       case rel => exact ⟨m + 1, by omega, by go_num, by rw [HT.out, Int.add_assoc]⟩
       case measure => simp [intOf]; omega
      ·obtain rfl : m = L := by omega
       clear hcell hsj
       go_wp2
       go_round
       case rel => exact ⟨j + 1, by omega, by go_num, by rw [HS.out], by rw [HN.out]⟩
       case measure => simp [intOf]; omega
   ·obtain rfl : j = 4 := by omega
    clear hlt hj
    have k0 : (0 : Int) ≤ (k : Int) := by omega
    have k1 : (k : Int) < 4 := by omega
    have yk : W.cell? ⟨w3.heap.size, k, none⟩ = some (slV (us k)) := (hb4.cell k).trans (cells4_at us hk)
    obtain ⟨o0, o1, o2, _, _, _⟩ := (hb2.le l1).op
    have hrow := refQueueRow1 (slV (us k)) (s.at k) k a W w.heap.size (hown k hk) (hl.trans l1).size (St.all_at hm hk)
    go_wp2_with fail
    refine hrow.mono ?_
    rintro e w4 ⟨q, rfl, hnew, l4⟩
    clear o0 o1 o2 yk hrow
    replace l1 := l1.trans l4
    replace hb4 := hb4.le l4
    replace hown := fun i hi => (hown i hi).le l4
    have yk : w4.cell? ⟨w3.heap.size, k, none⟩ = some (slV (us k)) := (hb4.cell k).trans (cells4_at us hk)
    have yf := hb4.frozen k
    obtain ⟨o0, o1, o2, _, _, _⟩ := (hb2.le l1).op
    go_upto_region 30 with fail
    replace hown := fun i hi => (hown i hi).setBox (i := k) (u := slV q) hb4 (by decide)
    replace hnew := hnew.setBox (i := k) (u := slV q) hb4 (by decide)
    replace hb4 := hb4.set k (slV q)
    rw [cells4_upd us hk] at hb4
    replace l1 : Le _ (w4.setCell ⟨w3.heap.size, k, none⟩ (slV q)) := Below.setCell l1 (by simp only [World.size_alloc]; show w.heap.size + 1 + 1 + 1 ≤ w3.heap.size; omega) _
    clear o0 o1 o2 yk yf
    generalize hW2 : w4.setCell ⟨w3.heap.size, k, none⟩ (slV q) = W2 at hb4 l1 hown hnew ⊢
    replace hown : ∀ i, i < 4 → Own W2 w.heap.size (slV (upd us k q i)) ((s.put k (deqS (s.at k)).1).at i) := by
      intro i hi
      rw [St.at_put hk hi]
      by_cases e : i = k
      ·rw [if_pos e, show upd us k q i = q by simp [upd, e]]; exact hnew
      ·rw [if_neg e, show upd us k q i = us i by simp [upd, e]]; exact hown i hi
    generalize upd us k q = us at hb4 hown
    clear hW2 hnew
    obtain ⟨y0, y1, y2, y3, _, _, _, _⟩ := hb4.st
    obtain ⟨z0, z1, z2, z3, f0, f1, f2, f3⟩ := (hb3.le l1).st
    go_wp2_with fail
    refine bodyPost_ret (v := .tuple #[stV us, .int .i64 (deqS (s.at k)).2, .int .i64 0]) (by simp [results, Tryz.results16, go_sem, z0, z1, z2, z3]) rfl ⟨_, rfl, ⟨us, rfl, fun i hi => ?_⟩, ?_⟩
    ·exact (hown i hi).set4 (hb3.le l1) (by decide) _ _ _ _
    ·exact (hl.trans l1).set4 (by omega) _ _ _ _
theorem refQueue (v : Value) (s : St) (c r a er : Int) (w : World) (hx : HasS w v s) (hf : Fit s) :
   Calls Tryz.prog 16 #[.int .i64 2, v, opV c r a, .int .i64 er] w fun e w' => ∃ v', e = .returned (.tuple #[v', .int .i64 (queS s c r a er).2.1, .int .i64 (queS s c r a er).2.2]) ∧ OwnS w' w.heap.size v' (queS s c r a er).1 ∧ Le w w' := by
 cases h : s.all rowMay3 && opMay c r a
 ·rw [queS_no h]
  exact (refQueueNo v s c r a er w hx hf h).mono fun e w' ⟨he, hl⟩ => ⟨stZ, he, OwnS.zero _ _, hl⟩
 ·obtain ⟨hm, ho⟩ := Bool.and_eq_true_iff.mp h
  rcases opMay_cases ho with ⟨k, hk, rfl, rfl, ha⟩ | ⟨k, hk, rfl, rfl, ha⟩ | ⟨k, hk, rfl, rfl, rfl⟩ | ⟨rfl, rfl, rfl⟩
  ·rw [queS_first hm hk ha]; exact refQueueFirst v s k a er w hx hf hm hk ha
  ·rw [queS_second hm hk ha]; exact refQueueSecond v s k a er w hx hf hm hk ha
  ·rw [queS_look hm hk]; exact refQueueLook v s k er w hx hf hm hk
  ·rw [queS_scan hm]; exact refQueueScan v s er w hx hf hm
set_option maxHeartbeats 400000 in
theorem refStateMayOut (o : Int) (ho : o < 0 ∨ 2 < o) (v : Value) (s : St) (w : World) (hx : HasS w v s) :
   Calls Tryz.prog 43 #[.int .i64 o, v] w fun e w' => e = .returned (.bool false) ∧ Le w w' := by
 obtain ⟨vs, rfl, hr⟩ := hx
 have hl := Le.alloc w (.cells (cells4 vs) 44)
 by_cases h0 : o < 0
 ·go_enter Tryz.func43, Tryz.ntmps43
  go_wp2
  refine wp_loop_rounds 1 ?_
  rw [rounds_succ]
  go_wp2
  go_ret
  exact ⟨rfl, hl⟩
 ·have h2 : 2 < o := by omega
  go_enter Tryz.func43, Tryz.ntmps43
  go_wp2
  refine wp_loop_rounds 1 ?_
  rw [rounds_succ]
  go_wp2
  go_ret
  exact ⟨rfl, hl⟩
theorem refStateMay (o : Int) (v : Value) (s : St) (w : World) (hx : HasS w v s) (hf : Fit s) :
   Calls Tryz.prog 43 #[.int .i64 o, v] w fun e w' => e = .returned (.bool (objMay o s)) ∧ Le w w' := by
 rcases obj_cases (o := o) with rfl | rfl | rfl | ho
 ·exact refStateMay0 v s w hx hf
 ·exact refStateMay1 v s w hx
 ·exact refStateMay2 v s w hx hf
 ·rw [objMay_out ho]; exact refStateMayOut o ho v s w hx
set_option maxHeartbeats 2000000 in
theorem refApplyOut (o : Int) (ho : o < 0 ∨ 2 < o) (v : Value) (s : St) (c r a er : Int) (w : World) (hx : HasS w v s) :
   Calls Tryz.prog 16 #[.int .i64 o, v, opV c r a, .int .i64 er] w fun e w' => e = .returned (.tuple #[stZ, .int .i64 0, .int .i64 er]) ∧ Le w w' := by
 have hx0 := hx
 obtain ⟨vs, rfl, hr⟩ := hx
 have hl := ((Le.alloc w (.cells (cells4 vs) 44)).trans (Le.alloc _ (.cells #[.int .i64 c, .int .i64 r, .int .i64 a] 48))).trans (Le.alloc _ (.cells (cells4 fun _ => slZ) 44))
 have hb3 := Box.new ((w.alloc (.cells (cells4 vs) 44)).alloc (.cells #[.int .i64 c, .int .i64 r, .int .i64 a] 48)) (cells4 fun _ => slZ) 44
 simp only [World.size_alloc] at hb3
 have hmay := refStateMayOut o ho (stV vs) s _ (hx0.le hl)
 clear ho
 go_enter Tryz.func16, Tryz.ntmps16
 go_wp2_with fail
 refine hmay.mono ?_
 rintro e w1 ⟨rfl, l1⟩
 obtain ⟨z0, z1, z2, z3, f0, f1, f2, f3⟩ := (hb3.le l1).st
 go_wp2_with fail
 refine bodyPost_ret (v := .tuple #[stZ, .int .i64 0, .int .i64 er]) (by simp [results, Tryz.results16, go_sem, z0, z1, z2, z3]) rfl ⟨rfl, ?_⟩
 exact (hl.trans l1).set4 (by omega) _ _ _ _
theorem refObj (o : Int) (v : Value) (s : St) (c r a er : Int) (w : World) (hx : HasS w v s) (hf : Fit s) :
   Calls Tryz.prog 16 #[.int .i64 o, v, opV c r a, .int .i64 er] w fun e w' => ∃ v', e = .returned (.tuple #[v', .int .i64 (objS o s c r a er).2.1, .int .i64 (objS o s c r a er).2.2]) ∧ OwnS w' w.heap.size v' (objS o s c r a er).1 ∧ Le w w' := by
 rcases obj_cases (o := o) with rfl | rfl | rfl | ho
 ·exact refStore v s c r a er w hx hf
 ·exact refFds v s c r a er w hx hf
 ·exact refQueue v s c r a er w hx hf
 ·rw [objS_out ho]
  exact (refApplyOut o ho v s c r a er w hx).mono fun e w' ⟨he, hl⟩ => ⟨stZ, he, OwnS.zero _ _, hl⟩
theorem take_sameE {α : Type} {xs ys : List α} {d : α} {k : Nat} (h1 : k < xs.length) (h2 : k < ys.length) (h : xs.take k = ys.take k) (he : xs.getD k d = ys.getD k d) : xs.take (k + 1) = ys.take (k + 1) := by
 rw [List.take_succ_eq_append_getElem h1, List.take_succ_eq_append_getElem h2, h]
 simp [List.getD, h1, h2] at he
 rw [he]
theorem ne_of_atE {α : Type} {xs ys : List α} {d : α} {k : Nat} (he : ¬ xs.getD k d = ys.getD k d) : ¬ xs = ys := fun h => he (by rw [h])
theorem ev_ne {x y : Ev} (h : ¬ x = y) : (x.t == y.t) = false ∨ ((x.t == y.t) = true ∧ (x.ca == y.ca) = false) ∨ ((x.t == y.t) = true ∧ (x.ca == y.ca) = true ∧ (x.c == y.c) = false) ∨ ((x.t == y.t) = true ∧ (x.ca == y.ca) = true ∧ (x.c == y.c) = true ∧ (x.r == y.r) = false) ∨ ((x.t == y.t) = true ∧ (x.ca == y.ca) = true ∧ (x.c == y.c) = true ∧ (x.r == y.r) = true ∧ (x.a == y.a) = false) ∨ ((x.t == y.t) = true ∧ (x.ca == y.ca) = true ∧ (x.c == y.c) = true ∧ (x.r == y.r) = true ∧ (x.a == y.a) = true ∧ (x.an == y.an) = false) := by
 cases e0 : x.t == y.t
 ·exact .inl rfl
 cases e1 : x.ca == y.ca
 ·exact .inr (.inl ⟨rfl, rfl⟩)
 cases e2 : x.c == y.c
 ·exact .inr (.inr (.inl ⟨rfl, rfl, rfl⟩))
 cases e3 : x.r == y.r
 ·exact .inr (.inr (.inr (.inl ⟨rfl, rfl, rfl, rfl⟩)))
 cases e4 : x.a == y.a
 ·exact .inr (.inr (.inr (.inr (.inl ⟨rfl, rfl, rfl, rfl, rfl⟩))))
 cases e5 : x.an == y.an
 ·exact .inr (.inr (.inr (.inr (.inr ⟨rfl, rfl, rfl, rfl, rfl, rfl⟩))))
 exfalso
 obtain ⟨_, _, _, _, _, _⟩ := x
 obtain ⟨_, _, _, _, _, _⟩ := y
 simp at e0 e1 e2 e3 e4 e5
 subst e0 e1 e2 e3 e4 e5
 exact h rfl
set_option maxHeartbeats 1000000 in
theorem lawSameEvents (v u : Value) (xs ys : List Ev) (w : World) (hx : HasE evK w v xs) (hy : HasE evK w u ys) (hm : xs.length ≤ 9223372036854775807) :
   Calls Tryz.prog 34 #[v, u] w fun e w' => e = .returned (.bool (decide (xs = ys))) ∧ Le w w' := by
 obtain ⟨a, cap, rfl, hc, _, hx⟩ := hx.openEv
 obtain ⟨c, cap', rfl, hc', _, hy⟩ := hy.openEv
 by_cases hl : xs.length = ys.length
 ·by_cases h0 : 0 < xs.length
  ·obtain ⟨b, off, rfl, hcell⟩ := hx h0
   obtain ⟨b', off', rfl, hcell'⟩ := hy (by omega)
   have HL : Hid (xs.length = ys.length) := hl
   obtain ⟨L, hL⟩ : ∃ L, L = xs.length := ⟨_, rfl⟩
   rw [← hL] at hm ⊢
   have hL' : ys.length = L := by omega
   rw [hL']
   have HLx : Hid (xs.length = L) := hL.symm
   have HLy : Hid (ys.length = L) := hL'
   rw [← hL] at hcell h0 hc
   rw [hL'] at hcell' hc'
   clear hl hx hy hL hL'
   go_enter Tryz.func34, Tryz.ntmps34
   go_wp2
   go_loopw [5] (fun i wr => ∃ k n : Nat, k ≤ L ∧ i = .int .i64 k ∧ Hid (xs.take k = ys.take k) ∧ wr = w.drewN n) (fun i _ => L - (intOf i).toNat)
   case atStart => exact ⟨0, 0, Nat.zero_le _, rfl, rfl, rfl⟩
   case round =>
     obtain ⟨k, n, hk, rfl, HT, rfl⟩ := hrel
     by_cases hlt : k < L
     ·obtain ⟨x, hxk⟩ : ∃ x, x = xs.getD k Ev.zero := ⟨_, rfl⟩
      obtain ⟨x0, x1, x2, x3, x4, x5⟩ := hcell k hlt
      rw [← hxk] at x0 x1 x2 x3 x4 x5
      obtain ⟨y, hyk⟩ : ∃ y, y = ys.getD k Ev.zero := ⟨_, rfl⟩
      obtain ⟨y0, y1, y2, y3, y4, y5⟩ := hcell' k hlt
      rw [← hyk] at y0 y1 y2 y3 y4 y5
      have HX : Hid (x = xs.getD k Ev.zero) := hxk
      have HY : Hid (y = ys.getD k Ev.zero) := hyk
      have hlt' : (k : Int) < (L : Int) := by omega
      clear hxk hyk hcell hcell'
      by_cases hxy : x = y
      ·subst hxy
       go_wp2
       go_quiet (fail)
       go_wp2
       go_roundw
       case rel => exact ⟨k + 1, n + nq, by omega, by go_num, take_sameE (by have := HLx.out; omega) (by have := HLy.out; omega) HT.out (by rw [← HX.out, ← HY.out]), rfl⟩
       case measure => simp [intOf]; omega
      ·have HN : Hid (¬ x = y) := hxy
       rcases ev_ne hxy with e0 | ⟨e0, e1⟩ | ⟨e0, e1, e2⟩ | ⟨e0, e1, e2, e3⟩ | ⟨e0, e1, e2, e3, e4⟩ | ⟨e0, e1, e2, e3, e4, e5⟩
       all_goals
         clear hxy
         go_wp2
         go_quiet (fail)
         go_wp2
         go_ret
         exact ⟨ret_bool (by have := ne_of_atE (k := k) (d := Ev.zero) (xs := xs) (ys := ys) (by rw [← HX.out, ← HY.out]; exact HN.out); simp [this]), by rw [World.drewN_drewN]; exact Le.drewN _ _⟩
     ·go_wp2
      go_ret
      refine ⟨ret_bool ?_, Le.drewN _ _⟩
      have h1 := HLx.out
      have h2 := HLy.out
      have := HT.out
      rw [List.take_of_length_le (by omega), List.take_of_length_le (by omega)] at this
      simp [this]
  ·have hxn : xs = [] := by cases xs with | nil => rfl | cons _ _ => simp at h0
   have hyn : ys = [] := by cases ys with | nil => rfl | cons _ _ => subst hxn; simp at hl
   subst hxn hyn
   go_enter Tryz.func34, Tryz.ntmps34
   go_wp2
   refine wp_loop_rounds 1 ?_
   rw [rounds_succ]
   go_wp2
   go_ret
   exact ⟨ret_bool (by simp), Le.refl _⟩
 ·have hne : (((xs.length : Int)) != (ys.length : Int)) = true := by simp; omega
  have HN : Hid (¬ xs = ys) := fun h => hl (by rw [h])
  clear hl
  go_enter Tryz.func34, Tryz.ntmps34
  go_wp2
  go_ret
  exact ⟨ret_bool (by have := HN.out; simp [this]), Le.refl _⟩
abbrev cellsT (T : Th) (b t : Sl) : Array Value := #[.int .i64 T.st, .int .i64 T.c, .int .i64 T.r, .int .i64 T.a, .int .i64 T.lg, .int .i64 T.sn, slV b, .int .i64 T.pl, .bool T.po, .bool T.re, .int .i64 T.an, slV t]
theorem Box.th {w : World} {g : Nat} {T : Th} {b t : Sl} {ty : TypeId} (h : Box w g (cellsT T b t) ty) :
   w.cell? ⟨g, 0, none⟩ = some (.int .i64 T.st) ∧ w.cell? ⟨g, 1, none⟩ = some (.int .i64 T.c) ∧ w.cell? ⟨g, 2, none⟩ = some (.int .i64 T.r) ∧ w.cell? ⟨g, 3, none⟩ = some (.int .i64 T.a) ∧
   w.cell? ⟨g, 4, none⟩ = some (.int .i64 T.lg) ∧ w.cell? ⟨g, 5, none⟩ = some (.int .i64 T.sn) ∧ w.cell? ⟨g, 6, none⟩ = some (slV b) ∧ w.cell? ⟨g, 7, none⟩ = some (.int .i64 T.pl) ∧
   w.cell? ⟨g, 8, none⟩ = some (.bool T.po) ∧ w.cell? ⟨g, 9, none⟩ = some (.bool T.re) ∧ w.cell? ⟨g, 10, none⟩ = some (.int .i64 T.an) ∧ w.cell? ⟨g, 11, none⟩ = some (slV t) :=
 ⟨h.cell 0, h.cell 1, h.cell 2, h.cell 3, h.cell 4, h.cell 5, h.cell 6, h.cell 7, h.cell 8, h.cell 9, h.cell 10, h.cell 11⟩
set_option linter.unusedVariables false in
set_option maxRecDepth 8000 in
set_option maxHeartbeats 8000000 in
theorem sameTh0 (v u : Value) (T S : Th) (w : World) (hx : HasT w v T) (hy : HasT w u S) (hf : T.b.length * 8 ≤ 140737488351232) (hf2 : T.tl.length * 8 ≤ 140737488351232) (e0 : ¬ T.st = S.st) :
   Calls Tryz.prog 36 #[v, u] w fun e w' => e = .returned (.bool (decide (T = S))) ∧ Le w w' := by
 obtain ⟨q, t, rfl, hq, ht⟩ := hx
 obtain ⟨q', t', rfl, hq', ht'⟩ := hy
 have hl := (Le.alloc w (.cells (cellsT T q t) 59)).trans (Le.alloc _ (.cells (cellsT S q' t') 59))
 have hb1 := (Box.new w (cellsT T q t) 59).le (Le.alloc _ (.cells (cellsT S q' t') 59))
 have hb2 := Box.new (w.alloc (.cells (cellsT T q t) 59)) (cellsT S q' t') 59
 rw [World.size_alloc] at hb2
 obtain ⟨x0, x1, x2, x3, x4, x5, xb, x7, x8, x9, x10, xt⟩ := T
 obtain ⟨y0, y1, y2, y3, y4, y5, yb, y7, y8, y9, y10, yt⟩ := S
 simp only at hq ht hq' ht' hf hf2 e0 ⊢
 have hs := lawSameI _ _ xb yb _ (hq.le hl) (hq'.le hl) hf
 have hs2 := fun w' (l : Le ((w.alloc (.cells (cellsT ⟨x0, x1, x2, x3, x4, x5, xb, x7, x8, x9, x10, xt⟩ q t) 59)).alloc (.cells (cellsT ⟨y0, y1, y2, y3, y4, y5, yb, y7, y8, y9, y10, yt⟩ q' t') 59)) w') => lawSameI _ _ xt yt w' (ht.le (hl.trans l)) (ht'.le (hl.trans l)) hf2
 rw [show decide _ = false from decide_eq_false (fun h => e0 (congrArg Th.st h))]
 have hne : (x0 == y0) = false := by simp [e0]
 clear hs2
 clear e0
 go_enter Tryz.func36, Tryz.ntmps36
 go_wp2_with fail
 go_ret
 exact ⟨rfl, hl⟩
set_option linter.unusedVariables false in
set_option maxRecDepth 8000 in
set_option maxHeartbeats 8000000 in
theorem sameTh1 (v u : Value) (T S : Th) (w : World) (hx : HasT w v T) (hy : HasT w u S) (hf : T.b.length * 8 ≤ 140737488351232) (hf2 : T.tl.length * 8 ≤ 140737488351232) (e0 : T.st = S.st) (e1 : ¬ T.c = S.c) :
   Calls Tryz.prog 36 #[v, u] w fun e w' => e = .returned (.bool (decide (T = S))) ∧ Le w w' := by
 obtain ⟨q, t, rfl, hq, ht⟩ := hx
 obtain ⟨q', t', rfl, hq', ht'⟩ := hy
 have hl := (Le.alloc w (.cells (cellsT T q t) 59)).trans (Le.alloc _ (.cells (cellsT S q' t') 59))
 have hb1 := (Box.new w (cellsT T q t) 59).le (Le.alloc _ (.cells (cellsT S q' t') 59))
 have hb2 := Box.new (w.alloc (.cells (cellsT T q t) 59)) (cellsT S q' t') 59
 rw [World.size_alloc] at hb2
 obtain ⟨x0, x1, x2, x3, x4, x5, xb, x7, x8, x9, x10, xt⟩ := T
 obtain ⟨y0, y1, y2, y3, y4, y5, yb, y7, y8, y9, y10, yt⟩ := S
 simp only at hq ht hq' ht' hf hf2 e0 e1 ⊢
 have hs := lawSameI _ _ xb yb _ (hq.le hl) (hq'.le hl) hf
 have hs2 := fun w' (l : Le ((w.alloc (.cells (cellsT ⟨x0, x1, x2, x3, x4, x5, xb, x7, x8, x9, x10, xt⟩ q t) 59)).alloc (.cells (cellsT ⟨y0, y1, y2, y3, y4, y5, yb, y7, y8, y9, y10, yt⟩ q' t') 59)) w') => lawSameI _ _ xt yt w' (ht.le (hl.trans l)) (ht'.le (hl.trans l)) hf2
 subst e0
 rw [show decide _ = false from decide_eq_false (fun h => e1 (congrArg Th.c h))]
 have hne : (x1 == y1) = false := by simp [e1]
 clear hs2
 clear e1
 go_enter Tryz.func36, Tryz.ntmps36
 go_wp2_with fail
 go_ret
 exact ⟨rfl, hl⟩
set_option linter.unusedVariables false in
set_option maxRecDepth 8000 in
set_option maxHeartbeats 8000000 in
theorem sameTh2 (v u : Value) (T S : Th) (w : World) (hx : HasT w v T) (hy : HasT w u S) (hf : T.b.length * 8 ≤ 140737488351232) (hf2 : T.tl.length * 8 ≤ 140737488351232) (e0 : T.st = S.st) (e1 : T.c = S.c) (e2 : ¬ T.r = S.r) :
   Calls Tryz.prog 36 #[v, u] w fun e w' => e = .returned (.bool (decide (T = S))) ∧ Le w w' := by
 obtain ⟨q, t, rfl, hq, ht⟩ := hx
 obtain ⟨q', t', rfl, hq', ht'⟩ := hy
 have hl := (Le.alloc w (.cells (cellsT T q t) 59)).trans (Le.alloc _ (.cells (cellsT S q' t') 59))
 have hb1 := (Box.new w (cellsT T q t) 59).le (Le.alloc _ (.cells (cellsT S q' t') 59))
 have hb2 := Box.new (w.alloc (.cells (cellsT T q t) 59)) (cellsT S q' t') 59
 rw [World.size_alloc] at hb2
 obtain ⟨x0, x1, x2, x3, x4, x5, xb, x7, x8, x9, x10, xt⟩ := T
 obtain ⟨y0, y1, y2, y3, y4, y5, yb, y7, y8, y9, y10, yt⟩ := S
 simp only at hq ht hq' ht' hf hf2 e0 e1 e2 ⊢
 have hs := lawSameI _ _ xb yb _ (hq.le hl) (hq'.le hl) hf
 have hs2 := fun w' (l : Le ((w.alloc (.cells (cellsT ⟨x0, x1, x2, x3, x4, x5, xb, x7, x8, x9, x10, xt⟩ q t) 59)).alloc (.cells (cellsT ⟨y0, y1, y2, y3, y4, y5, yb, y7, y8, y9, y10, yt⟩ q' t') 59)) w') => lawSameI _ _ xt yt w' (ht.le (hl.trans l)) (ht'.le (hl.trans l)) hf2
 subst e0
 subst e1
 rw [show decide _ = false from decide_eq_false (fun h => e2 (congrArg Th.r h))]
 have hne : (x2 == y2) = false := by simp [e2]
 clear hs2
 clear e2
 go_enter Tryz.func36, Tryz.ntmps36
 go_wp2_with fail
 go_ret
 exact ⟨rfl, hl⟩
set_option linter.unusedVariables false in
set_option maxRecDepth 8000 in
set_option maxHeartbeats 8000000 in
theorem sameTh3 (v u : Value) (T S : Th) (w : World) (hx : HasT w v T) (hy : HasT w u S) (hf : T.b.length * 8 ≤ 140737488351232) (hf2 : T.tl.length * 8 ≤ 140737488351232) (e0 : T.st = S.st) (e1 : T.c = S.c) (e2 : T.r = S.r) (e3 : ¬ T.a = S.a) :
   Calls Tryz.prog 36 #[v, u] w fun e w' => e = .returned (.bool (decide (T = S))) ∧ Le w w' := by
 obtain ⟨q, t, rfl, hq, ht⟩ := hx
 obtain ⟨q', t', rfl, hq', ht'⟩ := hy
 have hl := (Le.alloc w (.cells (cellsT T q t) 59)).trans (Le.alloc _ (.cells (cellsT S q' t') 59))
 have hb1 := (Box.new w (cellsT T q t) 59).le (Le.alloc _ (.cells (cellsT S q' t') 59))
 have hb2 := Box.new (w.alloc (.cells (cellsT T q t) 59)) (cellsT S q' t') 59
 rw [World.size_alloc] at hb2
 obtain ⟨x0, x1, x2, x3, x4, x5, xb, x7, x8, x9, x10, xt⟩ := T
 obtain ⟨y0, y1, y2, y3, y4, y5, yb, y7, y8, y9, y10, yt⟩ := S
 simp only at hq ht hq' ht' hf hf2 e0 e1 e2 e3 ⊢
 have hs := lawSameI _ _ xb yb _ (hq.le hl) (hq'.le hl) hf
 have hs2 := fun w' (l : Le ((w.alloc (.cells (cellsT ⟨x0, x1, x2, x3, x4, x5, xb, x7, x8, x9, x10, xt⟩ q t) 59)).alloc (.cells (cellsT ⟨y0, y1, y2, y3, y4, y5, yb, y7, y8, y9, y10, yt⟩ q' t') 59)) w') => lawSameI _ _ xt yt w' (ht.le (hl.trans l)) (ht'.le (hl.trans l)) hf2
 subst e0
 subst e1
 subst e2
 rw [show decide _ = false from decide_eq_false (fun h => e3 (congrArg Th.a h))]
 have hne : (x3 == y3) = false := by simp [e3]
 clear hs2
 clear e3
 go_enter Tryz.func36, Tryz.ntmps36
 go_wp2_with fail
 go_ret
 exact ⟨rfl, hl⟩
set_option linter.unusedVariables false in
set_option maxRecDepth 8000 in
set_option maxHeartbeats 8000000 in
theorem sameTh4 (v u : Value) (T S : Th) (w : World) (hx : HasT w v T) (hy : HasT w u S) (hf : T.b.length * 8 ≤ 140737488351232) (hf2 : T.tl.length * 8 ≤ 140737488351232) (e0 : T.st = S.st) (e1 : T.c = S.c) (e2 : T.r = S.r) (e3 : T.a = S.a) (e4 : ¬ T.lg = S.lg) :
   Calls Tryz.prog 36 #[v, u] w fun e w' => e = .returned (.bool (decide (T = S))) ∧ Le w w' := by
 obtain ⟨q, t, rfl, hq, ht⟩ := hx
 obtain ⟨q', t', rfl, hq', ht'⟩ := hy
 have hl := (Le.alloc w (.cells (cellsT T q t) 59)).trans (Le.alloc _ (.cells (cellsT S q' t') 59))
 have hb1 := (Box.new w (cellsT T q t) 59).le (Le.alloc _ (.cells (cellsT S q' t') 59))
 have hb2 := Box.new (w.alloc (.cells (cellsT T q t) 59)) (cellsT S q' t') 59
 rw [World.size_alloc] at hb2
 obtain ⟨x0, x1, x2, x3, x4, x5, xb, x7, x8, x9, x10, xt⟩ := T
 obtain ⟨y0, y1, y2, y3, y4, y5, yb, y7, y8, y9, y10, yt⟩ := S
 simp only at hq ht hq' ht' hf hf2 e0 e1 e2 e3 e4 ⊢
 have hs := lawSameI _ _ xb yb _ (hq.le hl) (hq'.le hl) hf
 have hs2 := fun w' (l : Le ((w.alloc (.cells (cellsT ⟨x0, x1, x2, x3, x4, x5, xb, x7, x8, x9, x10, xt⟩ q t) 59)).alloc (.cells (cellsT ⟨y0, y1, y2, y3, y4, y5, yb, y7, y8, y9, y10, yt⟩ q' t') 59)) w') => lawSameI _ _ xt yt w' (ht.le (hl.trans l)) (ht'.le (hl.trans l)) hf2
 subst e0
 subst e1
 subst e2
 subst e3
 rw [show decide _ = false from decide_eq_false (fun h => e4 (congrArg Th.lg h))]
 have hne : (x4 == y4) = false := by simp [e4]
 clear hs2
 clear e4
 go_enter Tryz.func36, Tryz.ntmps36
 go_wp2_with fail
 go_ret
 exact ⟨rfl, hl⟩
set_option linter.unusedVariables false in
set_option maxRecDepth 8000 in
set_option maxHeartbeats 8000000 in
theorem sameTh5 (v u : Value) (T S : Th) (w : World) (hx : HasT w v T) (hy : HasT w u S) (hf : T.b.length * 8 ≤ 140737488351232) (hf2 : T.tl.length * 8 ≤ 140737488351232) (e0 : T.st = S.st) (e1 : T.c = S.c) (e2 : T.r = S.r) (e3 : T.a = S.a) (e4 : T.lg = S.lg) (e5 : ¬ T.sn = S.sn) :
   Calls Tryz.prog 36 #[v, u] w fun e w' => e = .returned (.bool (decide (T = S))) ∧ Le w w' := by
 obtain ⟨q, t, rfl, hq, ht⟩ := hx
 obtain ⟨q', t', rfl, hq', ht'⟩ := hy
 have hl := (Le.alloc w (.cells (cellsT T q t) 59)).trans (Le.alloc _ (.cells (cellsT S q' t') 59))
 have hb1 := (Box.new w (cellsT T q t) 59).le (Le.alloc _ (.cells (cellsT S q' t') 59))
 have hb2 := Box.new (w.alloc (.cells (cellsT T q t) 59)) (cellsT S q' t') 59
 rw [World.size_alloc] at hb2
 obtain ⟨x0, x1, x2, x3, x4, x5, xb, x7, x8, x9, x10, xt⟩ := T
 obtain ⟨y0, y1, y2, y3, y4, y5, yb, y7, y8, y9, y10, yt⟩ := S
 simp only at hq ht hq' ht' hf hf2 e0 e1 e2 e3 e4 e5 ⊢
 have hs := lawSameI _ _ xb yb _ (hq.le hl) (hq'.le hl) hf
 have hs2 := fun w' (l : Le ((w.alloc (.cells (cellsT ⟨x0, x1, x2, x3, x4, x5, xb, x7, x8, x9, x10, xt⟩ q t) 59)).alloc (.cells (cellsT ⟨y0, y1, y2, y3, y4, y5, yb, y7, y8, y9, y10, yt⟩ q' t') 59)) w') => lawSameI _ _ xt yt w' (ht.le (hl.trans l)) (ht'.le (hl.trans l)) hf2
 subst e0
 subst e1
 subst e2
 subst e3
 subst e4
 rw [show decide _ = false from decide_eq_false (fun h => e5 (congrArg Th.sn h))]
 have hne : (x5 == y5) = false := by simp [e5]
 clear hs2
 clear e5
 go_enter Tryz.func36, Tryz.ntmps36
 go_wp2_with fail
 go_ret
 exact ⟨rfl, hl⟩
set_option linter.unusedVariables false in
set_option maxRecDepth 8000 in
set_option maxHeartbeats 8000000 in
theorem sameTh6 (v u : Value) (T S : Th) (w : World) (hx : HasT w v T) (hy : HasT w u S) (hf : T.b.length * 8 ≤ 140737488351232) (hf2 : T.tl.length * 8 ≤ 140737488351232) (e0 : T.st = S.st) (e1 : T.c = S.c) (e2 : T.r = S.r) (e3 : T.a = S.a) (e4 : T.lg = S.lg) (e5 : T.sn = S.sn) (e6 : ¬ T.b = S.b) :
   Calls Tryz.prog 36 #[v, u] w fun e w' => e = .returned (.bool (decide (T = S))) ∧ Le w w' := by
 obtain ⟨q, t, rfl, hq, ht⟩ := hx
 obtain ⟨q', t', rfl, hq', ht'⟩ := hy
 have hl := (Le.alloc w (.cells (cellsT T q t) 59)).trans (Le.alloc _ (.cells (cellsT S q' t') 59))
 have hb1 := (Box.new w (cellsT T q t) 59).le (Le.alloc _ (.cells (cellsT S q' t') 59))
 have hb2 := Box.new (w.alloc (.cells (cellsT T q t) 59)) (cellsT S q' t') 59
 rw [World.size_alloc] at hb2
 obtain ⟨x0, x1, x2, x3, x4, x5, xb, x7, x8, x9, x10, xt⟩ := T
 obtain ⟨y0, y1, y2, y3, y4, y5, yb, y7, y8, y9, y10, yt⟩ := S
 simp only at hq ht hq' ht' hf hf2 e0 e1 e2 e3 e4 e5 e6 ⊢
 have hs := lawSameI _ _ xb yb _ (hq.le hl) (hq'.le hl) hf
 have hs2 := fun w' (l : Le ((w.alloc (.cells (cellsT ⟨x0, x1, x2, x3, x4, x5, xb, x7, x8, x9, x10, xt⟩ q t) 59)).alloc (.cells (cellsT ⟨y0, y1, y2, y3, y4, y5, yb, y7, y8, y9, y10, yt⟩ q' t') 59)) w') => lawSameI _ _ xt yt w' (ht.le (hl.trans l)) (ht'.le (hl.trans l)) hf2
 subst e0
 subst e1
 subst e2
 subst e3
 subst e4
 subst e5
 rw [show decide _ = false from decide_eq_false (fun h => e6 (congrArg Th.b h))]
 rw [decide_eq_false e6] at hs
 clear hs2
 clear e6
 go_enter Tryz.func36, Tryz.ntmps36
 go_wp2_with fail
 refine hs.mono ?_
 rintro e w1 ⟨rfl, l1⟩
 obtain ⟨b0, b1, b2, b3, b4, b5, b6, b7, b8, b9, b10, b11⟩ := (hb1.le l1).th
 obtain ⟨c0, c1, c2, c3, c4, c5, c6, c7, c8, c9, c10, c11⟩ := (hb2.le l1).th
 go_wp2_with fail
 go_ret
 exact ⟨rfl, hl.trans l1⟩
set_option linter.unusedVariables false in
set_option maxRecDepth 8000 in
set_option maxHeartbeats 8000000 in
theorem sameTh7 (v u : Value) (T S : Th) (w : World) (hx : HasT w v T) (hy : HasT w u S) (hf : T.b.length * 8 ≤ 140737488351232) (hf2 : T.tl.length * 8 ≤ 140737488351232) (e0 : T.st = S.st) (e1 : T.c = S.c) (e2 : T.r = S.r) (e3 : T.a = S.a) (e4 : T.lg = S.lg) (e5 : T.sn = S.sn) (e6 : T.b = S.b) (e7 : ¬ T.pl = S.pl) :
   Calls Tryz.prog 36 #[v, u] w fun e w' => e = .returned (.bool (decide (T = S))) ∧ Le w w' := by
 obtain ⟨q, t, rfl, hq, ht⟩ := hx
 obtain ⟨q', t', rfl, hq', ht'⟩ := hy
 have hl := (Le.alloc w (.cells (cellsT T q t) 59)).trans (Le.alloc _ (.cells (cellsT S q' t') 59))
 have hb1 := (Box.new w (cellsT T q t) 59).le (Le.alloc _ (.cells (cellsT S q' t') 59))
 have hb2 := Box.new (w.alloc (.cells (cellsT T q t) 59)) (cellsT S q' t') 59
 rw [World.size_alloc] at hb2
 obtain ⟨x0, x1, x2, x3, x4, x5, xb, x7, x8, x9, x10, xt⟩ := T
 obtain ⟨y0, y1, y2, y3, y4, y5, yb, y7, y8, y9, y10, yt⟩ := S
 simp only at hq ht hq' ht' hf hf2 e0 e1 e2 e3 e4 e5 e6 e7 ⊢
 have hs := lawSameI _ _ xb yb _ (hq.le hl) (hq'.le hl) hf
 have hs2 := fun w' (l : Le ((w.alloc (.cells (cellsT ⟨x0, x1, x2, x3, x4, x5, xb, x7, x8, x9, x10, xt⟩ q t) 59)).alloc (.cells (cellsT ⟨y0, y1, y2, y3, y4, y5, yb, y7, y8, y9, y10, yt⟩ q' t') 59)) w') => lawSameI _ _ xt yt w' (ht.le (hl.trans l)) (ht'.le (hl.trans l)) hf2
 subst e0
 subst e1
 subst e2
 subst e3
 subst e4
 subst e5
 subst e6
 rw [show decide _ = false from decide_eq_false (fun h => e7 (congrArg Th.pl h))]
 simp only [decide_true] at hs
 have hne : (x7 == y7) = false := by simp [e7]
 clear hs2
 clear e7
 go_enter Tryz.func36, Tryz.ntmps36
 go_wp2_with fail
 refine hs.mono ?_
 rintro e w1 ⟨rfl, l1⟩
 obtain ⟨b0, b1, b2, b3, b4, b5, b6, b7, b8, b9, b10, b11⟩ := (hb1.le l1).th
 obtain ⟨c0, c1, c2, c3, c4, c5, c6, c7, c8, c9, c10, c11⟩ := (hb2.le l1).th
 go_wp2_with fail
 go_ret
 exact ⟨rfl, hl.trans l1⟩
set_option linter.unusedVariables false in
set_option maxRecDepth 8000 in
set_option maxHeartbeats 8000000 in
theorem sameTh8 (v u : Value) (T S : Th) (w : World) (hx : HasT w v T) (hy : HasT w u S) (hf : T.b.length * 8 ≤ 140737488351232) (hf2 : T.tl.length * 8 ≤ 140737488351232) (e0 : T.st = S.st) (e1 : T.c = S.c) (e2 : T.r = S.r) (e3 : T.a = S.a) (e4 : T.lg = S.lg) (e5 : T.sn = S.sn) (e6 : T.b = S.b) (e7 : T.pl = S.pl) (e8 : ¬ T.po = S.po) :
   Calls Tryz.prog 36 #[v, u] w fun e w' => e = .returned (.bool (decide (T = S))) ∧ Le w w' := by
 obtain ⟨q, t, rfl, hq, ht⟩ := hx
 obtain ⟨q', t', rfl, hq', ht'⟩ := hy
 have hl := (Le.alloc w (.cells (cellsT T q t) 59)).trans (Le.alloc _ (.cells (cellsT S q' t') 59))
 have hb1 := (Box.new w (cellsT T q t) 59).le (Le.alloc _ (.cells (cellsT S q' t') 59))
 have hb2 := Box.new (w.alloc (.cells (cellsT T q t) 59)) (cellsT S q' t') 59
 rw [World.size_alloc] at hb2
 obtain ⟨x0, x1, x2, x3, x4, x5, xb, x7, x8, x9, x10, xt⟩ := T
 obtain ⟨y0, y1, y2, y3, y4, y5, yb, y7, y8, y9, y10, yt⟩ := S
 simp only at hq ht hq' ht' hf hf2 e0 e1 e2 e3 e4 e5 e6 e7 e8 ⊢
 have hs := lawSameI _ _ xb yb _ (hq.le hl) (hq'.le hl) hf
 have hs2 := fun w' (l : Le ((w.alloc (.cells (cellsT ⟨x0, x1, x2, x3, x4, x5, xb, x7, x8, x9, x10, xt⟩ q t) 59)).alloc (.cells (cellsT ⟨y0, y1, y2, y3, y4, y5, yb, y7, y8, y9, y10, yt⟩ q' t') 59)) w') => lawSameI _ _ xt yt w' (ht.le (hl.trans l)) (ht'.le (hl.trans l)) hf2
 subst e0
 subst e1
 subst e2
 subst e3
 subst e4
 subst e5
 subst e6
 subst e7
 rw [show decide _ = false from decide_eq_false (fun h => e8 (congrArg Th.po h))]
 simp only [decide_true] at hs
 have hne : (x8 == y8) = false := by simp [e8]
 clear hs2
 clear e8
 go_enter Tryz.func36, Tryz.ntmps36
 go_wp2_with fail
 refine hs.mono ?_
 rintro e w1 ⟨rfl, l1⟩
 obtain ⟨b0, b1, b2, b3, b4, b5, b6, b7, b8, b9, b10, b11⟩ := (hb1.le l1).th
 obtain ⟨c0, c1, c2, c3, c4, c5, c6, c7, c8, c9, c10, c11⟩ := (hb2.le l1).th
 go_wp2_with fail
 go_ret
 exact ⟨rfl, hl.trans l1⟩
set_option linter.unusedVariables false in
set_option maxRecDepth 8000 in
set_option maxHeartbeats 8000000 in
theorem sameTh9 (v u : Value) (T S : Th) (w : World) (hx : HasT w v T) (hy : HasT w u S) (hf : T.b.length * 8 ≤ 140737488351232) (hf2 : T.tl.length * 8 ≤ 140737488351232) (e0 : T.st = S.st) (e1 : T.c = S.c) (e2 : T.r = S.r) (e3 : T.a = S.a) (e4 : T.lg = S.lg) (e5 : T.sn = S.sn) (e6 : T.b = S.b) (e7 : T.pl = S.pl) (e8 : T.po = S.po) (e9 : ¬ T.re = S.re) :
   Calls Tryz.prog 36 #[v, u] w fun e w' => e = .returned (.bool (decide (T = S))) ∧ Le w w' := by
 obtain ⟨q, t, rfl, hq, ht⟩ := hx
 obtain ⟨q', t', rfl, hq', ht'⟩ := hy
 have hl := (Le.alloc w (.cells (cellsT T q t) 59)).trans (Le.alloc _ (.cells (cellsT S q' t') 59))
 have hb1 := (Box.new w (cellsT T q t) 59).le (Le.alloc _ (.cells (cellsT S q' t') 59))
 have hb2 := Box.new (w.alloc (.cells (cellsT T q t) 59)) (cellsT S q' t') 59
 rw [World.size_alloc] at hb2
 obtain ⟨x0, x1, x2, x3, x4, x5, xb, x7, x8, x9, x10, xt⟩ := T
 obtain ⟨y0, y1, y2, y3, y4, y5, yb, y7, y8, y9, y10, yt⟩ := S
 simp only at hq ht hq' ht' hf hf2 e0 e1 e2 e3 e4 e5 e6 e7 e8 e9 ⊢
 have hs := lawSameI _ _ xb yb _ (hq.le hl) (hq'.le hl) hf
 have hs2 := fun w' (l : Le ((w.alloc (.cells (cellsT ⟨x0, x1, x2, x3, x4, x5, xb, x7, x8, x9, x10, xt⟩ q t) 59)).alloc (.cells (cellsT ⟨y0, y1, y2, y3, y4, y5, yb, y7, y8, y9, y10, yt⟩ q' t') 59)) w') => lawSameI _ _ xt yt w' (ht.le (hl.trans l)) (ht'.le (hl.trans l)) hf2
 subst e0
 subst e1
 subst e2
 subst e3
 subst e4
 subst e5
 subst e6
 subst e7
 subst e8
 rw [show decide _ = false from decide_eq_false (fun h => e9 (congrArg Th.re h))]
 simp only [decide_true] at hs
 have hne : (x9 == y9) = false := by simp [e9]
 clear hs2
 clear e9
 go_enter Tryz.func36, Tryz.ntmps36
 go_wp2_with fail
 refine hs.mono ?_
 rintro e w1 ⟨rfl, l1⟩
 obtain ⟨b0, b1, b2, b3, b4, b5, b6, b7, b8, b9, b10, b11⟩ := (hb1.le l1).th
 obtain ⟨c0, c1, c2, c3, c4, c5, c6, c7, c8, c9, c10, c11⟩ := (hb2.le l1).th
 go_wp2_with fail
 go_ret
 exact ⟨rfl, hl.trans l1⟩
set_option linter.unusedVariables false in
set_option maxRecDepth 8000 in
set_option maxHeartbeats 8000000 in
theorem sameTh10 (v u : Value) (T S : Th) (w : World) (hx : HasT w v T) (hy : HasT w u S) (hf : T.b.length * 8 ≤ 140737488351232) (hf2 : T.tl.length * 8 ≤ 140737488351232) (e0 : T.st = S.st) (e1 : T.c = S.c) (e2 : T.r = S.r) (e3 : T.a = S.a) (e4 : T.lg = S.lg) (e5 : T.sn = S.sn) (e6 : T.b = S.b) (e7 : T.pl = S.pl) (e8 : T.po = S.po) (e9 : T.re = S.re) (e10 : ¬ T.an = S.an) :
   Calls Tryz.prog 36 #[v, u] w fun e w' => e = .returned (.bool (decide (T = S))) ∧ Le w w' := by
 obtain ⟨q, t, rfl, hq, ht⟩ := hx
 obtain ⟨q', t', rfl, hq', ht'⟩ := hy
 have hl := (Le.alloc w (.cells (cellsT T q t) 59)).trans (Le.alloc _ (.cells (cellsT S q' t') 59))
 have hb1 := (Box.new w (cellsT T q t) 59).le (Le.alloc _ (.cells (cellsT S q' t') 59))
 have hb2 := Box.new (w.alloc (.cells (cellsT T q t) 59)) (cellsT S q' t') 59
 rw [World.size_alloc] at hb2
 obtain ⟨x0, x1, x2, x3, x4, x5, xb, x7, x8, x9, x10, xt⟩ := T
 obtain ⟨y0, y1, y2, y3, y4, y5, yb, y7, y8, y9, y10, yt⟩ := S
 simp only at hq ht hq' ht' hf hf2 e0 e1 e2 e3 e4 e5 e6 e7 e8 e9 e10 ⊢
 have hs := lawSameI _ _ xb yb _ (hq.le hl) (hq'.le hl) hf
 have hs2 := fun w' (l : Le ((w.alloc (.cells (cellsT ⟨x0, x1, x2, x3, x4, x5, xb, x7, x8, x9, x10, xt⟩ q t) 59)).alloc (.cells (cellsT ⟨y0, y1, y2, y3, y4, y5, yb, y7, y8, y9, y10, yt⟩ q' t') 59)) w') => lawSameI _ _ xt yt w' (ht.le (hl.trans l)) (ht'.le (hl.trans l)) hf2
 subst e0
 subst e1
 subst e2
 subst e3
 subst e4
 subst e5
 subst e6
 subst e7
 subst e8
 subst e9
 rw [show decide _ = false from decide_eq_false (fun h => e10 (congrArg Th.an h))]
 simp only [decide_true] at hs
 have hne : (x10 == y10) = false := by simp [e10]
 clear hs2
 clear e10
 go_enter Tryz.func36, Tryz.ntmps36
 go_wp2_with fail
 refine hs.mono ?_
 rintro e w1 ⟨rfl, l1⟩
 obtain ⟨b0, b1, b2, b3, b4, b5, b6, b7, b8, b9, b10, b11⟩ := (hb1.le l1).th
 obtain ⟨c0, c1, c2, c3, c4, c5, c6, c7, c8, c9, c10, c11⟩ := (hb2.le l1).th
 go_wp2_with fail
 go_ret
 exact ⟨rfl, hl.trans l1⟩
set_option linter.unusedVariables false in
set_option maxRecDepth 8000 in
set_option maxHeartbeats 8000000 in
theorem sameTh11 (v u : Value) (T S : Th) (w : World) (hx : HasT w v T) (hy : HasT w u S) (hf : T.b.length * 8 ≤ 140737488351232) (hf2 : T.tl.length * 8 ≤ 140737488351232) (e0 : T.st = S.st) (e1 : T.c = S.c) (e2 : T.r = S.r) (e3 : T.a = S.a) (e4 : T.lg = S.lg) (e5 : T.sn = S.sn) (e6 : T.b = S.b) (e7 : T.pl = S.pl) (e8 : T.po = S.po) (e9 : T.re = S.re) (e10 : T.an = S.an) (e11 : ¬ T.tl = S.tl) :
   Calls Tryz.prog 36 #[v, u] w fun e w' => e = .returned (.bool (decide (T = S))) ∧ Le w w' := by
 obtain ⟨q, t, rfl, hq, ht⟩ := hx
 obtain ⟨q', t', rfl, hq', ht'⟩ := hy
 have hl := (Le.alloc w (.cells (cellsT T q t) 59)).trans (Le.alloc _ (.cells (cellsT S q' t') 59))
 have hb1 := (Box.new w (cellsT T q t) 59).le (Le.alloc _ (.cells (cellsT S q' t') 59))
 have hb2 := Box.new (w.alloc (.cells (cellsT T q t) 59)) (cellsT S q' t') 59
 rw [World.size_alloc] at hb2
 obtain ⟨x0, x1, x2, x3, x4, x5, xb, x7, x8, x9, x10, xt⟩ := T
 obtain ⟨y0, y1, y2, y3, y4, y5, yb, y7, y8, y9, y10, yt⟩ := S
 simp only at hq ht hq' ht' hf hf2 e0 e1 e2 e3 e4 e5 e6 e7 e8 e9 e10 e11 ⊢
 have hs := lawSameI _ _ xb yb _ (hq.le hl) (hq'.le hl) hf
 have hs2 := fun w' (l : Le ((w.alloc (.cells (cellsT ⟨x0, x1, x2, x3, x4, x5, xb, x7, x8, x9, x10, xt⟩ q t) 59)).alloc (.cells (cellsT ⟨y0, y1, y2, y3, y4, y5, yb, y7, y8, y9, y10, yt⟩ q' t') 59)) w') => lawSameI _ _ xt yt w' (ht.le (hl.trans l)) (ht'.le (hl.trans l)) hf2
 subst e0
 subst e1
 subst e2
 subst e3
 subst e4
 subst e5
 subst e6
 subst e7
 subst e8
 subst e9
 subst e10
 rw [show decide _ = false from decide_eq_false (fun h => e11 (congrArg Th.tl h))]
 simp only [decide_true] at hs
 simp only [decide_eq_false e11] at hs2
 clear e11
 go_enter Tryz.func36, Tryz.ntmps36
 go_wp2_with fail
 refine hs.mono ?_
 rintro e w1 ⟨rfl, l1⟩
 obtain ⟨b0, b1, b2, b3, b4, b5, b6, b7, b8, b9, b10, b11⟩ := (hb1.le l1).th
 obtain ⟨c0, c1, c2, c3, c4, c5, c6, c7, c8, c9, c10, c11⟩ := (hb2.le l1).th
 go_wp2_with fail
 refine (hs2 _ l1).mono ?_
 rintro e w2 ⟨rfl, l2⟩
 go_wp2_with fail
 go_ret
 exact ⟨rfl, (hl.trans l1).trans l2⟩
set_option linter.unusedVariables false in
set_option maxRecDepth 8000 in
set_option maxHeartbeats 8000000 in
theorem sameTh12 (v u : Value) (T S : Th) (w : World) (hx : HasT w v T) (hy : HasT w u S) (hf : T.b.length * 8 ≤ 140737488351232) (hf2 : T.tl.length * 8 ≤ 140737488351232) (e0 : T.st = S.st) (e1 : T.c = S.c) (e2 : T.r = S.r) (e3 : T.a = S.a) (e4 : T.lg = S.lg) (e5 : T.sn = S.sn) (e6 : T.b = S.b) (e7 : T.pl = S.pl) (e8 : T.po = S.po) (e9 : T.re = S.re) (e10 : T.an = S.an) (e11 : T.tl = S.tl) :
   Calls Tryz.prog 36 #[v, u] w fun e w' => e = .returned (.bool (decide (T = S))) ∧ Le w w' := by
 obtain ⟨q, t, rfl, hq, ht⟩ := hx
 obtain ⟨q', t', rfl, hq', ht'⟩ := hy
 have hl := (Le.alloc w (.cells (cellsT T q t) 59)).trans (Le.alloc _ (.cells (cellsT S q' t') 59))
 have hb1 := (Box.new w (cellsT T q t) 59).le (Le.alloc _ (.cells (cellsT S q' t') 59))
 have hb2 := Box.new (w.alloc (.cells (cellsT T q t) 59)) (cellsT S q' t') 59
 rw [World.size_alloc] at hb2
 obtain ⟨x0, x1, x2, x3, x4, x5, xb, x7, x8, x9, x10, xt⟩ := T
 obtain ⟨y0, y1, y2, y3, y4, y5, yb, y7, y8, y9, y10, yt⟩ := S
 simp only at hq ht hq' ht' hf hf2 e0 e1 e2 e3 e4 e5 e6 e7 e8 e9 e10 e11 ⊢
 have hs := lawSameI _ _ xb yb _ (hq.le hl) (hq'.le hl) hf
 have hs2 := fun w' (l : Le ((w.alloc (.cells (cellsT ⟨x0, x1, x2, x3, x4, x5, xb, x7, x8, x9, x10, xt⟩ q t) 59)).alloc (.cells (cellsT ⟨y0, y1, y2, y3, y4, y5, yb, y7, y8, y9, y10, yt⟩ q' t') 59)) w') => lawSameI _ _ xt yt w' (ht.le (hl.trans l)) (ht'.le (hl.trans l)) hf2
 subst e0
 subst e1
 subst e2
 subst e3
 subst e4
 subst e5
 subst e6
 subst e7
 subst e8
 subst e9
 subst e10
 subst e11
 simp only [decide_true] at hs hs2 ⊢
 go_enter Tryz.func36, Tryz.ntmps36
 go_wp2_with fail
 refine hs.mono ?_
 rintro e w1 ⟨rfl, l1⟩
 obtain ⟨b0, b1, b2, b3, b4, b5, b6, b7, b8, b9, b10, b11⟩ := (hb1.le l1).th
 obtain ⟨c0, c1, c2, c3, c4, c5, c6, c7, c8, c9, c10, c11⟩ := (hb2.le l1).th
 go_wp2_with fail
 refine (hs2 _ l1).mono ?_
 rintro e w2 ⟨rfl, l2⟩
 go_wp2_with fail
 go_ret
 exact ⟨rfl, (hl.trans l1).trans l2⟩
end Go.Proofs.YtepplhbajmlbpaaGreat
