/-
  THE WALK over fds.Apply: what it answers, for every state and operation, and that what it hands back lies in memory of its own. Condition: the state's rows can be copied.
-/
import Derived.Test.YtjdedgamafdbmaaFdsB
import Derived.Test.YtjdedgamafdbmaaSts
import Derived.Deep.RegionHeld3
import Derived.Deep.Cut
namespace Go.Proofs.Ytjdedgamafdbmaa
open Go.RowKit

theorem fdsMay (v : Value) (s : St) (w : World) (hx : HasS w v s) :
    Calls Try.prog 19 #[v, .func (.func 33) #[] #[]] w fun e w' => e = .returned (.bool (s.all rowMay2)) ∧ Le w w' :=
  statesMay 33 rowMay2 (fun _ _ => by kernel_rfl) fdsMayRow v s w hx

/-- The document's answer: the state, the answer, the error. -/
def fdsS (s : St) (c r a e : Int) : St × Int × Int :=
  if s.all rowMay2 && opMay c r a then
    (if c = 3 then (s, manyTo s 4, 0)
    else if c = 2 then (s, ((s.at r.toNat).length : Int), 0)
    else if c = 1 then (s.put r.toNat (takeS (s.at r.toNat) a).1, (takeS (s.at r.toNat) a).2, 0)
    else (s.put r.toNat (putS (s.at r.toNat)).1, (putS (s.at r.toNat)).2, 0))
  else (St.zero, 0, e)

theorem len2 {s : St} (hm : s.all rowMay2 = true) : ∀ k, k < 4 → (s.at k).length ≤ 1000 := fun k hk => by
  have := rowMay2_len (St.all_at hm hk)
  omega

set_option maxHeartbeats 2000000 in
theorem fdsApplyNo (v : Value) (s : St) (c r a : Int) (w : World) (hx : HasS w v s) (h : (s.all rowMay2 && opMay c r a) = false) :
    Calls Try.prog 17 #[v, opV c r a] w fun e w' => e = .returned (.tuple #[stZ, .int .i64 0, .int .i64 400]) ∧ Le w w' := by
  have hx0 := hx
  obtain ⟨vs, rfl, hr⟩ := hx
  have hl := ((Le.alloc w (.cells (cells4 vs) 25)).trans (Le.alloc _ (.cells #[.int .i64 c, .int .i64 r, .int .i64 a] 27))).trans (Le.alloc _ (.cells (cells4 fun _ => slZ) 25))
  have hb1 := ((Box.new w (cells4 vs) 25).le (Le.alloc _ (.cells #[.int .i64 c, .int .i64 r, .int .i64 a] 27))).le (Le.alloc _ (.cells (cells4 fun _ => slZ) 25))
  have hb2 := (Box.new (w.alloc (.cells (cells4 vs) 25)) #[.int .i64 c, .int .i64 r, .int .i64 a] 27).le (Le.alloc _ (.cells (cells4 fun _ => slZ) 25))
  have hb3 := Box.new ((w.alloc (.cells (cells4 vs) 25)).alloc (.cells #[.int .i64 c, .int .i64 r, .int .i64 a] 27)) (cells4 fun _ => slZ) 25
  simp only [World.size_alloc] at hb1 hb2 hb3
  have hmay := fdsMay (stV vs) s _ (hx0.le hl)
  cases hm : s.all rowMay2
  · rw [hm] at hmay
    go_enter Try.func17, Try.ntmps17
    go_wp2_with fail
    refine hmay.mono ?_
    rintro e w1 ⟨rfl, l1⟩
    obtain ⟨z0, z1, z2, z3, f0, f1, f2, f3⟩ := (hb3.le l1).st
    go_wp2_with fail
    refine bodyPost_ret (v := .tuple #[stZ, .int .i64 0, .int .i64 400]) (by simp [results, Try.results17, go_sem, z0, z1, z2, z3]) rfl ⟨rfl, ?_⟩
    exact (hl.trans l1).set4 (by omega) _ _ _ _
  · have hop : opMay c r a = false := by simpa [hm] using h
    rw [hm] at hmay
    go_enter Try.func17, Try.ntmps17
    go_wp2_with fail
    refine hmay.mono ?_
    rintro e w1 ⟨rfl, l1⟩
    obtain ⟨y0, y1, y2, _, _, _⟩ := (hb2.le l1).op
    go_wp2_with fail
    refine (operMay _ _ _ _).mono ?_
    rw [hop]
    rintro e w2 ⟨rfl, l2⟩
    obtain ⟨z0, z1, z2, z3, f0, f1, f2, f3⟩ := ((hb3.le l1).le l2).st
    go_wp2_with fail
    refine bodyPost_ret (v := .tuple #[stZ, .int .i64 0, .int .i64 400]) (by simp [results, Try.results17, go_sem, z0, z1, z2, z3]) rfl ⟨rfl, ?_⟩
    exact ((hl.trans l1).trans l2).set4 (by omega) _ _ _ _

set_option maxHeartbeats 2000000 in
theorem fdsApplyLook (v : Value) (s : St) (k : Nat) (w : World) (hx : HasS w v s) (hf : Fit s) (hm : s.all rowMay2 = true) (hk : k < 4) :
    Calls Try.prog 17 #[v, opV 2 k 0] w fun e w' => ∃ v', e = .returned (.tuple #[v', .int .i64 ((s.at k).length : Int), .int .i64 0]) ∧ OwnS w' w.heap.size v' (s) ∧ Le w w' := by
  have hx0 := hx
  obtain ⟨vs, rfl, hr⟩ := hx
  have hl := ((Le.alloc w (.cells (cells4 vs) 25)).trans (Le.alloc _ (.cells #[.int .i64 2, .int .i64 k, .int .i64 0] 27))).trans (Le.alloc _ (.cells (cells4 fun _ => slZ) 25))
  have hb1 := ((Box.new w (cells4 vs) 25).le (Le.alloc _ (.cells #[.int .i64 2, .int .i64 k, .int .i64 0] 27))).le (Le.alloc _ (.cells (cells4 fun _ => slZ) 25))
  have hb2 := (Box.new (w.alloc (.cells (cells4 vs) 25)) #[.int .i64 2, .int .i64 k, .int .i64 0] 27).le (Le.alloc _ (.cells (cells4 fun _ => slZ) 25))
  have hb3 := Box.new ((w.alloc (.cells (cells4 vs) 25)).alloc (.cells #[.int .i64 2, .int .i64 k, .int .i64 0] 27)) (cells4 fun _ => slZ) 25
  simp only [World.size_alloc] at hb1 hb2 hb3
  have hmay := fdsMay (stV vs) s _ (hx0.le hl)
  rw [hm] at hmay
  have hop : opMay 2 k 0 = true := by simp [opMay]; omega
  go_enter Try.func17, Try.ntmps17
  go_wp2_with fail
  refine hmay.mono ?_
  rintro e w1 ⟨rfl, l1⟩
  obtain ⟨y0, y1, y2, _, _, _⟩ := (hb2.le l1).op
  clear hmay
  go_wp2_with fail
  refine (operMay _ _ _ _).mono ?_
  rw [hop]
  rintro e w2 ⟨rfl, l2⟩
  replace l1 := l1.trans l2
  clear l2 y0 y1 y2
  obtain ⟨y0, y1, y2, y3, _, _, _, _⟩ := (hb1.le l1).st
  go_wp2_with fail
  refine (statesCopy (stV vs) s _ (hx0.le (hl.trans l1)) hf).mono ?_
  rintro e w3 ⟨us, rfl, hown, hap, l3⟩
  replace hown := fun i hi => (hown i hi).base (base' := w.heap.size + 1 + 1 + 1) (by have := l1.size; simpa using this)
  replace l1 := l1.trans l3
  clear l3 y0 y1 y2 y3
  have n0 : w.heap.size + 1 + 1 < w3.heap.size := (hb3.le l1).lt
  have n1 : ¬ w.heap.size + 1 + 1 = w3.heap.size := by omega
  have n2 : ¬ w.heap.size + 1 + 1 = w.heap.size := by omega
  have n3 : ¬ w.heap.size + 1 + 1 = w.heap.size + 1 := by omega
  have n4 : ¬ w.heap.size + 1 = w3.heap.size := by omega
  have n5 : ¬ w3.heap.size = w.heap.size + 1 := by omega
  have hb4 := Box.new w3 (cells4 us) 25
  replace l1 := l1.trans (Le.alloc w3 (.cells (cells4 us) 25))
  replace hown := fun i hi => (hown i hi).le (Le.alloc w3 (.cells (cells4 us) 25))
  go_upto_region 4 with fail
  generalize hW : w3.alloc (.cells (cells4 us) 25) = W at hb4 l1 hown ⊢
  clear hW
  have o0 := (hb2.le l1).op.1
  have o1 := (hb2.le l1).op.2.1
  have o2 := (hb2.le l1).op.2.2.1
  have t1 : W.cell? ⟨w3.heap.size, k, none⟩ = some (slV (us k)) := (hb4.cell k).trans (cells4_at us hk)
  have k0 : (0 : Int) ≤ (k : Int) := by omega
  have k1 : (k : Int) < 4 := by omega
  have hle : (us k).2.1 = (s.at k).length := by
    obtain ⟨ad, cap, e, _⟩ := (hown k hk).has
    simp only [Value.slice.injEq] at e
    exact e.2.1
  go_upto_region 15 with fail
  obtain ⟨y0, y1, y2, y3, _, _, _, _⟩ := hb4.st
  obtain ⟨z0, z1, z2, z3, f0, f1, f2, f3⟩ := (hb3.le l1).st
  go_wp2_with fail
  refine bodyPost_ret (v := .tuple #[stV us, .int .i64 ((s.at k).length : Int), .int .i64 0]) (by simp [results, Try.results17, go_sem, z0, z1, z2, z3]) rfl ⟨_, rfl, ⟨us, rfl, fun i hi => ?_⟩, ?_⟩
  · exact ((hown i hi).base (by omega)).set4 (hb3.le l1) (by decide) _ _ _ _
  · exact (hl.trans l1).set4 (by omega) _ _ _ _

set_option maxHeartbeats 2000000 in
theorem fdsApplyScan (v : Value) (s : St) (w : World) (hx : HasS w v s) (hf : Fit s) (hm : s.all rowMay2 = true) :
    Calls Try.prog 17 #[v, opV 3 0 0] w fun e w' => ∃ v', e = .returned (.tuple #[v', .int .i64 (manyTo s 4), .int .i64 0]) ∧ OwnS w' w.heap.size v' (s) ∧ Le w w' := by
  have hx0 := hx
  obtain ⟨vs, rfl, hr⟩ := hx
  have hl := ((Le.alloc w (.cells (cells4 vs) 25)).trans (Le.alloc _ (.cells #[.int .i64 3, .int .i64 0, .int .i64 0] 27))).trans (Le.alloc _ (.cells (cells4 fun _ => slZ) 25))
  have hb1 := ((Box.new w (cells4 vs) 25).le (Le.alloc _ (.cells #[.int .i64 3, .int .i64 0, .int .i64 0] 27))).le (Le.alloc _ (.cells (cells4 fun _ => slZ) 25))
  have hb2 := (Box.new (w.alloc (.cells (cells4 vs) 25)) #[.int .i64 3, .int .i64 0, .int .i64 0] 27).le (Le.alloc _ (.cells (cells4 fun _ => slZ) 25))
  have hb3 := Box.new ((w.alloc (.cells (cells4 vs) 25)).alloc (.cells #[.int .i64 3, .int .i64 0, .int .i64 0] 27)) (cells4 fun _ => slZ) 25
  simp only [World.size_alloc] at hb1 hb2 hb3
  have hmay := fdsMay (stV vs) s _ (hx0.le hl)
  rw [hm] at hmay
  have hop : opMay 3 0 0 = true := by decide
  go_enter Try.func17, Try.ntmps17
  go_wp2_with fail
  refine hmay.mono ?_
  rintro e w1 ⟨rfl, l1⟩
  obtain ⟨y0, y1, y2, _, _, _⟩ := (hb2.le l1).op
  clear hmay
  go_wp2_with fail
  refine (operMay _ _ _ _).mono ?_
  rw [hop]
  rintro e w2 ⟨rfl, l2⟩
  replace l1 := l1.trans l2
  clear l2 y0 y1 y2
  obtain ⟨y0, y1, y2, y3, _, _, _, _⟩ := (hb1.le l1).st
  go_wp2_with fail
  refine (statesCopy (stV vs) s _ (hx0.le (hl.trans l1)) hf).mono ?_
  rintro e w3 ⟨us, rfl, hown, hap, l3⟩
  replace hown := fun i hi => (hown i hi).base (base' := w.heap.size + 1 + 1 + 1) (by have := l1.size; simpa using this)
  replace l1 := l1.trans l3
  clear l3 y0 y1 y2 y3
  have n0 : w.heap.size + 1 + 1 < w3.heap.size := (hb3.le l1).lt
  have n1 : ¬ w.heap.size + 1 + 1 = w3.heap.size := by omega
  have n2 : ¬ w.heap.size + 1 + 1 = w.heap.size := by omega
  have n3 : ¬ w.heap.size + 1 + 1 = w.heap.size + 1 := by omega
  have n4 : ¬ w.heap.size + 1 = w3.heap.size := by omega
  have n5 : ¬ w3.heap.size = w.heap.size + 1 := by omega
  have hb4 := Box.new w3 (cells4 us) 25
  replace l1 := l1.trans (Le.alloc w3 (.cells (cells4 us) 25))
  replace hown := fun i hi => (hown i hi).le (Le.alloc w3 (.cells (cells4 us) 25))
  go_upto_region 4 with fail
  generalize hW : w3.alloc (.cells (cells4 us) 25) = W at hb4 l1 hown ⊢
  clear hW
  have o0 := (hb2.le l1).op.1
  have o1 := (hb2.le l1).op.2.1
  have o2 := (hb2.le l1).op.2.2.1
  have t1 : W.cell? ⟨w3.heap.size, 0, none⟩ = some (slV (us 0)) := (hb4.cell 0).trans (cells4_at us (by omega))
  obtain ⟨x0, x1, x2, x3, _, _, _, _⟩ := (hb1.le l1).st
  have hcount := statesCount (stV vs) s W (hx0.le (hl.trans l1)) (len2 hm)
  go_wp2_with fail
  refine hcount.mono ?_
  rintro e w4 ⟨rfl, l4⟩
  replace hown := fun i hi => (hown i hi).le l4
  replace hb4 := hb4.le l4
  replace l1 := l1.trans l4
  clear o0 o1 o2 t1 x0 x1 x2 x3
  obtain ⟨y0, y1, y2, y3, _, _, _, _⟩ := hb4.st
  obtain ⟨z0, z1, z2, z3, f0, f1, f2, f3⟩ := (hb3.le l1).st
  go_wp2_with fail
  refine bodyPost_ret (v := .tuple #[stV us, .int .i64 (manyTo s 4), .int .i64 0]) (by simp [results, Try.results17, go_sem, z0, z1, z2, z3]) rfl ⟨_, rfl, ⟨us, rfl, fun i hi => ?_⟩, ?_⟩
  · exact ((hown i hi).base (by omega)).set4 (hb3.le l1) (by decide) _ _ _ _
  · exact (hl.trans l1).set4 (by omega) _ _ _ _

set_option maxHeartbeats 2000000 in
theorem fdsApplyFirst (v : Value) (s : St) (k : Nat) (a : Int) (w : World) (hx : HasS w v s) (hf : Fit s) (hm : s.all rowMay2 = true) (hk : k < 4) (ha : 0 ≤ a ∧ a ≤ 255) :
    Calls Try.prog 17 #[v, opV 0 k a] w fun e w' => ∃ v', e = .returned (.tuple #[v', .int .i64 (putS (s.at k)).2, .int .i64 0]) ∧ OwnS w' w.heap.size v' (s.put k (putS (s.at k)).1) ∧ Le w w' := by
  have hx0 := hx
  obtain ⟨vs, rfl, hr⟩ := hx
  have hl := ((Le.alloc w (.cells (cells4 vs) 25)).trans (Le.alloc _ (.cells #[.int .i64 0, .int .i64 k, .int .i64 a] 27))).trans (Le.alloc _ (.cells (cells4 fun _ => slZ) 25))
  have hb1 := ((Box.new w (cells4 vs) 25).le (Le.alloc _ (.cells #[.int .i64 0, .int .i64 k, .int .i64 a] 27))).le (Le.alloc _ (.cells (cells4 fun _ => slZ) 25))
  have hb2 := (Box.new (w.alloc (.cells (cells4 vs) 25)) #[.int .i64 0, .int .i64 k, .int .i64 a] 27).le (Le.alloc _ (.cells (cells4 fun _ => slZ) 25))
  have hb3 := Box.new ((w.alloc (.cells (cells4 vs) 25)).alloc (.cells #[.int .i64 0, .int .i64 k, .int .i64 a] 27)) (cells4 fun _ => slZ) 25
  simp only [World.size_alloc] at hb1 hb2 hb3
  have hmay := fdsMay (stV vs) s _ (hx0.le hl)
  rw [hm] at hmay
  have hop : opMay 0 k a = true := by simp [opMay]; omega
  go_enter Try.func17, Try.ntmps17
  go_wp2_with fail
  refine hmay.mono ?_
  rintro e w1 ⟨rfl, l1⟩
  obtain ⟨y0, y1, y2, _, _, _⟩ := (hb2.le l1).op
  clear hmay
  go_wp2_with fail
  refine (operMay _ _ _ _).mono ?_
  rw [hop]
  rintro e w2 ⟨rfl, l2⟩
  replace l1 := l1.trans l2
  clear l2 y0 y1 y2
  obtain ⟨y0, y1, y2, y3, _, _, _, _⟩ := (hb1.le l1).st
  go_wp2_with fail
  refine (statesCopy (stV vs) s _ (hx0.le (hl.trans l1)) hf).mono ?_
  rintro e w3 ⟨us, rfl, hown, hap, l3⟩
  replace hown := fun i hi => (hown i hi).base (base' := w.heap.size + 1 + 1 + 1) (by have := l1.size; simpa using this)
  replace l1 := l1.trans l3
  clear l3 y0 y1 y2 y3
  have n0 : w.heap.size + 1 + 1 < w3.heap.size := (hb3.le l1).lt
  have n1 : ¬ w.heap.size + 1 + 1 = w3.heap.size := by omega
  have n2 : ¬ w.heap.size + 1 + 1 = w.heap.size := by omega
  have n3 : ¬ w.heap.size + 1 + 1 = w.heap.size + 1 := by omega
  have n4 : ¬ w.heap.size + 1 = w3.heap.size := by omega
  have n5 : ¬ w3.heap.size = w.heap.size + 1 := by omega
  have hb4 := Box.new w3 (cells4 us) 25
  replace l1 := l1.trans (Le.alloc w3 (.cells (cells4 us) 25))
  replace hown := fun i hi => (hown i hi).le (Le.alloc w3 (.cells (cells4 us) 25))
  go_upto_region 4 with fail
  generalize hW : w3.alloc (.cells (cells4 us) 25) = W at hb4 l1 hown ⊢
  clear hW
  have o0 := (hb2.le l1).op.1
  have o1 := (hb2.le l1).op.2.1
  have o2 := (hb2.le l1).op.2.2.1
  have t1 : W.cell? ⟨w3.heap.size, k, none⟩ = some (slV (us k)) := (hb4.cell k).trans (cells4_at us hk)
  have k0 : (0 : Int) ≤ (k : Int) := by omega
  have k1 : (k : Int) < 4 := by omega
  go_upto_region 8 with fail
  have hcall := fdsPut (slV (us k)) (w.heap.size + 1 + 1 + 1) (s.at k) W.drew ((hown k hk).le (Le.drew _)) (by have := l1.size; simpa using this) (len2 hm k hk)
  go_region_held3 (fun w' => w'.cell? ⟨w.heap.size + 1, 1, none⟩ = some (.int .i64 k)) (go_keep) ((go_at_call 34; refine hcall.mono ?_; rintro e w4 ⟨v', rfl, ho, hg⟩; obtain ⟨q, rfl⟩ := ho.has.sl; have hb5 : Box w4 w3.heap.size (cells4 us) 25 := Box.grown hb4 (grownBy_trans (grown_drew W _) hg) (fun e => (hown k hk).apart hb4 (by decide) e); have l5 : Le _ w4 := Below.grown l1 (grownBy_trans (grown_drew W _) hg) l1.size (fun g e => by have := ((hown k hk).block e).1; simpa using this); have p1 := (hb2.le l5).op.2.1; have p2 := (hb2.le l5).op.2.2.1; have c5 : w4.cell? ⟨w3.heap.size, k, none⟩ = some (slV (us k)) := (hb5.cell k).trans (cells4_at us hk); have f5 := hb5.frozen k))
  all_goals
    have hown5 : ∀ i, i < 4 → Own (w4.setCell ⟨w3.heap.size, k, none⟩ (slV q)) (w.heap.size + 1 + 1 + 1) (slV (upd us k q i)) ((s.put k (putS (s.at k)).1).at i) := by
      intro i hi
      rw [St.at_put hk hi]
      by_cases e : i = k
      · rw [if_pos e, show upd us k q i = q by simp [upd, e]]; exact ho.setBox hb5 (by decide)
      · rw [if_neg e, show upd us k q i = us i by simp [upd, e]]; exact ((hown i hi).grown (grownBy_trans (grown_drew W _) hg) (fun g e1 e2 => hap i k hi hk e g e1 e2)).setBox hb5 (by decide)
    have hb6 := hb5.set k (slV q)
    rw [cells4_upd us hk] at hb6
    have l6 : Le _ (w4.setCell ⟨w3.heap.size, k, none⟩ (slV q)) := Below.setCell l5 (by simp only [World.size_alloc]; show w.heap.size + 1 + 1 + 1 ≤ w3.heap.size; omega) _
    generalize hW2 : w4.setCell ⟨w3.heap.size, k, none⟩ (slV q) = W2 at hb6 l6 hown5 ⊢
    generalize upd us k q = us' at hb6 hown5
    clear hW2 o0 o1 o2 t1 p1 p2 c5 f5
    obtain ⟨y0, y1, y2, y3, _, _, _, _⟩ := hb6.st
    obtain ⟨z0, z1, z2, z3, f0, f1, f2, f3⟩ := (hb3.le l6).st
    go_wp2_with fail
    refine bodyPost_ret (v := .tuple #[stV us', .int .i64 (putS (s.at k)).2, .int .i64 0]) (by simp [results, Try.results17, go_sem, z0, z1, z2, z3]) rfl ⟨_, rfl, ⟨us', rfl, fun i hi => ?_⟩, ?_⟩
    · exact ((hown5 i hi).base (by omega)).set4 (hb3.le l6) (by decide) _ _ _ _
    · exact (hl.trans l6).set4 (by omega) _ _ _ _

set_option maxHeartbeats 2000000 in
theorem fdsApplySecond (v : Value) (s : St) (k : Nat) (a : Int) (w : World) (hx : HasS w v s) (hf : Fit s) (hm : s.all rowMay2 = true) (hk : k < 4) (ha : 0 ≤ a ∧ a ≤ 255) :
    Calls Try.prog 17 #[v, opV 1 k a] w fun e w' => ∃ v', e = .returned (.tuple #[v', .int .i64 (takeS (s.at k) a).2, .int .i64 0]) ∧ OwnS w' w.heap.size v' (s.put k (takeS (s.at k) a).1) ∧ Le w w' := by
  have hx0 := hx
  obtain ⟨vs, rfl, hr⟩ := hx
  have hl := ((Le.alloc w (.cells (cells4 vs) 25)).trans (Le.alloc _ (.cells #[.int .i64 1, .int .i64 k, .int .i64 a] 27))).trans (Le.alloc _ (.cells (cells4 fun _ => slZ) 25))
  have hb1 := ((Box.new w (cells4 vs) 25).le (Le.alloc _ (.cells #[.int .i64 1, .int .i64 k, .int .i64 a] 27))).le (Le.alloc _ (.cells (cells4 fun _ => slZ) 25))
  have hb2 := (Box.new (w.alloc (.cells (cells4 vs) 25)) #[.int .i64 1, .int .i64 k, .int .i64 a] 27).le (Le.alloc _ (.cells (cells4 fun _ => slZ) 25))
  have hb3 := Box.new ((w.alloc (.cells (cells4 vs) 25)).alloc (.cells #[.int .i64 1, .int .i64 k, .int .i64 a] 27)) (cells4 fun _ => slZ) 25
  simp only [World.size_alloc] at hb1 hb2 hb3
  have hmay := fdsMay (stV vs) s _ (hx0.le hl)
  rw [hm] at hmay
  have hop : opMay 1 k a = true := by simp [opMay]; omega
  go_enter Try.func17, Try.ntmps17
  go_wp2_with fail
  refine hmay.mono ?_
  rintro e w1 ⟨rfl, l1⟩
  obtain ⟨y0, y1, y2, _, _, _⟩ := (hb2.le l1).op
  clear hmay
  go_wp2_with fail
  refine (operMay _ _ _ _).mono ?_
  rw [hop]
  rintro e w2 ⟨rfl, l2⟩
  replace l1 := l1.trans l2
  clear l2 y0 y1 y2
  obtain ⟨y0, y1, y2, y3, _, _, _, _⟩ := (hb1.le l1).st
  go_wp2_with fail
  refine (statesCopy (stV vs) s _ (hx0.le (hl.trans l1)) hf).mono ?_
  rintro e w3 ⟨us, rfl, hown, hap, l3⟩
  replace hown := fun i hi => (hown i hi).base (base' := w.heap.size + 1 + 1 + 1) (by have := l1.size; simpa using this)
  replace l1 := l1.trans l3
  clear l3 y0 y1 y2 y3
  have n0 : w.heap.size + 1 + 1 < w3.heap.size := (hb3.le l1).lt
  have n1 : ¬ w.heap.size + 1 + 1 = w3.heap.size := by omega
  have n2 : ¬ w.heap.size + 1 + 1 = w.heap.size := by omega
  have n3 : ¬ w.heap.size + 1 + 1 = w.heap.size + 1 := by omega
  have n4 : ¬ w.heap.size + 1 = w3.heap.size := by omega
  have n5 : ¬ w3.heap.size = w.heap.size + 1 := by omega
  have hb4 := Box.new w3 (cells4 us) 25
  replace l1 := l1.trans (Le.alloc w3 (.cells (cells4 us) 25))
  replace hown := fun i hi => (hown i hi).le (Le.alloc w3 (.cells (cells4 us) 25))
  go_upto_region 4 with fail
  generalize hW : w3.alloc (.cells (cells4 us) 25) = W at hb4 l1 hown ⊢
  clear hW
  have o0 := (hb2.le l1).op.1
  have o1 := (hb2.le l1).op.2.1
  have o2 := (hb2.le l1).op.2.2.1
  have t1 : W.cell? ⟨w3.heap.size, k, none⟩ = some (slV (us k)) := (hb4.cell k).trans (cells4_at us hk)
  have k0 : (0 : Int) ≤ (k : Int) := by omega
  have k1 : (k : Int) < 4 := by omega
  go_upto_region 10 with fail
  have hcall := fdsTake (slV (us k)) (w.heap.size + 1 + 1 + 1) (s.at k) a W.drew ((hown k hk).le (Le.drew _)) (by have := l1.size; simpa using this) (len2 hm k hk)
  go_region_held3 (fun w' => w'.cell? ⟨w.heap.size + 1, 1, none⟩ = some (.int .i64 k) ∧ w'.cell? ⟨w.heap.size + 1, 2, none⟩ = some (.int .i64 a)) (go_keep) ((go_at_call 35; refine hcall.mono ?_; rintro e w4 ⟨v', rfl, ho, hg⟩; obtain ⟨q, rfl⟩ := ho.has.sl; have hb5 : Box w4 w3.heap.size (cells4 us) 25 := hb4.le ((Le.drew W).trans hg); have l5 : Le _ w4 := l1.trans ((Le.drew W).trans hg); have p1 := (hb2.le l5).op.2.1; have p2 := (hb2.le l5).op.2.2.1; have c5 : w4.cell? ⟨w3.heap.size, k, none⟩ = some (slV (us k)) := (hb5.cell k).trans (cells4_at us hk); have f5 := hb5.frozen k))
  all_goals
    have hown5 : ∀ i, i < 4 → Own (w4.setCell ⟨w3.heap.size, k, none⟩ (slV q)) (w.heap.size + 1 + 1 + 1) (slV (upd us k q i)) ((s.put k (takeS (s.at k) a).1).at i) := by
      intro i hi
      rw [St.at_put hk hi]
      by_cases e : i = k
      · rw [if_pos e, show upd us k q i = q by simp [upd, e]]; exact ho.setBox hb5 (by decide)
      · rw [if_neg e, show upd us k q i = us i by simp [upd, e]]; exact ((hown i hi).le ((Le.drew W).trans hg)).setBox hb5 (by decide)
    have hb6 := hb5.set k (slV q)
    rw [cells4_upd us hk] at hb6
    have l6 : Le _ (w4.setCell ⟨w3.heap.size, k, none⟩ (slV q)) := Below.setCell l5 (by simp only [World.size_alloc]; show w.heap.size + 1 + 1 + 1 ≤ w3.heap.size; omega) _
    generalize hW2 : w4.setCell ⟨w3.heap.size, k, none⟩ (slV q) = W2 at hb6 l6 hown5 ⊢
    generalize upd us k q = us' at hb6 hown5
    clear hW2 o0 o1 o2 t1 p1 p2 c5 f5
    obtain ⟨y0, y1, y2, y3, _, _, _, _⟩ := hb6.st
    obtain ⟨z0, z1, z2, z3, f0, f1, f2, f3⟩ := (hb3.le l6).st
    go_wp2_with fail
    refine bodyPost_ret (v := .tuple #[stV us', .int .i64 (takeS (s.at k) a).2, .int .i64 0]) (by simp [results, Try.results17, go_sem, z0, z1, z2, z3]) rfl ⟨_, rfl, ⟨us', rfl, fun i hi => ?_⟩, ?_⟩
    · exact ((hown5 i hi).base (by omega)).set4 (hb3.le l6) (by decide) _ _ _ _
    · exact (hl.trans l6).set4 (by omega) _ _ _ _

end Go.Proofs.Ytjdedgamafdbmaa
