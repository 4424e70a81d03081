/-
  THE WALK over package ring's Reserve where places may be asked for. No condition.
-/
import Derived.Test.YtnncmjliehoknaaRgC
import Derived.Deep.Cut
namespace Go.Proofs.Ytnncmjliehoknaa
open Go.RowKit

set_option maxHeartbeats 1000000 in
theorem ringReserveOk (v : Value) (R : Rg) (k : Int) (w : World) (hx : HasR w v R) (h : askB R k = true) (h2 : roomB R k = true) : Calls Try.prog 10 #[v, .int .i64 k] w fun e w' =>
    ∃ v', e = .returned (.tuple #[v', .int .i64 R.t, .int .i64 0]) ∧ OwnR w' w.heap.size v' ⟨R.h, R.t + k, R.f, R.ss⟩ ∧ Le w w' := by
  have h1 : mayR R = true := by simp [askB] at h; exact h.1.1
  have hk : 1 ≤ k ∧ k ≤ R.ss.length := by simp [askB] at h; exact ⟨h.1.2, h.2⟩
  have hf := mayR_fit h1
  have hlen := mayR_len h1
  obtain ⟨n0, n1, n2, n3⟩ := mayR_nums h1
  have hmay := fun w' (l : Le w w') => ringMay v R w' (hx.le l) hf
  unfold roomB at h2
  obtain ⟨hh, t, f, ss⟩ := R
  obtain ⟨q, rfl, hq⟩ := hx
  simp only at hq hmay hk hlen n0 n1 n2 n3 h2 ⊢
  replace hf : ss.length * 40 ≤ 140737488351232 := hf
  have hn := hq.len
  rw [← hn] at hk n3 hlen h2
  obtain ⟨k1, k2⟩ := hk
  have k3 : k ≤ 16 := by omega
  have hq0 : q.2.1 ≤ 4611686018427387904 := by omega
  have hl := (Le.alloc w (.cells (cellsR hh t f q) 24)).trans (Le.alloc _ (.cells (cellsR 0 0 0 slZ) 24))
  have hb := (Box.new w (cellsR hh t f q) 24).le (Le.alloc _ (.cells (cellsR 0 0 0 slZ) 24))
  have hb2 := Box.new (w.alloc (.cells (cellsR hh t f q) 24)) (cellsR 0 0 0 slZ) 24
  rw [World.size_alloc] at hb2
  have hm := hmay _ hl
  rw [h1] at hm
  have HN : Hid (q.2.1 = ss.length) := hn
  clear hn hmay h h1 hlen
  obtain ⟨rfl, h4⟩ : f = 0 ∧ placesB hh (t + k) q.2.1 = true := by simpa using h2
  clear h2
  go_enter Try.func10, Try.ntmps10
  go_wp2_with fail
  refine hm.mono ?_
  rintro e w1 ⟨rfl, l1⟩
  obtain ⟨b0, b1, b2, b3, _, _, _, _⟩ := (hb.le l1).ring
  go_wp2_with fail
  have hap := ringApart hh t 0 q ss _ (hq.le (hl.trans l1)) hf
  refine hap.mono ?_
  rintro e w2 ⟨u, rfl, hown, l2⟩
  have hbr := (hb.le l1).le l2
  have hbz := (hb2.le l1).le l2
  have hlw := (hl.trans l1).trans l2
  have hne0 : (slV u).ownBlock ≠ some w.heap.size := hown.off (hb.le l1).lt
  have hne1 : (slV u).ownBlock ≠ some (w.heap.size + 1) := hown.off (hb2.le l1).lt
  have hbs : w.heap.size ≤ w1.heap.size := (hl.trans l1).size
  obtain ⟨c0, c1, c2, c3, d0, d1, d2, d3⟩ := hbr.ring
  go_upto_region 5 with fail
  have hb3 := hbr.put4 (h' := hh) (t' := t) (f' := 0) (q' := u)
  have hz3 := hbz.other4 (g' := w.heap.size) (a := .int .i64 hh) (b := .int .i64 t) (c := .int .i64 0) (d := slV u) (by omega)
  have ho3 := hown.set4 (g := w.heap.size) (a := .int .i64 hh) (b := .int .i64 t) (c := .int .i64 0) (d := slV u) hne0
  have hl3 := hlw.put4 (g := w.heap.size) (a := .int .i64 hh) (b := .int .i64 t) (c := .int .i64 0) (d := slV u) (Nat.le_refl _)
  generalize hW : ((((w2.setCell ⟨w.heap.size, 0, none⟩ (.int .i64 hh)).setCell ⟨w.heap.size, 1, none⟩ (.int .i64 t)).setCell ⟨w.heap.size, 2, none⟩ (.int .i64 0)).setCell ⟨w.heap.size, 3, none⟩ (slV u)) = W at hb3 hz3 ho3 hl3 ⊢
  have hu : u.2.1 = q.2.1 := by rw [HN.out]; exact ho3.has.len
  have hpl := fun w => ringMayPlaces hh (t + k) 0 u w (by rw [hu]; exact hq0)
  rw [hu, h4] at hpl
  clear hW c0 c1 c2 c3 d0 d1 d2 d3 b0 b1 b2 b3 hap hbr hbz hlw hm hb hb2 hl hu
  obtain ⟨c0, c1, c2, c3, d0, d1, d2, d3⟩ := hb3.ring
  go_wp2_with fail
  refine (hpl _).mono ?_
  rintro e w3 ⟨rfl, l3⟩
  have hb4 : Box w3 w.heap.size (cellsR hh (t + k) 0 u) 24 := (hb3.set 1 (.int .i64 (t + k))).le l3
  have hz4 := (hz3.other (g' := w.heap.size) (by omega) 1 (.int .i64 (t + k))).le l3
  have ho4 := (ho3.set (i := 1) (u := .int .i64 (t + k)) hne0).le l3
  have hl4 := (hl3.set (i := 1) (u := .int .i64 (t + k)) (Nat.le_refl _)).trans l3
  clear c0 c1 c2 c3 d0 d1 d2 d3 hpl
  obtain ⟨c0, c1, c2, c3, d0, d1, d2, d3⟩ := hb4.ring
  obtain ⟨z0, z1, z2, z3, f0, f1, f2, f3⟩ := hz4.ring
  go_wp2_with fail
  refine bodyPost_ret (v := .tuple #[ringV hh (t + k) 0 u, .int .i64 t, .int .i64 0]) (by simp [results, Try.results10, go_sem, z0, z1, z2, z3]) rfl ⟨_, rfl, ⟨u, rfl, ?_⟩, ?_⟩
  · exact (ho4.set4 hne1).base (by omega)
  · exact hl4.put4 (by omega)

set_option maxHeartbeats 1000000 in
theorem ringReserveFull (v : Value) (R : Rg) (k : Int) (w : World) (hx : HasR w v R) (h : askB R k = true) (h2 : roomB R k = false) : Calls Try.prog 10 #[v, .int .i64 k] w fun e w' =>
    e = .returned (.tuple #[ringZ, .int .i64 0, .int .i64 1001]) ∧ Le w w' := by
  have h1 : mayR R = true := by simp [askB] at h; exact h.1.1
  have hk : 1 ≤ k ∧ k ≤ R.ss.length := by simp [askB] at h; exact ⟨h.1.2, h.2⟩
  have hf := mayR_fit h1
  have hlen := mayR_len h1
  obtain ⟨n0, n1, n2, n3⟩ := mayR_nums h1
  have hmay := fun w' (l : Le w w') => ringMay v R w' (hx.le l) hf
  unfold roomB at h2
  obtain ⟨hh, t, f, ss⟩ := R
  obtain ⟨q, rfl, hq⟩ := hx
  simp only at hq hmay hk hlen n0 n1 n2 n3 h2 ⊢
  replace hf : ss.length * 40 ≤ 140737488351232 := hf
  have hn := hq.len
  rw [← hn] at hk n3 hlen h2
  obtain ⟨k1, k2⟩ := hk
  have k3 : k ≤ 16 := by omega
  have hq0 : q.2.1 ≤ 4611686018427387904 := by omega
  have hl := (Le.alloc w (.cells (cellsR hh t f q) 24)).trans (Le.alloc _ (.cells (cellsR 0 0 0 slZ) 24))
  have hb := (Box.new w (cellsR hh t f q) 24).le (Le.alloc _ (.cells (cellsR 0 0 0 slZ) 24))
  have hb2 := Box.new (w.alloc (.cells (cellsR hh t f q) 24)) (cellsR 0 0 0 slZ) 24
  rw [World.size_alloc] at hb2
  have hm := hmay _ hl
  rw [h1] at hm
  have HN : Hid (q.2.1 = ss.length) := hn
  clear hn hmay h h1 hlen
  have h3 : f ≠ 0 ∨ f = 0 ∧ placesB hh (t + k) q.2.1 = false := by
    by_cases e : f = 0
    · exact .inr ⟨e, by simpa [e] using h2⟩
    · exact .inl e
  clear h2
  rcases h3 with h3 | ⟨rfl, h4⟩
  · go_enter Try.func10, Try.ntmps10
    go_wp2_with fail
    refine hm.mono ?_
    rintro e w1 ⟨rfl, l1⟩
    obtain ⟨b0, b1, b2, b3, _, _, _, _⟩ := (hb.le l1).ring
    go_wp2_with fail
    have hap := ringApart hh t f q ss _ (hq.le (hl.trans l1)) hf
    refine hap.mono ?_
    rintro e w2 ⟨u, rfl, hown, l2⟩
    have hbr := (hb.le l1).le l2
    have hbz := (hb2.le l1).le l2
    have hlw := (hl.trans l1).trans l2
    have hne0 : (slV u).ownBlock ≠ some w.heap.size := hown.off (hb.le l1).lt
    have hne1 : (slV u).ownBlock ≠ some (w.heap.size + 1) := hown.off (hb2.le l1).lt
    have hbs : w.heap.size ≤ w1.heap.size := (hl.trans l1).size
    obtain ⟨c0, c1, c2, c3, d0, d1, d2, d3⟩ := hbr.ring
    go_upto_region 5 with fail
    have hb3 := hbr.put4 (h' := hh) (t' := t) (f' := f) (q' := u)
    have hz3 := hbz.other4 (g' := w.heap.size) (a := .int .i64 hh) (b := .int .i64 t) (c := .int .i64 f) (d := slV u) (by omega)
    have ho3 := hown.set4 (g := w.heap.size) (a := .int .i64 hh) (b := .int .i64 t) (c := .int .i64 f) (d := slV u) hne0
    have hl3 := hlw.put4 (g := w.heap.size) (a := .int .i64 hh) (b := .int .i64 t) (c := .int .i64 f) (d := slV u) (Nat.le_refl _)
    generalize hW : ((((w2.setCell ⟨w.heap.size, 0, none⟩ (.int .i64 hh)).setCell ⟨w.heap.size, 1, none⟩ (.int .i64 t)).setCell ⟨w.heap.size, 2, none⟩ (.int .i64 f)).setCell ⟨w.heap.size, 3, none⟩ (slV u)) = W at hb3 hz3 ho3 hl3 ⊢
    clear hW c0 c1 c2 c3 d0 d1 d2 d3 b0 b1 b2 b3 hap hbr hbz hlw hm hb hb2 hl
    obtain ⟨c0, c1, c2, c3, d0, d1, d2, d3⟩ := hb3.ring
    obtain ⟨z0, z1, z2, z3, f0, f1, f2, f3⟩ := hz3.ring
    have hfn : (f != 0) = true := by simp [h3]
    clear h3
    go_wp2_with fail
    refine bodyPost_ret (v := .tuple #[ringZ, .int .i64 0, .int .i64 1001]) (by simp [results, Try.results10, go_sem, z0, z1, z2, z3]) rfl ⟨rfl, ?_⟩
    exact (hl3.set (Nat.le_refl _)).put4 (by omega)
  · go_enter Try.func10, Try.ntmps10
    go_wp2_with fail
    refine hm.mono ?_
    rintro e w1 ⟨rfl, l1⟩
    obtain ⟨b0, b1, b2, b3, _, _, _, _⟩ := (hb.le l1).ring
    go_wp2_with fail
    have hap := ringApart hh t 0 q ss _ (hq.le (hl.trans l1)) hf
    refine hap.mono ?_
    rintro e w2 ⟨u, rfl, hown, l2⟩
    have hbr := (hb.le l1).le l2
    have hbz := (hb2.le l1).le l2
    have hlw := (hl.trans l1).trans l2
    have hne0 : (slV u).ownBlock ≠ some w.heap.size := hown.off (hb.le l1).lt
    have hne1 : (slV u).ownBlock ≠ some (w.heap.size + 1) := hown.off (hb2.le l1).lt
    have hbs : w.heap.size ≤ w1.heap.size := (hl.trans l1).size
    obtain ⟨c0, c1, c2, c3, d0, d1, d2, d3⟩ := hbr.ring
    go_upto_region 5 with fail
    have hb3 := hbr.put4 (h' := hh) (t' := t) (f' := 0) (q' := u)
    have hz3 := hbz.other4 (g' := w.heap.size) (a := .int .i64 hh) (b := .int .i64 t) (c := .int .i64 0) (d := slV u) (by omega)
    have ho3 := hown.set4 (g := w.heap.size) (a := .int .i64 hh) (b := .int .i64 t) (c := .int .i64 0) (d := slV u) hne0
    have hl3 := hlw.put4 (g := w.heap.size) (a := .int .i64 hh) (b := .int .i64 t) (c := .int .i64 0) (d := slV u) (Nat.le_refl _)
    generalize hW : ((((w2.setCell ⟨w.heap.size, 0, none⟩ (.int .i64 hh)).setCell ⟨w.heap.size, 1, none⟩ (.int .i64 t)).setCell ⟨w.heap.size, 2, none⟩ (.int .i64 0)).setCell ⟨w.heap.size, 3, none⟩ (slV u)) = W at hb3 hz3 ho3 hl3 ⊢
    have hu : u.2.1 = q.2.1 := by rw [HN.out]; exact ho3.has.len
    have hpl := fun w => ringMayPlaces hh (t + k) 0 u w (by rw [hu]; exact hq0)
    rw [hu, h4] at hpl
    clear hW c0 c1 c2 c3 d0 d1 d2 d3 b0 b1 b2 b3 hap hbr hbz hlw hm hb hb2 hl hu
    obtain ⟨c0, c1, c2, c3, d0, d1, d2, d3⟩ := hb3.ring
    go_wp2_with fail
    refine (hpl _).mono ?_
    rintro e w3 ⟨rfl, l3⟩
    have hz4 := (hz3.other (g' := w.heap.size) (by omega) 1 (.int .i64 (t + k))).le l3
    have hl4 := (hl3.set (i := 1) (u := .int .i64 (t + k)) (Nat.le_refl _)).trans l3
    clear c0 c1 c2 c3 d0 d1 d2 d3 hpl
    obtain ⟨z0, z1, z2, z3, f0, f1, f2, f3⟩ := hz4.ring
    go_wp2_with fail
    refine bodyPost_ret (v := .tuple #[ringZ, .int .i64 0, .int .i64 1001]) (by simp [results, Try.results10, go_sem, z0, z1, z2, z3]) rfl ⟨rfl, ?_⟩
    exact hl4.put4 (by omega)

theorem ringReserve (v : Value) (R : Rg) (k : Int) (w : World) (hx : HasR w v R) (hf : FitR R) : Calls Try.prog 10 #[v, .int .i64 k] w fun e w' =>
    ∃ v', e = .returned (.tuple #[v', .int .i64 (reserveS R k).2.1, .int .i64 (reserveS R k).2.2]) ∧ OwnR w' w.heap.size v' (reserveS R k).1 ∧ Le w w' := by
  cases h : askB R k
  · rw [show reserveS R k = (Rg.zero, 0, 1000) by simp [reserveS, h]]
    exact (ringReserveNo v R k w hx hf h).mono fun e w' ⟨he, hl⟩ => ⟨_, he, OwnR.zero _ _, hl⟩
  · cases h2 : roomB R k
    · rw [show reserveS R k = (Rg.zero, 0, 1001) by simp [reserveS, h, h2]]
      exact (ringReserveFull v R k w hx h h2).mono fun e w' ⟨he, hl⟩ => ⟨_, he, OwnR.zero _ _, hl⟩
    · rw [show reserveS R k = (⟨R.h, R.t + k, R.f, R.ss⟩, R.t, 0) by simp [reserveS, h, h2]]
      exact ringReserveOk v R k w hx h h2

set_option maxHeartbeats 1000000 in
theorem ringFree (v : Value) (R : Rg) (p : Int) (w : World) (hx : HasR w v R) (hf : FitR R) : Calls Try.prog 16 #[v, .int .i64 p] w fun e w' =>
    ∃ v', e = .returned (.tuple #[v', .int .i64 (freeS R p).2]) ∧ OwnR w' w.heap.size v' (freeS R p).1 ∧ Le w w' := by
  have hmay := fun w' (l : Le w w') => ringMay v R w' (hx.le l) hf
  unfold freeS freeB
  obtain ⟨hh, t, f, ss⟩ := R
  obtain ⟨q, rfl, hq⟩ := hx
  simp only at hq hmay ⊢
  replace hf : ss.length * 40 ≤ 140737488351232 := hf
  have hl := (Le.alloc w (.cells (cellsR hh t f q) 24)).trans (Le.alloc _ (.cells (cellsR 0 0 0 slZ) 24))
  have hb := (Box.new w (cellsR hh t f q) 24).le (Le.alloc _ (.cells (cellsR 0 0 0 slZ) 24))
  have hb2 := Box.new (w.alloc (.cells (cellsR hh t f q) 24)) (cellsR 0 0 0 slZ) 24
  rw [World.size_alloc] at hb2
  have hm := hmay _ hl
  clear hmay
  cases h1 : mayR ⟨hh, t, f, ss⟩
  · rw [h1] at hm
    simp only [Bool.false_and]
    clear h1
    go_enter Try.func16, Try.ntmps16
    go_wp2_with fail
    refine hm.mono ?_
    rintro e w1 ⟨rfl, l1⟩
    obtain ⟨z0, z1, z2, z3, f0, f1, f2, f3⟩ := (hb2.le l1).ring
    go_wp2_with fail
    refine bodyPost_ret (v := .tuple #[ringZ, .int .i64 1000]) (by simp [results, Try.results16, go_sem, z0, z1, z2, z3]) rfl ⟨_, rfl, OwnR.zero _ _, ?_⟩
    exact (hl.trans l1).put4 (by omega)
  · rw [h1] at hm
    clear h1
    rcases (by omega : p < hh ∨ (hh ≤ p ∧ t < p) ∨ (hh ≤ p ∧ p ≤ t)) with h2 | ⟨h2, h3⟩ | ⟨h2, h3⟩
    · rw [show (true && decide (hh ≤ p) && decide (p ≤ t)) = false by simp; omega]
      simp only [Bool.false_eq_true, ↓reduceIte]
      go_enter Try.func16, Try.ntmps16
      go_wp2_with fail
      refine hm.mono ?_
      rintro e w1 ⟨rfl, l1⟩
      obtain ⟨b0, b1, b2, b3, _, _, _, _⟩ := (hb.le l1).ring
      obtain ⟨z0, z1, z2, z3, f0, f1, f2, f3⟩ := (hb2.le l1).ring
      go_wp2_with fail
      refine bodyPost_ret (v := .tuple #[ringZ, .int .i64 1000]) (by simp [results, Try.results16, go_sem, z0, z1, z2, z3]) rfl ⟨_, rfl, OwnR.zero _ _, ?_⟩
      exact (hl.trans l1).put4 (by omega)
    · rw [show (true && decide (hh ≤ p) && decide (p ≤ t)) = false by simp; omega]
      simp only [Bool.false_eq_true, ↓reduceIte]
      go_enter Try.func16, Try.ntmps16
      go_wp2_with fail
      refine hm.mono ?_
      rintro e w1 ⟨rfl, l1⟩
      obtain ⟨b0, b1, b2, b3, _, _, _, _⟩ := (hb.le l1).ring
      obtain ⟨z0, z1, z2, z3, f0, f1, f2, f3⟩ := (hb2.le l1).ring
      go_wp2_with fail
      refine bodyPost_ret (v := .tuple #[ringZ, .int .i64 1000]) (by simp [results, Try.results16, go_sem, z0, z1, z2, z3]) rfl ⟨_, rfl, OwnR.zero _ _, ?_⟩
      exact (hl.trans l1).put4 (by omega)
    · rw [show (true && decide (hh ≤ p) && decide (p ≤ t)) = true by simp; omega]
      simp only
      go_enter Try.func16, Try.ntmps16
      go_wp2_with fail
      refine hm.mono ?_
      rintro e w1 ⟨rfl, l1⟩
      obtain ⟨b0, b1, b2, b3, _, _, _, _⟩ := (hb.le l1).ring
      go_wp2_with fail
      have hap := ringApart hh t f q ss _ (hq.le (hl.trans l1)) hf
      refine hap.mono ?_
      rintro e w2 ⟨u, rfl, hown, l2⟩
      have hbr := (hb.le l1).le l2
      have hbz := (hb2.le l1).le l2
      have hlw := (hl.trans l1).trans l2
      have hne0 : (slV u).ownBlock ≠ some w.heap.size := hown.off (hb.le l1).lt
      have hne1 : (slV u).ownBlock ≠ some (w.heap.size + 1) := hown.off (hb2.le l1).lt
      have hbs : w.heap.size ≤ w1.heap.size := (hl.trans l1).size
      obtain ⟨c0, c1, c2, c3, d0, d1, d2, d3⟩ := hbr.ring
      go_upto_region 4 with fail
      have hb3 := hbr.put4 (h' := hh) (t' := t) (f' := f) (q' := u)
      have hz3 := hbz.other4 (g' := w.heap.size) (a := .int .i64 hh) (b := .int .i64 t) (c := .int .i64 f) (d := slV u) (by omega)
      have ho3 := hown.set4 (g := w.heap.size) (a := .int .i64 hh) (b := .int .i64 t) (c := .int .i64 f) (d := slV u) hne0
      have hl3 := hlw.put4 (g := w.heap.size) (a := .int .i64 hh) (b := .int .i64 t) (c := .int .i64 f) (d := slV u) (Nat.le_refl _)
      generalize hW : ((((w2.setCell ⟨w.heap.size, 0, none⟩ (.int .i64 hh)).setCell ⟨w.heap.size, 1, none⟩ (.int .i64 t)).setCell ⟨w.heap.size, 2, none⟩ (.int .i64 f)).setCell ⟨w.heap.size, 3, none⟩ (slV u)) = W at hb3 hz3 ho3 hl3 ⊢
      clear hW c0 c1 c2 c3 d0 d1 d2 d3 b0 b1 b2 b3 hap hbr hbz hlw hm hb hb2 hl
      obtain ⟨c0, c1, c2, c3, d0, d1, d2, d3⟩ := hb3.ring
      obtain ⟨z0, z1, z2, z3, f0, f1, f2, f3⟩ := hz3.ring
      go_wp2_with fail
      refine bodyPost_ret (v := .tuple #[ringV p t f u, .int .i64 0]) (by simp [results, Try.results16, go_sem, z0, z1, z2, z3]) rfl ⟨_, rfl, ⟨u, rfl, ?_⟩, ?_⟩
      · exact ((ho3.set hne0).set4 hne1).base (by omega)
      · exact (hl3.set (Nat.le_refl _)).put4 (by omega)

end Go.Proofs.Ytnncmjliehoknaa
