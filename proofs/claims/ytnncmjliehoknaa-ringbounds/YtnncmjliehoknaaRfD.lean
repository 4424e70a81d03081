/-
  THE WALKS over the document's own Reserve: what it answers, for every ring and number. Condition: that the slots can be copied.
-/
import Derived.Test.YtnncmjliehoknaaRfC
namespace Go.Proofs.Ytnncmjliehoknaa
open Go.RowKit

set_option maxHeartbeats 2000000 in
theorem refReserveNo (v : Value) (R : Rg) (k : Int) (w : World) (hx : HasR w v R) (hf : FitR R) (h : askB R k = false) : Calls Try.prog 11 #[v, .int .i64 k] w fun e w' => e = .returned (.tuple #[ringZ, .int .i64 0, .int .i64 1000]) ∧ Le w w' := by
  have hmay := fun w' (l : Le w w') => refRingMay v R w' (hx.le l) hf
  unfold askB at h
  have hfl : R.ss.length ≤ 4611686018427387904 := by unfold FitR at hf; omega
  obtain ⟨hh, t, f, ss⟩ := R
  obtain ⟨q, rfl, hq⟩ := hx
  simp only at h hfl hq hmay ⊢
  have hn := hq.len
  rw [← hn] at h hfl
  clear hn
  have hl := (Le.alloc w (.cells (cellsR hh t f q) 24)).trans (Le.alloc _ (.cells (cellsR 0 0 0 slZ) 24))
  have hb := (Box.new w (cellsR hh t f q) 24).le (Le.alloc _ (.cells (cellsR 0 0 0 slZ) 24))
  have hb2 := Box.new (w.alloc (.cells (cellsR hh t f q) 24)) (cellsR 0 0 0 slZ) 24
  rw [World.size_alloc] at hb2
  have hm := hmay _ hl
  cases h1 : mayR ⟨hh, t, f, ss⟩
  · rw [h1] at hm
    go_enter Try.func11, Try.ntmps11
    go_wp2_with fail
    refine hm.mono ?_
    rintro e w1 ⟨rfl, l1⟩
    obtain ⟨z0, z1, z2, z3, f0, f1, f2, f3⟩ := (hb2.le l1).ring
    go_wp2
    refine bodyPost_ret (v := .tuple #[ringZ, .int .i64 0, .int .i64 1000]) (by simp [results, Try.results11, go_sem, z0, z1, z2, z3]) rfl ⟨rfl, ?_⟩
    iterate 4 refine Le.set ?_ (by omega)
    exact hl.trans l1
  · rw [h1] at hm
    have h2 : (decide (1 ≤ k) && decide (k ≤ (q.2.1 : Int))) = false := by simpa [h1] using h
    have hu := fun w => refUpTo k 1 q.2.1 w
    rw [h2] at hu
    clear h h2 h1 hmay
    go_enter Try.func11, Try.ntmps11
    go_wp2_with fail
    refine hm.mono ?_
    rintro e w1 ⟨rfl, l1⟩
    obtain ⟨z0, z1, z2, z3, f0, f1, f2, f3⟩ := (hb2.le l1).ring
    obtain ⟨b0, b1, b2, b3, _, _, _, _⟩ := (hb.le l1).ring
    go_wp2_with fail
    refine (hu _).mono ?_
    rintro e _ ⟨rfl, rfl⟩
    go_wp2_with fail
    refine bodyPost_ret (v := .tuple #[ringZ, .int .i64 0, .int .i64 1000]) (by simp [results, Try.results11, go_sem, z0, z1, z2, z3]) rfl ⟨rfl, ?_⟩
    iterate 4 refine Le.set ?_ (by omega)
    exact hl.trans l1

set_option maxHeartbeats 1000000 in
theorem refReserveFull (v : Value) (R : Rg) (k : Int) (w : World) (hx : HasR w v R) (h : askB R k = true) (h2 : roomB R k = false) : Calls Try.prog 11 #[v, .int .i64 k] w fun e w' =>
    e = .returned (.tuple #[ringZ, .int .i64 0, .int .i64 1001]) ∧ Le w w' := by
  have h1 : mayR R = true := by simp [askB] at h; exact h.1.1
  have hk : 1 ≤ k ∧ k ≤ R.ss.length := by simp [askB] at h; exact ⟨h.1.2, h.2⟩
  have hf := mayR_fit h1
  have hlen := mayR_len h1
  obtain ⟨n0, n1, n2, n3⟩ := mayR_nums h1
  have hmay := fun w' (l : Le w w') => refRingMay v R w' (hx.le l) hf
  unfold roomB at h2
  obtain ⟨hh, t, f, ss⟩ := R
  obtain ⟨q, rfl, hq⟩ := hx
  simp only at hq hmay hk hlen n0 n1 n2 n3 h2 ⊢
  replace hf : ss.length * 40 ≤ 140737488351232 := hf
  have hn := hq.len
  rw [← hn] at hk n3 hlen h2
  obtain ⟨k1, k2⟩ := hk
  have k3 : k ≤ 16 := by omega
  have hq0 : q.2.1 ≤ 4611686018427387904 := by omega
  have hl := (Le.alloc w (.cells (cellsR hh t f q) 24)).trans (Le.alloc _ (.cells (cellsR 0 0 0 slZ) 24))
  have hb := (Box.new w (cellsR hh t f q) 24).le (Le.alloc _ (.cells (cellsR 0 0 0 slZ) 24))
  have hb2 := Box.new (w.alloc (.cells (cellsR hh t f q) 24)) (cellsR 0 0 0 slZ) 24
  rw [World.size_alloc] at hb2
  have hsum : IntKind.i64.wrap (t + k) = t + k := by rw [IntKind.wrap_i64]; omega
  have hsum2 : IntKind.i64.wrap (hh + (q.2.1 : Int)) = hh + (q.2.1 : Int) := by rw [IntKind.wrap_i64]; omega
  have hu := fun w => refUpTo k 1 q.2.1 w
  rw [in_yes k1 k2] at hu
  have hm := hmay _ hl
  rw [h1] at hm
  have HN : Hid (q.2.1 = ss.length) := hn
  clear hn hmay h h1 hlen
  have h3 : f ≠ 0 ∨ f = 0 ∧ hh + (q.2.1 : Int) < t + k ∨ f = 0 ∧ t + k ≤ hh + (q.2.1 : Int) ∧ 1048576 < t + k := by
    by_cases e : f = 0
    · simp [e, placesB] at h2
      omega
    · exact .inl e
  clear h2
  rcases h3 with h3 | ⟨rfl, h4⟩ | ⟨rfl, h4, h5⟩
  · have hfn : (f != 0) = true := by simp [h3]
    clear h3
    go_enter Try.func11, Try.ntmps11
    go_wp2_with fail
    refine hm.mono ?_
    rintro e w1 ⟨rfl, l1⟩
    obtain ⟨b0, b1, b2, b3, _, _, _, _⟩ := (hb.le l1).ring
    go_wp2_with fail
    refine (hu _).mono ?_
    rintro e _ ⟨rfl, rfl⟩
    obtain ⟨z0, z1, z2, z3, f0, f1, f2, f3⟩ := (hb2.le l1).ring
    go_wp2_with fail
    refine bodyPost_ret (v := .tuple #[ringZ, .int .i64 0, .int .i64 1001]) (by simp [results, Try.results11, go_sem, z0, z1, z2, z3]) rfl ⟨rfl, ?_⟩
    exact (hl.trans l1).put4 (by omega)
  · go_enter Try.func11, Try.ntmps11
    go_wp2_with fail
    refine hm.mono ?_
    rintro e w1 ⟨rfl, l1⟩
    obtain ⟨b0, b1, b2, b3, _, _, _, _⟩ := (hb.le l1).ring
    go_wp2_with fail
    refine (hu _).mono ?_
    rintro e _ ⟨rfl, rfl⟩
    obtain ⟨z0, z1, z2, z3, f0, f1, f2, f3⟩ := (hb2.le l1).ring
    go_wp2_with fail
    refine bodyPost_ret (v := .tuple #[ringZ, .int .i64 0, .int .i64 1001]) (by simp [results, Try.results11, go_sem, z0, z1, z2, z3]) rfl ⟨rfl, ?_⟩
    exact (hl.trans l1).put4 (by omega)
  · go_enter Try.func11, Try.ntmps11
    go_wp2_with fail
    refine hm.mono ?_
    rintro e w1 ⟨rfl, l1⟩
    obtain ⟨b0, b1, b2, b3, _, _, _, _⟩ := (hb.le l1).ring
    go_wp2_with fail
    refine (hu _).mono ?_
    rintro e _ ⟨rfl, rfl⟩
    obtain ⟨z0, z1, z2, z3, f0, f1, f2, f3⟩ := (hb2.le l1).ring
    go_wp2_with fail
    refine bodyPost_ret (v := .tuple #[ringZ, .int .i64 0, .int .i64 1001]) (by simp [results, Try.results11, go_sem, z0, z1, z2, z3]) rfl ⟨rfl, ?_⟩
    exact (hl.trans l1).put4 (by omega)

set_option maxHeartbeats 1000000 in
theorem refReserveOk (v : Value) (R : Rg) (k : Int) (w : World) (hx : HasR w v R) (h : askB R k = true) (h2 : roomB R k = true) : Calls Try.prog 11 #[v, .int .i64 k] w fun e w' =>
    ∃ v', e = .returned (.tuple #[v', .int .i64 R.t, .int .i64 0]) ∧ OwnR w' w.heap.size v' ⟨R.h, R.t + k, R.f, R.ss⟩ ∧ Le w w' := by
  have h1 : mayR R = true := by simp [askB] at h; exact h.1.1
  have hk : 1 ≤ k ∧ k ≤ R.ss.length := by simp [askB] at h; exact ⟨h.1.2, h.2⟩
  have hf := mayR_fit h1
  have hlen := mayR_len h1
  obtain ⟨n0, n1, n2, n3⟩ := mayR_nums h1
  have hmay := fun w' (l : Le w w') => refRingMay v R w' (hx.le l) hf
  unfold roomB at h2
  obtain ⟨hh, t, f, ss⟩ := R
  obtain ⟨q, rfl, hq⟩ := hx
  simp only at hq hmay hk hlen n0 n1 n2 n3 h2 ⊢
  replace hf : ss.length * 40 ≤ 140737488351232 := hf
  have hn := hq.len
  rw [← hn] at hk n3 hlen h2
  obtain ⟨k1, k2⟩ := hk
  have k3 : k ≤ 16 := by omega
  have hq0 : q.2.1 ≤ 4611686018427387904 := by omega
  have hl := (Le.alloc w (.cells (cellsR hh t f q) 24)).trans (Le.alloc _ (.cells (cellsR 0 0 0 slZ) 24))
  have hb := (Box.new w (cellsR hh t f q) 24).le (Le.alloc _ (.cells (cellsR 0 0 0 slZ) 24))
  have hb2 := Box.new (w.alloc (.cells (cellsR hh t f q) 24)) (cellsR 0 0 0 slZ) 24
  rw [World.size_alloc] at hb2
  have hsum : IntKind.i64.wrap (t + k) = t + k := by rw [IntKind.wrap_i64]; omega
  have hsum2 : IntKind.i64.wrap (hh + (q.2.1 : Int)) = hh + (q.2.1 : Int) := by rw [IntKind.wrap_i64]; omega
  have hu := fun w => refUpTo k 1 q.2.1 w
  rw [in_yes k1 k2] at hu
  have hm := hmay _ hl
  rw [h1] at hm
  have HN : Hid (q.2.1 = ss.length) := hn
  clear hn hmay h h1 hlen
  obtain ⟨rfl, h4, h5⟩ : f = 0 ∧ t + k ≤ hh + (q.2.1 : Int) ∧ t + k ≤ 1048576 := by simp [placesB] at h2; omega
  clear h2
  go_enter Try.func11, Try.ntmps11
  go_wp2_with fail
  refine hm.mono ?_
  rintro e w1 ⟨rfl, l1⟩
  obtain ⟨b0, b1, b2, b3, _, _, _, _⟩ := (hb.le l1).ring
  go_wp2_with fail
  refine (hu _).mono ?_
  rintro e _ ⟨rfl, rfl⟩
  go_wp2_with fail
  have hap := refCopyRing hh t 0 q ss _ (hq.le (hl.trans l1)) hf
  refine hap.mono ?_
  rintro e w2 ⟨u, rfl, hown, l2⟩
  have hbr := (hb.le l1).le l2
  have hbz := (hb2.le l1).le l2
  have hlw := (hl.trans l1).trans l2
  have hne1 : (slV u).ownBlock ≠ some (w.heap.size + 1) := hown.off (hb2.le l1).lt
  have hbs : w.heap.size ≤ w1.heap.size := (hl.trans l1).size
  have hlt := hbz.lt
  have m1 : ¬ w.heap.size + 1 = w2.heap.size := by omega
  have m2 : ¬ w.heap.size = w2.heap.size := by omega
  have hbo := Box.new w2 (cellsR hh (t + k) 0 u) 24
  have lo := Le.alloc w2 (.cells (cellsR hh (t + k) 0 u) 24)
  clear b0 b1 b2 b3 hap hm hb hb2 hl hu
  obtain ⟨b0, b1, b2, b3, _, _, _, _⟩ := (hbr.le (Le.alloc w2 (.cells (cellsR hh t 0 u) 24))).ring
  go_upto_region 7 with fail
  generalize hW : w2.alloc (.cells (cellsR hh (t + k) 0 u) 24) = W at hbo lo ⊢
  clear hW b0 b1 b2 b3
  obtain ⟨c0, c1, c2, c3, _, _, _, _⟩ := hbo.ring
  obtain ⟨b0, b1, b2, b3, _, _, _, _⟩ := (hbr.le lo).ring
  obtain ⟨z0, z1, z2, z3, f0, f1, f2, f3⟩ := (hbz.le lo).ring
  go_region_held3 (fun w' => w'.cell? ⟨w2.heap.size, 0, none⟩ = some (.int .i64 hh) ∧ w'.cell? ⟨w2.heap.size, 1, none⟩ = some (.int .i64 (t + k)) ∧ w'.cell? ⟨w2.heap.size, 2, none⟩ = some (.int .i64 0) ∧ w'.cell? ⟨w2.heap.size, 3, none⟩ = some (slV u) ∧ w'.cell? ⟨w.heap.size, 1, none⟩ = some (.int .i64 t)) (go_keep) (fail)
  all_goals
    go_wp2_with fail
    refine bodyPost_ret (v := .tuple #[ringV hh (t + k) 0 u, .int .i64 t, .int .i64 0]) (by simp [results, Try.results11, go_sem, z0, z1, z2, z3]) rfl ⟨_, rfl, ⟨u, rfl, ?_⟩, ?_⟩
    · first
      | exact ((((hown.le lo).set4 hne1).le (Le.drew _)).base (by omega))
      | exact ((((hown.le lo).le (Le.drew _)).set4 hne1).base (by omega))
    · first
      | exact ((hlw.trans lo).put4 (by omega)).trans (Le.drew _)
      | exact ((hlw.trans lo).trans (Le.drew _)).put4 (by omega)

theorem refReserve (v : Value) (R : Rg) (k : Int) (w : World) (hx : HasR w v R) (hf : FitR R) : Calls Try.prog 11 #[v, .int .i64 k] w fun e w' =>
    ∃ v', e = .returned (.tuple #[v', .int .i64 (reserveS R k).2.1, .int .i64 (reserveS R k).2.2]) ∧ OwnR w' w.heap.size v' (reserveS R k).1 ∧ Le w w' := by
  cases h : askB R k
  · rw [show reserveS R k = (Rg.zero, 0, 1000) by simp [reserveS, h]]
    exact (refReserveNo v R k w hx hf h).mono fun e w' ⟨he, hl⟩ => ⟨_, he, OwnR.zero _ _, hl⟩
  · cases h2 : roomB R k
    · rw [show reserveS R k = (Rg.zero, 0, 1001) by simp [reserveS, h, h2]]
      exact (refReserveFull v R k w hx h h2).mono fun e w' ⟨he, hl⟩ => ⟨_, he, OwnR.zero _ _, hl⟩
    · rw [show reserveS R k = (⟨R.h, R.t + k, R.f, R.ss⟩, R.t, 0) by simp [reserveS, h, h2]]
      exact refReserveOk v R k w hx h h2

end Go.Proofs.Ytnncmjliehoknaa
