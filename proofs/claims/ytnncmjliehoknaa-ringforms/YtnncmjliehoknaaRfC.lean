/-
  THE WALKS over the document's own NewRing, FreeTo, Entry: what each answers, for every ring and number. Condition: that the slots can be copied.
-/
import Derived.Test.YtnncmjliehoknaaRfB
namespace Go.Proofs.Ytnncmjliehoknaa
open Go.RowKit

set_option maxHeartbeats 1000000 in
theorem refNewRing (n : Int) (w : World) : Calls Try.prog 19 #[.int .i64 n] w fun e w' => ∃ v', e = .returned (.tuple #[v', .int .i64 (newS n).2]) ∧ OwnR w' w.heap.size v' (newS n).1 ∧ Le w w' := by
  have m1 := fun w => refSlotsMay n w
  have hb := Box.new w (cellsR 0 0 0 slZ) 24
  have hl := Le.alloc w (.cells (cellsR 0 0 0 slZ) 24)
  obtain ⟨b0, b1, b2, b3, f0, f1, f2, f3⟩ := hb.ring
  cases hn : slotsB n
  · rw [hn] at m1
    simp only [newS, hn]
    go_enter Try.func19, Try.ntmps19
    go_wp2_with (go_at_call 40; refine (m1 _).mono ?_; rintro e _ ⟨rfl, rfl⟩)
    refine bodyPost_ret (v := .tuple #[ringZ, .int .i64 1000]) (by simp [results, Try.results19, go_sem]) rfl ⟨_, rfl, OwnR.zero _ _, ?_⟩
    exact hl
  · rw [hn] at m1
    simp only [newS, hn]
    have k2 := make2
    have k4 := make4
    have k8 := make8
    have k16 := make16
    rcases slotsB_cases hn with rfl | rfl | rfl | rfl
    · go_enter Try.func19, Try.ntmps19
      go_wp2_with (go_at_call 40; refine (m1 _).mono ?_; rintro e _ ⟨rfl, rfl⟩)
      refine bodyPost_ret (v := .tuple #[ringV 0 0 0 (some ⟨w.heap.size + 1, 0, none⟩, 2, 2), .int .i64 0]) (by simp [results, Try.results19, go_sem]) rfl ⟨_, rfl, ⟨_, rfl, ?_⟩, (Le.alloc _ _).trans (Le.alloc _ _)⟩
      have := OwnL.made (w.alloc (.cells (cellsR 0 0 0 (some ⟨w.heap.size + 1, 0, none⟩, 2, 2)) 24)) w.heap.size 2 (by simp) (by decide)
      simp only [World.size_alloc] at this
      exact this
    · go_enter Try.func19, Try.ntmps19
      go_wp2_with (go_at_call 40; refine (m1 _).mono ?_; rintro e _ ⟨rfl, rfl⟩)
      refine bodyPost_ret (v := .tuple #[ringV 0 0 0 (some ⟨w.heap.size + 1, 0, none⟩, 4, 4), .int .i64 0]) (by simp [results, Try.results19, go_sem]) rfl ⟨_, rfl, ⟨_, rfl, ?_⟩, (Le.alloc _ _).trans (Le.alloc _ _)⟩
      have := OwnL.made (w.alloc (.cells (cellsR 0 0 0 (some ⟨w.heap.size + 1, 0, none⟩, 4, 4)) 24)) w.heap.size 4 (by simp) (by decide)
      simp only [World.size_alloc] at this
      exact this
    · go_enter Try.func19, Try.ntmps19
      go_wp2_with (go_at_call 40; refine (m1 _).mono ?_; rintro e _ ⟨rfl, rfl⟩)
      refine bodyPost_ret (v := .tuple #[ringV 0 0 0 (some ⟨w.heap.size + 1, 0, none⟩, 8, 8), .int .i64 0]) (by simp [results, Try.results19, go_sem]) rfl ⟨_, rfl, ⟨_, rfl, ?_⟩, (Le.alloc _ _).trans (Le.alloc _ _)⟩
      have := OwnL.made (w.alloc (.cells (cellsR 0 0 0 (some ⟨w.heap.size + 1, 0, none⟩, 8, 8)) 24)) w.heap.size 8 (by simp) (by decide)
      simp only [World.size_alloc] at this
      exact this
    · go_enter Try.func19, Try.ntmps19
      go_wp2_with (go_at_call 40; refine (m1 _).mono ?_; rintro e _ ⟨rfl, rfl⟩)
      refine bodyPost_ret (v := .tuple #[ringV 0 0 0 (some ⟨w.heap.size + 1, 0, none⟩, 16, 16), .int .i64 0]) (by simp [results, Try.results19, go_sem]) rfl ⟨_, rfl, ⟨_, rfl, ?_⟩, (Le.alloc _ _).trans (Le.alloc _ _)⟩
      have := OwnL.made (w.alloc (.cells (cellsR 0 0 0 (some ⟨w.heap.size + 1, 0, none⟩, 16, 16)) 24)) w.heap.size 16 (by simp) (by decide)
      simp only [World.size_alloc] at this
      exact this

set_option maxHeartbeats 1000000 in
theorem refFreeTo (v : Value) (R : Rg) (p : Int) (w : World) (hx : HasR w v R) (hf : FitR R) : Calls Try.prog 17 #[v, .int .i64 p] w fun e w' =>
    ∃ v', e = .returned (.tuple #[v', .int .i64 (freeS R p).2]) ∧ OwnR w' w.heap.size v' (freeS R p).1 ∧ Le w w' := by
  have hmay := fun w' (l : Le w w') => refRingMay v R w' (hx.le l) hf
  unfold freeS freeB
  obtain ⟨hh, t, f, ss⟩ := R
  obtain ⟨q, rfl, hq⟩ := hx
  simp only at hq hmay ⊢
  replace hf : ss.length * 40 ≤ 140737488351232 := hf
  have hl := (Le.alloc w (.cells (cellsR hh t f q) 24)).trans (Le.alloc _ (.cells (cellsR 0 0 0 slZ) 24))
  have hb := (Box.new w (cellsR hh t f q) 24).le (Le.alloc _ (.cells (cellsR 0 0 0 slZ) 24))
  have hb2 := Box.new (w.alloc (.cells (cellsR hh t f q) 24)) (cellsR 0 0 0 slZ) 24
  rw [World.size_alloc] at hb2
  have hm := hmay _ hl
  clear hmay
  cases h1 : mayR ⟨hh, t, f, ss⟩
  · rw [h1] at hm
    simp only [Bool.false_and]
    clear h1
    go_enter Try.func17, Try.ntmps17
    go_wp2_with fail
    refine hm.mono ?_
    rintro e w1 ⟨rfl, l1⟩
    obtain ⟨z0, z1, z2, z3, f0, f1, f2, f3⟩ := (hb2.le l1).ring
    go_wp2_with fail
    refine bodyPost_ret (v := .tuple #[ringZ, .int .i64 1000]) (by simp [results, Try.results17, go_sem, z0, z1, z2, z3]) rfl ⟨_, rfl, OwnR.zero _ _, ?_⟩
    exact (hl.trans l1).put4 (by omega)
  · rw [h1] at hm
    clear h1
    rcases (by omega : p < hh ∨ (hh ≤ p ∧ t < p) ∨ (hh ≤ p ∧ p ≤ t)) with h2 | ⟨h2, h3⟩ | ⟨h2, h3⟩
    · rw [show (true && decide (hh ≤ p) && decide (p ≤ t)) = false by simp; omega]
      simp only [Bool.false_eq_true, ↓reduceIte]
      go_enter Try.func17, Try.ntmps17
      go_wp2_with fail
      refine hm.mono ?_
      rintro e w1 ⟨rfl, l1⟩
      obtain ⟨b0, b1, b2, b3, _, _, _, _⟩ := (hb.le l1).ring
      obtain ⟨z0, z1, z2, z3, f0, f1, f2, f3⟩ := (hb2.le l1).ring
      go_wp2_with fail
      refine bodyPost_ret (v := .tuple #[ringZ, .int .i64 1000]) (by simp [results, Try.results17, go_sem, z0, z1, z2, z3]) rfl ⟨_, rfl, OwnR.zero _ _, ?_⟩
      exact (hl.trans l1).put4 (by omega)
    · rw [show (true && decide (hh ≤ p) && decide (p ≤ t)) = false by simp; omega]
      simp only [Bool.false_eq_true, ↓reduceIte]
      go_enter Try.func17, Try.ntmps17
      go_wp2_with fail
      refine hm.mono ?_
      rintro e w1 ⟨rfl, l1⟩
      obtain ⟨b0, b1, b2, b3, _, _, _, _⟩ := (hb.le l1).ring
      obtain ⟨z0, z1, z2, z3, f0, f1, f2, f3⟩ := (hb2.le l1).ring
      go_wp2_with fail
      refine bodyPost_ret (v := .tuple #[ringZ, .int .i64 1000]) (by simp [results, Try.results17, go_sem, z0, z1, z2, z3]) rfl ⟨_, rfl, OwnR.zero _ _, ?_⟩
      exact (hl.trans l1).put4 (by omega)
    · rw [show (true && decide (hh ≤ p) && decide (p ≤ t)) = true by simp; omega]
      simp only
      go_enter Try.func17, Try.ntmps17
      go_wp2_with fail
      refine hm.mono ?_
      rintro e w1 ⟨rfl, l1⟩
      obtain ⟨b0, b1, b2, b3, _, _, _, _⟩ := (hb.le l1).ring
      go_wp2_with fail
      have hap := refCopyRing hh t f q ss _ (hq.le (hl.trans l1)) hf
      refine hap.mono ?_
      rintro e w2 ⟨u, rfl, hown, l2⟩
      have hbz := (hb2.le l1).le l2
      have hlw := (hl.trans l1).trans l2
      have hne1 : (slV u).ownBlock ≠ some (w.heap.size + 1) := hown.off (hb2.le l1).lt
      have hbs : w.heap.size ≤ w1.heap.size := (hl.trans l1).size
      have hlt := hbz.lt
      have m1 : ¬ w.heap.size + 1 = w2.heap.size := by omega
      have hbo := Box.new w2 (cellsR p t f u) 24
      have lo := Le.alloc w2 (.cells (cellsR p t f u) 24)
      clear b0 b1 b2 b3 hap hm hb hb2 hl
      go_upto_region 5 with fail
      generalize hW : w2.alloc (.cells (cellsR p t f u) 24) = W at hbo lo ⊢
      clear hW
      obtain ⟨c0, c1, c2, c3, _, _, _, _⟩ := hbo.ring
      obtain ⟨z0, z1, z2, z3, f0, f1, f2, f3⟩ := (hbz.le lo).ring
      go_wp2_with fail
      refine bodyPost_ret (v := .tuple #[ringV p t f u, .int .i64 0]) (by simp [results, Try.results17, go_sem, z0, z1, z2, z3]) rfl ⟨_, rfl, ⟨u, rfl, ?_⟩, ?_⟩
      · exact ((hown.le lo).set4 hne1).base (by omega)
      · exact (hlw.trans lo).put4 (by omega)

set_option maxHeartbeats 1000000 in
theorem refEntryNo (v : Value) (R : Rg) (p : Int) (w : World) (hx : HasR w v R) (hf : FitR R) (h : mayR R = false) : Calls Try.prog 15 #[v, .int .i64 p] w fun e w' =>
    e = .returned (.tuple #[slotZ, .int .i64 1000]) ∧ Le w w' := by
  have hmay := fun w' (l : Le w w') => refRingMay v R w' (hx.le l) hf
  obtain ⟨hh, t, f, ss⟩ := R
  obtain ⟨q, rfl, hq⟩ := hx
  simp only at hq hmay ⊢
  have hl := (Le.alloc w (.cells (cellsR hh t f q) 24)).trans (Le.alloc _ (.cells #[.int .i64 0, .int .i64 0, .int .i64 0, .int .i64 0, .int .i64 0] 38))
  have hb2 := Box.new (w.alloc (.cells (cellsR hh t f q) 24)) #[.int .i64 0, .int .i64 0, .int .i64 0, .int .i64 0, .int .i64 0] 38
  rw [World.size_alloc] at hb2
  have hm := hmay _ hl
  rw [h] at hm
  clear hmay h
  go_enter Try.func15, Try.ntmps15
  go_wp2_with fail
  refine hm.mono ?_
  rintro e w1 ⟨rfl, l1⟩
  obtain ⟨z0, z1, z2, z3, z4⟩ := (hb2.le l1).slot
  obtain ⟨f0, f1, f2, f3, f4⟩ := (hb2.le l1).slotF
  go_wp2_with fail
  refine bodyPost_ret (v := .tuple #[slotZ, .int .i64 1000]) (by simp [results, Try.results15, go_sem, z0, z1, z2, z3, z4]) rfl ⟨rfl, ?_⟩
  exact (hl.trans l1).put5 (by omega)

set_option maxHeartbeats 1000000 in
theorem refEntryOff (v : Value) (R : Rg) (p : Int) (w : World) (hx : HasR w v R) (h : mayR R = true) (h2 : hasB R.h R.t p = false) : Calls Try.prog 15 #[v, .int .i64 p] w fun e w' =>
    e = .returned (.tuple #[slotZ, .int .i64 1002]) ∧ Le w w' := by
  have hmay := fun w' (l : Le w w') => refRingMay v R w' (hx.le l) (mayR_fit h)
  obtain ⟨hh, t, f, ss⟩ := R
  obtain ⟨q, rfl, hq⟩ := hx
  simp only at hq hmay h2 ⊢
  have hl := (Le.alloc w (.cells (cellsR hh t f q) 24)).trans (Le.alloc _ (.cells #[.int .i64 0, .int .i64 0, .int .i64 0, .int .i64 0, .int .i64 0] 38))
  have hb := (Box.new w (cellsR hh t f q) 24).le (Le.alloc _ (.cells #[.int .i64 0, .int .i64 0, .int .i64 0, .int .i64 0, .int .i64 0] 38))
  have hb2 := Box.new (w.alloc (.cells (cellsR hh t f q) 24)) #[.int .i64 0, .int .i64 0, .int .i64 0, .int .i64 0, .int .i64 0] 38
  rw [World.size_alloc] at hb2
  have hm := hmay _ hl
  rw [h] at hm
  have h3 : p < hh ∨ (hh ≤ p ∧ t ≤ p) := by simp [hasB] at h2; omega
  clear hmay h h2
  rcases h3 with h3 | ⟨h3, h4⟩
  all_goals
    go_enter Try.func15, Try.ntmps15
    go_wp2_with fail
    refine hm.mono ?_
    rintro e w1 ⟨rfl, l1⟩
    obtain ⟨b0, b1, b2, b3, _, _, _, _⟩ := (hb.le l1).ring
    obtain ⟨z0, z1, z2, z3, z4⟩ := (hb2.le l1).slot
    obtain ⟨f0, f1, f2, f3, f4⟩ := (hb2.le l1).slotF
    go_wp2_with fail
    refine bodyPost_ret (v := .tuple #[slotZ, .int .i64 1002]) (by simp [results, Try.results15, go_sem, z0, z1, z2, z3, z4]) rfl ⟨rfl, ?_⟩
    exact (hl.trans l1).put5 (by omega)

set_option maxHeartbeats 1000000 in
theorem refEntryIn (v : Value) (R : Rg) (p : Int) (w : World) (hx : HasR w v R) (h : mayR R = true) (h2 : hasB R.h R.t p = true) : Calls Try.prog 15 #[v, .int .i64 p] w fun e w' =>
    e = .returned (.tuple #[(entryS R p).1.v, .int .i64 (entryS R p).2]) ∧ Le w w' := by
  have hmay := fun w' (l : Le w w') => refRingMay v R w' (hx.le l) (mayR_fit h)
  have hp : 0 ≤ p ∧ p ≤ 1048576 := by have := mayR_nums h; simp [hasB] at h2; omega
  have hsl := seat_lt (p := p) h
  have hse := seat_eq (p := p) h hp.1
  have hlen := mayR_len h
  simp only [entryS, h, if_true, entryB, h2, Bool.true_and]
  obtain ⟨hh, t, f, ss⟩ := R
  obtain ⟨q, rfl, hq⟩ := hx
  simp only at hq hmay h2 hsl hse hlen ⊢
  generalize seat ⟨hh, t, f, ss⟩ p = i at hsl hse ⊢
  obtain ⟨s, hs⟩ : ∃ s, s = ss.getD i Slt.zero := ⟨_, rfl⟩
  rw [← hs]
  have hal := fun w => refAlive s.c s.r s.a s.t s.b p ss.length w
  rw [aliveS_yes (mayR_slots h) (by simp [holdB, hp.1, hp.2])] at hal
  have hl := (Le.alloc w (.cells (cellsR hh t f q) 24)).trans (Le.alloc _ (.cells #[.int .i64 0, .int .i64 0, .int .i64 0, .int .i64 0, .int .i64 0] 38))
  have hb := (Box.new w (cellsR hh t f q) 24).le (Le.alloc _ (.cells #[.int .i64 0, .int .i64 0, .int .i64 0, .int .i64 0, .int .i64 0] 38))
  have hb2 := Box.new (w.alloc (.cells (cellsR hh t f q) 24)) #[.int .i64 0, .int .i64 0, .int .i64 0, .int .i64 0, .int .i64 0] 38
  rw [World.size_alloc] at hb2
  have hm := hmay _ hl
  rw [h] at hm
  obtain ⟨h3, h4⟩ : hh ≤ p ∧ p < t := by simpa [hasB] using h2
  obtain ⟨a, cap, hqv, hcap, _, hxx⟩ := hq
  obtain ⟨b, off, rfl, hcell⟩ := hxx (by omega)
  have hci := hcell i hsl
  rw [← hs] at hci
  obtain ⟨qa, n, qc⟩ := q
  simp only [slV, Value.slice.injEq] at hqv
  obtain ⟨rfl, hn, rfl⟩ := hqv
  rw [← hn] at hse hlen hsl hal hcap ⊢
  generalize decide (s.b = bitAt p n) = y at hal ⊢
  clear hmay h h2 hcell hxx hn hs
  go_enter Try.func15, Try.ntmps15
  go_wp2_with fail
  refine hm.mono ?_
  rintro e w1 ⟨rfl, l1⟩
  obtain ⟨b0, b1, b2, b3, _, _, _, _⟩ := (hb.le l1).ring
  clear hm
  replace hb := hb.le l1
  replace hb2 := hb2.le l1
  replace hci := hci.le (hl.trans l1)
  replace hl := hl.trans l1
  clear l1
  obtain ⟨x0, x1, x2, x3, x4⟩ := hci
  obtain ⟨n0, n1⟩ : (0 : Int) ≤ (i : Int) ∧ (i : Int) < (n : Int) := by omega
  have n2 : ¬ n = 0 := by omega
  replace b3 : w1.cell? ⟨w.heap.size, 3, none⟩ = some (.slice (some ⟨b, off, none⟩) n qc) := b3
  go_upto_region 5 with fail
  go_region_held3 (fun w' => w'.cell? ⟨w.heap.size, 3, none⟩ = some (.slice (some ⟨b, off, none⟩) n qc) ∧ w'.cell? ⟨b, off + i * 5, none⟩ = some (.int .i64 s.c) ∧ w'.cell? ⟨b, off + i * 5 + 1, none⟩ = some (.int .i64 s.r) ∧ w'.cell? ⟨b, off + i * 5 + 2, none⟩ = some (.int .i64 s.a) ∧ w'.cell? ⟨b, off + i * 5 + 3, none⟩ = some (.int .i64 s.t) ∧ w'.cell? ⟨b, off + i * 5 + 4, none⟩ = some (.int .i64 s.b)) (go_keep) (fail)
  go_wp2_with fail
  refine (hal _).mono ?_
  rintro e w3 ⟨rfl, l3⟩
  have hbs := (Box.new w1 #[.int .i64 s.c, .int .i64 s.r, .int .i64 s.a, .int .i64 s.t, .int .i64 s.b] 38).le ((Le.drew _).trans l3)
  have l4 := ((Le.alloc w1 (.cells #[.int .i64 s.c, .int .i64 s.r, .int .i64 s.a, .int .i64 s.t, .int .i64 s.b] 38)).trans (Le.drew _)).trans l3
  obtain ⟨z0, z1, z2, z3, z4⟩ := (hb2.le l4).slot
  obtain ⟨f0, f1, f2, f3, f4⟩ := (hb2.le l4).slotF
  obtain ⟨y0, y1, y2, y3, y4⟩ := hbs.slot
  clear x0 x1 x2 x3 x4 b0 b1 b2 b3 n0 n1 n2 hse hal hb hb2 l3
  cases y
  · go_wp2_with fail
    refine bodyPost_ret (v := .tuple #[slotZ, .int .i64 1002]) (by simp [results, Try.results15, go_sem, z0, z1, z2, z3, z4]) rfl ⟨rfl, ?_⟩
    exact (hl.trans l4).put5 (by omega)
  · go_wp2_with fail
    refine bodyPost_ret (v := .tuple #[s.v, .int .i64 0]) (by simp [results, Try.results15, go_sem, z0, z1, z2, z3, z4]) rfl ⟨rfl, ?_⟩
    exact (hl.trans l4).put5 (by omega)

theorem refEntry (v : Value) (R : Rg) (p : Int) (w : World) (hx : HasR w v R) (hf : FitR R) : Calls Try.prog 15 #[v, .int .i64 p] w fun e w' =>
    e = .returned (.tuple #[(entryS R p).1.v, .int .i64 (entryS R p).2]) ∧ Le w w' := by
  cases h : mayR R
  · rw [show entryS R p = (Slt.zero, 1000) by simp [entryS, h]]
    exact refEntryNo v R p w hx hf h
  · cases h2 : hasB R.h R.t p
    · rw [show entryS R p = (Slt.zero, 1002) by simp [entryS, entryB, h, h2]]
      exact refEntryOff v R p w hx h h2
    · exact refEntryIn v R p w hx h h2

end Go.Proofs.Ytnncmjliehoknaa
