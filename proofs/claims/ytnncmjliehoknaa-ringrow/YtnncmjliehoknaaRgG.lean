/-
  THE WALK over package ring's Publish: what it answers, for every ring, number, operation and thread. Condition: that the slots can be copied.
-/
import Derived.Test.YtnncmjliehoknaaRgF
namespace Go.Proofs.Ytnncmjliehoknaa
open Go.RowKit

set_option maxHeartbeats 1000000 in
/-- No such entry number or number of slots. -/
theorem ringPublishBit (v : Value) (R : Rg) (p c r a th : Int) (w : World) (hx : HasR w v R) (hbit : slotsB R.ss.length = false ∨ holdB p = false) : Calls Try.prog 12 #[v, .int .i64 p, opV c r a, .int .i64 th] w fun e w' =>
    e = .returned (.tuple #[ringZ, .int .i64 1000]) ∧ Le w w' := by
  obtain ⟨hh, t, f, ss⟩ := R
  obtain ⟨q, rfl, hq⟩ := hx
  simp only at hq hbit ⊢
  have hn := hq.len
  rw [← hn] at hbit
  clear hn
  have hl := (((Le.alloc w (.cells (cellsR hh t f q) 24)).trans (Le.alloc _ (.cells #[.int .i64 c, .int .i64 r, .int .i64 a] 26))).trans (Le.alloc _ (.cells (cellsR 0 0 0 slZ) 24))).trans (Le.alloc _ (.cells #[.int .i64 c, .int .i64 r, .int .i64 a, .int .i64 th, .int .i64 0] 38))
  have hb := (((Box.new w (cellsR hh t f q) 24).le (Le.alloc _ (.cells #[.int .i64 c, .int .i64 r, .int .i64 a] 26))).le (Le.alloc _ (.cells (cellsR 0 0 0 slZ) 24))).le (Le.alloc _ (.cells #[.int .i64 c, .int .i64 r, .int .i64 a, .int .i64 th, .int .i64 0] 38))
  have hb2 := (Box.new ((w.alloc (.cells (cellsR hh t f q) 24)).alloc (.cells #[.int .i64 c, .int .i64 r, .int .i64 a] 26)) (cellsR 0 0 0 slZ) 24).le (Le.alloc _ (.cells #[.int .i64 c, .int .i64 r, .int .i64 a, .int .i64 th, .int .i64 0] 38))
  have hb3 := Box.new (((w.alloc (.cells (cellsR hh t f q) 24)).alloc (.cells #[.int .i64 c, .int .i64 r, .int .i64 a] 26)).alloc (.cells (cellsR 0 0 0 slZ) 24)) #[.int .i64 c, .int .i64 r, .int .i64 a, .int .i64 th, .int .i64 0] 38
  simp only [World.size_alloc] at hb2 hb3
  have hbt := fun w => slotBit p q.2.1 w
  rw [bitS_no hbit] at hbt
  clear hbit
  go_enter Try.func12, Try.ntmps12
  go_wp2_with (go_at_call 31; refine (hbt _).mono ?_; rintro e _ ⟨rfl, rfl⟩)
  refine bodyPost_ret (v := .tuple #[ringZ, .int .i64 1000]) (by simp [results, Try.results12, go_sem]) rfl ⟨rfl, ?_⟩
  exact hl

set_option maxHeartbeats 1000000 in
/-- A ring that may not be. -/
theorem ringPublishRing (v : Value) (R : Rg) (p c r a th : Int) (w : World) (hx : HasR w v R) (hf : FitR R) (hs : slotsB R.ss.length = true) (hp : holdB p = true) (h : mayR R = false) : Calls Try.prog 12 #[v, .int .i64 p, opV c r a, .int .i64 th] w fun e w' =>
    e = .returned (.tuple #[ringZ, .int .i64 1000]) ∧ Le w w' := by
  have hmay := fun w' (l : Le w w') => ringMay v R w' (hx.le l) hf
  have hbt := fun w => slotBit p R.ss.length w
  rw [bitS_yes hs hp] at hbt
  generalize bitAt p R.ss.length = y at hbt
  obtain ⟨hh, t, f, ss⟩ := R
  obtain ⟨q, rfl, hq⟩ := hx
  simp only at hq hmay hbt ⊢
  have hn := hq.len
  rw [← hn] at hbt
  clear hn hs
  have hl := (((Le.alloc w (.cells (cellsR hh t f q) 24)).trans (Le.alloc _ (.cells #[.int .i64 c, .int .i64 r, .int .i64 a] 26))).trans (Le.alloc _ (.cells (cellsR 0 0 0 slZ) 24))).trans (Le.alloc _ (.cells #[.int .i64 c, .int .i64 r, .int .i64 a, .int .i64 th, .int .i64 y] 38))
  have hb := (((Box.new w (cellsR hh t f q) 24).le (Le.alloc _ (.cells #[.int .i64 c, .int .i64 r, .int .i64 a] 26))).le (Le.alloc _ (.cells (cellsR 0 0 0 slZ) 24))).le (Le.alloc _ (.cells #[.int .i64 c, .int .i64 r, .int .i64 a, .int .i64 th, .int .i64 y] 38))
  have hb2 := (Box.new ((w.alloc (.cells (cellsR hh t f q) 24)).alloc (.cells #[.int .i64 c, .int .i64 r, .int .i64 a] 26)) (cellsR 0 0 0 slZ) 24).le (Le.alloc _ (.cells #[.int .i64 c, .int .i64 r, .int .i64 a, .int .i64 th, .int .i64 y] 38))
  have hb3 := Box.new (((w.alloc (.cells (cellsR hh t f q) 24)).alloc (.cells #[.int .i64 c, .int .i64 r, .int .i64 a] 26)).alloc (.cells (cellsR 0 0 0 slZ) 24)) #[.int .i64 c, .int .i64 r, .int .i64 a, .int .i64 th, .int .i64 y] 38
  simp only [World.size_alloc] at hb2 hb3
  have hm := hmay _ hl
  rw [h] at hm
  clear hmay h hf hp
  go_enter Try.func12, Try.ntmps12
  go_wp2_with fail
  refine (hbt _).mono ?_
  rintro e _ ⟨rfl, rfl⟩
  go_wp2_with fail
  refine hm.mono ?_
  rintro e w1 ⟨rfl, l1⟩
  obtain ⟨z0, z1, z2, z3, f0, f1, f2, f3⟩ := (hb2.le l1).ring
  go_wp2_with fail
  refine bodyPost_ret (v := .tuple #[ringZ, .int .i64 1000]) (by simp [results, Try.results12, go_sem, z0, z1, z2, z3]) rfl ⟨rfl, ?_⟩
  exact (hl.trans l1).put4 (by omega)

set_option maxHeartbeats 1000000 in
/-- An entry that is not in it. -/
theorem ringPublishOff (v : Value) (R : Rg) (p c r a th : Int) (w : World) (hx : HasR w v R) (hp : holdB p = true) (h : mayR R = true) (h2 : hasB R.h R.t p = false) : Calls Try.prog 12 #[v, .int .i64 p, opV c r a, .int .i64 th] w fun e w' =>
    e = .returned (.tuple #[ringZ, .int .i64 1000]) ∧ Le w w' := by
  have hs := mayR_slots h
  have hf := mayR_fit h
  have hmay := fun w' (l : Le w w') => ringMay v R w' (hx.le l) hf
  have hbt := fun w => slotBit p R.ss.length w
  rw [bitS_yes hs hp] at hbt
  generalize bitAt p R.ss.length = y at hbt
  obtain ⟨hh, t, f, ss⟩ := R
  obtain ⟨q, rfl, hq⟩ := hx
  simp only at hq hmay hbt h2 ⊢
  have hn := hq.len
  rw [← hn] at hbt
  clear hn hs
  have hl := (((Le.alloc w (.cells (cellsR hh t f q) 24)).trans (Le.alloc _ (.cells #[.int .i64 c, .int .i64 r, .int .i64 a] 26))).trans (Le.alloc _ (.cells (cellsR 0 0 0 slZ) 24))).trans (Le.alloc _ (.cells #[.int .i64 c, .int .i64 r, .int .i64 a, .int .i64 th, .int .i64 y] 38))
  have hb := (((Box.new w (cellsR hh t f q) 24).le (Le.alloc _ (.cells #[.int .i64 c, .int .i64 r, .int .i64 a] 26))).le (Le.alloc _ (.cells (cellsR 0 0 0 slZ) 24))).le (Le.alloc _ (.cells #[.int .i64 c, .int .i64 r, .int .i64 a, .int .i64 th, .int .i64 y] 38))
  have hb2 := (Box.new ((w.alloc (.cells (cellsR hh t f q) 24)).alloc (.cells #[.int .i64 c, .int .i64 r, .int .i64 a] 26)) (cellsR 0 0 0 slZ) 24).le (Le.alloc _ (.cells #[.int .i64 c, .int .i64 r, .int .i64 a, .int .i64 th, .int .i64 y] 38))
  have hb3 := Box.new (((w.alloc (.cells (cellsR hh t f q) 24)).alloc (.cells #[.int .i64 c, .int .i64 r, .int .i64 a] 26)).alloc (.cells (cellsR 0 0 0 slZ) 24)) #[.int .i64 c, .int .i64 r, .int .i64 a, .int .i64 th, .int .i64 y] 38
  simp only [World.size_alloc] at hb2 hb3
  have hm := hmay _ hl
  rw [h] at hm
  have hh2 := fun w => ringHas hh t f q p w
  rw [h2] at hh2
  clear hmay h h2 hf hp
  go_enter Try.func12, Try.ntmps12
  go_wp2_with fail
  refine (hbt _).mono ?_
  rintro e _ ⟨rfl, rfl⟩
  go_wp2_with fail
  refine hm.mono ?_
  rintro e w1 ⟨rfl, l1⟩
  obtain ⟨b0, b1, b2, b3, _, _, _, _⟩ := (hb.le l1).ring
  go_wp2_with fail
  refine (hh2 _).mono ?_
  rintro e w2 ⟨rfl, l2⟩
  clear b0 b1 b2 b3
  obtain ⟨z0, z1, z2, z3, f0, f1, f2, f3⟩ := ((hb2.le l1).le l2).ring
  go_wp2_with fail
  refine bodyPost_ret (v := .tuple #[ringZ, .int .i64 1000]) (by simp [results, Try.results12, go_sem, z0, z1, z2, z3]) rfl ⟨rfl, ?_⟩
  exact ((hl.trans l1).trans l2).put4 (by omega)

set_option maxHeartbeats 1000000 in
/-- A slot that may not be. -/
theorem ringPublishSlot (v : Value) (R : Rg) (p c r a th : Int) (w : World) (hx : HasR w v R) (hp : holdB p = true) (h : mayR R = true) (h2 : hasB R.h R.t p = true) (h3 : slotB ⟨c, r, a, th, bitAt p R.ss.length⟩ = false) : Calls Try.prog 12 #[v, .int .i64 p, opV c r a, .int .i64 th] w fun e w' =>
    e = .returned (.tuple #[ringZ, .int .i64 1000]) ∧ Le w w' := by
  have hs := mayR_slots h
  have hf := mayR_fit h
  have hmay := fun w' (l : Le w w') => ringMay v R w' (hx.le l) hf
  have hbt := fun w => slotBit p R.ss.length w
  rw [bitS_yes hs hp] at hbt
  generalize bitAt p R.ss.length = y at hbt h3
  obtain ⟨hh, t, f, ss⟩ := R
  obtain ⟨q, rfl, hq⟩ := hx
  simp only at hq hmay hbt h2 h3 ⊢
  have hn := hq.len
  rw [← hn] at hbt
  clear hn hs
  have hl := (((Le.alloc w (.cells (cellsR hh t f q) 24)).trans (Le.alloc _ (.cells #[.int .i64 c, .int .i64 r, .int .i64 a] 26))).trans (Le.alloc _ (.cells (cellsR 0 0 0 slZ) 24))).trans (Le.alloc _ (.cells #[.int .i64 c, .int .i64 r, .int .i64 a, .int .i64 th, .int .i64 y] 38))
  have hb := (((Box.new w (cellsR hh t f q) 24).le (Le.alloc _ (.cells #[.int .i64 c, .int .i64 r, .int .i64 a] 26))).le (Le.alloc _ (.cells (cellsR 0 0 0 slZ) 24))).le (Le.alloc _ (.cells #[.int .i64 c, .int .i64 r, .int .i64 a, .int .i64 th, .int .i64 y] 38))
  have hb2 := (Box.new ((w.alloc (.cells (cellsR hh t f q) 24)).alloc (.cells #[.int .i64 c, .int .i64 r, .int .i64 a] 26)) (cellsR 0 0 0 slZ) 24).le (Le.alloc _ (.cells #[.int .i64 c, .int .i64 r, .int .i64 a, .int .i64 th, .int .i64 y] 38))
  have hb3 := Box.new (((w.alloc (.cells (cellsR hh t f q) 24)).alloc (.cells #[.int .i64 c, .int .i64 r, .int .i64 a] 26)).alloc (.cells (cellsR 0 0 0 slZ) 24)) #[.int .i64 c, .int .i64 r, .int .i64 a, .int .i64 th, .int .i64 y] 38
  simp only [World.size_alloc] at hb2 hb3
  have hm := hmay _ hl
  rw [h] at hm
  have hh2 := fun w => ringHas hh t f q p w
  rw [h2] at hh2
  have hms := fun w => ringMaySlot ⟨c, r, a, th, y⟩ w
  rw [h3] at hms
  clear hmay h h2 h3 hf hp
  go_enter Try.func12, Try.ntmps12
  go_wp2_with fail
  refine (hbt _).mono ?_
  rintro e _ ⟨rfl, rfl⟩
  go_wp2_with fail
  refine hm.mono ?_
  rintro e w1 ⟨rfl, l1⟩
  obtain ⟨b0, b1, b2, b3, _, _, _, _⟩ := (hb.le l1).ring
  go_wp2_with fail
  refine (hh2 _).mono ?_
  rintro e w2 ⟨rfl, l2⟩
  clear b0 b1 b2 b3
  obtain ⟨y0, y1, y2, y3, y4⟩ := ((hb3.le l1).le l2).slot
  go_wp2_with fail
  refine (hms _).mono ?_
  rintro e w3 ⟨rfl, l3⟩
  clear y0 y1 y2 y3 y4
  obtain ⟨z0, z1, z2, z3, f0, f1, f2, f3⟩ := (((hb2.le l1).le l2).le l3).ring
  go_wp2_with fail
  refine bodyPost_ret (v := .tuple #[ringZ, .int .i64 1000]) (by simp [results, Try.results12, go_sem, z0, z1, z2, z3]) rfl ⟨rfl, ?_⟩
  exact (((hl.trans l1).trans l2).trans l3).put4 (by omega)

set_option maxHeartbeats 1000000 in
theorem ringPublishOk (v : Value) (R : Rg) (p c r a th : Int) (w : World) (hx : HasR w v R) (h : mayR R = true) (h2 : hasB R.h R.t p = true) (h3 : slotB ⟨c, r, a, th, bitAt p R.ss.length⟩ = true) : Calls Try.prog 12 #[v, .int .i64 p, opV c r a, .int .i64 th] w fun e w' =>
    ∃ v', e = .returned (.tuple #[v', .int .i64 0]) ∧ OwnR w' w.heap.size v' ⟨R.h, R.t, R.f, R.ss.set (seat R p) ⟨c, r, a, th, bitAt p R.ss.length⟩⟩ ∧ Le w w' := by
  have hs := mayR_slots h
  have hf := mayR_fit h
  have hp0 : 0 ≤ p ∧ p ≤ 1048576 := by have := mayR_nums h; simp [hasB] at h2; omega
  have hp : holdB p = true := by simp [holdB, hp0.1, hp0.2]
  have hsl := seat_lt (p := p) h
  have hse := seat_eq (p := p) h hp0.1
  generalize seat R p = i at hsl hse ⊢
  have hmay := fun w' (l : Le w w') => ringMay v R w' (hx.le l) hf
  have hbt := fun w => slotBit p R.ss.length w
  rw [bitS_yes hs hp] at hbt
  generalize bitAt p R.ss.length = y at hbt h3 ⊢
  obtain ⟨hh, t, f, ss⟩ := R
  obtain ⟨q, rfl, hq⟩ := hx
  simp only at hq hmay hbt h2 h3 hsl hse ⊢
  have hn := hq.len
  rw [← hn] at hbt hse
  have HN : Hid (q.2.1 = ss.length) := hn
  clear hn hs
  have hl := (((Le.alloc w (.cells (cellsR hh t f q) 24)).trans (Le.alloc _ (.cells #[.int .i64 c, .int .i64 r, .int .i64 a] 26))).trans (Le.alloc _ (.cells (cellsR 0 0 0 slZ) 24))).trans (Le.alloc _ (.cells #[.int .i64 c, .int .i64 r, .int .i64 a, .int .i64 th, .int .i64 y] 38))
  have hb := (((Box.new w (cellsR hh t f q) 24).le (Le.alloc _ (.cells #[.int .i64 c, .int .i64 r, .int .i64 a] 26))).le (Le.alloc _ (.cells (cellsR 0 0 0 slZ) 24))).le (Le.alloc _ (.cells #[.int .i64 c, .int .i64 r, .int .i64 a, .int .i64 th, .int .i64 y] 38))
  have hb2 := (Box.new ((w.alloc (.cells (cellsR hh t f q) 24)).alloc (.cells #[.int .i64 c, .int .i64 r, .int .i64 a] 26)) (cellsR 0 0 0 slZ) 24).le (Le.alloc _ (.cells #[.int .i64 c, .int .i64 r, .int .i64 a, .int .i64 th, .int .i64 y] 38))
  have hb3 := Box.new (((w.alloc (.cells (cellsR hh t f q) 24)).alloc (.cells #[.int .i64 c, .int .i64 r, .int .i64 a] 26)).alloc (.cells (cellsR 0 0 0 slZ) 24)) #[.int .i64 c, .int .i64 r, .int .i64 a, .int .i64 th, .int .i64 y] 38
  simp only [World.size_alloc] at hb2 hb3
  have hm := hmay _ hl
  rw [h] at hm
  have hh2 := fun w => ringHas hh t f q p w
  rw [h2] at hh2
  have hms := fun w => ringMaySlot ⟨c, r, a, th, y⟩ w
  rw [h3] at hms
  replace hf : ss.length * 40 ≤ 140737488351232 := hf
  clear hmay h h2 h3 hp
  go_enter Try.func12, Try.ntmps12
  go_wp2_with fail
  refine (hbt _).mono ?_
  rintro e _ ⟨rfl, rfl⟩
  go_wp2_with fail
  refine hm.mono ?_
  rintro e w1 ⟨rfl, l1⟩
  obtain ⟨b0, b1, b2, b3, _, _, _, _⟩ := (hb.le l1).ring
  go_wp2_with fail
  refine (hh2 _).mono ?_
  rintro e w2 ⟨rfl, l2⟩
  clear b0 b1 b2 b3 hm hbt hh2
  obtain ⟨y0, y1, y2, y3, y4⟩ := ((hb3.le l1).le l2).slot
  go_wp2_with fail
  refine (hms _).mono ?_
  rintro e w3 ⟨rfl, l3⟩
  clear y0 y1 y2 y3 y4 hms
  replace hb := ((hb.le l1).le l2).le l3
  replace hb2 := ((hb2.le l1).le l2).le l3
  replace hb3 := ((hb3.le l1).le l2).le l3
  replace hl := ((hl.trans l1).trans l2).trans l3
  clear l1 l2 l3
  obtain ⟨b0, b1, b2, b3, _, _, _, _⟩ := hb.ring
  go_wp2_with fail
  have hap := ringApart hh t f q ss _ (hq.le hl) hf
  refine hap.mono ?_
  rintro e w4 ⟨u, rfl, hown, l4⟩
  have hne0 : (slV u).ownBlock ≠ some w.heap.size := hown.off hb.lt
  have hne1 : (slV u).ownBlock ≠ some (w.heap.size + 1 + 1) := hown.off hb2.lt
  have hne2 : (slV u).ownBlock ≠ some (w.heap.size + 1 + 1 + 1) := hown.off hb3.lt
  have hbs : w.heap.size ≤ w3.heap.size := hl.size
  replace hb := hb.le l4
  replace hb2 := hb2.le l4
  replace hb3 := hb3.le l4
  replace hl := hl.trans l4
  clear hap b0 b1 b2 b3 l4
  obtain ⟨c0, c1, c2, c3, d0, d1, d2, d3⟩ := hb.ring
  go_upto_region 6 with fail
  have hb' := hb.put4 (h' := hh) (t' := t) (f' := f) (q' := u)
  have hz' := hb2.other4 (g' := w.heap.size) (a := .int .i64 hh) (b := .int .i64 t) (c := .int .i64 f) (d := slV u) (by omega)
  have hs' := hb3.other4 (g' := w.heap.size) (a := .int .i64 hh) (b := .int .i64 t) (c := .int .i64 f) (d := slV u) (by omega)
  have ho' := hown.set4 (g := w.heap.size) (a := .int .i64 hh) (b := .int .i64 t) (c := .int .i64 f) (d := slV u) hne0
  have hl' := hl.put4 (g := w.heap.size) (a := .int .i64 hh) (b := .int .i64 t) (c := .int .i64 f) (d := slV u) (Nat.le_refl _)
  generalize hW : ((((w4.setCell ⟨w.heap.size, 0, none⟩ (.int .i64 hh)).setCell ⟨w.heap.size, 1, none⟩ (.int .i64 t)).setCell ⟨w.heap.size, 2, none⟩ (.int .i64 f)).setCell ⟨w.heap.size, 3, none⟩ (slV u)) = W at hb' hz' hs' ho' hl' ⊢
  clear hW c0 c1 c2 c3 d0 d1 d2 d3 hb hb2 hb3 hl hown
  obtain ⟨g, cap, rfl, hg, hcap⟩ := ho'.shape (by omega)
  have hu : q.2.1 = ss.length := HN.out
  rw [hu] at hse
  obtain ⟨n, hn⟩ : ∃ n, n = ss.length := ⟨_, rfl⟩
  have hown := ho'
  rw [← hn] at hse hcap hb' hown ho' hne0 hne1 hne2
  obtain ⟨⟨x0, x1, x2, x3, x4⟩, hfz⟩ := OwnL.cell ho' hsl
  have g0 := hfz (i * 5)
  have g1 := hfz (i * 5 + 1)
  have g2 := hfz (i * 5 + 2)
  have g3 := hfz (i * 5 + 3)
  have g4 := hfz (i * 5 + 4)
  generalize ss.getD i Slt.zero = s0 at x0 x1 x2 x3 x4
  rw [← hn] at hsl
  have hlst : i < ss.length := by omega
  have HN2 : Hid (n = ss.length) := hn
  have HL : Hid (i < ss.length) := hlst
  obtain ⟨n0, n1⟩ : (0 : Int) ≤ (i : Int) ∧ (i : Int) < (n : Int) := by omega
  have n2 : ¬ n = 0 := by omega
  obtain ⟨c0, c1, c2, c3, _, _, _, _⟩ := hb'.ring
  obtain ⟨y0, y1, y2, y3, y4⟩ := hs'.slot
  replace c3 : W.cell? ⟨w.heap.size, 3, none⟩ = some (.slice (some ⟨g, 0, none⟩) n cap) := c3
  have m0 : ¬ g = w.heap.size := fun e => hne0 (by simp [Value.ownBlock, e])
  have m1 : ¬ g = w.heap.size + 1 + 1 + 1 := fun e => hne2 (by simp [Value.ownBlock, e])
  have m2 : ¬ g = w.heap.size + 1 + 1 := fun e => hne1 (by simp [Value.ownBlock, e])
  clear hn hu HN hfz hne0 hne1 hne2 hlst hf hq
  go_region_held3 (fun w' => w'.cell? ⟨w.heap.size, 3, none⟩ = some (.slice (some ⟨g, 0, none⟩) n cap) ∧ w'.cell? ⟨w.heap.size + 1 + 1 + 1, 0, none⟩ = some (.int .i64 c) ∧ w'.cell? ⟨w.heap.size + 1 + 1 + 1, 1, none⟩ = some (.int .i64 r) ∧ w'.cell? ⟨w.heap.size + 1 + 1 + 1, 2, none⟩ = some (.int .i64 a) ∧ w'.cell? ⟨w.heap.size + 1 + 1 + 1, 3, none⟩ = some (.int .i64 th) ∧ w'.cell? ⟨w.heap.size + 1 + 1 + 1, 4, none⟩ = some (.int .i64 y)) (go_keep) (fail)
  have k1 : OwnL _ w3.heap.size (.slice (some ⟨g, 0, none⟩) n cap) (ss.set i ⟨c, r, a, th, y⟩) := (OwnL.put (s := ⟨c, r, a, th, y⟩) hown HL.out).le (Le.drew _)
  have k2 := ((((((hb'.other (g' := g) (fun e => m0 e.symm) (i * 5) (.int .i64 c)).other (fun e => m0 e.symm) (i * 5 + 1) (.int .i64 r)).other (fun e => m0 e.symm) (i * 5 + 2) (.int .i64 a)).other (fun e => m0 e.symm) (i * 5 + 3) (.int .i64 th)).other (fun e => m0 e.symm) (i * 5 + 4) (.int .i64 y))).le (Le.drew _)
  have k3 := ((((((hz'.other (g' := g) (fun e => m2 e.symm) (i * 5) (.int .i64 c)).other (fun e => m2 e.symm) (i * 5 + 1) (.int .i64 r)).other (fun e => m2 e.symm) (i * 5 + 2) (.int .i64 a)).other (fun e => m2 e.symm) (i * 5 + 3) (.int .i64 th)).other (fun e => m2 e.symm) (i * 5 + 4) (.int .i64 y))).le (Le.drew _)
  have k4 := (((((hl'.set (g := g) (i := i * 5) (u := .int .i64 c) (by omega)).set (g := g) (i := i * 5 + 1) (u := .int .i64 r) (by omega)).set (g := g) (i := i * 5 + 2) (u := .int .i64 a) (by omega)).set (g := g) (i := i * 5 + 3) (u := .int .i64 th) (by omega)).set (g := g) (i := i * 5 + 4) (u := .int .i64 y) (by omega)).trans (Le.drew _)
  generalize hX : (((((W.setCell ⟨g, i * 5, none⟩ (.int .i64 c)).setCell ⟨g, i * 5 + 1, none⟩ (.int .i64 r)).setCell ⟨g, i * 5 + 2, none⟩ (.int .i64 a)).setCell ⟨g, i * 5 + 3, none⟩ (.int .i64 th)).setCell ⟨g, i * 5 + 4, none⟩ (.int .i64 y)).drew = X at k1 k2 k3 k4 ⊢
  clear x0 x1 x2 x3 x4 g0 g1 g2 g3 g4 c0 c1 c2 c3 y0 y1 y2 y3 y4 hb' hz' hs' ho' hown hl' hse n0 n1 n2
  obtain ⟨c0, c1, c2, c3, _, _, _, _⟩ := k2.ring
  obtain ⟨z0, z1, z2, z3, f0, f1, f2, f3⟩ := k3.ring
  go_wp2_with fail
  refine bodyPost_ret (v := .tuple #[ringV hh t f (some ⟨g, 0, none⟩, n, cap), .int .i64 0]) (by simp [results, Try.results12, go_sem, z0, z1, z2, z3]) rfl ⟨_, rfl, ⟨_, rfl, ?_⟩, ?_⟩
  · exact (k1.set4 (by simp [Value.ownBlock]; omega)).base (by omega)
  · exact k4.put4 (by omega)

theorem pubB_slot {R : Rg} {p c r a t : Int} : pubB R p c r a t = (mayR R && hasB R.h R.t p && slotB ⟨c, r, a, t, bitAt p R.ss.length⟩) := by
  have := bitAt_two (p := p) (n := R.ss.length)
  have e : (decide (bitAt p R.ss.length = 0) || decide (bitAt p R.ss.length = 1)) = true := by simpa using this
  simp only [pubB, slotB, threadB, e, Bool.and_true, Bool.and_assoc]

theorem ringPublish (v : Value) (R : Rg) (p c r a th : Int) (w : World) (hx : HasR w v R) (hf : FitR R) : Calls Try.prog 12 #[v, .int .i64 p, opV c r a, .int .i64 th] w fun e w' =>
    ∃ v', e = .returned (.tuple #[v', .int .i64 (publishS R p c r a th).2]) ∧ OwnR w' w.heap.size v' (publishS R p c r a th).1 ∧ Le w w' := by
  unfold publishS
  rw [pubB_slot]
  by_cases hb : slotsB R.ss.length = true ∧ holdB p = true
  · cases h1 : mayR R
    · simp only [Bool.false_and, Bool.false_eq_true, ↓reduceIte]
      exact (ringPublishRing v R p c r a th w hx hf hb.1 hb.2 h1).mono fun e w' ⟨he, hl⟩ => ⟨_, he, OwnR.zero _ _, hl⟩
    · cases h2 : hasB R.h R.t p
      · simp only [Bool.true_and, Bool.false_and, Bool.false_eq_true, ↓reduceIte]
        exact (ringPublishOff v R p c r a th w hx hb.2 h1 h2).mono fun e w' ⟨he, hl⟩ => ⟨_, he, OwnR.zero _ _, hl⟩
      · cases h3 : slotB ⟨c, r, a, th, bitAt p R.ss.length⟩
        · simp only [Bool.true_and, Bool.false_eq_true, ↓reduceIte]
          exact (ringPublishSlot v R p c r a th w hx hb.2 h1 h2 h3).mono fun e w' ⟨he, hl⟩ => ⟨_, he, OwnR.zero _ _, hl⟩
        · simp only [Bool.true_and, ↓reduceIte]
          exact ringPublishOk v R p c r a th w hx h1 h2 h3
  · have hb' : slotsB R.ss.length = false ∨ holdB p = false := by cases h : slotsB R.ss.length <;> cases k : holdB p <;> simp_all
    have hno : (mayR R && hasB R.h R.t p && slotB ⟨c, r, a, th, bitAt p R.ss.length⟩) = false := by
      cases h1 : mayR R
      · rfl
      · cases h2 : hasB R.h R.t p
        · rfl
        · exfalso
          have := mayR_nums h1
          rcases hb' with h | h
          · rw [mayR_slots h1] at h; cases h
          · simp [hasB] at h2
            simp [holdB] at h
            omega
    rw [hno]
    simp only [Bool.false_eq_true, ↓reduceIte]
    exact (ringPublishBit v R p c r a th w hx hb').mono fun e w' ⟨he, hl⟩ => ⟨_, he, OwnR.zero _ _, hl⟩

end Go.Proofs.Ytnncmjliehoknaa
