/-
  THE WALK over the document's own Publish: what it answers, for every ring, number, operation and thread. Condition: that the slots can be copied.
-/
import Derived.Test.YtnncmjliehoknaaRfC
namespace Go.Proofs.Ytnncmjliehoknaa
open Go.RowKit

set_option maxHeartbeats 1000000 in
theorem refPublishRing (v : Value) (R : Rg) (p c r a th : Int) (w : World) (hx : HasR w v R) (hf : FitR R) (h : mayR R = false) : Calls Try.prog 13 #[v, .int .i64 p, opV c r a, .int .i64 th] w fun e w' =>
    e = .returned (.tuple #[ringZ, .int .i64 1000]) ∧ Le w w' := by
  have hmay := fun w' (l : Le w w') => refRingMay v R w' (hx.le l) hf
  obtain ⟨hh, t, f, ss⟩ := R
  obtain ⟨q, rfl, hq⟩ := hx
  simp only at hq hmay ⊢
  have hl := ((Le.alloc w (.cells (cellsR hh t f q) 24)).trans (Le.alloc _ (.cells #[.int .i64 c, .int .i64 r, .int .i64 a] 26))).trans (Le.alloc _ (.cells (cellsR 0 0 0 slZ) 24))
  have hb := ((Box.new w (cellsR hh t f q) 24).le (Le.alloc _ (.cells #[.int .i64 c, .int .i64 r, .int .i64 a] 26))).le (Le.alloc _ (.cells (cellsR 0 0 0 slZ) 24))
  have hb1 := (Box.new (w.alloc (.cells (cellsR hh t f q) 24)) #[.int .i64 c, .int .i64 r, .int .i64 a] 26).le (Le.alloc _ (.cells (cellsR 0 0 0 slZ) 24))
  have hb2 := Box.new ((w.alloc (.cells (cellsR hh t f q) 24)).alloc (.cells #[.int .i64 c, .int .i64 r, .int .i64 a] 26)) (cellsR 0 0 0 slZ) 24
  simp only [World.size_alloc] at hb1 hb2
  have hm := hmay _ hl
  rw [h] at hm
  clear hmay h hf
  go_enter Try.func13, Try.ntmps13
  go_wp2_with fail
  refine hm.mono ?_
  rintro e w1 ⟨rfl, l1⟩
  obtain ⟨z0, z1, z2, z3, f0, f1, f2, f3⟩ := (hb2.le l1).ring
  go_wp2_with fail
  refine bodyPost_ret (v := .tuple #[ringZ, .int .i64 1000]) (by simp [results, Try.results13, go_sem, z0, z1, z2, z3]) rfl ⟨rfl, ?_⟩
  exact (hl.trans l1).put4 (by omega)

set_option maxHeartbeats 1000000 in
theorem refPublishOff (v : Value) (R : Rg) (p c r a th : Int) (w : World) (hx : HasR w v R) (h : mayR R = true) (h2 : hasB R.h R.t p = false) : Calls Try.prog 13 #[v, .int .i64 p, opV c r a, .int .i64 th] w fun e w' =>
    e = .returned (.tuple #[ringZ, .int .i64 1000]) ∧ Le w w' := by
  have hf := mayR_fit h
  have hmay := fun w' (l : Le w w') => refRingMay v R w' (hx.le l) hf
  obtain ⟨hh, t, f, ss⟩ := R
  obtain ⟨q, rfl, hq⟩ := hx
  simp only at hq hmay h2 ⊢
  have hl := ((Le.alloc w (.cells (cellsR hh t f q) 24)).trans (Le.alloc _ (.cells #[.int .i64 c, .int .i64 r, .int .i64 a] 26))).trans (Le.alloc _ (.cells (cellsR 0 0 0 slZ) 24))
  have hb := ((Box.new w (cellsR hh t f q) 24).le (Le.alloc _ (.cells #[.int .i64 c, .int .i64 r, .int .i64 a] 26))).le (Le.alloc _ (.cells (cellsR 0 0 0 slZ) 24))
  have hb1 := (Box.new (w.alloc (.cells (cellsR hh t f q) 24)) #[.int .i64 c, .int .i64 r, .int .i64 a] 26).le (Le.alloc _ (.cells (cellsR 0 0 0 slZ) 24))
  have hb2 := Box.new ((w.alloc (.cells (cellsR hh t f q) 24)).alloc (.cells #[.int .i64 c, .int .i64 r, .int .i64 a] 26)) (cellsR 0 0 0 slZ) 24
  simp only [World.size_alloc] at hb1 hb2
  have hm := hmay _ hl
  rw [h] at hm
  have h3 : p < hh ∨ (hh ≤ p ∧ t ≤ p) := by simp [hasB] at h2; omega
  clear hmay h h2 hf
  rcases h3 with h3 | ⟨h3, h4⟩
  all_goals
    go_enter Try.func13, Try.ntmps13
    go_wp2_with fail
    refine hm.mono ?_
    rintro e w1 ⟨rfl, l1⟩
    obtain ⟨b0, b1, b2, b3, _, _, _, _⟩ := (hb.le l1).ring
    obtain ⟨z0, z1, z2, z3, f0, f1, f2, f3⟩ := (hb2.le l1).ring
    go_wp2_with fail
    refine bodyPost_ret (v := .tuple #[ringZ, .int .i64 1000]) (by simp [results, Try.results13, go_sem, z0, z1, z2, z3]) rfl ⟨rfl, ?_⟩
    exact (hl.trans l1).put4 (by omega)

set_option maxHeartbeats 1000000 in
theorem refPublishOp (v : Value) (R : Rg) (p c r a th : Int) (w : World) (hx : HasR w v R) (h : mayR R = true) (h2 : hasB R.h R.t p = true) (g1 : opUp c r a = false) : Calls Try.prog 13 #[v, .int .i64 p, opV c r a, .int .i64 th] w fun e w' =>
    e = .returned (.tuple #[ringZ, .int .i64 1000]) ∧ Le w w' := by
  have hf := mayR_fit h
  have hmay := fun w' (l : Le w w') => refRingMay v R w' (hx.le l) hf
  obtain ⟨hh, t, f, ss⟩ := R
  obtain ⟨q, rfl, hq⟩ := hx
  simp only at hq hmay h2 ⊢
  have hl := ((Le.alloc w (.cells (cellsR hh t f q) 24)).trans (Le.alloc _ (.cells #[.int .i64 c, .int .i64 r, .int .i64 a] 26))).trans (Le.alloc _ (.cells (cellsR 0 0 0 slZ) 24))
  have hb := ((Box.new w (cellsR hh t f q) 24).le (Le.alloc _ (.cells #[.int .i64 c, .int .i64 r, .int .i64 a] 26))).le (Le.alloc _ (.cells (cellsR 0 0 0 slZ) 24))
  have hb1 := (Box.new (w.alloc (.cells (cellsR hh t f q) 24)) #[.int .i64 c, .int .i64 r, .int .i64 a] 26).le (Le.alloc _ (.cells (cellsR 0 0 0 slZ) 24))
  have hb2 := Box.new ((w.alloc (.cells (cellsR hh t f q) 24)).alloc (.cells #[.int .i64 c, .int .i64 r, .int .i64 a] 26)) (cellsR 0 0 0 slZ) 24
  simp only [World.size_alloc] at hb1 hb2
  have hm := hmay _ hl
  rw [h] at hm
  obtain ⟨h3, h4⟩ : hh ≤ p ∧ p < t := by simpa [hasB] using h2
  have hup := fun w => refUpdates c r a w
  rw [g1] at hup
  clear hmay h h2 hf g1
  go_enter Try.func13, Try.ntmps13
  go_wp2_with fail
  refine hm.mono ?_
  rintro e w1 ⟨rfl, l1⟩
  obtain ⟨b0, b1, b2, b3, _, _, _, _⟩ := (hb.le l1).ring
  obtain ⟨o0, o1, o2, _, _, _⟩ := (hb1.le l1).op
  go_wp2_with fail
  refine (hup _).mono ?_
  rintro e w2 ⟨rfl, l2⟩
  clear b0 b1 b2 b3 o0 o1 o2
  obtain ⟨z0, z1, z2, z3, f0, f1, f2, f3⟩ := ((hb2.le l1).le l2).ring
  go_wp2_with fail
  refine bodyPost_ret (v := .tuple #[ringZ, .int .i64 1000]) (by simp [results, Try.results13, go_sem, z0, z1, z2, z3]) rfl ⟨rfl, ?_⟩
  exact ((hl.trans l1).trans l2).put4 (by omega)

set_option maxHeartbeats 1000000 in
theorem refPublishThread (v : Value) (R : Rg) (p c r a th : Int) (w : World) (hx : HasR w v R) (h : mayR R = true) (h2 : hasB R.h R.t p = true) (g1 : opUp c r a = true) (g2 : threadB th = false) : Calls Try.prog 13 #[v, .int .i64 p, opV c r a, .int .i64 th] w fun e w' =>
    e = .returned (.tuple #[ringZ, .int .i64 1000]) ∧ Le w w' := by
  have hf := mayR_fit h
  have hmay := fun w' (l : Le w w') => refRingMay v R w' (hx.le l) hf
  obtain ⟨hh, t, f, ss⟩ := R
  obtain ⟨q, rfl, hq⟩ := hx
  simp only at hq hmay h2 ⊢
  have hl := ((Le.alloc w (.cells (cellsR hh t f q) 24)).trans (Le.alloc _ (.cells #[.int .i64 c, .int .i64 r, .int .i64 a] 26))).trans (Le.alloc _ (.cells (cellsR 0 0 0 slZ) 24))
  have hb := ((Box.new w (cellsR hh t f q) 24).le (Le.alloc _ (.cells #[.int .i64 c, .int .i64 r, .int .i64 a] 26))).le (Le.alloc _ (.cells (cellsR 0 0 0 slZ) 24))
  have hb1 := (Box.new (w.alloc (.cells (cellsR hh t f q) 24)) #[.int .i64 c, .int .i64 r, .int .i64 a] 26).le (Le.alloc _ (.cells (cellsR 0 0 0 slZ) 24))
  have hb2 := Box.new ((w.alloc (.cells (cellsR hh t f q) 24)).alloc (.cells #[.int .i64 c, .int .i64 r, .int .i64 a] 26)) (cellsR 0 0 0 slZ) 24
  simp only [World.size_alloc] at hb1 hb2
  have hm := hmay _ hl
  rw [h] at hm
  obtain ⟨h3, h4⟩ : hh ≤ p ∧ p < t := by simpa [hasB] using h2
  have hup := fun w => refUpdates c r a w
  rw [g1] at hup
  have hth := fun w => refThreadMay th w
  rw [g2] at hth
  clear hmay h h2 hf g1 g2
  go_enter Try.func13, Try.ntmps13
  go_wp2_with fail
  refine hm.mono ?_
  rintro e w1 ⟨rfl, l1⟩
  obtain ⟨b0, b1, b2, b3, _, _, _, _⟩ := (hb.le l1).ring
  obtain ⟨o0, o1, o2, _, _, _⟩ := (hb1.le l1).op
  go_wp2_with fail
  refine (hup _).mono ?_
  rintro e w2 ⟨rfl, l2⟩
  clear b0 b1 b2 b3 o0 o1 o2
  go_wp2_with fail
  refine (hth _).mono ?_
  rintro e _ ⟨rfl, rfl⟩
  obtain ⟨z0, z1, z2, z3, f0, f1, f2, f3⟩ := ((hb2.le l1).le l2).ring
  go_wp2_with fail
  refine bodyPost_ret (v := .tuple #[ringZ, .int .i64 1000]) (by simp [results, Try.results13, go_sem, z0, z1, z2, z3]) rfl ⟨rfl, ?_⟩
  exact ((hl.trans l1).trans l2).put4 (by omega)

set_option maxHeartbeats 2000000 in
theorem refPublishOk (v : Value) (R : Rg) (p c r a th : Int) (w : World) (hx : HasR w v R) (h : mayR R = true) (h2 : hasB R.h R.t p = true) (g1 : opUp c r a = true) (g2 : threadB th = true) : Calls Try.prog 13 #[v, .int .i64 p, opV c r a, .int .i64 th] w fun e w' =>
    ∃ v', e = .returned (.tuple #[v', .int .i64 0]) ∧ OwnR w' w.heap.size v' ⟨R.h, R.t, R.f, R.ss.set (seat R p) ⟨c, r, a, th, bitAt p R.ss.length⟩⟩ ∧ Le w w' := by
  have hf := mayR_fit h
  have hp0 : 0 ≤ p ∧ p ≤ 1048576 := by have := mayR_nums h; simp [hasB] at h2; omega
  have hp : holdB p = true := by simp [holdB, hp0.1, hp0.2]
  have hsl := seat_lt (p := p) h
  have hse := seat_eq (p := p) h hp0.1
  have hbt := fun w => refBit p R.ss.length w
  rw [bitS_yes (mayR_slots h) hp] at hbt
  generalize bitAt p R.ss.length = y at hbt ⊢
  generalize seat R p = i at hsl hse ⊢
  have hmay := fun w' (l : Le w w') => refRingMay v R w' (hx.le l) hf
  obtain ⟨hh, t, f, ss⟩ := R
  obtain ⟨q, rfl, hq⟩ := hx
  simp only at hq hmay h2 hsl hse hbt ⊢
  have hl := ((Le.alloc w (.cells (cellsR hh t f q) 24)).trans (Le.alloc _ (.cells #[.int .i64 c, .int .i64 r, .int .i64 a] 26))).trans (Le.alloc _ (.cells (cellsR 0 0 0 slZ) 24))
  have hb := ((Box.new w (cellsR hh t f q) 24).le (Le.alloc _ (.cells #[.int .i64 c, .int .i64 r, .int .i64 a] 26))).le (Le.alloc _ (.cells (cellsR 0 0 0 slZ) 24))
  have hb1 := (Box.new (w.alloc (.cells (cellsR hh t f q) 24)) #[.int .i64 c, .int .i64 r, .int .i64 a] 26).le (Le.alloc _ (.cells (cellsR 0 0 0 slZ) 24))
  have hb2 := Box.new ((w.alloc (.cells (cellsR hh t f q) 24)).alloc (.cells #[.int .i64 c, .int .i64 r, .int .i64 a] 26)) (cellsR 0 0 0 slZ) 24
  simp only [World.size_alloc] at hb1 hb2
  have hm := hmay _ hl
  have hn := hq.len
  rw [← hn] at hbt
  rw [h] at hm
  obtain ⟨h3, h4⟩ : hh ≤ p ∧ p < t := by simpa [hasB] using h2
  have hup := fun w => refUpdates c r a w
  rw [g1] at hup
  have hth := fun w => refThreadMay th w
  rw [g2] at hth
  replace hf : ss.length * 40 ≤ 140737488351232 := hf
  have HN : Hid (q.2.1 = ss.length) := hn
  have HE : Hid (p.tmod ss.length = i) := hse
  clear hmay h h2 g1 g2 hp hn hse
  go_enter Try.func13, Try.ntmps13
  go_wp2_with fail
  refine hm.mono ?_
  rintro e w1 ⟨rfl, l1⟩
  obtain ⟨b0, b1, b2, b3, _, _, _, _⟩ := (hb.le l1).ring
  obtain ⟨o0, o1, o2, _, _, _⟩ := (hb1.le l1).op
  go_wp2_with fail
  refine (hup _).mono ?_
  rintro e w2 ⟨rfl, l2⟩
  clear b0 b1 b2 b3 o0 o1 o2 hm
  go_wp2_with fail
  refine (hth _).mono ?_
  rintro e _ ⟨rfl, rfl⟩
  replace hb := (hb.le l1).le l2
  replace hb1 := (hb1.le l1).le l2
  replace hb2 := (hb2.le l1).le l2
  replace hl := (hl.trans l1).trans l2
  clear l1 l2 hup hth
  obtain ⟨b0, b1, b2, b3, _, _, _, _⟩ := hb.ring
  go_wp2_with fail
  have hap := refCopyRing hh t f q ss _ (hq.le hl) hf
  refine hap.mono ?_
  rintro e w3 ⟨u, rfl, hown, l3⟩
  have hbs : w.heap.size ≤ w2.heap.size := hl.size
  have hlt := hb2.lt
  have hlt3 : w2.heap.size ≤ w3.heap.size := l3.size
  have m3 : ¬ w.heap.size = w3.heap.size := by omega
  have m4 : ¬ w.heap.size + 1 = w3.heap.size := by omega
  have m5 : ¬ w.heap.size + 1 + 1 = w3.heap.size := by omega
  have hbo := Box.new w3 (cellsR hh t f u) 24
  have lo := Le.alloc w3 (.cells (cellsR hh t f u) 24)
  replace hb := (hb.le l3).le lo
  replace hb1 := (hb1.le l3).le lo
  replace hb2 := (hb2.le l3).le lo
  have hl' := (hl.trans l3).trans lo
  have ho' := hown.le lo
  clear b0 b1 b2 b3 hap l3 hl
  obtain ⟨b0, b1, b2, b3, _, _, _, _⟩ := hb.ring
  go_wp2_with fail
  refine (hbt _).mono ?_
  rintro e _ ⟨rfl, rfl⟩
  go_upto_region 5 with fail
  generalize hW : w3.alloc (.cells (cellsR hh t f u) 24) = W at hbo lo hb hb1 hb2 hl' ho' b0 b1 b2 b3 ⊢
  clear hW hbt
  obtain ⟨g, cap, rfl, hg, hcap⟩ := ho'.shape (by omega)
  have hu : q.2.1 = ss.length := HN.out
  obtain ⟨qa, n, qc⟩ := q
  simp only at hu
  have hse : p.tmod n = i := by rw [hu]; exact HE.out
  have hown' := ho'
  rw [← hu] at hcap hbo hown' ho'
  have hgs := (OwnL.block ho' (g := g) rfl).2
  obtain ⟨⟨x0, x1, x2, x3, x4⟩, hfz⟩ := OwnL.cell ho' hsl
  have g0 := hfz (i * 5)
  have g1 := hfz (i * 5 + 1)
  have g2 := hfz (i * 5 + 2)
  have g3 := hfz (i * 5 + 3)
  have g4 := hfz (i * 5 + 4)
  generalize ss.getD i Slt.zero = s0 at x0 x1 x2 x3 x4
  have HL : Hid (i < ss.length) := hsl
  obtain ⟨n0, n1⟩ : (0 : Int) ≤ (i : Int) ∧ (i : Int) < (n : Int) := by omega
  have n2 : ¬ n = 0 := by omega
  obtain ⟨c0, c1, c2, c3, _, _, _, _⟩ := hbo.ring
  obtain ⟨o0, o1, o2, _, _, _⟩ := hb1.op
  replace c3 : W.cell? ⟨w3.heap.size, 3, none⟩ = some (.slice (some ⟨g, 0, none⟩) n cap) := c3
  replace b3 : W.cell? ⟨w.heap.size, 3, none⟩ = some (.slice qa n qc) := b3
  have hgo := (OwnL.block hown (g := g) rfl).2
  have m0 : ¬ g = w.heap.size := by omega
  have m1 : ¬ g = w.heap.size + 1 := by omega
  have m2 : ¬ g = w.heap.size + 1 + 1 := by omega
  have m6 : ¬ g = w3.heap.size := by omega
  clear hu HN HE hfz hf hq hsl
  go_region_held3 (fun w' => w'.cell? ⟨w.heap.size, 3, none⟩ = some (.slice qa n qc) ∧ w'.cell? ⟨w3.heap.size, 3, none⟩ = some (.slice (some ⟨g, 0, none⟩) n cap) ∧ w'.cell? ⟨w.heap.size + 1, 0, none⟩ = some (.int .i64 c) ∧ w'.cell? ⟨w.heap.size + 1, 1, none⟩ = some (.int .i64 r) ∧ w'.cell? ⟨w.heap.size + 1, 2, none⟩ = some (.int .i64 a)) (go_keep) (fail)
  have k1 : OwnL _ w2.heap.size (.slice (some ⟨g, 0, none⟩) n cap) (ss.set i ⟨c, r, a, th, y⟩) := (OwnL.put (s := ⟨c, r, a, th, y⟩) hown' HL.out).le (Le.drew _)
  have k2 := ((((((hbo.other (g' := g) (fun e => m6 e.symm) (i * 5) (.int .i64 c)).other (fun e => m6 e.symm) (i * 5 + 1) (.int .i64 r)).other (fun e => m6 e.symm) (i * 5 + 2) (.int .i64 a)).other (fun e => m6 e.symm) (i * 5 + 3) (.int .i64 th)).other (fun e => m6 e.symm) (i * 5 + 4) (.int .i64 y))).le (Le.drew _)
  have k3 := ((((((hb2.other (g' := g) (fun e => m2 e.symm) (i * 5) (.int .i64 c)).other (fun e => m2 e.symm) (i * 5 + 1) (.int .i64 r)).other (fun e => m2 e.symm) (i * 5 + 2) (.int .i64 a)).other (fun e => m2 e.symm) (i * 5 + 3) (.int .i64 th)).other (fun e => m2 e.symm) (i * 5 + 4) (.int .i64 y))).le (Le.drew _)
  have k4 := (((((hl'.set (g := g) (i := i * 5) (u := .int .i64 c) (by omega)).set (g := g) (i := i * 5 + 1) (u := .int .i64 r) (by omega)).set (g := g) (i := i * 5 + 2) (u := .int .i64 a) (by omega)).set (g := g) (i := i * 5 + 3) (u := .int .i64 th) (by omega)).set (g := g) (i := i * 5 + 4) (u := .int .i64 y) (by omega)).trans (Le.drew _)
  generalize hX : (((((W.setCell ⟨g, i * 5, none⟩ (.int .i64 c)).setCell ⟨g, i * 5 + 1, none⟩ (.int .i64 r)).setCell ⟨g, i * 5 + 2, none⟩ (.int .i64 a)).setCell ⟨g, i * 5 + 3, none⟩ (.int .i64 th)).setCell ⟨g, i * 5 + 4, none⟩ (.int .i64 y)).drew = X at k1 k2 k3 k4 ⊢
  clear x0 x1 x2 x3 x4 g0 g1 g2 g3 g4 c0 c1 c2 c3 b0 b1 b2 b3 o0 o1 o2 hb hb1 hb2 hbo hown' ho' hl' hse n0 n1 n2 hown lo
  obtain ⟨c0, c1, c2, c3, _, _, _, _⟩ := k2.ring
  obtain ⟨z0, z1, z2, z3, f0, f1, f2, f3⟩ := k3.ring
  go_wp2_with fail
  refine bodyPost_ret (v := .tuple #[ringV hh t f (some ⟨g, 0, none⟩, n, cap), .int .i64 0]) (by simp [results, Try.results13, go_sem, z0, z1, z2, z3]) rfl ⟨_, rfl, ⟨_, rfl, ?_⟩, ?_⟩
  · exact (k1.set4 (by simp [Value.ownBlock]; omega)).base (by omega)
  · exact k4.put4 (by omega)

theorem refPublish (v : Value) (R : Rg) (p c r a th : Int) (w : World) (hx : HasR w v R) (hf : FitR R) : Calls Try.prog 13 #[v, .int .i64 p, opV c r a, .int .i64 th] w fun e w' =>
    ∃ v', e = .returned (.tuple #[v', .int .i64 (publishS R p c r a th).2]) ∧ OwnR w' w.heap.size v' (publishS R p c r a th).1 ∧ Le w w' := by
  unfold publishS pubB
  cases h1 : mayR R
  · simp only [Bool.false_and, Bool.false_eq_true, ↓reduceIte]
    exact (refPublishRing v R p c r a th w hx hf h1).mono fun e w' ⟨he, hl⟩ => ⟨_, he, OwnR.zero _ _, hl⟩
  cases h2 : hasB R.h R.t p
  · simp only [Bool.true_and, Bool.false_and, Bool.false_eq_true, ↓reduceIte]
    exact (refPublishOff v R p c r a th w hx h1 h2).mono fun e w' ⟨he, hl⟩ => ⟨_, he, OwnR.zero _ _, hl⟩
  cases g1 : opUp c r a
  · simp only [Bool.true_and, Bool.false_and, Bool.false_eq_true, ↓reduceIte]
    exact (refPublishOp v R p c r a th w hx h1 h2 g1).mono fun e w' ⟨he, hl⟩ => ⟨_, he, OwnR.zero _ _, hl⟩
  cases g2 : threadB th
  · simp only [Bool.true_and, Bool.false_eq_true, ↓reduceIte]
    exact (refPublishThread v R p c r a th w hx h1 h2 g1 g2).mono fun e w' ⟨he, hl⟩ => ⟨_, he, OwnR.zero _ _, hl⟩
  · simp only [Bool.true_and, ↓reduceIte]
    exact refPublishOk v R p c r a th w hx h1 h2 g1 g2

end Go.Proofs.Ytnncmjliehoknaa
