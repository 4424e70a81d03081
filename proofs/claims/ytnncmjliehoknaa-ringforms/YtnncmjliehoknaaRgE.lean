/-
  THE WALK over package ring's Entry: what it answers, for every ring and number. Condition: that the slots can be copied.
-/
import Derived.Test.YtnncmjliehoknaaRgC
import Derived.Deep.Cut
import Derived.Deep.RegionHeld3
namespace Go.Proofs.Ytnncmjliehoknaa
open Go.RowKit

/-- Where entry number p stands. -/
def seat (R : Rg) (p : Int) : Nat := (p % R.ss.length).toNat
def entryB (R : Rg) (p : Int) : Bool := hasB R.h R.t p && decide ((R.ss.getD (seat R p) Slt.zero).b = bitAt p R.ss.length)
def entryS (R : Rg) (p : Int) : Slt × Int :=
  if mayR R then (if entryB R p then (R.ss.getD (seat R p) Slt.zero, 0) else (Slt.zero, 1002)) else (Slt.zero, 1000)

theorem seat_lt {R : Rg} {p : Int} (h : mayR R = true) : seat R p < R.ss.length := by
  have := mayR_len h
  have h1 := Int.emod_nonneg p (b := (R.ss.length : Int)) (by omega)
  have h2 := Int.emod_lt_of_pos p (b := (R.ss.length : Int)) (by omega)
  unfold seat
  omega
theorem seat_eq {R : Rg} {p : Int} (h : mayR R = true) (hp : 0 ≤ p) : Int.tmod p R.ss.length = seat R p := by
  have := mayR_len h
  have h1 := Int.emod_nonneg p (b := (R.ss.length : Int)) (by omega)
  rw [Int.tmod_eq_emod_of_nonneg hp]
  unfold seat
  omega

abbrev slotZ : Value := slotV 0 0 0 0 0
theorem Le.put5 {w w' : World} {g : Nat} {a b c d e : Value} (h : Le w w') (hg : w.heap.size ≤ g) :
    Le w (((((w'.setCell ⟨g, 0, none⟩ a).setCell ⟨g, 1, none⟩ b).setCell ⟨g, 2, none⟩ c).setCell ⟨g, 3, none⟩ d).setCell ⟨g, 4, none⟩ e) :=
  ((((h.set hg).set hg).set hg).set hg).set hg
theorem Box.slotF {w : World} {g : Nat} {x y z u v : Value} {t : TypeId} (h : Box w g #[x, y, z, u, v] t) :
    w.frozen? ⟨g, 0, none⟩ = false ∧ w.frozen? ⟨g, 1, none⟩ = false ∧ w.frozen? ⟨g, 2, none⟩ = false ∧ w.frozen? ⟨g, 3, none⟩ = false ∧ w.frozen? ⟨g, 4, none⟩ = false :=
  ⟨h.frozen 0, h.frozen 1, h.frozen 2, h.frozen 3, h.frozen 4⟩

set_option maxHeartbeats 1000000 in
theorem ringEntryNo (v : Value) (R : Rg) (p : Int) (w : World) (hx : HasR w v R) (hf : FitR R) (h : mayR R = false) : Calls Try.prog 14 #[v, .int .i64 p] w fun e w' =>
    e = .returned (.tuple #[slotZ, .int .i64 1000]) ∧ Le w w' := by
  have hmay := fun w' (l : Le w w') => ringMay v R w' (hx.le l) hf
  obtain ⟨hh, t, f, ss⟩ := R
  obtain ⟨q, rfl, hq⟩ := hx
  simp only at hq hmay ⊢
  have hl := (Le.alloc w (.cells (cellsR hh t f q) 24)).trans (Le.alloc _ (.cells #[.int .i64 0, .int .i64 0, .int .i64 0, .int .i64 0, .int .i64 0] 38))
  have hb2 := Box.new (w.alloc (.cells (cellsR hh t f q) 24)) #[.int .i64 0, .int .i64 0, .int .i64 0, .int .i64 0, .int .i64 0] 38
  rw [World.size_alloc] at hb2
  have hm := hmay _ hl
  rw [h] at hm
  clear hmay h
  go_enter Try.func14, Try.ntmps14
  go_wp2_with fail
  refine hm.mono ?_
  rintro e w1 ⟨rfl, l1⟩
  obtain ⟨z0, z1, z2, z3, z4⟩ := (hb2.le l1).slot
  obtain ⟨f0, f1, f2, f3, f4⟩ := (hb2.le l1).slotF
  go_wp2_with fail
  refine bodyPost_ret (v := .tuple #[slotZ, .int .i64 1000]) (by simp [results, Try.results14, go_sem, z0, z1, z2, z3, z4]) rfl ⟨rfl, ?_⟩
  exact (hl.trans l1).put5 (by omega)

set_option maxHeartbeats 1000000 in
theorem ringEntryOff (v : Value) (R : Rg) (p : Int) (w : World) (hx : HasR w v R) (h : mayR R = true) (h2 : hasB R.h R.t p = false) : Calls Try.prog 14 #[v, .int .i64 p] w fun e w' =>
    e = .returned (.tuple #[slotZ, .int .i64 1002]) ∧ Le w w' := by
  have hmay := fun w' (l : Le w w') => ringMay v R w' (hx.le l) (mayR_fit h)
  obtain ⟨hh, t, f, ss⟩ := R
  obtain ⟨q, rfl, hq⟩ := hx
  simp only at hq hmay h2 ⊢
  have hl := (Le.alloc w (.cells (cellsR hh t f q) 24)).trans (Le.alloc _ (.cells #[.int .i64 0, .int .i64 0, .int .i64 0, .int .i64 0, .int .i64 0] 38))
  have hb := (Box.new w (cellsR hh t f q) 24).le (Le.alloc _ (.cells #[.int .i64 0, .int .i64 0, .int .i64 0, .int .i64 0, .int .i64 0] 38))
  have hb2 := Box.new (w.alloc (.cells (cellsR hh t f q) 24)) #[.int .i64 0, .int .i64 0, .int .i64 0, .int .i64 0, .int .i64 0] 38
  rw [World.size_alloc] at hb2
  have hm := hmay _ hl
  rw [h] at hm
  have hh2 := fun w => ringHas hh t f q p w
  rw [h2] at hh2
  clear hmay h h2
  go_enter Try.func14, Try.ntmps14
  go_wp2_with fail
  refine hm.mono ?_
  rintro e w1 ⟨rfl, l1⟩
  obtain ⟨b0, b1, b2, b3, _, _, _, _⟩ := (hb.le l1).ring
  go_wp2_with fail
  refine (hh2 _).mono ?_
  rintro e w2 ⟨rfl, l2⟩
  obtain ⟨z0, z1, z2, z3, z4⟩ := ((hb2.le l1).le l2).slot
  obtain ⟨f0, f1, f2, f3, f4⟩ := ((hb2.le l1).le l2).slotF
  clear b0 b1 b2 b3
  go_wp2_with fail
  refine bodyPost_ret (v := .tuple #[slotZ, .int .i64 1002]) (by simp [results, Try.results14, go_sem, z0, z1, z2, z3, z4]) rfl ⟨rfl, ?_⟩
  exact ((hl.trans l1).trans l2).put5 (by omega)

set_option maxHeartbeats 1000000 in
theorem ringEntryIn (v : Value) (R : Rg) (p : Int) (w : World) (hx : HasR w v R) (h : mayR R = true) (h2 : hasB R.h R.t p = true) : Calls Try.prog 14 #[v, .int .i64 p] w fun e w' =>
    e = .returned (.tuple #[(entryS R p).1.v, .int .i64 (entryS R p).2]) ∧ Le w w' := by
  have hmay := fun w' (l : Le w w') => ringMay v R w' (hx.le l) (mayR_fit h)
  have hp : 0 ≤ p ∧ p ≤ 1048576 := by have := mayR_nums h; simp [hasB] at h2; omega
  have hsl := seat_lt (p := p) h
  have hse := seat_eq (p := p) h hp.1
  have hlen := mayR_len h
  simp only [entryS, h, if_true, entryB, h2, Bool.true_and]
  obtain ⟨hh, t, f, ss⟩ := R
  obtain ⟨q, rfl, hq⟩ := hx
  simp only at hq hmay h2 hsl hse hlen ⊢
  generalize seat ⟨hh, t, f, ss⟩ p = i at hsl hse ⊢
  obtain ⟨s, hs⟩ : ∃ s, s = ss.getD i Slt.zero := ⟨_, rfl⟩
  rw [← hs]
  have hal := fun w => slotAlive s.c s.r s.a s.t s.b p ss.length w
  rw [aliveS_yes (mayR_slots h) (by simp [holdB, hp.1, hp.2])] at hal
  have hl := (Le.alloc w (.cells (cellsR hh t f q) 24)).trans (Le.alloc _ (.cells #[.int .i64 0, .int .i64 0, .int .i64 0, .int .i64 0, .int .i64 0] 38))
  have hb := (Box.new w (cellsR hh t f q) 24).le (Le.alloc _ (.cells #[.int .i64 0, .int .i64 0, .int .i64 0, .int .i64 0, .int .i64 0] 38))
  have hb2 := Box.new (w.alloc (.cells (cellsR hh t f q) 24)) #[.int .i64 0, .int .i64 0, .int .i64 0, .int .i64 0, .int .i64 0] 38
  rw [World.size_alloc] at hb2
  have hm := hmay _ hl
  rw [h] at hm
  have hh2 := fun w => ringHas hh t f q p w
  rw [h2] at hh2
  obtain ⟨a, cap, hqv, hcap, _, hxx⟩ := hq
  obtain ⟨b, off, rfl, hcell⟩ := hxx (by omega)
  have hci := hcell i hsl
  rw [← hs] at hci
  obtain ⟨qa, n, qc⟩ := q
  simp only [slV, Value.slice.injEq] at hqv
  obtain ⟨rfl, hn, rfl⟩ := hqv
  rw [← hn] at hse hlen hsl hal hcap ⊢
  generalize decide (s.b = bitAt p n) = y at hal ⊢
  clear hmay h h2 hcell hxx hn hs
  go_enter Try.func14, Try.ntmps14
  go_wp2_with fail
  refine hm.mono ?_
  rintro e w1 ⟨rfl, l1⟩
  obtain ⟨b0, b1, b2, b3, _, _, _, _⟩ := (hb.le l1).ring
  go_wp2_with fail
  refine (hh2 _).mono ?_
  rintro e w2 ⟨rfl, l2⟩
  clear b0 b1 b2 b3 hm hh2
  replace hb := (hb.le l1).le l2
  replace hb2 := (hb2.le l1).le l2
  replace hci := hci.le ((hl.trans l1).trans l2)
  replace hl := (hl.trans l1).trans l2
  clear l1 l2
  obtain ⟨b0, b1, b2, b3, _, _, _, _⟩ := hb.ring
  obtain ⟨x0, x1, x2, x3, x4⟩ := hci
  obtain ⟨n0, n1⟩ : (0 : Int) ≤ (i : Int) ∧ (i : Int) < (n : Int) := by omega
  have n2 : ¬ n = 0 := by omega
  replace b3 : w2.cell? ⟨w.heap.size, 3, none⟩ = some (.slice (some ⟨b, off, none⟩) n qc) := b3
  go_upto_region 5 with fail
  go_region_held3 (fun w' => w'.cell? ⟨w.heap.size, 3, none⟩ = some (.slice (some ⟨b, off, none⟩) n qc) ∧ w'.cell? ⟨b, off + i * 5, none⟩ = some (.int .i64 s.c) ∧ w'.cell? ⟨b, off + i * 5 + 1, none⟩ = some (.int .i64 s.r) ∧ w'.cell? ⟨b, off + i * 5 + 2, none⟩ = some (.int .i64 s.a) ∧ w'.cell? ⟨b, off + i * 5 + 3, none⟩ = some (.int .i64 s.t) ∧ w'.cell? ⟨b, off + i * 5 + 4, none⟩ = some (.int .i64 s.b)) (go_keep) (fail)
  go_wp2_with fail
  refine (hal _).mono ?_
  rintro e w3 ⟨rfl, l3⟩
  have hbs := (Box.new w2 #[.int .i64 s.c, .int .i64 s.r, .int .i64 s.a, .int .i64 s.t, .int .i64 s.b] 38).le ((Le.drew _).trans l3)
  have l4 := ((Le.alloc w2 (.cells #[.int .i64 s.c, .int .i64 s.r, .int .i64 s.a, .int .i64 s.t, .int .i64 s.b] 38)).trans (Le.drew _)).trans l3
  obtain ⟨z0, z1, z2, z3, z4⟩ := (hb2.le l4).slot
  obtain ⟨f0, f1, f2, f3, f4⟩ := (hb2.le l4).slotF
  obtain ⟨y0, y1, y2, y3, y4⟩ := hbs.slot
  clear x0 x1 x2 x3 x4 b0 b1 b2 b3 n0 n1 n2 hse hal hb hb2 l3
  cases y
  · go_wp2_with fail
    refine bodyPost_ret (v := .tuple #[slotZ, .int .i64 1002]) (by simp [results, Try.results14, go_sem, z0, z1, z2, z3, z4]) rfl ⟨rfl, ?_⟩
    exact (hl.trans l4).put5 (by omega)
  · go_wp2_with fail
    refine bodyPost_ret (v := .tuple #[s.v, .int .i64 0]) (by simp [results, Try.results14, go_sem, z0, z1, z2, z3, z4]) rfl ⟨rfl, ?_⟩
    exact (hl.trans l4).put5 (by omega)

theorem ringEntry (v : Value) (R : Rg) (p : Int) (w : World) (hx : HasR w v R) (hf : FitR R) : Calls Try.prog 14 #[v, .int .i64 p] w fun e w' =>
    e = .returned (.tuple #[(entryS R p).1.v, .int .i64 (entryS R p).2]) ∧ Le w w' := by
  cases h : mayR R
  · rw [show entryS R p = (Slt.zero, 1000) by simp [entryS, h]]
    exact ringEntryNo v R p w hx hf h
  · cases h2 : hasB R.h R.t p
    · rw [show entryS R p = (Slt.zero, 1002) by simp [entryS, entryB, h, h2]]
      exact ringEntryOff v R p w hx h h2
    · exact ringEntryIn v R p w hx h h2

end Go.Proofs.Ytnncmjliehoknaa
