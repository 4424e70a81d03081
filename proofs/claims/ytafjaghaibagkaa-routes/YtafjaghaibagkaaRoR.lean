/-
  THE WALKS over the document's own LogOf and Part: what each answers, for every operation, state and numbers. Condition: the state's rows can be copied.
-/
import Derived.Test.YtafjaghaibagkaaRoS
import Derived.Test.YtafjaghaibagkaaRefMay
import Derived.Test.YtafjaghaibagkaaRefCp
import Derived.Test.YtafjaghaibagkaaHasBox
namespace Go.Proofs.Ytafjaghaibagkaa
open Go.RowKit

set_option maxHeartbeats 1000000 in
theorem refLogOf (c r a n : Int) (w : World) :
    Calls Try.prog 9 #[opV c r a, .int .i64 n] w fun e w' => e = .returned (.tuple #[.int .i64 (logS c r a n).1, .int .i64 (logS c r a n).2]) ∧ Le w w' := by
  have hb := Box.new w #[.int .i64 c, .int .i64 r, .int .i64 a] 23
  have hl := Le.alloc w (.cells #[.int .i64 c, .int .i64 r, .int .i64 a] 23)
  have hmay := fun w' => refOperMay c r a w'
  have hml := fun w' => refUpTo n 1 2 w'
  rw [show (decide (1 ≤ n) && decide (n ≤ 2)) = logsB n from rfl] at hml
  cases hm : opMay c r a
  · rw [logS_no (.inl hm)]
    rw [hm] at hmay
    go_enter Try.func9, Try.ntmps9
    go_wp2_with fail
    refine (hmay _).mono ?_
    rintro e w1 ⟨rfl, l1⟩
    go_wp2_with fail
    go_ret2
    exact ⟨rfl, hl.trans l1⟩
  rw [hm] at hmay
  by_cases hc : c = 3
  · rw [logS_no (.inr (.inl hc))]
    subst hc
    go_enter Try.func9, Try.ntmps9
    go_wp2_with fail
    refine (hmay _).mono ?_
    rintro e w1 ⟨rfl, l1⟩
    obtain ⟨y0, y1, y2, _, _, _⟩ := (hb.le l1).op
    go_wp2_with fail
    go_ret2
    exact ⟨rfl, hl.trans l1⟩
  have hc' : (c == 3) = false := by simp [hc]
  cases hn : logsB n
  · rw [logS_no (.inr (.inr hn))]
    rw [hn] at hml
    clear hc
    go_enter Try.func9, Try.ntmps9
    go_wp2_with fail
    refine (hmay _).mono ?_
    rintro e w1 ⟨rfl, l1⟩
    obtain ⟨y0, y1, y2, _, _, _⟩ := (hb.le l1).op
    go_wp2_with fail
    refine (hml _).mono ?_
    rintro e _ ⟨rfl, rfl⟩
    go_wp2_with fail
    go_ret2
    exact ⟨rfl, hl.trans l1⟩
  · rw [logS_yes hm hc hn]
    rw [hn] at hml
    obtain ⟨_, _, r0, r3, _, _⟩ := opMay_bounds hm
    have hn' := logsB_cases hn
    clear hc hn hm
    rcases (by omega : r = 0 ∨ r = 1 ∨ r = 2 ∨ r = 3) with rfl | rfl | rfl | rfl <;> rcases hn' with rfl | rfl
    all_goals
      go_enter Try.func9, Try.ntmps9
      go_wp2_with fail
      refine (hmay _).mono ?_
      rintro e w1 ⟨rfl, l1⟩
      obtain ⟨y0, y1, y2, _, _, _⟩ := (hb.le l1).op
      go_wp2_with fail
      refine (hml _).mono ?_
      rintro e _ ⟨rfl, rfl⟩
      go_wp2_with fail
      go_ret2
      exact ⟨rfl, hl.trans l1⟩

/-- In the midst of the rows: the result's box, and the copy's, without the rows below k that are others'. -/
structure Pr (w : World) (s : St) (cs : Nat → Sl) (g n : Int) (g8 : Nat) (wr : World) (k : Nat) (us : Nat → Sl) : Prop where
  le : Le w wr
  at8 : w.heap.size + 1 < g8
  result : Box wr (w.heap.size + 1) (cells4 fun _ => slZ) 27
  filled : Box wr g8 (cells4 us) 27
  own : ∀ j, j < 4 → Own wr w.heap.size (slV (cs j)) (s.at j)
  rows : ∀ j, j < 4 → us j = if j < k ∧ ¬ (j : Int).tmod n = g then slZ else cs j

theorem Pr.next {w : World} {s : St} {cs : Nat → Sl} {g n : Int} {g8 : Nat} {wr : World} {k : Nat} {us : Nat → Sl} (h : Pr w s cs g n g8 wr k us) (hk : k < 4) (hq : ¬ (k : Int).tmod n = g) :
    Pr w s cs g n g8 (wr.setCell ⟨g8, k, none⟩ (.slice none 0 0)) (k + 1) (upd us k slZ) := by
  have h8 := h.at8
  refine ⟨Below.setCell h.le (by show w.heap.size ≤ g8; omega) _, h8, h.result.other (by omega) _ _, h.filled.upd4 hk slZ, fun j hj => (h.own j hj).setBox h.filled (by decide), fun j hj => ?_⟩
  unfold upd
  by_cases e : j = k
  · subst e; rw [if_pos rfl, if_pos ⟨by omega, hq⟩]
  · rw [if_neg e, h.rows j hj]
    by_cases h1 : j < k ∧ ¬ (j : Int).tmod n = g
    · rw [if_pos h1, if_pos ⟨by omega, h1.2⟩]
    · rw [if_neg h1, if_neg (fun h2 => h1 ⟨by omega, h2.2⟩)]

theorem Pr.pass {w : World} {s : St} {cs : Nat → Sl} {g n : Int} {g8 : Nat} {wr : World} {k : Nat} {us : Nat → Sl} (h : Pr w s cs g n g8 wr k us) (hq : (k : Int).tmod n = g) : Pr w s cs g n g8 wr (k + 1) us := by
  refine ⟨h.le, h.at8, h.result, h.filled, h.own, fun j hj => ?_⟩
  rw [h.rows j hj]
  by_cases e : j = k
  · subst e; rw [if_neg (fun h => h.2 hq), if_neg (fun h => h.2 hq)]
  · by_cases h1 : j < k ∧ ¬ (j : Int).tmod n = g
    · rw [if_pos h1, if_pos ⟨by omega, h1.2⟩]
    · rw [if_neg h1, if_neg (fun h2 => h1 ⟨by omega, h2.2⟩)]

theorem Pr.has {w : World} {s : St} {cs : Nat → Sl} {g n : Int} {g8 : Nat} {wr : World} {us : Nat → Sl} (h : Pr w s cs g n g8 wr 4 us) (i : Nat) (hi : i < 4) : Own wr w.heap.size (slV (us i)) ((partOf s g n).at i) := by
  rw [partOf_at s g n hi, h.rows i hi]
  by_cases h1 : (i : Int).tmod n = g
  · rw [if_neg (fun h => h.2 h1), if_pos h1]; exact h.own i hi
  · rw [if_pos ⟨hi, h1⟩, if_neg h1]; exact Own.nil _ _

set_option maxHeartbeats 1000000 in
theorem refPartNo (v : Value) (s : St) (g n : Int) (w : World) (hx : HasS w v s) (h : logB g n = false) :
    Calls Try.prog 11 #[v, .int .i64 g, .int .i64 n] w fun e w' => e = .returned (.tuple #[stZ, .int .i64 700]) ∧ Le w w' := by
  obtain ⟨vs, rfl, hr⟩ := hx
  have hl := (Le.alloc w (.cells (cells4 vs) 27)).trans (Le.alloc _ (.cells (cells4 fun _ => slZ) 27))
  have hb3 := Box.new (w.alloc (.cells (cells4 vs) 27)) (cells4 fun _ => slZ) 27
  simp only [World.size_alloc] at hb3
  obtain ⟨z0, z1, z2, z3, f0, f1, f2, f3⟩ := hb3.st
  have hml := fun w' => refUpTo n 1 2 w'
  rw [show (decide (1 ≤ n) && decide (n ≤ 2)) = logsB n from rfl] at hml
  cases hn : logsB n
  · rw [hn] at hml
    go_enter Try.func11, Try.ntmps11
    go_wp2_with fail
    refine (hml _).mono ?_
    rintro e _ ⟨rfl, rfl⟩
    go_wp2_with fail
    refine bodyPost_ret (v := .tuple #[stZ, .int .i64 700]) (by simp [results, Try.results11, go_sem, z0, z1, z2, z3]) rfl ⟨rfl, ?_⟩
    exact hl
  rw [hn] at hml
  have hn' := logsB_cases hn
  have hm1 : 1 ≤ n ∧ n ≤ 2 := by omega
  obtain ⟨hm1, hm2⟩ := hm1
  have hup := fun w' => refUpTo g 0 (n - 1) w'
  rw [show (decide (0 ≤ g) && decide (g ≤ n - 1)) = false by simp [logB, hn] at h; simp; omega] at hup
  clear h hn hn'
  go_enter Try.func11, Try.ntmps11
  go_wp2_with fail
  refine (hml _).mono ?_
  rintro e _ ⟨rfl, rfl⟩
  go_wp2_with fail
  refine (hup _).mono ?_
  rintro e _ ⟨rfl, rfl⟩
  go_wp2_with fail
  refine bodyPost_ret (v := .tuple #[stZ, .int .i64 700]) (by simp [results, Try.results11, go_sem, z0, z1, z2, z3]) rfl ⟨rfl, ?_⟩
  exact hl

set_option maxHeartbeats 1000000 in
theorem refPartYes (v : Value) (s : St) (g n : Int) (w : World) (hx : HasS w v s) (hf : Fit s) (h : logB g n = true) :
    Calls Try.prog 11 #[v, .int .i64 g, .int .i64 n] w fun e w' => ∃ us, e = .returned (.tuple #[stV us, .int .i64 0]) ∧ (∀ i, i < 4 → Own w' w.heap.size (slV (us i)) ((partOf s g n).at i)) ∧ Le w w' := by
  have hx0 := hx
  obtain ⟨vs, rfl, hr⟩ := hx
  have hn : logsB n = true := by simp [logB] at h; exact h.1.1
  have hn' := logsB_cases hn
  have hg : 0 ≤ g ∧ g < n := by simp [logB] at h; omega
  have hm1 : 1 ≤ n ∧ n ≤ 2 := by omega
  obtain ⟨hm1, hm2⟩ := hm1
  have hml := fun w' => refUpTo n 1 2 w'
  rw [show (decide (1 ≤ n) && decide (n ≤ 2)) = logsB n from rfl, hn] at hml
  have hup := fun w' => refUpTo g 0 (n - 1) w'
  rw [show (decide (0 ≤ g) && decide (g ≤ n - 1)) = true by simp; omega] at hup
  have hl := (Le.alloc w (.cells (cells4 vs) 27)).trans (Le.alloc _ (.cells (cells4 fun _ => slZ) 27))
  have hb1 := (Box.new w (cells4 vs) 27).le (Le.alloc _ (.cells (cells4 fun _ => slZ) 27))
  have hb2 := Box.new (w.alloc (.cells (cells4 vs) 27)) (cells4 fun _ => slZ) 27
  simp only [World.size_alloc] at hb2
  obtain ⟨z0, z1, z2, z3, _, _, _, _⟩ := hb1.st
  clear hn h hg hn'
  go_enter Try.func11, Try.ntmps11
  go_wp2_with fail
  refine (hml _).mono ?_
  rintro e _ ⟨rfl, rfl⟩
  go_wp2_with fail
  refine (hup _).mono ?_
  rintro e _ ⟨rfl, rfl⟩
  clear hml hup
  go_wp2_with fail
  refine (refCopyState (stV vs) s _ (hx0.le hl) hf).mono ?_
  rintro e w1 ⟨_, rfl, ⟨cs, rfl, o1⟩, l1⟩
  have hb8 := Box.new w1 (cells4 cs) 27
  have n8 : w.heap.size + 1 < w1.heap.size := (hb2.le l1).lt
  replace o1 := fun i hi => (o1 i hi).base (base' := w.heap.size) hl.size
  replace o1 := fun i hi => (o1 i hi).le (Le.alloc w1 (.cells (cells4 cs) 27))
  replace l1 := l1.trans (Le.alloc w1 (.cells (cells4 cs) 27))
  replace hb2 := hb2.le l1
  replace hl := hl.trans l1
  clear z0 z1 z2 z3 hb1 l1
  go_wp2_with fail
  generalize hW : w1.alloc (.cells (cells4 cs) 27) = W at hb2 hb8 hl o1 ⊢
  generalize w1.heap.size = g8 at hb8 n8 ⊢
  clear hW
  have hp0 : Pr w s cs g n g8 W 0 cs := ⟨hl, n8, hb2, hb8, o1, fun j _ => by rw [if_neg (by omega)]⟩
  clear hb2 hb8 hl o1
  go_loopw [9] (fun i wr => ∃ (k : Nat) (us : Nat → Sl), k ≤ 4 ∧ i = .int .i64 k ∧ Pr w s cs g n g8 wr k us) (fun i _ => 4 - (intOf i).toNat)
  case atStart => exact ⟨0, _, by omega, rfl, hp0⟩
  case round =>
    clear hp0
    obtain ⟨k, us, hk, rfl, hp⟩ := hrel
    by_cases hlt : k < 4
    · have hp1 := fun h => hp.next hlt h
      have hp2 := fun h => hp.pass h
      have c3 := (hp.filled.cell k).trans (cells4_at us hlt)
      have f3 := hp.filled.frozen k
      clear hp
      have n0 : n ≠ 0 := by omega
      have k0 : (0 : Int) ≤ (k : Int) := by omega
      have k1 : (k : Int) < 4 := by omega
      have em : (k : Int).tmod n = (k : Int) % n := Int.tmod_eq_emod_of_nonneg k0
      by_cases hq : (k : Int).tmod n = g
      · have hp3 := hp2 hq
        have hq' : ((k : Int) % n != g) = false := by rw [← em]; simp [hq]
        clear hp1 hp2 hq em
        go_wp2_with fail
        go_roundw
        case rel => exact ⟨k + 1, _, by omega, by go_num, hp3⟩
        case measure => simp [intOf]; omega
      · have hp3 := hp1 hq
        have hq' : ((k : Int) % n != g) = true := by rw [← em]; simp [hq]
        clear hp1 hp2 hq em
        go_wp2_with fail
        go_roundw
        case rel => exact ⟨k + 1, _, by omega, by go_num, hp3⟩
        case measure => simp [intOf]; omega
    · obtain rfl : k = 4 := by omega
      have hh := hp.has
      obtain ⟨p0, p1, p2, p3, _, _, _, _⟩ := hp.filled.st
      obtain ⟨b0, b1, b2, b3, f0, f1, f2, f3⟩ := hp.result.st
      go_wp2_with fail
      refine bodyPost_ret (v := .tuple #[stV us, .int .i64 0]) (by simp [results, Try.results11, go_sem, b0, b1, b2, b3]) rfl ⟨us, rfl, fun i hi => ?_, ?_⟩
      · exact (hh i hi).set4 hp.result (by decide) _ _ _ _
      · exact hp.le.set4 (by omega) _ _ _ _

theorem refPart (v : Value) (s : St) (g n : Int) (w : World) (hx : HasS w v s) (hf : Fit s) :
    Calls Try.prog 11 #[v, .int .i64 g, .int .i64 n] w fun e w' => ∃ v', e = .returned (.tuple #[v', .int .i64 (partS s g n).2]) ∧ OwnS w' w.heap.size v' (partS s g n).1 ∧ Le w w' := by
  cases h : logB g n
  · rw [partS_no h]
    exact (refPartNo v s g n w hx h).mono fun e w' ⟨he, hl⟩ => ⟨stZ, he, OwnS.zero _ _, hl⟩
  · rw [partS_yes h]
    exact (refPartYes v s g n w hx hf h).mono fun e w' ⟨us, he, ho, hl⟩ => ⟨stV us, he, ⟨us, rfl, ho⟩, hl⟩

end Go.Proofs.Ytafjaghaibagkaa
