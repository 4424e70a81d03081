/-
  THE WALK over package route's Part: what it answers, for every state and numbers. Condition: the state's rows can be copied.
-/
import Derived.Test.YtafjaghaibagkaaRoA
import Derived.Test.YtafjaghaibagkaaSts
import Derived.Test.YtafjaghaibagkaaHasBox
namespace Go.Proofs.Ytafjaghaibagkaa
open Go.RowKit

/-- In the midst of the rows: the given state's box, the result's, and the one that is filled up to row k. -/
structure Pt (w : World) (vs : Nat → Sl) (g n : Int) (wr : World) (k : Nat) (us : Nat → Sl) : Prop where
  le : Le w wr
  given : Box wr w.heap.size (cells4 vs) 27
  result : Box wr (w.heap.size + 1) (cells4 fun _ => slZ) 27
  filled : Box wr (w.heap.size + 1 + 1) (cells4 us) 27
  rows : ∀ j, j < 4 → us j = if j < k ∧ (j : Int).tmod n = g then vs j else slZ

theorem Pt.start (w : World) (vs : Nat → Sl) (g n : Int) :
    Pt w vs g n (((w.alloc (.cells (cells4 vs) 27)).alloc (.cells (cells4 fun _ => slZ) 27)).alloc (.cells (cells4 fun _ => slZ) 27)) 0 fun _ => slZ := by
  have h := Cp.start w St.zero vs
  exact ⟨h.le, h.given, h.result, h.filled, fun j _ => by rw [if_neg (by omega)]⟩

theorem Pt.next {w : World} {vs : Nat → Sl} {g n : Int} {wr : World} {k : Nat} {us : Nat → Sl} (h : Pt w vs g n wr k us) (hk : k < 4) (hq : (k : Int).tmod n = g) :
    Pt w vs g n (wr.setCell ⟨w.heap.size + 1 + 1, k, none⟩ (slV (vs k))) (k + 1) (upd us k (vs k)) := by
  refine ⟨Below.setCell h.le (by show w.heap.size ≤ w.heap.size + 1 + 1; omega) _, h.given.other (by omega) _ _, h.result.other (by omega) _ _, h.filled.upd4 hk _, fun j hj => ?_⟩
  unfold upd
  by_cases e : j = k
  · subst e; rw [if_pos rfl, if_pos ⟨by omega, hq⟩]
  · rw [if_neg e, h.rows j hj]
    by_cases h1 : j < k ∧ (j : Int).tmod n = g
    · rw [if_pos h1, if_pos ⟨by omega, h1.2⟩]
    · rw [if_neg h1, if_neg (fun h2 => h1 ⟨by omega, h2.2⟩)]

theorem Pt.pass {w : World} {vs : Nat → Sl} {g n : Int} {wr : World} {k : Nat} {us : Nat → Sl} (h : Pt w vs g n wr k us) (hq : ¬ (k : Int).tmod n = g) : Pt w vs g n wr (k + 1) us := by
  refine ⟨h.le, h.given, h.result, h.filled, fun j hj => ?_⟩
  rw [h.rows j hj]
  by_cases e : j = k
  · subst e; rw [if_neg (fun h => hq h.2), if_neg (fun h => hq h.2)]
  · by_cases h1 : j < k ∧ (j : Int).tmod n = g
    · rw [if_pos h1, if_pos ⟨by omega, h1.2⟩]
    · rw [if_neg h1, if_neg (fun h2 => h1 ⟨by omega, h2.2⟩)]

theorem Pt.has {w : World} {s : St} {vs : Nat → Sl} {g n : Int} {wr : World} {us : Nat → Sl} (h : Pt w vs g n wr 4 us) (hr : ∀ i, i < 4 → Has w (slV (vs i)) (s.at i)) : HasS wr (stV us) (partOf s g n) := by
  refine ⟨us, rfl, fun i hi => ?_⟩
  rw [partOf_at s g n hi, h.rows i hi]
  by_cases h1 : (i : Int).tmod n = g
  · rw [if_pos ⟨hi, h1⟩, if_pos h1]; exact (hr i hi).le h.le
  · rw [if_neg (fun h => h1 h.2), if_neg h1]; exact Has.nil _

set_option maxHeartbeats 1000000 in
theorem routePartNo (v : Value) (s : St) (g n : Int) (w : World) (hx : HasS w v s) (h : logB g n = false) :
    Calls Try.prog 10 #[v, .int .i64 g, .int .i64 n] w fun e w' => e = .returned (.tuple #[stZ, .int .i64 700]) ∧ Le w w' := by
  obtain ⟨vs, rfl, hr⟩ := hx
  have hl := (Le.alloc w (.cells (cells4 vs) 27)).trans (Le.alloc _ (.cells (cells4 fun _ => slZ) 27))
  have hb3 := Box.new (w.alloc (.cells (cells4 vs) 27)) (cells4 fun _ => slZ) 27
  simp only [World.size_alloc] at hb3
  obtain ⟨z0, z1, z2, z3, f0, f1, f2, f3⟩ := hb3.st
  have hml := fun w' => routeMayLogs n w'
  cases hn : logsB n
  · rw [hn] at hml
    go_enter Try.func10, Try.ntmps10
    go_wp2_with fail
    refine (hml _).mono ?_
    rintro e _ ⟨rfl, rfl⟩
    go_wp2_with fail
    refine bodyPost_ret (v := .tuple #[stZ, .int .i64 700]) (by simp [results, Try.results10, go_sem, z0, z1, z2, z3]) rfl ⟨rfl, ?_⟩
    exact hl
  rw [hn] at hml
  by_cases h0 : g < 0
  · go_enter Try.func10, Try.ntmps10
    go_wp2_with fail
    refine (hml _).mono ?_
    rintro e _ ⟨rfl, rfl⟩
    go_wp2_with fail
    refine bodyPost_ret (v := .tuple #[stZ, .int .i64 700]) (by simp [results, Try.results10, go_sem, z0, z1, z2, z3]) rfl ⟨rfl, ?_⟩
    exact hl
  · have h1 : n ≤ g := by simp [logB, hn] at h; omega
    go_enter Try.func10, Try.ntmps10
    go_wp2_with fail
    refine (hml _).mono ?_
    rintro e _ ⟨rfl, rfl⟩
    go_wp2_with fail
    refine bodyPost_ret (v := .tuple #[stZ, .int .i64 700]) (by simp [results, Try.results10, go_sem, z0, z1, z2, z3]) rfl ⟨rfl, ?_⟩
    exact hl

set_option maxHeartbeats 1000000 in
theorem routePartYes (v : Value) (s : St) (g n : Int) (w : World) (hx : HasS w v s) (hf : Fit s) (h : logB g n = true) :
    Calls Try.prog 10 #[v, .int .i64 g, .int .i64 n] w fun e w' => ∃ us, e = .returned (.tuple #[stV us, .int .i64 0]) ∧ (∀ i, i < 4 → Own w' w.heap.size (slV (us i)) ((partOf s g n).at i)) ∧ Apart us 4 ∧ Le w w' := by
  have hx0 := hx
  obtain ⟨vs, rfl, hr⟩ := hx
  have hn : logsB n = true := by simp [logB] at h; exact h.1.1
  have hn' := logsB_cases hn
  have hg : 0 ≤ g ∧ g < n := by simp [logB] at h; omega
  obtain ⟨hg0, hg1⟩ := hg
  have hml := fun w' => routeMayLogs n w'
  rw [hn] at hml
  have hlo := fun (k : Nat) (hk : k < 4) w' => routeLogOf k n hn' (by omega) w'
  clear hn' hn h
  go_enter Try.func10, Try.ntmps10
  go_wp2_with fail
  refine (hml _).mono ?_
  rintro e _ ⟨rfl, rfl⟩
  go_wp2_with fail
  go_loopw [23] (fun i wr => ∃ (k : Nat) (us : Nat → Sl), k ≤ 4 ∧ i = .int .i64 k ∧ Pt w vs g n wr k us) (fun i _ => 4 - (intOf i).toNat)
  case atStart => exact ⟨0, _, by omega, rfl, Pt.start w vs g n⟩
  case round =>
    obtain ⟨k, us, hk, rfl, hp⟩ := hrel
    by_cases hlt : k < 4
    · have hlk := fun w' => hlo k hlt w'
      have hp1 := fun h => hp.next hlt h
      have hp2 := fun h => hp.pass h
      have c1 := (hp.given.cell k).trans (cells4_at vs hlt)
      have c3 := (hp.filled.cell k).trans (cells4_at us hlt)
      have f3 := hp.filled.frozen k
      clear hp hlo
      generalize (k : Int).tmod n = q at hlk hp1 hp2
      by_cases hq : q = g
      · have hp3 := hp1 hq
        clear hp1 hp2
        subst hq
        go_wp2_with fail
        refine (hlk _).mono ?_
        rintro e _ ⟨rfl, rfl⟩
        go_wp2_with fail
        go_roundw
        case rel => exact ⟨k + 1, _, by omega, by go_num, hp3⟩
        case measure => simp [intOf]; omega
      · have hp3 := hp2 hq
        have hq' : (q == g) = false := by simp [hq]
        clear hp1 hp2 hq
        go_wp2_with fail
        refine (hlk _).mono ?_
        rintro e _ ⟨rfl, rfl⟩
        go_wp2_with fail
        go_roundw
        case rel => exact ⟨k + 1, _, by omega, by go_num, hp3⟩
        case measure => simp [intOf]; omega
    · obtain rfl : k = 4 := by omega
      have hh := hp.has hr
      obtain ⟨p0, p1, p2, p3, _, _, _, _⟩ := hp.filled.st
      go_wp2_with fail
      refine (statesCopy (stV us) (partOf s g n) _ hh (hf.part g n)).mono ?_
      rintro e w2 ⟨q2, rfl, o2, ap, l2⟩
      have hb := hp.result.le l2
      obtain ⟨b0, b1, b2, b3, f0, f1, f2, f3⟩ := hb.st
      go_wp2_with fail
      refine bodyPost_ret (v := .tuple #[stV q2, .int .i64 0]) (by simp [results, Try.results10, go_sem, b0, b1, b2, b3]) rfl ⟨q2, rfl, fun i hi => ?_, ap, ?_⟩
      · exact (((o2 i hi).base hp.le.size).set4 hb (by decide) _ _ _ _)
      · exact (hp.le.trans l2).set4 (by omega) _ _ _ _

theorem routePart (v : Value) (s : St) (g n : Int) (w : World) (hx : HasS w v s) (hf : Fit s) :
    Calls Try.prog 10 #[v, .int .i64 g, .int .i64 n] w fun e w' => ∃ v', e = .returned (.tuple #[v', .int .i64 (partS s g n).2]) ∧ OwnS w' w.heap.size v' (partS s g n).1 ∧ Le w w' := by
  cases h : logB g n
  · rw [partS_no h]
    exact (routePartNo v s g n w hx h).mono fun e w' ⟨he, hl⟩ => ⟨stZ, he, OwnS.zero _ _, hl⟩
  · rw [partS_yes h]
    exact (routePartYes v s g n w hx hf h).mono fun e w' ⟨us, he, ho, _, hl⟩ => ⟨stV us, he, ⟨us, rfl, ho⟩, hl⟩

end Go.Proofs.Ytafjaghaibagkaa
