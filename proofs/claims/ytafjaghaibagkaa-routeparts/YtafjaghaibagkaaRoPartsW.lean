/-
  THE WALK over choruslaw7.RouteParts: it answers true, for every state, with one log and with two, and turns nothing that was there. Condition: the state's rows can be copied.
-/
import Derived.Test.YtafjaghaibagkaaRoAwake
import Derived.Test.YtafjaghaibagkaaAppAt
import Derived.Deep.RegionHeld3
namespace Go.Proofs.Ytafjaghaibagkaa
open Go.RowKit

/-- What the first logs' parts have of row j, of the next one's the rows below k. -/
def accR (s : St) (g n : Int) (k j : Nat) : List Int := if (j : Int).tmod n < g ∨ (j < k ∧ (j : Int).tmod n = g) then s.at j else []

theorem accR_next {s : St} {g n : Int} {k : Nat} (hk : k < 4) : accR s g n k k ++ (partOf s g n).at k = accR s g n (k + 1) k := by
  rw [partOf_at _ _ _ hk]
  unfold accR
  by_cases h1 : (k : Int).tmod n < g
  · rw [if_pos (.inl h1), if_neg (by omega), if_pos (.inl h1)]; simp
  · by_cases h2 : (k : Int).tmod n = g
    · rw [if_neg (by omega), if_pos h2, if_pos (.inr ⟨by omega, h2⟩)]; simp
    · rw [if_neg (by omega), if_neg h2, if_neg (by omega)]; simp

theorem accR_other {s : St} {g n : Int} {k j : Nat} (h : j ≠ k) : accR s g n (k + 1) j = accR s g n k j := by
  unfold accR
  by_cases h1 : (j : Int).tmod n < g ∨ (j < k ∧ (j : Int).tmod n = g)
  · rw [if_pos h1, if_pos (by omega)]
  · rw [if_neg h1, if_neg (by omega)]

theorem accR_log {s : St} {g n : Int} {j : Nat} (hj : j < 4) : accR s g n 4 j = accR s (g + 1) n 0 j := by
  unfold accR
  by_cases h1 : (j : Int).tmod n < g ∨ (j < 4 ∧ (j : Int).tmod n = g)
  · rw [if_pos h1, if_pos (by omega)]
  · rw [if_neg h1, if_neg (by omega)]

theorem accR_all {s : St} {n : Int} {j : Nat} (hn : n = 1 ∨ n = 2) : accR s n n 0 j = s.at j := by
  unfold accR
  rw [if_pos]
  left
  have := Int.tmod_lt_of_pos (j : Int) (show 0 < n by omega)
  omega

/-- Outside the rows: the given state's box, the one of all, its rows so far. -/
structure Po (w : World) (s : St) (g n : Int) (vs : Nat → Sl) (gA : Nat) (wr : World) (us : Nat → Sl) : Prop where
  le : Le w wr
  lA : w.heap.size < gA
  given : Box wr w.heap.size (cells4 vs) 27
  all : Box wr gA (cells4 us) 27
  rows : ∀ j, j < 4 → Own wr w.heap.size (slV (us j)) (accR s g n 0 j)
  apart : Apart us 4

/-- In the midst of the rows of a part. -/
structure Pq (w : World) (s : St) (g n : Int) (vs : Nat → Sl) (gA gP : Nat) (ps : Nat → Sl) (wr : World) (k : Nat) (us : Nat → Sl) : Prop where
  le : Le w wr
  lA : w.heap.size < gA
  given : Box wr w.heap.size (cells4 vs) 27
  all : Box wr gA (cells4 us) 27
  part : Box wr gP (cells4 ps) 27
  ne : gP ≠ gA
  rows : ∀ j, j < 4 → Own wr w.heap.size (slV (us j)) (accR s g n k j)
  own : ∀ j, j < 4 → Own wr w.heap.size (slV (ps j)) ((partOf s g n).at j)
  apart : Apart us 4
  far : ∀ i j, i < 4 → j < 4 → ∀ b, (slV (us i)).ownBlock = some b → (slV (ps j)).ownBlock ≠ some b

theorem Po.enter {w : World} {s : St} {g n : Int} {vs : Nat → Sl} {gA : Nat} {wr w1 : World} {us ps : Nat → Sl} (h : Po w s g n vs gA wr us) (l1 : Le wr w1) (o1 : ∀ i, i < 4 → Own w1 wr.heap.size (slV (ps i)) ((partOf s g n).at i)) :
    Pq w s g n vs gA w1.heap.size ps (w1.alloc (.cells (cells4 ps) 27)) 0 us := by
  have l2 := l1.trans (Le.alloc w1 (.cells (cells4 ps) 27))
  have hA := h.all.lt
  have hs := l1.size
  refine ⟨h.le.trans l2, h.lA, h.given.le l2, h.all.le l2, Box.new _ _ _, by omega, fun j hj => (h.rows j hj).le l2, fun j hj => ((o1 j hj).base h.le.size).le (Le.alloc _ _), h.apart, fun i j hi hj b e1 e2 => ?_⟩
  have := ((h.rows i hi).block e1).2
  have := ((o1 j hj).block e2).1
  omega

theorem Pq.leave {w : World} {s : St} {g n : Int} {vs : Nat → Sl} {gA gP : Nat} {ps : Nat → Sl} {wr : World} {us : Nat → Sl} (h : Pq w s g n vs gA gP ps wr 4 us) : Po w s (g + 1) n vs gA wr us :=
  ⟨h.le, h.lA, h.given, h.all, fun j hj => by rw [← accR_log hj]; exact h.rows j hj, h.apart⟩

theorem Pq.later {w : World} {s : St} {g n : Int} {vs : Nat → Sl} {gA gP : Nat} {ps : Nat → Sl} {wr wr' : World} {k : Nat} {us : Nat → Sl} (h : Pq w s g n vs gA gP ps wr k us) (l : Le wr wr') : Pq w s g n vs gA gP ps wr' k us :=
  ⟨h.le.trans l, h.lA, h.given.le l, h.all.le l, h.part.le l, h.ne, fun j hj => (h.rows j hj).le l, fun j hj => (h.own j hj).le l, h.apart, h.far⟩

theorem Pq.next {w : World} {s : St} {g n : Int} {vs : Nat → Sl} {gA gP : Nat} {ps : Nat → Sl} {wr w1 w2 : World} {k : Nat} {us : Nat → Sl} {v' : Sl} (h0 : Pq w s g n vs gA gP ps wr k us) (hk : k < 4) (l0 : Le wr w1)
    (hown : Own w2 w.heap.size (slV v') (accR s g n k k ++ (partOf s g n).at k)) (hg : w1.grownBy w2 (slV (us k)).ownBlock) (hat : (slV v').ownBlock = (slV (us k)).ownBlock ∨ (slV v').ownBlock = some w1.heap.size) :
    Pq w s g n vs gA gP ps (w2.setCell ⟨gA, k, none⟩ (slV v')) (k + 1) (upd us k v') := by
  have h := h0.later l0
  have hA := h.all
  have hle : Le w w2 := Below.grown h.le hg h.le.size (fun b e => ((h.rows k hk).block e).1)
  have hne : ∀ (b : Nat) (cs : Array Value), Box w1 b cs 27 → (slV (us k)).ownBlock ≠ some b := fun b cs hb => (h.rows k hk).apart hb (by decide)
  have hA2 : Box w2 gA (cells4 us) 27 := hA.grown hg (hne _ _ hA)
  have hlA := h.lA
  refine ⟨Below.setCell hle (by show w.heap.size ≤ gA; omega) _, hlA, (h.given.grown hg (hne _ _ h.given)).other (by omega) _ _, hA2.upd4 hk v', (h.part.grown hg (hne _ _ h.part)).other h.ne _ _, h.ne, fun j hj => ?_, fun j hj => ?_, fun i j hi hj hij b e1 e2 => ?_, fun i j hi hj b e1 e2 => ?_⟩
  · by_cases e : j = k
    · subst e
      rw [show upd us j v' j = v' by simp [upd], ← accR_next hk]
      exact hown.setBox hA2 (by decide)
    · rw [show upd us k v' j = us j by simp [upd, e], accR_other e]
      exact ((h.rows j hj).grown hg (fun b e1 e2 => h.apart k j hk hj (Ne.symm e) b e2 e1)).setBox hA2 (by decide)
  · exact ((h.own j hj).grown hg (fun b e1 e2 => h.far k j hk hj b e2 e1)).setBox hA2 (by decide)
  · by_cases ei : i = k
    · have ej : j ≠ k := by omega
      rw [show upd us k v' i = v' by simp [upd, ei]] at e1
      rw [show upd us k v' j = us j by simp [upd, ej]] at e2
      rcases hat with e | e
      · rw [e] at e1; exact h.apart k j hk hj (Ne.symm ej) b e1 e2
      · rw [e] at e1
        have := ((h.rows j hj).block e2).2
        cases e1; omega
    · rw [show upd us k v' i = us i by simp [upd, ei]] at e1
      by_cases ej : j = k
      · rw [show upd us k v' j = v' by simp [upd, ej]] at e2
        rcases hat with e | e
        · rw [e] at e2; exact h.apart i k hi hk ei b e1 e2
        · rw [e] at e2
          have := ((h.rows i hi).block e1).2
          cases e2; omega
      · rw [show upd us k v' j = us j by simp [upd, ej]] at e2
        exact h.apart i j hi hj hij b e1 e2
  · by_cases ei : i = k
    · rw [show upd us k v' i = v' by simp [upd, ei]] at e1
      rcases hat with e | e
      · rw [e] at e1; exact h.far k j hk hj b e1 e2
      · rw [e] at e1
        have := ((h.own j hj).block e2).2
        cases e1; omega
    · rw [show upd us k v' i = us i by simp [upd, ei]] at e1
      exact h.far i j hi hj b e1 e2

theorem acc_room {s : St} (hf : Fit s) {g n : Int} {k : Nat} (hk : k < 4) : ((accR s g n k k).length + ((partOf s g n).at k).length) * 8 ≤ 140737488355328 := by
  rw [← List.length_append, accR_next hk]
  unfold accR
  have := hf k hk
  split
  · omega
  · decide

theorem Po.start {w w1 : World} {s : St} {n : Int} {vs : Nat → Sl} (hb1 : Box (w.alloc (.cells (cells4 vs) 27)) w.heap.size (cells4 vs) 27) (l1 : Le (w.alloc (.cells (cells4 vs) 27)) w1) :
    Po w s 0 n vs w1.heap.size (w1.alloc (.cells (cells4 fun _ => slZ) 27)) (fun _ => slZ) := by
  have h1 := (hb1.le l1).lt
  refine ⟨((Le.alloc w _).trans l1).trans (Le.alloc w1 _), h1, (hb1.le l1).le (Le.alloc w1 _), Box.new _ _ _, fun j hj => ?_, fun i j _ _ _ b e1 _ => by cases e1⟩
  have h0 : accR s 0 n 0 j = [] := by
    unfold accR
    rw [if_neg]
    have := Int.tmod_nonneg n (show 0 ≤ (j : Int) by omega)
    omega
  rw [h0]
  exact Own.nil _ _

theorem Pq.allGrown {w : World} {s : St} {g n : Int} {vs : Nat → Sl} {gA gP : Nat} {ps : Nat → Sl} {wr w2 : World} {k : Nat} {us : Nat → Sl} (h : Pq w s g n vs gA gP ps wr k us) (hk : k < 4) (hg : wr.drew.grownBy w2 (slV (us k)).ownBlock) : Box w2 gA (cells4 us) 27 :=
  (h.later (Le.drew wr)).all.grown hg (((h.later (Le.drew wr)).rows k hk).apart (h.later (Le.drew wr)).all (by decide))
theorem Pq.partGrown {w : World} {s : St} {g n : Int} {vs : Nat → Sl} {gA gP : Nat} {ps : Nat → Sl} {wr w2 : World} {k : Nat} {us : Nat → Sl} (h : Pq w s g n vs gA gP ps wr k us) (hk : k < 4) (hg : wr.drew.grownBy w2 (slV (us k)).ownBlock) : Box w2 gP (cells4 ps) 27 :=
  (h.later (Le.drew wr)).part.grown hg (((h.later (Le.drew wr)).rows k hk).apart (h.later (Le.drew wr)).part (by decide))

set_option maxRecDepth 4000 in
set_option maxHeartbeats 4000000 in
theorem lawPartsOne (w : World) (v : Value) (s : St) (hx : HasS w v s) (hf : Fit s) :
    Calls Try.prog 5 #[v, .bool false] w fun e w' => e = .returned (.bool true) ∧ Le w w' := by
  have hx0 := hx
  obtain ⟨vs, rfl, hr⟩ := hx
  have hb1 := Box.new w (cells4 vs) 27
  go_enter Try.func5, Try.ntmps5
  go_wp2_with fail
  refine (lawAwake7 _).mono ?_
  rintro e w1 ⟨rfl, l1⟩
  have hp0 : Po w s 0 1 vs w1.heap.size (w1.alloc (.cells (cells4 fun _ => slZ) 27)) (fun _ => slZ) := Po.start hb1 l1
  go_wp2_with fail
  generalize hW : w1.alloc (.cells (cells4 fun _ => slZ) 27) = W1 at hp0 ⊢
  generalize w1.heap.size = gA at hp0 ⊢
  clear hW hb1 l1
  go_loopw [7] (fun i wr => ∃ (g : Nat) (us : Nat → Sl), g ≤ 1 ∧ i = .int .i64 g ∧ Po w s g 1 vs gA wr us) (fun i _ => 1 - (intOf i).toNat)
  case atStart => exact ⟨0, _, by omega, rfl, hp0⟩
  case round =>
    clear hp0
    obtain ⟨g, us, hg, rfl, hp⟩ := hrel
    by_cases hlg : g < 1
    · have hgB : logB g 1 = true := by simp [logB, logsB]; omega
      obtain ⟨y0, y1, y2, y3, _, _, _, _⟩ := hp.given.st
      have hlg' : (g : Int) < 1 := by omega
      go_wp2_with fail
      refine (routePartYes (stV vs) s g 1 _ (hx0.le hp.le) hf hgB).mono ?_
      rintro e w2 ⟨ps, rfl, o2, _, l2⟩
      have hq := hp.enter l2 o2
      clear y0 y1 y2 y3 l2 o2 hp
      go_wp2_with (go_at_call 12; refine (lawNum _ _).mono ?_; rintro e _ ⟨rfl, rfl⟩)
      generalize hW : w2.alloc (.cells (cells4 ps) 27) = W2 at hq ⊢
      generalize w2.heap.size = gP at hq ⊢
      clear hW
      go_loopw [10] (fun i wr => ∃ (k : Nat) (us : Nat → Sl), k ≤ 4 ∧ i = .int .i64 k ∧ Pq w s g 1 vs gA gP ps wr k us) (fun i _ => 4 - (intOf i).toNat)
      case atStart => exact ⟨0, _, by omega, rfl, hq⟩
      case round =>
        clear hq
        obtain ⟨k, us, hk, rfl, hq⟩ := hrel
        by_cases hlt : k < 4
        · have e1 : logS 0 k 3 1 = ((k : Int).tmod 1, 0) := logS_yes (by simp [opMay]; omega) (by decide) (by decide)
          have e2 : logS 2 k 0 1 = ((k : Int).tmod 1, 0) := logS_yes (by simp [opMay]; omega) (by decide) (by decide)
          have hlog1 := fun w' => routeLog 0 k 3 1 w'
          have hlog2 := fun w' => routeLog 2 k 0 1 w'
          rw [e1] at hlog1
          rw [e2] at hlog2
          have hpt := partOf_at s g 1 hlt
          clear e1 e2
          generalize (k : Int).tmod 1 = q at hlog1 hlog2 hpt
          have k0 : (0 : Int) ≤ (k : Int) := by omega
          have k1 : (k : Int) < 4 := by omega
          go_wp2_with fail
          refine (hlog1 _).mono ?_
          rintro e w4 ⟨rfl, l4⟩
          go_wp2_with fail
          refine (hlog2 _).mono ?_
          rintro e w5 ⟨rfl, l5⟩
          have hq5 := hq.later (l4.trans l5)
          clear hlog1 hlog2 hq l4 l5
          have c3 := (hq5.all.cell k).trans (cells4_at us hlt)
          have c4 := (hq5.part.cell k).trans (cells4_at ps hlt)
          have f3 := hq5.all.frozen k
          have hpk := (hq5.own k hlt).has
          have m1 : ¬ gP = gA := hq5.ne
          have m2 : ¬ gA = gP := fun e => hq5.ne e.symm
          have c3d : w5.drew.cell? ⟨gA, k, none⟩ = some (slV (us k)) := c3
          by_cases hqg : q = g
          · subst hqg
            clear hpt
            go_upto_region 20 with (go_at_call 12; refine (lawNum _ _).mono ?_; rintro e _ ⟨rfl, rfl⟩)
            go_region_law ((refine step_append_at rfl (.tmp 81) (.tmp 85) rfl w.heap.size (slV (us k)) (slV (ps k)) (accR s g 1 k k) ((partOf s g 1).at k) (by simp [Act.eval]) (by simp [Act.eval]) ((hq5.rows k hlt).le (Le.drew w5)) (hpk.le (Le.drew w5)) (acc_room hf hlt) (hq5.le.trans (Le.drew w5)).size ?_; intro v1 w6 o6 gr hat; obtain ⟨q6, rfl⟩ := o6.has.sl; have hA6 := hq5.allGrown hlt gr; have hP6 := hq5.partGrown hlt gr; have c3' := (hA6.cell k).trans (cells4_at us hlt); have c4' := (hP6.cell k).trans (cells4_at ps hlt); have f3' := hA6.frozen k))
            all_goals
              go_wp2_with fail
              go_roundw
              case rel => exact ⟨k + 1, _, by omega, by go_num, hq5.next hlt (Le.drew w5) o6 gr hat⟩
              case measure => simp [intOf]; omega
          · have hlen : (ps k).2.1 = 0 := by
              obtain ⟨ad, cap, e, _⟩ := hpk
              rw [hpt, if_neg hqg] at e
              simp only [Value.slice.injEq] at e
              exact e.2.1
            have hv : slV (ps k) = .slice (ps k).1 0 (ps k).2.2 := by rw [← hlen]
            have hC := (cells4_at ps hlt).trans (congrArg some hv)
            rw [hv] at c4 hpk
            have hqg' : (q != (g : Int)) = true := by simp [hqg]
            clear hv hlen hpt hqg
            go_upto_region 20 with (go_at_call 12; refine (lawNum _ _).mono ?_; rintro e _ ⟨rfl, rfl⟩)
            go_region_law ((refine step_append_at rfl (.tmp 81) (.tmp 85) rfl w.heap.size (slV (us k)) (.slice (ps k).1 0 (ps k).2.2) (accR s g 1 k k) ((partOf s g 1).at k) (by simp [Act.eval]) (by simp [Act.eval]) ((hq5.rows k hlt).le (Le.drew w5)) (hpk.le (Le.drew w5)) (acc_room hf hlt) (hq5.le.trans (Le.drew w5)).size ?_; intro v1 w6 o6 gr hat; obtain ⟨q6, rfl⟩ := o6.has.sl; have hA6 := hq5.allGrown hlt gr; have hP6 := hq5.partGrown hlt gr; have c3' := (hA6.cell k).trans (cells4_at us hlt); have c4' := (hP6.cell k).trans (hC); have f3' := hA6.frozen k))
            all_goals
              go_wp2_with fail
              go_roundw
              case rel => exact ⟨k + 1, _, by omega, by go_num, hq5.next hlt (Le.drew w5) o6 gr hat⟩
              case measure => simp [intOf]; omega
        · obtain rfl : k = 4 := by omega
          have hp := hq.leave
          go_wp2_with fail
          go_roundw
          case rel => exact ⟨g + 1, _, by omega, by go_num, hp⟩
          case measure => simp [intOf]; omega
    · obtain rfl : g = 1 := by omega
      obtain ⟨y0, y1, y2, y3, _, _, _, _⟩ := hp.given.st
      obtain ⟨z0, z1, z2, z3, _, _, _, _⟩ := hp.all.st
      have hall : HasS wr (stV us) s := ⟨us, rfl, fun i hi => by have := (hp.rows i hi).has; rwa [show ((1 : Nat) : Int) = 1 from rfl, accR_all (by decide)] at this⟩
      go_wp2_with fail
      refine (lawSameState (stV us) (stV vs) s s _ hall (hx0.le hp.le) hf).mono ?_
      rw [show decide (s = s) = true by simp]
      rintro e w8 ⟨rfl, l8⟩
      go_wp2_with fail
      go_ret
      exact ⟨rfl, hp.le.trans l8⟩

set_option maxRecDepth 4000 in
set_option maxHeartbeats 4000000 in
theorem lawPartsTwo (w : World) (v : Value) (s : St) (hx : HasS w v s) (hf : Fit s) :
    Calls Try.prog 5 #[v, .bool true] w fun e w' => e = .returned (.bool true) ∧ Le w w' := by
  have hx0 := hx
  obtain ⟨vs, rfl, hr⟩ := hx
  have hb1 := Box.new w (cells4 vs) 27
  go_enter Try.func5, Try.ntmps5
  go_wp2_with fail
  refine (lawAwake7 _).mono ?_
  rintro e w1 ⟨rfl, l1⟩
  have hp0 : Po w s 0 2 vs w1.heap.size (w1.alloc (.cells (cells4 fun _ => slZ) 27)) (fun _ => slZ) := Po.start hb1 l1
  go_wp2_with fail
  generalize hW : w1.alloc (.cells (cells4 fun _ => slZ) 27) = W1 at hp0 ⊢
  generalize w1.heap.size = gA at hp0 ⊢
  clear hW hb1 l1
  go_loopw [7] (fun i wr => ∃ (g : Nat) (us : Nat → Sl), g ≤ 2 ∧ i = .int .i64 g ∧ Po w s g 2 vs gA wr us) (fun i _ => 2 - (intOf i).toNat)
  case atStart => exact ⟨0, _, by omega, rfl, hp0⟩
  case round =>
    clear hp0
    obtain ⟨g, us, hg, rfl, hp⟩ := hrel
    by_cases hlg : g < 2
    · have hgB : logB g 2 = true := by simp [logB, logsB]; omega
      obtain ⟨y0, y1, y2, y3, _, _, _, _⟩ := hp.given.st
      have hlg' : (g : Int) < 2 := by omega
      go_wp2_with fail
      refine (routePartYes (stV vs) s g 2 _ (hx0.le hp.le) hf hgB).mono ?_
      rintro e w2 ⟨ps, rfl, o2, _, l2⟩
      have hq := hp.enter l2 o2
      clear y0 y1 y2 y3 l2 o2 hp
      go_wp2_with (go_at_call 12; refine (lawNum _ _).mono ?_; rintro e _ ⟨rfl, rfl⟩)
      generalize hW : w2.alloc (.cells (cells4 ps) 27) = W2 at hq ⊢
      generalize w2.heap.size = gP at hq ⊢
      clear hW
      go_loopw [10] (fun i wr => ∃ (k : Nat) (us : Nat → Sl), k ≤ 4 ∧ i = .int .i64 k ∧ Pq w s g 2 vs gA gP ps wr k us) (fun i _ => 4 - (intOf i).toNat)
      case atStart => exact ⟨0, _, by omega, rfl, hq⟩
      case round =>
        clear hq
        obtain ⟨k, us, hk, rfl, hq⟩ := hrel
        by_cases hlt : k < 4
        · have e1 : logS 0 k 3 2 = ((k : Int).tmod 2, 0) := logS_yes (by simp [opMay]; omega) (by decide) (by decide)
          have e2 : logS 2 k 0 2 = ((k : Int).tmod 2, 0) := logS_yes (by simp [opMay]; omega) (by decide) (by decide)
          have hlog1 := fun w' => routeLog 0 k 3 2 w'
          have hlog2 := fun w' => routeLog 2 k 0 2 w'
          rw [e1] at hlog1
          rw [e2] at hlog2
          have hpt := partOf_at s g 2 hlt
          clear e1 e2
          generalize (k : Int).tmod 2 = q at hlog1 hlog2 hpt
          have k0 : (0 : Int) ≤ (k : Int) := by omega
          have k1 : (k : Int) < 4 := by omega
          go_wp2_with fail
          refine (hlog1 _).mono ?_
          rintro e w4 ⟨rfl, l4⟩
          go_wp2_with fail
          refine (hlog2 _).mono ?_
          rintro e w5 ⟨rfl, l5⟩
          have hq5 := hq.later (l4.trans l5)
          clear hlog1 hlog2 hq l4 l5
          have c3 := (hq5.all.cell k).trans (cells4_at us hlt)
          have c4 := (hq5.part.cell k).trans (cells4_at ps hlt)
          have f3 := hq5.all.frozen k
          have hpk := (hq5.own k hlt).has
          have m1 : ¬ gP = gA := hq5.ne
          have m2 : ¬ gA = gP := fun e => hq5.ne e.symm
          have c3d : w5.drew.cell? ⟨gA, k, none⟩ = some (slV (us k)) := c3
          by_cases hqg : q = g
          · subst hqg
            clear hpt
            go_upto_region 20 with (go_at_call 12; refine (lawNum _ _).mono ?_; rintro e _ ⟨rfl, rfl⟩)
            go_region_law ((refine step_append_at rfl (.tmp 81) (.tmp 85) rfl w.heap.size (slV (us k)) (slV (ps k)) (accR s g 2 k k) ((partOf s g 2).at k) (by simp [Act.eval]) (by simp [Act.eval]) ((hq5.rows k hlt).le (Le.drew w5)) (hpk.le (Le.drew w5)) (acc_room hf hlt) (hq5.le.trans (Le.drew w5)).size ?_; intro v1 w6 o6 gr hat; obtain ⟨q6, rfl⟩ := o6.has.sl; have hA6 := hq5.allGrown hlt gr; have hP6 := hq5.partGrown hlt gr; have c3' := (hA6.cell k).trans (cells4_at us hlt); have c4' := (hP6.cell k).trans (cells4_at ps hlt); have f3' := hA6.frozen k))
            all_goals
              go_wp2_with fail
              go_roundw
              case rel => exact ⟨k + 1, _, by omega, by go_num, hq5.next hlt (Le.drew w5) o6 gr hat⟩
              case measure => simp [intOf]; omega
          · have hlen : (ps k).2.1 = 0 := by
              obtain ⟨ad, cap, e, _⟩ := hpk
              rw [hpt, if_neg hqg] at e
              simp only [Value.slice.injEq] at e
              exact e.2.1
            have hv : slV (ps k) = .slice (ps k).1 0 (ps k).2.2 := by rw [← hlen]
            have hC := (cells4_at ps hlt).trans (congrArg some hv)
            rw [hv] at c4 hpk
            have hqg' : (q != (g : Int)) = true := by simp [hqg]
            clear hv hlen hpt hqg
            go_upto_region 20 with (go_at_call 12; refine (lawNum _ _).mono ?_; rintro e _ ⟨rfl, rfl⟩)
            go_region_law ((refine step_append_at rfl (.tmp 81) (.tmp 85) rfl w.heap.size (slV (us k)) (.slice (ps k).1 0 (ps k).2.2) (accR s g 2 k k) ((partOf s g 2).at k) (by simp [Act.eval]) (by simp [Act.eval]) ((hq5.rows k hlt).le (Le.drew w5)) (hpk.le (Le.drew w5)) (acc_room hf hlt) (hq5.le.trans (Le.drew w5)).size ?_; intro v1 w6 o6 gr hat; obtain ⟨q6, rfl⟩ := o6.has.sl; have hA6 := hq5.allGrown hlt gr; have hP6 := hq5.partGrown hlt gr; have c3' := (hA6.cell k).trans (cells4_at us hlt); have c4' := (hP6.cell k).trans (hC); have f3' := hA6.frozen k))
            all_goals
              go_wp2_with fail
              go_roundw
              case rel => exact ⟨k + 1, _, by omega, by go_num, hq5.next hlt (Le.drew w5) o6 gr hat⟩
              case measure => simp [intOf]; omega
        · obtain rfl : k = 4 := by omega
          have hp := hq.leave
          go_wp2_with fail
          go_roundw
          case rel => exact ⟨g + 1, _, by omega, by go_num, hp⟩
          case measure => simp [intOf]; omega
    · obtain rfl : g = 2 := by omega
      obtain ⟨y0, y1, y2, y3, _, _, _, _⟩ := hp.given.st
      obtain ⟨z0, z1, z2, z3, _, _, _, _⟩ := hp.all.st
      have hall : HasS wr (stV us) s := ⟨us, rfl, fun i hi => by have := (hp.rows i hi).has; rwa [show ((2 : Nat) : Int) = 2 from rfl, accR_all (by decide)] at this⟩
      go_wp2_with fail
      refine (lawSameState (stV us) (stV vs) s s _ hall (hx0.le hp.le) hf).mono ?_
      rw [show decide (s = s) = true by simp]
      rintro e w8 ⟨rfl, l8⟩
      go_wp2_with fail
      go_ret
      exact ⟨rfl, hp.le.trans l8⟩

theorem lawParts7 (w : World) (v : Value) (s : St) (hx : HasS w v s) (hf : Fit s) (two : Bool) :
    Calls Try.prog 5 #[v, .bool two] w fun e w' => e = .returned (.bool true) ∧ Le w w' := by
  cases two
  · exact lawPartsOne w v s hx hf
  · exact lawPartsTwo w v s hx hf

end Go.Proofs.Ytafjaghaibagkaa
