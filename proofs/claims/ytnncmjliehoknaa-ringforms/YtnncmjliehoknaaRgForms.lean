/-
  THE WALKS over choruslaw10.RingForms: it answers true, for every two numbers, and turns nothing that was there. No condition.
-/
import Derived.Test.YtnncmjliehoknaaRgAwake
import Derived.Test.YtnncmjliehoknaaRfH
import Derived.Test.YtnncmjliehoknaaRgI
import Derived.Test.YtnncmjliehoknaaLwA
import Derived.Test.YtnncmjliehoknaaBits
namespace Go.Proofs.Ytnncmjliehoknaa
open Go.RowKit

def zs4 : List Slt := [Slt.zero, Slt.zero, Slt.zero, Slt.zero]
def zs3 : List Slt := [Slt.zero, Slt.zero, Slt.zero]
theorem fit4 : zs4.length * 40 ≤ 140737488351232 := by decide
theorem fit3 : zs3.length * 40 ≤ 140737488351232 := by decide
theorem fit0 : ([] : List Slt).length * 40 ≤ 140737488351232 := by decide
theorem new4 : newS 4 = (⟨0, 0, 0, zs4⟩, 0) := by decide
theorem may4 : mayR ⟨0, 0, 0, zs4⟩ = true := by decide
theorem zs4_at {y : Nat} (h : y < 4) : zs4.getD y Slt.zero = Slt.zero := by
  rcases (by omega : y = 0 ∨ y = 1 ∨ y = 2 ∨ y = 3) with rfl | rfl | rfl | rfl <;> rfl
theorem bad_len {h t f : Int} {ss : List Slt} (hn : slotsB ss.length = false) : mayR ⟨h, t, f, ss⟩ = false := by simp [mayR, hn]
theorem bad_fence {h t f : Int} {ss : List Slt} (hn : f < 0 ∨ 4 < f) : mayR ⟨h, t, f, ss⟩ = false := by
  rw [Bool.eq_false_iff]
  intro hm
  simp [mayR] at hm
  omega
theorem bad_places {h t f : Int} (hn : h < 0 ∨ t < h ∨ 1048576 < t ∨ h + 4 < t) : mayR ⟨h, t, f, zs4⟩ = false := by
  rw [Bool.eq_false_iff]
  intro hm
  have := mayR_nums hm
  simp only [zs4, List.length_cons, List.length_nil] at this
  omega
theorem bad_slot {h t f : Int} {y : Nat} {s : Slt} (hy : y < 4) (hs : slotB s = false) : mayR ⟨h, t, f, zs4.set y s⟩ = false := by
  rw [Bool.eq_false_iff]
  intro hm
  have := mayR_all hm
  rw [all_no (k := y) (by rw [List.length_set]; exact hy)] at this
  · cases this
  · simp only [List.getD]
    rw [List.getElem?_set_self (by exact hy)]
    exact hs
theorem has_three {w : World} {base g cap : Nat} (h : OwnL w base (slV (some ⟨g, 0, none⟩, 4, cap)) zs4) : HasL w (slV (some ⟨g, 0, none⟩, 3, cap)) zs3 := by
  obtain ⟨a, cap', hv, hc, hn, hx⟩ := h.has
  simp only [slV, Value.slice.injEq] at hv
  obtain ⟨rfl, _, rfl⟩ := hv
  obtain ⟨b, off, ha, hcell⟩ := hx (by decide)
  simp only [Option.some.injEq, Addr.mk.injEq] at ha
  obtain ⟨rfl, rfl, _⟩ := ha
  refine ⟨some ⟨g, 0, none⟩, cap, rfl, Nat.le_trans (by decide) hc, (fun h => by cases h), fun _ => ⟨g, 0, rfl, fun i hi => ?_⟩⟩
  have h1 := hcell i (Nat.lt_trans hi (by decide))
  rw [zs4_at (Nat.lt_trans hi (by decide))] at h1
  rw [show zs3.getD i Slt.zero = Slt.zero by rcases (by simp only [zs3, List.length_cons, List.length_nil] at hi; omega : i = 0 ∨ i = 1 ∨ i = 2) with rfl | rfl | rfl <;> rfl]
  exact h1
theorem flatV_set1 : ∀ (ss : List Slt) (i j : Nat) (x : Int) (s : Slt), i < ss.length → j < 5 → s.vals = (ss.getD i Slt.zero).vals.set j (.int .i64 x) → (flatV ss).set (i * 5 + j) (.int .i64 x) = flatV (ss.set i s)
  | [], i, j, x, s, h, _, _ => by simp at h
  | z :: ss, 0, j, x, s, _, hj, hs => by
    simp only [List.getD_cons_zero] at hs
    simp only [flatV, List.set_cons_zero, hs, Nat.zero_mul, Nat.zero_add]
    rw [List.set_append_left _ _ (by simp [Slt.vals]; omega)]
  | z :: ss, i + 1, j, x, s, h, hj, hs => by
    have ih := flatV_set1 ss i j x s (by simpa using h) hj (by simpa using hs)
    simp only [flatV, List.set_cons_succ]
    rw [← ih, List.set_append_right _ _ (by simp [Slt.vals]; omega)]
    congr 2
    simp [Slt.vals]
    omega
/-- One number of a slot written into a row of the call's own. -/
theorem OwnL.put1 {w : World} {base g n cap i j : Nat} {x : Int} {ss : List Slt} {s : Slt} (h : OwnL w base (.slice (some ⟨g, 0, none⟩) n cap) ss) (hi : i < ss.length) (hj : j < 5) (hs : s.vals = (ss.getD i Slt.zero).vals.set j (.int .i64 x)) :
    OwnL (w.setCell ⟨g, i * 5 + j, none⟩ (.int .i64 x)) base (.slice (some ⟨g, 0, none⟩) n cap) (ss.set i s) := by
  obtain ⟨h1, h2⟩ := h
  refine ⟨by rw [flatV_len], ?_⟩
  rcases h2 with ⟨h2, _⟩ | ⟨g', cap', cur, hv, hg, hh, hn, hm, hsz, ht⟩
  · simp at h2
  · simp only [Value.slice.injEq, Option.some.injEq, Addr.mk.injEq] at hv
    obtain ⟨⟨rfl, _⟩, rfl, rfl⟩ := hv
    have hb : Box w g cur 38 := hh
    have hb5 := hb.set (i * 5 + j) (.int .i64 x)
    refine .inr ⟨g, cap, _, by rw [List.length_set], hg, hb5, by rw [List.length_set]; exact hn, hm, by simp [hsz], ?_⟩
    rw [List.length_set, ← flatV_set1 ss i j x s hi hj hs, ← ht]
    simp [List.take_set]

theorem twelveR (a : Int) : ∃ q : Int, (IntKind.u64.wrap a).tmod 12 = q ∧ 0 ≤ q ∧ q < 12 := by
  have h : 0 ≤ IntKind.u64.wrap a := by simp [IntKind.wrap, IntKind.bits, IntKind.signed]; omega
  rw [Int.tmod_eq_emod_of_nonneg h]
  exact ⟨_, rfl, by omega, by omega⟩

set_option linter.unusedVariables false in
set_option maxRecDepth 20000 in
set_option maxHeartbeats 4000000 in
theorem lawRForms0 (w : World) (which x X : Int) (y : Nat) (hw : (IntKind.u64.wrap which).tmod 12 = 0) (hX : bits .and .i64 x 1023 = X) (X0 : 0 ≤ X) (X1 : X ≤ 1023) (hY : bits .and .i64 x 3 = (y : Int)) (hy : y < 4) :
    Calls Try.prog 5 #[.int .i64 which, .int .i64 x] w fun e w' => e = .returned (.bool true) ∧ Le w w' := by
  have hbad : mayR ⟨0, 0, 0, zs3⟩ = false := bad_len (by decide)
  have k1 := reserveAs (reserve_bad (k := 1) hbad) fit3
  have k2 := publishAs (publish_bad (p := 0) (c := 0) (r := 0) (a := 0) (t := 0) hbad) fit3
  have k3 := entryAs (entry_bad (p := 0) hbad) fit3
  have k4 := freeAs (free_bad (p := 0) hbad) fit3
  have k5 := mayAs hbad fit3
  have k6 := mayAs may4 fit4
  clear hbad
  go_enter Try.func5, Try.ntmps5
  go_wp2_with fail
  refine (lawAwake10 _).mono ?_
  rintro e w1 ⟨rfl, l1⟩
  go_wp2_with fail
  refine (refNewAs new4 _).mono ?_
  rintro e w2 ⟨q, rfl, o2, l2⟩
  have hgs : w.heap.size ≤ w1.heap.size := l1.size
  have hgs2 : w1.heap.size ≤ w2.heap.size := l2.size
  have hl := (l1.trans l2).trans (Le.alloc w2 (.cells (cellsR 0 0 0 q) 24))
  have hbr := Box.new w2 (cellsR 0 0 0 q) 24
  have hq := o2.le (Le.alloc w2 (.cells (cellsR 0 0 0 q) 24))
  clear l1 l2
  go_wp2_with fail
  refine (lawCopyRing 0 0 0 q zs4 _ hq.has fit4).mono ?_
  rintro e w3 ⟨u, rfl, o3, l3⟩
  have a3 := Le.alloc w3 (.cells (cellsR 0 0 0 u) 24)
  have hbg := Box.new w3 (cellsR 0 0 0 u) 24
  have hgs3 : w2.heap.size < w3.heap.size := (hbr.le l3).lt
  replace hbr := (hbr.le l3).le a3
  replace hq := (hq.le l3).le a3
  have hu := o3.le a3
  replace hl := (hl.trans l3).trans a3
  simp only [World.size_alloc] at hu
  obtain ⟨g, cap, rfl, hg, hcap⟩ := o2.shape (by decide)
  have hg2 := (OwnL.block o2 (g := g) rfl).2
  clear l3 a3 o3 o2
  replace hcap : 4 ≤ cap := hcap
  go_upto_region 6 with fail
  generalize hW : w3.alloc (.cells (cellsR 0 0 0 u) 24) = W at hl hbr hbg hq hu ⊢
  clear hW
  obtain ⟨r0, r1, r2, r3, f0, f1, f2, f3⟩ := hbr.ring
  replace r3 : W.cell? ⟨w2.heap.size, 3, none⟩ = some (.slice (some ⟨g, 0, none⟩) 4 cap) := r3
  have hc1 : ¬ (cap : Int) < 3 := by omega
  have hc2 : (3 : Int) ≤ (cap : Int) := by omega
  have hc3 : 3 ≤ cap := by omega
  go_upto_region 31 with fail
  have hbr' : Box (W.setCell ⟨w2.heap.size, 3, none⟩ (.slice (some ⟨g, 0, none⟩) 3 cap)) w2.heap.size (cellsR 0 0 0 (some ⟨g, 0, none⟩, 3, cap)) 24 := (hbr.set 3 (.slice (some ⟨g, 0, none⟩) 3 cap))
  have hq' : HasL (W.setCell ⟨w2.heap.size, 3, none⟩ (.slice (some ⟨g, 0, none⟩) 3 cap)) (slV (some ⟨g, 0, none⟩, 3, cap)) zs3 := has_three ((hq.setBox (i := 3) (u := .slice (some ⟨g, 0, none⟩) 3 cap) hbr (by decide))) 
  have hu' : HasL (W.setCell ⟨w2.heap.size, 3, none⟩ (.slice (some ⟨g, 0, none⟩) 3 cap)) (slV u) zs4 := OwnL.has (hu.setBox (i := 3) (u := .slice (some ⟨g, 0, none⟩) 3 cap) hbr (by decide))
  have hbg' := (hbg.other (g' := w2.heap.size) (by omega) 3 (.slice (some ⟨g, 0, none⟩) 3 cap))
  have hl' := (hl.set (g := w2.heap.size) (i := 3) (u := .slice (some ⟨g, 0, none⟩) 3 cap) (by omega))
  generalize hW : (W.setCell ⟨w2.heap.size, 3, none⟩ (.slice (some ⟨g, 0, none⟩) 3 cap)) = V at hbr' hbg' hq' hu' hl' ⊢
  clear hW hbr hbg hq hu hl r0 r1 r2 r3 f0 f1 f2 f3 hc1 hc2 hc3
  obtain ⟨r0, r1, r2, r3, _, _, _, _⟩ := hbr'.ring
  go_wp2_with fail
  refine (k1 (some ⟨g, 0, none⟩, 3, cap) _ hq').mono ?_
  rintro e w11 ⟨q11, rfl, o11, l11⟩
  replace l11 := l11.trans (Le.alloc w11 (.cells (cellsR 0 0 0 q11) 24))
  replace hbr' := hbr'.le l11
  replace hbg' := hbg'.le l11
  replace hq' := hq'.le l11
  replace hu' := hu'.le l11
  replace hl' := hl'.trans l11
  clear l11 o11 r0 r1 r2 r3
  go_upto_region 32 with fail
  generalize hW : w11.alloc (.cells (cellsR 0 0 0 q11) 24) = V11 at hbr' hbg' hq' hu' hl' ⊢
  clear hW
  obtain ⟨r0, r1, r2, r3, _, _, _, _⟩ := hbr'.ring
  go_wp2_with fail
  refine (k2 (some ⟨g, 0, none⟩, 3, cap) _ hq').mono ?_
  rintro e w12 ⟨q12, rfl, o12, l12⟩
  replace l12 := l12.trans (Le.alloc w12 (.cells (cellsR 0 0 0 q12) 24))
  replace hbr' := hbr'.le l12
  replace hbg' := hbg'.le l12
  replace hq' := hq'.le l12
  replace hu' := hu'.le l12
  replace hl' := hl'.trans l12
  clear l12 o12 r0 r1 r2 r3
  go_upto_region 33 with fail
  generalize hW : w12.alloc (.cells (cellsR 0 0 0 q12) 24) = V12 at hbr' hbg' hq' hu' hl' ⊢
  clear hW
  obtain ⟨r0, r1, r2, r3, _, _, _, _⟩ := hbr'.ring
  go_wp2_with fail
  refine (k3 (some ⟨g, 0, none⟩, 3, cap) _ hq').mono ?_
  rintro e w13 ⟨rfl, l13⟩
  replace l13 := l13.trans (Le.alloc w13 (.cells (#[.int .i64 0, .int .i64 0, .int .i64 0, .int .i64 0, .int .i64 0]) 38))
  replace hbr' := hbr'.le l13
  replace hbg' := hbg'.le l13
  replace hq' := hq'.le l13
  replace hu' := hu'.le l13
  replace hl' := hl'.trans l13
  clear l13  r0 r1 r2 r3
  go_upto_region 34 with fail
  generalize hW : w13.alloc (.cells (#[.int .i64 0, .int .i64 0, .int .i64 0, .int .i64 0, .int .i64 0]) 38) = V13 at hbr' hbg' hq' hu' hl' ⊢
  clear hW
  obtain ⟨r0, r1, r2, r3, _, _, _, _⟩ := hbr'.ring
  go_wp2_with fail
  refine (k4 (some ⟨g, 0, none⟩, 3, cap) _ hq').mono ?_
  rintro e w14 ⟨q14, rfl, o14, l14⟩
  replace l14 := l14.trans (Le.alloc w14 (.cells (cellsR 0 0 0 q14) 24))
  replace hbr' := hbr'.le l14
  replace hbg' := hbg'.le l14
  replace hq' := hq'.le l14
  replace hu' := hu'.le l14
  replace hl' := hl'.trans l14
  clear l14 o14 r0 r1 r2 r3
  go_upto_region 35 with fail
  generalize hW : w14.alloc (.cells (cellsR 0 0 0 q14) 24) = V14 at hbr' hbg' hq' hu' hl' ⊢
  clear hW
  obtain ⟨r0, r1, r2, r3, _, _, _, _⟩ := hbr'.ring
  go_wp2_with fail
  refine (k5 (some ⟨g, 0, none⟩, 3, cap) _ hq').mono ?_
  rintro e w15 ⟨rfl, l15⟩
  clear r0 r1 r2 r3
  obtain ⟨r0, r1, r2, r3, _, _, _, _⟩ := (hbg'.le l15).ring
  go_wp2_with fail
  refine (k6 u _ (hu'.le l15)).mono ?_
  rintro e w16 ⟨rfl, l16⟩
  go_wp2_with (go_at_call 21; refine (lawNum _ _).mono ?_; rintro e _ ⟨rfl, rfl⟩)
  go_ret
  exact ⟨rfl, (hl'.trans l15).trans l16⟩

set_option linter.unusedVariables false in
set_option maxRecDepth 20000 in
set_option maxHeartbeats 4000000 in
theorem lawRForms1 (w : World) (which x X : Int) (y : Nat) (hw : (IntKind.u64.wrap which).tmod 12 = 1) (hX : bits .and .i64 x 1023 = X) (X0 : 0 ≤ X) (X1 : X ≤ 1023) (hY : bits .and .i64 x 3 = (y : Int)) (hy : y < 4) :
    Calls Try.prog 5 #[.int .i64 which, .int .i64 x] w fun e w' => e = .returned (.bool true) ∧ Le w w' := by
  have hbad : mayR ⟨0, 0, 0, []⟩ = false := bad_len (by decide)
  have k1 := reserveAs (reserve_bad (k := 1) hbad) fit0
  have k2 := publishAs (publish_bad (p := 0) (c := 0) (r := 0) (a := 0) (t := 0) hbad) fit0
  have k3 := entryAs (entry_bad (p := 0) hbad) fit0
  have k4 := freeAs (free_bad (p := 0) hbad) fit0
  have k5 := mayAs hbad fit0
  have k6 := mayAs may4 fit4
  clear hbad
  go_enter Try.func5, Try.ntmps5
  go_wp2_with fail
  refine (lawAwake10 _).mono ?_
  rintro e w1 ⟨rfl, l1⟩
  go_wp2_with fail
  refine (refNewAs new4 _).mono ?_
  rintro e w2 ⟨q, rfl, o2, l2⟩
  have hgs : w.heap.size ≤ w1.heap.size := l1.size
  have hgs2 : w1.heap.size ≤ w2.heap.size := l2.size
  have hl := (l1.trans l2).trans (Le.alloc w2 (.cells (cellsR 0 0 0 q) 24))
  have hbr := Box.new w2 (cellsR 0 0 0 q) 24
  have hq := o2.le (Le.alloc w2 (.cells (cellsR 0 0 0 q) 24))
  clear l1 l2
  go_wp2_with fail
  refine (lawCopyRing 0 0 0 q zs4 _ hq.has fit4).mono ?_
  rintro e w3 ⟨u, rfl, o3, l3⟩
  have a3 := Le.alloc w3 (.cells (cellsR 0 0 0 u) 24)
  have hbg := Box.new w3 (cellsR 0 0 0 u) 24
  have hgs3 : w2.heap.size < w3.heap.size := (hbr.le l3).lt
  replace hbr := (hbr.le l3).le a3
  replace hq := (hq.le l3).le a3
  have hu := o3.le a3
  replace hl := (hl.trans l3).trans a3
  simp only [World.size_alloc] at hu
  obtain ⟨g, cap, rfl, hg, hcap⟩ := o2.shape (by decide)
  have hg2 := (OwnL.block o2 (g := g) rfl).2
  clear l3 a3 o3 o2
  replace hcap : 4 ≤ cap := hcap
  go_upto_region 6 with fail
  generalize hW : w3.alloc (.cells (cellsR 0 0 0 u) 24) = W at hl hbr hbg hq hu ⊢
  clear hW
  obtain ⟨r0, r1, r2, r3, f0, f1, f2, f3⟩ := hbr.ring
  replace r3 : W.cell? ⟨w2.heap.size, 3, none⟩ = some (.slice (some ⟨g, 0, none⟩) 4 cap) := r3
  go_upto_region 31 with fail
  have hbr' : Box (W.setCell ⟨w2.heap.size, 3, none⟩ (.slice none 0 0)) w2.heap.size (cellsR 0 0 0 slZ) 24 := (hbr.set 3 (.slice none 0 0))
  have hq' : HasL (W.setCell ⟨w2.heap.size, 3, none⟩ (.slice none 0 0)) (slV slZ) [] := HasL.nil _
  have hu' : HasL (W.setCell ⟨w2.heap.size, 3, none⟩ (.slice none 0 0)) (slV u) zs4 := OwnL.has (hu.setBox (i := 3) (u := .slice none 0 0) hbr (by decide))
  have hbg' := (hbg.other (g' := w2.heap.size) (by omega) 3 (.slice none 0 0))
  have hl' := (hl.set (g := w2.heap.size) (i := 3) (u := .slice none 0 0) (by omega))
  generalize hW : (W.setCell ⟨w2.heap.size, 3, none⟩ (.slice none 0 0)) = V at hbr' hbg' hq' hu' hl' ⊢
  clear hW hbr hbg hq hu hl r0 r1 r2 r3 f0 f1 f2 f3
  obtain ⟨r0, r1, r2, r3, _, _, _, _⟩ := hbr'.ring
  go_wp2_with fail
  refine (k1 slZ _ hq').mono ?_
  rintro e w11 ⟨q11, rfl, o11, l11⟩
  replace l11 := l11.trans (Le.alloc w11 (.cells (cellsR 0 0 0 q11) 24))
  replace hbr' := hbr'.le l11
  replace hbg' := hbg'.le l11
  replace hq' := hq'.le l11
  replace hu' := hu'.le l11
  replace hl' := hl'.trans l11
  clear l11 o11 r0 r1 r2 r3
  go_upto_region 32 with fail
  generalize hW : w11.alloc (.cells (cellsR 0 0 0 q11) 24) = V11 at hbr' hbg' hq' hu' hl' ⊢
  clear hW
  obtain ⟨r0, r1, r2, r3, _, _, _, _⟩ := hbr'.ring
  go_wp2_with fail
  refine (k2 slZ _ hq').mono ?_
  rintro e w12 ⟨q12, rfl, o12, l12⟩
  replace l12 := l12.trans (Le.alloc w12 (.cells (cellsR 0 0 0 q12) 24))
  replace hbr' := hbr'.le l12
  replace hbg' := hbg'.le l12
  replace hq' := hq'.le l12
  replace hu' := hu'.le l12
  replace hl' := hl'.trans l12
  clear l12 o12 r0 r1 r2 r3
  go_upto_region 33 with fail
  generalize hW : w12.alloc (.cells (cellsR 0 0 0 q12) 24) = V12 at hbr' hbg' hq' hu' hl' ⊢
  clear hW
  obtain ⟨r0, r1, r2, r3, _, _, _, _⟩ := hbr'.ring
  go_wp2_with fail
  refine (k3 slZ _ hq').mono ?_
  rintro e w13 ⟨rfl, l13⟩
  replace l13 := l13.trans (Le.alloc w13 (.cells (#[.int .i64 0, .int .i64 0, .int .i64 0, .int .i64 0, .int .i64 0]) 38))
  replace hbr' := hbr'.le l13
  replace hbg' := hbg'.le l13
  replace hq' := hq'.le l13
  replace hu' := hu'.le l13
  replace hl' := hl'.trans l13
  clear l13  r0 r1 r2 r3
  go_upto_region 34 with fail
  generalize hW : w13.alloc (.cells (#[.int .i64 0, .int .i64 0, .int .i64 0, .int .i64 0, .int .i64 0]) 38) = V13 at hbr' hbg' hq' hu' hl' ⊢
  clear hW
  obtain ⟨r0, r1, r2, r3, _, _, _, _⟩ := hbr'.ring
  go_wp2_with fail
  refine (k4 slZ _ hq').mono ?_
  rintro e w14 ⟨q14, rfl, o14, l14⟩
  replace l14 := l14.trans (Le.alloc w14 (.cells (cellsR 0 0 0 q14) 24))
  replace hbr' := hbr'.le l14
  replace hbg' := hbg'.le l14
  replace hq' := hq'.le l14
  replace hu' := hu'.le l14
  replace hl' := hl'.trans l14
  clear l14 o14 r0 r1 r2 r3
  go_upto_region 35 with fail
  generalize hW : w14.alloc (.cells (cellsR 0 0 0 q14) 24) = V14 at hbr' hbg' hq' hu' hl' ⊢
  clear hW
  obtain ⟨r0, r1, r2, r3, _, _, _, _⟩ := hbr'.ring
  go_wp2_with fail
  refine (k5 slZ _ hq').mono ?_
  rintro e w15 ⟨rfl, l15⟩
  clear r0 r1 r2 r3
  obtain ⟨r0, r1, r2, r3, _, _, _, _⟩ := (hbg'.le l15).ring
  go_wp2_with fail
  refine (k6 u _ (hu'.le l15)).mono ?_
  rintro e w16 ⟨rfl, l16⟩
  go_wp2_with (go_at_call 21; refine (lawNum _ _).mono ?_; rintro e _ ⟨rfl, rfl⟩)
  go_ret
  exact ⟨rfl, (hl'.trans l15).trans l16⟩

set_option linter.unusedVariables false in
set_option maxRecDepth 20000 in
set_option maxHeartbeats 4000000 in
theorem lawRForms2 (w : World) (which x X : Int) (y : Nat) (hw : (IntKind.u64.wrap which).tmod 12 = 2) (hX : bits .and .i64 x 1023 = X) (X0 : 0 ≤ X) (X1 : X ≤ 1023) (hY : bits .and .i64 x 3 = (y : Int)) (hy : y < 4) :
    Calls Try.prog 5 #[.int .i64 which, .int .i64 x] w fun e w' => e = .returned (.bool true) ∧ Le w w' := by
  have hbad : mayR ⟨(-(1 + X)), 0, 0, zs4⟩ = false := bad_places (by omega)
  have k1 := reserveAs (reserve_bad (k := 1) hbad) fit4
  have k2 := publishAs (publish_bad (p := 0) (c := 0) (r := 0) (a := 0) (t := 0) hbad) fit4
  have k3 := entryAs (entry_bad (p := 0) hbad) fit4
  have k4 := freeAs (free_bad (p := 0) hbad) fit4
  have k5 := mayAs hbad fit4
  have k6 := mayAs may4 fit4
  clear hbad
  go_enter Try.func5, Try.ntmps5
  go_wp2_with fail
  refine (lawAwake10 _).mono ?_
  rintro e w1 ⟨rfl, l1⟩
  go_wp2_with fail
  refine (refNewAs new4 _).mono ?_
  rintro e w2 ⟨q, rfl, o2, l2⟩
  have hgs : w.heap.size ≤ w1.heap.size := l1.size
  have hgs2 : w1.heap.size ≤ w2.heap.size := l2.size
  have hl := (l1.trans l2).trans (Le.alloc w2 (.cells (cellsR 0 0 0 q) 24))
  have hbr := Box.new w2 (cellsR 0 0 0 q) 24
  have hq := o2.le (Le.alloc w2 (.cells (cellsR 0 0 0 q) 24))
  clear l1 l2
  go_wp2_with fail
  refine (lawCopyRing 0 0 0 q zs4 _ hq.has fit4).mono ?_
  rintro e w3 ⟨u, rfl, o3, l3⟩
  have a3 := Le.alloc w3 (.cells (cellsR 0 0 0 u) 24)
  have hbg := Box.new w3 (cellsR 0 0 0 u) 24
  have hgs3 : w2.heap.size < w3.heap.size := (hbr.le l3).lt
  replace hbr := (hbr.le l3).le a3
  replace hq := (hq.le l3).le a3
  have hu := o3.le a3
  replace hl := (hl.trans l3).trans a3
  simp only [World.size_alloc] at hu
  obtain ⟨g, cap, rfl, hg, hcap⟩ := o2.shape (by decide)
  have hg2 := (OwnL.block o2 (g := g) rfl).2
  clear l3 a3 o3 o2
  replace hcap : 4 ≤ cap := hcap
  go_upto_region 6 with fail
  generalize hW : w3.alloc (.cells (cellsR 0 0 0 u) 24) = W at hl hbr hbg hq hu ⊢
  clear hW
  obtain ⟨r0, r1, r2, r3, f0, f1, f2, f3⟩ := hbr.ring
  replace r3 : W.cell? ⟨w2.heap.size, 3, none⟩ = some (.slice (some ⟨g, 0, none⟩) 4 cap) := r3
  go_upto_region 31 with fail
  have hbr' : Box (W.setCell ⟨w2.heap.size, 0, none⟩ (.int .i64 (-(1 + X)))) w2.heap.size (cellsR (-(1 + X)) 0 0 (some ⟨g, 0, none⟩, 4, cap)) 24 := (hbr.set 0 (.int .i64 (-(1 + X))))
  have hq' : HasL (W.setCell ⟨w2.heap.size, 0, none⟩ (.int .i64 (-(1 + X)))) (slV (some ⟨g, 0, none⟩, 4, cap)) zs4 := OwnL.has (hq.setBox (i := 0) (u := .int .i64 (-(1 + X))) hbr (by decide))
  have hu' : HasL (W.setCell ⟨w2.heap.size, 0, none⟩ (.int .i64 (-(1 + X)))) (slV u) zs4 := OwnL.has (hu.setBox (i := 0) (u := .int .i64 (-(1 + X))) hbr (by decide))
  have hbg' := (hbg.other (g' := w2.heap.size) (by omega) 0 (.int .i64 (-(1 + X))))
  have hl' := (hl.set (g := w2.heap.size) (i := 0) (u := .int .i64 (-(1 + X))) (by omega))
  generalize hW : (W.setCell ⟨w2.heap.size, 0, none⟩ (.int .i64 (-(1 + X)))) = V at hbr' hbg' hq' hu' hl' ⊢
  clear hW hbr hbg hq hu hl r0 r1 r2 r3 f0 f1 f2 f3
  obtain ⟨r0, r1, r2, r3, _, _, _, _⟩ := hbr'.ring
  go_wp2_with fail
  refine (k1 (some ⟨g, 0, none⟩, 4, cap) _ hq').mono ?_
  rintro e w11 ⟨q11, rfl, o11, l11⟩
  replace l11 := l11.trans (Le.alloc w11 (.cells (cellsR 0 0 0 q11) 24))
  replace hbr' := hbr'.le l11
  replace hbg' := hbg'.le l11
  replace hq' := hq'.le l11
  replace hu' := hu'.le l11
  replace hl' := hl'.trans l11
  clear l11 o11 r0 r1 r2 r3
  go_upto_region 32 with fail
  generalize hW : w11.alloc (.cells (cellsR 0 0 0 q11) 24) = V11 at hbr' hbg' hq' hu' hl' ⊢
  clear hW
  obtain ⟨r0, r1, r2, r3, _, _, _, _⟩ := hbr'.ring
  go_wp2_with fail
  refine (k2 (some ⟨g, 0, none⟩, 4, cap) _ hq').mono ?_
  rintro e w12 ⟨q12, rfl, o12, l12⟩
  replace l12 := l12.trans (Le.alloc w12 (.cells (cellsR 0 0 0 q12) 24))
  replace hbr' := hbr'.le l12
  replace hbg' := hbg'.le l12
  replace hq' := hq'.le l12
  replace hu' := hu'.le l12
  replace hl' := hl'.trans l12
  clear l12 o12 r0 r1 r2 r3
  go_upto_region 33 with fail
  generalize hW : w12.alloc (.cells (cellsR 0 0 0 q12) 24) = V12 at hbr' hbg' hq' hu' hl' ⊢
  clear hW
  obtain ⟨r0, r1, r2, r3, _, _, _, _⟩ := hbr'.ring
  go_wp2_with fail
  refine (k3 (some ⟨g, 0, none⟩, 4, cap) _ hq').mono ?_
  rintro e w13 ⟨rfl, l13⟩
  replace l13 := l13.trans (Le.alloc w13 (.cells (#[.int .i64 0, .int .i64 0, .int .i64 0, .int .i64 0, .int .i64 0]) 38))
  replace hbr' := hbr'.le l13
  replace hbg' := hbg'.le l13
  replace hq' := hq'.le l13
  replace hu' := hu'.le l13
  replace hl' := hl'.trans l13
  clear l13  r0 r1 r2 r3
  go_upto_region 34 with fail
  generalize hW : w13.alloc (.cells (#[.int .i64 0, .int .i64 0, .int .i64 0, .int .i64 0, .int .i64 0]) 38) = V13 at hbr' hbg' hq' hu' hl' ⊢
  clear hW
  obtain ⟨r0, r1, r2, r3, _, _, _, _⟩ := hbr'.ring
  go_wp2_with fail
  refine (k4 (some ⟨g, 0, none⟩, 4, cap) _ hq').mono ?_
  rintro e w14 ⟨q14, rfl, o14, l14⟩
  replace l14 := l14.trans (Le.alloc w14 (.cells (cellsR 0 0 0 q14) 24))
  replace hbr' := hbr'.le l14
  replace hbg' := hbg'.le l14
  replace hq' := hq'.le l14
  replace hu' := hu'.le l14
  replace hl' := hl'.trans l14
  clear l14 o14 r0 r1 r2 r3
  go_upto_region 35 with fail
  generalize hW : w14.alloc (.cells (cellsR 0 0 0 q14) 24) = V14 at hbr' hbg' hq' hu' hl' ⊢
  clear hW
  obtain ⟨r0, r1, r2, r3, _, _, _, _⟩ := hbr'.ring
  go_wp2_with fail
  refine (k5 (some ⟨g, 0, none⟩, 4, cap) _ hq').mono ?_
  rintro e w15 ⟨rfl, l15⟩
  clear r0 r1 r2 r3
  obtain ⟨r0, r1, r2, r3, _, _, _, _⟩ := (hbg'.le l15).ring
  go_wp2_with fail
  refine (k6 u _ (hu'.le l15)).mono ?_
  rintro e w16 ⟨rfl, l16⟩
  go_wp2_with (go_at_call 21; refine (lawNum _ _).mono ?_; rintro e _ ⟨rfl, rfl⟩)
  go_ret
  exact ⟨rfl, (hl'.trans l15).trans l16⟩

set_option linter.unusedVariables false in
set_option maxRecDepth 20000 in
set_option maxHeartbeats 4000000 in
theorem lawRForms3 (w : World) (which x X : Int) (y : Nat) (hw : (IntKind.u64.wrap which).tmod 12 = 3) (hX : bits .and .i64 x 1023 = X) (X0 : 0 ≤ X) (X1 : X ≤ 1023) (hY : bits .and .i64 x 3 = (y : Int)) (hy : y < 4) :
    Calls Try.prog 5 #[.int .i64 which, .int .i64 x] w fun e w' => e = .returned (.bool true) ∧ Le w w' := by
  have hbad : mayR ⟨(1 + X), 0, 0, zs4⟩ = false := bad_places (by omega)
  have k1 := reserveAs (reserve_bad (k := 1) hbad) fit4
  have k2 := publishAs (publish_bad (p := 0) (c := 0) (r := 0) (a := 0) (t := 0) hbad) fit4
  have k3 := entryAs (entry_bad (p := 0) hbad) fit4
  have k4 := freeAs (free_bad (p := 0) hbad) fit4
  have k5 := mayAs hbad fit4
  have k6 := mayAs may4 fit4
  clear hbad
  go_enter Try.func5, Try.ntmps5
  go_wp2_with fail
  refine (lawAwake10 _).mono ?_
  rintro e w1 ⟨rfl, l1⟩
  go_wp2_with fail
  refine (refNewAs new4 _).mono ?_
  rintro e w2 ⟨q, rfl, o2, l2⟩
  have hgs : w.heap.size ≤ w1.heap.size := l1.size
  have hgs2 : w1.heap.size ≤ w2.heap.size := l2.size
  have hl := (l1.trans l2).trans (Le.alloc w2 (.cells (cellsR 0 0 0 q) 24))
  have hbr := Box.new w2 (cellsR 0 0 0 q) 24
  have hq := o2.le (Le.alloc w2 (.cells (cellsR 0 0 0 q) 24))
  clear l1 l2
  go_wp2_with fail
  refine (lawCopyRing 0 0 0 q zs4 _ hq.has fit4).mono ?_
  rintro e w3 ⟨u, rfl, o3, l3⟩
  have a3 := Le.alloc w3 (.cells (cellsR 0 0 0 u) 24)
  have hbg := Box.new w3 (cellsR 0 0 0 u) 24
  have hgs3 : w2.heap.size < w3.heap.size := (hbr.le l3).lt
  replace hbr := (hbr.le l3).le a3
  replace hq := (hq.le l3).le a3
  have hu := o3.le a3
  replace hl := (hl.trans l3).trans a3
  simp only [World.size_alloc] at hu
  obtain ⟨g, cap, rfl, hg, hcap⟩ := o2.shape (by decide)
  have hg2 := (OwnL.block o2 (g := g) rfl).2
  clear l3 a3 o3 o2
  replace hcap : 4 ≤ cap := hcap
  go_upto_region 6 with fail
  generalize hW : w3.alloc (.cells (cellsR 0 0 0 u) 24) = W at hl hbr hbg hq hu ⊢
  clear hW
  obtain ⟨r0, r1, r2, r3, f0, f1, f2, f3⟩ := hbr.ring
  replace r3 : W.cell? ⟨w2.heap.size, 3, none⟩ = some (.slice (some ⟨g, 0, none⟩) 4 cap) := r3
  go_upto_region 31 with fail
  have hbr' : Box (W.setCell ⟨w2.heap.size, 0, none⟩ (.int .i64 (1 + X))) w2.heap.size (cellsR (1 + X) 0 0 (some ⟨g, 0, none⟩, 4, cap)) 24 := (hbr.set 0 (.int .i64 (1 + X)))
  have hq' : HasL (W.setCell ⟨w2.heap.size, 0, none⟩ (.int .i64 (1 + X))) (slV (some ⟨g, 0, none⟩, 4, cap)) zs4 := OwnL.has (hq.setBox (i := 0) (u := .int .i64 (1 + X)) hbr (by decide))
  have hu' : HasL (W.setCell ⟨w2.heap.size, 0, none⟩ (.int .i64 (1 + X))) (slV u) zs4 := OwnL.has (hu.setBox (i := 0) (u := .int .i64 (1 + X)) hbr (by decide))
  have hbg' := (hbg.other (g' := w2.heap.size) (by omega) 0 (.int .i64 (1 + X)))
  have hl' := (hl.set (g := w2.heap.size) (i := 0) (u := .int .i64 (1 + X)) (by omega))
  generalize hW : (W.setCell ⟨w2.heap.size, 0, none⟩ (.int .i64 (1 + X))) = V at hbr' hbg' hq' hu' hl' ⊢
  clear hW hbr hbg hq hu hl r0 r1 r2 r3 f0 f1 f2 f3
  obtain ⟨r0, r1, r2, r3, _, _, _, _⟩ := hbr'.ring
  go_wp2_with fail
  refine (k1 (some ⟨g, 0, none⟩, 4, cap) _ hq').mono ?_
  rintro e w11 ⟨q11, rfl, o11, l11⟩
  replace l11 := l11.trans (Le.alloc w11 (.cells (cellsR 0 0 0 q11) 24))
  replace hbr' := hbr'.le l11
  replace hbg' := hbg'.le l11
  replace hq' := hq'.le l11
  replace hu' := hu'.le l11
  replace hl' := hl'.trans l11
  clear l11 o11 r0 r1 r2 r3
  go_upto_region 32 with fail
  generalize hW : w11.alloc (.cells (cellsR 0 0 0 q11) 24) = V11 at hbr' hbg' hq' hu' hl' ⊢
  clear hW
  obtain ⟨r0, r1, r2, r3, _, _, _, _⟩ := hbr'.ring
  go_wp2_with fail
  refine (k2 (some ⟨g, 0, none⟩, 4, cap) _ hq').mono ?_
  rintro e w12 ⟨q12, rfl, o12, l12⟩
  replace l12 := l12.trans (Le.alloc w12 (.cells (cellsR 0 0 0 q12) 24))
  replace hbr' := hbr'.le l12
  replace hbg' := hbg'.le l12
  replace hq' := hq'.le l12
  replace hu' := hu'.le l12
  replace hl' := hl'.trans l12
  clear l12 o12 r0 r1 r2 r3
  go_upto_region 33 with fail
  generalize hW : w12.alloc (.cells (cellsR 0 0 0 q12) 24) = V12 at hbr' hbg' hq' hu' hl' ⊢
  clear hW
  obtain ⟨r0, r1, r2, r3, _, _, _, _⟩ := hbr'.ring
  go_wp2_with fail
  refine (k3 (some ⟨g, 0, none⟩, 4, cap) _ hq').mono ?_
  rintro e w13 ⟨rfl, l13⟩
  replace l13 := l13.trans (Le.alloc w13 (.cells (#[.int .i64 0, .int .i64 0, .int .i64 0, .int .i64 0, .int .i64 0]) 38))
  replace hbr' := hbr'.le l13
  replace hbg' := hbg'.le l13
  replace hq' := hq'.le l13
  replace hu' := hu'.le l13
  replace hl' := hl'.trans l13
  clear l13  r0 r1 r2 r3
  go_upto_region 34 with fail
  generalize hW : w13.alloc (.cells (#[.int .i64 0, .int .i64 0, .int .i64 0, .int .i64 0, .int .i64 0]) 38) = V13 at hbr' hbg' hq' hu' hl' ⊢
  clear hW
  obtain ⟨r0, r1, r2, r3, _, _, _, _⟩ := hbr'.ring
  go_wp2_with fail
  refine (k4 (some ⟨g, 0, none⟩, 4, cap) _ hq').mono ?_
  rintro e w14 ⟨q14, rfl, o14, l14⟩
  replace l14 := l14.trans (Le.alloc w14 (.cells (cellsR 0 0 0 q14) 24))
  replace hbr' := hbr'.le l14
  replace hbg' := hbg'.le l14
  replace hq' := hq'.le l14
  replace hu' := hu'.le l14
  replace hl' := hl'.trans l14
  clear l14 o14 r0 r1 r2 r3
  go_upto_region 35 with fail
  generalize hW : w14.alloc (.cells (cellsR 0 0 0 q14) 24) = V14 at hbr' hbg' hq' hu' hl' ⊢
  clear hW
  obtain ⟨r0, r1, r2, r3, _, _, _, _⟩ := hbr'.ring
  go_wp2_with fail
  refine (k5 (some ⟨g, 0, none⟩, 4, cap) _ hq').mono ?_
  rintro e w15 ⟨rfl, l15⟩
  clear r0 r1 r2 r3
  obtain ⟨r0, r1, r2, r3, _, _, _, _⟩ := (hbg'.le l15).ring
  go_wp2_with fail
  refine (k6 u _ (hu'.le l15)).mono ?_
  rintro e w16 ⟨rfl, l16⟩
  go_wp2_with (go_at_call 21; refine (lawNum _ _).mono ?_; rintro e _ ⟨rfl, rfl⟩)
  go_ret
  exact ⟨rfl, (hl'.trans l15).trans l16⟩

set_option linter.unusedVariables false in
set_option maxRecDepth 20000 in
set_option maxHeartbeats 4000000 in
theorem lawRForms4 (w : World) (which x X : Int) (y : Nat) (hw : (IntKind.u64.wrap which).tmod 12 = 4) (hX : bits .and .i64 x 1023 = X) (X0 : 0 ≤ X) (X1 : X ≤ 1023) (hY : bits .and .i64 x 3 = (y : Int)) (hy : y < 4) :
    Calls Try.prog 5 #[.int .i64 which, .int .i64 x] w fun e w' => e = .returned (.bool true) ∧ Le w w' := by
  have hbad : mayR ⟨0, (4 + (1 + X)), 0, zs4⟩ = false := bad_places (by omega)
  have k1 := reserveAs (reserve_bad (k := 1) hbad) fit4
  have k2 := publishAs (publish_bad (p := 0) (c := 0) (r := 0) (a := 0) (t := 0) hbad) fit4
  have k3 := entryAs (entry_bad (p := 0) hbad) fit4
  have k4 := freeAs (free_bad (p := 0) hbad) fit4
  have k5 := mayAs hbad fit4
  have k6 := mayAs may4 fit4
  clear hbad
  go_enter Try.func5, Try.ntmps5
  go_wp2_with fail
  refine (lawAwake10 _).mono ?_
  rintro e w1 ⟨rfl, l1⟩
  go_wp2_with fail
  refine (refNewAs new4 _).mono ?_
  rintro e w2 ⟨q, rfl, o2, l2⟩
  have hgs : w.heap.size ≤ w1.heap.size := l1.size
  have hgs2 : w1.heap.size ≤ w2.heap.size := l2.size
  have hl := (l1.trans l2).trans (Le.alloc w2 (.cells (cellsR 0 0 0 q) 24))
  have hbr := Box.new w2 (cellsR 0 0 0 q) 24
  have hq := o2.le (Le.alloc w2 (.cells (cellsR 0 0 0 q) 24))
  clear l1 l2
  go_wp2_with fail
  refine (lawCopyRing 0 0 0 q zs4 _ hq.has fit4).mono ?_
  rintro e w3 ⟨u, rfl, o3, l3⟩
  have a3 := Le.alloc w3 (.cells (cellsR 0 0 0 u) 24)
  have hbg := Box.new w3 (cellsR 0 0 0 u) 24
  have hgs3 : w2.heap.size < w3.heap.size := (hbr.le l3).lt
  replace hbr := (hbr.le l3).le a3
  replace hq := (hq.le l3).le a3
  have hu := o3.le a3
  replace hl := (hl.trans l3).trans a3
  simp only [World.size_alloc] at hu
  obtain ⟨g, cap, rfl, hg, hcap⟩ := o2.shape (by decide)
  have hg2 := (OwnL.block o2 (g := g) rfl).2
  clear l3 a3 o3 o2
  replace hcap : 4 ≤ cap := hcap
  go_upto_region 6 with fail
  generalize hW : w3.alloc (.cells (cellsR 0 0 0 u) 24) = W at hl hbr hbg hq hu ⊢
  clear hW
  obtain ⟨r0, r1, r2, r3, f0, f1, f2, f3⟩ := hbr.ring
  replace r3 : W.cell? ⟨w2.heap.size, 3, none⟩ = some (.slice (some ⟨g, 0, none⟩) 4 cap) := r3
  go_upto_region 31 with fail
  have hbr' : Box (W.setCell ⟨w2.heap.size, 1, none⟩ (.int .i64 (4 + (1 + X)))) w2.heap.size (cellsR 0 (4 + (1 + X)) 0 (some ⟨g, 0, none⟩, 4, cap)) 24 := (hbr.set 1 (.int .i64 (4 + (1 + X))))
  have hq' : HasL (W.setCell ⟨w2.heap.size, 1, none⟩ (.int .i64 (4 + (1 + X)))) (slV (some ⟨g, 0, none⟩, 4, cap)) zs4 := OwnL.has (hq.setBox (i := 1) (u := .int .i64 (4 + (1 + X))) hbr (by decide))
  have hu' : HasL (W.setCell ⟨w2.heap.size, 1, none⟩ (.int .i64 (4 + (1 + X)))) (slV u) zs4 := OwnL.has (hu.setBox (i := 1) (u := .int .i64 (4 + (1 + X))) hbr (by decide))
  have hbg' := (hbg.other (g' := w2.heap.size) (by omega) 1 (.int .i64 (4 + (1 + X))))
  have hl' := (hl.set (g := w2.heap.size) (i := 1) (u := .int .i64 (4 + (1 + X))) (by omega))
  generalize hW : (W.setCell ⟨w2.heap.size, 1, none⟩ (.int .i64 (4 + (1 + X)))) = V at hbr' hbg' hq' hu' hl' ⊢
  clear hW hbr hbg hq hu hl r0 r1 r2 r3 f0 f1 f2 f3
  obtain ⟨r0, r1, r2, r3, _, _, _, _⟩ := hbr'.ring
  go_wp2_with fail
  refine (k1 (some ⟨g, 0, none⟩, 4, cap) _ hq').mono ?_
  rintro e w11 ⟨q11, rfl, o11, l11⟩
  replace l11 := l11.trans (Le.alloc w11 (.cells (cellsR 0 0 0 q11) 24))
  replace hbr' := hbr'.le l11
  replace hbg' := hbg'.le l11
  replace hq' := hq'.le l11
  replace hu' := hu'.le l11
  replace hl' := hl'.trans l11
  clear l11 o11 r0 r1 r2 r3
  go_upto_region 32 with fail
  generalize hW : w11.alloc (.cells (cellsR 0 0 0 q11) 24) = V11 at hbr' hbg' hq' hu' hl' ⊢
  clear hW
  obtain ⟨r0, r1, r2, r3, _, _, _, _⟩ := hbr'.ring
  go_wp2_with fail
  refine (k2 (some ⟨g, 0, none⟩, 4, cap) _ hq').mono ?_
  rintro e w12 ⟨q12, rfl, o12, l12⟩
  replace l12 := l12.trans (Le.alloc w12 (.cells (cellsR 0 0 0 q12) 24))
  replace hbr' := hbr'.le l12
  replace hbg' := hbg'.le l12
  replace hq' := hq'.le l12
  replace hu' := hu'.le l12
  replace hl' := hl'.trans l12
  clear l12 o12 r0 r1 r2 r3
  go_upto_region 33 with fail
  generalize hW : w12.alloc (.cells (cellsR 0 0 0 q12) 24) = V12 at hbr' hbg' hq' hu' hl' ⊢
  clear hW
  obtain ⟨r0, r1, r2, r3, _, _, _, _⟩ := hbr'.ring
  go_wp2_with fail
  refine (k3 (some ⟨g, 0, none⟩, 4, cap) _ hq').mono ?_
  rintro e w13 ⟨rfl, l13⟩
  replace l13 := l13.trans (Le.alloc w13 (.cells (#[.int .i64 0, .int .i64 0, .int .i64 0, .int .i64 0, .int .i64 0]) 38))
  replace hbr' := hbr'.le l13
  replace hbg' := hbg'.le l13
  replace hq' := hq'.le l13
  replace hu' := hu'.le l13
  replace hl' := hl'.trans l13
  clear l13  r0 r1 r2 r3
  go_upto_region 34 with fail
  generalize hW : w13.alloc (.cells (#[.int .i64 0, .int .i64 0, .int .i64 0, .int .i64 0, .int .i64 0]) 38) = V13 at hbr' hbg' hq' hu' hl' ⊢
  clear hW
  obtain ⟨r0, r1, r2, r3, _, _, _, _⟩ := hbr'.ring
  go_wp2_with fail
  refine (k4 (some ⟨g, 0, none⟩, 4, cap) _ hq').mono ?_
  rintro e w14 ⟨q14, rfl, o14, l14⟩
  replace l14 := l14.trans (Le.alloc w14 (.cells (cellsR 0 0 0 q14) 24))
  replace hbr' := hbr'.le l14
  replace hbg' := hbg'.le l14
  replace hq' := hq'.le l14
  replace hu' := hu'.le l14
  replace hl' := hl'.trans l14
  clear l14 o14 r0 r1 r2 r3
  go_upto_region 35 with fail
  generalize hW : w14.alloc (.cells (cellsR 0 0 0 q14) 24) = V14 at hbr' hbg' hq' hu' hl' ⊢
  clear hW
  obtain ⟨r0, r1, r2, r3, _, _, _, _⟩ := hbr'.ring
  go_wp2_with fail
  refine (k5 (some ⟨g, 0, none⟩, 4, cap) _ hq').mono ?_
  rintro e w15 ⟨rfl, l15⟩
  clear r0 r1 r2 r3
  obtain ⟨r0, r1, r2, r3, _, _, _, _⟩ := (hbg'.le l15).ring
  go_wp2_with fail
  refine (k6 u _ (hu'.le l15)).mono ?_
  rintro e w16 ⟨rfl, l16⟩
  go_wp2_with (go_at_call 21; refine (lawNum _ _).mono ?_; rintro e _ ⟨rfl, rfl⟩)
  go_ret
  exact ⟨rfl, (hl'.trans l15).trans l16⟩

set_option linter.unusedVariables false in
set_option maxRecDepth 20000 in
set_option maxHeartbeats 4000000 in
theorem lawRForms5 (w : World) (which x X : Int) (y : Nat) (hw : (IntKind.u64.wrap which).tmod 12 = 5) (hX : bits .and .i64 x 1023 = X) (X0 : 0 ≤ X) (X1 : X ≤ 1023) (hY : bits .and .i64 x 3 = (y : Int)) (hy : y < 4) :
    Calls Try.prog 5 #[.int .i64 which, .int .i64 x] w fun e w' => e = .returned (.bool true) ∧ Le w w' := by
  have hbad : mayR ⟨0, 0, (-(1 + X)), zs4⟩ = false := bad_fence (by omega)
  have k1 := reserveAs (reserve_bad (k := 1) hbad) fit4
  have k2 := publishAs (publish_bad (p := 0) (c := 0) (r := 0) (a := 0) (t := 0) hbad) fit4
  have k3 := entryAs (entry_bad (p := 0) hbad) fit4
  have k4 := freeAs (free_bad (p := 0) hbad) fit4
  have k5 := mayAs hbad fit4
  have k6 := mayAs may4 fit4
  clear hbad
  go_enter Try.func5, Try.ntmps5
  go_wp2_with fail
  refine (lawAwake10 _).mono ?_
  rintro e w1 ⟨rfl, l1⟩
  go_wp2_with fail
  refine (refNewAs new4 _).mono ?_
  rintro e w2 ⟨q, rfl, o2, l2⟩
  have hgs : w.heap.size ≤ w1.heap.size := l1.size
  have hgs2 : w1.heap.size ≤ w2.heap.size := l2.size
  have hl := (l1.trans l2).trans (Le.alloc w2 (.cells (cellsR 0 0 0 q) 24))
  have hbr := Box.new w2 (cellsR 0 0 0 q) 24
  have hq := o2.le (Le.alloc w2 (.cells (cellsR 0 0 0 q) 24))
  clear l1 l2
  go_wp2_with fail
  refine (lawCopyRing 0 0 0 q zs4 _ hq.has fit4).mono ?_
  rintro e w3 ⟨u, rfl, o3, l3⟩
  have a3 := Le.alloc w3 (.cells (cellsR 0 0 0 u) 24)
  have hbg := Box.new w3 (cellsR 0 0 0 u) 24
  have hgs3 : w2.heap.size < w3.heap.size := (hbr.le l3).lt
  replace hbr := (hbr.le l3).le a3
  replace hq := (hq.le l3).le a3
  have hu := o3.le a3
  replace hl := (hl.trans l3).trans a3
  simp only [World.size_alloc] at hu
  obtain ⟨g, cap, rfl, hg, hcap⟩ := o2.shape (by decide)
  have hg2 := (OwnL.block o2 (g := g) rfl).2
  clear l3 a3 o3 o2
  replace hcap : 4 ≤ cap := hcap
  go_upto_region 6 with fail
  generalize hW : w3.alloc (.cells (cellsR 0 0 0 u) 24) = W at hl hbr hbg hq hu ⊢
  clear hW
  obtain ⟨r0, r1, r2, r3, f0, f1, f2, f3⟩ := hbr.ring
  replace r3 : W.cell? ⟨w2.heap.size, 3, none⟩ = some (.slice (some ⟨g, 0, none⟩) 4 cap) := r3
  go_upto_region 31 with fail
  have hbr' : Box (W.setCell ⟨w2.heap.size, 2, none⟩ (.int .i64 (-(1 + X)))) w2.heap.size (cellsR 0 0 (-(1 + X)) (some ⟨g, 0, none⟩, 4, cap)) 24 := (hbr.set 2 (.int .i64 (-(1 + X))))
  have hq' : HasL (W.setCell ⟨w2.heap.size, 2, none⟩ (.int .i64 (-(1 + X)))) (slV (some ⟨g, 0, none⟩, 4, cap)) zs4 := OwnL.has (hq.setBox (i := 2) (u := .int .i64 (-(1 + X))) hbr (by decide))
  have hu' : HasL (W.setCell ⟨w2.heap.size, 2, none⟩ (.int .i64 (-(1 + X)))) (slV u) zs4 := OwnL.has (hu.setBox (i := 2) (u := .int .i64 (-(1 + X))) hbr (by decide))
  have hbg' := (hbg.other (g' := w2.heap.size) (by omega) 2 (.int .i64 (-(1 + X))))
  have hl' := (hl.set (g := w2.heap.size) (i := 2) (u := .int .i64 (-(1 + X))) (by omega))
  generalize hW : (W.setCell ⟨w2.heap.size, 2, none⟩ (.int .i64 (-(1 + X)))) = V at hbr' hbg' hq' hu' hl' ⊢
  clear hW hbr hbg hq hu hl r0 r1 r2 r3 f0 f1 f2 f3
  obtain ⟨r0, r1, r2, r3, _, _, _, _⟩ := hbr'.ring
  go_wp2_with fail
  refine (k1 (some ⟨g, 0, none⟩, 4, cap) _ hq').mono ?_
  rintro e w11 ⟨q11, rfl, o11, l11⟩
  replace l11 := l11.trans (Le.alloc w11 (.cells (cellsR 0 0 0 q11) 24))
  replace hbr' := hbr'.le l11
  replace hbg' := hbg'.le l11
  replace hq' := hq'.le l11
  replace hu' := hu'.le l11
  replace hl' := hl'.trans l11
  clear l11 o11 r0 r1 r2 r3
  go_upto_region 32 with fail
  generalize hW : w11.alloc (.cells (cellsR 0 0 0 q11) 24) = V11 at hbr' hbg' hq' hu' hl' ⊢
  clear hW
  obtain ⟨r0, r1, r2, r3, _, _, _, _⟩ := hbr'.ring
  go_wp2_with fail
  refine (k2 (some ⟨g, 0, none⟩, 4, cap) _ hq').mono ?_
  rintro e w12 ⟨q12, rfl, o12, l12⟩
  replace l12 := l12.trans (Le.alloc w12 (.cells (cellsR 0 0 0 q12) 24))
  replace hbr' := hbr'.le l12
  replace hbg' := hbg'.le l12
  replace hq' := hq'.le l12
  replace hu' := hu'.le l12
  replace hl' := hl'.trans l12
  clear l12 o12 r0 r1 r2 r3
  go_upto_region 33 with fail
  generalize hW : w12.alloc (.cells (cellsR 0 0 0 q12) 24) = V12 at hbr' hbg' hq' hu' hl' ⊢
  clear hW
  obtain ⟨r0, r1, r2, r3, _, _, _, _⟩ := hbr'.ring
  go_wp2_with fail
  refine (k3 (some ⟨g, 0, none⟩, 4, cap) _ hq').mono ?_
  rintro e w13 ⟨rfl, l13⟩
  replace l13 := l13.trans (Le.alloc w13 (.cells (#[.int .i64 0, .int .i64 0, .int .i64 0, .int .i64 0, .int .i64 0]) 38))
  replace hbr' := hbr'.le l13
  replace hbg' := hbg'.le l13
  replace hq' := hq'.le l13
  replace hu' := hu'.le l13
  replace hl' := hl'.trans l13
  clear l13  r0 r1 r2 r3
  go_upto_region 34 with fail
  generalize hW : w13.alloc (.cells (#[.int .i64 0, .int .i64 0, .int .i64 0, .int .i64 0, .int .i64 0]) 38) = V13 at hbr' hbg' hq' hu' hl' ⊢
  clear hW
  obtain ⟨r0, r1, r2, r3, _, _, _, _⟩ := hbr'.ring
  go_wp2_with fail
  refine (k4 (some ⟨g, 0, none⟩, 4, cap) _ hq').mono ?_
  rintro e w14 ⟨q14, rfl, o14, l14⟩
  replace l14 := l14.trans (Le.alloc w14 (.cells (cellsR 0 0 0 q14) 24))
  replace hbr' := hbr'.le l14
  replace hbg' := hbg'.le l14
  replace hq' := hq'.le l14
  replace hu' := hu'.le l14
  replace hl' := hl'.trans l14
  clear l14 o14 r0 r1 r2 r3
  go_upto_region 35 with fail
  generalize hW : w14.alloc (.cells (cellsR 0 0 0 q14) 24) = V14 at hbr' hbg' hq' hu' hl' ⊢
  clear hW
  obtain ⟨r0, r1, r2, r3, _, _, _, _⟩ := hbr'.ring
  go_wp2_with fail
  refine (k5 (some ⟨g, 0, none⟩, 4, cap) _ hq').mono ?_
  rintro e w15 ⟨rfl, l15⟩
  clear r0 r1 r2 r3
  obtain ⟨r0, r1, r2, r3, _, _, _, _⟩ := (hbg'.le l15).ring
  go_wp2_with fail
  refine (k6 u _ (hu'.le l15)).mono ?_
  rintro e w16 ⟨rfl, l16⟩
  go_wp2_with (go_at_call 21; refine (lawNum _ _).mono ?_; rintro e _ ⟨rfl, rfl⟩)
  go_ret
  exact ⟨rfl, (hl'.trans l15).trans l16⟩

set_option linter.unusedVariables false in
set_option maxRecDepth 20000 in
set_option maxHeartbeats 4000000 in
theorem lawRForms6 (w : World) (which x X : Int) (y : Nat) (hw : (IntKind.u64.wrap which).tmod 12 = 6) (hX : bits .and .i64 x 1023 = X) (X0 : 0 ≤ X) (X1 : X ≤ 1023) (hY : bits .and .i64 x 3 = (y : Int)) (hy : y < 4) :
    Calls Try.prog 5 #[.int .i64 which, .int .i64 x] w fun e w' => e = .returned (.bool true) ∧ Le w w' := by
  have hbad : mayR ⟨0, 0, (4 + (1 + X)), zs4⟩ = false := bad_fence (by omega)
  have k1 := reserveAs (reserve_bad (k := 1) hbad) fit4
  have k2 := publishAs (publish_bad (p := 0) (c := 0) (r := 0) (a := 0) (t := 0) hbad) fit4
  have k3 := entryAs (entry_bad (p := 0) hbad) fit4
  have k4 := freeAs (free_bad (p := 0) hbad) fit4
  have k5 := mayAs hbad fit4
  have k6 := mayAs may4 fit4
  clear hbad
  go_enter Try.func5, Try.ntmps5
  go_wp2_with fail
  refine (lawAwake10 _).mono ?_
  rintro e w1 ⟨rfl, l1⟩
  go_wp2_with fail
  refine (refNewAs new4 _).mono ?_
  rintro e w2 ⟨q, rfl, o2, l2⟩
  have hgs : w.heap.size ≤ w1.heap.size := l1.size
  have hgs2 : w1.heap.size ≤ w2.heap.size := l2.size
  have hl := (l1.trans l2).trans (Le.alloc w2 (.cells (cellsR 0 0 0 q) 24))
  have hbr := Box.new w2 (cellsR 0 0 0 q) 24
  have hq := o2.le (Le.alloc w2 (.cells (cellsR 0 0 0 q) 24))
  clear l1 l2
  go_wp2_with fail
  refine (lawCopyRing 0 0 0 q zs4 _ hq.has fit4).mono ?_
  rintro e w3 ⟨u, rfl, o3, l3⟩
  have a3 := Le.alloc w3 (.cells (cellsR 0 0 0 u) 24)
  have hbg := Box.new w3 (cellsR 0 0 0 u) 24
  have hgs3 : w2.heap.size < w3.heap.size := (hbr.le l3).lt
  replace hbr := (hbr.le l3).le a3
  replace hq := (hq.le l3).le a3
  have hu := o3.le a3
  replace hl := (hl.trans l3).trans a3
  simp only [World.size_alloc] at hu
  obtain ⟨g, cap, rfl, hg, hcap⟩ := o2.shape (by decide)
  have hg2 := (OwnL.block o2 (g := g) rfl).2
  clear l3 a3 o3 o2
  replace hcap : 4 ≤ cap := hcap
  go_upto_region 6 with fail
  generalize hW : w3.alloc (.cells (cellsR 0 0 0 u) 24) = W at hl hbr hbg hq hu ⊢
  clear hW
  obtain ⟨r0, r1, r2, r3, f0, f1, f2, f3⟩ := hbr.ring
  replace r3 : W.cell? ⟨w2.heap.size, 3, none⟩ = some (.slice (some ⟨g, 0, none⟩) 4 cap) := r3
  go_upto_region 31 with fail
  have hbr' : Box (W.setCell ⟨w2.heap.size, 2, none⟩ (.int .i64 (4 + (1 + X)))) w2.heap.size (cellsR 0 0 (4 + (1 + X)) (some ⟨g, 0, none⟩, 4, cap)) 24 := (hbr.set 2 (.int .i64 (4 + (1 + X))))
  have hq' : HasL (W.setCell ⟨w2.heap.size, 2, none⟩ (.int .i64 (4 + (1 + X)))) (slV (some ⟨g, 0, none⟩, 4, cap)) zs4 := OwnL.has (hq.setBox (i := 2) (u := .int .i64 (4 + (1 + X))) hbr (by decide))
  have hu' : HasL (W.setCell ⟨w2.heap.size, 2, none⟩ (.int .i64 (4 + (1 + X)))) (slV u) zs4 := OwnL.has (hu.setBox (i := 2) (u := .int .i64 (4 + (1 + X))) hbr (by decide))
  have hbg' := (hbg.other (g' := w2.heap.size) (by omega) 2 (.int .i64 (4 + (1 + X))))
  have hl' := (hl.set (g := w2.heap.size) (i := 2) (u := .int .i64 (4 + (1 + X))) (by omega))
  generalize hW : (W.setCell ⟨w2.heap.size, 2, none⟩ (.int .i64 (4 + (1 + X)))) = V at hbr' hbg' hq' hu' hl' ⊢
  clear hW hbr hbg hq hu hl r0 r1 r2 r3 f0 f1 f2 f3
  obtain ⟨r0, r1, r2, r3, _, _, _, _⟩ := hbr'.ring
  go_wp2_with fail
  refine (k1 (some ⟨g, 0, none⟩, 4, cap) _ hq').mono ?_
  rintro e w11 ⟨q11, rfl, o11, l11⟩
  replace l11 := l11.trans (Le.alloc w11 (.cells (cellsR 0 0 0 q11) 24))
  replace hbr' := hbr'.le l11
  replace hbg' := hbg'.le l11
  replace hq' := hq'.le l11
  replace hu' := hu'.le l11
  replace hl' := hl'.trans l11
  clear l11 o11 r0 r1 r2 r3
  go_upto_region 32 with fail
  generalize hW : w11.alloc (.cells (cellsR 0 0 0 q11) 24) = V11 at hbr' hbg' hq' hu' hl' ⊢
  clear hW
  obtain ⟨r0, r1, r2, r3, _, _, _, _⟩ := hbr'.ring
  go_wp2_with fail
  refine (k2 (some ⟨g, 0, none⟩, 4, cap) _ hq').mono ?_
  rintro e w12 ⟨q12, rfl, o12, l12⟩
  replace l12 := l12.trans (Le.alloc w12 (.cells (cellsR 0 0 0 q12) 24))
  replace hbr' := hbr'.le l12
  replace hbg' := hbg'.le l12
  replace hq' := hq'.le l12
  replace hu' := hu'.le l12
  replace hl' := hl'.trans l12
  clear l12 o12 r0 r1 r2 r3
  go_upto_region 33 with fail
  generalize hW : w12.alloc (.cells (cellsR 0 0 0 q12) 24) = V12 at hbr' hbg' hq' hu' hl' ⊢
  clear hW
  obtain ⟨r0, r1, r2, r3, _, _, _, _⟩ := hbr'.ring
  go_wp2_with fail
  refine (k3 (some ⟨g, 0, none⟩, 4, cap) _ hq').mono ?_
  rintro e w13 ⟨rfl, l13⟩
  replace l13 := l13.trans (Le.alloc w13 (.cells (#[.int .i64 0, .int .i64 0, .int .i64 0, .int .i64 0, .int .i64 0]) 38))
  replace hbr' := hbr'.le l13
  replace hbg' := hbg'.le l13
  replace hq' := hq'.le l13
  replace hu' := hu'.le l13
  replace hl' := hl'.trans l13
  clear l13  r0 r1 r2 r3
  go_upto_region 34 with fail
  generalize hW : w13.alloc (.cells (#[.int .i64 0, .int .i64 0, .int .i64 0, .int .i64 0, .int .i64 0]) 38) = V13 at hbr' hbg' hq' hu' hl' ⊢
  clear hW
  obtain ⟨r0, r1, r2, r3, _, _, _, _⟩ := hbr'.ring
  go_wp2_with fail
  refine (k4 (some ⟨g, 0, none⟩, 4, cap) _ hq').mono ?_
  rintro e w14 ⟨q14, rfl, o14, l14⟩
  replace l14 := l14.trans (Le.alloc w14 (.cells (cellsR 0 0 0 q14) 24))
  replace hbr' := hbr'.le l14
  replace hbg' := hbg'.le l14
  replace hq' := hq'.le l14
  replace hu' := hu'.le l14
  replace hl' := hl'.trans l14
  clear l14 o14 r0 r1 r2 r3
  go_upto_region 35 with fail
  generalize hW : w14.alloc (.cells (cellsR 0 0 0 q14) 24) = V14 at hbr' hbg' hq' hu' hl' ⊢
  clear hW
  obtain ⟨r0, r1, r2, r3, _, _, _, _⟩ := hbr'.ring
  go_wp2_with fail
  refine (k5 (some ⟨g, 0, none⟩, 4, cap) _ hq').mono ?_
  rintro e w15 ⟨rfl, l15⟩
  clear r0 r1 r2 r3
  obtain ⟨r0, r1, r2, r3, _, _, _, _⟩ := (hbg'.le l15).ring
  go_wp2_with fail
  refine (k6 u _ (hu'.le l15)).mono ?_
  rintro e w16 ⟨rfl, l16⟩
  go_wp2_with (go_at_call 21; refine (lawNum _ _).mono ?_; rintro e _ ⟨rfl, rfl⟩)
  go_ret
  exact ⟨rfl, (hl'.trans l15).trans l16⟩

set_option linter.unusedVariables false in
set_option maxRecDepth 20000 in
set_option maxHeartbeats 4000000 in
theorem lawRForms7 (w : World) (which x X : Int) (y : Nat) (hw : (IntKind.u64.wrap which).tmod 12 = 7) (hX : bits .and .i64 x 1023 = X) (X0 : 0 ≤ X) (X1 : X ≤ 1023) (hY : bits .and .i64 x 3 = (y : Int)) (hy : y < 4) :
    Calls Try.prog 5 #[.int .i64 which, .int .i64 x] w fun e w' => e = .returned (.bool true) ∧ Le w w' := by
  have hbad : mayR ⟨0, 0, 0, (zs4.set y ⟨2, 0, 0, 0, 0⟩)⟩ = false := bad_slot hy (by simp [slotB, opUp, opMay]; try omega)
  have k1 := reserveAs (reserve_bad (k := 1) hbad) (by simp [zs4])
  have k2 := publishAs (publish_bad (p := 0) (c := 0) (r := 0) (a := 0) (t := 0) hbad) (by simp [zs4])
  have k3 := entryAs (entry_bad (p := 0) hbad) (by simp [zs4])
  have k4 := freeAs (free_bad (p := 0) hbad) (by simp [zs4])
  have k5 := mayAs hbad (by simp [zs4])
  have k6 := mayAs may4 fit4
  clear hbad
  go_enter Try.func5, Try.ntmps5
  go_wp2_with fail
  refine (lawAwake10 _).mono ?_
  rintro e w1 ⟨rfl, l1⟩
  go_wp2_with fail
  refine (refNewAs new4 _).mono ?_
  rintro e w2 ⟨q, rfl, o2, l2⟩
  have hgs : w.heap.size ≤ w1.heap.size := l1.size
  have hgs2 : w1.heap.size ≤ w2.heap.size := l2.size
  have hl := (l1.trans l2).trans (Le.alloc w2 (.cells (cellsR 0 0 0 q) 24))
  have hbr := Box.new w2 (cellsR 0 0 0 q) 24
  have hq := o2.le (Le.alloc w2 (.cells (cellsR 0 0 0 q) 24))
  clear l1 l2
  go_wp2_with fail
  refine (lawCopyRing 0 0 0 q zs4 _ hq.has fit4).mono ?_
  rintro e w3 ⟨u, rfl, o3, l3⟩
  have a3 := Le.alloc w3 (.cells (cellsR 0 0 0 u) 24)
  have hbg := Box.new w3 (cellsR 0 0 0 u) 24
  have hgs3 : w2.heap.size < w3.heap.size := (hbr.le l3).lt
  replace hbr := (hbr.le l3).le a3
  replace hq := (hq.le l3).le a3
  have hu := o3.le a3
  replace hl := (hl.trans l3).trans a3
  simp only [World.size_alloc] at hu
  obtain ⟨g, cap, rfl, hg, hcap⟩ := o2.shape (by decide)
  have hg2 := (OwnL.block o2 (g := g) rfl).2
  clear l3 a3 o3 o2
  replace hcap : 4 ≤ cap := hcap
  go_upto_region 6 with fail
  generalize hW : w3.alloc (.cells (cellsR 0 0 0 u) 24) = W at hl hbr hbg hq hu ⊢
  clear hW
  obtain ⟨r0, r1, r2, r3, f0, f1, f2, f3⟩ := hbr.ring
  replace r3 : W.cell? ⟨w2.heap.size, 3, none⟩ = some (.slice (some ⟨g, 0, none⟩) 4 cap) := r3
  obtain ⟨⟨x0, x1, x2, x3, x4⟩, hfz⟩ := OwnL.cell (i := y) hq (show y < zs4.length from hy)
  have g0 := hfz (y * 5)
  rw [zs4_at hy] at x0 x1 x2 x3 x4
  have y0 : (0 : Int) ≤ (y : Int) := by omega
  have y1 : (y : Int) < (4 : Int) := by omega
  have m0 : ¬ g = w2.heap.size := by omega
  have m1 : ¬ g = w3.heap.size := by omega
  clear hfz
  go_upto_region 31 with fail
  have hq' : HasL (W.setCell ⟨g, y * 5, none⟩ (.int .i64 (2))) (slV (some ⟨g, 0, none⟩, 4, cap)) (zs4.set y ⟨2, 0, 0, 0, 0⟩) := OwnL.has (OwnL.put1 (j := 0) (x := 2) hq (show y < zs4.length from hy) (by decide) (by rw [zs4_at hy]; rfl))
  have hu' : HasL (W.setCell ⟨g, y * 5, none⟩ (.int .i64 (2))) (slV u) zs4 := OwnL.has (hu.set (hu.off (by omega)))
  have hbr' := hbr.other (g' := g) (fun e => m0 e.symm) (y * 5) (.int .i64 (2))
  have hbg' := hbg.other (g' := g) (fun e => m1 e.symm) (y * 5) (.int .i64 (2))
  have hl' := hl.set (g := g) (i := y * 5) (u := .int .i64 (2)) (by omega)
  generalize hW : (W.setCell ⟨g, y * 5, none⟩ (.int .i64 (2))) = V at hbr' hbg' hq' hu' hl' ⊢
  clear hW hbr hbg hq hu hl r0 r1 r2 r3 f0 f1 f2 f3 x0 x1 x2 x3 x4 g0 y0 y1
  obtain ⟨r0, r1, r2, r3, _, _, _, _⟩ := hbr'.ring
  go_wp2_with fail
  refine (k1 (some ⟨g, 0, none⟩, 4, cap) _ hq').mono ?_
  rintro e w11 ⟨q11, rfl, o11, l11⟩
  replace l11 := l11.trans (Le.alloc w11 (.cells (cellsR 0 0 0 q11) 24))
  replace hbr' := hbr'.le l11
  replace hbg' := hbg'.le l11
  replace hq' := hq'.le l11
  replace hu' := hu'.le l11
  replace hl' := hl'.trans l11
  clear l11 o11 r0 r1 r2 r3
  go_upto_region 32 with fail
  generalize hW : w11.alloc (.cells (cellsR 0 0 0 q11) 24) = V11 at hbr' hbg' hq' hu' hl' ⊢
  clear hW
  obtain ⟨r0, r1, r2, r3, _, _, _, _⟩ := hbr'.ring
  go_wp2_with fail
  refine (k2 (some ⟨g, 0, none⟩, 4, cap) _ hq').mono ?_
  rintro e w12 ⟨q12, rfl, o12, l12⟩
  replace l12 := l12.trans (Le.alloc w12 (.cells (cellsR 0 0 0 q12) 24))
  replace hbr' := hbr'.le l12
  replace hbg' := hbg'.le l12
  replace hq' := hq'.le l12
  replace hu' := hu'.le l12
  replace hl' := hl'.trans l12
  clear l12 o12 r0 r1 r2 r3
  go_upto_region 33 with fail
  generalize hW : w12.alloc (.cells (cellsR 0 0 0 q12) 24) = V12 at hbr' hbg' hq' hu' hl' ⊢
  clear hW
  obtain ⟨r0, r1, r2, r3, _, _, _, _⟩ := hbr'.ring
  go_wp2_with fail
  refine (k3 (some ⟨g, 0, none⟩, 4, cap) _ hq').mono ?_
  rintro e w13 ⟨rfl, l13⟩
  replace l13 := l13.trans (Le.alloc w13 (.cells (#[.int .i64 0, .int .i64 0, .int .i64 0, .int .i64 0, .int .i64 0]) 38))
  replace hbr' := hbr'.le l13
  replace hbg' := hbg'.le l13
  replace hq' := hq'.le l13
  replace hu' := hu'.le l13
  replace hl' := hl'.trans l13
  clear l13  r0 r1 r2 r3
  go_upto_region 34 with fail
  generalize hW : w13.alloc (.cells (#[.int .i64 0, .int .i64 0, .int .i64 0, .int .i64 0, .int .i64 0]) 38) = V13 at hbr' hbg' hq' hu' hl' ⊢
  clear hW
  obtain ⟨r0, r1, r2, r3, _, _, _, _⟩ := hbr'.ring
  go_wp2_with fail
  refine (k4 (some ⟨g, 0, none⟩, 4, cap) _ hq').mono ?_
  rintro e w14 ⟨q14, rfl, o14, l14⟩
  replace l14 := l14.trans (Le.alloc w14 (.cells (cellsR 0 0 0 q14) 24))
  replace hbr' := hbr'.le l14
  replace hbg' := hbg'.le l14
  replace hq' := hq'.le l14
  replace hu' := hu'.le l14
  replace hl' := hl'.trans l14
  clear l14 o14 r0 r1 r2 r3
  go_upto_region 35 with fail
  generalize hW : w14.alloc (.cells (cellsR 0 0 0 q14) 24) = V14 at hbr' hbg' hq' hu' hl' ⊢
  clear hW
  obtain ⟨r0, r1, r2, r3, _, _, _, _⟩ := hbr'.ring
  go_wp2_with fail
  refine (k5 (some ⟨g, 0, none⟩, 4, cap) _ hq').mono ?_
  rintro e w15 ⟨rfl, l15⟩
  clear r0 r1 r2 r3
  obtain ⟨r0, r1, r2, r3, _, _, _, _⟩ := (hbg'.le l15).ring
  go_wp2_with fail
  refine (k6 u _ (hu'.le l15)).mono ?_
  rintro e w16 ⟨rfl, l16⟩
  go_wp2_with (go_at_call 21; refine (lawNum _ _).mono ?_; rintro e _ ⟨rfl, rfl⟩)
  go_ret
  exact ⟨rfl, (hl'.trans l15).trans l16⟩

set_option linter.unusedVariables false in
set_option maxRecDepth 20000 in
set_option maxHeartbeats 4000000 in
theorem lawRForms8 (w : World) (which x X : Int) (y : Nat) (hw : (IntKind.u64.wrap which).tmod 12 = 8) (hX : bits .and .i64 x 1023 = X) (X0 : 0 ≤ X) (X1 : X ≤ 1023) (hY : bits .and .i64 x 3 = (y : Int)) (hy : y < 4) :
    Calls Try.prog 5 #[.int .i64 which, .int .i64 x] w fun e w' => e = .returned (.bool true) ∧ Le w w' := by
  have hbad : mayR ⟨0, 0, 0, (zs4.set y ⟨0, 0, -(1 + X), 0, 0⟩)⟩ = false := bad_slot hy (by simp [slotB, opUp, opMay]; try omega)
  have k1 := reserveAs (reserve_bad (k := 1) hbad) (by simp [zs4])
  have k2 := publishAs (publish_bad (p := 0) (c := 0) (r := 0) (a := 0) (t := 0) hbad) (by simp [zs4])
  have k3 := entryAs (entry_bad (p := 0) hbad) (by simp [zs4])
  have k4 := freeAs (free_bad (p := 0) hbad) (by simp [zs4])
  have k5 := mayAs hbad (by simp [zs4])
  have k6 := mayAs may4 fit4
  clear hbad
  go_enter Try.func5, Try.ntmps5
  go_wp2_with fail
  refine (lawAwake10 _).mono ?_
  rintro e w1 ⟨rfl, l1⟩
  go_wp2_with fail
  refine (refNewAs new4 _).mono ?_
  rintro e w2 ⟨q, rfl, o2, l2⟩
  have hgs : w.heap.size ≤ w1.heap.size := l1.size
  have hgs2 : w1.heap.size ≤ w2.heap.size := l2.size
  have hl := (l1.trans l2).trans (Le.alloc w2 (.cells (cellsR 0 0 0 q) 24))
  have hbr := Box.new w2 (cellsR 0 0 0 q) 24
  have hq := o2.le (Le.alloc w2 (.cells (cellsR 0 0 0 q) 24))
  clear l1 l2
  go_wp2_with fail
  refine (lawCopyRing 0 0 0 q zs4 _ hq.has fit4).mono ?_
  rintro e w3 ⟨u, rfl, o3, l3⟩
  have a3 := Le.alloc w3 (.cells (cellsR 0 0 0 u) 24)
  have hbg := Box.new w3 (cellsR 0 0 0 u) 24
  have hgs3 : w2.heap.size < w3.heap.size := (hbr.le l3).lt
  replace hbr := (hbr.le l3).le a3
  replace hq := (hq.le l3).le a3
  have hu := o3.le a3
  replace hl := (hl.trans l3).trans a3
  simp only [World.size_alloc] at hu
  obtain ⟨g, cap, rfl, hg, hcap⟩ := o2.shape (by decide)
  have hg2 := (OwnL.block o2 (g := g) rfl).2
  clear l3 a3 o3 o2
  replace hcap : 4 ≤ cap := hcap
  go_upto_region 6 with fail
  generalize hW : w3.alloc (.cells (cellsR 0 0 0 u) 24) = W at hl hbr hbg hq hu ⊢
  clear hW
  obtain ⟨r0, r1, r2, r3, f0, f1, f2, f3⟩ := hbr.ring
  replace r3 : W.cell? ⟨w2.heap.size, 3, none⟩ = some (.slice (some ⟨g, 0, none⟩) 4 cap) := r3
  obtain ⟨⟨x0, x1, x2, x3, x4⟩, hfz⟩ := OwnL.cell (i := y) hq (show y < zs4.length from hy)
  have g0 := hfz (y * 5 + 2)
  rw [zs4_at hy] at x0 x1 x2 x3 x4
  have y0 : (0 : Int) ≤ (y : Int) := by omega
  have y1 : (y : Int) < (4 : Int) := by omega
  have m0 : ¬ g = w2.heap.size := by omega
  have m1 : ¬ g = w3.heap.size := by omega
  clear hfz
  go_upto_region 31 with fail
  have hq' : HasL (W.setCell ⟨g, y * 5 + 2, none⟩ (.int .i64 (-(1 + X)))) (slV (some ⟨g, 0, none⟩, 4, cap)) (zs4.set y ⟨0, 0, -(1 + X), 0, 0⟩) := OwnL.has (OwnL.put1 (j := 2) (x := -(1 + X)) hq (show y < zs4.length from hy) (by decide) (by rw [zs4_at hy]; rfl))
  have hu' : HasL (W.setCell ⟨g, y * 5 + 2, none⟩ (.int .i64 (-(1 + X)))) (slV u) zs4 := OwnL.has (hu.set (hu.off (by omega)))
  have hbr' := hbr.other (g' := g) (fun e => m0 e.symm) (y * 5 + 2) (.int .i64 (-(1 + X)))
  have hbg' := hbg.other (g' := g) (fun e => m1 e.symm) (y * 5 + 2) (.int .i64 (-(1 + X)))
  have hl' := hl.set (g := g) (i := y * 5 + 2) (u := .int .i64 (-(1 + X))) (by omega)
  generalize hW : (W.setCell ⟨g, y * 5 + 2, none⟩ (.int .i64 (-(1 + X)))) = V at hbr' hbg' hq' hu' hl' ⊢
  clear hW hbr hbg hq hu hl r0 r1 r2 r3 f0 f1 f2 f3 x0 x1 x2 x3 x4 g0 y0 y1
  obtain ⟨r0, r1, r2, r3, _, _, _, _⟩ := hbr'.ring
  go_wp2_with fail
  refine (k1 (some ⟨g, 0, none⟩, 4, cap) _ hq').mono ?_
  rintro e w11 ⟨q11, rfl, o11, l11⟩
  replace l11 := l11.trans (Le.alloc w11 (.cells (cellsR 0 0 0 q11) 24))
  replace hbr' := hbr'.le l11
  replace hbg' := hbg'.le l11
  replace hq' := hq'.le l11
  replace hu' := hu'.le l11
  replace hl' := hl'.trans l11
  clear l11 o11 r0 r1 r2 r3
  go_upto_region 32 with fail
  generalize hW : w11.alloc (.cells (cellsR 0 0 0 q11) 24) = V11 at hbr' hbg' hq' hu' hl' ⊢
  clear hW
  obtain ⟨r0, r1, r2, r3, _, _, _, _⟩ := hbr'.ring
  go_wp2_with fail
  refine (k2 (some ⟨g, 0, none⟩, 4, cap) _ hq').mono ?_
  rintro e w12 ⟨q12, rfl, o12, l12⟩
  replace l12 := l12.trans (Le.alloc w12 (.cells (cellsR 0 0 0 q12) 24))
  replace hbr' := hbr'.le l12
  replace hbg' := hbg'.le l12
  replace hq' := hq'.le l12
  replace hu' := hu'.le l12
  replace hl' := hl'.trans l12
  clear l12 o12 r0 r1 r2 r3
  go_upto_region 33 with fail
  generalize hW : w12.alloc (.cells (cellsR 0 0 0 q12) 24) = V12 at hbr' hbg' hq' hu' hl' ⊢
  clear hW
  obtain ⟨r0, r1, r2, r3, _, _, _, _⟩ := hbr'.ring
  go_wp2_with fail
  refine (k3 (some ⟨g, 0, none⟩, 4, cap) _ hq').mono ?_
  rintro e w13 ⟨rfl, l13⟩
  replace l13 := l13.trans (Le.alloc w13 (.cells (#[.int .i64 0, .int .i64 0, .int .i64 0, .int .i64 0, .int .i64 0]) 38))
  replace hbr' := hbr'.le l13
  replace hbg' := hbg'.le l13
  replace hq' := hq'.le l13
  replace hu' := hu'.le l13
  replace hl' := hl'.trans l13
  clear l13  r0 r1 r2 r3
  go_upto_region 34 with fail
  generalize hW : w13.alloc (.cells (#[.int .i64 0, .int .i64 0, .int .i64 0, .int .i64 0, .int .i64 0]) 38) = V13 at hbr' hbg' hq' hu' hl' ⊢
  clear hW
  obtain ⟨r0, r1, r2, r3, _, _, _, _⟩ := hbr'.ring
  go_wp2_with fail
  refine (k4 (some ⟨g, 0, none⟩, 4, cap) _ hq').mono ?_
  rintro e w14 ⟨q14, rfl, o14, l14⟩
  replace l14 := l14.trans (Le.alloc w14 (.cells (cellsR 0 0 0 q14) 24))
  replace hbr' := hbr'.le l14
  replace hbg' := hbg'.le l14
  replace hq' := hq'.le l14
  replace hu' := hu'.le l14
  replace hl' := hl'.trans l14
  clear l14 o14 r0 r1 r2 r3
  go_upto_region 35 with fail
  generalize hW : w14.alloc (.cells (cellsR 0 0 0 q14) 24) = V14 at hbr' hbg' hq' hu' hl' ⊢
  clear hW
  obtain ⟨r0, r1, r2, r3, _, _, _, _⟩ := hbr'.ring
  go_wp2_with fail
  refine (k5 (some ⟨g, 0, none⟩, 4, cap) _ hq').mono ?_
  rintro e w15 ⟨rfl, l15⟩
  clear r0 r1 r2 r3
  obtain ⟨r0, r1, r2, r3, _, _, _, _⟩ := (hbg'.le l15).ring
  go_wp2_with fail
  refine (k6 u _ (hu'.le l15)).mono ?_
  rintro e w16 ⟨rfl, l16⟩
  go_wp2_with (go_at_call 21; refine (lawNum _ _).mono ?_; rintro e _ ⟨rfl, rfl⟩)
  go_ret
  exact ⟨rfl, (hl'.trans l15).trans l16⟩

set_option linter.unusedVariables false in
set_option maxRecDepth 20000 in
set_option maxHeartbeats 4000000 in
theorem lawRForms9 (w : World) (which x X : Int) (y : Nat) (hw : (IntKind.u64.wrap which).tmod 12 = 9) (hX : bits .and .i64 x 1023 = X) (X0 : 0 ≤ X) (X1 : X ≤ 1023) (hY : bits .and .i64 x 3 = (y : Int)) (hy : y < 4) :
    Calls Try.prog 5 #[.int .i64 which, .int .i64 x] w fun e w' => e = .returned (.bool true) ∧ Le w w' := by
  have hbad : mayR ⟨0, 0, 0, (zs4.set y ⟨0, 0, 0, 3 + (1 + X), 0⟩)⟩ = false := bad_slot hy (by simp [slotB, opUp, opMay]; try omega)
  have k1 := reserveAs (reserve_bad (k := 1) hbad) (by simp [zs4])
  have k2 := publishAs (publish_bad (p := 0) (c := 0) (r := 0) (a := 0) (t := 0) hbad) (by simp [zs4])
  have k3 := entryAs (entry_bad (p := 0) hbad) (by simp [zs4])
  have k4 := freeAs (free_bad (p := 0) hbad) (by simp [zs4])
  have k5 := mayAs hbad (by simp [zs4])
  have k6 := mayAs may4 fit4
  clear hbad
  go_enter Try.func5, Try.ntmps5
  go_wp2_with fail
  refine (lawAwake10 _).mono ?_
  rintro e w1 ⟨rfl, l1⟩
  go_wp2_with fail
  refine (refNewAs new4 _).mono ?_
  rintro e w2 ⟨q, rfl, o2, l2⟩
  have hgs : w.heap.size ≤ w1.heap.size := l1.size
  have hgs2 : w1.heap.size ≤ w2.heap.size := l2.size
  have hl := (l1.trans l2).trans (Le.alloc w2 (.cells (cellsR 0 0 0 q) 24))
  have hbr := Box.new w2 (cellsR 0 0 0 q) 24
  have hq := o2.le (Le.alloc w2 (.cells (cellsR 0 0 0 q) 24))
  clear l1 l2
  go_wp2_with fail
  refine (lawCopyRing 0 0 0 q zs4 _ hq.has fit4).mono ?_
  rintro e w3 ⟨u, rfl, o3, l3⟩
  have a3 := Le.alloc w3 (.cells (cellsR 0 0 0 u) 24)
  have hbg := Box.new w3 (cellsR 0 0 0 u) 24
  have hgs3 : w2.heap.size < w3.heap.size := (hbr.le l3).lt
  replace hbr := (hbr.le l3).le a3
  replace hq := (hq.le l3).le a3
  have hu := o3.le a3
  replace hl := (hl.trans l3).trans a3
  simp only [World.size_alloc] at hu
  obtain ⟨g, cap, rfl, hg, hcap⟩ := o2.shape (by decide)
  have hg2 := (OwnL.block o2 (g := g) rfl).2
  clear l3 a3 o3 o2
  replace hcap : 4 ≤ cap := hcap
  go_upto_region 6 with fail
  generalize hW : w3.alloc (.cells (cellsR 0 0 0 u) 24) = W at hl hbr hbg hq hu ⊢
  clear hW
  obtain ⟨r0, r1, r2, r3, f0, f1, f2, f3⟩ := hbr.ring
  replace r3 : W.cell? ⟨w2.heap.size, 3, none⟩ = some (.slice (some ⟨g, 0, none⟩) 4 cap) := r3
  obtain ⟨⟨x0, x1, x2, x3, x4⟩, hfz⟩ := OwnL.cell (i := y) hq (show y < zs4.length from hy)
  have g0 := hfz (y * 5 + 3)
  rw [zs4_at hy] at x0 x1 x2 x3 x4
  have y0 : (0 : Int) ≤ (y : Int) := by omega
  have y1 : (y : Int) < (4 : Int) := by omega
  have m0 : ¬ g = w2.heap.size := by omega
  have m1 : ¬ g = w3.heap.size := by omega
  clear hfz
  go_upto_region 31 with fail
  have hq' : HasL (W.setCell ⟨g, y * 5 + 3, none⟩ (.int .i64 (3 + (1 + X)))) (slV (some ⟨g, 0, none⟩, 4, cap)) (zs4.set y ⟨0, 0, 0, 3 + (1 + X), 0⟩) := OwnL.has (OwnL.put1 (j := 3) (x := 3 + (1 + X)) hq (show y < zs4.length from hy) (by decide) (by rw [zs4_at hy]; rfl))
  have hu' : HasL (W.setCell ⟨g, y * 5 + 3, none⟩ (.int .i64 (3 + (1 + X)))) (slV u) zs4 := OwnL.has (hu.set (hu.off (by omega)))
  have hbr' := hbr.other (g' := g) (fun e => m0 e.symm) (y * 5 + 3) (.int .i64 (3 + (1 + X)))
  have hbg' := hbg.other (g' := g) (fun e => m1 e.symm) (y * 5 + 3) (.int .i64 (3 + (1 + X)))
  have hl' := hl.set (g := g) (i := y * 5 + 3) (u := .int .i64 (3 + (1 + X))) (by omega)
  generalize hW : (W.setCell ⟨g, y * 5 + 3, none⟩ (.int .i64 (3 + (1 + X)))) = V at hbr' hbg' hq' hu' hl' ⊢
  clear hW hbr hbg hq hu hl r0 r1 r2 r3 f0 f1 f2 f3 x0 x1 x2 x3 x4 g0 y0 y1
  obtain ⟨r0, r1, r2, r3, _, _, _, _⟩ := hbr'.ring
  go_wp2_with fail
  refine (k1 (some ⟨g, 0, none⟩, 4, cap) _ hq').mono ?_
  rintro e w11 ⟨q11, rfl, o11, l11⟩
  replace l11 := l11.trans (Le.alloc w11 (.cells (cellsR 0 0 0 q11) 24))
  replace hbr' := hbr'.le l11
  replace hbg' := hbg'.le l11
  replace hq' := hq'.le l11
  replace hu' := hu'.le l11
  replace hl' := hl'.trans l11
  clear l11 o11 r0 r1 r2 r3
  go_upto_region 32 with fail
  generalize hW : w11.alloc (.cells (cellsR 0 0 0 q11) 24) = V11 at hbr' hbg' hq' hu' hl' ⊢
  clear hW
  obtain ⟨r0, r1, r2, r3, _, _, _, _⟩ := hbr'.ring
  go_wp2_with fail
  refine (k2 (some ⟨g, 0, none⟩, 4, cap) _ hq').mono ?_
  rintro e w12 ⟨q12, rfl, o12, l12⟩
  replace l12 := l12.trans (Le.alloc w12 (.cells (cellsR 0 0 0 q12) 24))
  replace hbr' := hbr'.le l12
  replace hbg' := hbg'.le l12
  replace hq' := hq'.le l12
  replace hu' := hu'.le l12
  replace hl' := hl'.trans l12
  clear l12 o12 r0 r1 r2 r3
  go_upto_region 33 with fail
  generalize hW : w12.alloc (.cells (cellsR 0 0 0 q12) 24) = V12 at hbr' hbg' hq' hu' hl' ⊢
  clear hW
  obtain ⟨r0, r1, r2, r3, _, _, _, _⟩ := hbr'.ring
  go_wp2_with fail
  refine (k3 (some ⟨g, 0, none⟩, 4, cap) _ hq').mono ?_
  rintro e w13 ⟨rfl, l13⟩
  replace l13 := l13.trans (Le.alloc w13 (.cells (#[.int .i64 0, .int .i64 0, .int .i64 0, .int .i64 0, .int .i64 0]) 38))
  replace hbr' := hbr'.le l13
  replace hbg' := hbg'.le l13
  replace hq' := hq'.le l13
  replace hu' := hu'.le l13
  replace hl' := hl'.trans l13
  clear l13  r0 r1 r2 r3
  go_upto_region 34 with fail
  generalize hW : w13.alloc (.cells (#[.int .i64 0, .int .i64 0, .int .i64 0, .int .i64 0, .int .i64 0]) 38) = V13 at hbr' hbg' hq' hu' hl' ⊢
  clear hW
  obtain ⟨r0, r1, r2, r3, _, _, _, _⟩ := hbr'.ring
  go_wp2_with fail
  refine (k4 (some ⟨g, 0, none⟩, 4, cap) _ hq').mono ?_
  rintro e w14 ⟨q14, rfl, o14, l14⟩
  replace l14 := l14.trans (Le.alloc w14 (.cells (cellsR 0 0 0 q14) 24))
  replace hbr' := hbr'.le l14
  replace hbg' := hbg'.le l14
  replace hq' := hq'.le l14
  replace hu' := hu'.le l14
  replace hl' := hl'.trans l14
  clear l14 o14 r0 r1 r2 r3
  go_upto_region 35 with fail
  generalize hW : w14.alloc (.cells (cellsR 0 0 0 q14) 24) = V14 at hbr' hbg' hq' hu' hl' ⊢
  clear hW
  obtain ⟨r0, r1, r2, r3, _, _, _, _⟩ := hbr'.ring
  go_wp2_with fail
  refine (k5 (some ⟨g, 0, none⟩, 4, cap) _ hq').mono ?_
  rintro e w15 ⟨rfl, l15⟩
  clear r0 r1 r2 r3
  obtain ⟨r0, r1, r2, r3, _, _, _, _⟩ := (hbg'.le l15).ring
  go_wp2_with fail
  refine (k6 u _ (hu'.le l15)).mono ?_
  rintro e w16 ⟨rfl, l16⟩
  go_wp2_with (go_at_call 21; refine (lawNum _ _).mono ?_; rintro e _ ⟨rfl, rfl⟩)
  go_ret
  exact ⟨rfl, (hl'.trans l15).trans l16⟩

set_option linter.unusedVariables false in
set_option maxRecDepth 20000 in
set_option maxHeartbeats 4000000 in
theorem lawRForms10 (w : World) (which x X : Int) (y : Nat) (hw : (IntKind.u64.wrap which).tmod 12 = 10) (hX : bits .and .i64 x 1023 = X) (X0 : 0 ≤ X) (X1 : X ≤ 1023) (hY : bits .and .i64 x 3 = (y : Int)) (hy : y < 4) :
    Calls Try.prog 5 #[.int .i64 which, .int .i64 x] w fun e w' => e = .returned (.bool true) ∧ Le w w' := by
  have hbad : mayR ⟨0, 0, 0, (zs4.set y ⟨0, 0, 0, 0, 1 + (1 + X)⟩)⟩ = false := bad_slot hy (by simp [slotB, opUp, opMay]; try omega)
  have k1 := reserveAs (reserve_bad (k := 1) hbad) (by simp [zs4])
  have k2 := publishAs (publish_bad (p := 0) (c := 0) (r := 0) (a := 0) (t := 0) hbad) (by simp [zs4])
  have k3 := entryAs (entry_bad (p := 0) hbad) (by simp [zs4])
  have k4 := freeAs (free_bad (p := 0) hbad) (by simp [zs4])
  have k5 := mayAs hbad (by simp [zs4])
  have k6 := mayAs may4 fit4
  clear hbad
  go_enter Try.func5, Try.ntmps5
  go_wp2_with fail
  refine (lawAwake10 _).mono ?_
  rintro e w1 ⟨rfl, l1⟩
  go_wp2_with fail
  refine (refNewAs new4 _).mono ?_
  rintro e w2 ⟨q, rfl, o2, l2⟩
  have hgs : w.heap.size ≤ w1.heap.size := l1.size
  have hgs2 : w1.heap.size ≤ w2.heap.size := l2.size
  have hl := (l1.trans l2).trans (Le.alloc w2 (.cells (cellsR 0 0 0 q) 24))
  have hbr := Box.new w2 (cellsR 0 0 0 q) 24
  have hq := o2.le (Le.alloc w2 (.cells (cellsR 0 0 0 q) 24))
  clear l1 l2
  go_wp2_with fail
  refine (lawCopyRing 0 0 0 q zs4 _ hq.has fit4).mono ?_
  rintro e w3 ⟨u, rfl, o3, l3⟩
  have a3 := Le.alloc w3 (.cells (cellsR 0 0 0 u) 24)
  have hbg := Box.new w3 (cellsR 0 0 0 u) 24
  have hgs3 : w2.heap.size < w3.heap.size := (hbr.le l3).lt
  replace hbr := (hbr.le l3).le a3
  replace hq := (hq.le l3).le a3
  have hu := o3.le a3
  replace hl := (hl.trans l3).trans a3
  simp only [World.size_alloc] at hu
  obtain ⟨g, cap, rfl, hg, hcap⟩ := o2.shape (by decide)
  have hg2 := (OwnL.block o2 (g := g) rfl).2
  clear l3 a3 o3 o2
  replace hcap : 4 ≤ cap := hcap
  go_upto_region 6 with fail
  generalize hW : w3.alloc (.cells (cellsR 0 0 0 u) 24) = W at hl hbr hbg hq hu ⊢
  clear hW
  obtain ⟨r0, r1, r2, r3, f0, f1, f2, f3⟩ := hbr.ring
  replace r3 : W.cell? ⟨w2.heap.size, 3, none⟩ = some (.slice (some ⟨g, 0, none⟩) 4 cap) := r3
  obtain ⟨⟨x0, x1, x2, x3, x4⟩, hfz⟩ := OwnL.cell (i := y) hq (show y < zs4.length from hy)
  have g0 := hfz (y * 5 + 4)
  rw [zs4_at hy] at x0 x1 x2 x3 x4
  have y0 : (0 : Int) ≤ (y : Int) := by omega
  have y1 : (y : Int) < (4 : Int) := by omega
  have m0 : ¬ g = w2.heap.size := by omega
  have m1 : ¬ g = w3.heap.size := by omega
  clear hfz
  go_upto_region 31 with fail
  have hq' : HasL (W.setCell ⟨g, y * 5 + 4, none⟩ (.int .i64 (1 + (1 + X)))) (slV (some ⟨g, 0, none⟩, 4, cap)) (zs4.set y ⟨0, 0, 0, 0, 1 + (1 + X)⟩) := OwnL.has (OwnL.put1 (j := 4) (x := 1 + (1 + X)) hq (show y < zs4.length from hy) (by decide) (by rw [zs4_at hy]; rfl))
  have hu' : HasL (W.setCell ⟨g, y * 5 + 4, none⟩ (.int .i64 (1 + (1 + X)))) (slV u) zs4 := OwnL.has (hu.set (hu.off (by omega)))
  have hbr' := hbr.other (g' := g) (fun e => m0 e.symm) (y * 5 + 4) (.int .i64 (1 + (1 + X)))
  have hbg' := hbg.other (g' := g) (fun e => m1 e.symm) (y * 5 + 4) (.int .i64 (1 + (1 + X)))
  have hl' := hl.set (g := g) (i := y * 5 + 4) (u := .int .i64 (1 + (1 + X))) (by omega)
  generalize hW : (W.setCell ⟨g, y * 5 + 4, none⟩ (.int .i64 (1 + (1 + X)))) = V at hbr' hbg' hq' hu' hl' ⊢
  clear hW hbr hbg hq hu hl r0 r1 r2 r3 f0 f1 f2 f3 x0 x1 x2 x3 x4 g0 y0 y1
  obtain ⟨r0, r1, r2, r3, _, _, _, _⟩ := hbr'.ring
  go_wp2_with fail
  refine (k1 (some ⟨g, 0, none⟩, 4, cap) _ hq').mono ?_
  rintro e w11 ⟨q11, rfl, o11, l11⟩
  replace l11 := l11.trans (Le.alloc w11 (.cells (cellsR 0 0 0 q11) 24))
  replace hbr' := hbr'.le l11
  replace hbg' := hbg'.le l11
  replace hq' := hq'.le l11
  replace hu' := hu'.le l11
  replace hl' := hl'.trans l11
  clear l11 o11 r0 r1 r2 r3
  go_upto_region 32 with fail
  generalize hW : w11.alloc (.cells (cellsR 0 0 0 q11) 24) = V11 at hbr' hbg' hq' hu' hl' ⊢
  clear hW
  obtain ⟨r0, r1, r2, r3, _, _, _, _⟩ := hbr'.ring
  go_wp2_with fail
  refine (k2 (some ⟨g, 0, none⟩, 4, cap) _ hq').mono ?_
  rintro e w12 ⟨q12, rfl, o12, l12⟩
  replace l12 := l12.trans (Le.alloc w12 (.cells (cellsR 0 0 0 q12) 24))
  replace hbr' := hbr'.le l12
  replace hbg' := hbg'.le l12
  replace hq' := hq'.le l12
  replace hu' := hu'.le l12
  replace hl' := hl'.trans l12
  clear l12 o12 r0 r1 r2 r3
  go_upto_region 33 with fail
  generalize hW : w12.alloc (.cells (cellsR 0 0 0 q12) 24) = V12 at hbr' hbg' hq' hu' hl' ⊢
  clear hW
  obtain ⟨r0, r1, r2, r3, _, _, _, _⟩ := hbr'.ring
  go_wp2_with fail
  refine (k3 (some ⟨g, 0, none⟩, 4, cap) _ hq').mono ?_
  rintro e w13 ⟨rfl, l13⟩
  replace l13 := l13.trans (Le.alloc w13 (.cells (#[.int .i64 0, .int .i64 0, .int .i64 0, .int .i64 0, .int .i64 0]) 38))
  replace hbr' := hbr'.le l13
  replace hbg' := hbg'.le l13
  replace hq' := hq'.le l13
  replace hu' := hu'.le l13
  replace hl' := hl'.trans l13
  clear l13  r0 r1 r2 r3
  go_upto_region 34 with fail
  generalize hW : w13.alloc (.cells (#[.int .i64 0, .int .i64 0, .int .i64 0, .int .i64 0, .int .i64 0]) 38) = V13 at hbr' hbg' hq' hu' hl' ⊢
  clear hW
  obtain ⟨r0, r1, r2, r3, _, _, _, _⟩ := hbr'.ring
  go_wp2_with fail
  refine (k4 (some ⟨g, 0, none⟩, 4, cap) _ hq').mono ?_
  rintro e w14 ⟨q14, rfl, o14, l14⟩
  replace l14 := l14.trans (Le.alloc w14 (.cells (cellsR 0 0 0 q14) 24))
  replace hbr' := hbr'.le l14
  replace hbg' := hbg'.le l14
  replace hq' := hq'.le l14
  replace hu' := hu'.le l14
  replace hl' := hl'.trans l14
  clear l14 o14 r0 r1 r2 r3
  go_upto_region 35 with fail
  generalize hW : w14.alloc (.cells (cellsR 0 0 0 q14) 24) = V14 at hbr' hbg' hq' hu' hl' ⊢
  clear hW
  obtain ⟨r0, r1, r2, r3, _, _, _, _⟩ := hbr'.ring
  go_wp2_with fail
  refine (k5 (some ⟨g, 0, none⟩, 4, cap) _ hq').mono ?_
  rintro e w15 ⟨rfl, l15⟩
  clear r0 r1 r2 r3
  obtain ⟨r0, r1, r2, r3, _, _, _, _⟩ := (hbg'.le l15).ring
  go_wp2_with fail
  refine (k6 u _ (hu'.le l15)).mono ?_
  rintro e w16 ⟨rfl, l16⟩
  go_wp2_with (go_at_call 21; refine (lawNum _ _).mono ?_; rintro e _ ⟨rfl, rfl⟩)
  go_ret
  exact ⟨rfl, (hl'.trans l15).trans l16⟩

set_option linter.unusedVariables false in
set_option maxRecDepth 20000 in
set_option maxHeartbeats 4000000 in
theorem lawRForms11 (w : World) (which x X : Int) (y : Nat) (hw : (IntKind.u64.wrap which).tmod 12 = 11) (hX : bits .and .i64 x 1023 = X) (X0 : 0 ≤ X) (X1 : X ≤ 1023) (hY : bits .and .i64 x 3 = (y : Int)) (hy : y < 4) :
    Calls Try.prog 5 #[.int .i64 which, .int .i64 x] w fun e w' => e = .returned (.bool true) ∧ Le w w' := by
  have hbad : mayR ⟨1048576, 1048577, 0, zs4⟩ = false := bad_places (by omega)
  have k1 := reserveAs (reserve_bad (k := 1) hbad) fit4
  have k2 := publishAs (publish_bad (p := 0) (c := 0) (r := 0) (a := 0) (t := 0) hbad) fit4
  have k3 := entryAs (entry_bad (p := 0) hbad) fit4
  have k4 := freeAs (free_bad (p := 0) hbad) fit4
  have k5 := mayAs hbad fit4
  have k6 := mayAs may4 fit4
  clear hbad
  go_enter Try.func5, Try.ntmps5
  go_wp2_with fail
  refine (lawAwake10 _).mono ?_
  rintro e w1 ⟨rfl, l1⟩
  go_wp2_with fail
  refine (refNewAs new4 _).mono ?_
  rintro e w2 ⟨q, rfl, o2, l2⟩
  have hgs : w.heap.size ≤ w1.heap.size := l1.size
  have hgs2 : w1.heap.size ≤ w2.heap.size := l2.size
  have hl := (l1.trans l2).trans (Le.alloc w2 (.cells (cellsR 0 0 0 q) 24))
  have hbr := Box.new w2 (cellsR 0 0 0 q) 24
  have hq := o2.le (Le.alloc w2 (.cells (cellsR 0 0 0 q) 24))
  clear l1 l2
  go_wp2_with fail
  refine (lawCopyRing 0 0 0 q zs4 _ hq.has fit4).mono ?_
  rintro e w3 ⟨u, rfl, o3, l3⟩
  have a3 := Le.alloc w3 (.cells (cellsR 0 0 0 u) 24)
  have hbg := Box.new w3 (cellsR 0 0 0 u) 24
  have hgs3 : w2.heap.size < w3.heap.size := (hbr.le l3).lt
  replace hbr := (hbr.le l3).le a3
  replace hq := (hq.le l3).le a3
  have hu := o3.le a3
  replace hl := (hl.trans l3).trans a3
  simp only [World.size_alloc] at hu
  obtain ⟨g, cap, rfl, hg, hcap⟩ := o2.shape (by decide)
  have hg2 := (OwnL.block o2 (g := g) rfl).2
  clear l3 a3 o3 o2
  replace hcap : 4 ≤ cap := hcap
  go_upto_region 6 with fail
  generalize hW : w3.alloc (.cells (cellsR 0 0 0 u) 24) = W at hl hbr hbg hq hu ⊢
  clear hW
  obtain ⟨r0, r1, r2, r3, f0, f1, f2, f3⟩ := hbr.ring
  replace r3 : W.cell? ⟨w2.heap.size, 3, none⟩ = some (.slice (some ⟨g, 0, none⟩) 4 cap) := r3
  go_upto_region 31 with fail
  have hbr' : Box ((W.setCell ⟨w2.heap.size, 0, none⟩ (.int .i64 1048576)).setCell ⟨w2.heap.size, 1, none⟩ (.int .i64 1048577)) w2.heap.size (cellsR 1048576 1048577 0 (some ⟨g, 0, none⟩, 4, cap)) 24 := ((hbr.set 0 (.int .i64 1048576)).set 1 (.int .i64 1048577))
  have hq' : HasL ((W.setCell ⟨w2.heap.size, 0, none⟩ (.int .i64 1048576)).setCell ⟨w2.heap.size, 1, none⟩ (.int .i64 1048577)) (slV (some ⟨g, 0, none⟩, 4, cap)) zs4 := OwnL.has ((hq.setBox (i := 0) (u := .int .i64 1048576) hbr (by decide)).setBox (i := 1) (u := .int .i64 1048577) (hbr.set 0 (.int .i64 1048576)) (by decide))
  have hu' : HasL ((W.setCell ⟨w2.heap.size, 0, none⟩ (.int .i64 1048576)).setCell ⟨w2.heap.size, 1, none⟩ (.int .i64 1048577)) (slV u) zs4 := OwnL.has ((hu.setBox (i := 0) (u := .int .i64 1048576) hbr (by decide)).setBox (i := 1) (u := .int .i64 1048577) (hbr.set 0 (.int .i64 1048576)) (by decide))
  have hbg' := ((hbg.other (g' := w2.heap.size) (by omega) 0 (.int .i64 1048576)).other (g' := w2.heap.size) (by omega) 1 (.int .i64 1048577))
  have hl' := ((hl.set (g := w2.heap.size) (i := 0) (u := .int .i64 1048576) (by omega)).set (g := w2.heap.size) (i := 1) (u := .int .i64 1048577) (by omega))
  generalize hW : ((W.setCell ⟨w2.heap.size, 0, none⟩ (.int .i64 1048576)).setCell ⟨w2.heap.size, 1, none⟩ (.int .i64 1048577)) = V at hbr' hbg' hq' hu' hl' ⊢
  clear hW hbr hbg hq hu hl r0 r1 r2 r3 f0 f1 f2 f3
  obtain ⟨r0, r1, r2, r3, _, _, _, _⟩ := hbr'.ring
  go_wp2_with fail
  refine (k1 (some ⟨g, 0, none⟩, 4, cap) _ hq').mono ?_
  rintro e w11 ⟨q11, rfl, o11, l11⟩
  replace l11 := l11.trans (Le.alloc w11 (.cells (cellsR 0 0 0 q11) 24))
  replace hbr' := hbr'.le l11
  replace hbg' := hbg'.le l11
  replace hq' := hq'.le l11
  replace hu' := hu'.le l11
  replace hl' := hl'.trans l11
  clear l11 o11 r0 r1 r2 r3
  go_upto_region 32 with fail
  generalize hW : w11.alloc (.cells (cellsR 0 0 0 q11) 24) = V11 at hbr' hbg' hq' hu' hl' ⊢
  clear hW
  obtain ⟨r0, r1, r2, r3, _, _, _, _⟩ := hbr'.ring
  go_wp2_with fail
  refine (k2 (some ⟨g, 0, none⟩, 4, cap) _ hq').mono ?_
  rintro e w12 ⟨q12, rfl, o12, l12⟩
  replace l12 := l12.trans (Le.alloc w12 (.cells (cellsR 0 0 0 q12) 24))
  replace hbr' := hbr'.le l12
  replace hbg' := hbg'.le l12
  replace hq' := hq'.le l12
  replace hu' := hu'.le l12
  replace hl' := hl'.trans l12
  clear l12 o12 r0 r1 r2 r3
  go_upto_region 33 with fail
  generalize hW : w12.alloc (.cells (cellsR 0 0 0 q12) 24) = V12 at hbr' hbg' hq' hu' hl' ⊢
  clear hW
  obtain ⟨r0, r1, r2, r3, _, _, _, _⟩ := hbr'.ring
  go_wp2_with fail
  refine (k3 (some ⟨g, 0, none⟩, 4, cap) _ hq').mono ?_
  rintro e w13 ⟨rfl, l13⟩
  replace l13 := l13.trans (Le.alloc w13 (.cells (#[.int .i64 0, .int .i64 0, .int .i64 0, .int .i64 0, .int .i64 0]) 38))
  replace hbr' := hbr'.le l13
  replace hbg' := hbg'.le l13
  replace hq' := hq'.le l13
  replace hu' := hu'.le l13
  replace hl' := hl'.trans l13
  clear l13  r0 r1 r2 r3
  go_upto_region 34 with fail
  generalize hW : w13.alloc (.cells (#[.int .i64 0, .int .i64 0, .int .i64 0, .int .i64 0, .int .i64 0]) 38) = V13 at hbr' hbg' hq' hu' hl' ⊢
  clear hW
  obtain ⟨r0, r1, r2, r3, _, _, _, _⟩ := hbr'.ring
  go_wp2_with fail
  refine (k4 (some ⟨g, 0, none⟩, 4, cap) _ hq').mono ?_
  rintro e w14 ⟨q14, rfl, o14, l14⟩
  replace l14 := l14.trans (Le.alloc w14 (.cells (cellsR 0 0 0 q14) 24))
  replace hbr' := hbr'.le l14
  replace hbg' := hbg'.le l14
  replace hq' := hq'.le l14
  replace hu' := hu'.le l14
  replace hl' := hl'.trans l14
  clear l14 o14 r0 r1 r2 r3
  go_upto_region 35 with fail
  generalize hW : w14.alloc (.cells (cellsR 0 0 0 q14) 24) = V14 at hbr' hbg' hq' hu' hl' ⊢
  clear hW
  obtain ⟨r0, r1, r2, r3, _, _, _, _⟩ := hbr'.ring
  go_wp2_with fail
  refine (k5 (some ⟨g, 0, none⟩, 4, cap) _ hq').mono ?_
  rintro e w15 ⟨rfl, l15⟩
  clear r0 r1 r2 r3
  obtain ⟨r0, r1, r2, r3, _, _, _, _⟩ := (hbg'.le l15).ring
  go_wp2_with fail
  refine (k6 u _ (hu'.le l15)).mono ?_
  rintro e w16 ⟨rfl, l16⟩
  go_wp2_with (go_at_call 21; refine (lawNum _ _).mono ?_; rintro e _ ⟨rfl, rfl⟩)
  go_ret
  exact ⟨rfl, (hl'.trans l15).trans l16⟩

theorem lawRingForms (w : World) (which x : Int) : Calls Try.prog 5 #[.int .i64 which, .int .i64 x] w fun e w' => e = .returned (.bool true) ∧ Le w w' := by
  obtain ⟨X, hX, X0, X1⟩ : ∃ m, bits .and .i64 x 1023 = m ∧ 0 ≤ m ∧ m ≤ 1023 := ⟨_, and1023 x, by omega, by omega⟩
  obtain ⟨y, hY, hy⟩ : ∃ y : Nat, bits .and .i64 x 3 = (y : Int) ∧ y < 4 := ⟨(x % 4).toNat, by rw [and3]; omega, by omega⟩
  obtain ⟨q, hq, q0, q1⟩ := twelveR which
  rcases (by omega : q = 0 ∨ q = 1 ∨ q = 2 ∨ q = 3 ∨ q = 4 ∨ q = 5 ∨ q = 6 ∨ q = 7 ∨ q = 8 ∨ q = 9 ∨ q = 10 ∨ q = 11) with rfl | rfl | rfl | rfl | rfl | rfl | rfl | rfl | rfl | rfl | rfl | rfl
  · exact lawRForms0 w which x X y hq hX X0 X1 hY hy
  · exact lawRForms1 w which x X y hq hX X0 X1 hY hy
  · exact lawRForms2 w which x X y hq hX X0 X1 hY hy
  · exact lawRForms3 w which x X y hq hX X0 X1 hY hy
  · exact lawRForms4 w which x X y hq hX X0 X1 hY hy
  · exact lawRForms5 w which x X y hq hX X0 X1 hY hy
  · exact lawRForms6 w which x X y hq hX X0 X1 hY hy
  · exact lawRForms7 w which x X y hq hX X0 X1 hY hy
  · exact lawRForms8 w which x X y hq hX X0 X1 hY hy
  · exact lawRForms9 w which x X y hq hX X0 X1 hY hy
  · exact lawRForms10 w which x X y hq hX X0 X1 hY hy
  · exact lawRForms11 w which x X y hq hX X0 X1 hY hy

end Go.Proofs.Ytnncmjliehoknaa
