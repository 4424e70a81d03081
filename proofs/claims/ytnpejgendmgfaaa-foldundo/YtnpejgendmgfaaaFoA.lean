/-
  THE WALKS over package fold's inTurn and Fold: what each answers, for every object, state and operations. Condition: the state's rows and the operations can be copied.
-/
import Derived.Test.YtnpejgendmgfaaaFoS
import Derived.Test.YtnpejgendmgfaaaObjB
import Derived.Test.YtnpejgendmgfaaaHasBox
import Derived.Test.YtnpejgendmgfaaaSts
namespace Go.Proofs.Ytnpejgendmgfaaa
open Go.RowKit

/-- What a store at a place of an owned row leaves. -/
theorem Own.putAt {w : World} {base g L cap p : Nat} {xs : List Int} (h : Own w base (.slice (some ⟨g, 0, none⟩) L cap) xs) (hp : p < xs.length) :
    w.frozen? ⟨g, p, none⟩ = false ∧ w.cell? ⟨g, p, none⟩ = some (.int .i64 (xs.getD p 0)) ∧ ∀ x, Own (w.setCell ⟨g, p, none⟩ (.int .i64 x)) base (.slice (some ⟨g, 0, none⟩) L cap) (xs.set p x) := by
  have hL : L = xs.length := by
    obtain ⟨a, c, hv, _⟩ := h.has
    simp only [Value.slice.injEq] at hv
    exact hv.2.1
  subst hL
  have h' := h
  refine ⟨World.ownsRow.frozenAt h' p, ?_, fun x => ?_⟩
  · rw [World.ownsRow.cellAt h' p (by omega)]
    simp [List.getElem?_map, List.getElem?_eq_getElem hp, List.getD]
  · have h3 := (World.ownsRow.stored h' p (.int .i64 x)).1
    exact Own.of (by simpa using h3) (by simp) (by simp [List.map_set])

theorem Own.set1 {w : World} {base g i : Nat} {v u : Value} {xs : List Int} (h : Own w base v xs) (hne : v.ownBlock ≠ some g) : Own (w.setCell ⟨g, i, none⟩ u) base v xs :=
  ownsRow_setCell_other h hne u

/-- What stands ahead of each round: the state so far in its variable, the answers so far in theirs. -/
structure FoI (w : World) (o : Int) (s : St) (ps : List Opr) (g gA : Nat) (wr : World) (k : Nat) (us : Nat → Sl) : Prop where
  le : Le w wr
  res : Box wr (w.heap.size + 1) (cells4 fun _ => slZ) 25
  box : Box wr g (cells4 us) 25
  rows : ∀ i, i < 4 → Own wr w.heap.size (slV (us i)) ((foldSt o s (ps.take k)).at i)
  ans : Own wr w.heap.size (.slice (some ⟨gA, 0, none⟩) ps.length ps.length) (answers o s ps k)
  off : ∀ i, i < 4 → (slV (us i)).ownBlock ≠ some gA
  gb : w.heap.size + 1 < g
  ga : w.heap.size ≤ gA
  may : opsMay (ps.take k) = true

theorem FoI.apart {w wr : World} {o : Int} {s : St} {ps : List Opr} {g gA k : Nat} {us : Nat → Sl} (h : FoI w o s ps g gA wr k us) {g' : Nat} {cs : Array Value} (hb : Box wr g' cs 25) : g' ≠ gA := by
  intro e
  subst e
  exact h.ans.apart hb (by decide) rfl

theorem FoI.next {w wr w2 : World} {o : Int} {s : St} {ps : List Opr} {g gA k : Nat} {us q : Nat → Sl} (h : FoI w o s ps g gA wr k us) (hk : k < ps.length) (hp : (ps.getD k Opr.zero).may = true) (l : Le wr w2)
    (hq : ∀ i, i < 4 → Own w2 wr.heap.size (slV (q i)) ((stepS o (foldSt o s (ps.take k)) (ps.getD k Opr.zero)).at i)) :
    FoI w o s ps g gA (((((w2.setCell ⟨g, 0, none⟩ (slV (q 0))).setCell ⟨g, 1, none⟩ (slV (q 1))).setCell ⟨g, 2, none⟩ (slV (q 2))).setCell ⟨g, 3, none⟩ (slV (q 3))).setCell ⟨gA, k, none⟩ (.int .i64 (stepA o (foldSt o s (ps.take k)) (ps.getD k Opr.zero)))) (k + 1) q := by
  have hb := h.box.le l
  have hne := h.apart h.box
  have hne1 := h.apart h.res
  have hsz := h.le.size
  have hgA : gA < wr.heap.size := (h.ans.block (g := gA) rfl).2
  have hoff : ∀ i, i < 4 → (slV (q i)).ownBlock ≠ some gA := fun i hi e => by
    have := ((hq i hi).block e).1
    omega
  have gb := h.gb
  have hans := ((h.ans.le l).set4 hb (by decide) (slV (q 0)) (slV (q 1)) (slV (q 2)) (slV (q 3))).putAt (p := k) (by rw [answers_len (by omega)]; exact hk)
  refine ⟨?_, ?_, ?_, fun i hi => ?_, ?_, hoff, h.gb, h.ga, ?_⟩
  · exact Below.setCell ((h.le.trans l).set4 (by omega) _ _ _ _) h.ga _
  · exact ((h.res.le l).other4 (by omega) _ _ _ _).other hne1 _ _
  · exact Box.other ((((hb.set 0 _).set 1 _).set 2 _).set 3 _) hne _ _
  · rw [foldSt_take hk]
    exact (((hq i hi).base (by omega)).set4 hb (by decide) _ _ _ _).set1 (hoff i hi)
  · rw [← answers_next hk]
    exact hans.2.2 _
  · rw [opsMay_take hk, h.may, hp]; rfl

theorem foldMay_bad {o : Int} {s : St} {ps : List Opr} {k : Nat} (h : k < ps.length) (hb : (ps.getD k Opr.zero).may = false) : foldMay o s ps = false := by
  unfold foldMay; rw [opsMay_bad h hb, Bool.and_false]

set_option maxRecDepth 4000 in
set_option maxHeartbeats 1000000 in
theorem foldInTurn (o : Int) (v u : Value) (s : St) (ps : List Opr) (w : World) (hx : HasS w v s) (hf : Fit s) (ho : HasO w u ps) (hn : ps.length * 24 ≤ 140737488351232) :
    Calls Try.prog 23 #[.int .i64 o, v, u] w fun e w' => ∃ (q : Nat → Sl) (z : Value), e = .returned (.tuple #[stV q, z, .bool (foldMay o s ps)]) ∧ Le w w' ∧
      (foldMay o s ps = true → OwnS w' w.heap.size (stV q) (foldSt o s ps) ∧ Own w' w.heap.size z (foldAn o s ps)) := by
  have hx0 := hx
  obtain ⟨vs, rfl, hr⟩ := hx
  have hb1 := (Box.new w (cells4 vs) 25).le (Le.alloc _ (.cells (cells4 fun _ => slZ) 25))
  have hb2 := Box.new (w.alloc (.cells (cells4 vs) 25)) (cells4 fun _ => slZ) 25
  rw [World.size_alloc] at hb2
  have hl := (Le.alloc w (.cells (cells4 vs) 25)).trans (Le.alloc _ (.cells (cells4 fun _ => slZ) 25))
  have hmay := objMayC o (stV vs) s _ (hx0.le hl) hf
  cases hm : objMay o s
  · have hfm : foldMay o s ps = false := by unfold foldMay; rw [hm]; rfl
    rw [hfm]
    rw [hm] at hmay
    go_enter Try.func23, Try.ntmps23
    go_wp2_with fail
    refine hmay.mono ?_
    rintro e w1 ⟨rfl, l1⟩
    obtain ⟨y0, y1, y2, y3, _, _, _, _⟩ := (hb1.le l1).st
    obtain ⟨z0, z1, z2, z3, f0, f1, f2, f3⟩ := (hb2.le l1).st
    go_wp2_with fail
    refine bodyPost_ret (v := .tuple #[stV vs, .slice none 0 0, .bool false]) (by simp [results, Try.results23, go_sem, z0, z1, z2, z3]) rfl ⟨vs, _, rfl, ?_, fun h => by cases h⟩
    exact (hl.trans l1).set4 (by omega) _ _ _ _
  · rw [hm] at hmay
    obtain ⟨i0, hi, hz0, hz1, hz2⟩ := info_parts info3
    obtain ⟨a, cap, rfl, hc, hnone, hops⟩ := ho
    have hopA : ∀ k, k < ps.length → ∃ b off, a = some ⟨b, off, none⟩ ∧ OprAt w b (off + k * 3) (ps.getD k Opr.zero) := fun k hk => by
      obtain ⟨b, off, ha, hcell⟩ := hops (by omega)
      exact ⟨b, off, ha, hcell k hk⟩
    clear hops
    obtain ⟨L, hL⟩ : ∃ L, L = ps.length := ⟨_, rfl⟩
    have HL : Hid (L = ps.length) := hL
    rw [← hL] at hc hopA hn ⊢
    have hans0 : answers o s ps 0 = List.replicate L 0 := by rw [answers_zero, hL]
    clear hL
    go_enter Try.func23, Try.ntmps23
    go_wp2_with fail
    refine hmay.mono ?_
    rintro e w1 ⟨rfl, l1⟩
    replace hb1 := hb1.le l1
    replace hb2 := hb2.le l1
    replace hl := hl.trans l1
    clear l1 hmay
    obtain ⟨y0, y1, y2, y3, _, _, _, _⟩ := hb1.st
    go_wp2_with fail
    refine (statesCopy (stV vs) s _ (hx0.le hl) hf).mono ?_
    rintro e w2 ⟨us, rfl, o2, _, l2⟩
    clear y0 y1 y2 y3
    replace hb2 := hb2.le l2
    have hl2 := hl.trans l2
    have hs1 := hl.size
    have hs2 := hl2.size
    have hb3 := Box.new w2 (cells4 us) 25
    have hA := Le.alloc w2 (.cells (cells4 us) 25)
    have hlt2 := hb2.lt
    replace hl2 := hl2.trans hA
    replace hb2 := hb2.le hA
    have o3 := fun i hi => ((o2 i hi).le hA).base (show w.heap.size ≤ w1.heap.size by omega)
    have off3 : ∀ i, i < 4 → (slV (us i)).ownBlock ≠ some (w2.heap.size + 1) := fun i hi e => by have := ((o2 i hi).block e).2; omega
    clear hA o2 l2
    go_upto_region 4 with fail
    generalize hW : w2.alloc (.cells (cells4 us) 25) = W at hb2 hb3 hl2 o3 ⊢
    have hWs : W.heap.size = w2.heap.size + 1 := by rw [← hW, World.size_alloc]
    clear hW
    rw [← hWs] at off3
    generalize w2.heap.size = g3 at hb3 hWs hs2 hlt2 ⊢
    clear hWs
    go_wp2_with (at_make; refine wpList_make_full _ rfl _ _ 22 rfl w.heap.size 3 i0 (.int .i64 0) 1 Try.underlying22 hi hz0 hz1 .i64 .i64 _ _ L rfl rfl (by omega) (by omega) (by rw [hz2]; omega) (by unfold maxLen; omega) hl2.size ?_; intro w4 hown4 hgrow4)
    have l4 : Le W w4 := Below.grown (Le.refl W) hgrow4 (Nat.le_refl _) (fun g hg => by cases hg)
    have I0 : FoI w o s ps g3 W.heap.size w4 0 us := by
      refine ⟨hl2.trans l4, hb2.le l4, hb3.le l4, fun i hi => (o3 i hi).le l4, ?_, off3, by omega, hl2.size, rfl⟩
      rw [← HL.out, hans0]
      exact Own.of hown4 (by simp) (by rw [show (Value.int .i64 0).cells = #[.int .i64 0] from rfl, Nat.mul_one, toList_madeCells_one]; simp)
    clear hown4 hgrow4 l4 hb2 hb3 hl2 o3 off3 hs2 hlt2 hb1 hl hs1
    generalize W.heap.size = gA at I0 ⊢
    go_loopw [26] (fun i wr => ∃ (k : Nat) (us : Nat → Sl), k ≤ L ∧ i = .int .i64 k ∧ FoI w o s ps g3 gA wr k us) (fun i _ => L - (intOf i).toNat)
    case atStart => exact ⟨0, us, by omega, rfl, I0⟩
    case round =>
      obtain ⟨k, us, hk, rfl, I⟩ := hrel
      clear I0
      by_cases hlt : k < L
      · obtain ⟨p, hpk⟩ : ∃ p, p = ps.getD k Opr.zero := ⟨_, rfl⟩
        obtain ⟨b, off, rfl, hcell⟩ := hopA k hlt
        obtain ⟨x0, x1, x2⟩ := hcell.le I.le
        rw [← hpk] at x0 x1 x2
        have HP : Hid (p = ps.getD k Opr.zero) := hpk
        have hlt' : (k : Int) < (L : Int) := by omega
        clear hcell hpk hopA
        have hmk : objMay o (foldSt o s (ps.take k)) = true := foldSt_may hm I.may
        have hfk : Fit (foldSt o s (ps.take k)) := hf.foldSt
        have hA := Le.alloc wr (.cells #[.int .i64 p.c, .int .i64 p.r, .int .i64 p.a] 43)
        have hap := objApply o (stV us) (foldSt o s (ps.take k)) p.c p.r p.a _ (OwnS.has ⟨us, rfl, fun i hi => (I.rows i hi).le hA⟩) hfk
        obtain ⟨b0, b1, b2, b3, f0, f1, f2, f3⟩ := (I.box.le hA).st
        have hgA := I.ans.putAt (p := k) (by have := HL.out; rw [answers_len (by omega)]; omega)
        cases hp : p.may
        · rw [objS_bad 600 hp] at hap
          go_wp2_with fail
          refine hap.mono ?_
          rintro e w5 ⟨_, rfl, ⟨q, rfl, o5⟩, l5⟩
          have l6 := hA.trans l5
          obtain ⟨b0, b1, b2, b3, f0, f1, f2, f3⟩ := (I.box.le l6).st
          obtain ⟨z0, z1, z2, z3, e0, e1, e2, e3⟩ := (I.res.le l6).st
          obtain ⟨fA, cA, _⟩ := (I.ans.le l6).putAt (p := k) (by have := HL.out; rw [answers_len (by omega)]; omega)
          generalize (answers o s ps k).getD k 0 = yA at cA
          have hne := I.apart I.box
          have gb := I.gb
          have ga := I.ga
          have lw := I.le.trans l6
          have hbad : Hid (foldMay o s ps = false) := foldMay_bad (k := k) (by have := HL.out; omega) (by rw [← HP.out]; exact hp)
          have hne1 := I.apart I.res
          have hne' : ¬ gA = g3 := fun e => hne e.symm
          have hr5 := ((I.res.le l6).other4 (g' := g3) (by omega) (slV (q 0)) (slV (q 1)) (slV (q 2)) (slV (q 3))).other hne1 k (.int .i64 0)
          have hb5 := Box.other ((((((I.box.le l6).set 0 (slV (q 0))).set 1 (slV (q 1))).set 2 (slV (q 2))).set 3 (slV (q 3)))) hne k (.int .i64 0)
          replace hb5 : Box _ g3 (cells4 q) 25 := hb5
          have l7 : Le w _ := Below.setCell (lw.set4 (g := g3) (by omega) (slV (q 0)) (slV (q 1)) (slV (q 2)) (slV (q 3))) (show w.heap.size ≤ (⟨gA, k, none⟩ : Addr).block from ga) (.int .i64 0)
          clear hap hx0 hfk hmk hm I hA lw o5 l5 l6 x0 x1 x2 hgA
          go_upto_region 10 with fail
          generalize hW5 : ((((w5.setCell ⟨g3, 0, none⟩ (slV (q 0))).setCell ⟨g3, 1, none⟩ (slV (q 1))).setCell ⟨g3, 2, none⟩ (slV (q 2))).setCell ⟨g3, 3, none⟩ (slV (q 3))).setCell ⟨gA, k, none⟩ (.int .i64 0) = W5 at hr5 hb5 l7 ⊢
          clear hW5 b0 b1 b2 b3 f0 f1 f2 f3 z0 z1 z2 z3 e0 e1 e2 e3 fA cA
          obtain ⟨b0, b1, b2, b3, _, _, _, _⟩ := hb5.st
          obtain ⟨z0, z1, z2, z3, e0, e1, e2, e3⟩ := hr5.st
          go_wp2_with fail
          refine bodyPost_ret (v := .tuple #[stV q, .slice (some ⟨gA, 0, none⟩) L L, .bool (foldMay o s ps)]) (by rw [hbad.out]; simp [results, Try.results23, go_sem, z0, z1, z2, z3]) rfl ⟨q, _, rfl, ?_, fun h => by rw [hbad.out] at h; cases h⟩
          exact l7.set4 (by omega) _ _ _ _
        · rw [objS_step 600 hmk hp] at hap
          go_wp2_with fail
          refine hap.mono ?_
          rintro e w5 ⟨_, rfl, ⟨q, rfl, o5⟩, l5⟩
          have l6 := hA.trans l5
          obtain ⟨b0, b1, b2, b3, f0, f1, f2, f3⟩ := (I.box.le l6).st
          obtain ⟨fA, cA, _⟩ := (I.ans.le l6).putAt (p := k) (by have := HL.out; rw [answers_len (by omega)]; omega)
          generalize (answers o s ps k).getD k 0 = yA at cA
          have hne := I.apart I.box
          have hsz := hA.size
          have hne' : ¬ gA = g3 := fun e => hne e.symm
          have IN := I.next (by have := HL.out; omega) (by rw [← HP.out]; exact hp) l6 (q := q) (fun i hi => by rw [← HP.out]; exact (o5 i hi).base hsz)
          rw [← HP.out] at IN
          clear hap hx0 hfk hA o5 l5 l6 x0 x1 x2 hgA
          go_upto_region 10 with fail
          go_wp2_with fail
          go_roundw
          case rel => exact ⟨k + 1, q, by omega, by go_num, IN⟩
          case measure => simp [intOf]; omega
      · obtain rfl : k = L := by omega
        obtain ⟨b0, b1, b2, b3, _, _, _, _⟩ := I.box.st
        obtain ⟨z0, z1, z2, z3, e0, e1, e2, e3⟩ := I.res.st
        have hne := I.apart I.res
        have hall : foldMay o s ps = true := by
          have := I.may
          rw [HL.out, List.take_length] at this
          unfold foldMay; rw [hm, this]; rfl
        have HB : Hid (foldMay o s ps = true) := hall
        clear hall hm
        go_wp2_with fail
        refine bodyPost_ret (v := .tuple #[stV us, .slice (some ⟨gA, 0, none⟩) k k, .bool (foldMay o s ps)]) (by rw [HB.out]; simp [results, Try.results23, go_sem, z0, z1, z2, z3]) rfl ⟨us, _, rfl, I.le.set4 (by omega) _ _ _ _, fun _ => ⟨⟨us, rfl, fun i hi => ?_⟩, ?_⟩⟩
        · have := I.rows i hi
          rw [HL.out, List.take_length] at this
          exact this.set4 I.res (by decide) _ _ _ _
        · have := I.ans
          rw [← HL.out] at this
          have h2 : answers o s ps k = foldAn o s ps := by rw [HL.out]; exact answers_all o s ps
          rw [h2] at this
          exact this.set4 I.res (by decide) _ _ _ _

end Go.Proofs.Ytnpejgendmgfaaa
