/-
  slices.Insert OF ONE NUMBER INTO A ROW OF THE CALL'S OWN: the row with that number at that place, in the row's own memory or in new memory, and nothing else turned. Condition: the place is within the row, and the row has at most a thousand numbers.
-/
import Derived.Test.YtnpejgendmgfaaaIns
namespace Go.Proofs.Ytnpejgendmgfaaa
open Go.RowKit Go.Shelf

theorem grown_set (w : World) (g i : Nat) (v : Value) : w.grownBy (w.setCell ⟨g, i, none⟩ v) (some g) :=
  ⟨rfl, rfl, rfl, by simp, fun k _ hne => Below.heap_setCell _ _ _ _ (fun e => hne (by rw [e]))⟩

theorem grown_drew (w : World) (row : Option Nat) : w.grownBy w.drew row := ⟨rfl, rfl, rfl, Nat.le_refl _, fun _ _ _ => rfl⟩

theorem grown_sets (g : Nat) : ∀ (vs : List Value) (o : Nat) (w : World), w.grownBy (w.setCells g o vs) (some g)
  | [], _, _ => World.grownBy.refl _ _
  | v :: r, o, w => grownBy_trans (grown_set w g o v) (grown_sets g r (o + 1) _)

theorem Box.sets {g : Nat} {t : TypeId} : ∀ (vs : List Value) (o : Nat) (w : World) (cur : Array Value), Box w g cur t → ∃ cur' : Array Value, cur'.size = cur.size ∧ Box (w.setCells g o vs) g cur' t
  | [], _, _, cur, h => ⟨cur, rfl, h⟩
  | v :: r, o, w, cur, h => by
    obtain ⟨c, hc, hb⟩ := Box.sets r (o + 1) (w.setCell ⟨g, o, none⟩ v) _ (h.set o v)
    exact ⟨c, by rw [hc]; simp, hb⟩

/-- A row of the call's own, told by its cells. -/
theorem Own.ofCells {w : World} {base g n cap : Nat} {cur : Array Value} {xs : List Int} (hb : Box w g cur 3) (hg : base ≤ g) (hn : n = xs.length) (hc : n ≤ cap) (hm : cap ≤ maxLen) (hs : cur.size = cap)
    (hx : ∀ j, j < n → w.cell? ⟨g, j, none⟩ = some (.int .i64 (xs.getD j 0))) : Own w base (.slice (some ⟨g, 0, none⟩) n cap) xs := by
  subst hn
  refine ⟨by simp, .inr ⟨g, cap, cur, rfl, hg, hb, hc, hm, by simp [hs], ?_⟩⟩
  apply List.ext_getElem?
  intro j
  rw [Nat.mul_one, List.getElem?_take]
  by_cases hj : j < xs.length
  · have := hx j hj
    rw [hb.cell j] at this
    rw [if_pos hj, Array.getElem?_toList, this]
    simp [hj, List.getD]
  · rw [if_neg hj, List.getElem?_eq_none (by simpa using hj)]

theorem getD_ins {xs : List Int} {i : Nat} {x : Int} (hi : i ≤ xs.length) (j : Nat) : (xs.take i ++ x :: xs.drop i).getD j 0 = if j < i then xs.getD j 0 else if j = i then x else xs.getD (j - 1) 0 := by
  have hl : (xs.take i).length = i := by rw [List.length_take]; omega
  simp only [List.getD]
  by_cases h1 : j < i
  · rw [if_pos h1, List.getElem?_append_left (by omega), List.getElem?_take, if_pos h1]
  · rw [if_neg h1, List.getElem?_append_right (by omega), hl]
    by_cases h2 : j = i
    · rw [if_pos h2, h2]; simp
    · rw [if_neg h2]
      obtain ⟨d, rfl⟩ : ∃ d, j = i + d + 1 := ⟨j - i - 1, by omega⟩
      rw [show i + d + 1 - i = d + 1 by omega, List.getElem?_cons_succ, List.getElem?_drop, show i + d + 1 - 1 = i + d by omega]

theorem map_at {xs : List Int} {j : Nat} {v : Value} (h : (xs.map (Value.int .i64))[j]? = some v) : j < xs.length ∧ v = .int .i64 (xs.getD j 0) := by
  rw [List.getElem?_map] at h
  have hlt : j < xs.length := by
    rcases Nat.lt_or_ge j xs.length with h' | h'
    · exact h'
    · rw [List.getElem?_eq_none h'] at h; cases h
  refine ⟨hlt, ?_⟩
  rw [List.getElem?_eq_getElem hlt] at h
  simp at h
  rw [← h]
  simp [List.getD, hlt]

theorem oneCell_ints (xs : List Int) : ∀ v ∈ xs.map (Value.int .i64), v.oneCell' = true := by
  intro v hv
  obtain ⟨x, _, rfl⟩ := List.mem_map.mp hv
  rfl

theorem slicesInsert (v : Value) (base : Nat) (xs : List Int) (i : Nat) (x : Int) (vb : Nat) (w : World) (hown : Own w base v xs) (hbase : base ≤ w.heap.size) (hi : i ≤ xs.length) (hl : xs.length ≤ 1000)
    (hv : Box w vb #[.int .i64 x] 3) (hvb : v.ownBlock ≠ some vb) :
    Calls Try.prog 60 #[v, .int .i64 i, .slice (some ⟨vb, 0, none⟩) 1 1] w fun e w' => ∃ v', e = .returned v' ∧ Own w' base v' (xs.take i ++ x :: xs.drop i) ∧ w.grownBy w' v.ownBlock := by
  have hvs : ∀ j u, [Value.int .i64 x][j]? = some u → w.cell? ⟨vb, 0 + j, none⟩ = some u := by
    intro j u hj
    rw [Nat.zero_add, hv.cell j]
    cases j with
    | zero => simpa using hj
    | succ j => simp at hj
  have h1v : ∀ u ∈ [Value.int .i64 x], u.oneCell' = true := by intro u hu; simp at hu; subst hu; rfl
  have hlen : (xs.take i ++ x :: xs.drop i).length = xs.length + 1 := by simp; omega
  have hmap : (xs.map (Value.int .i64)).length = xs.length := by simp
  have hcell := hown.has
  by_cases hend : i = xs.length
  · subst hend
    have htd : xs.take xs.length ++ x :: xs.drop xs.length = xs ++ [x] := by simp
    -- at the end
    by_cases hroom : ∃ g cap cur, v = .slice (some ⟨g, 0, none⟩) xs.length cap ∧ base ≤ g ∧ Box w g cur 3 ∧ xs.length + 1 ≤ cap ∧ cap ≤ maxLen ∧ cur.size = cap
    · obtain ⟨g, cap, cur, rfl, hg, hb, hc, hm, hs⟩ := hroom
      have hm' : cap ≤ 9223372036854775807 := by unfold maxLen at hm; omega
      have hc0 : ∀ j, j < xs.length → w.cell? ⟨g, j, none⟩ = some (.int .i64 (xs.getD j 0)) := by
        intro j hj
        obtain ⟨a, c', hv', _, _, hx⟩ := hcell
        obtain ⟨b, off, ha, hx⟩ := hx (by omega)
        cases hv'
        cases ha
        simpa using hx j hj
      refine (Any2.slices_Insert_int_end_room insLays g 0 xs.length cap vb 0 1 1 [.int .i64 x] w (by omega) hc hm' rfl (fun j hj => ?_) (fun j _ => hb.frozen _) hvs h1v).mono ?_
      · rw [hb.cell, Array.getElem?_eq_getElem (by omega)]; rfl
      rintro e w' ⟨rfl, rfl⟩
      obtain ⟨cur', hs', hb'⟩ := hb.sets [.int .i64 x] (0 + xs.length) w
      refine ⟨_, rfl, Own.ofCells hb' hg (by rw [hlen]) hc hm (by omega) (fun j hj => ?_), grown_sets g _ _ w⟩
      rw [getD_ins (Nat.le_refl _)]
      by_cases hj' : j < xs.length
      · rw [if_pos hj', World.cell?_setCells_out _ _ _ _ _ (fun _ _ => by simp; omega)]
        exact hc0 j hj'
      · obtain rfl : j = xs.length := by omega
        have := World.cell?_setCells_in g [.int .i64 x] (0 + xs.length) w (fun j hj => by simp at hj; subst hj; rw [hb.cell, Array.getElem?_eq_getElem (by omega)]; rfl) 0 (by simp)
        simpa using this
    · -- no room
      have hsh : ∃ (a : Option Addr) (cap : Nat), v = .slice a xs.length cap ∧ xs.length ≤ cap ∧ cap < xs.length + 1 ∧ (a = none → xs.length = 0) := by
        rcases hown.2 with ⟨h2, h3⟩ | ⟨g, cap, cur, h2, hg, hb, hc, hm, hs, _⟩
        · exact ⟨none, 0, by rw [h3]; exact h2, by omega, by omega, fun _ => h3⟩
        · refine ⟨_, cap, h2, hc, ?_, fun h => by cases h⟩
          rcases Nat.lt_or_ge cap (xs.length + 1) with h | h
          · exact h
          · exact absurd ⟨g, cap, cur, h2, hg, hb, h, hm, by omega⟩ hroom
      obtain ⟨a, cap, rfl, hc, hc', hnil⟩ := hsh
      refine (Any2.slices_Insert_int_end_grow insLays a xs.length cap vb 0 1 1 (xs.map (Value.int .i64)) [.int .i64 x] w (by omega) hc hc' (by omega) hmap rfl hnil (fun ad ha j u hj => ?_) hvs h1v).mono ?_
      · subst ha; exact hcell.cells j u hj
      rintro e w' ⟨rfl, rfl⟩
      have hG := grownCap_ge w (xs.length + 1) cap 3
      have hGm := grownCap_le_maxLen w (xs.length + 1) cap 3 (by unfold maxLen; omega)
      generalize hGG : grownCap w (xs.length + 1) cap (insRen.t 3) = G
      rw [show grownCap w (xs.length + 1) cap 3 = G from hGG] at hG hGm
      obtain ⟨ROW, hROW⟩ : ∃ ROW : Array Value, ROW = (xs.map (Value.int .i64) ++ [Value.int .i64 x]).toArray ++ Builtin.zeroCells (Value.int .i64 0).cells (G - (xs.length + 1)) := ⟨_, rfl⟩
      rw [← hROW]
      have hb0 : Box (w.drew.alloc (.cells ROW (insRen.t 3))) w.heap.size ROW 3 := Box.new w.drew ROW 3
      refine ⟨_, rfl, Own.ofCells hb0 hbase (by rw [hlen]) hG hGm ?_ (fun j hj => ?_), grownBy_trans (grown_drew w _) (World.grownBy_alloc _ _ _)⟩
      · rw [hROW, Array.size_append, size_zeroCells]
        simp [Value.cells]
        omega
      · rw [htd, hb0.cell j, hROW]
        rw [Array.getElem?_append_left (by simp; omega)]
        simp only [List.getElem?_toArray, List.getD]
        rw [show xs.map (Value.int .i64) ++ [Value.int .i64 x] = (xs ++ [x]).map (Value.int .i64) by simp, List.getElem?_map, List.getElem?_eq_getElem (by simp; omega)]
        rfl
  · have hlt : i < xs.length := by omega
    obtain ⟨g, cap, cur, rfl, hg, hb, hc, hm, hs⟩ : ∃ g cap cur, v = .slice (some ⟨g, 0, none⟩) xs.length cap ∧ base ≤ g ∧ Box w g cur 3 ∧ xs.length ≤ cap ∧ cap ≤ maxLen ∧ cur.size = cap := by
      rcases hown.2 with ⟨h2, h3⟩ | ⟨g, cap, cur, h2, hg, hb, hc, hm, hs, _⟩
      · omega
      · exact ⟨g, cap, cur, h2, hg, hb, hc, hm, by omega⟩
    have hm' : cap ≤ 9223372036854775807 := by unfold maxLen at hm; omega
    have hc0 : ∀ j, j < xs.length → w.cell? ⟨g, j, none⟩ = some (.int .i64 (xs.getD j 0)) := by
      intro j hj
      obtain ⟨a, c', hv', _, _, hx⟩ := hcell
      obtain ⟨b, off, ha, hx⟩ := hx (by omega)
      cases hv'
      cases ha
      simpa using hx j hj
    have hcs : ∀ j u, (xs.map (Value.int .i64))[j]? = some u → w.cell? ⟨g, 0 + j, none⟩ = some u := by
      intro j u hj
      obtain ⟨h1, rfl⟩ := map_at hj
      rw [Nat.zero_add]
      exact hc0 j h1
    have hdl : ((xs.map (Value.int .i64)).drop i).length = xs.length - i := by simp
    have hdat : ∀ j (h : j < ((xs.map (Value.int .i64)).drop i).length), ((xs.map (Value.int .i64)).drop i)[j] = .int .i64 (xs.getD (i + j) 0) := by
      intro j h
      have hh : i + j < xs.length := by omega
      simp [List.getD, hh]
    by_cases hroom : xs.length + 1 ≤ cap
    · refine (Any2.slices_Insert_int_shift insLays g 0 xs.length cap i vb 0 1 1 (xs.map (Value.int .i64)) [.int .i64 x] w hlt (by omega) hroom hm' (fun e => hvb (by rw [e]; rfl)) hmap rfl hcs (fun j hj => ?_) (fun j _ => hb.frozen _) hvs (oneCell_ints xs) h1v 3 3 1 cap ?_ ?_ (by omega) (hv.frozen _) (hv.frozen _)).mono ?_
      · rw [hb.cell, Array.getElem?_eq_getElem (by omega)]; rfl
      · unfold World.shape?; rw [show w.heap[vb]? = _ from hv]; rfl
      · unfold World.shape?; rw [show w.heap[g]? = _ from hb]; simp [hs]
      rintro e w' ⟨rfl, rfl⟩
      have hbd : Box w.drew g cur 3 := hb
      obtain ⟨c1, hs1, hb1⟩ := hbd.sets ((xs.map (Value.int .i64)).drop i) (0 + (i + 1)) w.drew
      obtain ⟨c2, hs2, hb2⟩ := hb1.sets [.int .i64 x] (0 + i) _
      refine ⟨_, rfl, Own.ofCells hb2 hg (by rw [hlen]) hroom hm (by omega) (fun j hj => ?_), grownBy_trans (grownBy_trans (grown_drew w _) (grown_sets g _ _ _)) (grown_sets g _ _ _)⟩
      rw [getD_ins hi]
      by_cases h1 : j = i
      · subst h1
        have := World.cell?_setCells_in g [.int .i64 x] (0 + j) (w.drew.setCells g (0 + (j + 1)) ((xs.map (Value.int .i64)).drop j)) (fun t ht => by simp at ht; subst ht; rw [hb1.cell, Array.getElem?_eq_getElem (by omega)]; rfl) 0 (by simp)
        simpa using this
      · rw [World.cell?_setCells_out _ _ _ _ _ (fun _ _ => by simp; omega)]
        by_cases h2 : j < i
        · rw [if_pos h2, World.cell?_setCells_out _ _ _ _ _ (fun _ _ => by left; show j < 0 + (i + 1); omega)]
          exact hc0 j (by omega)
        · rw [if_neg h2, if_neg h1]
          obtain ⟨d, rfl⟩ : ∃ d, j = i + 1 + d := ⟨j - i - 1, by omega⟩
          have := World.cell?_setCells_in g ((xs.map (Value.int .i64)).drop i) (0 + (i + 1)) w.drew (fun t ht => by rw [hbd.cell, Array.getElem?_eq_getElem (by omega)]; rfl) d (by omega)
          rw [hdat d (by omega), Nat.zero_add] at this
          rw [Nat.zero_add, this, show i + 1 + d - 1 = i + d by omega]
    · have hgw : g < w.heap.size := hb.lt
      refine (Any2.slices_Insert_int_grow insLays g 0 xs.length cap i vb 0 1 1 (xs.map (Value.int .i64)) [.int .i64 x] w hlt (by omega) hc (by omega) (by omega) hmap rfl hcs hvs (oneCell_ints xs) h1v).mono ?_
      rintro e w' ⟨rfl, rfl⟩
      have hG := grownCap_ge w (xs.length + 1) cap 3
      have hGm := grownCap_le_maxLen w (xs.length + 1) cap 3 (by unfold maxLen; omega)
      generalize hGG : grownCap w (xs.length + 1) cap (insRen.t 3) = G
      rw [show grownCap w (xs.length + 1) cap 3 = G from hGG] at hG hGm
      obtain ⟨ROW, hROW⟩ : ∃ ROW : Array Value, ROW = ((xs.map (Value.int .i64)).take i).toArray ++ Builtin.zeroCells (Value.int .i64 0).cells (xs.length + 1 - i) ++ Builtin.zeroCells (Value.int .i64 0).cells (G - (xs.length + 1)) := ⟨_, rfl⟩
      rw [← hROW]
      have hRs : ROW.size = G := by
        rw [hROW, Array.size_append, Array.size_append, size_zeroCells, size_zeroCells]
        simp [Value.cells]
        omega
      have hRat : ∀ j, j < i → ROW[j]? = some (.int .i64 (xs.getD j 0)) := by
        intro j hj
        rw [hROW, Array.getElem?_append_left (by simp; omega), Array.getElem?_append_left (by simp; omega)]
        simp only [List.getElem?_toArray]
        rw [List.getElem?_take, if_pos hj, List.getElem?_map, List.getElem?_eq_getElem (by omega)]
        simp [List.getD, show j < xs.length by omega]
      clear hROW
      have hb0 : Box (w.alloc (.cells ROW (insRen.t 3))).drew w.heap.size ROW 3 := Box.new w ROW 3
      obtain ⟨c1, hs1, hb1⟩ := hb0.sets [.int .i64 x] i _
      have hb1' : Box (((w.alloc (.cells ROW (insRen.t 3))).drew.setCells w.heap.size i [.int .i64 x]).drew) w.heap.size c1 3 := hb1
      obtain ⟨c2, hs2, hb2⟩ := hb1'.sets ((xs.map (Value.int .i64)).drop i) (i + 1) _
      refine ⟨_, rfl, Own.ofCells hb2 hbase (by rw [hlen]) hG hGm (by omega) (fun j hj => ?_), ?_⟩
      · rw [getD_ins hi]
        by_cases h2 : j < i
        · rw [if_pos h2, World.cell?_setCells_out _ _ _ _ _ (fun _ _ => by left; show j < i + 1; omega)]
          show ((w.alloc (.cells ROW (insRen.t 3))).drew.setCells w.heap.size i [.int .i64 x]).cell? ⟨w.heap.size, j, none⟩ = _
          rw [World.cell?_setCells_out _ _ _ _ _ (fun _ _ => by left; exact h2), hb0.cell j]
          exact hRat j h2
        · rw [if_neg h2]
          by_cases h1 : j = i
          · subst h1
            rw [if_pos rfl, World.cell?_setCells_out _ _ _ _ _ (fun _ _ => by left; show j < j + 1; omega)]
            have := World.cell?_setCells_in w.heap.size [.int .i64 x] j (w.alloc (.cells ROW (insRen.t 3))).drew (fun t ht => by simp at ht; subst ht; rw [hb0.cell, Array.getElem?_eq_getElem (by omega)]; rfl) 0 (by simp)
            simpa using this
          · rw [if_neg h1]
            obtain ⟨d, rfl⟩ : ∃ d, j = i + 1 + d := ⟨j - i - 1, by omega⟩
            have := World.cell?_setCells_in w.heap.size ((xs.map (Value.int .i64)).drop i) (i + 1) (((w.alloc (.cells ROW (insRen.t 3))).drew.setCells w.heap.size i [.int .i64 x]).drew) (fun t ht => by rw [hb1'.cell, Array.getElem?_eq_getElem (by omega)]; rfl) d (by omega)
            rw [hdat d (by omega)] at this
            rw [this, show i + 1 + d - 1 = i + d by omega]
      · have l1 : Le w (((((w.alloc (.cells ROW (insRen.t 3))).drew.setCells w.heap.size i [.int .i64 x]).drew).setCells w.heap.size (i + 1) ((xs.map (Value.int .i64)).drop i))) :=
          Below.grown (Below.grown ((Le.alloc w _).trans (Le.drew _)) (grownBy_trans (grown_sets w.heap.size [.int .i64 x] i _) (grown_drew _ _)) (by simp) (fun g e => by cases e; exact Nat.le_refl _)) (grown_sets w.heap.size _ _ _) (Nat.le_trans (show w.heap.size ≤ (w.alloc (.cells ROW (insRen.t 3))).drew.heap.size by simp) (grown_sets w.heap.size [.int .i64 x] i (w.alloc (.cells ROW (insRen.t 3))).drew).size) (fun g e => by cases e; exact Nat.le_refl _)
        exact ⟨l1.os, l1.tape, l1.output, l1.size, fun k hk _ => l1.block k hk⟩

end Go.Proofs.Ytnpejgendmgfaaa
