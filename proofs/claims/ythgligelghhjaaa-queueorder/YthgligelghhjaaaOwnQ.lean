/-
  PLAIN GROUND: a row of numbers of the call's own that may begin anywhere in its block (as one from which first numbers have gone), and what an append makes of it. Condition: it is short.
-/
import Derived.Test.YthgligelghhjaaaStB
namespace Go.Proofs.Ythgligelghhjaaa
open Go.RowKit

/-- A row of the call's own that may begin anywhere in its block. -/
def OwnQ (w : World) (base : Nat) (v : Value) (xs : List Int) : Prop :=
  (v = .slice none 0 0 ∧ xs = []) ∨
  ∃ g off cap cur, v = .slice (some ⟨g, off, none⟩) xs.length cap ∧ base ≤ g ∧ w.heap[g]? = some (.cells cur 3 (0, 0)) ∧ xs.length ≤ cap ∧ cap ≤ maxLen ∧ off + cap ≤ cur.size ∧
    ∀ i, i < xs.length → cur[off + i]? = some (.int .i64 (xs.getD i 0))

theorem OwnQ.nil (w : World) (base : Nat) : OwnQ w base (.slice none 0 0) [] := .inl ⟨rfl, rfl⟩

theorem OwnQ.has {w : World} {base : Nat} {v : Value} {xs : List Int} (h : OwnQ w base v xs) : Has w v xs := by
  rcases h with ⟨rfl, rfl⟩ | ⟨g, off, cap, cur, rfl, _, hg, hn, _, _, hc⟩
  · exact Has.nil _
  · refine ⟨_, cap, rfl, hn, (fun h => by cases h), fun _ => ⟨g, off, rfl, fun i hi => ?_⟩⟩
    rw [cell_of_row w g (off + i) cur 3 (0, 0) hg]
    exact hc i hi

theorem OwnQ.grown {w w' : World} {base : Nat} {v : Value} {xs : List Int} {row : Option Nat} (h : OwnQ w base v xs) (hg : w.grownBy w' row) (hne : ∀ g, v.ownBlock = some g → row ≠ some g) : OwnQ w' base v xs := by
  rcases h with h | ⟨g, off, cap, cur, hv, hb, hh, r⟩
  · exact .inl h
  · exact .inr ⟨g, off, cap, cur, hv, hb, by rw [hg.block g (block_lt hh) (fun e => hne g (by rw [hv]; rfl) e.symm)]; exact hh, r⟩

theorem OwnQ.le {w w' : World} {base : Nat} {v : Value} {xs : List Int} (h : OwnQ w base v xs) (hl : Le w w') : OwnQ w' base v xs := by
  rcases h with h | ⟨g, off, cap, cur, hv, hb, hh, r⟩
  · exact .inl h
  · exact .inr ⟨g, off, cap, cur, hv, hb, by rw [hl.block g (block_lt hh)]; exact hh, r⟩

theorem OwnQ.base {w : World} {base base' : Nat} {v : Value} {xs : List Int} (h : OwnQ w base v xs) (hb : base' ≤ base) : OwnQ w base' v xs := by
  rcases h with h | ⟨g, off, cap, cur, hv, hbg, r⟩
  · exact .inl h
  · exact .inr ⟨g, off, cap, cur, hv, Nat.le_trans hb hbg, r⟩

theorem OwnQ.block {w : World} {base g : Nat} {v : Value} {xs : List Int} (h : OwnQ w base v xs) (e : v.ownBlock = some g) : base ≤ g ∧ ∃ cur, Box w g cur 3 := by
  rcases h with ⟨rfl, _⟩ | ⟨g', off, cap, cur, rfl, hg, hh, _⟩
  · simp [Value.ownBlock] at e
  · simp [Value.ownBlock] at e
    subst e
    exact ⟨hg, cur, hh⟩

theorem OwnQ.apart {w : World} {base g : Nat} {v : Value} {xs : List Int} {cs : Array Value} {t : TypeId} (h : OwnQ w base v xs) (hb : Box w g cs t) (ht : t ≠ 3) : v.ownBlock ≠ some g := by
  intro e
  obtain ⟨_, cur, hc⟩ := h.block e
  unfold Box at hb hc
  rw [hb] at hc
  simp at hc
  exact ht hc.2

theorem OwnQ.setBox {w : World} {base g i : Nat} {v u : Value} {xs : List Int} {cs : Array Value} {t : TypeId} (h : OwnQ w base v xs) (hb : Box w g cs t) (ht : t ≠ 3) : OwnQ (w.setCell ⟨g, i, none⟩ u) base v xs := by
  have hne := h.apart hb ht
  rcases h with h | ⟨g', off, cap, cur, rfl, hbg, hh, r⟩
  · exact .inl h
  · refine .inr ⟨g', off, cap, cur, rfl, hbg, ?_, r⟩
    rw [Below.heap_setCell _ _ _ _ (fun e => hne (by simp [Value.ownBlock]; exact e))]
    exact hh

theorem OwnQ.set4 {w : World} {base g : Nat} {v : Value} {xs : List Int} {cs : Array Value} {t : TypeId} (h : OwnQ w base v xs) (hb : Box w g cs t) (ht : t ≠ 3) (x0 x1 x2 x3 : Value) :
    OwnQ ((((w.setCell ⟨g, 0, none⟩ x0).setCell ⟨g, 1, none⟩ x1).setCell ⟨g, 2, none⟩ x2).setCell ⟨g, 3, none⟩ x3) base v xs :=
  (((h.setBox hb ht).setBox (hb.set _ _) ht).setBox ((hb.set _ _).set _ _) ht).setBox (((hb.set _ _).set _ _).set _ _) ht

/-- The row without its first number. -/
theorem OwnQ.tail {w : World} {base : Nat} {a : Option Addr} {n cap : Nat} {x : Int} {xs : List Int} (h : OwnQ w base (.slice a n cap) (x :: xs)) :
    ∃ b off, a = some ⟨b, off, none⟩ ∧ n = xs.length + 1 ∧ xs.length + 1 ≤ cap ∧ w.cell? ⟨b, off, none⟩ = some (.int .i64 x) ∧
      OwnQ w base (.slice (if cap = 1 then some ⟨b, off, none⟩ else some ⟨b, off + 1, none⟩) xs.length (cap - 1)) xs := by
  have hh := h.has
  rcases h with ⟨h1, h2⟩ | ⟨g, off, cap', cur, hv, hbg, hg, hn, hm, hs, hc⟩
  · cases h2
  · simp only [List.length_cons, Value.slice.injEq] at hv hn
    obtain ⟨rfl, rfl, rfl⟩ := hv
    have c0 := hc 0 (by simp)
    refine ⟨g, off, rfl, rfl, hn, ?_, ?_⟩
    · rw [cell_of_row w g off cur 3 (0, 0) hg]; exact c0
    · by_cases e : cap = 1
      · rw [if_pos e]
        have : xs = [] := by cases xs with | nil => rfl | cons _ _ => simp at hn; omega
        subst this
        exact .inr ⟨g, off, cap - 1, cur, rfl, hbg, hg, by simp, by omega, by omega, fun i hi => by simp at hi⟩
      · rw [if_neg e]
        refine .inr ⟨g, off + 1, cap - 1, cur, rfl, hbg, hg, by omega, by omega, by omega, fun i hi => ?_⟩
        have := hc (i + 1) (by simp; omega)
        rw [Nat.add_assoc, Nat.add_comm 1 i, this]
        rfl

theorem getD_left {xs ys : List Int} {i : Nat} (h : i < xs.length) : (xs ++ ys).getD i 0 = xs.getD i 0 := by
  simp [List.getD, List.getElem?_append_left h]
theorem getD_right {xs ys : List Int} {i : Nat} (h : xs.length ≤ i) : (xs ++ ys).getD i 0 = ys.getD (i - xs.length) 0 := by
  simp [List.getD, List.getElem?_append_right h]
theorem news_at {ys : List Int} {i : Nat} (h : i < ys.length) : (ys.map (Value.int .i64))[i]? = some (.int .i64 (ys.getD i 0)) := by
  simp [List.getElem?_map, List.getElem?_eq_getElem h, List.getD]

/-- A new block that holds a row and spare room. -/
theorem OwnQ.fresh (w : World) (base : Nat) (hb : base ≤ w.heap.size) (xs : List Int) (zs : Array Value) (cap : Nat) (hn : xs.length ≤ cap) (hm : cap ≤ maxLen) (hz : zs.size = cap - xs.length) :
    OwnQ (w.alloc (.cells ((xs.map (Value.int .i64)).toArray ++ zs) 3)) base (.slice (some ⟨w.heap.size, 0, none⟩) xs.length cap) xs := by
  refine .inr ⟨w.heap.size, 0, cap, _, rfl, hb, heap_alloc_new w _, hn, hm, by simp [hz]; omega, fun i hi => ?_⟩
  rw [Nat.zero_add, Array.getElem?_append_left (by simpa using hi), List.getElem?_toArray]
  exact news_at hi

theorem run_append_q {w : World} (ty : TypeId) (base : Nat) (v : Value) (xs ys : List Int) (hown : OwnQ w base v xs) (a : Addr) (c : Nat) (hy : Has w (.slice (some a) ys.length c) ys) (h0 : 0 < ys.length) (hl : xs.length + ys.length ≤ 1000) (hbase : base ≤ w.heap.size) :
    ∃ v' w', (Builtin.append_ #[22, 22] ty #[v, .slice (some a) ys.length c]).run Try.prog w = .ok v' w' ∧ OwnQ w' base v' (xs ++ ys) ∧ w.grownBy w' v.ownBlock := by
  obtain ⟨i0, hi, hz0, hz1, hz2⟩ := info_parts info3
  have hnews := hy.cells
  have hml : maxLen = 9223372036854775807 := rfl
  rcases hown with ⟨rfl, rfl⟩ | ⟨g, off, cap, cur, rfl, hbg, hg, hn, hcm, hs, hc⟩
  · have hr := run_append_nil (P := Try.prog) w 22 ty 3 i0 (.int .i64 0) Try.underlying22 hi hz0 a ys.length c (ys.map (Value.int .i64)) (by simp [hz1]) hnews h0 (by simp at hl; omega) (by rw [hz2]; simp at hl; omega)
    have hge := grownCap_ge w ys.length 0 3
    have hcm := grownCap_le_maxLen w ys.length 0 3 (by simp at hl; unfold maxLen; omega)
    refine ⟨_, _, hr, ?_, ⟨rfl, rfl, rfl, by simp, fun k hk _ => heap_alloc_old w.drew _ hk⟩⟩
    exact OwnQ.fresh w.drew base hbase ys _ _ hge hcm (by rw [size_zeroCells]; simp [Value.cells])
  · by_cases hroom : xs.length + ys.length ≤ cap
    · have hf := run_firstCells_some (P := Try.prog) w i0.size ys.length a ys.length c (ys.map (Value.int .i64)) (by simp [hz1]) hnews
      have hst := run_storeCells_at Try.prog g (off + xs.length * i0.size) 3 (ys.map (Value.int .i64)) 0 cur w hg (by rw [hz1]; simp; omega) (ints_oneCell _ _)
      simp only [Nat.add_zero] at hst
      have hr : (Builtin.append_ #[22, 22] ty #[.slice (some ⟨g, off, none⟩) xs.length cap, .slice (some a) ys.length c]).run Try.prog w =
          .ok (.slice (some ⟨g, off, none⟩) (xs.length + ys.length) cap) (w.setRow g (cur.toList.take (off + xs.length * i0.size) ++ ys.map (Value.int .i64) ++ cur.toList.drop (off + xs.length * i0.size + (ys.map (Value.int .i64)).length)).toArray) := by
        simp [Builtin.append_, run_underlying Try.underlying22, sizeOf, typeInfo, hi, Builtin.lenOf, hroom, hf, Addr.add_lit, hst]
      rw [hz1, Nat.mul_one] at hr
      refine ⟨_, _, hr, .inr ⟨g, off, cap, _, by rw [List.length_append], hbg, setRow_heap w g cur _ 3 _ hg, by rw [List.length_append]; exact hroom, hcm, ?_, fun i hi => ?_⟩, ⟨rfl, rfl, rfl, by simp, fun k _ hk => setRow_other w g k _ (fun e => hk (by simp [Value.ownBlock, e]))⟩⟩
      · simp; omega
      · have htl : (cur.toList.take (off + xs.length)).length = off + xs.length := by simp; omega
        rw [List.getElem?_toArray, List.getElem?_append_left (by rw [List.length_append] at hi ⊢; rw [htl]; simp; omega)]
        by_cases hlt : i < xs.length
        · rw [List.getElem?_append_left (by rw [htl]; omega), List.getElem?_take_of_lt (by omega), Array.getElem?_toList, hc i hlt, getD_left hlt]
        · rw [List.getElem?_append_right (by rw [htl]; omega), htl, getD_right (by omega)]
          rw [show off + i - (off + xs.length) = i - xs.length by omega]
          exact news_at (by rw [List.length_append] at hi; omega)
    · have holds : ∀ j u, (xs.map (Value.int .i64))[j]? = some u → w.cell? ((⟨g, off, none⟩ : Addr).add j) = some u := by
        intro j u hj
        have hjl : j < xs.length := by
          rcases Nat.lt_or_ge j xs.length with h' | h'
          · exact h'
          · rw [List.getElem?_eq_none (by simpa using h')] at hj; cases hj
        rw [news_at hjl] at hj
        rw [add_plain, cell_of_row w g (off + j) cur 3 (0, 0) hg, hc j hjl]
        exact hj
      have hr := run_append_grow (P := Try.prog) w 22 ty 3 i0 (.int .i64 0) Try.underlying22 hi hz0 ⟨g, off, none⟩ xs.length cap (xs.map (Value.int .i64)) (by simp [hz1]) holds a ys.length c (ys.map (Value.int .i64)) (by simp [hz1]) hnews (by omega) (by omega) (growslice_fits (by omega) (by rw [hz2]; omega))
      have hge := grownCap_ge w (xs.length + ys.length) cap 3
      have hcm := grownCap_le_maxLen w (xs.length + ys.length) cap 3 (by unfold maxLen; omega)
      refine ⟨_, _, hr, ?_, ⟨rfl, rfl, rfl, by simp, fun k hk _ => heap_alloc_old w.drew _ hk⟩⟩
      have := OwnQ.fresh w.drew base hbase (xs ++ ys) (Builtin.zeroCells (Value.int .i64 0).cells (grownCap w (xs.length + ys.length) cap 3 - (xs.length + ys.length))) (grownCap w (xs.length + ys.length) cap 3) (by rw [List.length_append]; exact hge) hcm (by rw [size_zeroCells, List.length_append]; simp [Value.cells])
      simpa [List.map_append] using this

/-- An append of numbers to such a row. -/
theorem wp_append_q {ops : Array Oper} {rest : List Oper} {o : Oper} {a : Act} {Q : Exit → Act → World → Prop} {w : World} (hgd : o.guard = none) (s x : Operand)
    (ho : o.op = .call { callee := .builtin .append, args := #[s, x], argTypes := #[22, 22] }) (base : Nat) (v : Value) (ad : Addr) (c : Nat) (xs ys : List Int)
    (hs : a.eval s = v) (hx : a.eval x = .slice (some ad) ys.length c) (hown : OwnQ w base v xs) (hu : Has w (.slice (some ad) ys.length c) ys) (h0 : 0 < ys.length) (hl : xs.length + ys.length ≤ 1000) (hbase : base ≤ w.heap.size)
    (h : ∀ v' w', OwnQ w' base v' (xs ++ ys) → w.grownBy w' v.ownBlock → wpList Try.prog ops Q rest (a.put o.dst v') w') : wpList Try.prog ops Q (o :: rest) a w := by
  refine wpList_plain hgd fun K hK => ?_
  obtain ⟨v', w', hr, h2, h3⟩ := run_append_q o.type base v xs ys hown ad c hu h0 hl hbase
  unfold Oper.wp execOp
  simp only [ho, resolve, invoke, builtin, Sem.run_bind, Sem.run_pure, Result.andThen_ok, List.map_toArray, List.map_cons, List.map_nil, hs, hx, hr]
  exact hK _ _ (h v' w' h2 h3)

end Go.Proofs.Ythgligelghhjaaa
