/-
  PARTS LAID TOGETHER, each with its own opening: LmG, LmH, LmGt, RmT, RmE, NwA, RgH, CfAwake, NwB, MoA, MoB, MoC, MtB, MtC, MtD, MtE, RfC, RfD, RfE, RfH, MtF, MtG, MtH.
-/
import Derived.Test.YtnemldboiogdkaaGreatCom2
import Derived.Deep.CutRange
import Derived.Test.YtnemldboiogdkaaGreatCom1
import Derived.Deep.Cut
import Derived.Deep.RegionHeld3
/-
  PLAIN GROUND: a machine that is copied part by part: what stands ahead of each round, and that its rows lie in blocks of their own. Condition: at an append, that the bytes are within the reach that every row bears.
-/
namespace Go.Proofs.YtnemldboiogdkaaGreat
open Go.RowKit

theorem gives_value {P : Program} {ρ : Operand → Value} {o : Oper} {w w' : World} {v : Value} {K : Value → World → Prop} (h : (execOp ρ o).run P w = .ok (.value v) w') (hk : K v w') : gives P ρ o w K := by
  unfold gives; rw [h]; exact hk
theorem gives_call {P : Program} {ρ : Operand → Value} {o : Oper} {w : World} {f : FuncId} {args : Array Value} {K : Value → World → Prop} (h : (execOp ρ o).run P w = .ok (.enter f args) w) (hk : Calls P f args w fun e w'' => ∃ v, e = .returned v ∧ K v w'') : gives P ρ o w K := by
  unfold gives; rw [h]; exact hk

theorem wp_value_at {P : Program} {o : Oper} {a : Act} {w w0 : World} {v0 : Value} {K' : Act → World → Prop} {Q : Exit → Act → World → Prop} (h : (execOp a.eval o).run P w = .ok (.value v0) w0) (hk : K' (a.put o.dst v0) w0) : o.wp P a w K' Q := by
  unfold Oper.wp; rw [h]; exact hk
theorem wp_skip_at {P : Program} {o : Oper} {a : Act} {w w0 : World} {K' : Act → World → Prop} {Q : Exit → Act → World → Prop} (h : (execOp a.eval o).run P w = .ok .skip w0) (hk : K' (a.put o.dst undef) w0) : o.wp P a w K' Q := by
  unfold Oper.wp; rw [h]; exact hk

/-- An append to an empty slice without room: its row lies in a new block, or nothing is appended. -/
theorem run_append_empty {α : Type} {K : Kind α} {tS : TypeId} (hK : K.In Tryz.prog tS) (ty : TypeId) (w : World) (base b : Nat) (u : Value) (ys : List α) (hown : OwnE K w base (.slice (some ⟨b, 0, none⟩) 0 0) []) (hu : HasE K w u ys) (hr : ys.length * K.by' ≤ 140737488355328) (hr' : ys.length ≤ 140737488355328) (hbase : base ≤ w.heap.size) :
    ∃ q w', (Builtin.append_ #[tS, tS] ty #[.slice (some ⟨b, 0, none⟩) 0 0, u]).run Tryz.prog w = .ok (slV q) w' ∧ OwnE K w' base (slV q) ys ∧ Le w w' ∧ (0 < ys.length → (slV q).ownBlock = some w.heap.size) := by
  obtain ⟨z, hinfo, hzs⟩ := hK.info
  obtain ⟨i0, hi, hz0, hz1, hz2⟩ := info_parts hinfo
  have hu0 := hu
  obtain ⟨ad, cap, rfl, hc, hn, _⟩ := hu
  cases ad with
  | none =>
    have hc0 := hn rfl
    have hy : ys = [] := List.length_eq_zero_iff.1 (by omega)
    subst hy hc0
    exact ⟨(some ⟨b, 0, none⟩, 0, 0), w, run_append_owned_none (P := Tryz.prog) (w := w) base tS ty K.t i0 K.k hK.und hi _ _ _ hown, hown, Le.refl _, fun h => by simp at h⟩
  | some ad =>
    rcases Nat.eq_zero_or_pos ys.length with h0 | h0
    · have hy : ys = [] := List.length_eq_zero_iff.1 h0
      subst hy
      obtain ⟨g, cap', cur, hv, hg, hh, r⟩ := hown.2.resolve_left (fun h => by cases h.1)
      simp only [Value.slice.injEq, Option.some.injEq, Addr.mk.injEq, and_true] at hv
      obtain ⟨rfl, _, rfl⟩ := hv
      have hrun := run_append_room (P := Tryz.prog) w tS ty K.t i0 hK.und hi b 0 0 cur hh ad 0 cap [] (by simp) (by simp) (by simp) (by omega) (by simp)
      have hle : Le w (w.setRow b (cur.toList.take (0 * i0.size) ++ [] ++ cur.toList.drop (0 * i0.size + ([] : List Value).length)).toArray) := by
        refine ⟨rfl, rfl, rfl, by simp, fun k hk => ?_⟩
        by_cases e : k = b
        · subst e
          rw [setRow_heap w k cur _ K.t _ hh, hh]
          simp
        · exact setRow_other w b k _ e
      exact ⟨(some ⟨b, 0, none⟩, 0, 0), _, hrun, hown.le hle, hle, fun h => by simp at h⟩
    · have hr1 := run_append_grow (P := Tryz.prog) w tS ty K.t i0 z hK.und hi hz0 ⟨b, 0, none⟩ 0 0 [] (by simp) (by simp) ad ys.length cap (rowC K.f ys) (by rw [hz1, rowC_len K.len]) hu0.cells (by omega) (by omega) (by rw [hz2]; unfold Builtin.nextslicecap; rw [if_pos (by omega), Nat.zero_add]; omega)
      simp only [Nat.zero_add] at hr1
      have hge := grownCap_ge w ys.length 0 K.t
      have hcm := grownCap_le_maxLen w ys.length 0 K.t (by unfold maxLen; omega)
      refine ⟨(some ⟨w.heap.size, 0, none⟩, ys.length, grownCap w ys.length 0 K.t), _, hr1, ⟨by rw [rowC_len K.len], .inr ⟨w.heap.size, _, _, rfl, hbase, heap_alloc_new w.drew _, hge, hcm, ?_, ?_⟩⟩, (Le.drew w).trans (Le.alloc _ _), fun _ => rfl⟩
      · simp only [Array.size_append, List.size_toArray, size_zeroCells, hzs, rowC_len K.len, List.length_nil, Nat.zero_add]
        rw [← Nat.add_mul, Nat.add_sub_cancel' hge]
      · simp only [Array.toList_append, List.nil_append]
        exact List.take_left' (rowC_len K.len ys)

/-- An append of some elements to a row of the call's own, as a run. -/
theorem run_append_E {α : Type} {K : Kind α} {tS : TypeId} (hK : K.In Tryz.prog tS) (ty : TypeId) (w : World) (base : Nat) (v u : Value) (xs ys : List α) (hown : OwnE K w base v xs) (hu : HasE K w u ys) (h0 : 0 < ys.length) (hr : (xs.length + ys.length) * K.by' ≤ 140737488355328) (hr' : xs.length + ys.length ≤ 140737488355328) (hbase : base ≤ w.heap.size) :
    ∃ q w', (Builtin.append_ #[tS, tS] ty #[v, u]).run Tryz.prog w = .ok (slV q) w' ∧ OwnE K w' base (slV q) (xs ++ ys) ∧ w.grownBy w' v.ownBlock := by
  obtain ⟨z, hinfo, hzs⟩ := hK.info
  obtain ⟨i0, hi, hz0, hz1, hz2⟩ := info_parts hinfo
  have hu0 := hu
  obtain ⟨ad, cap, rfl, hc, hn, hx⟩ := hu
  obtain ⟨b, off, rfl, _⟩ := hx h0
  obtain ⟨v', w', hrun, h1, h2, _, _⟩ := run_append_own_at (P := Tryz.prog) w base tS ty K.t i0 z K.k K.by' hK.und hi hz0 hz1 hz2 hzs K.pos v xs.length (rowC K.f xs) hown ⟨b, off, none⟩ ys.length cap (rowC K.f ys) (rowC_len K.len ys) hu0.cells (fun u hu => by obtain ⟨y, _, hy⟩ := rowC_mem ys u hu; exact K.one y u hy) (by unfold maxLen; omega) hr hbase
  have ho : OwnE K w' base v' (xs ++ ys) := OwnE.of h1 (by simp) (by rw [rowC_append])
  obtain ⟨q, rfl⟩ := ho.has.sl
  exact ⟨q, w', hrun, ho, h2⟩

/-- Numbers are a kind of element. -/
def intK : Kind Int := ⟨3, 1, 8, fun x => [.int .i64 x], 0, by decide, fun _ => rfl, fun x u hu => by simp at hu; subst hu; rfl⟩
theorem intIn : intK.In Tryz.prog 43 := ⟨Tryz.underlying43, _, info3, rfl⟩
theorem rowC_int : ∀ xs : List Int, rowC intK.f xs = xs.map (Value.int .i64)
  | [] => rfl
  | x :: xs => by rw [rowC, rowC_int xs]; rfl
theorem Own.e {w : World} {base : Nat} {v : Value} {xs : List Int} (h : Own w base v xs) : OwnE intK w base v xs := by
  unfold OwnE; rw [rowC_int]; exact h
theorem OwnE.i {w : World} {base : Nat} {v : Value} {xs : List Int} (h : OwnE intK w base v xs) : Own w base v xs := by
  unfold OwnE at h; rw [rowC_int] at h; exact h
theorem Has.e {w : World} {v : Value} {xs : List Int} (h : Has w v xs) : HasE intK w v xs := by
  obtain ⟨a, cap, hv, hc, hn, hx⟩ := h
  refine ⟨a, cap, hv, hc, hn, fun hp => ?_⟩
  obtain ⟨b, off, ha, hcell⟩ := hx hp
  refine ⟨b, off, ha, fun i hi j hj => ?_⟩
  have hj0 : j = 0 := by have : intK.k = 1 := rfl; omega
  subst hj0
  have := hcell i hi
  simpa [intK] using this
theorem run_append_emptyI (ty : TypeId) (w : World) (base b : Nat) (u : Value) (ys : List Int) (hown : Own w base (.slice (some ⟨b, 0, none⟩) 0 0) []) (hu : Has w u ys) (hr : ys.length * 8 ≤ 140737488351232) (hbase : base ≤ w.heap.size) :
    ∃ q w', (Builtin.append_ #[43, 43] ty #[.slice (some ⟨b, 0, none⟩) 0 0, u]).run Tryz.prog w = .ok (slV q) w' ∧ Own w' base (slV q) ys ∧ Le w w' ∧ (0 < ys.length → (slV q).ownBlock = some w.heap.size) := by
  obtain ⟨q, w', h1, h2, h3, h4⟩ := run_append_empty intIn ty w base b u ys hown.e hu.e (by have : intK.by' = 8 := rfl; rw [this]; omega) (by omega) hbase
  exact ⟨q, w', h1, h2.i, h3, h4⟩

/-- .. in a walk. -/
theorem wp_append_emptyI {ops : Array Oper} {rest : List Oper} {o : Oper} {a : Act} {Q : Exit → Act → World → Prop} {w : World} (hgd : o.guard = none) (s x : Operand)
    (ho : o.op = .call { callee := .builtin .append, args := #[s, x], argTypes := #[43, 43] }) (base b : Nat) (u : Value) (ys : List Int)
    (hs : a.eval s = .slice (some ⟨b, 0, none⟩) 0 0) (hx : a.eval x = u) (hown : Own w base (.slice (some ⟨b, 0, none⟩) 0 0) []) (hu : Has w u ys) (hr : ys.length * 8 ≤ 140737488351232) (hbase : base ≤ w.heap.size)
    (h : ∀ q w', Own w' base (slV q) ys → Le w w' → (0 < ys.length → (slV q).ownBlock = some w.heap.size) → wpList Tryz.prog ops Q rest (a.put o.dst (slV q)) w') : wpList Tryz.prog ops Q (o :: rest) a w := by
  refine wpList_plain hgd fun K hK => ?_
  obtain ⟨q, w', hrun, h1, h2, h3⟩ := run_append_emptyI o.type w base b u ys hown hu hr hbase
  unfold Oper.wp execOp
  simp only [ho, resolve, invoke, builtin, Sem.run_bind, Sem.run_pure, Result.andThen_ok, List.map_toArray, List.map_cons, List.map_nil, hs, hx, hrun]
  exact hK _ _ (h q w' h1 h2 h3)

/-! Rows of a machine that lie in blocks of their own. -/
inductive Pos where
  | rep (i j : Nat)
  | th (i j : Nat)
deriving DecidableEq
/-- Not a state's row: one that may be written to in its place. -/
def Pos.wr : Pos → Bool
  | .rep _ j => decide (4 ≤ j)
  | .th _ _ => true
def LP.row (x : LP) : Nat → Sl
  | 0 => x.vs 0
  | 1 => x.vs 1
  | 2 => x.vs 2
  | 3 => x.vs 3
  | 4 => x.c
  | 5 => x.l
  | _ => slZ
def LT.row (x : LT) : Nat → Sl
  | 0 => x.b
  | 1 => x.t
  | _ => slZ
def Lay.at (L : Lay) : Pos → Sl
  | .rep i j => (L.ps.getD i repK.d).row j
  | .th i j => (L.ts.getD i thK.d).row j
def Lay.slots (L : Lay) (i : Nat) : Sl := (L.rs.getD i ringK.d).q
structure ApartM (L : Lay) : Prop where
  s : ∀ i j, i ≠ j → ∀ g, (slV (L.slots i)).ownBlock = some g → (slV (L.slots j)).ownBlock ≠ some g
  n : ∀ p q, p ≠ q → p.wr = true → 0 < (L.at p).2.1 → 0 < (L.at q).2.1 → ∀ g, (slV (L.at p)).ownBlock = some g → (slV (L.at q)).ownBlock ≠ some g

theorem getD_out {α : Type} {xs : List α} {i : Nat} {d : α} (h : xs.length ≤ i) : xs.getD i d = d := by simp [List.getD, List.getElem?_eq_none h]
theorem OwnsM.slots_lt {w : World} {base : Nat} {L : Lay} (h : OwnsM w base L) {i g : Nat} (e : (slV (L.slots i)).ownBlock = some g) : g < w.heap.size := by
  unfold Lay.slots at e
  rcases Nat.lt_or_ge i L.rs.length with hi | hi
  · exact ((h.iR _ (getD_mem hi)).block e).2
  · rw [getD_out hi] at e; cases e
theorem OwnsM.at_lt {w : World} {base : Nat} {L : Lay} (h : OwnsM w base L) {p : Pos} {g : Nat} (e : (slV (L.at p)).ownBlock = some g) : g < w.heap.size := by
  cases p with
  | rep i j =>
    rcases Nat.lt_or_ge i L.ps.length with hi | hi
    · have hp := h.iP _ (getD_mem (d := repK.d) hi)
      simp only [Lay.at] at e
      match j, e with
      | 0, e => exact ((hp.1 0 (by decide)).block e).2
      | 1, e => exact ((hp.1 1 (by decide)).block e).2
      | 2, e => exact ((hp.1 2 (by decide)).block e).2
      | 3, e => exact ((hp.1 3 (by decide)).block e).2
      | 4, e => exact (hp.2.1.block e).2
      | 5, e => exact (hp.2.2.block e).2
      | _ + 6, e => simp [LP.row, Value.ownBlock] at e
    · simp only [Lay.at] at e
      rw [getD_out hi] at e
      match j, e with
      | 0, e => cases e
      | 1, e => cases e
      | 2, e => cases e
      | 3, e => cases e
      | 4, e => cases e
      | 5, e => cases e
      | _ + 6, e => simp [LP.row, Value.ownBlock] at e
  | th i j =>
    rcases Nat.lt_or_ge i L.ts.length with hi | hi
    · have hp := h.iT _ (getD_mem (d := thK.d) hi)
      simp only [Lay.at] at e
      match j, e with
      | 0, e => exact (hp.1.block e).2
      | 1, e => exact (hp.2.block e).2
      | _ + 2, e => simp [LT.row, Value.ownBlock] at e
    · simp only [Lay.at] at e
      rw [getD_out hi] at e
      match j, e with
      | 0, e => cases e
      | 1, e => cases e
      | _ + 2, e => simp [LT.row, Value.ownBlock] at e

/-- What is elsewhere than a row that has grown and a box that is written to stays. -/
theorem row_kept {w1 w2 : World} {base g i : Nat} {u : Value} {row : Option Nat} {T : TypeId} {cs : Array Value} (hg : w1.grownBy w2 row) (hrow : ∀ r, row = some r → ∃ cur, w1.heap[r]? = some (.cells cur T (0, 0))) (hb : Box w2 g cs 29) {t : TypeId} {k n : Nat} {v : Value} {us : List Value}
    (h : w1.ownsRow base t k v n us) (h1 : t ≠ T) (h2 : t ≠ 29) : (w2.setCell ⟨g, i, none⟩ u).ownsRow base t k v n us := by
  have hk : w2.ownsRow base t k v n us := by
    obtain ⟨e1, e2⟩ := h
    refine ⟨e1, ?_⟩
    rcases e2 with e2 | ⟨g', cap, cur, hv, hbb, hh, r⟩
    · exact .inl e2
    · refine .inr ⟨g', cap, cur, hv, hbb, ?_, r⟩
      rw [hg.block g' (block_lt hh) (fun e => ?_)]
      · exact hh
      · obtain ⟨cur', hc⟩ := hrow g' e.symm
        rw [hh] at hc
        simp at hc
        exact h1 hc.2
  refine ownsRow_setCell_other hk (fun e => ?_) u
  rcases hk.2 with ⟨e2, _⟩ | ⟨g', cap, cur, hv, _, hh, _⟩
  · rw [e2] at e; simp [Value.ownBlock] at e
  · rw [hv] at e
    simp [Value.ownBlock] at e
    subst e
    unfold Box at hb
    rw [hb] at hh
    simp at hh
    exact h2 hh.2.symm
theorem OwnE.rowT {α : Type} {K : Kind α} {w : World} {base : Nat} {v : Value} {xs : List α} (h : OwnE K w base v xs) : ∀ r, v.ownBlock = some r → ∃ cur, w.heap[r]? = some (.cells cur K.t (0, 0)) := by
  intro r e
  rcases h.2 with ⟨e2, _⟩ | ⟨g', cap, cur, hv, _, hh, _⟩
  · rw [e2] at e; simp [Value.ownBlock] at e
  · rw [hv] at e
    simp [Value.ownBlock] at e
    subst e
    exact ⟨cur, hh⟩

end Go.Proofs.YtnemldboiogdkaaGreat

/-
  PLAIN GROUND, NO WALK: what stands ahead of each round of a machine's copying, and what a round makes of it. No condition.
-/
namespace Go.Proofs.YtnemldboiogdkaaGreat
open Go.RowKit

/-- No machine's cells. -/
abbrev cellsZ9 : Array Value := #[.int .i64 0, .int .i64 0, .int .i64 0, .int .i64 0, .int .i64 0, .slice none 0 0, .slice none 0 0, .slice none 0 0, .slice none 0 0]
/-- The given machine in its variable, the result's variable, the copy so far in its own. -/
structure CpI (F : Prop) (w : World) (cp : Array Value) (tp : TypeId) (c : Cfg) (g : Nat) (wr : World) (L : Lay) : Prop where
  le : Le w wr
  bp : Box wr w.heap.size cp tp
  br : Box wr (w.heap.size + 1) cellsZ9 29
  bo : Box wr g (cells9 c L.qR L.qP L.qT L.qH) 29
  gb : w.heap.size + 1 < g
  own : OwnsM wr w.heap.size L
  ap : F → ApartM L

theorem CpI.later {F : Prop} {w : World} {cp : Array Value} {tp : TypeId} {c : Cfg} {g : Nat} {wr w' : World} {L : Lay} (h : CpI F w cp tp c g wr L) (l : Le wr w') : CpI F w cp tp c g w' L :=
  ⟨h.le.trans l, h.bp.le l, h.br.le l, h.bo.le l, h.gb, h.own.le l, h.ap⟩

theorem slots_app (L : Lay) (q : Sl) (x : LR) (i : Nat) : ({ L with qR := q, rs := L.rs ++ [x] } : Lay).slots i = if i < L.rs.length then L.slots i else if i = L.rs.length then x.q else slZ := by
  unfold Lay.slots
  simp only [List.getD]
  rcases Nat.lt_trichotomy i L.rs.length with h | h | h
  · rw [if_pos h, List.getElem?_append_left h]
  · subst h; simp
  · rw [if_neg (by omega), if_neg (by omega), List.getElem?_eq_none (by simp; omega)]; rfl
theorem at_appP (L : Lay) (q : Sl) (x : LP) (p : Pos) : ({ L with qP := q, ps := L.ps ++ [x] } : Lay).at p = match p with | .rep i j => if i < L.ps.length then L.at (.rep i j) else if i = L.ps.length then x.row j else slZ | .th i j => L.at (.th i j) := by
  cases p with
  | rep i j =>
    simp only [Lay.at, List.getD]
    rcases Nat.lt_trichotomy i L.ps.length with h | h | h
    · rw [if_pos h, List.getElem?_append_left h]
    · subst h; simp
    · rw [if_neg (by omega), if_neg (by omega), List.getElem?_eq_none (by simp; omega)]
      match j with
      | 0 => rfl
      | 1 => rfl
      | 2 => rfl
      | 3 => rfl
      | 4 => rfl
      | 5 => rfl
      | _ + 6 => rfl
  | th i j => rfl
theorem at_appT (L : Lay) (q : Sl) (x : LT) (p : Pos) : ({ L with qT := q, ts := L.ts ++ [x] } : Lay).at p = match p with | .rep i j => L.at (.rep i j) | .th i j => if i < L.ts.length then L.at (.th i j) else if i = L.ts.length then x.row j else slZ := by
  cases p with
  | rep i j => rfl
  | th i j =>
    simp only [Lay.at, List.getD]
    rcases Nat.lt_trichotomy i L.ts.length with h | h | h
    · rw [if_pos h, List.getElem?_append_left h]
    · subst h; simp
    · rw [if_neg (by omega), if_neg (by omega), List.getElem?_eq_none (by simp; omega)]
      match j with
      | 0 => rfl
      | 1 => rfl
      | _ + 2 => rfl

/-- The worlds and boxes of a step: something is made, a row grows, the copy's variable is written to. -/
theorem CpI.worlds {F : Prop} {α : Type} {K : Kind α} {w : World} {cp : Array Value} {tp : TypeId} {c : Cfg} {g : Nat} {wr w1 w2 : World} {L : Lay} (h : CpI F w cp tp c g wr L) (l : Le wr w1) {v u : Value} {xs : List α} {j : Nat} (ho : OwnE K wr w.heap.size v xs) (hK : 29 ≠ K.t) (htp : tp ≠ K.t) (hg : w1.grownBy w2 v.ownBlock) :
    Le w (w2.setCell ⟨g, j, none⟩ u) ∧ Box (w2.setCell ⟨g, j, none⟩ u) w.heap.size cp tp ∧ Box (w2.setCell ⟨g, j, none⟩ u) (w.heap.size + 1) cellsZ9 29 ∧ Box w2 g (cells9 c L.qR L.qP L.qT L.qH) 29 := by
  have ho1 := ho.le l
  have gb := h.gb
  refine ⟨Le.set (Below.grown (h.le.trans l) hg (h.le.trans l).size (fun k hk => (ho.block hk).1)) (by omega), ?_, ?_, ?_⟩
  · exact ((h.bp.le l).grown hg (ho1.apart (h.bp.le l) htp)).other (by omega) _ _
  · exact ((h.br.le l).grown hg (ho1.apart (h.br.le l) hK)).other (by omega) _ _
  · exact (h.bo.le l).grown hg (ho1.apart (h.bo.le l) hK)

theorem CpI.ring {F : Prop} {w : World} {cp : Array Value} {tp : TypeId} {c : Cfg} {g : Nat} {wr w1 w2 : World} {L : Lay} (h : CpI F w cp tp c g wr L) (htp : tp ≠ ringK.t) (l : Le wr w1) {x : LR} (hx : OwnL w1 wr.heap.size (slV x.q) x.R.ss) {q' : Sl} (ho : OwnE ringK w2 w.heap.size (slV q') (L.rs ++ [x])) (hg : w1.grownBy w2 (slV L.qR).ownBlock) :
    CpI F w cp tp c g (w2.setCell ⟨g, 5, none⟩ (slV q')) { L with qR := q', rs := L.rs ++ [x] } := by
  obtain ⟨le, bp, br, bo⟩ := h.worlds (u := slV q') (j := 5) l h.own.oR (by decide) htp hg
  have hb5 := bo.set 5 (slV q')
  have hrow := (h.own.oR.le l).rowT
  have o := h.own.le l
  have hsz := h.le.size
  refine ⟨le, bp, br, hb5, h.gb, ⟨?_, ?_, ?_, ?_, fun y hy => ?_, fun y hy => ?_, fun y hy => ?_⟩, fun hF => ⟨fun i j hne b e1 e2 => ?_, (h.ap hF).n⟩⟩
  · exact ho.set (ho.apart bo (by decide))
  · exact row_kept hg hrow bo o.oP (by decide) (by decide)
  · exact row_kept hg hrow bo o.oT (by decide) (by decide)
  · exact row_kept hg hrow bo o.oH (by decide) (by decide)
  · rcases List.mem_append.1 hy with hy | hy
    · exact row_kept hg hrow bo (o.iR y hy) (by decide) (by decide)
    · obtain rfl := List.mem_singleton.1 hy
      exact row_kept hg hrow bo (hx.base hsz) (by decide) (by decide)
  · exact ⟨fun i hi => row_kept hg hrow bo ((o.iP y hy).1 i hi) (by decide) (by decide), row_kept hg hrow bo (o.iP y hy).2.1 (by decide) (by decide), row_kept hg hrow bo (o.iP y hy).2.2 (by decide) (by decide)⟩
  · exact ⟨row_kept hg hrow bo (o.iT y hy).1 (by decide) (by decide), row_kept hg hrow bo (o.iT y hy).2 (by decide) (by decide)⟩
  · rw [slots_app] at e1 e2
    have hxb : ∀ b, (slV x.q).ownBlock = some b → wr.heap.size ≤ b := fun b e => (hx.block e).1
    split at e1
    · have b1 := h.own.slots_lt e1
      split at e2
      · exact (h.ap hF).s i j hne b e1 e2
      · split at e2
        · have := hxb b e2; omega
        · cases e2
    · split at e1
      · have b1 := hxb b e1
        split at e2
        · have := h.own.slots_lt e2; omega
        · split at e2
          · omega
          · cases e2
      · cases e1

theorem CpI.rep {F : Prop} {w : World} {cp : Array Value} {tp : TypeId} {c : Cfg} {g : Nat} {wr w1 w2 : World} {L : Lay} (h : CpI F w cp tp c g wr L) (htp : tp ≠ repK.t) (l : Le wr w1) {x : LP} (hx0 : ∀ i, i < 4 → Own w1 wr.heap.size (slV (x.vs i)) (x.P.s.at i)) (hx1 : Own w1 wr.heap.size (slV x.c) x.P.cs) (hx2 : Own w1 wr.heap.size (slV x.l) x.P.ls)
    (hxa : F → ∀ i j, i ≠ j → 4 ≤ i → 0 < (x.row i).2.1 → 0 < (x.row j).2.1 → ∀ b, (slV (x.row i)).ownBlock = some b → (slV (x.row j)).ownBlock ≠ some b) {q' : Sl} (ho : OwnE repK w2 w.heap.size (slV q') (L.ps ++ [x])) (hg : w1.grownBy w2 (slV L.qP).ownBlock) :
    CpI F w cp tp c g (w2.setCell ⟨g, 6, none⟩ (slV q')) { L with qP := q', ps := L.ps ++ [x] } := by
  obtain ⟨le, bp, br, bo⟩ := h.worlds (u := slV q') (j := 6) l h.own.oP (by decide) htp hg
  have hb5 := bo.set 6 (slV q')
  have hrow := (h.own.oP.le l).rowT
  have o := h.own.le l
  have hsz := h.le.size
  refine ⟨le, bp, br, hb5, h.gb, ⟨?_, ?_, ?_, ?_, fun y hy => ?_, fun y hy => ?_, fun y hy => ?_⟩, fun hF => ⟨(h.ap hF).s, fun p r hne hw n1 n2 b e1 e2 => ?_⟩⟩
  · exact row_kept hg hrow bo o.oR (by decide) (by decide)
  · exact ho.set (ho.apart bo (by decide))
  · exact row_kept hg hrow bo o.oT (by decide) (by decide)
  · exact row_kept hg hrow bo o.oH (by decide) (by decide)
  · exact row_kept hg hrow bo (o.iR y hy) (by decide) (by decide)
  · rcases List.mem_append.1 hy with hy | hy
    · exact ⟨fun i hi => row_kept hg hrow bo ((o.iP y hy).1 i hi) (by decide) (by decide), row_kept hg hrow bo (o.iP y hy).2.1 (by decide) (by decide), row_kept hg hrow bo (o.iP y hy).2.2 (by decide) (by decide)⟩
    · obtain rfl := List.mem_singleton.1 hy
      exact ⟨fun i hi => row_kept hg hrow bo ((hx0 i hi).base hsz) (by decide) (by decide), row_kept hg hrow bo (hx1.base hsz) (by decide) (by decide), row_kept hg hrow bo (hx2.base hsz) (by decide) (by decide)⟩
  · exact ⟨row_kept hg hrow bo (o.iT y hy).1 (by decide) (by decide), row_kept hg hrow bo (o.iT y hy).2 (by decide) (by decide)⟩
  · have hxb : ∀ j b, (slV (x.row j)).ownBlock = some b → wr.heap.size ≤ b := fun j b e => by
      match j, e with
      | 0, e => exact ((hx0 0 (by decide)).block e).1
      | 1, e => exact ((hx0 1 (by decide)).block e).1
      | 2, e => exact ((hx0 2 (by decide)).block e).1
      | 3, e => exact ((hx0 3 (by decide)).block e).1
      | 4, e => exact (hx1.block e).1
      | 5, e => exact (hx2.block e).1
      | _ + 6, e => simp [LP.row, Value.ownBlock] at e
    have key : ∀ p, (∃ j, p = .rep L.ps.length j ∧ ({ L with qP := q', ps := L.ps ++ [x] } : Lay).at p = x.row j) ∨ ({ L with qP := q', ps := L.ps ++ [x] } : Lay).at p = L.at p ∨ ({ L with qP := q', ps := L.ps ++ [x] } : Lay).at p = slZ := fun p => by
      rw [at_appP]
      cases p with
      | rep i j =>
        by_cases h1 : i < L.ps.length
        · right; left; simp only [h1, if_true]
        · by_cases h2 : i = L.ps.length
          · left; subst h2; exact ⟨j, rfl, by simp⟩
          · right; right; simp only [h1, h2, if_false]
      | th i j => right; left; rfl
    rcases key p with ⟨i, rfl, k1⟩ | k1 | k1
    · rw [k1] at e1 n1
      rcases key r with ⟨j, rfl, k2⟩ | k2 | k2
      · rw [k2] at e2 n2
        exact hxa hF i j (fun e => hne (by rw [e])) (by simpa [Pos.wr] using hw) n1 n2 b e1 e2
      · rw [k2] at e2
        have := hxb i b e1
        have := h.own.at_lt e2
        omega
      · rw [k2] at e2; cases e2
    · rw [k1] at e1 n1
      rcases key r with ⟨j, rfl, k2⟩ | k2 | k2
      · rw [k2] at e2
        have := hxb j b e2
        have := h.own.at_lt e1
        omega
      · rw [k2] at e2 n2
        exact (h.ap hF).n p r hne hw n1 n2 b e1 e2
      · rw [k2] at e2; cases e2
    · rw [k1] at e1; cases e1

theorem CpI.th {F : Prop} {w : World} {cp : Array Value} {tp : TypeId} {c : Cfg} {g : Nat} {wr w1 w2 : World} {L : Lay} (h : CpI F w cp tp c g wr L) (htp : tp ≠ thK.t) (l : Le wr w1) {x : LT} (hx1 : Own w1 wr.heap.size (slV x.b) x.T.b) (hx2 : Own w1 wr.heap.size (slV x.t) x.T.tl)
    (hxa : F → 0 < x.b.2.1 → 0 < x.t.2.1 → ∀ b, (slV x.b).ownBlock = some b → (slV x.t).ownBlock ≠ some b) {q' : Sl} (ho : OwnE thK w2 w.heap.size (slV q') (L.ts ++ [x])) (hg : w1.grownBy w2 (slV L.qT).ownBlock) :
    CpI F w cp tp c g (w2.setCell ⟨g, 7, none⟩ (slV q')) { L with qT := q', ts := L.ts ++ [x] } := by
  obtain ⟨le, bp, br, bo⟩ := h.worlds (u := slV q') (j := 7) l h.own.oT (by decide) htp hg
  have hb5 := bo.set 7 (slV q')
  have hrow := (h.own.oT.le l).rowT
  have o := h.own.le l
  have hsz := h.le.size
  refine ⟨le, bp, br, hb5, h.gb, ⟨?_, ?_, ?_, ?_, fun y hy => ?_, fun y hy => ?_, fun y hy => ?_⟩, fun hF => ⟨(h.ap hF).s, fun p r hne hw n1 n2 b e1 e2 => ?_⟩⟩
  · exact row_kept hg hrow bo o.oR (by decide) (by decide)
  · exact row_kept hg hrow bo o.oP (by decide) (by decide)
  · exact ho.set (ho.apart bo (by decide))
  · exact row_kept hg hrow bo o.oH (by decide) (by decide)
  · exact row_kept hg hrow bo (o.iR y hy) (by decide) (by decide)
  · exact ⟨fun i hi => row_kept hg hrow bo ((o.iP y hy).1 i hi) (by decide) (by decide), row_kept hg hrow bo (o.iP y hy).2.1 (by decide) (by decide), row_kept hg hrow bo (o.iP y hy).2.2 (by decide) (by decide)⟩
  · rcases List.mem_append.1 hy with hy | hy
    · exact ⟨row_kept hg hrow bo (o.iT y hy).1 (by decide) (by decide), row_kept hg hrow bo (o.iT y hy).2 (by decide) (by decide)⟩
    · obtain rfl := List.mem_singleton.1 hy
      exact ⟨row_kept hg hrow bo (hx1.base hsz) (by decide) (by decide), row_kept hg hrow bo (hx2.base hsz) (by decide) (by decide)⟩
  · have hxb : ∀ j b, (slV (x.row j)).ownBlock = some b → wr.heap.size ≤ b := fun j b e => by
      match j, e with
      | 0, e => exact (hx1.block e).1
      | 1, e => exact (hx2.block e).1
      | _ + 2, e => simp [LT.row, Value.ownBlock] at e
    have key : ∀ p, (∃ j, p = .th L.ts.length j ∧ ({ L with qT := q', ts := L.ts ++ [x] } : Lay).at p = x.row j) ∨ ({ L with qT := q', ts := L.ts ++ [x] } : Lay).at p = L.at p ∨ ({ L with qT := q', ts := L.ts ++ [x] } : Lay).at p = slZ := fun p => by
      rw [at_appT]
      cases p with
      | th i j =>
        by_cases h1 : i < L.ts.length
        · right; left; simp only [h1, if_true]
        · by_cases h2 : i = L.ts.length
          · left; subst h2; exact ⟨j, rfl, by simp⟩
          · right; right; simp only [h1, h2, if_false]
      | rep i j => right; left; rfl
    rcases key p with ⟨i, rfl, k1⟩ | k1 | k1
    · rw [k1] at e1 n1
      rcases key r with ⟨j, rfl, k2⟩ | k2 | k2
      · rw [k2] at e2 n2
        have hij : i ≠ j := fun e => hne (by rw [e])
        match i, j, e1, n1, e2, n2, hij with
        | 0, 0, _, _, _, _, hij => exact hij rfl
        | 0, 1, e1, n1, e2, n2, _ => exact hxa hF n1 n2 b e1 e2
        | 1, 0, e1, n1, e2, n2, _ => exact hxa hF n2 n1 b e2 e1
        | 1, 1, _, _, _, _, hij => exact hij rfl
        | 0, _ + 2, _, _, e2, _, _ => simp [LT.row, Value.ownBlock] at e2
        | 1, _ + 2, _, _, e2, _, _ => simp [LT.row, Value.ownBlock] at e2
        | _ + 2, _, e1, _, _, _, _ => simp [LT.row, Value.ownBlock] at e1
      · rw [k2] at e2
        have := hxb i b e1
        have := h.own.at_lt e2
        omega
      · rw [k2] at e2; cases e2
    · rw [k1] at e1 n1
      rcases key r with ⟨j, rfl, k2⟩ | k2 | k2
      · rw [k2] at e2
        have := hxb j b e2
        have := h.own.at_lt e1
        omega
      · rw [k2] at e2 n2
        exact (h.ap hF).n p r hne hw n1 n2 b e1 e2
      · rw [k2] at e2; cases e2
    · rw [k1] at e1; cases e1

/-- Nine cells, stored one behind the other. -/
abbrev put9 (x : World) (g : Nat) (c : Cfg) (a b d e : Sl) : World := ((((((((x.setCell ⟨g, 0, none⟩ (.int .i64 c.o)).setCell ⟨g, 1, none⟩ (.int .i64 c.r)).setCell ⟨g, 2, none⟩ (.int .i64 c.l)).setCell ⟨g, 3, none⟩ (.int .i64 c.t)).setCell ⟨g, 4, none⟩ (.int .i64 c.s)).setCell ⟨g, 5, none⟩ (slV a)).setCell ⟨g, 6, none⟩ (slV b)).setCell ⟨g, 7, none⟩ (slV d)).setCell ⟨g, 8, none⟩ (slV e)
theorem Box.put9 {w : World} {g : Nat} {cs : Array Value} {t : TypeId} (h : Box w g cs t) (hs : cs.size = 9) (c : Cfg) (a b d e : Sl) : Box (put9 w g c a b d e) g (cells9 c a b d e) t := by
  obtain ⟨l⟩ := cs
  match l, hs with
  | [x0, x1, x2, x3, x4, x5, x6, x7, x8], _ =>
    have h9 := ((((((((h.set 0 (.int .i64 c.o)).set 1 (.int .i64 c.r)).set 2 (.int .i64 c.l)).set 3 (.int .i64 c.t)).set 4 (.int .i64 c.s)).set 5 (slV a)).set 6 (slV b)).set 7 (slV d)).set 8 (slV e)
    simpa only [Array.set!_eq_setIfInBounds, List.setIfInBounds_toArray, List.set_cons_zero, List.set_cons_succ] using h9
theorem Box.off9 {w : World} {g g' : Nat} {cs : Array Value} {t : TypeId} (h : Box w g cs t) (hne : g ≠ g') (c : Cfg) (a b d e : Sl) : Box (Go.Proofs.YtnemldboiogdkaaGreat.put9 w g' c a b d e) g cs t :=
  ((((((((h.other hne _ _).other hne _ _).other hne _ _).other hne _ _).other hne _ _).other hne _ _).other hne _ _).other hne _ _).other hne _ _
theorem Le.put9 {w w' : World} {g : Nat} (h : Le w w') (hg : w.heap.size ≤ g) (c : Cfg) (a b d e : Sl) : Le w (Go.Proofs.YtnemldboiogdkaaGreat.put9 w' g c a b d e) :=
  ((((((((h.set hg).set hg).set hg).set hg).set hg).set hg).set hg).set hg).set hg
theorem row_put9 {w : World} {base g k n : Nat} {t : TypeId} {v : Value} {us : List Value} (h : w.ownsRow base t k v n us) (hne : v.ownBlock ≠ some g) (c : Cfg) (a b d e : Sl) : (put9 w g c a b d e).ownsRow base t k v n us := by
  iterate 9 refine ownsRow_setCell_other ?_ hne _
  exact h

theorem CpI.start {F : Prop} {w x : World} {cp : Array Value} {tp : TypeId} {c : Cfg} {q : Sl} {g : Nat} {Es : List Ev} (hl : Le w x) (bp : Box x w.heap.size cp tp) (br : Box x (w.heap.size + 1) cellsZ9 29) (bo : Box x g cellsZ9 29) (hg : w.heap.size + 2 ≤ g) (ho : OwnE evK x (w.heap.size + 2) (slV q) Es) :
    CpI F w cp tp c g (put9 x g c slZ slZ slZ q) ⟨c, slZ, slZ, slZ, q, [], [], [], Es⟩ := by
  refine ⟨hl.put9 (by omega) _ _ _ _ _, bp.off9 (by omega) _ _ _ _ _, br.off9 (by omega) _ _ _ _ _, bo.put9 rfl _ _ _ _ _, by omega, ⟨OwnE.nil _ _ _, OwnE.nil _ _ _, OwnE.nil _ _ _, ?_, (fun x h => by cases h), (fun x h => by cases h), (fun x h => by cases h)⟩, fun _ => ⟨fun i j _ b e _ => ?_, fun p r _ _ n1 _ b _ _ => ?_⟩⟩
  · exact row_put9 (ho.base (base' := w.heap.size) (by omega)) (ho.apart bo (by decide)) _ _ _ _ _
  · simp [Lay.slots, ringK, Value.ownBlock] at e
  · cases p with
    | rep i j =>
      match j, n1 with
      | 0, n1 => simp [Lay.at, repK, LP.row] at n1
      | 1, n1 => simp [Lay.at, repK, LP.row] at n1
      | 2, n1 => simp [Lay.at, repK, LP.row] at n1
      | 3, n1 => simp [Lay.at, repK, LP.row] at n1
      | 4, n1 => simp [Lay.at, repK, LP.row] at n1
      | 5, n1 => simp [Lay.at, repK, LP.row] at n1
      | _ + 6, n1 => simp [Lay.at, LP.row] at n1
    | th i j =>
      match j, n1 with
      | 0, n1 => simp [Lay.at, thK, LT.row] at n1
      | 1, n1 => simp [Lay.at, thK, LT.row] at n1
      | _ + 2, n1 => simp [Lay.at, LT.row] at n1

/-- A replica's rows, the call's own, its cursors and locks in blocks of their own. -/
structure RepOwn (x : World) (B : Nat) (P : Rp) (us : Nat → Sl) (qa qb : Sl) : Prop where
  s : ∀ i, i < 4 → Own x B (slV (us i)) (P.s.at i)
  c : Own x B (slV qa) P.cs
  l : Own x B (slV qb) P.ls
  a1 : 0 < P.cs.length → ∀ i, i < 4 → ∀ b, (slV qa).ownBlock = some b → (slV (us i)).ownBlock ≠ some b
  a2 : 0 < P.ls.length → ∀ i, i < 4 → ∀ b, (slV qb).ownBlock = some b → (slV (us i)).ownBlock ≠ some b
  a3 : 0 < P.ls.length → ∀ b, (slV qb).ownBlock = some b → (slV qa).ownBlock ≠ some b
theorem RepOwn.le {x y : World} {B : Nat} {P : Rp} {us : Nat → Sl} {qa qb : Sl} (h : RepOwn x B P us qa qb) (l : Le x y) : RepOwn y B P us qa qb :=
  ⟨fun i hi => (h.s i hi).le l, h.c.le l, h.l.le l, h.a1, h.a2, h.a3⟩
theorem own_len {w : World} {B : Nat} {q : Sl} {xs : List Int} (h : Own w B (slV q) xs) : q.2.1 = xs.length := by
  obtain ⟨a, cap, hv, _⟩ := h.has
  simp only [slV, Value.slice.injEq] at hv
  exact hv.2.1
theorem RepOwn.apart {x : World} {B : Nat} {P : Rp} {us : Nat → Sl} {qa qb : Sl} (h : RepOwn x B P us qa qb) : ∀ i j, i ≠ j → 4 ≤ i → 0 < ((⟨P, us, qa, qb⟩ : LP).row i).2.1 → 0 < ((⟨P, us, qa, qb⟩ : LP).row j).2.1 → ∀ b, (slV ((⟨P, us, qa, qb⟩ : LP).row i)).ownBlock = some b → (slV ((⟨P, us, qa, qb⟩ : LP).row j)).ownBlock ≠ some b := by
  intro i j hne hi n1 n2 b e1 e2
  have l4 := own_len h.c
  have l5 := own_len h.l
  match i, hi, n1, e1 with
  | 4, _, n1, e1 =>
    have n1' : 0 < P.cs.length := by simp only [LP.row] at n1; omega
    match j, n2, e2 with
    | 0, _, e2 => exact h.a1 n1' 0 (by decide) b e1 e2
    | 1, _, e2 => exact h.a1 n1' 1 (by decide) b e1 e2
    | 2, _, e2 => exact h.a1 n1' 2 (by decide) b e1 e2
    | 3, _, e2 => exact h.a1 n1' 3 (by decide) b e1 e2
    | 4, _, _ => exact hne rfl
    | 5, n2, e2 => exact h.a3 (by simp only [LP.row] at n2; omega) b e2 e1
    | _ + 6, n2, _ => simp [LP.row] at n2
  | 5, _, n1, e1 =>
    have n1' : 0 < P.ls.length := by simp only [LP.row] at n1; omega
    match j, n2, e2 with
    | 0, _, e2 => exact h.a2 n1' 0 (by decide) b e1 e2
    | 1, _, e2 => exact h.a2 n1' 1 (by decide) b e1 e2
    | 2, _, e2 => exact h.a2 n1' 2 (by decide) b e1 e2
    | 3, _, e2 => exact h.a2 n1' 3 (by decide) b e1 e2
    | 4, _, e2 => exact h.a3 n1' b e1 e2
    | 5, _, _ => exact hne rfl
    | _ + 6, n2, _ => simp [LP.row] at n2
  | _ + 6, _, n1, _ => simp [LP.row] at n1

theorem Box.setT6 {w : World} {g : Nat} {T : Th} {b t q : Sl} {ty : TypeId} (h : Box w g (cellsT T b t) ty) : Box (w.setCell ⟨g, 6, none⟩ (slV q)) g (cellsT T q t) ty := by
  have h9 := h.set 6 (slV q)
  simpa only [Array.set!_eq_setIfInBounds, List.setIfInBounds_toArray, List.set_cons_zero, List.set_cons_succ] using h9
theorem Box.setT11 {w : World} {g : Nat} {T : Th} {b t q : Sl} {ty : TypeId} (h : Box w g (cellsT T b t) ty) : Box (w.setCell ⟨g, 11, none⟩ (slV q)) g (cellsT T b q) ty := by
  have h9 := h.set 11 (slV q)
  simpa only [Array.set!_eq_setIfInBounds, List.setIfInBounds_toArray, List.set_cons_zero, List.set_cons_succ] using h9

end Go.Proofs.YtnemldboiogdkaaGreat

/-
  PLAIN GROUND, NO WALK: threads' rows of tails that lie apart from all other rows of numbers, the empty ones too. No condition.
-/
namespace Go.Proofs.YtnemldboiogdkaaGreat
open Go.RowKit

/-- Each thread's tails lie apart from all other rows of numbers. -/
def Lay.far (L : Lay) : Prop := ∀ i p b, p ≠ .th i 1 → (slV (L.at (.th i 1))).ownBlock = some b → (slV (L.at p)).ownBlock ≠ some b
theorem far_none {L : Lay} (h : L.ts = []) : L.far := fun i p b _ e => by
  simp only [Lay.at, h] at e
  cases e
theorem far_app {L : Lay} {m : Nat} (h : L.far) (hm : ∀ p b, (slV (L.at p)).ownBlock = some b → b < m) (q : Sl) (x : LT) (h1 : ∀ b, (slV x.b).ownBlock = some b → m ≤ b) (h2 : ∀ b, (slV x.t).ownBlock = some b → m ≤ b)
    (h12 : ∀ b, (slV x.b).ownBlock = some b → (slV x.t).ownBlock ≠ some b) : ({ L with qT := q, ts := L.ts ++ [x] } : Lay).far := by
  intro i p b hp e1 e2
  rw [at_appT] at e1 e2
  simp only at e1
  have old : ∀ k, (slV (x.row k)).ownBlock = some b → m ≤ b := fun k e => by
    match k, e with
    | 0, e => exact h1 b e
    | 1, e => exact h2 b e
    | _ + 2, e => simp [LT.row, Value.ownBlock] at e
  cases p with
  | rep j k =>
    simp only at e2
    have l2 := hm _ b e2
    split at e1
    · exact h i _ b hp e1 e2
    · split at e1
      · have := old 1 e1; omega
      · cases e1
  | th j k =>
    simp only at e2
    split at e1
    · have l1 := hm _ b e1
      split at e2
      · exact h i _ b hp e1 e2
      · split at e2
        · have := old k e2; omega
        · cases e2
    · split at e1
      · next hi =>
        have l1 := old 1 e1
        split at e2
        · have := hm _ b e2; omega
        · split at e2
          · next hj =>
            match k, e2 with
            | 0, e2 => exact h12 b e2 e1
            | 1, _ => exact hp (by rw [hi, hj])
            | _ + 2, e2 => simp [LT.row, Value.ownBlock] at e2
          · cases e2
      · cases e1

end Go.Proofs.YtnemldboiogdkaaGreat

/-
  THE WALK over a machine's copy: the same machine, in memory of the call's own, each row in a block of its own. Condition: that its rows can be copied.
-/
namespace Go.Proofs.YtnemldboiogdkaaGreat
open Go.RowKit

set_option maxRecDepth 8000 in
set_option maxHeartbeats 16000000 in
theorem rmCopyT (v : Value) (M : Mc) (w : World) (hx : HasM w v M) (hf : FitM M) :
    Calls Tryz.prog 25 #[v] w fun e w' => ∃ L : Lay, e = .returned L.v ∧ L.M = M ∧ OwnsM w' w.heap.size L ∧ ApartM L ∧ Le w w' ∧ L.far := by
  obtain ⟨c, Rs, Ps, Ts, Es⟩ := M
  obtain ⟨⟨aR, nR, cR⟩, ⟨aP, nP, cP⟩, ⟨aT, nT, cT⟩, qH, rfl, hR, hP, hT, hH⟩ := hx
  obtain ⟨f1, f2, f3, f4, fr, fp, ft⟩ := hf
  simp only at hR hP hT hH f1 f2 f3 f4 fr fp ft
  obtain ⟨a, n, hv, nc, _, oR⟩ := hR.open
  simp only [slV, Value.slice.injEq] at hv
  obtain ⟨rfl, rfl, rfl⟩ := hv
  obtain ⟨a, n, hv, pc, _, oP⟩ := hP.open
  simp only [slV, Value.slice.injEq] at hv
  obtain ⟨rfl, rfl, rfl⟩ := hv
  obtain ⟨a, n, hv, tc, _, oT⟩ := hT.open
  simp only [slV, Value.slice.injEq] at hv
  obtain ⟨rfl, rfl, rfl⟩ := hv
  clear hR hP hT
  obtain ⟨nR, hnR⟩ : ∃ n, n = Rs.length := ⟨_, rfl⟩
  obtain ⟨nP, hnP⟩ : ∃ n, n = Ps.length := ⟨_, rfl⟩
  obtain ⟨nT, hnT⟩ : ∃ n, n = Ts.length := ⟨_, rfl⟩
  have HR : Hid (nR = Rs.length) := hnR
  have HP : Hid (nP = Ps.length) := hnP
  have HT : Hid (nT = Ts.length) := hnT
  rw [← hnR] at nc oR f1 ⊢
  rw [← hnP] at pc oP f2 ⊢
  rw [← hnT] at tc oT f3 ⊢
  clear hnR hnP hnT
  have hl := (Le.alloc w (.cells (cells9 c (aR, nR, cR) (aP, nP, cP) (aT, nT, cT) qH) 29)).trans (Le.alloc _ (.cells cellsZ9 29))
  have hb1 := (Box.new w (cells9 c (aR, nR, cR) (aP, nP, cP) (aT, nT, cT) qH) 29).le (Le.alloc _ (.cells cellsZ9 29))
  have hb2 := Box.new (w.alloc (.cells (cells9 c (aR, nR, cR) (aP, nP, cP) (aT, nT, cT) qH) 29)) cellsZ9 29
  have hWs : ((w.alloc (.cells (cells9 c (aR, nR, cR) (aP, nP, cP) (aT, nT, cT) qH) 29)).alloc (.cells cellsZ9 29)).heap.size = w.heap.size + 2 := by simp
  rw [World.size_alloc] at hb2
  go_enter Tryz.func25, Tryz.ntmps25
  go_upto_region 1 with fail
  generalize hW : (w.alloc (.cells (cells9 c (aR, nR, cR) (aP, nP, cP) (aT, nT, cT) qH) 29)).alloc (.cells cellsZ9 29) = W at hl hb1 hb2 hWs ⊢
  clear hW
  go_cut [3] from 9 (fun s3 wc => ∃ g q, s3 = .pointer (some ⟨g, 0, none⟩) ∧ CpI True w (cells9 c (aR, nR, cR) (aP, nP, cP) (aT, nT, cT) qH) 29 c g wc ⟨c, slZ, slZ, slZ, q, [], [], [], Es⟩)
  case first =>
    refine wp_region_any (by kernel_rfl) ?_
    obtain ⟨⟨z0, z1, z2, z3, z4⟩, z5, z6, z7, z8⟩ := hb1.mach
    have hH' := hH.le hl
    refine wpAny_grow [] [0, 1, 2, 3, 4, 5, 6, 7] [8] (by decide) (by kernel_rfl) Le (Le.refl _) (fun _ _ _ => Le.trans)
      (fun vs i x => match i with
        | 0 => vs 0 = .pointer (some ⟨w.heap.size, 0, none⟩)
        | 1 => vs 1 = cfgV c.o c.r c.l c.t c.s
        | 2 => ∃ b, vs 2 = .slice (some ⟨b, 0, none⟩) 0 0 ∧ OwnE evK x (w.heap.size + 2) (.slice (some ⟨b, 0, none⟩) 0 0) []
        | 3 => vs 3 = .pointer (some ⟨w.heap.size, 8, none⟩)
        | 4 => vs 4 = slV qH
        | 5 => ∃ q, vs 5 = slV q ∧ OwnE evK x (w.heap.size + 2) (slV q) Es
        | 6 => ∃ q, vs 6 = machV c slZ slZ slZ q ∧ OwnE evK x (w.heap.size + 2) (slV q) Es
        | _ => ∃ g, vs 7 = .pointer (some ⟨g, 0, none⟩) ∧ w.heap.size + 2 ≤ g ∧ Box x g cellsZ9 29) ?_ ?_ (by decide) ?_ ?_
    · intro vs i x y hi _ h hxy
      simp only [List.mem_cons, List.not_mem_nil, or_false] at hi
      rcases hi with rfl | rfl | rfl | rfl | rfl | rfl | rfl | rfl
      · exact h
      · exact h
      · obtain ⟨b, e, o⟩ := h; exact ⟨b, e, o.le hxy⟩
      · exact h
      · exact h
      · obtain ⟨b, e, o⟩ := h; exact ⟨b, e, o.le hxy⟩
      · obtain ⟨b, e, o⟩ := h; exact ⟨b, e, o.le hxy⟩
      · obtain ⟨b, e, o, o'⟩ := h; exact ⟨b, e, o, o'.le hxy⟩
    · intro vs vs' i o x hi _ hk h
      have e := hk i (.inl rfl)
      simp only [List.mem_cons, List.not_mem_nil, or_false] at hi
      rcases hi with rfl | rfl | rfl | rfl | rfl | rfl | rfl | rfl
      all_goals
        simp only at h ⊢
        rw [← e]
        exact h
    · intro i o hi ho vs x hx hd
      have hx0 := (Le.drew W).trans hx
      simp only [List.mem_cons, List.not_mem_nil, or_false] at hi
      generalize hρ : (putH _ _ _ vs).eval = ρ
      rcases hi with rfl | rfl | rfl | rfl | rfl | rfl | rfl | rfl
      · cases ho
        have r1 : ρ (.tmp 1) = .pointer (some ⟨w.heap.size, 0, none⟩) := by rw [← hρ]; kernel_rfl
        exact gives_value (w' := x) (v := .pointer (some ⟨w.heap.size, 0, none⟩)) (by simp [go_sem, r1]) ⟨Le.refl _, rfl⟩
      · cases ho
        have r1 : ρ (.tmp 9) = vs 0 := by rw [← hρ]; kernel_rfl
        have d := hd 0 (by decide) (by kernel_rfl)
        simp only at d
        rw [d] at r1
        have y0 := cell_le z0 hx0
        have y1 := cell_le z1 hx0
        have y2 := cell_le z2 hx0
        have y3 := cell_le z3 hx0
        have y4 := cell_le z4 hx0
        exact gives_value (w' := x) (v := cfgV c.o c.r c.l c.t c.s) (by simp [go_sem, r1, y0, y1, y2, y3, y4]) ⟨Le.refl _, rfl⟩
      · cases ho
        exact gives_value (w' := x.alloc (.cells #[] 89)) (v := .slice (some ⟨x.heap.size, 0, none⟩) 0 0) (by simp [go_sem]) ⟨Le.alloc _ _, x.heap.size, rfl, OwnE.lit0 evK x _ (by have := hx0.size; omega)⟩
      · cases ho
        have r1 : ρ (.tmp 1) = .pointer (some ⟨w.heap.size, 0, none⟩) := by rw [← hρ]; kernel_rfl
        exact gives_value (w' := x) (v := .pointer (some ⟨w.heap.size, 8, none⟩)) (by simp [go_sem, r1]) ⟨Le.refl _, rfl⟩
      · cases ho
        have r1 : ρ (.tmp 12) = vs 3 := by rw [← hρ]; kernel_rfl
        have d := hd 3 (by decide) (by kernel_rfl)
        simp only at d
        rw [d] at r1
        have y8 := cell_le z8 hx0
        exact gives_value (w' := x) (v := slV qH) (by simp [go_sem, r1, y8]) ⟨Le.refl _, rfl⟩
      · cases ho
        have r1 : ρ (.tmp 11) = vs 2 := by rw [← hρ]; kernel_rfl
        have r2 : ρ (.tmp 13) = vs 4 := by rw [← hρ]; kernel_rfl
        have hh := hd 2 (by decide) (by kernel_rfl)
        simp only at hh
        replace hh := hh.choose_spec
        generalize Exists.choose _ = b at hh
        have e2 := hh.1
        have o2 := hh.2
        have e4 := hd 4 (by decide) (by kernel_rfl)
        simp only at e4
        rw [e2] at r1
        rw [e4] at r2
        obtain ⟨q, x', hrun, o5, l5, _⟩ := run_append_empty evIn 27 x (w.heap.size + 2) b (slV qH) Es o2 (hH'.le hx0) (by show Es.length * 48 ≤ _; omega) (by omega) (by have := hx0.size; omega)
        exact gives_value (w' := x') (v := slV q) (by simp only [execOp, resolve, invoke, builtin, Sem.run_bind, Sem.run_pure, Result.andThen_ok, List.map_toArray, List.map_cons, List.map_nil, r1, r2, hrun]) ⟨l5, q, rfl, o5⟩
      · cases ho
        have r1 : ρ (.tmp 10) = vs 1 := by rw [← hρ]; kernel_rfl
        have r2 : ρ (.tmp 14) = vs 5 := by rw [← hρ]; kernel_rfl
        have e1 := hd 1 (by decide) (by kernel_rfl)
        have hh := hd 5 (by decide) (by kernel_rfl)
        simp only at hh
        replace hh := hh.choose_spec
        generalize Exists.choose _ = q at hh
        have e5 := hh.1
        have o5 := hh.2
        simp only at e1
        rw [e1] at r1
        rw [e5] at r2
        exact gives_value (w' := x) (v := machV c slZ slZ slZ q) (by simp [go_sem, r1, r2]) ⟨Le.refl _, q, rfl, o5⟩
      · cases ho
        exact gives_value (w' := x.alloc (.cells cellsZ9 29)) (v := .pointer (some ⟨x.heap.size, 0, none⟩)) (by simp [go_sem]) ⟨Le.alloc _ _, x.heap.size, rfl, by have := hx0.size; omega, Box.new _ _ _⟩
    · intro vs x hx hd o ho
      have hx0 := (Le.drew W).trans hx
      cases ho
      have hh := hd 6 (by decide)
      simp only at hh
      replace hh := hh.choose_spec
      generalize Exists.choose _ = q at hh
      have e6 := hh.1
      have o6 := hh.2
      have hh := hd 7 (by decide)
      simp only at hh
      replace hh := hh.choose_spec
      generalize Exists.choose _ = g at hh
      have e7 := hh.1
      have hg := hh.2.1
      have b7 := hh.2.2
      refine gives_wp (K := fun v w' => v = undef ∧ w' = put9 x g c slZ slZ slZ q) ?_ ?_
      · generalize hρ : (putH _ _ _ vs).eval = ρ
        have r1 : ρ (.tmp 3) = vs 7 := by rw [← hρ]; kernel_rfl
        have r2 : ρ (.tmp 15) = vs 6 := by rw [← hρ]; kernel_rfl
        rw [e7] at r1
        rw [e6] at r2
        have c0 := b7.cell 0
        have c1 := b7.cell 1
        have c2 := b7.cell 2
        have c3 := b7.cell 3
        have c4 := b7.cell 4
        have c5 := b7.cell 5
        have c6 := b7.cell 6
        have c7 := b7.cell 7
        have c8 := b7.cell 8
        simp only [List.getElem?_toArray, List.getElem?_cons_succ, List.getElem?_cons_zero] at c0 c1 c2 c3 c4 c5 c6 c7 c8
        have k0 := b7.frozen 0
        have k1 := b7.frozen 1
        have k2 := b7.frozen 2
        have k3 := b7.frozen 3
        have k4 := b7.frozen 4
        have k5 := b7.frozen 5
        have k6 := b7.frozen 6
        have k7 := b7.frozen 7
        have k8 := b7.frozen 8
        unfold gives
        simp [go_sem, r1, r2, c0, c1, c2, c3, c4, c5, c6, c7, c8, k0, k1, k2, k3, k4, k5, k6, k7, k8]
      · rintro _ _ ⟨rfl, rfl⟩
        simp only [wpSeq, putH, List.getElem?_cons_succ, List.getElem?_cons_zero, Option.bind_some, Act.put, List.setIfInBounds_toArray, List.set_cons_zero, List.set_cons_succ, e7]
        go_wp2_with fail
        go_meet
        case rel => exact ⟨g, q, rfl, CpI.start (hl.trans hx0) (hb1.le hx0) (hb2.le hx0) b7 hg o6⟩
  case rest =>
    obtain ⟨g, q0, rfl, I0⟩ := hcut
    clear hb1 hb2 hWs hl hH
    have z5 := I0.bp.mach.2.1
    simp only [slV] at z5
    go_wp2_with fail
    go_loopw [4] (fun i wr => ∃ (k : Nat) (L : Lay), k ≤ nR ∧ i = .int .i64 k ∧ CpI True w (cells9 c (aR, nR, cR) (aP, nP, cP) (aT, nT, cT) qH) 29 c g wr L ∧ Hid (L.c = c ∧ L.rs.map LR.R = Rs.take k ∧ L.ps = [] ∧ L.ts = [] ∧ L.es = Es)) (fun i _ => nR - (intOf i).toNat)
    case atStart => exact ⟨0, _, Nat.zero_le _, rfl, I0, rfl, rfl, rfl, rfl, rfl⟩
    case round =>
      obtain ⟨k, L, hk, rfl, I, HL⟩ := hrel
      clear I0 z5
      have z5 := I.bp.mach.2.1
      simp only [slV] at z5
      by_cases hlt : k < nR
      · obtain ⟨b, off, rfl, oRk⟩ := oR (by omega)
        obtain ⟨q, rA, hq⟩ := oRk k hlt
        obtain ⟨R, hRk⟩ : ∃ R, R = Rs.getD k Rg.zero := ⟨_, rfl⟩
        have HX : Hid (R = Rs.getD k Rg.zero) := hRk
        rw [← hRk] at rA hq
        have hfR : FitR R := by rw [hRk]; exact fr _ (getD_mem (by have := HR.out; omega))
        have hlt' : (k : Int) < (nR : Int) := by omega
        have hk0 : (0 : Int) ≤ (k : Int) := by omega
        clear hRk oRk oR oP oT fr fp ft
        replace hq := hq.le I.le
        obtain ⟨x0, x1, x2, x3⟩ := rA.le I.le
        have y5 := I.bo.mach.2.1
        have hLn : L.rs.length = k := by
          have := congrArg List.length HL.out.2.1
          have := HR.out
          simp at *
          omega
        have HLn : Hid (L.rs.length = k) := hLn
        clear rA hLn
        go_upto_region 5 with fail
        refine wp_region_any (by kernel_rfl) ?_
        refine wpAny_grow [] [0, 1, 2, 3, 4, 5, 6, 7, 8] [9, 10, 11] (by decide) (by kernel_rfl) Le (Le.refl _) (fun _ _ _ => Le.trans)
          (fun vs i x => match i with
            | 0 => vs 0 = .pointer (some ⟨g, 5, none⟩)
            | 1 => vs 1 = slV L.qR
            | 2 => vs 2 = .pointer (some ⟨w.heap.size, 5, none⟩)
            | 3 => vs 3 = .slice (some ⟨b, off, none⟩) nR cR
            | 4 => vs 4 = .int .i64 k
            | 5 => vs 5 = .pointer (some ⟨b, off + k * 4, none⟩)
            | 6 => vs 6 = ringV R.h R.t R.f q
            | 7 => ∃ u, vs 7 = ringV R.h R.t R.f u ∧ OwnL x wr.heap.size (slV u) R.ss
            | _ => ∃ u, OwnE ringK x wr.heap.size (vs 8) [⟨R, u⟩] ∧ OwnL x wr.heap.size (slV u) R.ss) ?_ ?_ (by decide) ?_ ?_
        · intro vs i x y hi _ h hxy
          simp only [List.mem_cons, List.not_mem_nil, or_false] at hi
          rcases hi with rfl | rfl | rfl | rfl | rfl | rfl | rfl | rfl | rfl
          iterate 7
            · exact h
          · obtain ⟨u, e, o⟩ := h; exact ⟨u, e, o.le hxy⟩
          · obtain ⟨u, o, o'⟩ := h; exact ⟨u, o.le hxy, o'.le hxy⟩
        · intro vs vs' i o x hi _ hk h
          have e := hk i (.inl rfl)
          simp only [List.mem_cons, List.not_mem_nil, or_false] at hi
          rcases hi with rfl | rfl | rfl | rfl | rfl | rfl | rfl | rfl | rfl
          all_goals
            simp only at h ⊢
            rw [← e]
            exact h
        · intro i o hi ho vs x hx hd
          have hx0 := (Le.drew wr).trans hx
          simp only [List.mem_cons, List.not_mem_nil, or_false] at hi
          generalize hρ : (putH _ _ _ vs).eval = ρ
          rcases hi with rfl | rfl | rfl | rfl | rfl | rfl | rfl | rfl | rfl
          · cases ho
            have r1 : ρ (.tmp 3) = .pointer (some ⟨g, 0, none⟩) := by rw [← hρ]; kernel_rfl
            exact gives_value (w' := x) (v := .pointer (some ⟨g, 5, none⟩)) (by simp [go_sem, r1]) ⟨Le.refl _, rfl⟩
          · cases ho
            have r1 : ρ (.tmp 23) = vs 0 := by rw [← hρ]; kernel_rfl
            have d := hd 0 (by decide) (by kernel_rfl)
            simp only at d
            rw [d] at r1
            have t5 := cell_le y5 hx0
            exact gives_value (w' := x) (v := slV L.qR) (by simp [go_sem, r1, t5]) ⟨Le.refl _, rfl⟩
          · cases ho
            have r1 : ρ (.tmp 1) = .pointer (some ⟨w.heap.size, 0, none⟩) := by rw [← hρ]; kernel_rfl
            exact gives_value (w' := x) (v := .pointer (some ⟨w.heap.size, 5, none⟩)) (by simp [go_sem, r1]) ⟨Le.refl _, rfl⟩
          · cases ho
            have r1 : ρ (.tmp 25) = vs 2 := by rw [← hρ]; kernel_rfl
            have d := hd 2 (by decide) (by kernel_rfl)
            simp only at d
            rw [d] at r1
            have t5 := cell_le z5 hx0
            exact gives_value (w' := x) (v := .slice (some ⟨b, off, none⟩) nR cR) (by simp [go_sem, r1, t5]) ⟨Le.refl _, rfl⟩
          · cases ho
            have r1 : ρ (.tmp 4) = .int .i64 k := by rw [← hρ]; kernel_rfl
            exact gives_value (w' := x) (v := .int .i64 k) (by simp [go_sem, r1]) ⟨Le.refl _, rfl⟩
          · cases ho
            have r1 : ρ (.tmp 26) = vs 3 := by rw [← hρ]; kernel_rfl
            have r2 : ρ (.tmp 27) = vs 4 := by rw [← hρ]; kernel_rfl
            have d := hd 3 (by decide) (by kernel_rfl)
            have d2 := hd 4 (by decide) (by kernel_rfl)
            simp only at d d2
            rw [d] at r1
            rw [d2] at r2
            exact gives_value (w' := x) (v := .pointer (some ⟨b, off + k * 4, none⟩)) (by simp [go_sem, r1, r2, hlt', hk0]) ⟨Le.refl _, rfl⟩
          · cases ho
            have r1 : ρ (.tmp 28) = vs 5 := by rw [← hρ]; kernel_rfl
            have d := hd 5 (by decide) (by kernel_rfl)
            simp only at d
            rw [d] at r1
            have t0 := cell_le x0 hx0
            have t1 := cell_le x1 hx0
            have t2 := cell_le x2 hx0
            have t3 := cell_le x3 hx0
            exact gives_value (w' := x) (v := ringV R.h R.t R.f q) (by simp [go_sem, r1, t0, t1, t2, t3]) ⟨Le.refl _, rfl⟩
          · cases ho
            have r1 : ρ (.tmp 29) = vs 6 := by rw [← hρ]; kernel_rfl
            have d := hd 6 (by decide) (by kernel_rfl)
            simp only at d
            rw [d] at r1
            have rf : ρ (.func 53) = .func (.func 53) #[] #[] := by rw [← hρ]; kernel_rfl
            have hcall := refCopyRing R.h R.t R.f q R.ss x (hq.le hx0) hfR
            refine gives_call (f := 53) (args := #[ringV R.h R.t R.f q]) (by simp [go_sem, r1, rf]) (hcall.mono ?_)
            rintro e x' ⟨u, rfl, ou, lu⟩
            exact ⟨_, rfl, lu, u, rfl, ou.base hx0.size⟩
          · cases ho
            have r1 : ρ (.tmp 30) = vs 7 := by rw [← hρ]; kernel_rfl
            have hh := hd 7 (by decide) (by kernel_rfl)
            simp only at hh
            replace hh := hh.choose_spec
            generalize Exists.choose _ = u at hh
            rw [hh.1] at r1
            have o7 := hh.2
            have hlit := OwnE.lit ringK x wr.heap.size hx0.size [⟨R, u⟩] (by simp)
            exact gives_value (w' := x.alloc (.cells #[.int .i64 R.h, .int .i64 R.t, .int .i64 R.f, slV u] 60)) (v := .slice (some ⟨x.heap.size, 0, none⟩) 1 1) (by simp [go_sem, r1]) ⟨Le.alloc _ _, u, hlit, o7.le (Le.alloc _ _)⟩
        · intro vs x hx hd
          have hx0 := (Le.drew wr).trans hx
          have e1 := hd 1 (by decide)
          simp only at e1
          have hh := hd 8 (by decide)
          simp only at hh
          replace hh := hh.choose_spec
          generalize Exists.choose _ = u at hh
          have o8 := hh.1
          have o7 := hh.2
          have hrun := run_append_E ringIn 24 x w.heap.size (slV L.qR) (vs 8) L.rs [⟨R, u⟩] (I.own.oR.le hx0) o8.has (by simp) (by have := HLn.out; show (L.rs.length + 1) * 48 ≤ _; omega) (by have := HLn.out; show L.rs.length + 1 ≤ _; omega) (I.le.trans hx0).size
          replace hrun := hrun.choose_spec
          generalize Exists.choose _ = q' at hrun
          replace hrun := hrun.choose_spec
          generalize Exists.choose _ = x2 at hrun
          have hrn := hrun.1
          have IN := I.ring (by decide) hx0 (x := ⟨R, u⟩) o7 hrun.2.1 hrun.2.2
          have bo2 : x2.cell? ⟨g, 5, none⟩ = some (slV L.qR) ∧ x2.frozen? ⟨g, 5, none⟩ = false := by
            have hb := (I.bo.le hx0).grown hrun.2.2 ((I.own.oR.le hx0).apart (I.bo.le hx0) (by decide))
            exact ⟨hb.cell 5, hb.frozen 5⟩
          have c5 := bo2.1
          have k5 := bo2.2
          generalize hf0 : putH _ _ _ vs = fr0
          refine wpSeq_cons rfl ?_
          refine wp_value_at (v0 := slV q') (w0 := x2) ?_ ?_
          · have r1 : fr0.eval (.tmp 24) = vs 1 := by rw [← hf0]; kernel_rfl
            have r2 : fr0.eval (.tmp 31) = vs 8 := by rw [← hf0]; kernel_rfl
            rw [e1] at r1
            simp only [execOp, resolve, invoke, builtin, Sem.run_bind, Sem.run_pure, Result.andThen_ok, List.map_toArray, List.map_cons, List.map_nil, r1, r2, hrn]
          · generalize hf1 : Act.put fr0 _ _ = fr1
            refine wpSeq_cons rfl ?_
            refine wp_value_at (v0 := .pointer (some ⟨g, 5, none⟩)) (w0 := x2) ?_ ?_
            · generalize hρ : fr1.eval = ρ
              have r1 : ρ (.tmp 3) = .pointer (some ⟨g, 0, none⟩) := by rw [← hρ, ← hf1, ← hf0]; kernel_rfl
              simp [go_sem, r1]
            · generalize hf2 : Act.put fr1 _ _ = fr2
              refine wpSeq_cons rfl ?_
              refine wp_skip_at (w0 := x2.setCell ⟨g, 5, none⟩ (slV q')) ?_ ?_
              · generalize hρ : fr2.eval = ρ
                have r1 : ρ (.tmp 33) = .pointer (some ⟨g, 5, none⟩) := by rw [← hρ, ← hf2, ← hf1, ← hf0]; kernel_rfl
                have r2 : ρ (.tmp 32) = slV q' := by rw [← hρ, ← hf2, ← hf1, ← hf0]; kernel_rfl
                simp [go_sem, r1, r2, c5, k5]
              · subst hf2 hf1 hf0
                simp only [wpSeq, putH, List.getElem?_cons_succ, List.getElem?_cons_zero, Option.bind_some, Act.put, List.setIfInBounds_toArray, List.set_cons_zero, List.set_cons_succ]
                go_wp2_with fail
                go_roundw
                case rel => exact ⟨k + 1, _, by omega, by go_num, IN, HL.out.1, by rw [List.map_append, HL.out.2.1, List.take_succ_eq_append_getElem (by have := HR.out; omega)]; simp [HX.out, List.getD, show k < Rs.length by have := HR.out; omega], HL.out.2.2.1, HL.out.2.2.2.1, HL.out.2.2.2.2⟩
                case measure => simp [intOf]; omega
      · have HR2 : Hid (L.rs.map LR.R = Rs) := by
          have h := HL.out.2.1
          rw [List.take_of_length_le (by have := HR.out; omega)] at h
          exact h
        have z6 := I.bp.mach.2.2.1
        simp only [slV] at z6
        clear oR fr
        have HL0 : Hid (L.c = c ∧ L.ps.map LP.P = Ps.take 0 ∧ L.rs.map LR.R = Rs ∧ L.ts = [] ∧ L.es = Es) := ⟨HL.out.1, by rw [HL.out.2.2.1]; rfl, HR2.out, HL.out.2.2.2.1, HL.out.2.2.2.2⟩
        go_wp2_with fail
        go_loopw [5] (fun i wq => ∃ (k : Nat) (L : Lay), k ≤ nP ∧ i = .int .i64 k ∧ CpI True w (cells9 c (aR, nR, cR) (aP, nP, cP) (aT, nT, cT) qH) 29 c g wq L ∧ Hid (L.c = c ∧ L.ps.map LP.P = Ps.take k ∧ L.rs.map LR.R = Rs ∧ L.ts = [] ∧ L.es = Es)) (fun i _ => nP - (intOf i).toNat)
        case atStart => exact ⟨0, L, Nat.zero_le _, rfl, I, HL0⟩
        case round =>
          clear HL0 HL HR2 I z5 z6 hlt hk
          rename_i _ k0 L0 _ _
          obtain ⟨k, L, hk, rfl, I, HL⟩ := hrel
          have z6 := I.bp.mach.2.2.1
          simp only [slV] at z6
          by_cases hlt : k < nP
          · obtain ⟨b, off, rfl, oPk⟩ := oP (by omega)
            obtain ⟨rs0, qc, ql, rA, hq0, hq1, hq2⟩ := oPk k hlt
            obtain ⟨P, hPk⟩ : ∃ R, R = Ps.getD k Rp.zero := ⟨_, rfl⟩
            have HX : Hid (P = Ps.getD k Rp.zero) := hPk
            rw [← hPk] at hq0 hq1 hq2
            obtain ⟨g0, g1, g2⟩ : Fit P.s ∧ P.cs.length * 8 ≤ 140737488351232 ∧ P.ls.length * 8 ≤ 140737488351232 := by rw [hPk]; exact fp _ (getD_mem (by have := HP.out; omega))
            have hlt' : (k : Int) < (nP : Int) := by omega
            have hk0 : (0 : Int) ≤ (k : Int) := by omega
            clear hPk oPk oP oT fp ft
            obtain ⟨x0, x1, x2, x3, x4, x5⟩ := rA.le I.le
            have hLn : L.ps.length = k := by
              have := congrArg List.length HL.out.2.1
              have := HP.out
              simp at *
              omega
            have HLn : Hid (L.ps.length = k) := hLn
            have hA := Le.alloc wr (.cells (cellsP rs0 qc ql) 56)
            have hbx := Box.new wr (cellsP rs0 qc ql) 56
            have I1 := I.later hA
            clear rA hLn
            go_upto_region 10 with fail
            generalize hW2 : wr.alloc (.cells (cellsP rs0 qc ql) 56) = wq at hA hbx I1 ⊢
            clear hW2 x0 x1 x2 x3 x4 x5 z6 I
            generalize wr.heap.size = gx at hbx ⊢
            have HS : HasS wq (stV rs0) P.s := ⟨rs0, rfl, fun i hi => (hq0 i hi).le I1.le⟩
            replace hq1 := hq1.le I1.le
            replace hq2 := hq2.le I1.le
            have y6 := I1.bo.mach.2.2.1
            obtain ⟨t0, t1, t2, t3, t4, t5⟩ := hbx.rep
            clear hq0 hbx hA
            refine wp_region_any (by kernel_rfl) ?_
            refine wpAny_grow [] [0, 1, 2, 3, 4, 5, 6, 7, 8, 9, 10, 11, 12, 13, 14] [15, 16, 17] (by decide) (by kernel_rfl) Le (Le.refl _) (fun _ _ _ => Le.trans)
              (fun vs i x => match i with
                | 0 => vs 0 = .pointer (some ⟨g, 6, none⟩)
                | 1 => vs 1 = slV L.qP
                | 2 => vs 2 = .pointer (some ⟨gx, 0, none⟩)
                | 3 => vs 3 = stV rs0
                | 4 => ∃ us : Nat → Sl, vs 4 = stV us ∧ ∀ i, i < 4 → Own x wq.heap.size (slV (us i)) (P.s.at i)
                | 5 => ∃ b, vs 5 = .slice (some ⟨b, 0, none⟩) 0 0 ∧ Own x wq.heap.size (.slice (some ⟨b, 0, none⟩) 0 0) []
                | 6 => vs 6 = .pointer (some ⟨gx, 4, none⟩)
                | 7 => vs 7 = slV qc
                | 8 => ∃ q : Sl, vs 8 = slV q ∧ Own x wq.heap.size (slV q) P.cs ∧ (0 < P.cs.length → ∀ us : Nat → Sl, vs 4 = stV us → ∀ i, i < 4 → ∀ b, (slV q).ownBlock = some b → (slV (us i)).ownBlock ≠ some b)
                | 9 => ∃ b, vs 9 = .slice (some ⟨b, 0, none⟩) 0 0 ∧ Own x wq.heap.size (.slice (some ⟨b, 0, none⟩) 0 0) []
                | 10 => vs 10 = .pointer (some ⟨gx, 5, none⟩)
                | 11 => vs 11 = slV ql
                | 12 => ∃ q : Sl, vs 12 = slV q ∧ Own x wq.heap.size (slV q) P.ls ∧ (0 < P.ls.length → (∀ us : Nat → Sl, vs 4 = stV us → ∀ i, i < 4 → ∀ b, (slV q).ownBlock = some b → (slV (us i)).ownBlock ≠ some b) ∧ ∀ qa : Sl, vs 8 = slV qa → ∀ b, (slV q).ownBlock = some b → (slV qa).ownBlock ≠ some b)
                | 13 => ∃ (us : Nat → Sl) (qa qb : Sl), vs 13 = repV us qa qb ∧ RepOwn x wq.heap.size P us qa qb
                | _ => ∃ (us : Nat → Sl) (qa qb : Sl), OwnE repK x wq.heap.size (vs 14) [⟨P, us, qa, qb⟩] ∧ RepOwn x wq.heap.size P us qa qb) ?_ ?_ (by decide) ?_ ?_
            · intro vs i x y hi _ h hxy
              simp only [List.mem_cons, List.not_mem_nil, or_false] at hi
              rcases hi with rfl | rfl | rfl | rfl | rfl | rfl | rfl | rfl | rfl | rfl | rfl | rfl | rfl | rfl | rfl
              iterate 4
                · exact h
              · obtain ⟨u, e, o⟩ := h; exact ⟨u, e, fun i hi => (o i hi).le hxy⟩
              · obtain ⟨u, e, o⟩ := h; exact ⟨u, e, o.le hxy⟩
              iterate 2
                · exact h
              · obtain ⟨u, e, o, o'⟩ := h; exact ⟨u, e, o.le hxy, o'⟩
              · obtain ⟨u, e, o⟩ := h; exact ⟨u, e, o.le hxy⟩
              iterate 2
                · exact h
              · obtain ⟨u, e, o, o'⟩ := h; exact ⟨u, e, o.le hxy, o'⟩
              · obtain ⟨u, a, b, e, o⟩ := h; exact ⟨u, a, b, e, o.le hxy⟩
              · obtain ⟨u, a, b, o, o'⟩ := h; exact ⟨u, a, b, o.le hxy, o'.le hxy⟩
            · intro vs vs' i o x hi _ hk h
              have e := hk i (.inl rfl)
              simp only [List.mem_cons, List.not_mem_nil, or_false] at hi
              rcases hi with rfl | rfl | rfl | rfl | rfl | rfl | rfl | rfl | rfl | rfl | rfl | rfl | rfl | rfl | rfl
              case inr.inr.inr.inr.inr.inr.inr.inr.inl =>
                have e4 := hk 4 (.inr (by kernel_rfl))
                simp only at h ⊢
                rw [← e, ← e4]
                exact h
              case inr.inr.inr.inr.inr.inr.inr.inr.inr.inr.inr.inr.inl =>
                have e4 := hk 4 (.inr (by kernel_rfl))
                have e8 := hk 8 (.inr (by kernel_rfl))
                simp only at h ⊢
                rw [← e, ← e4, ← e8]
                exact h
              all_goals
                simp only at h ⊢
                rw [← e]
                exact h
            · intro i o hi ho vs x hx hd
              have hx0 := (Le.drew wq).trans hx
              simp only [List.mem_cons, List.not_mem_nil, or_false] at hi
              generalize hρ : (putH _ _ _ vs).eval = ρ
              rcases hi with rfl | rfl | rfl | rfl | rfl | rfl | rfl | rfl | rfl | rfl | rfl | rfl | rfl | rfl | rfl
              · cases ho
                have r1 : ρ (.tmp 3) = .pointer (some ⟨g, 0, none⟩) := by rw [← hρ]; kernel_rfl
                exact gives_value (w' := x) (v := .pointer (some ⟨g, 6, none⟩)) (by simp [go_sem, r1]) ⟨Le.refl _, rfl⟩
              · cases ho
                have r1 : ρ (.tmp 46) = vs 0 := by rw [← hρ]; kernel_rfl
                have d := hd 0 (by decide) (by kernel_rfl)
                simp only at d
                rw [d] at r1
                have s6 := cell_le y6 hx0
                exact gives_value (w' := x) (v := slV L.qP) (by simp [go_sem, r1, s6]) ⟨Le.refl _, rfl⟩
              · cases ho
                have r1 : ρ (.tmp 6) = .pointer (some ⟨gx, 0, none⟩) := by rw [← hρ]; kernel_rfl
                exact gives_value (w' := x) (v := .pointer (some ⟨gx, 0, none⟩)) (by simp [go_sem, r1]) ⟨Le.refl _, rfl⟩
              · cases ho
                have r1 : ρ (.tmp 48) = vs 2 := by rw [← hρ]; kernel_rfl
                have d := hd 2 (by decide) (by kernel_rfl)
                simp only at d
                rw [d] at r1
                have s0 := cell_le t0 hx0
                have s1 := cell_le t1 hx0
                have s2 := cell_le t2 hx0
                have s3 := cell_le t3 hx0
                exact gives_value (w' := x) (v := stV rs0) (by simp [go_sem, r1, s0, s1, s2, s3]) ⟨Le.refl _, rfl⟩
              · cases ho
                have r1 : ρ (.tmp 49) = vs 3 := by rw [← hρ]; kernel_rfl
                have rf : ρ (.func 54) = .func (.func 54) #[] #[] := by rw [← hρ]; kernel_rfl
                have d := hd 3 (by decide) (by kernel_rfl)
                simp only at d
                rw [d] at r1
                have hcall := refCopyState (stV rs0) P.s x (HS.le hx0) g0
                refine gives_call (f := 54) (args := #[stV rs0]) (by simp [go_sem, r1, rf]) (hcall.mono ?_)
                rintro e x' ⟨v', rfl, ⟨us, rfl, ou⟩, lu⟩
                exact ⟨_, rfl, lu, us, rfl, fun i hi => (ou i hi).base hx0.size⟩
              · cases ho
                exact gives_value (w' := x.alloc (.cells #[] 3)) (v := .slice (some ⟨x.heap.size, 0, none⟩) 0 0) (by simp [go_sem]) ⟨Le.alloc _ _, x.heap.size, rfl, Own.lit x _ hx0.size [] (by decide)⟩
              · cases ho
                have r1 : ρ (.tmp 6) = .pointer (some ⟨gx, 0, none⟩) := by rw [← hρ]; kernel_rfl
                exact gives_value (w' := x) (v := .pointer (some ⟨gx, 4, none⟩)) (by simp [go_sem, r1]) ⟨Le.refl _, rfl⟩
              · cases ho
                have r1 : ρ (.tmp 52) = vs 6 := by rw [← hρ]; kernel_rfl
                have d := hd 6 (by decide) (by kernel_rfl)
                simp only at d
                rw [d] at r1
                have s4 := cell_le t4 hx0
                exact gives_value (w' := x) (v := slV qc) (by simp [go_sem, r1, s4]) ⟨Le.refl _, rfl⟩
              · cases ho
                have r1 : ρ (.tmp 51) = vs 5 := by rw [← hρ]; kernel_rfl
                have r2 : ρ (.tmp 53) = vs 7 := by rw [← hρ]; kernel_rfl
                have hh := hd 5 (by decide) (by kernel_rfl)
                have h4 := hd 4 (by decide) (by kernel_rfl)
                have d := hd 7 (by decide) (by kernel_rfl)
                simp only at hh h4 d
                obtain ⟨bb, e5, o5⟩ := hh
                obtain ⟨us, e4, o4⟩ := h4
                rw [e5] at r1
                rw [d] at r2
                obtain ⟨q, x', hrun, o8, l8, n8⟩ := run_append_emptyI 43 x wq.heap.size bb (slV qc) P.cs o5 (hq1.le hx0) g1 hx0.size
                refine gives_value (w' := x') (v := slV q) (by simp only [execOp, resolve, invoke, builtin, Sem.run_bind, Sem.run_pure, Result.andThen_ok, List.map_toArray, List.map_cons, List.map_nil, r1, r2, hrun]) ⟨l8, q, rfl, o8, fun hpos us' e i hi b hb hb' => ?_⟩
                have e' : stV us = stV us' := by rw [← e4]; exact e
                have hus : slV (us' i) = slV (us i) := by
                  simp only [Value.agg.injEq, Array.mk.injEq, List.cons.injEq] at e'
                  rcases four hi with rfl | rfl | rfl | rfl
                  · exact e'.1.symm
                  · exact e'.2.1.symm
                  · exact e'.2.2.1.symm
                  · exact e'.2.2.2.1.symm
                rw [hus] at hb'
                have h1 := ((o4 i hi).block hb').2
                rw [n8 hpos] at hb
                simp only [Option.some.injEq] at hb
                omega
              · cases ho
                exact gives_value (w' := x.alloc (.cells #[] 3)) (v := .slice (some ⟨x.heap.size, 0, none⟩) 0 0) (by simp [go_sem]) ⟨Le.alloc _ _, x.heap.size, rfl, Own.lit x _ hx0.size [] (by decide)⟩
              · cases ho
                have r1 : ρ (.tmp 6) = .pointer (some ⟨gx, 0, none⟩) := by rw [← hρ]; kernel_rfl
                exact gives_value (w' := x) (v := .pointer (some ⟨gx, 5, none⟩)) (by simp [go_sem, r1]) ⟨Le.refl _, rfl⟩
              · cases ho
                have r1 : ρ (.tmp 56) = vs 10 := by rw [← hρ]; kernel_rfl
                have d := hd 10 (by decide) (by kernel_rfl)
                simp only at d
                rw [d] at r1
                have s5 := cell_le t5 hx0
                exact gives_value (w' := x) (v := slV ql) (by simp [go_sem, r1, s5]) ⟨Le.refl _, rfl⟩
              · cases ho
                have r1 : ρ (.tmp 55) = vs 9 := by rw [← hρ]; kernel_rfl
                have r2 : ρ (.tmp 57) = vs 11 := by rw [← hρ]; kernel_rfl
                have hh := hd 9 (by decide) (by kernel_rfl)
                have h4 := hd 4 (by decide) (by kernel_rfl)
                have h8 := hd 8 (by decide) (by kernel_rfl)
                have d := hd 11 (by decide) (by kernel_rfl)
                simp only at hh h4 h8 d
                obtain ⟨bb, e5, o5⟩ := hh
                obtain ⟨us, e4, o4⟩ := h4
                obtain ⟨q8, e8, o8, _⟩ := h8
                rw [e5] at r1
                rw [d] at r2
                obtain ⟨q, x', hrun, o12, l12, n12⟩ := run_append_emptyI 43 x wq.heap.size bb (slV ql) P.ls o5 (hq2.le hx0) g2 hx0.size
                refine gives_value (w' := x') (v := slV q) (by simp only [execOp, resolve, invoke, builtin, Sem.run_bind, Sem.run_pure, Result.andThen_ok, List.map_toArray, List.map_cons, List.map_nil, r1, r2, hrun]) ⟨l12, q, rfl, o12, fun hpos => ⟨fun us' e i hi b hb hb' => ?_, fun qa e b hb hb' => ?_⟩⟩
                · have e' : stV us = stV us' := by rw [← e4]; exact e
                  have hus : slV (us' i) = slV (us i) := by
                    simp only [Value.agg.injEq, Array.mk.injEq, List.cons.injEq] at e'
                    rcases four hi with rfl | rfl | rfl | rfl
                    · exact e'.1.symm
                    · exact e'.2.1.symm
                    · exact e'.2.2.1.symm
                    · exact e'.2.2.2.1.symm
                  rw [hus] at hb'
                  have h1 := ((o4 i hi).block hb').2
                  rw [n12 hpos] at hb
                  simp only [Option.some.injEq] at hb
                  omega
                · have e' : slV q8 = slV qa := by rw [← e8]; exact e
                  rw [← e'] at hb'
                  have h1 := (o8.block hb').2
                  rw [n12 hpos] at hb
                  simp only [Option.some.injEq] at hb
                  omega
              · cases ho
                have r1 : ρ (.tmp 50) = vs 4 := by rw [← hρ]; kernel_rfl
                have r2 : ρ (.tmp 54) = vs 8 := by rw [← hρ]; kernel_rfl
                have r3 : ρ (.tmp 58) = vs 12 := by rw [← hρ]; kernel_rfl
                have h4 := hd 4 (by decide) (by kernel_rfl)
                have h8 := hd 8 (by decide) (by kernel_rfl)
                have h12 := hd 12 (by decide) (by kernel_rfl)
                simp only at h4 h8 h12
                obtain ⟨us, e4, o4⟩ := h4
                obtain ⟨q8, e8, o8, a8⟩ := h8
                obtain ⟨q12, e12, o12, a12⟩ := h12
                rw [e4] at r1
                rw [e8] at r2
                rw [e12] at r3
                exact gives_value (w' := x) (v := repV us q8 q12) (by simp [go_sem, r1, r2, r3]) ⟨Le.refl _, us, q8, q12, rfl, o4, o8, o12, fun hp => a8 hp us e4, fun hp => (a12 hp).1 us e4, fun hp => (a12 hp).2 q8 e8⟩
              · cases ho
                have r1 : ρ (.tmp 59) = vs 13 := by rw [← hρ]; kernel_rfl
                have hh := hd 13 (by decide) (by kernel_rfl)
                simp only at hh
                obtain ⟨us, qa, qb, e13, o13⟩ := hh
                rw [e13] at r1
                have hlit := OwnE.lit repK x wq.heap.size hx0.size [⟨P, us, qa, qb⟩] (by simp)
                exact gives_value (w' := x.alloc (.cells (cellsP us qa qb) 56)) (v := .slice (some ⟨x.heap.size, 0, none⟩) 1 1) (by simp [go_sem, r1]) ⟨Le.alloc _ _, us, qa, qb, hlit, o13.le (Le.alloc _ _)⟩
            · intro vs x hx hd
              have hx0 := (Le.drew wq).trans hx
              have e1 := hd 1 (by decide)
              simp only at e1
              have hh := hd 14 (by decide)
              simp only at hh
              replace hh := hh.choose_spec
              generalize Exists.choose _ = us at hh
              replace hh := hh.choose_spec
              generalize Exists.choose _ = qa at hh
              replace hh := hh.choose_spec
              generalize Exists.choose _ = qb at hh
              have o14 := hh.1
              have o13 := hh.2
              have hrun := run_append_E repIn 25 x w.heap.size (slV L.qP) (vs 14) L.ps [⟨P, us, qa, qb⟩] (I1.own.oP.le hx0) o14.has (by simp) (by have := HLn.out; show (L.ps.length + 1) * 144 ≤ _; omega) (by have := HLn.out; show L.ps.length + 1 ≤ _; omega) (I1.le.trans hx0).size
              replace hrun := hrun.choose_spec
              generalize Exists.choose _ = q' at hrun
              replace hrun := hrun.choose_spec
              generalize Exists.choose _ = x2 at hrun
              have hrn := hrun.1
              have IN := I1.rep (by decide) hx0 (x := ⟨P, us, qa, qb⟩) o13.s o13.c o13.l (fun _ => o13.apart) hrun.2.1 hrun.2.2
              have bo2 : x2.cell? ⟨g, 6, none⟩ = some (slV L.qP) ∧ x2.frozen? ⟨g, 6, none⟩ = false := by
                have hb := (I1.bo.le hx0).grown hrun.2.2 ((I1.own.oP.le hx0).apart (I1.bo.le hx0) (by decide))
                exact ⟨hb.cell 6, hb.frozen 6⟩
              have c6 := bo2.1
              have k6 := bo2.2
              generalize hf0 : putH _ _ _ vs = fr0
              refine wpSeq_cons rfl ?_
              refine wp_value_at (v0 := slV q') (w0 := x2) ?_ ?_
              · have r1 : fr0.eval (.tmp 47) = vs 1 := by rw [← hf0]; kernel_rfl
                have r2 : fr0.eval (.tmp 60) = vs 14 := by rw [← hf0]; kernel_rfl
                rw [e1] at r1
                simp only [execOp, resolve, invoke, builtin, Sem.run_bind, Sem.run_pure, Result.andThen_ok, List.map_toArray, List.map_cons, List.map_nil, r1, r2, hrn]
              · generalize hf1 : Act.put fr0 _ _ = fr1
                refine wpSeq_cons rfl ?_
                refine wp_value_at (v0 := .pointer (some ⟨g, 6, none⟩)) (w0 := x2) ?_ ?_
                · generalize hρ : fr1.eval = ρ
                  have r1 : ρ (.tmp 3) = .pointer (some ⟨g, 0, none⟩) := by rw [← hρ, ← hf1, ← hf0]; kernel_rfl
                  simp [go_sem, r1]
                · generalize hf2 : Act.put fr1 _ _ = fr2
                  refine wpSeq_cons rfl ?_
                  refine wp_skip_at (w0 := x2.setCell ⟨g, 6, none⟩ (slV q')) ?_ ?_
                  · generalize hρ : fr2.eval = ρ
                    have r1 : ρ (.tmp 62) = .pointer (some ⟨g, 6, none⟩) := by rw [← hρ, ← hf2, ← hf1, ← hf0]; kernel_rfl
                    have r2 : ρ (.tmp 61) = slV q' := by rw [← hρ, ← hf2, ← hf1, ← hf0]; kernel_rfl
                    simp [go_sem, r1, r2, c6, k6]
                  · subst hf2 hf1 hf0
                    simp only [wpSeq, putH, List.getElem?_cons_succ, List.getElem?_cons_zero, Option.bind_some, Act.put, List.setIfInBounds_toArray, List.set_cons_zero, List.set_cons_succ]
                    go_wp2_with fail
                    go_roundw
                    case rel => exact ⟨k + 1, _, by omega, by go_num, IN, HL.out.1, by rw [List.map_append, HL.out.2.1, List.take_succ_eq_append_getElem (by have := HP.out; omega)]; simp [HX.out, List.getD, show k < Ps.length by have := HP.out; omega], HL.out.2.2.1, HL.out.2.2.2.1, HL.out.2.2.2.2⟩
                    case measure => simp [intOf]; omega
          · have HP2 : Hid (L.ps.map LP.P = Ps) := by
              have h := HL.out.2.1
              rw [List.take_of_length_le (by have := HP.out; omega)] at h
              exact h
            have z7 := I.bp.mach.2.2.2.1
            simp only [slV] at z7
            clear oP fp
            have HL0 : Hid (L.c = c ∧ L.ts.map LT.T = Ts.take 0 ∧ L.rs.map LR.R = Rs ∧ L.ps.map LP.P = Ps ∧ L.es = Es ∧ L.far) := ⟨HL.out.1, by rw [HL.out.2.2.2.1]; rfl, HL.out.2.2.1, HP2.out, HL.out.2.2.2.2, far_none HL.out.2.2.2.1⟩
            go_wp2_with fail
            go_loopw [7] (fun i wq => ∃ (k : Nat) (L : Lay), k ≤ nT ∧ i = .int .i64 k ∧ CpI True w (cells9 c (aR, nR, cR) (aP, nP, cP) (aT, nT, cT) qH) 29 c g wq L ∧ Hid (L.c = c ∧ L.ts.map LT.T = Ts.take k ∧ L.rs.map LR.R = Rs ∧ L.ps.map LP.P = Ps ∧ L.es = Es ∧ L.far)) (fun i _ => nT - (intOf i).toNat)
            case atStart => exact ⟨0, L, Nat.zero_le _, rfl, I, HL0⟩
            case round =>
              clear HL0 HL HP2 I z6 z7 hlt hk
              rename_i _ k1 L1 _ _
              obtain ⟨k, L, hk, rfl, I, HL⟩ := hrel
              have z7 := I.bp.mach.2.2.2.1
              simp only [slV] at z7
              by_cases hlt : k < nT
              · obtain ⟨b, off, rfl, oTk⟩ := oT (by omega)
                obtain ⟨qb, qt, rA, hq1, hq2⟩ := oTk k hlt
                obtain ⟨T, hTk⟩ : ∃ R, R = Ts.getD k Th.zero := ⟨_, rfl⟩
                have HX : Hid (T = Ts.getD k Th.zero) := hTk
                rw [← hTk] at rA hq1 hq2
                obtain ⟨g1, g2⟩ : T.b.length * 8 ≤ 140737488351232 ∧ T.tl.length * 8 ≤ 140737488351232 := by rw [hTk]; exact ft _ (getD_mem (by have := HT.out; omega))
                have hlt' : (k : Int) < (nT : Int) := by omega
                have hk0 : (0 : Int) ≤ (k : Int) := by omega
                clear hTk oTk oT ft
                obtain ⟨x0, x1, x2, x3, x4, x5, x6, x7, x8, x9, x10, x11⟩ := rA.le I.le
                have hLn : L.ts.length = k := by
                  have := congrArg List.length HL.out.2.1
                  have := HT.out
                  simp at *
                  omega
                have HLn : Hid (L.ts.length = k) := hLn
                clear rA hLn
                have hA := Le.alloc wr (.cells (cellsT T qb qt) 45)
                have hbx := Box.new wr (cellsT T qb qt) 45
                replace hq1 := hq1.le (I.le.trans hA)
                replace hq2 := hq2.le (I.le.trans hA)
                go_upto_region 15 with fail
                generalize hW2 : wr.alloc (.cells (cellsT T qb qt) 45) = wq at hA hbx hq1 hq2 ⊢
                generalize hgx : wr.heap.size = gx at hbx ⊢
                have hBg : wr.heap.size ≤ gx := by omega
                clear hW2 hgx x0 x1 x2 x3 x4 x5 x6 x7 x8 x9 x10 x11 z7
                have s6 := (hbx.le (Le.alloc wq (.cells #[] 3))).th.2.2.2.2.2.2.1
                have hn1 : Own (wq.alloc (.cells #[] 3)) wr.heap.size (.slice (some ⟨wq.heap.size, 0, none⟩) 0 0) [] := Own.lit wq _ hA.size [] (by decide)
                have hq1' := hq1.le (Le.alloc wq (.cells #[] 3))
                have hA1 := hA.trans (Le.alloc wq (.cells #[] 3))
                go_upto_region 16 with (at_builtin; refine wp_append_emptyI rfl _ _ rfl wr.heap.size _ _ T.b rfl rfl hn1 hq1' g1 hA1.size ?_; intro q1 w3 o1 l3 n1; have hb3 := (hbx.le (Le.alloc wq (.cells #[] 3))).le l3; have c6 := hb3.th.2.2.2.2.2.2.1; have k6 := hb3.frozen 6)
                have hb4 := hb3.setT6 (q := q1)
                have l4 : Le wr (w3.setCell ⟨gx, 6, none⟩ (slV q1)) := Le.set (hA1.trans l3) hBg
                have o4 := o1.setBox (i := 6) (u := slV q1) hb3 (by decide)
                have hq4 : Has (w3.setCell ⟨gx, 6, none⟩ (slV q1)) (slV qt) T.tl := by
                  have h0 := hq2.le ((Le.alloc wq (.cells #[] 3)).trans l3)
                  obtain ⟨a, cap, hv, hc, hn, hx⟩ := h0
                  refine ⟨a, cap, hv, hc, hn, fun hp => ?_⟩
                  obtain ⟨b', off', ha, hcell⟩ := hx hp
                  refine ⟨b', off', ha, fun i hi => ?_⟩
                  rw [World.cell?_setCell_other _ _ _ _ (fun e => ?_)]
                  · exact hcell i hi
                  · have h1 := hcell i hi
                    rw [← e, c6] at h1
                    cases h1
                clear s6 hn1 hq1 hq1' hq2 c6 k6 hbx hb3 o1
                generalize hW4 : w3.setCell ⟨gx, 6, none⟩ (slV q1) = w4 at hb4 l4 o4 hq4 ⊢
                clear hW4 l3 hA1 hA
                have s11 := (hb4.le (Le.alloc w4 (.cells #[] 3))).th.2.2.2.2.2.2.2.2.2.2.2
                have hn2 : Own (w4.alloc (.cells #[] 3)) w4.heap.size (.slice (some ⟨w4.heap.size, 0, none⟩) 0 0) [] := Own.lit w4 _ (Nat.le_refl _) [] (by decide)
                have hq4' := hq4.le (Le.alloc w4 (.cells #[] 3))
                have hA4 := l4.trans (Le.alloc w4 (.cells #[] 3))
                have o4' := o4.le (Le.alloc w4 (.cells #[] 3))
                go_upto_region 17 with (at_builtin; refine wp_append_emptyI rfl _ _ rfl w4.heap.size _ _ T.tl rfl rfl hn2 hq4' g2 (Le.alloc w4 _).size ?_; intro q2 w5 o2 l5 _; have hb5 := (hb4.le (Le.alloc w4 (.cells #[] 3))).le l5; have c11 := hb5.th.2.2.2.2.2.2.2.2.2.2.2; have k11 := hb5.frozen 11)
                have HK : Hid (∀ b, (slV q1).ownBlock = some b → (slV q2).ownBlock ≠ some b) := hid (fun b e1 e2 => by have := (o4.block e1).2; have := (o2.block e2).1; omega)
                replace o2 := o2.base (base' := wr.heap.size) l4.size
                have hb6 := hb5.setT11 (q := q2)
                have l6 : Le wr (w5.setCell ⟨gx, 11, none⟩ (slV q2)) := Le.set (hA4.trans l5) hBg
                have o6 := (o4'.le l5).setBox (i := 11) (u := slV q2) hb5 (by decide)
                have o7 := o2.setBox (i := 11) (u := slV q2) hb5 (by decide)
                have hap : 0 < q1.2.1 → 0 < q2.2.1 → ∀ b, (slV q1).ownBlock = some b → (slV q2).ownBlock ≠ some b := fun _ _ => HK.out
                clear s11 hn2 hq4 hq4' c11 k11 hb4 hb5 o2 o4 o4' n1
                generalize hW6 : w5.setCell ⟨gx, 11, none⟩ (slV q2) = w6 at hb6 l6 o6 o7 ⊢
                clear hW6 l5 hA4 l4
                obtain ⟨t0, t1, t2, t3, t4, t5, t6, t7, t8, t9, t10, t11⟩ := hb6.th
                have I6 := I.later l6
                have y7 := I6.bo.mach.2.2.2.1
                have hlit := OwnE.lit thK w6 wr.heap.size l6.size [⟨T, q1, q2⟩] (by simp)
                replace hlit : OwnE thK (w6.alloc (.cells (cellsT T q1 q2) 45)) wr.heap.size (.slice (some ⟨w6.heap.size, 0, none⟩) 1 1) [⟨T, q1, q2⟩] := hlit
                have hA6 := Le.alloc w6 (.cells (cellsT T q1 q2) 45)
                have hoT := (I6.own.oT.le hA6)
                have y7' := cell_le y7 hA6
                go_wp2_with (at_builtin; refine wp_append_E thIn rfl _ _ rfl w.heap.size _ _ L.ts [⟨T, q1, q2⟩] rfl rfl hoT hlit.has (by have := HLn.out; show (L.ts.length + 1) * 120 ≤ _; omega) (by have := HLn.out; show L.ts.length + 1 ≤ _; omega) (I6.le.trans hA6).size ?_; intro v' w7 o8 hg8 _; obtain ⟨q', rfl⟩ := o8.has.sl; have hb8 := (I6.bo.le hA6).grown hg8 (hoT.apart (I6.bo.le hA6) (by decide)); have c7 := hb8.cell 7; have k7 := hb8.frozen 7)
                have IN := I.th (by decide) (l6.trans hA6) (x := ⟨T, q1, q2⟩) (o6.le hA6) (o7.le hA6) (fun _ => hap) o8 hg8
                go_roundw
                case rel => exact ⟨k + 1, _, by omega, by go_num, IN, HL.out.1, by rw [List.map_append, HL.out.2.1, List.take_succ_eq_append_getElem (by have := HT.out; omega)]; simp [HX.out, List.getD, show k < Ts.length by have := HT.out; omega], HL.out.2.2.1, HL.out.2.2.2.1, HL.out.2.2.2.2.1, far_app HL.out.2.2.2.2.2 (m := wr.heap.size) (fun p b e => I.own.at_lt e) q' ⟨T, q1, q2⟩ (fun b e => (o6.block e).1) (fun b e => (o7.block e).1) HK.out⟩
                case measure => simp [intOf]; omega
              · have HM : Hid (L.M = ⟨c, Rs, Ps, Ts, Es⟩) := by
                  have h := HL.out.2.1
                  rw [List.take_of_length_le (by have := HT.out; omega)] at h
                  show Lay.M L = _
                  unfold Lay.M
                  rw [HL.out.1, h, HL.out.2.2.1, HL.out.2.2.2.1, HL.out.2.2.2.2.1]
                have HC : Hid (L.c = c) := HL.out.1
                have HTI : Hid L.far := HL.out.2.2.2.2.2
                obtain ⟨⟨m0, m1, m2, m3, m4⟩, m5, m6, m7, m8⟩ := I.bo.mach
                have r0 := I.br.cell 0
                have r1 := I.br.cell 1
                have r2 := I.br.cell 2
                have r3 := I.br.cell 3
                have r4 := I.br.cell 4
                have r5 := I.br.cell 5
                have r6 := I.br.cell 6
                have r7 := I.br.cell 7
                have r8 := I.br.cell 8
                simp only [List.getElem?_toArray, List.getElem?_cons_succ, List.getElem?_cons_zero] at r0 r1 r2 r3 r4 r5 r6 r7 r8
                have k0 := I.br.frozen 0
                have k1' := I.br.frozen 1
                have k2 := I.br.frozen 2
                have k3 := I.br.frozen 3
                have k4 := I.br.frozen 4
                have k5 := I.br.frozen 5
                have k6 := I.br.frozen 6
                have k7 := I.br.frozen 7
                have k8 := I.br.frozen 8
                clear oT ft HL
                go_wp2_with fail
                refine bodyPost_ret (v := machV c L.qR L.qP L.qT L.qH) (by simp [results, Tryz.results25, go_sem, r0, r1, r2, r3, r4, r5, r6, r7, r8]) rfl ⟨L, by rw [← HC.out], HM.out, ?_, I.ap trivial, ?_⟩
                · have hne : ∀ {t : TypeId} {kk n : Nat} {v : Value} {us : List Value}, World.ownsRow wr w.heap.size t kk v n us → t ≠ 29 → (put9 wr (w.heap.size + 1) c L.qR L.qP L.qT L.qH).ownsRow w.heap.size t kk v n us := fun {t kk n v us} h ht => row_put9 h (fun e => by
                    rcases h.2 with ⟨e2, _⟩ | ⟨g', cap, cur, hv, _, hh, _⟩
                    · rw [e2] at e; simp [Value.ownBlock] at e
                    · rw [hv] at e
                      simp [Value.ownBlock] at e
                      subst e
                      have hb := I.br
                      unfold Box at hb
                      rw [hb] at hh
                      simp at hh
                      exact ht hh.2.symm) _ _ _ _ _
                  have o := I.own
                  exact ⟨hne o.oR (by decide), hne o.oP (by decide), hne o.oT (by decide), hne o.oH (by decide), fun y hy => hne (o.iR y hy) (by decide), fun y hy => ⟨fun i hi => hne ((o.iP y hy).1 i hi) (by decide), hne (o.iP y hy).2.1 (by decide), hne (o.iP y hy).2.2 (by decide)⟩, fun y hy => ⟨hne (o.iT y hy).1 (by decide), hne (o.iT y hy).2 (by decide)⟩⟩
                · exact ⟨I.le.put9 (by omega) _ _ _ _ _, HTI.out⟩


end Go.Proofs.YtnemldboiogdkaaGreat

/-
  PLAIN GROUND, NO WALK: the document's Copy of a machine, out of rmCopyT (which says of the copy's blocks as well that they lie apart). Condition: that the machine's rows can be copied.
-/
namespace Go.Proofs.YtnemldboiogdkaaGreat
open Go.RowKit

theorem rmCopy (v : Value) (M : Mc) (w : World) (hx : HasM w v M) (hf : FitM M) :
    Calls Tryz.prog 25 #[v] w fun e w' => ∃ L : Lay, e = .returned L.v ∧ L.M = M ∧ OwnsM w' w.heap.size L ∧ ApartM L ∧ Le w w' :=
  (rmCopyT v M w hx hf).mono fun _ _ ⟨L, a, b, c, d, l, _⟩ => ⟨L, a, b, c, d, l⟩

end Go.Proofs.YtnemldboiogdkaaGreat

/-
  PLAIN GROUND: a new machine, and rows that a make gives. No condition.
-/
namespace Go.Proofs.YtnemldboiogdkaaGreat
open Go.RowKit

/-- A new machine of what c says that there is. -/
def freshM (c : Cfg) : Mc := ⟨c, List.replicate c.l.toNat (newS c.s).1, List.replicate c.r.toNat ⟨St.zero, List.replicate c.l.toNat 0, List.replicate c.l.toNat 0⟩, List.replicate c.t.toNat Th.zero, []⟩
/-- The document's New. -/
def newM (c : Cfg) : Mc × Int := if c.ok then (freshM c, 0) else (Mc.zero, 1400)

theorem le_grown {w w' : World} (h : w.grownBy w' none) : Le w w' := Below.grown (Le.refl w) h (Nat.le_refl _) (fun _ e => by cases e)

/-- A make of n numbers. -/
theorem run_make_ints (w : World) (base n : Nat) (hn : n ≤ 100) (hb : base ≤ w.heap.size) :
    ∃ w', (Instr.makeSlice 43 (.int .i64 (n : Int)) (.int .i64 (n : Int))).run Tryz.prog w = .ok (.slice (some ⟨w.heap.size, 0, none⟩) n n) w' ∧ Own w' base (.slice (some ⟨w.heap.size, 0, none⟩) n n) (List.replicate n 0) ∧ Le w w' := by
  obtain ⟨i0, hi, hz0, hz1, hz2⟩ := info_parts info3
  obtain ⟨w', h1, h2, h3⟩ := run_make_full (P := Tryz.prog) w base 43 3 i0 (.int .i64 0) 1 Tryz.underlying43 hi hz0 hz1 .i64 .i64 n (by rw [hz2]; omega) (by unfold maxLen; omega) hb
  exact ⟨w', h1, Own.of h2 (by simp) (by rw [show (Value.int .i64 0).cells = #[.int .i64 0] from rfl, Nat.mul_one, toList_madeCells_one]; simp), le_grown h3⟩

/-- A make of n threads. -/
theorem run_make_ths (w : World) (base n : Nat) (hn : n = 1 ∨ n = 2 ∨ n = 3 ∨ n = 4) (hb : base ≤ w.heap.size) :
    ∃ w', (Instr.makeSlice 26 (.int .i64 (n : Int)) (.int .i64 (n : Int))).run Tryz.prog w = .ok (.slice (some ⟨w.heap.size, 0, none⟩) n n) w' ∧ OwnE thK w' base (.slice (some ⟨w.heap.size, 0, none⟩) n n) (List.replicate n ⟨Th.zero, slZ, slZ⟩) ∧ Le w w' := by
  obtain ⟨z, hinfo, hzs⟩ := thIn.info
  have hz : z = .agg #[.int .i64 0, .int .i64 0, .int .i64 0, .int .i64 0, .int .i64 0, .int .i64 0, .slice none 0 0, .int .i64 0, .bool false, .bool false, .int .i64 0, .slice none 0 0] := by
    have h2 : (Tryz.prog.info? 45).map (fun i => (i.zero, i.size, i.bytes)) = some (some (.agg #[.int .i64 0, .int .i64 0, .int .i64 0, .int .i64 0, .int .i64 0, .int .i64 0, .slice none 0 0, .int .i64 0, .bool false, .bool false, .int .i64 0, .slice none 0 0]), 12, 120) := by kernel_rfl
    have h3 : (Tryz.prog.info? 45).map (fun i => (i.zero, i.size, i.bytes)) = some (some z, 12, 120) := hinfo
    rw [h2] at h3
    simp only [Option.some.injEq, Prod.mk.injEq] at h3
    exact h3.1.symm
  subst hz
  obtain ⟨i0, hi, hz0, hz1, hz2⟩ := info_parts hinfo
  obtain ⟨w', h1, h2, h3⟩ := run_make_full (P := Tryz.prog) w base 26 45 i0 _ 12 Tryz.underlying26 hi hz0 hz1 .i64 .i64 n (by rw [hz2]; show 120 * n ≤ _; omega) (by unfold maxLen; omega) hb
  refine ⟨w', h1, OwnE.of h2 (by simp) ?_, le_grown h3⟩
  rcases hn with rfl | rfl | rfl | rfl <;> kernel_rfl

end Go.Proofs.YtnemldboiogdkaaGreat

/-
  PLAIN GROUND: package ring's contracts, their answers written out. Condition: that the slots can be copied.
-/
namespace Go.Proofs.YtnemldboiogdkaaGreat
open Go.RowKit

end Go.Proofs.YtnemldboiogdkaaGreat

/-
  THE WALK over choruslaw13.awake: it answers true and turns nothing that was there. No condition. Beside it the contracts of package config with their answers given (repAs, cfgAs).
-/
namespace Go.Proofs.YtnemldboiogdkaaGreat
open Go.RowKit

theorem repAs {o r l t s k x er : Int} (h : repS o r l t s k = (x, er)) (w : World) : Calls Tryz.prog 43 #[cfgV o r l t s, .int .i64 k] w fun e w' => e = .returned (.tuple #[.int .i64 x, .int .i64 er]) ∧ Le w w' := by
  have := cfgReplica o r l t s k w
  rw [h] at this
  exact this
end Go.Proofs.YtnemldboiogdkaaGreat

/-
  THE WALK over package start's New: what it answers, for every Config, in memory of the call's own. No condition.
-/
namespace Go.Proofs.YtnemldboiogdkaaGreat
open Go.RowKit

abbrev cells5 (c : Cfg) : Array Value := #[.int .i64 c.o, .int .i64 c.r, .int .i64 c.l, .int .i64 c.t, .int .i64 c.s]

theorem OwnsM.put9 {w : World} {base g : Nat} {cs : Array Value} {L : Lay} (o : OwnsM w base L) (hb : Box w g cs 29) (c : Cfg) (a b d e : Sl) : OwnsM (put9 w g c a b d e) base L := by
  have hne : ∀ {t : TypeId} {kk n : Nat} {v : Value} {us : List Value}, World.ownsRow w base t kk v n us → t ≠ 29 → (Go.Proofs.YtnemldboiogdkaaGreat.put9 w g c a b d e).ownsRow base t kk v n us := fun {t kk n v us} h ht => row_put9 h (fun e => by
    rcases h.2 with ⟨e2, _⟩ | ⟨g', cap, cur, hv, _, hh, _⟩
    · rw [e2] at e; simp [Value.ownBlock] at e
    · rw [hv] at e
      simp [Value.ownBlock] at e
      subst e
      unfold Box at hb
      rw [hb] at hh
      simp at hh
      exact ht hh.2.symm) _ _ _ _ _
  exact ⟨hne o.oR (by decide), hne o.oP (by decide), hne o.oT (by decide), hne o.oH (by decide), fun y hy => hne (o.iR y hy) (by decide), fun y hy => ⟨fun i hi => hne ((o.iP y hy).1 i hi) (by decide), hne (o.iP y hy).2.1 (by decide), hne (o.iP y hy).2.2 (by decide)⟩, fun y hy => ⟨hne (o.iT y hy).1 (by decide), hne (o.iT y hy).2 (by decide)⟩⟩

/-- What stands when the threads are made. -/
theorem CpI.start2 {F : Prop} (hF : ¬ F) {w x : World} {cp : Array Value} {tp : TypeId} {c : Cfg} {q : Sl} {g n : Nat} (hl : Le w x) (bp : Box x w.heap.size cp tp) (br : Box x (w.heap.size + 1) cellsZ9 29) (bo : Box x g cellsZ9 29) (hg : w.heap.size + 2 ≤ g) (ho : OwnE thK x (w.heap.size + 2) (slV q) (List.replicate n ⟨Th.zero, slZ, slZ⟩)) :
    CpI F w cp tp c g (Go.Proofs.YtnemldboiogdkaaGreat.put9 x g c slZ slZ q slZ) ⟨c, slZ, slZ, q, slZ, [], [], List.replicate n ⟨Th.zero, slZ, slZ⟩, []⟩ := by
  refine ⟨hl.put9 (by omega) _ _ _ _ _, bp.off9 (by omega) _ _ _ _ _, br.off9 (by omega) _ _ _ _ _, bo.put9 rfl _ _ _ _ _, by omega, ⟨OwnE.nil _ _ _, OwnE.nil _ _ _, ?_, OwnE.nil _ _ _, (fun x h => by cases h), (fun x h => by cases h), (fun y h => ?_)⟩, fun hf => absurd hf hF⟩
  · exact row_put9 (ho.base (base' := w.heap.size) (by omega)) (ho.apart bo (by decide)) _ _ _ _ _
  · obtain rfl := List.eq_of_mem_replicate h
    exact ⟨Own.nil _ _, Own.nil _ _⟩

end Go.Proofs.YtnemldboiogdkaaGreat

/-
  PLAIN GROUND, NO WALK: the call's own machine in a variable, and what each store into a part of it leaves: another machine, the call's own, its rows in blocks of their own. No condition.
-/
namespace Go.Proofs.YtnemldboiogdkaaGreat
open Go.RowKit

/-- A row of the call's own stays where another block is written to, or where it is empty. -/
theorem own_setCell {w : World} {base g i k n : Nat} {t : TypeId} {v u : Value} {us : List Value} (h : w.ownsRow base t k v n us) (hne : n = 0 ∨ v.ownBlock ≠ some g) : (w.setCell ⟨g, i, none⟩ u).ownsRow base t k v n us := by
  by_cases hb : v.ownBlock = some g
  · obtain ⟨h1, h2⟩ := h
    refine ⟨h1, ?_⟩
    rcases h2 with h2 | ⟨g', cap, cur, hv, hg, hh, hn, hm, hs, ht⟩
    · exact .inl h2
    · rw [hv] at hb
      simp [Value.ownBlock] at hb
      subst hb
      rcases hne with rfl | hne
      · have hb' : Box w g' cur t := hh
        have := hb'.set i u
        refine .inr ⟨g', cap, _, hv, hg, this, hn, hm, ?_, ?_⟩
        · simpa using hs
        · simp at h1 ⊢
          simpa using h1
      · rw [hv] at hne
        simp [Value.ownBlock] at hne
  · exact ownsRow_setCell_other h hb u

/-- The call's own machine in a variable. -/
structure MoI (B g : Nat) (w : World) (L : Lay) : Prop where
  bo : Box w g (cells9 L.c L.qR L.qP L.qT L.qH) 29
  hB : B ≤ g
  own : OwnsM w B L
  ap : ApartM L

theorem MoI.le {B g : Nat} {w w' : World} {L : Lay} (h : MoI B g w L) (l : Le w w') : MoI B g w' L := ⟨h.bo.le l, h.hB, h.own.le l, h.ap⟩
theorem MoI.has {B g : Nat} {w : World} {L : Lay} (h : MoI B g w L) : HasM w L.v L.M := h.own.has

/-- The blocks that a laid machine's own rows lie in are older than m. -/
def Lay.Below (L : Lay) (m : Nat) : Prop := (∀ i b, (slV (L.slots i)).ownBlock = some b → b < m) ∧ ∀ p b, (slV (L.at p)).ownBlock = some b → b < m
theorem OwnsM.bel {w : World} {B : Nat} {L : Lay} (h : OwnsM w B L) : L.Below w.heap.size := ⟨fun _ _ e => h.slots_lt e, fun _ _ e => h.at_lt e⟩
theorem getD_set {α : Type} (xs : List α) (i j : Nat) (x d : α) (hi : i < xs.length) : (xs.set i x).getD j d = if j = i then x else xs.getD j d := by
  simp only [List.getD, List.getElem?_set]
  by_cases e : i = j
  · subst e; simp [hi]
  · have e' : ¬ j = i := fun h => e h.symm
    simp [e, e']

theorem rowC_same {α : Type} {f : α → List Value} (d : α) {x' : α} : ∀ (xs : List α) (i : Nat), i < xs.length → f x' = f (xs.getD i d) → rowC f (xs.set i x') = rowC f xs
  | [], i, h, _ => by simp at h
  | x :: xs, 0, _, hf => by simp at hf; simp [rowC, hf]
  | x :: xs, i + 1, h, hf => by
    simp only [List.set_cons_succ, rowC]
    rw [rowC_same d xs i (by simpa using h) (by simpa using hf)]
theorem own_k {α : Type} {K : Kind α} {w : World} {B : Nat} {v : Value} {xs : List α} {k' n : Nat} {t : TypeId} {u : Value} {us : List Value} (h : OwnE K w B v xs) (h2 : w.ownsRow B t k' u n us) (ht : t ≠ K.t) {g : Nat} (e : v.ownBlock = some g) : u.ownBlock ≠ some g :=
  ownsRow_apart (show w.ownsRow B K.t K.k v _ _ from h) h2 (fun h => ht h.symm) e

/-! A thread. -/
theorem MoI.openT {B g : Nat} {w : World} {L : Lay} (h : MoI B g w L) {i : Nat} (hi : i < L.ts.length) : ∃ gT cap, L.qT = (some ⟨gT, 0, none⟩, L.ts.length, cap) ∧ L.ts.length ≤ cap ∧ B ≤ gT ∧ gT < w.heap.size ∧ g ≠ gT ∧
    ThAt w gT (i * 12) (L.ts.getD i thK.d).T (L.ts.getD i thK.d).b (L.ts.getD i thK.d).t ∧ ∀ j, w.frozen? ⟨gT, j, none⟩ = false := by
  have ho := h.own.oT
  obtain ⟨gT, cap, hv, hc, hg, hlt⟩ := ho.shape (by omega)
  have hq : L.qT = (some ⟨gT, 0, none⟩, L.ts.length, cap) := by
    simp only [slV, Value.slice.injEq] at hv
    obtain ⟨a, b, c⟩ := hv
    exact Prod.ext a (Prod.ext b c)
  have hap := ho.apart h.bo (by decide)
  rw [hv] at hap
  simp only [Value.ownBlock, ne_eq, Option.some.injEq] at hap
  rw [hq] at ho
  refine ⟨gT, cap, hq, hc, hg, hlt, fun e => hap (by rw [e]), ?_, fun j => ho.frozen j⟩
  obtain ⟨a, c, hv', _, _, hx⟩ := ho.has
  obtain ⟨b, off, ha, hcell⟩ := hx (by omega)
  simp only [slV, Value.slice.injEq] at hv'
  rw [ha] at hv'
  simp only [Option.some.injEq, Addr.mk.injEq, and_true] at hv'
  obtain ⟨⟨rfl, rfl⟩, _⟩ := hv'
  have h' := hcell i hi
  simp only [Nat.zero_add] at h'
  exact ⟨h' 0 (by decide), h' 1 (by decide), h' 2 (by decide), h' 3 (by decide), h' 4 (by decide), h' 5 (by decide), h' 6 (by decide), h' 7 (by decide), h' 8 (by decide), h' 9 (by decide), h' 10 (by decide), h' 11 (by decide)⟩

/-- A store into one cell of a thread: that it is another thread whose rows are the call's own still. -/
theorem MoI.setT {B g : Nat} {w : World} {L : Lay} (h : MoI B g w L) {i j gT n cap : Nat} {u : Value} (hq : L.qT = (some ⟨gT, 0, none⟩, n, cap)) (hi : i < L.ts.length) (hj : j < 12) (x : LT) (hx : x.cells = (L.ts.getD i thK.d).cells.set j u)
    (hb : Own w B (slV x.b) x.T.b) (ht : Own w B (slV x.t) x.T.tl) (hap : ApartM { L with ts := L.ts.set i x }) : MoI B g (w.setCell ⟨gT, i * 12 + j, none⟩ u) { L with ts := L.ts.set i x } := by
  have ho := h.own.oT
  rw [hq] at ho
  have hne : g ≠ gT := fun e => by
    have := ho.apart h.bo (by decide)
    simp [Value.ownBlock] at this
    exact this e.symm
  have key : ∀ {t : TypeId} {kk m : Nat} {v : Value} {us : List Value}, w.ownsRow B t kk v m us → t ≠ 45 → (w.setCell ⟨gT, i * 12 + j, none⟩ u).ownsRow B t kk v m us := fun h1 h2 => by
    refine ownsRow_setCell_other h1 ?_ u
    exact own_k (g := gT) ho h1 h2 rfl
  refine ⟨h.bo.other hne _ _, h.hB, ⟨key h.own.oR (by decide), key h.own.oP (by decide), ?_, key h.own.oH (by decide), fun y hy => key (h.own.iR y hy) (by decide), fun y hy => ?_, fun y hy => ?_⟩, hap⟩
  · show OwnE thK _ B (slV L.qT) (L.ts.set i x)
    rw [hq]
    exact ho.put hi hj hx
  · obtain ⟨a, b, c⟩ := h.own.iP y hy
    exact ⟨fun i hi => key (a i hi) (by decide), key b (by decide), key c (by decide)⟩
  · rcases List.mem_or_eq_of_mem_set hy with hy | rfl
    · obtain ⟨a, b⟩ := h.own.iT y hy
      exact ⟨key a (by decide), key b (by decide)⟩
    · exact ⟨key hb (by decide), key ht (by decide)⟩

/-- .. the same rows. -/
theorem ApartM.setT {L : Lay} (h : ApartM L) {i : Nat} (hi : i < L.ts.length) {x : LT} (hb : x.b = (L.ts.getD i thK.d).b) (ht : x.t = (L.ts.getD i thK.d).t) : ApartM { L with ts := L.ts.set i x } := by
  have key : ∀ p, ({ L with ts := L.ts.set i x } : Lay).at p = L.at p := fun p => by
    cases p with
    | rep a b => rfl
    | th a b =>
      simp only [Lay.at, getD_set _ _ _ _ _ hi]
      split
      · next e =>
        subst e
        match b with
        | 0 => exact hb
        | 1 => exact ht
        | _ + 2 => rfl
      · rfl
  exact ⟨h.s, fun p q hne hw n1 n2 b e1 e2 => by rw [key] at n1 n2 e1 e2; exact h.n p q hne hw n1 n2 b e1 e2⟩

/-- .. rows in newer blocks, or empty ones. -/
theorem ApartM.setTn {L : Lay} {m : Nat} (h : ApartM L) (hm : L.Below m) {i : Nat} (hi : i < L.ts.length) {x : LT}
    (hb : x.b = (L.ts.getD i thK.d).b ∨ x.b.2.1 = 0 ∨ ∀ c, (slV x.b).ownBlock = some c → m ≤ c)
    (ht : x.t = (L.ts.getD i thK.d).t ∨ x.t.2.1 = 0 ∨ ∀ c, (slV x.t).ownBlock = some c → m ≤ c)
    (hbt : x.b.2.1 = 0 ∨ x.t.2.1 = 0 ∨ x.b = (L.ts.getD i thK.d).b ∨ x.t = (L.ts.getD i thK.d).t) : ApartM { L with ts := L.ts.set i x } := by
  have key : ∀ p, (({ L with ts := L.ts.set i x } : Lay).at p = L.at p) ∨ ((({ L with ts := L.ts.set i x } : Lay).at p).2.1 = 0) ∨ ((∃ k, p = .th i k ∧ k < 2) ∧ ∀ c, (slV (({ L with ts := L.ts.set i x } : Lay).at p)).ownBlock = some c → m ≤ c) := fun p => by
    cases p with
    | rep a b => exact .inl rfl
    | th a b =>
      simp only [Lay.at, getD_set _ _ _ _ _ hi]
      by_cases e : a = i
      · subst e
        rw [if_pos rfl]
        match b with
        | 0 =>
          rcases hb with h | h | h
          · exact .inl h
          · exact .inr (.inl h)
          · exact .inr (.inr ⟨⟨0, rfl, by decide⟩, h⟩)
        | 1 =>
          rcases ht with h | h | h
          · exact .inl h
          · exact .inr (.inl h)
          · exact .inr (.inr ⟨⟨1, rfl, by decide⟩, h⟩)
        | _ + 2 => exact .inl rfl
      · rw [if_neg e]; exact .inl rfl
  have both : ∀ k l, k ≠ l → k < 2 → l < 2 → (∀ c, (slV (({ L with ts := L.ts.set i x } : Lay).at (.th i k))).ownBlock = some c → m ≤ c) → (∀ c, (slV (({ L with ts := L.ts.set i x } : Lay).at (.th i l))).ownBlock = some c → m ≤ c) → 0 < (({ L with ts := L.ts.set i x } : Lay).at (.th i k)).2.1 → 0 < (({ L with ts := L.ts.set i x } : Lay).at (.th i l)).2.1 → ∀ c, (slV (({ L with ts := L.ts.set i x } : Lay).at (.th i k))).ownBlock = some c → (slV (({ L with ts := L.ts.set i x } : Lay).at (.th i l))).ownBlock ≠ some c := by
    intro k l hkl hk hl g1 g2 n1 n2 c e1 e2
    have b0 : (({ L with ts := L.ts.set i x } : Lay).at (.th i 0)) = x.b := by simp only [Lay.at, getD_set _ _ _ _ _ hi, if_true]; rfl
    have b1 : (({ L with ts := L.ts.set i x } : Lay).at (.th i 1)) = x.t := by simp only [Lay.at, getD_set _ _ _ _ _ hi, if_true]; rfl
    have hx : 0 < x.b.2.1 ∧ 0 < x.t.2.1 ∧ (∀ c, (slV x.b).ownBlock = some c → m ≤ c) ∧ (∀ c, (slV x.t).ownBlock = some c → m ≤ c) ∧ ∃ c, (slV x.b).ownBlock = some c ∧ (slV x.t).ownBlock = some c := by
      rcases (by omega : (k = 0 ∧ l = 1) ∨ (k = 1 ∧ l = 0)) with ⟨rfl, rfl⟩ | ⟨rfl, rfl⟩
      · rw [b0] at n1 g1 e1; rw [b1] at n2 g2 e2; exact ⟨n1, n2, g1, g2, c, e1, e2⟩
      · rw [b1] at n1 g1 e1; rw [b0] at n2 g2 e2; exact ⟨n2, n1, g2, g1, c, e2, e1⟩
    obtain ⟨p1, p2, p3, p4, c', p5, p6⟩ := hx
    rcases hbt with h0 | h0 | h0 | h0
    · omega
    · omega
    · have h1 := hm.2 (.th i 0) c' (by simp only [Lay.at]; rw [show (L.ts.getD i thK.d).row 0 = (L.ts.getD i thK.d).b from rfl, ← h0]; exact p5)
      have := p3 c' p5
      omega
    · have h1 := hm.2 (.th i 1) c' (by simp only [Lay.at]; rw [show (L.ts.getD i thK.d).row 1 = (L.ts.getD i thK.d).t from rfl, ← h0]; exact p6)
      have := p4 c' p6
      omega
  refine ⟨h.s, fun p q hne hw n1 n2 b e1 e2 => ?_⟩
  rcases key p with k1 | k1 | ⟨⟨k, rfl, hk⟩, k1⟩
  · rw [k1] at n1 e1
    rcases key q with k2 | k2 | ⟨_, k2⟩
    · rw [k2] at n2 e2; exact h.n p q hne hw n1 n2 b e1 e2
    · omega
    · have := hm.2 p b e1; have := k2 b e2; omega
  · omega
  · rcases key q with k2 | k2 | ⟨⟨l, rfl, hl⟩, k2⟩
    · rw [k2] at e2
      have := hm.2 q b e2; have := k1 b e1; omega
    · omega
    · exact both k l (fun e => hne (by rw [e])) hk hl k1 k2 n1 n2 b e1 e2

/-- A store of a number or a Bool into a thread. -/
theorem MoI.setTs {B g : Nat} {w : World} {L : Lay} (h : MoI B g w L) {i j gT n cap : Nat} {u : Value} (hq : L.qT = (some ⟨gT, 0, none⟩, n, cap)) (hi : i < L.ts.length) (hj : j < 12) (T : Th)
    (hx : (⟨T, (L.ts.getD i thK.d).b, (L.ts.getD i thK.d).t⟩ : LT).cells = (L.ts.getD i thK.d).cells.set j u) (hb : T.b = (L.ts.getD i thK.d).T.b) (ht : T.tl = (L.ts.getD i thK.d).T.tl) :
    MoI B g (w.setCell ⟨gT, i * 12 + j, none⟩ u) { L with ts := L.ts.set i ⟨T, (L.ts.getD i thK.d).b, (L.ts.getD i thK.d).t⟩ } := by
  have o := h.own.iT _ (getD_mem (d := thK.d) hi)
  exact h.setT hq hi hj _ hx (by rw [hb]; exact o.1) (by rw [ht]; exact o.2) (h.ap.setT hi rfl rfl)

/-! What a laid machine is, part by part. -/
theorem Lay.M_setT (L : Lay) (i : Nat) (x : LT) : ({ L with ts := L.ts.set i x } : Lay).M = { L.M with ts := L.M.ts.set i x.T } := by
  simp only [Lay.M, List.map_set]
theorem Lay.M_getT (L : Lay) {i : Nat} (h : i < L.ts.length) : (L.ts.getD i thK.d).T = L.M.ts.getD i Th.zero := by
  simp only [Lay.M]
  rw [getD_map LT.T L.ts thK.d Th.zero h]
theorem Lay.M_getP (L : Lay) {i : Nat} (h : i < L.ps.length) : (L.ps.getD i repK.d).P = L.M.ps.getD i Rp.zero := by
  simp only [Lay.M]
  rw [getD_map LP.P L.ps repK.d Rp.zero h]
theorem Lay.M_setP (L : Lay) (i : Nat) (x : LP) : ({ L with ps := L.ps.set i x } : Lay).M = { L.M with ps := L.M.ps.set i x.P } := by
  simp only [Lay.M, List.map_set]
/-! A replica. -/
theorem MoI.openP {B g : Nat} {w : World} {L : Lay} (h : MoI B g w L) {i : Nat} (hi : i < L.ps.length) : ∃ gP cap, L.qP = (some ⟨gP, 0, none⟩, L.ps.length, cap) ∧ L.ps.length ≤ cap ∧ B ≤ gP ∧ gP < w.heap.size ∧ g ≠ gP ∧
    RepAt w gP (i * 6) (L.ps.getD i repK.d).vs (L.ps.getD i repK.d).c (L.ps.getD i repK.d).l ∧ ∀ j, w.frozen? ⟨gP, j, none⟩ = false := by
  have ho := h.own.oP
  obtain ⟨gP, cap, hv, hc, hg, hlt⟩ := ho.shape (by omega)
  have hq : L.qP = (some ⟨gP, 0, none⟩, L.ps.length, cap) := by
    simp only [slV, Value.slice.injEq] at hv
    obtain ⟨a, b, c⟩ := hv
    exact Prod.ext a (Prod.ext b c)
  have hap := ho.apart h.bo (by decide)
  rw [hv] at hap
  simp only [Value.ownBlock, ne_eq, Option.some.injEq] at hap
  rw [hq] at ho
  refine ⟨gP, cap, hq, hc, hg, hlt, fun e => hap (by rw [e]), ?_, fun j => ho.frozen j⟩
  obtain ⟨a, c, hv', _, _, hx⟩ := ho.has
  obtain ⟨b, off, ha, hcell⟩ := hx (by omega)
  simp only [slV, Value.slice.injEq] at hv'
  rw [ha] at hv'
  simp only [Option.some.injEq, Addr.mk.injEq, and_true] at hv'
  obtain ⟨⟨rfl, rfl⟩, _⟩ := hv'
  have h' := hcell i hi
  simp only [Nat.zero_add] at h'
  exact ⟨h' 0 (by decide), h' 1 (by decide), h' 2 (by decide), h' 3 (by decide), h' 4 (by decide), h' 5 (by decide)⟩

/-- A row of numbers of a replica, the call's own, that holds something: where it lies. -/
theorem own_open {w : World} {B : Nat} {q : Sl} {xs : List Int} (h : Own w B (slV q) xs) {i : Nat} (hi : i < xs.length) : ∃ gl cap, q = (some ⟨gl, 0, none⟩, xs.length, cap) ∧ xs.length ≤ cap ∧ B ≤ gl ∧ gl < w.heap.size ∧ w.cell? ⟨gl, i, none⟩ = some (.int .i64 (xs.getD i 0)) ∧ w.frozen? ⟨gl, i, none⟩ = false := by
  have ho := h.e
  obtain ⟨gl, cap, hv, hc, hg, hlt⟩ := ho.shape (by omega)
  have hq : q = (some ⟨gl, 0, none⟩, xs.length, cap) := by
    simp only [slV, Value.slice.injEq] at hv
    obtain ⟨a, b, c⟩ := hv
    exact Prod.ext a (Prod.ext b c)
  subst hq
  refine ⟨gl, cap, rfl, hc, hg, hlt, ?_, ho.frozen i⟩
  obtain ⟨a, c, hv', _, _, hx⟩ := h.has
  obtain ⟨b, off, ha, hcell⟩ := hx (by omega)
  simp only [slV, Value.slice.injEq] at hv'
  rw [ha] at hv'
  simp only [Option.some.injEq, Addr.mk.injEq, and_true] at hv'
  obtain ⟨⟨rfl, rfl⟩, _⟩ := hv'
  have := hcell i hi
  rwa [Nat.zero_add] at this

/-- A store into a lock (which = 5) or a cursor (which = 4). -/
theorem MoI.setN {B g : Nat} {w : World} {L : Lay} (h : MoI B g w L) {i k gl n cap : Nat} {v : Int} (which : Nat) (hw : which = 4 ∨ which = 5) (hi : i < L.ps.length) (hq : (L.ps.getD i repK.d).row which = (some ⟨gl, 0, none⟩, n, cap)) (hk : k < n)
    (P : Rp) (hs : P.s = (L.ps.getD i repK.d).P.s) (hc : P.cs = if which = 4 then (L.ps.getD i repK.d).P.cs.set k v else (L.ps.getD i repK.d).P.cs) (hl : P.ls = if which = 5 then (L.ps.getD i repK.d).P.ls.set k v else (L.ps.getD i repK.d).P.ls) :
    MoI B g (w.setCell ⟨gl, k, none⟩ (.int .i64 v)) { L with ps := L.ps.set i ⟨P, (L.ps.getD i repK.d).vs, (L.ps.getD i repK.d).c, (L.ps.getD i repK.d).l⟩ } := by
  have o := h.own.iP _ (getD_mem (d := repK.d) hi)
  have hpos : Pos.wr (.rep i which) = true := by rcases hw with rfl | rfl <;> rfl
  have hat : L.at (.rep i which) = (some ⟨gl, 0, none⟩, n, cap) := hq
  have hrow : ∃ xs, Own w B (.slice (some ⟨gl, 0, none⟩) n cap) xs := by
    rcases hw with rfl | rfl
    · have := o.2.1
      rw [show (L.ps.getD i repK.d).c = _ from hq] at this
      exact ⟨_, this⟩
    · have := o.2.2
      rw [show (L.ps.getD i repK.d).l = _ from hq] at this
      exact ⟨_, this⟩
  obtain ⟨ys, hys⟩ := hrow
  have hne : g ≠ gl := fun e => by
    have := hys.e.apart h.bo (by decide)
    simp [Value.ownBlock] at this
    exact this e.symm
  -- rows of another type
  have key : ∀ {t : TypeId} {kk m : Nat} {v' : Value} {us : List Value}, w.ownsRow B t kk v' m us → t ≠ 3 → (w.setCell ⟨gl, k, none⟩ (.int .i64 v)).ownsRow B t kk v' m us := fun h1 h2 => by
    refine ownsRow_setCell_other h1 ?_ _
    exact own_k (g := gl) hys.e h1 h2 rfl
  -- rows of numbers at another position
  have key2 : ∀ p xs, p ≠ .rep i which → Own w B (slV (L.at p)) xs → Own (w.setCell ⟨gl, k, none⟩ (.int .i64 v)) B (slV (L.at p)) xs := fun p xs hp hx => by
    refine own_setCell hx ?_
    rcases Nat.eq_zero_or_pos xs.length with h0 | h0
    · exact .inl h0
    · refine .inr (h.ap.n (.rep i which) p (fun e => hp e.symm) hpos ?_ ?_ gl ?_)
      · rw [hat]; show 0 < n; omega
      · rw [own_len hx]; exact h0
      · rw [hat]; rfl
  have hown : OwnsM (w.setCell ⟨gl, k, none⟩ (.int .i64 v)) B { L with ps := L.ps.set i ⟨P, (L.ps.getD i repK.d).vs, (L.ps.getD i repK.d).c, (L.ps.getD i repK.d).l⟩ } := by
    refine ⟨key h.own.oR (by decide), ?_, key h.own.oT (by decide), key h.own.oH (by decide), fun y hy => key (h.own.iR y hy) (by decide), fun y hy => ?_, fun y hy => ?_⟩
    · have h1 : OwnE repK (w.setCell ⟨gl, k, none⟩ (.int .i64 v)) B (slV L.qP) L.ps := key h.own.oP (by decide)
      refine OwnE.of h1 (by simp) ?_
      exact (rowC_same (f := repK.f) (x' := ⟨P, (L.ps.getD i repK.d).vs, (L.ps.getD i repK.d).c, (L.ps.getD i repK.d).l⟩) repK.d L.ps i hi rfl).symm
    · obtain ⟨a, ha, rfl⟩ := List.mem_iff_getElem.1 hy
      simp only [List.length_set] at ha
      by_cases e : i = a
      · subst e
        simp only [List.getElem_set_self]
        refine ⟨fun j hj => ?_, ?_, ?_⟩
        · rw [hs]
          have := o.1 j hj
          rcases four hj with rfl | rfl | rfl | rfl
          · exact key2 (.rep i 0) _ (by rcases hw with rfl | rfl <;> simp) this
          · exact key2 (.rep i 1) _ (by rcases hw with rfl | rfl <;> simp) this
          · exact key2 (.rep i 2) _ (by rcases hw with rfl | rfl <;> simp) this
          · exact key2 (.rep i 3) _ (by rcases hw with rfl | rfl <;> simp) this
        · rw [hc]
          rcases hw with rfl | rfl
          · rw [if_pos rfl]
            have := o.2.1
            rw [show (L.ps.getD i repK.d).c = _ from hq] at this ⊢
            have hn := own_len this
            have hn' : n = _ := hn
            have := (OwnE.put (K := intK) (x' := v) (u := .int .i64 v) this.e (i := k) (j := 0) (by rw [← hn']; exact hk) (by decide) rfl).i
            have e1 : k * intK.k + 0 = k := by show k * 1 + 0 = k; omega
            rw [e1] at this
            exact this
          · rw [if_neg (by decide)]
            exact key2 (.rep i 4) _ (by simp) o.2.1
        · rw [hl]
          rcases hw with rfl | rfl
          · rw [if_neg (by decide)]
            exact key2 (.rep i 5) _ (by simp) o.2.2
          · rw [if_pos rfl]
            have := o.2.2
            rw [show (L.ps.getD i repK.d).l = _ from hq] at this ⊢
            have hn := own_len this
            have hn' : n = _ := hn
            have := (OwnE.put (K := intK) (x' := v) (u := .int .i64 v) this.e (i := k) (j := 0) (by rw [← hn']; exact hk) (by decide) rfl).i
            have e1 : k * intK.k + 0 = k := by show k * 1 + 0 = k; omega
            rw [e1] at this
            exact this
      · rw [List.getElem_set_ne e]
        have oa := h.own.iP (L.ps[a]) (List.getElem_mem _)
        have ga : L.ps[a] = L.ps.getD a repK.d := by simp [List.getD, ha]
        rw [ga] at oa ⊢
        refine ⟨fun j hj => ?_, key2 (.rep a 4) _ (by simp; omega) oa.2.1, key2 (.rep a 5) _ (by simp; omega) oa.2.2⟩
        have := oa.1 j hj
        rcases four hj with rfl | rfl | rfl | rfl
        · exact key2 (.rep a 0) _ (by simp; omega) this
        · exact key2 (.rep a 1) _ (by simp; omega) this
        · exact key2 (.rep a 2) _ (by simp; omega) this
        · exact key2 (.rep a 3) _ (by simp; omega) this
    · obtain ⟨a, ha, rfl⟩ := List.mem_iff_getElem.1 hy
      have oa := h.own.iT (L.ts[a]) (List.getElem_mem _)
      have ga : L.ts[a] = L.ts.getD a thK.d := by simp [List.getD, ha]
      rw [ga] at oa ⊢
      exact ⟨key2 (.th a 0) _ (by simp) oa.1, key2 (.th a 1) _ (by simp) oa.2⟩
  refine ⟨h.bo.other hne _ _, h.hB, hown, ⟨h.ap.s, fun p q hne hw' n1 n2 b e1 e2 => ?_⟩⟩
  have kat : ∀ p, ({ L with ps := L.ps.set i ⟨P, (L.ps.getD i repK.d).vs, (L.ps.getD i repK.d).c, (L.ps.getD i repK.d).l⟩ } : Lay).at p = L.at p := fun p => by
    cases p with
    | th a b => rfl
    | rep a b =>
      simp only [Lay.at, getD_set _ _ _ _ _ hi]
      split
      · next e => subst e; match b with
        | 0 => rfl
        | 1 => rfl
        | 2 => rfl
        | 3 => rfl
        | 4 => rfl
        | 5 => rfl
        | _ + 6 => rfl
      · rfl
  rw [kat] at n1 n2 e1 e2
  exact h.ap.n p q hne hw' n1 n2 b e1 e2

end Go.Proofs.YtnemldboiogdkaaGreat

/-
  PLAIN GROUND, NO WALK: the call's own machine in a variable: whole elements stored (a ring, a state, a thread), an event more, and what a function hands back. No condition but, at an append, that the bytes are within the reach that every row bears.
-/
namespace Go.Proofs.YtnemldboiogdkaaGreat
open Go.RowKit

/-- Cells stored one behind the other, from off + j on. -/
def setsW (g off : Nat) : World → Nat → List Value → World
  | w, _, [] => w
  | w, j, u :: us => setsW g off (w.setCell ⟨g, off + j, none⟩ u) (j + 1) us
/-- .. in a row. -/
def setsL (off : Nat) : List Value → Nat → List Value → List Value
  | l, _, [] => l
  | l, j, u :: us => setsL off (l.set (off + j) u) (j + 1) us

theorem setsL_at (off : Nat) : ∀ (us l : List Value) (j i : Nat), off + j + us.length ≤ l.length → (setsL off l j us)[i]? = if off + j ≤ i ∧ i < off + j + us.length then us[i - (off + j)]? else l[i]?
  | [], l, j, i, _ => by rw [setsL, if_neg (by simp only [List.length_nil]; omega)]
  | u :: us, l, j, i, h => by
    simp only [List.length_cons] at h
    rw [setsL, setsL_at off us _ (j + 1) i (by rw [List.length_set]; omega), List.getElem?_set]
    by_cases e : off + j = i
    · subst e
      rw [if_neg (by omega), if_pos rfl, if_pos (by omega), if_pos (by simp only [List.length_cons]; omega)]
      simp
    · rw [if_neg e]
      by_cases h1 : off + (j + 1) ≤ i ∧ i < off + (j + 1) + us.length
      · rw [if_pos h1, if_pos (by simp only [List.length_cons]; omega), show i - (off + j) = (i - (off + (j + 1))) + 1 by omega]
        simp
      · rw [if_neg h1, if_neg (by simp only [List.length_cons]; omega)]
theorem setsW_own {base g off k n : Nat} {t : TypeId} {v : Value} {rs : List Value} : ∀ (us : List Value) (w : World) (j : Nat), w.ownsRow base t k v n rs → v.ownBlock ≠ some g → (setsW g off w j us).ownsRow base t k v n rs
  | [], _, _, h, _ => h
  | u :: us, _, j, h, hne => setsW_own us _ (j + 1) (ownsRow_setCell_other h hne u) hne
theorem setsW_box {g off g' : Nat} {cs : Array Value} {t : TypeId} (hne : g' ≠ g) : ∀ (us : List Value) (w : World) (j : Nat), Box w g' cs t → Box (setsW g off w j us) g' cs t
  | [], _, _, h => h
  | _ :: us, _, j, h => setsW_box hne us _ (j + 1) (h.other hne _ _)
theorem setsW_le {w0 : World} {g off : Nat} (hg : w0.heap.size ≤ g) : ∀ (us : List Value) (w : World) (j : Nat), Le w0 w → Le w0 (setsW g off w j us)
  | [], _, _, h => h
  | _ :: us, _, j, h => setsW_le hg us _ (j + 1) (h.set hg)
theorem setsW_stored {base g off k n cap : Nat} {t : TypeId} : ∀ (us : List Value) (w : World) (j : Nat) (rs : List Value), w.ownsRow base t k (.slice (some ⟨g, 0, none⟩) n cap) n rs → (setsW g off w j us).ownsRow base t k (.slice (some ⟨g, 0, none⟩) n cap) n (setsL off rs j us)
  | [], _, _, _, h => h
  | u :: us, _, j, _, h => setsW_stored us _ (j + 1) _ (World.ownsRow.stored h (off + j) u).1

theorem rowC_sets {α : Type} {f : α → List Value} {k : Nat} (hk : ∀ x, (f x).length = k) (d : α) {x' : α} {us : List Value} (xs : List α) (i : Nat) (hi : i < xs.length) (hus : us.length ≤ k) (hf : f x' = us ++ (f (xs.getD i d)).drop us.length) : setsL (i * k) (rowC f xs) 0 us = rowC f (xs.set i x') := by
  have hle : i * k + k ≤ xs.length * k := by rw [← Nat.succ_mul]; exact Nat.mul_le_mul_right _ hi
  apply List.ext_getElem?
  intro m
  rw [setsL_at _ _ _ _ _ (by rw [rowC_len hk]; omega)]
  rcases Nat.lt_or_ge m (xs.length * k) with hm | hm
  · have hk0 : 0 < k := by
      rcases Nat.eq_zero_or_pos k with h | h
      · subst h; omega
      · exact h
    have e : m = m / k * k + m % k := by rw [Nat.mul_comm]; exact (Nat.div_add_mod m k).symm
    have hd : m / k < xs.length := Nat.div_lt_of_lt_mul (by rw [Nat.mul_comm]; exact hm)
    have hr : m % k < k := Nat.mod_lt _ hk0
    have h2 : (rowC f (xs.set i x'))[m]? = (f ((xs.set i x').getD (m / k) d))[m % k]? := by
      conv => lhs; rw [e]
      exact rowC_at hk d _ _ _ (by simpa using hd) hr
    have h1 : (rowC f xs)[m]? = (f (xs.getD (m / k) d))[m % k]? := by
      conv => lhs; rw [e]
      exact rowC_at hk d _ _ _ hd hr
    rw [h2, getD_set _ _ _ _ _ hi]
    by_cases ei : m / k = i
    · rw [if_pos ei, hf]
      have em : m = i * k + m % k := by rw [← ei]; exact e
      by_cases h3 : m % k < us.length
      · rw [if_pos (by omega), List.getElem?_append_left h3]
        congr 1
        omega
      · rw [if_neg (by omega), h1, ei, List.getElem?_append_right (by omega), List.getElem?_drop]
        congr 1
        omega
    · rw [if_neg ei, if_neg, h1]
      rintro ⟨h3, h4⟩
      apply ei
      have : m / k = i := by
        apply Nat.div_eq_of_lt_le
        · omega
        · rw [Nat.succ_mul]; omega
      exact this
  · rw [if_neg (by omega), List.getElem?_eq_none (by rw [rowC_len hk]; exact hm), List.getElem?_eq_none (by rw [rowC_len hk]; simpa using hm)]

/-- What a store of an element's first cells leaves. -/
theorem OwnE.putS {α : Type} {K : Kind α} {w : World} {base g n cap i : Nat} {xs : List α} {x' : α} {us : List Value} (h : OwnE K w base (.slice (some ⟨g, 0, none⟩) n cap) xs) (hi : i < xs.length) (hus : us.length ≤ K.k) (hx : K.f x' = us ++ (K.f (xs.getD i K.d)).drop us.length) :
    OwnE K (setsW g (i * K.k) w 0 us) base (.slice (some ⟨g, 0, none⟩) n cap) (xs.set i x') := by
  have hn : n = xs.length := by
    obtain ⟨a, c, hv, _⟩ := h.has
    simp only [Value.slice.injEq] at hv
    exact hv.2.1
  subst hn
  exact OwnE.of (setsW_stored us w 0 _ h) (by simp) (rowC_sets K.len K.d xs i hi hus hx)

/-- A row of threads that is another one: all else stays. -/
theorem MoI.chT {B g : Nat} {w w' : World} {L : Lay} (h : MoI B g w L) {gT n cap : Nat} (hq : L.qT = (some ⟨gT, 0, none⟩, n, cap)) {ts : List LT}
    (hk : ∀ {t : TypeId} {kk m : Nat} {v : Value} {us : List Value}, w.ownsRow B t kk v m us → v.ownBlock ≠ some gT → w'.ownsRow B t kk v m us) (hb : ∀ {g' : Nat} {cs : Array Value} {t : TypeId}, g' ≠ gT → Box w g' cs t → Box w' g' cs t)
    (ho : OwnE thK w' B (.slice (some ⟨gT, 0, none⟩) n cap) ts) (hts : ∀ x ∈ ts, x ∈ L.ts ∨ (Own w B (slV x.b) x.T.b ∧ Own w B (slV x.t) x.T.tl)) (hap : ApartM { L with ts := ts }) : MoI B g w' { L with ts := ts } := by
  have ho0 := h.own.oT
  rw [hq] at ho0
  have hne : g ≠ gT := fun e => by
    have := ho0.apart h.bo (by decide)
    simp [Value.ownBlock] at this
    exact this e.symm
  have key : ∀ {t : TypeId} {kk m : Nat} {v : Value} {us : List Value}, w.ownsRow B t kk v m us → t ≠ 45 → w'.ownsRow B t kk v m us := fun h1 h2 => hk h1 (own_k (g := gT) ho0 h1 h2 rfl)
  refine ⟨hb hne h.bo, h.hB, ⟨key h.own.oR (by decide), key h.own.oP (by decide), ?_, key h.own.oH (by decide), fun y hy => key (h.own.iR y hy) (by decide), fun y hy => ?_, fun y hy => ?_⟩, hap⟩
  · show OwnE thK _ B (slV L.qT) ts
    rw [hq]
    exact ho
  · obtain ⟨a, b, c⟩ := h.own.iP y hy
    exact ⟨fun i hi => key (a i hi) (by decide), key b (by decide), key c (by decide)⟩
  · rcases hts y hy with hy | ⟨a, b⟩
    · obtain ⟨a, b⟩ := h.own.iT y hy
      exact ⟨key a (by decide), key b (by decide)⟩
    · exact ⟨key a (by decide), key b (by decide)⟩

/-- A thread, stored whole. -/
theorem MoI.setTA {B g : Nat} {w : World} {L : Lay} (h : MoI B g w L) {i gT n cap : Nat} (hq : L.qT = (some ⟨gT, 0, none⟩, n, cap)) (hi : i < L.ts.length) (x : LT) (hb : Own w B (slV x.b) x.T.b) (ht : Own w B (slV x.t) x.T.tl) (hap : ApartM { L with ts := L.ts.set i x }) :
    MoI B g (setsW gT (i * 12) w 0 x.cells) { L with ts := L.ts.set i x } := by
  have ho := h.own.oT
  rw [hq] at ho
  refine h.chT hq (fun h1 h2 => setsW_own _ _ _ h1 h2) (fun hne hb => setsW_box hne _ _ _ hb) (ho.putS hi (Nat.le_refl _) ?_) (fun y hy => ?_) hap
  · show x.cells = x.cells ++ List.drop 12 (thK.f (L.ts.getD i thK.d))
    rw [List.drop_of_length_le (by rw [thK.len]; exact Nat.le_refl 12), List.append_nil]
  · rcases List.mem_or_eq_of_mem_set hy with hy | rfl
    · exact .inl hy
    · exact .inr ⟨hb, ht⟩

/-! A replica's state. -/
/-! The history. -/
theorem MoI.setH {B g : Nat} {w w' : World} {L : Lay} {q' : Sl} {Es : List Ev} (h : MoI B g w L) (ho : OwnE evK w' B (slV q') Es) (hg : w.grownBy w' (slV L.qH).ownBlock) : MoI B g (w'.setCell ⟨g, 8, none⟩ (slV q')) { L with qH := q', es := Es } := by
  have hrow := h.own.oH.rowT
  have hb := h.bo.grown hg (h.own.oH.apart h.bo (by decide))
  have o := h.own
  refine ⟨?_, h.hB, ⟨?_, ?_, ?_, ?_, fun y hy => ?_, fun y hy => ?_, fun y hy => ?_⟩, ⟨h.ap.s, h.ap.n⟩⟩
  · have := hb.set 8 (slV q'); exact this
  · exact row_kept hg hrow hb o.oR (by decide) (by decide)
  · exact row_kept hg hrow hb o.oP (by decide) (by decide)
  · exact row_kept hg hrow hb o.oT (by decide) (by decide)
  · exact ho.set (ho.apart hb (by decide))
  · exact row_kept hg hrow hb (o.iR y hy) (by decide) (by decide)
  · exact ⟨fun i hi => row_kept hg hrow hb ((o.iP y hy).1 i hi) (by decide) (by decide), row_kept hg hrow hb (o.iP y hy).2.1 (by decide) (by decide), row_kept hg hrow hb (o.iP y hy).2.2 (by decide) (by decide)⟩
  · exact ⟨row_kept hg hrow hb (o.iT y hy).1 (by decide) (by decide), row_kept hg hrow hb (o.iT y hy).2 (by decide) (by decide)⟩

/-! What a function hands back. -/
/-- The value v is the call's own machine M, its rows in blocks of their own. -/
def OwnA (w : World) (base : Nat) (v : Value) (M : Mc) : Prop := ∃ L : Lay, v = L.v ∧ L.M = M ∧ OwnsM w base L ∧ ApartM L
theorem OwnA.le {w w' : World} {base : Nat} {v : Value} {M : Mc} (h : OwnA w base v M) (hl : Le w w') : OwnA w' base v M := by obtain ⟨L, hv, hm, h, a⟩ := h; exact ⟨L, hv, hm, h.le hl, a⟩
theorem OwnA.base {w : World} {base base' : Nat} {v : Value} {M : Mc} (h : OwnA w base v M) (hb : base' ≤ base) : OwnA w base' v M := by obtain ⟨L, hv, hm, h, a⟩ := h; exact ⟨L, hv, hm, h.base hb, a⟩
theorem OwnA.own {w : World} {base : Nat} {v : Value} {M : Mc} (h : OwnA w base v M) : OwnM w base v M := by obtain ⟨L, hv, hm, h, _⟩ := h; exact ⟨L, hv, hm.symm, h⟩
theorem OwnA.has {w : World} {base : Nat} {v : Value} {M : Mc} (h : OwnA w base v M) : HasM w v M := h.own.has
def Lay.zero : Lay := ⟨Cfg.zero, slZ, slZ, slZ, slZ, [], [], [], []⟩
theorem apart_zero : ApartM Lay.zero := by
  refine ⟨fun i j _ b e _ => ?_, fun p r _ _ n1 _ b _ _ => ?_⟩
  · simp [Lay.slots, Lay.zero, ringK, Value.ownBlock] at e
  · cases p with
    | rep i j =>
      match j, n1 with
      | 0, n1 => simp [Lay.at, Lay.zero, repK, LP.row] at n1
      | 1, n1 => simp [Lay.at, Lay.zero, repK, LP.row] at n1
      | 2, n1 => simp [Lay.at, Lay.zero, repK, LP.row] at n1
      | 3, n1 => simp [Lay.at, Lay.zero, repK, LP.row] at n1
      | 4, n1 => simp [Lay.at, Lay.zero, repK, LP.row] at n1
      | 5, n1 => simp [Lay.at, Lay.zero, repK, LP.row] at n1
      | _ + 6, n1 => simp [Lay.at, LP.row] at n1
    | th i j =>
      match j, n1 with
      | 0, n1 => simp [Lay.at, Lay.zero, thK, LT.row] at n1
      | 1, n1 => simp [Lay.at, Lay.zero, thK, LT.row] at n1
      | _ + 2, n1 => simp [Lay.at, LT.row] at n1
theorem OwnA.zero (w : World) (base : Nat) : OwnA w base machZ Mc.zero :=
  ⟨Lay.zero, rfl, rfl, ⟨OwnE.nil _ _ _, OwnE.nil _ _ _, OwnE.nil _ _ _, OwnE.nil _ _ _, (fun x h => by cases h), (fun x h => by cases h), (fun x h => by cases h)⟩, apart_zero⟩
theorem OwnA.open {w : World} {base : Nat} {v : Value} {M : Mc} (h : OwnA w base v M) : ∃ qR qP qT qH, v = machV M.c qR qP qT qH := by
  obtain ⟨L, rfl, rfl, _⟩ := h; exact ⟨_, _, _, _, rfl⟩

/-- .. out of a variable, into the result. -/
theorem MoI.ret {B g gr : Nat} {w : World} {L : Lay} {cs : Array Value} (h : MoI B g w L) (hr : Box w gr cs 29) : OwnA (put9 w gr L.c L.qR L.qP L.qT L.qH) B (machV L.c L.qR L.qP L.qT L.qH) L.M :=
  ⟨L, rfl, rfl, h.own.put9 hr _ _ _ _ _, h.ap⟩

end Go.Proofs.YtnemldboiogdkaaGreat

/-
  PLAIN GROUND, NO WALK: stores one behind the other into the call's own machine, and what a laid machine is then. No condition.
-/
namespace Go.Proofs.YtnemldboiogdkaaGreat
open Go.RowKit

theorem getD_same {α : Type} (xs : List α) (i : Nat) (x d : α) (hi : i < xs.length) : (xs.set i x).getD i d = x := by rw [getD_set _ _ _ _ _ hi, if_pos rfl]
theorem lay_ts {L : Lay} {M : Mc} (h : L.M = M) : L.ts.length = M.ts.length := by subst h; simp [Lay.M]
theorem lay_ps {L : Lay} {M : Mc} (h : L.M = M) : L.ps.length = M.ps.length := by subst h; simp [Lay.M]
theorem lay_es {L : Lay} {M : Mc} (h : L.M = M) : L.es = M.es := by subst h; rfl
theorem lay_th {L : Lay} {M : Mc} (h : L.M = M) {t : Nat} (hi : t < L.ts.length) : (L.ts.getD t thK.d).T = M.th t := by subst h; rw [Mc.th, Int.toNat_natCast, L.M_getT hi]
theorem lay_rp {L : Lay} {M : Mc} (h : L.M = M) {t : Nat} (hi : t < L.ps.length) : (L.ps.getD t repK.d).P = M.rp t := by subst h; rw [Mc.rp, Int.toNat_natCast, L.M_getP hi]
theorem lay_setT {L : Lay} {M : Mc} (h : L.M = M) (t : Nat) (x : LT) : ({ L with ts := L.ts.set t x } : Lay).M = M.putT t x.T := by subst h; rw [Lay.M_setT, Mc.putT, Int.toNat_natCast]
theorem lay_setP {L : Lay} {M : Mc} (h : L.M = M) (t : Nat) (x : LP) : ({ L with ps := L.ps.set t x } : Lay).M = M.putP t x.P := by subst h; rw [Lay.M_setP, Mc.putP, Int.toNat_natCast]
theorem lay_setH {L : Lay} {M : Mc} (h : L.M = M) (q : Sl) (Es : List Ev) : ({ L with qH := q, es := Es } : Lay).M = { M with es := Es } := by subst h; rfl

theorem repB_cases {c : Cfg} {Rs : List Rg} {P : Rp} (h : repB c Rs P = true) : objMay c.o P.s = true ∧ (P.cs.length : Int) = c.l ∧ cursOK Rs P.cs = true ∧ (P.ls.length : Int) = c.l ∧ ∀ x ∈ P.ls, 0 ≤ x ∧ x ≤ c.t := by
  unfold repB at h
  simp only [Bool.and_eq_true, decide_eq_true_eq, List.all_eq_true] at h
  exact ⟨h.1, h.2.1, h.2.2.1, h.2.2.2.1, fun x hx => inB_cases (h.2.2.2.2 x hx)⟩
theorem thB_cases {c : Cfg} {T : Th} (h : thB c T = true) : (0 ≤ T.st ∧ T.st ≤ 19) ∧ opMay T.c T.r T.a = true ∧ (0 ≤ T.lg ∧ T.lg ≤ c.l - 1) ∧ (0 ≤ T.sn ∧ T.sn ≤ 1048576) ∧ (T.b.length : Int) ≤ c.t ∧ (∀ x ∈ T.b, 0 ≤ x ∧ x ≤ c.t - 1) ∧ (0 ≤ T.pl ∧ T.pl ≤ T.b.length) ∧ (T.tl.length : Int) ≤ c.l ∧ ∀ x ∈ T.tl, 0 ≤ x ∧ x ≤ 1048576 := by
  unfold thB at h
  simp only [Bool.and_eq_true, decide_eq_true_eq, List.all_eq_true] at h
  exact ⟨inB_cases h.1, h.2.1, inB_cases h.2.2.1, inB_cases h.2.2.2.1, h.2.2.2.2.1.1, fun x hx => inB_cases (h.2.2.2.2.1.2 x hx), inB_cases h.2.2.2.2.2.1, h.2.2.2.2.2.2.1, fun x hx => inB_cases (h.2.2.2.2.2.2.2 x hx)⟩
/-- A number of a row that is held. -/
theorem Has.at {w : World} {q : Sl} {xs : List Int} (h : Has w (slV q) xs) {g : Nat} (hg : g < xs.length) : ∃ b off n c, q = (some ⟨b, off, none⟩, n, c) ∧ (g : Int) < (n : Int) ∧ w.cell? ⟨b, off + g, none⟩ = some (.int .i64 (xs.getD g 0)) := by
  obtain ⟨a, c, hv, _, _, hx⟩ := h
  obtain ⟨b, off, rfl, hcell⟩ := hx (by omega)
  obtain ⟨q0, q1, q2⟩ := q
  simp only [slV, Value.slice.injEq] at hv
  obtain ⟨rfl, hn, rfl⟩ := hv
  exact ⟨b, off, q1, q2, rfl, by omega, hcell g hg⟩
/-- A machine that may be: where its parts lie. -/
theorem HasM.opens {w : World} {v : Value} {M : Mc} (h : HasM w v M) (hm : mayM M = true) : ∃ bR oR cR bP oP cP bT oT cT qH, v = machV M.c (some ⟨bR, oR, none⟩, M.rs.length, cR) (some ⟨bP, oP, none⟩, M.ps.length, cP) (some ⟨bT, oT, none⟩, M.ts.length, cT) qH ∧
    (∀ i, i < M.rs.length → ∃ q, RingAt w bR (oR + i * 4) (M.rs.getD i Rg.zero) q ∧ HasL w (slV q) (M.rs.getD i Rg.zero).ss) ∧
    (∀ i, i < M.ps.length → ∃ vs c l, RepAt w bP (oP + i * 6) vs c l ∧ (∀ j, j < 4 → Has w (slV (vs j)) ((M.ps.getD i Rp.zero).s.at j)) ∧ Has w (slV c) (M.ps.getD i Rp.zero).cs ∧ Has w (slV l) (M.ps.getD i Rp.zero).ls) ∧
    (∀ i, i < M.ts.length → ∃ q t, ThAt w bT (oT + i * 12) (M.ts.getD i Th.zero) q t ∧ Has w (slV q) (M.ts.getD i Th.zero).b ∧ Has w (slV t) (M.ts.getD i Th.zero).tl) ∧ HasE evK w (slV qH) M.es := by
  obtain ⟨_, ⟨r0, r1⟩, ⟨l0, l1⟩, ⟨t0, t1⟩, _, _⟩ := Cfg.ok_cases (mayM_ok hm)
  obtain ⟨hrs, hps, hts, _⟩ := mayM_lens hm
  obtain ⟨⟨ra, rn, rc⟩, ⟨pa, pn, pc⟩, ⟨ta, tn, tc⟩, qH, rfl, hR, hP, hT, hH⟩ := h
  obtain ⟨_, _, hv, _, _, oR⟩ := hR.open
  simp only [slV, Value.slice.injEq] at hv
  obtain ⟨rfl, rfl, rfl⟩ := hv
  obtain ⟨_, _, hv, _, _, oP⟩ := hP.open
  simp only [slV, Value.slice.injEq] at hv
  obtain ⟨rfl, rfl, rfl⟩ := hv
  obtain ⟨_, _, hv, _, _, oT⟩ := hT.open
  simp only [slV, Value.slice.injEq] at hv
  obtain ⟨rfl, rfl, rfl⟩ := hv
  obtain ⟨bR, o1, rfl, h1⟩ := oR (by omega)
  obtain ⟨bP, o2, rfl, h2⟩ := oP (by omega)
  obtain ⟨bT, o3, rfl, h3⟩ := oT (by omega)
  exact ⟨_, _, _, _, _, _, _, _, _, qH, rfl, h1, h2, h3, hH⟩

/-- A store of a number or a Bool into a thread. -/
theorem MoI.setTx {B g : Nat} {w : World} {L : Lay} (h : MoI B g w L) {i j gT n cap : Nat} {u : Value} (hq : L.qT = (some ⟨gT, 0, none⟩, n, cap)) (hi : i < L.ts.length) (hj : j < 12) (x0 : LT) (hx0 : L.ts.getD i thK.d = x0) (T : Th)
    (hx : (⟨T, x0.b, x0.t⟩ : LT).cells = x0.cells.set j u) (hb : T.b = x0.T.b) (ht : T.tl = x0.T.tl) : MoI B g (w.setCell ⟨gT, i * 12 + j, none⟩ u) { L with ts := L.ts.set i ⟨T, x0.b, x0.t⟩ } := by
  subst hx0
  exact h.setTs hq hi hj T hx hb ht
/-- .. a second one, a third one. -/
theorem MoI.setTy {B g : Nat} {w : World} {L : Lay} {i j gT n cap : Nat} {x0 : LT} (h : MoI B g w { L with ts := L.ts.set i x0 }) {u : Value} (hq : L.qT = (some ⟨gT, 0, none⟩, n, cap)) (hi : i < L.ts.length) (hj : j < 12) (T : Th)
    (hx : (⟨T, x0.b, x0.t⟩ : LT).cells = x0.cells.set j u) (hb : T.b = x0.T.b) (ht : T.tl = x0.T.tl) : MoI B g (w.setCell ⟨gT, i * 12 + j, none⟩ u) { L with ts := L.ts.set i ⟨T, x0.b, x0.t⟩ } := by
  have := MoI.setTx h (i := i) hq (by simpa using hi) hj x0 (getD_same _ _ _ _ hi) T hx hb ht
  simp only [List.set_set] at this
  exact this
/-- Another batch: of the call's own, in a newer block or empty. -/
theorem MoI.setTb {B g m : Nat} {w : World} {L : Lay} (h : MoI B g w L) {i gT n cap : Nat} (hq : L.qT = (some ⟨gT, 0, none⟩, n, cap)) (hi : i < L.ts.length) (x0 : LT) (hx0 : L.ts.getD i thK.d = x0) (q : Sl) (bs : List Int) (hb : Own w B (slV q) bs)
    (hm : L.Below m) (hn : q.2.1 = 0 ∨ ∀ c, (slV q).ownBlock = some c → m ≤ c) : MoI B g (w.setCell ⟨gT, i * 12 + 6, none⟩ (slV q)) { L with ts := L.ts.set i ⟨{ x0.T with b := bs }, q, x0.t⟩ } := by
  subst hx0
  have o := h.own.iT _ (getD_mem (d := thK.d) hi)
  exact h.setT hq hi (by decide) ⟨_, q, _⟩ rfl hb o.2 (h.ap.setTn hm hi (.inr hn) (.inl rfl) (.inr (.inr (.inr rfl))))
/-- Where a thread lies, where all of them are known. -/
theorem MoI.thAt {B g : Nat} {w : World} {L : Lay} (h : MoI B g w L) {i gT n cap : Nat} (hq : L.qT = (some ⟨gT, 0, none⟩, n, cap)) (hi : i < L.ts.length) : g ≠ gT ∧ gT < w.heap.size ∧ B ≤ gT ∧ ThAt w gT (i * 12) (L.ts.getD i thK.d).T (L.ts.getD i thK.d).b (L.ts.getD i thK.d).t ∧ ∀ j, w.frozen? ⟨gT, j, none⟩ = false := by
  obtain ⟨g', c, hq', _, h1, h2, h3, h4, h5⟩ := h.openT hi
  rw [hq] at hq'
  simp only [Prod.mk.injEq, Option.some.injEq, Addr.mk.injEq, and_true] at hq'
  obtain ⟨rfl, _⟩ := hq'
  exact ⟨h3, h2, h1, h4, h5⟩

/-- Where a replica's lock lies. -/
theorem MoI.openL {B g : Nat} {w : World} {L : Lay} (h : MoI B g w L) {i k : Nat} (hi : i < L.ps.length) (hk : k < (L.ps.getD i repK.d).P.ls.length) : ∃ gl cap, (L.ps.getD i repK.d).l = (some ⟨gl, 0, none⟩, (L.ps.getD i repK.d).P.ls.length, cap) ∧ (L.ps.getD i repK.d).P.ls.length ≤ cap ∧ B ≤ gl ∧ gl < w.heap.size ∧ w.cell? ⟨gl, k, none⟩ = some (.int .i64 ((L.ps.getD i repK.d).P.ls.getD k 0)) ∧ w.frozen? ⟨gl, k, none⟩ = false :=
  own_open (h.own.iP _ (getD_mem (d := repK.d) hi)).2.2 hk
/-- A store into a lock. -/
theorem MoI.setLk {B g : Nat} {w : World} {L : Lay} (h : MoI B g w L) {i k gl n cap : Nat} {v : Int} (hi : i < L.ps.length) (hq : (L.ps.getD i repK.d).l = (some ⟨gl, 0, none⟩, n, cap)) (hk : k < n) :
    MoI B g (w.setCell ⟨gl, k, none⟩ (.int .i64 v)) { L with ps := L.ps.set i ⟨{ (L.ps.getD i repK.d).P with ls := (L.ps.getD i repK.d).P.ls.set k v }, (L.ps.getD i repK.d).vs, (L.ps.getD i repK.d).c, (L.ps.getD i repK.d).l⟩ } :=
  h.setN 5 (.inr rfl) hi hq hk _ rfl rfl rfl
end Go.Proofs.YtnemldboiogdkaaGreat

/-
  THE WALK over the document's stepped: the same machine, a thread's step another one, in memory of the call's own. Condition: that the machine's rows can be copied, and that there is such a thread.
-/
namespace Go.Proofs.YtnemldboiogdkaaGreat
open Go.RowKit

set_option maxRecDepth 8000 in
set_option maxHeartbeats 8000000 in
theorem rmStepped (v : Value) (M : Mc) (t : Nat) (st : Int) (w : World) (hx : HasM w v M) (hf : FitM M) (ht : t < M.ts.length) : Calls Tryz.prog 64 #[v, .int .i64 t, .int .i64 st] w fun e w' => ∃ v', e = .returned v' ∧ OwnA w' w.heap.size v' (stepM M t st) ∧ Le w w' := by
  have m2 := fun w' (l : Le w w') => rmCopy v M w' (hx.le l) hf
  obtain ⟨qR, qP, qT, qH, rfl, _, _, _, _⟩ := hx
  have hr := Box.new (w.alloc (.cells (cells9 M.c qR qP qT qH) 29)) cellsZ9 29
  have hb := (Box.new w (cells9 M.c qR qP qT qH) 29).le (Le.alloc _ (.cells cellsZ9 29))
  have hl := (Le.alloc w (.cells (cells9 M.c qR qP qT qH) 29)).trans (Le.alloc _ (.cells cellsZ9 29))
  rw [World.size_alloc] at hr
  go_enter Tryz.func64, Tryz.ntmps64
  go_upto_region 1 with fail
  generalize hW : (w.alloc (.cells (cells9 M.c qR qP qT qH) 29)).alloc (.cells cellsZ9 29) = W at hl hb hr ⊢
  clear hW
  have hgr := hr.lt
  obtain ⟨⟨z0, z1, z2, z3, z4⟩, z5, z6, z7, z8⟩ := (hb).mach
  go_wp2_with fail
  refine (m2 _ hl).mono ?_
  rintro e w9 ⟨L, rfl, HM, o1, ap, l1⟩
  clear z0 z1 z2 z3 z4 z5 z6 z7 z8
  clear m2
  have hbo := Box.new w9 (cells9 L.c L.qR L.qP L.qT L.qH) 29
  have a1 := Le.alloc w9 (.cells (cells9 L.c L.qR L.qP L.qT L.qH) 29)
  go_upto_region 2 with fail
  generalize hW1 : w9.alloc (.cells (cells9 L.c L.qR L.qP L.qT L.qH) 29) = W1 at hbo a1 ⊢
  clear hW1
  have I : MoI W.heap.size w9.heap.size W1 L := ⟨hbo, l1.size, o1.le a1, ap⟩
  have hgo : W.heap.size ≤ w9.heap.size := l1.size
  generalize w9.heap.size = go at hbo I hgo ⊢
  have l01 := l1.trans a1
  clear hbo o1 ap l1 a1
  obtain ⟨c', uR, uP, uT, uH, xR, xP, xT, xH⟩ := L
  try simp only at I ⊢
  replace hr := hr.le l01
  replace hb := hb.le l01
  have hlB : w.heap.size ≤ W.heap.size := hl.size
  have hiT : t < xT.length := by have := lay_ts HM; simp only at this; omega
  have hiT' : (t : Int) < (xT.length : Int) := by omega
  obtain ⟨gT, capT, hqT, hcapT, hgBT, hgltT, hgneT, hatT, hfzT⟩ := I.openT hiT
  try simp only at hqT hatT hcapT
  subst hqT
  obtain ⟨⟨y0, y1, y2, y3, y4⟩, y5, y6, y7, y8⟩ := (I.bo).mach
  simp only [slV] at y7
  have x0 := hatT.1
  have x1 := hfzT (t * 12)
  go_upto_region 3 with fail
  have I2 := I.setTs (j := 0) (u := .int .i64 st) rfl hiT (by decide) { (xT.getD t thK.d).T with st := st } rfl rfl rfl
  clear y0 y1 y2 y3 y4 y5 y6 y7 y8
  clear x0 x1 hatT hfzT
  have l2 := l01.set (g := gT) (i := t * 12 + 0) (u := .int .i64 st) hgBT
  have hr2 := hr.other (show w.heap.size + 1 ≠ gT by omega) (t * 12 + 0) (.int .i64 st)
  generalize hW2 : W1.setCell ⟨gT, t * 12 + 0, none⟩ (.int .i64 st) = W2 at I2 l2 hr2 ⊢
  clear hW2 hr hb I
  obtain ⟨⟨y0, y1, y2, y3, y4⟩, y5, y6, y7, y8⟩ := (I2.bo).mach
  obtain ⟨⟨r0, r1, r2, r3, r4, r5, r6, r7, r8⟩, k0, k1, k2, k3, k4, k5, k6, k7, k8⟩ := hr2.res
  go_wp2_with fail
  refine bodyPost_ret (v := machV c' uR uP (some ⟨gT, 0, none⟩, xT.length, capT) uH) (by simp [results, Tryz.results64, go_sem, r0, r1, r2, r3, r4, r5, r6, r7, r8]) rfl ⟨_, rfl, ?_, (hl.trans l2).put9 (g := w.heap.size + 1) (by omega) c' uR uP (some ⟨gT, 0, none⟩, xT.length, capT) uH⟩
  have := (I2.ret hr2).base hl.size
  rw [lay_setT HM] at this
  simp only [lay_th HM hiT] at this
  exact this

end Go.Proofs.YtnemldboiogdkaaGreat

/-
  THE WALKS over the document's Post, Try and Free: a thread waits, a lock is taken, a lock is given back. Condition: that the machine's rows can be copied.
-/
namespace Go.Proofs.YtnemldboiogdkaaGreat
open Go.RowKit

set_option maxRecDepth 8000 in
set_option maxHeartbeats 8000000 in
theorem rmPost (v : Value) (M : Mc) (t : Int) (w : World) (hx : HasM w v M) (hf : FitM M) : Calls Tryz.prog 70 #[v, .int .i64 t] w fun e w' => ∃ v', e = .returned (.tuple #[v', .int .i64 (postM M t).2]) ∧ OwnA w' w.heap.size v' (postM M t).1 ∧ Le w w' := by
  have m1 := fun w' (l : Le w w') => rmThere v M 0 0 t w' (hx.le l) hf
  have m2 := fun w' (l : Le w w') => rmCopy v M w' (hx.le l) hf
  obtain ⟨qR, qP, qT, qH, rfl, _, _, _, _⟩ := hx
  cases h1 : thereB M 0 0 t
  · have hP : postM M t = (Mc.zero, 1600) := by unfold postM; rw [h1]; rfl
    rw [hP]
    simp only [h1] at m1
    clear h1
    have hr := Box.new (w.alloc (.cells (cells9 M.c qR qP qT qH) 29)) cellsZ9 29
    have hb := (Box.new w (cells9 M.c qR qP qT qH) 29).le (Le.alloc _ (.cells cellsZ9 29))
    have hl := (Le.alloc w (.cells (cells9 M.c qR qP qT qH) 29)).trans (Le.alloc _ (.cells cellsZ9 29))
    rw [World.size_alloc] at hr
    go_enter Tryz.func70, Tryz.ntmps70
    go_upto_region 1 with fail
    generalize hW : (w.alloc (.cells (cells9 M.c qR qP qT qH) 29)).alloc (.cells cellsZ9 29) = W at hl hb hr ⊢
    clear hW
    have hgr := hr.lt
    obtain ⟨⟨z0, z1, z2, z3, z4⟩, z5, z6, z7, z8⟩ := (hb).mach
    go_wp2_with fail
    refine (m1 _ hl).mono ?_
    rintro e w1 ⟨rfl, l1⟩
    clear z0 z1 z2 z3 z4 z5 z6 z7 z8
    clear m1
    replace hb := hb.le l1
    replace hl := hl.trans l1
    have hgr := Nat.lt_of_lt_of_le hgr l1.size
    replace hr := hr.le l1
    clear l1
    obtain ⟨⟨r0, r1, r2, r3, r4, r5, r6, r7, r8⟩, k0, k1, k2, k3, k4, k5, k6, k7, k8⟩ := hr.res
    go_wp2_with fail
    refine bodyPost_ret (v := .tuple #[machZ, .int .i64 1600]) (by simp [results, Tryz.results70, go_sem, r0, r1, r2, r3, r4, r5, r6, r7, r8]) rfl ⟨_, rfl, OwnA.zero _ _, ?_⟩
    exact hl.put9 (c := Cfg.zero) (by omega) slZ slZ slZ slZ
  · have hP : postM M t = (M.putT t { M.th t with po := true, re := false }, 0) := by unfold postM; rw [h1]; rfl
    rw [hP]
    obtain ⟨hmay, _, _, ⟨t0, t1⟩⟩ := thereB_cases h1
    obtain ⟨_, _, hts, _⟩ := mayM_lens hmay
    obtain ⟨t, rfl⟩ : ∃ n : Nat, t = n := ⟨t.toNat, by omega⟩
    simp only [h1] at m1
    have hti : t < M.ts.length := by omega
    clear h1 hmay t1 hts hP
    have hr := Box.new (w.alloc (.cells (cells9 M.c qR qP qT qH) 29)) cellsZ9 29
    have hb := (Box.new w (cells9 M.c qR qP qT qH) 29).le (Le.alloc _ (.cells cellsZ9 29))
    have hl := (Le.alloc w (.cells (cells9 M.c qR qP qT qH) 29)).trans (Le.alloc _ (.cells cellsZ9 29))
    rw [World.size_alloc] at hr
    go_enter Tryz.func70, Tryz.ntmps70
    go_upto_region 1 with fail
    generalize hW : (w.alloc (.cells (cells9 M.c qR qP qT qH) 29)).alloc (.cells cellsZ9 29) = W at hl hb hr ⊢
    clear hW
    have hgr := hr.lt
    obtain ⟨⟨z0, z1, z2, z3, z4⟩, z5, z6, z7, z8⟩ := (hb).mach
    go_wp2_with fail
    refine (m1 _ hl).mono ?_
    rintro e w1 ⟨rfl, l1⟩
    clear z0 z1 z2 z3 z4 z5 z6 z7 z8
    clear m1
    replace hb := hb.le l1
    replace hl := hl.trans l1
    have hgr := Nat.lt_of_lt_of_le hgr l1.size
    replace hr := hr.le l1
    clear l1
    obtain ⟨⟨z0, z1, z2, z3, z4⟩, z5, z6, z7, z8⟩ := (hb).mach
    go_wp2_with fail
    refine (m2 _ hl).mono ?_
    rintro e w9 ⟨L, rfl, HM, o1, ap, l1⟩
    clear z0 z1 z2 z3 z4 z5 z6 z7 z8
    clear m2
    have hbo := Box.new w9 (cells9 L.c L.qR L.qP L.qT L.qH) 29
    have a1 := Le.alloc w9 (.cells (cells9 L.c L.qR L.qP L.qT L.qH) 29)
    go_upto_region 4 with fail
    generalize hW1 : w9.alloc (.cells (cells9 L.c L.qR L.qP L.qT L.qH) 29) = W1 at hbo a1 ⊢
    clear hW1
    have I : MoI w1.heap.size w9.heap.size W1 L := ⟨hbo, l1.size, o1.le a1, ap⟩
    have hgo : w1.heap.size ≤ w9.heap.size := l1.size
    generalize w9.heap.size = go at hbo I hgo ⊢
    have l01 := l1.trans a1
    clear hbo o1 ap l1 a1
    obtain ⟨c', uR, uP, uT, uH, xR, xP, xT, xH⟩ := L
    try simp only at I ⊢
    replace hr := hr.le l01
    replace hb := hb.le l01
    have hlB : w.heap.size ≤ w1.heap.size := hl.size
    have hiT : t < xT.length := by have := lay_ts HM; simp only at this; omega
    have hiT' : (t : Int) < (xT.length : Int) := by omega
    obtain ⟨gT, capT, hqT, hcapT, hgBT, hgltT, hgneT, hatT, hfzT⟩ := I.openT hiT
    try simp only at hqT hatT hcapT
    subst hqT
    obtain ⟨⟨y0, y1, y2, y3, y4⟩, y5, y6, y7, y8⟩ := (I.bo).mach
    simp only [slV] at y7
    obtain ⟨_, _, _, _, _, _, _, _, x8, x9, _, _⟩ := hatT
    have f8 := hfzT (t * 12 + 8)
    have f9 := hfzT (t * 12 + 9)
    clear hfzT
    obtain ⟨x0, hx0⟩ : ∃ x0, x0 = xT.getD t thK.d := ⟨_, rfl⟩
    have I2 := I.setTx (j := 8) (u := .bool true) rfl hiT (by decide) x0 hx0.symm { x0.T with po := true } rfl rfl rfl
    have I3 := I2.setTy (j := 9) (u := .bool false) rfl hiT (by decide) { x0.T with po := true, re := false } rfl rfl rfl
    have l2 := (l01.set (g := gT) (i := t * 12 + 8) (u := .bool true) hgBT).set (g := gT) (i := t * 12 + 9) (u := .bool false) hgBT
    have hr2 := (hr.other (show w.heap.size + 1 ≠ gT by omega) (t * 12 + 8) (.bool true)).other (show w.heap.size + 1 ≠ gT by omega) (t * 12 + 9) (.bool false)
    go_upto_region 6 with fail
    generalize hW2 : (W1.setCell ⟨gT, t * 12 + 8, none⟩ (.bool true)).setCell ⟨gT, t * 12 + 9, none⟩ (.bool false) = W2 at I3 l2 hr2 ⊢
    clear y0 y1 y2 y3 y4 y5 y6 y7 y8
    clear hW2 hr hb I I2 x8 x9 f8 f9
    obtain ⟨⟨y0, y1, y2, y3, y4⟩, y5, y6, y7, y8⟩ := (I3.bo).mach
    obtain ⟨⟨r0, r1, r2, r3, r4, r5, r6, r7, r8⟩, k0, k1, k2, k3, k4, k5, k6, k7, k8⟩ := hr2.res
    go_wp2_with fail
    refine bodyPost_ret (v := .tuple #[machV c' uR uP (some ⟨gT, 0, none⟩, xT.length, capT) uH, .int .i64 0]) (by simp [results, Tryz.results70, go_sem, r0, r1, r2, r3, r4, r5, r6, r7, r8]) rfl ⟨_, rfl, ?_, (hl.trans l2).put9 (g := w.heap.size + 1) (by omega) c' uR uP (some ⟨gT, 0, none⟩, xT.length, capT) uH⟩
    have := (I3.ret hr2).base hlB
    rw [lay_setT HM] at this
    simp only [hx0, lay_th HM hiT] at this
    exact this

set_option maxRecDepth 8000 in
set_option maxHeartbeats 8000000 in
theorem rmTry (v : Value) (M : Mc) (r g t : Int) (w : World) (hx : HasM w v M) (hf : FitM M) : Calls Tryz.prog 65 #[v, .int .i64 r, .int .i64 g, .int .i64 t] w fun e w' => ∃ v', e = .returned (.tuple #[v', .bool (tryM M r g t).2.1, .int .i64 (tryM M r g t).2.2]) ∧ OwnA w' w.heap.size v' (tryM M r g t).1 ∧ Le w w' := by
  have m1 := fun w' (l : Le w w') => rmThere v M r g t w' (hx.le l) hf
  have m2 := fun w' (l : Le w w') => rmCopy v M w' (hx.le l) hf
  cases h1 : thereB M r g t
  · have hP : tryM M r g t = (Mc.zero, false, 1500) := by unfold tryM; rw [h1]; rfl
    rw [hP]
    simp only [h1] at m1
    clear h1
    obtain ⟨qR, qP, qT, qH, rfl, _, _, _, _⟩ := hx
    have hr := Box.new (w.alloc (.cells (cells9 M.c qR qP qT qH) 29)) cellsZ9 29
    have hb := (Box.new w (cells9 M.c qR qP qT qH) 29).le (Le.alloc _ (.cells cellsZ9 29))
    have hl := (Le.alloc w (.cells (cells9 M.c qR qP qT qH) 29)).trans (Le.alloc _ (.cells cellsZ9 29))
    rw [World.size_alloc] at hr
    go_enter Tryz.func65, Tryz.ntmps65
    go_upto_region 1 with fail
    generalize hW : (w.alloc (.cells (cells9 M.c qR qP qT qH) 29)).alloc (.cells cellsZ9 29) = W at hl hb hr ⊢
    clear hW
    have hgr := hr.lt
    obtain ⟨⟨z0, z1, z2, z3, z4⟩, z5, z6, z7, z8⟩ := (hb).mach
    go_wp2_with fail
    refine (m1 _ hl).mono ?_
    rintro e w1 ⟨rfl, l1⟩
    clear z0 z1 z2 z3 z4 z5 z6 z7 z8
    clear m1
    replace hb := hb.le l1
    replace hl := hl.trans l1
    have hgr := Nat.lt_of_lt_of_le hgr l1.size
    replace hr := hr.le l1
    clear l1
    obtain ⟨⟨r0, r1, r2, r3, r4, r5, r6, r7, r8⟩, k0, k1, k2, k3, k4, k5, k6, k7, k8⟩ := hr.res
    go_wp2_with fail
    refine bodyPost_ret (v := .tuple #[machZ, .bool false, .int .i64 1500]) (by simp [results, Tryz.results65, go_sem, r0, r1, r2, r3, r4, r5, r6, r7, r8]) rfl ⟨_, rfl, OwnA.zero _ _, ?_⟩
    exact hl.put9 (c := Cfg.zero) (by omega) slZ slZ slZ slZ
  · obtain ⟨hmay, ⟨ra, rb⟩, ⟨g0, g1⟩, ⟨t0, t1⟩⟩ := thereB_cases h1
    obtain ⟨hrs, hps, hts, _⟩ := mayM_lens hmay
    obtain ⟨_, ⟨_, r3⟩, ⟨_, l3⟩, ⟨_, t3⟩, _, _⟩ := Cfg.ok_cases (mayM_ok hmay)
    obtain ⟨r, rfl⟩ : ∃ n : Nat, r = n := ⟨r.toNat, by omega⟩
    obtain ⟨g, rfl⟩ : ∃ n : Nat, g = n := ⟨g.toNat, by omega⟩
    obtain ⟨t, rfl⟩ : ∃ n : Nat, t = n := ⟨t.toNat, by omega⟩
    have hpi : r < M.ps.length := by omega
    obtain ⟨_, _, _, hll, _⟩ := repB_cases (mayM_ps hmay _ (getD_mem (d := Rp.zero) hpi))
    have hT : tryM M r g t = if (M.rp r).lock g = 0 then (M.putP r ((M.rp r).setLock g ((t : Int) + 1)), true, 0) else (M, false, 0) := by unfold tryM; rw [h1]; rfl
    simp only [h1] at m1
    have hgl : g < (M.ps.getD r Rp.zero).ls.length := by omega
    have ht4 : (t : Int) < 4 := by omega
    have hlk : (M.rp r).lock g = (M.ps.getD r Rp.zero).ls.getD g 0 := by rw [Rp.lock, Mc.rp, Int.toNat_natCast, Int.toNat_natCast]
    rw [hlk] at hT
    obtain ⟨x, hxx⟩ : ∃ x, x = (M.ps.getD r Rp.zero).ls.getD g 0 := ⟨_, rfl⟩
    rw [← hxx] at hT
    obtain ⟨bR, oR, cR, bP, oP, cP, bT, oT, cT, qH, rfl, _, hcP, _, _⟩ := hx.opens hmay
    obtain ⟨vs, qc, ql, hatp, _, _, hlx⟩ := hcP r hpi
    obtain ⟨bL, offL, nL, cL, rfl, hgn, xL⟩ := hlx.at hgl
    rw [← hxx] at xL
    have hpi' : (r : Int) < (M.ps.length : Int) := by omega
    have hgl2 : g < (M.rp r).ls.length := by rw [Mc.rp, Int.toNat_natCast]; exact hgl
    clear hlx hlk h1 hcP hxx hll hmay hrs hps hts hgl
    by_cases hx0 : x = 0
    · rw [hT, if_pos hx0]
      have hxb : (x != 0) = false := by simp [hx0]
      clear hT
      have hr := Box.new (w.alloc (.cells (cells9 M.c (some ⟨bR, oR, none⟩, M.rs.length, cR) (some ⟨bP, oP, none⟩, M.ps.length, cP) (some ⟨bT, oT, none⟩, M.ts.length, cT) qH) 29)) cellsZ9 29
      have hb := (Box.new w (cells9 M.c (some ⟨bR, oR, none⟩, M.rs.length, cR) (some ⟨bP, oP, none⟩, M.ps.length, cP) (some ⟨bT, oT, none⟩, M.ts.length, cT) qH) 29).le (Le.alloc _ (.cells cellsZ9 29))
      have hl := (Le.alloc w (.cells (cells9 M.c (some ⟨bR, oR, none⟩, M.rs.length, cR) (some ⟨bP, oP, none⟩, M.ps.length, cP) (some ⟨bT, oT, none⟩, M.ts.length, cT) qH) 29)).trans (Le.alloc _ (.cells cellsZ9 29))
      rw [World.size_alloc] at hr
      go_enter Tryz.func65, Tryz.ntmps65
      go_upto_region 1 with fail
      generalize hW : (w.alloc (.cells (cells9 M.c (some ⟨bR, oR, none⟩, M.rs.length, cR) (some ⟨bP, oP, none⟩, M.ps.length, cP) (some ⟨bT, oT, none⟩, M.ts.length, cT) qH) 29)).alloc (.cells cellsZ9 29) = W at hl hb hr ⊢
      clear hW
      have hgr := hr.lt
      obtain ⟨⟨z0, z1, z2, z3, z4⟩, z5, z6, z7, z8⟩ := (hb).mach
      go_wp2_with fail
      refine (m1 _ hl).mono ?_
      rintro e w1 ⟨rfl, l1⟩
      clear z0 z1 z2 z3 z4 z5 z6 z7 z8
      clear m1
      replace hb := hb.le l1
      replace hl := hl.trans l1
      have hgr := Nat.lt_of_lt_of_le hgr l1.size
      replace hr := hr.le l1
      clear l1
      obtain ⟨⟨z0, z1, z2, z3, z4⟩, z5, z6, z7, z8⟩ := (hb).mach
      go_wp2_with fail
      refine (m2 _ hl).mono ?_
      rintro e w9 ⟨L, rfl, HM, o1, ap, l1⟩
      clear z0 z1 z2 z3 z4 z5 z6 z7 z8
      clear m2
      have hbo := Box.new w9 (cells9 L.c L.qR L.qP L.qT L.qH) 29
      have a1 := Le.alloc w9 (.cells (cells9 L.c L.qR L.qP L.qT L.qH) 29)
      go_upto_region 4 with fail
      generalize hW1 : w9.alloc (.cells (cells9 L.c L.qR L.qP L.qT L.qH) 29) = W1 at hbo a1 ⊢
      clear hW1
      have I : MoI w1.heap.size w9.heap.size W1 L := ⟨hbo, l1.size, o1.le a1, ap⟩
      have hgo : w1.heap.size ≤ w9.heap.size := l1.size
      generalize w9.heap.size = go at hbo I hgo ⊢
      have l01 := l1.trans a1
      clear hbo o1 ap l1 a1
      obtain ⟨c', uR, uP, uT, uH, xR, xP, xT, xH⟩ := L
      try simp only at I ⊢
      replace hr := hr.le l01
      replace hb := hb.le l01
      have hlB : w.heap.size ≤ w1.heap.size := hl.size
      have hiP : r < xP.length := by have := lay_ps HM; simp only at this; omega
      have hiP' : (r : Int) < (xP.length : Int) := by omega
      obtain ⟨gP, capP, hqP, hcapP, hgBP, hgltP, hgneP, hatP, hfzP⟩ := I.openP hiP
      try simp only at hqP hatP hcapP
      subst hqP
      have hgl3 : g < (xP.getD r repK.d).P.ls.length := by have := lay_rp HM hiP; simp only at this; rw [this]; exact hgl2
      obtain ⟨gl, cl, hql, _, hglB, hgll, xl, fl⟩ := I.openL (k := g) hiP hgl3
      try simp only at hql xl
      have I2 := I.setLk (v := (t : Int) + 1) hiP hql hgl3
      try simp only at I2
      obtain ⟨_, _, _, _, _, q5⟩ := hatP
      obtain ⟨x0, hx0'⟩ : ∃ x0, x0 = xP.getD r repK.d := ⟨_, rfl⟩
      have HX0 : Hid (x0 = xP.getD r repK.d) := hx0'
      rw [← hx0'] at I2 hql xl q5 hgl3
      rw [hql] at q5
      obtain ⟨nl, hnl⟩ : ∃ n, n = x0.P.ls.length := ⟨_, rfl⟩
      rw [← hnl] at q5 hgl3
      have hgl4 : (g : Int) < (nl : Int) := by omega
      clear hx0' hnl hql hgl3
      have xL' := cell_le (cell_le xL hl) l01
      obtain ⟨p0, p1, p2, p3, p4, p5⟩ := (hatp.le hl).le l01
      obtain ⟨⟨z0, z1, z2, z3, z4⟩, z5, z6, z7, z8⟩ := (hb).mach
      obtain ⟨⟨y0, y1, y2, y3, y4⟩, y5, y6, y7, y8⟩ := (I.bo).mach
      simp only [slV] at z6 p5 y6 q5
      have l2 := l01.set (g := gl) (i := g) (u := .int .i64 ((t : Int) + 1)) hglB
      have hr2 := hr.other (show w.heap.size + 1 ≠ gl by omega) g (.int .i64 ((t : Int) + 1))
      go_upto_region 7 with fail
      generalize hW2 : W1.setCell ⟨gl, g, none⟩ (.int .i64 ((t : Int) + 1)) = W2 at I2 l2 hr2 ⊢
      clear y0 y1 y2 y3 y4 y5 y6 y7 y8 z0 z1 z2 z3 z4 z5 z6 z7 z8
      clear hW2 hr hb I p0 p1 p2 p3 p4 p5 xL xL' xl q5 fl
      obtain ⟨⟨y0, y1, y2, y3, y4⟩, y5, y6, y7, y8⟩ := (I2.bo).mach
      obtain ⟨⟨r0, r1, r2, r3, r4, r5, r6, r7, r8⟩, k0, k1, k2, k3, k4, k5, k6, k7, k8⟩ := hr2.res
      go_wp2_with fail
      refine bodyPost_ret (v := .tuple #[machV c' uR (some ⟨gP, 0, none⟩, xP.length, capP) uT uH, .bool true, .int .i64 0]) (by simp [results, Tryz.results65, go_sem, r0, r1, r2, r3, r4, r5, r6, r7, r8]) rfl ⟨_, rfl, ?_, (hl.trans l2).put9 (g := w.heap.size + 1) (by omega) c' uR (some ⟨gP, 0, none⟩, xP.length, capP) uT uH⟩
      have := (I2.ret hr2).base hlB
      rw [lay_setP HM] at this
      simp only [HX0.out, lay_rp HM hiP] at this
      rw [Rp.setLock, Int.toNat_natCast]
      exact this
    · rw [hT, if_neg hx0]
      have hxb : (x != 0) = true := by simp [hx0]
      have hr := Box.new (w.alloc (.cells (cells9 M.c (some ⟨bR, oR, none⟩, M.rs.length, cR) (some ⟨bP, oP, none⟩, M.ps.length, cP) (some ⟨bT, oT, none⟩, M.ts.length, cT) qH) 29)) cellsZ9 29
      have hb := (Box.new w (cells9 M.c (some ⟨bR, oR, none⟩, M.rs.length, cR) (some ⟨bP, oP, none⟩, M.ps.length, cP) (some ⟨bT, oT, none⟩, M.ts.length, cT) qH) 29).le (Le.alloc _ (.cells cellsZ9 29))
      have hl := (Le.alloc w (.cells (cells9 M.c (some ⟨bR, oR, none⟩, M.rs.length, cR) (some ⟨bP, oP, none⟩, M.ps.length, cP) (some ⟨bT, oT, none⟩, M.ts.length, cT) qH) 29)).trans (Le.alloc _ (.cells cellsZ9 29))
      rw [World.size_alloc] at hr
      go_enter Tryz.func65, Tryz.ntmps65
      go_upto_region 1 with fail
      generalize hW : (w.alloc (.cells (cells9 M.c (some ⟨bR, oR, none⟩, M.rs.length, cR) (some ⟨bP, oP, none⟩, M.ps.length, cP) (some ⟨bT, oT, none⟩, M.ts.length, cT) qH) 29)).alloc (.cells cellsZ9 29) = W at hl hb hr ⊢
      clear hW
      have hgr := hr.lt
      obtain ⟨⟨z0, z1, z2, z3, z4⟩, z5, z6, z7, z8⟩ := (hb).mach
      go_wp2_with fail
      refine (m1 _ hl).mono ?_
      rintro e w1 ⟨rfl, l1⟩
      clear z0 z1 z2 z3 z4 z5 z6 z7 z8
      clear m1
      replace hb := hb.le l1
      replace hl := hl.trans l1
      have hgr := Nat.lt_of_lt_of_le hgr l1.size
      replace hr := hr.le l1
      clear l1
      obtain ⟨⟨z0, z1, z2, z3, z4⟩, z5, z6, z7, z8⟩ := (hb).mach
      go_wp2_with fail
      refine (m2 _ hl).mono ?_
      rintro e w9 ⟨L, rfl, HM, o1, ap, l1⟩
      clear z0 z1 z2 z3 z4 z5 z6 z7 z8
      clear m2
      have hbo := Box.new w9 (cells9 L.c L.qR L.qP L.qT L.qH) 29
      have a1 := Le.alloc w9 (.cells (cells9 L.c L.qR L.qP L.qT L.qH) 29)
      go_upto_region 4 with fail
      generalize hW1 : w9.alloc (.cells (cells9 L.c L.qR L.qP L.qT L.qH) 29) = W1 at hbo a1 ⊢
      clear hW1
      have I : MoI w1.heap.size w9.heap.size W1 L := ⟨hbo, l1.size, o1.le a1, ap⟩
      have hgo : w1.heap.size ≤ w9.heap.size := l1.size
      generalize w9.heap.size = go at hbo I hgo ⊢
      have l01 := l1.trans a1
      clear hbo o1 ap l1 a1
      obtain ⟨c', uR, uP, uT, uH, xR, xP, xT, xH⟩ := L
      try simp only at I ⊢
      replace hr := hr.le l01
      replace hb := hb.le l01
      have hlB : w.heap.size ≤ w1.heap.size := hl.size
      have xL' := cell_le (cell_le xL hl) l01
      obtain ⟨p0, p1, p2, p3, p4, p5⟩ := (hatp.le hl).le l01
      obtain ⟨⟨z0, z1, z2, z3, z4⟩, z5, z6, z7, z8⟩ := (hb).mach
      obtain ⟨⟨y0, y1, y2, y3, y4⟩, y5, y6, y7, y8⟩ := (I.bo).mach
      obtain ⟨⟨r0, r1, r2, r3, r4, r5, r6, r7, r8⟩, k0, k1, k2, k3, k4, k5, k6, k7, k8⟩ := hr.res
      simp only [slV] at z6 p5
      go_wp2_with fail
      refine bodyPost_ret (v := .tuple #[machV c' uR uP uT uH, .bool false, .int .i64 0]) (by simp [results, Tryz.results65, go_sem, r0, r1, r2, r3, r4, r5, r6, r7, r8]) rfl ⟨_, rfl, ?_, (hl.trans l01).put9 (g := w.heap.size + 1) (by omega) c' uR uP uT uH⟩
      have := (I.ret hr).base hlB
      rw [HM] at this
      exact this

set_option maxRecDepth 8000 in
set_option maxHeartbeats 8000000 in
theorem rmFree (v : Value) (M : Mc) (r g : Int) (w : World) (hx : HasM w v M) (hf : FitM M) : Calls Tryz.prog 67 #[v, .int .i64 r, .int .i64 g] w fun e w' => ∃ v', e = .returned (.tuple #[v', .int .i64 (freeM M r g).2]) ∧ OwnA w' w.heap.size v' (freeM M r g).1 ∧ Le w w' := by
  have m1 := fun w' (l : Le w w') => rmThere v M r g 0 w' (hx.le l) hf
  have m2 := fun w' (l : Le w w') => rmCopy v M w' (hx.le l) hf
  cases h1 : thereB M r g 0
  · have hP : freeM M r g = (Mc.zero, 1500) := by unfold freeM; rw [h1]; rfl
    rw [hP]
    simp only [h1] at m1
    clear h1
    obtain ⟨qR, qP, qT, qH, rfl, _, _, _, _⟩ := hx
    have hr := Box.new (w.alloc (.cells (cells9 M.c qR qP qT qH) 29)) cellsZ9 29
    have hb := (Box.new w (cells9 M.c qR qP qT qH) 29).le (Le.alloc _ (.cells cellsZ9 29))
    have hl := (Le.alloc w (.cells (cells9 M.c qR qP qT qH) 29)).trans (Le.alloc _ (.cells cellsZ9 29))
    rw [World.size_alloc] at hr
    go_enter Tryz.func67, Tryz.ntmps67
    go_upto_region 1 with fail
    generalize hW : (w.alloc (.cells (cells9 M.c qR qP qT qH) 29)).alloc (.cells cellsZ9 29) = W at hl hb hr ⊢
    clear hW
    have hgr := hr.lt
    obtain ⟨⟨z0, z1, z2, z3, z4⟩, z5, z6, z7, z8⟩ := (hb).mach
    go_wp2_with fail
    refine (m1 _ hl).mono ?_
    rintro e w1 ⟨rfl, l1⟩
    clear z0 z1 z2 z3 z4 z5 z6 z7 z8
    clear m1
    replace hb := hb.le l1
    replace hl := hl.trans l1
    have hgr := Nat.lt_of_lt_of_le hgr l1.size
    replace hr := hr.le l1
    clear l1
    obtain ⟨⟨r0, r1, r2, r3, r4, r5, r6, r7, r8⟩, k0, k1, k2, k3, k4, k5, k6, k7, k8⟩ := hr.res
    go_wp2_with fail
    refine bodyPost_ret (v := .tuple #[machZ, .int .i64 1500]) (by simp [results, Tryz.results67, go_sem, r0, r1, r2, r3, r4, r5, r6, r7, r8]) rfl ⟨_, rfl, OwnA.zero _ _, ?_⟩
    exact hl.put9 (c := Cfg.zero) (by omega) slZ slZ slZ slZ
  · obtain ⟨hmay, ⟨ra, rb⟩, ⟨g0, g1⟩, _⟩ := thereB_cases h1
    obtain ⟨hrs, hps, hts, _⟩ := mayM_lens hmay
    obtain ⟨r, rfl⟩ : ∃ n : Nat, r = n := ⟨r.toNat, by omega⟩
    obtain ⟨g, rfl⟩ : ∃ n : Nat, g = n := ⟨g.toNat, by omega⟩
    have hpi : r < M.ps.length := by omega
    obtain ⟨_, _, _, hll, _⟩ := repB_cases (mayM_ps hmay _ (getD_mem (d := Rp.zero) hpi))
    have hT : freeM M r g = (M.putP r ((M.rp r).setLock g 0), 0) := by unfold freeM; rw [h1]; rfl
    rw [hT]
    simp only [h1] at m1
    have hgl2 : g < (M.rp r).ls.length := by rw [Mc.rp, Int.toNat_natCast]; omega
    obtain ⟨qR, qP, qT, qH, rfl, _, _, _, _⟩ := hx
    clear hT h1 hll hmay hrs hps hts
    have hr := Box.new (w.alloc (.cells (cells9 M.c qR qP qT qH) 29)) cellsZ9 29
    have hb := (Box.new w (cells9 M.c qR qP qT qH) 29).le (Le.alloc _ (.cells cellsZ9 29))
    have hl := (Le.alloc w (.cells (cells9 M.c qR qP qT qH) 29)).trans (Le.alloc _ (.cells cellsZ9 29))
    rw [World.size_alloc] at hr
    go_enter Tryz.func67, Tryz.ntmps67
    go_upto_region 1 with fail
    generalize hW : (w.alloc (.cells (cells9 M.c qR qP qT qH) 29)).alloc (.cells cellsZ9 29) = W at hl hb hr ⊢
    clear hW
    have hgr := hr.lt
    obtain ⟨⟨z0, z1, z2, z3, z4⟩, z5, z6, z7, z8⟩ := (hb).mach
    go_wp2_with fail
    refine (m1 _ hl).mono ?_
    rintro e w1 ⟨rfl, l1⟩
    clear z0 z1 z2 z3 z4 z5 z6 z7 z8
    clear m1
    replace hb := hb.le l1
    replace hl := hl.trans l1
    have hgr := Nat.lt_of_lt_of_le hgr l1.size
    replace hr := hr.le l1
    clear l1
    obtain ⟨⟨z0, z1, z2, z3, z4⟩, z5, z6, z7, z8⟩ := (hb).mach
    go_wp2_with fail
    refine (m2 _ hl).mono ?_
    rintro e w9 ⟨L, rfl, HM, o1, ap, l1⟩
    clear z0 z1 z2 z3 z4 z5 z6 z7 z8
    clear m2
    have hbo := Box.new w9 (cells9 L.c L.qR L.qP L.qT L.qH) 29
    have a1 := Le.alloc w9 (.cells (cells9 L.c L.qR L.qP L.qT L.qH) 29)
    go_upto_region 4 with fail
    generalize hW1 : w9.alloc (.cells (cells9 L.c L.qR L.qP L.qT L.qH) 29) = W1 at hbo a1 ⊢
    clear hW1
    have I : MoI w1.heap.size w9.heap.size W1 L := ⟨hbo, l1.size, o1.le a1, ap⟩
    have hgo : w1.heap.size ≤ w9.heap.size := l1.size
    generalize w9.heap.size = go at hbo I hgo ⊢
    have l01 := l1.trans a1
    clear hbo o1 ap l1 a1
    obtain ⟨c', uR, uP, uT, uH, xR, xP, xT, xH⟩ := L
    try simp only at I ⊢
    replace hr := hr.le l01
    replace hb := hb.le l01
    have hlB : w.heap.size ≤ w1.heap.size := hl.size
    have hiP : r < xP.length := by have := lay_ps HM; simp only at this; omega
    have hiP' : (r : Int) < (xP.length : Int) := by omega
    obtain ⟨gP, capP, hqP, hcapP, hgBP, hgltP, hgneP, hatP, hfzP⟩ := I.openP hiP
    try simp only at hqP hatP hcapP
    subst hqP
    have hgl3 : g < (xP.getD r repK.d).P.ls.length := by have := lay_rp HM hiP; simp only at this; rw [this]; exact hgl2
    obtain ⟨gl, cl, hql, _, hglB, hgll, xl, fl⟩ := I.openL (k := g) hiP hgl3
    try simp only at hql xl
    have I2 := I.setLk (v := 0) hiP hql hgl3
    try simp only at I2
    obtain ⟨_, _, _, _, _, q5⟩ := hatP
    obtain ⟨x0, hx0'⟩ : ∃ x0, x0 = xP.getD r repK.d := ⟨_, rfl⟩
    have HX0 : Hid (x0 = xP.getD r repK.d) := hx0'
    rw [← hx0'] at I2 hql xl q5 hgl3
    rw [hql] at q5
    obtain ⟨nl, hnl⟩ : ∃ n, n = x0.P.ls.length := ⟨_, rfl⟩
    rw [← hnl] at q5 hgl3
    have hgl4 : (g : Int) < (nl : Int) := by omega
    clear hx0' hnl hql hgl3
    obtain ⟨⟨y0, y1, y2, y3, y4⟩, y5, y6, y7, y8⟩ := (I.bo).mach
    simp only [slV] at y6 q5
    have l2 := l01.set (g := gl) (i := g) (u := .int .i64 0) hglB
    have hr2 := hr.other (show w.heap.size + 1 ≠ gl by omega) g (.int .i64 0)
    go_upto_region 5 with fail
    generalize hW2 : W1.setCell ⟨gl, g, none⟩ (.int .i64 0) = W2 at I2 l2 hr2 ⊢
    clear y0 y1 y2 y3 y4 y5 y6 y7 y8
    clear hW2 hr hb I xl q5 fl
    obtain ⟨⟨y0, y1, y2, y3, y4⟩, y5, y6, y7, y8⟩ := (I2.bo).mach
    obtain ⟨⟨r0, r1, r2, r3, r4, r5, r6, r7, r8⟩, k0, k1, k2, k3, k4, k5, k6, k7, k8⟩ := hr2.res
    go_wp2_with fail
    refine bodyPost_ret (v := .tuple #[machV c' uR (some ⟨gP, 0, none⟩, xP.length, capP) uT uH, .int .i64 0]) (by simp [results, Tryz.results67, go_sem, r0, r1, r2, r3, r4, r5, r6, r7, r8]) rfl ⟨_, rfl, ?_, (hl.trans l2).put9 (g := w.heap.size + 1) (by omega) c' uR (some ⟨gP, 0, none⟩, xP.length, capP) uT uH⟩
    have := (I2.ret hr2).base hlB
    rw [lay_setP HM] at this
    simp only [HX0.out, lay_rp HM hiP] at this
    rw [Rp.setLock, Int.toNat_natCast]
    exact this

end Go.Proofs.YtnemldboiogdkaaGreat

/-
  THE WALK over the document's Waiting: which threads wait, in the row of threads. Condition: that the machine's rows can be copied.
-/
namespace Go.Proofs.YtnemldboiogdkaaGreat
open Go.RowKit

theorem waiters_no {M : Mc} {r g : Int} {k : Nat} (h : waitsB M r g k = false) : waiters M r g (k + 1) = waiters M r g k := by
  unfold waiters
  rw [List.range_succ, List.filter_append, List.map_append]
  simp [h]
theorem waiters_yes {M : Mc} {r g : Int} {k : Nat} (h : waitsB M r g k = true) : waiters M r g (k + 1) = waiters M r g k ++ [(k : Int)] := by
  unfold waiters
  rw [List.range_succ, List.filter_append, List.map_append]
  simp [h]
theorem waiters_len (M : Mc) (r g : Int) (k : Nat) : (waiters M r g k).length ≤ k := by
  unfold waiters
  rw [List.length_map]
  exact Nat.le_trans (List.length_filter_le _ _) (by simp)
theorem waiters_in {M : Mc} {r g : Int} {k : Nat} {x : Int} (h : x ∈ waiters M r g k) : ∃ i : Nat, x = i ∧ i < k ∧ waitsB M r g i = true := by
  unfold waiters at h
  simp only [List.mem_map, List.mem_filter, List.mem_range] at h
  obtain ⟨i, ⟨h1, h2⟩, rfl⟩ := h
  exact ⟨i, rfl, h1, h2⟩
theorem Mc.th_nat (M : Mc) (k : Nat) : M.th (k : Int) = M.ts.getD k Th.zero := by rw [Mc.th, Int.toNat_natCast]

set_option maxRecDepth 8000 in
set_option maxHeartbeats 8000000 in
theorem rmWaiting (v : Value) (M : Mc) (r g : Int) (w : World) (hx : HasM w v M) (hf : FitM M) : Calls Tryz.prog 14 #[v, .int .i64 r, .int .i64 g] w fun e w' => ∃ q : Sl, e = .returned (.tuple #[slV q, .int .i64 (waitM M r g).2]) ∧ Own w' w.heap.size (slV q) (waitM M r g).1 ∧ Le w w' := by
  have m1 := fun w' (l : Le w w') => rmThere v M r g 0 w' (hx.le l) hf
  cases h1 : thereB M r g 0
  · have hP : waitM M r g = ([], 1600) := by unfold waitM; rw [h1]; rfl
    rw [hP]
    simp only [h1] at m1
    clear h1
    obtain ⟨qR, qP, qT, qH, rfl, _, _, _, _⟩ := hx
    have hb := Box.new w (cells9 M.c qR qP qT qH) 29
    have hl := Le.alloc w (.cells (cells9 M.c qR qP qT qH) 29)
    go_enter Tryz.func14, Tryz.ntmps14
    go_upto_region 1 with fail
    generalize hW : w.alloc (.cells (cells9 M.c qR qP qT qH) 29) = W at hl hb ⊢
    clear hW
    obtain ⟨⟨z0, z1, z2, z3, z4⟩, z5, z6, z7, z8⟩ := (hb).mach
    go_wp2_with fail
    refine (m1 _ hl).mono ?_
    rintro e w1 ⟨rfl, l1⟩
    clear z0 z1 z2 z3 z4 z5 z6 z7 z8
    clear m1
    replace hb := hb.le l1
    replace hl := hl.trans l1
    clear l1
    go_wp2_with fail
    refine bodyPost_ret (v := .tuple #[.slice none 0 0, .int .i64 1600]) (by simp [results, Tryz.results14, go_sem]) rfl ⟨slZ, rfl, Own.nil _ _, hl⟩
  · obtain ⟨hmay, ⟨ra, rb⟩, ⟨g0, g1⟩, _⟩ := thereB_cases h1
    obtain ⟨hrs, hps, hts, _⟩ := mayM_lens hmay
    obtain ⟨_, ⟨r2, r3⟩, ⟨_, l3⟩, ⟨t2, t3⟩, _, _⟩ := Cfg.ok_cases (mayM_ok hmay)
    have hP : waitM M r g = (waiters M r g M.c.t.toNat, 0) := by unfold waitM; rw [h1]; rfl
    rw [hP]
    simp only [h1] at m1
    obtain ⟨bR, oR, cR, bP, oP, cP, bT, oT, cT, qH, rfl, _, _, hcT, _⟩ := hx.opens hmay
    obtain ⟨n, hn⟩ : ∃ n : Nat, M.c.t = n := ⟨M.c.t.toNat, by omega⟩
    have HN : Hid (M.c.t = n) := hn
    have HTS : Hid ((M.ts.length : Int) = M.c.t) := hts
    have hn4 : n ≤ 4 := by omega
    clear h1 hrs hps hts hmay hP hn
    have hb := Box.new w (cells9 M.c (some ⟨bR, oR, none⟩, M.rs.length, cR) (some ⟨bP, oP, none⟩, M.ps.length, cP) (some ⟨bT, oT, none⟩, M.ts.length, cT) qH) 29
    have hl := Le.alloc w (.cells (cells9 M.c (some ⟨bR, oR, none⟩, M.rs.length, cR) (some ⟨bP, oP, none⟩, M.ps.length, cP) (some ⟨bT, oT, none⟩, M.ts.length, cT) qH) 29)
    go_enter Tryz.func14, Tryz.ntmps14
    go_upto_region 1 with fail
    generalize hW : w.alloc (.cells (cells9 M.c (some ⟨bR, oR, none⟩, M.rs.length, cR) (some ⟨bP, oP, none⟩, M.ps.length, cP) (some ⟨bT, oT, none⟩, M.ts.length, cT) qH) 29) = W at hl hb ⊢
    clear hW
    obtain ⟨⟨z0, z1, z2, z3, z4⟩, z5, z6, z7, z8⟩ := (hb).mach
    go_wp2_with fail
    refine (m1 _ hl).mono ?_
    rintro e w1 ⟨rfl, l1⟩
    clear z0 z1 z2 z3 z4 z5 z6 z7 z8
    clear m1
    replace hb := hb.le l1
    replace hl := hl.trans l1
    clear l1
    have hls : w.heap.size ≤ w1.heap.size := hl.size
    go_wp2_with fail
    go_loopw [8, 9] (fun o i wr => ∃ (k : Nat) (q : Sl), k ≤ n ∧ o = slV q ∧ i = .int .i64 k ∧ Hid (Own wr w1.heap.size (slV q) (waiters M r g k)) ∧ Le w1 wr) (fun _ i _ => n - (intOf i).toNat)
    case atStart => exact ⟨0, slZ, by omega, rfl, rfl, Own.nil _ _, Le.refl _⟩
    case round =>
      obtain ⟨k, q, hk, rfl, rfl, HO, hle⟩ := hrel
      obtain ⟨⟨z0, z1, z2, z3, z4⟩, z5, z6, z7, z8⟩ := ((hb.le hle)).mach
      simp only [slV] at z7
      by_cases hlt : k < n
      · have hlt' : (k : Int) < M.c.t := by have := HN.out; omega
        have hltn : (k : Int) < (M.ts.length : Int) := by have := HN.out; have := HTS.out; omega
        obtain ⟨qb, qt, hat, _, _⟩ := hcT k (by omega)
        obtain ⟨T, hT⟩ : ∃ x, x = M.ts.getD k Th.zero := ⟨_, rfl⟩
        rw [← hT] at hat
        have HT : Hid (T = M.th (k : Int)) := by rw [Mc.th_nat]; exact hT
        clear hT
        obtain ⟨x0, x1, x2, x3, x4, x5, x6, x7, x8, x9, x10, x11⟩ := (hat.le hl).le hle
        have hbx := Box.new wr (cellsT T qb qt) 45
        have hA := Le.alloc wr (.cells (cellsT T qb qt) 45)
        go_upto_region 8 with fail
        generalize hW2 : wr.alloc (.cells (cellsT T qb qt) 45) = W2 at hbx hA ⊢
        clear hW2 x0 x1 x2 x3 x4 x5 x6 x7 x8 x9 x10 x11
        clear z0 z1 z2 z3 z4 z5 z6 z7 z8
        have h12 := hle.trans hA
        obtain ⟨⟨z0, z1, z2, z3, z4⟩, z5, z6, z7, z8⟩ := ((hb.le h12)).mach
        simp only [slV] at z7
        obtain ⟨x0, x1, x2, x3, x4, x5, x6, x7, x8, x9, x10, x11⟩ := hbx.th
        have htm : (k : Int).tmod M.c.r = (k : Int) % M.c.r := Int.tmod_eq_emod_of_nonneg (by omega)
        by_cases e1 : (k : Int) % M.c.r = r
        case neg =>
          have hno : Hid (waitsB M r g k = false) := by unfold waitsB; rw [decide_eq_false e1]; exact rfl
          have hb1 : ((k : Int) % M.c.r == r) = false := by simp [e1]
          have hb2 : ((k : Int).tmod M.c.r == r) = false := by rw [htm]; exact hb1
          clear e1 htm
          go_wp2_with fail
          go_roundw
          case rel => exact ⟨k + 1, q, by omega, rfl, by go_num, by rw [waiters_no hno.out]; exact HO.out.le hA, h12⟩
          case measure => simp [intOf]; omega
        have HE1 : Hid (decide ((k : Int) % M.c.r = r) = true) := decide_eq_true e1
        have hb1 : ((k : Int) % M.c.r == r) = true := by simp [e1]
        have hb2 : ((k : Int).tmod M.c.r == r) = true := by rw [htm]; exact hb1
        clear e1 htm
        go_wp2_with fail
        refine (refUpdates _ _ _ _).mono ?_
        rintro e w3 ⟨rfl, l3⟩
        clear x0 x1 x2 x3 x4 x5 x6 x7 x8 x9 x10 x11
        clear z0 z1 z2 z3 z4 z5 z6 z7 z8
        obtain ⟨x0, x1, x2, x3, x4, x5, x6, x7, x8, x9, x10, x11⟩ := (hbx.le l3).th
        have h13 := h12.trans l3
        have hA3 := hA.trans l3
        clear h12 hA l3
        cases e2 : opUp T.c T.r T.a
        · have hno : Hid (waitsB M r g k = false) := by unfold waitsB; rw [HE1.out, ← HT.out, e2]; exact rfl
          go_wp2_with fail
          go_roundw
          case rel => exact ⟨k + 1, q, by omega, rfl, by go_num, by rw [waiters_no hno.out]; exact HO.out.le hA3, h13⟩
          case measure => simp [intOf]; omega
        have HE2 : Hid (opUp T.c T.r T.a = true) := e2
        clear e2
        by_cases e3 : T.lg = g
        case neg =>
          have hno : Hid (waitsB M r g k = false) := by unfold waitsB; rw [HE1.out, ← HT.out, HE2.out, decide_eq_false e3]; exact rfl
          have hb3 : (T.lg == g) = false := by simp [e3]
          clear e3
          go_wp2_with fail
          go_roundw
          case rel => exact ⟨k + 1, q, by omega, rfl, by go_num, by rw [waiters_no hno.out]; exact HO.out.le hA3, h13⟩
          case measure => simp [intOf]; omega
        have HE3 : Hid (decide (T.lg = g) = true) := decide_eq_true e3
        have hb3 : (T.lg == g) = true := by simp [e3]
        clear e3
        cases e4 : T.po
        · rw [e4] at x8
          have hno : Hid (waitsB M r g k = false) := by unfold waitsB; rw [HE1.out, ← HT.out, HE2.out, HE3.out, e4]; exact rfl
          clear e4
          go_wp2_with fail
          go_roundw
          case rel => exact ⟨k + 1, q, by omega, rfl, by go_num, by rw [waiters_no hno.out]; exact HO.out.le hA3, h13⟩
          case measure => simp [intOf]; omega
        rw [e4] at x8
        have hyes : Hid (waitsB M r g k = true) := by unfold waitsB; rw [HE1.out, ← HT.out, HE2.out, HE3.out, e4]; exact rfl
        clear e4
        have ho := HO.out.le hA3
        have hlit := Own.lit w3 w3.heap.size (Nat.le_refl _) [(k : Int)] (by simp)
        replace hlit : Own (w3.alloc (.cells #[.int .i64 (k : Int)] 3)) w3.heap.size (.slice (some ⟨w3.heap.size, 0, none⟩) 1 1) [(k : Int)] := hlit
        have hA4 := Le.alloc w3 (.cells #[.int .i64 (k : Int)] 3)
        have ho4 := ho.le hA4
        have h14 := h13.trans hA4
        have hwl := waiters_len M r g k
        go_wp2_with (at_builtin; refine wp_append_ints rfl _ _ rfl w1.heap.size _ _ (waiters M r g k) [(k : Int)] rfl rfl ho4 hlit.has (by show ((waiters M r g k).length + 1) * 8 ≤ _; omega) h14.size ?_; intro v' w7 o8 hg8; obtain ⟨q', rfl⟩ := o8.has.sl)
        go_roundw
        case rel => exact ⟨k + 1, q', by omega, rfl, by go_num, by rw [waiters_yes hyes.out]; exact o8, Below.grown h14 hg8 h14.size (fun gz e => (ho4.block e).1)⟩
        case measure => simp [intOf]; omega
      · obtain rfl : n = k := by omega
        have hge : M.c.t ≤ (n : Int) := by have := HN.out; omega
        go_wp2_with fail
        refine bodyPost_ret (v := .tuple #[slV q, .int .i64 0]) (by simp [results, Tryz.results14, go_sem]) rfl ⟨q, rfl, ?_, hl.trans hle⟩
        have := HO.out.base hls
        rw [HN.out, Int.toNat_natCast]
        exact this

end Go.Proofs.YtnemldboiogdkaaGreat

/-
  THE WALK over the document's Collect: all that wait are a thread's batch. Condition: that the machine's rows can be copied.
-/
namespace Go.Proofs.YtnemldboiogdkaaGreat
open Go.RowKit

theorem unpost_snoc (M : Mc) (bs : List Int) (b : Int) : unpost M (bs ++ [b]) = (unpost M bs).putT b { (unpost M bs).th b with po := false } := by
  unfold unpost
  rw [List.foldl_append]
  rfl

theorem rmWaitingAs (v : Value) (M : Mc) (r g : Int) (w : World) (hx : HasM w v M) (hf : FitM M) : Calls Tryz.prog 14 #[v, .int .i64 r, .int .i64 g] w fun e w' => ∃ a n c, e = .returned (.tuple #[.slice a n c, .int .i64 (waitM M r g).2]) ∧ Own w' w.heap.size (.slice a n c) (waitM M r g).1 ∧ Le w w' := by
  refine (rmWaiting v M r g w hx hf).mono ?_
  rintro e w' ⟨⟨a, n, c⟩, rfl, o, l⟩
  exact ⟨a, n, c, rfl, o, l⟩

set_option maxRecDepth 8000 in
set_option maxHeartbeats 8000000 in
theorem rmCollect (v : Value) (M : Mc) (t : Int) (w : World) (hx : HasM w v M) (hf : FitM M) : Calls Tryz.prog 9 #[v, .int .i64 t] w fun e w' => ∃ v', e = .returned (.tuple #[v', .int .i64 (collectM M t).2]) ∧ OwnA w' w.heap.size v' (collectM M t).1 ∧ Le w w' := by
  have m1 := fun w' (l : Le w w') => rmThere v M 0 0 t w' (hx.le l) hf
  have m2 := fun w' (l : Le w w') => rmCopy v M w' (hx.le l) hf
  cases h1 : thereB M 0 0 t
  · have hP : collectM M t = (Mc.zero, 1700) := by unfold collectM; rw [h1]; rfl
    rw [hP]
    simp only [h1] at m1
    clear h1
    obtain ⟨qR, qP, qT, qH, rfl, _, _, _, _⟩ := hx
    have hr := Box.new (w.alloc (.cells (cells9 M.c qR qP qT qH) 29)) cellsZ9 29
    have hb := (Box.new w (cells9 M.c qR qP qT qH) 29).le (Le.alloc _ (.cells cellsZ9 29))
    have hl := (Le.alloc w (.cells (cells9 M.c qR qP qT qH) 29)).trans (Le.alloc _ (.cells cellsZ9 29))
    rw [World.size_alloc] at hr
    go_enter Tryz.func9, Tryz.ntmps9
    go_upto_region 1 with fail
    generalize hW : (w.alloc (.cells (cells9 M.c qR qP qT qH) 29)).alloc (.cells cellsZ9 29) = W at hl hb hr ⊢
    clear hW
    have hgr := hr.lt
    obtain ⟨⟨z0, z1, z2, z3, z4⟩, z5, z6, z7, z8⟩ := (hb).mach
    go_wp2_with fail
    refine (m1 _ hl).mono ?_
    rintro e w1 ⟨rfl, l1⟩
    clear z0 z1 z2 z3 z4 z5 z6 z7 z8
    clear m1
    replace hb := hb.le l1
    replace hl := hl.trans l1
    have hgr := Nat.lt_of_lt_of_le hgr l1.size
    replace hr := hr.le l1
    clear l1
    obtain ⟨⟨r0, r1, r2, r3, r4, r5, r6, r7, r8⟩, k0, k1, k2, k3, k4, k5, k6, k7, k8⟩ := hr.res
    go_wp2_with fail
    refine bodyPost_ret (v := .tuple #[machZ, .int .i64 1700]) (by simp [results, Tryz.results9, go_sem, r0, r1, r2, r3, r4, r5, r6, r7, r8]) rfl ⟨_, rfl, OwnA.zero _ _, ?_⟩
    exact hl.put9 (c := Cfg.zero) (by omega) slZ slZ slZ slZ
  · obtain ⟨hmay, _, _, ⟨t0, t1⟩⟩ := thereB_cases h1
    obtain ⟨hrs, hps, hts, _⟩ := mayM_lens hmay
    obtain ⟨_, ⟨r2, r3⟩, ⟨_, l3⟩, ⟨t2, t3⟩, _, _⟩ := Cfg.ok_cases (mayM_ok hmay)
    obtain ⟨t, rfl⟩ : ∃ n : Nat, t = n := ⟨t.toNat, by omega⟩
    have hti : t < M.ts.length := by omega
    have hti' : (t : Int) < (M.ts.length : Int) := by omega
    have m3 := fun w' (l : Le w w') => rmWaitingAs v M (M.home t) (M.th t).lg w' (hx.le l) hf
    obtain ⟨bR, oR, cR, bP, oP, cP, bT, oT, cT, qH, rfl, _, _, hcT, _⟩ := hx.opens hmay
    obtain ⟨qb, qt, hat, _, _⟩ := hcT t hti
    rw [← Mc.th_nat] at hat
    simp only [h1] at m1
    clear hcT
    by_cases h2 : (M.th t).st = 3
    case neg =>
      have hP : collectM M t = (Mc.zero, 1700) := by unfold collectM; rw [h1, decide_eq_false h2]; rfl
      rw [hP]
      have h2b : ((M.th t).st != 3) = true := by simp [h2]
      clear h1 hmay hrs hps hts hP h2
      have hr := Box.new (w.alloc (.cells (cells9 M.c (some ⟨bR, oR, none⟩, M.rs.length, cR) (some ⟨bP, oP, none⟩, M.ps.length, cP) (some ⟨bT, oT, none⟩, M.ts.length, cT) qH) 29)) cellsZ9 29
      have hb := (Box.new w (cells9 M.c (some ⟨bR, oR, none⟩, M.rs.length, cR) (some ⟨bP, oP, none⟩, M.ps.length, cP) (some ⟨bT, oT, none⟩, M.ts.length, cT) qH) 29).le (Le.alloc _ (.cells cellsZ9 29))
      have hl := (Le.alloc w (.cells (cells9 M.c (some ⟨bR, oR, none⟩, M.rs.length, cR) (some ⟨bP, oP, none⟩, M.ps.length, cP) (some ⟨bT, oT, none⟩, M.ts.length, cT) qH) 29)).trans (Le.alloc _ (.cells cellsZ9 29))
      rw [World.size_alloc] at hr
      go_enter Tryz.func9, Tryz.ntmps9
      go_upto_region 1 with fail
      generalize hW : (w.alloc (.cells (cells9 M.c (some ⟨bR, oR, none⟩, M.rs.length, cR) (some ⟨bP, oP, none⟩, M.ps.length, cP) (some ⟨bT, oT, none⟩, M.ts.length, cT) qH) 29)).alloc (.cells cellsZ9 29) = W at hl hb hr ⊢
      clear hW
      have hgr := hr.lt
      obtain ⟨⟨z0, z1, z2, z3, z4⟩, z5, z6, z7, z8⟩ := (hb).mach
      go_wp2_with fail
      refine (m1 _ hl).mono ?_
      rintro e w1 ⟨rfl, l1⟩
      clear z0 z1 z2 z3 z4 z5 z6 z7 z8
      clear m1
      replace hb := hb.le l1
      replace hl := hl.trans l1
      have hgr := Nat.lt_of_lt_of_le hgr l1.size
      replace hr := hr.le l1
      clear l1
      obtain ⟨x0, x1, x2, x3, x4, x5, x6, x7, x8, x9, x10, x11⟩ := hat.le hl
      obtain ⟨⟨z0, z1, z2, z3, z4⟩, z5, z6, z7, z8⟩ := (hb).mach
      simp only [slV] at z7
      obtain ⟨⟨r0, r1, r2, r3, r4, r5, r6, r7, r8⟩, k0, k1, k2, k3, k4, k5, k6, k7, k8⟩ := hr.res
      go_wp2_with fail
      refine bodyPost_ret (v := .tuple #[machZ, .int .i64 1700]) (by simp [results, Tryz.results9, go_sem, r0, r1, r2, r3, r4, r5, r6, r7, r8]) rfl ⟨_, rfl, OwnA.zero _ _, ?_⟩
      exact hl.put9 (c := Cfg.zero) (by omega) slZ slZ slZ slZ
    obtain ⟨bs, hbs⟩ : ∃ bs, bs = (waitM M (M.home t) (M.th t).lg).1 := ⟨_, rfl⟩
    obtain ⟨er, her⟩ : ∃ er, er = (waitM M (M.home t) (M.th t).lg).2 := ⟨_, rfl⟩
    have hP : collectM M t = ((unpost M bs).putT t { (unpost M bs).th t with b := bs, pl := 0, st := if bs = [] then 9 else 4 }, 0) := by unfold collectM; rw [h1, decide_eq_true h2, ← hbs]; rfl
    rw [hP]
    have h2b : ((M.th t).st != 3) = false := by simp [h2]
    simp only [← hbs, ← her] at m3
    have hbin : ∀ x ∈ bs, ∃ i : Nat, x = i ∧ i < M.ts.length := by
      intro x hx
      rw [hbs] at hx
      unfold waitM at hx
      split at hx
      · obtain ⟨i, rfl, hi, _⟩ := waiters_in hx
        exact ⟨i, rfl, by omega⟩
      · cases hx
    have hbl : bs.length ≤ 4 := by
      rw [hbs]
      unfold waitM
      split
      · exact Nat.le_trans (waiters_len _ _ _ _) (by omega)
      · simp
    obtain ⟨ho, hho⟩ : ∃ x, x = M.home (t : Int) := ⟨_, rfl⟩
    have htm : (t : Int).tmod M.c.r = ho := by rw [hho]; exact Int.tmod_eq_emod_of_nonneg (by omega)
    have htm2 : (t : Int) % M.c.r = ho := by rw [hho]; rfl
    have hne0 : ¬ M.c.r = 0 := by omega
    have HB : Hid (∀ x ∈ bs, ∃ i : Nat, x = i ∧ i < M.ts.length) := hbin
    obtain ⟨lg, hlg⟩ : ∃ x, x = (M.th t).lg := ⟨_, rfl⟩
    rw [← hlg, ← hho] at m3
    have HLG : Hid (lg = (M.th t).lg) := hlg
    clear hho hlg
    clear h1 hmay hrs hps hts hP h2 hbin hbs her
    have hr := Box.new (w.alloc (.cells (cells9 M.c (some ⟨bR, oR, none⟩, M.rs.length, cR) (some ⟨bP, oP, none⟩, M.ps.length, cP) (some ⟨bT, oT, none⟩, M.ts.length, cT) qH) 29)) cellsZ9 29
    have hb := (Box.new w (cells9 M.c (some ⟨bR, oR, none⟩, M.rs.length, cR) (some ⟨bP, oP, none⟩, M.ps.length, cP) (some ⟨bT, oT, none⟩, M.ts.length, cT) qH) 29).le (Le.alloc _ (.cells cellsZ9 29))
    have hl := (Le.alloc w (.cells (cells9 M.c (some ⟨bR, oR, none⟩, M.rs.length, cR) (some ⟨bP, oP, none⟩, M.ps.length, cP) (some ⟨bT, oT, none⟩, M.ts.length, cT) qH) 29)).trans (Le.alloc _ (.cells cellsZ9 29))
    rw [World.size_alloc] at hr
    go_enter Tryz.func9, Tryz.ntmps9
    go_upto_region 1 with fail
    generalize hW : (w.alloc (.cells (cells9 M.c (some ⟨bR, oR, none⟩, M.rs.length, cR) (some ⟨bP, oP, none⟩, M.ps.length, cP) (some ⟨bT, oT, none⟩, M.ts.length, cT) qH) 29)).alloc (.cells cellsZ9 29) = W at hl hb hr ⊢
    clear hW
    have hgr := hr.lt
    obtain ⟨⟨z0, z1, z2, z3, z4⟩, z5, z6, z7, z8⟩ := (hb).mach
    go_wp2_with fail
    refine (m1 _ hl).mono ?_
    rintro e w1 ⟨rfl, l1⟩
    clear z0 z1 z2 z3 z4 z5 z6 z7 z8
    clear m1
    replace hb := hb.le l1
    replace hl := hl.trans l1
    have hgr := Nat.lt_of_lt_of_le hgr l1.size
    replace hr := hr.le l1
    clear l1
    obtain ⟨x0, x1, x2, x3, x4, x5, x6, x7, x8, x9, x10, x11⟩ := hat.le hl
    obtain ⟨⟨y0, y1, y2, y3, y4⟩, y5, y6, y7, y8⟩ := (hb).mach
    simp only [slV] at y7
    go_upto_region 3 with fail
    clear y0 y1 y2 y3 y4 y5 y6 y7 y8
    clear x0 x1 x2 x3 x4 x5 x6 x7 x8 x9 x10 x11
    obtain ⟨⟨z0, z1, z2, z3, z4⟩, z5, z6, z7, z8⟩ := (hb).mach
    go_wp2_with fail
    refine (m2 _ hl).mono ?_
    rintro e w9 ⟨L, rfl, HM, o1, ap, l1⟩
    clear z0 z1 z2 z3 z4 z5 z6 z7 z8
    clear m2
    have hbo := Box.new w9 (cells9 L.c L.qR L.qP L.qT L.qH) 29
    have a1 := Le.alloc w9 (.cells (cells9 L.c L.qR L.qP L.qT L.qH) 29)
    go_upto_region 4 with fail
    generalize hW1 : w9.alloc (.cells (cells9 L.c L.qR L.qP L.qT L.qH) 29) = W1 at hbo a1 ⊢
    clear hW1
    have I : MoI w1.heap.size w9.heap.size W1 L := ⟨hbo, l1.size, o1.le a1, ap⟩
    have hgo : w1.heap.size ≤ w9.heap.size := l1.size
    generalize w9.heap.size = go at hbo I hgo ⊢
    have l01 := l1.trans a1
    clear hbo o1 ap l1 a1
    obtain ⟨c', uR, uP, uT, uH, xR, xP, xT, xH⟩ := L
    try simp only at I ⊢
    replace hr := hr.le l01
    replace hb := hb.le l01
    have hlB : w.heap.size ≤ w1.heap.size := hl.size
    obtain ⟨⟨z0, z1, z2, z3, z4⟩, z5, z6, z7, z8⟩ := (hb).mach
    obtain ⟨_, _, _, _, x4, _, _, _, _, _, _, _⟩ := (hat.le hl).le l01
    rw [← HLG.out] at x4
    simp only [slV] at z5 z6 z7
    have m3' := m3 W1.drew ((hl.trans l01).trans (Le.drew _))
    go_region_held3 (fun w' => w'.cell? ⟨w.heap.size, 0, none⟩ = some (.int .i64 M.c.o) ∧ w'.cell? ⟨w.heap.size, 1, none⟩ = some (.int .i64 M.c.r) ∧ w'.cell? ⟨w.heap.size, 2, none⟩ = some (.int .i64 M.c.l) ∧ w'.cell? ⟨w.heap.size, 3, none⟩ = some (.int .i64 M.c.t) ∧ w'.cell? ⟨w.heap.size, 4, none⟩ = some (.int .i64 M.c.s) ∧ w'.cell? ⟨w.heap.size, 5, none⟩ = some (.slice (some ⟨bR, oR, none⟩) M.rs.length cR) ∧ w'.cell? ⟨w.heap.size, 6, none⟩ = some (.slice (some ⟨bP, oP, none⟩) M.ps.length cP) ∧ w'.cell? ⟨w.heap.size, 7, none⟩ = some (.slice (some ⟨bT, oT, none⟩) M.ts.length cT) ∧ w'.cell? ⟨w.heap.size, 8, none⟩ = some (slV qH) ∧ w'.cell? ⟨bT, oT + t * 12 + 4, none⟩ = some (.int .i64 lg)) (go_keep) (first
      | (go_at_call 14; refine m3'.mono ?_; rintro e w4 ⟨q0, q1, q2, rfl, oq, l4⟩; have l5 := (Le.drew W1).trans l4; have z0' := cell_le z0 l5; have z1' := cell_le z1 l5; have z2' := cell_le z2 l5; have z3' := cell_le z3 l5; have z4' := cell_le z4 l5; have z5' := cell_le z5 l5; have z6' := cell_le z6 l5; have z7' := cell_le z7 l5; have z8' := cell_le z8 l5; have x4' := cell_le x4 l5))
    have hbel := I.own.bel
    have hW1 : w1.heap.size ≤ W1.heap.size := l01.size
    have oq' : Own w4 w1.heap.size (.slice q0 q1 q2) bs := oq.base hW1
    have hqn : ∀ c, (slV (q0, q1, q2)).ownBlock = some c → W1.heap.size ≤ c := fun c e => (oq.block e).1
    have I4 := I.le l5
    have hr4 := hr.le l5
    have l45 := l01.trans l5
    clear m3 m3' z0 z1 z2 z3 z4 z5 z6 z7 z8 x4 z0' z1' z2' z3' z4' z5' z6' z7' z8' x4' hb hr l4 l5 oq
    have hiT : t < xT.length := by have := lay_ts HM; simp only at this; omega
    have hiT' : (t : Int) < (xT.length : Int) := by omega
    obtain ⟨gT, capT, hqT, hcapT, hgBT, hgltT, hgneT, hatT, hfzT⟩ := I.openT hiT
    try simp only at hqT hatT hcapT
    subst hqT
    clear hatT hfzT
    have hqlen : q1 = bs.length := own_len (q := (q0, q1, q2)) oq'
    have HQL : Hid (q1 = bs.length) := hqlen
    have HXT : Hid (xT.length = M.ts.length) := lay_ts HM
    have hq4 : q1 ≤ 4 := by omega
    clear hqlen I hbl
    go_wp2_with fail
    go_loopw [9] (fun i wr => ∃ (k : Nat) (ts : List LT), k ≤ q1 ∧ i = .int .i64 k ∧ Hid (MoI w1.heap.size go wr ⟨c', uR, uP, (some ⟨gT, 0, none⟩, xT.length, capT), uH, xR, xP, ts, xH⟩ ∧ (⟨c', uR, uP, (some ⟨gT, 0, none⟩, xT.length, capT), uH, xR, xP, ts, xH⟩ : Lay).M = unpost M (bs.take k) ∧ ts.length = xT.length ∧ (⟨c', uR, uP, (some ⟨gT, 0, none⟩, xT.length, capT), uH, xR, xP, ts, xH⟩ : Lay).Below W1.heap.size ∧ Box wr (w.heap.size + 1) cellsZ9 29 ∧ Own wr w1.heap.size (.slice q0 q1 q2) bs ∧ Le w1 wr)) (fun i _ => q1 - (intOf i).toNat)
    case atStart => exact ⟨0, xT, by omega, rfl, I4, HM, rfl, hbel, hr4, oq', l45⟩
    case round =>
      clear I4 HM hbel hr4 oq' l45
      obtain ⟨k, ts, hk, rfl, HI⟩ := hrel
      obtain ⟨I, HM, hlen, hbel, hr, oq, hle⟩ := HI.out
      have HLEN : Hid (ts.length = xT.length) := hlen
      clear HI hlen
      by_cases hlt : k < q1
      · obtain ⟨j, hj, hjl⟩ := HB.out (bs.getD k 0) (getD_mem (by have := HQL.out; omega))
        have HJ : Hid (bs.getD k 0 = (j : Int)) := hj
        have hjx : j < ts.length := by have := HLEN.out; have := HXT.out; omega
        have hjx' : (j : Int) < (xT.length : Int) := by have := HLEN.out; omega
        obtain ⟨hgne', hgl', hgB', hatj, hfzj⟩ := I.thAt rfl hjx
        obtain ⟨_, _, _, _, _, _, _, _, x8, _, _, _⟩ := hatj
        have f8 := hfzj (j * 12 + 8)
        obtain ⟨⟨y0, y1, y2, y3, y4⟩, y5, y6, y7, y8⟩ := (I.bo).mach
        simp only [slV] at y7
        obtain ⟨gl, cl, hql, _, _, _, xl, _⟩ := own_open (q := (q0, q1, q2)) oq (show k < bs.length by have := HQL.out; omega)
        simp only [Prod.mk.injEq] at hql
        obtain ⟨rfl, hh, rfl⟩ := hql
        clear hh
        have hne2 : gT ≠ gl := by
          have := own_k (g := gT) I.own.oT oq (by decide) rfl
          simp [Value.ownBlock] at this
          exact fun e => this e.symm
        rw [HJ.out] at xl
        have hltq : (k : Int) < (q1 : Int) := by omega
        have I2 := I.setTx (j := 8) (u := .bool false) rfl hjx (by decide) _ rfl { (ts.getD j thK.d).T with po := false } rfl rfl rfl
        have HM2 : Hid (Lay.M ⟨c', uR, uP, (some ⟨gT, 0, none⟩, xT.length, capT), uH, xR, xP, ts.set j ⟨{ (ts.getD j thK.d).T with po := false }, (ts.getD j thK.d).b, (ts.getD j thK.d).t⟩, xH⟩ = unpost M (bs.take (k + 1))) := by
          rw [List.take_succ_eq_append_getElem (by have := HQL.out; omega), unpost_snoc]
          have h1 := HJ.out
          rw [show bs.getD k 0 = bs[k]'(by have := HQL.out; omega) by simp [List.getD, show k < bs.length by have := HQL.out; omega]] at h1
          rw [h1]
          have h2 := lay_th HM hjx
          simp only at h2
          rw [← h2]
          exact lay_setT HM j ⟨{ (ts.getD j thK.d).T with po := false }, (ts.getD j thK.d).b, (ts.getD j thK.d).t⟩
        have hbel2 : Hid (Lay.Below ⟨c', uR, uP, (some ⟨gT, 0, none⟩, xT.length, capT), uH, xR, xP, ts.set j ⟨{ (ts.getD j thK.d).T with po := false }, (ts.getD j thK.d).b, (ts.getD j thK.d).t⟩, xH⟩ W1.heap.size) := by
          refine ⟨hbel.1, fun p b e => ?_⟩
          cases p with
          | rep a d => exact hbel.2 (.rep a d) b e
          | th a d =>
            refine hbel.2 (.th a d) b ?_
            simp only [Lay.at, getD_set _ _ _ _ _ hjx] at e ⊢
            by_cases e1 : a = j
            · subst e1
              rw [if_pos rfl] at e
              match d, e with
              | 0, e => exact e
              | 1, e => exact e
              | _ + 2, e => simp [LT.row, Value.ownBlock] at e
            · rw [if_neg e1] at e; exact e
        clear hbel
        have hne3 : ¬ gT = go := fun e => hgne' e.symm
        go_upto_region 8 with fail
        go_region_held3 (fun w' => w'.cell? ⟨go, 7, none⟩ = some (.slice (some ⟨gT, 0, none⟩) xT.length capT) ∧ w'.cell? ⟨gl, k, none⟩ = some (.int .i64 (j : Int))) (go_keep) (fail)
        go_wp2_with fail
        go_roundw
        case rel => exact ⟨k + 1, _, by omega, by go_num, I2.le (Le.drew _), HM2.out, by rw [List.length_set]; exact HLEN.out, hbel2.out, (hr.other (show w.heap.size + 1 ≠ gT by omega) _ _).le (Le.drew _), Own.le (ownsRow_setCell_other oq (by simp only [Value.ownBlock, ne_eq, Option.some.injEq]; exact fun e => hne2 e.symm) _) (Le.drew _), (hle.set hgB').trans (Le.drew _)⟩
        case measure => simp [intOf]; omega
      · obtain rfl : q1 = k := by omega
        have htk : bs.take q1 = bs := by rw [HQL.out, List.take_length]
        rw [htk] at HM
        have hit : t < ts.length := by have := HLEN.out; omega
        obtain ⟨hgne', hgl', hgB', hatt, hfzt⟩ := I.thAt rfl hit
        obtain ⟨x0, _, _, _, _, _, x6, x7, _, _, _, _⟩ := hatt
        have f0 := hfzt (t * 12)
        have f6 := hfzt (t * 12 + 6)
        have f7 := hfzt (t * 12 + 7)
        obtain ⟨X, hX⟩ : ∃ X, X = ts.getD t thK.d := ⟨_, rfl⟩
        have HX : Hid (X.T = (unpost M bs).th t) := by rw [hX]; exact lay_th HM hit
        have I2 := I.setTb rfl hit X hX.symm (q0, q1, q2) bs oq hbel (.inr hqn)
        have I3 := I2.setTy (j := 7) (u := .int .i64 0) rfl hit (by decide) { X.T with b := bs, pl := 0 } rfl rfl rfl
        have I4 := I3.setTy (j := 0) (u := .int .i64 4) rfl hit (by decide) { X.T with b := bs, pl := 0, st := 4 } rfl rfl rfl
        rw [← hX] at x0 x6 x7
        clear hX hfzt htk hlt hk
        obtain ⟨⟨y0, y1, y2, y3, y4⟩, y5, y6, y7, y8⟩ := (I.bo).mach
        simp only [slV] at y7
        have l2 := ((hle.set (i := t * 12 + 6) (u := .slice q0 q1 q2) hgB').set (i := t * 12 + 7) (u := .int .i64 0) hgB').set (i := t * 12 + 0) (u := .int .i64 4) hgB'
        have hne1 : w.heap.size + 1 ≠ gT := by omega
        have hr2 := ((hr.other hne1 (t * 12 + 6) (.slice q0 q1 q2)).other hne1 (t * 12 + 7) (.int .i64 0)).other hne1 (t * 12 + 0) (.int .i64 4)
        go_upto_region 12 with fail
        clear x0 x6 x7 f0 f6 f7 I2 I3
        clear y0 y1 y2 y3 y4 y5 y6 y7 y8
        generalize hW2 : ((wr.setCell ⟨gT, t * 12 + 6, none⟩ (.slice q0 q1 q2)).setCell ⟨gT, t * 12 + 7, none⟩ (.int .i64 0)).setCell ⟨gT, t * 12 + 0, none⟩ (.int .i64 4) = W2 at I4 l2 hr2 ⊢
        clear hW2 I hr hle oq
        have HM4 : Hid (Lay.M ⟨c', uR, uP, (some ⟨gT, 0, none⟩, xT.length, capT), uH, xR, xP, ts.set t ⟨{ X.T with b := bs, pl := 0, st := 4 }, (q0, q1, q2), X.t⟩, xH⟩ = (unpost M bs).putT t { (unpost M bs).th t with b := bs, pl := 0, st := 4 }) := by
          rw [← HX.out]
          exact lay_setT HM t ⟨{ X.T with b := bs, pl := 0, st := 4 }, (q0, q1, q2), X.t⟩
        by_cases hb0 : bs = []
        · have hq0 : ((q1 : Int) == 0) = true := by have := HQL.out; rw [hb0] at this; simp at this; simp [this]
          have HB0 : Hid (bs = []) := hb0
          clear hb0
          obtain ⟨⟨y0, y1, y2, y3, y4⟩, y5, y6, y7, y8⟩ := (I4.bo).mach
          simp only [slV] at y7
          have x0 := (I4.thAt rfl (by rw [List.length_set]; exact hit)).2.2.2.1.1
          have f0 := (I4.thAt rfl (by rw [List.length_set]; exact hit)).2.2.2.2 (t * 12)
          have I5 := I4.setTy (j := 0) (u := .int .i64 9) rfl hit (by decide) { X.T with b := bs, pl := 0, st := 9 } rfl rfl rfl
          have HM5 : Hid (Lay.M ⟨c', uR, uP, (some ⟨gT, 0, none⟩, xT.length, capT), uH, xR, xP, ts.set t ⟨{ X.T with b := bs, pl := 0, st := 9 }, (q0, q1, q2), X.t⟩, xH⟩ = (unpost M bs).putT t { (unpost M bs).th t with b := bs, pl := 0, st := 9 }) := by
            rw [← HX.out]
            exact lay_setT HM t ⟨{ X.T with b := bs, pl := 0, st := 9 }, (q0, q1, q2), X.t⟩
          have l5 := l2.set (i := t * 12 + 0) (u := .int .i64 9) hgB'
          have hr5 := hr2.other hne1 (t * 12 + 0) (.int .i64 9)
          go_upto_region 14 with fail
          clear x0 f0
          clear y0 y1 y2 y3 y4 y5 y6 y7 y8
          generalize hW5 : W2.setCell ⟨gT, t * 12 + 0, none⟩ (.int .i64 9) = W5 at I5 l5 hr5 ⊢
          clear hW5 I4 l2 hr2
          obtain ⟨⟨y0, y1, y2, y3, y4⟩, y5, y6, y7, y8⟩ := (I5.bo).mach
          obtain ⟨⟨r0, r1, r2, r3, r4, r5, r6, r7, r8⟩, k0, k1, k2, k3, k4, k5, k6, k7, k8⟩ := hr5.res
          go_wp2_with fail
          refine bodyPost_ret (v := .tuple #[machV c' uR uP (some ⟨gT, 0, none⟩, xT.length, capT) uH, .int .i64 0]) (by simp [results, Tryz.results9, go_sem, r0, r1, r2, r3, r4, r5, r6, r7, r8]) rfl ⟨_, rfl, ?_, (hl.trans l5).put9 (g := w.heap.size + 1) (by omega) c' uR uP (some ⟨gT, 0, none⟩, xT.length, capT) uH⟩
          have := (I5.ret hr5).base hlB
          rw [HM5.out] at this
          simp only [HB0.out] at this
          exact this
        · have hq0 : ((q1 : Int) == 0) = false := by have := HQL.out; have : q1 ≠ 0 := fun e => hb0 (List.length_eq_zero_iff.1 (by omega)); simp; omega
          have HB0 : Hid (¬ bs = []) := hb0
          clear hb0
          obtain ⟨⟨y0, y1, y2, y3, y4⟩, y5, y6, y7, y8⟩ := (I4.bo).mach
          obtain ⟨⟨r0, r1, r2, r3, r4, r5, r6, r7, r8⟩, k0, k1, k2, k3, k4, k5, k6, k7, k8⟩ := hr2.res
          go_wp2_with fail
          refine bodyPost_ret (v := .tuple #[machV c' uR uP (some ⟨gT, 0, none⟩, xT.length, capT) uH, .int .i64 0]) (by simp [results, Tryz.results9, go_sem, r0, r1, r2, r3, r4, r5, r6, r7, r8]) rfl ⟨_, rfl, ?_, (hl.trans l2).put9 (g := w.heap.size + 1) (by omega) c' uR uP (some ⟨gT, 0, none⟩, xT.length, capT) uH⟩
          have := (I4.ret hr2).base hlB
          rw [HM4.out] at this
          exact this

end Go.Proofs.YtnemldboiogdkaaGreat

/-
  THE WALKS over the document's own NewRing, FreeTo, Entry: what each answers, for every ring and number. Condition: that the slots can be copied.
-/
namespace Go.Proofs.YtnemldboiogdkaaGreat
open Go.RowKit

set_option maxHeartbeats 1000000 in
theorem refNewRing (n : Int) (w : World) : Calls Tryz.prog 91 #[.int .i64 n] w fun e w' => ∃ v', e = .returned (.tuple #[v', .int .i64 (newS n).2]) ∧ OwnR w' w.heap.size v' (newS n).1 ∧ Le w w' := by
  have m1 := fun w => refSlotsMay n w
  have hb := Box.new w (cellsR 0 0 0 slZ) 60
  have hl := Le.alloc w (.cells (cellsR 0 0 0 slZ) 60)
  obtain ⟨b0, b1, b2, b3, f0, f1, f2, f3⟩ := hb.ring
  cases hn : slotsB n
  · rw [hn] at m1
    simp only [newS, hn]
    go_enter Tryz.func91, Tryz.ntmps91
    go_wp2_with (go_at_call 93; refine (m1 _).mono ?_; rintro e _ ⟨rfl, rfl⟩)
    refine bodyPost_ret (v := .tuple #[ringZ, .int .i64 1000]) (by simp [results, Tryz.results91, go_sem]) rfl ⟨_, rfl, OwnR.zero _ _, ?_⟩
    exact hl
  · rw [hn] at m1
    simp only [newS, hn]
    have k2 := make2
    have k4 := make4
    have k8 := make8
    have k16 := make16
    rcases slotsB_cases hn with rfl | rfl | rfl | rfl
    · go_enter Tryz.func91, Tryz.ntmps91
      go_wp2_with (go_at_call 93; refine (m1 _).mono ?_; rintro e _ ⟨rfl, rfl⟩)
      refine bodyPost_ret (v := .tuple #[ringV 0 0 0 (some ⟨w.heap.size + 1, 0, none⟩, 2, 2), .int .i64 0]) (by simp [results, Tryz.results91, go_sem]) rfl ⟨_, rfl, ⟨_, rfl, ?_⟩, (Le.alloc _ _).trans (Le.alloc _ _)⟩
      have := OwnL.made (w.alloc (.cells (cellsR 0 0 0 (some ⟨w.heap.size + 1, 0, none⟩, 2, 2)) 60)) w.heap.size 2 (by simp) (by decide)
      simp only [World.size_alloc] at this
      exact this
    · go_enter Tryz.func91, Tryz.ntmps91
      go_wp2_with (go_at_call 93; refine (m1 _).mono ?_; rintro e _ ⟨rfl, rfl⟩)
      refine bodyPost_ret (v := .tuple #[ringV 0 0 0 (some ⟨w.heap.size + 1, 0, none⟩, 4, 4), .int .i64 0]) (by simp [results, Tryz.results91, go_sem]) rfl ⟨_, rfl, ⟨_, rfl, ?_⟩, (Le.alloc _ _).trans (Le.alloc _ _)⟩
      have := OwnL.made (w.alloc (.cells (cellsR 0 0 0 (some ⟨w.heap.size + 1, 0, none⟩, 4, 4)) 60)) w.heap.size 4 (by simp) (by decide)
      simp only [World.size_alloc] at this
      exact this
    · go_enter Tryz.func91, Tryz.ntmps91
      go_wp2_with (go_at_call 93; refine (m1 _).mono ?_; rintro e _ ⟨rfl, rfl⟩)
      refine bodyPost_ret (v := .tuple #[ringV 0 0 0 (some ⟨w.heap.size + 1, 0, none⟩, 8, 8), .int .i64 0]) (by simp [results, Tryz.results91, go_sem]) rfl ⟨_, rfl, ⟨_, rfl, ?_⟩, (Le.alloc _ _).trans (Le.alloc _ _)⟩
      have := OwnL.made (w.alloc (.cells (cellsR 0 0 0 (some ⟨w.heap.size + 1, 0, none⟩, 8, 8)) 60)) w.heap.size 8 (by simp) (by decide)
      simp only [World.size_alloc] at this
      exact this
    · go_enter Tryz.func91, Tryz.ntmps91
      go_wp2_with (go_at_call 93; refine (m1 _).mono ?_; rintro e _ ⟨rfl, rfl⟩)
      refine bodyPost_ret (v := .tuple #[ringV 0 0 0 (some ⟨w.heap.size + 1, 0, none⟩, 16, 16), .int .i64 0]) (by simp [results, Tryz.results91, go_sem]) rfl ⟨_, rfl, ⟨_, rfl, ?_⟩, (Le.alloc _ _).trans (Le.alloc _ _)⟩
      have := OwnL.made (w.alloc (.cells (cellsR 0 0 0 (some ⟨w.heap.size + 1, 0, none⟩, 16, 16)) 60)) w.heap.size 16 (by simp) (by decide)
      simp only [World.size_alloc] at this
      exact this

end Go.Proofs.YtnemldboiogdkaaGreat

/-
  THE WALKS over the document's own Reserve: what it answers, for every ring and number. Condition: that the slots can be copied.
-/
namespace Go.Proofs.YtnemldboiogdkaaGreat
open Go.RowKit

end Go.Proofs.YtnemldboiogdkaaGreat

/-
  THE WALK over the document's own Publish: what it answers, for every ring, number, operation and thread. Condition: that the slots can be copied.
-/
namespace Go.Proofs.YtnemldboiogdkaaGreat
open Go.RowKit

end Go.Proofs.YtnemldboiogdkaaGreat

/-
  PLAIN GROUND: the document's ring, its contracts with their answers written out; what is handed back can be copied. Condition: that the slots can be copied.
-/
namespace Go.Proofs.YtnemldboiogdkaaGreat
open Go.RowKit

end Go.Proofs.YtnemldboiogdkaaGreat

/-
  THE WALKS over the document's Claim at StepLoad (no fence) and at StepClaim. Condition: that the machine's rows can be copied.
-/
namespace Go.Proofs.YtnemldboiogdkaaGreat
open Go.RowKit

theorem has_len {w : World} {q : Sl} {xs : List Int} (h : Has w (slV q) xs) : q.2.1 = xs.length := by
  obtain ⟨a, cap, hv, _⟩ := h
  simp only [slV, Value.slice.injEq] at hv
  exact hv.2.1
theorem Mc.th_may {M : Mc} (h : mayM M = true) {t : Nat} (hi : t < M.ts.length) : thB M.c (M.th t) = true := by
  rw [Mc.th_nat]; exact mayM_ts h _ (getD_mem hi)
theorem stepM_rs (M : Mc) (t st : Int) : (stepM M t st).rs.length = M.rs.length := rfl

end Go.Proofs.YtnemldboiogdkaaGreat

/-
  THE WALKS over the document's Update: a step of a thread that turns something. Condition: that the machine's rows can be copied.
-/
namespace Go.Proofs.YtnemldboiogdkaaGreat
open Go.RowKit

theorem FitM.putT {M : Mc} (h : FitM M) (t : Int) {x : Th} (hx : x.b.length * 8 ≤ 140737488351232 ∧ x.tl.length * 8 ≤ 140737488351232) : FitM (M.putT t x) := by
  refine ⟨h.rs, h.ps, by simpa [Mc.putT] using h.ts, h.es, h.r, h.p, fun T hT => ?_⟩
  rcases List.mem_or_eq_of_mem_set (show T ∈ M.ts.set t.toNat x from hT) with hT | rfl
  · exact h.t T hT
  · exact hx
theorem FitM.th {M : Mc} (h : FitM M) (t : Int) : (M.th t).b.length * 8 ≤ 140737488351232 ∧ (M.th t).tl.length * 8 ≤ 140737488351232 := by
  unfold Mc.th
  rcases Nat.lt_or_ge t.toNat M.ts.length with ht | ht
  · exact h.t _ (getD_mem ht)
  · rw [getD_out ht]; decide
theorem FitM.rp {M : Mc} (h : FitM M) (r : Int) : Fit (M.rp r).s ∧ (M.rp r).cs.length * 8 ≤ 140737488351232 ∧ (M.rp r).ls.length * 8 ≤ 140737488351232 := by
  unfold Mc.rp
  rcases Nat.lt_or_ge r.toNat M.ps.length with ht | ht
  · exact h.p _ (getD_mem ht)
  · rw [getD_out ht]; exact ⟨fit_zero, by decide, by decide⟩
theorem FitM.putP {M : Mc} (h : FitM M) (r : Int) {x : Rp} (hx : Fit x.s ∧ x.cs.length * 8 ≤ 140737488351232 ∧ x.ls.length * 8 ≤ 140737488351232) : FitM (M.putP r x) := by
  refine ⟨h.rs, by simpa [Mc.putP] using h.ps, h.ts, h.es, h.r, fun P hP => ?_, h.t⟩
  rcases List.mem_or_eq_of_mem_set (show P ∈ M.ps.set r.toNat x from hP) with hP | rfl
  · exact h.p P hP
  · exact hx
theorem postM_fit {M : Mc} (h : FitM M) (t : Int) : FitM (postM M t).1 := by
  unfold postM
  split
  · exact h.putT t (h.th t)
  · exact fitM_zero
theorem tryM_fit {M : Mc} (h : FitM M) (r g t : Int) : FitM (tryM M r g t).1 := by
  unfold tryM
  split
  · split
    · refine h.putP r ⟨(h.rp r).1, (h.rp r).2.1, ?_⟩
      simpa [Rp.setLock] using (h.rp r).2.2
    · exact h
  · exact fitM_zero
theorem postM_ts {M : Mc} {t : Int} (h : thereB M 0 0 t = true) : (postM M t).1.ts.length = M.ts.length := by
  unfold postM
  rw [if_pos h]
  simp [Mc.putT]
theorem tryM_ts {M : Mc} {r g t : Int} (h : thereB M r g t = true) : (tryM M r g t).1.ts.length = M.ts.length := by
  unfold tryM
  rw [if_pos h]
  split
  · rfl
  · rfl

set_option maxRecDepth 8000 in
set_option maxHeartbeats 8000000 in
theorem rmUpd1 (v : Value) (M : Mc) (t : Int) (w : World) (hx : HasM w v M) (hf : FitM M) (h1 : thereB M 0 0 t = true) (h2 : opUp (M.th t).c (M.th t).r (M.th t).a = true) (h3 : (M.th t).st = 1) : Calls Tryz.prog 40 #[v, .int .i64 t] w fun e w' => ∃ v', e = .returned (.tuple #[v', .int .i64 0]) ∧ OwnA w' w.heap.size v' (stepM (postM M t).1 t 2) ∧ Le w w' := by
  have m2 := fun w' (l : Le w w') => rmPost v M t w' (hx.le l) hf
  have hpf := postM_fit hf t
  have hpl := postM_ts h1
  have m1 := fun w' (l : Le w w') => rmThere v M 0 0 t w' (hx.le l) hf
  obtain ⟨hmay, _, _, ⟨t0, t1⟩⟩ := thereB_cases h1
  obtain ⟨hrs, hps, hts, _⟩ := mayM_lens hmay
  obtain ⟨_, ⟨r2, r3⟩, ⟨_, l3⟩, ⟨t2, t3⟩, _, _⟩ := Cfg.ok_cases (mayM_ok hmay)
  obtain ⟨t, rfl⟩ : ∃ n : Nat, t = n := ⟨t.toNat, by omega⟩
  have hti : t < M.ts.length := by omega
  have hti' : (t : Int) < (M.ts.length : Int) := by omega
  have hxw := hx
  obtain ⟨_, _, ⟨g0, g1⟩, _, _, _, _, _, _⟩ := thB_cases (Mc.th_may hmay hti)
  obtain ⟨g, hg⟩ : ∃ n : Nat, (M.th t).lg = n := ⟨(M.th t).lg.toNat, by omega⟩
  obtain ⟨r, hr0⟩ : ∃ n : Nat, M.home t = n := ⟨(M.home t).toNat, by have := Int.emod_nonneg (t : Int) (show M.c.r ≠ 0 by omega); unfold Mc.home; omega⟩
  have hrr : (r : Int) < M.c.r := by have := Int.emod_lt_of_pos (t : Int) (show 0 < M.c.r by omega); unfold Mc.home at hr0; omega
  have htm : (t : Int).tmod M.c.r = (r : Int) := by rw [← hr0]; exact Int.tmod_eq_emod_of_nonneg (by omega)
  have htm2 : (t : Int) % M.c.r = (r : Int) := hr0
  have hne0 : ¬ M.c.r = 0 := by omega
  obtain ⟨bR, oR, cR, bP, oP, cP, bT, oT, cT, qH, rfl, hcR, hcP, hcT, _⟩ := hx.opens hmay
  obtain ⟨⟨b0, b1, b2⟩, qt, hat, hbb, _⟩ := hcT t hti
  have hb1 := has_len hbb
  rw [← Mc.th_nat] at hat hb1
  simp only [h1] at m1
  obtain ⟨T, hT⟩ : ∃ T, T = M.th t := ⟨_, rfl⟩
  have HT : Hid (T = M.th t) := hT
  have HG : Hid ((M.th t).lg = g) := hg
  have HH : Hid (M.home t = r) := hr0
  have HMAY : Hid (mayM M = true) := hmay
  rw [← hT] at h2 h3 hg hat hb1
  clear hT hr0
  obtain ⟨tst, tc, tr, ta, tlg, tsn, tb, tpl, tpo, tre, tan, ttl⟩ := T
  simp only at h2 h3 hg hb1
  subst h3 hg
  have HB1 : Hid (b1 = tb.length) := hb1
  clear h1 hb1 hmay hrs hps hts hbb hcT hcR hx
  have hr := Box.new (w.alloc (.cells (cells9 M.c (some ⟨bR, oR, none⟩, M.rs.length, cR) (some ⟨bP, oP, none⟩, M.ps.length, cP) (some ⟨bT, oT, none⟩, M.ts.length, cT) qH) 29)) cellsZ9 29
  have hb := (Box.new w (cells9 M.c (some ⟨bR, oR, none⟩, M.rs.length, cR) (some ⟨bP, oP, none⟩, M.ps.length, cP) (some ⟨bT, oT, none⟩, M.ts.length, cT) qH) 29).le (Le.alloc _ (.cells cellsZ9 29))
  have hl := (Le.alloc w (.cells (cells9 M.c (some ⟨bR, oR, none⟩, M.rs.length, cR) (some ⟨bP, oP, none⟩, M.ps.length, cP) (some ⟨bT, oT, none⟩, M.ts.length, cT) qH) 29)).trans (Le.alloc _ (.cells cellsZ9 29))
  rw [World.size_alloc] at hr
  go_enter Tryz.func40, Tryz.ntmps40
  go_upto_region 1 with fail
  generalize hW : (w.alloc (.cells (cells9 M.c (some ⟨bR, oR, none⟩, M.rs.length, cR) (some ⟨bP, oP, none⟩, M.ps.length, cP) (some ⟨bT, oT, none⟩, M.ts.length, cT) qH) 29)).alloc (.cells cellsZ9 29) = W at hl hb hr ⊢
  clear hW
  have hgr := hr.lt
  obtain ⟨⟨z0, z1, z2, z3, z4⟩, z5, z6, z7, z8⟩ := (hb).mach
  go_wp2_with fail
  refine (m1 _ hl).mono ?_
  rintro e w1 ⟨rfl, l1⟩
  clear z0 z1 z2 z3 z4 z5 z6 z7 z8
  clear m1
  replace hb := hb.le l1
  replace hl := hl.trans l1
  have hgr := Nat.lt_of_lt_of_le hgr l1.size
  replace hr := hr.le l1
  clear l1
  obtain ⟨x0, x1, x2, x3, x4, x5, x6, x7, x8, x9, x10, x11⟩ := hat.le hl
  obtain ⟨⟨z0, z1, z2, z3, z4⟩, z5, z6, z7, z8⟩ := (hb).mach
  simp only [slV] at z7
  go_wp2_with fail
  refine (refUpdates _ _ _ _).mono ?_
  rw [h2]
  rintro e w2 ⟨rfl, l1⟩
  clear x0 x1 x2 x3 x4 x5 x6 x7 x8 x9 x10 x11 h2
  clear z0 z1 z2 z3 z4 z5 z6 z7 z8
  replace hb := hb.le l1
  replace hl := hl.trans l1
  have hgr := Nat.lt_of_lt_of_le hgr l1.size
  replace hr := hr.le l1
  clear l1
  obtain ⟨x0, x1, x2, x3, x4, x5, x6, x7, x8, x9, x10, x11⟩ := hat.le hl
  obtain ⟨⟨z0, z1, z2, z3, z4⟩, z5, z6, z7, z8⟩ := (hb).mach
  simp only [slV] at z7
  have bx := Box.new w2 (cellsT ⟨1, tc, tr, ta, (g : Int), tsn, tb, tpl, tpo, tre, tan, ttl⟩ (b0, b1, b2) qt) 45
  have a1 := Le.alloc w2 (.cells (cellsT ⟨1, tc, tr, ta, (g : Int), tsn, tb, tpl, tpo, tre, tan, ttl⟩ (b0, b1, b2) qt) 45)
  go_upto_region 4 with fail
  generalize hW1 : w2.alloc (.cells (cellsT ⟨1, tc, tr, ta, (g : Int), tsn, tb, tpl, tpo, tre, tan, ttl⟩ (b0, b1, b2) qt) 45) = W2 at bx a1 ⊢
  clear hW1
  have hgbx : w2.heap.size ≤ w2.heap.size := Nat.le_refl _
  generalize hgg : w2.heap.size = gbx at bx hgbx ⊢
  have hsbx : w2.heap.size ≤ gbx := by omega
  clear hgg hgbx
  have hgr := Nat.lt_of_lt_of_le hgr a1.size
  replace hl := hl.trans a1
  replace hb := hb.le a1
  replace hr := hr.le a1
  clear a1 x0 x1 x2 x3 x4 x5 x6 x7 x8 x9 x10 x11
  clear z0 z1 z2 z3 z4 z5 z6 z7 z8
  obtain ⟨x0, x1, x2, x3, x4, x5, x6, x7, x8, x9, x10, x11⟩ := bx.th
  obtain ⟨⟨z0, z1, z2, z3, z4⟩, z5, z6, z7, z8⟩ := (hb).mach
  go_quiet (fail)
  clear x0 x1 x2 x3 x4 x5 x6 x7 x8 x9 x10 x11
  clear z0 z1 z2 z3 z4 z5 z6 z7 z8
  have l1 := Le.drewN W2 nq
  generalize W2.drewN nq = W3 at l1 ⊢
  replace hb := hb.le l1
  replace hl := hl.trans l1
  have hgr := Nat.lt_of_lt_of_le hgr l1.size
  replace hr := hr.le l1
  replace bx := bx.le l1
  clear l1
  obtain ⟨x0, x1, x2, x3, x4, x5, x6, x7, x8, x9, x10, x11⟩ := bx.th
  obtain ⟨⟨z0, z1, z2, z3, z4⟩, z5, z6, z7, z8⟩ := (hb).mach
  go_wp2_with fail
  refine (m2 _ hl).mono ?_
  rintro e w9 ⟨_, rfl, ⟨L, rfl, HM, o1, ap⟩, l1⟩
  clear z0 z1 z2 z3 z4 z5 z6 z7 z8
  clear m2 x0 x1 x2 x3 x4 x5 x6 x7 x8 x9 x10 x11
  have hbo := Box.new w9 (cells9 L.c L.qR L.qP L.qT L.qH) 29
  have a1 := Le.alloc w9 (.cells (cells9 L.c L.qR L.qP L.qT L.qH) 29)
  go_upto_region 8 with fail
  generalize hW1 : w9.alloc (.cells (cells9 L.c L.qR L.qP L.qT L.qH) 29) = W4 at hbo a1 ⊢
  clear hW1
  have I : MoI W3.heap.size w9.heap.size W4 L := ⟨hbo, l1.size, o1.le a1, ap⟩
  have hgo : W3.heap.size ≤ w9.heap.size := l1.size
  generalize w9.heap.size = go at hbo I hgo ⊢
  have l01 := l1.trans a1
  clear hbo o1 ap l1 a1
  obtain ⟨c', uR, uP, uT, uH, xR, xP, xT, xH⟩ := L
  try simp only at I ⊢
  replace hr := hr.le l01
  replace hb := hb.le l01
  have hlB : w.heap.size ≤ W3.heap.size := hl.size
  replace hl := hl.trans l01
  have hmI := I.has
  rw [HM] at hmI
  have m3 := fun w' (l : Le W4 w') => rmStepped _ (postM M t).1 t 2 w' (hmI.le l) hpf (by rw [hpl]; exact hti)
  obtain ⟨⟨y0, y1, y2, y3, y4⟩, y5, y6, y7, y8⟩ := (I.bo).mach
  clear HM hat bx
  go_wp2_with fail
  refine (m3 _ (Le.refl _)).mono ?_
  rintro e w9 ⟨_, rfl, ⟨⟨c', uR, uP, uT, uH, xR, xP, xT, xH⟩, rfl, HM, o1, ap⟩, l1⟩
  clear m3 I
  replace hr := hr.le l1
  obtain ⟨⟨r0, r1, r2, r3, r4, r5, r6, r7, r8⟩, k0, k1, k2, k3, k4, k5, k6, k7, k8⟩ := hr.res
  go_wp2_with fail
  refine bodyPost_ret (v := .tuple #[machV c' uR uP uT uH, .int .i64 0]) (by simp [results, Tryz.results40, go_sem, r0, r1, r2, r3, r4, r5, r6, r7, r8]) rfl ⟨_, rfl, ?_, (hl.trans l1).put9 (g := w.heap.size + 1) (by omega) c' uR uP uT uH⟩
  refine ⟨⟨c', uR, uP, uT, uH, xR, xP, xT, xH⟩, rfl, HM, ?_, ap⟩
  exact (o1.base hl.size).put9 hr c' uR uP uT uH

theorem home_there {M : Mc} {t : Int} (h1 : thereB M 0 0 t = true) : thereB M (M.home t) (M.th t).lg t = true := by
  obtain ⟨hmay, _, _, ⟨t0, t1⟩⟩ := thereB_cases h1
  obtain ⟨_, _, hts, _⟩ := mayM_lens hmay
  obtain ⟨_, ⟨r2, r3⟩, _, _, _, _⟩ := Cfg.ok_cases (mayM_ok hmay)
  obtain ⟨t, rfl⟩ : ∃ n : Nat, t = n := ⟨t.toNat, by omega⟩
  obtain ⟨_, _, ⟨g0, g1⟩, _⟩ := thB_cases (Mc.th_may hmay (t := t) (by omega))
  refine thereB_yes hmay ?_ ⟨g0, g1⟩ ⟨t0, t1⟩
  have h2 := Int.emod_nonneg (t : Int) (show M.c.r ≠ 0 by omega)
  have h3 := Int.emod_lt_of_pos (t : Int) (show 0 < M.c.r by omega)
  unfold Mc.home
  omega

set_option maxRecDepth 8000 in
set_option maxHeartbeats 8000000 in
theorem rmUpd2 (v : Value) (M : Mc) (t : Int) (w : World) (hx : HasM w v M) (hf : FitM M) (h1 : thereB M 0 0 t = true) (h2 : opUp (M.th t).c (M.th t).r (M.th t).a = true) (h3 : (M.th t).st = 2) : Calls Tryz.prog 40 #[v, .int .i64 t] w fun e w' => ∃ v', e = .returned (.tuple #[v', .int .i64 0]) ∧ OwnA w' w.heap.size v' (stepM (tryM M (M.home t) (M.th t).lg t).1 t (if (tryM M (M.home t) (M.th t).lg t).2.1 then 3 else 10)) ∧ Le w w' := by
  have m2 := fun w' (l : Le w w') => rmTry v M (M.home t) (M.th t).lg t w' (hx.le l) hf
  have hpf := tryM_fit hf (M.home t) (M.th t).lg t
  have hpl := tryM_ts (home_there h1)
  obtain ⟨ok, hok⟩ : ∃ ok, ok = (tryM M (M.home t) (M.th t).lg t).2.1 := ⟨_, rfl⟩
  obtain ⟨er, her⟩ : ∃ er, er = (tryM M (M.home t) (M.th t).lg t).2.2 := ⟨_, rfl⟩
  obtain ⟨N, hN⟩ : ∃ N, N = (tryM M (M.home t) (M.th t).lg t).1 := ⟨_, rfl⟩
  simp only [← hok, ← her, ← hN] at m2 hpf hpl ⊢
  clear hok her hN
  have m1 := fun w' (l : Le w w') => rmThere v M 0 0 t w' (hx.le l) hf
  obtain ⟨hmay, _, _, ⟨t0, t1⟩⟩ := thereB_cases h1
  obtain ⟨hrs, hps, hts, _⟩ := mayM_lens hmay
  obtain ⟨_, ⟨r2, r3⟩, ⟨_, l3⟩, ⟨t2, t3⟩, _, _⟩ := Cfg.ok_cases (mayM_ok hmay)
  obtain ⟨t, rfl⟩ : ∃ n : Nat, t = n := ⟨t.toNat, by omega⟩
  have hti : t < M.ts.length := by omega
  have hti' : (t : Int) < (M.ts.length : Int) := by omega
  have hxw := hx
  obtain ⟨_, _, ⟨g0, g1⟩, _, _, _, _, _, _⟩ := thB_cases (Mc.th_may hmay hti)
  obtain ⟨g, hg⟩ : ∃ n : Nat, (M.th t).lg = n := ⟨(M.th t).lg.toNat, by omega⟩
  obtain ⟨r, hr0⟩ : ∃ n : Nat, M.home t = n := ⟨(M.home t).toNat, by have := Int.emod_nonneg (t : Int) (show M.c.r ≠ 0 by omega); unfold Mc.home; omega⟩
  have hrr : (r : Int) < M.c.r := by have := Int.emod_lt_of_pos (t : Int) (show 0 < M.c.r by omega); unfold Mc.home at hr0; omega
  have htm : (t : Int).tmod M.c.r = (r : Int) := by rw [← hr0]; exact Int.tmod_eq_emod_of_nonneg (by omega)
  have htm2 : (t : Int) % M.c.r = (r : Int) := hr0
  have hne0 : ¬ M.c.r = 0 := by omega
  obtain ⟨bR, oR, cR, bP, oP, cP, bT, oT, cT, qH, rfl, hcR, hcP, hcT, _⟩ := hx.opens hmay
  obtain ⟨⟨b0, b1, b2⟩, qt, hat, hbb, _⟩ := hcT t hti
  have hb1 := has_len hbb
  rw [← Mc.th_nat] at hat hb1
  simp only [h1] at m1
  obtain ⟨T, hT⟩ : ∃ T, T = M.th t := ⟨_, rfl⟩
  have HT : Hid (T = M.th t) := hT
  have HG : Hid ((M.th t).lg = g) := hg
  have HH : Hid (M.home t = r) := hr0
  have HMAY : Hid (mayM M = true) := hmay
  rw [← hT] at h2 h3 hg hat hb1
  clear hT hr0
  obtain ⟨tst, tc, tr, ta, tlg, tsn, tb, tpl, tpo, tre, tan, ttl⟩ := T
  simp only at h2 h3 hg hb1
  subst h3 hg
  have HB1 : Hid (b1 = tb.length) := hb1
  clear h1 hb1 hmay hrs hps hts hbb hcT hcR hx
  have hr := Box.new (w.alloc (.cells (cells9 M.c (some ⟨bR, oR, none⟩, M.rs.length, cR) (some ⟨bP, oP, none⟩, M.ps.length, cP) (some ⟨bT, oT, none⟩, M.ts.length, cT) qH) 29)) cellsZ9 29
  have hb := (Box.new w (cells9 M.c (some ⟨bR, oR, none⟩, M.rs.length, cR) (some ⟨bP, oP, none⟩, M.ps.length, cP) (some ⟨bT, oT, none⟩, M.ts.length, cT) qH) 29).le (Le.alloc _ (.cells cellsZ9 29))
  have hl := (Le.alloc w (.cells (cells9 M.c (some ⟨bR, oR, none⟩, M.rs.length, cR) (some ⟨bP, oP, none⟩, M.ps.length, cP) (some ⟨bT, oT, none⟩, M.ts.length, cT) qH) 29)).trans (Le.alloc _ (.cells cellsZ9 29))
  rw [World.size_alloc] at hr
  go_enter Tryz.func40, Tryz.ntmps40
  go_upto_region 1 with fail
  generalize hW : (w.alloc (.cells (cells9 M.c (some ⟨bR, oR, none⟩, M.rs.length, cR) (some ⟨bP, oP, none⟩, M.ps.length, cP) (some ⟨bT, oT, none⟩, M.ts.length, cT) qH) 29)).alloc (.cells cellsZ9 29) = W at hl hb hr ⊢
  clear hW
  have hgr := hr.lt
  obtain ⟨⟨z0, z1, z2, z3, z4⟩, z5, z6, z7, z8⟩ := (hb).mach
  go_wp2_with fail
  refine (m1 _ hl).mono ?_
  rintro e w1 ⟨rfl, l1⟩
  clear z0 z1 z2 z3 z4 z5 z6 z7 z8
  clear m1
  replace hb := hb.le l1
  replace hl := hl.trans l1
  have hgr := Nat.lt_of_lt_of_le hgr l1.size
  replace hr := hr.le l1
  clear l1
  obtain ⟨x0, x1, x2, x3, x4, x5, x6, x7, x8, x9, x10, x11⟩ := hat.le hl
  obtain ⟨⟨z0, z1, z2, z3, z4⟩, z5, z6, z7, z8⟩ := (hb).mach
  simp only [slV] at z7
  go_wp2_with fail
  refine (refUpdates _ _ _ _).mono ?_
  rw [h2]
  rintro e w2 ⟨rfl, l1⟩
  clear x0 x1 x2 x3 x4 x5 x6 x7 x8 x9 x10 x11 h2
  clear z0 z1 z2 z3 z4 z5 z6 z7 z8
  replace hb := hb.le l1
  replace hl := hl.trans l1
  have hgr := Nat.lt_of_lt_of_le hgr l1.size
  replace hr := hr.le l1
  clear l1
  obtain ⟨x0, x1, x2, x3, x4, x5, x6, x7, x8, x9, x10, x11⟩ := hat.le hl
  obtain ⟨⟨z0, z1, z2, z3, z4⟩, z5, z6, z7, z8⟩ := (hb).mach
  simp only [slV] at z7
  have bx := Box.new w2 (cellsT ⟨2, tc, tr, ta, (g : Int), tsn, tb, tpl, tpo, tre, tan, ttl⟩ (b0, b1, b2) qt) 45
  have a1 := Le.alloc w2 (.cells (cellsT ⟨2, tc, tr, ta, (g : Int), tsn, tb, tpl, tpo, tre, tan, ttl⟩ (b0, b1, b2) qt) 45)
  go_upto_region 4 with fail
  generalize hW1 : w2.alloc (.cells (cellsT ⟨2, tc, tr, ta, (g : Int), tsn, tb, tpl, tpo, tre, tan, ttl⟩ (b0, b1, b2) qt) 45) = W2 at bx a1 ⊢
  clear hW1
  have hgbx : w2.heap.size ≤ w2.heap.size := Nat.le_refl _
  generalize hgg : w2.heap.size = gbx at bx hgbx ⊢
  have hsbx : w2.heap.size ≤ gbx := by omega
  clear hgg hgbx
  have hgr := Nat.lt_of_lt_of_le hgr a1.size
  replace hl := hl.trans a1
  replace hb := hb.le a1
  replace hr := hr.le a1
  clear a1 x0 x1 x2 x3 x4 x5 x6 x7 x8 x9 x10 x11
  clear z0 z1 z2 z3 z4 z5 z6 z7 z8
  obtain ⟨x0, x1, x2, x3, x4, x5, x6, x7, x8, x9, x10, x11⟩ := bx.th
  obtain ⟨⟨z0, z1, z2, z3, z4⟩, z5, z6, z7, z8⟩ := (hb).mach
  go_quiet (fail)
  clear x0 x1 x2 x3 x4 x5 x6 x7 x8 x9 x10 x11
  clear z0 z1 z2 z3 z4 z5 z6 z7 z8
  have l1 := Le.drewN W2 nq
  generalize W2.drewN nq = W3 at l1 ⊢
  replace hb := hb.le l1
  replace hl := hl.trans l1
  have hgr := Nat.lt_of_lt_of_le hgr l1.size
  replace hr := hr.le l1
  replace bx := bx.le l1
  clear l1
  obtain ⟨x0, x1, x2, x3, x4, x5, x6, x7, x8, x9, x10, x11⟩ := bx.th
  simp only [HG.out, HH.out] at m2
  obtain ⟨⟨z0, z1, z2, z3, z4⟩, z5, z6, z7, z8⟩ := (hb).mach
  go_wp2_with fail
  refine (m2 _ hl).mono ?_
  rintro e w9 ⟨_, rfl, ⟨L, rfl, HM, o1, ap⟩, l1⟩
  clear z0 z1 z2 z3 z4 z5 z6 z7 z8
  clear m2 x0 x1 x2 x3 x4 x5 x6 x7 x8 x9 x10 x11
  have hbo := Box.new w9 (cells9 L.c L.qR L.qP L.qT L.qH) 29
  have a1 := Le.alloc w9 (.cells (cells9 L.c L.qR L.qP L.qT L.qH) 29)
  go_upto_region 11 with fail
  generalize hW1 : w9.alloc (.cells (cells9 L.c L.qR L.qP L.qT L.qH) 29) = W4 at hbo a1 ⊢
  clear hW1
  have I : MoI W3.heap.size w9.heap.size W4 L := ⟨hbo, l1.size, o1.le a1, ap⟩
  have hgo : W3.heap.size ≤ w9.heap.size := l1.size
  generalize w9.heap.size = go at hbo I hgo ⊢
  have l01 := l1.trans a1
  clear hbo o1 ap l1 a1
  obtain ⟨c', uR, uP, uT, uH, xR, xP, xT, xH⟩ := L
  try simp only at I ⊢
  replace hr := hr.le l01
  replace hb := hb.le l01
  have hlB : w.heap.size ≤ W3.heap.size := hl.size
  replace hl := hl.trans l01
  have hmI := I.has
  rw [HM] at hmI
  have m3 := fun st w' (l : Le W4 w') => rmStepped _ N t st w' (hmI.le l) hpf (by rw [hpl]; exact hti)
  obtain ⟨⟨y0, y1, y2, y3, y4⟩, y5, y6, y7, y8⟩ := (I.bo).mach
  clear HM hat bx
  cases ok
  ·
    go_wp2_with fail
    refine (m3 _ _ (Le.refl _)).mono ?_
    rintro e w9 ⟨_, rfl, ⟨⟨c', uR, uP, uT, uH, xR, xP, xT, xH⟩, rfl, HM, o1, ap⟩, l1⟩
    clear m3 I
    replace hr := hr.le l1
    obtain ⟨⟨r0, r1, r2, r3, r4, r5, r6, r7, r8⟩, k0, k1, k2, k3, k4, k5, k6, k7, k8⟩ := hr.res
    go_wp2_with fail
    refine bodyPost_ret (v := .tuple #[machV c' uR uP uT uH, .int .i64 0]) (by simp [results, Tryz.results40, go_sem, r0, r1, r2, r3, r4, r5, r6, r7, r8]) rfl ⟨_, rfl, ?_, (hl.trans l1).put9 (g := w.heap.size + 1) (by omega) c' uR uP uT uH⟩
    refine ⟨⟨c', uR, uP, uT, uH, xR, xP, xT, xH⟩, rfl, HM, ?_, ap⟩
    exact (o1.base hl.size).put9 hr c' uR uP uT uH
  ·
    go_wp2_with fail
    refine (m3 _ _ (Le.refl _)).mono ?_
    rintro e w9 ⟨_, rfl, ⟨⟨c', uR, uP, uT, uH, xR, xP, xT, xH⟩, rfl, HM, o1, ap⟩, l1⟩
    clear m3 I
    replace hr := hr.le l1
    obtain ⟨⟨r0, r1, r2, r3, r4, r5, r6, r7, r8⟩, k0, k1, k2, k3, k4, k5, k6, k7, k8⟩ := hr.res
    go_wp2_with fail
    refine bodyPost_ret (v := .tuple #[machV c' uR uP uT uH, .int .i64 0]) (by simp [results, Tryz.results40, go_sem, r0, r1, r2, r3, r4, r5, r6, r7, r8]) rfl ⟨_, rfl, ?_, (hl.trans l1).put9 (g := w.heap.size + 1) (by omega) c' uR uP uT uH⟩
    refine ⟨⟨c', uR, uP, uT, uH, xR, xP, xT, xH⟩, rfl, HM, ?_, ap⟩
    exact (o1.base hl.size).put9 hr c' uR uP uT uH

end Go.Proofs.YtnemldboiogdkaaGreat

/-
  THE WALKS over the document's Pick (a thread that turns something) and Call. Condition: that the machine's rows can be copied.
-/
namespace Go.Proofs.YtnemldboiogdkaaGreat
open Go.RowKit

set_option maxRecDepth 8000 in
set_option maxHeartbeats 8000000 in
theorem rmPickU (v : Value) (M : Mc) (t : Int) (w : World) (hx : HasM w v M) (hf : FitM M) (hmay : mayM M = true) (ht : 0 ≤ t ∧ t < M.c.t) (h3 : (M.th t).st ≠ 0) (h4 : (M.th t).c ≠ 2) (h5 : (M.th t).c ≠ 3) (N : Mc) (m2 : ∀ w', Le w w' → Calls Tryz.prog 40 #[v, .int .i64 t] w' fun e w'' => ∃ v', e = .returned (.tuple #[v', .int .i64 0]) ∧ OwnA w'' w'.heap.size v' N ∧ Le w' w'') : Calls Tryz.prog 17 #[v, .int .i64 t] w fun e w' => ∃ v', e = .returned (.tuple #[v', .int .i64 0]) ∧ OwnA w' w.heap.size v' N ∧ Le w w' := by
  have m1 := fun w' (l : Le w w') => rmMay v M w' (hx.le l) hf
  simp only [hmay] at m1
  obtain ⟨hrs, hps, hts, _⟩ := mayM_lens hmay
  obtain ⟨_, ⟨r2, r3⟩, ⟨_, l3⟩, ⟨t2, t3⟩, _, _⟩ := Cfg.ok_cases (mayM_ok hmay)
  obtain ⟨t, rfl⟩ : ∃ n : Nat, t = n := ⟨t.toNat, by omega⟩
  have hti : t < M.ts.length := by omega
  have hti' : (t : Int) < (M.ts.length : Int) := by omega
  have htc : (t : Int) < M.c.t := ht.2
  obtain ⟨bR, oR, cR, bP, oP, cP, bT, oT, cT, qH, rfl, _, _, hcT, _⟩ := hx.opens hmay
  obtain ⟨qb, qt, hat, _, _⟩ := hcT t hti
  rw [← Mc.th_nat] at hat
  obtain ⟨x0, x1, _⟩ := hat
  obtain ⟨st, hst⟩ : ∃ x, x = (M.th t).st := ⟨_, rfl⟩
  obtain ⟨co, hco⟩ : ∃ x, x = (M.th t).c := ⟨_, rfl⟩
  rw [← hst] at h3 x0
  rw [← hco] at h4 h5 x1
  have hb0 : (st == 0) = false := by simp [h3]
  have hb2 : (co == 2) = false := by simp [h4]
  have hb3 : (co == 3) = false := by simp [h5]
  clear hst hco h3 h4 h5 hcT hmay hrs hps hts ht
  have hr := Box.new (w.alloc (.cells (cells9 M.c (some ⟨bR, oR, none⟩, M.rs.length, cR) (some ⟨bP, oP, none⟩, M.ps.length, cP) (some ⟨bT, oT, none⟩, M.ts.length, cT) qH) 29)) cellsZ9 29
  have hb := (Box.new w (cells9 M.c (some ⟨bR, oR, none⟩, M.rs.length, cR) (some ⟨bP, oP, none⟩, M.ps.length, cP) (some ⟨bT, oT, none⟩, M.ts.length, cT) qH) 29).le (Le.alloc _ (.cells cellsZ9 29))
  have hl := (Le.alloc w (.cells (cells9 M.c (some ⟨bR, oR, none⟩, M.rs.length, cR) (some ⟨bP, oP, none⟩, M.ps.length, cP) (some ⟨bT, oT, none⟩, M.ts.length, cT) qH) 29)).trans (Le.alloc _ (.cells cellsZ9 29))
  rw [World.size_alloc] at hr
  go_enter Tryz.func17, Tryz.ntmps17
  go_upto_region 1 with fail
  generalize hW : (w.alloc (.cells (cells9 M.c (some ⟨bR, oR, none⟩, M.rs.length, cR) (some ⟨bP, oP, none⟩, M.ps.length, cP) (some ⟨bT, oT, none⟩, M.ts.length, cT) qH) 29)).alloc (.cells cellsZ9 29) = W at hl hb hr ⊢
  clear hW
  have hgr := hr.lt
  obtain ⟨⟨z0, z1, z2, z3, z4⟩, z5, z6, z7, z8⟩ := (hb).mach
  go_wp2_with fail
  refine (m1 _ hl).mono ?_
  rintro e w1 ⟨rfl, l1⟩
  clear z0 z1 z2 z3 z4 z5 z6 z7 z8
  clear m1
  replace hb := hb.le l1
  replace hl := hl.trans l1
  have hgr := Nat.lt_of_lt_of_le hgr l1.size
  replace hr := hr.le l1
  clear l1
  have y0 := cell_le x0 hl
  have y1 := cell_le x1 hl
  obtain ⟨⟨z0, z1, z2, z3, z4⟩, z5, z6, z7, z8⟩ := (hb).mach
  simp only [slV] at z7
  have bo := Box.new w1 cellsZ9 29
  have a1 := Le.alloc w1 (.cells cellsZ9 29)
  go_upto_region 7 with fail
  generalize hW1 : w1.alloc (.cells cellsZ9 29) = W2 at bo a1 ⊢
  clear hW1
  have hgbo : w1.heap.size ≤ w1.heap.size := Nat.le_refl _
  generalize hgg : w1.heap.size = gbo at bo hgbo ⊢
  have hsbo : w1.heap.size ≤ gbo := by omega
  clear hgg hgbo
  have hgr := Nat.lt_of_lt_of_le hgr a1.size
  replace hl := hl.trans a1
  replace hb := hb.le a1
  replace hr := hr.le a1
  clear a1 y0 y1
  clear z0 z1 z2 z3 z4 z5 z6 z7 z8
  have y0 := cell_le x0 hl
  have y1 := cell_le x1 hl
  obtain ⟨⟨z0, z1, z2, z3, z4⟩, z5, z6, z7, z8⟩ := (hb).mach
  simp only [slV] at z7
  go_wp2_with fail
  refine (m2 _ hl).mono ?_
  rintro e w9 ⟨_, rfl, ⟨⟨c', uR, uP, uT, uH, xR, xP, xT, xH⟩, rfl, HM, o1, ap⟩, l1⟩
  clear m2 y0 y1
  clear z0 z1 z2 z3 z4 z5 z6 z7 z8
  replace bo := bo.le l1
  replace hr := hr.le l1
  replace hl := hl.trans l1
  obtain ⟨⟨r0, r1, r2, r3, r4, r5, r6, r7, r8⟩, k0, k1, k2, k3, k4, k5, k6, k7, k8⟩ := bo.res
  have hne : w.heap.size + 1 ≠ gbo := by omega
  go_upto_region 13 with fail
  clear r0 r1 r2 r3 r4 r5 r6 r7 r8 k0 k1 k2 k3 k4 k5 k6 k7 k8
  have bo2 := bo.put9 rfl c' uR uP uT uH
  have hr2 := hr.off9 hne c' uR uP uT uH
  have hl2 := hl.put9 (g := gbo) (by omega) c' uR uP uT uH
  have o2 := o1.put9 bo c' uR uP uT uH
  show Code.wp _ _ _ _ (put9 w9 gbo c' uR uP uT uH)
  generalize put9 w9 gbo c' uR uP uT uH = W5 at bo2 hr2 hl2 o2 ⊢
  clear bo hr hl o1
  obtain ⟨⟨y0, y1, y2, y3, y4⟩, y5, y6, y7, y8⟩ := (bo2).mach
  obtain ⟨⟨r0, r1, r2, r3, r4, r5, r6, r7, r8⟩, k0, k1, k2, k3, k4, k5, k6, k7, k8⟩ := hr2.res
  go_wp2_with fail
  refine bodyPost_ret (v := .tuple #[machV c' uR uP uT uH, .int .i64 0]) (by simp [results, Tryz.results17, go_sem, r0, r1, r2, r3, r4, r5, r6, r7, r8]) rfl ⟨_, rfl, ?_, hl2.put9 (g := w.heap.size + 1) (by omega) c' uR uP uT uH⟩
  refine ⟨⟨c', uR, uP, uT, uH, xR, xP, xT, xH⟩, rfl, HM, ?_, ap⟩
  exact (o2.base (by omega)).put9 hr2 c' uR uP uT uH

end Go.Proofs.YtnemldboiogdkaaGreat
