/-
  THE WALKS over slices.Clone at []int and over append([]int{}, xs...): a new row that holds the same numbers. Condition: the slice's bytes are within the reach that every row bears.
-/
import Derived.Test.YtefmgibbbgckcaaCellA
import Derived.Laws.AppendOwnNone
import Derived.Lib.SliceRun
namespace Go.Proofs.Ytefmgibbbgckcaa
open Go.RowKit

theorem info3 : (Try.prog.info? 3).map (fun i => (i.zero, i.size, i.bytes)) = some (some (.int .i64 0), 1, 8) := by kernel_rfl

theorem ints_at_news {w : World} {xs : List Int} {b off : Nat} (h : ∀ i, i < xs.length → w.cell? ⟨b, off + i, none⟩ = some (.int .i64 (xs.getD i 0))) :
    ∀ j u, (xs.map (Value.int .i64))[j]? = some u → w.cell? ((⟨b, off, none⟩ : Addr).add j) = some u := by
  intro j u hj
  rw [List.getElem?_map] at hj
  have hlt : j < xs.length := by
    rcases Nat.lt_or_ge j xs.length with h' | h'
    · exact h'
    · rw [List.getElem?_eq_none h'] at hj; cases hj
  have h1 := h j hlt
  have e : (⟨b, off, none⟩ : Addr).add j = ⟨b, off + j, none⟩ := by
    simp only [Addr.add]; split
    · next h => subst h; rfl
    · rfl
  rw [e, h1]
  rw [List.getElem?_eq_getElem hlt] at hj
  simpa [List.getD, hlt] using hj

/-- The cells that a source of an append gives. -/
theorem Has.news {w w' : World} {a : Addr} {cap : Nat} {xs : List Int} (h : Has w (.slice (some a) xs.length cap) xs) (hb : Below w.heap.size w w') :
    ∀ j u, (xs.map (Value.int .i64))[j]? = some u → w'.cell? (a.add j) = some u := by
  obtain ⟨a', cap', hv, hc, hn, hx⟩ := h.later hb
  simp only [Value.slice.injEq, true_and] at hv
  obtain ⟨rfl, rfl⟩ := hv
  intro j u hj
  have hlt : j < xs.length := by
    rcases Nat.lt_or_ge j xs.length with h' | h'
    · exact h'
    · rw [List.getElem?_eq_none (by simpa using h')] at hj; cases hj
  obtain ⟨b, off, ha, hcell⟩ := hx (by omega)
  simp only [Option.some.injEq] at ha
  subst ha
  exact ints_at_news hcell j u hj

theorem Own.of {w : World} {base n : Nat} {v : Value} {xs : List Int} {us : List Value} (h : w.ownsRow base 3 1 v n us) (hn : n = xs.length) (hu : us = xs.map (Value.int .i64)) : Own w base v xs := by
  subst hn hu; exact h

set_option maxHeartbeats 400000 in
theorem sliceClone (v : Value) (xs : List Int) (w : World) (hx : Has w v xs) (hr : xs.length * 8 ≤ 140737488355328) :
    Calls Try.prog 29 #[v] w fun e w' => ∃ v', e = .returned v' ∧ Own w' w.heap.size v' xs ∧ Below w.heap.size w w' := by
  have hx0 := hx
  obtain ⟨a, cap, rfl, hc, hn, hx⟩ := hx
  obtain ⟨i0, hi, hz0, hz1, hz2⟩ := info_parts info3
  have q22 : ∀ (w : World) (a : Option Addr) (n c n' c' : Nat), (binOp .eql 22 (.slice a n c) (.slice none n' c')).run Try.prog w = .ok (.bool a.isNone) w := fun w a n c n' c' => Lib.run_eql_slice_nil w 22 3 a n c n' c' Try.underlying22
  cases a with
  | none =>
    have h0 := hn rfl
    have hnil : xs = [] := by cases xs with | nil => rfl | cons _ _ => simp at hc; omega
    subst hnil
    go_enter Try.func29, Try.ntmps29
    go_wp2
    go_ret
    exact ⟨_, rfl, World.ownsRow_nil _ _ _ _, Below.refl _ _⟩
  | some ad =>
    have hb0 : Below w.heap.size w (w.alloc (.cells #[] 3)) := (Below.refl _ _).alloc (Nat.le_refl _) _
    have HN := hx0.news hb0
    clear hx hn hc hx0
    go_enter Try.func29, Try.ntmps29
    go_wp2_with (at_builtin; refine wpList_append_own _ rfl _ _ 22 rfl w.heap.size 3 i0 (.int .i64 0) 1 8 Try.underlying22 hi hz0 hz1 hz2 rfl (by decide) _ 0 [] rfl (World.ownsRow_lit w #[] 0 (Nat.le_refl _) (by decide) rfl) ad xs.length cap (xs.map (Value.int .i64)) rfl (by simp) HN (ints_oneCell _ _) (by unfold maxLen; omega) (by omega) (by simp) ?_; intro v' w1 hown hgrow _)
    go_ret
    exact ⟨_, rfl, Own.of hown (by simp) (by simp), hb0.grown hgrow (by simp) (fun k hk => by cases hk; exact Nat.le_refl _)⟩

set_option maxHeartbeats 400000 in
theorem lawCopyInts (v : Value) (xs : List Int) (w : World) (hx : Has w v xs) (hr : xs.length * 8 ≤ 140737488355328) :
    Calls Try.prog 22 #[v] w fun e w' => ∃ v', e = .returned v' ∧ Own w' w.heap.size v' xs ∧ Below w.heap.size w w' := by
  have hx0 := hx
  obtain ⟨a, cap, rfl, hc, hn, hx⟩ := hx
  obtain ⟨i0, hi, hz0, hz1, hz2⟩ := info_parts info3
  have hb0 : Below w.heap.size w (w.alloc (.cells #[] 3)) := (Below.refl _ _).alloc (Nat.le_refl _) _
  cases a with
  | none =>
    have h0 := hn rfl
    have hnil : xs = [] := by cases xs with | nil => rfl | cons _ _ => simp at hc; omega
    subst hnil h0
    go_enter Try.func22, Try.ntmps22
    go_wp2_with (at_builtin; refine wpList_append_own_none rfl _ _ 22 rfl w.heap.size 3 i0 1 Try.underlying22 hi _ 0 [] rfl (World.ownsRow_lit w #[] 0 (Nat.le_refl _) (by decide) rfl) rfl ?_)
    go_ret
    exact ⟨_, rfl, World.ownsRow_lit w #[] 0 (Nat.le_refl _) (by decide) rfl, hb0⟩
  | some ad =>
    have HN := hx0.news hb0
    clear hx hn hc hx0
    go_enter Try.func22, Try.ntmps22
    go_wp2_with (at_builtin; refine wpList_append_own _ rfl _ _ 22 rfl w.heap.size 3 i0 (.int .i64 0) 1 8 Try.underlying22 hi hz0 hz1 hz2 rfl (by decide) _ 0 [] rfl (World.ownsRow_lit w #[] 0 (Nat.le_refl _) (by decide) rfl) ad xs.length cap (xs.map (Value.int .i64)) rfl (by simp) HN (ints_oneCell _ _) (by unfold maxLen; omega) (by omega) (by simp) ?_; intro v' w1 hown hgrow _)
    go_ret
    exact ⟨_, rfl, Own.of hown (by simp) (by simp), hb0.grown hgrow (by simp) (fun k hk => by cases hk; exact Nat.le_refl _)⟩

/-- What a store at a place of an owned row leaves. -/
theorem Own.set {w : World} {base : Nat} {v : Value} {xs : List Int} {p : Nat} (h : Own w base v xs) (hp : p < xs.length) (x : Int) :
    ∃ g cap, v = .slice (some ⟨g, 0, none⟩) xs.length cap ∧ base ≤ g ∧ g < w.heap.size ∧ w.frozen? ⟨g, p, none⟩ = false ∧ w.cell? ⟨g, p, none⟩ = some (.int .i64 (xs.getD p 0)) ∧
      Own (w.setCell ⟨g, p, none⟩ (.int .i64 x)) base v (xs.set p x) := by
  have h' := h
  obtain ⟨h1, h2⟩ := h
  rcases h2 with ⟨h2, h3⟩ | ⟨g, cap, cur, hv, hg, hh, r⟩
  · omega
  · refine ⟨g, cap, hv, hg, block_lt hh, ?_, ?_, ?_⟩
    · rw [hv] at h'; exact World.ownsRow.frozenAt h' p
    · rw [hv] at h'
      rw [World.ownsRow.cellAt h' p (by omega)]
      simp [List.getElem?_map, List.getElem?_eq_getElem hp, List.getD]
    · rw [hv] at h' ⊢
      have h3 := (World.ownsRow.stored h' p (.int .i64 x)).1
      exact Own.of (by simpa using h3) (by simp) (by simp [List.map_set])

set_option maxHeartbeats 400000 in
theorem cellWith (v : Value) (xs : List Int) (p x : Int) (w : World) (hx : Has w v xs) (hr : xs.length * 8 ≤ 140737488355328) (h0 : 0 ≤ p) (h1 : p < xs.length) :
    Calls Try.prog 26 #[v, .int .i64 p, .int .i64 x] w fun e w' => ∃ v', e = .returned v' ∧ Own w' w.heap.size v' (xs.set p.toNat x) ∧ Below w.heap.size w w' := by
  go_enter Try.func26, Try.ntmps26
  go_wp2_with (go_at_call 29; refine (sliceClone _ xs _ hx hr).mono ?_; rintro e w' ⟨v', rfl, hown, hbel⟩; obtain ⟨g, cap, rfl, hg, hgs, hfz, hcl, hset⟩ := hown.set (p := p.toNat) (by omega) x)
  go_ret
  exact ⟨_, rfl, hset, hbel.setCell hg _⟩

end Go.Proofs.Ytefmgibbbgckcaa
