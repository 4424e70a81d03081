/-
  THE WALK over fds.take: the row without a number, in memory of its own. Condition: the row is the call's own, and has at most a thousand numbers.
-/
import Derived.Test.YtnpejgendmgfaaaFdsA
import Derived.Test.YtnpejgendmgfaaaApp
import Derived.Test.YtnpejgendmgfaaaCnt
namespace Go.Proofs.Ytnpejgendmgfaaa
open Go.RowKit

set_option maxHeartbeats 1000000 in
theorem fdsTake (v : Value) (base : Nat) (xs : List Int) (a0 : Int) (w : World) (hown : Own w base v xs) (hbase : base ≤ w.heap.size) (hl : xs.length ≤ 1000) :
    Calls Try.prog 53 #[v, .int .i64 a0] w fun e w' => ∃ v', e = .returned (.tuple #[v', .int .i64 (takeS xs a0).2]) ∧ Own w' base v' (takeS xs a0).1 ∧ Le w w' := by
  have hidx := slicesIndex v xs a0 w hown.has hl
  have hb := idxFrom_bounds a0 0 xs
  rw [show idxFrom 0 a0 xs = idxS xs a0 from rfl] at hb
  by_cases h4 : idxS xs a0 < 0
  · have HP : Hid (takeS xs a0 = (xs, 0)) := hid (by simp [takeS, h4])
    clear hb
    go_enter Try.func53, Try.ntmps53
    go_wp2_with fail
    refine hidx.mono ?_
    rintro e w1 ⟨rfl, rfl⟩
    go_wp2
    go_ret2
    rw [HP.out]
    exact ⟨_, rfl, hown, Le.refl _⟩
  · have HP : Hid (takeS xs a0 = (xs.take (idxS xs a0).toNat ++ xs.drop ((idxS xs a0).toNat + 1), 1)) := hid (by simp [takeS, h4])
    obtain ⟨i, hi⟩ : ∃ i : Nat, idxS xs a0 = i := ⟨(idxS xs a0).toNat, by omega⟩
    rw [hi] at h4 hidx hb
    rw [show Hid (takeS xs a0 = (xs.take (idxS xs a0).toNat ++ xs.drop ((idxS xs a0).toNat + 1), 1)) = Hid (takeS xs a0 = (xs.take i ++ xs.drop (i + 1), 1)) by rw [hi]; rfl] at HP
    have hlt : i < xs.length := by omega
    obtain ⟨ad, cap, rfl, hc, _, hx⟩ := hown.has
    obtain ⟨b, off, rfl, hcell⟩ := hx (by omega)
    obtain ⟨n, hn⟩ : ∃ n, n = xs.length := ⟨_, rfl⟩
    have hA : Has w (.slice (some ⟨b, off, none⟩) i cap) (xs.take i) := by
      refine ⟨_, cap, by rw [List.length_take, Nat.min_eq_left (by omega)], by rw [List.length_take]; omega, (fun h => by cases h), fun _ => ⟨b, off, rfl, fun j hj => ?_⟩⟩
      rw [List.length_take] at hj
      rw [hcell j (by omega)]
      simp [List.getD, show j < i by omega]
    obtain ⟨A, hAe, hB⟩ : ∃ A, (if cap = i + 1 then some ⟨b, off, none⟩ else some ⟨b, off + (i + 1), none⟩ : Option Addr) = A ∧ Has w (.slice A (n - (i + 1)) (cap - (i + 1))) (xs.drop (i + 1)) := by
      refine ⟨_, rfl, _, _, by rw [List.length_drop, ← hn], by rw [List.length_drop]; omega, (fun h => by split at h <;> cases h), fun hp => ?_⟩
      rw [List.length_drop] at hp
      rw [if_neg (by omega)]
      refine ⟨b, off + (i + 1), rfl, fun j hj => ?_⟩
      rw [List.length_drop] at hj
      rw [getD_drop, Nat.add_assoc, hcell (i + 1 + j) (by omega)]
    have HN : Hid (n = xs.length) := hn
    have hown0 := hown
    rw [← hn] at hc hlt hidx ⊢
    clear hx hcell hb hown hn h4
    have i0 : (0 : Int) ≤ (i : Int) := by omega
    have i1 : (i : Int) < (n : Int) := by omega
    have i2 : (i : Int) + 1 ≤ (n : Int) := by omega
    have i3 : i ≤ cap := by omega
    have i4 : i + 1 ≤ n := by omega
    have i5 : (i : Int) ≤ (cap : Int) := by omega
    have i6 : ((i : Int) + 1).toNat = i + 1 := by omega
    have i7 : IntKind.i64.wrap ((i : Int) + 1) = (i : Int) + 1 := by rw [IntKind.wrap_i64]; have := HN.out; omega
    have i8 : (0 : Int) ≤ (i : Int) + 1 := by omega
    go_enter Try.func53, Try.ntmps53
    go_wp2_with fail
    refine hidx.mono ?_
    rintro e w1 ⟨rfl, rfl⟩
    go_wp2_with fail
    go_region_law (first
      | (refine step_append_ints rfl (.const (.slice none 0 0)) (.tmp 15) rfl w.heap.size (.slice none 0 0) (.slice (some ⟨b, off, none⟩) i cap) [] (xs.take i) (by simp [Act.eval]) (by simp [Act.eval, Act.put]) (Own.nil _ _) hA (by simp; omega) (Nat.le_refl _) ?_; intro v1 w1 o1 g1)
      | (refine step_append_ints rfl (.tmp 16) (.tmp 20) rfl w.heap.size v1 (.slice A (n - (i + 1)) (cap - (i + 1))) _ (xs.drop (i + 1)) (by simp [Act.eval]) (by simp [Act.eval]) o1 (hB.le (Below.grown (Le.drew w) g1 (Nat.le_refl _) (fun g e => by cases e))) (by simp; omega) g1.size ?_; intro v2 w2 o2 g2))
    all_goals
      go_wp2
      go_ret2
      rw [HP.out]
      rw [List.nil_append] at o2
      exact ⟨_, rfl, o2.base hbase, Below.grown (Below.grown (Le.drew w) g1 (Nat.le_refl _) (fun g e => by cases e)) g2 g1.size (fun g e => (o1.block e).1)⟩

theorem fdsPutT : TurnsRow 52 (fun xs _ => putS xs) :=
  ⟨fun _ _ _ => by kernel_rfl, fun v base xs a w ho hb hl _ => fdsPut v base xs a w ho hb (by omega)⟩
theorem fdsTakeT : TurnsRow 53 takeS :=
  ⟨fun _ _ _ => by kernel_rfl, fun v base xs a w ho hb hl _ => (fdsTake v base xs a w ho hb (by omega)).mono fun _ _ ⟨v', he, h1, h2⟩ => ⟨v', he, h1, h2.grownBy _⟩⟩

end Go.Proofs.Ytnpejgendmgfaaa
