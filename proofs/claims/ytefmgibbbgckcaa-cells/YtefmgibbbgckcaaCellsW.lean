/-
  THE WALK over choruslaw1.Cells: it answers true, for every slice of numbers within the reach, every place and every two numbers, and turns nothing that was there.
-/
import Derived.Test.YtefmgibbbgckcaaRef
import Derived.Test.YtefmgibbbgckcaaAwake
namespace Go.Proofs.Ytefmgibbbgckcaa
open Go.RowKit

theorem Own.len {w : World} {base : Nat} {v : Value} {xs : List Int} (h : Own w base v xs) : xs.length ≤ 9223372036854775807 := by
  rcases h.2 with ⟨_, h0⟩ | ⟨g, cap, cur, hv, hg, _, hn, hm, _⟩
  · omega
  · unfold maxLen at hm; omega

theorem Own.grown {w w' : World} {base : Nat} {v : Value} {xs : List Int} {row : Option Nat} (h : Own w base v xs) (hg : w.grownBy w' row) (hlt : ∀ k, row = some k → k < base) : Own w' base v xs := by
  refine World.ownsRow.kept h hg ?_
  cases hv : v.ownBlock with
  | none => exact .inl rfl
  | some k =>
    refine .inr fun he => ?_
    have h1 := hlt k he.symm
    have h2 := (World.ownsRow.lt h k hv).1
    omega

theorem Own.above {w1 w w' : World} {base : Nat} {v : Value} {xs : List Int} {row : Option Nat} (h1 : Own w1 base v xs) (h : Own w base v xs) (hg : w.grownBy w' row) (hlt : ∀ k, row = some k → w1.heap.size ≤ k) : Own w' base v xs := by
  refine World.ownsRow.kept h hg ?_
  cases hv : v.ownBlock with
  | none => exact .inl rfl
  | some k =>
    refine .inr fun he => ?_
    have h1 := (World.ownsRow.lt h1 k hv).2
    have h2 := hlt k he.symm
    omega

theorem Lent.above {w1 w w' : World} {base : Nat} {v : Value} {xs : List Int} {row : Option Nat} (h1 : Lent w1 base v xs) (h : Lent w base v xs) (hg : w.grownBy w' row) (hlt : ∀ k, row = some k → w1.heap.size ≤ k) : Lent w' base v xs := by
  obtain ⟨g, cap, hv, hc, ho⟩ := h
  obtain ⟨g', cap', hv', _, ho'⟩ := h1
  rw [hv] at hv'
  cases hv'
  exact ⟨g, cap, hv, hc, ho'.above ho hg hlt⟩

theorem Le.grown {w0 w w' : World} {row : Option Nat} (h : Le w0 w) (hg : w.grownBy w' row) (hlt : ∀ k, row = some k → w0.heap.size ≤ k) : Le w0 w' :=
  Below.grown h hg h.size hlt

set_option maxHeartbeats 4000000 in
theorem lawCells (w : World) (v : Value) (xs : List Int) (hx : Has w v xs) (hr : xs.length * 8 ≤ 140737488351232) (p : Int) (_hp : -9223372036854775808 ≤ p ∧ p ≤ 9223372036854775807)
    (x : Int) (_hx : -9223372036854775808 ≤ x ∧ x ≤ 9223372036854775807) (y : Int) (_hy : -9223372036854775808 ≤ y ∧ y ≤ 9223372036854775807) :
    Calls Try.prog 3 #[v, .int .i64 p, .int .i64 x, .int .i64 y] w fun e w' => e = .returned (.bool true) ∧ Le w w' := by
  obtain ⟨La, Lb, hload⟩ : ∃ a b, loadS xs p = (a, b) := ⟨_, _, rfl⟩
  obtain ⟨Sa, Sb, hstore⟩ : ∃ a b, storeS xs p x = (a, b) := ⟨_, _, rfl⟩
  obtain ⟨Wa, Wb, Wc, hswap⟩ : ∃ a b c, swapS xs p x y = (a, b, c) := ⟨_, _, _, rfl⟩
  obtain ⟨Aa, Ab, Ac, hadd⟩ : ∃ a b c, addS xs p x = (a, b, c) := ⟨_, _, _, rfl⟩
  go_enter Try.func3, Try.ntmps3
  go_wp2_with fail
  refine (lawLendInts _ xs _ hx hr).mono ?_
  rintro e w1 ⟨u, rfl, hu, l1⟩
  go_wp2_with fail
  refine (cellLoad _ xs _ _ hu.has).mono ?_
  rw [hload]
  rintro e _ ⟨rfl, rfl⟩
  go_wp2_with fail
  refine (refLoad _ xs _ _ (hx.le l1) hr).mono ?_
  rw [hload]
  rintro e _ ⟨rfl, rfl⟩
  go_wp2_with fail
  refine (cellStore _ xs _ _ _ hu.has).mono ?_
  rw [hstore]
  rintro e w2 ⟨v2, rfl, f2⟩
  have l2 := l1.trans f2.le
  have hu2 := hu.le f2.le
  go_wp2_with fail
  refine (refStore _ xs _ _ _ (hx.le l2) hr).mono ?_
  rw [hstore]
  rintro e w3 ⟨v3, rfl, f3⟩
  have l3 := l2.trans f3.le
  have hu3 := hu2.le f3.le
  go_wp2_with fail
  refine (cellSwap _ xs _ _ _ _ hu3.has).mono ?_
  rw [hswap]
  rintro e w4 ⟨v4, rfl, f4⟩
  have l4 := l3.trans f4.le
  have hu4 := hu3.le f4.le
  go_wp2_with fail
  refine (refSwap _ xs _ _ _ _ (hx.le l4) hr).mono ?_
  rw [hswap]
  rintro e w5 ⟨v5, rfl, f5⟩
  have l5 := l4.trans f5.le
  have hu5 := hu4.le f5.le
  go_wp2_with fail
  refine (cellAdd _ xs _ _ _ hu5.has).mono ?_
  rw [hadd]
  rintro e w6 ⟨v6, rfl, f6⟩
  have l6 := l5.trans f6.le
  have hu6 := hu5.le f6.le
  go_wp2_with fail
  refine (refAdd _ xs _ _ _ (hx.le l6) hr).mono ?_
  rw [hadd]
  rintro e w7 ⟨v7, rfl, f7⟩
  have l7 := l6.trans f7.le
  have hu7 := hu6.le f7.le
  have o2 : Own w7 w1.heap.size v2 Sa := ((((f2.1.le f3.le).le f4.le).le f5.le).le f6.le).le f7.le
  have o3 : Own w7 w2.heap.size v3 Sa := (((f3.1.le f4.le).le f5.le).le f6.le).le f7.le
  have o4 : Own w7 w3.heap.size v4 Wa := ((f4.1.le f5.le).le f6.le).le f7.le
  have o5 : Own w7 w4.heap.size v5 Wa := (f5.1.le f6.le).le f7.le
  have o6 : Own w7 w5.heap.size v6 Aa := f6.1.le f7.le
  have o7 : Own w7 w6.heap.size v7 Aa := f7.1
  go_wp2_with (go_at_call 17; refine (lawNum _ _).mono ?_; rintro e _ ⟨rfl, rfl⟩)
  have hne2 : ∀ z : Int, (z != z) = false := fun z => by simp
  have b2 : ∀ k, v2.ownBlock = some k → w1.heap.size ≤ k ∧ k < w2.heap.size := fun k hk => World.ownsRow.lt f2.1 k hk
  have b4 : ∀ k, v4.ownBlock = some k → w3.heap.size ≤ k ∧ k < w4.heap.size := fun k hk => World.ownsRow.lt f4.1 k hk
  have b6 : ∀ k, v6.ownBlock = some k → w5.heap.size ≤ k ∧ k < w6.heap.size := fun k hk => World.ownsRow.lt f6.1 k hk
  have z1 := l1.size
  have z2 := f2.le.size
  have z3 := f3.le.size
  have z4 := f4.le.size
  have z5 := f5.le.size
  have z6 := f6.le.size
  have z7 := f7.le.size
  clear l2 l3 l4 l5 l6 hu2 hu3 hu4 hu5 hu6 f2 f3 f4 f5 f6 f7 hload hstore hswap hadd
  refine (lawSameL _ _ Sa Sa _ o2.has o3.has o2.len).mono ?_
  rw [show decide (Sa = Sa) = true from by simp]
  rintro e w8 ⟨rfl, m8⟩
  go_wp2_with (go_at_call 17; refine (lawNum _ _).mono ?_; rintro e _ ⟨rfl, rfl⟩)
  refine (lawSameL _ _ Wa Wa _ (o4.has.le m8) (o5.has.le m8) o4.len).mono ?_
  rw [show decide (Wa = Wa) = true from by simp]
  rintro e w9 ⟨rfl, m9⟩
  go_wp2_with (go_at_call 17; refine (lawNum _ _).mono ?_; rintro e _ ⟨rfl, rfl⟩)
  refine (lawSameL _ _ Aa Aa _ ((o6.has.le m8).le m9) ((o7.has.le m8).le m9) o6.len).mono ?_
  rw [show decide (Aa = Aa) = true from by simp]
  rintro e w10 ⟨rfl, m10⟩
  have m : Le w7 w10 := (m8.trans m9).trans m10
  have l10 := l7.trans m
  have hu10 := hu7.le m
  replace o2 := o2.le m
  replace o4 := o4.le m
  replace o6 := o6.le m
  have z10 := m.size
  clear o3 o5 o7 m8 m9 m10 l7 hu7 m
  go_wp2_with (go_at_call 17; refine (lawNum _ _).mono ?_; rintro e _ ⟨rfl, rfl⟩)
  refine (lawSpoilInts _ Sa _ _ o2).mono ?_
  rintro e w11 ⟨rfl, g11⟩
  have l11 := l10.grown g11 (fun k hk => by have := b2 k hk; omega)
  have hu11 := hu.above hu10 g11 (fun k hk => by have := b2 k hk; omega)
  have p4 := o4.grown g11 (fun k hk => by have := b2 k hk; omega)
  have p6 := o6.grown g11 (fun k hk => by have := b2 k hk; omega)
  clear g11 hu10 o2 o4 o6 l10
  go_wp2_with fail
  refine (lawSpoilInts _ Wa _ _ p4).mono ?_
  rintro e w12 ⟨rfl, g12⟩
  have l12 := l11.grown g12 (fun k hk => by have := b4 k hk; omega)
  have hu12 := hu.above hu11 g12 (fun k hk => by have := b4 k hk; omega)
  have r6 := p6.grown g12 (fun k hk => by have := b4 k hk; omega)
  clear g12 hu11 p4 p6 l11
  go_wp2_with fail
  refine (lawSpoilInts _ Aa _ _ r6).mono ?_
  rintro e w13 ⟨rfl, g13⟩
  have l13 := l12.grown g13 (fun k hk => by have := b6 k hk; omega)
  have hu13 := hu.above hu12 g13 (fun k hk => by have := b6 k hk; omega)
  clear g13 hu12 r6 l12
  go_wp2_with fail
  refine (lawKeptInts _ _ xs _ _ hu13 (hx.le l13) (by omega)).mono ?_
  rintro e w14 ⟨rfl, m14⟩
  go_wp2_with fail
  refine (lawAwake _).mono ?_
  rintro e w15 ⟨rfl, m15⟩
  go_wp2
  go_ret
  exact ⟨rfl, (l13.trans m14).trans m15⟩

end Go.Proofs.Ytefmgibbbgckcaa
