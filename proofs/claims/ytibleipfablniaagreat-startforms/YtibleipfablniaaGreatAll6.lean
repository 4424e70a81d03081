/-
  PARTS LAID TOGETHER, each with its own opening: LoA, LoB, HasBox, ObjA, ObjB, LoC, LoD, NwAwake, SfW0, SfW1, SfW2, SfW3, SfW4, SfW5, SfW6, SfW7, SfW8, SfW9, SfW10, SfW11, SfW12, SfW13, SfW14, SfW15, SfW16, SfW17, SfW18, SfW19.
-/
import Derived.Test.YtibleipfablniaaGreatAll5
import Derived.Test.YtibleipfablniaaGreatAll1
import Derived.Test.YtibleipfablniaaGreatAll3
import Derived.Test.YtibleipfablniaaGreatAll2
import Derived.Deep.RegionHeld3
import Derived.Deep.Cut
import Derived.Test.YtibleipfablniaaGreatAll4
import Derived.Deep.RegionWith
/-
  THE WALKS over package lists' All and package start's exactly and atMost, at logs, slots, replicas, threads, events and numbers, with a method value that holds its receiver: what each answers. Condition: no more elements than an int tells.
-/
namespace Go.Proofs.YtibleipfablniaaGreat
open Go.RowKit

theorem allE_take {α : Type} {xs : List α} {d : α} {p : α → Bool} {k : Nat} (hk : k < xs.length) (h : (xs.take k).all p = true) (hp : p (xs.getD k d) = true) : (xs.take (k + 1)).all p = true := by
  rw [List.take_succ_eq_append_getElem hk, List.all_append, h]
  simp [List.getD, hk] at hp
  simp [hp]
theorem allE_no {α : Type} {xs : List α} {d : α} {p : α → Bool} {k : Nat} (hk : k < xs.length) (hp : p (xs.getD k d) = false) : xs.all p = false := by
  rw [← Bool.not_eq_true, List.all_eq_true]
  intro h
  have := h (xs.getD k d) (by simp [List.getD, hk])
  rw [hp] at this
  cases this
/-- The value v is a slot's. -/
def IsSlot (_w : World) (v : Value) (s : Slt) : Prop := v = s.v
/-- The value v is an event's. -/
def IsEv (_w : World) (v : Value) (E : Ev) : Prop := v = evV E
/-- The value v is a number's. -/
def IsInt (_w : World) (v : Value) (x : Int) : Prop := v = .int .i64 x
theorem HasL.open {w : World} {v : Value} {ss : List Slt} (h : HasL w v ss) : ∃ (a : Option Addr) (cap : Nat), v = .slice a ss.length cap ∧ ss.length ≤ cap ∧ (a = none → cap = 0) ∧
    (0 < ss.length → ∃ b off, a = some ⟨b, off, none⟩ ∧ ∀ i, i < ss.length → SlotAt w b (off + i * 5) (ss.getD i Slt.zero)) := h
theorem Has.open {w : World} {v : Value} {xs : List Int} (h : Has w v xs) : ∃ (a : Option Addr) (cap : Nat), v = .slice a xs.length cap ∧ xs.length ≤ cap ∧ (a = none → cap = 0) ∧
    (0 < xs.length → ∃ b off, a = some ⟨b, off, none⟩ ∧ ∀ i, i < xs.length → w.cell? ⟨b, off + i, none⟩ = some (.int .i64 (xs.getD i 0))) := h

set_option maxHeartbeats 1000000 in
theorem allRing (f : Nat) (c : Value) (p : Rg → Bool) (hc : ∀ (u : Value) (w : World), (callFunc f #[c, u]).run Tryz.prog w = .ok (.enter f #[c, u]) w) (v : Value) (xs : List Rg) (w : World)
    (hp : ∀ w', Le w w' → ∀ (u : Value) (x : Rg), x ∈ xs → HasR w' u x → Calls Tryz.prog f #[c, u] w' fun e w'' => e = .returned (.bool (p x)) ∧ Le w' w'') (hx : HasRs w v xs) (hm : xs.length ≤ 9223372036854775807) :
    Calls Tryz.prog 51 #[v, .func (.func f) #[c] #[]] w fun e w' => e = .returned (.bool (xs.all p)) ∧ Le w w' := by
  obtain ⟨a, cap, rfl, hc', _, hx⟩ := hx.open
  by_cases h0 : 0 < xs.length
  · obtain ⟨b, off, rfl, hcell⟩ := hx h0
    clear hx
    obtain ⟨L, hL⟩ : ∃ L, L = xs.length := ⟨_, rfl⟩
    have HL : Hid (L = xs.length) := hL
    rw [← hL] at hm h0 hc' hcell ⊢
    clear hL
    go_enter Tryz.func51, Tryz.ntmps51
    go_wp2
    go_loopw [9] (fun i wr => ∃ k : Nat, k ≤ L ∧ i = .int .i64 k ∧ Hid ((xs.take k).all p = true) ∧ Le w wr) (fun i _ => L - (intOf i).toNat)
    case atStart => exact ⟨0, by omega, rfl, rfl, Le.refl _⟩
    case round =>
      obtain ⟨k, hk, rfl, HA, hle⟩ := hrel
      by_cases hlt : k < L
      · obtain ⟨q, rA, hq⟩ := hcell k hlt
        obtain ⟨s, hs⟩ : ∃ s, s = xs.getD k Rg.zero := ⟨_, rfl⟩
        have HS : Hid (s = xs.getD k Rg.zero) := hs
        have hmem : s ∈ xs := by rw [hs]; exact getD_mem (by have := HL.out; omega)
        rw [← hs] at rA hq
        obtain ⟨x0, x1, x2, x3⟩ := rA.le hle
        have hlt' : (k : Int) < (L : Int) := by omega
        clear hs hcell
        have hm2 := fun o => hp (wr.alloc o) (hle.trans (Le.alloc _ _)) (ringV s.h s.t s.f q) s hmem (⟨q, rfl, (hq.le hle).le (Le.alloc _ _)⟩)
        clear hp hmem
        cases hh : p s
        · simp only [hh] at hm2
          go_wp2_with fail
          refine (hm2 _).mono ?_
          rintro e w1 ⟨rfl, l1⟩
          go_wp2
          go_ret
          exact ⟨ret_bool (allE_no (k := k) (d := Rg.zero) (by have := HL.out; omega) (by rw [← HS.out]; exact hh)).symm, (hle.trans (Le.alloc _ _)).trans l1⟩
        · simp only [hh] at hm2
          go_wp2_with fail
          refine (hm2 _).mono ?_
          rintro e w1 ⟨rfl, l1⟩
          go_wp2
          go_roundw
          case rel => exact ⟨k + 1, by omega, by go_num, allE_take (d := Rg.zero) (by have := HL.out; omega) HA.out (by rw [← HS.out]; exact hh), (hle.trans (Le.alloc _ _)).trans l1⟩
          case measure => simp [intOf]; omega
      · obtain rfl : k = L := by omega
        go_wp2
        go_ret
        exact ⟨ret_bool (by have := HA.out; rw [HL.out, List.take_length] at this; exact this.symm), hle⟩
  · have hxn : xs = [] := by cases xs with | nil => rfl | cons _ _ => simp at h0
    subst hxn
    go_enter Tryz.func51, Tryz.ntmps51
    go_wp2
    refine wp_loop_rounds 1 ?_
    rw [rounds_succ]
    go_wp2
    go_ret
    exact ⟨rfl, Le.refl _⟩

theorem exactlyRing (f : Nat) (c : Value) (p : Rg → Bool) (hc : ∀ (u : Value) (w : World), (callFunc f #[c, u]).run Tryz.prog w = .ok (.enter f #[c, u]) w) (v : Value) (xs : List Rg) (n : Int) (w : World)
    (hp : ∀ w', Le w w' → ∀ (u : Value) (x : Rg), x ∈ xs → (xs.length : Int) = n → HasR w' u x → Calls Tryz.prog f #[c, u] w' fun e w'' => e = .returned (.bool (p x)) ∧ Le w' w'') (hx : HasRs w v xs) (hm : xs.length ≤ 9223372036854775807) :
    Calls Tryz.prog 26 #[v, .int .i64 n, .func (.func f) #[c] #[]] w fun e w' => e = .returned (.bool (decide ((xs.length : Int) = n) && xs.all p)) ∧ Le w w' := by
  by_cases hn : (xs.length : Int) = n
  · have hall := allRing f c p hc v xs w (fun w' l u x hm h => hp w' l u x hm hn h) hx hm
    rw [decide_eq_true hn, Bool.true_and]
    generalize xs.all p = y at hall
    obtain ⟨a, cap, rfl, _, _, _⟩ := hx.open
    have hb : ((xs.length : Int) == n) = true := by simp [hn]
    clear hp hc hn
    go_enter Tryz.func26, Tryz.ntmps26
    go_wp2_with fail
    refine hall.mono ?_
    rintro e w1 ⟨rfl, l1⟩
    go_wp2_with fail
    go_ret
    exact ⟨rfl, l1⟩
  · rw [decide_eq_false hn, Bool.false_and]
    obtain ⟨a, cap, rfl, _, _, _⟩ := hx.open
    have hb : ((xs.length : Int) == n) = false := by simp [hn]
    clear hp hc hn
    go_enter Tryz.func26, Tryz.ntmps26
    go_wp2_with fail
    go_ret
    exact ⟨rfl, Le.refl _⟩

set_option maxHeartbeats 1000000 in
theorem allSlot (f : Nat) (c : Value) (p : Slt → Bool) (hc : ∀ (u : Value) (w : World), (callFunc f #[c, u]).run Tryz.prog w = .ok (.enter f #[c, u]) w) (v : Value) (xs : List Slt) (w : World)
    (hp : ∀ w', Le w w' → ∀ (u : Value) (x : Slt), x ∈ xs → IsSlot w' u x → Calls Tryz.prog f #[c, u] w' fun e w'' => e = .returned (.bool (p x)) ∧ Le w' w'') (hx : HasL w v xs) (hm : xs.length ≤ 9223372036854775807) :
    Calls Tryz.prog 54 #[v, .func (.func f) #[c] #[]] w fun e w' => e = .returned (.bool (xs.all p)) ∧ Le w w' := by
  obtain ⟨a, cap, rfl, hc', _, hx⟩ := hx.open
  by_cases h0 : 0 < xs.length
  · obtain ⟨b, off, rfl, hcell⟩ := hx h0
    clear hx
    obtain ⟨L, hL⟩ : ∃ L, L = xs.length := ⟨_, rfl⟩
    have HL : Hid (L = xs.length) := hL
    rw [← hL] at hm h0 hc' hcell ⊢
    clear hL
    go_enter Tryz.func54, Tryz.ntmps54
    go_wp2
    go_loopw [9] (fun i wr => ∃ k : Nat, k ≤ L ∧ i = .int .i64 k ∧ Hid ((xs.take k).all p = true) ∧ Le w wr) (fun i _ => L - (intOf i).toNat)
    case atStart => exact ⟨0, by omega, rfl, rfl, Le.refl _⟩
    case round =>
      obtain ⟨k, hk, rfl, HA, hle⟩ := hrel
      by_cases hlt : k < L
      · have rA := hcell k hlt
        obtain ⟨s, hs⟩ : ∃ s, s = xs.getD k Slt.zero := ⟨_, rfl⟩
        have HS : Hid (s = xs.getD k Slt.zero) := hs
        have hmem : s ∈ xs := by rw [hs]; exact getD_mem (by have := HL.out; omega)
        rw [← hs] at rA
        obtain ⟨x0, x1, x2, x3, x4⟩ := rA.le hle
        have hlt' : (k : Int) < (L : Int) := by omega
        clear hs hcell
        have hm2 := fun o => hp (wr.alloc o) (hle.trans (Le.alloc _ _)) (s.v) s hmem (rfl)
        clear hp hmem
        cases hh : p s
        · simp only [hh] at hm2
          go_wp2_with fail
          refine (hm2 _).mono ?_
          rintro e w1 ⟨rfl, l1⟩
          go_wp2
          go_ret
          exact ⟨ret_bool (allE_no (k := k) (d := Slt.zero) (by have := HL.out; omega) (by rw [← HS.out]; exact hh)).symm, (hle.trans (Le.alloc _ _)).trans l1⟩
        · simp only [hh] at hm2
          go_wp2_with fail
          refine (hm2 _).mono ?_
          rintro e w1 ⟨rfl, l1⟩
          go_wp2
          go_roundw
          case rel => exact ⟨k + 1, by omega, by go_num, allE_take (d := Slt.zero) (by have := HL.out; omega) HA.out (by rw [← HS.out]; exact hh), (hle.trans (Le.alloc _ _)).trans l1⟩
          case measure => simp [intOf]; omega
      · obtain rfl : k = L := by omega
        go_wp2
        go_ret
        exact ⟨ret_bool (by have := HA.out; rw [HL.out, List.take_length] at this; exact this.symm), hle⟩
  · have hxn : xs = [] := by cases xs with | nil => rfl | cons _ _ => simp at h0
    subst hxn
    go_enter Tryz.func54, Tryz.ntmps54
    go_wp2
    refine wp_loop_rounds 1 ?_
    rw [rounds_succ]
    go_wp2
    go_ret
    exact ⟨rfl, Le.refl _⟩

set_option maxHeartbeats 1000000 in
theorem allRep (f : Nat) (c : Value) (p : Rp → Bool) (hc : ∀ (u : Value) (w : World), (callFunc f #[c, u]).run Tryz.prog w = .ok (.enter f #[c, u]) w) (v : Value) (xs : List Rp) (w : World)
    (hp : ∀ w', Le w w' → ∀ (u : Value) (x : Rp), x ∈ xs → HasP w' u x → Calls Tryz.prog f #[c, u] w' fun e w'' => e = .returned (.bool (p x)) ∧ Le w' w'') (hx : HasPs w v xs) (hm : xs.length ≤ 9223372036854775807) :
    Calls Tryz.prog 56 #[v, .func (.func f) #[c] #[]] w fun e w' => e = .returned (.bool (xs.all p)) ∧ Le w w' := by
  obtain ⟨a, cap, rfl, hc', _, hx⟩ := hx.open
  by_cases h0 : 0 < xs.length
  · obtain ⟨b, off, rfl, hcell⟩ := hx h0
    clear hx
    obtain ⟨L, hL⟩ : ∃ L, L = xs.length := ⟨_, rfl⟩
    have HL : Hid (L = xs.length) := hL
    rw [← hL] at hm h0 hc' hcell ⊢
    clear hL
    go_enter Tryz.func56, Tryz.ntmps56
    go_wp2
    go_loopw [9] (fun i wr => ∃ k : Nat, k ≤ L ∧ i = .int .i64 k ∧ Hid ((xs.take k).all p = true) ∧ Le w wr) (fun i _ => L - (intOf i).toNat)
    case atStart => exact ⟨0, by omega, rfl, rfl, Le.refl _⟩
    case round =>
      obtain ⟨k, hk, rfl, HA, hle⟩ := hrel
      by_cases hlt : k < L
      · obtain ⟨vs, c0, l0, rA, hq0, hq1, hq2⟩ := hcell k hlt
        obtain ⟨s, hs⟩ : ∃ s, s = xs.getD k Rp.zero := ⟨_, rfl⟩
        have HS : Hid (s = xs.getD k Rp.zero) := hs
        have hmem : s ∈ xs := by rw [hs]; exact getD_mem (by have := HL.out; omega)
        rw [← hs] at hq0 hq1 hq2
        obtain ⟨x0, x1, x2, x3, x4, x5⟩ := rA.le hle
        have hlt' : (k : Int) < (L : Int) := by omega
        clear hs hcell
        have hm2 := fun o => hp (wr.alloc o) (hle.trans (Le.alloc _ _)) (repV vs c0 l0) s hmem (⟨vs, c0, l0, rfl, fun i hi => ((hq0 i hi).le hle).le (Le.alloc _ _), (hq1.le hle).le (Le.alloc _ _), (hq2.le hle).le (Le.alloc _ _)⟩)
        clear hp hmem
        cases hh : p s
        · simp only [hh] at hm2
          go_wp2_with fail
          refine (hm2 _).mono ?_
          rintro e w1 ⟨rfl, l1⟩
          go_wp2
          go_ret
          exact ⟨ret_bool (allE_no (k := k) (d := Rp.zero) (by have := HL.out; omega) (by rw [← HS.out]; exact hh)).symm, (hle.trans (Le.alloc _ _)).trans l1⟩
        · simp only [hh] at hm2
          go_wp2_with fail
          refine (hm2 _).mono ?_
          rintro e w1 ⟨rfl, l1⟩
          go_wp2
          go_roundw
          case rel => exact ⟨k + 1, by omega, by go_num, allE_take (d := Rp.zero) (by have := HL.out; omega) HA.out (by rw [← HS.out]; exact hh), (hle.trans (Le.alloc _ _)).trans l1⟩
          case measure => simp [intOf]; omega
      · obtain rfl : k = L := by omega
        go_wp2
        go_ret
        exact ⟨ret_bool (by have := HA.out; rw [HL.out, List.take_length] at this; exact this.symm), hle⟩
  · have hxn : xs = [] := by cases xs with | nil => rfl | cons _ _ => simp at h0
    subst hxn
    go_enter Tryz.func56, Tryz.ntmps56
    go_wp2
    refine wp_loop_rounds 1 ?_
    rw [rounds_succ]
    go_wp2
    go_ret
    exact ⟨rfl, Le.refl _⟩

theorem exactlyRep (f : Nat) (c : Value) (p : Rp → Bool) (hc : ∀ (u : Value) (w : World), (callFunc f #[c, u]).run Tryz.prog w = .ok (.enter f #[c, u]) w) (v : Value) (xs : List Rp) (n : Int) (w : World)
    (hp : ∀ w', Le w w' → ∀ (u : Value) (x : Rp), x ∈ xs → (xs.length : Int) = n → HasP w' u x → Calls Tryz.prog f #[c, u] w' fun e w'' => e = .returned (.bool (p x)) ∧ Le w' w'') (hx : HasPs w v xs) (hm : xs.length ≤ 9223372036854775807) :
    Calls Tryz.prog 28 #[v, .int .i64 n, .func (.func f) #[c] #[]] w fun e w' => e = .returned (.bool (decide ((xs.length : Int) = n) && xs.all p)) ∧ Le w w' := by
  by_cases hn : (xs.length : Int) = n
  · have hall := allRep f c p hc v xs w (fun w' l u x hm h => hp w' l u x hm hn h) hx hm
    rw [decide_eq_true hn, Bool.true_and]
    generalize xs.all p = y at hall
    obtain ⟨a, cap, rfl, _, _, _⟩ := hx.open
    have hb : ((xs.length : Int) == n) = true := by simp [hn]
    clear hp hc hn
    go_enter Tryz.func28, Tryz.ntmps28
    go_wp2_with fail
    refine hall.mono ?_
    rintro e w1 ⟨rfl, l1⟩
    go_wp2_with fail
    go_ret
    exact ⟨rfl, l1⟩
  · rw [decide_eq_false hn, Bool.false_and]
    obtain ⟨a, cap, rfl, _, _, _⟩ := hx.open
    have hb : ((xs.length : Int) == n) = false := by simp [hn]
    clear hp hc hn
    go_enter Tryz.func28, Tryz.ntmps28
    go_wp2_with fail
    go_ret
    exact ⟨rfl, Le.refl _⟩

set_option maxHeartbeats 1000000 in
theorem allTh (f : Nat) (c : Value) (p : Th → Bool) (hc : ∀ (u : Value) (w : World), (callFunc f #[c, u]).run Tryz.prog w = .ok (.enter f #[c, u]) w) (v : Value) (xs : List Th) (w : World)
    (hp : ∀ w', Le w w' → ∀ (u : Value) (x : Th), x ∈ xs → HasT w' u x → Calls Tryz.prog f #[c, u] w' fun e w'' => e = .returned (.bool (p x)) ∧ Le w' w'') (hx : HasTs w v xs) (hm : xs.length ≤ 9223372036854775807) :
    Calls Tryz.prog 60 #[v, .func (.func f) #[c] #[]] w fun e w' => e = .returned (.bool (xs.all p)) ∧ Le w w' := by
  obtain ⟨a, cap, rfl, hc', _, hx⟩ := hx.open
  by_cases h0 : 0 < xs.length
  · obtain ⟨b, off, rfl, hcell⟩ := hx h0
    clear hx
    obtain ⟨L, hL⟩ : ∃ L, L = xs.length := ⟨_, rfl⟩
    have HL : Hid (L = xs.length) := hL
    rw [← hL] at hm h0 hc' hcell ⊢
    clear hL
    go_enter Tryz.func60, Tryz.ntmps60
    go_wp2
    go_loopw [9] (fun i wr => ∃ k : Nat, k ≤ L ∧ i = .int .i64 k ∧ Hid ((xs.take k).all p = true) ∧ Le w wr) (fun i _ => L - (intOf i).toNat)
    case atStart => exact ⟨0, by omega, rfl, rfl, Le.refl _⟩
    case round =>
      obtain ⟨k, hk, rfl, HA, hle⟩ := hrel
      by_cases hlt : k < L
      · obtain ⟨q, t, rA, hq, ht⟩ := hcell k hlt
        obtain ⟨s, hs⟩ : ∃ s, s = xs.getD k Th.zero := ⟨_, rfl⟩
        have HS : Hid (s = xs.getD k Th.zero) := hs
        have hmem : s ∈ xs := by rw [hs]; exact getD_mem (by have := HL.out; omega)
        rw [← hs] at rA hq ht
        obtain ⟨x0, x1, x2, x3, x4, x5, x6, x7, x8, x9, x10, x11⟩ := rA.le hle
        have hlt' : (k : Int) < (L : Int) := by omega
        clear hs hcell
        have hm2 := fun o => hp (wr.alloc o) (hle.trans (Le.alloc _ _)) (thV s q t) s hmem (⟨q, t, rfl, (hq.le hle).le (Le.alloc _ _), (ht.le hle).le (Le.alloc _ _)⟩)
        clear hp hmem
        cases hh : p s
        · simp only [hh] at hm2
          go_wp2_with fail
          refine (hm2 _).mono ?_
          rintro e w1 ⟨rfl, l1⟩
          go_wp2
          go_ret
          exact ⟨ret_bool (allE_no (k := k) (d := Th.zero) (by have := HL.out; omega) (by rw [← HS.out]; exact hh)).symm, (hle.trans (Le.alloc _ _)).trans l1⟩
        · simp only [hh] at hm2
          go_wp2_with fail
          refine (hm2 _).mono ?_
          rintro e w1 ⟨rfl, l1⟩
          go_wp2
          go_roundw
          case rel => exact ⟨k + 1, by omega, by go_num, allE_take (d := Th.zero) (by have := HL.out; omega) HA.out (by rw [← HS.out]; exact hh), (hle.trans (Le.alloc _ _)).trans l1⟩
          case measure => simp [intOf]; omega
      · obtain rfl : k = L := by omega
        go_wp2
        go_ret
        exact ⟨ret_bool (by have := HA.out; rw [HL.out, List.take_length] at this; exact this.symm), hle⟩
  · have hxn : xs = [] := by cases xs with | nil => rfl | cons _ _ => simp at h0
    subst hxn
    go_enter Tryz.func60, Tryz.ntmps60
    go_wp2
    refine wp_loop_rounds 1 ?_
    rw [rounds_succ]
    go_wp2
    go_ret
    exact ⟨rfl, Le.refl _⟩

theorem exactlyTh (f : Nat) (c : Value) (p : Th → Bool) (hc : ∀ (u : Value) (w : World), (callFunc f #[c, u]).run Tryz.prog w = .ok (.enter f #[c, u]) w) (v : Value) (xs : List Th) (n : Int) (w : World)
    (hp : ∀ w', Le w w' → ∀ (u : Value) (x : Th), x ∈ xs → (xs.length : Int) = n → HasT w' u x → Calls Tryz.prog f #[c, u] w' fun e w'' => e = .returned (.bool (p x)) ∧ Le w' w'') (hx : HasTs w v xs) (hm : xs.length ≤ 9223372036854775807) :
    Calls Tryz.prog 30 #[v, .int .i64 n, .func (.func f) #[c] #[]] w fun e w' => e = .returned (.bool (decide ((xs.length : Int) = n) && xs.all p)) ∧ Le w w' := by
  by_cases hn : (xs.length : Int) = n
  · have hall := allTh f c p hc v xs w (fun w' l u x hm h => hp w' l u x hm hn h) hx hm
    rw [decide_eq_true hn, Bool.true_and]
    generalize xs.all p = y at hall
    obtain ⟨a, cap, rfl, _, _, _⟩ := hx.open
    have hb : ((xs.length : Int) == n) = true := by simp [hn]
    clear hp hc hn
    go_enter Tryz.func30, Tryz.ntmps30
    go_wp2_with fail
    refine hall.mono ?_
    rintro e w1 ⟨rfl, l1⟩
    go_wp2_with fail
    go_ret
    exact ⟨rfl, l1⟩
  · rw [decide_eq_false hn, Bool.false_and]
    obtain ⟨a, cap, rfl, _, _, _⟩ := hx.open
    have hb : ((xs.length : Int) == n) = false := by simp [hn]
    clear hp hc hn
    go_enter Tryz.func30, Tryz.ntmps30
    go_wp2_with fail
    go_ret
    exact ⟨rfl, Le.refl _⟩

set_option maxHeartbeats 1000000 in
theorem allEv (f : Nat) (c : Value) (p : Ev → Bool) (hc : ∀ (u : Value) (w : World), (callFunc f #[c, u]).run Tryz.prog w = .ok (.enter f #[c, u]) w) (v : Value) (xs : List Ev) (w : World)
    (hp : ∀ w', Le w w' → ∀ (u : Value) (x : Ev), x ∈ xs → IsEv w' u x → Calls Tryz.prog f #[c, u] w' fun e w'' => e = .returned (.bool (p x)) ∧ Le w' w'') (hx : HasE evK w v xs) (hm : xs.length ≤ 9223372036854775807) :
    Calls Tryz.prog 66 #[v, .func (.func f) #[c] #[]] w fun e w' => e = .returned (.bool (xs.all p)) ∧ Le w w' := by
  obtain ⟨a, cap, rfl, hc', _, hx⟩ := hx.openEv
  by_cases h0 : 0 < xs.length
  · obtain ⟨b, off, rfl, hcell⟩ := hx h0
    clear hx
    obtain ⟨L, hL⟩ : ∃ L, L = xs.length := ⟨_, rfl⟩
    have HL : Hid (L = xs.length) := hL
    rw [← hL] at hm h0 hc' hcell ⊢
    clear hL
    go_enter Tryz.func66, Tryz.ntmps66
    go_wp2
    go_loopw [9] (fun i wr => ∃ k : Nat, k ≤ L ∧ i = .int .i64 k ∧ Hid ((xs.take k).all p = true) ∧ Le w wr) (fun i _ => L - (intOf i).toNat)
    case atStart => exact ⟨0, by omega, rfl, rfl, Le.refl _⟩
    case round =>
      obtain ⟨k, hk, rfl, HA, hle⟩ := hrel
      by_cases hlt : k < L
      · have rA := hcell k hlt
        obtain ⟨s, hs⟩ : ∃ s, s = xs.getD k Ev.zero := ⟨_, rfl⟩
        have HS : Hid (s = xs.getD k Ev.zero) := hs
        have hmem : s ∈ xs := by rw [hs]; exact getD_mem (by have := HL.out; omega)
        rw [← hs] at rA
        obtain ⟨x0, x1, x2, x3, x4, x5⟩ := rA.le hle
        have hlt' : (k : Int) < (L : Int) := by omega
        clear hs hcell
        have hm2 := fun o => hp (wr.alloc o) (hle.trans (Le.alloc _ _)) (evV s) s hmem (rfl)
        clear hp hmem
        cases hh : p s
        · simp only [hh] at hm2
          go_wp2_with fail
          refine (hm2 _).mono ?_
          rintro e w1 ⟨rfl, l1⟩
          go_wp2
          go_ret
          exact ⟨ret_bool (allE_no (k := k) (d := Ev.zero) (by have := HL.out; omega) (by rw [← HS.out]; exact hh)).symm, (hle.trans (Le.alloc _ _)).trans l1⟩
        · simp only [hh] at hm2
          go_wp2_with fail
          refine (hm2 _).mono ?_
          rintro e w1 ⟨rfl, l1⟩
          go_wp2
          go_roundw
          case rel => exact ⟨k + 1, by omega, by go_num, allE_take (d := Ev.zero) (by have := HL.out; omega) HA.out (by rw [← HS.out]; exact hh), (hle.trans (Le.alloc _ _)).trans l1⟩
          case measure => simp [intOf]; omega
      · obtain rfl : k = L := by omega
        go_wp2
        go_ret
        exact ⟨ret_bool (by have := HA.out; rw [HL.out, List.take_length] at this; exact this.symm), hle⟩
  · have hxn : xs = [] := by cases xs with | nil => rfl | cons _ _ => simp at h0
    subst hxn
    go_enter Tryz.func66, Tryz.ntmps66
    go_wp2
    refine wp_loop_rounds 1 ?_
    rw [rounds_succ]
    go_wp2
    go_ret
    exact ⟨rfl, Le.refl _⟩

theorem atMostEv (f : Nat) (c : Value) (p : Ev → Bool) (hc : ∀ (u : Value) (w : World), (callFunc f #[c, u]).run Tryz.prog w = .ok (.enter f #[c, u]) w) (v : Value) (xs : List Ev) (n : Int) (w : World)
    (hp : ∀ w', Le w w' → ∀ (u : Value) (x : Ev), x ∈ xs → (xs.length : Int) ≤ n → IsEv w' u x → Calls Tryz.prog f #[c, u] w' fun e w'' => e = .returned (.bool (p x)) ∧ Le w' w'') (hx : HasE evK w v xs) (hm : xs.length ≤ 9223372036854775807) :
    Calls Tryz.prog 32 #[v, .int .i64 n, .func (.func f) #[c] #[]] w fun e w' => e = .returned (.bool (decide ((xs.length : Int) ≤ n) && xs.all p)) ∧ Le w w' := by
  by_cases hn : (xs.length : Int) ≤ n
  · have hall := allEv f c p hc v xs w (fun w' l u x hm h => hp w' l u x hm hn h) hx hm
    rw [decide_eq_true hn, Bool.true_and]
    generalize xs.all p = y at hall
    obtain ⟨a, cap, rfl, _, _, _⟩ := hx.openEv
    clear hp hc
    go_enter Tryz.func32, Tryz.ntmps32
    go_wp2_with fail
    refine hall.mono ?_
    rintro e w1 ⟨rfl, l1⟩
    go_wp2_with fail
    go_ret
    exact ⟨rfl, l1⟩
  · rw [decide_eq_false hn, Bool.false_and]
    obtain ⟨a, cap, rfl, _, _, _⟩ := hx.openEv
    have hb : n < (xs.length : Int) := by omega
    clear hp hc hn
    go_enter Tryz.func32, Tryz.ntmps32
    go_wp2_with fail
    go_ret
    exact ⟨rfl, Le.refl _⟩

set_option maxHeartbeats 1000000 in
theorem allNum (f : Nat) (c : Value) (p : Int → Bool) (hc : ∀ (u : Value) (w : World), (callFunc f #[c, u]).run Tryz.prog w = .ok (.enter f #[c, u]) w) (v : Value) (xs : List Int) (w : World)
    (hp : ∀ w', Le w w' → ∀ (u : Value) (x : Int), x ∈ xs → IsInt w' u x → Calls Tryz.prog f #[c, u] w' fun e w'' => e = .returned (.bool (p x)) ∧ Le w' w'') (hx : Has w v xs) (hm : xs.length ≤ 9223372036854775807) :
    Calls Tryz.prog 79 #[v, .func (.func f) #[c] #[]] w fun e w' => e = .returned (.bool (xs.all p)) ∧ Le w w' := by
  obtain ⟨a, cap, rfl, hc', _, hx⟩ := hx.open
  by_cases h0 : 0 < xs.length
  · obtain ⟨b, off, rfl, hcell⟩ := hx h0
    clear hx
    obtain ⟨L, hL⟩ : ∃ L, L = xs.length := ⟨_, rfl⟩
    have HL : Hid (L = xs.length) := hL
    rw [← hL] at hm h0 hc' hcell ⊢
    clear hL
    go_enter Tryz.func79, Tryz.ntmps79
    go_wp2
    go_loopw [9] (fun i wr => ∃ k : Nat, k ≤ L ∧ i = .int .i64 k ∧ Hid ((xs.take k).all p = true) ∧ Le w wr) (fun i _ => L - (intOf i).toNat)
    case atStart => exact ⟨0, by omega, rfl, rfl, Le.refl _⟩
    case round =>
      obtain ⟨k, hk, rfl, HA, hle⟩ := hrel
      by_cases hlt : k < L
      · have rA := hcell k hlt
        obtain ⟨s, hs⟩ : ∃ s, s = xs.getD k 0 := ⟨_, rfl⟩
        have HS : Hid (s = xs.getD k 0) := hs
        have hmem : s ∈ xs := by rw [hs]; exact getD_mem (by have := HL.out; omega)
        rw [← hs] at rA
        have x0 := cell_le rA hle
        have hlt' : (k : Int) < (L : Int) := by omega
        clear hs hcell
        have hm2 := hp _ hle (.int .i64 s) s hmem (rfl)
        clear hp hmem
        cases hh : p s
        · rw [hh] at hm2
          go_wp2_with fail
          refine hm2.mono ?_
          rintro e w1 ⟨rfl, l1⟩
          go_wp2
          go_ret
          exact ⟨ret_bool (allE_no (k := k) (d := 0) (by have := HL.out; omega) (by rw [← HS.out]; exact hh)).symm, hle.trans l1⟩
        · rw [hh] at hm2
          go_wp2_with fail
          refine hm2.mono ?_
          rintro e w1 ⟨rfl, l1⟩
          go_wp2
          go_roundw
          case rel => exact ⟨k + 1, by omega, by go_num, allE_take (d := 0) (by have := HL.out; omega) HA.out (by rw [← HS.out]; exact hh), hle.trans l1⟩
          case measure => simp [intOf]; omega
      · obtain rfl : k = L := by omega
        go_wp2
        go_ret
        exact ⟨ret_bool (by have := HA.out; rw [HL.out, List.take_length] at this; exact this.symm), hle⟩
  · have hxn : xs = [] := by cases xs with | nil => rfl | cons _ _ => simp at h0
    subst hxn
    go_enter Tryz.func79, Tryz.ntmps79
    go_wp2
    refine wp_loop_rounds 1 ?_
    rw [rounds_succ]
    go_wp2
    go_ret
    exact ⟨rfl, Le.refl _⟩

theorem exactlyNum (f : Nat) (c : Value) (p : Int → Bool) (hc : ∀ (u : Value) (w : World), (callFunc f #[c, u]).run Tryz.prog w = .ok (.enter f #[c, u]) w) (v : Value) (xs : List Int) (n : Int) (w : World)
    (hp : ∀ w', Le w w' → ∀ (u : Value) (x : Int), x ∈ xs → (xs.length : Int) = n → IsInt w' u x → Calls Tryz.prog f #[c, u] w' fun e w'' => e = .returned (.bool (p x)) ∧ Le w' w'') (hx : Has w v xs) (hm : xs.length ≤ 9223372036854775807) :
    Calls Tryz.prog 59 #[v, .int .i64 n, .func (.func f) #[c] #[]] w fun e w' => e = .returned (.bool (decide ((xs.length : Int) = n) && xs.all p)) ∧ Le w w' := by
  by_cases hn : (xs.length : Int) = n
  · have hall := allNum f c p hc v xs w (fun w' l u x hm h => hp w' l u x hm hn h) hx hm
    rw [decide_eq_true hn, Bool.true_and]
    generalize xs.all p = y at hall
    obtain ⟨a, cap, rfl, _, _, _⟩ := hx.open
    have hb : ((xs.length : Int) == n) = true := by simp [hn]
    clear hp hc hn
    go_enter Tryz.func59, Tryz.ntmps59
    go_wp2_with fail
    refine hall.mono ?_
    rintro e w1 ⟨rfl, l1⟩
    go_wp2_with fail
    go_ret
    exact ⟨rfl, l1⟩
  · rw [decide_eq_false hn, Bool.false_and]
    obtain ⟨a, cap, rfl, _, _, _⟩ := hx.open
    have hb : ((xs.length : Int) == n) = false := by simp [hn]
    clear hp hc hn
    go_enter Tryz.func59, Tryz.ntmps59
    go_wp2_with fail
    go_ret
    exact ⟨rfl, Le.refl _⟩

theorem atMostNum (f : Nat) (c : Value) (p : Int → Bool) (hc : ∀ (u : Value) (w : World), (callFunc f #[c, u]).run Tryz.prog w = .ok (.enter f #[c, u]) w) (v : Value) (xs : List Int) (n : Int) (w : World)
    (hp : ∀ w', Le w w' → ∀ (u : Value) (x : Int), x ∈ xs → (xs.length : Int) ≤ n → IsInt w' u x → Calls Tryz.prog f #[c, u] w' fun e w'' => e = .returned (.bool (p x)) ∧ Le w' w'') (hx : Has w v xs) (hm : xs.length ≤ 9223372036854775807) :
    Calls Tryz.prog 64 #[v, .int .i64 n, .func (.func f) #[c] #[]] w fun e w' => e = .returned (.bool (decide ((xs.length : Int) ≤ n) && xs.all p)) ∧ Le w w' := by
  by_cases hn : (xs.length : Int) ≤ n
  · have hall := allNum f c p hc v xs w (fun w' l u x hm h => hp w' l u x hm hn h) hx hm
    rw [decide_eq_true hn, Bool.true_and]
    generalize xs.all p = y at hall
    obtain ⟨a, cap, rfl, _, _, _⟩ := hx.open
    clear hp hc
    go_enter Tryz.func64, Tryz.ntmps64
    go_wp2_with fail
    refine hall.mono ?_
    rintro e w1 ⟨rfl, l1⟩
    go_wp2_with fail
    go_ret
    exact ⟨rfl, l1⟩
  · rw [decide_eq_false hn, Bool.false_and]
    obtain ⟨a, cap, rfl, _, _, _⟩ := hx.open
    have hb : n < (xs.length : Int) := by omega
    clear hp hc hn
    go_enter Tryz.func64, Tryz.ntmps64
    go_wp2_with fail
    go_ret
    exact ⟨rfl, Le.refl _⟩

set_option maxHeartbeats 1000000 in
theorem allNum0 (f : Nat) (p : Int → Bool) (hc : ∀ (u : Value) (w : World), (callFunc f #[u]).run Tryz.prog w = .ok (.enter f #[u]) w) (v : Value) (xs : List Int) (w : World)
    (hp : ∀ w', Le w w' → ∀ (u : Value) (x : Int), x ∈ xs → IsInt w' u x → Calls Tryz.prog f #[u] w' fun e w'' => e = .returned (.bool (p x)) ∧ Le w' w'') (hx : Has w v xs) (hm : xs.length ≤ 9223372036854775807) :
    Calls Tryz.prog 79 #[v, .func (.func f) #[] #[]] w fun e w' => e = .returned (.bool (xs.all p)) ∧ Le w w' := by
  obtain ⟨a, cap, rfl, hc', _, hx⟩ := hx.open
  by_cases h0 : 0 < xs.length
  · obtain ⟨b, off, rfl, hcell⟩ := hx h0
    clear hx
    obtain ⟨L, hL⟩ : ∃ L, L = xs.length := ⟨_, rfl⟩
    have HL : Hid (L = xs.length) := hL
    rw [← hL] at hm h0 hc' hcell ⊢
    clear hL
    go_enter Tryz.func79, Tryz.ntmps79
    go_wp2
    go_loopw [9] (fun i wr => ∃ k : Nat, k ≤ L ∧ i = .int .i64 k ∧ Hid ((xs.take k).all p = true) ∧ Le w wr) (fun i _ => L - (intOf i).toNat)
    case atStart => exact ⟨0, by omega, rfl, rfl, Le.refl _⟩
    case round =>
      obtain ⟨k, hk, rfl, HA, hle⟩ := hrel
      by_cases hlt : k < L
      · have rA := hcell k hlt
        obtain ⟨s, hs⟩ : ∃ s, s = xs.getD k 0 := ⟨_, rfl⟩
        have HS : Hid (s = xs.getD k 0) := hs
        have hmem : s ∈ xs := by rw [hs]; exact getD_mem (by have := HL.out; omega)
        rw [← hs] at rA
        have x0 := cell_le rA hle
        have hlt' : (k : Int) < (L : Int) := by omega
        clear hs hcell
        have hm2 := hp _ hle (.int .i64 s) s hmem (rfl)
        clear hp hmem
        cases hh : p s
        · rw [hh] at hm2
          go_wp2_with fail
          refine hm2.mono ?_
          rintro e w1 ⟨rfl, l1⟩
          go_wp2
          go_ret
          exact ⟨ret_bool (allE_no (k := k) (d := 0) (by have := HL.out; omega) (by rw [← HS.out]; exact hh)).symm, hle.trans l1⟩
        · rw [hh] at hm2
          go_wp2_with fail
          refine hm2.mono ?_
          rintro e w1 ⟨rfl, l1⟩
          go_wp2
          go_roundw
          case rel => exact ⟨k + 1, by omega, by go_num, allE_take (d := 0) (by have := HL.out; omega) HA.out (by rw [← HS.out]; exact hh), hle.trans l1⟩
          case measure => simp [intOf]; omega
      · obtain rfl : k = L := by omega
        go_wp2
        go_ret
        exact ⟨ret_bool (by have := HA.out; rw [HL.out, List.take_length] at this; exact this.symm), hle⟩
  · have hxn : xs = [] := by cases xs with | nil => rfl | cons _ _ => simp at h0
    subst hxn
    go_enter Tryz.func79, Tryz.ntmps79
    go_wp2
    refine wp_loop_rounds 1 ?_
    rw [rounds_succ]
    go_wp2
    go_ret
    exact ⟨rfl, Le.refl _⟩

theorem exactlyNum0 (f : Nat) (p : Int → Bool) (hc : ∀ (u : Value) (w : World), (callFunc f #[u]).run Tryz.prog w = .ok (.enter f #[u]) w) (v : Value) (xs : List Int) (n : Int) (w : World)
    (hp : ∀ w', Le w w' → ∀ (u : Value) (x : Int), x ∈ xs → (xs.length : Int) = n → IsInt w' u x → Calls Tryz.prog f #[u] w' fun e w'' => e = .returned (.bool (p x)) ∧ Le w' w'') (hx : Has w v xs) (hm : xs.length ≤ 9223372036854775807) :
    Calls Tryz.prog 59 #[v, .int .i64 n, .func (.func f) #[] #[]] w fun e w' => e = .returned (.bool (decide ((xs.length : Int) = n) && xs.all p)) ∧ Le w w' := by
  by_cases hn : (xs.length : Int) = n
  · have hall := allNum0 f p hc v xs w (fun w' l u x hm h => hp w' l u x hm hn h) hx hm
    rw [decide_eq_true hn, Bool.true_and]
    generalize xs.all p = y at hall
    obtain ⟨a, cap, rfl, _, _, _⟩ := hx.open
    have hb : ((xs.length : Int) == n) = true := by simp [hn]
    clear hp hc hn
    go_enter Tryz.func59, Tryz.ntmps59
    go_wp2_with fail
    refine hall.mono ?_
    rintro e w1 ⟨rfl, l1⟩
    go_wp2_with fail
    go_ret
    exact ⟨rfl, l1⟩
  · rw [decide_eq_false hn, Bool.false_and]
    obtain ⟨a, cap, rfl, _, _, _⟩ := hx.open
    have hb : ((xs.length : Int) == n) = false := by simp [hn]
    clear hp hc hn
    go_enter Tryz.func59, Tryz.ntmps59
    go_wp2_with fail
    go_ret
    exact ⟨rfl, Le.refl _⟩

theorem atMostNum0 (f : Nat) (p : Int → Bool) (hc : ∀ (u : Value) (w : World), (callFunc f #[u]).run Tryz.prog w = .ok (.enter f #[u]) w) (v : Value) (xs : List Int) (n : Int) (w : World)
    (hp : ∀ w', Le w w' → ∀ (u : Value) (x : Int), x ∈ xs → (xs.length : Int) ≤ n → IsInt w' u x → Calls Tryz.prog f #[u] w' fun e w'' => e = .returned (.bool (p x)) ∧ Le w' w'') (hx : Has w v xs) (hm : xs.length ≤ 9223372036854775807) :
    Calls Tryz.prog 64 #[v, .int .i64 n, .func (.func f) #[] #[]] w fun e w' => e = .returned (.bool (decide ((xs.length : Int) ≤ n) && xs.all p)) ∧ Le w w' := by
  by_cases hn : (xs.length : Int) ≤ n
  · have hall := allNum0 f p hc v xs w (fun w' l u x hm h => hp w' l u x hm hn h) hx hm
    rw [decide_eq_true hn, Bool.true_and]
    generalize xs.all p = y at hall
    obtain ⟨a, cap, rfl, _, _, _⟩ := hx.open
    clear hp hc
    go_enter Tryz.func64, Tryz.ntmps64
    go_wp2_with fail
    refine hall.mono ?_
    rintro e w1 ⟨rfl, l1⟩
    go_wp2_with fail
    go_ret
    exact ⟨rfl, l1⟩
  · rw [decide_eq_false hn, Bool.false_and]
    obtain ⟨a, cap, rfl, _, _, _⟩ := hx.open
    have hb : n < (xs.length : Int) := by omega
    clear hp hc hn
    go_enter Tryz.func64, Tryz.ntmps64
    go_wp2_with fail
    go_ret
    exact ⟨rfl, Le.refl _⟩

end Go.Proofs.YtibleipfablniaaGreat

/-
  THE WALKS over package start's looker (within, mayPlace, isThread, mayHolder, maySlot, mayEvent, mayCursors, mayRing): what each answers, where the Config may be. Condition: that the slots can be copied.
-/
namespace Go.Proofs.YtibleipfablniaaGreat
open Go.RowKit

theorem Has.len {w : World} {q : Sl} {xs : List Int} (h : Has w (slV q) xs) : q.2.1 = xs.length := by
  obtain ⟨a, cap, hv, _⟩ := h
  simp only [slV, Value.slice.injEq] at hv
  exact hv.2.1
/-- A looker's six cells. -/
abbrev cellsK (c : Cfg) (q : Sl) : Array Value := #[.int .i64 c.o, .int .i64 c.r, .int .i64 c.l, .int .i64 c.t, .int .i64 c.s, slV q]
abbrev lookV (c : Cfg) (q : Sl) : Value := .agg (cellsK c q)
theorem Box.look {w : World} {g : Nat} {c : Cfg} {q : Sl} {t : TypeId} (h : Box w g (cellsK c q) t) :
    w.cell? ⟨g, 0, none⟩ = some (.int .i64 c.o) ∧ w.cell? ⟨g, 1, none⟩ = some (.int .i64 c.r) ∧ w.cell? ⟨g, 2, none⟩ = some (.int .i64 c.l) ∧ w.cell? ⟨g, 3, none⟩ = some (.int .i64 c.t) ∧ w.cell? ⟨g, 4, none⟩ = some (.int .i64 c.s) ∧ w.cell? ⟨g, 5, none⟩ = some (slV q) :=
  ⟨h.cell 0, h.cell 1, h.cell 2, h.cell 3, h.cell 4, h.cell 5⟩

theorem startWithin (x a b : Int) (w : World) : Calls Tryz.prog 61 #[.int .i64 x, .int .i64 a, .int .i64 b] w fun e w' => e = .returned (.bool (inB a x b)) ∧ w = w' := by
  by_cases h : a ≤ x
  all_goals
    go_enter Tryz.func61, Tryz.ntmps61
    go_wp2
    go_ret
    exact ⟨ret_bool (by simp [inB, h]; try omega), rfl⟩

theorem startMayPlace (x : Int) (w : World) : Calls Tryz.prog 63 #[.int .i64 x] w fun e w' => e = .returned (.bool (inB 0 x 1048576)) ∧ w = w' := by
  go_enter Tryz.func63, Tryz.ntmps63
  go_wp2_with fail
  refine (startWithin _ _ _ _).mono ?_
  rintro e _ ⟨rfl, rfl⟩
  go_wp2_with fail
  go_ret
  exact ⟨rfl, rfl⟩

theorem lookIsThread (c : Cfg) (q : Sl) (x : Int) (w : World) (hc : c.ok = true) : Calls Tryz.prog 65 #[lookV c q, .int .i64 x] w fun e w' => e = .returned (.bool (inB 0 x (c.t - 1))) ∧ Le w w' := by
  obtain ⟨_, _, _, ⟨t0, t1⟩, _, _⟩ := Cfg.ok_cases hc
  have hl := Le.alloc w (.cells (cellsK c q) 75)
  have hs := fun w' => startWithin x 0 (c.t - 1) w'
  go_enter Tryz.func65, Tryz.ntmps65
  go_wp2_with fail
  refine (hs _).mono ?_
  rintro e _ ⟨rfl, rfl⟩
  go_wp2_with fail
  go_ret
  exact ⟨rfl, hl⟩

theorem lookMayHolder (c : Cfg) (q : Sl) (x : Int) (w : World) : Calls Tryz.prog 53 #[lookV c q, .int .i64 x] w fun e w' => e = .returned (.bool (inB 0 x c.t)) ∧ Le w w' := by
  have hl := Le.alloc w (.cells (cellsK c q) 75)
  go_enter Tryz.func53, Tryz.ntmps53
  go_wp2_with fail
  refine (startWithin _ _ _ _).mono ?_
  rintro e _ ⟨rfl, rfl⟩
  go_wp2_with fail
  go_ret
  exact ⟨rfl, hl⟩

theorem lookMaySlot (c : Cfg) (q : Sl) (s : Slt) (w : World) (hc : c.ok = true) : Calls Tryz.prog 55 #[lookV c q, s.v] w fun e w' => e = .returned (.bool (inB 0 s.t (c.t - 1))) ∧ Le w w' := by
  have hl := (Le.alloc w (.cells (cellsK c q) 75)).trans (Le.alloc _ (.cells #[.int .i64 s.c, .int .i64 s.r, .int .i64 s.a, .int .i64 s.t, .int .i64 s.b] 50))
  have hs := fun w' => lookIsThread c q s.t w' hc
  go_enter Tryz.func55, Tryz.ntmps55
  go_wp2_with fail
  refine (hs _).mono ?_
  rintro e w1 ⟨rfl, l1⟩
  go_wp2_with fail
  go_ret
  exact ⟨rfl, hl.trans l1⟩

set_option maxHeartbeats 400000 in
theorem lookMayEvent (c : Cfg) (q : Sl) (E : Ev) (w : World) (hc : c.ok = true) : Calls Tryz.prog 33 #[lookV c q, evV E] w fun e w' => e = .returned (.bool (evB c E)) ∧ Le w w' := by
  have hl := (Le.alloc w (.cells (cellsK c q) 75)).trans (Le.alloc _ (.cells #[.int .i64 E.t, .bool E.ca, .int .i64 E.c, .int .i64 E.r, .int .i64 E.a, .int .i64 E.an] 60))
  have hb := Box.new (w.alloc (.cells (cellsK c q) 75)) #[.int .i64 E.t, .bool E.ca, .int .i64 E.c, .int .i64 E.r, .int .i64 E.a, .int .i64 E.an] 60
  rw [World.size_alloc] at hb
  have hs := fun w' => lookIsThread c q E.t w' hc
  have ho := fun w' => operMay E.c E.r E.a w'
  simp only [evB]
  cases h1 : inB 0 E.t (c.t - 1)
  · simp only [h1] at hs
    go_enter Tryz.func33, Tryz.ntmps33
    go_wp2_with fail
    refine (hs _).mono ?_
    rintro e w1 ⟨rfl, l1⟩
    go_wp2_with fail
    go_ret
    exact ⟨rfl, hl.trans l1⟩
  · simp only [h1] at hs
    go_enter Tryz.func33, Tryz.ntmps33
    go_wp2_with fail
    refine (hs _).mono ?_
    rintro e w1 ⟨rfl, l1⟩
    replace hb := hb.le l1
    have y2 := hb.cell 2
    have y3 := hb.cell 3
    have y4 := hb.cell 4
    simp only [List.getElem?_toArray, List.getElem?_cons_succ, List.getElem?_cons_zero] at y2 y3 y4
    go_wp2_with fail
    refine (ho _).mono ?_
    rintro e w2 ⟨rfl, l2⟩
    go_wp2_with fail
    go_ret
    exact ⟨rfl, (hl.trans l1).trans l2⟩

set_option maxHeartbeats 1000000 in
theorem lookMayCursors (c : Cfg) (q : Sl) (v : Value) (Rs : List Rg) (cs : List Int) (w : World) (hR : HasRs w (slV q) Rs) (hx : Has w v cs) (hn : cs.length = Rs.length) (hm : Rs.length * 48 ≤ 140737488351232) :
    Calls Tryz.prog 58 #[lookV c q, v] w fun e w' => e = .returned (.bool (cursOK Rs cs)) ∧ Le w w' := by
  obtain ⟨qa, qn, qc⟩ := q
  obtain ⟨a, cap, rfl, hc, _, hx⟩ := hx.open
  obtain ⟨a', cap', hv, hc', _, hRo⟩ := hR.open
  clear hR
  simp only [slV, Value.slice.injEq] at hv
  obtain ⟨rfl, rfl, rfl⟩ := hv
  rw [← hn] at hRo hc' hm ⊢
  have HN : Hid (cs.length = Rs.length) := hn
  clear hn
  by_cases h0 : 0 < cs.length
  · obtain ⟨b, off, rfl, hcell⟩ := hx h0
    obtain ⟨b', off', rfl, hring⟩ := hRo h0
    clear hx hRo
    obtain ⟨L, hL⟩ : ∃ L, L = cs.length := ⟨_, rfl⟩
    have HL : Hid (L = cs.length) := hL
    rw [← hL] at h0 hc hc' hm hcell hring ⊢
    clear hL
    have hb := Box.new w (cellsK c (some ⟨b', off', none⟩, L, qc)) 75
    have hl := Le.alloc w (.cells (cellsK c (some ⟨b', off', none⟩, L, qc)) 75)
    have z5 := hb.look.2.2.2.2.2
    simp only [slV] at z5
    go_enter Tryz.func58, Tryz.ntmps58
    go_wp2
    generalize hW : w.alloc (.cells (cellsK c (some ⟨b', off', none⟩, L, qc)) 75) = W at hb hl z5 ⊢
    clear hW hb
    go_loopw [10] (fun i wr => ∃ k : Nat, k ≤ L ∧ i = .int .i64 k ∧ Hid (∀ i, i < k → inB (Rs.getD i Rg.zero).h (cs.getD i 0) (Rs.getD i Rg.zero).t = true) ∧ Le W wr) (fun i _ => L - (intOf i).toNat)
    case atStart => exact ⟨0, by omega, rfl, (fun i hi => by omega), Le.refl _⟩
    case round =>
      obtain ⟨k, hk, rfl, HA, hle⟩ := hrel
      by_cases hlt : k < L
      · obtain ⟨x, hxk⟩ : ∃ x, x = cs.getD k 0 := ⟨_, rfl⟩
        obtain ⟨R, hRk⟩ : ∃ R, R = Rs.getD k Rg.zero := ⟨_, rfl⟩
        have c0 := cell_le (cell_le (hcell k hlt) hl) hle
        obtain ⟨u, rA, _⟩ := hring k hlt
        rw [← hxk] at c0
        rw [← hRk] at rA
        have HX : Hid (x = cs.getD k 0) := hxk
        have HR : Hid (R = Rs.getD k Rg.zero) := hRk
        obtain ⟨x0, x1, x2, x3⟩ := (rA.le hl).le hle
        replace z5 := cell_le z5 hle
        have hlt' : (k : Int) < (L : Int) := by omega
        have hs := fun w' => startWithin x R.h R.t w'
        clear hxk hRk hcell hring rA
        cases hh : inB R.h x R.t
        · simp only [hh] at hs
          go_wp2_with fail
          refine (hs _).mono ?_
          rintro e _ ⟨rfl, rfl⟩
          go_wp2_with fail
          go_ret
          exact ⟨ret_bool (cursOK_no (k := k) (by have := HL.out; omega) (by rw [← HX.out, ← HR.out]; exact hh)).symm, (hl.trans hle).trans (Le.alloc _ _)⟩
        · simp only [hh] at hs
          go_wp2_with fail
          refine (hs _).mono ?_
          rintro e _ ⟨rfl, rfl⟩
          go_wp2_with fail
          go_roundw
          case rel =>
            refine ⟨k + 1, by omega, by go_num, fun i hi => ?_, hle.trans (Le.alloc _ _)⟩
            rcases Nat.lt_or_ge i k with h | h
            · exact HA.out i h
            · obtain rfl : i = k := by omega
              rw [← HX.out, ← HR.out]; exact hh
          case measure => simp [intOf]; omega
      · obtain rfl : k = L := by omega
        go_wp2_with fail
        go_ret
        exact ⟨ret_bool (cursOK_take HA.out HL.out).symm, hl.trans hle⟩
  · have hxn : cs = [] := by cases cs with | nil => rfl | cons _ _ => simp at h0
    subst hxn
    go_enter Tryz.func58, Tryz.ntmps58
    go_wp2
    refine wp_loop_rounds 1 ?_
    rw [rounds_succ]
    go_wp2
    go_ret
    exact ⟨rfl, Le.alloc _ _⟩

set_option maxHeartbeats 2000000 in
theorem lookMayRing (c : Cfg) (q : Sl) (v : Value) (R : Rg) (w : World) (hc : c.ok = true) (hx : HasR w v R) (hf : FitR R) :
    Calls Tryz.prog 27 #[lookV c q, v] w fun e w' => e = .returned (.bool (ringB c R)) ∧ Le w w' := by
  obtain ⟨u, rfl, hu⟩ := hx
  have hb := Box.new (w.alloc (.cells (cellsK c q) 75)) (cellsR R.h R.t R.f u) 46
  have hk := (Box.new w (cellsK c q) 75).le (Le.alloc _ (.cells (cellsR R.h R.t R.f u) 46))
  rw [World.size_alloc] at hb
  have hl := (Le.alloc w (.cells (cellsK c q) 75)).trans (Le.alloc _ (.cells (cellsR R.h R.t R.f u) 46))
  have m1 := ringMay (ringV R.h R.t R.f u) R _ ⟨u, rfl, hu.le hl⟩ hf
  have hlen := hu.len
  unfold FitR at hf
  have hss := fun w' (l : Le w w') => allSlot 55 (lookV c q) (fun s => inB 0 s.t (c.t - 1)) (fun _ _ => by kernel_rfl) (slV u) R.ss w' (fun w'' _ v s _ h => by rw [show v = s.v from h]; exact lookMaySlot c q s w'' hc) (hu.le l) (by omega)
  have m3 := fun w' => lookMayHolder c q R.f w'
  simp only [ringB]
  obtain ⟨ua, n, ucap⟩ := u
  simp only at hlen
  rw [← hlen]
  clear hlen hf hu
  cases h1 : mayR R
  · rw [h1] at m1
    go_enter Tryz.func27, Tryz.ntmps27
    go_wp2_with fail
    refine m1.mono ?_
    rintro e w1 ⟨rfl, l1⟩
    go_wp2_with fail
    go_ret
    exact ⟨rfl, hl.trans l1⟩
  rw [h1] at m1
  by_cases h2 : (n : Int) = c.s
  case neg =>
    have h2b : ((n : Int) == c.s) = false := by simp [h2]
    rw [decide_eq_false h2]
    clear h2
    go_enter Tryz.func27, Tryz.ntmps27
    go_wp2_with fail
    refine m1.mono ?_
    rintro e w1 ⟨rfl, l1⟩
    obtain ⟨b0, b1, b2, b3, _, _, _, _⟩ := (hb.le l1).ring
    obtain ⟨k0, k1, k2, k3, k4, k5⟩ := (hk.le l1).look
    simp only [slV] at b3
    go_wp2_with fail
    go_ret
    exact ⟨rfl, hl.trans l1⟩
  have h2b : ((n : Int) == c.s) = true := by simp [h2]
  rw [decide_eq_true h2]
  clear h2
  cases h3 : inB 0 R.f c.t
  · simp only [h3] at m3
    go_enter Tryz.func27, Tryz.ntmps27
    go_wp2_with fail
    refine m1.mono ?_
    rintro e w1 ⟨rfl, l1⟩
    obtain ⟨b0, b1, b2, b3, _, _, _, _⟩ := (hb.le l1).ring
    obtain ⟨k0, k1, k2, k3, k4, k5⟩ := (hk.le l1).look
    simp only [slV] at b3
    go_wp2_with fail
    refine (m3 _).mono ?_
    rintro e w2 ⟨rfl, l2⟩
    go_wp2_with fail
    go_ret
    exact ⟨rfl, (hl.trans l1).trans l2⟩
  · simp only [h3] at m3
    go_enter Tryz.func27, Tryz.ntmps27
    go_wp2_with fail
    refine m1.mono ?_
    rintro e w1 ⟨rfl, l1⟩
    obtain ⟨b0, b1, b2, b3, _, _, _, _⟩ := (hb.le l1).ring
    obtain ⟨k0, k1, k2, k3, k4, k5⟩ := (hk.le l1).look
    simp only [slV] at b3
    go_wp2_with fail
    refine (m3 _).mono ?_
    rintro e w2 ⟨rfl, l2⟩
    obtain ⟨_, _, _, b3', _, _, _, _⟩ := ((hb.le l1).le l2).ring
    obtain ⟨k0', k1', k2', k3', k4', k5'⟩ := ((hk.le l1).le l2).look
    go_wp2_with fail
    refine (hss _ ((hl.trans l1).trans l2)).mono ?_
    rintro e w3 ⟨rfl, l3⟩
    go_wp2_with fail
    go_ret
    exact ⟨rfl, ((hl.trans l1).trans l2).trans l3⟩

end Go.Proofs.YtibleipfablniaaGreat

/-
  PLAIN GROUND, NO WALK: rows of numbers behind a store into a variable that holds a state. No condition.
-/
namespace Go.Proofs.YtibleipfablniaaGreat
open Go.RowKit

theorem cells4_int (vs : Nat → Sl) (i : Nat) (x : Int) : (cells4 vs)[i]? ≠ some (.int .i64 x) := by
  intro h
  match i, h with
  | 0, h => cases h
  | 1, h => cases h
  | 2, h => cases h
  | 3, h => cases h
  | n + 4, h => simp at h

theorem Has.setBox {w : World} {g i : Nat} {v u : Value} {xs : List Int} {vs : Nat → Sl} {t : TypeId} (h : Has w v xs) (hb : Box w g (cells4 vs) t) : Has (w.setCell ⟨g, i, none⟩ u) v xs := by
  obtain ⟨a, cap, hv, hc, hn, hx⟩ := h
  refine ⟨a, cap, hv, hc, hn, fun hp => ?_⟩
  obtain ⟨b, off, ha, hcell⟩ := hx hp
  refine ⟨b, off, ha, fun j hj => ?_⟩
  have h1 := hcell j hj
  have hne : b ≠ g := by
    intro e
    subst e
    rw [hb.cell (off + j)] at h1
    exact cells4_int vs _ _ h1
  rw [World.cell?_setCell_other _ _ _ _ (fun e => hne (by cases e; rfl))]
  exact h1

theorem Box.upd4 {w : World} {g i : Nat} {vs : Nat → Sl} {t : TypeId} (hb : Box w g (cells4 vs) t) (hi : i < 4) (q : Sl) : Box (w.setCell ⟨g, i, none⟩ (slV q)) g (cells4 (upd vs i q)) t := by
  have := hb.set i (slV q)
  rwa [cells4_upd vs hi] at this

theorem Has.set4 {w : World} {g : Nat} {v : Value} {xs : List Int} {vs us : Nat → Sl} {t : TypeId} (h : Has w v xs) (hb : Box w g (cells4 vs) t) :
    Has ((((w.setCell ⟨g, 0, none⟩ (slV (us 0))).setCell ⟨g, 1, none⟩ (slV (us 1))).setCell ⟨g, 2, none⟩ (slV (us 2))).setCell ⟨g, 3, none⟩ (slV (us 3))) v xs :=
  (((h.setBox hb).setBox (hb.upd4 (by omega) (us 0))).setBox ((hb.upd4 (by omega) (us 0)).upd4 (by omega) (us 1))).setBox (((hb.upd4 (by omega) (us 0)).upd4 (by omega) (us 1)).upd4 (by omega) (us 2))

theorem Box.all4 {w : World} {g : Nat} {vs us : Nat → Sl} {t : TypeId} (hb : Box w g (cells4 vs) t) :
    Box ((((w.setCell ⟨g, 0, none⟩ (slV (us 0))).setCell ⟨g, 1, none⟩ (slV (us 1))).setCell ⟨g, 2, none⟩ (slV (us 2))).setCell ⟨g, 3, none⟩ (slV (us 3))) g (cells4 us) t :=
  (((hb.set 0 _).set 1 _).set 2 _).set 3 _
theorem Box.other4 {w : World} {g g' : Nat} {cs : Array Value} {t : TypeId} (hb : Box w g cs t) (hne : g ≠ g') (x0 x1 x2 x3 : Value) :
    Box ((((w.setCell ⟨g', 0, none⟩ x0).setCell ⟨g', 1, none⟩ x1).setCell ⟨g', 2, none⟩ x2).setCell ⟨g', 3, none⟩ x3) g cs t :=
  (((hb.other hne 0 _).other hne 1 _).other hne 2 _).other hne 3 _

theorem Box.laterSt {w : World} {g : Nat} {vs : Nat → Sl} {t : TypeId} (h : Box w g (cells4 vs) t) :
    (∀ X : Later w, X.w.cell? ⟨g, 0, none⟩ = some (slV (vs 0))) ∧ (∀ X : Later w, X.w.cell? ⟨g, 1, none⟩ = some (slV (vs 1))) ∧ (∀ X : Later w, X.w.cell? ⟨g, 2, none⟩ = some (slV (vs 2))) ∧ (∀ X : Later w, X.w.cell? ⟨g, 3, none⟩ = some (slV (vs 3))) :=
  ⟨h.later 0, h.later 1, h.later 2, h.later 3⟩

end Go.Proofs.YtibleipfablniaaGreat

/-
  THE WALKS over package object's three methods, its table of them, Apply and May: what each answers, for every object, state and operation. Condition: the state's rows can be copied.
-/
namespace Go.Proofs.YtibleipfablniaaGreat
open Go.RowKit

/-- A call's cells: the state's, the operation's. -/
abbrev cells7 (vs : Nat → Sl) (c r a : Int) : Array Value := #[slV (vs 0), slV (vs 1), slV (vs 2), slV (vs 3), .int .i64 c, .int .i64 r, .int .i64 a]

theorem Box.call {w : World} {g : Nat} {vs : Nat → Sl} {c r a : Int} {t : TypeId} (h : Box w g (cells7 vs c r a) t) :
    w.cell? ⟨g, 0, none⟩ = some (slV (vs 0)) ∧ w.cell? ⟨g, 1, none⟩ = some (slV (vs 1)) ∧ w.cell? ⟨g, 2, none⟩ = some (slV (vs 2)) ∧ w.cell? ⟨g, 3, none⟩ = some (slV (vs 3)) ∧
    w.cell? ⟨g, 4, none⟩ = some (.int .i64 c) ∧ w.cell? ⟨g, 5, none⟩ = some (.int .i64 r) ∧ w.cell? ⟨g, 6, none⟩ = some (.int .i64 a) :=
  ⟨h.cell 0, h.cell 1, h.cell 2, h.cell 3, h.cell 4, h.cell 5, h.cell 6⟩

/-- The three methods, as cells. -/
abbrev threeV : Array Value := #[.func (.func 110) #[] #[], .func (.func 111) #[] #[], .func (.func 112) #[] #[]]

set_option maxHeartbeats 400000 in
theorem objThree (w : World) : Calls Tryz.prog 99 #[] w fun e w' => e = .returned (.slice (some ⟨w.heap.size, 0, none⟩) 3 3) ∧ w.alloc (.cells threeV 123) = w' := by
  go_enter Tryz.func99, Tryz.ntmps99
  go_wp2
  go_ret
  exact ⟨rfl, rfl⟩

set_option maxHeartbeats 1000000 in
theorem ofStore (vs : Nat → Sl) (s : St) (c r a : Int) (w : World) (hx : HasS w (stV vs) s) (hf : Fit s) :
    Calls Tryz.prog 110 #[.agg (cells7 vs c r a)] w fun e w' => ∃ v', e = .returned (.tuple #[v', .int .i64 (stoS s c r a 300).2.1, .int .i64 (stoS s c r a 300).2.2]) ∧ OwnS w' w.heap.size v' (stoS s c r a 300).1 ∧ Le w w' := by
  have hl := (Le.alloc w (.cells (cells7 vs c r a) 125)).trans (Le.alloc _ (.cells (cells4 fun _ => slZ) 54))
  have hb1 := (Box.new w (cells7 vs c r a) 125).le (Le.alloc _ (.cells (cells4 fun _ => slZ) 54))
  have hb2 := Box.new (w.alloc (.cells (cells7 vs c r a) 125)) (cells4 fun _ => slZ) 54
  simp only [World.size_alloc] at hb2
  have hap := storeApply (stV vs) s c r a _ (hx.le hl) hf
  generalize stoS s c r a 300 = S1 at hap ⊢
  go_enter Tryz.func110, Tryz.ntmps110
  go_wp2_with fail
  refine hap.mono ?_
  rintro e w1 ⟨_, rfl, ⟨q, rfl, o1⟩, l1⟩
  replace o1 := fun i hi => (o1 i hi).base (base' := w.heap.size) hl.size
  obtain ⟨z0, z1, z2, z3, f0, f1, f2, f3⟩ := (hb2.le l1).st
  go_wp2_with fail
  refine bodyPost_ret (v := .tuple #[stV q, .int .i64 S1.2.1, .int .i64 S1.2.2]) (by simp [results, Tryz.results110, go_sem, z0, z1, z2, z3]) rfl ⟨_, rfl, ⟨q, rfl, fun i hi => ?_⟩, ?_⟩
  · exact (o1 i hi).set4 (hb2.le l1) (by decide) _ _ _ _
  · exact (hl.trans l1).set4 (by omega) _ _ _ _

set_option maxHeartbeats 1000000 in
theorem ofFds (vs : Nat → Sl) (s : St) (c r a : Int) (w : World) (hx : HasS w (stV vs) s) (hf : Fit s) :
    Calls Tryz.prog 111 #[.agg (cells7 vs c r a)] w fun e w' => ∃ v', e = .returned (.tuple #[v', .int .i64 (fdsS s c r a 400).2.1, .int .i64 (fdsS s c r a 400).2.2]) ∧ OwnS w' w.heap.size v' (fdsS s c r a 400).1 ∧ Le w w' := by
  have hl := (Le.alloc w (.cells (cells7 vs c r a) 125)).trans (Le.alloc _ (.cells (cells4 fun _ => slZ) 54))
  have hb1 := (Box.new w (cells7 vs c r a) 125).le (Le.alloc _ (.cells (cells4 fun _ => slZ) 54))
  have hb2 := Box.new (w.alloc (.cells (cells7 vs c r a) 125)) (cells4 fun _ => slZ) 54
  simp only [World.size_alloc] at hb2
  have hap := fdsApply (stV vs) s c r a _ (hx.le hl) hf
  generalize fdsS s c r a 400 = S1 at hap ⊢
  go_enter Tryz.func111, Tryz.ntmps111
  go_wp2_with fail
  refine hap.mono ?_
  rintro e w1 ⟨_, rfl, ⟨q, rfl, o1⟩, l1⟩
  replace o1 := fun i hi => (o1 i hi).base (base' := w.heap.size) hl.size
  obtain ⟨z0, z1, z2, z3, f0, f1, f2, f3⟩ := (hb2.le l1).st
  go_wp2_with fail
  refine bodyPost_ret (v := .tuple #[stV q, .int .i64 S1.2.1, .int .i64 S1.2.2]) (by simp [results, Tryz.results111, go_sem, z0, z1, z2, z3]) rfl ⟨_, rfl, ⟨q, rfl, fun i hi => ?_⟩, ?_⟩
  · exact (o1 i hi).set4 (hb2.le l1) (by decide) _ _ _ _
  · exact (hl.trans l1).set4 (by omega) _ _ _ _

set_option maxHeartbeats 1000000 in
theorem ofQueue (vs : Nat → Sl) (s : St) (c r a : Int) (w : World) (hx : HasS w (stV vs) s) (hf : Fit s) :
    Calls Tryz.prog 112 #[.agg (cells7 vs c r a)] w fun e w' => ∃ v', e = .returned (.tuple #[v', .int .i64 (queS s c r a 500).2.1, .int .i64 (queS s c r a 500).2.2]) ∧ OwnS w' w.heap.size v' (queS s c r a 500).1 ∧ Le w w' := by
  have hl := (Le.alloc w (.cells (cells7 vs c r a) 125)).trans (Le.alloc _ (.cells (cells4 fun _ => slZ) 54))
  have hb1 := (Box.new w (cells7 vs c r a) 125).le (Le.alloc _ (.cells (cells4 fun _ => slZ) 54))
  have hb2 := Box.new (w.alloc (.cells (cells7 vs c r a) 125)) (cells4 fun _ => slZ) 54
  simp only [World.size_alloc] at hb2
  have hap := queApply (stV vs) s c r a _ (hx.le hl) hf
  generalize queS s c r a 500 = S1 at hap ⊢
  go_enter Tryz.func112, Tryz.ntmps112
  go_wp2_with fail
  refine hap.mono ?_
  rintro e w1 ⟨_, rfl, ⟨q, rfl, o1⟩, l1⟩
  replace o1 := fun i hi => (o1 i hi).base (base' := w.heap.size) hl.size
  obtain ⟨z0, z1, z2, z3, f0, f1, f2, f3⟩ := (hb2.le l1).st
  go_wp2_with fail
  refine bodyPost_ret (v := .tuple #[stV q, .int .i64 S1.2.1, .int .i64 S1.2.2]) (by simp [results, Tryz.results112, go_sem, z0, z1, z2, z3]) rfl ⟨_, rfl, ⟨q, rfl, fun i hi => ?_⟩, ?_⟩
  · exact (o1 i hi).set4 (hb2.le l1) (by decide) _ _ _ _
  · exact (hl.trans l1).set4 (by omega) _ _ _ _

set_option maxHeartbeats 4000000 in
theorem objApply0 (v : Value) (s : St) (c r a : Int) (w : World) (hx : HasS w v s) (hf : Fit s) :
    Calls Tryz.prog 78 #[.int .i64 0, v, opV c r a] w fun e w' => ∃ v', e = .returned (.tuple #[v', .int .i64 (objS 0 s c r a 600).2.1, .int .i64 (objS 0 s c r a 600).2.2]) ∧ OwnS w' w.heap.size v' (objS 0 s c r a 600).1 ∧ Le w w' := by
  have hx0 := hx
  obtain ⟨vs, rfl, hr⟩ := hx
  have hl := ((Le.alloc w (.cells (cells4 vs) 54)).trans (Le.alloc _ (.cells #[.int .i64 c, .int .i64 r, .int .i64 a] 48))).trans (Le.alloc _ (.cells (cells4 fun _ => slZ) 54))
  have hb1 := ((Box.new w (cells4 vs) 54).le (Le.alloc _ (.cells #[.int .i64 c, .int .i64 r, .int .i64 a] 48))).le (Le.alloc _ (.cells (cells4 fun _ => slZ) 54))
  have hb2 := (Box.new (w.alloc (.cells (cells4 vs) 54)) #[.int .i64 c, .int .i64 r, .int .i64 a] 48).le (Le.alloc _ (.cells (cells4 fun _ => slZ) 54))
  have hb3 := Box.new ((w.alloc (.cells (cells4 vs) 54)).alloc (.cells #[.int .i64 c, .int .i64 r, .int .i64 a] 48)) (cells4 fun _ => slZ) 54
  simp only [World.size_alloc] at hb1 hb2 hb3
  have hA := Le.alloc (((w.alloc (.cells (cells4 vs) 54)).alloc (.cells #[.int .i64 c, .int .i64 r, .int .i64 a] 48)).alloc (.cells (cells4 fun _ => slZ) 54)) (.cells threeV 123)
  have hb4 := Box.new (((w.alloc (.cells (cells4 vs) 54)).alloc (.cells #[.int .i64 c, .int .i64 r, .int .i64 a] 48)).alloc (.cells (cells4 fun _ => slZ) 54)) threeV 123
  simp only [World.size_alloc] at hb4
  replace hb1 := hb1.le hA
  replace hb2 := hb2.le hA
  replace hb3 := hb3.le hA
  replace hl := hl.trans hA
  clear hA
  have HT : Hid ((objS 0 s c r a 600 = (St.zero, 0, 600) ∧ ¬ (stoS s c r a 300).2.2 = 0) ∨ (objS 0 s c r a 600 = ((stoS s c r a 300).1, (stoS s c r a 300).2.1, 0) ∧ (stoS s c r a 300).2.2 = 0)) := by
    cases hmo : s.all rowMay1 && opMay c r a
    · exact .inl ⟨stoS_no hmo, by rw [stoS_no hmo]; decide⟩
    · exact .inr ⟨(stoS_err hmo).trans (by rw [stoS_err (er := 300) hmo]), by rw [stoS_err (er := 300) hmo]⟩
  have hap := fun (w' : World) (h : Le w w') => ofStore vs s c r a w' (hx0.le h) hf
  generalize objS 0 s c r a 600 = T1 at HT ⊢
  generalize stoS s c r a 300 = S1 at HT hap
  clear hx0 hr
  go_enter Tryz.func78, Tryz.ntmps78
  go_upto_region 4 with (go_at_call 99; refine (objThree _).mono ?_; rintro e _ ⟨rfl, rfl⟩)
  generalize hW : (((w.alloc (.cells (cells4 vs) 54)).alloc (.cells #[.int .i64 c, .int .i64 r, .int .i64 a] 48)).alloc (.cells (cells4 fun _ => slZ) 54)).alloc (.cells threeV 123) = W at hb1 hb2 hb3 hb4 hl ⊢
  clear hW
  obtain ⟨x0, x1, x2, x3, _, _, _, _⟩ := hb1.st
  obtain ⟨y0, y1, y2, _, _, _⟩ := hb2.op
  have u0 : W.cell? ⟨w.heap.size + 1 + 1 + 1, 0, none⟩ = some (.func (.func 110) #[] #[]) := hb4.cell 0
  have hapA := hap W.drew (hl.trans (Le.drew _))
  have hapB := hap (W.alloc (.cells (cells4 fun _ => slZ) 54)).drew (hl.trans ((Le.alloc _ _).trans (Le.drew _)))
  clear hap
  have n1 : ¬ W.heap.size = w.heap.size := by have := hb1.lt; omega
  have n2 : ¬ W.heap.size = w.heap.size + 1 := by have := hb2.lt; omega
  have n3 : ¬ W.heap.size = w.heap.size + 1 + 1 + 1 := by have := hb4.lt; omega
  go_region_held3 (fun w' => w'.cell? ⟨w.heap.size, 0, none⟩ = some (slV (vs 0)) ∧ w'.cell? ⟨w.heap.size, 1, none⟩ = some (slV (vs 1)) ∧ w'.cell? ⟨w.heap.size, 2, none⟩ = some (slV (vs 2)) ∧ w'.cell? ⟨w.heap.size, 3, none⟩ = some (slV (vs 3)) ∧ w'.cell? ⟨w.heap.size + 1, 0, none⟩ = some (.int .i64 c) ∧ w'.cell? ⟨w.heap.size + 1, 1, none⟩ = some (.int .i64 r) ∧ w'.cell? ⟨w.heap.size + 1, 2, none⟩ = some (.int .i64 a) ∧ w'.cell? ⟨w.heap.size + 1 + 1 + 1, 0, none⟩ = some (.func (.func 110) #[] #[])) (go_keep) (first
    | (go_at_call 110; refine hapA.mono ?_; rintro e w2 ⟨_, rfl, ⟨q2, rfl, ho2⟩, l2⟩; replace l2 := (Le.drew W).trans l2; obtain ⟨x0', x1', x2', x3', _, _, _, _⟩ := (hb1.le l2).st; obtain ⟨y0', y1', y2', _, _, _⟩ := (hb2.le l2).op; have u0' : w2.cell? ⟨w.heap.size + 1 + 1 + 1, 0, none⟩ = some (.func (.func 110) #[] #[]) := (hb4.le l2).cell 0; have m1 : ¬ w2.heap.size = w.heap.size := (by have := (hb1.le l2).lt; omega); have m2 : ¬ w2.heap.size = w.heap.size + 1 := (by have := (hb2.le l2).lt; omega); have m3 : ¬ w2.heap.size = w.heap.size + 1 + 1 + 1 := (by have := (hb4.le l2).lt; omega))
    | (go_at_call 110; refine hapB.mono ?_; rintro e w2 ⟨_, rfl, ⟨q2, rfl, ho2⟩, l2⟩; have hbz := ((Box.new W (cells4 fun _ => slZ) 54).le (Le.drew _)).le l2; replace l2 := ((Le.alloc W (.cells (cells4 fun _ => slZ) 54)).trans (Le.drew _)).trans l2; obtain ⟨x0', x1', x2', x3', _, _, _, _⟩ := (hb1.le l2).st; obtain ⟨y0', y1', y2', _, _, _⟩ := (hb2.le l2).op; have u0' : w2.cell? ⟨w.heap.size + 1 + 1 + 1, 0, none⟩ = some (.func (.func 110) #[] #[]) := (hb4.le l2).cell 0; obtain ⟨v0, v1, v2, v3, g0, g1, g2, g3⟩ := hbz.st))
  all_goals clear hapA hapB x0 x1 x2 x3 y0 y1 y2 u0 x0' x1' x2' x3' y0' y1' y2' u0'
  · have ht := Box.new w2 (cells4 q2) 54
    have hz := (hb3.le l2).le (Le.alloc w2 (.cells (cells4 q2) 54))
    replace ho2 := fun i hi => ((ho2 i hi).base (base' := w.heap.size) hl.size).le (Le.alloc w2 (.cells (cells4 q2) 54))
    replace hl := (hl.trans l2).trans (Le.alloc w2 (.cells (cells4 q2) 54))
    have n9 : ¬ w.heap.size + 1 + 1 = w2.heap.size := by have := (hb3.le l2).lt; omega
    generalize hW : w2.alloc (.cells (cells4 q2) 54) = W2 at ht hz ho2 hl ⊢
    generalize w2.heap.size = g9 at n9 ht ⊢
    clear hW l2 m1 m2 m3 n1 n2 n3 hb1 hb2 hb3 hb4
    obtain ⟨z0, z1, z2, z3, f0, f1, f2, f3⟩ := hz.st
    obtain ⟨t0, t1, t2, t3, _, _, _, _⟩ := ht.st
    have n0 := hz.lt
    rcases HT.out with ⟨rfl, h0⟩ | ⟨rfl, h0⟩
    · clear HT
      go_wp2_with fail
      refine bodyPost_ret (v := .tuple #[stZ, .int .i64 0, .int .i64 600]) (by simp [results, Tryz.results78, go_sem, z0, z1, z2, z3]) rfl ⟨_, rfl, OwnS.zero _ _, ?_⟩
      exact hl.set4 (by omega) _ _ _ _
    · clear HT
      go_wp2_with fail
      refine bodyPost_ret (v := .tuple #[stV q2, .int .i64 S1.2.1, .int .i64 0]) (by simp [results, Tryz.results78, go_sem, z0, z1, z2, z3]) rfl ⟨_, rfl, ⟨q2, rfl, fun i hi => ?_⟩, ?_⟩
      · exact (ho2 i hi).set4 hz (by decide) _ _ _ _
      · exact hl.set4 (by omega) _ _ _ _
  · have g : ∀ i, i < 4 → Own ((((w2.setCell ⟨W.heap.size, 0, none⟩ (slV (q2 0))).setCell ⟨W.heap.size, 1, none⟩ (slV (q2 1))).setCell ⟨W.heap.size, 2, none⟩ (slV (q2 2))).setCell ⟨W.heap.size, 3, none⟩ (slV (q2 3))) w.heap.size (slV (q2 i)) (S1.1.at i) :=
      fun i hi => ((ho2 i hi).base (base' := w.heap.size) (hl.trans ((Le.alloc W _).trans (Le.drew _))).size).set4 hbz (by decide) _ _ _ _
    have n9 : ¬ w.heap.size + 1 + 1 = W.heap.size := by have := hb3.lt; omega
    have ht := hbz.all4 (us := q2)
    have hz := (hb3.le l2).other4 n9 (slV (q2 0)) (slV (q2 1)) (slV (q2 2)) (slV (q2 3))
    have hs := hl.size
    replace hl := (hl.trans l2).set4 hs (slV (q2 0)) (slV (q2 1)) (slV (q2 2)) (slV (q2 3))
    clear ho2
    have ho2 := g
    clear g
    generalize hW : (((w2.setCell ⟨W.heap.size, 0, none⟩ (slV (q2 0))).setCell ⟨W.heap.size, 1, none⟩ (slV (q2 1))).setCell ⟨W.heap.size, 2, none⟩ (slV (q2 2))).setCell ⟨W.heap.size, 3, none⟩ (slV (q2 3)) = W2 at ht hz ho2 hl ⊢
    clear hW l2 n1 n2 n3 hb1 hb2 hb3 hb4 hbz v0 v1 v2 v3 g0 g1 g2 g3 hs
    generalize W.heap.size = g9 at n9 ht ⊢
    obtain ⟨z0, z1, z2, z3, f0, f1, f2, f3⟩ := hz.st
    obtain ⟨t0, t1, t2, t3, _, _, _, _⟩ := ht.st
    have n0 := hz.lt
    rcases HT.out with ⟨rfl, h0⟩ | ⟨rfl, h0⟩
    · clear HT
      go_wp2_with fail
      refine bodyPost_ret (v := .tuple #[stZ, .int .i64 0, .int .i64 600]) (by simp [results, Tryz.results78, go_sem, z0, z1, z2, z3]) rfl ⟨_, rfl, OwnS.zero _ _, ?_⟩
      exact hl.set4 (by omega) _ _ _ _
    · clear HT
      go_wp2_with fail
      refine bodyPost_ret (v := .tuple #[stV q2, .int .i64 S1.2.1, .int .i64 0]) (by simp [results, Tryz.results78, go_sem, z0, z1, z2, z3]) rfl ⟨_, rfl, ⟨q2, rfl, fun i hi => ?_⟩, ?_⟩
      · exact (ho2 i hi).set4 hz (by decide) _ _ _ _
      · exact hl.set4 (by omega) _ _ _ _

set_option maxHeartbeats 4000000 in
theorem objApply1 (v : Value) (s : St) (c r a : Int) (w : World) (hx : HasS w v s) (hf : Fit s) :
    Calls Tryz.prog 78 #[.int .i64 1, v, opV c r a] w fun e w' => ∃ v', e = .returned (.tuple #[v', .int .i64 (objS 1 s c r a 600).2.1, .int .i64 (objS 1 s c r a 600).2.2]) ∧ OwnS w' w.heap.size v' (objS 1 s c r a 600).1 ∧ Le w w' := by
  have hx0 := hx
  obtain ⟨vs, rfl, hr⟩ := hx
  have hl := ((Le.alloc w (.cells (cells4 vs) 54)).trans (Le.alloc _ (.cells #[.int .i64 c, .int .i64 r, .int .i64 a] 48))).trans (Le.alloc _ (.cells (cells4 fun _ => slZ) 54))
  have hb1 := ((Box.new w (cells4 vs) 54).le (Le.alloc _ (.cells #[.int .i64 c, .int .i64 r, .int .i64 a] 48))).le (Le.alloc _ (.cells (cells4 fun _ => slZ) 54))
  have hb2 := (Box.new (w.alloc (.cells (cells4 vs) 54)) #[.int .i64 c, .int .i64 r, .int .i64 a] 48).le (Le.alloc _ (.cells (cells4 fun _ => slZ) 54))
  have hb3 := Box.new ((w.alloc (.cells (cells4 vs) 54)).alloc (.cells #[.int .i64 c, .int .i64 r, .int .i64 a] 48)) (cells4 fun _ => slZ) 54
  simp only [World.size_alloc] at hb1 hb2 hb3
  have hA := Le.alloc (((w.alloc (.cells (cells4 vs) 54)).alloc (.cells #[.int .i64 c, .int .i64 r, .int .i64 a] 48)).alloc (.cells (cells4 fun _ => slZ) 54)) (.cells threeV 123)
  have hb4 := Box.new (((w.alloc (.cells (cells4 vs) 54)).alloc (.cells #[.int .i64 c, .int .i64 r, .int .i64 a] 48)).alloc (.cells (cells4 fun _ => slZ) 54)) threeV 123
  simp only [World.size_alloc] at hb4
  replace hb1 := hb1.le hA
  replace hb2 := hb2.le hA
  replace hb3 := hb3.le hA
  replace hl := hl.trans hA
  clear hA
  have HT : Hid ((objS 1 s c r a 600 = (St.zero, 0, 600) ∧ ¬ (fdsS s c r a 400).2.2 = 0) ∨ (objS 1 s c r a 600 = ((fdsS s c r a 400).1, (fdsS s c r a 400).2.1, 0) ∧ (fdsS s c r a 400).2.2 = 0)) := by
    cases hmo : s.all rowMay2 && opMay c r a
    · exact .inl ⟨fdsS_no hmo, by rw [fdsS_no hmo]; decide⟩
    · exact .inr ⟨(fdsS_err hmo).trans (by rw [fdsS_err (er := 400) hmo]), by rw [fdsS_err (er := 400) hmo]⟩
  have hap := fun (w' : World) (h : Le w w') => ofFds vs s c r a w' (hx0.le h) hf
  generalize objS 1 s c r a 600 = T1 at HT ⊢
  generalize fdsS s c r a 400 = S1 at HT hap
  clear hx0 hr
  go_enter Tryz.func78, Tryz.ntmps78
  go_upto_region 4 with (go_at_call 99; refine (objThree _).mono ?_; rintro e _ ⟨rfl, rfl⟩)
  generalize hW : (((w.alloc (.cells (cells4 vs) 54)).alloc (.cells #[.int .i64 c, .int .i64 r, .int .i64 a] 48)).alloc (.cells (cells4 fun _ => slZ) 54)).alloc (.cells threeV 123) = W at hb1 hb2 hb3 hb4 hl ⊢
  clear hW
  obtain ⟨x0, x1, x2, x3, _, _, _, _⟩ := hb1.st
  obtain ⟨y0, y1, y2, _, _, _⟩ := hb2.op
  have u0 : W.cell? ⟨w.heap.size + 1 + 1 + 1, 1, none⟩ = some (.func (.func 111) #[] #[]) := hb4.cell 1
  have hapA := hap W.drew (hl.trans (Le.drew _))
  have hapB := hap (W.alloc (.cells (cells4 fun _ => slZ) 54)).drew (hl.trans ((Le.alloc _ _).trans (Le.drew _)))
  clear hap
  have n1 : ¬ W.heap.size = w.heap.size := by have := hb1.lt; omega
  have n2 : ¬ W.heap.size = w.heap.size + 1 := by have := hb2.lt; omega
  have n3 : ¬ W.heap.size = w.heap.size + 1 + 1 + 1 := by have := hb4.lt; omega
  go_region_held3 (fun w' => w'.cell? ⟨w.heap.size, 0, none⟩ = some (slV (vs 0)) ∧ w'.cell? ⟨w.heap.size, 1, none⟩ = some (slV (vs 1)) ∧ w'.cell? ⟨w.heap.size, 2, none⟩ = some (slV (vs 2)) ∧ w'.cell? ⟨w.heap.size, 3, none⟩ = some (slV (vs 3)) ∧ w'.cell? ⟨w.heap.size + 1, 0, none⟩ = some (.int .i64 c) ∧ w'.cell? ⟨w.heap.size + 1, 1, none⟩ = some (.int .i64 r) ∧ w'.cell? ⟨w.heap.size + 1, 2, none⟩ = some (.int .i64 a) ∧ w'.cell? ⟨w.heap.size + 1 + 1 + 1, 1, none⟩ = some (.func (.func 111) #[] #[])) (go_keep) (first
    | (go_at_call 111; refine hapA.mono ?_; rintro e w2 ⟨_, rfl, ⟨q2, rfl, ho2⟩, l2⟩; replace l2 := (Le.drew W).trans l2; obtain ⟨x0', x1', x2', x3', _, _, _, _⟩ := (hb1.le l2).st; obtain ⟨y0', y1', y2', _, _, _⟩ := (hb2.le l2).op; have u0' : w2.cell? ⟨w.heap.size + 1 + 1 + 1, 1, none⟩ = some (.func (.func 111) #[] #[]) := (hb4.le l2).cell 1; have m1 : ¬ w2.heap.size = w.heap.size := (by have := (hb1.le l2).lt; omega); have m2 : ¬ w2.heap.size = w.heap.size + 1 := (by have := (hb2.le l2).lt; omega); have m3 : ¬ w2.heap.size = w.heap.size + 1 + 1 + 1 := (by have := (hb4.le l2).lt; omega))
    | (go_at_call 111; refine hapB.mono ?_; rintro e w2 ⟨_, rfl, ⟨q2, rfl, ho2⟩, l2⟩; have hbz := ((Box.new W (cells4 fun _ => slZ) 54).le (Le.drew _)).le l2; replace l2 := ((Le.alloc W (.cells (cells4 fun _ => slZ) 54)).trans (Le.drew _)).trans l2; obtain ⟨x0', x1', x2', x3', _, _, _, _⟩ := (hb1.le l2).st; obtain ⟨y0', y1', y2', _, _, _⟩ := (hb2.le l2).op; have u0' : w2.cell? ⟨w.heap.size + 1 + 1 + 1, 1, none⟩ = some (.func (.func 111) #[] #[]) := (hb4.le l2).cell 1; obtain ⟨v0, v1, v2, v3, g0, g1, g2, g3⟩ := hbz.st))
  all_goals clear hapA hapB x0 x1 x2 x3 y0 y1 y2 u0 x0' x1' x2' x3' y0' y1' y2' u0'
  · have ht := Box.new w2 (cells4 q2) 54
    have hz := (hb3.le l2).le (Le.alloc w2 (.cells (cells4 q2) 54))
    replace ho2 := fun i hi => ((ho2 i hi).base (base' := w.heap.size) hl.size).le (Le.alloc w2 (.cells (cells4 q2) 54))
    replace hl := (hl.trans l2).trans (Le.alloc w2 (.cells (cells4 q2) 54))
    have n9 : ¬ w.heap.size + 1 + 1 = w2.heap.size := by have := (hb3.le l2).lt; omega
    generalize hW : w2.alloc (.cells (cells4 q2) 54) = W2 at ht hz ho2 hl ⊢
    generalize w2.heap.size = g9 at n9 ht ⊢
    clear hW l2 m1 m2 m3 n1 n2 n3 hb1 hb2 hb3 hb4
    obtain ⟨z0, z1, z2, z3, f0, f1, f2, f3⟩ := hz.st
    obtain ⟨t0, t1, t2, t3, _, _, _, _⟩ := ht.st
    have n0 := hz.lt
    rcases HT.out with ⟨rfl, h0⟩ | ⟨rfl, h0⟩
    · clear HT
      go_wp2_with fail
      refine bodyPost_ret (v := .tuple #[stZ, .int .i64 0, .int .i64 600]) (by simp [results, Tryz.results78, go_sem, z0, z1, z2, z3]) rfl ⟨_, rfl, OwnS.zero _ _, ?_⟩
      exact hl.set4 (by omega) _ _ _ _
    · clear HT
      go_wp2_with fail
      refine bodyPost_ret (v := .tuple #[stV q2, .int .i64 S1.2.1, .int .i64 0]) (by simp [results, Tryz.results78, go_sem, z0, z1, z2, z3]) rfl ⟨_, rfl, ⟨q2, rfl, fun i hi => ?_⟩, ?_⟩
      · exact (ho2 i hi).set4 hz (by decide) _ _ _ _
      · exact hl.set4 (by omega) _ _ _ _
  · have g : ∀ i, i < 4 → Own ((((w2.setCell ⟨W.heap.size, 0, none⟩ (slV (q2 0))).setCell ⟨W.heap.size, 1, none⟩ (slV (q2 1))).setCell ⟨W.heap.size, 2, none⟩ (slV (q2 2))).setCell ⟨W.heap.size, 3, none⟩ (slV (q2 3))) w.heap.size (slV (q2 i)) (S1.1.at i) :=
      fun i hi => ((ho2 i hi).base (base' := w.heap.size) (hl.trans ((Le.alloc W _).trans (Le.drew _))).size).set4 hbz (by decide) _ _ _ _
    have n9 : ¬ w.heap.size + 1 + 1 = W.heap.size := by have := hb3.lt; omega
    have ht := hbz.all4 (us := q2)
    have hz := (hb3.le l2).other4 n9 (slV (q2 0)) (slV (q2 1)) (slV (q2 2)) (slV (q2 3))
    have hs := hl.size
    replace hl := (hl.trans l2).set4 hs (slV (q2 0)) (slV (q2 1)) (slV (q2 2)) (slV (q2 3))
    clear ho2
    have ho2 := g
    clear g
    generalize hW : (((w2.setCell ⟨W.heap.size, 0, none⟩ (slV (q2 0))).setCell ⟨W.heap.size, 1, none⟩ (slV (q2 1))).setCell ⟨W.heap.size, 2, none⟩ (slV (q2 2))).setCell ⟨W.heap.size, 3, none⟩ (slV (q2 3)) = W2 at ht hz ho2 hl ⊢
    clear hW l2 n1 n2 n3 hb1 hb2 hb3 hb4 hbz v0 v1 v2 v3 g0 g1 g2 g3 hs
    generalize W.heap.size = g9 at n9 ht ⊢
    obtain ⟨z0, z1, z2, z3, f0, f1, f2, f3⟩ := hz.st
    obtain ⟨t0, t1, t2, t3, _, _, _, _⟩ := ht.st
    have n0 := hz.lt
    rcases HT.out with ⟨rfl, h0⟩ | ⟨rfl, h0⟩
    · clear HT
      go_wp2_with fail
      refine bodyPost_ret (v := .tuple #[stZ, .int .i64 0, .int .i64 600]) (by simp [results, Tryz.results78, go_sem, z0, z1, z2, z3]) rfl ⟨_, rfl, OwnS.zero _ _, ?_⟩
      exact hl.set4 (by omega) _ _ _ _
    · clear HT
      go_wp2_with fail
      refine bodyPost_ret (v := .tuple #[stV q2, .int .i64 S1.2.1, .int .i64 0]) (by simp [results, Tryz.results78, go_sem, z0, z1, z2, z3]) rfl ⟨_, rfl, ⟨q2, rfl, fun i hi => ?_⟩, ?_⟩
      · exact (ho2 i hi).set4 hz (by decide) _ _ _ _
      · exact hl.set4 (by omega) _ _ _ _

set_option maxHeartbeats 4000000 in
theorem objApply2 (v : Value) (s : St) (c r a : Int) (w : World) (hx : HasS w v s) (hf : Fit s) :
    Calls Tryz.prog 78 #[.int .i64 2, v, opV c r a] w fun e w' => ∃ v', e = .returned (.tuple #[v', .int .i64 (objS 2 s c r a 600).2.1, .int .i64 (objS 2 s c r a 600).2.2]) ∧ OwnS w' w.heap.size v' (objS 2 s c r a 600).1 ∧ Le w w' := by
  have hx0 := hx
  obtain ⟨vs, rfl, hr⟩ := hx
  have hl := ((Le.alloc w (.cells (cells4 vs) 54)).trans (Le.alloc _ (.cells #[.int .i64 c, .int .i64 r, .int .i64 a] 48))).trans (Le.alloc _ (.cells (cells4 fun _ => slZ) 54))
  have hb1 := ((Box.new w (cells4 vs) 54).le (Le.alloc _ (.cells #[.int .i64 c, .int .i64 r, .int .i64 a] 48))).le (Le.alloc _ (.cells (cells4 fun _ => slZ) 54))
  have hb2 := (Box.new (w.alloc (.cells (cells4 vs) 54)) #[.int .i64 c, .int .i64 r, .int .i64 a] 48).le (Le.alloc _ (.cells (cells4 fun _ => slZ) 54))
  have hb3 := Box.new ((w.alloc (.cells (cells4 vs) 54)).alloc (.cells #[.int .i64 c, .int .i64 r, .int .i64 a] 48)) (cells4 fun _ => slZ) 54
  simp only [World.size_alloc] at hb1 hb2 hb3
  have hA := Le.alloc (((w.alloc (.cells (cells4 vs) 54)).alloc (.cells #[.int .i64 c, .int .i64 r, .int .i64 a] 48)).alloc (.cells (cells4 fun _ => slZ) 54)) (.cells threeV 123)
  have hb4 := Box.new (((w.alloc (.cells (cells4 vs) 54)).alloc (.cells #[.int .i64 c, .int .i64 r, .int .i64 a] 48)).alloc (.cells (cells4 fun _ => slZ) 54)) threeV 123
  simp only [World.size_alloc] at hb4
  replace hb1 := hb1.le hA
  replace hb2 := hb2.le hA
  replace hb3 := hb3.le hA
  replace hl := hl.trans hA
  clear hA
  have HT : Hid ((objS 2 s c r a 600 = (St.zero, 0, 600) ∧ ¬ (queS s c r a 500).2.2 = 0) ∨ (objS 2 s c r a 600 = ((queS s c r a 500).1, (queS s c r a 500).2.1, 0) ∧ (queS s c r a 500).2.2 = 0)) := by
    cases hmo : s.all rowMay3 && opMay c r a
    · exact .inl ⟨queS_no hmo, by rw [queS_no hmo]; decide⟩
    · exact .inr ⟨(queS_err hmo).trans (by rw [queS_err (er := 500) hmo]), by rw [queS_err (er := 500) hmo]⟩
  have hap := fun (w' : World) (h : Le w w') => ofQueue vs s c r a w' (hx0.le h) hf
  generalize objS 2 s c r a 600 = T1 at HT ⊢
  generalize queS s c r a 500 = S1 at HT hap
  clear hx0 hr
  go_enter Tryz.func78, Tryz.ntmps78
  go_upto_region 4 with (go_at_call 99; refine (objThree _).mono ?_; rintro e _ ⟨rfl, rfl⟩)
  generalize hW : (((w.alloc (.cells (cells4 vs) 54)).alloc (.cells #[.int .i64 c, .int .i64 r, .int .i64 a] 48)).alloc (.cells (cells4 fun _ => slZ) 54)).alloc (.cells threeV 123) = W at hb1 hb2 hb3 hb4 hl ⊢
  clear hW
  obtain ⟨x0, x1, x2, x3, _, _, _, _⟩ := hb1.st
  obtain ⟨y0, y1, y2, _, _, _⟩ := hb2.op
  have u0 : W.cell? ⟨w.heap.size + 1 + 1 + 1, 2, none⟩ = some (.func (.func 112) #[] #[]) := hb4.cell 2
  have hapA := hap W.drew (hl.trans (Le.drew _))
  have hapB := hap (W.alloc (.cells (cells4 fun _ => slZ) 54)).drew (hl.trans ((Le.alloc _ _).trans (Le.drew _)))
  clear hap
  have n1 : ¬ W.heap.size = w.heap.size := by have := hb1.lt; omega
  have n2 : ¬ W.heap.size = w.heap.size + 1 := by have := hb2.lt; omega
  have n3 : ¬ W.heap.size = w.heap.size + 1 + 1 + 1 := by have := hb4.lt; omega
  go_region_held3 (fun w' => w'.cell? ⟨w.heap.size, 0, none⟩ = some (slV (vs 0)) ∧ w'.cell? ⟨w.heap.size, 1, none⟩ = some (slV (vs 1)) ∧ w'.cell? ⟨w.heap.size, 2, none⟩ = some (slV (vs 2)) ∧ w'.cell? ⟨w.heap.size, 3, none⟩ = some (slV (vs 3)) ∧ w'.cell? ⟨w.heap.size + 1, 0, none⟩ = some (.int .i64 c) ∧ w'.cell? ⟨w.heap.size + 1, 1, none⟩ = some (.int .i64 r) ∧ w'.cell? ⟨w.heap.size + 1, 2, none⟩ = some (.int .i64 a) ∧ w'.cell? ⟨w.heap.size + 1 + 1 + 1, 2, none⟩ = some (.func (.func 112) #[] #[])) (go_keep) (first
    | (go_at_call 112; refine hapA.mono ?_; rintro e w2 ⟨_, rfl, ⟨q2, rfl, ho2⟩, l2⟩; replace l2 := (Le.drew W).trans l2; obtain ⟨x0', x1', x2', x3', _, _, _, _⟩ := (hb1.le l2).st; obtain ⟨y0', y1', y2', _, _, _⟩ := (hb2.le l2).op; have u0' : w2.cell? ⟨w.heap.size + 1 + 1 + 1, 2, none⟩ = some (.func (.func 112) #[] #[]) := (hb4.le l2).cell 2; have m1 : ¬ w2.heap.size = w.heap.size := (by have := (hb1.le l2).lt; omega); have m2 : ¬ w2.heap.size = w.heap.size + 1 := (by have := (hb2.le l2).lt; omega); have m3 : ¬ w2.heap.size = w.heap.size + 1 + 1 + 1 := (by have := (hb4.le l2).lt; omega))
    | (go_at_call 112; refine hapB.mono ?_; rintro e w2 ⟨_, rfl, ⟨q2, rfl, ho2⟩, l2⟩; have hbz := ((Box.new W (cells4 fun _ => slZ) 54).le (Le.drew _)).le l2; replace l2 := ((Le.alloc W (.cells (cells4 fun _ => slZ) 54)).trans (Le.drew _)).trans l2; obtain ⟨x0', x1', x2', x3', _, _, _, _⟩ := (hb1.le l2).st; obtain ⟨y0', y1', y2', _, _, _⟩ := (hb2.le l2).op; have u0' : w2.cell? ⟨w.heap.size + 1 + 1 + 1, 2, none⟩ = some (.func (.func 112) #[] #[]) := (hb4.le l2).cell 2; obtain ⟨v0, v1, v2, v3, g0, g1, g2, g3⟩ := hbz.st))
  all_goals clear hapA hapB x0 x1 x2 x3 y0 y1 y2 u0 x0' x1' x2' x3' y0' y1' y2' u0'
  · have ht := Box.new w2 (cells4 q2) 54
    have hz := (hb3.le l2).le (Le.alloc w2 (.cells (cells4 q2) 54))
    replace ho2 := fun i hi => ((ho2 i hi).base (base' := w.heap.size) hl.size).le (Le.alloc w2 (.cells (cells4 q2) 54))
    replace hl := (hl.trans l2).trans (Le.alloc w2 (.cells (cells4 q2) 54))
    have n9 : ¬ w.heap.size + 1 + 1 = w2.heap.size := by have := (hb3.le l2).lt; omega
    generalize hW : w2.alloc (.cells (cells4 q2) 54) = W2 at ht hz ho2 hl ⊢
    generalize w2.heap.size = g9 at n9 ht ⊢
    clear hW l2 m1 m2 m3 n1 n2 n3 hb1 hb2 hb3 hb4
    obtain ⟨z0, z1, z2, z3, f0, f1, f2, f3⟩ := hz.st
    obtain ⟨t0, t1, t2, t3, _, _, _, _⟩ := ht.st
    have n0 := hz.lt
    rcases HT.out with ⟨rfl, h0⟩ | ⟨rfl, h0⟩
    · clear HT
      go_wp2_with fail
      refine bodyPost_ret (v := .tuple #[stZ, .int .i64 0, .int .i64 600]) (by simp [results, Tryz.results78, go_sem, z0, z1, z2, z3]) rfl ⟨_, rfl, OwnS.zero _ _, ?_⟩
      exact hl.set4 (by omega) _ _ _ _
    · clear HT
      go_wp2_with fail
      refine bodyPost_ret (v := .tuple #[stV q2, .int .i64 S1.2.1, .int .i64 0]) (by simp [results, Tryz.results78, go_sem, z0, z1, z2, z3]) rfl ⟨_, rfl, ⟨q2, rfl, fun i hi => ?_⟩, ?_⟩
      · exact (ho2 i hi).set4 hz (by decide) _ _ _ _
      · exact hl.set4 (by omega) _ _ _ _
  · have g : ∀ i, i < 4 → Own ((((w2.setCell ⟨W.heap.size, 0, none⟩ (slV (q2 0))).setCell ⟨W.heap.size, 1, none⟩ (slV (q2 1))).setCell ⟨W.heap.size, 2, none⟩ (slV (q2 2))).setCell ⟨W.heap.size, 3, none⟩ (slV (q2 3))) w.heap.size (slV (q2 i)) (S1.1.at i) :=
      fun i hi => ((ho2 i hi).base (base' := w.heap.size) (hl.trans ((Le.alloc W _).trans (Le.drew _))).size).set4 hbz (by decide) _ _ _ _
    have n9 : ¬ w.heap.size + 1 + 1 = W.heap.size := by have := hb3.lt; omega
    have ht := hbz.all4 (us := q2)
    have hz := (hb3.le l2).other4 n9 (slV (q2 0)) (slV (q2 1)) (slV (q2 2)) (slV (q2 3))
    have hs := hl.size
    replace hl := (hl.trans l2).set4 hs (slV (q2 0)) (slV (q2 1)) (slV (q2 2)) (slV (q2 3))
    clear ho2
    have ho2 := g
    clear g
    generalize hW : (((w2.setCell ⟨W.heap.size, 0, none⟩ (slV (q2 0))).setCell ⟨W.heap.size, 1, none⟩ (slV (q2 1))).setCell ⟨W.heap.size, 2, none⟩ (slV (q2 2))).setCell ⟨W.heap.size, 3, none⟩ (slV (q2 3)) = W2 at ht hz ho2 hl ⊢
    clear hW l2 n1 n2 n3 hb1 hb2 hb3 hb4 hbz v0 v1 v2 v3 g0 g1 g2 g3 hs
    generalize W.heap.size = g9 at n9 ht ⊢
    obtain ⟨z0, z1, z2, z3, f0, f1, f2, f3⟩ := hz.st
    obtain ⟨t0, t1, t2, t3, _, _, _, _⟩ := ht.st
    have n0 := hz.lt
    rcases HT.out with ⟨rfl, h0⟩ | ⟨rfl, h0⟩
    · clear HT
      go_wp2_with fail
      refine bodyPost_ret (v := .tuple #[stZ, .int .i64 0, .int .i64 600]) (by simp [results, Tryz.results78, go_sem, z0, z1, z2, z3]) rfl ⟨_, rfl, OwnS.zero _ _, ?_⟩
      exact hl.set4 (by omega) _ _ _ _
    · clear HT
      go_wp2_with fail
      refine bodyPost_ret (v := .tuple #[stV q2, .int .i64 S1.2.1, .int .i64 0]) (by simp [results, Tryz.results78, go_sem, z0, z1, z2, z3]) rfl ⟨_, rfl, ⟨q2, rfl, fun i hi => ?_⟩, ?_⟩
      · exact (ho2 i hi).set4 hz (by decide) _ _ _ _
      · exact hl.set4 (by omega) _ _ _ _

end Go.Proofs.YtibleipfablniaaGreat

/-
  THE WALKS over package object's Apply at no object, over Apply and May in one: what each answers, for every object, state and operation. Condition: the state's rows can be copied.
-/
namespace Go.Proofs.YtibleipfablniaaGreat
open Go.RowKit

set_option maxHeartbeats 1000000 in
theorem objApplyOut (o : Int) (ho : o < 0 ∨ 2 < o) (v : Value) (s : St) (c r a : Int) (w : World) (hx : HasS w v s) :
    Calls Tryz.prog 78 #[.int .i64 o, v, opV c r a] w fun e w' => e = .returned (.tuple #[stZ, .int .i64 0, .int .i64 600]) ∧ Le w w' := by
  obtain ⟨vs, rfl, hr⟩ := hx
  have hl := ((Le.alloc w (.cells (cells4 vs) 54)).trans (Le.alloc _ (.cells #[.int .i64 c, .int .i64 r, .int .i64 a] 48))).trans (Le.alloc _ (.cells (cells4 fun _ => slZ) 54))
  have hb3 := Box.new ((w.alloc (.cells (cells4 vs) 54)).alloc (.cells #[.int .i64 c, .int .i64 r, .int .i64 a] 48)) (cells4 fun _ => slZ) 54
  simp only [World.size_alloc] at hb3
  have hA := Le.alloc (((w.alloc (.cells (cells4 vs) 54)).alloc (.cells #[.int .i64 c, .int .i64 r, .int .i64 a] 48)).alloc (.cells (cells4 fun _ => slZ) 54)) (.cells threeV 123)
  replace hb3 := hb3.le hA
  replace hl := hl.trans hA
  clear hA
  by_cases h0 : o < 0
  · go_enter Tryz.func78, Tryz.ntmps78
    go_upto_region 2 with (go_at_call 99; refine (objThree _).mono ?_; rintro e _ ⟨rfl, rfl⟩)
    generalize hW : (((w.alloc (.cells (cells4 vs) 54)).alloc (.cells #[.int .i64 c, .int .i64 r, .int .i64 a] 48)).alloc (.cells (cells4 fun _ => slZ) 54)).alloc (.cells threeV 123) = W at hb3 hl ⊢
    clear hW
    obtain ⟨z0, z1, z2, z3, f0, f1, f2, f3⟩ := hb3.st
    go_wp2_with fail
    refine bodyPost_ret (v := .tuple #[stZ, .int .i64 0, .int .i64 600]) (by simp [results, Tryz.results78, go_sem, z0, z1, z2, z3]) rfl ⟨rfl, ?_⟩
    exact hl.set4 (g := w.heap.size + 1 + 1) (by omega) _ _ _ _
  · have h1 : 3 ≤ o := by omega
    go_enter Tryz.func78, Tryz.ntmps78
    go_upto_region 2 with (go_at_call 99; refine (objThree _).mono ?_; rintro e _ ⟨rfl, rfl⟩)
    generalize hW : (((w.alloc (.cells (cells4 vs) 54)).alloc (.cells #[.int .i64 c, .int .i64 r, .int .i64 a] 48)).alloc (.cells (cells4 fun _ => slZ) 54)).alloc (.cells threeV 123) = W at hb3 hl ⊢
    clear hW
    obtain ⟨z0, z1, z2, z3, f0, f1, f2, f3⟩ := hb3.st
    go_wp2_with fail
    refine bodyPost_ret (v := .tuple #[stZ, .int .i64 0, .int .i64 600]) (by simp [results, Tryz.results78, go_sem, z0, z1, z2, z3]) rfl ⟨rfl, ?_⟩
    exact hl.set4 (g := w.heap.size + 1 + 1) (by omega) _ _ _ _

theorem objApply (o : Int) (v : Value) (s : St) (c r a : Int) (w : World) (hx : HasS w v s) (hf : Fit s) :
    Calls Tryz.prog 78 #[.int .i64 o, v, opV c r a] w fun e w' => ∃ v', e = .returned (.tuple #[v', .int .i64 (objS o s c r a 600).2.1, .int .i64 (objS o s c r a 600).2.2]) ∧ OwnS w' w.heap.size v' (objS o s c r a 600).1 ∧ Le w w' := by
  rcases obj_cases (o := o) with rfl | rfl | rfl | ho
  · exact objApply0 v s c r a w hx hf
  · exact objApply1 v s c r a w hx hf
  · exact objApply2 v s c r a w hx hf
  · rw [objS_out ho]
    exact (objApplyOut o ho v s c r a w hx).mono fun e w' ⟨he, hl⟩ => ⟨stZ, he, OwnS.zero _ _, hl⟩

theorem objScan (o : Int) (s : St) (er : Int) (h : er ≠ 0) : ((objS o s 3 0 0 er).2.2 == 0) = objMay o s := by
  have ho : opMay 3 0 0 = true := by decide
  cases hm : objMay o s
  · rw [objS_no (by rw [hm]; rfl)]; simpa using h
  · rw [objS_yes _ (by rw [hm, ho]; rfl)]; rfl

set_option maxHeartbeats 1000000 in
theorem objMayC (o : Int) (v : Value) (s : St) (w : World) (hx : HasS w v s) (hf : Fit s) :
    Calls Tryz.prog 57 #[.int .i64 o, v] w fun e w' => e = .returned (.bool (objMay o s)) ∧ Le w w' := by
  have hx0 := hx
  obtain ⟨vs, rfl, hr⟩ := hx
  have hl := Le.alloc w (.cells (cells4 vs) 54)
  have hap := objApply o (stV vs) s 3 0 0 _ (hx0.le hl) hf
  have hsc := objScan o s 600 (by decide)
  generalize objS o s 3 0 0 600 = S1 at hap hsc
  generalize objMay o s = b at hsc ⊢
  go_enter Tryz.func57, Tryz.ntmps57
  go_wp2_with fail
  refine hap.mono ?_
  rintro e w1 ⟨_, rfl, ⟨q, rfl, o1⟩, l1⟩
  go_wp2_with fail
  go_ret
  exact ⟨rfl, (hl.trans l1).trans (Le.alloc _ _)⟩

end Go.Proofs.YtibleipfablniaaGreat

/-
  THE WALKS over package start's looker (mayReplica, mayThread) and May: what each answers, for every machine. Condition: that its rows can be copied.
-/
namespace Go.Proofs.YtibleipfablniaaGreat
open Go.RowKit

set_option maxHeartbeats 4000000 in
theorem lookMayReplica (c : Cfg) (q : Sl) (v : Value) (Rs : List Rg) (P : Rp) (w : World) (hR : HasRs w (slV q) Rs) (hm : Rs.length * 48 ≤ 140737488351232) (hn : (Rs.length : Int) = c.l) (hx : HasP w v P) (hf : Fit P.s) (hf2 : P.ls.length * 8 ≤ 140737488351232) :
    Calls Tryz.prog 29 #[lookV c q, v] w fun e w' => e = .returned (.bool (repB c Rs P)) ∧ Le w w' := by
  obtain ⟨vs, qc, ql, rfl, i0, i1, i2⟩ := hx
  have hb := Box.new (w.alloc (.cells (cellsK c q) 75)) (cellsP vs qc ql) 56
  have hk := (Box.new w (cellsK c q) 75).le (Le.alloc _ (.cells (cellsP vs qc ql) 56))
  rw [World.size_alloc] at hb
  have hl := (Le.alloc w (.cells (cellsK c q) 75)).trans (Le.alloc _ (.cells (cellsP vs qc ql) 56))
  have m1 := objMayC c.o (stV vs) P.s _ (HasS.le ⟨vs, rfl, i0⟩ hl) hf
  have hlen := i1.len
  have m2 := fun w' (l : Le w w') (hh : P.cs.length = Rs.length) => lookMayCursors c q (slV qc) Rs P.cs w' (hR.le l) (i1.le l) hh hm
  have m3 := fun w' (l : Le w w') => exactlyNum 53 (lookV c q) (fun x => inB 0 x c.t) (fun _ _ => by kernel_rfl) (slV ql) P.ls c.l w' (fun w'' _ v x _ _ h => by rw [show v = .int .i64 x from h]; exact lookMayHolder c q x w'') (i2.le l) (by omega)
  simp only [repB]
  obtain ⟨ua, n, ucap⟩ := qc
  simp only at hlen
  have HN : Hid (n = P.cs.length) := hlen
  rw [← hlen]
  clear hlen hf hf2 i0 i1 i2
  cases h1 : objMay c.o P.s
  · rw [h1] at m1
    go_enter Tryz.func29, Tryz.ntmps29
    go_wp2_with fail
    refine m1.mono ?_
    rintro e w1 ⟨rfl, l1⟩
    go_wp2_with fail
    go_ret
    exact ⟨rfl, hl.trans l1⟩
  rw [h1] at m1
  by_cases h2 : (n : Int) = c.l
  case neg =>
    have h2b : ((n : Int) == c.l) = false := by simp [h2]
    rw [decide_eq_false h2]
    clear h2
    go_enter Tryz.func29, Tryz.ntmps29
    go_wp2_with fail
    refine m1.mono ?_
    rintro e w1 ⟨rfl, l1⟩
    obtain ⟨b0, b1, b2, b3, b4, b5⟩ := (hb.le l1).rep
    obtain ⟨k0, k1, k2, k3, k4, k5⟩ := (hk.le l1).look
    simp only [slV] at b4
    go_wp2_with fail
    go_ret
    exact ⟨rfl, hl.trans l1⟩
  have h2b : ((n : Int) == c.l) = true := by simp [h2]
  replace m2 := fun w' (l : Le w w') => m2 w' l (by have := HN.out; omega)
  rw [decide_eq_true h2]
  clear h2 hn
  cases h3 : cursOK Rs P.cs
  · simp only [h3] at m2
    go_enter Tryz.func29, Tryz.ntmps29
    go_wp2_with fail
    refine m1.mono ?_
    rintro e w1 ⟨rfl, l1⟩
    obtain ⟨b0, b1, b2, b3, b4, b5⟩ := (hb.le l1).rep
    obtain ⟨k0, k1, k2, k3, k4, k5⟩ := (hk.le l1).look
    simp only [slV] at b4
    go_wp2_with fail
    refine (m2 _ (hl.trans l1)).mono ?_
    rintro e w2 ⟨rfl, l2⟩
    go_wp2_with fail
    go_ret
    exact ⟨rfl, (hl.trans l1).trans l2⟩
  · simp only [h3] at m2
    go_enter Tryz.func29, Tryz.ntmps29
    go_wp2_with fail
    refine m1.mono ?_
    rintro e w1 ⟨rfl, l1⟩
    obtain ⟨b0, b1, b2, b3, b4, b5⟩ := (hb.le l1).rep
    obtain ⟨k0, k1, k2, k3, k4, k5⟩ := (hk.le l1).look
    simp only [slV] at b4
    go_wp2_with fail
    refine (m2 _ (hl.trans l1)).mono ?_
    rintro e w2 ⟨rfl, l2⟩
    obtain ⟨_, _, _, _, _, b5'⟩ := ((hb.le l1).le l2).rep
    obtain ⟨k0', k1', k2', k3', k4', k5'⟩ := ((hk.le l1).le l2).look
    go_wp2_with fail
    refine (m3 _ ((hl.trans l1).trans l2)).mono ?_
    rintro e w3 ⟨rfl, l3⟩
    go_wp2_with fail
    go_ret
    exact ⟨rfl, ((hl.trans l1).trans l2).trans l3⟩

set_option maxRecDepth 4000 in
set_option maxHeartbeats 8000000 in
theorem lookMayThread (c : Cfg) (q : Sl) (v : Value) (T : Th) (w : World) (hc : c.ok = true) (hx : HasT w v T) (hf : T.b.length * 8 ≤ 140737488351232) (hf2 : T.tl.length * 8 ≤ 140737488351232) :
    Calls Tryz.prog 31 #[lookV c q, v] w fun e w' => e = .returned (.bool (thB c T)) ∧ Le w w' := by
  obtain ⟨⟨ba, bn, bc⟩, t, rfl, i1, i2⟩ := hx
  obtain ⟨_, _, ⟨l0, l1'⟩, ⟨t0, t1⟩, _, _⟩ := Cfg.ok_cases hc
  have hb := Box.new (w.alloc (.cells (cellsK c q) 75)) (cellsT T (ba, bn, bc) t) 58
  have hk := (Box.new w (cellsK c q) 75).le (Le.alloc _ (.cells (cellsT T (ba, bn, bc) t) 58))
  rw [World.size_alloc] at hb
  have hl := (Le.alloc w (.cells (cellsK c q) 75)).trans (Le.alloc _ (.cells (cellsT T (ba, bn, bc) t) 58))
  have hlen := i1.len
  simp only at hlen
  have m1 := fun w' => startWithin T.st 0 19 w'
  have m2 := fun w' => operMay T.c T.r T.a w'
  have m3 := fun w' => startWithin T.lg 0 (c.l - 1) w'
  have m4 := fun w' => startMayPlace T.sn w'
  have m5 := fun w' (l : Le w w') => atMostNum 65 (lookV c q) (fun x => inB 0 x (c.t - 1)) (fun _ _ => by kernel_rfl) (slV (ba, bn, bc)) T.b c.t w' (fun w'' _ v x _ _ h => by rw [show v = .int .i64 x from h]; exact lookIsThread c q x w'' hc) (i1.le l) (by omega)
  have m6 := fun w' => startWithin T.pl 0 bn w'
  have m7 := fun w' (l : Le w w') => atMostNum0 63 (fun x => inB 0 x 1048576) (fun _ _ => by kernel_rfl) (slV t) T.tl c.l w' (fun w'' _ v x _ _ h => by rw [show v = .int .i64 x from h]; exact (startMayPlace x w'').mono (fun _ _ ⟨he, hw⟩ => ⟨he, by rw [hw]; exact Le.refl _⟩)) (i2.le l) (by omega)
  simp only [thB]
  rw [← hlen] at m5 ⊢
  clear hlen hf hf2 i1 i2 hc
  cases h1 : inB 0 T.st 19
  · simp only [h1] at m1
    go_enter Tryz.func31, Tryz.ntmps31
    go_wp2_with fail
    refine (m1 _).mono ?_
    rintro e _ ⟨rfl, rfl⟩
    go_wp2_with fail
    go_ret
    exact ⟨rfl, hl⟩
  simp only [h1] at m1
  cases h2 : opMay T.c T.r T.a
  · simp only [h2] at m2
    go_enter Tryz.func31, Tryz.ntmps31
    go_wp2_with fail
    refine (m1 _).mono ?_
    rintro e _ ⟨rfl, rfl⟩
    go_wp2_with fail
    refine (m2 _).mono ?_
    rintro e w1 ⟨rfl, n1⟩
    go_wp2_with fail
    go_ret
    exact ⟨rfl, hl.trans n1⟩
  simp only [h2] at m2
  cases h3 : inB 0 T.lg (c.l - 1)
  · simp only [h3] at m3
    go_enter Tryz.func31, Tryz.ntmps31
    go_wp2_with fail
    refine (m1 _).mono ?_
    rintro e _ ⟨rfl, rfl⟩
    go_wp2_with fail
    refine (m2 _).mono ?_
    rintro e w1 ⟨rfl, n1⟩
    obtain ⟨b10, b11, b12, b13, b14, b15, b16, b17, b18, b19, b110, b111⟩ := (hb.le n1).th
    obtain ⟨k10, k11, k12, k13, k14, k15⟩ := (hk.le n1).look
    simp only [slV] at b16
    go_wp2_with fail
    refine (m3 _).mono ?_
    rintro e _ ⟨rfl, rfl⟩
    go_wp2_with fail
    go_ret
    exact ⟨rfl, hl.trans n1⟩
  simp only [h3] at m3
  cases h4 : inB 0 T.sn 1048576
  · simp only [h4] at m4
    go_enter Tryz.func31, Tryz.ntmps31
    go_wp2_with fail
    refine (m1 _).mono ?_
    rintro e _ ⟨rfl, rfl⟩
    go_wp2_with fail
    refine (m2 _).mono ?_
    rintro e w1 ⟨rfl, n1⟩
    obtain ⟨b10, b11, b12, b13, b14, b15, b16, b17, b18, b19, b110, b111⟩ := (hb.le n1).th
    obtain ⟨k10, k11, k12, k13, k14, k15⟩ := (hk.le n1).look
    simp only [slV] at b16
    go_wp2_with fail
    refine (m3 _).mono ?_
    rintro e _ ⟨rfl, rfl⟩
    go_wp2_with fail
    refine (m4 _).mono ?_
    rintro e _ ⟨rfl, rfl⟩
    go_wp2_with fail
    go_ret
    exact ⟨rfl, hl.trans n1⟩
  simp only [h4] at m4
  cases h5 : (decide ((bn : Int) ≤ c.t) && T.b.all (fun x => inB 0 x (c.t - 1)))
  · simp only [h5] at m5
    go_enter Tryz.func31, Tryz.ntmps31
    go_wp2_with fail
    refine (m1 _).mono ?_
    rintro e _ ⟨rfl, rfl⟩
    go_wp2_with fail
    refine (m2 _).mono ?_
    rintro e w1 ⟨rfl, n1⟩
    obtain ⟨b10, b11, b12, b13, b14, b15, b16, b17, b18, b19, b110, b111⟩ := (hb.le n1).th
    obtain ⟨k10, k11, k12, k13, k14, k15⟩ := (hk.le n1).look
    simp only [slV] at b16
    go_wp2_with fail
    refine (m3 _).mono ?_
    rintro e _ ⟨rfl, rfl⟩
    go_wp2_with fail
    refine (m4 _).mono ?_
    rintro e _ ⟨rfl, rfl⟩
    go_wp2_with fail
    refine (m5 _ (hl.trans n1)).mono ?_
    rintro e w2 ⟨rfl, n2⟩
    go_wp2_with fail
    go_ret
    exact ⟨rfl, (hl.trans n1).trans n2⟩
  simp only [h5] at m5
  cases h6 : inB 0 T.pl bn
  · simp only [h6] at m6
    go_enter Tryz.func31, Tryz.ntmps31
    go_wp2_with fail
    refine (m1 _).mono ?_
    rintro e _ ⟨rfl, rfl⟩
    go_wp2_with fail
    refine (m2 _).mono ?_
    rintro e w1 ⟨rfl, n1⟩
    obtain ⟨b10, b11, b12, b13, b14, b15, b16, b17, b18, b19, b110, b111⟩ := (hb.le n1).th
    obtain ⟨k10, k11, k12, k13, k14, k15⟩ := (hk.le n1).look
    simp only [slV] at b16
    go_wp2_with fail
    refine (m3 _).mono ?_
    rintro e _ ⟨rfl, rfl⟩
    go_wp2_with fail
    refine (m4 _).mono ?_
    rintro e _ ⟨rfl, rfl⟩
    go_wp2_with fail
    refine (m5 _ (hl.trans n1)).mono ?_
    rintro e w2 ⟨rfl, n2⟩
    obtain ⟨b20, b21, b22, b23, b24, b25, b26, b27, b28, b29, b210, b211⟩ := ((hb.le n1).le n2).th
    obtain ⟨k20, k21, k22, k23, k24, k25⟩ := ((hk.le n1).le n2).look
    simp only [slV] at b26
    go_wp2_with fail
    refine (m6 _).mono ?_
    rintro e _ ⟨rfl, rfl⟩
    go_wp2_with fail
    go_ret
    exact ⟨rfl, (hl.trans n1).trans n2⟩
  simp only [h6] at m6
  go_enter Tryz.func31, Tryz.ntmps31
  go_wp2_with fail
  refine (m1 _).mono ?_
  rintro e _ ⟨rfl, rfl⟩
  go_wp2_with fail
  refine (m2 _).mono ?_
  rintro e w1 ⟨rfl, n1⟩
  obtain ⟨b10, b11, b12, b13, b14, b15, b16, b17, b18, b19, b110, b111⟩ := (hb.le n1).th
  obtain ⟨k10, k11, k12, k13, k14, k15⟩ := (hk.le n1).look
  simp only [slV] at b16
  go_wp2_with fail
  refine (m3 _).mono ?_
  rintro e _ ⟨rfl, rfl⟩
  go_wp2_with fail
  refine (m4 _).mono ?_
  rintro e _ ⟨rfl, rfl⟩
  go_wp2_with fail
  refine (m5 _ (hl.trans n1)).mono ?_
  rintro e w2 ⟨rfl, n2⟩
  obtain ⟨b20, b21, b22, b23, b24, b25, b26, b27, b28, b29, b210, b211⟩ := ((hb.le n1).le n2).th
  obtain ⟨k20, k21, k22, k23, k24, k25⟩ := ((hk.le n1).le n2).look
  simp only [slV] at b26
  go_wp2_with fail
  refine (m6 _).mono ?_
  rintro e _ ⟨rfl, rfl⟩
  go_wp2_with fail
  refine (m7 _ ((hl.trans n1).trans n2)).mono ?_
  rintro e w3 ⟨rfl, n3⟩
  go_wp2_with fail
  go_ret
  exact ⟨rfl, ((hl.trans n1).trans n2).trans n3⟩

end Go.Proofs.YtibleipfablniaaGreat

/-
  THE WALK over package start's May: what it answers, for every machine. Condition: that its rows can be copied.
-/
namespace Go.Proofs.YtibleipfablniaaGreat
open Go.RowKit

set_option maxRecDepth 4000 in
set_option maxHeartbeats 8000000 in
theorem startMay (v : Value) (M : Mc) (w : World) (hx : HasM w v M) (hf : FitM M) : Calls Tryz.prog 10 #[v] w fun e w' => e = .returned (.bool (mayM M)) ∧ Le w w' := by
  obtain ⟨c, Rs, Ps, Ts, Es⟩ := M
  obtain ⟨qR, qP, qT, qH, rfl, hR, hP, hT, hH⟩ := hx
  obtain ⟨f1, f2, f3, f4, fr, fp, ft⟩ := hf
  simp only at hR hP hT hH f1 f2 f3 f4 fr fp ft
  have hb := (Box.new w (cells9 c qR qP qT qH) 29).le (Le.alloc _ (.cells (cellsK c qR) 75))
  have hk := Box.new (w.alloc (.cells (cells9 c qR qP qT qH) 29)) (cellsK c qR) 75
  rw [World.size_alloc] at hk
  have hl := (Le.alloc w (.cells (cells9 c qR qP qT qH) 29)).trans (Le.alloc _ (.cells (cellsK c qR) 75))
  have m1 := fun w' => cfgMay c.o c.r c.l c.t c.s w'
  simp only [mayM, Cfg.ok]
  cases h1 : cfgB c.o c.r c.l c.t c.s
  · simp only [h1] at m1
    go_enter Tryz.func10, Tryz.ntmps10
    go_wp2_with fail
    refine (m1 _).mono ?_
    rintro e w1 ⟨rfl, n1⟩
    go_wp2_with fail
    go_ret
    exact ⟨rfl, hl.trans n1⟩
  have hc : c.ok = true := h1
  simp only [h1] at m1
  have m2 := fun w' (l : Le w w') => exactlyRing 27 (lookV c qR) (ringB c) (fun _ _ => by kernel_rfl) (slV qR) Rs c.l w' (fun w'' _ u R hm _ h => lookMayRing c qR u R w'' hc h (fr R hm)) (hR.le l) (by omega)
  cases h2 : (decide ((Rs.length : Int) = c.l) && Rs.all (ringB c))
  · simp only [h2] at m2
    go_enter Tryz.func10, Tryz.ntmps10
    go_wp2_with fail
    refine (m1 _).mono ?_
    rintro e w1 ⟨rfl, n1⟩
    obtain ⟨_, b5, b6, b7, b8⟩ := (hb.le n1).mach
    obtain ⟨k0, k1, k2, k3, k4, k5⟩ := (hk.le n1).look
    go_wp2_with fail
    refine (m2 _ (hl.trans n1)).mono ?_
    rintro e w2 ⟨rfl, n2⟩
    go_wp2_with fail
    go_ret
    exact ⟨rfl, (hl.trans n1).trans n2⟩
  simp only [h2] at m2
  have hn : (Rs.length : Int) = c.l := by simp at h2; exact h2.1
  have m3 := fun w' (l : Le w w') => exactlyRep 29 (lookV c qR) (repB c Rs) (fun _ _ => by kernel_rfl) (slV qP) Ps c.r w' (fun w'' l' u P hm _ h => lookMayReplica c qR u Rs P w'' (hR.le (l.trans l')) f1 hn h (fp P hm).1 (fp P hm).2.2) (hP.le l) (by omega)
  clear hn
  cases h3 : (decide ((Ps.length : Int) = c.r) && Ps.all (repB c Rs))
  · simp only [h3] at m3
    go_enter Tryz.func10, Tryz.ntmps10
    go_wp2_with fail
    refine (m1 _).mono ?_
    rintro e w1 ⟨rfl, n1⟩
    obtain ⟨_, b5, b6, b7, b8⟩ := (hb.le n1).mach
    obtain ⟨k0, k1, k2, k3, k4, k5⟩ := (hk.le n1).look
    go_wp2_with fail
    refine (m2 _ (hl.trans n1)).mono ?_
    rintro e w2 ⟨rfl, n2⟩
    obtain ⟨_, b5', b6', b7', b8'⟩ := ((hb.le n1).le n2).mach
    obtain ⟨k0', k1', k2', k3', k4', k5'⟩ := ((hk.le n1).le n2).look
    go_wp2_with fail
    refine (m3 _ ((hl.trans n1).trans n2)).mono ?_
    rintro e w3 ⟨rfl, n3⟩
    go_wp2_with fail
    go_ret
    exact ⟨rfl, ((hl.trans n1).trans n2).trans n3⟩
  simp only [h3] at m3
  have m4 := fun w' (l : Le w w') => exactlyTh 31 (lookV c qR) (thB c) (fun _ _ => by kernel_rfl) (slV qT) Ts c.t w' (fun w'' _ u T hm _ h => lookMayThread c qR u T w'' hc h (ft T hm).1 (ft T hm).2) (hT.le l) (by omega)
  cases h4 : (decide ((Ts.length : Int) = c.t) && Ts.all (thB c))
  · simp only [h4] at m4
    go_enter Tryz.func10, Tryz.ntmps10
    go_wp2_with fail
    refine (m1 _).mono ?_
    rintro e w1 ⟨rfl, n1⟩
    obtain ⟨_, b5, b6, b7, b8⟩ := (hb.le n1).mach
    obtain ⟨k0, k1, k2, k3, k4, k5⟩ := (hk.le n1).look
    go_wp2_with fail
    refine (m2 _ (hl.trans n1)).mono ?_
    rintro e w2 ⟨rfl, n2⟩
    obtain ⟨_, b5', b6', b7', b8'⟩ := ((hb.le n1).le n2).mach
    obtain ⟨k0', k1', k2', k3', k4', k5'⟩ := ((hk.le n1).le n2).look
    go_wp2_with fail
    refine (m3 _ ((hl.trans n1).trans n2)).mono ?_
    rintro e w3 ⟨rfl, n3⟩
    obtain ⟨_, _, b6'', b7'', b8''⟩ := (((hb.le n1).le n2).le n3).mach
    obtain ⟨k0'', k1'', k2'', k3'', k4'', k5''⟩ := (((hk.le n1).le n2).le n3).look
    go_wp2_with fail
    refine (m4 _ (((hl.trans n1).trans n2).trans n3)).mono ?_
    rintro e w4 ⟨rfl, n4⟩
    go_wp2_with fail
    go_ret
    exact ⟨rfl, (((hl.trans n1).trans n2).trans n3).trans n4⟩
  simp only [h4] at m4
  have m5 := fun w' (l : Le w w') => atMostEv 33 (lookV c qR) (evB c) (fun _ _ => by kernel_rfl) (slV qH) Es 64 w' (fun w'' _ u E hm _ h => by rw [show u = evV E from h]; exact lookMayEvent c qR E w'' hc) (hH.le l) (by omega)
  go_enter Tryz.func10, Tryz.ntmps10
  go_wp2_with fail
  refine (m1 _).mono ?_
  rintro e w1 ⟨rfl, n1⟩
  obtain ⟨_, b5, b6, b7, b8⟩ := (hb.le n1).mach
  obtain ⟨k0, k1, k2, k3, k4, k5⟩ := (hk.le n1).look
  go_wp2_with fail
  refine (m2 _ (hl.trans n1)).mono ?_
  rintro e w2 ⟨rfl, n2⟩
  obtain ⟨_, b5', b6', b7', b8'⟩ := ((hb.le n1).le n2).mach
  obtain ⟨k0', k1', k2', k3', k4', k5'⟩ := ((hk.le n1).le n2).look
  go_wp2_with fail
  refine (m3 _ ((hl.trans n1).trans n2)).mono ?_
  rintro e w3 ⟨rfl, n3⟩
  obtain ⟨_, _, b6'', b7'', b8''⟩ := (((hb.le n1).le n2).le n3).mach
  obtain ⟨k0'', k1'', k2'', k3'', k4'', k5''⟩ := (((hk.le n1).le n2).le n3).look
  go_wp2_with fail
  refine (m4 _ (((hl.trans n1).trans n2).trans n3)).mono ?_
  rintro e w4 ⟨rfl, n4⟩
  have b9 := ((((hb.le n1).le n2).le n3).le n4).mach.2.2.2.2
  obtain ⟨j0, j1, j2, j3, j4, j5⟩ := ((((hk.le n1).le n2).le n3).le n4).look
  go_wp2_with fail
  refine (m5 _ ((((hl.trans n1).trans n2).trans n3).trans n4)).mono ?_
  rintro e w5 ⟨rfl, n5⟩
  go_wp2_with fail
  go_ret
  exact ⟨rfl, ((((hl.trans n1).trans n2).trans n3).trans n4).trans n5⟩

end Go.Proofs.YtibleipfablniaaGreat

/-
  THE WALK over choruslaw14.awake: it answers true and turns nothing that was there. No condition. Beside it the contracts of package start's New and choruslaw0's CopyMachine with their answers written out.
-/
namespace Go.Proofs.YtibleipfablniaaGreat
open Go.RowKit

theorem OwnM.open {w : World} {base : Nat} {v : Value} {M : Mc} (h : OwnM w base v M) : ∃ qR qP qT qH, v = machV M.c qR qP qT qH := by
  obtain ⟨L, rfl, rfl, _⟩ := h; exact ⟨_, _, _, _, rfl⟩
theorem startNewAs {c : Cfg} {M : Mc} {er : Int} (h : newM c = (M, er)) (w : World) : Calls Tryz.prog 6 #[cfgV c.o c.r c.l c.t c.s] w fun e w' => ∃ qR qP qT qH, e = .returned (.tuple #[machV M.c qR qP qT qH, .int .i64 er]) ∧ OwnM w' w.heap.size (machV M.c qR qP qT qH) M ∧ Le w w' := by
  have := startNew c w
  rw [h] at this
  refine this.mono ?_
  rintro e w' ⟨v', rfl, o, l⟩
  obtain ⟨qR, qP, qT, qH, rfl⟩ := o.open
  exact ⟨qR, qP, qT, qH, rfl, o, l⟩
theorem copyMachineAs (v : Value) (M : Mc) (w : World) (hx : HasM w v M) (hf : FitM M) : Calls Tryz.prog 5 #[v] w fun e w' => ∃ qR qP qT qH, e = .returned (machV M.c qR qP qT qH) ∧ OwnM w' w.heap.size (machV M.c qR qP qT qH) M ∧ Le w w' := by
  refine (lawCopyMachine v M w hx hf).mono ?_
  rintro e w' ⟨L, rfl, rfl, o, _, l⟩
  exact ⟨_, _, _, _, rfl, ⟨L, rfl, rfl, o⟩, l⟩

theorem fitM_small {M : Mc} (h1 : M.rs.length ≤ 100) (h2 : M.ps.length ≤ 100) (h3 : M.ts.length ≤ 100) (h4 : M.es.length ≤ 100) (hr : ∀ R ∈ M.rs, R.ss.length ≤ 100) (hp : ∀ P ∈ M.ps, Fit P.s ∧ P.cs.length ≤ 100 ∧ P.ls.length ≤ 100) (ht : ∀ T ∈ M.ts, T.b.length ≤ 100 ∧ T.tl.length ≤ 100) : FitM M :=
  ⟨by omega, by omega, by omega, by omega, fun R h => by have := hr R h; unfold FitR; omega, fun P h => ⟨(hp P h).1, by have := (hp P h).2; omega, by have := (hp P h).2; omega⟩, fun T h => ⟨by have := ht T h; omega, by have := ht T h; omega⟩⟩
theorem fitM_fresh {c : Cfg} (h : c.ok = true) : FitM (freshM c) := by
  obtain ⟨_, ⟨r0, r1⟩, ⟨l0, l1⟩, ⟨t0, t1⟩, hs, _⟩ := Cfg.ok_cases h
  have hs' := slotsB_cases hs
  refine fitM_small (by simp [freshM]; omega) (by simp [freshM]; omega) (by simp [freshM]; omega) (by simp [freshM]) (fun R hR => ?_) (fun P hP => ?_) (fun T hT => ?_)
  · obtain rfl := List.eq_of_mem_replicate hR
    simp only [newS, hs, if_true, List.length_replicate]
    omega
  · obtain rfl := List.eq_of_mem_replicate hP
    refine ⟨fit_zero, ?_, ?_⟩ <;> simp <;> omega
  · obtain rfl := List.eq_of_mem_replicate hT
    exact ⟨by decide, by decide⟩
theorem fitM_new (c : Cfg) : FitM (newM c).1 := by
  unfold newM
  split
  · next h => exact fitM_fresh h
  · exact fitM_zero

theorem HasM.reC {w : World} {M : Mc} {c c' : Cfg} {a b d e : Sl} (h : HasM w (machV c a b d e) M) : HasM w (machV c' a b d e) { M with c := c' } := by
  obtain ⟨qR, qP, qT, qH, hv, h1, h2, h3, h4⟩ := h
  simp only [machV, cells9, Value.agg.injEq, Array.mk.injEq, List.cons.injEq] at hv
  obtain ⟨_, _, _, _, _, e5, e6, e7, e8, _⟩ := hv
  exact ⟨a, b, d, e, rfl, by rw [e5]; exact h1, by rw [e6]; exact h2, by rw [e7]; exact h3, by rw [e8]; exact h4⟩
theorem HasM.lens {w : World} {M : Mc} {c : Cfg} {a b d e : Sl} (h : HasM w (machV c a b d e) M) : a.2.1 = M.rs.length ∧ b.2.1 = M.ps.length ∧ d.2.1 = M.ts.length ∧ e.2.1 = M.es.length := by
  obtain ⟨qR, qP, qT, qH, hv, h1, h2, h3, h4⟩ := h
  simp only [machV, cells9, Value.agg.injEq, Array.mk.injEq, List.cons.injEq] at hv
  obtain ⟨_, _, _, _, _, e5, e6, e7, e8, _⟩ := hv
  refine ⟨HasRs.len (w := w) (by rw [e5]; exact h1), HasPs.len (w := w) (by rw [e6]; exact h2), HasTs.len (w := w) (by rw [e7]; exact h3), HasE.len (K := evK) (w := w) (by rw [e8]; exact h4)⟩

def awakeC : Cfg := ⟨0, 2, 2, 3, 8⟩
theorem awake_new : newM awakeC = (freshM awakeC, 0) := by decide +kernel
theorem awake_zero : newM Cfg.zero = (Mc.zero, 1400) := by decide +kernel
theorem awake_may : mayM (freshM awakeC) = true := by decide +kernel
theorem awake_not : mayM { freshM awakeC with c := ⟨0, 2, 2, 3, 16⟩ } = false := by decide +kernel

set_option maxRecDepth 4000 in
set_option maxHeartbeats 4000000 in
theorem lawAwake14 (w : World) : Calls Tryz.prog 13 #[] w fun e w' => e = .returned (.bool true) ∧ Le w w' := by
  have n1 := fun w' => startNewAs awake_new w'
  have n2 := fun w' => startNewAs awake_zero w'
  have hfit := fitM_fresh (c := awakeC) (by decide)
  have hfit2 : FitM { freshM awakeC with c := ⟨0, 2, 2, 3, 16⟩ } := ⟨hfit.rs, hfit.ps, hfit.ts, hfit.es, hfit.r, hfit.p, hfit.t⟩
  simp only [awakeC, freshM, Cfg.zero, Mc.zero] at n1 n2
  have hl := Le.alloc w (.cells #[.int .i64 0, .int .i64 2, .int .i64 2, .int .i64 3, .int .i64 8] 23)
  go_enter Tryz.func13, Tryz.ntmps13
  go_wp2_with fail
  refine (n1 _).mono ?_
  rintro e w1 ⟨qR, qP, qT, qH, rfl, o1, l1⟩
  replace hl := hl.trans l1
  have hb1 := Box.new w1 (cells9 ⟨0, 2, 2, 3, 8⟩ qR qP qT qH) 29
  have a1 := Le.alloc w1 (.cells (cells9 ⟨0, 2, 2, 3, 8⟩ qR qP qT qH) 29)
  go_upto_region 3 with fail
  generalize hW1 : w1.alloc (.cells (cells9 ⟨0, 2, 2, 3, 8⟩ qR qP qT qH) 29) = W1 at hb1 a1 ⊢
  generalize w1.heap.size = g1 at hb1 ⊢
  clear hW1
  replace o1 := o1.le a1
  replace hl := hl.trans a1
  clear a1 l1 n1
  go_wp2_with fail
  refine (n2 _).mono ?_
  rintro e w2 ⟨pR, pP, pT, pH, rfl, _, l2⟩
  have a2 := l2.trans (Le.alloc w2 (.cells (cells9 ⟨0, 0, 0, 0, 0⟩ pR pP pT pH) 29))
  go_upto_region 4 with fail
  generalize hW2 : w2.alloc (.cells (cells9 ⟨0, 0, 0, 0, 0⟩ pR pP pT pH) 29) = W2 at a2 ⊢
  clear hW2 n2 l2
  generalize w2.heap.size = g2
  replace hb1 := hb1.le a2
  replace o1 := o1.le a2
  replace hl := hl.trans a2
  clear a2
  obtain ⟨⟨z0, z1, z2, z3, z4⟩, z5, z6, z7, z8⟩ := hb1.mach
  go_wp2_with fail
  refine (copyMachineAs _ _ _ o1.has hfit).mono ?_
  rintro e w3 ⟨xR, xP, xT, xH, rfl, o3, l3⟩
  have hx3 : HasM w3 (machV ⟨0, 2, 2, 3, 16⟩ xR xP xT xH) { freshM awakeC with c := ⟨0, 2, 2, 3, 16⟩ } := HasM.reC o3.has
  have hb3 := Box.new w3 (cells9 ⟨0, 2, 2, 3, 16⟩ xR xP xT xH) 29
  have a3 := Le.alloc w3 (.cells (cells9 ⟨0, 2, 2, 3, 16⟩ xR xP xT xH) 29)
  clear z0 z1 z2 z3 z4 z5 z6 z7 z8 o3
  go_upto_region 6 with fail
  generalize hW3 : w3.alloc (.cells (cells9 ⟨0, 2, 2, 3, 16⟩ xR xP xT xH) 29) = W3 at hb3 a3 ⊢
  clear hW3
  generalize w3.heap.size = g3 at hb3 ⊢
  replace hb1 := hb1.le (l3.trans a3)
  replace o1 := o1.le (l3.trans a3)
  replace hl := (hl.trans l3).trans a3
  replace hx3 := hx3.le a3
  clear l3 a3
  obtain ⟨⟨z0, z1, z2, z3, z4⟩, z5, z6, z7, z8⟩ := hb1.mach
  obtain ⟨n1, n2, n3, _⟩ := o1.has.lens
  have e1 : ((qR.2.1 : Int) == 2) = true := by rw [n1]; rfl
  have e2 : ((qP.2.1 : Int) == 2) = true := by rw [n2]; rfl
  have e3 : ((qT.2.1 : Int) == 3) = true := by rw [n3]; rfl
  clear n1 n2 n3
  have s1 := startMay _ (freshM awakeC) _ o1.has hfit
  rw [awake_may] at s1
  go_wp2_with fail
  refine (lawNum _ _).mono ?_
  rintro e _ ⟨rfl, rfl⟩
  go_wp2_with fail
  refine (lawNum _ _).mono ?_
  rintro e _ ⟨rfl, rfl⟩
  go_wp2_with fail
  refine s1.mono ?_
  rintro e w4 ⟨rfl, l4⟩
  have s2 := startMay _ { freshM awakeC with c := ⟨0, 2, 2, 3, 16⟩ } _ (hx3.le l4) hfit2
  rw [awake_not] at s2
  obtain ⟨⟨y0, y1, y2, y3, y4⟩, y5, y6, y7, y8⟩ := (hb3.le l4).mach
  go_wp2_with fail
  refine s2.mono ?_
  rintro e w5 ⟨rfl, l5⟩
  go_wp2_with fail
  go_ret
  exact ⟨rfl, (hl.trans l4).trans l5⟩

end Go.Proofs.YtibleipfablniaaGreat

/-
  THE WALKS over the law StartForms: each kind of machine that may not be. Condition: that the numbers are ints. (Written by program: mksf.py.)
-/
namespace Go.Proofs.YtibleipfablniaaGreat
open Go.RowKit

set_option linter.unusedVariables false in
set_option maxRecDepth 8000 in
set_option maxHeartbeats 8000000 in
theorem lawSF0 (w : World) (which x X : Int) (hw : (IntKind.u64.wrap which).tmod 24 = 0) (hX : bits .and .i64 x 1023 = X) (X0 : 0 ≤ X) (X1 : X ≤ 1023) : Calls Tryz.prog 4 #[.int .i64 which, .int .i64 x] w fun e w' => e = .returned (.bool true) ∧ Le w w' := by
  go_enter Tryz.func4, Tryz.ntmps4
  go_wp2_with fail
  refine (lawAwake14 _).mono ?_
  rintro e w1 ⟨rfl, hl⟩
  go_wp2_with fail
  refine (lawGood _).mono ?_
  rintro e w2 ⟨_, rfl, ⟨L, rfl, HM, o1, ap⟩, l2⟩
  have hbm := Box.new w2 (cells9 L.c L.qR L.qP L.qT L.qH) 29
  have a1 := Le.alloc w2 (.cells (cells9 L.c L.qR L.qP L.qT L.qH) 29)
  go_upto_region 5 with fail
  generalize hW : w2.alloc (.cells (cells9 L.c L.qR L.qP L.qT L.qH) 29) = W1 at hbm a1 ⊢
  clear hW
  have hw1 := hl.size
  have I : MoI w1.heap.size w2.heap.size W1 L := ⟨hbm, l2.size, o1.le a1, ap⟩
  have hgm : w1.heap.size ≤ w2.heap.size := l2.size
  have hwgm : w.heap.size ≤ w2.heap.size := by omega
  generalize w2.heap.size = gm at hbm I hgm hwgm ⊢
  have l12 := l2.trans a1
  have hW1 : w1.heap.size ≤ W1.heap.size := l12.size
  replace hl := hl.trans l12
  clear l2 a1 o1 ap l12 hbm
  obtain ⟨r0, r1, p0, p1, t0, t1, t2, t3, gR0, cR, gP, cP, gT, cT, uH, rfl, hr, hp, ht⟩ := good_open I HM
  obtain ⟨_, q0⟩ := r0
  obtain ⟨_, q1⟩ := r1
  obtain ⟨_, v0, c0, l0⟩ := p0
  obtain ⟨_, v1, c1, l1⟩ := p1
  obtain ⟨_, b0, s0⟩ := t0
  obtain ⟨_, b1, s1⟩ := t1
  obtain ⟨_, b2, s2⟩ := t2
  obtain ⟨_, b3, s3⟩ := t3
  simp only at hr hp ht
  obtain ⟨rfl, rfl⟩ := hr
  obtain ⟨rfl, rfl⟩ := hp
  obtain ⟨rfl, rfl, rfl, rfl⟩ := ht
  have hbm := I.bo
  have o := I.own
  obtain ⟨⟨y0, y1, y2, y3, y4⟩, y5, y6, y7, y8⟩ := (hbm).mach
  simp only [slV] at y5 y6 y7
  have f3 := hbm.frozen 3
  have o2 : OwnsM (W1.setCell ⟨gm, 3, none⟩ (.int .i64 3)) w1.heap.size (⟨⟨2, 2, 2, 3, 8⟩, (some ⟨gR0, 0, none⟩, 2, cR), (some ⟨gP, 0, none⟩, 2, cP), (some ⟨gT, 0, none⟩, 4, cT), uH, [⟨gR, q0⟩, ⟨gR, q1⟩], [⟨gP0, v0, c0, l0⟩, ⟨gP1, v1, c1, l1⟩], [⟨gT0, b0, s0⟩, ⟨gT1, b1, s1⟩, ⟨gT2, b2, s2⟩, ⟨gT3, b3, s3⟩], gE⟩ : Lay) := ⟨(o.box hbm).oR, (o.box hbm).oP, (o.box hbm).oT, (o.box hbm).oH, (o.box hbm).iR, (o.box hbm).iP, (o.box hbm).iT⟩
  have hb2 : Box (W1.setCell ⟨gm, 3, none⟩ (.int .i64 3)) gm (cells9 ⟨2, 2, 2, 3, 8⟩ (some ⟨gR0, 0, none⟩, 2, cR) (some ⟨gP, 0, none⟩, 2, cP) (some ⟨gT, 0, none⟩, 4, cT) uH) 29 := hbm.set 3 (.int .i64 3)
  have hl2 : Le w (W1.setCell ⟨gm, 3, none⟩ (.int .i64 3)) := hl.set hwgm
  have hfit : FitM (Lay.M (⟨⟨2, 2, 2, 3, 8⟩, (some ⟨gR0, 0, none⟩, 2, cR), (some ⟨gP, 0, none⟩, 2, cP), (some ⟨gT, 0, none⟩, 4, cT), uH, [⟨gR, q0⟩, ⟨gR, q1⟩], [⟨gP0, v0, c0, l0⟩, ⟨gP1, v1, c1, l1⟩], [⟨gT0, b0, s0⟩, ⟨gT1, b1, s1⟩, ⟨gT2, b2, s2⟩, ⟨gT3, b3, s3⟩], gE⟩ : Lay)) := fitB_fit (by rfl)
  have hno : mayM (Lay.M (⟨⟨2, 2, 2, 3, 8⟩, (some ⟨gR0, 0, none⟩, 2, cR), (some ⟨gP, 0, none⟩, 2, cP), (some ⟨gT, 0, none⟩, 4, cT), uH, [⟨gR, q0⟩, ⟨gR, q1⟩], [⟨gP0, v0, c0, l0⟩, ⟨gP1, v1, c1, l1⟩], [⟨gT0, b0, s0⟩, ⟨gT1, b1, s1⟩, ⟨gT2, b2, s2⟩, ⟨gT3, b3, s3⟩], gE⟩ : Lay)) = false := no_tl (by show ¬ (4 : Int) = 3; decide)
  go_upto_region 53 with fail
  generalize hW2 : W1.setCell ⟨gm, 3, none⟩ (.int .i64 3) = W2 at o2 hb2 hl2 ⊢
  clear hW2
  clear y0 y1 y2 y3 y4 y5 y6 y7 y8
  have hx2 := o2.has
  clear hX o I hbm HM
  go_wp2_with fail
  refine (lawNum _ _).mono ?_
  rintro e _ ⟨rfl, rfl⟩
  go_wp2_with fail
  refine (lawGood _).mono ?_
  rintro e w5 ⟨_, rfl, o5, l5⟩
  go_wp2_with fail
  refine (startMay _ goodM _ o5.has good_fit).mono ?_
  rw [good_may]
  rintro e w6 ⟨rfl, l6⟩
  obtain ⟨⟨y0, y1, y2, y3, y4⟩, y5, y6, y7, y8⟩ := (((hb2.le l5).le l6)).mach
  go_wp2_with fail
  refine (startMay _ (Lay.M (⟨⟨2, 2, 2, 3, 8⟩, (some ⟨gR0, 0, none⟩, 2, cR), (some ⟨gP, 0, none⟩, 2, cP), (some ⟨gT, 0, none⟩, 4, cT), uH, [⟨gR, q0⟩, ⟨gR, q1⟩], [⟨gP0, v0, c0, l0⟩, ⟨gP1, v1, c1, l1⟩], [⟨gT0, b0, s0⟩, ⟨gT1, b1, s1⟩, ⟨gT2, b2, s2⟩, ⟨gT3, b3, s3⟩], gE⟩ : Lay)) _ ((hx2.le l5).le l6) hfit).mono ?_
  rw [hno]
  rintro e w7 ⟨rfl, l7⟩
  go_wp2_with fail
  go_ret
  exact ⟨rfl, ((hl2.trans l5).trans l6).trans l7⟩

end Go.Proofs.YtibleipfablniaaGreat

/-
  THE WALKS over the law StartForms: each kind of machine that may not be. Condition: that the numbers are ints. (Written by program: mksf.py.)
-/
namespace Go.Proofs.YtibleipfablniaaGreat
open Go.RowKit

set_option linter.unusedVariables false in
set_option maxRecDepth 8000 in
set_option maxHeartbeats 8000000 in
theorem lawSF1 (w : World) (which x X : Int) (hw : (IntKind.u64.wrap which).tmod 24 = 1) (hX : bits .and .i64 x 1023 = X) (X0 : 0 ≤ X) (X1 : X ≤ 1023) : Calls Tryz.prog 4 #[.int .i64 which, .int .i64 x] w fun e w' => e = .returned (.bool true) ∧ Le w w' := by
  go_enter Tryz.func4, Tryz.ntmps4
  go_wp2_with fail
  refine (lawAwake14 _).mono ?_
  rintro e w1 ⟨rfl, hl⟩
  go_wp2_with fail
  refine (lawGood _).mono ?_
  rintro e w2 ⟨_, rfl, ⟨L, rfl, HM, o1, ap⟩, l2⟩
  have hbm := Box.new w2 (cells9 L.c L.qR L.qP L.qT L.qH) 29
  have a1 := Le.alloc w2 (.cells (cells9 L.c L.qR L.qP L.qT L.qH) 29)
  go_upto_region 5 with fail
  generalize hW : w2.alloc (.cells (cells9 L.c L.qR L.qP L.qT L.qH) 29) = W1 at hbm a1 ⊢
  clear hW
  have hw1 := hl.size
  have I : MoI w1.heap.size w2.heap.size W1 L := ⟨hbm, l2.size, o1.le a1, ap⟩
  have hgm : w1.heap.size ≤ w2.heap.size := l2.size
  have hwgm : w.heap.size ≤ w2.heap.size := by omega
  generalize w2.heap.size = gm at hbm I hgm hwgm ⊢
  have l12 := l2.trans a1
  have hW1 : w1.heap.size ≤ W1.heap.size := l12.size
  replace hl := hl.trans l12
  clear l2 a1 o1 ap l12 hbm
  obtain ⟨r0, r1, p0, p1, t0, t1, t2, t3, gR0, cR, gP, cP, gT, cT, uH, rfl, hr, hp, ht⟩ := good_open I HM
  obtain ⟨_, q0⟩ := r0
  obtain ⟨_, q1⟩ := r1
  obtain ⟨_, v0, c0, l0⟩ := p0
  obtain ⟨_, v1, c1, l1⟩ := p1
  obtain ⟨_, b0, s0⟩ := t0
  obtain ⟨_, b1, s1⟩ := t1
  obtain ⟨_, b2, s2⟩ := t2
  obtain ⟨_, b3, s3⟩ := t3
  simp only at hr hp ht
  obtain ⟨rfl, rfl⟩ := hr
  obtain ⟨rfl, rfl⟩ := hp
  obtain ⟨rfl, rfl, rfl, rfl⟩ := ht
  have hbm := I.bo
  have o := I.own
  obtain ⟨⟨y0, y1, y2, y3, y4⟩, y5, y6, y7, y8⟩ := (hbm).mach
  simp only [slV] at y5 y6 y7
  have f5 := hbm.frozen 5
  have hcX : 1 ≤ cR := by
    obtain ⟨_, _, hv, hc, _⟩ := o.oR.shape (by show 0 < 2; decide)
    simp only [slV, Value.slice.injEq] at hv
    have : (2 : Nat) ≤ _ := hc
    omega
  have hcX2 : (1 : Int) ≤ (cR : Int) := by omega
  have o2 : OwnsM (W1.setCell ⟨gm, 5, none⟩ (slV (some ⟨gR0, 0, none⟩, 1, cR))) w1.heap.size (⟨gC, (some ⟨gR0, 0, none⟩, 1, cR), (some ⟨gP, 0, none⟩, 2, cP), (some ⟨gT, 0, none⟩, 4, cT), uH, [⟨gR, q0⟩], [⟨gP0, v0, c0, l0⟩, ⟨gP1, v1, c1, l1⟩], [⟨gT0, b0, s0⟩, ⟨gT1, b1, s1⟩, ⟨gT2, b2, s2⟩, ⟨gT3, b3, s3⟩], gE⟩ : Lay) := ⟨(o.box hbm).oR.take (m := 1) (by show 1 ≤ 2; decide), (o.box hbm).oP, (o.box hbm).oT, (o.box hbm).oH, fun y hy => (o.box hbm).iR y (List.mem_of_mem_take (i := 1) hy), (o.box hbm).iP, (o.box hbm).iT⟩
  have hb2 : Box (W1.setCell ⟨gm, 5, none⟩ (slV (some ⟨gR0, 0, none⟩, 1, cR))) gm (cells9 gC (some ⟨gR0, 0, none⟩, 1, cR) (some ⟨gP, 0, none⟩, 2, cP) (some ⟨gT, 0, none⟩, 4, cT) uH) 29 := hbm.set 5 (slV (some ⟨gR0, 0, none⟩, 1, cR))
  have hl2 : Le w (W1.setCell ⟨gm, 5, none⟩ (slV (some ⟨gR0, 0, none⟩, 1, cR))) := hl.set hwgm
  have hfit : FitM (Lay.M (⟨gC, (some ⟨gR0, 0, none⟩, 1, cR), (some ⟨gP, 0, none⟩, 2, cP), (some ⟨gT, 0, none⟩, 4, cT), uH, [⟨gR, q0⟩], [⟨gP0, v0, c0, l0⟩, ⟨gP1, v1, c1, l1⟩], [⟨gT0, b0, s0⟩, ⟨gT1, b1, s1⟩, ⟨gT2, b2, s2⟩, ⟨gT3, b3, s3⟩], gE⟩ : Lay)) := fitB_fit (by rfl)
  have hno : mayM (Lay.M (⟨gC, (some ⟨gR0, 0, none⟩, 1, cR), (some ⟨gP, 0, none⟩, 2, cP), (some ⟨gT, 0, none⟩, 4, cT), uH, [⟨gR, q0⟩], [⟨gP0, v0, c0, l0⟩, ⟨gP1, v1, c1, l1⟩], [⟨gT0, b0, s0⟩, ⟨gT1, b1, s1⟩, ⟨gT2, b2, s2⟩, ⟨gT3, b3, s3⟩], gE⟩ : Lay)) = false := no_rl (by show ¬ (1 : Int) = 2; decide)
  go_upto_region 53 with fail
  generalize hW2 : W1.setCell ⟨gm, 5, none⟩ (slV (some ⟨gR0, 0, none⟩, 1, cR)) = W2 at o2 hb2 hl2 ⊢
  clear hW2
  clear y0 y1 y2 y3 y4 y5 y6 y7 y8
  have hx2 := o2.has
  clear hX o I hbm HM
  go_wp2_with fail
  refine (lawNum _ _).mono ?_
  rintro e _ ⟨rfl, rfl⟩
  go_wp2_with fail
  refine (lawGood _).mono ?_
  rintro e w5 ⟨_, rfl, o5, l5⟩
  go_wp2_with fail
  refine (startMay _ goodM _ o5.has good_fit).mono ?_
  rw [good_may]
  rintro e w6 ⟨rfl, l6⟩
  obtain ⟨⟨y0, y1, y2, y3, y4⟩, y5, y6, y7, y8⟩ := (((hb2.le l5).le l6)).mach
  go_wp2_with fail
  refine (startMay _ (Lay.M (⟨gC, (some ⟨gR0, 0, none⟩, 1, cR), (some ⟨gP, 0, none⟩, 2, cP), (some ⟨gT, 0, none⟩, 4, cT), uH, [⟨gR, q0⟩], [⟨gP0, v0, c0, l0⟩, ⟨gP1, v1, c1, l1⟩], [⟨gT0, b0, s0⟩, ⟨gT1, b1, s1⟩, ⟨gT2, b2, s2⟩, ⟨gT3, b3, s3⟩], gE⟩ : Lay)) _ ((hx2.le l5).le l6) hfit).mono ?_
  rw [hno]
  rintro e w7 ⟨rfl, l7⟩
  go_wp2_with fail
  go_ret
  exact ⟨rfl, ((hl2.trans l5).trans l6).trans l7⟩

end Go.Proofs.YtibleipfablniaaGreat

/-
  THE WALKS over the law StartForms: each kind of machine that may not be. Condition: that the numbers are ints. (Written by program: mksf.py.)
-/
namespace Go.Proofs.YtibleipfablniaaGreat
open Go.RowKit

set_option linter.unusedVariables false in
set_option maxRecDepth 8000 in
set_option maxHeartbeats 8000000 in
theorem lawSF2 (w : World) (which x X : Int) (hw : (IntKind.u64.wrap which).tmod 24 = 2) (hX : bits .and .i64 x 1023 = X) (X0 : 0 ≤ X) (X1 : X ≤ 1023) : Calls Tryz.prog 4 #[.int .i64 which, .int .i64 x] w fun e w' => e = .returned (.bool true) ∧ Le w w' := by
  go_enter Tryz.func4, Tryz.ntmps4
  go_wp2_with fail
  refine (lawAwake14 _).mono ?_
  rintro e w1 ⟨rfl, hl⟩
  go_wp2_with fail
  refine (lawGood _).mono ?_
  rintro e w2 ⟨_, rfl, ⟨L, rfl, HM, o1, ap⟩, l2⟩
  have hbm := Box.new w2 (cells9 L.c L.qR L.qP L.qT L.qH) 29
  have a1 := Le.alloc w2 (.cells (cells9 L.c L.qR L.qP L.qT L.qH) 29)
  go_upto_region 5 with fail
  generalize hW : w2.alloc (.cells (cells9 L.c L.qR L.qP L.qT L.qH) 29) = W1 at hbm a1 ⊢
  clear hW
  have hw1 := hl.size
  have I : MoI w1.heap.size w2.heap.size W1 L := ⟨hbm, l2.size, o1.le a1, ap⟩
  have hgm : w1.heap.size ≤ w2.heap.size := l2.size
  have hwgm : w.heap.size ≤ w2.heap.size := by omega
  generalize w2.heap.size = gm at hbm I hgm hwgm ⊢
  have l12 := l2.trans a1
  have hW1 : w1.heap.size ≤ W1.heap.size := l12.size
  replace hl := hl.trans l12
  clear l2 a1 o1 ap l12 hbm
  obtain ⟨r0, r1, p0, p1, t0, t1, t2, t3, gR0, cR, gP, cP, gT, cT, uH, rfl, hr, hp, ht⟩ := good_open I HM
  obtain ⟨_, q0⟩ := r0
  obtain ⟨_, q1⟩ := r1
  obtain ⟨_, v0, c0, l0⟩ := p0
  obtain ⟨_, v1, c1, l1⟩ := p1
  obtain ⟨_, b0, s0⟩ := t0
  obtain ⟨_, b1, s1⟩ := t1
  obtain ⟨_, b2, s2⟩ := t2
  obtain ⟨_, b3, s3⟩ := t3
  simp only at hr hp ht
  obtain ⟨rfl, rfl⟩ := hr
  obtain ⟨rfl, rfl⟩ := hp
  obtain ⟨rfl, rfl, rfl, rfl⟩ := ht
  have hbm := I.bo
  have o := I.own
  obtain ⟨⟨y0, y1, y2, y3, y4⟩, y5, y6, y7, y8⟩ := (hbm).mach
  simp only [slV] at y5 y6 y7
  have f6 := hbm.frozen 6
  have hcX : 1 ≤ cP := by
    obtain ⟨_, _, hv, hc, _⟩ := o.oP.shape (by show 0 < 2; decide)
    simp only [slV, Value.slice.injEq] at hv
    have : (2 : Nat) ≤ _ := hc
    omega
  have hcX2 : (1 : Int) ≤ (cP : Int) := by omega
  have o2 : OwnsM (W1.setCell ⟨gm, 6, none⟩ (slV (some ⟨gP, 0, none⟩, 1, cP))) w1.heap.size (⟨gC, (some ⟨gR0, 0, none⟩, 2, cR), (some ⟨gP, 0, none⟩, 1, cP), (some ⟨gT, 0, none⟩, 4, cT), uH, [⟨gR, q0⟩, ⟨gR, q1⟩], [⟨gP0, v0, c0, l0⟩], [⟨gT0, b0, s0⟩, ⟨gT1, b1, s1⟩, ⟨gT2, b2, s2⟩, ⟨gT3, b3, s3⟩], gE⟩ : Lay) := ⟨(o.box hbm).oR, (o.box hbm).oP.take (m := 1) (by show 1 ≤ 2; decide), (o.box hbm).oT, (o.box hbm).oH, (o.box hbm).iR, fun y hy => (o.box hbm).iP y (List.mem_of_mem_take (i := 1) hy), (o.box hbm).iT⟩
  have hb2 : Box (W1.setCell ⟨gm, 6, none⟩ (slV (some ⟨gP, 0, none⟩, 1, cP))) gm (cells9 gC (some ⟨gR0, 0, none⟩, 2, cR) (some ⟨gP, 0, none⟩, 1, cP) (some ⟨gT, 0, none⟩, 4, cT) uH) 29 := hbm.set 6 (slV (some ⟨gP, 0, none⟩, 1, cP))
  have hl2 : Le w (W1.setCell ⟨gm, 6, none⟩ (slV (some ⟨gP, 0, none⟩, 1, cP))) := hl.set hwgm
  have hfit : FitM (Lay.M (⟨gC, (some ⟨gR0, 0, none⟩, 2, cR), (some ⟨gP, 0, none⟩, 1, cP), (some ⟨gT, 0, none⟩, 4, cT), uH, [⟨gR, q0⟩, ⟨gR, q1⟩], [⟨gP0, v0, c0, l0⟩], [⟨gT0, b0, s0⟩, ⟨gT1, b1, s1⟩, ⟨gT2, b2, s2⟩, ⟨gT3, b3, s3⟩], gE⟩ : Lay)) := fitB_fit (by rfl)
  have hno : mayM (Lay.M (⟨gC, (some ⟨gR0, 0, none⟩, 2, cR), (some ⟨gP, 0, none⟩, 1, cP), (some ⟨gT, 0, none⟩, 4, cT), uH, [⟨gR, q0⟩, ⟨gR, q1⟩], [⟨gP0, v0, c0, l0⟩], [⟨gT0, b0, s0⟩, ⟨gT1, b1, s1⟩, ⟨gT2, b2, s2⟩, ⟨gT3, b3, s3⟩], gE⟩ : Lay)) = false := no_pl (by show ¬ (1 : Int) = 2; decide)
  go_upto_region 53 with fail
  generalize hW2 : W1.setCell ⟨gm, 6, none⟩ (slV (some ⟨gP, 0, none⟩, 1, cP)) = W2 at o2 hb2 hl2 ⊢
  clear hW2
  clear y0 y1 y2 y3 y4 y5 y6 y7 y8
  have hx2 := o2.has
  clear hX o I hbm HM
  go_wp2_with fail
  refine (lawNum _ _).mono ?_
  rintro e _ ⟨rfl, rfl⟩
  go_wp2_with fail
  refine (lawGood _).mono ?_
  rintro e w5 ⟨_, rfl, o5, l5⟩
  go_wp2_with fail
  refine (startMay _ goodM _ o5.has good_fit).mono ?_
  rw [good_may]
  rintro e w6 ⟨rfl, l6⟩
  obtain ⟨⟨y0, y1, y2, y3, y4⟩, y5, y6, y7, y8⟩ := (((hb2.le l5).le l6)).mach
  go_wp2_with fail
  refine (startMay _ (Lay.M (⟨gC, (some ⟨gR0, 0, none⟩, 2, cR), (some ⟨gP, 0, none⟩, 1, cP), (some ⟨gT, 0, none⟩, 4, cT), uH, [⟨gR, q0⟩, ⟨gR, q1⟩], [⟨gP0, v0, c0, l0⟩], [⟨gT0, b0, s0⟩, ⟨gT1, b1, s1⟩, ⟨gT2, b2, s2⟩, ⟨gT3, b3, s3⟩], gE⟩ : Lay)) _ ((hx2.le l5).le l6) hfit).mono ?_
  rw [hno]
  rintro e w7 ⟨rfl, l7⟩
  go_wp2_with fail
  go_ret
  exact ⟨rfl, ((hl2.trans l5).trans l6).trans l7⟩

end Go.Proofs.YtibleipfablniaaGreat

/-
  THE WALKS over the law StartForms: each kind of machine that may not be. Condition: that the numbers are ints. (Written by program: mksf.py.)
-/
namespace Go.Proofs.YtibleipfablniaaGreat
open Go.RowKit

set_option linter.unusedVariables false in
set_option maxRecDepth 8000 in
set_option maxHeartbeats 8000000 in
theorem lawSF3 (w : World) (which x X : Int) (hw : (IntKind.u64.wrap which).tmod 24 = 3) (hX : bits .and .i64 x 1023 = X) (X0 : 0 ≤ X) (X1 : X ≤ 1023) : Calls Tryz.prog 4 #[.int .i64 which, .int .i64 x] w fun e w' => e = .returned (.bool true) ∧ Le w w' := by
  go_enter Tryz.func4, Tryz.ntmps4
  go_wp2_with fail
  refine (lawAwake14 _).mono ?_
  rintro e w1 ⟨rfl, hl⟩
  go_wp2_with fail
  refine (lawGood _).mono ?_
  rintro e w2 ⟨_, rfl, ⟨L, rfl, HM, o1, ap⟩, l2⟩
  have hbm := Box.new w2 (cells9 L.c L.qR L.qP L.qT L.qH) 29
  have a1 := Le.alloc w2 (.cells (cells9 L.c L.qR L.qP L.qT L.qH) 29)
  go_upto_region 5 with fail
  generalize hW : w2.alloc (.cells (cells9 L.c L.qR L.qP L.qT L.qH) 29) = W1 at hbm a1 ⊢
  clear hW
  have hw1 := hl.size
  have I : MoI w1.heap.size w2.heap.size W1 L := ⟨hbm, l2.size, o1.le a1, ap⟩
  have hgm : w1.heap.size ≤ w2.heap.size := l2.size
  have hwgm : w.heap.size ≤ w2.heap.size := by omega
  generalize w2.heap.size = gm at hbm I hgm hwgm ⊢
  have l12 := l2.trans a1
  have hW1 : w1.heap.size ≤ W1.heap.size := l12.size
  replace hl := hl.trans l12
  clear l2 a1 o1 ap l12 hbm
  obtain ⟨r0, r1, p0, p1, t0, t1, t2, t3, gR0, cR, gP, cP, gT, cT, uH, rfl, hr, hp, ht⟩ := good_open I HM
  obtain ⟨_, q0⟩ := r0
  obtain ⟨_, q1⟩ := r1
  obtain ⟨_, v0, c0, l0⟩ := p0
  obtain ⟨_, v1, c1, l1⟩ := p1
  obtain ⟨_, b0, s0⟩ := t0
  obtain ⟨_, b1, s1⟩ := t1
  obtain ⟨_, b2, s2⟩ := t2
  obtain ⟨_, b3, s3⟩ := t3
  simp only at hr hp ht
  obtain ⟨rfl, rfl⟩ := hr
  obtain ⟨rfl, rfl⟩ := hp
  obtain ⟨rfl, rfl, rfl, rfl⟩ := ht
  have hbm := I.bo
  have o := I.own
  obtain ⟨⟨y0, y1, y2, y3, y4⟩, y5, y6, y7, y8⟩ := (hbm).mach
  simp only [slV] at y5 y6 y7
  have f7 := hbm.frozen 7
  have hcX : 3 ≤ cT := by
    obtain ⟨_, _, hv, hc, _⟩ := o.oT.shape (by show 0 < 4; decide)
    simp only [slV, Value.slice.injEq] at hv
    have : (4 : Nat) ≤ _ := hc
    omega
  have hcX2 : (3 : Int) ≤ (cT : Int) := by omega
  have o2 : OwnsM (W1.setCell ⟨gm, 7, none⟩ (slV (some ⟨gT, 0, none⟩, 3, cT))) w1.heap.size (⟨gC, (some ⟨gR0, 0, none⟩, 2, cR), (some ⟨gP, 0, none⟩, 2, cP), (some ⟨gT, 0, none⟩, 3, cT), uH, [⟨gR, q0⟩, ⟨gR, q1⟩], [⟨gP0, v0, c0, l0⟩, ⟨gP1, v1, c1, l1⟩], [⟨gT0, b0, s0⟩, ⟨gT1, b1, s1⟩, ⟨gT2, b2, s2⟩], gE⟩ : Lay) := ⟨(o.box hbm).oR, (o.box hbm).oP, (o.box hbm).oT.take (m := 3) (by show 3 ≤ 4; decide), (o.box hbm).oH, (o.box hbm).iR, (o.box hbm).iP, fun y hy => (o.box hbm).iT y (List.mem_of_mem_take (i := 3) hy)⟩
  have hb2 : Box (W1.setCell ⟨gm, 7, none⟩ (slV (some ⟨gT, 0, none⟩, 3, cT))) gm (cells9 gC (some ⟨gR0, 0, none⟩, 2, cR) (some ⟨gP, 0, none⟩, 2, cP) (some ⟨gT, 0, none⟩, 3, cT) uH) 29 := hbm.set 7 (slV (some ⟨gT, 0, none⟩, 3, cT))
  have hl2 : Le w (W1.setCell ⟨gm, 7, none⟩ (slV (some ⟨gT, 0, none⟩, 3, cT))) := hl.set hwgm
  have hfit : FitM (Lay.M (⟨gC, (some ⟨gR0, 0, none⟩, 2, cR), (some ⟨gP, 0, none⟩, 2, cP), (some ⟨gT, 0, none⟩, 3, cT), uH, [⟨gR, q0⟩, ⟨gR, q1⟩], [⟨gP0, v0, c0, l0⟩, ⟨gP1, v1, c1, l1⟩], [⟨gT0, b0, s0⟩, ⟨gT1, b1, s1⟩, ⟨gT2, b2, s2⟩], gE⟩ : Lay)) := fitB_fit (by rfl)
  have hno : mayM (Lay.M (⟨gC, (some ⟨gR0, 0, none⟩, 2, cR), (some ⟨gP, 0, none⟩, 2, cP), (some ⟨gT, 0, none⟩, 3, cT), uH, [⟨gR, q0⟩, ⟨gR, q1⟩], [⟨gP0, v0, c0, l0⟩, ⟨gP1, v1, c1, l1⟩], [⟨gT0, b0, s0⟩, ⟨gT1, b1, s1⟩, ⟨gT2, b2, s2⟩], gE⟩ : Lay)) = false := no_tl (by show ¬ (3 : Int) = 4; decide)
  go_upto_region 53 with fail
  generalize hW2 : W1.setCell ⟨gm, 7, none⟩ (slV (some ⟨gT, 0, none⟩, 3, cT)) = W2 at o2 hb2 hl2 ⊢
  clear hW2
  clear y0 y1 y2 y3 y4 y5 y6 y7 y8
  have hx2 := o2.has
  clear hX o I hbm HM
  go_wp2_with fail
  refine (lawNum _ _).mono ?_
  rintro e _ ⟨rfl, rfl⟩
  go_wp2_with fail
  refine (lawGood _).mono ?_
  rintro e w5 ⟨_, rfl, o5, l5⟩
  go_wp2_with fail
  refine (startMay _ goodM _ o5.has good_fit).mono ?_
  rw [good_may]
  rintro e w6 ⟨rfl, l6⟩
  obtain ⟨⟨y0, y1, y2, y3, y4⟩, y5, y6, y7, y8⟩ := (((hb2.le l5).le l6)).mach
  go_wp2_with fail
  refine (startMay _ (Lay.M (⟨gC, (some ⟨gR0, 0, none⟩, 2, cR), (some ⟨gP, 0, none⟩, 2, cP), (some ⟨gT, 0, none⟩, 3, cT), uH, [⟨gR, q0⟩, ⟨gR, q1⟩], [⟨gP0, v0, c0, l0⟩, ⟨gP1, v1, c1, l1⟩], [⟨gT0, b0, s0⟩, ⟨gT1, b1, s1⟩, ⟨gT2, b2, s2⟩], gE⟩ : Lay)) _ ((hx2.le l5).le l6) hfit).mono ?_
  rw [hno]
  rintro e w7 ⟨rfl, l7⟩
  go_wp2_with fail
  go_ret
  exact ⟨rfl, ((hl2.trans l5).trans l6).trans l7⟩

end Go.Proofs.YtibleipfablniaaGreat

/-
  THE WALKS over the law StartForms: each kind of machine that may not be. Condition: that the numbers are ints. (Written by program: mksf.py.)
-/
namespace Go.Proofs.YtibleipfablniaaGreat
open Go.RowKit

set_option linter.unusedVariables false in
set_option maxRecDepth 8000 in
set_option maxHeartbeats 8000000 in
theorem lawSF4 (w : World) (which x X : Int) (hw : (IntKind.u64.wrap which).tmod 24 = 4) (hX : bits .and .i64 x 1023 = X) (X0 : 0 ≤ X) (X1 : X ≤ 1023) : Calls Tryz.prog 4 #[.int .i64 which, .int .i64 x] w fun e w' => e = .returned (.bool true) ∧ Le w w' := by
  go_enter Tryz.func4, Tryz.ntmps4
  go_wp2_with fail
  refine (lawAwake14 _).mono ?_
  rintro e w1 ⟨rfl, hl⟩
  go_wp2_with fail
  refine (lawGood _).mono ?_
  rintro e w2 ⟨_, rfl, ⟨L, rfl, HM, o1, ap⟩, l2⟩
  have hbm := Box.new w2 (cells9 L.c L.qR L.qP L.qT L.qH) 29
  have a1 := Le.alloc w2 (.cells (cells9 L.c L.qR L.qP L.qT L.qH) 29)
  go_upto_region 5 with fail
  generalize hW : w2.alloc (.cells (cells9 L.c L.qR L.qP L.qT L.qH) 29) = W1 at hbm a1 ⊢
  clear hW
  have hw1 := hl.size
  have I : MoI w1.heap.size w2.heap.size W1 L := ⟨hbm, l2.size, o1.le a1, ap⟩
  have hgm : w1.heap.size ≤ w2.heap.size := l2.size
  have hwgm : w.heap.size ≤ w2.heap.size := by omega
  generalize w2.heap.size = gm at hbm I hgm hwgm ⊢
  have l12 := l2.trans a1
  have hW1 : w1.heap.size ≤ W1.heap.size := l12.size
  replace hl := hl.trans l12
  clear l2 a1 o1 ap l12 hbm
  obtain ⟨r0, r1, p0, p1, t0, t1, t2, t3, gR0, cR, gP, cP, gT, cT, uH, rfl, hr, hp, ht⟩ := good_open I HM
  obtain ⟨_, q0⟩ := r0
  obtain ⟨_, q1⟩ := r1
  obtain ⟨_, v0, c0, l0⟩ := p0
  obtain ⟨_, v1, c1, l1⟩ := p1
  obtain ⟨_, b0, s0⟩ := t0
  obtain ⟨_, b1, s1⟩ := t1
  obtain ⟨_, b2, s2⟩ := t2
  obtain ⟨_, b3, s3⟩ := t3
  simp only at hr hp ht
  obtain ⟨rfl, rfl⟩ := hr
  obtain ⟨rfl, rfl⟩ := hp
  obtain ⟨rfl, rfl, rfl, rfl⟩ := ht
  have hbm := I.bo
  have o := I.own
  obtain ⟨⟨y0, y1, y2, y3, y4⟩, y5, y6, y7, y8⟩ := (hbm).mach
  simp only [slV] at y5 y6 y7
  obtain ⟨hgne, hglt, hgB, hat, hfz⟩ := I.ringAt (i := 1) rfl (by show 1 < 2; decide)
  have hql : q1.2.1 = 8 := by
    obtain ⟨gs, cs, hqs, _, _⟩ := (o.iR ⟨gR, q1⟩ (by simp)).shape (by show 0 < 8; decide)
    replace hqs : q1 = _ := hqs
    rw [hqs]; rfl
  have hqc : 8 ≤ q1.2.2 := by
    obtain ⟨gs, cs, hqs, _, hc⟩ := (o.iR ⟨gR, q1⟩ (by simp)).shape (by show 0 < 8; decide)
    replace hqs : q1 = _ := hqs
    rw [hqs]; exact hc
  have hqa : ∃ gs, q1.1 = some ⟨gs, 0, none⟩ := by
    obtain ⟨gs, cs, hqs, _, hc⟩ := (o.iR ⟨gR, q1⟩ (by simp)).shape (by show 0 < 8; decide)
    replace hqs : q1 = _ := hqs
    exact ⟨gs, by rw [hqs]⟩
  obtain ⟨qa, qn, qc⟩ := q1
  simp only at hql hqc hqa
  subst hql
  obtain ⟨gs, rfl⟩ := hqa
  have x3 : W1.cell? ⟨gR0, 7, none⟩ = some (.slice (some ⟨gs, 0, none⟩) 8 qc) := hat.2.2.2
  have f3 : W1.frozen? ⟨gR0, 7, none⟩ = false := hfz 7
  have hqc' : (4 : Int) ≤ (qc : Int) := by omega
  have hgne' : ¬ gR0 = gm := fun e => hgne e.symm
  clear hat hfz
  have o2 : OwnsM ((W1.setCell ⟨gR0, 7, none⟩ (slV (some ⟨gs, 0, none⟩, 4, qc))).drew) w1.heap.size (⟨gC, (some ⟨gR0, 0, none⟩, 2, cR), (some ⟨gP, 0, none⟩, 2, cP), (some ⟨gT, 0, none⟩, 4, cT), uH, [⟨gR, q0⟩, ⟨⟨0, 2, 0, List.replicate 4 Slt.zero⟩, (some ⟨gs, 0, none⟩, 4, qc)⟩], [⟨gP0, v0, c0, l0⟩, ⟨gP1, v1, c1, l1⟩], [⟨gT0, b0, s0⟩, ⟨gT1, b1, s1⟩, ⟨gT2, b2, s2⟩, ⟨gT3, b3, s3⟩], gE⟩ : Lay) := (o.setR (i := 1) (j := 3) (u := slV (some ⟨gs, 0, none⟩, 4, qc)) rfl (by show 1 < 2; decide) (by decide) ⟨⟨0, 2, 0, List.replicate 4 Slt.zero⟩, (some ⟨gs, 0, none⟩, 4, qc)⟩ rfl (OwnL.take (m := 4) (o.iR ⟨gR, (some ⟨gs, 0, none⟩, 8, qc)⟩ (by simp)) (by show 4 ≤ 8; decide))).le (Le.drew _)
  have hb2 : Box ((W1.setCell ⟨gR0, 7, none⟩ (slV (some ⟨gs, 0, none⟩, 4, qc))).drew) gm (cells9 gC (some ⟨gR0, 0, none⟩, 2, cR) (some ⟨gP, 0, none⟩, 2, cP) (some ⟨gT, 0, none⟩, 4, cT) uH) 29 := (hbm.other hgne _ _).le (Le.drew _)
  have hl2 : Le w ((W1.setCell ⟨gR0, 7, none⟩ (slV (some ⟨gs, 0, none⟩, 4, qc))).drew) := (hl.set (by omega)).trans (Le.drew _)
  have hfit : FitM (Lay.M (⟨gC, (some ⟨gR0, 0, none⟩, 2, cR), (some ⟨gP, 0, none⟩, 2, cP), (some ⟨gT, 0, none⟩, 4, cT), uH, [⟨gR, q0⟩, ⟨⟨0, 2, 0, List.replicate 4 Slt.zero⟩, (some ⟨gs, 0, none⟩, 4, qc)⟩], [⟨gP0, v0, c0, l0⟩, ⟨gP1, v1, c1, l1⟩], [⟨gT0, b0, s0⟩, ⟨gT1, b1, s1⟩, ⟨gT2, b2, s2⟩, ⟨gT3, b3, s3⟩], gE⟩ : Lay)) := fitB_fit (by rfl)
  have hno : mayM (Lay.M (⟨gC, (some ⟨gR0, 0, none⟩, 2, cR), (some ⟨gP, 0, none⟩, 2, cP), (some ⟨gT, 0, none⟩, 4, cT), uH, [⟨gR, q0⟩, ⟨⟨0, 2, 0, List.replicate 4 Slt.zero⟩, (some ⟨gs, 0, none⟩, 4, qc)⟩], [⟨gP0, v0, c0, l0⟩, ⟨gP1, v1, c1, l1⟩], [⟨gT0, b0, s0⟩, ⟨gT1, b1, s1⟩, ⟨gT2, b2, s2⟩, ⟨gT3, b3, s3⟩], gE⟩ : Lay)) = false := no_r (R := (⟨0, 2, 0, List.replicate 4 Slt.zero⟩ : Rg)) (show _ ∈ ([gR, ⟨0, 2, 0, List.replicate 4 Slt.zero⟩] : List Rg) by simp) (show ringB gC ⟨0, 2, 0, List.replicate 4 Slt.zero⟩ = false by decide)
  go_upto_region 16 with fail
  go_region_law (fail)
  all_goals
    go_upto_region 53 with fail
    generalize hW2 : (W1.setCell ⟨gR0, 7, none⟩ (slV (some ⟨gs, 0, none⟩, 4, qc))).drew = W2 at o2 hb2 hl2 ⊢
    clear hW2
    clear y0 y1 y2 y3 y4 y5 y6 y7 y8
    have hx2 := o2.has
    clear hX o I hbm HM
    go_wp2_with fail
    refine (lawNum _ _).mono ?_
    rintro e _ ⟨rfl, rfl⟩
    go_wp2_with fail
    refine (lawGood _).mono ?_
    rintro e w5 ⟨_, rfl, o5, l5⟩
    go_wp2_with fail
    refine (startMay _ goodM _ o5.has good_fit).mono ?_
    rw [good_may]
    rintro e w6 ⟨rfl, l6⟩
    obtain ⟨⟨y0, y1, y2, y3, y4⟩, y5, y6, y7, y8⟩ := (((hb2.le l5).le l6)).mach
    go_wp2_with fail
    refine (startMay _ (Lay.M (⟨gC, (some ⟨gR0, 0, none⟩, 2, cR), (some ⟨gP, 0, none⟩, 2, cP), (some ⟨gT, 0, none⟩, 4, cT), uH, [⟨gR, q0⟩, ⟨⟨0, 2, 0, List.replicate 4 Slt.zero⟩, (some ⟨gs, 0, none⟩, 4, qc)⟩], [⟨gP0, v0, c0, l0⟩, ⟨gP1, v1, c1, l1⟩], [⟨gT0, b0, s0⟩, ⟨gT1, b1, s1⟩, ⟨gT2, b2, s2⟩, ⟨gT3, b3, s3⟩], gE⟩ : Lay)) _ ((hx2.le l5).le l6) hfit).mono ?_
    rw [hno]
    rintro e w7 ⟨rfl, l7⟩
    go_wp2_with fail
    go_ret
    exact ⟨rfl, ((hl2.trans l5).trans l6).trans l7⟩

end Go.Proofs.YtibleipfablniaaGreat

/-
  THE WALKS over the law StartForms: each kind of machine that may not be. Condition: that the numbers are ints. (Written by program: mksf.py.)
-/
namespace Go.Proofs.YtibleipfablniaaGreat
open Go.RowKit

set_option linter.unusedVariables false in
set_option maxRecDepth 8000 in
set_option maxHeartbeats 8000000 in
theorem lawSF5 (w : World) (which x X : Int) (hw : (IntKind.u64.wrap which).tmod 24 = 5) (hX : bits .and .i64 x 1023 = X) (X0 : 0 ≤ X) (X1 : X ≤ 1023) : Calls Tryz.prog 4 #[.int .i64 which, .int .i64 x] w fun e w' => e = .returned (.bool true) ∧ Le w w' := by
  go_enter Tryz.func4, Tryz.ntmps4
  go_wp2_with fail
  refine (lawAwake14 _).mono ?_
  rintro e w1 ⟨rfl, hl⟩
  go_wp2_with fail
  refine (lawGood _).mono ?_
  rintro e w2 ⟨_, rfl, ⟨L, rfl, HM, o1, ap⟩, l2⟩
  have hbm := Box.new w2 (cells9 L.c L.qR L.qP L.qT L.qH) 29
  have a1 := Le.alloc w2 (.cells (cells9 L.c L.qR L.qP L.qT L.qH) 29)
  go_upto_region 5 with fail
  generalize hW : w2.alloc (.cells (cells9 L.c L.qR L.qP L.qT L.qH) 29) = W1 at hbm a1 ⊢
  clear hW
  have hw1 := hl.size
  have I : MoI w1.heap.size w2.heap.size W1 L := ⟨hbm, l2.size, o1.le a1, ap⟩
  have hgm : w1.heap.size ≤ w2.heap.size := l2.size
  have hwgm : w.heap.size ≤ w2.heap.size := by omega
  generalize w2.heap.size = gm at hbm I hgm hwgm ⊢
  have l12 := l2.trans a1
  have hW1 : w1.heap.size ≤ W1.heap.size := l12.size
  replace hl := hl.trans l12
  clear l2 a1 o1 ap l12 hbm
  obtain ⟨r0, r1, p0, p1, t0, t1, t2, t3, gR0, cR, gP, cP, gT, cT, uH, rfl, hr, hp, ht⟩ := good_open I HM
  obtain ⟨_, q0⟩ := r0
  obtain ⟨_, q1⟩ := r1
  obtain ⟨_, v0, c0, l0⟩ := p0
  obtain ⟨_, v1, c1, l1⟩ := p1
  obtain ⟨_, b0, s0⟩ := t0
  obtain ⟨_, b1, s1⟩ := t1
  obtain ⟨_, b2, s2⟩ := t2
  obtain ⟨_, b3, s3⟩ := t3
  simp only at hr hp ht
  obtain ⟨rfl, rfl⟩ := hr
  obtain ⟨rfl, rfl⟩ := hp
  obtain ⟨rfl, rfl, rfl, rfl⟩ := ht
  have hbm := I.bo
  have o := I.own
  obtain ⟨⟨y0, y1, y2, y3, y4⟩, y5, y6, y7, y8⟩ := (hbm).mach
  simp only [slV] at y5 y6 y7
  obtain ⟨hgne, hglt, hgB, hat, hfz⟩ := I.ringAt (i := 0) rfl (by show 0 < 2; decide)
  have x2 : W1.cell? ⟨gR0, 2, none⟩ = some (.int .i64 0) := hat.2.2.1
  have f2 : W1.frozen? ⟨gR0, 2, none⟩ = false := hfz 2
  clear hat hfz
  have o2 : OwnsM (W1.setCell ⟨gR0, 2, none⟩ (.int .i64 (4 + (1 + X)))) w1.heap.size (⟨gC, (some ⟨gR0, 0, none⟩, 2, cR), (some ⟨gP, 0, none⟩, 2, cP), (some ⟨gT, 0, none⟩, 4, cT), uH, [⟨⟨0, 2, 4 + (1 + X), List.replicate 8 Slt.zero⟩, q0⟩, ⟨gR, q1⟩], [⟨gP0, v0, c0, l0⟩, ⟨gP1, v1, c1, l1⟩], [⟨gT0, b0, s0⟩, ⟨gT1, b1, s1⟩, ⟨gT2, b2, s2⟩, ⟨gT3, b3, s3⟩], gE⟩ : Lay) := o.setR (i := 0) (j := 2) (u := .int .i64 (4 + (1 + X))) rfl (by show 0 < 2; decide) (by decide) ⟨⟨0, 2, 4 + (1 + X), List.replicate 8 Slt.zero⟩, q0⟩ rfl (o.iR ⟨gR, q0⟩ (by simp))
  have hb2 : Box (W1.setCell ⟨gR0, 2, none⟩ (.int .i64 (4 + (1 + X)))) gm (cells9 gC (some ⟨gR0, 0, none⟩, 2, cR) (some ⟨gP, 0, none⟩, 2, cP) (some ⟨gT, 0, none⟩, 4, cT) uH) 29 := hbm.other hgne _ _
  have hl2 : Le w (W1.setCell ⟨gR0, 2, none⟩ (.int .i64 (4 + (1 + X)))) := hl.set (by omega)
  have hfit : FitM (Lay.M (⟨gC, (some ⟨gR0, 0, none⟩, 2, cR), (some ⟨gP, 0, none⟩, 2, cP), (some ⟨gT, 0, none⟩, 4, cT), uH, [⟨⟨0, 2, 4 + (1 + X), List.replicate 8 Slt.zero⟩, q0⟩, ⟨gR, q1⟩], [⟨gP0, v0, c0, l0⟩, ⟨gP1, v1, c1, l1⟩], [⟨gT0, b0, s0⟩, ⟨gT1, b1, s1⟩, ⟨gT2, b2, s2⟩, ⟨gT3, b3, s3⟩], gE⟩ : Lay)) := fitB_fit (by rfl)
  have hno : mayM (Lay.M (⟨gC, (some ⟨gR0, 0, none⟩, 2, cR), (some ⟨gP, 0, none⟩, 2, cP), (some ⟨gT, 0, none⟩, 4, cT), uH, [⟨⟨0, 2, 4 + (1 + X), List.replicate 8 Slt.zero⟩, q0⟩, ⟨gR, q1⟩], [⟨gP0, v0, c0, l0⟩, ⟨gP1, v1, c1, l1⟩], [⟨gT0, b0, s0⟩, ⟨gT1, b1, s1⟩, ⟨gT2, b2, s2⟩, ⟨gT3, b3, s3⟩], gE⟩ : Lay)) = false := no_r (R := (⟨0, 2, 4 + (1 + X), List.replicate 8 Slt.zero⟩ : Rg)) (show _ ∈ ([⟨0, 2, 4 + (1 + X), List.replicate 8 Slt.zero⟩, gR] : List Rg) by simp) (by rw [← Bool.not_eq_true]; intro h; obtain ⟨_, _, ⟨_, k⟩, _⟩ := ringB_cases h; change 4 + (1 + X) ≤ 4 at k; omega)
  go_upto_region 53 with fail
  generalize hW2 : W1.setCell ⟨gR0, 2, none⟩ (.int .i64 (4 + (1 + X))) = W2 at o2 hb2 hl2 ⊢
  clear hW2
  clear y0 y1 y2 y3 y4 y5 y6 y7 y8
  have hx2 := o2.has
  clear hX o I hbm HM
  go_wp2_with fail
  refine (lawNum _ _).mono ?_
  rintro e _ ⟨rfl, rfl⟩
  go_wp2_with fail
  refine (lawGood _).mono ?_
  rintro e w5 ⟨_, rfl, o5, l5⟩
  go_wp2_with fail
  refine (startMay _ goodM _ o5.has good_fit).mono ?_
  rw [good_may]
  rintro e w6 ⟨rfl, l6⟩
  obtain ⟨⟨y0, y1, y2, y3, y4⟩, y5, y6, y7, y8⟩ := (((hb2.le l5).le l6)).mach
  go_wp2_with fail
  refine (startMay _ (Lay.M (⟨gC, (some ⟨gR0, 0, none⟩, 2, cR), (some ⟨gP, 0, none⟩, 2, cP), (some ⟨gT, 0, none⟩, 4, cT), uH, [⟨⟨0, 2, 4 + (1 + X), List.replicate 8 Slt.zero⟩, q0⟩, ⟨gR, q1⟩], [⟨gP0, v0, c0, l0⟩, ⟨gP1, v1, c1, l1⟩], [⟨gT0, b0, s0⟩, ⟨gT1, b1, s1⟩, ⟨gT2, b2, s2⟩, ⟨gT3, b3, s3⟩], gE⟩ : Lay)) _ ((hx2.le l5).le l6) hfit).mono ?_
  rw [hno]
  rintro e w7 ⟨rfl, l7⟩
  go_wp2_with fail
  go_ret
  exact ⟨rfl, ((hl2.trans l5).trans l6).trans l7⟩

end Go.Proofs.YtibleipfablniaaGreat

/-
  THE WALKS over the law StartForms: each kind of machine that may not be. Condition: that the numbers are ints. (Written by program: mksf.py.)
-/
namespace Go.Proofs.YtibleipfablniaaGreat
open Go.RowKit

set_option linter.unusedVariables false in
set_option maxRecDepth 8000 in
set_option maxHeartbeats 8000000 in
theorem lawSF6 (w : World) (which x X : Int) (hw : (IntKind.u64.wrap which).tmod 24 = 6) (hX : bits .and .i64 x 1023 = X) (X0 : 0 ≤ X) (X1 : X ≤ 1023) : Calls Tryz.prog 4 #[.int .i64 which, .int .i64 x] w fun e w' => e = .returned (.bool true) ∧ Le w w' := by
  go_enter Tryz.func4, Tryz.ntmps4
  go_wp2_with fail
  refine (lawAwake14 _).mono ?_
  rintro e w1 ⟨rfl, hl⟩
  go_wp2_with fail
  refine (lawGood _).mono ?_
  rintro e w2 ⟨_, rfl, ⟨L, rfl, HM, o1, ap⟩, l2⟩
  have hbm := Box.new w2 (cells9 L.c L.qR L.qP L.qT L.qH) 29
  have a1 := Le.alloc w2 (.cells (cells9 L.c L.qR L.qP L.qT L.qH) 29)
  go_upto_region 5 with fail
  generalize hW : w2.alloc (.cells (cells9 L.c L.qR L.qP L.qT L.qH) 29) = W1 at hbm a1 ⊢
  clear hW
  have hw1 := hl.size
  have I : MoI w1.heap.size w2.heap.size W1 L := ⟨hbm, l2.size, o1.le a1, ap⟩
  have hgm : w1.heap.size ≤ w2.heap.size := l2.size
  have hwgm : w.heap.size ≤ w2.heap.size := by omega
  generalize w2.heap.size = gm at hbm I hgm hwgm ⊢
  have l12 := l2.trans a1
  have hW1 : w1.heap.size ≤ W1.heap.size := l12.size
  replace hl := hl.trans l12
  clear l2 a1 o1 ap l12 hbm
  obtain ⟨r0, r1, p0, p1, t0, t1, t2, t3, gR0, cR, gP, cP, gT, cT, uH, rfl, hr, hp, ht⟩ := good_open I HM
  obtain ⟨_, q0⟩ := r0
  obtain ⟨_, q1⟩ := r1
  obtain ⟨_, v0, c0, l0⟩ := p0
  obtain ⟨_, v1, c1, l1⟩ := p1
  obtain ⟨_, b0, s0⟩ := t0
  obtain ⟨_, b1, s1⟩ := t1
  obtain ⟨_, b2, s2⟩ := t2
  obtain ⟨_, b3, s3⟩ := t3
  simp only at hr hp ht
  obtain ⟨rfl, rfl⟩ := hr
  obtain ⟨rfl, rfl⟩ := hp
  obtain ⟨rfl, rfl, rfl, rfl⟩ := ht
  have hbm := I.bo
  have o := I.own
  obtain ⟨⟨y0, y1, y2, y3, y4⟩, y5, y6, y7, y8⟩ := (hbm).mach
  simp only [slV] at y5 y6 y7
  obtain ⟨hgne, hglt, hgB, hat, hfz⟩ := I.ringAt (i := 0) rfl (by show 0 < 2; decide)
  have x3 : W1.cell? ⟨gR0, 3, none⟩ = some (slV q0) := hat.2.2.2
  have f3 : W1.frozen? ⟨gR0, 3, none⟩ = false := hfz 3
  clear hat hfz
  obtain ⟨gs, cs, hqs, _, _⟩ := (o.iR ⟨gR, q0⟩ (by simp)).shape (by show 0 < 8; decide)
  have hos : OwnL W1 w1.heap.size (.slice (some ⟨gs, 0, none⟩) 8 cs) gR.ss := by have := o.iR ⟨gR, q0⟩ (by simp); rw [hqs] at this; exact this
  obtain ⟨hsl, hsf⟩ := hos.cell (i := 0) (by show 0 < 8; decide)
  have s3' : W1.cell? ⟨gs, 3, none⟩ = some (.int .i64 0) := by have := hsl.2.2.2.1; exact this
  have fs3 : W1.frozen? ⟨gs, 3, none⟩ = false := hsf 3
  have hgs := (hos.block (g := gs) rfl).1
  have hgsl := (hos.block (g := gs) rfl).2
  have hgsm : gm ≠ gs := fun e => hos.apart hbm (by decide) (by rw [e]; rfl)
  replace hqs : q0 = (some ⟨gs, 0, none⟩, 8, cs) := hqs
  subst hqs
  simp only [slV] at x3
  clear hsl hsf
  have o2 : OwnsM (W1.setCell ⟨gs, 3, none⟩ (.int .i64 (3 + (1 + X)))) w1.heap.size (⟨gC, (some ⟨gR0, 0, none⟩, 2, cR), (some ⟨gP, 0, none⟩, 2, cP), (some ⟨gT, 0, none⟩, 4, cT), uH, [⟨⟨0, 2, 0, [⟨0, 0, 0, 3 + (1 + X), 0⟩, Slt.zero, Slt.zero, Slt.zero, Slt.zero, Slt.zero, Slt.zero, Slt.zero]⟩, (some ⟨gs, 0, none⟩, 8, cs)⟩, ⟨gR, q1⟩], [⟨gP0, v0, c0, l0⟩, ⟨gP1, v1, c1, l1⟩], [⟨gT0, b0, s0⟩, ⟨gT1, b1, s1⟩, ⟨gT2, b2, s2⟩, ⟨gT3, b3, s3⟩], gE⟩ : Lay) := I.setSl (i := 0) (k := 0) (j := 3) (u := .int .i64 (3 + (1 + X))) (s := ⟨0, 0, 0, 3 + (1 + X), 0⟩) (by show 0 < 2; decide) rfl (by show 0 < 8; decide) (by decide) rfl
  have hb2 : Box (W1.setCell ⟨gs, 3, none⟩ (.int .i64 (3 + (1 + X)))) gm (cells9 gC (some ⟨gR0, 0, none⟩, 2, cR) (some ⟨gP, 0, none⟩, 2, cP) (some ⟨gT, 0, none⟩, 4, cT) uH) 29 := hbm.other hgsm _ _
  have hl2 : Le w (W1.setCell ⟨gs, 3, none⟩ (.int .i64 (3 + (1 + X)))) := hl.set (by omega)
  have hfit : FitM (Lay.M (⟨gC, (some ⟨gR0, 0, none⟩, 2, cR), (some ⟨gP, 0, none⟩, 2, cP), (some ⟨gT, 0, none⟩, 4, cT), uH, [⟨⟨0, 2, 0, [⟨0, 0, 0, 3 + (1 + X), 0⟩, Slt.zero, Slt.zero, Slt.zero, Slt.zero, Slt.zero, Slt.zero, Slt.zero]⟩, (some ⟨gs, 0, none⟩, 8, cs)⟩, ⟨gR, q1⟩], [⟨gP0, v0, c0, l0⟩, ⟨gP1, v1, c1, l1⟩], [⟨gT0, b0, s0⟩, ⟨gT1, b1, s1⟩, ⟨gT2, b2, s2⟩, ⟨gT3, b3, s3⟩], gE⟩ : Lay)) := fitB_fit (by rfl)
  have hno : mayM (Lay.M (⟨gC, (some ⟨gR0, 0, none⟩, 2, cR), (some ⟨gP, 0, none⟩, 2, cP), (some ⟨gT, 0, none⟩, 4, cT), uH, [⟨⟨0, 2, 0, [⟨0, 0, 0, 3 + (1 + X), 0⟩, Slt.zero, Slt.zero, Slt.zero, Slt.zero, Slt.zero, Slt.zero, Slt.zero]⟩, (some ⟨gs, 0, none⟩, 8, cs)⟩, ⟨gR, q1⟩], [⟨gP0, v0, c0, l0⟩, ⟨gP1, v1, c1, l1⟩], [⟨gT0, b0, s0⟩, ⟨gT1, b1, s1⟩, ⟨gT2, b2, s2⟩, ⟨gT3, b3, s3⟩], gE⟩ : Lay)) = false := no_r (R := ⟨0, 2, 0, [⟨0, 0, 0, 3 + (1 + X), 0⟩, Slt.zero, Slt.zero, Slt.zero, Slt.zero, Slt.zero, Slt.zero, Slt.zero]⟩) (show _ ∈ ([⟨0, 2, 0, [⟨0, 0, 0, 3 + (1 + X), 0⟩, Slt.zero, Slt.zero, Slt.zero, Slt.zero, Slt.zero, Slt.zero, Slt.zero]⟩, gR] : List Rg) by simp) (by rw [← Bool.not_eq_true]; intro h; obtain ⟨_, _, _, h⟩ := ringB_cases h; have k := (h ⟨0, 0, 0, 3 + (1 + X), 0⟩ (by simp)).2; change 3 + (1 + X) ≤ 4 - 1 at k; omega)
  go_upto_region 53 with fail
  generalize hW2 : W1.setCell ⟨gs, 3, none⟩ (.int .i64 (3 + (1 + X))) = W2 at o2 hb2 hl2 ⊢
  clear hW2
  clear y0 y1 y2 y3 y4 y5 y6 y7 y8
  have hx2 := o2.has
  clear hX o I hbm HM
  go_wp2_with fail
  refine (lawNum _ _).mono ?_
  rintro e _ ⟨rfl, rfl⟩
  go_wp2_with fail
  refine (lawGood _).mono ?_
  rintro e w5 ⟨_, rfl, o5, l5⟩
  go_wp2_with fail
  refine (startMay _ goodM _ o5.has good_fit).mono ?_
  rw [good_may]
  rintro e w6 ⟨rfl, l6⟩
  obtain ⟨⟨y0, y1, y2, y3, y4⟩, y5, y6, y7, y8⟩ := (((hb2.le l5).le l6)).mach
  go_wp2_with fail
  refine (startMay _ (Lay.M (⟨gC, (some ⟨gR0, 0, none⟩, 2, cR), (some ⟨gP, 0, none⟩, 2, cP), (some ⟨gT, 0, none⟩, 4, cT), uH, [⟨⟨0, 2, 0, [⟨0, 0, 0, 3 + (1 + X), 0⟩, Slt.zero, Slt.zero, Slt.zero, Slt.zero, Slt.zero, Slt.zero, Slt.zero]⟩, (some ⟨gs, 0, none⟩, 8, cs)⟩, ⟨gR, q1⟩], [⟨gP0, v0, c0, l0⟩, ⟨gP1, v1, c1, l1⟩], [⟨gT0, b0, s0⟩, ⟨gT1, b1, s1⟩, ⟨gT2, b2, s2⟩, ⟨gT3, b3, s3⟩], gE⟩ : Lay)) _ ((hx2.le l5).le l6) hfit).mono ?_
  rw [hno]
  rintro e w7 ⟨rfl, l7⟩
  go_wp2_with fail
  go_ret
  exact ⟨rfl, ((hl2.trans l5).trans l6).trans l7⟩

end Go.Proofs.YtibleipfablniaaGreat

/-
  THE WALKS over the law StartForms: each kind of machine that may not be. Condition: that the numbers are ints. (Written by program: mksf.py.)
-/
namespace Go.Proofs.YtibleipfablniaaGreat
open Go.RowKit

set_option linter.unusedVariables false in
set_option maxRecDepth 8000 in
set_option maxHeartbeats 8000000 in
theorem lawSF7 (w : World) (which x X : Int) (hw : (IntKind.u64.wrap which).tmod 24 = 7) (hX : bits .and .i64 x 1023 = X) (X0 : 0 ≤ X) (X1 : X ≤ 1023) : Calls Tryz.prog 4 #[.int .i64 which, .int .i64 x] w fun e w' => e = .returned (.bool true) ∧ Le w w' := by
  go_enter Tryz.func4, Tryz.ntmps4
  go_wp2_with fail
  refine (lawAwake14 _).mono ?_
  rintro e w1 ⟨rfl, hl⟩
  go_wp2_with fail
  refine (lawGood _).mono ?_
  rintro e w2 ⟨_, rfl, ⟨L, rfl, HM, o1, ap⟩, l2⟩
  have hbm := Box.new w2 (cells9 L.c L.qR L.qP L.qT L.qH) 29
  have a1 := Le.alloc w2 (.cells (cells9 L.c L.qR L.qP L.qT L.qH) 29)
  go_upto_region 5 with fail
  generalize hW : w2.alloc (.cells (cells9 L.c L.qR L.qP L.qT L.qH) 29) = W1 at hbm a1 ⊢
  clear hW
  have hw1 := hl.size
  have I : MoI w1.heap.size w2.heap.size W1 L := ⟨hbm, l2.size, o1.le a1, ap⟩
  have hgm : w1.heap.size ≤ w2.heap.size := l2.size
  have hwgm : w.heap.size ≤ w2.heap.size := by omega
  generalize w2.heap.size = gm at hbm I hgm hwgm ⊢
  have l12 := l2.trans a1
  have hW1 : w1.heap.size ≤ W1.heap.size := l12.size
  replace hl := hl.trans l12
  clear l2 a1 o1 ap l12 hbm
  obtain ⟨r0, r1, p0, p1, t0, t1, t2, t3, gR0, cR, gP, cP, gT, cT, uH, rfl, hr, hp, ht⟩ := good_open I HM
  obtain ⟨_, q0⟩ := r0
  obtain ⟨_, q1⟩ := r1
  obtain ⟨_, v0, c0, l0⟩ := p0
  obtain ⟨_, v1, c1, l1⟩ := p1
  obtain ⟨_, b0, s0⟩ := t0
  obtain ⟨_, b1, s1⟩ := t1
  obtain ⟨_, b2, s2⟩ := t2
  obtain ⟨_, b3, s3⟩ := t3
  simp only at hr hp ht
  obtain ⟨rfl, rfl⟩ := hr
  obtain ⟨rfl, rfl⟩ := hp
  obtain ⟨rfl, rfl, rfl, rfl⟩ := ht
  have hbm := I.bo
  have o := I.own
  obtain ⟨⟨y0, y1, y2, y3, y4⟩, y5, y6, y7, y8⟩ := (hbm).mach
  simp only [slV] at y5 y6 y7
  obtain ⟨hgne, hglt, hgB, hat, hfz⟩ := I.repAt (i := 1) rfl (by show 1 < 2; decide)
  have x2 : W1.cell? ⟨gP, 8, none⟩ = some (slV (v1 2)) := hat.2.2.1
  have f2 : W1.frozen? ⟨gP, 8, none⟩ = false := hfz 8
  clear hat hfz
  have hA := Le.alloc W1 (.cells #[.int .i64 (-(1 + X))] 3)
  have hlit : Own (W1.alloc (.cells #[.int .i64 (-(1 + X))] 3)) w1.heap.size (slV (some ⟨W1.heap.size, 0, none⟩, 1, 1)) [-(1 + X)] := Own.lit W1 w1.heap.size hW1 [-(1 + X)] (by simp)
  have hown := (o.le hA).iP ⟨gP1, v1, c1, l1⟩ (by simp)
  have o2 : OwnsM ((W1.alloc (.cells #[.int .i64 (-(1 + X))] 3)).setCell ⟨gP, 8, none⟩ (slV (some ⟨W1.heap.size, 0, none⟩, 1, 1))) w1.heap.size (⟨gC, (some ⟨gR0, 0, none⟩, 2, cR), (some ⟨gP, 0, none⟩, 2, cP), (some ⟨gT, 0, none⟩, 4, cT), uH, [⟨gR, q0⟩, ⟨gR, q1⟩], [⟨gP0, v0, c0, l0⟩, ⟨⟨⟨[], [], [-(1 + X)], []⟩, [0, 0], [0, 2]⟩, (fun j => if j = 2 then (some ⟨W1.heap.size, 0, none⟩, 1, 1) else v1 j), c1, l1⟩], [⟨gT0, b0, s0⟩, ⟨gT1, b1, s1⟩, ⟨gT2, b2, s2⟩, ⟨gT3, b3, s3⟩], gE⟩ : Lay) := (o.le hA).setP (i := 1) (j := 2) (u := slV (some ⟨W1.heap.size, 0, none⟩, 1, 1)) rfl (by show 1 < 2; decide) (by decide) ⟨⟨⟨[], [], [-(1 + X)], []⟩, [0, 0], [0, 2]⟩, (fun j => if j = 2 then (some ⟨W1.heap.size, 0, none⟩, 1, 1) else v1 j), c1, l1⟩ rfl (fun j hj => by rcases four hj with rfl | rfl | rfl | rfl; exact hown.1 0 (by decide); exact hown.1 1 (by decide); exact hlit; exact hown.1 3 (by decide)) hown.2.1 hown.2.2
  have hb2 : Box ((W1.alloc (.cells #[.int .i64 (-(1 + X))] 3)).setCell ⟨gP, 8, none⟩ (slV (some ⟨W1.heap.size, 0, none⟩, 1, 1))) gm (cells9 gC (some ⟨gR0, 0, none⟩, 2, cR) (some ⟨gP, 0, none⟩, 2, cP) (some ⟨gT, 0, none⟩, 4, cT) uH) 29 := (hbm.le hA).other hgne _ _
  have hl2 : Le w ((W1.alloc (.cells #[.int .i64 (-(1 + X))] 3)).setCell ⟨gP, 8, none⟩ (slV (some ⟨W1.heap.size, 0, none⟩, 1, 1))) := (hl.trans hA).set (by omega)
  have hfit : FitM (Lay.M (⟨gC, (some ⟨gR0, 0, none⟩, 2, cR), (some ⟨gP, 0, none⟩, 2, cP), (some ⟨gT, 0, none⟩, 4, cT), uH, [⟨gR, q0⟩, ⟨gR, q1⟩], [⟨gP0, v0, c0, l0⟩, ⟨⟨⟨[], [], [-(1 + X)], []⟩, [0, 0], [0, 2]⟩, (fun j => if j = 2 then (some ⟨W1.heap.size, 0, none⟩, 1, 1) else v1 j), c1, l1⟩], [⟨gT0, b0, s0⟩, ⟨gT1, b1, s1⟩, ⟨gT2, b2, s2⟩, ⟨gT3, b3, s3⟩], gE⟩ : Lay)) := fitB_fit (by rfl)
  have hno : mayM (Lay.M (⟨gC, (some ⟨gR0, 0, none⟩, 2, cR), (some ⟨gP, 0, none⟩, 2, cP), (some ⟨gT, 0, none⟩, 4, cT), uH, [⟨gR, q0⟩, ⟨gR, q1⟩], [⟨gP0, v0, c0, l0⟩, ⟨⟨⟨[], [], [-(1 + X)], []⟩, [0, 0], [0, 2]⟩, (fun j => if j = 2 then (some ⟨W1.heap.size, 0, none⟩, 1, 1) else v1 j), c1, l1⟩], [⟨gT0, b0, s0⟩, ⟨gT1, b1, s1⟩, ⟨gT2, b2, s2⟩, ⟨gT3, b3, s3⟩], gE⟩ : Lay)) = false := no_p (P := (⟨⟨[], [], [-(1 + X)], []⟩, [0, 0], [0, 2]⟩ : Rp)) (show _ ∈ ([gP0, ⟨⟨[], [], [-(1 + X)], []⟩, [0, 0], [0, 2]⟩] : List Rp) by simp) (by rw [← Bool.not_eq_true]; intro h; obtain ⟨k, _⟩ := repB_cases h; simp [objMay, gC, St.all, rowMayO, rowMay3, argB, Lay.M] at k; omega)
  rw [World.setCell_alloc_past _ _ _ _ hglt] at o2 hb2 hl2
  go_upto_region 53 with fail
  generalize hW2 : (W1.setCell ⟨gP, 8, none⟩ (slV (some ⟨W1.heap.size, 0, none⟩, 1, 1))).alloc (.cells #[.int .i64 (-(1 + X))] 3) = W2 at o2 hb2 hl2 ⊢
  clear hW2
  clear y0 y1 y2 y3 y4 y5 y6 y7 y8
  have hx2 := o2.has
  clear hX o I hbm HM
  go_wp2_with fail
  refine (lawNum _ _).mono ?_
  rintro e _ ⟨rfl, rfl⟩
  go_wp2_with fail
  refine (lawGood _).mono ?_
  rintro e w5 ⟨_, rfl, o5, l5⟩
  go_wp2_with fail
  refine (startMay _ goodM _ o5.has good_fit).mono ?_
  rw [good_may]
  rintro e w6 ⟨rfl, l6⟩
  obtain ⟨⟨y0, y1, y2, y3, y4⟩, y5, y6, y7, y8⟩ := (((hb2.le l5).le l6)).mach
  go_wp2_with fail
  refine (startMay _ (Lay.M (⟨gC, (some ⟨gR0, 0, none⟩, 2, cR), (some ⟨gP, 0, none⟩, 2, cP), (some ⟨gT, 0, none⟩, 4, cT), uH, [⟨gR, q0⟩, ⟨gR, q1⟩], [⟨gP0, v0, c0, l0⟩, ⟨⟨⟨[], [], [-(1 + X)], []⟩, [0, 0], [0, 2]⟩, (fun j => if j = 2 then (some ⟨W1.heap.size, 0, none⟩, 1, 1) else v1 j), c1, l1⟩], [⟨gT0, b0, s0⟩, ⟨gT1, b1, s1⟩, ⟨gT2, b2, s2⟩, ⟨gT3, b3, s3⟩], gE⟩ : Lay)) _ ((hx2.le l5).le l6) hfit).mono ?_
  rw [hno]
  rintro e w7 ⟨rfl, l7⟩
  go_wp2_with fail
  go_ret
  exact ⟨rfl, ((hl2.trans l5).trans l6).trans l7⟩

end Go.Proofs.YtibleipfablniaaGreat

/-
  THE WALKS over the law StartForms: each kind of machine that may not be. Condition: that the numbers are ints. (Written by program: mksf.py.)
-/
namespace Go.Proofs.YtibleipfablniaaGreat
open Go.RowKit

set_option linter.unusedVariables false in
set_option maxRecDepth 8000 in
set_option maxHeartbeats 8000000 in
theorem lawSF8 (w : World) (which x X : Int) (hw : (IntKind.u64.wrap which).tmod 24 = 8) (hX : bits .and .i64 x 1023 = X) (X0 : 0 ≤ X) (X1 : X ≤ 1023) : Calls Tryz.prog 4 #[.int .i64 which, .int .i64 x] w fun e w' => e = .returned (.bool true) ∧ Le w w' := by
  go_enter Tryz.func4, Tryz.ntmps4
  go_wp2_with fail
  refine (lawAwake14 _).mono ?_
  rintro e w1 ⟨rfl, hl⟩
  go_wp2_with fail
  refine (lawGood _).mono ?_
  rintro e w2 ⟨_, rfl, ⟨L, rfl, HM, o1, ap⟩, l2⟩
  have hbm := Box.new w2 (cells9 L.c L.qR L.qP L.qT L.qH) 29
  have a1 := Le.alloc w2 (.cells (cells9 L.c L.qR L.qP L.qT L.qH) 29)
  go_upto_region 5 with fail
  generalize hW : w2.alloc (.cells (cells9 L.c L.qR L.qP L.qT L.qH) 29) = W1 at hbm a1 ⊢
  clear hW
  have hw1 := hl.size
  have I : MoI w1.heap.size w2.heap.size W1 L := ⟨hbm, l2.size, o1.le a1, ap⟩
  have hgm : w1.heap.size ≤ w2.heap.size := l2.size
  have hwgm : w.heap.size ≤ w2.heap.size := by omega
  generalize w2.heap.size = gm at hbm I hgm hwgm ⊢
  have l12 := l2.trans a1
  have hW1 : w1.heap.size ≤ W1.heap.size := l12.size
  replace hl := hl.trans l12
  clear l2 a1 o1 ap l12 hbm
  obtain ⟨r0, r1, p0, p1, t0, t1, t2, t3, gR0, cR, gP, cP, gT, cT, uH, rfl, hr, hp, ht⟩ := good_open I HM
  obtain ⟨_, q0⟩ := r0
  obtain ⟨_, q1⟩ := r1
  obtain ⟨_, v0, c0, l0⟩ := p0
  obtain ⟨_, v1, c1, l1⟩ := p1
  obtain ⟨_, b0, s0⟩ := t0
  obtain ⟨_, b1, s1⟩ := t1
  obtain ⟨_, b2, s2⟩ := t2
  obtain ⟨_, b3, s3⟩ := t3
  simp only at hr hp ht
  obtain ⟨rfl, rfl⟩ := hr
  obtain ⟨rfl, rfl⟩ := hp
  obtain ⟨rfl, rfl, rfl, rfl⟩ := ht
  have hbm := I.bo
  have o := I.own
  obtain ⟨⟨y0, y1, y2, y3, y4⟩, y5, y6, y7, y8⟩ := (hbm).mach
  simp only [slV] at y5 y6 y7
  obtain ⟨hgne, hglt, hgB, hat, hfz⟩ := I.repAt (i := 0) rfl (by show 0 < 2; decide)
  have x4 : W1.cell? ⟨gP, 4, none⟩ = some (slV c0) := hat.2.2.2.2.1
  have f4 : W1.frozen? ⟨gP, 4, none⟩ = false := hfz 4
  clear hat hfz
  have hown := o.iP ⟨gP0, v0, c0, l0⟩ (by simp)
  have o2 : OwnsM (W1.setCell ⟨gP, 4, none⟩ (.slice none 0 0)) w1.heap.size (⟨gC, (some ⟨gR0, 0, none⟩, 2, cR), (some ⟨gP, 0, none⟩, 2, cP), (some ⟨gT, 0, none⟩, 4, cT), uH, [⟨gR, q0⟩, ⟨gR, q1⟩], [⟨⟨St.zero, [], [1, 0]⟩, v0, slZ, l0⟩, ⟨gP1, v1, c1, l1⟩], [⟨gT0, b0, s0⟩, ⟨gT1, b1, s1⟩, ⟨gT2, b2, s2⟩, ⟨gT3, b3, s3⟩], gE⟩ : Lay) := o.setP (i := 0) (j := 4) (u := .slice none 0 0) rfl (by show 0 < 2; decide) (by decide) ⟨⟨St.zero, [], [1, 0]⟩, v0, slZ, l0⟩ rfl hown.1 (Own.nil _ _) hown.2.2
  have hb2 : Box (W1.setCell ⟨gP, 4, none⟩ (.slice none 0 0)) gm (cells9 gC (some ⟨gR0, 0, none⟩, 2, cR) (some ⟨gP, 0, none⟩, 2, cP) (some ⟨gT, 0, none⟩, 4, cT) uH) 29 := hbm.other hgne _ _
  have hl2 : Le w (W1.setCell ⟨gP, 4, none⟩ (.slice none 0 0)) := hl.set (by omega)
  have hfit : FitM (Lay.M (⟨gC, (some ⟨gR0, 0, none⟩, 2, cR), (some ⟨gP, 0, none⟩, 2, cP), (some ⟨gT, 0, none⟩, 4, cT), uH, [⟨gR, q0⟩, ⟨gR, q1⟩], [⟨⟨St.zero, [], [1, 0]⟩, v0, slZ, l0⟩, ⟨gP1, v1, c1, l1⟩], [⟨gT0, b0, s0⟩, ⟨gT1, b1, s1⟩, ⟨gT2, b2, s2⟩, ⟨gT3, b3, s3⟩], gE⟩ : Lay)) := fitB_fit (by rfl)
  have hno : mayM (Lay.M (⟨gC, (some ⟨gR0, 0, none⟩, 2, cR), (some ⟨gP, 0, none⟩, 2, cP), (some ⟨gT, 0, none⟩, 4, cT), uH, [⟨gR, q0⟩, ⟨gR, q1⟩], [⟨⟨St.zero, [], [1, 0]⟩, v0, slZ, l0⟩, ⟨gP1, v1, c1, l1⟩], [⟨gT0, b0, s0⟩, ⟨gT1, b1, s1⟩, ⟨gT2, b2, s2⟩, ⟨gT3, b3, s3⟩], gE⟩ : Lay)) = false := no_p (P := (⟨St.zero, [], [1, 0]⟩ : Rp)) (show _ ∈ ([⟨St.zero, [], [1, 0]⟩, gP1] : List Rp) by simp) (by rw [← Bool.not_eq_true]; intro h; obtain ⟨_, k, _⟩ := repB_cases h; change (0 : Int) = 2 at k; cases k)
  go_upto_region 53 with fail
  generalize hW2 : W1.setCell ⟨gP, 4, none⟩ (.slice none 0 0) = W2 at o2 hb2 hl2 ⊢
  clear hW2
  clear y0 y1 y2 y3 y4 y5 y6 y7 y8
  have hx2 := o2.has
  clear hX o I hbm HM
  go_wp2_with fail
  refine (lawNum _ _).mono ?_
  rintro e _ ⟨rfl, rfl⟩
  go_wp2_with fail
  refine (lawGood _).mono ?_
  rintro e w5 ⟨_, rfl, o5, l5⟩
  go_wp2_with fail
  refine (startMay _ goodM _ o5.has good_fit).mono ?_
  rw [good_may]
  rintro e w6 ⟨rfl, l6⟩
  obtain ⟨⟨y0, y1, y2, y3, y4⟩, y5, y6, y7, y8⟩ := (((hb2.le l5).le l6)).mach
  go_wp2_with fail
  refine (startMay _ (Lay.M (⟨gC, (some ⟨gR0, 0, none⟩, 2, cR), (some ⟨gP, 0, none⟩, 2, cP), (some ⟨gT, 0, none⟩, 4, cT), uH, [⟨gR, q0⟩, ⟨gR, q1⟩], [⟨⟨St.zero, [], [1, 0]⟩, v0, slZ, l0⟩, ⟨gP1, v1, c1, l1⟩], [⟨gT0, b0, s0⟩, ⟨gT1, b1, s1⟩, ⟨gT2, b2, s2⟩, ⟨gT3, b3, s3⟩], gE⟩ : Lay)) _ ((hx2.le l5).le l6) hfit).mono ?_
  rw [hno]
  rintro e w7 ⟨rfl, l7⟩
  go_wp2_with fail
  go_ret
  exact ⟨rfl, ((hl2.trans l5).trans l6).trans l7⟩

end Go.Proofs.YtibleipfablniaaGreat

/-
  THE WALKS over the law StartForms: each kind of machine that may not be. Condition: that the numbers are ints. (Written by program: mksf.py.)
-/
namespace Go.Proofs.YtibleipfablniaaGreat
open Go.RowKit

set_option linter.unusedVariables false in
set_option maxRecDepth 8000 in
set_option maxHeartbeats 8000000 in
theorem lawSF9 (w : World) (which x X : Int) (hw : (IntKind.u64.wrap which).tmod 24 = 9) (hX : bits .and .i64 x 1023 = X) (X0 : 0 ≤ X) (X1 : X ≤ 1023) : Calls Tryz.prog 4 #[.int .i64 which, .int .i64 x] w fun e w' => e = .returned (.bool true) ∧ Le w w' := by
  go_enter Tryz.func4, Tryz.ntmps4
  go_wp2_with fail
  refine (lawAwake14 _).mono ?_
  rintro e w1 ⟨rfl, hl⟩
  go_wp2_with fail
  refine (lawGood _).mono ?_
  rintro e w2 ⟨_, rfl, ⟨L, rfl, HM, o1, ap⟩, l2⟩
  have hbm := Box.new w2 (cells9 L.c L.qR L.qP L.qT L.qH) 29
  have a1 := Le.alloc w2 (.cells (cells9 L.c L.qR L.qP L.qT L.qH) 29)
  go_upto_region 5 with fail
  generalize hW : w2.alloc (.cells (cells9 L.c L.qR L.qP L.qT L.qH) 29) = W1 at hbm a1 ⊢
  clear hW
  have hw1 := hl.size
  have I : MoI w1.heap.size w2.heap.size W1 L := ⟨hbm, l2.size, o1.le a1, ap⟩
  have hgm : w1.heap.size ≤ w2.heap.size := l2.size
  have hwgm : w.heap.size ≤ w2.heap.size := by omega
  generalize w2.heap.size = gm at hbm I hgm hwgm ⊢
  have l12 := l2.trans a1
  have hW1 : w1.heap.size ≤ W1.heap.size := l12.size
  replace hl := hl.trans l12
  clear l2 a1 o1 ap l12 hbm
  obtain ⟨r0, r1, p0, p1, t0, t1, t2, t3, gR0, cR, gP, cP, gT, cT, uH, rfl, hr, hp, ht⟩ := good_open I HM
  obtain ⟨_, q0⟩ := r0
  obtain ⟨_, q1⟩ := r1
  obtain ⟨_, v0, c0, l0⟩ := p0
  obtain ⟨_, v1, c1, l1⟩ := p1
  obtain ⟨_, b0, s0⟩ := t0
  obtain ⟨_, b1, s1⟩ := t1
  obtain ⟨_, b2, s2⟩ := t2
  obtain ⟨_, b3, s3⟩ := t3
  simp only at hr hp ht
  obtain ⟨rfl, rfl⟩ := hr
  obtain ⟨rfl, rfl⟩ := hp
  obtain ⟨rfl, rfl, rfl, rfl⟩ := ht
  have hbm := I.bo
  have o := I.own
  obtain ⟨⟨y0, y1, y2, y3, y4⟩, y5, y6, y7, y8⟩ := (hbm).mach
  simp only [slV] at y5 y6 y7
  obtain ⟨hgne, hglt, hgB, hat, hfz⟩ := I.repAt (i := 0) rfl (by show 0 < 2; decide)
  have x5 : W1.cell? ⟨gP, 5, none⟩ = some (slV l0) := hat.2.2.2.2.2
  have f5 : W1.frozen? ⟨gP, 5, none⟩ = false := hfz 5
  clear hat hfz
  have hA := Le.alloc W1 (.cells #[.int .i64 0] 3)
  have hlit : Own (W1.alloc (.cells #[.int .i64 0] 3)) w1.heap.size (slV (some ⟨W1.heap.size, 0, none⟩, 1, 1)) [0] := Own.lit W1 w1.heap.size hW1 [0] (by simp)
  have hown := (o.le hA).iP ⟨gP0, v0, c0, l0⟩ (by simp)
  have o2 : OwnsM ((W1.alloc (.cells #[.int .i64 0] 3)).setCell ⟨gP, 5, none⟩ (slV (some ⟨W1.heap.size, 0, none⟩, 1, 1))) w1.heap.size (⟨gC, (some ⟨gR0, 0, none⟩, 2, cR), (some ⟨gP, 0, none⟩, 2, cP), (some ⟨gT, 0, none⟩, 4, cT), uH, [⟨gR, q0⟩, ⟨gR, q1⟩], [⟨⟨St.zero, [0, 0], [0]⟩, v0, c0, (some ⟨W1.heap.size, 0, none⟩, 1, 1)⟩, ⟨gP1, v1, c1, l1⟩], [⟨gT0, b0, s0⟩, ⟨gT1, b1, s1⟩, ⟨gT2, b2, s2⟩, ⟨gT3, b3, s3⟩], gE⟩ : Lay) := (o.le hA).setP (i := 0) (j := 5) (u := slV (some ⟨W1.heap.size, 0, none⟩, 1, 1)) rfl (by show 0 < 2; decide) (by decide) ⟨⟨St.zero, [0, 0], [0]⟩, v0, c0, (some ⟨W1.heap.size, 0, none⟩, 1, 1)⟩ rfl hown.1 hown.2.1 hlit
  have hb2 : Box ((W1.alloc (.cells #[.int .i64 0] 3)).setCell ⟨gP, 5, none⟩ (slV (some ⟨W1.heap.size, 0, none⟩, 1, 1))) gm (cells9 gC (some ⟨gR0, 0, none⟩, 2, cR) (some ⟨gP, 0, none⟩, 2, cP) (some ⟨gT, 0, none⟩, 4, cT) uH) 29 := (hbm.le hA).other hgne _ _
  have hl2 : Le w ((W1.alloc (.cells #[.int .i64 0] 3)).setCell ⟨gP, 5, none⟩ (slV (some ⟨W1.heap.size, 0, none⟩, 1, 1))) := (hl.trans hA).set (by omega)
  have hfit : FitM (Lay.M (⟨gC, (some ⟨gR0, 0, none⟩, 2, cR), (some ⟨gP, 0, none⟩, 2, cP), (some ⟨gT, 0, none⟩, 4, cT), uH, [⟨gR, q0⟩, ⟨gR, q1⟩], [⟨⟨St.zero, [0, 0], [0]⟩, v0, c0, (some ⟨W1.heap.size, 0, none⟩, 1, 1)⟩, ⟨gP1, v1, c1, l1⟩], [⟨gT0, b0, s0⟩, ⟨gT1, b1, s1⟩, ⟨gT2, b2, s2⟩, ⟨gT3, b3, s3⟩], gE⟩ : Lay)) := fitB_fit (by rfl)
  have hno : mayM (Lay.M (⟨gC, (some ⟨gR0, 0, none⟩, 2, cR), (some ⟨gP, 0, none⟩, 2, cP), (some ⟨gT, 0, none⟩, 4, cT), uH, [⟨gR, q0⟩, ⟨gR, q1⟩], [⟨⟨St.zero, [0, 0], [0]⟩, v0, c0, (some ⟨W1.heap.size, 0, none⟩, 1, 1)⟩, ⟨gP1, v1, c1, l1⟩], [⟨gT0, b0, s0⟩, ⟨gT1, b1, s1⟩, ⟨gT2, b2, s2⟩, ⟨gT3, b3, s3⟩], gE⟩ : Lay)) = false := no_p (P := (⟨St.zero, [0, 0], [0]⟩ : Rp)) (show _ ∈ ([⟨St.zero, [0, 0], [0]⟩, gP1] : List Rp) by simp) (by rw [← Bool.not_eq_true]; intro h; obtain ⟨_, _, _, k, _⟩ := repB_cases h; change (1 : Int) = 2 at k; cases k)
  rw [World.setCell_alloc_past _ _ _ _ hglt] at o2 hb2 hl2
  go_upto_region 53 with fail
  generalize hW2 : (W1.setCell ⟨gP, 5, none⟩ (slV (some ⟨W1.heap.size, 0, none⟩, 1, 1))).alloc (.cells #[.int .i64 0] 3) = W2 at o2 hb2 hl2 ⊢
  clear hW2
  clear y0 y1 y2 y3 y4 y5 y6 y7 y8
  have hx2 := o2.has
  clear hX o I hbm HM
  go_wp2_with fail
  refine (lawNum _ _).mono ?_
  rintro e _ ⟨rfl, rfl⟩
  go_wp2_with fail
  refine (lawGood _).mono ?_
  rintro e w5 ⟨_, rfl, o5, l5⟩
  go_wp2_with fail
  refine (startMay _ goodM _ o5.has good_fit).mono ?_
  rw [good_may]
  rintro e w6 ⟨rfl, l6⟩
  obtain ⟨⟨y0, y1, y2, y3, y4⟩, y5, y6, y7, y8⟩ := (((hb2.le l5).le l6)).mach
  go_wp2_with fail
  refine (startMay _ (Lay.M (⟨gC, (some ⟨gR0, 0, none⟩, 2, cR), (some ⟨gP, 0, none⟩, 2, cP), (some ⟨gT, 0, none⟩, 4, cT), uH, [⟨gR, q0⟩, ⟨gR, q1⟩], [⟨⟨St.zero, [0, 0], [0]⟩, v0, c0, (some ⟨W1.heap.size, 0, none⟩, 1, 1)⟩, ⟨gP1, v1, c1, l1⟩], [⟨gT0, b0, s0⟩, ⟨gT1, b1, s1⟩, ⟨gT2, b2, s2⟩, ⟨gT3, b3, s3⟩], gE⟩ : Lay)) _ ((hx2.le l5).le l6) hfit).mono ?_
  rw [hno]
  rintro e w7 ⟨rfl, l7⟩
  go_wp2_with fail
  go_ret
  exact ⟨rfl, ((hl2.trans l5).trans l6).trans l7⟩

end Go.Proofs.YtibleipfablniaaGreat

/-
  THE WALKS over the law StartForms: each kind of machine that may not be. Condition: that the numbers are ints. (Written by program: mksf.py.)
-/
namespace Go.Proofs.YtibleipfablniaaGreat
open Go.RowKit

set_option linter.unusedVariables false in
set_option maxRecDepth 8000 in
set_option maxHeartbeats 8000000 in
theorem lawSF10 (w : World) (which x X : Int) (hw : (IntKind.u64.wrap which).tmod 24 = 10) (hX : bits .and .i64 x 1023 = X) (X0 : 0 ≤ X) (X1 : X ≤ 1023) : Calls Tryz.prog 4 #[.int .i64 which, .int .i64 x] w fun e w' => e = .returned (.bool true) ∧ Le w w' := by
  go_enter Tryz.func4, Tryz.ntmps4
  go_wp2_with fail
  refine (lawAwake14 _).mono ?_
  rintro e w1 ⟨rfl, hl⟩
  go_wp2_with fail
  refine (lawGood _).mono ?_
  rintro e w2 ⟨_, rfl, ⟨L, rfl, HM, o1, ap⟩, l2⟩
  have hbm := Box.new w2 (cells9 L.c L.qR L.qP L.qT L.qH) 29
  have a1 := Le.alloc w2 (.cells (cells9 L.c L.qR L.qP L.qT L.qH) 29)
  go_upto_region 5 with fail
  generalize hW : w2.alloc (.cells (cells9 L.c L.qR L.qP L.qT L.qH) 29) = W1 at hbm a1 ⊢
  clear hW
  have hw1 := hl.size
  have I : MoI w1.heap.size w2.heap.size W1 L := ⟨hbm, l2.size, o1.le a1, ap⟩
  have hgm : w1.heap.size ≤ w2.heap.size := l2.size
  have hwgm : w.heap.size ≤ w2.heap.size := by omega
  generalize w2.heap.size = gm at hbm I hgm hwgm ⊢
  have l12 := l2.trans a1
  have hW1 : w1.heap.size ≤ W1.heap.size := l12.size
  replace hl := hl.trans l12
  clear l2 a1 o1 ap l12 hbm
  obtain ⟨r0, r1, p0, p1, t0, t1, t2, t3, gR0, cR, gP, cP, gT, cT, uH, rfl, hr, hp, ht⟩ := good_open I HM
  obtain ⟨_, q0⟩ := r0
  obtain ⟨_, q1⟩ := r1
  obtain ⟨_, v0, c0, l0⟩ := p0
  obtain ⟨_, v1, c1, l1⟩ := p1
  obtain ⟨_, b0, s0⟩ := t0
  obtain ⟨_, b1, s1⟩ := t1
  obtain ⟨_, b2, s2⟩ := t2
  obtain ⟨_, b3, s3⟩ := t3
  simp only at hr hp ht
  obtain ⟨rfl, rfl⟩ := hr
  obtain ⟨rfl, rfl⟩ := hp
  obtain ⟨rfl, rfl, rfl, rfl⟩ := ht
  have hbm := I.bo
  have o := I.own
  obtain ⟨⟨y0, y1, y2, y3, y4⟩, y5, y6, y7, y8⟩ := (hbm).mach
  simp only [slV] at y5 y6 y7
  obtain ⟨hgne, hglt, hgB, hat, hfz⟩ := I.repAt (i := 1) rfl (by show 1 < 2; decide)
  have x4 : W1.cell? ⟨gP, 10, none⟩ = some (slV c1) := hat.2.2.2.2.1
  have f4 : W1.frozen? ⟨gP, 10, none⟩ = false := hfz 10
  clear hat hfz
  obtain ⟨gn, cn, hqn, _, hgnB, hgnl, xn, fn⟩ := I.openC (i := 1) (k := 1) (by show 1 < 2; decide) (by show 1 < 2; decide)
  replace hqn : c1 = (some ⟨gn, 0, none⟩, 2, cn) := hqn
  have hon : Own W1 w1.heap.size (slV c1) [0, 0] := (o.iP ⟨gP1, v1, c1, l1⟩ (by simp)).2.1
  have hgnm : gm ≠ gn := fun e => hon.e.apart hbm (by decide) (by rw [hqn, e]; rfl)
  subst hqn
  replace xn : W1.cell? ⟨gn, 1, none⟩ = some (.int .i64 0) := xn
  simp only [slV] at x4
  obtain ⟨hgneR, hgltR, hgBR, hatR, _⟩ := I.ringAt (i := 1) rfl (by show 1 < 2; decide)
  have x5' : W1.cell? ⟨gR0, 5, none⟩ = some (.int .i64 2) := hatR.2.1
  have hgn1 : ¬ gn = gm := fun e => hgnm e.symm
  have hgn3 : ¬ gn = gR0 := fun e => own_k (g := gR0) o.oR hon (by decide) rfl (by rw [e]; rfl)
  have hgn2 : ¬ gn = gP := fun e => own_k (g := gP) o.oP hon (by decide) rfl (by rw [e]; rfl)
  have hwr : IntKind.i64.wrap (2 + (1 + X)) = 2 + (1 + X) := by rw [IntKind.wrap_i64]; omega
  clear hatR
  have o2 : OwnsM ((W1.setCell ⟨gn, 1, none⟩ (.int .i64 (2 + (1 + X)))).drew) w1.heap.size (⟨gC, (some ⟨gR0, 0, none⟩, 2, cR), (some ⟨gP, 0, none⟩, 2, cP), (some ⟨gT, 0, none⟩, 4, cT), uH, [⟨gR, q0⟩, ⟨gR, q1⟩], [⟨gP0, v0, c0, l0⟩, ⟨⟨St.zero, [0, 2 + (1 + X)], [0, 2]⟩, v1, (some ⟨gn, 0, none⟩, 2, cn), l1⟩], [⟨gT0, b0, s0⟩, ⟨gT1, b1, s1⟩, ⟨gT2, b2, s2⟩, ⟨gT3, b3, s3⟩], gE⟩ : Lay) := ((I.setCu (i := 1) (k := 1) (v := 2 + (1 + X)) (by show 1 < 2; decide) rfl (by show 1 < 2; decide)).own).le (Le.drew _)
  have hb2 : Box ((W1.setCell ⟨gn, 1, none⟩ (.int .i64 (2 + (1 + X)))).drew) gm (cells9 gC (some ⟨gR0, 0, none⟩, 2, cR) (some ⟨gP, 0, none⟩, 2, cP) (some ⟨gT, 0, none⟩, 4, cT) uH) 29 := (hbm.other hgnm _ _).le (Le.drew _)
  have hl2 : Le w ((W1.setCell ⟨gn, 1, none⟩ (.int .i64 (2 + (1 + X)))).drew) := (hl.set (by omega)).trans (Le.drew _)
  have hfit : FitM (Lay.M (⟨gC, (some ⟨gR0, 0, none⟩, 2, cR), (some ⟨gP, 0, none⟩, 2, cP), (some ⟨gT, 0, none⟩, 4, cT), uH, [⟨gR, q0⟩, ⟨gR, q1⟩], [⟨gP0, v0, c0, l0⟩, ⟨⟨St.zero, [0, 2 + (1 + X)], [0, 2]⟩, v1, (some ⟨gn, 0, none⟩, 2, cn), l1⟩], [⟨gT0, b0, s0⟩, ⟨gT1, b1, s1⟩, ⟨gT2, b2, s2⟩, ⟨gT3, b3, s3⟩], gE⟩ : Lay)) := fitB_fit (by rfl)
  have hno : mayM (Lay.M (⟨gC, (some ⟨gR0, 0, none⟩, 2, cR), (some ⟨gP, 0, none⟩, 2, cP), (some ⟨gT, 0, none⟩, 4, cT), uH, [⟨gR, q0⟩, ⟨gR, q1⟩], [⟨gP0, v0, c0, l0⟩, ⟨⟨St.zero, [0, 2 + (1 + X)], [0, 2]⟩, v1, (some ⟨gn, 0, none⟩, 2, cn), l1⟩], [⟨gT0, b0, s0⟩, ⟨gT1, b1, s1⟩, ⟨gT2, b2, s2⟩, ⟨gT3, b3, s3⟩], gE⟩ : Lay)) = false := no_p (P := (⟨St.zero, [0, 2 + (1 + X)], [0, 2]⟩ : Rp)) (show _ ∈ ([gP0, ⟨St.zero, [0, 2 + (1 + X)], [0, 2]⟩] : List Rp) by simp) (by rw [← Bool.not_eq_true]; intro h; obtain ⟨_, _, h, _⟩ := repB_cases h; have k := (cursOK_at (k := 1) h (by show 1 < 2; decide)).2; change 2 + (1 + X) ≤ 2 at k; omega)
  go_upto_region 28 with fail
  go_region_held3 (fun w' => w'.cell? ⟨gm, 6, none⟩ = some (.slice (some ⟨gP, 0, none⟩) 2 cP) ∧ w'.cell? ⟨gm, 5, none⟩ = some (.slice (some ⟨gR0, 0, none⟩) 2 cR) ∧ w'.cell? ⟨gP, 10, none⟩ = some (.slice (some ⟨gn, 0, none⟩) 2 cn) ∧ w'.cell? ⟨gR0, 5, none⟩ = some (.int .i64 2)) (go_keep) (fail)
  go_upto_region 53 with fail
  generalize hW2 : (W1.setCell ⟨gn, 1, none⟩ (.int .i64 (2 + (1 + X)))).drew = W2 at o2 hb2 hl2 ⊢
  clear hW2
  clear y0 y1 y2 y3 y4 y5 y6 y7 y8
  have hx2 := o2.has
  clear hX o I hbm HM
  go_wp2_with fail
  refine (lawNum _ _).mono ?_
  rintro e _ ⟨rfl, rfl⟩
  go_wp2_with fail
  refine (lawGood _).mono ?_
  rintro e w5 ⟨_, rfl, o5, l5⟩
  go_wp2_with fail
  refine (startMay _ goodM _ o5.has good_fit).mono ?_
  rw [good_may]
  rintro e w6 ⟨rfl, l6⟩
  obtain ⟨⟨y0, y1, y2, y3, y4⟩, y5, y6, y7, y8⟩ := (((hb2.le l5).le l6)).mach
  go_wp2_with fail
  refine (startMay _ (Lay.M (⟨gC, (some ⟨gR0, 0, none⟩, 2, cR), (some ⟨gP, 0, none⟩, 2, cP), (some ⟨gT, 0, none⟩, 4, cT), uH, [⟨gR, q0⟩, ⟨gR, q1⟩], [⟨gP0, v0, c0, l0⟩, ⟨⟨St.zero, [0, 2 + (1 + X)], [0, 2]⟩, v1, (some ⟨gn, 0, none⟩, 2, cn), l1⟩], [⟨gT0, b0, s0⟩, ⟨gT1, b1, s1⟩, ⟨gT2, b2, s2⟩, ⟨gT3, b3, s3⟩], gE⟩ : Lay)) _ ((hx2.le l5).le l6) hfit).mono ?_
  rw [hno]
  rintro e w7 ⟨rfl, l7⟩
  go_wp2_with fail
  go_ret
  exact ⟨rfl, ((hl2.trans l5).trans l6).trans l7⟩

end Go.Proofs.YtibleipfablniaaGreat

/-
  THE WALKS over the law StartForms: each kind of machine that may not be. Condition: that the numbers are ints. (Written by program: mksf.py.)
-/
namespace Go.Proofs.YtibleipfablniaaGreat
open Go.RowKit

set_option linter.unusedVariables false in
set_option maxRecDepth 8000 in
set_option maxHeartbeats 8000000 in
theorem lawSF11 (w : World) (which x X : Int) (hw : (IntKind.u64.wrap which).tmod 24 = 11) (hX : bits .and .i64 x 1023 = X) (X0 : 0 ≤ X) (X1 : X ≤ 1023) : Calls Tryz.prog 4 #[.int .i64 which, .int .i64 x] w fun e w' => e = .returned (.bool true) ∧ Le w w' := by
  go_enter Tryz.func4, Tryz.ntmps4
  go_wp2_with fail
  refine (lawAwake14 _).mono ?_
  rintro e w1 ⟨rfl, hl⟩
  go_wp2_with fail
  refine (lawGood _).mono ?_
  rintro e w2 ⟨_, rfl, ⟨L, rfl, HM, o1, ap⟩, l2⟩
  have hbm := Box.new w2 (cells9 L.c L.qR L.qP L.qT L.qH) 29
  have a1 := Le.alloc w2 (.cells (cells9 L.c L.qR L.qP L.qT L.qH) 29)
  go_upto_region 5 with fail
  generalize hW : w2.alloc (.cells (cells9 L.c L.qR L.qP L.qT L.qH) 29) = W1 at hbm a1 ⊢
  clear hW
  have hw1 := hl.size
  have I : MoI w1.heap.size w2.heap.size W1 L := ⟨hbm, l2.size, o1.le a1, ap⟩
  have hgm : w1.heap.size ≤ w2.heap.size := l2.size
  have hwgm : w.heap.size ≤ w2.heap.size := by omega
  generalize w2.heap.size = gm at hbm I hgm hwgm ⊢
  have l12 := l2.trans a1
  have hW1 : w1.heap.size ≤ W1.heap.size := l12.size
  replace hl := hl.trans l12
  clear l2 a1 o1 ap l12 hbm
  obtain ⟨r0, r1, p0, p1, t0, t1, t2, t3, gR0, cR, gP, cP, gT, cT, uH, rfl, hr, hp, ht⟩ := good_open I HM
  obtain ⟨_, q0⟩ := r0
  obtain ⟨_, q1⟩ := r1
  obtain ⟨_, v0, c0, l0⟩ := p0
  obtain ⟨_, v1, c1, l1⟩ := p1
  obtain ⟨_, b0, s0⟩ := t0
  obtain ⟨_, b1, s1⟩ := t1
  obtain ⟨_, b2, s2⟩ := t2
  obtain ⟨_, b3, s3⟩ := t3
  simp only at hr hp ht
  obtain ⟨rfl, rfl⟩ := hr
  obtain ⟨rfl, rfl⟩ := hp
  obtain ⟨rfl, rfl, rfl, rfl⟩ := ht
  have hbm := I.bo
  have o := I.own
  obtain ⟨⟨y0, y1, y2, y3, y4⟩, y5, y6, y7, y8⟩ := (hbm).mach
  simp only [slV] at y5 y6 y7
  obtain ⟨hgne, hglt, hgB, hat, hfz⟩ := I.repAt (i := 1) rfl (by show 1 < 2; decide)
  have x4 : W1.cell? ⟨gP, 10, none⟩ = some (slV c1) := hat.2.2.2.2.1
  have f4 : W1.frozen? ⟨gP, 10, none⟩ = false := hfz 10
  clear hat hfz
  obtain ⟨gn, cn, hqn, _, hgnB, hgnl, xn, fn⟩ := I.openC (i := 1) (k := 0) (by show 1 < 2; decide) (by show 0 < 2; decide)
  replace hqn : c1 = (some ⟨gn, 0, none⟩, 2, cn) := hqn
  have hon : Own W1 w1.heap.size (slV c1) [0, 0] := (o.iP ⟨gP1, v1, c1, l1⟩ (by simp)).2.1
  have hgnm : gm ≠ gn := fun e => hon.e.apart hbm (by decide) (by rw [hqn, e]; rfl)
  subst hqn
  replace xn : W1.cell? ⟨gn, 0, none⟩ = some (.int .i64 0) := xn
  simp only [slV] at x4
  have o2 : OwnsM (W1.setCell ⟨gn, 0, none⟩ (.int .i64 (-(1 + X)))) w1.heap.size (⟨gC, (some ⟨gR0, 0, none⟩, 2, cR), (some ⟨gP, 0, none⟩, 2, cP), (some ⟨gT, 0, none⟩, 4, cT), uH, [⟨gR, q0⟩, ⟨gR, q1⟩], [⟨gP0, v0, c0, l0⟩, ⟨⟨St.zero, [-(1 + X), 0], [0, 2]⟩, v1, (some ⟨gn, 0, none⟩, 2, cn), l1⟩], [⟨gT0, b0, s0⟩, ⟨gT1, b1, s1⟩, ⟨gT2, b2, s2⟩, ⟨gT3, b3, s3⟩], gE⟩ : Lay) := (I.setCu (i := 1) (k := 0) (v := -(1 + X)) (by show 1 < 2; decide) rfl (by show 0 < 2; decide)).own
  have hb2 : Box (W1.setCell ⟨gn, 0, none⟩ (.int .i64 (-(1 + X)))) gm (cells9 gC (some ⟨gR0, 0, none⟩, 2, cR) (some ⟨gP, 0, none⟩, 2, cP) (some ⟨gT, 0, none⟩, 4, cT) uH) 29 := hbm.other hgnm _ _
  have hl2 : Le w (W1.setCell ⟨gn, 0, none⟩ (.int .i64 (-(1 + X)))) := hl.set (by omega)
  have hfit : FitM (Lay.M (⟨gC, (some ⟨gR0, 0, none⟩, 2, cR), (some ⟨gP, 0, none⟩, 2, cP), (some ⟨gT, 0, none⟩, 4, cT), uH, [⟨gR, q0⟩, ⟨gR, q1⟩], [⟨gP0, v0, c0, l0⟩, ⟨⟨St.zero, [-(1 + X), 0], [0, 2]⟩, v1, (some ⟨gn, 0, none⟩, 2, cn), l1⟩], [⟨gT0, b0, s0⟩, ⟨gT1, b1, s1⟩, ⟨gT2, b2, s2⟩, ⟨gT3, b3, s3⟩], gE⟩ : Lay)) := fitB_fit (by rfl)
  have hno : mayM (Lay.M (⟨gC, (some ⟨gR0, 0, none⟩, 2, cR), (some ⟨gP, 0, none⟩, 2, cP), (some ⟨gT, 0, none⟩, 4, cT), uH, [⟨gR, q0⟩, ⟨gR, q1⟩], [⟨gP0, v0, c0, l0⟩, ⟨⟨St.zero, [-(1 + X), 0], [0, 2]⟩, v1, (some ⟨gn, 0, none⟩, 2, cn), l1⟩], [⟨gT0, b0, s0⟩, ⟨gT1, b1, s1⟩, ⟨gT2, b2, s2⟩, ⟨gT3, b3, s3⟩], gE⟩ : Lay)) = false := no_p (P := (⟨St.zero, [-(1 + X), 0], [0, 2]⟩ : Rp)) (show _ ∈ ([gP0, ⟨St.zero, [-(1 + X), 0], [0, 2]⟩] : List Rp) by simp) (by rw [← Bool.not_eq_true]; intro h; obtain ⟨_, _, h, _⟩ := repB_cases h; have k := (cursOK_at (k := 0) h (by show 0 < 2; decide)).1; change 0 ≤ -(1 + X) at k; omega)
  go_upto_region 53 with fail
  generalize hW2 : W1.setCell ⟨gn, 0, none⟩ (.int .i64 (-(1 + X))) = W2 at o2 hb2 hl2 ⊢
  clear hW2
  clear y0 y1 y2 y3 y4 y5 y6 y7 y8
  have hx2 := o2.has
  clear hX o I hbm HM
  go_wp2_with fail
  refine (lawNum _ _).mono ?_
  rintro e _ ⟨rfl, rfl⟩
  go_wp2_with fail
  refine (lawGood _).mono ?_
  rintro e w5 ⟨_, rfl, o5, l5⟩
  go_wp2_with fail
  refine (startMay _ goodM _ o5.has good_fit).mono ?_
  rw [good_may]
  rintro e w6 ⟨rfl, l6⟩
  obtain ⟨⟨y0, y1, y2, y3, y4⟩, y5, y6, y7, y8⟩ := (((hb2.le l5).le l6)).mach
  go_wp2_with fail
  refine (startMay _ (Lay.M (⟨gC, (some ⟨gR0, 0, none⟩, 2, cR), (some ⟨gP, 0, none⟩, 2, cP), (some ⟨gT, 0, none⟩, 4, cT), uH, [⟨gR, q0⟩, ⟨gR, q1⟩], [⟨gP0, v0, c0, l0⟩, ⟨⟨St.zero, [-(1 + X), 0], [0, 2]⟩, v1, (some ⟨gn, 0, none⟩, 2, cn), l1⟩], [⟨gT0, b0, s0⟩, ⟨gT1, b1, s1⟩, ⟨gT2, b2, s2⟩, ⟨gT3, b3, s3⟩], gE⟩ : Lay)) _ ((hx2.le l5).le l6) hfit).mono ?_
  rw [hno]
  rintro e w7 ⟨rfl, l7⟩
  go_wp2_with fail
  go_ret
  exact ⟨rfl, ((hl2.trans l5).trans l6).trans l7⟩

end Go.Proofs.YtibleipfablniaaGreat

/-
  THE WALKS over the law StartForms: each kind of machine that may not be. Condition: that the numbers are ints. (Written by program: mksf.py.)
-/
namespace Go.Proofs.YtibleipfablniaaGreat
open Go.RowKit

set_option linter.unusedVariables false in
set_option maxRecDepth 8000 in
set_option maxHeartbeats 8000000 in
theorem lawSF12 (w : World) (which x X : Int) (hw : (IntKind.u64.wrap which).tmod 24 = 12) (hX : bits .and .i64 x 1023 = X) (X0 : 0 ≤ X) (X1 : X ≤ 1023) : Calls Tryz.prog 4 #[.int .i64 which, .int .i64 x] w fun e w' => e = .returned (.bool true) ∧ Le w w' := by
  go_enter Tryz.func4, Tryz.ntmps4
  go_wp2_with fail
  refine (lawAwake14 _).mono ?_
  rintro e w1 ⟨rfl, hl⟩
  go_wp2_with fail
  refine (lawGood _).mono ?_
  rintro e w2 ⟨_, rfl, ⟨L, rfl, HM, o1, ap⟩, l2⟩
  have hbm := Box.new w2 (cells9 L.c L.qR L.qP L.qT L.qH) 29
  have a1 := Le.alloc w2 (.cells (cells9 L.c L.qR L.qP L.qT L.qH) 29)
  go_upto_region 5 with fail
  generalize hW : w2.alloc (.cells (cells9 L.c L.qR L.qP L.qT L.qH) 29) = W1 at hbm a1 ⊢
  clear hW
  have hw1 := hl.size
  have I : MoI w1.heap.size w2.heap.size W1 L := ⟨hbm, l2.size, o1.le a1, ap⟩
  have hgm : w1.heap.size ≤ w2.heap.size := l2.size
  have hwgm : w.heap.size ≤ w2.heap.size := by omega
  generalize w2.heap.size = gm at hbm I hgm hwgm ⊢
  have l12 := l2.trans a1
  have hW1 : w1.heap.size ≤ W1.heap.size := l12.size
  replace hl := hl.trans l12
  clear l2 a1 o1 ap l12 hbm
  obtain ⟨r0, r1, p0, p1, t0, t1, t2, t3, gR0, cR, gP, cP, gT, cT, uH, rfl, hr, hp, ht⟩ := good_open I HM
  obtain ⟨_, q0⟩ := r0
  obtain ⟨_, q1⟩ := r1
  obtain ⟨_, v0, c0, l0⟩ := p0
  obtain ⟨_, v1, c1, l1⟩ := p1
  obtain ⟨_, b0, s0⟩ := t0
  obtain ⟨_, b1, s1⟩ := t1
  obtain ⟨_, b2, s2⟩ := t2
  obtain ⟨_, b3, s3⟩ := t3
  simp only at hr hp ht
  obtain ⟨rfl, rfl⟩ := hr
  obtain ⟨rfl, rfl⟩ := hp
  obtain ⟨rfl, rfl, rfl, rfl⟩ := ht
  have hbm := I.bo
  have o := I.own
  obtain ⟨⟨y0, y1, y2, y3, y4⟩, y5, y6, y7, y8⟩ := (hbm).mach
  simp only [slV] at y5 y6 y7
  obtain ⟨hgne, hglt, hgB, hat, hfz⟩ := I.repAt (i := 1) rfl (by show 1 < 2; decide)
  have x5 : W1.cell? ⟨gP, 11, none⟩ = some (slV l1) := hat.2.2.2.2.2
  have f5 : W1.frozen? ⟨gP, 11, none⟩ = false := hfz 11
  clear hat hfz
  obtain ⟨gn, cn, hqn, _, hgnB, hgnl, xn, fn⟩ := I.openL (i := 1) (k := 0) (by show 1 < 2; decide) (by show 0 < 2; decide)
  replace hqn : l1 = (some ⟨gn, 0, none⟩, 2, cn) := hqn
  have hon : Own W1 w1.heap.size (slV l1) [0, 2] := (o.iP ⟨gP1, v1, c1, l1⟩ (by simp)).2.2
  have hgnm : gm ≠ gn := fun e => hon.e.apart hbm (by decide) (by rw [hqn, e]; rfl)
  subst hqn
  replace xn : W1.cell? ⟨gn, 0, none⟩ = some (.int .i64 0) := xn
  simp only [slV] at x5
  have o2 : OwnsM (W1.setCell ⟨gn, 0, none⟩ (.int .i64 (4 + (1 + X)))) w1.heap.size (⟨gC, (some ⟨gR0, 0, none⟩, 2, cR), (some ⟨gP, 0, none⟩, 2, cP), (some ⟨gT, 0, none⟩, 4, cT), uH, [⟨gR, q0⟩, ⟨gR, q1⟩], [⟨gP0, v0, c0, l0⟩, ⟨⟨St.zero, [0, 0], [4 + (1 + X), 2]⟩, v1, c1, (some ⟨gn, 0, none⟩, 2, cn)⟩], [⟨gT0, b0, s0⟩, ⟨gT1, b1, s1⟩, ⟨gT2, b2, s2⟩, ⟨gT3, b3, s3⟩], gE⟩ : Lay) := (I.setLk (i := 1) (k := 0) (v := 4 + (1 + X)) (by show 1 < 2; decide) rfl (by show 0 < 2; decide)).own
  have hb2 : Box (W1.setCell ⟨gn, 0, none⟩ (.int .i64 (4 + (1 + X)))) gm (cells9 gC (some ⟨gR0, 0, none⟩, 2, cR) (some ⟨gP, 0, none⟩, 2, cP) (some ⟨gT, 0, none⟩, 4, cT) uH) 29 := hbm.other hgnm _ _
  have hl2 : Le w (W1.setCell ⟨gn, 0, none⟩ (.int .i64 (4 + (1 + X)))) := hl.set (by omega)
  have hfit : FitM (Lay.M (⟨gC, (some ⟨gR0, 0, none⟩, 2, cR), (some ⟨gP, 0, none⟩, 2, cP), (some ⟨gT, 0, none⟩, 4, cT), uH, [⟨gR, q0⟩, ⟨gR, q1⟩], [⟨gP0, v0, c0, l0⟩, ⟨⟨St.zero, [0, 0], [4 + (1 + X), 2]⟩, v1, c1, (some ⟨gn, 0, none⟩, 2, cn)⟩], [⟨gT0, b0, s0⟩, ⟨gT1, b1, s1⟩, ⟨gT2, b2, s2⟩, ⟨gT3, b3, s3⟩], gE⟩ : Lay)) := fitB_fit (by rfl)
  have hno : mayM (Lay.M (⟨gC, (some ⟨gR0, 0, none⟩, 2, cR), (some ⟨gP, 0, none⟩, 2, cP), (some ⟨gT, 0, none⟩, 4, cT), uH, [⟨gR, q0⟩, ⟨gR, q1⟩], [⟨gP0, v0, c0, l0⟩, ⟨⟨St.zero, [0, 0], [4 + (1 + X), 2]⟩, v1, c1, (some ⟨gn, 0, none⟩, 2, cn)⟩], [⟨gT0, b0, s0⟩, ⟨gT1, b1, s1⟩, ⟨gT2, b2, s2⟩, ⟨gT3, b3, s3⟩], gE⟩ : Lay)) = false := no_p (P := (⟨St.zero, [0, 0], [4 + (1 + X), 2]⟩ : Rp)) (show _ ∈ ([gP0, ⟨St.zero, [0, 0], [4 + (1 + X), 2]⟩] : List Rp) by simp) (by rw [← Bool.not_eq_true]; intro h; obtain ⟨_, _, _, _, h⟩ := repB_cases h; have k := (h (4 + (1 + X)) (by simp)).2; change 4 + (1 + X) ≤ 4 at k; omega)
  go_upto_region 53 with fail
  generalize hW2 : W1.setCell ⟨gn, 0, none⟩ (.int .i64 (4 + (1 + X))) = W2 at o2 hb2 hl2 ⊢
  clear hW2
  clear y0 y1 y2 y3 y4 y5 y6 y7 y8
  have hx2 := o2.has
  clear hX o I hbm HM
  go_wp2_with fail
  refine (lawNum _ _).mono ?_
  rintro e _ ⟨rfl, rfl⟩
  go_wp2_with fail
  refine (lawGood _).mono ?_
  rintro e w5 ⟨_, rfl, o5, l5⟩
  go_wp2_with fail
  refine (startMay _ goodM _ o5.has good_fit).mono ?_
  rw [good_may]
  rintro e w6 ⟨rfl, l6⟩
  obtain ⟨⟨y0, y1, y2, y3, y4⟩, y5, y6, y7, y8⟩ := (((hb2.le l5).le l6)).mach
  go_wp2_with fail
  refine (startMay _ (Lay.M (⟨gC, (some ⟨gR0, 0, none⟩, 2, cR), (some ⟨gP, 0, none⟩, 2, cP), (some ⟨gT, 0, none⟩, 4, cT), uH, [⟨gR, q0⟩, ⟨gR, q1⟩], [⟨gP0, v0, c0, l0⟩, ⟨⟨St.zero, [0, 0], [4 + (1 + X), 2]⟩, v1, c1, (some ⟨gn, 0, none⟩, 2, cn)⟩], [⟨gT0, b0, s0⟩, ⟨gT1, b1, s1⟩, ⟨gT2, b2, s2⟩, ⟨gT3, b3, s3⟩], gE⟩ : Lay)) _ ((hx2.le l5).le l6) hfit).mono ?_
  rw [hno]
  rintro e w7 ⟨rfl, l7⟩
  go_wp2_with fail
  go_ret
  exact ⟨rfl, ((hl2.trans l5).trans l6).trans l7⟩

end Go.Proofs.YtibleipfablniaaGreat

/-
  THE WALKS over the law StartForms: each kind of machine that may not be. Condition: that the numbers are ints. (Written by program: mksf.py.)
-/
namespace Go.Proofs.YtibleipfablniaaGreat
open Go.RowKit

set_option linter.unusedVariables false in
set_option maxRecDepth 8000 in
set_option maxHeartbeats 8000000 in
theorem lawSF13 (w : World) (which x X : Int) (hw : (IntKind.u64.wrap which).tmod 24 = 13) (hX : bits .and .i64 x 1023 = X) (X0 : 0 ≤ X) (X1 : X ≤ 1023) : Calls Tryz.prog 4 #[.int .i64 which, .int .i64 x] w fun e w' => e = .returned (.bool true) ∧ Le w w' := by
  go_enter Tryz.func4, Tryz.ntmps4
  go_wp2_with fail
  refine (lawAwake14 _).mono ?_
  rintro e w1 ⟨rfl, hl⟩
  go_wp2_with fail
  refine (lawGood _).mono ?_
  rintro e w2 ⟨_, rfl, ⟨L, rfl, HM, o1, ap⟩, l2⟩
  have hbm := Box.new w2 (cells9 L.c L.qR L.qP L.qT L.qH) 29
  have a1 := Le.alloc w2 (.cells (cells9 L.c L.qR L.qP L.qT L.qH) 29)
  go_upto_region 5 with fail
  generalize hW : w2.alloc (.cells (cells9 L.c L.qR L.qP L.qT L.qH) 29) = W1 at hbm a1 ⊢
  clear hW
  have hw1 := hl.size
  have I : MoI w1.heap.size w2.heap.size W1 L := ⟨hbm, l2.size, o1.le a1, ap⟩
  have hgm : w1.heap.size ≤ w2.heap.size := l2.size
  have hwgm : w.heap.size ≤ w2.heap.size := by omega
  generalize w2.heap.size = gm at hbm I hgm hwgm ⊢
  have l12 := l2.trans a1
  have hW1 : w1.heap.size ≤ W1.heap.size := l12.size
  replace hl := hl.trans l12
  clear l2 a1 o1 ap l12 hbm
  obtain ⟨r0, r1, p0, p1, t0, t1, t2, t3, gR0, cR, gP, cP, gT, cT, uH, rfl, hr, hp, ht⟩ := good_open I HM
  obtain ⟨_, q0⟩ := r0
  obtain ⟨_, q1⟩ := r1
  obtain ⟨_, v0, c0, l0⟩ := p0
  obtain ⟨_, v1, c1, l1⟩ := p1
  obtain ⟨_, b0, s0⟩ := t0
  obtain ⟨_, b1, s1⟩ := t1
  obtain ⟨_, b2, s2⟩ := t2
  obtain ⟨_, b3, s3⟩ := t3
  simp only at hr hp ht
  obtain ⟨rfl, rfl⟩ := hr
  obtain ⟨rfl, rfl⟩ := hp
  obtain ⟨rfl, rfl, rfl, rfl⟩ := ht
  have hbm := I.bo
  have o := I.own
  obtain ⟨⟨y0, y1, y2, y3, y4⟩, y5, y6, y7, y8⟩ := (hbm).mach
  simp only [slV] at y5 y6 y7
  obtain ⟨hgne, hglt, hgB, hat, hfz⟩ := I.thAt (i := 2) rfl (by show 2 < 4; decide)
  have x0 : W1.cell? ⟨gT, 24, none⟩ = some (.int .i64 2) := hat.1
  have f0 : W1.frozen? ⟨gT, 24, none⟩ = false := hfz 24
  clear hat hfz
  have o2 : OwnsM (W1.setCell ⟨gT, 24, none⟩ (.int .i64 (19 + (1 + X)))) w1.heap.size (⟨gC, (some ⟨gR0, 0, none⟩, 2, cR), (some ⟨gP, 0, none⟩, 2, cP), (some ⟨gT, 0, none⟩, 4, cT), uH, [⟨gR, q0⟩, ⟨gR, q1⟩], [⟨gP0, v0, c0, l0⟩, ⟨gP1, v1, c1, l1⟩], [⟨gT0, b0, s0⟩, ⟨gT1, b1, s1⟩, ⟨⟨19 + (1 + X), 0, 2, 2, 0, 0, [], 0, false, false, 0, []⟩, b2, s2⟩, ⟨gT3, b3, s3⟩], gE⟩ : Lay) := o.setT (i := 2) (j := 0) (u := .int .i64 (19 + (1 + X))) rfl (by show 2 < 4; decide) (by decide) ⟨⟨19 + (1 + X), 0, 2, 2, 0, 0, [], 0, false, false, 0, []⟩, b2, s2⟩ rfl (o.iT ⟨gT2, b2, s2⟩ (by simp)).1 (o.iT ⟨gT2, b2, s2⟩ (by simp)).2
  have hb2 : Box (W1.setCell ⟨gT, 24, none⟩ (.int .i64 (19 + (1 + X)))) gm (cells9 gC (some ⟨gR0, 0, none⟩, 2, cR) (some ⟨gP, 0, none⟩, 2, cP) (some ⟨gT, 0, none⟩, 4, cT) uH) 29 := hbm.other hgne _ _
  have hl2 : Le w (W1.setCell ⟨gT, 24, none⟩ (.int .i64 (19 + (1 + X)))) := hl.set (by omega)
  have hfit : FitM (Lay.M (⟨gC, (some ⟨gR0, 0, none⟩, 2, cR), (some ⟨gP, 0, none⟩, 2, cP), (some ⟨gT, 0, none⟩, 4, cT), uH, [⟨gR, q0⟩, ⟨gR, q1⟩], [⟨gP0, v0, c0, l0⟩, ⟨gP1, v1, c1, l1⟩], [⟨gT0, b0, s0⟩, ⟨gT1, b1, s1⟩, ⟨⟨19 + (1 + X), 0, 2, 2, 0, 0, [], 0, false, false, 0, []⟩, b2, s2⟩, ⟨gT3, b3, s3⟩], gE⟩ : Lay)) := fitB_fit (by rfl)
  have hno : mayM (Lay.M (⟨gC, (some ⟨gR0, 0, none⟩, 2, cR), (some ⟨gP, 0, none⟩, 2, cP), (some ⟨gT, 0, none⟩, 4, cT), uH, [⟨gR, q0⟩, ⟨gR, q1⟩], [⟨gP0, v0, c0, l0⟩, ⟨gP1, v1, c1, l1⟩], [⟨gT0, b0, s0⟩, ⟨gT1, b1, s1⟩, ⟨⟨19 + (1 + X), 0, 2, 2, 0, 0, [], 0, false, false, 0, []⟩, b2, s2⟩, ⟨gT3, b3, s3⟩], gE⟩ : Lay)) = false := no_t (T := (⟨19 + (1 + X), 0, 2, 2, 0, 0, [], 0, false, false, 0, []⟩ : Th)) (show _ ∈ ([gT0, gT1, ⟨19 + (1 + X), 0, 2, 2, 0, 0, [], 0, false, false, 0, []⟩, gT3] : List Th) by simp) (by rw [← Bool.not_eq_true]; intro h; obtain ⟨⟨_, k⟩, _⟩ := thB_cases h; change 19 + (1 + X) ≤ 19 at k; omega)
  go_upto_region 53 with fail
  generalize hW2 : W1.setCell ⟨gT, 24, none⟩ (.int .i64 (19 + (1 + X))) = W2 at o2 hb2 hl2 ⊢
  clear hW2
  clear y0 y1 y2 y3 y4 y5 y6 y7 y8
  have hx2 := o2.has
  clear hX o I hbm HM
  go_wp2_with fail
  refine (lawNum _ _).mono ?_
  rintro e _ ⟨rfl, rfl⟩
  go_wp2_with fail
  refine (lawGood _).mono ?_
  rintro e w5 ⟨_, rfl, o5, l5⟩
  go_wp2_with fail
  refine (startMay _ goodM _ o5.has good_fit).mono ?_
  rw [good_may]
  rintro e w6 ⟨rfl, l6⟩
  obtain ⟨⟨y0, y1, y2, y3, y4⟩, y5, y6, y7, y8⟩ := (((hb2.le l5).le l6)).mach
  go_wp2_with fail
  refine (startMay _ (Lay.M (⟨gC, (some ⟨gR0, 0, none⟩, 2, cR), (some ⟨gP, 0, none⟩, 2, cP), (some ⟨gT, 0, none⟩, 4, cT), uH, [⟨gR, q0⟩, ⟨gR, q1⟩], [⟨gP0, v0, c0, l0⟩, ⟨gP1, v1, c1, l1⟩], [⟨gT0, b0, s0⟩, ⟨gT1, b1, s1⟩, ⟨⟨19 + (1 + X), 0, 2, 2, 0, 0, [], 0, false, false, 0, []⟩, b2, s2⟩, ⟨gT3, b3, s3⟩], gE⟩ : Lay)) _ ((hx2.le l5).le l6) hfit).mono ?_
  rw [hno]
  rintro e w7 ⟨rfl, l7⟩
  go_wp2_with fail
  go_ret
  exact ⟨rfl, ((hl2.trans l5).trans l6).trans l7⟩

end Go.Proofs.YtibleipfablniaaGreat

/-
  THE WALKS over the law StartForms: each kind of machine that may not be. Condition: that the numbers are ints. (Written by program: mksf.py.)
-/
namespace Go.Proofs.YtibleipfablniaaGreat
open Go.RowKit

set_option linter.unusedVariables false in
set_option maxRecDepth 8000 in
set_option maxHeartbeats 8000000 in
theorem lawSF14 (w : World) (which x X : Int) (hw : (IntKind.u64.wrap which).tmod 24 = 14) (hX : bits .and .i64 x 1023 = X) (X0 : 0 ≤ X) (X1 : X ≤ 1023) : Calls Tryz.prog 4 #[.int .i64 which, .int .i64 x] w fun e w' => e = .returned (.bool true) ∧ Le w w' := by
  go_enter Tryz.func4, Tryz.ntmps4
  go_wp2_with fail
  refine (lawAwake14 _).mono ?_
  rintro e w1 ⟨rfl, hl⟩
  go_wp2_with fail
  refine (lawGood _).mono ?_
  rintro e w2 ⟨_, rfl, ⟨L, rfl, HM, o1, ap⟩, l2⟩
  have hbm := Box.new w2 (cells9 L.c L.qR L.qP L.qT L.qH) 29
  have a1 := Le.alloc w2 (.cells (cells9 L.c L.qR L.qP L.qT L.qH) 29)
  go_upto_region 5 with fail
  generalize hW : w2.alloc (.cells (cells9 L.c L.qR L.qP L.qT L.qH) 29) = W1 at hbm a1 ⊢
  clear hW
  have hw1 := hl.size
  have I : MoI w1.heap.size w2.heap.size W1 L := ⟨hbm, l2.size, o1.le a1, ap⟩
  have hgm : w1.heap.size ≤ w2.heap.size := l2.size
  have hwgm : w.heap.size ≤ w2.heap.size := by omega
  generalize w2.heap.size = gm at hbm I hgm hwgm ⊢
  have l12 := l2.trans a1
  have hW1 : w1.heap.size ≤ W1.heap.size := l12.size
  replace hl := hl.trans l12
  clear l2 a1 o1 ap l12 hbm
  obtain ⟨r0, r1, p0, p1, t0, t1, t2, t3, gR0, cR, gP, cP, gT, cT, uH, rfl, hr, hp, ht⟩ := good_open I HM
  obtain ⟨_, q0⟩ := r0
  obtain ⟨_, q1⟩ := r1
  obtain ⟨_, v0, c0, l0⟩ := p0
  obtain ⟨_, v1, c1, l1⟩ := p1
  obtain ⟨_, b0, s0⟩ := t0
  obtain ⟨_, b1, s1⟩ := t1
  obtain ⟨_, b2, s2⟩ := t2
  obtain ⟨_, b3, s3⟩ := t3
  simp only at hr hp ht
  obtain ⟨rfl, rfl⟩ := hr
  obtain ⟨rfl, rfl⟩ := hp
  obtain ⟨rfl, rfl, rfl, rfl⟩ := ht
  have hbm := I.bo
  have o := I.own
  obtain ⟨⟨y0, y1, y2, y3, y4⟩, y5, y6, y7, y8⟩ := (hbm).mach
  simp only [slV] at y5 y6 y7
  obtain ⟨hgne, hglt, hgB, hat, hfz⟩ := I.thAt (i := 2) rfl (by show 2 < 4; decide)
  have x1 : W1.cell? ⟨gT, 25, none⟩ = some (.int .i64 0) := hat.2.1
  have f1 : W1.frozen? ⟨gT, 25, none⟩ = false := hfz 25
  clear hat hfz
  have o2 : OwnsM (W1.setCell ⟨gT, 25, none⟩ (.int .i64 (3 + (1 + X)))) w1.heap.size (⟨gC, (some ⟨gR0, 0, none⟩, 2, cR), (some ⟨gP, 0, none⟩, 2, cP), (some ⟨gT, 0, none⟩, 4, cT), uH, [⟨gR, q0⟩, ⟨gR, q1⟩], [⟨gP0, v0, c0, l0⟩, ⟨gP1, v1, c1, l1⟩], [⟨gT0, b0, s0⟩, ⟨gT1, b1, s1⟩, ⟨⟨2, 3 + (1 + X), 2, 2, 0, 0, [], 0, false, false, 0, []⟩, b2, s2⟩, ⟨gT3, b3, s3⟩], gE⟩ : Lay) := o.setT (i := 2) (j := 1) (u := .int .i64 (3 + (1 + X))) rfl (by show 2 < 4; decide) (by decide) ⟨⟨2, 3 + (1 + X), 2, 2, 0, 0, [], 0, false, false, 0, []⟩, b2, s2⟩ rfl (o.iT ⟨gT2, b2, s2⟩ (by simp)).1 (o.iT ⟨gT2, b2, s2⟩ (by simp)).2
  have hb2 : Box (W1.setCell ⟨gT, 25, none⟩ (.int .i64 (3 + (1 + X)))) gm (cells9 gC (some ⟨gR0, 0, none⟩, 2, cR) (some ⟨gP, 0, none⟩, 2, cP) (some ⟨gT, 0, none⟩, 4, cT) uH) 29 := hbm.other hgne _ _
  have hl2 : Le w (W1.setCell ⟨gT, 25, none⟩ (.int .i64 (3 + (1 + X)))) := hl.set (by omega)
  have hfit : FitM (Lay.M (⟨gC, (some ⟨gR0, 0, none⟩, 2, cR), (some ⟨gP, 0, none⟩, 2, cP), (some ⟨gT, 0, none⟩, 4, cT), uH, [⟨gR, q0⟩, ⟨gR, q1⟩], [⟨gP0, v0, c0, l0⟩, ⟨gP1, v1, c1, l1⟩], [⟨gT0, b0, s0⟩, ⟨gT1, b1, s1⟩, ⟨⟨2, 3 + (1 + X), 2, 2, 0, 0, [], 0, false, false, 0, []⟩, b2, s2⟩, ⟨gT3, b3, s3⟩], gE⟩ : Lay)) := fitB_fit (by rfl)
  have hno : mayM (Lay.M (⟨gC, (some ⟨gR0, 0, none⟩, 2, cR), (some ⟨gP, 0, none⟩, 2, cP), (some ⟨gT, 0, none⟩, 4, cT), uH, [⟨gR, q0⟩, ⟨gR, q1⟩], [⟨gP0, v0, c0, l0⟩, ⟨gP1, v1, c1, l1⟩], [⟨gT0, b0, s0⟩, ⟨gT1, b1, s1⟩, ⟨⟨2, 3 + (1 + X), 2, 2, 0, 0, [], 0, false, false, 0, []⟩, b2, s2⟩, ⟨gT3, b3, s3⟩], gE⟩ : Lay)) = false := no_t (T := (⟨2, 3 + (1 + X), 2, 2, 0, 0, [], 0, false, false, 0, []⟩ : Th)) (show _ ∈ ([gT0, gT1, ⟨2, 3 + (1 + X), 2, 2, 0, 0, [], 0, false, false, 0, []⟩, gT3] : List Th) by simp) (by rw [← Bool.not_eq_true]; intro h; obtain ⟨_, k, _⟩ := thB_cases h; change opMay (3 + (1 + X)) 2 2 = true at k; simp [opMay] at k; omega)
  go_upto_region 53 with fail
  generalize hW2 : W1.setCell ⟨gT, 25, none⟩ (.int .i64 (3 + (1 + X))) = W2 at o2 hb2 hl2 ⊢
  clear hW2
  clear y0 y1 y2 y3 y4 y5 y6 y7 y8
  have hx2 := o2.has
  clear hX o I hbm HM
  go_wp2_with fail
  refine (lawNum _ _).mono ?_
  rintro e _ ⟨rfl, rfl⟩
  go_wp2_with fail
  refine (lawGood _).mono ?_
  rintro e w5 ⟨_, rfl, o5, l5⟩
  go_wp2_with fail
  refine (startMay _ goodM _ o5.has good_fit).mono ?_
  rw [good_may]
  rintro e w6 ⟨rfl, l6⟩
  obtain ⟨⟨y0, y1, y2, y3, y4⟩, y5, y6, y7, y8⟩ := (((hb2.le l5).le l6)).mach
  go_wp2_with fail
  refine (startMay _ (Lay.M (⟨gC, (some ⟨gR0, 0, none⟩, 2, cR), (some ⟨gP, 0, none⟩, 2, cP), (some ⟨gT, 0, none⟩, 4, cT), uH, [⟨gR, q0⟩, ⟨gR, q1⟩], [⟨gP0, v0, c0, l0⟩, ⟨gP1, v1, c1, l1⟩], [⟨gT0, b0, s0⟩, ⟨gT1, b1, s1⟩, ⟨⟨2, 3 + (1 + X), 2, 2, 0, 0, [], 0, false, false, 0, []⟩, b2, s2⟩, ⟨gT3, b3, s3⟩], gE⟩ : Lay)) _ ((hx2.le l5).le l6) hfit).mono ?_
  rw [hno]
  rintro e w7 ⟨rfl, l7⟩
  go_wp2_with fail
  go_ret
  exact ⟨rfl, ((hl2.trans l5).trans l6).trans l7⟩

end Go.Proofs.YtibleipfablniaaGreat

/-
  THE WALKS over the law StartForms: each kind of machine that may not be. Condition: that the numbers are ints. (Written by program: mksf.py.)
-/
namespace Go.Proofs.YtibleipfablniaaGreat
open Go.RowKit

set_option linter.unusedVariables false in
set_option maxRecDepth 8000 in
set_option maxHeartbeats 8000000 in
theorem lawSF15 (w : World) (which x X : Int) (hw : (IntKind.u64.wrap which).tmod 24 = 15) (hX : bits .and .i64 x 1023 = X) (X0 : 0 ≤ X) (X1 : X ≤ 1023) : Calls Tryz.prog 4 #[.int .i64 which, .int .i64 x] w fun e w' => e = .returned (.bool true) ∧ Le w w' := by
  go_enter Tryz.func4, Tryz.ntmps4
  go_wp2_with fail
  refine (lawAwake14 _).mono ?_
  rintro e w1 ⟨rfl, hl⟩
  go_wp2_with fail
  refine (lawGood _).mono ?_
  rintro e w2 ⟨_, rfl, ⟨L, rfl, HM, o1, ap⟩, l2⟩
  have hbm := Box.new w2 (cells9 L.c L.qR L.qP L.qT L.qH) 29
  have a1 := Le.alloc w2 (.cells (cells9 L.c L.qR L.qP L.qT L.qH) 29)
  go_upto_region 5 with fail
  generalize hW : w2.alloc (.cells (cells9 L.c L.qR L.qP L.qT L.qH) 29) = W1 at hbm a1 ⊢
  clear hW
  have hw1 := hl.size
  have I : MoI w1.heap.size w2.heap.size W1 L := ⟨hbm, l2.size, o1.le a1, ap⟩
  have hgm : w1.heap.size ≤ w2.heap.size := l2.size
  have hwgm : w.heap.size ≤ w2.heap.size := by omega
  generalize w2.heap.size = gm at hbm I hgm hwgm ⊢
  have l12 := l2.trans a1
  have hW1 : w1.heap.size ≤ W1.heap.size := l12.size
  replace hl := hl.trans l12
  clear l2 a1 o1 ap l12 hbm
  obtain ⟨r0, r1, p0, p1, t0, t1, t2, t3, gR0, cR, gP, cP, gT, cT, uH, rfl, hr, hp, ht⟩ := good_open I HM
  obtain ⟨_, q0⟩ := r0
  obtain ⟨_, q1⟩ := r1
  obtain ⟨_, v0, c0, l0⟩ := p0
  obtain ⟨_, v1, c1, l1⟩ := p1
  obtain ⟨_, b0, s0⟩ := t0
  obtain ⟨_, b1, s1⟩ := t1
  obtain ⟨_, b2, s2⟩ := t2
  obtain ⟨_, b3, s3⟩ := t3
  simp only at hr hp ht
  obtain ⟨rfl, rfl⟩ := hr
  obtain ⟨rfl, rfl⟩ := hp
  obtain ⟨rfl, rfl, rfl, rfl⟩ := ht
  have hbm := I.bo
  have o := I.own
  obtain ⟨⟨y0, y1, y2, y3, y4⟩, y5, y6, y7, y8⟩ := (hbm).mach
  simp only [slV] at y5 y6 y7
  obtain ⟨hgne, hglt, hgB, hat, hfz⟩ := I.thAt (i := 2) rfl (by show 2 < 4; decide)
  have x4 : W1.cell? ⟨gT, 28, none⟩ = some (.int .i64 0) := hat.2.2.2.2.1
  have f4 : W1.frozen? ⟨gT, 28, none⟩ = false := hfz 28
  clear hat hfz
  have o2 : OwnsM (W1.setCell ⟨gT, 28, none⟩ (.int .i64 (1 + (1 + X)))) w1.heap.size (⟨gC, (some ⟨gR0, 0, none⟩, 2, cR), (some ⟨gP, 0, none⟩, 2, cP), (some ⟨gT, 0, none⟩, 4, cT), uH, [⟨gR, q0⟩, ⟨gR, q1⟩], [⟨gP0, v0, c0, l0⟩, ⟨gP1, v1, c1, l1⟩], [⟨gT0, b0, s0⟩, ⟨gT1, b1, s1⟩, ⟨⟨2, 0, 2, 2, 1 + (1 + X), 0, [], 0, false, false, 0, []⟩, b2, s2⟩, ⟨gT3, b3, s3⟩], gE⟩ : Lay) := o.setT (i := 2) (j := 4) (u := .int .i64 (1 + (1 + X))) rfl (by show 2 < 4; decide) (by decide) ⟨⟨2, 0, 2, 2, 1 + (1 + X), 0, [], 0, false, false, 0, []⟩, b2, s2⟩ rfl (o.iT ⟨gT2, b2, s2⟩ (by simp)).1 (o.iT ⟨gT2, b2, s2⟩ (by simp)).2
  have hb2 : Box (W1.setCell ⟨gT, 28, none⟩ (.int .i64 (1 + (1 + X)))) gm (cells9 gC (some ⟨gR0, 0, none⟩, 2, cR) (some ⟨gP, 0, none⟩, 2, cP) (some ⟨gT, 0, none⟩, 4, cT) uH) 29 := hbm.other hgne _ _
  have hl2 : Le w (W1.setCell ⟨gT, 28, none⟩ (.int .i64 (1 + (1 + X)))) := hl.set (by omega)
  have hfit : FitM (Lay.M (⟨gC, (some ⟨gR0, 0, none⟩, 2, cR), (some ⟨gP, 0, none⟩, 2, cP), (some ⟨gT, 0, none⟩, 4, cT), uH, [⟨gR, q0⟩, ⟨gR, q1⟩], [⟨gP0, v0, c0, l0⟩, ⟨gP1, v1, c1, l1⟩], [⟨gT0, b0, s0⟩, ⟨gT1, b1, s1⟩, ⟨⟨2, 0, 2, 2, 1 + (1 + X), 0, [], 0, false, false, 0, []⟩, b2, s2⟩, ⟨gT3, b3, s3⟩], gE⟩ : Lay)) := fitB_fit (by rfl)
  have hno : mayM (Lay.M (⟨gC, (some ⟨gR0, 0, none⟩, 2, cR), (some ⟨gP, 0, none⟩, 2, cP), (some ⟨gT, 0, none⟩, 4, cT), uH, [⟨gR, q0⟩, ⟨gR, q1⟩], [⟨gP0, v0, c0, l0⟩, ⟨gP1, v1, c1, l1⟩], [⟨gT0, b0, s0⟩, ⟨gT1, b1, s1⟩, ⟨⟨2, 0, 2, 2, 1 + (1 + X), 0, [], 0, false, false, 0, []⟩, b2, s2⟩, ⟨gT3, b3, s3⟩], gE⟩ : Lay)) = false := no_t (T := (⟨2, 0, 2, 2, 1 + (1 + X), 0, [], 0, false, false, 0, []⟩ : Th)) (show _ ∈ ([gT0, gT1, ⟨2, 0, 2, 2, 1 + (1 + X), 0, [], 0, false, false, 0, []⟩, gT3] : List Th) by simp) (by rw [← Bool.not_eq_true]; intro h; obtain ⟨_, _, ⟨_, k⟩, _⟩ := thB_cases h; change 1 + (1 + X) ≤ 2 - 1 at k; omega)
  go_upto_region 53 with fail
  generalize hW2 : W1.setCell ⟨gT, 28, none⟩ (.int .i64 (1 + (1 + X))) = W2 at o2 hb2 hl2 ⊢
  clear hW2
  clear y0 y1 y2 y3 y4 y5 y6 y7 y8
  have hx2 := o2.has
  clear hX o I hbm HM
  go_wp2_with fail
  refine (lawNum _ _).mono ?_
  rintro e _ ⟨rfl, rfl⟩
  go_wp2_with fail
  refine (lawGood _).mono ?_
  rintro e w5 ⟨_, rfl, o5, l5⟩
  go_wp2_with fail
  refine (startMay _ goodM _ o5.has good_fit).mono ?_
  rw [good_may]
  rintro e w6 ⟨rfl, l6⟩
  obtain ⟨⟨y0, y1, y2, y3, y4⟩, y5, y6, y7, y8⟩ := (((hb2.le l5).le l6)).mach
  go_wp2_with fail
  refine (startMay _ (Lay.M (⟨gC, (some ⟨gR0, 0, none⟩, 2, cR), (some ⟨gP, 0, none⟩, 2, cP), (some ⟨gT, 0, none⟩, 4, cT), uH, [⟨gR, q0⟩, ⟨gR, q1⟩], [⟨gP0, v0, c0, l0⟩, ⟨gP1, v1, c1, l1⟩], [⟨gT0, b0, s0⟩, ⟨gT1, b1, s1⟩, ⟨⟨2, 0, 2, 2, 1 + (1 + X), 0, [], 0, false, false, 0, []⟩, b2, s2⟩, ⟨gT3, b3, s3⟩], gE⟩ : Lay)) _ ((hx2.le l5).le l6) hfit).mono ?_
  rw [hno]
  rintro e w7 ⟨rfl, l7⟩
  go_wp2_with fail
  go_ret
  exact ⟨rfl, ((hl2.trans l5).trans l6).trans l7⟩

end Go.Proofs.YtibleipfablniaaGreat

/-
  THE WALKS over the law StartForms: each kind of machine that may not be. Condition: that the numbers are ints. (Written by program: mksf.py.)
-/
namespace Go.Proofs.YtibleipfablniaaGreat
open Go.RowKit

set_option linter.unusedVariables false in
set_option maxRecDepth 8000 in
set_option maxHeartbeats 8000000 in
theorem lawSF16 (w : World) (which x X : Int) (hw : (IntKind.u64.wrap which).tmod 24 = 16) (hX : bits .and .i64 x 1023 = X) (X0 : 0 ≤ X) (X1 : X ≤ 1023) : Calls Tryz.prog 4 #[.int .i64 which, .int .i64 x] w fun e w' => e = .returned (.bool true) ∧ Le w w' := by
  go_enter Tryz.func4, Tryz.ntmps4
  go_wp2_with fail
  refine (lawAwake14 _).mono ?_
  rintro e w1 ⟨rfl, hl⟩
  go_wp2_with fail
  refine (lawGood _).mono ?_
  rintro e w2 ⟨_, rfl, ⟨L, rfl, HM, o1, ap⟩, l2⟩
  have hbm := Box.new w2 (cells9 L.c L.qR L.qP L.qT L.qH) 29
  have a1 := Le.alloc w2 (.cells (cells9 L.c L.qR L.qP L.qT L.qH) 29)
  go_upto_region 5 with fail
  generalize hW : w2.alloc (.cells (cells9 L.c L.qR L.qP L.qT L.qH) 29) = W1 at hbm a1 ⊢
  clear hW
  have hw1 := hl.size
  have I : MoI w1.heap.size w2.heap.size W1 L := ⟨hbm, l2.size, o1.le a1, ap⟩
  have hgm : w1.heap.size ≤ w2.heap.size := l2.size
  have hwgm : w.heap.size ≤ w2.heap.size := by omega
  generalize w2.heap.size = gm at hbm I hgm hwgm ⊢
  have l12 := l2.trans a1
  have hW1 : w1.heap.size ≤ W1.heap.size := l12.size
  replace hl := hl.trans l12
  clear l2 a1 o1 ap l12 hbm
  obtain ⟨r0, r1, p0, p1, t0, t1, t2, t3, gR0, cR, gP, cP, gT, cT, uH, rfl, hr, hp, ht⟩ := good_open I HM
  obtain ⟨_, q0⟩ := r0
  obtain ⟨_, q1⟩ := r1
  obtain ⟨_, v0, c0, l0⟩ := p0
  obtain ⟨_, v1, c1, l1⟩ := p1
  obtain ⟨_, b0, s0⟩ := t0
  obtain ⟨_, b1, s1⟩ := t1
  obtain ⟨_, b2, s2⟩ := t2
  obtain ⟨_, b3, s3⟩ := t3
  simp only at hr hp ht
  obtain ⟨rfl, rfl⟩ := hr
  obtain ⟨rfl, rfl⟩ := hp
  obtain ⟨rfl, rfl, rfl, rfl⟩ := ht
  have hbm := I.bo
  have o := I.own
  obtain ⟨⟨y0, y1, y2, y3, y4⟩, y5, y6, y7, y8⟩ := (hbm).mach
  simp only [slV] at y5 y6 y7
  obtain ⟨hgne, hglt, hgB, hat, hfz⟩ := I.thAt (i := 2) rfl (by show 2 < 4; decide)
  have x5 : W1.cell? ⟨gT, 29, none⟩ = some (.int .i64 0) := hat.2.2.2.2.2.1
  have f5 : W1.frozen? ⟨gT, 29, none⟩ = false := hfz 29
  clear hat hfz
  have o2 : OwnsM (W1.setCell ⟨gT, 29, none⟩ (.int .i64 (-(1 + X)))) w1.heap.size (⟨gC, (some ⟨gR0, 0, none⟩, 2, cR), (some ⟨gP, 0, none⟩, 2, cP), (some ⟨gT, 0, none⟩, 4, cT), uH, [⟨gR, q0⟩, ⟨gR, q1⟩], [⟨gP0, v0, c0, l0⟩, ⟨gP1, v1, c1, l1⟩], [⟨gT0, b0, s0⟩, ⟨gT1, b1, s1⟩, ⟨⟨2, 0, 2, 2, 0, -(1 + X), [], 0, false, false, 0, []⟩, b2, s2⟩, ⟨gT3, b3, s3⟩], gE⟩ : Lay) := o.setT (i := 2) (j := 5) (u := .int .i64 (-(1 + X))) rfl (by show 2 < 4; decide) (by decide) ⟨⟨2, 0, 2, 2, 0, -(1 + X), [], 0, false, false, 0, []⟩, b2, s2⟩ rfl (o.iT ⟨gT2, b2, s2⟩ (by simp)).1 (o.iT ⟨gT2, b2, s2⟩ (by simp)).2
  have hb2 : Box (W1.setCell ⟨gT, 29, none⟩ (.int .i64 (-(1 + X)))) gm (cells9 gC (some ⟨gR0, 0, none⟩, 2, cR) (some ⟨gP, 0, none⟩, 2, cP) (some ⟨gT, 0, none⟩, 4, cT) uH) 29 := hbm.other hgne _ _
  have hl2 : Le w (W1.setCell ⟨gT, 29, none⟩ (.int .i64 (-(1 + X)))) := hl.set (by omega)
  have hfit : FitM (Lay.M (⟨gC, (some ⟨gR0, 0, none⟩, 2, cR), (some ⟨gP, 0, none⟩, 2, cP), (some ⟨gT, 0, none⟩, 4, cT), uH, [⟨gR, q0⟩, ⟨gR, q1⟩], [⟨gP0, v0, c0, l0⟩, ⟨gP1, v1, c1, l1⟩], [⟨gT0, b0, s0⟩, ⟨gT1, b1, s1⟩, ⟨⟨2, 0, 2, 2, 0, -(1 + X), [], 0, false, false, 0, []⟩, b2, s2⟩, ⟨gT3, b3, s3⟩], gE⟩ : Lay)) := fitB_fit (by rfl)
  have hno : mayM (Lay.M (⟨gC, (some ⟨gR0, 0, none⟩, 2, cR), (some ⟨gP, 0, none⟩, 2, cP), (some ⟨gT, 0, none⟩, 4, cT), uH, [⟨gR, q0⟩, ⟨gR, q1⟩], [⟨gP0, v0, c0, l0⟩, ⟨gP1, v1, c1, l1⟩], [⟨gT0, b0, s0⟩, ⟨gT1, b1, s1⟩, ⟨⟨2, 0, 2, 2, 0, -(1 + X), [], 0, false, false, 0, []⟩, b2, s2⟩, ⟨gT3, b3, s3⟩], gE⟩ : Lay)) = false := no_t (T := (⟨2, 0, 2, 2, 0, -(1 + X), [], 0, false, false, 0, []⟩ : Th)) (show _ ∈ ([gT0, gT1, ⟨2, 0, 2, 2, 0, -(1 + X), [], 0, false, false, 0, []⟩, gT3] : List Th) by simp) (by rw [← Bool.not_eq_true]; intro h; obtain ⟨_, _, _, ⟨k, _⟩, _⟩ := thB_cases h; change 0 ≤ -(1 + X) at k; omega)
  go_upto_region 53 with fail
  generalize hW2 : W1.setCell ⟨gT, 29, none⟩ (.int .i64 (-(1 + X))) = W2 at o2 hb2 hl2 ⊢
  clear hW2
  clear y0 y1 y2 y3 y4 y5 y6 y7 y8
  have hx2 := o2.has
  clear hX o I hbm HM
  go_wp2_with fail
  refine (lawNum _ _).mono ?_
  rintro e _ ⟨rfl, rfl⟩
  go_wp2_with fail
  refine (lawGood _).mono ?_
  rintro e w5 ⟨_, rfl, o5, l5⟩
  go_wp2_with fail
  refine (startMay _ goodM _ o5.has good_fit).mono ?_
  rw [good_may]
  rintro e w6 ⟨rfl, l6⟩
  obtain ⟨⟨y0, y1, y2, y3, y4⟩, y5, y6, y7, y8⟩ := (((hb2.le l5).le l6)).mach
  go_wp2_with fail
  refine (startMay _ (Lay.M (⟨gC, (some ⟨gR0, 0, none⟩, 2, cR), (some ⟨gP, 0, none⟩, 2, cP), (some ⟨gT, 0, none⟩, 4, cT), uH, [⟨gR, q0⟩, ⟨gR, q1⟩], [⟨gP0, v0, c0, l0⟩, ⟨gP1, v1, c1, l1⟩], [⟨gT0, b0, s0⟩, ⟨gT1, b1, s1⟩, ⟨⟨2, 0, 2, 2, 0, -(1 + X), [], 0, false, false, 0, []⟩, b2, s2⟩, ⟨gT3, b3, s3⟩], gE⟩ : Lay)) _ ((hx2.le l5).le l6) hfit).mono ?_
  rw [hno]
  rintro e w7 ⟨rfl, l7⟩
  go_wp2_with fail
  go_ret
  exact ⟨rfl, ((hl2.trans l5).trans l6).trans l7⟩

end Go.Proofs.YtibleipfablniaaGreat

/-
  THE WALKS over the law StartForms: each kind of machine that may not be. Condition: that the numbers are ints. (Written by program: mksf.py.)
-/
namespace Go.Proofs.YtibleipfablniaaGreat
open Go.RowKit

set_option linter.unusedVariables false in
set_option maxRecDepth 8000 in
set_option maxHeartbeats 8000000 in
theorem lawSF17 (w : World) (which x X : Int) (hw : (IntKind.u64.wrap which).tmod 24 = 17) (hX : bits .and .i64 x 1023 = X) (X0 : 0 ≤ X) (X1 : X ≤ 1023) : Calls Tryz.prog 4 #[.int .i64 which, .int .i64 x] w fun e w' => e = .returned (.bool true) ∧ Le w w' := by
  go_enter Tryz.func4, Tryz.ntmps4
  go_wp2_with fail
  refine (lawAwake14 _).mono ?_
  rintro e w1 ⟨rfl, hl⟩
  go_wp2_with fail
  refine (lawGood _).mono ?_
  rintro e w2 ⟨_, rfl, ⟨L, rfl, HM, o1, ap⟩, l2⟩
  have hbm := Box.new w2 (cells9 L.c L.qR L.qP L.qT L.qH) 29
  have a1 := Le.alloc w2 (.cells (cells9 L.c L.qR L.qP L.qT L.qH) 29)
  go_upto_region 5 with fail
  generalize hW : w2.alloc (.cells (cells9 L.c L.qR L.qP L.qT L.qH) 29) = W1 at hbm a1 ⊢
  clear hW
  have hw1 := hl.size
  have I : MoI w1.heap.size w2.heap.size W1 L := ⟨hbm, l2.size, o1.le a1, ap⟩
  have hgm : w1.heap.size ≤ w2.heap.size := l2.size
  have hwgm : w.heap.size ≤ w2.heap.size := by omega
  generalize w2.heap.size = gm at hbm I hgm hwgm ⊢
  have l12 := l2.trans a1
  have hW1 : w1.heap.size ≤ W1.heap.size := l12.size
  replace hl := hl.trans l12
  clear l2 a1 o1 ap l12 hbm
  obtain ⟨r0, r1, p0, p1, t0, t1, t2, t3, gR0, cR, gP, cP, gT, cT, uH, rfl, hr, hp, ht⟩ := good_open I HM
  obtain ⟨_, q0⟩ := r0
  obtain ⟨_, q1⟩ := r1
  obtain ⟨_, v0, c0, l0⟩ := p0
  obtain ⟨_, v1, c1, l1⟩ := p1
  obtain ⟨_, b0, s0⟩ := t0
  obtain ⟨_, b1, s1⟩ := t1
  obtain ⟨_, b2, s2⟩ := t2
  obtain ⟨_, b3, s3⟩ := t3
  simp only at hr hp ht
  obtain ⟨rfl, rfl⟩ := hr
  obtain ⟨rfl, rfl⟩ := hp
  obtain ⟨rfl, rfl, rfl, rfl⟩ := ht
  have hbm := I.bo
  have o := I.own
  obtain ⟨⟨y0, y1, y2, y3, y4⟩, y5, y6, y7, y8⟩ := (hbm).mach
  simp only [slV] at y5 y6 y7
  obtain ⟨hgne, hglt, hgB, hat, hfz⟩ := I.thAt (i := 2) rfl (by show 2 < 4; decide)
  have x6 : W1.cell? ⟨gT, 30, none⟩ = some (slV b2) := hat.2.2.2.2.2.2.1
  have f6 : W1.frozen? ⟨gT, 30, none⟩ = false := hfz 30
  clear hat hfz
  have hA := Le.alloc W1 (.cells #[.int .i64 0, .int .i64 0, .int .i64 0, .int .i64 0, .int .i64 0] 3)
  have hlit : Own (W1.alloc (.cells #[.int .i64 0, .int .i64 0, .int .i64 0, .int .i64 0, .int .i64 0] 3)) w1.heap.size (slV (some ⟨W1.heap.size, 0, none⟩, 5, 5)) [0, 0, 0, 0, 0] := Own.lit W1 w1.heap.size hW1 [0, 0, 0, 0, 0] (by simp)
  have o2 : OwnsM ((W1.alloc (.cells #[.int .i64 0, .int .i64 0, .int .i64 0, .int .i64 0, .int .i64 0] 3)).setCell ⟨gT, 30, none⟩ (slV (some ⟨W1.heap.size, 0, none⟩, 5, 5))) w1.heap.size (⟨gC, (some ⟨gR0, 0, none⟩, 2, cR), (some ⟨gP, 0, none⟩, 2, cP), (some ⟨gT, 0, none⟩, 4, cT), uH, [⟨gR, q0⟩, ⟨gR, q1⟩], [⟨gP0, v0, c0, l0⟩, ⟨gP1, v1, c1, l1⟩], [⟨gT0, b0, s0⟩, ⟨gT1, b1, s1⟩, ⟨⟨2, 0, 2, 2, 0, 0, [0, 0, 0, 0, 0], 0, false, false, 0, []⟩, (some ⟨W1.heap.size, 0, none⟩, 5, 5), s2⟩, ⟨gT3, b3, s3⟩], gE⟩ : Lay) := (o.le hA).setT (i := 2) (j := 6) (u := slV (some ⟨W1.heap.size, 0, none⟩, 5, 5)) rfl (by show 2 < 4; decide) (by decide) ⟨⟨2, 0, 2, 2, 0, 0, [0, 0, 0, 0, 0], 0, false, false, 0, []⟩, (some ⟨W1.heap.size, 0, none⟩, 5, 5), s2⟩ rfl hlit ((o.le hA).iT ⟨gT2, b2, s2⟩ (by simp)).2
  have hb2 : Box ((W1.alloc (.cells #[.int .i64 0, .int .i64 0, .int .i64 0, .int .i64 0, .int .i64 0] 3)).setCell ⟨gT, 30, none⟩ (slV (some ⟨W1.heap.size, 0, none⟩, 5, 5))) gm (cells9 gC (some ⟨gR0, 0, none⟩, 2, cR) (some ⟨gP, 0, none⟩, 2, cP) (some ⟨gT, 0, none⟩, 4, cT) uH) 29 := (hbm.le hA).other hgne _ _
  have hl2 : Le w ((W1.alloc (.cells #[.int .i64 0, .int .i64 0, .int .i64 0, .int .i64 0, .int .i64 0] 3)).setCell ⟨gT, 30, none⟩ (slV (some ⟨W1.heap.size, 0, none⟩, 5, 5))) := (hl.trans hA).set (by omega)
  have hfit : FitM (Lay.M (⟨gC, (some ⟨gR0, 0, none⟩, 2, cR), (some ⟨gP, 0, none⟩, 2, cP), (some ⟨gT, 0, none⟩, 4, cT), uH, [⟨gR, q0⟩, ⟨gR, q1⟩], [⟨gP0, v0, c0, l0⟩, ⟨gP1, v1, c1, l1⟩], [⟨gT0, b0, s0⟩, ⟨gT1, b1, s1⟩, ⟨⟨2, 0, 2, 2, 0, 0, [0, 0, 0, 0, 0], 0, false, false, 0, []⟩, (some ⟨W1.heap.size, 0, none⟩, 5, 5), s2⟩, ⟨gT3, b3, s3⟩], gE⟩ : Lay)) := fitB_fit (by rfl)
  have hno : mayM (Lay.M (⟨gC, (some ⟨gR0, 0, none⟩, 2, cR), (some ⟨gP, 0, none⟩, 2, cP), (some ⟨gT, 0, none⟩, 4, cT), uH, [⟨gR, q0⟩, ⟨gR, q1⟩], [⟨gP0, v0, c0, l0⟩, ⟨gP1, v1, c1, l1⟩], [⟨gT0, b0, s0⟩, ⟨gT1, b1, s1⟩, ⟨⟨2, 0, 2, 2, 0, 0, [0, 0, 0, 0, 0], 0, false, false, 0, []⟩, (some ⟨W1.heap.size, 0, none⟩, 5, 5), s2⟩, ⟨gT3, b3, s3⟩], gE⟩ : Lay)) = false := no_t (T := (⟨2, 0, 2, 2, 0, 0, [0, 0, 0, 0, 0], 0, false, false, 0, []⟩ : Th)) (show _ ∈ ([gT0, gT1, ⟨2, 0, 2, 2, 0, 0, [0, 0, 0, 0, 0], 0, false, false, 0, []⟩, gT3] : List Th) by simp) (by rw [← Bool.not_eq_true]; intro h; obtain ⟨_, _, _, _, k, _⟩ := thB_cases h; change (5 : Int) ≤ 4 at k; omega)
  rw [World.setCell_alloc_past _ _ _ _ hglt] at o2 hb2 hl2
  go_upto_region 53 with fail
  generalize hW2 : (W1.setCell ⟨gT, 30, none⟩ (slV (some ⟨W1.heap.size, 0, none⟩, 5, 5))).alloc (.cells #[.int .i64 0, .int .i64 0, .int .i64 0, .int .i64 0, .int .i64 0] 3) = W2 at o2 hb2 hl2 ⊢
  clear hW2
  clear y0 y1 y2 y3 y4 y5 y6 y7 y8
  have hx2 := o2.has
  clear hX o I hbm HM
  go_wp2_with fail
  refine (lawNum _ _).mono ?_
  rintro e _ ⟨rfl, rfl⟩
  go_wp2_with fail
  refine (lawGood _).mono ?_
  rintro e w5 ⟨_, rfl, o5, l5⟩
  go_wp2_with fail
  refine (startMay _ goodM _ o5.has good_fit).mono ?_
  rw [good_may]
  rintro e w6 ⟨rfl, l6⟩
  obtain ⟨⟨y0, y1, y2, y3, y4⟩, y5, y6, y7, y8⟩ := (((hb2.le l5).le l6)).mach
  go_wp2_with fail
  refine (startMay _ (Lay.M (⟨gC, (some ⟨gR0, 0, none⟩, 2, cR), (some ⟨gP, 0, none⟩, 2, cP), (some ⟨gT, 0, none⟩, 4, cT), uH, [⟨gR, q0⟩, ⟨gR, q1⟩], [⟨gP0, v0, c0, l0⟩, ⟨gP1, v1, c1, l1⟩], [⟨gT0, b0, s0⟩, ⟨gT1, b1, s1⟩, ⟨⟨2, 0, 2, 2, 0, 0, [0, 0, 0, 0, 0], 0, false, false, 0, []⟩, (some ⟨W1.heap.size, 0, none⟩, 5, 5), s2⟩, ⟨gT3, b3, s3⟩], gE⟩ : Lay)) _ ((hx2.le l5).le l6) hfit).mono ?_
  rw [hno]
  rintro e w7 ⟨rfl, l7⟩
  go_wp2_with fail
  go_ret
  exact ⟨rfl, ((hl2.trans l5).trans l6).trans l7⟩

end Go.Proofs.YtibleipfablniaaGreat

/-
  THE WALKS over the law StartForms: each kind of machine that may not be. Condition: that the numbers are ints. (Written by program: mksf.py.)
-/
namespace Go.Proofs.YtibleipfablniaaGreat
open Go.RowKit

set_option linter.unusedVariables false in
set_option maxRecDepth 8000 in
set_option maxHeartbeats 8000000 in
theorem lawSF18 (w : World) (which x X : Int) (hw : (IntKind.u64.wrap which).tmod 24 = 18) (hX : bits .and .i64 x 1023 = X) (X0 : 0 ≤ X) (X1 : X ≤ 1023) : Calls Tryz.prog 4 #[.int .i64 which, .int .i64 x] w fun e w' => e = .returned (.bool true) ∧ Le w w' := by
  go_enter Tryz.func4, Tryz.ntmps4
  go_wp2_with fail
  refine (lawAwake14 _).mono ?_
  rintro e w1 ⟨rfl, hl⟩
  go_wp2_with fail
  refine (lawGood _).mono ?_
  rintro e w2 ⟨_, rfl, ⟨L, rfl, HM, o1, ap⟩, l2⟩
  have hbm := Box.new w2 (cells9 L.c L.qR L.qP L.qT L.qH) 29
  have a1 := Le.alloc w2 (.cells (cells9 L.c L.qR L.qP L.qT L.qH) 29)
  go_upto_region 5 with fail
  generalize hW : w2.alloc (.cells (cells9 L.c L.qR L.qP L.qT L.qH) 29) = W1 at hbm a1 ⊢
  clear hW
  have hw1 := hl.size
  have I : MoI w1.heap.size w2.heap.size W1 L := ⟨hbm, l2.size, o1.le a1, ap⟩
  have hgm : w1.heap.size ≤ w2.heap.size := l2.size
  have hwgm : w.heap.size ≤ w2.heap.size := by omega
  generalize w2.heap.size = gm at hbm I hgm hwgm ⊢
  have l12 := l2.trans a1
  have hW1 : w1.heap.size ≤ W1.heap.size := l12.size
  replace hl := hl.trans l12
  clear l2 a1 o1 ap l12 hbm
  obtain ⟨r0, r1, p0, p1, t0, t1, t2, t3, gR0, cR, gP, cP, gT, cT, uH, rfl, hr, hp, ht⟩ := good_open I HM
  obtain ⟨_, q0⟩ := r0
  obtain ⟨_, q1⟩ := r1
  obtain ⟨_, v0, c0, l0⟩ := p0
  obtain ⟨_, v1, c1, l1⟩ := p1
  obtain ⟨_, b0, s0⟩ := t0
  obtain ⟨_, b1, s1⟩ := t1
  obtain ⟨_, b2, s2⟩ := t2
  obtain ⟨_, b3, s3⟩ := t3
  simp only at hr hp ht
  obtain ⟨rfl, rfl⟩ := hr
  obtain ⟨rfl, rfl⟩ := hp
  obtain ⟨rfl, rfl, rfl, rfl⟩ := ht
  have hbm := I.bo
  have o := I.own
  obtain ⟨⟨y0, y1, y2, y3, y4⟩, y5, y6, y7, y8⟩ := (hbm).mach
  simp only [slV] at y5 y6 y7
  obtain ⟨hgne, hglt, hgB, hat, hfz⟩ := I.thAt (i := 2) rfl (by show 2 < 4; decide)
  have x6 : W1.cell? ⟨gT, 30, none⟩ = some (slV b2) := hat.2.2.2.2.2.2.1
  have f6 : W1.frozen? ⟨gT, 30, none⟩ = false := hfz 30
  clear hat hfz
  have hA := Le.alloc W1 (.cells #[.int .i64 (3 + (1 + X))] 3)
  have hlit : Own (W1.alloc (.cells #[.int .i64 (3 + (1 + X))] 3)) w1.heap.size (slV (some ⟨W1.heap.size, 0, none⟩, 1, 1)) [3 + (1 + X)] := Own.lit W1 w1.heap.size hW1 [3 + (1 + X)] (by simp)
  have o2 : OwnsM ((W1.alloc (.cells #[.int .i64 (3 + (1 + X))] 3)).setCell ⟨gT, 30, none⟩ (slV (some ⟨W1.heap.size, 0, none⟩, 1, 1))) w1.heap.size (⟨gC, (some ⟨gR0, 0, none⟩, 2, cR), (some ⟨gP, 0, none⟩, 2, cP), (some ⟨gT, 0, none⟩, 4, cT), uH, [⟨gR, q0⟩, ⟨gR, q1⟩], [⟨gP0, v0, c0, l0⟩, ⟨gP1, v1, c1, l1⟩], [⟨gT0, b0, s0⟩, ⟨gT1, b1, s1⟩, ⟨⟨2, 0, 2, 2, 0, 0, [3 + (1 + X)], 0, false, false, 0, []⟩, (some ⟨W1.heap.size, 0, none⟩, 1, 1), s2⟩, ⟨gT3, b3, s3⟩], gE⟩ : Lay) := (o.le hA).setT (i := 2) (j := 6) (u := slV (some ⟨W1.heap.size, 0, none⟩, 1, 1)) rfl (by show 2 < 4; decide) (by decide) ⟨⟨2, 0, 2, 2, 0, 0, [3 + (1 + X)], 0, false, false, 0, []⟩, (some ⟨W1.heap.size, 0, none⟩, 1, 1), s2⟩ rfl hlit ((o.le hA).iT ⟨gT2, b2, s2⟩ (by simp)).2
  have hb2 : Box ((W1.alloc (.cells #[.int .i64 (3 + (1 + X))] 3)).setCell ⟨gT, 30, none⟩ (slV (some ⟨W1.heap.size, 0, none⟩, 1, 1))) gm (cells9 gC (some ⟨gR0, 0, none⟩, 2, cR) (some ⟨gP, 0, none⟩, 2, cP) (some ⟨gT, 0, none⟩, 4, cT) uH) 29 := (hbm.le hA).other hgne _ _
  have hl2 : Le w ((W1.alloc (.cells #[.int .i64 (3 + (1 + X))] 3)).setCell ⟨gT, 30, none⟩ (slV (some ⟨W1.heap.size, 0, none⟩, 1, 1))) := (hl.trans hA).set (by omega)
  have hfit : FitM (Lay.M (⟨gC, (some ⟨gR0, 0, none⟩, 2, cR), (some ⟨gP, 0, none⟩, 2, cP), (some ⟨gT, 0, none⟩, 4, cT), uH, [⟨gR, q0⟩, ⟨gR, q1⟩], [⟨gP0, v0, c0, l0⟩, ⟨gP1, v1, c1, l1⟩], [⟨gT0, b0, s0⟩, ⟨gT1, b1, s1⟩, ⟨⟨2, 0, 2, 2, 0, 0, [3 + (1 + X)], 0, false, false, 0, []⟩, (some ⟨W1.heap.size, 0, none⟩, 1, 1), s2⟩, ⟨gT3, b3, s3⟩], gE⟩ : Lay)) := fitB_fit (by rfl)
  have hno : mayM (Lay.M (⟨gC, (some ⟨gR0, 0, none⟩, 2, cR), (some ⟨gP, 0, none⟩, 2, cP), (some ⟨gT, 0, none⟩, 4, cT), uH, [⟨gR, q0⟩, ⟨gR, q1⟩], [⟨gP0, v0, c0, l0⟩, ⟨gP1, v1, c1, l1⟩], [⟨gT0, b0, s0⟩, ⟨gT1, b1, s1⟩, ⟨⟨2, 0, 2, 2, 0, 0, [3 + (1 + X)], 0, false, false, 0, []⟩, (some ⟨W1.heap.size, 0, none⟩, 1, 1), s2⟩, ⟨gT3, b3, s3⟩], gE⟩ : Lay)) = false := no_t (T := (⟨2, 0, 2, 2, 0, 0, [3 + (1 + X)], 0, false, false, 0, []⟩ : Th)) (show _ ∈ ([gT0, gT1, ⟨2, 0, 2, 2, 0, 0, [3 + (1 + X)], 0, false, false, 0, []⟩, gT3] : List Th) by simp) (by rw [← Bool.not_eq_true]; intro h; obtain ⟨_, _, _, _, _, h, _⟩ := thB_cases h; have k := (h (3 + (1 + X)) (by simp)).2; change 3 + (1 + X) ≤ 4 - 1 at k; omega)
  rw [World.setCell_alloc_past _ _ _ _ hglt] at o2 hb2 hl2
  go_upto_region 53 with fail
  generalize hW2 : (W1.setCell ⟨gT, 30, none⟩ (slV (some ⟨W1.heap.size, 0, none⟩, 1, 1))).alloc (.cells #[.int .i64 (3 + (1 + X))] 3) = W2 at o2 hb2 hl2 ⊢
  clear hW2
  clear y0 y1 y2 y3 y4 y5 y6 y7 y8
  have hx2 := o2.has
  clear hX o I hbm HM
  go_wp2_with fail
  refine (lawNum _ _).mono ?_
  rintro e _ ⟨rfl, rfl⟩
  go_wp2_with fail
  refine (lawGood _).mono ?_
  rintro e w5 ⟨_, rfl, o5, l5⟩
  go_wp2_with fail
  refine (startMay _ goodM _ o5.has good_fit).mono ?_
  rw [good_may]
  rintro e w6 ⟨rfl, l6⟩
  obtain ⟨⟨y0, y1, y2, y3, y4⟩, y5, y6, y7, y8⟩ := (((hb2.le l5).le l6)).mach
  go_wp2_with fail
  refine (startMay _ (Lay.M (⟨gC, (some ⟨gR0, 0, none⟩, 2, cR), (some ⟨gP, 0, none⟩, 2, cP), (some ⟨gT, 0, none⟩, 4, cT), uH, [⟨gR, q0⟩, ⟨gR, q1⟩], [⟨gP0, v0, c0, l0⟩, ⟨gP1, v1, c1, l1⟩], [⟨gT0, b0, s0⟩, ⟨gT1, b1, s1⟩, ⟨⟨2, 0, 2, 2, 0, 0, [3 + (1 + X)], 0, false, false, 0, []⟩, (some ⟨W1.heap.size, 0, none⟩, 1, 1), s2⟩, ⟨gT3, b3, s3⟩], gE⟩ : Lay)) _ ((hx2.le l5).le l6) hfit).mono ?_
  rw [hno]
  rintro e w7 ⟨rfl, l7⟩
  go_wp2_with fail
  go_ret
  exact ⟨rfl, ((hl2.trans l5).trans l6).trans l7⟩

end Go.Proofs.YtibleipfablniaaGreat

/-
  THE WALKS over the law StartForms: each kind of machine that may not be. Condition: that the numbers are ints. (Written by program: mksf.py.)
-/
namespace Go.Proofs.YtibleipfablniaaGreat
open Go.RowKit

set_option linter.unusedVariables false in
set_option maxRecDepth 8000 in
set_option maxHeartbeats 8000000 in
theorem lawSF19 (w : World) (which x X : Int) (hw : (IntKind.u64.wrap which).tmod 24 = 19) (hX : bits .and .i64 x 1023 = X) (X0 : 0 ≤ X) (X1 : X ≤ 1023) : Calls Tryz.prog 4 #[.int .i64 which, .int .i64 x] w fun e w' => e = .returned (.bool true) ∧ Le w w' := by
  go_enter Tryz.func4, Tryz.ntmps4
  go_wp2_with fail
  refine (lawAwake14 _).mono ?_
  rintro e w1 ⟨rfl, hl⟩
  go_wp2_with fail
  refine (lawGood _).mono ?_
  rintro e w2 ⟨_, rfl, ⟨L, rfl, HM, o1, ap⟩, l2⟩
  have hbm := Box.new w2 (cells9 L.c L.qR L.qP L.qT L.qH) 29
  have a1 := Le.alloc w2 (.cells (cells9 L.c L.qR L.qP L.qT L.qH) 29)
  go_upto_region 5 with fail
  generalize hW : w2.alloc (.cells (cells9 L.c L.qR L.qP L.qT L.qH) 29) = W1 at hbm a1 ⊢
  clear hW
  have hw1 := hl.size
  have I : MoI w1.heap.size w2.heap.size W1 L := ⟨hbm, l2.size, o1.le a1, ap⟩
  have hgm : w1.heap.size ≤ w2.heap.size := l2.size
  have hwgm : w.heap.size ≤ w2.heap.size := by omega
  generalize w2.heap.size = gm at hbm I hgm hwgm ⊢
  have l12 := l2.trans a1
  have hW1 : w1.heap.size ≤ W1.heap.size := l12.size
  replace hl := hl.trans l12
  clear l2 a1 o1 ap l12 hbm
  obtain ⟨r0, r1, p0, p1, t0, t1, t2, t3, gR0, cR, gP, cP, gT, cT, uH, rfl, hr, hp, ht⟩ := good_open I HM
  obtain ⟨_, q0⟩ := r0
  obtain ⟨_, q1⟩ := r1
  obtain ⟨_, v0, c0, l0⟩ := p0
  obtain ⟨_, v1, c1, l1⟩ := p1
  obtain ⟨_, b0, s0⟩ := t0
  obtain ⟨_, b1, s1⟩ := t1
  obtain ⟨_, b2, s2⟩ := t2
  obtain ⟨_, b3, s3⟩ := t3
  simp only at hr hp ht
  obtain ⟨rfl, rfl⟩ := hr
  obtain ⟨rfl, rfl⟩ := hp
  obtain ⟨rfl, rfl, rfl, rfl⟩ := ht
  have hbm := I.bo
  have o := I.own
  obtain ⟨⟨y0, y1, y2, y3, y4⟩, y5, y6, y7, y8⟩ := (hbm).mach
  simp only [slV] at y5 y6 y7
  obtain ⟨hgne, hglt, hgB, hat, hfz⟩ := I.thAt (i := 2) rfl (by show 2 < 4; decide)
  have hbl : b2.2.1 = 0 := own_len (o.iT ⟨gT2, b2, s2⟩ (by simp)).1
  obtain ⟨ba, bn, bc⟩ := b2
  simp only at hbl
  subst hbl
  have x6 : W1.cell? ⟨gT, 30, none⟩ = some (.slice ba 0 bc) := hat.2.2.2.2.2.2.1
  have x7 : W1.cell? ⟨gT, 31, none⟩ = some (.int .i64 0) := hat.2.2.2.2.2.2.2.1
  have f7 : W1.frozen? ⟨gT, 31, none⟩ = false := hfz 31
  have hgne' : ¬ gT = gm := fun e => hgne e.symm
  have hwr : IntKind.i64.wrap (1 + X) = 1 + X := by rw [IntKind.wrap_i64]; omega
  clear hat hfz
  have o2 : OwnsM ((W1.setCell ⟨gT, 31, none⟩ (.int .i64 (1 + X))).drew) w1.heap.size (⟨gC, (some ⟨gR0, 0, none⟩, 2, cR), (some ⟨gP, 0, none⟩, 2, cP), (some ⟨gT, 0, none⟩, 4, cT), uH, [⟨gR, q0⟩, ⟨gR, q1⟩], [⟨gP0, v0, c0, l0⟩, ⟨gP1, v1, c1, l1⟩], [⟨gT0, b0, s0⟩, ⟨gT1, b1, s1⟩, ⟨⟨2, 0, 2, 2, 0, 0, [], 1 + X, false, false, 0, []⟩, (ba, 0, bc), s2⟩, ⟨gT3, b3, s3⟩], gE⟩ : Lay) := (o.setT (i := 2) (j := 7) (u := .int .i64 (1 + X)) rfl (by show 2 < 4; decide) (by decide) ⟨⟨2, 0, 2, 2, 0, 0, [], 1 + X, false, false, 0, []⟩, (ba, 0, bc), s2⟩ rfl (o.iT ⟨gT2, (ba, 0, bc), s2⟩ (by simp)).1 (o.iT ⟨gT2, (ba, 0, bc), s2⟩ (by simp)).2).le (Le.drew _)
  have hb2 : Box ((W1.setCell ⟨gT, 31, none⟩ (.int .i64 (1 + X))).drew) gm (cells9 gC (some ⟨gR0, 0, none⟩, 2, cR) (some ⟨gP, 0, none⟩, 2, cP) (some ⟨gT, 0, none⟩, 4, cT) uH) 29 := (hbm.other hgne _ _).le (Le.drew _)
  have hl2 : Le w ((W1.setCell ⟨gT, 31, none⟩ (.int .i64 (1 + X))).drew) := (hl.set (by omega)).trans (Le.drew _)
  have hfit : FitM (Lay.M (⟨gC, (some ⟨gR0, 0, none⟩, 2, cR), (some ⟨gP, 0, none⟩, 2, cP), (some ⟨gT, 0, none⟩, 4, cT), uH, [⟨gR, q0⟩, ⟨gR, q1⟩], [⟨gP0, v0, c0, l0⟩, ⟨gP1, v1, c1, l1⟩], [⟨gT0, b0, s0⟩, ⟨gT1, b1, s1⟩, ⟨⟨2, 0, 2, 2, 0, 0, [], 1 + X, false, false, 0, []⟩, (ba, 0, bc), s2⟩, ⟨gT3, b3, s3⟩], gE⟩ : Lay)) := fitB_fit (by rfl)
  have hno : mayM (Lay.M (⟨gC, (some ⟨gR0, 0, none⟩, 2, cR), (some ⟨gP, 0, none⟩, 2, cP), (some ⟨gT, 0, none⟩, 4, cT), uH, [⟨gR, q0⟩, ⟨gR, q1⟩], [⟨gP0, v0, c0, l0⟩, ⟨gP1, v1, c1, l1⟩], [⟨gT0, b0, s0⟩, ⟨gT1, b1, s1⟩, ⟨⟨2, 0, 2, 2, 0, 0, [], 1 + X, false, false, 0, []⟩, (ba, 0, bc), s2⟩, ⟨gT3, b3, s3⟩], gE⟩ : Lay)) = false := no_t (T := (⟨2, 0, 2, 2, 0, 0, [], 1 + X, false, false, 0, []⟩ : Th)) (show _ ∈ ([gT0, gT1, ⟨2, 0, 2, 2, 0, 0, [], 1 + X, false, false, 0, []⟩, gT3] : List Th) by simp) (by rw [← Bool.not_eq_true]; intro h; obtain ⟨_, _, _, _, _, _, ⟨_, k⟩, _⟩ := thB_cases h; change 1 + X ≤ 0 at k; omega)
  go_upto_region 46 with fail
  go_region_held3 (fun w' => w'.cell? ⟨gm, 7, none⟩ = some (.slice (some ⟨gT, 0, none⟩) 4 cT) ∧ w'.cell? ⟨gT, 30, none⟩ = some (.slice ba 0 bc)) (simp [*, World.cell?_setCell_far, World.cell?_setCell_other]) (fail)
  go_upto_region 53 with fail
  generalize hW2 : (W1.setCell ⟨gT, 31, none⟩ (.int .i64 (1 + X))).drew = W2 at o2 hb2 hl2 ⊢
  clear hW2
  clear y0 y1 y2 y3 y4 y5 y6 y7 y8
  have hx2 := o2.has
  clear hX o I hbm HM
  go_wp2_with fail
  refine (lawNum _ _).mono ?_
  rintro e _ ⟨rfl, rfl⟩
  go_wp2_with fail
  refine (lawGood _).mono ?_
  rintro e w5 ⟨_, rfl, o5, l5⟩
  go_wp2_with fail
  refine (startMay _ goodM _ o5.has good_fit).mono ?_
  rw [good_may]
  rintro e w6 ⟨rfl, l6⟩
  obtain ⟨⟨y0, y1, y2, y3, y4⟩, y5, y6, y7, y8⟩ := (((hb2.le l5).le l6)).mach
  go_wp2_with fail
  refine (startMay _ (Lay.M (⟨gC, (some ⟨gR0, 0, none⟩, 2, cR), (some ⟨gP, 0, none⟩, 2, cP), (some ⟨gT, 0, none⟩, 4, cT), uH, [⟨gR, q0⟩, ⟨gR, q1⟩], [⟨gP0, v0, c0, l0⟩, ⟨gP1, v1, c1, l1⟩], [⟨gT0, b0, s0⟩, ⟨gT1, b1, s1⟩, ⟨⟨2, 0, 2, 2, 0, 0, [], 1 + X, false, false, 0, []⟩, (ba, 0, bc), s2⟩, ⟨gT3, b3, s3⟩], gE⟩ : Lay)) _ ((hx2.le l5).le l6) hfit).mono ?_
  rw [hno]
  rintro e w7 ⟨rfl, l7⟩
  go_wp2_with fail
  go_ret
  exact ⟨rfl, ((hl2.trans l5).trans l6).trans l7⟩

end Go.Proofs.YtibleipfablniaaGreat
