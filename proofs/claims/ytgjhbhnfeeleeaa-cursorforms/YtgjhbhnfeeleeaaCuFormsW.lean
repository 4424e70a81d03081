/-
  THE WALK over choruslaw11.CursorForms: it answers true, for every two numbers, and turns nothing that was there. No condition.
-/
import Derived.Test.YtgjhbhnfeeleeaaCuAwake
import Derived.Test.YtgjhbhnfeeleeaaRgI
import Derived.Test.YtgjhbhnfeeleeaaBits
import Derived.Deep.Cut
namespace Go.Proofs.Ytgjhbhnfeeleeaa
open Go.RowKit

def cu8 : List Slt := [Slt.zero, Slt.zero, Slt.zero, Slt.zero, Slt.zero, Slt.zero, Slt.zero, Slt.zero]
theorem curs_out {h t f : Int} {ss : List Slt} {xs : List Int} {x : Int} (hx : x ∈ xs) (ho : x < h ∨ t < x) : cursB ⟨h, t, f, ss⟩ xs = false := by
  rw [Bool.eq_false_iff]
  intro hm
  simp only [cursB, Bool.and_eq_true, List.all_eq_true] at hm
  have := hm.2 x hx
  simp [insB] at this
  omega

theorem Has.lit (w : World) (xs : List Int) (hl : xs.length ≤ 1000) : Has (w.alloc (.cells (xs.map (Value.int .i64)).toArray 3)) (.slice (some ⟨w.heap.size, 0, none⟩) xs.length xs.length) xs :=
  (Own.lit w w.heap.size (Nat.le_refl _) xs hl).has

abbrev badsCells (n : Nat) : Array Value := #[.slice (some ⟨n + 1, 0, none⟩) 1 1, .slice (some ⟨n + 1 + 1, 0, none⟩) 2 2, .slice (some ⟨n + 1 + 1 + 1, 0, none⟩) 2 2, .slice (some ⟨n + 1 + 1 + 1 + 1, 0, none⟩) 2 2]
abbrev badsW (W : World) (d : Int) : World :=
  (((((W.alloc (.cells #[.int .i64 5, .int .i64 (-d), .int .i64 7] 3)).alloc (.cells #[.int .i64 2] 3)).alloc (.cells #[.int .i64 3, .int .i64 (9 + d)] 3)).alloc (.cells #[.int .i64 (3 - d), .int .i64 4] 3)).alloc (.cells #[.int .i64 9, .int .i64 10] 3)).alloc (.cells (badsCells W.heap.size) 25)

theorem bads_laid (W : World) (d : Int) : Has (badsW W d) (.slice (some ⟨W.heap.size + 1, 0, none⟩) 1 1) [2] ∧ Has (badsW W d) (.slice (some ⟨W.heap.size + 1 + 1, 0, none⟩) 2 2) [3, 9 + d] ∧ Has (badsW W d) (.slice (some ⟨W.heap.size + 1 + 1 + 1, 0, none⟩) 2 2) [3 - d, 4] ∧
    Has (badsW W d) (.slice (some ⟨W.heap.size + 1 + 1 + 1 + 1, 0, none⟩) 2 2) [9, 10] ∧ Box (badsW W d) (W.heap.size + 1 + 1 + 1 + 1 + 1) (badsCells W.heap.size) 25 ∧ Le W (badsW W d) := by
  have h1 := Has.lit (W.alloc (.cells #[.int .i64 5, .int .i64 (-d), .int .i64 7] 3)) [2] (by simp)
  have h2 := Has.lit ((W.alloc (.cells #[.int .i64 5, .int .i64 (-d), .int .i64 7] 3)).alloc (.cells #[.int .i64 2] 3)) [3, 9 + d] (by simp)
  have h3 := Has.lit (((W.alloc (.cells #[.int .i64 5, .int .i64 (-d), .int .i64 7] 3)).alloc (.cells #[.int .i64 2] 3)).alloc (.cells #[.int .i64 3, .int .i64 (9 + d)] 3)) [3 - d, 4] (by simp)
  have h4 := Has.lit ((((W.alloc (.cells #[.int .i64 5, .int .i64 (-d), .int .i64 7] 3)).alloc (.cells #[.int .i64 2] 3)).alloc (.cells #[.int .i64 3, .int .i64 (9 + d)] 3)).alloc (.cells #[.int .i64 (3 - d), .int .i64 4] 3)) [9, 10] (by simp)
  have h5 := Box.new (((((W.alloc (.cells #[.int .i64 5, .int .i64 (-d), .int .i64 7] 3)).alloc (.cells #[.int .i64 2] 3)).alloc (.cells #[.int .i64 3, .int .i64 (9 + d)] 3)).alloc (.cells #[.int .i64 (3 - d), .int .i64 4] 3)).alloc (.cells #[.int .i64 9, .int .i64 10] 3)) (badsCells W.heap.size) 25
  simp only [World.size_alloc] at h1 h2 h3 h4 h5
  exact ⟨h1.le ((((Le.alloc _ _).trans (Le.alloc _ _)).trans (Le.alloc _ _)).trans (Le.alloc _ _)), h2.le (((Le.alloc _ _).trans (Le.alloc _ _)).trans (Le.alloc _ _)), h3.le ((Le.alloc _ _).trans (Le.alloc _ _)), h4.le (Le.alloc _ _), h5,
    ((((((Le.alloc _ _).trans (Le.alloc _ _)).trans (Le.alloc _ _)).trans (Le.alloc _ _)).trans (Le.alloc _ _)).trans (Le.alloc _ _))⟩

set_option maxRecDepth 4000 in
set_option maxHeartbeats 2000000 in
theorem cursorForms_law (w : World) (a0 a1 : Int) : Calls Try.prog 4 #[.int .i64 a0, .int .i64 a1] w fun e w' => e = .returned (.bool true) ∧ Le w w' := by
  obtain ⟨m, hm, m0, m1⟩ : ∃ m, bits .and .i64 a1 1023 = m ∧ 0 ≤ m ∧ m ≤ 1023 := ⟨_, and1023 a1, by omega, by omega⟩
  obtain ⟨k, hk, k0⟩ : ∃ k : Nat, bits .and .i64 a0 3 = (k : Int) ∧ k < 4 := ⟨(a0 % 4).toNat, by rw [and3]; omega, by omega⟩
  obtain ⟨d, hd⟩ : ∃ d, 1 + m = d := ⟨_, rfl⟩
  obtain ⟨d0, d1⟩ : 1 ≤ d ∧ d ≤ 1024 := by omega
  have b0 := refNewAs (show newS 8 = (⟨0, 0, 0, cu8⟩, 0) by decide)
  have b1 := leastAs (show leastS [5, -d, 7] = (0, 1100) from least_neg (k := 1) (by simp) (by show -d < 0; omega)) (by simp)
  have b2 := cursAs (show cursB ⟨3, 9, 0, cu8⟩ [3, 9] = true by decide) (by decide) (by decide)
  have b3 := cursAs (show cursB ⟨3, 9, 0, cu8⟩ [] = true by decide) (by decide) (by decide)
  have b4 := cursAs (show cursB ⟨3, 9, 0, []⟩ [4] = false by decide) (by decide) (by decide)
  go_enter Try.func4, Try.ntmps4
  go_wp2_with fail
  refine (lawAwake11 _).mono ?_
  rintro e w1 ⟨rfl, l1⟩
  go_wp2_with fail
  refine (b0 _).mono ?_
  rintro e w2 ⟨q, rfl, o2, l2⟩
  replace l2 := (l1.trans l2).trans (Le.alloc w2 (.cells (cellsR 3 9 0 q) 24))
  have hq := o2.has.le (Le.alloc w2 (.cells (cellsR 3 9 0 q) 24))
  have hb := Box.new w2 (cellsR 3 9 0 q) 24
  go_upto_region 7 with fail
  generalize hW : w2.alloc (.cells (cellsR 3 9 0 q) 24) = W at hq hb l2 ⊢
  have x1 := Own.lit W W.heap.size (Nat.le_refl _) [5, -d, 7] (by simp)
  go_wp2_with fail
  refine (b1 _ _ x1.has).mono ?_
  rintro e _ ⟨rfl, rfl⟩
  go_upto_region 9 with fail
  obtain ⟨h1, h2, h3, h4, hbx, lx⟩ := bads_laid W d
  generalize hWW : badsW W d = X at h1 h2 h3 h4 hbx lx ⊢
  replace hb := hb.le lx
  replace hq := hq.le lx
  replace l2 := l2.trans lx
  obtain ⟨y0, y1, y2, y3, _, _, _, _⟩ := hbx.ring
  obtain ⟨c0, c1, c2, c3, _, _, _, _⟩ := hb.ring
  obtain ⟨v, xs, hv, hbad⟩ : ∃ v xs, Has X v xs ∧ X.cell? ⟨W.heap.size + 1 + 1 + 1 + 1 + 1, k, none⟩ = some v ∧ xs.length ≤ 2 ∧ cursB ⟨3, 9, 0, cu8⟩ xs = false := by
    rcases (by omega : k = 0 ∨ k = 1 ∨ k = 2 ∨ k = 3) with rfl | rfl | rfl | rfl
    · exact ⟨_, _, h1, y0, by simp, curs_out (x := 2) (by simp) (by omega)⟩
    · exact ⟨_, _, h2, y1, by simp, curs_out (x := 9 + d) (by simp) (by omega)⟩
    · exact ⟨_, _, h3, y2, by simp, curs_out (x := 3 - d) (by simp) (by omega)⟩
    · exact ⟨_, _, h4, y3, by simp, curs_out (x := 10) (by simp) (by omega)⟩
  obtain ⟨hcell, hlen, hno⟩ := hbad
  have b5 := cursAs hno (by decide) (by omega)
  obtain ⟨aa, cap, hv0⟩ := hv.shape
  clear y0 y1 y2 y3 hno h1 h2 h3 h4 hbx
  subst hv0
  have kk : (k : Int) < 4 := by omega
  go_wp2_with (first | (go_at_call 10; refine (lawNum _ _).mono ?_; rintro e _ ⟨rfl, rfl⟩) | fail)
  refine (b5 q _ _ hq hv).mono ?_
  rintro e w5 ⟨rfl, l5⟩
  replace hb := hb.le l5
  replace hq := hq.le l5
  replace l5 := l2.trans l5
  obtain ⟨e0, e1, e2, e3, _, _, _, _⟩ := hb.ring
  have x5 := Has.lit w5 [3, 9] (by simp)
  have l6 := Le.alloc w5 (.cells #[.int .i64 3, .int .i64 9] 3)
  go_wp2_with fail
  refine (b2 q _ _ (hq.le l6) x5).mono ?_
  rintro e w6 ⟨rfl, l7⟩
  replace l7 := l6.trans l7
  replace hb := hb.le l7
  replace hq := hq.le l7
  replace l7 := l5.trans l7
  obtain ⟨f0, f1, f2, f3, _, _, _, _⟩ := hb.ring
  go_wp2_with fail
  refine (b3 q _ _ hq (Has.nil _)).mono ?_
  rintro e w8 ⟨rfl, l8⟩
  replace l8 := l7.trans l8
  have x9 := Has.lit w8 [4] (by simp)
  have l9 := Le.alloc w8 (.cells #[.int .i64 4] 3)
  go_wp2_with fail
  refine (b4 slZ _ _ (HasL.nil _) x9).mono ?_
  rintro e w9 ⟨rfl, l10⟩
  go_wp2_with fail
  go_ret
  exact ⟨rfl, (l8.trans l9).trans l10⟩

end Go.Proofs.Ytgjhbhnfeeleeaa
