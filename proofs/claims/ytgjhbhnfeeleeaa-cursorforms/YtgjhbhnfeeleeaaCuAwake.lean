/-
  THE WALK over choruslaw11.awake: it answers true and turns nothing that was there. No condition.
-/
import Derived.Test.YtgjhbhnfeeleeaaCuR
import Derived.Test.YtgjhbhnfeeleeaaRfH
namespace Go.Proofs.Ytgjhbhnfeeleeaa
open Go.RowKit

def cu4 : List Slt := [Slt.zero, Slt.zero, Slt.zero, Slt.zero]

theorem leastAs {xs : List Int} {x er : Int} (he : leastS xs = (x, er)) (hm : xs.length ≤ 9223372036854775807) (v : Value) (w : World) (hx : Has w v xs) :
    Calls Try.prog 8 #[v] w fun e w' => e = .returned (.tuple #[.int .i64 x, .int .i64 er]) ∧ w = w' := by
  have := cursorLeast v xs w hx hm
  rw [he] at this
  exact this
theorem cursAs {h t f : Int} {ss : List Slt} {xs : List Int} {y : Bool} (he : cursB ⟨h, t, f, ss⟩ xs = y) (hf : ss.length * 40 ≤ 140737488351232) (hm : xs.length ≤ 9223372036854775807) (q : Sl) (u : Value) (w : World) (hq : HasL w (slV q) ss) (hx : Has w u xs) :
    Calls Try.prog 11 #[ringV h t f q, u] w fun e w' => e = .returned (.bool y) ∧ Le w w' := by
  have := cursorMay (ringV h t f q) u ⟨h, t, f, ss⟩ xs w ⟨q, rfl, hq⟩ hf hx hm
  rw [he] at this
  exact this

set_option maxRecDepth 4000 in
set_option maxHeartbeats 2000000 in
theorem lawAwake11 (w : World) : Calls Try.prog 14 #[] w fun e w' => e = .returned (.bool true) ∧ Le w w' := by
  have b1 := leastAs (show leastS [5, 3, 9] = (3, 0) by decide) (by decide)
  have b2 := leastAs (show leastS [] = (0, 1100) by decide) (by decide)
  have b3 := refNewAs (show newS 4 = (⟨0, 0, 0, cu4⟩, 0) by decide)
  have b4 := cursAs (show cursB ⟨0, 0, 0, cu4⟩ [0, 0] = true by decide) (by decide) (by decide)
  have b5 := cursAs (show cursB ⟨0, 0, 0, cu4⟩ [1] = false by decide) (by decide) (by decide)
  have b6 := cursAs (show cursB ⟨0, 0, 0, []⟩ [] = false by decide) (by decide) (by decide)
  have x1 := Own.lit w w.heap.size (Nat.le_refl _) [5, 3, 9] (by decide)
  have l1 := Le.alloc w (.cells #[.int .i64 5, .int .i64 3, .int .i64 9] 3)
  go_enter Try.func14, Try.ntmps14
  go_wp2_with fail
  refine (b1 _ _ x1.has).mono ?_
  rintro e _ ⟨rfl, rfl⟩
  go_wp2_with fail
  refine (b2 _ _ (Has.nil _)).mono ?_
  rintro e _ ⟨rfl, rfl⟩
  go_wp2_with fail
  refine (b3 _).mono ?_
  rintro e w3 ⟨q3, rfl, o3, l3⟩
  replace l3 := l1.trans l3
  have hq3 := o3.has.le (Le.alloc w3 (.cells (cellsR 0 0 0 q3) 24))
  have hb3 := Box.new w3 (cellsR 0 0 0 q3) 24
  replace l3 := l3.trans (Le.alloc w3 (.cells (cellsR 0 0 0 q3) 24))
  go_upto_region 4 with fail
  generalize hW : w3.alloc (.cells (cellsR 0 0 0 q3) 24) = W3 at hq3 hb3 l3 ⊢
  obtain ⟨c0, c1, c2, c3, _, _, _, _⟩ := hb3.ring
  have x2 := Own.lit W3 W3.heap.size (Nat.le_refl _) [0, 0] (by decide)
  have l4 := Le.alloc W3 (.cells #[.int .i64 0, .int .i64 0] 3)
  go_wp2_with (first | (go_at_call 10; refine (lawNum _ _).mono ?_; rintro e _ ⟨rfl, rfl⟩) | fail)
  refine (b4 q3 _ _ (hq3.le l4) x2.has).mono ?_
  rintro e w5 ⟨rfl, l5⟩
  replace l5 := l4.trans l5
  replace hq3 := hq3.le l5
  obtain ⟨d0, d1, d2, d3, _, _, _, _⟩ := (hb3.le l5).ring
  replace l5 := l3.trans l5
  have x3 := Own.lit w5 w5.heap.size (Nat.le_refl _) [1] (by decide)
  have l6 := Le.alloc w5 (.cells #[.int .i64 1] 3)
  clear c0 c1 c2 c3 l4 x2 x1 l1 l3
  go_wp2_with fail
  refine (b5 q3 _ _ (hq3.le l6) x3.has).mono ?_
  rintro e w6 ⟨rfl, l7⟩
  go_wp2_with fail
  refine (b6 slZ _ _ (HasL.nil _) (Has.nil _)).mono ?_
  rintro e w7 ⟨rfl, l8⟩
  go_wp2_with fail
  go_ret
  exact ⟨rfl, ((l5.trans l6).trans l7).trans l8⟩

end Go.Proofs.Ytgjhbhnfeeleeaa
