/-
  THE WALKS over the document's own Updates, threadMay, CopyRing, NewRing, RingMay: what each answers, for every ring. Condition: where memory is made, that the slots can be copied.
-/
import Derived.Test.YtgjhbhnfeeleeaaRgF
import Derived.Test.YtgjhbhnfeeleeaaRefSl
namespace Go.Proofs.Ytgjhbhnfeeleeaa
open Go.RowKit

set_option maxHeartbeats 2000000 in
theorem refUpdates (c r a : Int) (w : World) :
    Calls Try.prog 32 #[opV c r a] w fun e w' => e = .returned (.bool (opUp c r a)) ∧ Le w w' := by
  have hb := Box.new w #[.int .i64 c, .int .i64 r, .int .i64 a] 51
  have hl := Le.alloc w (.cells #[.int .i64 c, .int .i64 r, .int .i64 a] 51)
  have ho := fun w => refOperMay c r a w
  cases hm : opMay c r a
  · rw [hm] at ho
    go_enter Try.func32, Try.ntmps32
    go_wp2_with (go_at_call 36; refine (ho _).mono ?_; rintro e w1 ⟨rfl, l1⟩)
    go_ret
    exact ⟨ret_bool (by simp [opUp, hm]), hl.trans l1⟩
  · rw [hm] at ho
    have hc : (decide (c < 2)) = (decide (c = 0) || decide (c = 1)) := by
      rw [Bool.eq_iff_iff]
      simp [opMay] at hm
      simp
      omega
    go_enter Try.func32, Try.ntmps32
    go_wp2_with (go_at_call 36; refine (ho _).mono ?_; rintro e w1 ⟨rfl, l1⟩; obtain ⟨b0, b1, b2, f0, f1, f2⟩ := (hb.le l1).op)
    go_ret
    exact ⟨ret_bool (by simp only [opUp, hm, Bool.true_and]), hl.trans l1⟩

theorem refThreadMay (t : Int) (w : World) : Calls Try.prog 33 #[.int .i64 t] w fun e w' => e = .returned (.bool (threadB t)) ∧ w = w' := by
  go_enter Try.func33, Try.ntmps33
  go_wp2_with (go_at_call 31; refine (refUpTo _ _ _ _).mono ?_; rintro e _ ⟨rfl, rfl⟩)
  go_ret
  refine ⟨ret_bool ?_, rfl⟩
  rw [Bool.eq_iff_iff]
  simp [threadB]
  omega

/-- No slots, in a block of their own. -/
theorem OwnL.lit0 (w : World) (base : Nat) (hb : base ≤ w.heap.size) : OwnL (w.alloc (.cells #[] 53)) base (.slice (some ⟨w.heap.size, 0, none⟩) 0 0) [] := by
  have := World.ownsRow_lit (e := 53) (size := 5) w #[] 0 hb (by unfold maxLen; omega) (by simp)
  exact OwnL.of this rfl rfl

set_option maxHeartbeats 1000000 in
theorem refCopyRing (h t f : Int) (q : Sl) (ss : List Slt) (w : World) (hx : HasL w (slV q) ss) (hf : ss.length * 40 ≤ 140737488351232) :
    Calls Try.prog 25 #[ringV h t f q] w fun e w' => ∃ u : Sl, e = .returned (ringV h t f u) ∧ OwnL w' w.heap.size (slV u) ss ∧ Le w w' := by
  have hb := (Box.new w (cellsR h t f q) 24).le (Le.alloc _ (.cells (cellsR 0 0 0 slZ) 24))
  have hb2 := Box.new (w.alloc (.cells (cellsR h t f q) 24)) (cellsR 0 0 0 slZ) 24
  rw [World.size_alloc] at hb2
  have hl := (Le.alloc w (.cells (cellsR h t f q) 24)).trans (Le.alloc _ (.cells (cellsR 0 0 0 slZ) 24))
  have hn1 := OwnL.lit0 ((w.alloc (.cells (cellsR h t f q) 24)).alloc (.cells (cellsR 0 0 0 slZ) 24)) (w.heap.size + 1 + 1) (by simp)
  have hl1 := hl.trans (Le.alloc _ (.cells #[] 53))
  simp only [World.size_alloc] at hn1
  have hrow : ∀ g, some (w.heap.size + 1 + 1) = some g → w.heap.size ≤ g := by intro g hg; simp at hg; omega
  go_enter Try.func25, Try.ntmps25
  go_wp2_with (at_builtin; refine wp_append_slots rfl _ _ rfl (w.heap.size + 1 + 1) _ _ [] ss rfl rfl hn1 (hx.le hl1) (by simp; omega) (by simp only [World.size_alloc]; omega) ?_; intro v' w2 hown hgrow; rw [List.nil_append] at hown; replace hgrow : World.grownBy _ w2 (some (w.heap.size + 1 + 1)) := hgrow; have hb3 := (hb.le (Le.alloc _ (.cells #[] 53))).grown hgrow (by simp only [ne_eq, Option.some.injEq]; omega); have hb4 := (hb2.le (Le.alloc _ (.cells #[] 53))).grown hgrow (by simp only [ne_eq, Option.some.injEq]; omega); have l2 : Le w w2 := Below.grown hl1 hgrow hl1.size hrow; obtain ⟨u, rfl⟩ := hown.has.sl; obtain ⟨b0, b1, b2, b3, f0, f1, f2, f3⟩ := hb3.ring; obtain ⟨p0, p1, p2, p3, g0, g1, g2, g3⟩ := hb4.ring)
  refine bodyPost_ret (v := ringV h t f u) (by simp [results, Try.results25, go_sem, p0, p1, p2, p3]) rfl ⟨u, rfl, ?_, ?_⟩
  · iterate 5 refine OwnL.set ?_ (hown.off (by omega))
    exact hown.base (by omega)
  · iterate 5 refine Le.set ?_ (by omega)
    exact l2

end Go.Proofs.Ytgjhbhnfeeleeaa
