/-
  THE WALK over choruslaw7.RouteAlone: it answers true, for every object, state, operation, with one log and with two, and turns nothing that was there. Condition: the state's rows can be copied.
-/
import Derived.Test.YtafjaghaibagkaaRoAwake
import Derived.Test.YtafjaghaibagkaaRefObj
import Derived.Test.YtafjaghaibagkaaObjR
namespace Go.Proofs.Ytafjaghaibagkaa
open Go.RowKit

theorem part_put {s : St} {g n : Int} {k : Nat} (hk : k < 4) (hg : (k : Int).tmod n = g) (x : List Int) : partOf (s.put k x) g n = (partOf s g n).put k x := by
  apply St.ext_at
  intro i hi
  rw [partOf_at _ _ _ hi, St.at_put hk hi, St.at_put hk hi, partOf_at _ _ _ hi]
  by_cases e : i = k
  · subst e; rw [if_pos hg, if_pos rfl, if_pos rfl]
  · rw [if_neg e, if_neg e]

theorem objMay_part {o : Int} {s : St} (h : objMay o s = true) (g n : Int) : objMay o (partOf s g n) = true :=
  objMay_of h fun k hk => by rw [partOf_at _ _ _ hk]; split; exact objMay_row h hk; exact rowMayO_nil o

set_option maxRecDepth 4000 in
set_option maxHeartbeats 4000000 in
theorem lawAlone7 (w : World) (o : Int) (v : Value) (s : St) (hx : HasS w v s) (hf : Fit s) (c r a : Int) (two : Bool) :
    Calls Try.prog 6 #[.int .i64 o, v, opV c r a, .bool two] w fun e w' => e = .returned (.bool true) ∧ Le w w' := by
  have hx0 := hx
  obtain ⟨vs, rfl, hr⟩ := hx
  have hl := (Le.alloc w (.cells (cells4 vs) 27)).trans (Le.alloc _ (.cells #[.int .i64 c, .int .i64 r, .int .i64 a] 23))
  have hb1 := (Box.new w (cells4 vs) 27).le (Le.alloc _ (.cells #[.int .i64 c, .int .i64 r, .int .i64 a] 23))
  have hb2 := Box.new (w.alloc (.cells (cells4 vs) 27)) #[.int .i64 c, .int .i64 r, .int .i64 a] 23
  simp only [World.size_alloc] at hb1 hb2
  obtain ⟨n, hn, hN⟩ : ∃ n : Int, n = (if two = true then 2 else 1) ∧ logsB n = true := ⟨_, rfl, by cases two <;> decide⟩
  have hlog := fun w' => routeLog c r a n w'
  by_cases hyes : opMay c r a = true ∧ c ≠ 3
  · obtain ⟨hop, hc⟩ := hyes
    obtain ⟨_, _, r0, r3, _, _⟩ := opMay_bounds hop
    obtain ⟨k, rfl⟩ : ∃ k : Nat, r = k := ⟨r.toNat, by omega⟩
    have hk : k < 4 := by omega
    rw [logS_yes hop hc hN] at hlog
    obtain ⟨g, hg⟩ : ∃ g, g = (k : Int).tmod n := ⟨_, rfl⟩
    have hgB : logB g n = true := by
      rw [hg]
      rcases logsB_cases hN with e | e <;> subst e <;> rcases four hk with e | e | e | e <;> subst e <;> decide
    rw [← hg] at hlog
    cases hm : objMay o s
    · have hmay := fun w' (h : HasS w' (stV vs) s) => refStateMay o (stV vs) s w' h hf
      rw [hm] at hmay
      cases two
      all_goals
        simp only [if_pos, Bool.false_eq_true, if_false] at hn
        subst hn
        clear hg hgB hm
        go_enter Try.func6, Try.ntmps6
        go_wp2_with fail
        refine (lawAwake7 _).mono ?_
        rintro e w1 ⟨rfl, l1⟩
        obtain ⟨y0, y1, y2, _, _, _⟩ := (hb2.le l1).op
        go_wp2_with fail
        refine (hlog _).mono ?_
        rintro e w2 ⟨rfl, l2⟩
        replace l1 := l1.trans l2
        clear y0 y1 y2 l2
        obtain ⟨y0, y1, y2, y3, _, _, _, _⟩ := (hb1.le l1).st
        go_wp2_with (go_at_call 12; refine (lawNum _ _).mono ?_; rintro e _ ⟨rfl, rfl⟩)
        refine (hmay _ (hx0.le (hl.trans l1))).mono ?_
        rintro e w3 ⟨rfl, l3⟩
        by_cases h0 : g = 0
        · subst h0
          go_wp2_with (go_at_call 12; refine (lawNum _ _).mono ?_; rintro e _ ⟨rfl, rfl⟩)
          go_ret
          exact ⟨rfl, hl.trans (l1.trans l3)⟩
        · have h1 : (g == 0) = false := by simp [h0]
          clear h0
          go_wp2_with (go_at_call 12; refine (lawNum _ _).mono ?_; rintro e _ ⟨rfl, rfl⟩)
          go_ret
          exact ⟨rfl, hl.trans (l1.trans l3)⟩
    · have hmay := fun w' (h : HasS w' (stV vs) s) => refStateMay o (stV vs) s w' h hf
      rw [hm] at hmay
      have hpt := fun w' (h : HasS w' (stV vs) s) => routePart (stV vs) s g n w' h hf
      rw [partS_yes hgB] at hpt
      have hap := fun w' (h : HasS w' (stV vs) s) => refObj o (stV vs) s c k a 600 w' h hf
      rw [objS_row 600 hm hop hc] at hap
      have hfp := hf.part g n
      have haq := fun w' v' (h : HasS w' v' (partOf s g n)) => refObj o v' (partOf s g n) c k a 600 w' h hfp
      rw [objS_row 600 (objMay_part hm g n) hop hc, partOf_at _ _ _ hk, if_pos hg.symm] at haq
      obtain ⟨R, hR⟩ : ∃ R, R = rowF o c (s.at k) a := ⟨_, rfl⟩
      have hf2 : Fit (s.put k R.1) := by
        have := hf.obj o c k a 600
        rw [objS_row 600 hm hop hc, ← hR] at this; exact this
      rw [← hR] at hap haq
      have hpu := fun w' v' (h : HasS w' v' (s.put k R.1)) => routePart v' (s.put k R.1) g n w' h hf2
      rw [partS_yes hgB, part_put hk hg.symm] at hpu
      have hf3 : Fit ((partOf s g n).put k R.1) := by rw [← part_put hk hg.symm]; exact hf2.part g n
      generalize hT : (partOf s g n).put k R.1 = T at haq hpu hf3
      generalize hS2 : s.put k R.1 = S2 at hap hpu hf2
      generalize hPo : partOf s g n = Po at hpt haq hfp
      generalize R.2 = x at hap haq
      clear hT hS2 hPo hR R hm hg hgB hop hN
      cases two
      all_goals
        simp only [if_pos, Bool.false_eq_true, if_false] at hn
        subst hn
        go_enter Try.func6, Try.ntmps6
        go_wp2_with fail
        refine (lawAwake7 _).mono ?_
        rintro e w1 ⟨rfl, l1⟩
        obtain ⟨y0, y1, y2, _, _, _⟩ := (hb2.le l1).op
        go_wp2_with fail
        refine (hlog _).mono ?_
        rintro e w2 ⟨rfl, l2⟩
        replace l1 := l1.trans l2
        clear y0 y1 y2 l2
        obtain ⟨y0, y1, y2, y3, _, _, _, _⟩ := (hb1.le l1).st
        go_wp2_with (go_at_call 12; refine (lawNum _ _).mono ?_; rintro e _ ⟨rfl, rfl⟩)
        refine (hmay _ (hx0.le (hl.trans l1))).mono ?_
        rintro e w3 ⟨rfl, l3⟩
        replace l1 := l1.trans l3
        clear y0 y1 y2 y3 l3 hmay hlog
        obtain ⟨y0, y1, y2, y3, _, _, _, _⟩ := (hb1.le l1).st
        go_wp2_with fail
        refine (hpt _ (hx0.le (hl.trans l1))).mono ?_
        rintro e w4 ⟨_, rfl, ⟨q4, rfl, o4⟩, l4⟩
        have hb4 := Box.new w4 (cells4 q4) 27
        have h4 : HasS (w4.alloc (.cells (cells4 q4) 27)) (stV q4) Po := OwnS.has ⟨q4, rfl, fun i hi => (o4 i hi).le (Le.alloc _ _)⟩
        replace l1 := l1.trans (l4.trans (Le.alloc w4 (.cells (cells4 q4) 27)))
        clear y0 y1 y2 y3 l4 hpt o4
        go_upto_region 10 with fail
        generalize hW : w4.alloc (.cells (cells4 q4) 27) = W4 at hb4 h4 l1 ⊢
        generalize w4.heap.size = g4 at hb4 ⊢
        clear hW
        obtain ⟨y0, y1, y2, y3, _, _, _, _⟩ := (hb1.le l1).st
        obtain ⟨x0, x1, x2, _, _, _⟩ := (hb2.le l1).op
        go_wp2_with fail
        refine (hap _ (hx0.le (hl.trans l1))).mono ?_
        rintro e w5 ⟨_, rfl, ⟨q5, rfl, o5⟩, l5⟩
        have hb5 := Box.new w5 (cells4 q5) 27
        have h5 : HasS (w5.alloc (.cells (cells4 q5) 27)) (stV q5) S2 := OwnS.has ⟨q5, rfl, fun i hi => (o5 i hi).le (Le.alloc _ _)⟩
        replace l5 := l5.trans (Le.alloc w5 (.cells (cells4 q5) 27))
        replace hb4 := hb4.le l5
        replace h4 := h4.le l5
        replace l1 := l1.trans l5
        clear y0 y1 y2 y3 x0 x1 x2 l5 hap o5
        go_upto_region 11 with fail
        generalize hW : w5.alloc (.cells (cells4 q5) 27) = W5 at hb4 hb5 h4 h5 l1 ⊢
        generalize w5.heap.size = g5 at hb5 ⊢
        clear hW
        obtain ⟨y0, y1, y2, y3, _, _, _, _⟩ := hb4.st
        obtain ⟨x0, x1, x2, _, _, _⟩ := (hb2.le l1).op
        go_wp2_with fail
        refine (haq _ _ h4).mono ?_
        rintro e w6 ⟨_, rfl, ⟨q6, rfl, o6⟩, l6⟩
        have hb6 := Box.new w6 (cells4 q6) 27
        have h6 : HasS (w6.alloc (.cells (cells4 q6) 27)) (stV q6) T := OwnS.has ⟨q6, rfl, fun i hi => (o6 i hi).le (Le.alloc _ _)⟩
        replace l6 := l6.trans (Le.alloc w6 (.cells (cells4 q6) 27))
        replace hb5 := hb5.le l6
        replace h5 := h5.le l6
        replace l1 := l1.trans l6
        clear y0 y1 y2 y3 x0 x1 x2 l6 haq o6 hb4 h4
        go_upto_region 12 with fail
        generalize hW : w6.alloc (.cells (cells4 q6) 27) = W6 at hb5 hb6 h5 h6 l1 ⊢
        generalize w6.heap.size = g6 at hb6 ⊢
        clear hW
        obtain ⟨y0, y1, y2, y3, _, _, _, _⟩ := hb5.st
        go_wp2_with fail
        refine (hpu _ _ h5).mono ?_
        rintro e w7 ⟨_, rfl, ⟨q7, rfl, o7⟩, l7⟩
        have hb7 := Box.new w7 (cells4 q7) 27
        have h7 : HasS (w7.alloc (.cells (cells4 q7) 27)) (stV q7) T := OwnS.has ⟨q7, rfl, fun i hi => (o7 i hi).le (Le.alloc _ _)⟩
        replace l7 := l7.trans (Le.alloc w7 (.cells (cells4 q7) 27))
        replace hb6 := hb6.le l7
        replace h6 := h6.le l7
        replace l1 := l1.trans l7
        clear y0 y1 y2 y3 l7 hpu o7 hb5 h5
        go_upto_region 13 with fail
        generalize hW : w7.alloc (.cells (cells4 q7) 27) = W7 at hb6 hb7 h6 h7 l1 ⊢
        clear hW
        obtain ⟨y0, y1, y2, y3, _, _, _, _⟩ := hb6.st
        obtain ⟨x0, x1, x2, x3, _, _, _, _⟩ := hb7.st
        have hsame := lawSameState (stV q6) (stV q7) T T W7 h6 h7 hf3
        rw [show decide (T = T) = true by simp] at hsame
        go_wp2_with (first | (go_at_call 12; refine (lawNum _ _).mono ?_; rintro e _ ⟨rfl, rfl⟩) | (go_at_call 13; refine hsame.mono ?_; rintro e w8 ⟨rfl, l8⟩; clear hsame))
        go_ret
        exact ⟨rfl, hl.trans (l1.trans l8)⟩
  · rw [logS_no (by cases h : opMay c r a; exact .inl rfl; exact .inr (.inl (Classical.byContradiction fun e => hyes ⟨h, e⟩)))] at hlog
    clear hyes
    cases two
    all_goals
      simp only [if_pos, Bool.false_eq_true, if_false] at hn
      subst hn
      go_enter Try.func6, Try.ntmps6
      go_wp2_with fail
      refine (lawAwake7 _).mono ?_
      rintro e w1 ⟨rfl, l1⟩
      obtain ⟨y0, y1, y2, _, _, _⟩ := (hb2.le l1).op
      go_wp2_with fail
      refine (hlog _).mono ?_
      rintro e w2 ⟨rfl, l2⟩
      replace l1 := l1.trans l2
      clear y0 y1 y2 l2
      go_wp2_with (go_at_call 12; refine (lawNum _ _).mono ?_; rintro e _ ⟨rfl, rfl⟩)
      go_ret
      exact ⟨rfl, hl.trans l1⟩

end Go.Proofs.Ytafjaghaibagkaa
