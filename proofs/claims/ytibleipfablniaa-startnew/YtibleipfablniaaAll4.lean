/-
  PARTS LAID TOGETHER, each with its own opening: Bits, SnW.
-/
import Derived.Test.YtibleipfablniaaAll3
import Derived.Test.YtibleipfablniaaAll1
import Derived.Laws.BitsLemmas
import Derived.Deep.Cut
import Derived.Deep.RegionWith
/-
  PLAIN GROUND, NO WALK: an int and a mask, for every int. No condition.
-/
namespace Go.Proofs.Ytibleipfablniaa

theorem and1 (n : Int) : bits .and .i64 n 1 = n % 2 := by
  have h : (BitVec.ofInt 64 1).toNat = 2 ^ 1 - 1 := by decide
  have key : (BitVec.ofInt 64 n &&& BitVec.ofInt 64 1).toNat = (n % ((2 ^ 64 : Nat) : Int)).toNat % 2 ^ 1 := by
    rw [BitVec.toNat_and, BitVec.toNat_ofInt, h, Nat.and_two_pow_sub_one_eq_mod]
  show IntKind.i64.wrap ((BitVec.ofInt 64 n &&& BitVec.ofInt 64 1).toNat : Nat) = n % 2
  rw [key, IntKind.wrap_i64]
  omega

theorem and3 (n : Int) : bits .and .i64 n 3 = n % 4 := by
  have h : (BitVec.ofInt 64 3).toNat = 2 ^ 2 - 1 := by decide
  have key : (BitVec.ofInt 64 n &&& BitVec.ofInt 64 3).toNat = (n % ((2 ^ 64 : Nat) : Int)).toNat % 2 ^ 2 := by
    rw [BitVec.toNat_and, BitVec.toNat_ofInt, h, Nat.and_two_pow_sub_one_eq_mod]
  show IntKind.i64.wrap ((BitVec.ofInt 64 n &&& BitVec.ofInt 64 3).toNat : Nat) = n % 4
  rw [key, IntKind.wrap_i64]
  omega

theorem and7 (n : Int) : bits .and .i64 n 7 = n % 8 := by
  have h : (BitVec.ofInt 64 7).toNat = 2 ^ 3 - 1 := by decide
  have key : (BitVec.ofInt 64 n &&& BitVec.ofInt 64 7).toNat = (n % ((2 ^ 64 : Nat) : Int)).toNat % 2 ^ 3 := by
    rw [BitVec.toNat_and, BitVec.toNat_ofInt, h, Nat.and_two_pow_sub_one_eq_mod]
  show IntKind.i64.wrap ((BitVec.ofInt 64 n &&& BitVec.ofInt 64 7).toNat : Nat) = n % 8
  rw [key, IntKind.wrap_i64]
  omega

theorem and255 (n : Int) : bits .and .i64 n 255 = n % 256 := by
  have h : (BitVec.ofInt 64 255).toNat = 2 ^ 8 - 1 := by decide
  have key : (BitVec.ofInt 64 n &&& BitVec.ofInt 64 255).toNat = (n % ((2 ^ 64 : Nat) : Int)).toNat % 2 ^ 8 := by
    rw [BitVec.toNat_and, BitVec.toNat_ofInt, h, Nat.and_two_pow_sub_one_eq_mod]
  show IntKind.i64.wrap ((BitVec.ofInt 64 n &&& BitVec.ofInt 64 255).toNat : Nat) = n % 256
  rw [key, IntKind.wrap_i64]
  omega

theorem and1023 (n : Int) : bits .and .i64 n 1023 = n % 1024 := by
  have h : (BitVec.ofInt 64 1023).toNat = 2 ^ 10 - 1 := by decide
  have key : (BitVec.ofInt 64 n &&& BitVec.ofInt 64 1023).toNat = (n % ((2 ^ 64 : Nat) : Int)).toNat % 2 ^ 10 := by
    rw [BitVec.toNat_and, BitVec.toNat_ofInt, h, Nat.and_two_pow_sub_one_eq_mod]
  show IntKind.i64.wrap ((BitVec.ofInt 64 n &&& BitVec.ofInt 64 1023).toNat : Nat) = n % 1024
  rw [key, IntKind.wrap_i64]
  omega

theorem and65535 (n : Int) : bits .and .i64 n 65535 = n % 65536 := by
  have h : (BitVec.ofInt 64 65535).toNat = 2 ^ 16 - 1 := by decide
  have key : (BitVec.ofInt 64 n &&& BitVec.ofInt 64 65535).toNat = (n % ((2 ^ 64 : Nat) : Int)).toNat % 2 ^ 16 := by
    rw [BitVec.toNat_and, BitVec.toNat_ofInt, h, Nat.and_two_pow_sub_one_eq_mod]
  show IntKind.i64.wrap ((BitVec.ofInt 64 n &&& BitVec.ofInt 64 65535).toNat : Nat) = n % 65536
  rw [key, IntKind.wrap_i64]
  omega

end Go.Proofs.Ytibleipfablniaa

/-
  THE WALK over the law StartNew: a new machine is all empty, all idle, all at 0, for every two numbers and two Bools. Condition: that the numbers are ints.
-/
namespace Go.Proofs.Ytibleipfablniaa
open Go.RowKit

theorem mod3u (p : Int) : ∃ q : Nat, wrap64 ((IntKind.u64.wrap p).tmod 3) = (q : Int) ∧ q ≤ 2 := by
  have h : 0 ≤ IntKind.u64.wrap p := by simp only [IntKind.wrap_u64]; omega
  rw [Int.tmod_eq_emod_of_nonneg h]
  refine ⟨(IntKind.u64.wrap p % 3).toNat, ?_, by omega⟩
  unfold wrap64
  omega

theorem HasM.parts {w : World} {M : Mc} {c : Cfg} {a b d e : Sl} (h : HasM w (machV c a b d e) M) : HasRs w (slV a) M.rs ∧ HasPs w (slV b) M.ps ∧ HasTs w (slV d) M.ts ∧ HasE evK w (slV e) M.es := by
  obtain ⟨qR, qP, qT, qH, hv, h1, h2, h3, h4⟩ := h
  simp only [machV, cells9, Value.agg.injEq, Array.mk.injEq, List.cons.injEq] at hv
  obtain ⟨_, _, _, _, _, e5, e6, e7, e8, _⟩ := hv
  exact ⟨by rw [e5]; exact h1, by rw [e6]; exact h2, by rw [e7]; exact h3, by rw [e8]; exact h4⟩
theorem getD_rep {α : Type} (n k : Nat) (x d : α) (h : k < n) : (List.replicate n x).getD k d = x := by simp [List.getD, h]
def ring8 : Rg := ⟨0, 0, 0, List.replicate 8 Slt.zero⟩
theorem new8 : (newS 8).1 = ring8 := by decide

set_option maxRecDepth 8000 in
set_option maxHeartbeats 8000000 in
theorem lawStartNew (w : World) (a0 : Int) (_b0 : -9223372036854775808 ≤ a0 ∧ a0 ≤ 9223372036854775807) (a1 : Int) (_b1 : -9223372036854775808 ≤ a1 ∧ a1 ≤ 9223372036854775807) (two more : Bool) :
    Calls Try.prog 3 #[.int .i64 a0, .int .i64 a1, .bool two, .bool more] w fun e w' => e = .returned (.bool true) ∧ Le w w' := by
  obtain ⟨o, ho, ho2⟩ := mod3u a0
  obtain ⟨m, hm, hm3⟩ : ∃ m : Nat, bits .and .i64 a1 3 = (m : Int) ∧ m ≤ 3 := ⟨(a1 % 4).toNat, by rw [and3]; omega, by omega⟩
  go_enter Try.func3, Try.ntmps3
  go_wp2_with fail
  refine (lawAwake14 _).mono ?_
  rintro e w1 ⟨rfl, hl⟩
  go_upto_if 26 with fail
  have hb0 := Box.new w1 #[.int .i64 (o : Int), .int .i64 1, .int .i64 1, .int .i64 (1 + (m : Int)), .int .i64 8] 25
  have hA0 := Le.alloc w1 (.cells #[.int .i64 (o : Int), .int .i64 1, .int .i64 1, .int .i64 (1 + (m : Int)), .int .i64 8] 25)
  generalize hW : w1.alloc (.cells #[.int .i64 (o : Int), .int .i64 1, .int .i64 1, .int .i64 (1 + (m : Int)), .int .i64 8] 25) = W at hb0 hA0 ⊢
  clear hW
  have hg0 : w.heap.size ≤ w1.heap.size := hl.size
  replace hl := hl.trans hA0
  clear hA0
  generalize w1.heap.size = g at hb0 hg0 ⊢
  go_cut [9] from 26 (fun s9 wc => s9 = .pointer (some ⟨g, 0, none⟩) ∧ ∃ r : Nat, (r = 1 ∨ r = 2) ∧ Box wc g #[.int .i64 (o : Int), .int .i64 (r : Int), .int .i64 1, .int .i64 (1 + (m : Int)), .int .i64 8] 25 ∧ Le w wc)
  case first =>
    have z1 := hb0.cell 1
    have f1 := hb0.frozen 1
    cases two
    · go_wp2_with fail
      go_meet
      case rel => exact ⟨rfl, 1, .inl rfl, hb0, hl⟩
    · go_wp2_with fail
      go_meet
      case rel => exact ⟨rfl, 2, .inr rfl, hb0.set 1 _, hl.set hg0⟩
  case rest =>
    clear hb0 hl
    obtain ⟨rfl, r, hr, hb0, hl⟩ := hcut
    go_upto_if 28 with fail
    rename_i wc1 
    go_cut [9] from 26 (fun s9 wc => s9 = .pointer (some ⟨g, 0, none⟩) ∧ ∃ l : Nat, (l = 1 ∨ l = 2) ∧ Box wc g #[.int .i64 (o : Int), .int .i64 (r : Int), .int .i64 (l : Int), .int .i64 (1 + (m : Int)), .int .i64 8] 25 ∧ Le w wc)
    case first =>
      have z1 := hb0.cell 2
      have f1 := hb0.frozen 2
      cases more
      · go_wp2_with fail
        go_meet
        case rel => exact ⟨rfl, 1, .inl rfl, hb0, hl⟩
      · go_wp2_with fail
        go_meet
        case rel => exact ⟨rfl, 2, .inr rfl, hb0.set 2 _, hl.set hg0⟩
    case rest =>
      clear hb0 hl
      obtain ⟨rfl, l, hl2, hb0, hl⟩ := hcut
      obtain ⟨c, hc⟩ : ∃ c : Cfg, c = ⟨(o : Int), (r : Int), (l : Int), 1 + (m : Int), 8⟩ := ⟨_, rfl⟩
      have n1 := fun w' => startNewAs (new_fresh (o := (o : Int)) (r := (r : Int)) (l := (l : Int)) (t := 1 + (m : Int)) (by omega) (by omega) (by omega) (by omega)) w'
      have hfm := may_fresh (o := (o : Int)) (r := (r : Int)) (l := (l : Int)) (t := 1 + (m : Int)) (by omega) (by omega) (by omega) (by omega)
      have hfit : FitM (freshM ⟨(o : Int), (r : Int), (l : Int), 1 + (m : Int), 8⟩) := fitM_fresh (by
        have : newM ⟨(o : Int), (r : Int), (l : Int), 1 + (m : Int), 8⟩ = _ := new_fresh (by omega) (by omega) (by omega) (by omega)
        unfold newM at this
        split at this
        · assumption
        · simp at this)
      simp only [freshM] at n1
      obtain ⟨z0, z1, z2, z3, z4⟩ := hb0.slot
      go_wp2_with fail
      refine (n1 _).mono ?_
      rintro e w3 ⟨⟨ra, rn, rc⟩, ⟨pa, pn, pc⟩, ⟨ta, tn, tc⟩, qH, rfl, o1, l1⟩
      replace hb0 := hb0.le l1
      replace hl := hl.trans l1
      clear z0 z1 z2 z3 z4 l1 n1
      have hb1 := Box.new w3 (cells9 ⟨(o : Int), (r : Int), (l : Int), 1 + (m : Int), 8⟩ (ra, rn, rc) (pa, pn, pc) (ta, tn, tc) qH) 31
      have a1 := Le.alloc w3 (.cells (cells9 ⟨(o : Int), (r : Int), (l : Int), 1 + (m : Int), 8⟩ (ra, rn, rc) (pa, pn, pc) (ta, tn, tc) qH) 31)
      go_upto_region 9 with fail
      generalize hW1 : w3.alloc (.cells (cells9 ⟨(o : Int), (r : Int), (l : Int), 1 + (m : Int), 8⟩ (ra, rn, rc) (pa, pn, pc) (ta, tn, tc) qH) 31) = W1 at hb1 a1 ⊢
      clear hW1
      generalize w3.heap.size = g1 at hb1 ⊢
      replace hb0 := hb0.le a1
      replace hl := hl.trans a1
      replace o1 := o1.le a1
      clear a1
      obtain ⟨n1, n2, n3, n4⟩ := o1.has.lens
      simp only [List.length_replicate, Int.toNat_natCast, List.length_nil] at n1 n2 n3 n4
      have n3' : tn = m + 1 := by omega
      subst n1 n2 n3'
      have n4' : qH.2.1 = 0 := n4
      have o2 := o1.has
      obtain ⟨⟨y0, y1, y2, y3, y4⟩, y5, y6, y7, y8⟩ := hb1.mach
      obtain ⟨z0, z1, z2, z3, z4⟩ := hb0.slot
      go_wp2_with fail
      refine (lawNum _ _).mono ?_
      rintro e _ ⟨rfl, rfl⟩
      clear hc c
      obtain ⟨hR, hP, hT, _⟩ := o2.parts
      simp only [Int.toNat_natCast, new8] at hR hP hT
      rw [← n3] at hT
      obtain ⟨_, _, hv, _, _, oR⟩ := hR.open
      simp only [slV, Value.slice.injEq, List.length_replicate] at hv oR
      obtain ⟨rfl, _, rfl⟩ := hv
      obtain ⟨_, _, hv, _, _, oP⟩ := hP.open
      simp only [slV, Value.slice.injEq, List.length_replicate] at hv oP
      obtain ⟨rfl, _, rfl⟩ := hv
      obtain ⟨_, _, hv, _, _, oT⟩ := hT.open
      simp only [slV, Value.slice.injEq, List.length_replicate] at hv oT
      obtain ⟨rfl, _, rfl⟩ := hv
      have HN3 : Hid (m + 1 = (1 + (m : Int)).toNat) := n3
      clear n3 n4 hR hP hT
      go_wp2_with fail
      clear z0 z1 z2 z3 z4 y0 y1 y2 y3 y4 y5 y6 y7 y8
      go_loopw [12] (fun i wr => ∃ k : Nat, k ≤ rn ∧ i = .int .i64 k ∧ Le W1 wr) (fun i _ => rn - (intOf i).toNat)
      case atStart => exact ⟨0, by omega, rfl, Le.refl _⟩
      case round =>
        obtain ⟨k, hk, rfl, hle⟩ := hrel
        obtain ⟨⟨y0, y1, y2, y3, y4⟩, y5, y6, y7, y8⟩ := (hb1.le hle).mach
        obtain ⟨z0, z1, z2, z3, z4⟩ := (hb0.le hle).slot
        simp only [slV] at y5 y6 y7
        by_cases hlt : k < rn
        · have hlt' : (k : Int) < (rn : Int) := by omega
          obtain ⟨b, off, rfl, hcell⟩ := oR (by omega)
          obtain ⟨q, hat, hq⟩ := hcell k hlt
          rw [getD_rep _ _ _ _ hlt] at hat hq
          obtain ⟨x0, x1, x2, x3⟩ := hat.le hle
          simp only [ring8] at x0 x1 x2
          have hx : HasR wr (ringV 0 0 0 q) ring8 := ⟨q, rfl, hq.le hle⟩
          clear hat hq hcell oP oT
          have mk8 := make8
          go_upto_region 14 with fail
          have hsr : ∀ w' u, Le wr w' → HasR w' u ring8 → Calls Try.prog 8 #[ringV 0 0 0 q, u] w' fun e w'' => e = .returned (.bool true) ∧ Le w' w'' := fun w' u l hu => by
            have := lawSameRing (ringV 0 0 0 q) u ring8 ring8 w' (hx.le l) hu (by unfold FitR ring8; decide)
            simpa only [decide_true] using this
          have hAl := (Le.alloc wr (.cells (zerosV 8) 85)).trans (Le.drew _)
          have x0' := cell_le x0 hAl
          have x1' := cell_le x1 hAl
          have x2' := cell_le x2 hAl
          have x3' := cell_le x3 hAl
          have y5' := cell_le y5 hAl
          clear hAl
          go_region_with (first | (go_at_call 8; refine (hsr _ _ ((Le.alloc _ _).trans (Le.drew _)) ⟨_, rfl, ((OwnL.made _ 0 8 (Nat.zero_le _) (by decide)).has).le (Le.drew _)⟩).mono ?_; rintro e w9 ⟨rfl, l9⟩))
          all_goals
            go_wp2_with fail
            go_roundw
            case rel => exact ⟨k + 1, by omega, by go_num, hle.trans (((Le.alloc _ _).trans (Le.drew _)).trans l9)⟩
            case measure => simp [intOf]; omega
        · clear oR
          have hkl : (rn : Int) ≤ (k : Int) := by omega
          go_wp2_with fail
          clear y0 y1 y2 y3 y4 y5 y6 y7 y8 z0 z1 z2 z3 z4
          go_loopw [13] (fun i wr' => ∃ k : Nat, k ≤ pn ∧ i = .int .i64 k ∧ Le wr wr') (fun i _ => pn - (intOf i).toNat)
          case atStart => exact ⟨0, by omega, rfl, Le.refl _⟩
          case round =>
            clear hkl hk hlt
            obtain ⟨k, hk, rfl, hle2⟩ := hrel
            have hle0 := hle.trans hle2
            clear hle
            have hle := hle0
            clear hle0
            obtain ⟨⟨y0, y1, y2, y3, y4⟩, y5, y6, y7, y8⟩ := (hb1.le hle).mach
            obtain ⟨z0, z1, z2, z3, z4⟩ := (hb0.le hle).slot
            simp only [slV] at y5 y6 y7
            by_cases hlt : k < pn
            · have hlt' : (k : Int) < (pn : Int) := by omega
              obtain ⟨b, off, rfl, hcell⟩ := oP (by omega)
              obtain ⟨vs, qa, qb, hat, hs, ha, hb⟩ := hcell k hlt
              rw [getD_rep _ _ _ _ hlt] at hs ha hb
              replace hat := hat.le hle
              have hsS : HasS wr (stV vs) St.zero := (HasS.le ⟨vs, rfl, hs⟩ hle)
              replace ha := ha.le hle
              replace hb := hb.le hle
              clear hs hcell oT
              obtain ⟨w5, hrun, o5, l5⟩ := run_make_ints wr 0 rn (by omega) (Nat.zero_le _)
              have hsz : wr.heap.size = wr.heap.size := rfl
              go_upto_region 20 with fail
              clear hrun
              clear y0 y1 y2 y3 y4 y5 y6 y7 y8 z0 z1 z2 z3 z4
              have hz := o5.has
              generalize wr.heap.size = g5 at hz ⊢
              obtain ⟨⟨y0, y1, y2, y3, y4⟩, y5, y6, y7, y8⟩ := ((hb1.le hle).le l5).mach
              simp only [slV] at y5 y6 y7
              obtain ⟨x0, x1, x2, x3, x4, x5⟩ := hat.le l5
              go_wp2_with fail
              refine (lawSameState (stV vs) stZ St.zero St.zero _ (hsS.le l5) (HasS.zero _) fit_zero).mono ?_
              simp only [decide_true]
              rintro e w6 ⟨rfl, l6⟩
              clear y0 y1 y2 y3 y4 y5 y6 y7 y8 x0 x1 x2 x3 x4 x5
              obtain ⟨⟨y0, y1, y2, y3, y4⟩, y5, y6, y7, y8⟩ := (((hb1.le hle).le l5).le l6).mach
              simp only [slV] at y5 y6 y7
              obtain ⟨x0, x1, x2, x3, x4, x5⟩ := (hat.le l5).le l6
              go_wp2_with fail
              refine (lawSameI (slV qa) (.slice (some ⟨g5, 0, none⟩) rn rn) (List.replicate rn 0) (List.replicate rn 0) _ ((ha.le l5).le l6) (hz.le l6) (by simp; omega)).mono ?_
              simp only [decide_true]
              rintro e w7 ⟨rfl, l7⟩
              clear y0 y1 y2 y3 y4 y5 y6 y7 y8 x0 x1 x2 x3 x4 x5
              obtain ⟨⟨y0, y1, y2, y3, y4⟩, y5, y6, y7, y8⟩ := ((((hb1.le hle).le l5).le l6).le l7).mach
              simp only [slV] at y5 y6 y7
              obtain ⟨x0, x1, x2, x3, x4, x5⟩ := ((hat.le l5).le l6).le l7
              go_wp2_with fail
              refine (lawSameI (slV qb) (.slice (some ⟨g5, 0, none⟩) rn rn) (List.replicate rn 0) (List.replicate rn 0) _ (((hb.le l5).le l6).le l7) ((hz.le l6).le l7) (by simp; omega)).mono ?_
              simp only [decide_true]
              rintro e w8 ⟨rfl, l8⟩
              clear y0 y1 y2 y3 y4 y5 y6 y7 y8 x0 x1 x2 x3 x4 x5
              go_wp2_with fail
              go_roundw
              case rel => exact ⟨k + 1, by omega, by go_num, hle2.trans (((l5.trans l6).trans l7).trans l8)⟩
              case measure => simp [intOf]; omega
            · clear oP
              have hkl : (pn : Int) ≤ (k : Int) := by omega
              go_wp2_with fail
              clear y0 y1 y2 y3 y4 y5 y6 y7 y8 z0 z1 z2 z3 z4
              rename_i wq _ _ _ _ _
              go_loopw [15] (fun i wr' => ∃ k : Nat, k ≤ m + 1 ∧ i = .int .i64 k ∧ Le W1 wr') (fun i _ => m + 1 - (intOf i).toNat)
              case atStart => exact ⟨0, by omega, rfl, hle⟩
              case round =>
                clear hkl hk hlt hle hle2
                obtain ⟨k, hk, rfl, hle⟩ := hrel
                obtain ⟨⟨y0, y1, y2, y3, y4⟩, y5, y6, y7, y8⟩ := (hb1.le hle).mach
                obtain ⟨z0, z1, z2, z3, z4⟩ := (hb0.le hle).slot
                simp only [slV] at y5 y6 y7
                by_cases hlt : k < m + 1
                · have hlt' : (k : Int) < 1 + (m : Int) := by omega
                  obtain ⟨b, off, rfl, hcell⟩ := oT (by omega)
                  obtain ⟨qa, qb, hat, ha, hb⟩ := hcell k hlt
                  rw [getD_rep _ _ _ _ hlt] at hat ha hb
                  obtain ⟨x0, x1, x2, x3, x4, x5, x6, x7, x8, x9, x10, x11⟩ := hat.le hle
                  have hTT : HasT wr (thV Th.zero qa qb) Th.zero := ⟨qa, qb, rfl, ha.le hle, hb.le hle⟩
                  have hs := lawSameThread (thV Th.zero qa qb) (thV Th.zero slZ slZ) Th.zero Th.zero wr hTT ⟨slZ, slZ, rfl, Has.nil _, Has.nil _⟩ (by decide) (by decide)
                  simp only [Th.zero, decide_true] at hs
                  simp only [Th.zero] at x0 x1 x2 x3 x4 x5 x7 x8 x9 x10
                  clear hat ha hb hTT hcell oT
                  go_wp2_with fail
                  refine hs.mono ?_
                  rintro e w6 ⟨rfl, l6⟩
                  go_wp2_with fail
                  go_roundw
                  case rel => exact ⟨k + 1, by omega, by go_num, hle.trans l6⟩
                  case measure => simp [intOf]; omega
                · have hge : 1 + (m : Int) ≤ (k : Int) := by omega
                  have s1 := startMay _ (freshM ⟨(o : Int), (pn : Int), (rn : Int), 1 + (m : Int), 8⟩) _ (o2.le hle) hfit
                  rw [hfm] at s1
                  clear oT
                  go_wp2_with fail
                  refine s1.mono ?_
                  rintro e w6 ⟨rfl, l6⟩
                  go_wp2_with fail
                  go_ret
                  exact ⟨rfl, (hl.trans hle).trans l6⟩

end Go.Proofs.Ytibleipfablniaa
