/-
  PARTS LAID TOGETHER, each with its own opening: RyT, Bits, RyZ.
-/
import Derived.Test.YtepplhbajmlbpaaGreatCom7
import Derived.Test.YtepplhbajmlbpaaGreatCom1
import Derived.Laws.BitsLemmas
import Derived.Deep.RegionHeld3
import Derived.Deep.QuietTactic
import Derived.BigQuiet
namespace Go.Proofs.YtepplhbajmlbpaaGreat
open Go.RowKit
def condB (M : Mc) (t : Int) : Bool := fitB M && (mayM M && (decide (0 ≤ t ∧ t < M.c.t) && (decide ((M.th t).c = 0) && (thereB M 0 0 t && (opUp (M.th t).c (M.th t).r (M.th t).a && (decide (1 ≤ (M.th t).st ∧ (M.th t).st ≤ 7) && decide ((updM M t).2 = 0)))))))
theorem pickGo {M : Mc} {t : Int} (h : condB M t = true) (v : Value) (w : World) (hx : HasM w v M) : Calls Tryz.prog 22 #[v, .int .i64 t] w fun e w' => ∃ v', e = .returned (.tuple #[v', .int .i64 0]) ∧ OwnA w' w.heap.size v' (updM M t).1 ∧ Le w w' := by
 unfold condB at h
 simp only [Bool.and_eq_true, decide_eq_true_eq] at h
 obtain ⟨hf, hmay, ht, hc, hth, hup, hst, her⟩ := h
 have hf := fitB_fit hf
 have hu : (thereB M 0 0 t && opUp (M.th t).c (M.th t).r (M.th t).a) = true := by rw [hth, hup]; rfl
 refine rmPickU v M t w hx hf hmay ht (by omega) (by omega) (by omega) (updM M t).1 (fun w' l => ?_)
 rcases (by omega : (M.th t).st = 1 ∨ (M.th t).st = 2 ∨ (M.th t).st = 3 ∨ (4 ≤ (M.th t).st ∧ (M.th t).st ≤ 7)) with h3 | h3 | h3 | h3
 ·have e : (updM M t).1 = stepM (postM M t).1 t 2 := by unfold updM; rw [if_pos hu, if_pos h3]
  rw [e]; exact rmUpd1 v M t w' (hx.le l) hf hth hup h3
 ·have e : (updM M t).1 = stepM (tryM M (M.home t) (M.th t).lg t).1 t (if (tryM M (M.home t) (M.th t).lg t).2.1 then 3 else 10) := by unfold updM; rw [if_pos hu, if_neg (by omega), if_pos h3]
  rw [e]; exact rmUpd2 v M t w' (hx.le l) hf hth hup h3
 ·have e : (updM M t).1 = (collectM M t).1 := by unfold updM; rw [if_pos hu, if_neg (by omega), if_neg (by omega), if_pos h3]
  rw [e]; exact rmUpd3 v M t w' (hx.le l) hf hth hup h3
 ·have e : updM M t = if (claimM M t).2 = 0 then ((claimM M t).1, 0) else (Mc.zero, 2000) := by unfold updM; rw [if_pos hu, if_neg (by omega), if_neg (by omega), if_neg (by omega), if_pos h3]
  have h0 : (claimM M t).2 = 0 := by
    rcases Classical.em ((claimM M t).2 = 0) with h | h
    ·exact h
    ·rw [e, if_neg h] at her; simp at her
  rw [e, if_pos h0]
  refine rmUpdC v M t w' (hx.le l) hf hth hup _ h3 rfl _ (fun w'' l' => claimAs (N := (claimM M t).1) ?_ v w'' ((hx.le l).le l') hf)
  rw [← h0]
def pkI (M : Mc) (t : Int) : Nat → Mc
 | 0 => M
 | i + 1 => (updM (pkI M t i) t).1
def callT (M : Mc) (t : Nat) : Mc := { M with ts := M.ts.set (t : Int).toNat (newT M 0 0 (5 + t)), es := M.es ++ [⟨(t : Int), true, 0, 0, 5 + t, 0⟩] }
def twN : Nat → Mc
 | 0 => begM
 | t + 1 => pkI (callT (twN t) t) t 6
theorem tw_cond : ∀ t, t < 2 → ∀ i, i < 6 → condB (pkI (callT (twN t) t) t i) t = true := by decide +kernel
theorem tw_c : ∀ t, t < 2 → ∀ i, i < 7 → (pkI (callT (twN t) t) t i).c = begC := by decide +kernel
theorem tw_call : ∀ t : Nat, t < 2 → fitB (twN t) = true ∧ mayM (twN t) = true ∧ opMay 0 0 (5 + (t : Int)) = true ∧ (0 ≤ (t : Int) ∧ (t : Int) < (twN t).c.t) ∧ ((twN t).th (t : Int)).st = 0 ∧ ((twN t).es.length : Int) + 2 + busy (twN t).ts ≤ 64 := by decide +kernel
def rpI (M : Mc) (r : Int) : Nat → Mc
 | 0 => M
 | k + 1 => (oneM (rpI M r k) r 0).1
def rpM (a b : Nat) : Mc := rpI (rpI (twN 2) 0 a) 1 b
theorem rp_0 : ∀ a, a < 3 → ∀ b, b < 3 → oneM (rpM a b) 0 0 = (rpM (min 2 (a + 1)) b, decide (a < 2), 0) := by decide +kernel
theorem rp_1 : ∀ a, a < 3 → ∀ b, b < 3 → oneM (rpM a b) 1 0 = (rpM a (min 2 (b + 1)), decide (b < 2), 0) := by decide +kernel
theorem rp_all : ∀ a, a < 3 → ∀ b, b < 3 → fitB (rpM a b) = true ∧ mayM (rpM a b) = true ∧ (rpM a b).c = begC ∧ (rpM a b).ts.length = 4 ∧ (rpM a b).ps.length = 2 ∧ ((rpM a b).ts.getD 0 Th.zero).re = decide (1 ≤ a) ∧ ((rpM a b).ts.getD 1 Th.zero).re = decide (2 ≤ b) := by decide +kernel
theorem rp_end : ((rpM 2 2).ps.getD 0 Rp.zero).s = ((rpM 2 2).ps.getD 1 Rp.zero).s ∧ ((rpM 2 2).ps.getD 0 Rp.zero).s.at 0 = [5, 6] := by decide +kernel
theorem rp_open {a b : Nat} (ha : a < 3) (hb : b < 3) {w : World} {v : Value} (h : HasM w v (rpM a b)) : ∃ qR qP bT oT cT qH, v = machV begC qR qP (some ⟨bT, oT, none⟩, 4, cT) qH ∧ qP.2.1 = 2 ∧ w.cell? ⟨bT, oT + 9, none⟩ = some (.bool (decide (1 ≤ a))) ∧ w.cell? ⟨bT, oT + 12 + 9, none⟩ = some (.bool (decide (2 ≤ b))) := by
 obtain ⟨_, hmay, hc, h4, h2, e0, e1⟩ := rp_all a ha b hb
 obtain ⟨bR, oR, cR, bP, oP, cP, bT, oT, cT, qH, rfl, _, _, hcT, _⟩ := h.opens hmay
 obtain ⟨_, _, ⟨_, _, _, _, _, _, _, _, _, x9, _⟩, _, _⟩ := hcT 0 (by omega)
 obtain ⟨_, _, ⟨_, _, _, _, _, _, _, _, _, y9, _⟩, _, _⟩ := hcT 1 (by omega)
 rw [e0, Nat.zero_mul, Nat.add_zero] at x9
 rw [e1, Nat.one_mul] at y9
 rw [hc, h4, h2]
 exact ⟨_, _, bT, oT, cT, qH, rfl, rfl, x9, y9⟩
theorem rp_endF : ∀ i, i < 4 → (((rpM 2 2).ps.getD 0 Rp.zero).s.at i).length * 8 ≤ 140737488351232 := by decide +kernel
theorem rp_last {w : World} {v : Value} (h : HasM w v (rpM 2 2)) : ∃ qR bP oP cP qT qH, ∃ vs us : Nat → Sl, ∃ S : St, v = machV begC qR (some ⟨bP, oP, none⟩, 2, cP) qT qH ∧
   (w.cell? ⟨bP, oP, none⟩ = some (slV (vs 0)) ∧ w.cell? ⟨bP, oP + 1, none⟩ = some (slV (vs 1)) ∧ w.cell? ⟨bP, oP + 2, none⟩ = some (slV (vs 2)) ∧ w.cell? ⟨bP, oP + 3, none⟩ = some (slV (vs 3))) ∧
   (w.cell? ⟨bP, oP + 6, none⟩ = some (slV (us 0)) ∧ w.cell? ⟨bP, oP + 6 + 1, none⟩ = some (slV (us 1)) ∧ w.cell? ⟨bP, oP + 6 + 2, none⟩ = some (slV (us 2)) ∧ w.cell? ⟨bP, oP + 6 + 3, none⟩ = some (slV (us 3))) ∧
   HasS w (stV vs) S ∧ HasS w (stV us) S ∧ Has w (slV (vs 0)) [5, 6] ∧ Fit S := by
 obtain ⟨_, hmay, hc, h4, h2, _, _⟩ := rp_all 2 (by decide) 2 (by decide)
 obtain ⟨bR, oR, cR, bP, oP, cP, bT, oT, cT, qH, rfl, _, hcP, _, _⟩ := h.opens hmay
 obtain ⟨vs, _, _, ⟨x0, x1, x2, x3, _, _⟩, hs, _, _⟩ := hcP 0 (by omega)
 obtain ⟨us, _, _, ⟨y0, y1, y2, y3, _, _⟩, hu, _, _⟩ := hcP 1 (by omega)
 rw [Nat.zero_mul, Nat.add_zero] at x0 x1 x2 x3
 rw [Nat.one_mul] at y0 y1 y2 y3
 rw [hc, h4, h2]
 refine ⟨_, bP, oP, cP, _, qH, vs, us, ((rpM 2 2).ps.getD 0 Rp.zero).s, rfl, ⟨x0, x1, x2, x3⟩, ⟨y0, y1, y2, y3⟩, ⟨vs, rfl, hs⟩, ⟨us, rfl, ?_⟩, ?_, rp_endF⟩
 ·rw [rp_end.1]; exact hu
 ·rw [← rp_end.2]; exact hs 0 (by decide)
end Go.Proofs.YtepplhbajmlbpaaGreat

namespace Go.Proofs.YtepplhbajmlbpaaGreat
theorem and1 (n : Int) : bits .and .i64 n 1 = n % 2 := by
 have h : (BitVec.ofInt 64 1).toNat = 2 ^ 1 - 1 := by decide
 have key : (BitVec.ofInt 64 n &&& BitVec.ofInt 64 1).toNat = (n % ((2 ^ 64 : Nat) : Int)).toNat % 2 ^ 1 := by
   rw [BitVec.toNat_and, BitVec.toNat_ofInt, h, Nat.and_two_pow_sub_one_eq_mod]
 show IntKind.i64.wrap ((BitVec.ofInt 64 n &&& BitVec.ofInt 64 1).toNat : Nat) = n % 2
 rw [key, IntKind.wrap_i64]
 omega
theorem and1023 (n : Int) : bits .and .i64 n 1023 = n % 1024 := by
 have h : (BitVec.ofInt 64 1023).toNat = 2 ^ 10 - 1 := by decide
 have key : (BitVec.ofInt 64 n &&& BitVec.ofInt 64 1023).toNat = (n % ((2 ^ 64 : Nat) : Int)).toNat % 2 ^ 10 := by
   rw [BitVec.toNat_and, BitVec.toNat_ofInt, h, Nat.and_two_pow_sub_one_eq_mod]
 show IntKind.i64.wrap ((BitVec.ofInt 64 n &&& BitVec.ofInt 64 1023).toNat : Nat) = n % 1024
 rw [key, IntKind.wrap_i64]
 omega
end Go.Proofs.YtepplhbajmlbpaaGreat

namespace Go.Proofs.YtepplhbajmlbpaaGreat
open Go.RowKit
theorem OwnA.ownM {w : World} {base : Nat} {v : Value} {M : Mc} (h : OwnA w base v M) : OwnM w 0 v M := by
 obtain ⟨L, hv, hm, ho, _⟩ := h
 exact (show OwnM w base v M from ⟨L, hv, hm.symm, ho⟩).base (Nat.zero_le _)
theorem OwnM.put9 {w : World} {B g : Nat} {v : Value} {M : Mc} {cs : Array Value} (h : OwnM w B v M) (hb : Box w g cs 29) (c : Cfg) (a b d e : Sl) : OwnM (Go.Proofs.YtepplhbajmlbpaaGreat.put9 w g c a b d e) B v M := by
 obtain ⟨L, hv, hm, ho⟩ := h
 exact ⟨L, hv, hm, ho.put9 hb c a b d e⟩
def nI (b : Bool) : Int := if b then 1 else 0
def cntB (a b : Nat) : Int := nI (decide (1 ≤ a)) + nI (decide (2 ≤ b))
def sq3 (a b c : Int) : Nat → Int
 | 0 => a
 | 1 => b
 | _ => c
theorem callTAs {t : Nat} (ht : t < 2) (v : Value) (w : World) (hx : HasM w v (twN t)) : Calls Tryz.prog 21 #[v, .int .i64 t, opV 0 0 (5 + t)] w fun e w' => ∃ qR qP qT qH, e = .returned (.tuple #[machV begC qR qP qT qH, .int .i64 0]) ∧ OwnM w' 0 (machV begC qR qP qT qH) (pkI (callT (twN t) t) t 0) ∧ Le w w' := by
 obtain ⟨h1, h2, h3, h4, h5, h6⟩ := tw_call t ht
 have hc := tw_c t ht 0 (by decide)
 refine (rmCallOk v (twN t) t 0 0 (5 + t) w hx (fitB_fit h1) h2 h3 h4 h5 h6).mono ?_
 rintro e w' ⟨v', rfl, o, l⟩
 have o' : OwnA w' w.heap.size v' (pkI (callT (twN t) t) t 0) := o
 obtain ⟨qR, qP, qT, qH, rfl⟩ := o'.open
 rw [hc] at o' ⊢
 exact ⟨qR, qP, qT, qH, rfl, o'.ownM, l⟩
theorem pickTAs {t : Nat} (ht : t < 2) {i : Nat} (hi : i < 6) (v : Value) (w : World) (hx : HasM w v (pkI (callT (twN t) t) t i)) : Calls Tryz.prog 22 #[v, .int .i64 t] w fun e w' => ∃ qR qP qT qH, e = .returned (.tuple #[machV begC qR qP qT qH, .int .i64 0]) ∧ OwnM w' 0 (machV begC qR qP qT qH) (pkI (callT (twN t) t) t (i + 1)) ∧ Le w w' := by
 have hc := tw_c t ht (i + 1) (by omega)
 refine (pickGo (tw_cond t ht i hi) v w hx).mono ?_
 rintro e w' ⟨v', rfl, o, l⟩
 have o' : OwnA w' w.heap.size v' (pkI (callT (twN t) t) t (i + 1)) := o
 obtain ⟨qR, qP, qT, qH, rfl⟩ := o'.open
 rw [hc] at o' ⊢
 exact ⟨qR, qP, qT, qH, rfl, o'.ownM, l⟩
set_option maxRecDepth 8000 in
set_option maxHeartbeats 16000000 in
theorem lawReplayTwo (w : World) (v0 : Value) (rs : List Int) (hx : Has w v0 rs) (hrs : rs.length * 8 ≤ 140737488351232) : Calls Tryz.prog 7 #[v0] w fun e w' => e = .returned (.bool true) ∧ Le w w' := by
 obtain ⟨ra, rc, rfl, hrc, _, hrx⟩ := hx
 obtain ⟨nr, hnr⟩ : ∃ n, n = rs.length := ⟨_, rfl⟩
 have HNR : Hid (nr = rs.length) := hnr
 rw [← hnr] at hrc hrx hrs ⊢
 clear hnr
 have hl := Le.refl w
 go_enter Tryz.func7, Tryz.ntmps7
 go_wp2_with fail
 refine (lawAwake18 _).mono ?_
 rintro e w0 ⟨rfl, l0⟩
 replace hl := hl.trans l0
 go_wp2_with fail
 refine (begun18 _).mono ?_
 rintro e w1 ⟨qR, qP, qT, qH, rfl, oM, l1⟩
 replace hl := hl.trans l1
 have hsw := hl.size
 have hbM := Box.new w1 (cells9 begC qR qP qT qH) 29
 have a1 := Le.alloc w1 (.cells (cells9 begC qR qP qT qH) 29)
 go_upto_region 4 with fail
 generalize hW1 : w1.alloc (.cells (cells9 begC qR qP qT qH) 29) = W1 at hbM a1 ⊢
 clear hW1
 have hggM : w1.heap.size ≤ w1.heap.size := Nat.le_refl _
 generalize hgg : w1.heap.size = gM at hbM hggM ⊢
 have hsgM : w1.heap.size ≤ gM := by omega
 clear hgg hggM
 replace hl := hl.trans a1
 replace oM := (oM.le a1).base (Nat.zero_le _)
 clear a1 l0 l1
 have hgM : w.heap.size ≤ gM := by omega
 go_wp2_with fail
 go_loopw [4] (fun i wr => ∃ (t : Nat) (qR qP qT qH : Sl), t ≤ 2 ∧ i = .int .i64 t ∧ Box wr gM (cells9 begC qR qP qT qH) 29 ∧ Hid (OwnM wr 0 (machV begC qR qP qT qH) (twN t)) ∧ Le w wr) (fun i _ => 2 - (intOf i).toNat)
 case atStart => exact ⟨0, qR, qP, qT, qH, by omega, rfl, hbM, oM, hl⟩
 case round =>
   clear hbM oM hl
   obtain ⟨t, xR, xP, xT, xH, ht, rfl, hbM, oM, hl⟩ := hrel
   by_cases hlt : t < 2
   ·have hlt' : (t : Int) < 2 := by omega
    have m1 := callTAs hlt _ wr oM.out.has
    obtain ⟨⟨y0, y1, y2, y3, y4⟩, y5, y6, y7, y8⟩ := (hbM).mach
    go_wp2_with fail
    refine m1.mono ?_
    rintro e w2 ⟨uR, uP, uT, uH, rfl, o2, l2⟩
    clear y0 y1 y2 y3 y4 y5 y6 y7 y8
    clear m1 oM
    have hb2 := hbM.le l2
    obtain ⟨⟨y0, y1, y2, y3, y4⟩, y5, y6, y7, y8⟩ := (hb2).mach
    have f0 := (hb2).frozen 0
    have f1 := (hb2).frozen 1
    have f2 := (hb2).frozen 2
    have f3 := (hb2).frozen 3
    have f4 := (hb2).frozen 4
    have f5 := (hb2).frozen 5
    have f6 := (hb2).frozen 6
    have f7 := (hb2).frozen 7
    have f8 := (hb2).frozen 8
    go_upto_region 8 with fail
    have hb3 := hb2.put9 rfl begC uR uP uT uH
    have o3 := o2.put9 hb2 begC uR uP uT uH
    have l3 := (hl.trans l2).put9 hgM begC uR uP uT uH
    show Code.wp _ _ _ _ (put9 w2 gM begC uR uP uT uH)
    clear y0 y1 y2 y3 y4 y5 y6 y7 y8
    clear f0 f1 f2 f3 f4 f5 f6 f7 f8
    generalize hW : put9 w2 gM begC uR uP uT uH = W2 at hb3 o3 l3 ⊢
    clear hW hb2 o2 hbM hl l2
    go_wp2_with fail
    go_loopw [5] (fun i wq => ∃ (k : Nat) (qR qP qT qH : Sl), k ≤ 6 ∧ i = .int .i64 k ∧ Box wq gM (cells9 begC qR qP qT qH) 29 ∧ Hid (OwnM wq 0 (machV begC qR qP qT qH) (pkI (callT (twN t) t) t k)) ∧ Le w wq) (fun i _ => 6 - (intOf i).toNat)
    case atStart => exact ⟨0, uR, uP, uT, uH, by omega, rfl, hb3, o3, l3⟩
    case round =>
      clear hb3 o3 l3
      obtain ⟨k, sR, sP, sT, sH, hk, rfl, hbM, oM, hl⟩ := hrel
      by_cases hlk : k < 6
      ·have hlk' : (k : Int) < 6 := by omega
       have m1 := pickTAs hlt hlk _ wr oM.out.has
       obtain ⟨⟨y0, y1, y2, y3, y4⟩, y5, y6, y7, y8⟩ := (hbM).mach
       go_wp2_with fail
       refine m1.mono ?_
       rintro e w2 ⟨vR, vP, vT, vH, rfl, o2, l2⟩
       clear y0 y1 y2 y3 y4 y5 y6 y7 y8
       clear m1 oM
       have hb2 := hbM.le l2
       obtain ⟨⟨y0, y1, y2, y3, y4⟩, y5, y6, y7, y8⟩ := (hb2).mach
       have f0 := (hb2).frozen 0
       have f1 := (hb2).frozen 1
       have f2 := (hb2).frozen 2
       have f3 := (hb2).frozen 3
       have f4 := (hb2).frozen 4
       have f5 := (hb2).frozen 5
       have f6 := (hb2).frozen 6
       have f7 := (hb2).frozen 7
       have f8 := (hb2).frozen 8
       go_upto_region 10 with fail
       have hb3 := hb2.put9 rfl begC vR vP vT vH
       have o3 := o2.put9 hb2 begC vR vP vT vH
       have l3 := (hl.trans l2).put9 hgM begC vR vP vT vH
       show Code.wp _ _ _ _ (put9 w2 gM begC vR vP vT vH)
       clear y0 y1 y2 y3 y4 y5 y6 y7 y8
       clear f0 f1 f2 f3 f4 f5 f6 f7 f8
       generalize hW : put9 w2 gM begC vR vP vT vH = W2 at hb3 o3 l3 ⊢
       clear hW
       go_wp2_with fail
       go_roundw
       case rel => exact ⟨k + 1, vR, vP, vT, vH, by omega, by go_num, hb3, o3, l3⟩
       case measure => simp [intOf]; omega
      ·have e6 : k = 6 := by omega
       have o6 : Hid (OwnM wr 0 (machV begC sR sP sT sH) (twN (t + 1))) := (show OwnM wr 0 _ (twN (t + 1)) from by have := oM.out; rw [e6] at this; exact this)
       have hlk' : ¬ (k : Int) < 6 := by omega
       clear e6 oM
       go_wp2_with fail
       go_roundw
       case rel => exact ⟨t + 1, sR, sP, sT, sH, by omega, by go_num, hbM, o6, hl⟩
       case measure => simp [intOf]; omega
   ·have e2 : t = 2 := by omega
    have hM : Hid (HasM wr (machV begC xR xP xT xH) (rpM 0 0)) := (show HasM wr _ (rpM 0 0) from by have := oM.out.has; rw [e2] at this; exact this)
    have hlt' : ¬ (t : Int) < 2 := by omega
    clear e2 hlt oM
    go_wp2_with fail
    go_loopw [6, 7] (fun rd i wq => ∃ (k a b : Nat) (qR qP qT qH : Sl), a ≤ 2 ∧ b ≤ 2 ∧ k ≤ 30 ∧ k ≤ nr + 8 ∧ (2 ≤ a ∨ (k + 1) / 2 ≤ a + (nr + 1) / 2) ∧ (2 ≤ b ∨ k / 2 ≤ b + nr / 2) ∧ rd = .int .i64 (cntB a b) ∧ i = .int .i64 k ∧ Box wq gM (cells9 begC qR qP qT qH) 29 ∧ Hid (HasM wq (machV begC qR qP qT qH) (rpM a b)) ∧ Le w wq) (fun _ i _ => 30 - (intOf i).toNat)
    case atStart => exact ⟨0, 0, 0, xR, xP, xT, xH, by omega, by omega, by omega, by omega, by omega, by omega, rfl, rfl, hbM, hM, hl⟩
    case round =>
      clear hbM hM hl
      obtain ⟨k, a, b, xR, xP, xT, xH, hka, hkb, hk30, hkn, hpa, hpb, rfl, rfl, hbM, hM, hl⟩ := hrel
      have HPA : Hid (2 ≤ a ∨ (k + 1) / 2 ≤ a + (nr + 1) / 2) := hpa
      have HPB : Hid (2 ≤ b ∨ k / 2 ≤ b + nr / 2) := hpb
      clear hpa hpb
      by_cases hlk : k < nr + 8 ∧ k < 30
      ·have hlk1 : (k : Int) < (nr : Int) + 8 := by omega
       have hlk2 : (k : Int) < 30 := by omega
       by_cases hkr : k < nr
       ·have hkr' : (k : Int) < (nr : Int) := by omega
        obtain ⟨bb, off, rfl, hcell⟩ := hrx (by omega)
        have ck := cell_le (hcell k hkr) hl
        obtain ⟨x, hxk⟩ : ∃ x, x = rs.getD k 0 := ⟨_, rfl⟩
        rw [← hxk] at ck
        clear hxk hcell
        obtain ⟨ki, hki⟩ : ∃ ki, bits .and .i64 (k : Int) 1 = ki := ⟨_, rfl⟩
        have HRR : Hid (k < nr) := hkr
        rcases (by have := and1 x; omega : bits .and .i64 x 1 = 0 ∨ bits .and .i64 x 1 = 1) with hb1 | hb1
        ·
         have hone := rp_0 a (by omega) b (by omega)
         have hfitM := fitB_fit (rp_all a (by omega) b (by omega)).1
         obtain ⟨is, his⟩ : ∃ is, is = (decide (a < 2)) := ⟨_, rfl⟩
         obtain ⟨a', ha'⟩ : ∃ y, y = (min 2 (a + 1)) := ⟨_, rfl⟩
         obtain ⟨b', hb'⟩ : ∃ y, y = b := ⟨_, rfl⟩
         have hone2 : oneM (rpM a b) 0 0 = (rpM a' b', is, 0) := by rw [hone, ha', hb', his]
         have m1 := replayOneAs hone2 _ wr hM.out hfitM
         have HF : Hid (a' ≤ 2 ∧ b' ≤ 2 ∧ (1 ≤ a → 1 ≤ a') ∧ (2 ≤ b → 2 ≤ b') ∧ (1 ≤ a' → ¬ 1 ≤ a → is = true ∧ (0 : Int) = 0) ∧ (2 ≤ b' → ¬ 2 ≤ b → is = true ∧ (0 : Int) = 1) ∧ (2 ≤ a' ∨ (k + 2) / 2 ≤ a' + (nr + 1) / 2) ∧ (2 ≤ b' ∨ (k + 1) / 2 ≤ b' + nr / 2)) := by
           have hpa := HPA.out
           have hpb := HPB.out
           have hrr := HRR.out
           refine ⟨by omega, by omega, fun _ => by omega, fun _ => by omega, fun h1 h2 => ?_, fun h1 h2 => ?_, by omega, by omega⟩
           ·first
            | exact ⟨by rw [his]; exact decide_eq_true (by omega), rfl⟩
            | (exfalso; omega)
           ·first
            | exact ⟨by rw [his]; exact decide_eq_true (by omega), rfl⟩
            | (exfalso; omega)
         have HA2 : Hid (a' < 3 ∧ b' < 3) := ⟨by have := HF.out.1; omega, by have := HF.out.2.1; omega⟩
         have hc2 := (rp_all a' HA2.out.1 b' HA2.out.2).2.2.1
         rw [hc2] at m1
         clear hone hone2 ha' hb' his hfitM hc2
         obtain ⟨⟨y0, y1, y2, y3, y4⟩, y5, y6, y7, y8⟩ := (hbM).mach
         go_wp2_with fail
         refine m1.mono ?_
         rintro e w2 ⟨aR, aP, aT, aH, rfl, oA, l2⟩
         clear y0 y1 y2 y3 y4 y5 y6 y7 y8
         clear m1
         have hA := oA.ownM
         replace hbM := hbM.le l2
         have hM2 : Hid (HasM w2 (machV begC xR xP xT xH) (rpM a b)) := hM.out.le l2
         replace hl := hl.trans l2
         clear l2 oA
         obtain ⟨zR, zP, gT, oT, cT, zH, hv, hz2, n0, n1⟩ := rp_open HA2.out.1 HA2.out.2 hA.has
         rw [hv] at hA ⊢
         clear hv aR aP aT aH
         obtain ⟨zPa, zPn, zPc⟩ := zP
         simp only at hz2
         subst hz2
         obtain ⟨zT, hzT⟩ : ∃ q : Sl, q = (some ⟨gT, oT, none⟩, 4, cT) := ⟨_, rfl⟩
         rw [← hzT] at hA ⊢
         have HZT : Hid (zT = (some ⟨gT, oT, none⟩, 4, cT)) := hzT
         clear hzT
         have hbA := Box.new w2 (cells9 begC zR (zPa, 2, zPc) zT zH) 29
         have a1 := Le.alloc w2 (.cells (cells9 begC zR (zPa, 2, zPc) zT zH) 29)
         go_upto_region 20 with fail
         generalize hW1 : w2.alloc (.cells (cells9 begC zR (zPa, 2, zPc) zT zH) 29) = W2 at hbA a1 ⊢
         clear hW1
         generalize w2.heap.size = gA at hbA ⊢
         replace hl := hl.trans a1
         replace hbM := hbM.le a1
         have hM3 : Hid (HasM W2 (machV begC xR xP xT xH) (rpM a b)) := hM2.out.le a1
         replace hA := hA.le a1
         replace n0 := cell_le n0 a1
         replace n1 := cell_le n1 a1
         clear a1 hM2
         obtain ⟨yR, yP, dT, pT, eT, yH, hv, _, o0, o1⟩ := rp_open (by omega) (by omega) hM3.out
         have hmT : xT = (some ⟨dT, pT, none⟩, 4, eT) := by
           simp only [machV, cells9, Value.agg.injEq, Array.mk.injEq, List.cons.injEq, slV, Value.slice.injEq] at hv
           obtain ⟨_, _, _, _, _, _, _, ⟨h1, h2, h3⟩, _⟩ := hv
           obtain ⟨t1, t2, t3⟩ := xT
           simp only at h1 h2 h3
           subst h1 h2 h3
           rfl
         clear hv
         have HMT : Hid (xT = (some ⟨dT, pT, none⟩, 4, eT)) := hmT
         clear hmT
         obtain ⟨⟨z0, z1, z2, z3, z4⟩, z5, z6, z7, z8⟩ := (hbA).mach
         rw [HZT.out] at z7
         simp only [slV] at z6 z7
         go_wp2_with fail
         refine (lawNum _ _).mono ?_
         rintro e _ ⟨rfl, rfl⟩
         obtain ⟨⟨y0, y1, y2, y3, y4⟩, y5, y6, y7, y8⟩ := (hbM).mach
         rw [HMT.out] at y7
         simp only [slV] at y7
         clear y0 y1 y2 y3 y4 y5 y6 y8 z0 z1 z2 z3 z4 z5 z8
         obtain ⟨fa, hfa⟩ : ∃ f, f = decide (1 ≤ a) := ⟨_, rfl⟩
         obtain ⟨fb, hfb⟩ : ∃ f, f = decide (2 ≤ b) := ⟨_, rfl⟩
         obtain ⟨ga, hga⟩ : ∃ f, f = decide (1 ≤ a') := ⟨_, rfl⟩
         obtain ⟨gb, hgb⟩ : ∃ f, f = decide (2 ≤ b') := ⟨_, rfl⟩
         have HG : Hid ((fa = true → ga = true) ∧ (fb = true → gb = true) ∧ (ga = true → fa = false → is = true ∧ (0 : Int) = 0) ∧ (gb = true → fb = false → is = true ∧ (0 : Int) = 1)) := by
           obtain ⟨_, _, h1, h2, h3, h4, _⟩ := HF.out
           rw [hfa, hfb, hga, hgb]
           simp only [decide_eq_true_eq, decide_eq_false_iff_not]
           exact ⟨h1, h2, h3, h4⟩
         obtain ⟨P0, hP0⟩ : ∃ p, p = nI fa + nI fb := ⟨_, rfl⟩
         obtain ⟨P1, hP1⟩ : ∃ p, p = nI ga + nI fb := ⟨_, rfl⟩
         obtain ⟨P2, hP2⟩ : ∃ p, p = nI ga + nI gb := ⟨_, rfl⟩
         have HCN : Hid (cntB a b = P0 ∧ cntB a' b' = P2 ∧ (ga = fa → P1 = P0) ∧ (ga = true → fa = false → P1 = P0 + 1) ∧ (gb = fb → P2 = P1) ∧ (gb = true → fb = false → P2 = P1 + 1)) := by
           rw [hP0, hP1, hP2]
           refine ⟨by rw [hfa, hfb]; rfl, by rw [hga, hgb]; rfl, fun h => by rw [h], fun h1 h2 => by rw [h1, h2]; simp only [nI]; simp; omega, fun h => by rw [h], fun h1 h2 => by rw [h1, h2]; simp only [nI]; simp⟩
         have hPb : (0 ≤ P0 ∧ P0 ≤ 2) ∧ (0 ≤ P1 ∧ P1 ≤ 2) := by
           rw [hP0, hP1]
           unfold nI
           cases fa <;> cases fb <;> cases ga <;> decide
         obtain ⟨⟨pb0, pb1⟩, pb2, pb3⟩ := hPb
         clear hP0 hP1 hP2
         rw [← hfa] at o0
         rw [← hfb] at o1
         rw [← hga] at n0
         rw [← hgb] at n1
         rw [HCN.out.1]
         clear hfa hfb hga hgb
         go_wp2_with fail
         go_loopw [6, 12] (fun rd tt wd => ∃ t : Nat, t ≤ 2 ∧ tt = .int .i64 t ∧ rd = .int .i64 (sq3 P0 P1 P2 t) ∧ wd = W2) (fun _ tt _ => 2 - (intOf tt).toNat)
         case atStart => exact ⟨0, by omega, rfl, rfl, rfl⟩
         case round =>
           obtain ⟨t, ht, rfl, rfl, hwd⟩ := hrel
           subst hwd
           by_cases ht2 : t < 2
           ·have ht2' : (t : Int) < 2 := by omega
            rcases (by omega : t = 0 ∨ t = 1) with rfl | rfl
            ·rw [show sq3 P0 P1 P2 0 = P0 from rfl]
             cases hga : ga
             ·have hfa : fa = false := by cases h : fa with | false => rfl | true => exact absurd ((HG.out.1 h).symm.trans hga) (by decide)
              have hE : Hid (P1 = P0) := HCN.out.2.2.1 (hga.trans hfa.symm)
              rw [hga] at n0
              clear hfa
              go_wp2_with fail
              go_roundw
              case rel => exact ⟨1, by omega, rfl, by show _ = Value.int .i64 P1; rw [hE.out], trivial⟩
              case measure => simp [intOf]
             ·cases hfa : fa
              ·obtain ⟨h1, h2⟩ := HG.out.2.2.1 hga hfa
               have hE : Hid (P1 = P0 + 1) := HCN.out.2.2.2.1 hga hfa
               first
               | (exfalso; revert h2; decide)
               | (subst h1
                  rw [hga] at n0
                  rw [hfa] at o0
                  clear hfa h2
                  go_wp2_with fail
                  go_roundw
                  case rel => exact ⟨1, by omega, rfl, by show _ = Value.int .i64 P1; rw [hE.out], trivial⟩
                  case measure => simp [intOf])
              ·have hE : Hid (P1 = P0) := HCN.out.2.2.1 (hga.trans hfa.symm)
               rw [hga] at n0
               rw [hfa] at o0
               clear hfa
               go_wp2_with fail
               go_roundw
               case rel => exact ⟨1, by omega, rfl, by show _ = Value.int .i64 P1; rw [hE.out], trivial⟩
               case measure => simp [intOf]
            ·rw [show sq3 P0 P1 P2 1 = P1 from rfl]
             cases hgb : gb
             ·have hfb : fb = false := by cases h : fb with | false => rfl | true => exact absurd ((HG.out.2.1 h).symm.trans hgb) (by decide)
              have hE : Hid (P2 = P1) := HCN.out.2.2.2.2.1 (hgb.trans hfb.symm)
              rw [hgb] at n1
              clear hfb
              go_wp2_with fail
              go_roundw
              case rel => exact ⟨2, by omega, rfl, by show _ = Value.int .i64 P2; rw [hE.out], trivial⟩
              case measure => simp [intOf]
             ·cases hfb : fb
              ·obtain ⟨h1, h2⟩ := HG.out.2.2.2 hgb hfb
               have hE : Hid (P2 = P1 + 1) := HCN.out.2.2.2.2.2 hgb hfb
               first
               | (exfalso; revert h2; decide)
               | (subst h1
                  rw [hgb] at n1
                  rw [hfb] at o1
                  clear hfb h2
                  go_wp2_with fail
                  go_roundw
                  case rel => exact ⟨2, by omega, rfl, by show _ = Value.int .i64 P2; rw [hE.out], trivial⟩
                  case measure => simp [intOf])
              ·have hE : Hid (P2 = P1) := HCN.out.2.2.2.2.1 (hgb.trans hfb.symm)
               rw [hgb] at n1
               rw [hfb] at o1
               clear hfb
               go_wp2_with fail
               go_roundw
               case rel => exact ⟨2, by omega, rfl, by show _ = Value.int .i64 P2; rw [hE.out], trivial⟩
               case measure => simp [intOf]
           ·have e2 : t = 2 := by omega
            have hrd : sq3 P0 P1 P2 t = cntB a' b' := by rw [e2, HCN.out.2.1]; rfl
            rw [hrd]
            have ht2' : ¬ (t : Int) < 2 := by omega
            clear e2 hrd ht2 ht y7 z6 z7
            obtain ⟨⟨z0, z1, z2, z3, z4⟩, z5, z6, z7, z8⟩ := (hbA).mach
            obtain ⟨⟨y0, y1, y2, y3, y4⟩, y5, y6, y7, y8⟩ := (hbM).mach
            have f0 := (hbM).frozen 0
            have f1 := (hbM).frozen 1
            have f2 := (hbM).frozen 2
            have f3 := (hbM).frozen 3
            have f4 := (hbM).frozen 4
            have f5 := (hbM).frozen 5
            have f6 := (hbM).frozen 6
            have f7 := (hbM).frozen 7
            have f8 := (hbM).frozen 8
            go_upto_region 15 with fail
            have hb3 := hbM.put9 rfl begC zR (zPa, 2, zPc) zT zH
            have o3 := hA.put9 hbM begC zR (zPa, 2, zPc) zT zH
            have l3 := hl.put9 hgM begC zR (zPa, 2, zPc) zT zH
            show Code.wp _ _ _ _ (put9 wr gM begC zR (zPa, 2, zPc) zT zH)
            clear y0 y1 y2 y3 y4 y5 y6 y7 y8 z0 z1 z2 z3 z4 z5 z6 z7 z8
            clear f0 f1 f2 f3 f4 f5 f6 f7 f8
            generalize hW : put9 wr gM begC zR (zPa, 2, zPc) zT zH = W3 at hb3 o3 l3 ⊢
            clear hW hbM hbA hA hl
            go_wp2_with fail
            go_roundw
            case rel => exact ⟨k + 1, a', b', zR, (zPa, 2, zPc), zT, zH, HF.out.1, HF.out.2.1, by omega, by omega, HF.out.2.2.2.2.2.2.1, HF.out.2.2.2.2.2.2.2, rfl, by go_num, hb3, o3.has, l3⟩
            case measure => simp [intOf]; omega
        ·
         have hone := rp_1 a (by omega) b (by omega)
         have hfitM := fitB_fit (rp_all a (by omega) b (by omega)).1
         obtain ⟨is, his⟩ : ∃ is, is = (decide (b < 2)) := ⟨_, rfl⟩
         obtain ⟨a', ha'⟩ : ∃ y, y = a := ⟨_, rfl⟩
         obtain ⟨b', hb'⟩ : ∃ y, y = (min 2 (b + 1)) := ⟨_, rfl⟩
         have hone2 : oneM (rpM a b) 1 0 = (rpM a' b', is, 0) := by rw [hone, ha', hb', his]
         have m1 := replayOneAs hone2 _ wr hM.out hfitM
         have HF : Hid (a' ≤ 2 ∧ b' ≤ 2 ∧ (1 ≤ a → 1 ≤ a') ∧ (2 ≤ b → 2 ≤ b') ∧ (1 ≤ a' → ¬ 1 ≤ a → is = true ∧ (1 : Int) = 0) ∧ (2 ≤ b' → ¬ 2 ≤ b → is = true ∧ (1 : Int) = 1) ∧ (2 ≤ a' ∨ (k + 2) / 2 ≤ a' + (nr + 1) / 2) ∧ (2 ≤ b' ∨ (k + 1) / 2 ≤ b' + nr / 2)) := by
           have hpa := HPA.out
           have hpb := HPB.out
           have hrr := HRR.out
           refine ⟨by omega, by omega, fun _ => by omega, fun _ => by omega, fun h1 h2 => ?_, fun h1 h2 => ?_, by omega, by omega⟩
           ·first
            | exact ⟨by rw [his]; exact decide_eq_true (by omega), rfl⟩
            | (exfalso; omega)
           ·first
            | exact ⟨by rw [his]; exact decide_eq_true (by omega), rfl⟩
            | (exfalso; omega)
         have HA2 : Hid (a' < 3 ∧ b' < 3) := ⟨by have := HF.out.1; omega, by have := HF.out.2.1; omega⟩
         have hc2 := (rp_all a' HA2.out.1 b' HA2.out.2).2.2.1
         rw [hc2] at m1
         clear hone hone2 ha' hb' his hfitM hc2
         obtain ⟨⟨y0, y1, y2, y3, y4⟩, y5, y6, y7, y8⟩ := (hbM).mach
         go_wp2_with fail
         refine m1.mono ?_
         rintro e w2 ⟨aR, aP, aT, aH, rfl, oA, l2⟩
         clear y0 y1 y2 y3 y4 y5 y6 y7 y8
         clear m1
         have hA := oA.ownM
         replace hbM := hbM.le l2
         have hM2 : Hid (HasM w2 (machV begC xR xP xT xH) (rpM a b)) := hM.out.le l2
         replace hl := hl.trans l2
         clear l2 oA
         obtain ⟨zR, zP, gT, oT, cT, zH, hv, hz2, n0, n1⟩ := rp_open HA2.out.1 HA2.out.2 hA.has
         rw [hv] at hA ⊢
         clear hv aR aP aT aH
         obtain ⟨zPa, zPn, zPc⟩ := zP
         simp only at hz2
         subst hz2
         obtain ⟨zT, hzT⟩ : ∃ q : Sl, q = (some ⟨gT, oT, none⟩, 4, cT) := ⟨_, rfl⟩
         rw [← hzT] at hA ⊢
         have HZT : Hid (zT = (some ⟨gT, oT, none⟩, 4, cT)) := hzT
         clear hzT
         have hbA := Box.new w2 (cells9 begC zR (zPa, 2, zPc) zT zH) 29
         have a1 := Le.alloc w2 (.cells (cells9 begC zR (zPa, 2, zPc) zT zH) 29)
         go_upto_region 20 with fail
         generalize hW1 : w2.alloc (.cells (cells9 begC zR (zPa, 2, zPc) zT zH) 29) = W2 at hbA a1 ⊢
         clear hW1
         generalize w2.heap.size = gA at hbA ⊢
         replace hl := hl.trans a1
         replace hbM := hbM.le a1
         have hM3 : Hid (HasM W2 (machV begC xR xP xT xH) (rpM a b)) := hM2.out.le a1
         replace hA := hA.le a1
         replace n0 := cell_le n0 a1
         replace n1 := cell_le n1 a1
         clear a1 hM2
         obtain ⟨yR, yP, dT, pT, eT, yH, hv, _, o0, o1⟩ := rp_open (by omega) (by omega) hM3.out
         have hmT : xT = (some ⟨dT, pT, none⟩, 4, eT) := by
           simp only [machV, cells9, Value.agg.injEq, Array.mk.injEq, List.cons.injEq, slV, Value.slice.injEq] at hv
           obtain ⟨_, _, _, _, _, _, _, ⟨h1, h2, h3⟩, _⟩ := hv
           obtain ⟨t1, t2, t3⟩ := xT
           simp only at h1 h2 h3
           subst h1 h2 h3
           rfl
         clear hv
         have HMT : Hid (xT = (some ⟨dT, pT, none⟩, 4, eT)) := hmT
         clear hmT
         obtain ⟨⟨z0, z1, z2, z3, z4⟩, z5, z6, z7, z8⟩ := (hbA).mach
         rw [HZT.out] at z7
         simp only [slV] at z6 z7
         go_wp2_with fail
         refine (lawNum _ _).mono ?_
         rintro e _ ⟨rfl, rfl⟩
         obtain ⟨⟨y0, y1, y2, y3, y4⟩, y5, y6, y7, y8⟩ := (hbM).mach
         rw [HMT.out] at y7
         simp only [slV] at y7
         clear y0 y1 y2 y3 y4 y5 y6 y8 z0 z1 z2 z3 z4 z5 z8
         obtain ⟨fa, hfa⟩ : ∃ f, f = decide (1 ≤ a) := ⟨_, rfl⟩
         obtain ⟨fb, hfb⟩ : ∃ f, f = decide (2 ≤ b) := ⟨_, rfl⟩
         obtain ⟨ga, hga⟩ : ∃ f, f = decide (1 ≤ a') := ⟨_, rfl⟩
         obtain ⟨gb, hgb⟩ : ∃ f, f = decide (2 ≤ b') := ⟨_, rfl⟩
         have HG : Hid ((fa = true → ga = true) ∧ (fb = true → gb = true) ∧ (ga = true → fa = false → is = true ∧ (1 : Int) = 0) ∧ (gb = true → fb = false → is = true ∧ (1 : Int) = 1)) := by
           obtain ⟨_, _, h1, h2, h3, h4, _⟩ := HF.out
           rw [hfa, hfb, hga, hgb]
           simp only [decide_eq_true_eq, decide_eq_false_iff_not]
           exact ⟨h1, h2, h3, h4⟩
         obtain ⟨P0, hP0⟩ : ∃ p, p = nI fa + nI fb := ⟨_, rfl⟩
         obtain ⟨P1, hP1⟩ : ∃ p, p = nI ga + nI fb := ⟨_, rfl⟩
         obtain ⟨P2, hP2⟩ : ∃ p, p = nI ga + nI gb := ⟨_, rfl⟩
         have HCN : Hid (cntB a b = P0 ∧ cntB a' b' = P2 ∧ (ga = fa → P1 = P0) ∧ (ga = true → fa = false → P1 = P0 + 1) ∧ (gb = fb → P2 = P1) ∧ (gb = true → fb = false → P2 = P1 + 1)) := by
           rw [hP0, hP1, hP2]
           refine ⟨by rw [hfa, hfb]; rfl, by rw [hga, hgb]; rfl, fun h => by rw [h], fun h1 h2 => by rw [h1, h2]; simp only [nI]; simp; omega, fun h => by rw [h], fun h1 h2 => by rw [h1, h2]; simp only [nI]; simp⟩
         have hPb : (0 ≤ P0 ∧ P0 ≤ 2) ∧ (0 ≤ P1 ∧ P1 ≤ 2) := by
           rw [hP0, hP1]
           unfold nI
           cases fa <;> cases fb <;> cases ga <;> decide
         obtain ⟨⟨pb0, pb1⟩, pb2, pb3⟩ := hPb
         clear hP0 hP1 hP2
         rw [← hfa] at o0
         rw [← hfb] at o1
         rw [← hga] at n0
         rw [← hgb] at n1
         rw [HCN.out.1]
         clear hfa hfb hga hgb
         go_wp2_with fail
         go_loopw [6, 12] (fun rd tt wd => ∃ t : Nat, t ≤ 2 ∧ tt = .int .i64 t ∧ rd = .int .i64 (sq3 P0 P1 P2 t) ∧ wd = W2) (fun _ tt _ => 2 - (intOf tt).toNat)
         case atStart => exact ⟨0, by omega, rfl, rfl, rfl⟩
         case round =>
           obtain ⟨t, ht, rfl, rfl, hwd⟩ := hrel
           subst hwd
           by_cases ht2 : t < 2
           ·have ht2' : (t : Int) < 2 := by omega
            rcases (by omega : t = 0 ∨ t = 1) with rfl | rfl
            ·rw [show sq3 P0 P1 P2 0 = P0 from rfl]
             cases hga : ga
             ·have hfa : fa = false := by cases h : fa with | false => rfl | true => exact absurd ((HG.out.1 h).symm.trans hga) (by decide)
              have hE : Hid (P1 = P0) := HCN.out.2.2.1 (hga.trans hfa.symm)
              rw [hga] at n0
              clear hfa
              go_wp2_with fail
              go_roundw
              case rel => exact ⟨1, by omega, rfl, by show _ = Value.int .i64 P1; rw [hE.out], trivial⟩
              case measure => simp [intOf]
             ·cases hfa : fa
              ·obtain ⟨h1, h2⟩ := HG.out.2.2.1 hga hfa
               have hE : Hid (P1 = P0 + 1) := HCN.out.2.2.2.1 hga hfa
               first
               | (exfalso; revert h2; decide)
               | (subst h1
                  rw [hga] at n0
                  rw [hfa] at o0
                  clear hfa h2
                  go_wp2_with fail
                  go_roundw
                  case rel => exact ⟨1, by omega, rfl, by show _ = Value.int .i64 P1; rw [hE.out], trivial⟩
                  case measure => simp [intOf])
              ·have hE : Hid (P1 = P0) := HCN.out.2.2.1 (hga.trans hfa.symm)
               rw [hga] at n0
               rw [hfa] at o0
               clear hfa
               go_wp2_with fail
               go_roundw
               case rel => exact ⟨1, by omega, rfl, by show _ = Value.int .i64 P1; rw [hE.out], trivial⟩
               case measure => simp [intOf]
            ·rw [show sq3 P0 P1 P2 1 = P1 from rfl]
             cases hgb : gb
             ·have hfb : fb = false := by cases h : fb with | false => rfl | true => exact absurd ((HG.out.2.1 h).symm.trans hgb) (by decide)
              have hE : Hid (P2 = P1) := HCN.out.2.2.2.2.1 (hgb.trans hfb.symm)
              rw [hgb] at n1
              clear hfb
              go_wp2_with fail
              go_roundw
              case rel => exact ⟨2, by omega, rfl, by show _ = Value.int .i64 P2; rw [hE.out], trivial⟩
              case measure => simp [intOf]
             ·cases hfb : fb
              ·obtain ⟨h1, h2⟩ := HG.out.2.2.2 hgb hfb
               have hE : Hid (P2 = P1 + 1) := HCN.out.2.2.2.2.2 hgb hfb
               first
               | (exfalso; revert h2; decide)
               | (subst h1
                  rw [hgb] at n1
                  rw [hfb] at o1
                  clear hfb h2
                  go_wp2_with fail
                  go_roundw
                  case rel => exact ⟨2, by omega, rfl, by show _ = Value.int .i64 P2; rw [hE.out], trivial⟩
                  case measure => simp [intOf])
              ·have hE : Hid (P2 = P1) := HCN.out.2.2.2.2.1 (hgb.trans hfb.symm)
               rw [hgb] at n1
               rw [hfb] at o1
               clear hfb
               go_wp2_with fail
               go_roundw
               case rel => exact ⟨2, by omega, rfl, by show _ = Value.int .i64 P2; rw [hE.out], trivial⟩
               case measure => simp [intOf]
           ·have e2 : t = 2 := by omega
            have hrd : sq3 P0 P1 P2 t = cntB a' b' := by rw [e2, HCN.out.2.1]; rfl
            rw [hrd]
            have ht2' : ¬ (t : Int) < 2 := by omega
            clear e2 hrd ht2 ht y7 z6 z7
            obtain ⟨⟨z0, z1, z2, z3, z4⟩, z5, z6, z7, z8⟩ := (hbA).mach
            obtain ⟨⟨y0, y1, y2, y3, y4⟩, y5, y6, y7, y8⟩ := (hbM).mach
            have f0 := (hbM).frozen 0
            have f1 := (hbM).frozen 1
            have f2 := (hbM).frozen 2
            have f3 := (hbM).frozen 3
            have f4 := (hbM).frozen 4
            have f5 := (hbM).frozen 5
            have f6 := (hbM).frozen 6
            have f7 := (hbM).frozen 7
            have f8 := (hbM).frozen 8
            go_upto_region 15 with fail
            have hb3 := hbM.put9 rfl begC zR (zPa, 2, zPc) zT zH
            have o3 := hA.put9 hbM begC zR (zPa, 2, zPc) zT zH
            have l3 := hl.put9 hgM begC zR (zPa, 2, zPc) zT zH
            show Code.wp _ _ _ _ (put9 wr gM begC zR (zPa, 2, zPc) zT zH)
            clear y0 y1 y2 y3 y4 y5 y6 y7 y8 z0 z1 z2 z3 z4 z5 z6 z7 z8
            clear f0 f1 f2 f3 f4 f5 f6 f7 f8
            generalize hW : put9 wr gM begC zR (zPa, 2, zPc) zT zH = W3 at hb3 o3 l3 ⊢
            clear hW hbM hbA hA hl
            go_wp2_with fail
            go_roundw
            case rel => exact ⟨k + 1, a', b', zR, (zPa, 2, zPc), zT, zH, HF.out.1, HF.out.2.1, by omega, by omega, HF.out.2.2.2.2.2.2.1, HF.out.2.2.2.2.2.2.2, rfl, by go_num, hb3, o3.has, l3⟩
            case measure => simp [intOf]; omega
       ·have hkr' : ¬ (k : Int) < (nr : Int) := by omega
        rcases (by omega : k % 2 = 0 ∨ k % 2 = 1) with hk2 | hk2
        ·have hb1 : bits .and .i64 (k : Int) 1 = 0 := by rw [and1]; omega
         have HRR : Hid (¬ k < nr ∧ k % 2 = 0) := ⟨hkr, hk2⟩
         clear hk2 hkr
         have hone := rp_0 a (by omega) b (by omega)
         have hfitM := fitB_fit (rp_all a (by omega) b (by omega)).1
         obtain ⟨is, his⟩ : ∃ is, is = (decide (a < 2)) := ⟨_, rfl⟩
         obtain ⟨a', ha'⟩ : ∃ y, y = (min 2 (a + 1)) := ⟨_, rfl⟩
         obtain ⟨b', hb'⟩ : ∃ y, y = b := ⟨_, rfl⟩
         have hone2 : oneM (rpM a b) 0 0 = (rpM a' b', is, 0) := by rw [hone, ha', hb', his]
         have m1 := replayOneAs hone2 _ wr hM.out hfitM
         have HF : Hid (a' ≤ 2 ∧ b' ≤ 2 ∧ (1 ≤ a → 1 ≤ a') ∧ (2 ≤ b → 2 ≤ b') ∧ (1 ≤ a' → ¬ 1 ≤ a → is = true ∧ (0 : Int) = 0) ∧ (2 ≤ b' → ¬ 2 ≤ b → is = true ∧ (0 : Int) = 1) ∧ (2 ≤ a' ∨ (k + 2) / 2 ≤ a' + (nr + 1) / 2) ∧ (2 ≤ b' ∨ (k + 1) / 2 ≤ b' + nr / 2)) := by
           have hpa := HPA.out
           have hpb := HPB.out
           have hrr := HRR.out
           refine ⟨by omega, by omega, fun _ => by omega, fun _ => by omega, fun h1 h2 => ?_, fun h1 h2 => ?_, by omega, by omega⟩
           ·first
            | exact ⟨by rw [his]; exact decide_eq_true (by omega), rfl⟩
            | (exfalso; omega)
           ·first
            | exact ⟨by rw [his]; exact decide_eq_true (by omega), rfl⟩
            | (exfalso; omega)
         have HA2 : Hid (a' < 3 ∧ b' < 3) := ⟨by have := HF.out.1; omega, by have := HF.out.2.1; omega⟩
         have hc2 := (rp_all a' HA2.out.1 b' HA2.out.2).2.2.1
         rw [hc2] at m1
         clear hone hone2 ha' hb' his hfitM hc2
         obtain ⟨⟨y0, y1, y2, y3, y4⟩, y5, y6, y7, y8⟩ := (hbM).mach
         go_wp2_with fail
         refine m1.mono ?_
         rintro e w2 ⟨aR, aP, aT, aH, rfl, oA, l2⟩
         clear y0 y1 y2 y3 y4 y5 y6 y7 y8
         clear m1
         have hA := oA.ownM
         replace hbM := hbM.le l2
         have hM2 : Hid (HasM w2 (machV begC xR xP xT xH) (rpM a b)) := hM.out.le l2
         replace hl := hl.trans l2
         clear l2 oA
         obtain ⟨zR, zP, gT, oT, cT, zH, hv, hz2, n0, n1⟩ := rp_open HA2.out.1 HA2.out.2 hA.has
         rw [hv] at hA ⊢
         clear hv aR aP aT aH
         obtain ⟨zPa, zPn, zPc⟩ := zP
         simp only at hz2
         subst hz2
         obtain ⟨zT, hzT⟩ : ∃ q : Sl, q = (some ⟨gT, oT, none⟩, 4, cT) := ⟨_, rfl⟩
         rw [← hzT] at hA ⊢
         have HZT : Hid (zT = (some ⟨gT, oT, none⟩, 4, cT)) := hzT
         clear hzT
         have hbA := Box.new w2 (cells9 begC zR (zPa, 2, zPc) zT zH) 29
         have a1 := Le.alloc w2 (.cells (cells9 begC zR (zPa, 2, zPc) zT zH) 29)
         go_upto_region 20 with fail
         generalize hW1 : w2.alloc (.cells (cells9 begC zR (zPa, 2, zPc) zT zH) 29) = W2 at hbA a1 ⊢
         clear hW1
         generalize w2.heap.size = gA at hbA ⊢
         replace hl := hl.trans a1
         replace hbM := hbM.le a1
         have hM3 : Hid (HasM W2 (machV begC xR xP xT xH) (rpM a b)) := hM2.out.le a1
         replace hA := hA.le a1
         replace n0 := cell_le n0 a1
         replace n1 := cell_le n1 a1
         clear a1 hM2
         obtain ⟨yR, yP, dT, pT, eT, yH, hv, _, o0, o1⟩ := rp_open (by omega) (by omega) hM3.out
         have hmT : xT = (some ⟨dT, pT, none⟩, 4, eT) := by
           simp only [machV, cells9, Value.agg.injEq, Array.mk.injEq, List.cons.injEq, slV, Value.slice.injEq] at hv
           obtain ⟨_, _, _, _, _, _, _, ⟨h1, h2, h3⟩, _⟩ := hv
           obtain ⟨t1, t2, t3⟩ := xT
           simp only at h1 h2 h3
           subst h1 h2 h3
           rfl
         clear hv
         have HMT : Hid (xT = (some ⟨dT, pT, none⟩, 4, eT)) := hmT
         clear hmT
         obtain ⟨⟨z0, z1, z2, z3, z4⟩, z5, z6, z7, z8⟩ := (hbA).mach
         rw [HZT.out] at z7
         simp only [slV] at z6 z7
         go_wp2_with fail
         refine (lawNum _ _).mono ?_
         rintro e _ ⟨rfl, rfl⟩
         obtain ⟨⟨y0, y1, y2, y3, y4⟩, y5, y6, y7, y8⟩ := (hbM).mach
         rw [HMT.out] at y7
         simp only [slV] at y7
         clear y0 y1 y2 y3 y4 y5 y6 y8 z0 z1 z2 z3 z4 z5 z8
         obtain ⟨fa, hfa⟩ : ∃ f, f = decide (1 ≤ a) := ⟨_, rfl⟩
         obtain ⟨fb, hfb⟩ : ∃ f, f = decide (2 ≤ b) := ⟨_, rfl⟩
         obtain ⟨ga, hga⟩ : ∃ f, f = decide (1 ≤ a') := ⟨_, rfl⟩
         obtain ⟨gb, hgb⟩ : ∃ f, f = decide (2 ≤ b') := ⟨_, rfl⟩
         have HG : Hid ((fa = true → ga = true) ∧ (fb = true → gb = true) ∧ (ga = true → fa = false → is = true ∧ (0 : Int) = 0) ∧ (gb = true → fb = false → is = true ∧ (0 : Int) = 1)) := by
           obtain ⟨_, _, h1, h2, h3, h4, _⟩ := HF.out
           rw [hfa, hfb, hga, hgb]
           simp only [decide_eq_true_eq, decide_eq_false_iff_not]
           exact ⟨h1, h2, h3, h4⟩
         obtain ⟨P0, hP0⟩ : ∃ p, p = nI fa + nI fb := ⟨_, rfl⟩
         obtain ⟨P1, hP1⟩ : ∃ p, p = nI ga + nI fb := ⟨_, rfl⟩
         obtain ⟨P2, hP2⟩ : ∃ p, p = nI ga + nI gb := ⟨_, rfl⟩
         have HCN : Hid (cntB a b = P0 ∧ cntB a' b' = P2 ∧ (ga = fa → P1 = P0) ∧ (ga = true → fa = false → P1 = P0 + 1) ∧ (gb = fb → P2 = P1) ∧ (gb = true → fb = false → P2 = P1 + 1)) := by
           rw [hP0, hP1, hP2]
           refine ⟨by rw [hfa, hfb]; rfl, by rw [hga, hgb]; rfl, fun h => by rw [h], fun h1 h2 => by rw [h1, h2]; simp only [nI]; simp; omega, fun h => by rw [h], fun h1 h2 => by rw [h1, h2]; simp only [nI]; simp⟩
         have hPb : (0 ≤ P0 ∧ P0 ≤ 2) ∧ (0 ≤ P1 ∧ P1 ≤ 2) := by
           rw [hP0, hP1]
           unfold nI
           cases fa <;> cases fb <;> cases ga <;> decide
         obtain ⟨⟨pb0, pb1⟩, pb2, pb3⟩ := hPb
         clear hP0 hP1 hP2
         rw [← hfa] at o0
         rw [← hfb] at o1
         rw [← hga] at n0
         rw [← hgb] at n1
         rw [HCN.out.1]
         clear hfa hfb hga hgb
         go_wp2_with fail
         go_loopw [6, 12] (fun rd tt wd => ∃ t : Nat, t ≤ 2 ∧ tt = .int .i64 t ∧ rd = .int .i64 (sq3 P0 P1 P2 t) ∧ wd = W2) (fun _ tt _ => 2 - (intOf tt).toNat)
         case atStart => exact ⟨0, by omega, rfl, rfl, rfl⟩
         case round =>
           obtain ⟨t, ht, rfl, rfl, hwd⟩ := hrel
           subst hwd
           by_cases ht2 : t < 2
           ·have ht2' : (t : Int) < 2 := by omega
            rcases (by omega : t = 0 ∨ t = 1) with rfl | rfl
            ·rw [show sq3 P0 P1 P2 0 = P0 from rfl]
             cases hga : ga
             ·have hfa : fa = false := by cases h : fa with | false => rfl | true => exact absurd ((HG.out.1 h).symm.trans hga) (by decide)
              have hE : Hid (P1 = P0) := HCN.out.2.2.1 (hga.trans hfa.symm)
              rw [hga] at n0
              clear hfa
              go_wp2_with fail
              go_roundw
              case rel => exact ⟨1, by omega, rfl, by show _ = Value.int .i64 P1; rw [hE.out], trivial⟩
              case measure => simp [intOf]
             ·cases hfa : fa
              ·obtain ⟨h1, h2⟩ := HG.out.2.2.1 hga hfa
               have hE : Hid (P1 = P0 + 1) := HCN.out.2.2.2.1 hga hfa
               first
               | (exfalso; revert h2; decide)
               | (subst h1
                  rw [hga] at n0
                  rw [hfa] at o0
                  clear hfa h2
                  go_wp2_with fail
                  go_roundw
                  case rel => exact ⟨1, by omega, rfl, by show _ = Value.int .i64 P1; rw [hE.out], trivial⟩
                  case measure => simp [intOf])
              ·have hE : Hid (P1 = P0) := HCN.out.2.2.1 (hga.trans hfa.symm)
               rw [hga] at n0
               rw [hfa] at o0
               clear hfa
               go_wp2_with fail
               go_roundw
               case rel => exact ⟨1, by omega, rfl, by show _ = Value.int .i64 P1; rw [hE.out], trivial⟩
               case measure => simp [intOf]
            ·rw [show sq3 P0 P1 P2 1 = P1 from rfl]
             cases hgb : gb
             ·have hfb : fb = false := by cases h : fb with | false => rfl | true => exact absurd ((HG.out.2.1 h).symm.trans hgb) (by decide)
              have hE : Hid (P2 = P1) := HCN.out.2.2.2.2.1 (hgb.trans hfb.symm)
              rw [hgb] at n1
              clear hfb
              go_wp2_with fail
              go_roundw
              case rel => exact ⟨2, by omega, rfl, by show _ = Value.int .i64 P2; rw [hE.out], trivial⟩
              case measure => simp [intOf]
             ·cases hfb : fb
              ·obtain ⟨h1, h2⟩ := HG.out.2.2.2 hgb hfb
               have hE : Hid (P2 = P1 + 1) := HCN.out.2.2.2.2.2 hgb hfb
               first
               | (exfalso; revert h2; decide)
               | (subst h1
                  rw [hgb] at n1
                  rw [hfb] at o1
                  clear hfb h2
                  go_wp2_with fail
                  go_roundw
                  case rel => exact ⟨2, by omega, rfl, by show _ = Value.int .i64 P2; rw [hE.out], trivial⟩
                  case measure => simp [intOf])
              ·have hE : Hid (P2 = P1) := HCN.out.2.2.2.2.1 (hgb.trans hfb.symm)
               rw [hgb] at n1
               rw [hfb] at o1
               clear hfb
               go_wp2_with fail
               go_roundw
               case rel => exact ⟨2, by omega, rfl, by show _ = Value.int .i64 P2; rw [hE.out], trivial⟩
               case measure => simp [intOf]
           ·have e2 : t = 2 := by omega
            have hrd : sq3 P0 P1 P2 t = cntB a' b' := by rw [e2, HCN.out.2.1]; rfl
            rw [hrd]
            have ht2' : ¬ (t : Int) < 2 := by omega
            clear e2 hrd ht2 ht y7 z6 z7
            obtain ⟨⟨z0, z1, z2, z3, z4⟩, z5, z6, z7, z8⟩ := (hbA).mach
            obtain ⟨⟨y0, y1, y2, y3, y4⟩, y5, y6, y7, y8⟩ := (hbM).mach
            have f0 := (hbM).frozen 0
            have f1 := (hbM).frozen 1
            have f2 := (hbM).frozen 2
            have f3 := (hbM).frozen 3
            have f4 := (hbM).frozen 4
            have f5 := (hbM).frozen 5
            have f6 := (hbM).frozen 6
            have f7 := (hbM).frozen 7
            have f8 := (hbM).frozen 8
            go_upto_region 15 with fail
            have hb3 := hbM.put9 rfl begC zR (zPa, 2, zPc) zT zH
            have o3 := hA.put9 hbM begC zR (zPa, 2, zPc) zT zH
            have l3 := hl.put9 hgM begC zR (zPa, 2, zPc) zT zH
            show Code.wp _ _ _ _ (put9 wr gM begC zR (zPa, 2, zPc) zT zH)
            clear y0 y1 y2 y3 y4 y5 y6 y7 y8 z0 z1 z2 z3 z4 z5 z6 z7 z8
            clear f0 f1 f2 f3 f4 f5 f6 f7 f8
            generalize hW : put9 wr gM begC zR (zPa, 2, zPc) zT zH = W3 at hb3 o3 l3 ⊢
            clear hW hbM hbA hA hl
            go_wp2_with fail
            go_roundw
            case rel => exact ⟨k + 1, a', b', zR, (zPa, 2, zPc), zT, zH, HF.out.1, HF.out.2.1, by omega, by omega, HF.out.2.2.2.2.2.2.1, HF.out.2.2.2.2.2.2.2, rfl, by go_num, hb3, o3.has, l3⟩
            case measure => simp [intOf]; omega
        ·have hb1 : bits .and .i64 (k : Int) 1 = 1 := by rw [and1]; omega
         have HRR : Hid (¬ k < nr ∧ k % 2 = 1) := ⟨hkr, hk2⟩
         clear hk2 hkr
         have hone := rp_1 a (by omega) b (by omega)
         have hfitM := fitB_fit (rp_all a (by omega) b (by omega)).1
         obtain ⟨is, his⟩ : ∃ is, is = (decide (b < 2)) := ⟨_, rfl⟩
         obtain ⟨a', ha'⟩ : ∃ y, y = a := ⟨_, rfl⟩
         obtain ⟨b', hb'⟩ : ∃ y, y = (min 2 (b + 1)) := ⟨_, rfl⟩
         have hone2 : oneM (rpM a b) 1 0 = (rpM a' b', is, 0) := by rw [hone, ha', hb', his]
         have m1 := replayOneAs hone2 _ wr hM.out hfitM
         have HF : Hid (a' ≤ 2 ∧ b' ≤ 2 ∧ (1 ≤ a → 1 ≤ a') ∧ (2 ≤ b → 2 ≤ b') ∧ (1 ≤ a' → ¬ 1 ≤ a → is = true ∧ (1 : Int) = 0) ∧ (2 ≤ b' → ¬ 2 ≤ b → is = true ∧ (1 : Int) = 1) ∧ (2 ≤ a' ∨ (k + 2) / 2 ≤ a' + (nr + 1) / 2) ∧ (2 ≤ b' ∨ (k + 1) / 2 ≤ b' + nr / 2)) := by
           have hpa := HPA.out
           have hpb := HPB.out
           have hrr := HRR.out
           refine ⟨by omega, by omega, fun _ => by omega, fun _ => by omega, fun h1 h2 => ?_, fun h1 h2 => ?_, by omega, by omega⟩
           ·first
            | exact ⟨by rw [his]; exact decide_eq_true (by omega), rfl⟩
            | (exfalso; omega)
           ·first
            | exact ⟨by rw [his]; exact decide_eq_true (by omega), rfl⟩
            | (exfalso; omega)
         have HA2 : Hid (a' < 3 ∧ b' < 3) := ⟨by have := HF.out.1; omega, by have := HF.out.2.1; omega⟩
         have hc2 := (rp_all a' HA2.out.1 b' HA2.out.2).2.2.1
         rw [hc2] at m1
         clear hone hone2 ha' hb' his hfitM hc2
         obtain ⟨⟨y0, y1, y2, y3, y4⟩, y5, y6, y7, y8⟩ := (hbM).mach
         go_wp2_with fail
         refine m1.mono ?_
         rintro e w2 ⟨aR, aP, aT, aH, rfl, oA, l2⟩
         clear y0 y1 y2 y3 y4 y5 y6 y7 y8
         clear m1
         have hA := oA.ownM
         replace hbM := hbM.le l2
         have hM2 : Hid (HasM w2 (machV begC xR xP xT xH) (rpM a b)) := hM.out.le l2
         replace hl := hl.trans l2
         clear l2 oA
         obtain ⟨zR, zP, gT, oT, cT, zH, hv, hz2, n0, n1⟩ := rp_open HA2.out.1 HA2.out.2 hA.has
         rw [hv] at hA ⊢
         clear hv aR aP aT aH
         obtain ⟨zPa, zPn, zPc⟩ := zP
         simp only at hz2
         subst hz2
         obtain ⟨zT, hzT⟩ : ∃ q : Sl, q = (some ⟨gT, oT, none⟩, 4, cT) := ⟨_, rfl⟩
         rw [← hzT] at hA ⊢
         have HZT : Hid (zT = (some ⟨gT, oT, none⟩, 4, cT)) := hzT
         clear hzT
         have hbA := Box.new w2 (cells9 begC zR (zPa, 2, zPc) zT zH) 29
         have a1 := Le.alloc w2 (.cells (cells9 begC zR (zPa, 2, zPc) zT zH) 29)
         go_upto_region 20 with fail
         generalize hW1 : w2.alloc (.cells (cells9 begC zR (zPa, 2, zPc) zT zH) 29) = W2 at hbA a1 ⊢
         clear hW1
         generalize w2.heap.size = gA at hbA ⊢
         replace hl := hl.trans a1
         replace hbM := hbM.le a1
         have hM3 : Hid (HasM W2 (machV begC xR xP xT xH) (rpM a b)) := hM2.out.le a1
         replace hA := hA.le a1
         replace n0 := cell_le n0 a1
         replace n1 := cell_le n1 a1
         clear a1 hM2
         obtain ⟨yR, yP, dT, pT, eT, yH, hv, _, o0, o1⟩ := rp_open (by omega) (by omega) hM3.out
         have hmT : xT = (some ⟨dT, pT, none⟩, 4, eT) := by
           simp only [machV, cells9, Value.agg.injEq, Array.mk.injEq, List.cons.injEq, slV, Value.slice.injEq] at hv
           obtain ⟨_, _, _, _, _, _, _, ⟨h1, h2, h3⟩, _⟩ := hv
           obtain ⟨t1, t2, t3⟩ := xT
           simp only at h1 h2 h3
           subst h1 h2 h3
           rfl
         clear hv
         have HMT : Hid (xT = (some ⟨dT, pT, none⟩, 4, eT)) := hmT
         clear hmT
         obtain ⟨⟨z0, z1, z2, z3, z4⟩, z5, z6, z7, z8⟩ := (hbA).mach
         rw [HZT.out] at z7
         simp only [slV] at z6 z7
         go_wp2_with fail
         refine (lawNum _ _).mono ?_
         rintro e _ ⟨rfl, rfl⟩
         obtain ⟨⟨y0, y1, y2, y3, y4⟩, y5, y6, y7, y8⟩ := (hbM).mach
         rw [HMT.out] at y7
         simp only [slV] at y7
         clear y0 y1 y2 y3 y4 y5 y6 y8 z0 z1 z2 z3 z4 z5 z8
         obtain ⟨fa, hfa⟩ : ∃ f, f = decide (1 ≤ a) := ⟨_, rfl⟩
         obtain ⟨fb, hfb⟩ : ∃ f, f = decide (2 ≤ b) := ⟨_, rfl⟩
         obtain ⟨ga, hga⟩ : ∃ f, f = decide (1 ≤ a') := ⟨_, rfl⟩
         obtain ⟨gb, hgb⟩ : ∃ f, f = decide (2 ≤ b') := ⟨_, rfl⟩
         have HG : Hid ((fa = true → ga = true) ∧ (fb = true → gb = true) ∧ (ga = true → fa = false → is = true ∧ (1 : Int) = 0) ∧ (gb = true → fb = false → is = true ∧ (1 : Int) = 1)) := by
           obtain ⟨_, _, h1, h2, h3, h4, _⟩ := HF.out
           rw [hfa, hfb, hga, hgb]
           simp only [decide_eq_true_eq, decide_eq_false_iff_not]
           exact ⟨h1, h2, h3, h4⟩
         obtain ⟨P0, hP0⟩ : ∃ p, p = nI fa + nI fb := ⟨_, rfl⟩
         obtain ⟨P1, hP1⟩ : ∃ p, p = nI ga + nI fb := ⟨_, rfl⟩
         obtain ⟨P2, hP2⟩ : ∃ p, p = nI ga + nI gb := ⟨_, rfl⟩
         have HCN : Hid (cntB a b = P0 ∧ cntB a' b' = P2 ∧ (ga = fa → P1 = P0) ∧ (ga = true → fa = false → P1 = P0 + 1) ∧ (gb = fb → P2 = P1) ∧ (gb = true → fb = false → P2 = P1 + 1)) := by
           rw [hP0, hP1, hP2]
           refine ⟨by rw [hfa, hfb]; rfl, by rw [hga, hgb]; rfl, fun h => by rw [h], fun h1 h2 => by rw [h1, h2]; simp only [nI]; simp; omega, fun h => by rw [h], fun h1 h2 => by rw [h1, h2]; simp only [nI]; simp⟩
         have hPb : (0 ≤ P0 ∧ P0 ≤ 2) ∧ (0 ≤ P1 ∧ P1 ≤ 2) := by
           rw [hP0, hP1]
           unfold nI
           cases fa <;> cases fb <;> cases ga <;> decide
         obtain ⟨⟨pb0, pb1⟩, pb2, pb3⟩ := hPb
         clear hP0 hP1 hP2
         rw [← hfa] at o0
         rw [← hfb] at o1
         rw [← hga] at n0
         rw [← hgb] at n1
         rw [HCN.out.1]
         clear hfa hfb hga hgb
         go_wp2_with fail
         go_loopw [6, 12] (fun rd tt wd => ∃ t : Nat, t ≤ 2 ∧ tt = .int .i64 t ∧ rd = .int .i64 (sq3 P0 P1 P2 t) ∧ wd = W2) (fun _ tt _ => 2 - (intOf tt).toNat)
         case atStart => exact ⟨0, by omega, rfl, rfl, rfl⟩
         case round =>
           obtain ⟨t, ht, rfl, rfl, hwd⟩ := hrel
           subst hwd
           by_cases ht2 : t < 2
           ·have ht2' : (t : Int) < 2 := by omega
            rcases (by omega : t = 0 ∨ t = 1) with rfl | rfl
            ·rw [show sq3 P0 P1 P2 0 = P0 from rfl]
             cases hga : ga
             ·have hfa : fa = false := by cases h : fa with | false => rfl | true => exact absurd ((HG.out.1 h).symm.trans hga) (by decide)
              have hE : Hid (P1 = P0) := HCN.out.2.2.1 (hga.trans hfa.symm)
              rw [hga] at n0
              clear hfa
              go_wp2_with fail
              go_roundw
              case rel => exact ⟨1, by omega, rfl, by show _ = Value.int .i64 P1; rw [hE.out], trivial⟩
              case measure => simp [intOf]
             ·cases hfa : fa
              ·obtain ⟨h1, h2⟩ := HG.out.2.2.1 hga hfa
               have hE : Hid (P1 = P0 + 1) := HCN.out.2.2.2.1 hga hfa
               first
               | (exfalso; revert h2; decide)
               | (subst h1
                  rw [hga] at n0
                  rw [hfa] at o0
                  clear hfa h2
                  go_wp2_with fail
                  go_roundw
                  case rel => exact ⟨1, by omega, rfl, by show _ = Value.int .i64 P1; rw [hE.out], trivial⟩
                  case measure => simp [intOf])
              ·have hE : Hid (P1 = P0) := HCN.out.2.2.1 (hga.trans hfa.symm)
               rw [hga] at n0
               rw [hfa] at o0
               clear hfa
               go_wp2_with fail
               go_roundw
               case rel => exact ⟨1, by omega, rfl, by show _ = Value.int .i64 P1; rw [hE.out], trivial⟩
               case measure => simp [intOf]
            ·rw [show sq3 P0 P1 P2 1 = P1 from rfl]
             cases hgb : gb
             ·have hfb : fb = false := by cases h : fb with | false => rfl | true => exact absurd ((HG.out.2.1 h).symm.trans hgb) (by decide)
              have hE : Hid (P2 = P1) := HCN.out.2.2.2.2.1 (hgb.trans hfb.symm)
              rw [hgb] at n1
              clear hfb
              go_wp2_with fail
              go_roundw
              case rel => exact ⟨2, by omega, rfl, by show _ = Value.int .i64 P2; rw [hE.out], trivial⟩
              case measure => simp [intOf]
             ·cases hfb : fb
              ·obtain ⟨h1, h2⟩ := HG.out.2.2.2 hgb hfb
               have hE : Hid (P2 = P1 + 1) := HCN.out.2.2.2.2.2 hgb hfb
               first
               | (exfalso; revert h2; decide)
               | (subst h1
                  rw [hgb] at n1
                  rw [hfb] at o1
                  clear hfb h2
                  go_wp2_with fail
                  go_roundw
                  case rel => exact ⟨2, by omega, rfl, by show _ = Value.int .i64 P2; rw [hE.out], trivial⟩
                  case measure => simp [intOf])
              ·have hE : Hid (P2 = P1) := HCN.out.2.2.2.2.1 (hgb.trans hfb.symm)
               rw [hgb] at n1
               rw [hfb] at o1
               clear hfb
               go_wp2_with fail
               go_roundw
               case rel => exact ⟨2, by omega, rfl, by show _ = Value.int .i64 P2; rw [hE.out], trivial⟩
               case measure => simp [intOf]
           ·have e2 : t = 2 := by omega
            have hrd : sq3 P0 P1 P2 t = cntB a' b' := by rw [e2, HCN.out.2.1]; rfl
            rw [hrd]
            have ht2' : ¬ (t : Int) < 2 := by omega
            clear e2 hrd ht2 ht y7 z6 z7
            obtain ⟨⟨z0, z1, z2, z3, z4⟩, z5, z6, z7, z8⟩ := (hbA).mach
            obtain ⟨⟨y0, y1, y2, y3, y4⟩, y5, y6, y7, y8⟩ := (hbM).mach
            have f0 := (hbM).frozen 0
            have f1 := (hbM).frozen 1
            have f2 := (hbM).frozen 2
            have f3 := (hbM).frozen 3
            have f4 := (hbM).frozen 4
            have f5 := (hbM).frozen 5
            have f6 := (hbM).frozen 6
            have f7 := (hbM).frozen 7
            have f8 := (hbM).frozen 8
            go_upto_region 15 with fail
            have hb3 := hbM.put9 rfl begC zR (zPa, 2, zPc) zT zH
            have o3 := hA.put9 hbM begC zR (zPa, 2, zPc) zT zH
            have l3 := hl.put9 hgM begC zR (zPa, 2, zPc) zT zH
            show Code.wp _ _ _ _ (put9 wr gM begC zR (zPa, 2, zPc) zT zH)
            clear y0 y1 y2 y3 y4 y5 y6 y7 y8 z0 z1 z2 z3 z4 z5 z6 z7 z8
            clear f0 f1 f2 f3 f4 f5 f6 f7 f8
            generalize hW : put9 wr gM begC zR (zPa, 2, zPc) zT zH = W3 at hb3 o3 l3 ⊢
            clear hW hbM hbA hA hl
            go_wp2_with fail
            go_roundw
            case rel => exact ⟨k + 1, a', b', zR, (zPa, 2, zPc), zT, zH, HF.out.1, HF.out.2.1, by omega, by omega, HF.out.2.2.2.2.2.2.1, HF.out.2.2.2.2.2.2.2, rfl, by go_num, hb3, o3.has, l3⟩
            case measure => simp [intOf]; omega
      ·by_cases h22 : 22 < nr
       ·have h22' : (22 : Int) < (nr : Int) := by omega
        have hlk1 : (k : Int) < (nr : Int) + 8 := by omega
        have hlk2 : ¬ (k : Int) < 30 := by omega
        clear hlk hka hkb hk30 hkn
        go_upto_region 30 with fail
        clear hbM hM
        go_quiet (fail)
        go_wp2_with fail
        go_ret
        exact ⟨rfl, hl.trans (Le.drewN _ _)⟩
       ·have h22' : ¬ (22 : Int) < (nr : Int) := by omega
        have hlk1 : ¬ (k : Int) < (nr : Int) + 8 := by omega
        obtain rfl : a = 2 := by have := HPA.out; omega
        obtain rfl : b = 2 := by have := HPB.out; omega
        rw [show cntB 2 2 = 2 from by decide]
        obtain ⟨yR, bP, oP, cP, yT, yH, vs, us, S, hv, ⟨c0, c1, c2, c3⟩, ⟨d0, d1, d2, d3⟩, s1, s2, hz, hF⟩ := rp_last hM.out
        have hmP : xP = (some ⟨bP, oP, none⟩, 2, cP) := by
          simp only [machV, cells9, Value.agg.injEq, Array.mk.injEq, List.cons.injEq, slV, Value.slice.injEq] at hv
          obtain ⟨_, _, _, _, _, _, ⟨h1, h2, h3⟩, _⟩ := hv
          obtain ⟨t1, t2, t3⟩ := xP
          simp only at h1 h2 h3
          subst h1 h2 h3
          rfl
        clear hv
        have HMP : Hid (xP = (some ⟨bP, oP, none⟩, 2, cP)) := hmP
        clear hmP hM hlk h22 hka hkb
        have hs1 := fun w' (l : Le wr w') => lawSameState (stV vs) (stV us) S S w' (s1.le l) (s2.le l) hF
        simp only [decide_true] at hs1
        have y6 := hbM.mach.2.2.1
        rw [HMP.out] at y6
        simp only [slV] at y6
        go_upto_region 30 with fail
        clear hbM
        go_region_held3 (fun w' => w'.cell? ⟨gM, 6, none⟩ = some (.slice (some ⟨bP, oP, none⟩) 2 cP) ∧ w'.cell? ⟨bP, oP, none⟩ = some (slV (vs 0)) ∧ w'.cell? ⟨bP, oP + 1, none⟩ = some (slV (vs 1)) ∧ w'.cell? ⟨bP, oP + 2, none⟩ = some (slV (vs 2)) ∧ w'.cell? ⟨bP, oP + 3, none⟩ = some (slV (vs 3)) ∧ w'.cell? ⟨bP, oP + 6, none⟩ = some (slV (us 0)) ∧ w'.cell? ⟨bP, oP + 6 + 1, none⟩ = some (slV (us 1)) ∧ w'.cell? ⟨bP, oP + 6 + 2, none⟩ = some (slV (us 2)) ∧ w'.cell? ⟨bP, oP + 6 + 3, none⟩ = some (slV (us 3))) (go_keep) (first
          | (go_at_call 18; refine Calls.mono (hs1 _ (Le.drew wr)) ?_; rintro e w8 ⟨rfl, l8⟩; have l8' := (Le.drew wr).trans l8; have hl8 := hl.trans l8'; replace y6 := cell_le y6 l8'; replace c0 := cell_le c0 l8'; replace c1 := cell_le c1 l8'; replace c2 := cell_le c2 l8'; replace c3 := cell_le c3 l8'; replace d0 := cell_le d0 l8'; replace d1 := cell_le d1 l8'; replace d2 := cell_le d2 l8'; replace d3 := cell_le d3 l8'; have hlit := (Own.lit w8 w8.heap.size (Nat.le_refl _) [5, 6] (by simp)).has; have hs2 := lawSameInts (slV (vs 0)) _ [5, 6] [5, 6] _ (hz.le (l8'.trans (Le.alloc w8 (.cells #[.int .i64 5, .int .i64 6] 3)))) hlit (by simp); simp only [decide_true] at hs2)
          | (go_at_call 23; refine Calls.mono hs2 ?_; rintro e w9 ⟨rfl, n9, hn9⟩))
        go_wp2_with fail
        go_ret
        exact ⟨rfl, hl8.trans ((Le.alloc _ _).trans (Le.drewN _ _))⟩
end Go.Proofs.YtepplhbajmlbpaaGreat
