/-
  PARTS LAID TOGETHER, each with its own opening: RyB, Pb18, SpS, RyW.
-/
import Derived.Test.YtepplhbajmlbpaaGreatCom6
import Derived.Test.YtepplhbajmlbpaaGreatCom4
import Derived.Test.YtepplhbajmlbpaaGreatCom5
import Derived.Test.YtepplhbajmlbpaaGreatCom3
import Derived.Test.YtepplhbajmlbpaaGreatCom1
namespace Go.Proofs.YtepplhbajmlbpaaGreat
open Go.RowKit
theorem replayOneAs {M N : Mc} {r g er : Int} {b : Bool} (h : oneM M r g = (N, b, er)) (v : Value) (w : World) (hx : HasM w v M) (hf : FitM M) : Calls Tryz.prog 9 #[v, .int .i64 r, .int .i64 g] w fun e w' => ∃ qR qP qT qH, e = .returned (.tuple #[machV N.c qR qP qT qH, .bool b, .int .i64 er]) ∧ OwnA w' w.heap.size (machV N.c qR qP qT qH) N ∧ Le w w' := by
 have := replayOne v M r g w hx hf
 rw [h] at this
 refine this.mono ?_
 rintro e w' ⟨v', rfl, o, l⟩
 obtain ⟨qR, qP, qT, qH, rfl⟩ := o.open
 exact ⟨_, _, _, _, rfl, o, l⟩
theorem rmOneAs {M N : Mc} {r g er : Int} {b : Bool} (h : oneM M r g = (N, b, er)) (v : Value) (w : World) (hx : HasM w v M) (hf : FitM M) : Calls Tryz.prog 10 #[v, .int .i64 r, .int .i64 g] w fun e w' => ∃ qR qP qT qH, e = .returned (.tuple #[machV N.c qR qP qT qH, .bool b, .int .i64 er]) ∧ OwnA w' w.heap.size (machV N.c qR qP qT qH) N ∧ Le w w' := by
 have := rmOne v M r g w hx hf
 rw [h] at this
 refine this.mono ?_
 rintro e w' ⟨v', rfl, o, l⟩
 obtain ⟨qR, qP, qT, qH, rfl⟩ := o.open
 exact ⟨_, _, _, _, rfl, o, l⟩
theorem claimAs {M N : Mc} {t : Int} (h : claimM M t = (N, 0)) (v : Value) (w : World) (hx : HasM w v M) (hf : FitM M) : Calls Tryz.prog 94 #[v, .int .i64 t] w fun e w' => ∃ v', e = .returned (.tuple #[v', .int .i64 0]) ∧ OwnA w' w.heap.size v' N ∧ Le w w' := by
 have := rmClaim v M t w hx hf
 rw [h] at this
 exact this
theorem pickClaim {M N : Mc} (st : Int) (hst : 4 ≤ st ∧ st ≤ 7) (h : claimM M 0 = (N, 0)) (hf : FitM M) (hmay : mayM M = true) (ht : 0 ≤ (0 : Int) ∧ (0 : Int) < M.c.t) (h3 : (M.th 0).st = st) (h4 : (M.th 0).c = 0) (hth : thereB M 0 0 0 = true) (hup : opUp (M.th 0).c (M.th 0).r (M.th 0).a = true) (v : Value) (w : World) (hx : HasM w v M) : Calls Tryz.prog 22 #[v, .int .i64 0] w fun e w' => ∃ v', e = .returned (.tuple #[v', .int .i64 0]) ∧ OwnA w' w.heap.size v' N ∧ Le w w' :=
 rmPickU v M 0 w hx hf hmay ht (by omega) (by omega) (by omega) N (fun w' l => rmUpdC v M 0 w' (hx.le l) hf hth hup st hst h3 N (fun w'' l' => claimAs h v w'' ((hx.le l).le l') hf))
theorem pickPb {k : Nat} (hk : k < 6) (v : Value) (w : World) (hx : HasM w v (pbN k)) : Calls Tryz.prog 22 #[v, .int .i64 0] w fun e w' => ∃ qR qP qT qH, e = .returned (.tuple #[machV begC qR qP qT qH, .int .i64 0]) ∧ OwnA w' w.heap.size (machV begC qR qP qT qH) (pbN (k + 1)) ∧ Le w w' := by
 have hc : (pbN (k + 1)).c = begC := by
   rcases (by omega : k = 0 ∨ k = 1 ∨ k = 2 ∨ k = 3 ∨ k = 4 ∨ k = 5) with rfl | rfl | rfl | rfl | rfl | rfl <;> decide +kernel
 have h : Calls Tryz.prog 22 #[v, .int .i64 0] w fun e w' => ∃ v', e = .returned (.tuple #[v', .int .i64 0]) ∧ OwnA w' w.heap.size v' (pbN (k + 1)) ∧ Le w w' := by
   rcases (by omega : k = 0 ∨ k = 1 ∨ k = 2 ∨ k = 3 ∨ k = 4 ∨ k = 5) with rfl | rfl | rfl | rfl | rfl | rfl
   ·exact rmPickU v cldM 0 w hx cld_fit cld_may (by decide) (by decide +kernel) (by decide +kernel) (by decide +kernel) hl1 (fun w' l => rmUpd1 v cldM 0 w' (hx.le l) cld_fit cld_there cld_up (by decide +kernel))
   ·have e : (if (tryM hl1 (hl1.home 0) (hl1.th 0).lg 0).2.1 then (3 : Int) else 10) = 3 := by decide +kernel
    refine rmPickU v hl1 0 w hx hl1_fit hl1_may (by decide) (by decide +kernel) (by decide +kernel) (by decide +kernel) hldM (fun w' l => ?_)
    have := rmUpd2 v hl1 0 w' (HasM.le (M := hl1) hx l) hl1_fit hl1_there hl1_up (by decide +kernel)
    rw [e] at this
    exact this
   ·exact rmPickU v hldM 0 w hx hld_fit hld_may (by decide) (by decide +kernel) (by decide +kernel) (by decide +kernel) btM (fun w' l => rmUpd3 v hldM 0 w' (HasM.le (M := hldM) hx l) hld_fit (by decide +kernel) (by decide +kernel) (by decide +kernel))
   ·exact pickClaim 4 (by decide) pbc_3 bt_fit bt_may (by decide +kernel) (by decide +kernel) (by decide +kernel) (by decide +kernel) (by decide +kernel) v w hx
   ·exact pickClaim 6 (by decide) pbc_4 pb4_fit (by decide +kernel) (by decide +kernel) (by decide +kernel) (by decide +kernel) (by decide +kernel) (by decide +kernel) v w hx
   ·exact pickClaim 7 (by decide) pbc_5 pb5_fit (by decide +kernel) (by decide +kernel) (by decide +kernel) (by decide +kernel) (by decide +kernel) (by decide +kernel) v w hx
 refine h.mono ?_
 rintro e w' ⟨v', rfl, o, l⟩
 obtain ⟨qR, qP, qT, qH, rfl⟩ := o.open
 rw [hc] at o ⊢
 exact ⟨_, _, _, _, rfl, o, l⟩
theorem OwnA.put9 {w : World} {B g : Nat} {v : Value} {M : Mc} {cs : Array Value} (h : OwnA w B v M) (hb : Box w g cs 29) (c : Cfg) (a b d e : Sl) : OwnA (Go.Proofs.YtepplhbajmlbpaaGreat.put9 w g c a b d e) B v M := by
 obtain ⟨L, hv, hm, ho, ha⟩ := h
 exact ⟨L, hv, hm, ho.put9 hb c a b d e, ha⟩
set_option maxRecDepth 8000 in
set_option maxHeartbeats 4000000 in
theorem published18 (w : World) : Calls Tryz.prog 19 #[] w fun e w' => ∃ qR qP qT qH, e = .returned (machV begC qR qP qT qH) ∧ OwnA w' w.heap.size (machV begC qR qP qT qH) (pbN 6) ∧ Le w w' := by
 have hr := Box.new w cellsZ9 29
 have hl := Le.alloc w (.cells cellsZ9 29)
 go_enter Tryz.func19, Tryz.ntmps19
 go_upto_region 1 with fail
 generalize hW : w.alloc (.cells cellsZ9 29) = W at hl hr ⊢
 clear hW
 go_wp2_with fail
 refine (called18 _).mono ?_
 rintro e w0 ⟨qR, qP, qT, qH, rfl, o0, l0⟩
 replace hr := hr.le l0
 have hrw := hr.lt
 have ho := o0.base hl.size
 replace hl := hl.trans l0
 clear l0 o0
 have hbM := Box.new w0 (cells9 begC qR qP qT qH) 29
 have a1 := Le.alloc w0 (.cells (cells9 begC qR qP qT qH) 29)
 go_upto_region 2 with fail
 generalize hW1 : w0.alloc (.cells (cells9 begC qR qP qT qH) 29) = W1 at hbM a1 ⊢
 clear hW1
 have hggM : w0.heap.size ≤ w0.heap.size := Nat.le_refl _
 generalize hgg : w0.heap.size = gM at hbM hggM ⊢
 have hsgM : w0.heap.size ≤ gM := by omega
 clear hgg hggM
 replace hl := hl.trans a1
 replace hr := hr.le a1
 replace ho := ho.le a1
 clear a1
 have hMw : w.heap.size ≠ gM := by omega
 have ho0 : OwnA W1 w.heap.size (machV begC qR qP qT qH) (pbN 0) := ho
 clear ho
 go_wp2_with fail
 go_loopw [2] (fun i wr => ∃ (k : Nat) (xR xP xT xH : Sl), k ≤ 6 ∧ i = .int .i64 k ∧ Box wr gM (cells9 begC xR xP xT xH) 29 ∧ Box wr w.heap.size cellsZ9 29 ∧ Hid (OwnA wr w.heap.size (machV begC xR xP xT xH) (pbN k)) ∧ Le w wr) (fun i _ => 6 - (intOf i).toNat)
 case atStart => exact ⟨0, qR, qP, qT, qH, by omega, rfl, hbM, hr, ho0, hl⟩
 case round =>
   clear hbM hr ho0 hl
   obtain ⟨k, xR, xP, xT, xH, hk, rfl, hbM, hr, ho, hl⟩ := hrel
   by_cases hlt : k < 6
   ·have hlt' : (k : Int) < 6 := by omega
    have m1 := fun w' (l : Le wr w') => pickPb hlt _ w' (ho.out.has.le l)
    obtain ⟨⟨y0, y1, y2, y3, y4⟩, y5, y6, y7, y8⟩ := (hbM).mach
    go_wp2_with fail
    refine (m1 _ (Le.refl _)).mono ?_
    rintro e w2 ⟨uR, uP, uT, uH, rfl, o2, l2⟩
    clear y0 y1 y2 y3 y4 y5 y6 y7 y8
    have hb2 := hbM.le l2
    obtain ⟨⟨y0, y1, y2, y3, y4⟩, y5, y6, y7, y8⟩ := (hb2).mach
    have f0 := (hb2).frozen 0
    have f1 := (hb2).frozen 1
    have f2 := (hb2).frozen 2
    have f3 := (hb2).frozen 3
    have f4 := (hb2).frozen 4
    have f5 := (hb2).frozen 5
    have f6 := (hb2).frozen 6
    have f7 := (hb2).frozen 7
    have f8 := (hb2).frozen 8
    go_upto_region 4 with fail
    have hb3 := hb2.put9 rfl begC uR uP uT uH
    have o3 := (o2.base hl.size).put9 hb2 begC uR uP uT uH
    have l3 := (hl.trans l2).put9 (g := gM) (by omega) begC uR uP uT uH
    have hr3 := (hr.le l2).off9 hMw begC uR uP uT uH
    show Code.wp _ _ _ _ (put9 w2 gM begC uR uP uT uH)
    clear y0 y1 y2 y3 y4 y5 y6 y7 y8
    clear f0 f1 f2 f3 f4 f5 f6 f7 f8
    generalize hW : put9 w2 gM begC uR uP uT uH = W2 at hb3 o3 l3 hr3 ⊢
    clear hW
    go_wp2_with fail
    go_roundw
    case rel => exact ⟨k + 1, uR, uP, uT, uH, by omega, by go_num, hb3, hr3, o3, l3⟩
    case measure => simp [intOf]; omega
   ·have e4 : k = 6 := by omega
    have ho2 : OwnA wr w.heap.size (machV begC xR xP xT xH) (pbN 6) := by have := ho.out; rw [e4] at this; exact this
    have hlt' : ¬ (k : Int) < 6 := by omega
    clear e4 hlt hk ho
    obtain ⟨⟨y0, y1, y2, y3, y4⟩, y5, y6, y7, y8⟩ := (hbM).mach
    obtain ⟨⟨r0, r1, r2, r3, r4, r5, r6, r7, r8⟩, k0, k1, k2, k3, k4, k5, k6, k7, k8⟩ := hr.res
    go_wp2_with fail
    refine bodyPost_ret (v := machV begC xR xP xT xH) (by simp [results, Tryz.results19, go_sem, r0, r1, r2, r3, r4, r5, r6, r7, r8]) rfl ⟨xR.1, xR.2.1, xR.2.2, xP.1, xP.2.1, xP.2.2, xT.1, xT.2.1, xT.2.2, xH.1, xH.2.1, xH.2.2, rfl, ho2.put9 hr begC xR xP xT xH, hl.put9 (g := w.heap.size) (Nat.le_refl _) begC xR xP xT xH⟩
end Go.Proofs.YtepplhbajmlbpaaGreat

namespace Go.Proofs.YtepplhbajmlbpaaGreat.Sp
open Go.RowKit Go.Proofs.YtepplhbajmlbpaaGreat
def Ints (w : World) (S : Nat → Prop) (v : Value) : Prop :=
 ∃ (a : Option Addr) (n cap : Nat), v = .slice a n cap ∧ n ≤ cap ∧ n ≤ 9223372036854775807 ∧
   (0 < n → ∃ b off, a = some ⟨b, off, none⟩ ∧ S b ∧ ∀ i, i < n → (∃ x, w.cell? ⟨b, off + i, none⟩ = some (.int .i64 x)) ∧ w.frozen? ⟨b, off + i, none⟩ = false)
structure Spoilt (S : Nat → Prop) (w w' : World) : Prop where
 os : w'.os = w.os
 tape : w'.tape = w.tape
 output : w'.output = w.output
 size : w.heap.size ≤ w'.heap.size
 keep : ∀ k, k < w.heap.size → ¬ S k → w'.heap[k]? = w.heap[k]?
 ints : ∀ p x, w.cell? p = some (.int .i64 x) → ∃ y, w'.cell? p = some (.int .i64 y)
 rest : ∀ p v, w.cell? p = some v → (∀ x, v ≠ .int .i64 x) → w'.cell? p = some v
 thaw : ∀ p, p.block < w.heap.size → w.frozen? p = false → w'.frozen? p = false
theorem Spoilt.refl (S : Nat → Prop) (w : World) : Spoilt S w w := ⟨rfl, rfl, rfl, Nat.le_refl _, fun _ _ _ => rfl, fun _ x h => ⟨x, h⟩, fun _ _ h _ => h, fun _ _ h => h⟩
theorem Spoilt.trans {S : Nat → Prop} {a b c : World} (h : Spoilt S a b) (k : Spoilt S b c) : Spoilt S a c :=
 ⟨k.os.trans h.os, k.tape.trans h.tape, k.output.trans h.output, Nat.le_trans h.size k.size, fun i hi hn => (k.keep i (Nat.lt_of_lt_of_le hi h.size) hn).trans (h.keep i hi hn), fun p x hp => by obtain ⟨y, hy⟩ := h.ints p x hp; exact k.ints p y hy, fun p v hp hv => k.rest p v (h.rest p v hp hv) hv, fun p hp hf => k.thaw p (Nat.lt_of_lt_of_le hp h.size) (h.thaw p hp hf)⟩
theorem Spoilt.le {S : Nat → Prop} {w w' : World} (_ : True) (h : Le w w') : Spoilt S w w' :=
 ⟨h.os, h.tape, h.output, h.size, fun k hk _ => h.block k hk, fun p x hp => ⟨x, by rw [h.cell (World.block_lt_of_cell? w _ hp)]; exact hp⟩, fun p v hp _ => by rw [h.cell (World.block_lt_of_cell? w _ hp)]; exact hp,
   fun p hp hf => by rw [h.frozen hp]; exact hf⟩
theorem Spoilt.store {S : Nat → Prop} {w : World} {p : Addr} {x y : Int} (hp : w.cell? p = some (.int .i64 x)) (hb : S p.block) : Spoilt S w (w.setCell p (.int .i64 y)) := by
 refine ⟨rfl, rfl, rfl, by simp, fun k _ hn => Below.heap_setCell _ _ _ _ (fun e => hn (by rw [e]; exact hb)), fun q z hq => ?_, fun q v hq hv => ?_, fun q _ hf => by simpa using hf⟩
 ·by_cases e : p = q
  ·subst e; exact ⟨y, World.cell?_setCell_same _ _ _ hp⟩
  ·exact ⟨z, (World.cell?_setCell_other _ _ _ _ e).trans hq⟩
 ·have e : p ≠ q := fun e => by subst e; rw [hp] at hq; exact hv x (Option.some.inj hq).symm
  exact (World.cell?_setCell_other _ _ _ _ e).trans hq
theorem Ints.spoilt {w w' : World} {S S' : Nat → Prop} {v : Value} (h : Ints w S v) (k : Spoilt S' w w') : Ints w' S v := by
 obtain ⟨a, n, cap, hv, hn, hm, hx⟩ := h
 refine ⟨a, n, cap, hv, hn, hm, fun hp => ?_⟩
 obtain ⟨b, off, ha, hb, hc⟩ := hx hp
 refine ⟨b, off, ha, hb, fun i hi => ?_⟩
 obtain ⟨⟨x, h1⟩, h2⟩ := hc i hi
 exact ⟨k.ints _ _ h1, k.thaw _ (World.block_lt_of_cell? w _ h1) h2⟩
set_option maxHeartbeats 400000 in
theorem lawSpoil (v : Value) (S : Nat → Prop) (w : World) (hx : Ints w S v) :
   Calls Tryz.prog 40 #[v] w fun e w' => e = .returned (.tuple #[]) ∧ Spoilt S w w' := by
 obtain ⟨a, L, cap, rfl, hc, hm, hx⟩ := hx
 rcases Nat.eq_zero_or_pos L with h0 | h0
 ·subst h0
  go_enter Tryz.func40, Tryz.ntmps40
  go_wp2
  refine wp_loop_rounds 1 ?_
  rw [rounds_succ]
  go_wp2
  go_end0
  exact ⟨rfl, Spoilt.refl _ _⟩
 ·obtain ⟨b, off, rfl, hb, hcell⟩ := hx h0
  clear hx
  go_enter Tryz.func40, Tryz.ntmps40
  go_wp2
  go_loopw [2] (fun i wr => ∃ k : Nat, k ≤ L ∧ i = .int .i64 k ∧ Spoilt S w wr) (fun i _ => L - (intOf i).toNat)
  case atStart => exact ⟨0, Nat.zero_le _, rfl, Spoilt.refl _ _⟩
  case round =>
    obtain ⟨k, hk, rfl, hsp⟩ := hrel
    by_cases hlt : k < L
    ·obtain ⟨⟨x0, h1⟩, h2⟩ := hcell k hlt
     have hfz := hsp.thaw _ (World.block_lt_of_cell? w _ h1) h2
     obtain ⟨x, hcl⟩ := hsp.ints _ _ h1
     clear h1 h2 hcell
     go_wp2
     go_roundw
     case rel => exact ⟨k + 1, by omega, by go_num, hsp.trans (Spoilt.store hcl hb)⟩
     case measure => simp [intOf]; omega
    ·go_wp2
     go_end0
     exact ⟨rfl, hsp⟩
def IntsS (w : World) (S : Nat → Prop) (v : Value) : Prop := ∃ vs, v = stV vs ∧ ∀ i, i < 4 → Ints w S (slV (vs i))
set_option maxHeartbeats 400000 in
theorem lawSpoilState (v : Value) (S : Nat → Prop) (w : World) (hx : IntsS w S v) (hbase : True) :
   Calls Tryz.prog 39 #[v] w fun e w' => e = .returned (.tuple #[]) ∧ Spoilt S w w' := by
 obtain ⟨vs, rfl, hr⟩ := hx
 have hb1 := Box.new w (cells4 vs) 44
 have hs1 : Spoilt S w (w.alloc (.cells (cells4 vs) 44)) := Spoilt.le hbase (Le.alloc _ _)
 go_enter Tryz.func39, Tryz.ntmps39
 go_wp2
 go_loopw [2] (fun i wr => ∃ k : Nat, k ≤ 4 ∧ i = .int .i64 k ∧ Spoilt S (w.alloc (.cells (cells4 vs) 44)) wr) (fun i _ => 4 - (intOf i).toNat)
 case atStart => exact ⟨0, by omega, rfl, Spoilt.refl _ _⟩
 case round =>
   obtain ⟨k, hk, rfl, hsp⟩ := hrel
   by_cases hlt : k < 4
   ·have hi := (hr k hlt).spoilt (hs1.trans hsp)
    have c1 : wr.cell? ⟨w.heap.size, k, none⟩ = some (slV (vs k)) := hsp.rest _ _ ((hb1.cell k).trans (cells4_at vs hlt)) (fun x h => by cases h)
    go_wp2_with (go_at_call 40; refine (lawSpoil _ S _ hi).mono ?_; rintro e w1 ⟨rfl, s1⟩; clear hi c1)
    go_roundw
    case rel => exact ⟨k + 1, by omega, by go_num, hsp.trans s1⟩
    case measure => simp [intOf]; omega
   ·obtain rfl : k = 4 := by omega
    go_wp2
    go_end0
    exact ⟨rfl, hs1.trans hsp⟩
def IntsL (w : World) (S : Nat → Prop) (v : Value) : Prop :=
 ∃ (a : Option Addr) (n cap : Nat), v = .slice a n cap ∧ n ≤ cap ∧ n ≤ 9223372036854775807 ∧
   (0 < n → ∃ b off, a = some ⟨b, off, none⟩ ∧ S b ∧ ∀ i, i < n → (∃ x, w.cell? ⟨b, off + i * 5 + 3, none⟩ = some (.int .i64 x)) ∧ w.frozen? ⟨b, off + i * 5 + 3, none⟩ = false)
def IntsR (w : World) (S : Nat → Prop) (v : Value) : Prop := ∃ h t f q, v = ringV h t f q ∧ IntsL w S (slV q)
theorem IntsL.spoilt {w w' : World} {S S' : Nat → Prop} {v : Value} (h : IntsL w S v) (k : Spoilt S' w w') : IntsL w' S v := by
 obtain ⟨a, n, cap, hv, hn, hm, hx⟩ := h
 refine ⟨a, n, cap, hv, hn, hm, fun hp => ?_⟩
 obtain ⟨b, off, ha, hb, hc⟩ := hx hp
 refine ⟨b, off, ha, hb, fun i hi => ?_⟩
 obtain ⟨⟨x, h1⟩, h2⟩ := hc i hi
 exact ⟨k.ints _ _ h1, k.thaw _ (World.block_lt_of_cell? w _ h1) h2⟩
set_option maxHeartbeats 400000 in
theorem lawSpoilSlots (v : Value) (S : Nat → Prop) (w : World) (hx : IntsL w S v) :
   Calls Tryz.prog 77 #[v] w fun e w' => e = .returned (.tuple #[]) ∧ Spoilt S w w' := by
 obtain ⟨a, L, cap, rfl, hc, hm, hx⟩ := hx
 rcases Nat.eq_zero_or_pos L with h0 | h0
 ·subst h0
  go_enter Tryz.func77, Tryz.ntmps77
  go_wp2
  refine wp_loop_rounds 1 ?_
  rw [rounds_succ]
  go_wp2
  go_end0
  exact ⟨rfl, Spoilt.refl _ _⟩
 ·obtain ⟨b, off, rfl, hb, hcell⟩ := hx h0
  clear hx
  go_enter Tryz.func77, Tryz.ntmps77
  go_wp2
  go_loopw [2] (fun i wr => ∃ k : Nat, k ≤ L ∧ i = .int .i64 k ∧ Spoilt S w wr) (fun i _ => L - (intOf i).toNat)
  case atStart => exact ⟨0, Nat.zero_le _, rfl, Spoilt.refl _ _⟩
  case round =>
    obtain ⟨k, hk, rfl, hsp⟩ := hrel
    by_cases hlt : k < L
    ·obtain ⟨⟨x0, h1⟩, h2⟩ := hcell k hlt
     have hfz := hsp.thaw _ (World.block_lt_of_cell? w _ h1) h2
     obtain ⟨x, hcl⟩ := hsp.ints _ _ h1
     clear h1 h2 hcell
     go_wp2
     go_roundw
     case rel => exact ⟨k + 1, by omega, by go_num, hsp.trans (Spoilt.store hcl hb)⟩
     case measure => simp [intOf]; omega
    ·go_wp2
     go_end0
     exact ⟨rfl, hsp⟩
theorem lawSpoilRing (v : Value) (S : Nat → Prop) (w : World) (hx : IntsR w S v) (hbase : True) :
   Calls Tryz.prog 38 #[v] w fun e w' => e = .returned (.tuple #[]) ∧ Spoilt S w w' := by
 obtain ⟨h, t, f, q, rfl, hi⟩ := hx
 have hs1 : Spoilt S w (w.alloc (.cells (cellsR h t f q) 55)) := Spoilt.le hbase (Le.alloc _ _)
 have hsp := lawSpoilSlots _ S _ (hi.spoilt hs1)
 go_enter Tryz.func38, Tryz.ntmps38
 go_wp2_with fail
 refine hsp.mono ?_
 rintro e w1 ⟨rfl, s1⟩
 go_wp2_with fail
 go_end0
 exact ⟨rfl, hs1.trans s1⟩
def IntsRow (k : Nat) (At : World → Nat → Nat → Prop) (w : World) (S : Nat → Prop) (v : Value) : Prop :=
 ∃ (a : Option Addr) (n cap : Nat), v = .slice a n cap ∧ n ≤ cap ∧ n ≤ 9223372036854775807 ∧ (0 < n → ∃ b off, a = some ⟨b, off, none⟩ ∧ S b ∧ ∀ i, i < n → At w b (off + i * k))
def RingX (S : Nat → Prop) (w : World) (b off : Nat) : Prop := (∃ R q, RingAt w b off R q ∧ IntsL w S (slV q)) ∧ w.frozen? ⟨b, off + 1, none⟩ = false
def RepX (S : Nat → Prop) (w : World) (b off : Nat) : Prop := ∃ vs c l, RepAt w b off vs c l ∧ (∀ i, i < 4 → Ints w S (slV (vs i))) ∧ Ints w S (slV c) ∧ Ints w S (slV l)
def ThX (S : Nat → Prop) (w : World) (b off : Nat) : Prop := (∃ T q t, ThAt w b off T q t ∧ Ints w S (slV q) ∧ Ints w S (slV t)) ∧ w.frozen? ⟨b, off, none⟩ = false
def EvX (w : World) (b off : Nat) : Prop := (∃ x, w.cell? ⟨b, off, none⟩ = some (.int .i64 x)) ∧ w.frozen? ⟨b, off, none⟩ = false
def IntsM (w : World) (S : Nat → Prop) (v : Value) : Prop := ∃ c qR qP qT qH, v = machV c qR qP qT qH ∧ IntsRow 4 (RingX S) w S (slV qR) ∧ IntsRow 6 (RepX S) w S (slV qP) ∧ IntsRow 12 (ThX S) w S (slV qT) ∧ IntsRow 6 EvX w S (slV qH)
theorem IntsRow.spoilt {k : Nat} {At : World → Nat → Nat → Prop} {w w' : World} {S S' : Nat → Prop} {v : Value} (h : IntsRow k At w S v) (hAt : ∀ b off, At w b off → At w' b off) (_k : Spoilt S' w w') : IntsRow k At w' S v := by
 obtain ⟨a, n, cap, hv, hn, hm, hx⟩ := h
 refine ⟨a, n, cap, hv, hn, hm, fun hp => ?_⟩
 obtain ⟨b, off, ha, hb, hc⟩ := hx hp
 exact ⟨b, off, ha, hb, fun i hi => hAt _ _ (hc i hi)⟩
theorem Spoilt.sl {S : Nat → Prop} {w w' : World} (k : Spoilt S w w') {p : Addr} {q : Sl} (h : w.cell? p = some (slV q)) : w'.cell? p = some (slV q) := k.rest p _ h (fun x e => by cases e)
theorem Spoilt.bool {S : Nat → Prop} {w w' : World} (k : Spoilt S w w') {p : Addr} {b : Bool} (h : w.cell? p = some (.bool b)) : w'.cell? p = some (.bool b) := k.rest p _ h (fun x e => by cases e)
theorem RingX.spoilt {S S' : Nat → Prop} {w w' : World} {b off : Nat} (h : RingX S w b off) (k : Spoilt S' w w') : RingX S w' b off := by
 obtain ⟨⟨R, q, ⟨h0, h1, h2, h3⟩, hi⟩, hf⟩ := h
 obtain ⟨x0, e0⟩ := k.ints _ _ h0
 obtain ⟨x1, e1⟩ := k.ints _ _ h1
 obtain ⟨x2, e2⟩ := k.ints _ _ h2
 exact ⟨⟨⟨x0, x1, x2, []⟩, q, ⟨e0, e1, e2, k.sl h3⟩, hi.spoilt k⟩, k.thaw _ (World.block_lt_of_cell? w ⟨b, off + 1, none⟩ h1) hf⟩
theorem RepX.spoilt {S S' : Nat → Prop} {w w' : World} {b off : Nat} (h : RepX S w b off) (k : Spoilt S' w w') : RepX S w' b off := by
 obtain ⟨vs, c, l, ⟨h0, h1, h2, h3, h4, h5⟩, i0, i1, i2⟩ := h
 exact ⟨vs, c, l, ⟨k.sl h0, k.sl h1, k.sl h2, k.sl h3, k.sl h4, k.sl h5⟩, fun i hi => (i0 i hi).spoilt k, i1.spoilt k, i2.spoilt k⟩
theorem ThX.spoilt {S S' : Nat → Prop} {w w' : World} {b off : Nat} (h : ThX S w b off) (k : Spoilt S' w w') : ThX S w' b off := by
 obtain ⟨⟨T, q, t, ⟨h0, h1, h2, h3, h4, h5, h6, h7, h8, h9, h10, h11⟩, i0, i1⟩, hf⟩ := h
 obtain ⟨x0, e0⟩ := k.ints _ _ h0
 obtain ⟨x1, e1⟩ := k.ints _ _ h1
 obtain ⟨x2, e2⟩ := k.ints _ _ h2
 obtain ⟨x3, e3⟩ := k.ints _ _ h3
 obtain ⟨x4, e4⟩ := k.ints _ _ h4
 obtain ⟨x5, e5⟩ := k.ints _ _ h5
 obtain ⟨x7, e7⟩ := k.ints _ _ h7
 obtain ⟨x10, e10⟩ := k.ints _ _ h10
 exact ⟨⟨⟨x0, x1, x2, x3, x4, x5, [], x7, T.po, T.re, x10, []⟩, q, t, ⟨e0, e1, e2, e3, e4, e5, k.sl h6, e7, k.bool h8, k.bool h9, e10, k.sl h11⟩, i0.spoilt k, i1.spoilt k⟩, k.thaw _ (World.block_lt_of_cell? w ⟨b, off, none⟩ h0) hf⟩
theorem EvX.spoilt {S' : Nat → Prop} {w w' : World} {b off : Nat} (h : EvX w b off) (k : Spoilt S' w w') : EvX w' b off := by
 obtain ⟨⟨x, h⟩, hf⟩ := h
 exact ⟨k.ints _ _ h, k.thaw _ (World.block_lt_of_cell? w ⟨b, off, none⟩ h) hf⟩
theorem IntsM.spoilt {w w' : World} {S S' : Nat → Prop} {v : Value} (h : IntsM w S v) (k : Spoilt S' w w') : IntsM w' S v := by
 obtain ⟨c, qR, qP, qT, qH, hv, h1, h2, h3, h4⟩ := h
 exact ⟨c, qR, qP, qT, qH, hv, h1.spoilt (fun _ _ h => h.spoilt k) k, h2.spoilt (fun _ _ h => h.spoilt k) k, h3.spoilt (fun _ _ h => h.spoilt k) k, h4.spoilt (fun _ _ h => h.spoilt k) k⟩
set_option maxHeartbeats 400000 in
theorem lawSpoilEvents (v : Value) (S : Nat → Prop) (w : World) (hx : IntsRow 6 EvX w S v) :
   Calls Tryz.prog 37 #[v] w fun e w' => e = .returned (.tuple #[]) ∧ Spoilt S w w' := by
 obtain ⟨a, L, cap, rfl, hc, hm, hx⟩ := hx
 rcases Nat.eq_zero_or_pos L with h0 | h0
 ·subst h0
  go_enter Tryz.func37, Tryz.ntmps37
  go_wp2
  refine wp_loop_rounds 1 ?_
  rw [rounds_succ]
  go_wp2
  go_end0
  exact ⟨rfl, Spoilt.refl _ _⟩
 ·obtain ⟨b, off, rfl, hb, hcell⟩ := hx h0
  clear hx
  go_enter Tryz.func37, Tryz.ntmps37
  go_wp2
  go_loopw [2] (fun i wr => ∃ k : Nat, k ≤ L ∧ i = .int .i64 k ∧ Spoilt S w wr) (fun i _ => L - (intOf i).toNat)
  case atStart => exact ⟨0, Nat.zero_le _, rfl, Spoilt.refl _ _⟩
  case round =>
    obtain ⟨k, hk, rfl, hsp⟩ := hrel
    by_cases hlt : k < L
    ·obtain ⟨⟨x, hcl⟩, hfz⟩ := (hcell k hlt).spoilt hsp
     clear hcell
     go_wp2
     go_roundw
     case rel => exact ⟨k + 1, by omega, by go_num, hsp.trans (Spoilt.store hcl hb)⟩
     case measure => simp [intOf]; omega
    ·go_wp2
     go_end0
     exact ⟨rfl, hsp⟩
set_option maxHeartbeats 4000000 in
theorem lawSpoilMachine (v : Value) (S : Nat → Prop) (w : World) (hx : IntsM w S v) (hbase : True) :
   Calls Tryz.prog 13 #[v] w fun e w' => e = .returned (.tuple #[]) ∧ Spoilt S w w' := by
 obtain ⟨c, qR, qP, qT, qH, rfl, hR, hP, hT, hH⟩ := hx
 have hb := Box.new w (cells9 c qR qP qT qH) 29
 have hs0 : Spoilt S w (w.alloc (.cells (cells9 c qR qP qT qH) 29)) := Spoilt.le hbase (Le.alloc _ _)
 replace hR := hR.spoilt (fun _ _ h => h.spoilt hs0) hs0
 replace hP := hP.spoilt (fun _ _ h => h.spoilt hs0) hs0
 replace hT := hT.spoilt (fun _ _ h => h.spoilt hs0) hs0
 replace hH := hH.spoilt (fun _ _ h => h.spoilt hs0) hs0
 have hsz0 : True := trivial
 obtain ⟨⟨_, _, _, _, _⟩, z5, z6, z7, z8⟩ := hb.mach
 have hev := lawSpoilEvents _ S _ hH
 clear hb
 generalize hW : w.alloc (.cells (cells9 c qR qP qT qH) 29) = W at *
 go_enter Tryz.func13, Tryz.ntmps13
 go_wp2_with fail
 refine hev.mono ?_
 rintro e w1 ⟨rfl, s1⟩
 clear hev hH
 obtain ⟨aR, nR, cR⟩ := qR
 obtain ⟨aP, nP, cP⟩ := qP
 obtain ⟨aT, nT, cT⟩ := qT
 simp only [slV] at z5 z6 z7 hR hP hT
 have y5 := s1.sl (q := (aR, nR, cR)) z5
 simp only [slV] at y5
 go_wp2_with fail
 go_loopw [2] (fun i wr => ∃ k : Nat, k ≤ nR ∧ i = .int .i64 k ∧ Spoilt S W wr) (fun i _ => nR - (intOf i).toNat)
 case atStart => exact ⟨0, Nat.zero_le _, rfl, s1⟩
 case round =>
   obtain ⟨k, hk, rfl, hsp⟩ := hrel
   clear y5 s1 w1
   have y5 := hsp.sl (q := (aR, nR, cR)) z5
   simp only [slV] at y5
   have hsz : True := trivial
   by_cases hlt : k < nR
   ·obtain ⟨a', n', c', hv, hnc, hm, hx⟩ := hR
    simp only [Value.slice.injEq] at hv
    obtain ⟨rfl, rfl, rfl⟩ := hv
    obtain ⟨b, off, rfl, hbb, hcell⟩ := hx (by omega)
    obtain ⟨⟨R, q, ⟨r0, r1, r2, r3⟩, hi⟩, hfz⟩ := (hcell k hlt).spoilt hsp
    have hsr := lawSpoilRing (ringV R.h R.t R.f q) S _ ⟨_, _, _, _, rfl, hi⟩ hsz
    have hlt' : (k : Int) < (nR : Int) := by omega
    have hk0 : (0 : Int) ≤ (k : Int) := by omega
    clear hP hT z6 z7 z8 hx
    go_wp2_with fail
    refine hsr.mono ?_
    rintro e w2 ⟨rfl, s2⟩
    have hsp2 := hsp.trans s2
    obtain ⟨⟨R', q', ⟨r0', r1', r2', r3'⟩, hi'⟩, hfz'⟩ := (hcell k hlt).spoilt hsp2
    have y5' := s2.sl (q := (some ⟨b, off, none⟩, nR, cR)) y5
    simp only [slV] at y5'
    clear hcell r0 r1 r2 r3 hi hfz hsr y5 hsp s2 r0' r2' r3' hi' z5
    generalize R'.t = x at r1'
    go_wp2_with fail
    go_region
    go_wp2_with fail
    go_roundw
    case rel => exact ⟨k + 1, by omega, by go_num, hsp2.trans ((Spoilt.le trivial (Le.drew _)).trans (Spoilt.store r1' hbb))⟩
    case measure => simp [intOf]; omega
   ·clear hR
    have y6 := hsp.sl (q := (aP, nP, cP)) z6
    simp only [slV] at y6
    go_wp2_with fail
    go_loopw [3] (fun i wr => ∃ k : Nat, k ≤ nP ∧ i = .int .i64 k ∧ Spoilt S W wr) (fun i _ => nP - (intOf i).toNat)
    case atStart => exact ⟨0, Nat.zero_le _, rfl, hsp⟩
    case round =>
      obtain ⟨j, hj, rfl, hsp'⟩ := hrel
      clear y5 y6 hsz hsp hlt hk
      rename_i _ wq
      have y6 := hsp'.sl (q := (aP, nP, cP)) z6
      simp only [slV] at y6
      have hsz : True := trivial
      by_cases hlt : j < nP
      ·obtain ⟨a', n', c', hv, hnc, hm, hx⟩ := hP
       simp only [Value.slice.injEq] at hv
       obtain ⟨rfl, rfl, rfl⟩ := hv
       obtain ⟨b, off, rfl, hbb, hcell⟩ := hx (by omega)
       have hlt' : (j : Int) < (nP : Int) := by omega
       have hj0 : (0 : Int) ≤ (j : Int) := by omega
       clear hT z5 z7 z8 hx
       obtain ⟨vs, cc, ll, ⟨r0, r1, r2, r3, r4, r5⟩, i0, i1, i2⟩ := (hcell j hlt).spoilt hsp'
       have hsr := lawSpoilState (stV vs) S _ ⟨vs, rfl, i0⟩ hsz
       go_wp2_with fail
       refine hsr.mono ?_
       rintro e w2 ⟨rfl, s2⟩
       have hsr2 := lawSpoil _ S _ (i1.spoilt s2)
       have r4' := s2.sl r4
       have y6' := s2.sl (q := (some ⟨b, off, none⟩, nP, cP)) y6
       simp only [slV] at y6'
       go_wp2_with fail
       refine hsr2.mono ?_
       rintro e w3 ⟨rfl, s3⟩
       have hsr3 := lawSpoil _ S _ ((i2.spoilt s2).spoilt s3)
       have r5' := s3.sl (s2.sl r5)
       have y6'' := s3.sl (q := (some ⟨b, off, none⟩, nP, cP)) y6'
       simp only [slV] at y6''
       go_wp2_with fail
       refine hsr3.mono ?_
       rintro e w4 ⟨rfl, s4⟩
       go_wp2_with fail
       go_roundw
       case rel => exact ⟨j + 1, by omega, by go_num, ((hsp'.trans s2).trans s3).trans s4⟩
       case measure => simp [intOf]; omega
      ·clear hP
       have y7 := hsp'.sl (q := (aT, nT, cT)) z7
       simp only [slV] at y7
       go_wp2_with fail
       go_loopw [4] (fun i wr => ∃ k : Nat, k ≤ nT ∧ i = .int .i64 k ∧ Spoilt S W wr) (fun i _ => nT - (intOf i).toNat)
       case atStart => exact ⟨0, Nat.zero_le _, rfl, hsp'⟩
       case round =>
         obtain ⟨i, hi, rfl, hsp⟩ := hrel
         clear y6 y7 hsz hsp' hlt hj
         have y7 := hsp.sl (q := (aT, nT, cT)) z7
         simp only [slV] at y7
         have hsz : True := trivial
         by_cases hlt : i < nT
         ·obtain ⟨a', n', c', hv, hnc, hm, hx⟩ := hT
          simp only [Value.slice.injEq] at hv
          obtain ⟨rfl, rfl, rfl⟩ := hv
          obtain ⟨b, off, rfl, hbb, hcell⟩ := hx (by omega)
          have hlt' : (i : Int) < (nT : Int) := by omega
          have hi0 : (0 : Int) ≤ (i : Int) := by omega
          clear z5 z6 z8 hx
          obtain ⟨⟨T, q, t, ⟨_, _, _, _, _, _, r6, _, _, _, _, r11⟩, i0, i1⟩, _⟩ := (hcell i hlt).spoilt hsp
          have hsr := lawSpoil _ S _ i0
          go_wp2_with fail
          refine hsr.mono ?_
          rintro e w2 ⟨rfl, s2⟩
          have hsr2 := lawSpoil _ S _ (i1.spoilt s2)
          have r11' := s2.sl r11
          have y7' := s2.sl (q := (some ⟨b, off, none⟩, nT, cT)) y7
          simp only [slV] at y7'
          go_wp2_with fail
          refine hsr2.mono ?_
          rintro e w3 ⟨rfl, s3⟩
          have hsp3 := (hsp.trans s2).trans s3
          obtain ⟨⟨T', q', t', ⟨r0, _⟩, _⟩, hfz⟩ := (hcell i hlt).spoilt hsp3
          have y7'' := s3.sl (q := (some ⟨b, off, none⟩, nT, cT)) y7'
          simp only [slV] at y7''
          clear hcell hsr hsr2 y7 y7' hsp s2 s3 r6 r11 r11' i0 i1 z7
          generalize T'.st = x at r0
          go_wp2_with fail
          go_region
          go_wp2_with fail
          go_roundw
          case rel => exact ⟨i + 1, by omega, by go_num, hsp3.trans ((Spoilt.le trivial (Le.drew _)).trans (Spoilt.store r0 hbb))⟩
          case measure => simp [intOf]; omega
         ·clear hT
          go_wp2_with fail
          go_end0
          exact ⟨rfl, hs0.trans hsp⟩
theorem own_ints {w : World} {base : Nat} {S : Nat → Prop} {v : Value} {xs : List Int} (h : Own w base v xs) (hS : ∀ g, base ≤ g → g < w.heap.size → S g) : Ints w S v := by
 obtain ⟨a, n, cap, hv, hn, hm, hx⟩ := Go.Proofs.YtepplhbajmlbpaaGreat.Own.ints h
 refine ⟨a, n, cap, hv, hn, hm, fun hp => ?_⟩
 obtain ⟨b, off, ha, hb, hc⟩ := hx hp
 obtain ⟨⟨x, h1⟩, _⟩ := hc 0 hp
 exact ⟨b, off, ha, hS b hb (World.block_lt_of_cell? w _ h1), hc⟩
theorem ownL_ints {w : World} {base : Nat} {S : Nat → Prop} {v : Value} {ss : List Slt} (h : OwnL w base v ss) (hf : ss.length * 40 ≤ 140737488351232) (hS : ∀ g, base ≤ g → g < w.heap.size → S g) : IntsL w S v := by
 obtain ⟨a, n, cap, hv, hn, hm, hx⟩ := Go.Proofs.YtepplhbajmlbpaaGreat.OwnL.ints h hf
 refine ⟨a, n, cap, hv, hn, hm, fun hp => ?_⟩
 obtain ⟨b, off, ha, hb, hc⟩ := hx hp
 obtain ⟨⟨x, h1⟩, _⟩ := hc 0 hp
 exact ⟨b, off, ha, hS b hb (World.block_lt_of_cell? w _ h1), hc⟩
theorem each {α : Type} {K : Kind α} {w : World} {base : Nat} {S : Nat → Prop} {v : Value} {xs : List α} (h : OwnE K w base v xs) (At : World → Nat → Nat → Prop) (hm : xs.length ≤ 9223372036854775807) (hS : ∀ g, base ≤ g → g < w.heap.size → S g)
   (hAt : ∀ b off x, x ∈ xs → (∀ j, j < K.k → w.cell? ⟨b, off + j, none⟩ = (K.f x)[j]?) → (∀ j, w.frozen? ⟨b, j, none⟩ = false) → At w b off) : IntsRow K.k At w S v := by
 obtain ⟨a, n, cap, hv, hn, hm', hx⟩ := Go.Proofs.YtepplhbajmlbpaaGreat.OwnE.each h At hm hAt
 refine ⟨a, n, cap, hv, hn, hm', fun hp => ?_⟩
 obtain ⟨b, off, ha, hb, hc⟩ := hx hp
 refine ⟨b, off, ha, hS b hb ?_, hc⟩
 subst ha hv
 exact (h.block (g := b) rfl).2
theorem ownsM_ints {w : World} {base : Nat} {S : Nat → Prop} {L : Lay} (h : OwnsM w base L) (hf : FitM L.M) (hS : ∀ g, base ≤ g → g < w.heap.size → S g) : IntsM w S L.v := by
 have f1 := hf.rs
 have f2 := hf.ps
 have f3 := hf.ts
 have f4 := hf.es
 simp only [Lay.M, List.length_map] at f1 f2 f3 f4
 refine ⟨L.c, L.qR, L.qP, L.qT, L.qH, rfl, ?_, ?_, ?_, ?_⟩
 ·refine each h.oR (RingX S) (by omega) hS fun b off x hx hc hz => ⟨⟨x.R, x.q, ⟨hc 0 (by decide), hc 1 (by decide), hc 2 (by decide), hc 3 (by decide)⟩, ownL_ints (h.iR x hx) (hf.r x.R (List.mem_map_of_mem hx)) hS⟩, hz _⟩
 ·refine each h.oP (RepX S) (by omega) hS fun b off x hx hc hz => ⟨x.vs, x.c, x.l, ⟨hc 0 (by decide), hc 1 (by decide), hc 2 (by decide), hc 3 (by decide), hc 4 (by decide), hc 5 (by decide)⟩, fun i hi => own_ints ((h.iP x hx).1 i hi) hS, own_ints (h.iP x hx).2.1 hS, own_ints (h.iP x hx).2.2 hS⟩
 ·refine each h.oT (ThX S) (by omega) hS fun b off x hx hc hz => ⟨⟨x.T, x.b, x.t, ⟨hc 0 (by decide), hc 1 (by decide), hc 2 (by decide), hc 3 (by decide), hc 4 (by decide), hc 5 (by decide), hc 6 (by decide), hc 7 (by decide), hc 8 (by decide), hc 9 (by decide), hc 10 (by decide), hc 11 (by decide)⟩, own_ints (h.iT x hx).1 hS, own_ints (h.iT x hx).2 hS⟩, hz _⟩
 ·refine each h.oH EvX (by omega) hS fun b off x hx hc hz => ⟨⟨x.t, hc 0 (by decide)⟩, hz _⟩
theorem Spoilt.toLe {S : Nat → Prop} {w0 w w' : World} (k : Spoilt S w w') (l : Le w0 w) (hS : ∀ g, g < w0.heap.size → ¬ S g) : Le w0 w' :=
 ⟨k.os.trans l.os, k.tape.trans l.tape, k.output.trans l.output, Nat.le_trans l.size k.size, fun i hi => (k.keep i (Nat.lt_of_lt_of_le hi l.size) (hS i hi)).trans (l.block i hi)⟩
end Go.Proofs.YtepplhbajmlbpaaGreat.Sp

namespace Go.Proofs.YtepplhbajmlbpaaGreat
open Go.RowKit
set_option maxRecDepth 8000 in
set_option maxHeartbeats 8000000 in
theorem lawAwake18 (w : World) : Calls Tryz.prog 14 #[] w fun e w' => e = .returned (.bool true) ∧ Le w w' := by
 have hl := Le.refl w
 go_enter Tryz.func14, Tryz.ntmps14
 go_upto_region 1 with fail
 go_wp2_with fail
 refine (published18 _).mono ?_
 rintro e w0 ⟨mR, mP, mT, mH, rfl, o0, l0⟩
 replace hl := hl.trans l0
 clear l0
 have hbM := Box.new w0 (cells9 begC mR mP mT mH) 29
 have a1 := Le.alloc w0 (.cells (cells9 begC mR mP mT mH) 29)
 go_upto_region 2 with fail
 generalize hW1 : w0.alloc (.cells (cells9 begC mR mP mT mH) 29) = W0 at hbM a1 ⊢
 clear hW1
 have hggM : w0.heap.size ≤ w0.heap.size := Nat.le_refl _
 generalize hgg : w0.heap.size = gM at hbM hggM ⊢
 have hsgM : w0.heap.size ≤ gM := by omega
 clear hgg hggM
 replace hl := hl.trans a1
 have hM := (o0.le a1).has
 clear a1 o0
 obtain ⟨⟨z0, z1, z2, z3, z4⟩, z5, z6, z7, z8⟩ := (hbM).mach
 go_wp2_with fail
 refine (replayOneAs ry_1 _ _ hM pb_fit).mono ?_
 rintro e w1 ⟨aR, aP, aT, aH, rfl, oA, l1⟩
 clear z0 z1 z2 z3 z4 z5 z6 z7 z8
 replace hl := hl.trans l1
 replace hbM := hbM.le l1
 replace hM := hM.le l1
 clear l1
 have hA := oA.has
 clear oA
 rw [ra_c] at hA ⊢
 obtain ⟨xR, bP, oP, cP, bT, oT, cT, xH, hv, ra⟩ := ra_open hA
 rw [hv] at hA ⊢
 clear hv aR aP aT aH
 obtain ⟨xP, hxP⟩ : ∃ q : Sl, q = (some ⟨bP, oP, none⟩, 2, cP) := ⟨_, rfl⟩
 obtain ⟨xT, hxT⟩ : ∃ q : Sl, q = (some ⟨bT, oT, none⟩, 4, cT) := ⟨_, rfl⟩
 rw [← hxP, ← hxT] at hA ⊢
 have HXP : Hid (xP = (some ⟨bP, oP, none⟩, 2, cP)) := hxP
 have HXT : Hid (xT = (some ⟨bT, oT, none⟩, 4, cT)) := hxT
 clear hxP hxT
 have hbA := Box.new w1 (cells9 begC xR xP xT xH) 29
 have a1 := Le.alloc w1 (.cells (cells9 begC xR xP xT xH) 29)
 go_upto_region 3 with fail
 generalize hW1 : w1.alloc (.cells (cells9 begC xR xP xT xH) 29) = W1 at hbA a1 ⊢
 clear hW1
 have hggA : w1.heap.size ≤ w1.heap.size := Nat.le_refl _
 generalize hgg : w1.heap.size = gA at hbA hggA ⊢
 have hsgA : w1.heap.size ≤ gA := by omega
 clear hgg hggA
 replace hl := hl.trans a1
 replace hbM := hbM.le a1
 replace hM := hM.le a1
 replace hA := hA.le a1
 replace ra := ra.le a1
 clear a1
 obtain ⟨⟨z0, z1, z2, z3, z4⟩, z5, z6, z7, z8⟩ := (hbM).mach
 go_wp2_with fail
 refine (replayOneAs ry_2 _ _ hM pb_fit).mono ?_
 rintro e w2 ⟨aR, aP, aT, aH, rfl, oB, l2⟩
 clear z0 z1 z2 z3 z4 z5 z6 z7 z8
 replace hl := hl.trans l2
 replace hbM := hbM.le l2
 replace hM := hM.le l2
 replace hbA := hbA.le l2
 replace hA := hA.le l2
 replace ra := ra.le l2
 clear l2
 have hB := oB.has
 clear oB
 rw [rb_c] at hB ⊢
 obtain ⟨yR, dP, pP, eP, dT, pT, eT, yH, hv, rb⟩ := rb_open hB
 rw [hv]
 clear hv aR aP aT aH hB
 obtain ⟨yP, hyP⟩ : ∃ q : Sl, q = (some ⟨dP, pP, none⟩, 2, eP) := ⟨_, rfl⟩
 obtain ⟨yT, hyT⟩ : ∃ q : Sl, q = (some ⟨dT, pT, none⟩, 4, eT) := ⟨_, rfl⟩
 rw [← hyP, ← hyT]
 have HYP : Hid (yP = (some ⟨dP, pP, none⟩, 2, eP)) := hyP
 have HYT : Hid (yT = (some ⟨dT, pT, none⟩, 4, eT)) := hyT
 clear hyP hyT
 have hbB := Box.new w2 (cells9 begC yR yP yT yH) 29
 have a1 := Le.alloc w2 (.cells (cells9 begC yR yP yT yH) 29)
 go_upto_region 4 with fail
 generalize hW1 : w2.alloc (.cells (cells9 begC yR yP yT yH) 29) = W2 at hbB a1 ⊢
 clear hW1
 have hggB : w2.heap.size ≤ w2.heap.size := Nat.le_refl _
 generalize hgg : w2.heap.size = gB at hbB hggB ⊢
 have hsgB : w2.heap.size ≤ gB := by omega
 clear hgg hggB
 replace hl := hl.trans a1
 replace hbM := hbM.le a1
 replace hM := hM.le a1
 replace hbA := hbA.le a1
 replace hA := hA.le a1
 replace ra := ra.le a1
 replace rb := rb.le a1
 clear a1
 obtain ⟨⟨z0, z1, z2, z3, z4⟩, z5, z6, z7, z8⟩ := (hbA).mach
 go_wp2_with fail
 refine (replayOneAs ry_3 _ _ hA ra_fit).mono ?_
 rintro e w3 ⟨tR, tP, tT, tH, rfl, oC, l3⟩
 clear z0 z1 z2 z3 z4 z5 z6 z7 z8
 replace hl := hl.trans l3
 replace hbM := hbM.le l3
 replace hM := hM.le l3
 replace hbA := hbA.le l3
 replace hA := hA.le l3
 replace ra := ra.le l3
 replace hbB := hbB.le l3
 replace rb := rb.le l3
 clear l3
 have hC := oC.has
 clear oC
 rw [ra_c] at hC ⊢
 have hbC := Box.new w3 (cells9 begC tR tP tT tH) 29
 have a1 := Le.alloc w3 (.cells (cells9 begC tR tP tT tH) 29)
 go_upto_region 5 with fail
 generalize hW1 : w3.alloc (.cells (cells9 begC tR tP tT tH) 29) = W3 at hbC a1 ⊢
 clear hW1
 have hggC : w3.heap.size ≤ w3.heap.size := Nat.le_refl _
 generalize hgg : w3.heap.size = gC at hbC hggC ⊢
 have hsgC : w3.heap.size ≤ gC := by omega
 clear hgg hggC
 replace hl := hl.trans a1
 replace hbM := hbM.le a1
 replace hM := hM.le a1
 replace hbA := hbA.le a1
 replace hA := hA.le a1
 replace ra := ra.le a1
 replace hbB := hbB.le a1
 replace rb := rb.le a1
 replace hC := hC.le a1
 clear a1
 obtain ⟨⟨z0, z1, z2, z3, z4⟩, z5, z6, z7, z8⟩ := (hbM).mach
 go_wp2_with fail
 refine (replayOneAs ry_4 _ _ hM pb_fit).mono ?_
 rintro e w4 ⟨uR, uP, uT, uH, rfl, _, l4⟩
 clear z0 z1 z2 z3 z4 z5 z6 z7 z8
 replace hl := hl.trans l4
 replace hbA := hbA.le l4
 replace hA := hA.le l4
 replace ra := ra.le l4
 replace hbB := hbB.le l4
 replace rb := rb.le l4
 replace hbC := hbC.le l4
 replace hC := hC.le l4
 clear l4 hbM hM
 have hbD := Box.new w4 (cells9 Mc.zero.c uR uP uT uH) 29
 have a1 := Le.alloc w4 (.cells (cells9 Mc.zero.c uR uP uT uH) 29)
 go_upto_region 6 with fail
 generalize hW1 : w4.alloc (.cells (cells9 Mc.zero.c uR uP uT uH) 29) = W4 at hbD a1 ⊢
 clear hW1
 have hggD : w4.heap.size ≤ w4.heap.size := Nat.le_refl _
 generalize hgg : w4.heap.size = gD at hbD hggD ⊢
 have hsgD : w4.heap.size ≤ gD := by omega
 clear hgg hggD
 replace hl := hl.trans a1
 replace hbA := hbA.le a1
 replace hA := hA.le a1
 replace ra := ra.le a1
 replace hbB := hbB.le a1
 replace rb := rb.le a1
 replace hbC := hbC.le a1
 replace hC := hC.le a1
 clear a1 hbD
 obtain ⟨⟨gs, os, cs, p0, hs⟩, ⟨gc, oc, cc, p4, c0⟩, x9, x10⟩ := ra
 obtain ⟨⟨gs2, os2, cs2, q0, hs2⟩, x92⟩ := rb
 obtain ⟨⟨y0, y1, y2, y3, y4⟩, y5, y6, y7, y8⟩ := (hbA).mach
 rw [HXP.out] at y6
 rw [HXT.out] at y7
 obtain ⟨⟨z0, z1, z2, z3, z4⟩, z5, z6, z7, z8⟩ := (hbB).mach
 rw [HYP.out] at z6
 rw [HYT.out] at z7
 simp only [slV] at y6 y7 z6 z7
 have hlit := (Own.lit W4 W4.heap.size (Nat.le_refl _) [7] (by simp)).has
 have hA1 := Le.alloc W4 (.cells #[.int .i64 7] 3)
 have s1 := lawSameInts _ _ [7] [7] _ (hs.le hA1) hlit (by simp)
 simp only [decide_true, List.length_cons, List.length_nil, Nat.zero_add] at s1
 clear hlit hs
 go_wp2_with (go_at_call 12; refine (lawNum _ _).mono ?_; rintro e _ ⟨rfl, rfl⟩)
 refine s1.mono ?_
 rintro e V5 ⟨rfl, n5, hn5⟩
 have l5 : Le W4 V5 := hA1.trans (by rw [hn5]; exact Le.drewN _ _)
 clear y0 y1 y2 y3 y4 y5 y6 y7 y8 z0 z1 z2 z3 z4 z5 z6 z7 z8
 clear hn5 s1 hA1 p0 p4 c0 x9 x10 HXP HXT
 replace hl := hl.trans l5
 replace hbA := hbA.le l5
 replace hA := hA.le l5
 replace hbB := hbB.le l5
 replace hbC := hbC.le l5
 replace hC := hC.le l5
 replace q0 := cell_le q0 l5
 replace x92 := cell_le x92 l5
 replace hs2 := hs2.le l5
 clear l5
 obtain ⟨⟨z0, z1, z2, z3, z4⟩, z5, z6, z7, z8⟩ := (hbB).mach
 rw [HYP.out] at z6
 rw [HYT.out] at z7
 simp only [slV] at z6 z7
 have hlit := (Own.lit V5 V5.heap.size (Nat.le_refl _) [7] (by simp)).has
 have hA1 := Le.alloc V5 (.cells #[.int .i64 7] 3)
 have s1 := lawSameInts _ _ [7] [7] _ (hs2.le hA1) hlit (by simp)
 simp only [decide_true, List.length_cons, List.length_nil, Nat.zero_add] at s1
 clear hlit hs2
 go_wp2_with (go_at_call 12; refine (lawNum _ _).mono ?_; rintro e _ ⟨rfl, rfl⟩)
 refine s1.mono ?_
 rintro e V6 ⟨rfl, n6, hn6⟩
 have l6 : Le V5 V6 := hA1.trans (by rw [hn6]; exact Le.drewN _ _)
 clear z0 z1 z2 z3 z4 z5 z6 z7 z8
 clear hn6 s1 hA1 q0 x92 HYP HYT
 have s2 := lawSameMachine _ _ raM raM V6 (hA.le l6) (hC.le l6) ra_fit
 simp only [decide_true] at s2
 have hbA6 := hbA.le l6
 have hbC6 := hbC.le l6
 obtain ⟨⟨y0, y1, y2, y3, y4⟩, y5, y6, y7, y8⟩ := (hbA6).mach
 obtain ⟨⟨z0, z1, z2, z3, z4⟩, z5, z6, z7, z8⟩ := (hbC6).mach
 go_wp2_with (go_at_call 12; refine (lawNum _ _).mono ?_; rintro e _ ⟨rfl, rfl⟩)
 refine s2.mono ?_
 rintro e V7 ⟨rfl, l7⟩
 go_wp2_with (go_at_call 12; refine (lawNum _ _).mono ?_; rintro e _ ⟨rfl, rfl⟩)
 go_ret
 exact ⟨rfl, (hl.trans l6).trans l7⟩
end Go.Proofs.YtepplhbajmlbpaaGreat
