/-
  PARTS LAID TOGETHER, each with its own opening: ObjR, ComS, RgI, MsU, RyP, RyR, OpenSl, OpenR, OpenSt, OpenCf, OpenM.
-/
import Derived.Test.YtepplhbajmlbpaaGreatCom7
import Derived.Test.YtepplhbajmlbpaaGreatCom2
import Derived.Test.YtepplhbajmlbpaaGreatCom1
import Derived.Test.YtepplhbajmlbpaaGreatCom3
import Derived.Test.YtepplhbajmlbpaaGreatCom4
import Derived.Test.YtepplhbajmlbpaaGreatCom5
import Derived.Deep.RegionHeld3
import Derived.Deep.QuietTactic
import Derived.BigQuiet
import Derived.ProofKit
import Derived.OpenShut
import Derived.SizedLaws
import Derived.Lib.SmallJoins
import Derived.Deep.Slices
import Derived.Deep.Strs
import Derived.Laws.IdiomArrays
namespace Go.Proofs.YtepplhbajmlbpaaGreat
open Go.RowKit
def rowF (o c : Int) (xs : List Int) (a : Int) : List Int × Int :=
 if o = 0 then (if c = 0 then [a] else if c = 1 then [] else xs, firstS xs)
 else if o = 1 then (if c = 0 then putS xs else if c = 1 then takeS xs a else (xs, (xs.length : Int)))
 else (if c = 0 then enqS xs a else if c = 1 then deqS xs else (xs, (xs.length : Int)))
theorem objMay_in {o : Int} {s : St} (h : objMay o s = true) : o = 0 ∨ o = 1 ∨ o = 2 := by
 rcases obj_cases (o := o) with rfl | rfl | rfl | hn
 ·exact .inl rfl
 ·exact .inr (.inl rfl)
 ·exact .inr (.inr rfl)
 ·rw [objMay_out hn] at h; cases h
theorem objMay_all {o : Int} {s : St} (h : objMay o s = true) : s.all (rowMayO o) = true := (Bool.and_eq_true_iff.mp h).2
theorem objMay_row {o : Int} {s : St} (h : objMay o s = true) {k : Nat} (hk : k < 4) : rowMayO o (s.at k) = true := St.all_at (objMay_all h) hk
theorem objMay_of {o : Int} {s t : St} (h : objMay o s = true) (ht : ∀ k, k < 4 → rowMayO o (t.at k) = true) : objMay o t = true := by
 have h1 := (Bool.and_eq_true_iff.mp h).1
 unfold objMay
 rw [h1, St.all_of ht]; rfl
theorem objMay_put {o : Int} {s : St} (h : objMay o s = true) {k : Nat} (hk : k < 4) {x : List Int} (hx : rowMayO o x = true) : objMay o (s.put k x) = true :=
 objMay_of h fun j hj => by rw [St.at_put hk hj]; split; exact hx; exact objMay_row h hj
theorem objS_row {o : Int} {s : St} {c a : Int} {k : Nat} (er : Int) (hm : objMay o s = true) (ho : opMay c k a = true) (hc : c ≠ 3) :
   objS o s c k a er = (s.put k (rowF o c (s.at k) a).1, (rowF o c (s.at k) a).2, 0) := by
 rcases objMay_in hm with rfl | rfl | rfl
 ·replace hm : s.all rowMay1 = true := hm
  rcases opMay_cases ho with ⟨j, hj, rfl, hr, ha⟩ | ⟨j, hj, rfl, hr, ha⟩ | ⟨j, hj, rfl, hr, rfl⟩ | ⟨rfl, hr, rfl⟩
  ·obtain rfl : k = j := by omega
   exact stoS_first hm hj ha
  ·obtain rfl : k = j := by omega
   exact stoS_second hm hj ha
  ·obtain rfl : k = j := by omega
   exact (stoS_look hm hj).trans (by show _ = (s.put k (s.at k), firstS (s.at k), 0); rw [St.put_same hj])
  ·exact absurd rfl hc
 ·replace hm : s.all rowMay2 = true := hm
  rcases opMay_cases ho with ⟨j, hj, rfl, hr, ha⟩ | ⟨j, hj, rfl, hr, ha⟩ | ⟨j, hj, rfl, hr, rfl⟩ | ⟨rfl, hr, rfl⟩
  ·obtain rfl : k = j := by omega
   exact fdsS_first hm hj ha
  ·obtain rfl : k = j := by omega
   exact fdsS_second hm hj ha
  ·obtain rfl : k = j := by omega
   exact (fdsS_look hm hj).trans (by show _ = (s.put k (s.at k), ((s.at k).length : Int), 0); rw [St.put_same hj])
  ·exact absurd rfl hc
 ·replace hm : s.all rowMay3 = true := hm
  rcases opMay_cases ho with ⟨j, hj, rfl, hr, ha⟩ | ⟨j, hj, rfl, hr, ha⟩ | ⟨j, hj, rfl, hr, rfl⟩ | ⟨rfl, hr, rfl⟩
  ·obtain rfl : k = j := by omega
   exact queS_first hm hj ha
  ·obtain rfl : k = j := by omega
   exact queS_second hm hj ha
  ·obtain rfl : k = j := by omega
   exact (queS_look hm hj).trans (by show _ = (s.put k (s.at k), ((s.at k).length : Int), 0); rw [St.put_same hj])
  ·exact absurd rfl hc
theorem rowF_may {o c r a : Int} {s : St} {xs : List Int} (hm : objMay o s = true) (hx : rowMayO o xs = true) (ho : opMay c r a = true) : rowMayO o (rowF o c xs a).1 = true := by
 obtain ⟨_, _, _, _, ha⟩ := opMay_bounds ho
 rcases objMay_in hm with rfl | rfl | rfl
 ·show rowMay1 (if c = 0 then [a] else if c = 1 then [] else xs) = true
  split
  ·simp [rowMay1]; omega
  ·split
   ·rfl
   ·exact hx
 ·show rowMay2 (if c = 0 then putS xs else if c = 1 then takeS xs a else (xs, (xs.length : Int))).1 = true
  split
  ·exact put_may hx
  ·split
   ·exact take_may hx
   ·exact hx
 ·show rowMay3 (if c = 0 then enqS xs a else if c = 1 then deqS xs else (xs, (xs.length : Int))).1 = true
  split
  ·exact enq_may hx ha
  ·split
   ·exact deq_may hx
   ·exact hx
theorem objS_scan0 {o : Int} {s : St} (er : Int) (hm : objMay o s = true) : (objS o s 3 0 0 er).1 = s := by
 rcases obj_cases (o := o) with rfl | rfl | rfl | hn
 ·exact congrArg Prod.fst (stoS_scan (er := er) hm)
 ·exact congrArg Prod.fst (fdsS_scan (er := er) hm)
 ·exact congrArg Prod.fst (queS_scan (er := er) hm)
 ·rw [objMay_out hn] at hm; cases hm
theorem objS_may {o : Int} {s : St} {c r a : Int} (er : Int) (hm : objMay o s = true) (ho : opMay c r a = true) : objMay o (objS o s c r a er).1 = true := by
 by_cases hc : c = 3
 ·subst hc
  have : r = 0 ∧ a = 0 := by simp [opMay] at ho; omega
  obtain ⟨rfl, rfl⟩ := this
  rw [objS_scan0 er hm]; exact hm
 ·obtain ⟨_, _, r0, r3, _, _⟩ := opMay_bounds ho
  obtain ⟨k, rfl⟩ : ∃ k : Nat, r = k := ⟨r.toNat, by omega⟩
  rw [objS_row er hm ho hc]
  exact objMay_put hm (by omega) (rowF_may hm (objMay_row hm (by omega)) ho)
theorem entry_bad {R : Rg} {p : Int} (h : mayR R = false) : entryS R p = (⟨0, 0, 0, 0, 0⟩, 1000) := by
 simp [entryS, h, Slt.zero]
theorem entry_off {R : Rg} {p : Int} (h : mayR R = true) (hp : p < R.h ∨ R.t ≤ p) : entryS R p = (⟨0, 0, 0, 0, 0⟩, 1002) := by
 have : hasB R.h R.t p = false := by simp [hasB]; omega
 simp [entryS, entryB, h, this, Slt.zero]
structure MayP (M : Mc) : Prop where
 ok : M.c.ok = true
 lr : (M.rs.length : Int) = M.c.l
 rs : ∀ R ∈ M.rs, ringB M.c R = true
 lp : (M.ps.length : Int) = M.c.r
 ps : ∀ P ∈ M.ps, repB M.c M.rs P = true
 lt : (M.ts.length : Int) = M.c.t
 ts : ∀ T ∈ M.ts, thB M.c T = true
 le : (M.es.length : Int) ≤ 64
 es : ∀ E ∈ M.es, evB M.c E = true
theorem mayM_iff {M : Mc} : mayM M = true ↔ MayP M := by
 constructor
 ·intro h
  obtain ⟨a, b, c, d⟩ := mayM_lens h
  exact ⟨mayM_ok h, a, mayM_rs h, b, mayM_ps h, c, mayM_ts h, d, mayM_es h⟩
 ·intro h
  unfold mayM
  simp only [Bool.and_eq_true, decide_eq_true_eq, List.all_eq_true]
  exact ⟨h.ok, ⟨h.lr, h.rs⟩, ⟨h.lp, h.ps⟩, ⟨h.lt, h.ts⟩, h.le, h.es⟩
theorem thB_yes {c : Cfg} {T : Th} (h1 : 0 ≤ T.st ∧ T.st ≤ 19) (h2 : opMay T.c T.r T.a = true) (h3 : 0 ≤ T.lg ∧ T.lg ≤ c.l - 1) (h4 : 0 ≤ T.sn ∧ T.sn ≤ 1048576) (h5 : (T.b.length : Int) ≤ c.t) (h6 : ∀ x ∈ T.b, 0 ≤ x ∧ x ≤ c.t - 1) (h7 : 0 ≤ T.pl ∧ T.pl ≤ T.b.length) (h8 : (T.tl.length : Int) ≤ c.l) (h9 : ∀ x ∈ T.tl, 0 ≤ x ∧ x ≤ 1048576) : thB c T = true := by
 unfold thB
 simp only [Bool.and_eq_true, decide_eq_true_eq, List.all_eq_true]
 exact ⟨inB_yes h1.1 h1.2, h2, inB_yes h3.1 h3.2, inB_yes h4.1 h4.2, ⟨h5, fun x hx => inB_yes (h6 x hx).1 (h6 x hx).2⟩, inB_yes h7.1 h7.2, h8, fun x hx => inB_yes (h9 x hx).1 (h9 x hx).2⟩
theorem repB_yes {c : Cfg} {Rs : List Rg} {P : Rp} (h1 : objMay c.o P.s = true) (h2 : (P.cs.length : Int) = c.l) (h3 : cursOK Rs P.cs = true) (h4 : (P.ls.length : Int) = c.l) (h5 : ∀ x ∈ P.ls, 0 ≤ x ∧ x ≤ c.t) : repB c Rs P = true := by
 unfold repB
 simp only [Bool.and_eq_true, decide_eq_true_eq, List.all_eq_true]
 exact ⟨h1, h2, h3, h4, fun x hx => inB_yes (h5 x hx).1 (h5 x hx).2⟩
theorem mayM_putT {M : Mc} (h : mayM M = true) {t : Int} {x : Th} (hx : thB M.c x = true) : mayM (M.putT t x) = true := by
 obtain ⟨a, b, c, d, e, f, g, i, j⟩ := mayM_iff.1 h
 refine mayM_iff.2 ⟨a, b, c, d, e, by simpa [Mc.putT] using f, fun T hT => ?_, i, j⟩
 rcases List.mem_or_eq_of_mem_set hT with hT | rfl
 ·exact g T hT
 ·exact hx
theorem mayM_putP {M : Mc} (h : mayM M = true) {r : Int} {x : Rp} (hx : repB M.c M.rs x = true) : mayM (M.putP r x) = true := by
 obtain ⟨a, b, c, d, e, f, g, i, j⟩ := mayM_iff.1 h
 refine mayM_iff.2 ⟨a, b, c, by simpa [Mc.putP] using d, fun P hP => ?_, f, g, i, j⟩
 rcases List.mem_or_eq_of_mem_set hP with hP | rfl
 ·exact e P hP
 ·exact hx
theorem cursOK_yes {Rs : List Rg} {cs : List Int} (h : ∀ k, k < cs.length → (Rs.getD k Rg.zero).h ≤ cs.getD k 0 ∧ cs.getD k 0 ≤ (Rs.getD k Rg.zero).t) : cursOK Rs cs = true := by
 unfold cursOK
 simp only [List.all_eq_true, List.mem_range]
 exact fun k hk => inB_yes (h k hk).1 (h k hk).2
theorem thB_zero {c : Cfg} (h : c.ok = true) : thB c Th.zero = true := by
 obtain ⟨_, _, ⟨l0, _⟩, ⟨t0, _⟩, _, _⟩ := Cfg.ok_cases h
 exact thB_yes (by decide) (by decide) (by simp [Th.zero]; omega) (by decide) (by simp [Th.zero]; omega) (by simp [Th.zero]) (by simp [Th.zero]) (by simp [Th.zero]; omega) (by simp [Th.zero])
theorem th_may {M : Mc} (h : mayM M = true) (t : Int) : thB M.c (M.th t) = true := by
 unfold Mc.th
 rcases Nat.lt_or_ge t.toNat M.ts.length with ht | ht
 ·exact mayM_ts h _ (getD_mem ht)
 ·rw [getD_out ht]; exact thB_zero (mayM_ok h)
theorem entry_in {R : Rg} {p : Int} {s : Slt} (h : entryS R p = (s, 0)) : R.h ≤ p ∧ p < R.t := by
 cases hm : mayR R
 ·rw [entry_bad hm] at h; simp at h
 ·rcases Classical.em (p < R.h ∨ R.t ≤ p) with h2 | h2
  ·rw [entry_off hm h2] at h; simp at h
  ·omega
theorem setCur_at {P : Rp} {g : Nat} {x : Int} (h : g < P.cs.length) (k : Nat) : (P.setCur g x).cs.getD k 0 = if k = g then x else P.cs.getD k 0 := by
 unfold Rp.setCur
 simp only [Int.toNat_natCast]
 rw [List.getD_eq_getElem?_getD, List.getElem?_set, List.getD_eq_getElem?_getD]
 by_cases e : g = k
 ·subst e; rw [if_pos rfl, if_pos h, if_pos rfl]; rfl
 ·rw [if_neg e, if_neg (fun k => e k.symm)]
theorem rp_put {M : Mc} {r : Nat} {x : Rp} (h : r < M.ps.length) : (M.putP r x).rp r = x := by
 unfold Mc.putP Mc.rp
 simp [List.getD_eq_getElem?_getD, h]
theorem one_done {M N : Mc} {r g : Nat} (h1 : oneM M r g = (N, true, 0)) : ∃ (c rr a th y b : Int) (s' : St), thereB M r g 0 = true ∧ entryS (M.rg g) ((M.rp r).cur g) = (⟨c, rr, a, th, b⟩, 0) ∧ (M.rp r).cur g < (M.rg g).t ∧ opMay c rr a = true ∧ objMay M.c.o (M.rp r).s = true ∧
   objS M.c.o (M.rp r).s c rr a 600 = (s', y, 0) ∧ N.c = M.c ∧ N.rs = M.rs ∧ N.ps.length = M.ps.length ∧ (N.rp r).s = s' ∧ (N.rp r).cur g = (M.rp r).cur g + 1 ∧ mayM N = true := by
 have h0 : thereB M r g 0 = true := by
   cases h : thereB M r g 0 with
   | true => rfl
   | false => unfold oneM at h1; rw [h] at h1; simp at h1
 obtain ⟨⟨c, rr, a, th, b⟩, er, he⟩ : ∃ s er, entryS (M.rg g) ((M.rp r).cur g) = (s, er) := ⟨_, _, rfl⟩
 have her : er = 0 := by
   rcases Classical.em (er = 0) with h | h
   ·exact h
   ·unfold oneM at h1; rw [if_pos h0, he] at h1; simp only [if_neg h] at h1; simp at h1
 subst her
 obtain ⟨hmay, ⟨ra, rb⟩, ⟨g0, g1⟩, _⟩ := thereB_cases h0
 obtain ⟨hrs, hps, hts, _⟩ := mayM_lens hmay
 have hpi : r < M.ps.length := by omega
 have hgi : g < M.rs.length := by omega
 have hrp := Mc.rp_may hmay hpi
 obtain ⟨hom, hcl, hcu, hll, hlk⟩ := repB_cases hrp
 have hgc : g < (M.rp r).cs.length := by omega
 obtain ⟨hRm, _, _, hRt⟩ := ringB_cases (Mc.rg_may hmay hgi)
 have hm := entry_mem he
 have hin := entry_in he
 have hsb := List.all_eq_true.1 (mayR_all hRm) _ hm
 have hop : opMay c rr a = true := by
   unfold slotB opUp at hsb
   simp only [Bool.and_eq_true] at hsb
   exact hsb.1.1.1
 have h6 := objS_yes (o := M.c.o) (s := (M.rp r).s) (c := c) (r := rr) (a := a) 600 (by rw [hom, hop]; rfl)
 have h18 := objS_yes (o := M.c.o) (s := (M.rp r).s) (c := c) (r := rr) (a := a) 1800 (by rw [hom, hop]; rfl)
 have hmy := objS_may (o := M.c.o) (s := (M.rp r).s) (c := c) (r := rr) (a := a) 1800 hom hop
 obtain ⟨s', hs'⟩ : ∃ s', s' = (objS M.c.o (M.rp r).s c rr a 0).1 := ⟨_, rfl⟩
 obtain ⟨y, hy⟩ : ∃ y, y = (objS M.c.o (M.rp r).s c rr a 0).2.1 := ⟨_, rfl⟩
 rw [← hs', ← hy] at h6 h18
 rw [h18] at hmy
 have hP : oneP M r g ⟨c, rr, a, th, b⟩ = { (M.rp r).setCur g ((M.rp r).cur g + 1) with s := s' } := by unfold oneP; simp only [h18]
 have hX : repB M.c M.rs { (M.rp r).setCur g ((M.rp r).cur g + 1) with s := s' } = true := by
   refine repB_yes hmy (by show (((M.rp r).cs.set _ _).length : Int) = _; rw [List.length_set]; exact hcl) (cursOK_yes fun k hk => ?_) hll hlk
   show _ ≤ ((M.rp r).setCur g ((M.rp r).cur g + 1)).cs.getD k 0 ∧ ((M.rp r).setCur g ((M.rp r).cur g + 1)).cs.getD k 0 ≤ _
   rw [setCur_at hgc]
   have hk' : k < (M.rp r).cs.length := by
     have : k < ((M.rp r).cs.set g ((M.rp r).cur g + 1)).length := hk
     rwa [List.length_set] at this
   by_cases e : k = g
   ·subst e
    rw [if_pos rfl]
    exact ⟨by have := hin.1; unfold Mc.rg at this; rw [Int.toNat_natCast] at this; omega, by have := hin.2; unfold Mc.rg at this; rw [Int.toNat_natCast] at this; omega⟩
   ·rw [if_neg e]; exact cursOK_at hcu hk'
 have hB := mayM_putP hmay (r := r) hX
 obtain ⟨B, hBe⟩ : ∃ B, B = M.putP r { (M.rp r).setCur g ((M.rp r).cur g + 1) with s := s' } := ⟨_, rfl⟩
 have key : ∀ X : Mc, X.ps = B.ps → (X.rp r).s = s' ∧ (X.rp r).cur g = (M.rp r).cur g + 1 := fun X e => by
   have e2 : X.rp r = { (M.rp r).setCur g ((M.rp r).cur g + 1) with s := s' } := by
     have := rp_put (x := { (M.rp r).setCur g ((M.rp r).cur g + 1) with s := s' }) hpi
     rw [← hBe] at this
     rw [← this]; unfold Mc.rp; rw [e]
   rw [e2]
   refine ⟨rfl, ?_⟩
   show ((M.rp r).setCur g ((M.rp r).cur g + 1)).cs.getD (g : Int).toNat 0 = _
   rw [Int.toNat_natCast, setCur_at hgc, if_pos rfl]
 rw [← hBe] at hB
 have hl : B.ps.length = M.ps.length := by rw [hBe]; simp [Mc.putP]
 refine ⟨c, rr, a, th, y, b, s', h0, he, hin.2, hop, hom, h6, ?_⟩
 unfold oneM at h1
 rw [if_pos h0, he] at h1
 simp only [hP, ← hBe] at h1
 rw [if_pos trivial] at h1
 split at h1
 ·have e := (Prod.mk.inj h1).1
  obtain ⟨k1, k2⟩ := key (B.putT th (oneT M r ⟨c, rr, a, th, b⟩)) rfl
  rw [e] at k1 k2
  have hT : thB B.c (oneT M r ⟨c, rr, a, th, b⟩) = true := by
    have := th_may hmay th
    rw [hBe]
    unfold thB at this ⊢
    exact this
  have hN := mayM_putT hB (t := th) hT
  rw [e] at hN
  refine ⟨by rw [← e, hBe]; rfl, by rw [← e, hBe]; rfl, by rw [← e]; exact hl, k1, k2, hN⟩
 ·have e := (Prod.mk.inj h1).1
  subst e
  obtain ⟨k1, k2⟩ := key B rfl
  exact ⟨by rw [hBe]; rfl, by rw [hBe]; rfl, hl, k1, k2, hB⟩
abbrev putS4 (w : World) (g : Nat) (us : Nat → Sl) : World := (((w.setCell ⟨g, 0, none⟩ (slV (us 0))).setCell ⟨g, 1, none⟩ (slV (us 1))).setCell ⟨g, 2, none⟩ (slV (us 2))).setCell ⟨g, 3, none⟩ (slV (us 3))
def StO (w w' : World) (v : Value) (s : St) : Prop := HasS w v s ∨ OwnS w' 0 v s
theorem StO.has {w w' : World} {v : Value} {s : St} (h : StO w w' v s) (l : Le w w') : HasS w' v s := by
 rcases h with h | h
 ·exact h.le l
 ·exact OwnS.has h
theorem StO.le {w w' w'' : World} {v : Value} {s : St} (h : StO w w' v s) (l : Le w' w'') : StO w w'' v s := by
 rcases h with h | ⟨q, hv, hr⟩
 ·exact .inl h
 ·exact .inr ⟨q, hv, fun i hi => (hr i hi).le l⟩
theorem StO.putS4 {w w' : World} {g : Nat} {v : Value} {s : St} {cs : Array Value} (h : StO w w' v s) (hb : Box w' g cs 44) (us : Nat → Sl) : StO w (Go.Proofs.YtepplhbajmlbpaaGreat.putS4 w' g us) v s := by
 rcases h with h | ⟨q, hv, hr⟩
 ·exact .inl h
 ·exact .inr ⟨q, hv, fun i hi => (hr i hi).set4 hb (by decide) _ _ _ _⟩
theorem StO.put9 {w w' : World} {g : Nat} {v : Value} {s : St} {cs : Array Value} (h : StO w w' v s) (hb : Box w' g cs 29) (c : Cfg) (a b d e : Sl) : StO w (Go.Proofs.YtepplhbajmlbpaaGreat.put9 w' g c a b d e) v s := by
 rcases h with h | ⟨q, hv, hr⟩
 ·exact .inl h
 ·refine .inr ⟨q, hv, fun i hi => row_put9 (hr i hi) (fun e => ?_) _ _ _ _ _⟩
  rcases (hr i hi).2 with ⟨e2, _⟩ | ⟨g', cap, cur, hv, _, hh, _⟩
  ·rw [e2] at e; simp [Value.ownBlock] at e
  ·rw [hv] at e
   simp [Value.ownBlock] at e
   subst e
   unfold Box at hb
   rw [hb] at hh
   simp at hh
theorem OwnM.setS {w : World} {B g i : Nat} {v u : Value} {M : Mc} {cs : Array Value} (h : OwnM w B v M) (hb : Box w g cs 44) : OwnM (w.setCell ⟨g, i, none⟩ u) B v M := by
 obtain ⟨L, hv, hm, o⟩ := h
 have k : ∀ {t : TypeId} {kk n : Nat} {v : Value} {us : List Value}, World.ownsRow w B t kk v n us → t ≠ 44 → (w.setCell ⟨g, i, none⟩ u).ownsRow B t kk v n us := fun {t kk n v us} h ht => ownsRow_setCell_other h (fun e => by
   rcases h.2 with ⟨e2, _⟩ | ⟨g', cap, cur, hv, _, hh, _⟩
   ·rw [e2] at e; simp [Value.ownBlock] at e
   ·rw [hv] at e
    simp [Value.ownBlock] at e
    subst e
    unfold Box at hb
    rw [hb] at hh
    simp at hh
    exact ht hh.2.symm) _
 exact ⟨L, hv, hm, ⟨k o.oR (by decide), k o.oP (by decide), k o.oT (by decide), k o.oH (by decide), fun y hy => k (o.iR y hy) (by decide), fun y hy => ⟨fun i hi => k ((o.iP y hy).1 i hi) (by decide), k (o.iP y hy).2.1 (by decide), k (o.iP y hy).2.2 (by decide)⟩, fun y hy => ⟨k (o.iT y hy).1 (by decide), k (o.iT y hy).2 (by decide)⟩⟩⟩
theorem OwnM.putS4 {w : World} {B g : Nat} {v : Value} {M : Mc} {vs : Nat → Sl} (h : OwnM w B v M) (hb : Box w g (cells4 vs) 44) (us : Nat → Sl) : OwnM (Go.Proofs.YtepplhbajmlbpaaGreat.putS4 w g us) B v M :=
 (((h.setS hb).setS (hb.set 0 _)).setS ((hb.set 0 _).set 1 _)).setS (((hb.set 0 _).set 1 _).set 2 _)
theorem Le.putS4 {w w' : World} {g : Nat} (h : Le w w') (hg : w.heap.size ≤ g) (us : Nat → Sl) : Le w (Go.Proofs.YtepplhbajmlbpaaGreat.putS4 w' g us) :=
 (((h.set hg).set hg).set hg).set hg
theorem OwnM.put9 {w : World} {B g : Nat} {v : Value} {M : Mc} {cs : Array Value} (h : OwnM w B v M) (hb : Box w g cs 29) (c : Cfg) (a b d e : Sl) : OwnM (Go.Proofs.YtepplhbajmlbpaaGreat.put9 w g c a b d e) B v M := by
 obtain ⟨L, hv, hm, ho⟩ := h
 exact ⟨L, hv, hm, ho.put9 hb c a b d e⟩
theorem OwnA.ownM {w : World} {base : Nat} {v : Value} {M : Mc} (h : OwnA w base v M) : OwnM w 0 v M := by
 obtain ⟨L, hv, hm, ho, _⟩ := h
 exact (show OwnM w base v M from ⟨L, hv, hm.symm, ho⟩).base (Nat.zero_le _)
set_option maxRecDepth 8000 in
set_option maxHeartbeats 16000000 in
theorem lawReplayRow (w : World) (v : Value) (M : Mc) (hx : HasM w v M) (hf : FitM M) (r g : Int) : Calls Tryz.prog 5 #[v, .int .i64 r, .int .i64 g] w fun e w' => e = .returned (.bool true) ∧ Le w w' := by
 have m0 := fun w' (l : Le w w') => rmMay v M w' (hx.le l) hf
 by_cases hin : mayM M = true ∧ (0 ≤ r ∧ r < M.ps.length) ∧ (0 ≤ g ∧ g < M.rs.length)
 ·obtain ⟨hmay, ⟨hr0, hr1⟩, hg0, hg1⟩ := hin
  rw [hmay] at m0
  obtain ⟨hrs, hps, hts, _⟩ := mayM_lens hmay
  obtain ⟨_, ⟨r2, r3⟩, ⟨_, l3⟩, ⟨t2, t3⟩, _, _⟩ := Cfg.ok_cases (mayM_ok hmay)
  obtain ⟨r, rfl⟩ : ∃ n : Nat, r = n := ⟨r.toNat, by omega⟩
  obtain ⟨g, rfl⟩ : ∃ n : Nat, g = n := ⟨g.toNat, by omega⟩
  have hpi : r < M.ps.length := by omega
  have hgi : g < M.rs.length := by omega
  have hth0 : thereB M r g 0 = true := thereB_yes hmay (by omega) (by omega) (by omega)
  obtain ⟨_, hcl, hcur, _, _⟩ := repB_cases (Mc.rp_may hmay hpi)
  obtain ⟨hRm, hRl, _, _⟩ := ringB_cases (Mc.rg_may hmay hgi)
  have hfR := mayR_fit hRm
  have hgc : g < (M.rp r).cs.length := by omega
  obtain ⟨cu0, cu1⟩ := cursOK_at hcur hgc
  rw [← Mc.rg_nat] at cu0 cu1
  have HR : Hid (mayR (M.rg g) = true) := hRm
  obtain ⟨rh0, rht, rt1, rtn⟩ := mayR_nums hRm
  have hl16 := mayR_len hRm
  obtain ⟨x0, hx0e⟩ : ∃ x, x = (M.rp r).cs.getD g 0 := ⟨_, rfl⟩
  rw [← hx0e] at cu0 cu1
  have hcx : (M.rp r).cur g = x0 := by rw [Rp.cur, Int.toNat_natCast, hx0e]
  have hx0 := hx
  obtain ⟨bR, oR, cR, bP, oP, cP, bT, oT, cT, qH, rfl, hcR, hcP, _, _⟩ := hx.opens hmay
  obtain ⟨⟨s0, s1, s2⟩, hatR, hss⟩ := hcR g hgi
  obtain ⟨vs, qc, ql, hatp, hvs, hcq, _⟩ := hcP r hpi
  rw [← Mc.rp_nat] at hvs hcq
  rw [← Mc.rg_nat] at hatR hss
  obtain ⟨bL, offL, nL, cL, rfl, hgn, xL⟩ := hcq.at hgc
  rw [← hx0e] at xL
  have hn1 : ¬ (r : Int) < 0 := by omega
  have hn2 : ¬ (M.ps.length : Int) ≤ (r : Int) := by omega
  have hn3 : ¬ (g : Int) < 0 := by omega
  have hn4 : ¬ (M.rs.length : Int) ≤ (g : Int) := by omega
  have hfS := (hf.rp r).1
  obtain ⟨R, hRe⟩ : ∃ R, R = M.rg g := ⟨_, rfl⟩
  rw [← hRe] at hatR hss rh0 rht rt1 rtn hfR cu0 cu1 hl16
  have HRG : Hid (R = M.rg g ∧ mayR R = true) := ⟨hRe, by rw [hRe]; exact hRm⟩
  have hI0 : Hid (mayM M = true ∧ FitM M ∧ M.c = M.c ∧ M.rs = M.rs ∧ M.ps.length = M.ps.length ∧ (M.rp r).cur g = x0) := ⟨hmay, hf, rfl, rfl, rfl, hcx⟩
  have HPI : Hid (r < M.ps.length ∧ g < M.rs.length ∧ thereB M r g 0 = true) := ⟨hpi, hgi, hth0⟩
  have hs0 : HasS w (stV vs) (M.rp r).s := ⟨vs, rfl, hvs⟩
  clear hRm HR hRe hcR hcP hcq hcur hcx hx0e hmay hth0 hvs hcl hRl hrs hps hts hgc r2 r3 l3 t2 t3
  obtain ⟨rh, rt, rf, rss⟩ := R
  simp only at rh0 rht rt1 rtn hfR cu0 cu1 hl16
  obtain ⟨p0, p1, p2, p3⟩ := hatR
  obtain ⟨v0, v1, v2, v3, v4, _⟩ := hatp
  simp only [slV] at p3 v4
  have hb0 := Box.new w (cells9 M.c (some ⟨bR, oR, none⟩, M.rs.length, cR) (some ⟨bP, oP, none⟩, M.ps.length, cP) (some ⟨bT, oT, none⟩, M.ts.length, cT) qH) 29
  have hl := Le.alloc w (.cells (cells9 M.c (some ⟨bR, oR, none⟩, M.rs.length, cR) (some ⟨bP, oP, none⟩, M.ps.length, cP) (some ⟨bT, oT, none⟩, M.ts.length, cT) qH) 29)
  go_enter Tryz.func5, Tryz.ntmps5
  go_upto_region 1 with fail
  generalize hW : w.alloc (.cells (cells9 M.c (some ⟨bR, oR, none⟩, M.rs.length, cR) (some ⟨bP, oP, none⟩, M.ps.length, cP) (some ⟨bT, oT, none⟩, M.ts.length, cT) qH) 29) = W at hl hb0 ⊢
  clear hW
  have hsg0 : w.heap.size ≤ w.heap.size := Nat.le_refl _
  generalize hgg : w.heap.size = g0 at hb0 hsg0 ⊢
  replace hsg0 : w.heap.size ≤ g0 := by omega
  clear hgg
  go_wp2_with fail
  refine (lawAwake18 _).mono ?_
  rintro e w1 ⟨rfl, l1⟩
  replace hb0 := hb0.le l1
  replace hl := hl.trans l1
  clear l1
  obtain ⟨⟨y0, y1, y2, y3, y4⟩, y5, y6, y7, y8⟩ := (hb0).mach
  simp only [slV] at y5 y6 y7
  go_wp2_with fail
  refine (m0 _ hl).mono ?_
  rintro e w2 ⟨rfl, l2⟩
  clear y0 y1 y2 y3 y4 y5 y6 y7 y8
  replace hb0 := hb0.le l2
  replace hl := hl.trans l2
  clear l2 m0
  obtain ⟨⟨y0, y1, y2, y3, y4⟩, y5, y6, y7, y8⟩ := (hb0).mach
  simp only [slV] at y5 y6 y7
  have q0 := cell_le v0 hl
  have q1 := cell_le v1 hl
  have q2 := cell_le v2 hl
  have q3 := cell_le v3 hl
  have q4 := cell_le v4 hl
  have xL' := cell_le xL hl
  go_upto_region 7 with fail
  have hbS := Box.new w2 (cells4 vs) 44
  have a1 := Le.alloc w2 (.cells (cells4 vs) 44)
  show Code.wp _ _ _ _ (w2.alloc (.cells (cells4 vs) 44))
  generalize hW : w2.alloc (.cells (cells4 vs) 44) = W2 at hbS a1 ⊢
  clear hW
  have hgS : w2.heap.size ≤ w2.heap.size := Nat.le_refl _
  generalize hgg : w2.heap.size = gS at hbS hgS ⊢
  have h0S : g0 < gS := by have := hb0.lt; omega
  have hsgS : w.heap.size ≤ gS := by omega
  clear hgg hgS q0 q1 q2 q3 q4 xL'
  clear y0 y1 y2 y3 y4 y5 y6 y7 y8
  replace hb0 := hb0.le a1
  replace hl := hl.trans a1
  clear a1
  have q4 := cell_le v4 hl
  have xL' := cell_le xL hl
  obtain ⟨⟨y0, y1, y2, y3, y4⟩, y5, y6, y7, y8⟩ := (hb0).mach
  simp only [slV] at y5 y6 y7
  go_upto_region 8 with fail
  go_wp2_with fail
  refine (copyMachineAs _ _ _ (hx0.le hl) hf).mono ?_
  rintro e w3 ⟨xR, xP, xT, xH, rfl, oX, l3⟩
  replace hb0 := hb0.le l3
  replace hbS := hbS.le l3
  replace hl := hl.trans l3
  clear l3 q4 xL'
  clear y0 y1 y2 y3 y4 y5 y6 y7 y8
  have hbA := Box.new w3 (cells9 M.c xR xP xT xH) 29
  have a1 := Le.alloc w3 (.cells (cells9 M.c xR xP xT xH) 29)
  go_upto_region 9 with fail
  generalize hW1 : w3.alloc (.cells (cells9 M.c xR xP xT xH) 29) = W3 at hbA a1 ⊢
  clear hW1
  have hgA : w3.heap.size ≤ w3.heap.size := Nat.le_refl _
  generalize hgg : w3.heap.size = gA at hbA hgA ⊢
  have h0A : gS < gA := by have := hbS.lt; omega
  have hsgA : w.heap.size ≤ gA := by omega
  clear hgg hgA
  replace hl := hl.trans a1
  replace hb0 := hb0.le a1
  replace hbS := hbS.le a1
  have hM0 : Hid (OwnM W3 0 (machV M.c xR xP xT xH) M) := (oX.base (Nat.zero_le _)).le a1
  clear a1 oX
  go_wp2_with fail
  clear hx v0 v1 v2 v3 v4 xL hgn hr0 hr1
  have hI : Hid (mayM M = true ∧ FitM M ∧ M.c = M.c ∧ M.rs = M.rs ∧ M.ps.length = M.ps.length ∧ (M.rp r).s = (M.rp r).s ∧ (M.rp r).cur g = x0) := (show mayM M = true ∧ FitM M ∧ M.c = M.c ∧ M.rs = M.rs ∧ M.ps.length = M.ps.length ∧ (M.rp r).s = (M.rp r).s ∧ (M.rp r).cur g = x0 from ⟨hI0.out.1, hf, rfl, rfl, rfl, rfl, hI0.out.2.2.2.2.2⟩)
  have hSO : Hid (StO w W3 (stV vs) (M.rp r).s) := (show StO w W3 (stV vs) (M.rp r).s from .inl hs0)
  clear hI0 hs0
  go_loopw [11, 13] (fun at_ i wr => ∃ (k : Nat) (x : Int) (A : Mc) (S : St) (us : Nat → Sl) (aR aP aT aH : Sl), rh + k ≤ x ∧ x ≤ rt ∧ at_ = .int .i64 x ∧ i = .int .i64 k ∧ Box wr g0 (cells9 M.c (some ⟨bR, oR, none⟩, M.rs.length, cR) (some ⟨bP, oP, none⟩, M.ps.length, cP) (some ⟨bT, oT, none⟩, M.ts.length, cT) qH) 29 ∧ Box wr gS (cells4 us) 44 ∧ Box wr gA (cells9 M.c aR aP aT aH) 29 ∧ Hid (StO w wr (stV us) S) ∧ Hid (OwnM wr 0 (machV M.c aR aP aT aH) A) ∧ Hid (mayM A = true ∧ FitM A ∧ A.c = M.c ∧ A.rs = M.rs ∧ A.ps.length = M.ps.length ∧ (A.rp r).s = S ∧ (A.rp r).cur g = x) ∧ Le w wr) (fun _ i _ => 17 - (intOf i).toNat)
  case atStart => exact ⟨0, x0, M, (M.rp r).s, vs, xR, xP, xT, xH, by omega, cu1, rfl, rfl, hb0, hbS, hbA, hSO, hM0, hI, hl⟩
  case round =>
    clear hb0 hbS hbA hSO hM0 hI hl
    obtain ⟨k, x, A, S, us, aR, aP, aT, aH, hkx, hxt, rfl, rfl, hb0, hbS, hbA, hSO, hMA, hI, hl⟩ := hrel
    have hk16 : (k : Int) ≤ 16 := by omega
    have hrx : rh ≤ x := by omega
    obtain ⟨⟨c, rr, a, th, b⟩, er, he⟩ : ∃ s er, entryS ⟨rh, rt, rf, rss⟩ x = (s, er) := ⟨_, _, rfl⟩
    have m1 := refEntryAs he hfR (s0, s1, s2) wr (hss.le hl)
    obtain ⟨N, is, hone⟩ : ∃ N is, oneM A r g = (N, is, 0) ∧ Hid ((er = 0 → is = true) ∧ (¬ er = 0 → is = false ∧ N = A)) ∧ Hid (entryS (A.rg g) ((A.rp r).cur g) = (⟨c, rr, a, th, b⟩, er)) := by
      have hth : thereB A r g 0 = true := by
        have h1 := HPI.out.2.2
        obtain ⟨_, h2, h3, h4⟩ := thereB_cases h1
        obtain ⟨i1, _, i3, _⟩ := hI.out
        exact thereB_yes i1 (by rw [i3]; exact h2) (by rw [i3]; exact h3) (by rw [i3]; exact h4)
      have hen : entryS (A.rg g) ((A.rp r).cur g) = (⟨c, rr, a, th, b⟩, er) := by
        obtain ⟨_, _, _, i4, _, _, i7⟩ := hI.out
        rw [i7, ← he, HRG.out.1]
        unfold Mc.rg
        rw [i4]
      refine ⟨(oneM A r g).1, (oneM A r g).2.1, ?_, ?_, hen⟩
      ·unfold oneM
       rw [if_pos hth, hen]
       split
       ·split <;> rfl
       ·rfl
      ·show (er = 0 → (oneM A r g).2.1 = true) ∧ (¬ er = 0 → (oneM A r g).2.1 = false ∧ (oneM A r g).1 = A)
       unfold oneM
       rw [if_pos hth, hen]
       refine ⟨fun h => ?_, fun h => ?_⟩
       ·simp only [if_pos h]; split <;> rfl
       ·simp only [if_neg h]; exact ⟨trivial, trivial⟩
    obtain ⟨hone, HIS, HEN⟩ := hone
    clear he
    have hfN : FitM N := by have := fitM_one hI.out.2.1 r g; rw [hone] at this; exact this
    by_cases her : er = 0
    ·subst her
     obtain rfl : is = true := HIS.out.1 rfl
     obtain ⟨c', rr', a', th', y, b', s', _, hen', hlt, _, _, h6, hNc, hNrs, hNps, hNs, hNcur, hNmay⟩ := one_done hone
     rw [HEN.out] at hen'
     simp only [Prod.mk.injEq, Slt.mk.injEq, and_true] at hen'
     obtain ⟨rfl, rfl, rfl, rfl, rfl⟩ := hen'
     obtain ⟨_, i2, i3, i4, i5, i6, i7⟩ := hI.out
     rw [i3] at hNc
     rw [i4] at hNrs
     rw [i5] at hNps
     rw [i7] at hNcur hlt
     rw [i3, i6] at h6
     have hlt2 : x < rt := by
       have h := hlt
       unfold Mc.rg at h
       rw [i4] at h
       have h2 : (M.rg g).t = rt := by rw [← HRG.out.1]
       unfold Mc.rg at h2
       rw [h2] at h
       exact h
     have hfS2 : Fit S := by rw [← i6]; exact (i2.rp r).1
     have HN : Hid (mayM N = true ∧ FitM N ∧ N.c = M.c ∧ N.rs = M.rs ∧ N.ps.length = M.ps.length ∧ (N.rp r).s = s' ∧ (N.rp r).cur g = x + 1) := (show mayM N = true ∧ FitM N ∧ N.c = M.c ∧ N.rs = M.rs ∧ N.ps.length = M.ps.length ∧ (N.rp r).s = s' ∧ (N.rp r).cur g = x + 1 from ⟨hNmay, hfN, hNc, hNrs, hNps, hNs, hNcur⟩)
     clear i2 i3 i4 i5 i6 i7 hlt hNrs hNs hNcur hfN HEN HIS
     obtain ⟨⟨y0, y1, y2, y3, y4⟩, y5, y6, y7, y8⟩ := (hb0).mach
     simp only [slV] at y5 y6 y7
     have p0' := cell_le p0 hl
     have p1' := cell_le p1 hl
     have p2' := cell_le p2 hl
     have p3' := cell_le p3 hl
     go_wp2_with fail
     refine m1.mono ?_
     rintro e w4 ⟨rfl, l4⟩
     clear y0 y1 y2 y3 y4 y5 y6 y7 y8
     clear m1 p0' p1' p2' p3'
     have hbX := Box.new w4 #[.int .i64 c, .int .i64 rr, .int .i64 a, .int .i64 th, .int .i64 b] 50
     have a1 := Le.alloc w4 (.cells #[.int .i64 c, .int .i64 rr, .int .i64 a, .int .i64 th, .int .i64 b] 50)
     go_upto_region 13 with fail
     generalize hW1 : w4.alloc (.cells #[.int .i64 c, .int .i64 rr, .int .i64 a, .int .i64 th, .int .i64 b] 50) = W4 at hbX a1 ⊢
     clear hW1
     generalize hgg : w4.heap.size = gX at hbX ⊢
     clear hgg
     replace a1 := l4.trans a1
     clear l4
     replace hb0 := hb0.le a1
     replace hbS := hbS.le a1
     replace hbA := hbA.le a1
     have hSO2 : Hid (StO w W4 (stV us) S) := hSO.out.le a1
     have hMA2 : Hid (OwnM W4 0 (machV M.c aR aP aT aH) A) := hMA.out.le a1
     replace hl := hl.trans a1
     clear a1 hSO hMA
     have m2 := replayOneAs hone _ W4 hMA2.out.has hI.out.2.1
     clear hone
     rw [hNc] at m2
     obtain ⟨⟨y0, y1, y2, y3, y4⟩, y5, y6, y7, y8⟩ := (hbA).mach
     go_wp2_with fail
     refine m2.mono ?_
     rintro e w5 ⟨zR, zP, zT, zH, rfl, oB, l5⟩
     clear y0 y1 y2 y3 y4 y5 y6 y7 y8
     clear m2
     have hB := oB.ownM
     replace hb0 := hb0.le l5
     replace hbS := hbS.le l5
     replace hbA := hbA.le l5
     replace hbX := hbX.le l5
     have hSO3 : Hid (StO w w5 (stV us) S) := hSO2.out.le l5
     have hMA3 : Hid (OwnM w5 0 (machV M.c aR aP aT aH) A) := hMA2.out.le l5
     replace hl := hl.trans l5
     clear l5 oB hSO2 hMA2
     obtain ⟨_, _, _, bQ, oQ, cQ, _, _, _, _, hv, _, hcQ, _, _⟩ := hB.has.opens hNmay
     obtain ⟨ws, _, _, ⟨e0, e1, e2, e3, _, _⟩, hws, _, _⟩ := hcQ r (by rw [hNps]; exact HPI.out.1)
     clear hcQ
     have hzP : zP = (some ⟨bQ, oQ, none⟩, N.ps.length, cQ) := by
       simp only [machV, cells9, Value.agg.injEq, Array.mk.injEq, List.cons.injEq, slV, Value.slice.injEq] at hv
       obtain ⟨_, _, _, _, _, _, ⟨h1, h2, h3⟩, _⟩ := hv
       obtain ⟨t1, t2, t3⟩ := zP
       simp only at h1 h2 h3
       subst h1 h2 h3
       rfl
     clear hv
     rw [hNps] at hzP
     have HZP : Hid (zP = (some ⟨bQ, oQ, none⟩, M.ps.length, cQ)) := hzP
     clear hzP
     have hbB := Box.new w5 (cells9 M.c zR zP zT zH) 29
     have a1 := Le.alloc w5 (.cells (cells9 M.c zR zP zT zH) 29)
     go_upto_region 14 with fail
     generalize hW1 : w5.alloc (.cells (cells9 M.c zR zP zT zH) 29) = W5 at hbB a1 ⊢
     clear hW1
     generalize hgg : w5.heap.size = gB at hbB ⊢
     have hSB : gS < gB := by have := hbS.lt; omega
     clear hgg
     replace hb0 := hb0.le a1
     replace hbS := hbS.le a1
     replace hbA := hbA.le a1
     replace hbX := hbX.le a1
     have hSO : Hid (StO w W5 (stV us) S) := hSO3.out.le a1
     have hMA : Hid (OwnM W5 0 (machV M.c aR aP aT aH) A) := hMA3.out.le a1
     have hMB : Hid (OwnM W5 0 (machV M.c zR zP zT zH) N) := hB.le a1
     replace hl := hl.trans a1
     replace e0 := cell_le e0 a1
     replace e1 := cell_le e1 a1
     replace e2 := cell_le e2 a1
     replace e3 := cell_le e3 a1
     have hws5 : Hid (∀ j, j < 4 → Has W5 (slV (ws j)) ((N.ps.getD r Rp.zero).s.at j)) := (show ∀ j, j < 4 → Has W5 (slV (ws j)) ((N.ps.getD r Rp.zero).s.at j) from fun j hj => (hws j hj).le a1)
     clear a1 hSO3 hMA3 hB hws
     obtain ⟨⟨y0, y1, y2, y3, y4⟩, y5, y6, y7, y8⟩ := (hbB).mach
     rw [HZP.out] at y6
     simp only [slV] at y6
     go_wp2_with fail
     refine (lawNum _ _).mono ?_
     rintro e _ ⟨rfl, rfl⟩
     go_upto_region 18 with fail
     clear y0 y1 y2 y3 y4 y5 y6 y7 y8
     have m3 := refObj M.c.o (stV us) S c rr a 600 W5 (hSO.out.has hl) hfS2
     rw [h6] at m3
     clear h6 e0 e1 e2 e3 hws5 hMA hSO
     obtain ⟨u0, u1, u2, u3, u4, _⟩ := slotCF hbX
     obtain ⟨z0, z1, z2, z3, _⟩ := hbS.st
     obtain ⟨⟨y0, y1, y2, y3, y4⟩, y5, y6, y7, y8⟩ := (hb0).mach
     go_wp2_with fail
     refine m3.mono ?_
     rintro e w6 ⟨v', rfl, ⟨q, rfl, hq⟩, l6⟩
     clear y0 y1 y2 y3 y4 y5 y6 y7 y8
     clear m3 u0 u1 u2 u3 u4 z0 z1 z2 z3 hbX
     have hSO : Hid (StO w w6 (stV q) s') := (show StO w w6 (stV q) s' from .inr ⟨q, rfl, fun i hi => (hq i hi).base (Nat.zero_le _)⟩)
     clear hq
     have hbT := Box.new w6 (cells4 q) 44
     have a1 := Le.alloc w6 (.cells (cells4 q) 44)
     go_upto_region 19 with fail
     show Code.wp _ _ _ _ (w6.alloc (.cells (cells4 q) 44))
     generalize hW1 : w6.alloc (.cells (cells4 q) 44) = W6 at hbT a1 ⊢
     clear hW1
     generalize hgg : w6.heap.size = gT at hbT ⊢
     clear hgg
     have hSO2 : Hid (StO w W6 (stV q) s') := hSO.out.le a1
     replace a1 := l6.trans a1
     replace hb0 := hb0.le a1
     replace hbS := hbS.le a1
     replace hbA := hbA.le a1
     replace hbB := hbB.le a1
     have hMB2 : Hid (OwnM W6 0 (machV M.c zR zP zT zH) N) := hMB.out.le a1
     replace hl := hl.trans a1
     clear a1 l6 hSO hMB
     obtain ⟨z0, z1, z2, z3, _⟩ := hbT.st
     obtain ⟨t0, t1, t2, t3, _⟩ := hbS.st
     have f0 := hbS.frozen 0
     have f1 := hbS.frozen 1
     have f2 := hbS.frozen 2
     have f3 := hbS.frozen 3
     go_upto_region 22 with fail
     show Code.wp _ _ _ _ (putS4 W6 gS q)
     have hbS7 : Box (putS4 W6 gS q) gS (cells4 q) 44 := hbS.all4
     have hb07 : Box (putS4 W6 gS q) g0 _ 29 := hb0.other4 (by omega : g0 ≠ gS) _ _ _ _
     have hbA7 : Box (putS4 W6 gS q) gA _ 29 := hbA.other4 (by omega : gA ≠ gS) _ _ _ _
     have hbB7 : Box (putS4 W6 gS q) gB _ 29 := hbB.other4 (by omega : gB ≠ gS) _ _ _ _
     have hSO7 : Hid (StO w (putS4 W6 gS q) (stV q) s') := hSO2.out.putS4 hbS q
     have hMB7 : Hid (OwnM (putS4 W6 gS q) 0 (machV M.c zR zP zT zH) N) := hMB2.out.putS4 hbS q
     have hl7 : Le w (putS4 W6 gS q) := hl.putS4 hsgS q
     clear z0 z1 z2 z3 t0 t1 t2 t3 f0 f1 f2 f3 hbT hbS hb0 hbA hbB hSO2 hMB2 hl
     generalize hW1 : putS4 W6 gS q = W7 at hbS7 hb07 hbA7 hbB7 hSO7 hMB7 hl7 ⊢
     clear hW1
     have hx00 : (0 : Int) ≤ x := by omega
     have hxm : x < 1048576 := by omega
     obtain ⟨⟨y0, y1, y2, y3, y4⟩, y5, y6, y7, y8⟩ := (hbB7).mach
     obtain ⟨⟨z0, z1, z2, z3, z4⟩, z5, z6, z7, z8⟩ := (hbA7).mach
     have f0 := (hbA7).frozen 0
     have f1 := (hbA7).frozen 1
     have f2 := (hbA7).frozen 2
     have f3 := (hbA7).frozen 3
     have f4 := (hbA7).frozen 4
     have f5 := (hbA7).frozen 5
     have f6 := (hbA7).frozen 6
     have f7 := (hbA7).frozen 7
     have f8 := (hbA7).frozen 8
     go_upto_region 11 with fail
     show Code.wp _ _ _ _ (put9 W7 gA M.c zR zP zT zH)
     clear y0 y1 y2 y3 y4 y5 y6 y7 y8 z0 z1 z2 z3 z4 z5 z6 z7 z8
     clear f0 f1 f2 f3 f4 f5 f6 f7 f8
     have hbA8 := hbA7.put9 rfl M.c zR zP zT zH
     have hb08 := hb07.off9 (by omega : g0 ≠ gA) M.c zR zP zT zH
     have hbS8 := hbS7.off9 (by omega : gS ≠ gA) M.c zR zP zT zH
     have hSO8 : Hid (StO w (put9 W7 gA M.c zR zP zT zH) (stV q) s') := hSO7.out.put9 hbA7 M.c zR zP zT zH
     have hMB8 : Hid (OwnM (put9 W7 gA M.c zR zP zT zH) 0 (machV M.c zR zP zT zH) N) := hMB7.out.put9 hbA7 M.c zR zP zT zH
     have hl8 := hl7.put9 hsgA M.c zR zP zT zH
     generalize hW1 : put9 W7 gA M.c zR zP zT zH = W8 at hbA8 hb08 hbS8 hSO8 hMB8 hl8 ⊢
     clear hW1 hbS7 hb07 hbA7 hbB7 hSO7 hMB7 hl7
     go_wp2_with fail
     go_roundw
     case rel => exact ⟨k + 1, x + 1, N, s', q, zR, zP, zT, zH, by omega, by omega, by go_num, by go_num, hb08, hbS8, hbA8, hSO8, hMB8, HN, hl8⟩
     case measure => simp [intOf]; omega
    ·obtain ⟨rfl, hNA⟩ := HIS.out.2 her
     subst hNA
     have hNc : N.c = M.c := hI.out.2.2.1
     have hNps : N.ps.length = M.ps.length := hI.out.2.2.2.2.1
     have hNmay : mayM N = true := hI.out.1
     clear hfN HEN HIS
     obtain ⟨⟨y0, y1, y2, y3, y4⟩, y5, y6, y7, y8⟩ := (hb0).mach
     simp only [slV] at y5 y6 y7
     have p0' := cell_le p0 hl
     have p1' := cell_le p1 hl
     have p2' := cell_le p2 hl
     have p3' := cell_le p3 hl
     go_wp2_with fail
     refine m1.mono ?_
     rintro e w4 ⟨rfl, l4⟩
     clear y0 y1 y2 y3 y4 y5 y6 y7 y8
     clear m1 p0' p1' p2' p3'
     have hbX := Box.new w4 #[.int .i64 c, .int .i64 rr, .int .i64 a, .int .i64 th, .int .i64 b] 50
     have a1 := Le.alloc w4 (.cells #[.int .i64 c, .int .i64 rr, .int .i64 a, .int .i64 th, .int .i64 b] 50)
     go_upto_region 13 with fail
     generalize hW1 : w4.alloc (.cells #[.int .i64 c, .int .i64 rr, .int .i64 a, .int .i64 th, .int .i64 b] 50) = W4 at hbX a1 ⊢
     clear hW1
     generalize hgg : w4.heap.size = gX at hbX ⊢
     clear hgg
     replace a1 := l4.trans a1
     clear l4
     replace hb0 := hb0.le a1
     replace hbS := hbS.le a1
     replace hbA := hbA.le a1
     have hSO2 : Hid (StO w W4 (stV us) S) := hSO.out.le a1
     have hMA2 : Hid (OwnM W4 0 (machV M.c aR aP aT aH) N) := hMA.out.le a1
     replace hl := hl.trans a1
     clear a1 hSO hMA
     have m2 := replayOneAs hone _ W4 hMA2.out.has hI.out.2.1
     clear hone
     rw [hNc] at m2
     obtain ⟨⟨y0, y1, y2, y3, y4⟩, y5, y6, y7, y8⟩ := (hbA).mach
     go_wp2_with fail
     refine m2.mono ?_
     rintro e w5 ⟨zR, zP, zT, zH, rfl, oB, l5⟩
     clear y0 y1 y2 y3 y4 y5 y6 y7 y8
     clear m2
     have hB := oB.ownM
     replace hb0 := hb0.le l5
     replace hbS := hbS.le l5
     replace hbA := hbA.le l5
     replace hbX := hbX.le l5
     have hSO3 : Hid (StO w w5 (stV us) S) := hSO2.out.le l5
     have hMA3 : Hid (OwnM w5 0 (machV M.c aR aP aT aH) N) := hMA2.out.le l5
     replace hl := hl.trans l5
     clear l5 oB hSO2 hMA2
     obtain ⟨_, _, _, bQ, oQ, cQ, _, _, _, _, hv, _, hcQ, _, _⟩ := hB.has.opens hNmay
     obtain ⟨ws, _, _, ⟨e0, e1, e2, e3, _, _⟩, hws, _, _⟩ := hcQ r (by rw [hNps]; exact HPI.out.1)
     clear hcQ
     have hzP : zP = (some ⟨bQ, oQ, none⟩, N.ps.length, cQ) := by
       simp only [machV, cells9, Value.agg.injEq, Array.mk.injEq, List.cons.injEq, slV, Value.slice.injEq] at hv
       obtain ⟨_, _, _, _, _, _, ⟨h1, h2, h3⟩, _⟩ := hv
       obtain ⟨t1, t2, t3⟩ := zP
       simp only at h1 h2 h3
       subst h1 h2 h3
       rfl
     clear hv
     rw [hNps] at hzP
     have HZP : Hid (zP = (some ⟨bQ, oQ, none⟩, M.ps.length, cQ)) := hzP
     clear hzP
     have hbB := Box.new w5 (cells9 M.c zR zP zT zH) 29
     have a1 := Le.alloc w5 (.cells (cells9 M.c zR zP zT zH) 29)
     go_upto_region 14 with fail
     generalize hW1 : w5.alloc (.cells (cells9 M.c zR zP zT zH) 29) = W5 at hbB a1 ⊢
     clear hW1
     generalize hgg : w5.heap.size = gB at hbB ⊢
     have hSB : gS < gB := by have := hbS.lt; omega
     clear hgg
     replace hb0 := hb0.le a1
     replace hbS := hbS.le a1
     replace hbA := hbA.le a1
     replace hbX := hbX.le a1
     have hSO : Hid (StO w W5 (stV us) S) := hSO3.out.le a1
     have hMA : Hid (OwnM W5 0 (machV M.c aR aP aT aH) N) := hMA3.out.le a1
     have hMB : Hid (OwnM W5 0 (machV M.c zR zP zT zH) N) := hB.le a1
     replace hl := hl.trans a1
     replace e0 := cell_le e0 a1
     replace e1 := cell_le e1 a1
     replace e2 := cell_le e2 a1
     replace e3 := cell_le e3 a1
     have hws5 : Hid (∀ j, j < 4 → Has W5 (slV (ws j)) ((N.ps.getD r Rp.zero).s.at j)) := (show ∀ j, j < 4 → Has W5 (slV (ws j)) ((N.ps.getD r Rp.zero).s.at j) from fun j hj => (hws j hj).le a1)
     clear a1 hSO3 hMA3 hB hws
     obtain ⟨⟨y0, y1, y2, y3, y4⟩, y5, y6, y7, y8⟩ := (hbB).mach
     rw [HZP.out] at y6
     simp only [slV] at y6
     go_wp2_with fail
     refine (lawNum _ _).mono ?_
     rintro e _ ⟨rfl, rfl⟩
     go_upto_region 17 with fail
     clear y0 y1 y2 y3 y4 y5 y6 y7 y8
     have hfM : FitM N := hI.out.2.1
     have hfS2 : Fit S := by rw [← hI.out.2.2.2.2.2.1]; exact (hfM.rp r).1
     have hq1 : HasS W5 (stV ws) S := ⟨ws, rfl, fun i hi => by rw [← hI.out.2.2.2.2.2.1, Mc.rp_nat]; exact hws5.out i hi⟩
     have hq2 : HasS W5 (stV us) S := hSO.out.has hl
     have hs1 := fun w' (l : Le W5 w') => lawSameState (stV ws) (stV us) S S w' (hq1.le l) (hq2.le l) hfS2
     simp only [decide_true] at hs1
     have hs2 := fun w' (l : Le W5 w') => lawSameMachine _ _ N N w' (hMA.out.has.le l) (hMB.out.has.le l) hfM
     simp only [decide_true] at hs2
     rw [HZP.out] at hs2
     clear hq1 hq2 hfS2 hfM hws5 hSO hMA hMB hI hbX hb0 hNmay hNps hNc
     obtain ⟨⟨y0, y1, y2, y3, y4⟩, y5, y6, y7, y8⟩ := hbB.mach
     rw [HZP.out] at y6
     simp only [slV] at y6
     obtain ⟨⟨z0, z1, z2, z3, z4⟩, z5, z6, z7, z8⟩ := hbA.mach
     obtain ⟨t0, t1, t2, t3, _⟩ := hbS.st
     go_region_held3 (fun w' => w'.cell? ⟨gA, 0, none⟩ = some (.int .i64 M.c.o) ∧ w'.cell? ⟨gA, 1, none⟩ = some (.int .i64 M.c.r) ∧ w'.cell? ⟨gA, 2, none⟩ = some (.int .i64 M.c.l) ∧ w'.cell? ⟨gA, 3, none⟩ = some (.int .i64 M.c.t) ∧ w'.cell? ⟨gA, 4, none⟩ = some (.int .i64 M.c.s) ∧ w'.cell? ⟨gA, 5, none⟩ = some (slV aR) ∧ w'.cell? ⟨gA, 6, none⟩ = some (slV aP) ∧ w'.cell? ⟨gA, 7, none⟩ = some (slV aT) ∧ w'.cell? ⟨gA, 8, none⟩ = some (slV aH) ∧ w'.cell? ⟨gB, 0, none⟩ = some (.int .i64 M.c.o) ∧ w'.cell? ⟨gB, 1, none⟩ = some (.int .i64 M.c.r) ∧ w'.cell? ⟨gB, 2, none⟩ = some (.int .i64 M.c.l) ∧ w'.cell? ⟨gB, 3, none⟩ = some (.int .i64 M.c.t) ∧ w'.cell? ⟨gB, 4, none⟩ = some (.int .i64 M.c.s) ∧ w'.cell? ⟨gB, 5, none⟩ = some (slV zR) ∧ w'.cell? ⟨gB, 6, none⟩ = some (.slice (some ⟨bQ, oQ, none⟩) M.ps.length cQ) ∧ w'.cell? ⟨gB, 7, none⟩ = some (slV zT) ∧ w'.cell? ⟨gB, 8, none⟩ = some (slV zH) ∧ w'.cell? ⟨gS, 0, none⟩ = some (slV (us 0)) ∧ w'.cell? ⟨gS, 1, none⟩ = some (slV (us 1)) ∧ w'.cell? ⟨gS, 2, none⟩ = some (slV (us 2)) ∧ w'.cell? ⟨gS, 3, none⟩ = some (slV (us 3)) ∧ w'.cell? ⟨bQ, oQ + r * 6, none⟩ = some (slV (ws 0)) ∧ w'.cell? ⟨bQ, oQ + r * 6 + 1, none⟩ = some (slV (ws 1)) ∧ w'.cell? ⟨bQ, oQ + r * 6 + 2, none⟩ = some (slV (ws 2)) ∧ w'.cell? ⟨bQ, oQ + r * 6 + 3, none⟩ = some (slV (ws 3))) (go_keep) (first
       | (go_at_call 18; refine Calls.mono (hs1 _ (Le.drew W5)) ?_; rintro e w8 ⟨rfl, l8⟩; have L := (Le.drew W5).trans l8; have hs3 := hs2 _ L; obtain ⟨⟨y0, y1, y2, y3, y4⟩, y5, y6, y7, y8⟩ := (hbB.le L).mach; rw [HZP.out] at y6; simp only [slV] at y6; obtain ⟨⟨z0, z1, z2, z3, z4⟩, z5, z6, z7, z8⟩ := (hbA.le L).mach; obtain ⟨t0, t1, t2, t3, _⟩ := (hbS.le L).st; replace e0 := cell_le e0 L; replace e1 := cell_le e1 L; replace e2 := cell_le e2 L; replace e3 := cell_le e3 L; have hl8 := hl.trans L; clear hs2)
       | (go_at_call 11; refine Calls.mono hs3 ?_; rintro e w9 ⟨rfl, l9⟩; have L9 := L.trans l9; obtain ⟨⟨y0, y1, y2, y3, y4⟩, y5, y6, y7, y8⟩ := (hbB.le L9).mach; rw [HZP.out] at y6; simp only [slV] at y6; obtain ⟨⟨z0, z1, z2, z3, z4⟩, z5, z6, z7, z8⟩ := (hbA.le L9).mach; obtain ⟨t0, t1, t2, t3, _⟩ := (hbS.le L9).st; replace e0 := cell_le e0 l9; replace e1 := cell_le e1 l9; replace e2 := cell_le e2 l9; replace e3 := cell_le e3 l9))
     go_wp2_with fail
     go_ret
     exact ⟨rfl, hl8.trans l9⟩
 ·have h18 : oneM M r g = (Mc.zero, false, 1800) := by
    have : thereB M r g 0 = false := by
      rw [← Bool.not_eq_true]
      intro h
      obtain ⟨hmay, h1, h2, _⟩ := thereB_cases h
      obtain ⟨hrs, hps, _⟩ := mayM_lens hmay
      exact hin ⟨hmay, by omega, by omega⟩
    unfold oneM; rw [this]; rfl
  have m1 := fun v w' (h : HasM w' v M) => replayOneAs h18 v w' h hf
  cases hmay : mayM M
  ·rw [hmay] at m0
   clear hmay hin
   have hx0 := hx
   obtain ⟨qR, qP, qT, qH, rfl, _, _, _, _⟩ := hx
   have hb0 := Box.new w (cells9 M.c qR qP qT qH) 29
   have hl := Le.alloc w (.cells (cells9 M.c qR qP qT qH) 29)
   go_enter Tryz.func5, Tryz.ntmps5
   go_upto_region 1 with fail
   generalize hW : w.alloc (.cells (cells9 M.c qR qP qT qH) 29) = W at hl hb0 ⊢
   clear hW
   go_wp2_with fail
   refine (lawAwake18 _).mono ?_
   rintro e w1 ⟨rfl, l1⟩
   replace hb0 := hb0.le l1
   replace hl := hl.trans l1
   clear l1
   obtain ⟨⟨y0, y1, y2, y3, y4⟩, y5, y6, y7, y8⟩ := (hb0).mach
   simp only [slV] at y5 y6 y7
   go_wp2_with fail
   refine (m0 _ hl).mono ?_
   rintro e w2 ⟨rfl, l2⟩
   clear y0 y1 y2 y3 y4 y5 y6 y7 y8
   replace hb0 := hb0.le l2
   replace hl := hl.trans l2
   clear l2 m0
   obtain ⟨⟨y0, y1, y2, y3, y4⟩, y5, y6, y7, y8⟩ := (hb0).mach
   simp only [slV] at y5 y6 y7
   go_wp2_with fail
   refine (m1 _ _ (hx0.le hl)).mono ?_
   rintro e w3 ⟨xR, xP, xT, xH, rfl, _, l3⟩
   clear y0 y1 y2 y3 y4 y5 y6 y7 y8
   replace hl := hl.trans l3
   clear l3 m1 hb0
   have a1 := Le.alloc w3 (.cells (cells9 Mc.zero.c xR xP xT xH) 29)
   go_upto_region 5 with fail
   generalize hW : w3.alloc (.cells (cells9 Mc.zero.c xR xP xT xH) 29) = W3 at a1 ⊢
   clear hW
   replace hl := hl.trans a1
   clear a1
   go_wp2_with fail
   refine (lawNum _ _).mono ?_
   rintro e _ ⟨rfl, rfl⟩
   go_wp2_with fail
   go_ret
   exact ⟨rfl, hl⟩
  ·rw [hmay] at m0
   have hx0 := hx
   obtain ⟨bR, oR, cR, bP, oP, cP, bT, oT, cT, qH, rfl, _, _, _, _⟩ := hx.opens hmay
   have hq : r < 0 ∨ (0 ≤ r ∧ (M.ps.length : Int) ≤ r) ∨ (0 ≤ r ∧ r < (M.ps.length : Int) ∧ g < 0) ∨ (0 ≤ r ∧ r < (M.ps.length : Int) ∧ 0 ≤ g ∧ (M.rs.length : Int) ≤ g) := by
     rcases Classical.em (0 ≤ r ∧ r < (M.ps.length : Int)) with h1 | h1
     ·rcases Classical.em (0 ≤ g ∧ g < (M.rs.length : Int)) with h2 | h2
      ·exact absurd ⟨hmay, h1, h2⟩ hin
      ·omega
     ·omega
   clear hmay hin
   rcases hq with hq | ⟨hq, hq2⟩ | ⟨hq, hq2, hq3⟩ | ⟨hq, hq2, hq3, hq4⟩
   ·
    have hb0 := Box.new w (cells9 M.c (some ⟨bR, oR, none⟩, M.rs.length, cR) (some ⟨bP, oP, none⟩, M.ps.length, cP) (some ⟨bT, oT, none⟩, M.ts.length, cT) qH) 29
    have hl := Le.alloc w (.cells (cells9 M.c (some ⟨bR, oR, none⟩, M.rs.length, cR) (some ⟨bP, oP, none⟩, M.ps.length, cP) (some ⟨bT, oT, none⟩, M.ts.length, cT) qH) 29)
    go_enter Tryz.func5, Tryz.ntmps5
    go_upto_region 1 with fail
    generalize hW : w.alloc (.cells (cells9 M.c (some ⟨bR, oR, none⟩, M.rs.length, cR) (some ⟨bP, oP, none⟩, M.ps.length, cP) (some ⟨bT, oT, none⟩, M.ts.length, cT) qH) 29) = W at hl hb0 ⊢
    clear hW
    go_wp2_with fail
    refine (lawAwake18 _).mono ?_
    rintro e w1 ⟨rfl, l1⟩
    replace hb0 := hb0.le l1
    replace hl := hl.trans l1
    clear l1
    obtain ⟨⟨y0, y1, y2, y3, y4⟩, y5, y6, y7, y8⟩ := (hb0).mach
    simp only [slV] at y5 y6 y7
    go_wp2_with fail
    refine (m0 _ hl).mono ?_
    rintro e w2 ⟨rfl, l2⟩
    clear y0 y1 y2 y3 y4 y5 y6 y7 y8
    replace hb0 := hb0.le l2
    replace hl := hl.trans l2
    clear l2 m0
    obtain ⟨⟨y0, y1, y2, y3, y4⟩, y5, y6, y7, y8⟩ := (hb0).mach
    simp only [slV] at y5 y6 y7
    go_wp2_with fail
    refine (m1 _ _ (hx0.le hl)).mono ?_
    rintro e w3 ⟨xR, xP, xT, xH, rfl, _, l3⟩
    clear y0 y1 y2 y3 y4 y5 y6 y7 y8
    replace hl := hl.trans l3
    clear l3 m1 hb0
    have a1 := Le.alloc w3 (.cells (cells9 Mc.zero.c xR xP xT xH) 29)
    go_upto_region 5 with fail
    generalize hW : w3.alloc (.cells (cells9 Mc.zero.c xR xP xT xH) 29) = W3 at a1 ⊢
    clear hW
    replace hl := hl.trans a1
    clear a1
    go_wp2_with fail
    refine (lawNum _ _).mono ?_
    rintro e _ ⟨rfl, rfl⟩
    go_wp2_with fail
    go_ret
    exact ⟨rfl, hl⟩
   ·
    have hb0 := Box.new w (cells9 M.c (some ⟨bR, oR, none⟩, M.rs.length, cR) (some ⟨bP, oP, none⟩, M.ps.length, cP) (some ⟨bT, oT, none⟩, M.ts.length, cT) qH) 29
    have hl := Le.alloc w (.cells (cells9 M.c (some ⟨bR, oR, none⟩, M.rs.length, cR) (some ⟨bP, oP, none⟩, M.ps.length, cP) (some ⟨bT, oT, none⟩, M.ts.length, cT) qH) 29)
    go_enter Tryz.func5, Tryz.ntmps5
    go_upto_region 1 with fail
    generalize hW : w.alloc (.cells (cells9 M.c (some ⟨bR, oR, none⟩, M.rs.length, cR) (some ⟨bP, oP, none⟩, M.ps.length, cP) (some ⟨bT, oT, none⟩, M.ts.length, cT) qH) 29) = W at hl hb0 ⊢
    clear hW
    go_wp2_with fail
    refine (lawAwake18 _).mono ?_
    rintro e w1 ⟨rfl, l1⟩
    replace hb0 := hb0.le l1
    replace hl := hl.trans l1
    clear l1
    obtain ⟨⟨y0, y1, y2, y3, y4⟩, y5, y6, y7, y8⟩ := (hb0).mach
    simp only [slV] at y5 y6 y7
    go_wp2_with fail
    refine (m0 _ hl).mono ?_
    rintro e w2 ⟨rfl, l2⟩
    clear y0 y1 y2 y3 y4 y5 y6 y7 y8
    replace hb0 := hb0.le l2
    replace hl := hl.trans l2
    clear l2 m0
    obtain ⟨⟨y0, y1, y2, y3, y4⟩, y5, y6, y7, y8⟩ := (hb0).mach
    simp only [slV] at y5 y6 y7
    go_wp2_with fail
    refine (m1 _ _ (hx0.le hl)).mono ?_
    rintro e w3 ⟨xR, xP, xT, xH, rfl, _, l3⟩
    clear y0 y1 y2 y3 y4 y5 y6 y7 y8
    replace hl := hl.trans l3
    clear l3 m1 hb0
    have a1 := Le.alloc w3 (.cells (cells9 Mc.zero.c xR xP xT xH) 29)
    go_upto_region 5 with fail
    generalize hW : w3.alloc (.cells (cells9 Mc.zero.c xR xP xT xH) 29) = W3 at a1 ⊢
    clear hW
    replace hl := hl.trans a1
    clear a1
    go_wp2_with fail
    refine (lawNum _ _).mono ?_
    rintro e _ ⟨rfl, rfl⟩
    go_wp2_with fail
    go_ret
    exact ⟨rfl, hl⟩
   ·
    have hb0 := Box.new w (cells9 M.c (some ⟨bR, oR, none⟩, M.rs.length, cR) (some ⟨bP, oP, none⟩, M.ps.length, cP) (some ⟨bT, oT, none⟩, M.ts.length, cT) qH) 29
    have hl := Le.alloc w (.cells (cells9 M.c (some ⟨bR, oR, none⟩, M.rs.length, cR) (some ⟨bP, oP, none⟩, M.ps.length, cP) (some ⟨bT, oT, none⟩, M.ts.length, cT) qH) 29)
    go_enter Tryz.func5, Tryz.ntmps5
    go_upto_region 1 with fail
    generalize hW : w.alloc (.cells (cells9 M.c (some ⟨bR, oR, none⟩, M.rs.length, cR) (some ⟨bP, oP, none⟩, M.ps.length, cP) (some ⟨bT, oT, none⟩, M.ts.length, cT) qH) 29) = W at hl hb0 ⊢
    clear hW
    go_wp2_with fail
    refine (lawAwake18 _).mono ?_
    rintro e w1 ⟨rfl, l1⟩
    replace hb0 := hb0.le l1
    replace hl := hl.trans l1
    clear l1
    obtain ⟨⟨y0, y1, y2, y3, y4⟩, y5, y6, y7, y8⟩ := (hb0).mach
    simp only [slV] at y5 y6 y7
    go_wp2_with fail
    refine (m0 _ hl).mono ?_
    rintro e w2 ⟨rfl, l2⟩
    clear y0 y1 y2 y3 y4 y5 y6 y7 y8
    replace hb0 := hb0.le l2
    replace hl := hl.trans l2
    clear l2 m0
    obtain ⟨⟨y0, y1, y2, y3, y4⟩, y5, y6, y7, y8⟩ := (hb0).mach
    simp only [slV] at y5 y6 y7
    go_wp2_with fail
    refine (m1 _ _ (hx0.le hl)).mono ?_
    rintro e w3 ⟨xR, xP, xT, xH, rfl, _, l3⟩
    clear y0 y1 y2 y3 y4 y5 y6 y7 y8
    replace hl := hl.trans l3
    clear l3 m1 hb0
    have a1 := Le.alloc w3 (.cells (cells9 Mc.zero.c xR xP xT xH) 29)
    go_upto_region 5 with fail
    generalize hW : w3.alloc (.cells (cells9 Mc.zero.c xR xP xT xH) 29) = W3 at a1 ⊢
    clear hW
    replace hl := hl.trans a1
    clear a1
    go_wp2_with fail
    refine (lawNum _ _).mono ?_
    rintro e _ ⟨rfl, rfl⟩
    go_wp2_with fail
    go_ret
    exact ⟨rfl, hl⟩
   ·
    have hb0 := Box.new w (cells9 M.c (some ⟨bR, oR, none⟩, M.rs.length, cR) (some ⟨bP, oP, none⟩, M.ps.length, cP) (some ⟨bT, oT, none⟩, M.ts.length, cT) qH) 29
    have hl := Le.alloc w (.cells (cells9 M.c (some ⟨bR, oR, none⟩, M.rs.length, cR) (some ⟨bP, oP, none⟩, M.ps.length, cP) (some ⟨bT, oT, none⟩, M.ts.length, cT) qH) 29)
    go_enter Tryz.func5, Tryz.ntmps5
    go_upto_region 1 with fail
    generalize hW : w.alloc (.cells (cells9 M.c (some ⟨bR, oR, none⟩, M.rs.length, cR) (some ⟨bP, oP, none⟩, M.ps.length, cP) (some ⟨bT, oT, none⟩, M.ts.length, cT) qH) 29) = W at hl hb0 ⊢
    clear hW
    go_wp2_with fail
    refine (lawAwake18 _).mono ?_
    rintro e w1 ⟨rfl, l1⟩
    replace hb0 := hb0.le l1
    replace hl := hl.trans l1
    clear l1
    obtain ⟨⟨y0, y1, y2, y3, y4⟩, y5, y6, y7, y8⟩ := (hb0).mach
    simp only [slV] at y5 y6 y7
    go_wp2_with fail
    refine (m0 _ hl).mono ?_
    rintro e w2 ⟨rfl, l2⟩
    clear y0 y1 y2 y3 y4 y5 y6 y7 y8
    replace hb0 := hb0.le l2
    replace hl := hl.trans l2
    clear l2 m0
    obtain ⟨⟨y0, y1, y2, y3, y4⟩, y5, y6, y7, y8⟩ := (hb0).mach
    simp only [slV] at y5 y6 y7
    go_wp2_with fail
    refine (m1 _ _ (hx0.le hl)).mono ?_
    rintro e w3 ⟨xR, xP, xT, xH, rfl, _, l3⟩
    clear y0 y1 y2 y3 y4 y5 y6 y7 y8
    replace hl := hl.trans l3
    clear l3 m1 hb0
    have a1 := Le.alloc w3 (.cells (cells9 Mc.zero.c xR xP xT xH) 29)
    go_upto_region 5 with fail
    generalize hW : w3.alloc (.cells (cells9 Mc.zero.c xR xP xT xH) 29) = W3 at a1 ⊢
    clear hW
    replace hl := hl.trans a1
    clear a1
    go_wp2_with fail
    refine (lawNum _ _).mono ?_
    rintro e _ ⟨rfl, rfl⟩
    go_wp2_with fail
    go_ret
    exact ⟨rfl, hl⟩
end Go.Proofs.YtepplhbajmlbpaaGreat

namespace Go.Proofs.YtepplhbajmlbpaaGreat
open Go.ChangeShapes Go.WideShapes Go.ChangeAt Go.RowKit Go.Joins Go.Deep
theorem cellsOp : Tryz.prog.cellsOf 48 = 3 := by kernel_rfl
theorem cellsInt : Tryz.prog.cellsOf 3 = 1 := by kernel_rfl
theorem cellsSlot : Tryz.prog.cellsOf 50 = 5 := by kernel_rfl
set_option maxRecDepth 20000 in
theorem trod_slot {H : Type} {enc : TypeId × Value → H} {W : World} {n : Nat} {c0 c1 c2 c3 c4 : Value} {y : DataW H × List MemPlace} (h : DataW.trod enc Tryz.prog W 0 (fun _ => true) true n 50 [c0, c1, c2, c3, c4] = some y) :
   ∃ c r a t b : Int, c0 = .int .i64 c ∧ c1 = .int .i64 r ∧ c2 = .int .i64 a ∧ c3 = .int .i64 t ∧ c4 = .int .i64 b ∧ (Lit.int .i64 c).wf = true ∧ (Lit.int .i64 r).wf = true ∧ (Lit.int .i64 a).wf = true ∧ (Lit.int .i64 t).wf = true ∧ (Lit.int .i64 b).wf = true := by
 obtain ⟨y0, y1, y2, m, _, _, h0, h1, h2⟩ := trod_struct3 Tryz.underlying50 h
 simp [cellsOp, cellsInt] at h0 h1 h2
 obtain ⟨z0, z1, z2, m', _, _, g0, g1, g2⟩ := trod_struct3 Tryz.underlying48 h0
 simp [cellsInt] at g0 g1 g2
 obtain ⟨c, e0, _, wc⟩ := DataW.trod_int Tryz.underlying3 g0
 obtain ⟨r, e1, _, wr⟩ := DataW.trod_int Tryz.underlying3 g1
 obtain ⟨a, e2, _, wa⟩ := DataW.trod_int Tryz.underlying3 g2
 obtain ⟨t, e3, _, wt⟩ := DataW.trod_int Tryz.underlying3 h1
 obtain ⟨b, e4, _, wb⟩ := DataW.trod_int Tryz.underlying3 h2
 simp at e0 e1 e2 e3 e4
 exact ⟨c, r, a, t, b, e0, e1, e2, e3, e4, wc, wr, wa, wt, wb⟩
end Go.Proofs.YtepplhbajmlbpaaGreat

namespace Go.Proofs.YtepplhbajmlbpaaGreat
open Go.ChangeShapes Go.WideShapes Go.ChangeAt Go.RowKit Go.Joins Go.Deep
theorem bytesSlot : Tryz.prog.bytesOf 50 = 40 := by kernel_rfl
theorem cellsSlots : Tryz.prog.cellsOf 53 = 1 := by kernel_rfl
set_option maxRecDepth 20000 in
theorem open_slots {H : Type} {enc : TypeId × Value → H} {W : World} {n : Nat} {c : Value} {y : DataW H × List MemPlace} (h : DataW.trod enc Tryz.prog W 0 (fun _ => true) true n 53 [c] = some y)
   (hs : ∀ k ∈ y.1.weights Tryz.prog 53, k ≤ reachBytes) : ∃ ss, HasL W c ss ∧ ss.length * 40 ≤ 140737488351232 := by
 rcases open_slice Tryz.underlying53 h with ⟨hcs, _⟩ | ⟨a, len, cap, m, n', D, Pl, hcs, _, hl, hm, hmm, rfl, hx⟩
 ·simp at hcs
  subst hcs
  exact ⟨[], HasL.nil _, by decide⟩
 ·simp at hcs
  subst hcs
  simp only [if_true] at hmm
  subst hmm
  rw [cellsSlot] at hx
  have hw := hs _ (by simp [DataW.weights, Tryz.underlying53]; exact Or.inl rfl)
  rw [bytesSlot] at hw
  have each : ∀ i, i < m → ∃ s : Slt, ∀ j, j < 5 → W.cell? ((a.add (i * 5)).add j) = s.vals[j]? := by
    intro i hi
    obtain ⟨cs', h1, h2⟩ := hx i hi
    obtain ⟨_, hlen, hcell⟩ := World.cells?_some h1
    match cs', hlen with
    | [c0, c1, c2, c3, c4], _ =>
      obtain ⟨c, r, a', t, b, rfl, rfl, rfl, rfl, rfl, _⟩ := trod_slot h2
      exact ⟨⟨c, r, a', t, b⟩, fun j hj => by rw [hcell j (by omega)]; rfl⟩
  have : Inhabited Slt := ⟨Slt.zero⟩
  obtain ⟨s, hsl⟩ := choose_lt each
  refine ⟨(List.range len).map s, ?_, by rw [List.length_map, List.length_range]; simp only [reachBytes] at hw; omega⟩
  have hlen : ((List.range len).map s).length = len := by simp
  refine ⟨some a, m, by rw [hlen], by rw [hlen]; exact hl, (fun h => by cases h), fun hp => ?_⟩
  rw [hlen] at hp ⊢
  obtain ⟨b, off, spot⟩ := a
  have hc := hsl 0 (by omega) 0 (by omega)
  have hspot : spot = none := by simpa [Addr.add] using World.cell?_spot hc
  subst hspot
  refine ⟨b, off, rfl, fun i hi => SlotAt.of fun j hj => ?_⟩
  have h1 := hsl i (by omega) j hj
  rw [add_plain, add_plain] at h1
  rw [h1]
  simp [List.getD, hi]
end Go.Proofs.YtepplhbajmlbpaaGreat

namespace Go.Proofs.YtepplhbajmlbpaaGreat
open Go.ChangeShapes Go.WideShapes Go.ChangeAt Go.RowKit Go.Joins
theorem bytesInt : Tryz.prog.bytesOf 3 = 8 := by kernel_rfl
theorem cellsState : Tryz.prog.cellsOf 44 = 4 := by kernel_rfl
theorem cellsRows : Tryz.prog.cellsOf 42 = 4 := by kernel_rfl
theorem cellsInts : Tryz.prog.cellsOf 41 = 1 := by kernel_rfl
theorem has_of_ints {w : World} {a : Addr} {len cap : Nat} {zs : List Int} (hl : len ≤ cap) (hz : zs.length = cap) (hcell : ∀ i, i < zs.length → w.cell? (a.add i) = some (.int .i64 (zs.getD i 0))) : Has w (.slice (some a) len cap) (zs.take len) := by
 have hlen : (zs.take len).length = len := by rw [List.length_take]; omega
 refine ⟨some a, cap, by rw [hlen], by rw [hlen]; exact hl, (fun h => by cases h), fun hp => ?_⟩
 rw [hlen] at hp ⊢
 obtain ⟨b, off, spot⟩ := a
 have hc := hcell 0 (by omega)
 have hspot : spot = none := by simpa [Addr.add] using World.cell?_spot hc
 subst hspot
 refine ⟨b, off, rfl, fun i hi => ?_⟩
 have h1 := hcell i (by omega)
 rw [add_plain] at h1
 rw [h1]
 simp [List.getD, hi]
set_option maxRecDepth 20000 in
theorem open_nums {H : Type} {enc : TypeId × Value → H} {W : World} {n : Nat} {c : Value} {y : DataW H × List MemPlace} (h : DataW.trod enc Tryz.prog W 0 (fun _ => true) true n 41 [c] = some y)
   (hs : ∀ k ∈ y.1.weights Tryz.prog 41, k ≤ reachBytes) : ∃ xs, Has W c xs ∧ xs.length * 8 ≤ 140737488351232 := by
 rcases open_ints Tryz.underlying41 Tryz.underlying3 (by kernel_rfl) h with ⟨hcs, _⟩ | ⟨x, l, cp, zs, hcs, _, hl, hm, hz, hd, hcell, hwz⟩
 ·simp at hcs
  subst hcs
  exact ⟨[], Has.nil _, by decide⟩
 ·simp at hcs
  subst hcs
  have hd0 : y.1 = .slice (lits .i64 (zs.take l)) (lits .i64 (zs.drop l)) := congrArg Prod.fst hd
  have := hs _ (by rw [hd0]; simp [DataW.weights, Tryz.underlying41]; exact Or.inl rfl)
  rw [bytesInt] at this
  simp only [lits, List.length_map, List.length_take, List.length_drop, reachBytes] at this
  exact ⟨zs.take l, has_of_ints hl (by simpa using hz) hcell, by rw [List.length_take]; omega⟩
end Go.Proofs.YtepplhbajmlbpaaGreat

namespace Go.Proofs.YtepplhbajmlbpaaGreat
open Go.ChangeShapes Go.WideShapes Go.ChangeAt Go.RowKit Go.Joins Go.Deep
theorem cellsCfg : Tryz.prog.cellsOf 23 = 5 := by kernel_rfl
theorem cellsInt1 : Tryz.prog.cellsOf 3 = 1 := by kernel_rfl
theorem trod_struct5 {H : Type} {enc : TypeId × Value → H} {P : Program} {W : World} {base : Nat} {spare : Nat → Bool} {held : Bool} {t : TypeId} {f0 f1 f2 f3 f4 : Field} {fuel : Nat} {cs : List Value} {x : DataW H × List MemPlace} (ht : P.underlying t = some (.struct #[f0, f1, f2, f3, f4])) (h : DataW.trod enc P W base spare held fuel t cs = some x) :
   ∃ y0 y1 y2 y3 y4 n, x = (.agg [y0.1, y1.1, y2.1, y3.1, y4.1], y0.2 ++ (y1.2 ++ (y2.2 ++ (y3.2 ++ y4.2)))) ∧ cs.length = P.cellsOf t ∧ DataW.trod enc P W base spare held n f0.type ((cs.drop f0.offset).take (P.cellsOf f0.type)) = some y0 ∧
     DataW.trod enc P W base spare held n f1.type ((cs.drop f1.offset).take (P.cellsOf f1.type)) = some y1 ∧ DataW.trod enc P W base spare held n f2.type ((cs.drop f2.offset).take (P.cellsOf f2.type)) = some y2 ∧
     DataW.trod enc P W base spare held n f3.type ((cs.drop f3.offset).take (P.cellsOf f3.type)) = some y3 ∧ DataW.trod enc P W base spare held n f4.type ((cs.drop f4.offset).take (P.cellsOf f4.type)) = some y4 := by
 obtain ⟨xs, n, _, rfl, hl, hlen, hf⟩ := DataW.trod_struct ht h
 match xs, hlen with
 | [y0, y1, y2, y3, y4], _ => exact ⟨y0, y1, y2, y3, y4, n, by simp, hl, by simpa using hf 0 f0 rfl, by simpa using hf 1 f1 rfl, by simpa using hf 2 f2 rfl, by simpa using hf 3 f3 rfl, by simpa using hf 4 f4 rfl⟩
set_option maxRecDepth 20000 in
theorem trod_cfg {H : Type} {enc : TypeId × Value → H} {W : World} {n : Nat} {c0 c1 c2 c3 c4 : Value} {y : DataW H × List MemPlace} (h : DataW.trod enc Tryz.prog W 0 (fun _ => true) true n 23 [c0, c1, c2, c3, c4] = some y) :
   ∃ c r a t b : Int, c0 = .int .i64 c ∧ c1 = .int .i64 r ∧ c2 = .int .i64 a ∧ c3 = .int .i64 t ∧ c4 = .int .i64 b ∧ (Lit.int .i64 c).wf = true ∧ (Lit.int .i64 r).wf = true ∧ (Lit.int .i64 a).wf = true ∧ (Lit.int .i64 t).wf = true ∧ (Lit.int .i64 b).wf = true := by
 obtain ⟨y0, y1, y2, y3, y4, m, _, _, h0, h1, h2, h3, h4⟩ := trod_struct5 Tryz.underlying23 h
 simp [cellsInt1] at h0 h1 h2 h3 h4
 obtain ⟨c, e0, _, wc⟩ := DataW.trod_int Tryz.underlying3 h0
 obtain ⟨r, e1, _, wr⟩ := DataW.trod_int Tryz.underlying3 h1
 obtain ⟨a, e2, _, wa⟩ := DataW.trod_int Tryz.underlying3 h2
 obtain ⟨t, e3, _, wt⟩ := DataW.trod_int Tryz.underlying3 h3
 obtain ⟨b, e4, _, wb⟩ := DataW.trod_int Tryz.underlying3 h4
 simp at e0 e1 e2 e3 e4
 exact ⟨c, r, a, t, b, e0, e1, e2, e3, e4, wc, wr, wa, wt, wb⟩
end Go.Proofs.YtepplhbajmlbpaaGreat

namespace Go.Proofs.YtepplhbajmlbpaaGreat
open Go.ChangeShapes Go.WideShapes Go.ChangeAt Go.RowKit Go.Joins Go.Deep
theorem weightsAll_mem {H : Type} {P : Program} {e : TypeId} {d : DataW H} {k : Nat} (hk : k ∈ d.weights P e) : ∀ l : List (DataW H), d ∈ l → k ∈ DataW.weightsAll P e l
 | [], h => by cases h
 | x :: l, h => by
   unfold DataW.weightsAll
   rcases List.mem_cons.1 h with rfl | h
   ·exact List.mem_append.2 (.inl hk)
   ·exact List.mem_append.2 (.inr (weightsAll_mem hk l h))
theorem open_row {α : Type} (K : Kind α) {tS : TypeId} (hu : Tryz.prog.underlying tS = some (.slice K.t)) (hc : Tryz.prog.cellsOf K.t = K.k) (hb : Tryz.prog.bytesOf K.t = K.by') {H : Type} {enc : TypeId × Value → H} {W : World} (G : α → Prop)
   (hel : ∀ (n : Nat) (cs : List Value) (y : DataW H × List MemPlace), cs.length = K.k → DataW.trod enc Tryz.prog W 0 (fun _ => true) true n K.t cs = some y → (∀ k ∈ y.1.weights Tryz.prog K.t, k ≤ reachBytes) → ∃ x : α, cs = K.f x ∧ G x)
   {n : Nat} {c : Value} {y : DataW H × List MemPlace} (h : DataW.trod enc Tryz.prog W 0 (fun _ => true) true n tS [c] = some y) (hs : ∀ k ∈ y.1.weights Tryz.prog tS, k ≤ reachBytes) : ∃ xs, HasE K W c xs ∧ (∀ x ∈ xs, G x) ∧ xs.length * K.by' ≤ 140737488351232 := by
 rcases open_slice hu h with ⟨hcs, _⟩ | ⟨a, len, cap, m, n', D, Pl, hcs, _, hl, hm, hmm, rfl, hx⟩
 ·simp at hcs
  subst hcs
  exact ⟨[], HasE.nil _ _, (fun x h => by cases h), by simp⟩
 ·simp at hcs
  subst hcs
  simp only [if_true] at hmm
  subst hmm
  rw [hc] at hx
  have hw := hs _ (by simp [DataW.weights, hu]; exact Or.inl rfl)
  rw [hb] at hw
  have each : ∀ i, i < len → ∃ x : α, (∀ j, j < K.k → W.cell? ((a.add (i * K.k)).add j) = (K.f x)[j]?) ∧ G x := by
    intro i hi
    obtain ⟨cs', h1, h2⟩ := hx i (by omega)
    obtain ⟨_, hlen, hcell⟩ := World.cells?_some h1
    obtain ⟨x, rfl, hg⟩ := hel n' cs' _ hlen h2 (fun k hk => hs k (by
      simp only [DataW.weights, hu]
      refine List.mem_cons_of_mem _ (List.mem_append.2 (.inl (weightsAll_mem hk _ ?_)))
      exact List.mem_map.2 ⟨i, List.mem_range.2 hi, rfl⟩))
    exact ⟨x, fun j hj => hcell j (by omega), hg⟩
  have : Inhabited α := ⟨K.d⟩
  obtain ⟨s, hsl⟩ := choose_lt each
  have hlen : ((List.range len).map s).length = len := by simp
  refine ⟨(List.range len).map s, ?_, fun x hx => ?_, ?_⟩
  ·refine ⟨some a, m, by rw [hlen], by rw [hlen]; exact hl, (fun h => by cases h), fun hp => ?_⟩
   rw [hlen] at hp ⊢
   obtain ⟨b, off, spot⟩ := a
   have hk := K.pos
   have hc0 := (hsl 0 (by omega)).1 0 hk
   have hlt : 0 < (K.f (s 0)).length := by rw [K.len]; exact hk
   rw [List.getElem?_eq_getElem hlt] at hc0
   have hspot : spot = none := by simpa [Addr.add] using World.cell?_spot hc0
   subst hspot
   refine ⟨b, off, rfl, fun i hi j hj => ?_⟩
   have h1 := (hsl i hi).1 j hj
   rw [add_plain, add_plain] at h1
   rw [h1]
   simp [List.getD, hi]
  ·obtain ⟨i, hi, rfl⟩ := List.mem_map.1 hx
   exact (hsl i (List.mem_range.1 hi)).2
  ·rw [hlen]
   simp only [reachBytes] at hw
   have : len * K.by' ≤ (len + (m - len)) * K.by' := Nat.mul_le_mul_right _ (by omega)
   omega
theorem cellsInt2 : Tryz.prog.cellsOf 3 = 1 := by kernel_rfl
theorem cellsBool : Tryz.prog.cellsOf 4 = 1 := by kernel_rfl
theorem cellsOp2 : Tryz.prog.cellsOf 48 = 3 := by kernel_rfl
theorem open_ringE {H : Type} {enc : TypeId × Value → H} {W : World} (n : Nat) (cs : List Value) (y : DataW H × List MemPlace) (hlen : cs.length = 4) (h : DataW.trod enc Tryz.prog W 0 (fun _ => true) true n 55 cs = some y) (hs : ∀ k ∈ y.1.weights Tryz.prog 55, k ≤ reachBytes) :
   ∃ x : LR, cs = LR.cells x ∧ HasL W (slV x.q) x.R.ss ∧ FitR x.R := by
 match cs, hlen with
 | [c0, c1, c2, c3], _ =>
   obtain ⟨y0, y1, y2, y3, n, hx, _, h0, h1, h2, h3⟩ := trod_struct4 Tryz.underlying55 h
   simp [cellsInt2, cellsSlots] at h0 h1 h2 h3
   have hd : y.1 = .agg [y0.1, y1.1, y2.1, y3.1] := congrArg Prod.fst hx
   obtain ⟨x0, e0, _, w0⟩ := DataW.trod_int Tryz.underlying3 h0
   obtain ⟨x1, e1, _, w1⟩ := DataW.trod_int Tryz.underlying3 h1
   obtain ⟨x2, e2, _, w2⟩ := DataW.trod_int Tryz.underlying3 h2
   simp at e0 e1 e2
   subst e0 e1 e2
   obtain ⟨ss, a0, b0⟩ := open_slots h3 (fun k hk => hs k (by
     rw [hd]
     simp [DataW.weights, DataW.weightsEach, Tryz.underlying55]
     exact Or.inr (Or.inr (Or.inr hk))))
   obtain ⟨q, rfl⟩ := a0.sl
   exact ⟨⟨⟨x0, x1, x2, ss⟩, q⟩, rfl, a0, b0⟩
theorem open_repE {H : Type} {enc : TypeId × Value → H} {W : World} (n : Nat) (cs : List Value) (y : DataW H × List MemPlace) (hlen : cs.length = 6) (h : DataW.trod enc Tryz.prog W 0 (fun _ => true) true n 46 cs = some y) (hs : ∀ k ∈ y.1.weights Tryz.prog 46, k ≤ reachBytes) :
   ∃ x : LP, cs = LP.cells x ∧ (∀ i, i < 4 → Has W (slV (x.vs i)) (x.P.s.at i)) ∧ Has W (slV x.c) x.P.cs ∧ Has W (slV x.l) x.P.ls ∧ Fit x.P.s ∧ x.P.cs.length * 8 ≤ 140737488351232 ∧ x.P.ls.length * 8 ≤ 140737488351232 := by
 match cs, hlen with
 | [c0, c1, c2, c3, c4, c5], _ =>
   obtain ⟨ys, m, _, hx, _, hlen', hf⟩ := DataW.trod_struct Tryz.underlying46 h
   match ys, hlen' with
   | [y0, y1, y2], _ =>
     have hd : y.1 = .agg [y0.1, y1.1, y2.1] := congrArg Prod.fst hx
     have h0 := hf 0 _ rfl
     have h1 := hf 1 _ rfl
     have h2 := hf 2 _ rfl
     simp [cellsState, cellsInts] at h0 h1 h2
     have hw : ∀ k, k ∈ y0.1.weights Tryz.prog 44 ∨ k ∈ y1.1.weights Tryz.prog 41 ∨ k ∈ y2.1.weights Tryz.prog 41 → k ≤ reachBytes := fun k hk => hs k (by
       rw [hd]
       simp [DataW.weights, DataW.weightsEach, Tryz.underlying46]
       exact hk)
     obtain ⟨z, m1, hz, _, g1⟩ := trod_struct1 Tryz.underlying44 h0
     simp [cellsRows] at g1
     obtain ⟨z0, z1, z2, z3, m2, hy, t0, t1, t2, t3⟩ := trod_array4 Tryz.underlying42 cellsInts g1
     have hd0 : y0.1 = .agg [.agg [z0.1, z1.1, z2.1, z3.1]] := by
       have := congrArg Prod.fst hz
       simp only [hy] at this
       exact this
     have hw0 : ∀ k, k ∈ z0.1.weights Tryz.prog 41 ∨ k ∈ z1.1.weights Tryz.prog 41 ∨ k ∈ z2.1.weights Tryz.prog 41 ∨ k ∈ z3.1.weights Tryz.prog 41 → k ≤ reachBytes := fun k hk => hw k (.inl (by
       rw [hd0]
       simp [DataW.weights, DataW.weightsEach, DataW.weightsAll, Tryz.underlying44, Tryz.underlying42]
       exact hk))
     obtain ⟨x0, a0, b0⟩ := open_nums t0 (fun k hk => hw0 k (.inl hk))
     obtain ⟨x1, a1, b1⟩ := open_nums t1 (fun k hk => hw0 k (.inr (.inl hk)))
     obtain ⟨x2, a2, b2⟩ := open_nums t2 (fun k hk => hw0 k (.inr (.inr (.inl hk))))
     obtain ⟨x3, a3, b3⟩ := open_nums t3 (fun k hk => hw0 k (.inr (.inr (.inr hk))))
     obtain ⟨x4, a4, b4⟩ := open_nums h1 (fun k hk => hw k (.inr (.inl hk)))
     obtain ⟨x5, a5, b5⟩ := open_nums h2 (fun k hk => hw k (.inr (.inr hk)))
     obtain ⟨q0, rfl⟩ := a0.sl
     obtain ⟨q1, rfl⟩ := a1.sl
     obtain ⟨q2, rfl⟩ := a2.sl
     obtain ⟨q3, rfl⟩ := a3.sl
     obtain ⟨q4, rfl⟩ := a4.sl
     obtain ⟨q5, rfl⟩ := a5.sl
     refine ⟨⟨⟨⟨x0, x1, x2, x3⟩, x4, x5⟩, fun i => match i with | 0 => q0 | 1 => q1 | 2 => q2 | _ => q3, q4, q5⟩, rfl, fun i hi => ?_, a4, a5, fun i hi => ?_, b4, b5⟩
     ·rcases four hi with rfl | rfl | rfl | rfl
      ·exact a0
      ·exact a1
      ·exact a2
      ·exact a3
     ·rcases four hi with rfl | rfl | rfl | rfl
      ·exact b0
      ·exact b1
      ·exact b2
      ·exact b3
theorem trod_op {H : Type} {enc : TypeId × Value → H} {W : World} {n : Nat} {c0 c1 c2 : Value} {y : DataW H × List MemPlace} (h : DataW.trod enc Tryz.prog W 0 (fun _ => true) true n 48 [c0, c1, c2] = some y) : ∃ c r a : Int, c0 = .int .i64 c ∧ c1 = .int .i64 r ∧ c2 = .int .i64 a := by
 obtain ⟨ys, m, _, hx, _, hlen', hf⟩ := DataW.trod_struct Tryz.underlying48 h
 match ys, hlen' with
 | [y0, y1, y2], _ =>
   have h0 := hf 0 _ rfl
   have h1 := hf 1 _ rfl
   have h2 := hf 2 _ rfl
   simp [cellsInt2] at h0 h1 h2
   obtain ⟨x0, e0, _, _⟩ := DataW.trod_int Tryz.underlying3 h0
   obtain ⟨x1, e1, _, _⟩ := DataW.trod_int Tryz.underlying3 h1
   obtain ⟨x2, e2, _, _⟩ := DataW.trod_int Tryz.underlying3 h2
   simp at e0 e1 e2
   exact ⟨x0, x1, x2, e0, e1, e2⟩
theorem open_evE {H : Type} {enc : TypeId × Value → H} {W : World} (n : Nat) (cs : List Value) (y : DataW H × List MemPlace) (hlen : cs.length = 6) (h : DataW.trod enc Tryz.prog W 0 (fun _ => true) true n 102 cs = some y) (_hs : ∀ k ∈ y.1.weights Tryz.prog 102, k ≤ reachBytes) :
   ∃ x : Ev, cs = Ev.cells x ∧ True := by
 match cs, hlen with
 | [c0, c1, c2, c3, c4, c5], _ =>
   obtain ⟨ys, m, _, hx, _, hlen', hf⟩ := DataW.trod_struct Tryz.underlying102 h
   match ys, hlen' with
   | [y0, y1, y2, y3], _ =>
     have h0 := hf 0 _ rfl
     have h1 := hf 1 _ rfl
     have h2 := hf 2 _ rfl
     have h3 := hf 3 _ rfl
     simp [cellsInt2, cellsBool, cellsOp2] at h0 h1 h2 h3
     obtain ⟨x0, e0, _, _⟩ := DataW.trod_int Tryz.underlying3 h0
     obtain ⟨x1, e1, _⟩ := DataW.trod_bool Tryz.underlying4 h1
     obtain ⟨x2, x3, x4, e2, e3, e4⟩ := trod_op h2
     obtain ⟨x5, e5, _, _⟩ := DataW.trod_int Tryz.underlying3 h3
     simp at e0 e1 e5
     subst e0 e1 e2 e3 e4 e5
     exact ⟨⟨x0, x1, x2, x3, x4, x5⟩, rfl, trivial⟩
theorem open_thE {H : Type} {enc : TypeId × Value → H} {W : World} (n : Nat) (cs : List Value) (y : DataW H × List MemPlace) (hlen : cs.length = 12) (h : DataW.trod enc Tryz.prog W 0 (fun _ => true) true n 59 cs = some y) (hs : ∀ k ∈ y.1.weights Tryz.prog 59, k ≤ reachBytes) :
   ∃ x : LT, cs = LT.cells x ∧ Has W (slV x.b) x.T.b ∧ Has W (slV x.t) x.T.tl ∧ x.T.b.length * 8 ≤ 140737488351232 ∧ x.T.tl.length * 8 ≤ 140737488351232 := by
 match cs, hlen with
 | [c0, c1, c2, c3, c4, c5, c6, c7, c8, c9, c10, c11], _ =>
   obtain ⟨ys, m, _, hx, _, hlen', hf⟩ := DataW.trod_struct Tryz.underlying59 h
   match ys, hlen' with
   | [y0, y1, y2, y3, y4, y5, y6, y7, y8, y9], _ =>
     have hd : y.1 = .agg [y0.1, y1.1, y2.1, y3.1, y4.1, y5.1, y6.1, y7.1, y8.1, y9.1] := congrArg Prod.fst hx
     have h0 := hf 0 _ rfl
     have h1 := hf 1 _ rfl
     have h2 := hf 2 _ rfl
     have h3 := hf 3 _ rfl
     have h4 := hf 4 _ rfl
     have h5 := hf 5 _ rfl
     have h6 := hf 6 _ rfl
     have h7 := hf 7 _ rfl
     have h8 := hf 8 _ rfl
     have h9 := hf 9 _ rfl
     simp [cellsInt2, cellsBool, cellsOp2, cellsInts] at h0 h1 h2 h3 h4 h5 h6 h7 h8 h9
     have hw : ∀ k, k ∈ y4.1.weights Tryz.prog 41 ∨ k ∈ y9.1.weights Tryz.prog 41 → k ≤ reachBytes := fun k hk => hs k (by
       rw [hd]
       simp only [DataW.weights, DataW.weightsEach, Tryz.underlying59, List.map_cons, List.map_nil, List.mem_append]
       rcases hk with hk | hk
       ·exact .inr (.inr (.inr (.inr (.inl hk))))
       ·exact .inr (.inr (.inr (.inr (.inr (.inr (.inr (.inr (.inr (.inl hk))))))))))
     obtain ⟨x0, e0, _, _⟩ := DataW.trod_int Tryz.underlying3 h0
     obtain ⟨x1, x2, x3, e1, e2, e3⟩ := trod_op h1
     obtain ⟨x4, e4, _, _⟩ := DataW.trod_int Tryz.underlying3 h2
     obtain ⟨x5, e5, _, _⟩ := DataW.trod_int Tryz.underlying3 h3
     obtain ⟨x6, a6, b6⟩ := open_nums h4 (fun k hk => hw k (.inl hk))
     obtain ⟨x7, e7, _, _⟩ := DataW.trod_int Tryz.underlying3 h5
     obtain ⟨x8, e8, _⟩ := DataW.trod_bool Tryz.underlying4 h6
     obtain ⟨x9, e9, _⟩ := DataW.trod_bool Tryz.underlying4 h7
     obtain ⟨x10, e10, _, _⟩ := DataW.trod_int Tryz.underlying3 h8
     obtain ⟨x11, a11, b11⟩ := open_nums h9 (fun k hk => hw k (.inr hk))
     simp at e0 e4 e5 e7 e8 e9 e10
     subst e0 e1 e2 e3 e4 e5 e7 e8 e9 e10
     obtain ⟨q6, rfl⟩ := a6.sl
     obtain ⟨q11, rfl⟩ := a11.sl
     exact ⟨⟨⟨x0, x1, x2, x3, x4, x5, x6, x7, x8, x9, x10, x11⟩, q6, q11⟩, rfl, a6, a11, b6, b11⟩
theorem cellsMach : Tryz.prog.cellsOf 29 = 9 := by kernel_rfl
theorem cellsS1 : Tryz.prog.cellsOf 24 = 1 := by kernel_rfl
theorem cellsS2 : Tryz.prog.cellsOf 25 = 1 := by kernel_rfl
theorem cellsS3 : Tryz.prog.cellsOf 26 = 1 := by kernel_rfl
theorem cellsS4 : Tryz.prog.cellsOf 27 = 1 := by kernel_rfl
theorem array9 {α : Type} {cs : Array α} (h : cs.size = 9) : ∃ c0 c1 c2 c3 c4 c5 c6 c7 c8, cs = #[c0, c1, c2, c3, c4, c5, c6, c7, c8] := by
 obtain ⟨l⟩ := cs
 match l, h with
 | [c0, c1, c2, c3, c4, c5, c6, c7, c8], _ => exact ⟨c0, c1, c2, c3, c4, c5, c6, c7, c8, rfl⟩
set_option maxRecDepth 20000 in
theorem open_mach {H : Type} {enc : TypeId × Value → H} {W : World} {base : Nat} {v : Value} {d : DataW H} {p : List MemPlace} (hv : Value.okWide Tryz.prog W .any base 29 v)
   (h : DataW.Trod enc Tryz.prog W 0 (fun _ => true) true 29 v d p) (hs : ∀ k ∈ d.weights Tryz.prog 29, k ≤ reachBytes) : ∃ M, HasM W v M ∧ FitM M := by
 obtain ⟨cs, rfl, hsz⟩ := okWide_struct Tryz.underlying29 hv
 obtain ⟨c0, c1, c2, c3, c4, c5, c6, c7, c8, rfl⟩ := array9 (hsz.trans cellsMach)
 obtain ⟨fuel, hf⟩ := h
 obtain ⟨y0, y1, y2, y3, y4, n, hx, _, h0, h1, h2, h3, h4⟩ := trod_struct5 Tryz.underlying29 hf
 simp [Value.cells, cellsCfg, cellsS1, cellsS2, cellsS3, cellsS4] at h0 h1 h2 h3 h4
 have hd : d = .agg [y0.1, y1.1, y2.1, y3.1, y4.1] := congrArg Prod.fst hx
 have hw : ∀ k, k ∈ y1.1.weights Tryz.prog 24 ∨ k ∈ y2.1.weights Tryz.prog 25 ∨ k ∈ y3.1.weights Tryz.prog 26 ∨ k ∈ y4.1.weights Tryz.prog 27 → k ≤ reachBytes := fun k hk => hs k (by
   rw [hd]
   simp [DataW.weights, DataW.weightsEach, Tryz.underlying29]
   exact Or.inr hk)
 obtain ⟨o, r, l, t, s, rfl, rfl, rfl, rfl, rfl, _⟩ := trod_cfg h0
 obtain ⟨rs, hR, gR, fR⟩ := open_row ringK (tS := 24) Tryz.underlying24 (by kernel_rfl) (by kernel_rfl) (fun x => HasL W (slV x.q) x.R.ss ∧ FitR x.R) (fun n cs y hl h hs => open_ringE n cs y hl h hs) h1 (fun k hk => hw k (.inl hk))
 obtain ⟨ps, hP, gP, fP⟩ := open_row repK (tS := 25) Tryz.underlying25 (by kernel_rfl) (by kernel_rfl) (fun x => (∀ i, i < 4 → Has W (slV (x.vs i)) (x.P.s.at i)) ∧ Has W (slV x.c) x.P.cs ∧ Has W (slV x.l) x.P.ls ∧ Fit x.P.s ∧ x.P.cs.length * 8 ≤ 140737488351232 ∧ x.P.ls.length * 8 ≤ 140737488351232) (fun n cs y hl h hs => open_repE n cs y hl h hs) h2 (fun k hk => hw k (.inr (.inl hk)))
 obtain ⟨ts, hT, gT, fT⟩ := open_row thK (tS := 26) Tryz.underlying26 (by kernel_rfl) (by kernel_rfl) (fun x => Has W (slV x.b) x.T.b ∧ Has W (slV x.t) x.T.tl ∧ x.T.b.length * 8 ≤ 140737488351232 ∧ x.T.tl.length * 8 ≤ 140737488351232) (fun n cs y hl h hs => open_thE n cs y hl h hs) h3 (fun k hk => hw k (.inr (.inr (.inl hk))))
 obtain ⟨es, hE, _, fE⟩ := open_row evK (tS := 27) Tryz.underlying27 (by kernel_rfl) (by kernel_rfl) (fun _ => True) (fun n cs y hl h hs => open_evE n cs y hl h hs) h4 (fun k hk => hw k (.inr (.inr (.inr hk))))
 obtain ⟨qR, rfl⟩ := hR.sl
 obtain ⟨qP, rfl⟩ := hP.sl
 obtain ⟨qT, rfl⟩ := hT.sl
 obtain ⟨qH, rfl⟩ := hE.sl
 refine ⟨⟨⟨o, r, l, t, s⟩, rs.map LR.R, ps.map LP.P, ts.map LT.T, es⟩, ⟨qR, qP, qT, qH, rfl, ⟨rs, rfl, hR, fun x hx => (gR x hx).1⟩, ⟨ps, rfl, hP, fun x hx => ⟨(gP x hx).1, (gP x hx).2.1, (gP x hx).2.2.1⟩⟩, ⟨ts, rfl, hT, fun x hx => ⟨(gT x hx).1, (gT x hx).2.1⟩⟩, hE⟩, ⟨by rw [List.length_map]; exact fR, by rw [List.length_map]; exact fP, by rw [List.length_map]; exact fT, fE, fun R hR' => ?_, fun P hP' => ?_, fun T hT' => ?_⟩⟩
 ·obtain ⟨x, hx, rfl⟩ := List.mem_map.1 hR'
  exact (gR x hx).2
 ·obtain ⟨x, hx, rfl⟩ := List.mem_map.1 hP'
  exact (gP x hx).2.2.2
 ·obtain ⟨x, hx, rfl⟩ := List.mem_map.1 hT'
  exact (gT x hx).2.2
end Go.Proofs.YtepplhbajmlbpaaGreat
