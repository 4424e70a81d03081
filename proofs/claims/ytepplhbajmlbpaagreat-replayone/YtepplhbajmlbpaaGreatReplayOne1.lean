/-
  PARTS LAID TOGETHER, each with its own opening: ElA, MsU, BtH, RyC, RyY, OpenSl, OpenR, OpenSt, OpenCf, OpenM.
-/
import Derived.Test.YtepplhbajmlbpaaGreatCom7
import Derived.Test.YtepplhbajmlbpaaGreatCom4
import Derived.Test.YtepplhbajmlbpaaGreatCom6
import Derived.Test.YtepplhbajmlbpaaGreatCom5
import Derived.Deep.RegionHeld3
import Derived.Test.YtepplhbajmlbpaaGreatCom1
import Derived.ProofKit
import Derived.OpenShut
import Derived.SizedLaws
import Derived.Lib.SmallJoins
import Derived.Deep.Slices
import Derived.Deep.Strs
import Derived.Laws.IdiomArrays
namespace Go.Proofs.YtepplhbajmlbpaaGreat
open Go.RowKit
theorem OwnsM.at_ge {w : World} {base : Nat} {L : Lay} (h : OwnsM w base L) {p : Pos} {g : Nat} (e : (slV (L.at p)).ownBlock = some g) : base ≤ g := by
 cases p with
 | rep i j =>
   rcases Nat.lt_or_ge i L.ps.length with hi | hi
   ·have hp := h.iP _ (getD_mem (d := repK.d) hi)
    match j, e with
    | 0, e => exact ((hp.1 0 (by decide)).block e).1
    | 1, e => exact ((hp.1 1 (by decide)).block e).1
    | 2, e => exact ((hp.1 2 (by decide)).block e).1
    | 3, e => exact ((hp.1 3 (by decide)).block e).1
    | 4, e => exact (hp.2.1.block e).1
    | 5, e => exact (hp.2.2.block e).1
    | _ + 6, e => simp [Lay.at, LP.row, Value.ownBlock] at e
   ·simp only [Lay.at, getD_out hi] at e
    match j, e with
    | 0, e => cases e
    | 1, e => cases e
    | 2, e => cases e
    | 3, e => cases e
    | 4, e => cases e
    | 5, e => cases e
    | _ + 6, e => cases e
 | th i j =>
   rcases Nat.lt_or_ge i L.ts.length with hi | hi
   ·have hp := h.iT _ (getD_mem (d := thK.d) hi)
    match j, e with
    | 0, e => exact (hp.1.block e).1
    | 1, e => exact (hp.2.block e).1
    | _ + 2, e => simp [Lay.at, LT.row, Value.ownBlock] at e
   ·simp only [Lay.at, getD_out hi] at e
    match j, e with
    | 0, e => cases e
    | 1, e => cases e
    | _ + 2, e => cases e
structure MayP (M : Mc) : Prop where
 ok : M.c.ok = true
 lr : (M.rs.length : Int) = M.c.l
 rs : ∀ R ∈ M.rs, ringB M.c R = true
 lp : (M.ps.length : Int) = M.c.r
 ps : ∀ P ∈ M.ps, repB M.c M.rs P = true
 lt : (M.ts.length : Int) = M.c.t
 ts : ∀ T ∈ M.ts, thB M.c T = true
 le : (M.es.length : Int) ≤ 64
 es : ∀ E ∈ M.es, evB M.c E = true
theorem mayM_iff {M : Mc} : mayM M = true ↔ MayP M := by
 constructor
 ·intro h
  obtain ⟨a, b, c, d⟩ := mayM_lens h
  exact ⟨mayM_ok h, a, mayM_rs h, b, mayM_ps h, c, mayM_ts h, d, mayM_es h⟩
 ·intro h
  unfold mayM
  simp only [Bool.and_eq_true, decide_eq_true_eq, List.all_eq_true]
  exact ⟨h.ok, ⟨h.lr, h.rs⟩, ⟨h.lp, h.ps⟩, ⟨h.lt, h.ts⟩, h.le, h.es⟩
theorem thB_yes {c : Cfg} {T : Th} (h1 : 0 ≤ T.st ∧ T.st ≤ 19) (h2 : opMay T.c T.r T.a = true) (h3 : 0 ≤ T.lg ∧ T.lg ≤ c.l - 1) (h4 : 0 ≤ T.sn ∧ T.sn ≤ 1048576) (h5 : (T.b.length : Int) ≤ c.t) (h6 : ∀ x ∈ T.b, 0 ≤ x ∧ x ≤ c.t - 1) (h7 : 0 ≤ T.pl ∧ T.pl ≤ T.b.length) (h8 : (T.tl.length : Int) ≤ c.l) (h9 : ∀ x ∈ T.tl, 0 ≤ x ∧ x ≤ 1048576) : thB c T = true := by
 unfold thB
 simp only [Bool.and_eq_true, decide_eq_true_eq, List.all_eq_true]
 exact ⟨inB_yes h1.1 h1.2, h2, inB_yes h3.1 h3.2, inB_yes h4.1 h4.2, ⟨h5, fun x hx => inB_yes (h6 x hx).1 (h6 x hx).2⟩, inB_yes h7.1 h7.2, h8, fun x hx => inB_yes (h9 x hx).1 (h9 x hx).2⟩
theorem repB_yes {c : Cfg} {Rs : List Rg} {P : Rp} (h1 : objMay c.o P.s = true) (h2 : (P.cs.length : Int) = c.l) (h3 : cursOK Rs P.cs = true) (h4 : (P.ls.length : Int) = c.l) (h5 : ∀ x ∈ P.ls, 0 ≤ x ∧ x ≤ c.t) : repB c Rs P = true := by
 unfold repB
 simp only [Bool.and_eq_true, decide_eq_true_eq, List.all_eq_true]
 exact ⟨h1, h2, h3, h4, fun x hx => inB_yes (h5 x hx).1 (h5 x hx).2⟩
theorem mayM_putT {M : Mc} (h : mayM M = true) {t : Int} {x : Th} (hx : thB M.c x = true) : mayM (M.putT t x) = true := by
 obtain ⟨a, b, c, d, e, f, g, i, j⟩ := mayM_iff.1 h
 refine mayM_iff.2 ⟨a, b, c, d, e, by simpa [Mc.putT] using f, fun T hT => ?_, i, j⟩
 rcases List.mem_or_eq_of_mem_set hT with hT | rfl
 ·exact g T hT
 ·exact hx
theorem mayM_putP {M : Mc} (h : mayM M = true) {r : Int} {x : Rp} (hx : repB M.c M.rs x = true) : mayM (M.putP r x) = true := by
 obtain ⟨a, b, c, d, e, f, g, i, j⟩ := mayM_iff.1 h
 refine mayM_iff.2 ⟨a, b, c, by simpa [Mc.putP] using d, fun P hP => ?_, f, g, i, j⟩
 rcases List.mem_or_eq_of_mem_set hP with hP | rfl
 ·exact e P hP
 ·exact hx
theorem cursOK_yes {Rs : List Rg} {cs : List Int} (h : ∀ k, k < cs.length → (Rs.getD k Rg.zero).h ≤ cs.getD k 0 ∧ cs.getD k 0 ≤ (Rs.getD k Rg.zero).t) : cursOK Rs cs = true := by
 unfold cursOK
 simp only [List.all_eq_true, List.mem_range]
 exact fun k hk => inB_yes (h k hk).1 (h k hk).2
theorem thB_zero {c : Cfg} (h : c.ok = true) : thB c Th.zero = true := by
 obtain ⟨_, _, ⟨l0, _⟩, ⟨t0, _⟩, _, _⟩ := Cfg.ok_cases h
 exact thB_yes (by decide) (by decide) (by simp [Th.zero]; omega) (by decide) (by simp [Th.zero]; omega) (by simp [Th.zero]) (by simp [Th.zero]) (by simp [Th.zero]; omega) (by simp [Th.zero])
theorem th_may {M : Mc} (h : mayM M = true) (t : Int) : thB M.c (M.th t) = true := by
 unfold Mc.th
 rcases Nat.lt_or_ge t.toNat M.ts.length with ht | ht
 ·exact mayM_ts h _ (getD_mem ht)
 ·rw [getD_out ht]; exact thB_zero (mayM_ok h)
theorem th_put (M : Mc) (t : Int) (x : Th) (i : Nat) : (M.putT t x).th i = if i = t.toNat ∧ i < M.ts.length then x else M.th i := by
 unfold Mc.putT Mc.th
 simp only [Int.toNat_natCast]
 rw [List.getD_eq_getElem?_getD, List.getElem?_set, List.getD_eq_getElem?_getD]
 by_cases e : t.toNat = i
 ·subst e
  by_cases h : t.toNat < M.ts.length
  ·rw [if_pos rfl, if_pos h, if_pos ⟨rfl, h⟩]; rfl
  ·rw [if_pos rfl, if_neg h, if_neg (fun k => h k.2), List.getElem?_eq_none (by omega)]
 ·rw [if_neg e, if_neg (fun k => e k.1.symm)]
theorem ApartM.setSb {L : Lay} {m : Nat} (h : ApartM L) (hm : ∀ p b, (slV (L.at p)).ownBlock = some b → m ≤ b) {i : Nat} (hi : i < L.ps.length) {x : LP} (hc : x.c = (L.ps.getD i repK.d).c) (hl : x.l = (L.ps.getD i repK.d).l) (hs : ∀ j, j < 4 → ∀ c, (slV (x.vs j)).ownBlock = some c → c < m) : ApartM { L with ps := L.ps.set i x } := by
 have key : ∀ p, (({ L with ps := L.ps.set i x } : Lay).at p = L.at p) ∨ (p.wr = false ∧ ∀ c, (slV (({ L with ps := L.ps.set i x } : Lay).at p)).ownBlock = some c → c < m) := fun p => by
   cases p with
   | th a b => exact .inl rfl
   | rep a b =>
     simp only [Lay.at, getD_set _ _ _ _ _ hi]
     by_cases e : a = i
     ·subst e
      rw [if_pos rfl]
      match b with
      | 0 => exact .inr ⟨rfl, hs 0 (by decide)⟩
      | 1 => exact .inr ⟨rfl, hs 1 (by decide)⟩
      | 2 => exact .inr ⟨rfl, hs 2 (by decide)⟩
      | 3 => exact .inr ⟨rfl, hs 3 (by decide)⟩
      | 4 => exact .inl hc
      | 5 => exact .inl hl
      | _ + 6 => exact .inl rfl
     ·rw [if_neg e]; exact .inl rfl
 refine ⟨h.s, fun p q hne hw n1 n2 b e1 e2 => ?_⟩
 rcases key p with k1 | ⟨k1, _⟩
 ·rw [k1] at n1 e1
  rcases key q with k2 | ⟨_, k2⟩
  ·rw [k2] at n2 e2; exact h.n p q hne hw n1 n2 b e1 e2
  ·have := hm p b e1; have := k2 b e2; omega
 ·rw [k1] at hw; cases hw
theorem MoI.setSb {B B0 g : Nat} {w : World} {L : Lay} (h : MoI B0 g w L) (hBB : B ≤ B0) {i gP n cap : Nat} (hq : L.qP = (some ⟨gP, 0, none⟩, n, cap)) (hi : i < L.ps.length) (vs : Nat → Sl) (s : St) (hs : ∀ j, j < 4 → Own w B (slV (vs j)) (s.at j)) (hn : ∀ j, j < 4 → ∀ c, (slV (vs j)).ownBlock = some c → c < B0) :
   MoI B g (setsW gP (i * 6) w 0 [slV (vs 0), slV (vs 1), slV (vs 2), slV (vs 3)]) { L with ps := L.ps.set i ⟨{ (L.ps.getD i repK.d).P with s := s }, vs, (L.ps.getD i repK.d).c, (L.ps.getD i repK.d).l⟩ } := by
 have h2 := h.base hBB
 have ho := h2.own.oP
 rw [hq] at ho
 refine h2.chP hq (fun h1 h2 => setsW_own _ _ _ h1 h2) (fun hne hb => setsW_box hne _ _ _ hb) (ho.putS hi (by show 4 ≤ 6; decide) rfl) (fun y hy => ?_) (h.ap.setSb (m := B0) (fun p b e => h.own.at_ge e) hi rfl rfl hn)
 rcases List.mem_or_eq_of_mem_set hy with hy | rfl
 ·exact .inl hy
 ·have o := h2.own.iP _ (getD_mem (d := repK.d) hi)
  exact .inr ⟨hs, o.2.1, o.2.2⟩
theorem one_cases (M : Mc) (r g : Int) : oneM M r g = (Mc.zero, false, 1800) ∨ (thereB M r g 0 = true ∧ oneM M r g = (M, false, 0)) ∨
   ∃ (r' g' th : Nat) (c rr a y : Int) (b : Int) (s' : St) (N : Mc), r = r' ∧ g = g' ∧ thereB M r g 0 = true ∧ oneM M r g = (N, true, 0) ∧ entryS (M.rg g) ((M.rp r).cur g) = (⟨c, rr, a, th, b⟩, 0) ∧ th < M.ts.length ∧
     objS M.c.o (M.rp r).s c rr a 600 = (s', y, 0) ∧ N.ps.length = M.ps.length ∧ N.ts.length = M.ts.length ∧
     N.putT th { N.th th with an := (M.th th).an, re := (M.th th).re } = M.putP r { (M.rp r).setCur g ((M.rp r).cur g + 1) with s := s' } := by
 cases h1 : thereB M r g 0
 ·exact .inl (by unfold oneM; rw [h1]; rfl)
 right
 obtain ⟨⟨c, rr, a, th, b⟩, er, he⟩ : ∃ s er, entryS (M.rg g) ((M.rp r).cur g) = (s, er) := ⟨_, _, rfl⟩
 by_cases her : er = 0
 case neg => exact .inl ⟨rfl, by unfold oneM; rw [if_pos h1, he]; exact if_neg her⟩
 subst her
 right
 obtain ⟨hmay, ⟨ra, rb⟩, ⟨g0, g1⟩, _⟩ := thereB_cases h1
 obtain ⟨hrs, hps, hts, _⟩ := mayM_lens hmay
 obtain ⟨r, rfl⟩ : ∃ n : Nat, r = n := ⟨r.toNat, by omega⟩
 obtain ⟨g, rfl⟩ : ∃ n : Nat, g = n := ⟨g.toNat, by omega⟩
 have hpi : r < M.ps.length := by omega
 have hgi : g < M.rs.length := by omega
 obtain ⟨hom, _⟩ := repB_cases (Mc.rp_may hmay hpi)
 obtain ⟨hRm, _, _, hRt⟩ := ringB_cases (Mc.rg_may hmay hgi)
 have hm := entry_mem he
 have ht := hRt _ hm
 simp only at ht
 have hsb := List.all_eq_true.1 (mayR_all hRm) _ hm
 have hop : opMay c rr a = true := by
   unfold slotB opUp at hsb
   simp only [Bool.and_eq_true] at hsb
   exact hsb.1.1.1
 have h6 := objS_yes (o := M.c.o) (s := (M.rp r).s) (c := c) (r := rr) (a := a) 600 (by rw [hom, hop]; rfl)
 have h18 := objS_yes (o := M.c.o) (s := (M.rp r).s) (c := c) (r := rr) (a := a) 1800 (by rw [hom, hop]; rfl)
 obtain ⟨s', hs'⟩ : ∃ s', s' = (objS M.c.o (M.rp r).s c rr a 0).1 := ⟨_, rfl⟩
 obtain ⟨y, hy⟩ : ∃ y, y = (objS M.c.o (M.rp r).s c rr a 0).2.1 := ⟨_, rfl⟩
 rw [← hs', ← hy] at h6 h18
 obtain ⟨th, rfl⟩ : ∃ n : Nat, th = n := ⟨th.toNat, by omega⟩
 have hti : th < M.ts.length := by omega
 obtain ⟨B, hB⟩ : ∃ B, B = M.putP r { (M.rp r).setCur g ((M.rp r).cur g + 1) with s := s' } := ⟨_, rfl⟩
 have hBt : B.ts = M.ts := by rw [hB]; rfl
 have hBth : B.th th = M.th th := by unfold Mc.th; rw [hBt]
 have hBp : B.ps.length = M.ps.length := by rw [hB]; simp [Mc.putP]
 have hsame : B.putT th (M.th th) = B := by
   rw [← hBth]
   unfold Mc.putT Mc.th
   have : th < B.ts.length := by rw [hBt]; exact hti
   rw [Int.toNat_natCast, List.getD_eq_getElem?_getD, List.getElem?_eq_getElem this]
   simp
 have hP : oneP M r g ⟨c, rr, a, th, b⟩ = { (M.rp r).setCur g ((M.rp r).cur g + 1) with s := s' } := by unfold oneP; simp only [h18]
 have hT : oneT M r ⟨c, rr, a, th, b⟩ = { M.th th with an := y, re := true } := by unfold oneT; simp only [h18]
 by_cases hm : (th : Int) % M.c.r = r
 ·have hN : oneM M r g = (B.putT th { M.th th with an := y, re := true }, true, 0) := by
    unfold oneM
    rw [if_pos h1, he]
    simp only [hP, hT, ← hB]
    rw [if_pos trivial, if_pos hm]
  refine ⟨r, g, th, c, rr, a, y, b, s', _, rfl, rfl, rfl, hN, he, hti, h6, by simpa [Mc.putT] using hBp, by simp [Mc.putT, hBt], ?_⟩
  have e : (B.putT th { M.th th with an := y, re := true }).th th = { M.th th with an := y, re := true } := by
    rw [th_put, if_pos ⟨by simp, by rw [hBt]; exact hti⟩]
  rw [e, ← hB]
  have e2 : ∀ X Y : Th, (B.putT th X).putT th Y = B.putT th Y := fun X Y => by unfold Mc.putT; simp
  rw [e2]
  exact hsame
 ·have hN : oneM M r g = (B, true, 0) := by
    unfold oneM
    rw [if_pos h1, he]
    simp only [hP, ← hB]
    rw [if_pos trivial, if_neg hm]
  refine ⟨r, g, th, c, rr, a, y, b, s', _, rfl, rfl, rfl, hN, he, hti, h6, hBp, by rw [hBt], ?_⟩
  rw [hBth, ← hB]
  exact hsame
set_option maxRecDepth 8000 in
set_option maxHeartbeats 16000000 in
theorem lawReplayOne (w : World) (v : Value) (M : Mc) (hx : HasM w v M) (hf : FitM M) (r g : Int) : Calls Tryz.prog 4 #[v, .int .i64 r, .int .i64 g] w fun e w' => e = .returned (.bool true) ∧ Le w w' := by
 rcases one_cases M r g with hP | ⟨h1, hP⟩ | ⟨r, g, th, c, rr, a, y, b, s', N, rfl, rfl, h1, hP, he, hti, hob, hNp, hNt, hNM⟩
 ·have t1 := fun v w' (h : HasM w' v M) => replayOneAs hP v w' h hf
  have hx0 := hx
  obtain ⟨qR, qP, qT, qH, rfl, _, _, _, _⟩ := hx
  have hb0 := Box.new w (cells9 M.c qR qP qT qH) 29
  have hl := Le.alloc w (.cells (cells9 M.c qR qP qT qH) 29)
  go_enter Tryz.func4, Tryz.ntmps4
  go_upto_region 1 with fail
  generalize hW : w.alloc (.cells (cells9 M.c qR qP qT qH) 29) = W at hl hb0 ⊢
  clear hW hP
  go_wp2_with fail
  refine (lawAwake18 _).mono ?_
  rintro e w0 ⟨rfl, l0⟩
  replace hb0 := hb0.le l0
  replace hl := hl.trans l0
  clear l0
  obtain ⟨⟨y0, y1, y2, y3, y4⟩, y5, y6, y7, y8⟩ := (hb0).mach
  go_wp2_with fail
  refine (t1 _ _ (hx0.le hl)).mono ?_
  rintro e w1 ⟨aR, aP, aT, aH, rfl, oA, l1⟩
  clear y0 y1 y2 y3 y4 y5 y6 y7 y8
  replace hl := hl.trans l1
  clear l1 t1 hb0
  have hbA := Box.new w1 (cells9 Mc.zero.c aR aP aT aH) 29
  have a1 := Le.alloc w1 (.cells (cells9 Mc.zero.c aR aP aT aH) 29)
  go_upto_region 4 with fail
  generalize hW1 : w1.alloc (.cells (cells9 Mc.zero.c aR aP aT aH) 29) = W1 at hbA a1 ⊢
  clear hW1
  have hggA : w1.heap.size ≤ w1.heap.size := Nat.le_refl _
  generalize hgg : w1.heap.size = gA at hbA hggA ⊢
  have hsgA : w1.heap.size ≤ gA := by omega
  clear hgg hggA
  replace hl := hl.trans a1
  replace oA := oA.le a1
  clear a1
  go_wp2_with fail
  refine (lawNum _ _).mono ?_
  rintro e _ ⟨rfl, rfl⟩
  have s1 := lawSameMachine _ _ Mc.zero Mc.zero W1 oA.has (HasM.zero W1) fitM_zero
  simp only [decide_true] at s1
  obtain ⟨⟨y0, y1, y2, y3, y4⟩, y5, y6, y7, y8⟩ := (hbA).mach
  go_wp2_with fail
  refine s1.mono ?_
  rintro e w2 ⟨rfl, l2⟩
  go_wp2_with fail
  go_ret
  exact ⟨rfl, hl.trans l2⟩
 ·have t1 := fun v w' (h : HasM w' v M) => replayOneAs hP v w' h hf
  have hx0 := hx
  obtain ⟨qR, qP, qT, qH, rfl, _, _, _, _⟩ := hx
  have hb0 := Box.new w (cells9 M.c qR qP qT qH) 29
  have hl := Le.alloc w (.cells (cells9 M.c qR qP qT qH) 29)
  go_enter Tryz.func4, Tryz.ntmps4
  go_upto_region 1 with fail
  generalize hW : w.alloc (.cells (cells9 M.c qR qP qT qH) 29) = W at hl hb0 ⊢
  clear hW hP h1
  go_wp2_with fail
  refine (lawAwake18 _).mono ?_
  rintro e w0 ⟨rfl, l0⟩
  replace hb0 := hb0.le l0
  replace hl := hl.trans l0
  clear l0
  obtain ⟨⟨y0, y1, y2, y3, y4⟩, y5, y6, y7, y8⟩ := (hb0).mach
  go_wp2_with fail
  refine (t1 _ _ (hx0.le hl)).mono ?_
  rintro e w1 ⟨aR, aP, aT, aH, rfl, oA, l1⟩
  clear y0 y1 y2 y3 y4 y5 y6 y7 y8
  replace hb0 := hb0.le l1
  replace hl := hl.trans l1
  clear l1 t1
  have hbA := Box.new w1 (cells9 M.c aR aP aT aH) 29
  have a1 := Le.alloc w1 (.cells (cells9 M.c aR aP aT aH) 29)
  go_upto_region 4 with fail
  generalize hW1 : w1.alloc (.cells (cells9 M.c aR aP aT aH) 29) = W1 at hbA a1 ⊢
  clear hW1
  have hggA : w1.heap.size ≤ w1.heap.size := Nat.le_refl _
  generalize hgg : w1.heap.size = gA at hbA hggA ⊢
  have hsgA : w1.heap.size ≤ gA := by omega
  clear hgg hggA
  replace hl := hl.trans a1
  replace oA := oA.le a1
  replace hb0 := hb0.le a1
  clear a1
  go_wp2_with fail
  refine (lawNum _ _).mono ?_
  rintro e _ ⟨rfl, rfl⟩
  have s1 := lawSameMachine _ _ M M W1 oA.has (hx0.le hl) hf
  simp only [decide_true] at s1
  obtain ⟨⟨y0, y1, y2, y3, y4⟩, y5, y6, y7, y8⟩ := (hbA).mach
  obtain ⟨⟨z0, z1, z2, z3, z4⟩, z5, z6, z7, z8⟩ := (hb0).mach
  go_wp2_with fail
  refine s1.mono ?_
  rintro e w2 ⟨rfl, l2⟩
  go_wp2_with fail
  go_ret
  exact ⟨rfl, hl.trans l2⟩
 ·obtain ⟨hmay, ⟨ra, rb⟩, ⟨g0, g1⟩, _⟩ := thereB_cases h1
  obtain ⟨hrs, hps, hts, _⟩ := mayM_lens hmay
  have fN : FitM N := by have := fitM_one hf (r : Int) (g : Int); rw [hP] at this; exact this
  have hpi : r < M.ps.length := by omega
  have hgi : g < M.rs.length := by omega
  have hg00 : ¬ (g : Int) < 0 := by omega
  have hr00 : ¬ (r : Int) < 0 := by omega
  have hpi' : (r : Int) < (M.ps.length : Int) := by omega
  have hgi' : (g : Int) < (M.rs.length : Int) := by omega
  obtain ⟨_, hcl, hcur, _, _⟩ := repB_cases (Mc.rp_may hmay hpi)
  obtain ⟨hRm, _, _, _⟩ := ringB_cases (Mc.rg_may hmay hgi)
  obtain ⟨rh0, rht, rt1, _⟩ := mayR_nums hRm
  have hfR := mayR_fit hRm
  have hfS := (hf.rp r).1
  have hgc : g < (M.rp r).cs.length := by omega
  obtain ⟨x, hxx⟩ : ∃ x, x = (M.rp r).cs.getD g 0 := ⟨_, rfl⟩
  have hcx : (M.rp r).cur g = x := by rw [Rp.cur, Int.toNat_natCast, hxx]
  obtain ⟨cu0, cu1⟩ := cursOK_at hcur hgc
  rw [← Mc.rg_nat, ← hxx] at cu0 cu1
  obtain ⟨xb0, xb1⟩ : 0 ≤ x ∧ x ≤ 1048576 := by omega
  clear cu0 cu1 rh0 rht rt1 hcur
  rw [hcx] at he hNM
  have t1 := fun v w' (h : HasM w' v M) => replayOneAs hP v w' h hf
  have t2 := fun v w' (h : HasM w' v M) => lawCopyMachine v M w' h hf
  have t3 := fun v w' (h : HasM w' v N) => lawCopyMachine v N w' h fN
  have hx0 : Hid (HasM w v M) := hx
  obtain ⟨bR, oR, cR, bP, oP, cP, bT, oT, cT, qH, rfl, hcR, hcP, _, _⟩ := hx.opens hmay
  obtain ⟨⟨s0, s1, s2⟩, hatR, hss⟩ := hcR g hgi
  obtain ⟨vs, qc, ql, hatp, hvs, hcq, _⟩ := hcP r hpi
  rw [← Mc.rp_nat] at hvs hcq
  rw [← Mc.rg_nat] at hatR hss
  obtain ⟨bL, offL, nL, cL, rfl, hgn, xL⟩ := hcq.at hgc
  rw [← hxx] at xL
  obtain ⟨R, hR⟩ : ∃ R, R = M.rg g := ⟨_, rfl⟩
  rw [← hR] at he hatR hss hfR
  clear hR hRm hcx hcq hcR hcP h1 hP ra rb g0 g1
  obtain ⟨rh, rt, rf, rss⟩ := R
  try simp only at hfR
  have HXX : Hid (x = (M.rp r).cs.getD g 0) := hxx
  clear hxx
  have m3 := fun w' (l : Le w w') => refEntryAs he hfR (s0, s1, s2) w' (hss.le l)
  have m4 := fun w' (l : Le w w') => refObjAs hob vs w' (fun j hj => (hvs j hj).le l) hfS
  have HNM : Hid _ := hNM
  have HTI : Hid (th < M.ts.length ∧ N.ts.length = M.ts.length ∧ g < (M.rp r).cs.length) := ⟨hti, hNt, hgc⟩
  clear hvs hss he hob hNM hti hNt hgc hcl hrs hps hts
  have hb := Box.new w (cells9 M.c (some ⟨bR, oR, none⟩, M.rs.length, cR) (some ⟨bP, oP, none⟩, M.ps.length, cP) (some ⟨bT, oT, none⟩, M.ts.length, cT) qH) 29
  have hl := Le.alloc w (.cells (cells9 M.c (some ⟨bR, oR, none⟩, M.rs.length, cR) (some ⟨bP, oP, none⟩, M.ps.length, cP) (some ⟨bT, oT, none⟩, M.ts.length, cT) qH) 29)
  go_enter Tryz.func4, Tryz.ntmps4
  go_upto_region 1 with fail
  generalize hW : w.alloc (.cells (cells9 M.c (some ⟨bR, oR, none⟩, M.rs.length, cR) (some ⟨bP, oP, none⟩, M.ps.length, cP) (some ⟨bT, oT, none⟩, M.ts.length, cT) qH) 29) = W at hl hb ⊢
  clear hW
  go_wp2_with fail
  refine (lawAwake18 _).mono ?_
  rintro e w0 ⟨rfl, l0⟩
  replace hb := hb.le l0
  replace hl := hl.trans l0
  clear l0
  obtain ⟨⟨z0, z1, z2, z3, z4⟩, z5, z6, z7, z8⟩ := (hb).mach
  go_wp2_with fail
  refine (t1 _ _ (hx0.out.le hl)).mono ?_
  rintro e w1 ⟨aR, aP, aT, aH, rfl, oA, l1⟩
  clear z0 z1 z2 z3 z4 z5 z6 z7 z8
  replace hb := hb.le l1
  replace hl := hl.trans l1
  clear l1 t1
  have hA := oA.has
  clear oA
  have hpn := hA.lens.2.1
  rw [hNp] at hpn
  obtain ⟨pa, pn, pc⟩ := aP
  simp only at hpn
  subst hpn
  have hbA := Box.new w1 (cells9 N.c aR (pa, M.ps.length, pc) aT aH) 29
  have a1 := Le.alloc w1 (.cells (cells9 N.c aR (pa, M.ps.length, pc) aT aH) 29)
  go_upto_region 4 with fail
  generalize hW1 : w1.alloc (.cells (cells9 N.c aR (pa, M.ps.length, pc) aT aH) 29) = W1 at hbA a1 ⊢
  clear hW1
  have hgA : w1.heap.size ≤ w1.heap.size := Nat.le_refl _
  generalize hgg : w1.heap.size = gA at hbA hgA ⊢
  replace hgA : w1.heap.size ≤ gA := by omega
  clear hgg
  replace hl := hl.trans a1
  replace hb := hb.le a1
  replace hA := hA.le a1
  clear a1
  go_wp2_with fail
  refine (lawNum _ _).mono ?_
  rintro e _ ⟨rfl, rfl⟩
  obtain ⟨p0, p1, p2, p3⟩ := hatR.le hl
  have q4 := (hatp.le hl).2.2.2.2.1
  have xL' := cell_le xL hl
  obtain ⟨⟨y0, y1, y2, y3, y4⟩, y5, y6, y7, y8⟩ := (hbA).mach
  obtain ⟨⟨z0, z1, z2, z3, z4⟩, z5, z6, z7, z8⟩ := (hb).mach
  simp only [slV] at y6 z5 z6 z7 p3 q4
  go_upto_region 8 with fail
  clear y0 y1 y2 y3 y4 y5 y6 y7 y8
  replace hl := hl
  have nbbR : ¬ W1.heap.size = bR := by have h : bR < W1.heap.size := World.block_lt_of_cell? W1 _ p0; omega
  have nbbP : ¬ W1.heap.size = bP := by have h : bP < W1.heap.size := World.block_lt_of_cell? W1 _ q4; omega
  have nbbL : ¬ W1.heap.size = bL := by have h : bL < W1.heap.size := World.block_lt_of_cell? W1 _ xL'; omega
  have nbw : ¬ W1.heap.size = w.heap.size := by have := hb.lt; omega
  obtain ⟨nW, hnW⟩ : ∃ n, n = W1.heap.size := ⟨_, rfl⟩
  have HNW : Hid (nW = W1.heap.size) := hnW
  clear hnW
  apply merge1 (α := Nat) (Φ := fun gs w' => Box w' gs #[.int .i64 c, .int .i64 rr, .int .i64 a, .int .i64 th, .int .i64 b] 50 ∧ Le W1 w' ∧ nW ≤ gs)
  case h1 =>
    intro Q0 hQ0
    have HQ0 : Hid _ := hQ0
    clear hQ0
    go_region_held3 (fun w' => w'.cell? ⟨w.heap.size, 5, none⟩ = some (.slice (some ⟨bR, oR, none⟩) M.rs.length cR) ∧ w'.cell? ⟨w.heap.size, 6, none⟩ = some (.slice (some ⟨bP, oP, none⟩) M.ps.length cP) ∧ w'.cell? ⟨bR, oR + g * 4, none⟩ = some (.int .i64 rh) ∧ w'.cell? ⟨bR, oR + g * 4 + 1, none⟩ = some (.int .i64 rt) ∧ w'.cell? ⟨bR, oR + g * 4 + 2, none⟩ = some (.int .i64 rf) ∧ w'.cell? ⟨bR, oR + g * 4 + 3, none⟩ = some (.slice s0 s1 s2) ∧ w'.cell? ⟨bP, oP + r * 6 + 4, none⟩ = some (.slice (some ⟨bL, offL, none⟩) nL cL) ∧ w'.cell? ⟨bL, offL + g, none⟩ = some (.int .i64 x)) (go_keep) (first
      | (go_at_call 15; refine (m3 _ (hl.trans (Le.drew W1))).mono ?_; rintro e w8 ⟨rfl, l5⟩; have l6 := (Le.drew W1).trans l5; have l7 := hl.trans l6; obtain ⟨p0', p1', p2', p3'⟩ := hatR.le l7; have q4' := (hatp.le l7).2.2.2.2.1; have xL'' := cell_le xL l7; have hb' := hb.le l6; obtain ⟨_, z5', z6', _, _⟩ := hb'.mach; simp only [slV] at z5' z6' p3' q4')
      | (go_at_call 15; refine (m3 _ (hl.trans ((Le.alloc W1 (.cells #[.int .i64 0, .int .i64 0, .int .i64 0, .int .i64 0, .int .i64 0] 50)).trans (Le.drew _)))).mono ?_; rintro e w8 ⟨rfl, l5⟩; have l6 := ((Le.alloc W1 (.cells #[.int .i64 0, .int .i64 0, .int .i64 0, .int .i64 0, .int .i64 0] 50)).trans (Le.drew _)).trans l5; have l7 := hl.trans l6; obtain ⟨p0', p1', p2', p3'⟩ := hatR.le l7; have q4' := (hatp.le l7).2.2.2.2.1; have xL'' := cell_le xL l7; have hb' := hb.le l6; obtain ⟨_, z5', z6', _, _⟩ := hb'.mach; simp only [slV] at z5' z6' p3' q4'; have hbz : Box w8 W1.heap.size #[.int .i64 0, .int .i64 0, .int .i64 0, .int .i64 0, .int .i64 0] 50 := ((Box.new W1 #[.int .i64 0, .int .i64 0, .int .i64 0, .int .i64 0, .int .i64 0] 50).le (Le.drew _)).le l5; obtain ⟨hz0, hz1, hz2, hz3, hz4, fz0, fz1, fz2, fz3, fz4⟩ := slotCF hbz))
    all_goals first
      | (have bs : Box (((((w8.setCell ⟨W1.heap.size, 0, none⟩ (.int .i64 c)).setCell ⟨W1.heap.size, 1, none⟩ (.int .i64 rr)).setCell ⟨W1.heap.size, 2, none⟩ (.int .i64 a)).setCell ⟨W1.heap.size, 3, none⟩ (.int .i64 th)).setCell ⟨W1.heap.size, 4, none⟩ (.int .i64 b)) W1.heap.size #[.int .i64 c, .int .i64 rr, .int .i64 a, .int .i64 th, .int .i64 b] 50 := (((((hbz.set 0 (.int .i64 c)).set 1 (.int .i64 rr)).set 2 (.int .i64 a)).set 3 (.int .i64 th)).set 4 (.int .i64 b))
         have hgs := Nat.le_refl W1.heap.size
         replace l6 : Le W1 (((((w8.setCell ⟨W1.heap.size, 0, none⟩ (.int .i64 c)).setCell ⟨W1.heap.size, 1, none⟩ (.int .i64 rr)).setCell ⟨W1.heap.size, 2, none⟩ (.int .i64 a)).setCell ⟨W1.heap.size, 3, none⟩ (.int .i64 th)).setCell ⟨W1.heap.size, 4, none⟩ (.int .i64 b)) := (((((l6.set (i := 0) (u := (.int .i64 c)) (Nat.le_refl _)).set (i := 1) (u := (.int .i64 rr)) (Nat.le_refl _)).set (i := 2) (u := (.int .i64 a)) (Nat.le_refl _)).set (i := 3) (u := (.int .i64 th)) (Nat.le_refl _)).set (i := 4) (u := (.int .i64 b)) (Nat.le_refl _))
         clear l5 hbz hz0 hz1 hz2 hz3 hz4 fz0 fz1 fz2 fz3 fz4
         clear p0' p1' p2' p3' q4' xL'' hb' z5' z6' l7
         generalize hWn : (((((w8.setCell ⟨W1.heap.size, 0, none⟩ (.int .i64 c)).setCell ⟨W1.heap.size, 1, none⟩ (.int .i64 rr)).setCell ⟨W1.heap.size, 2, none⟩ (.int .i64 a)).setCell ⟨W1.heap.size, 3, none⟩ (.int .i64 th)).setCell ⟨W1.heap.size, 4, none⟩ (.int .i64 b)) = W2 at bs l6  ⊢
         clear hWn
         generalize hgg : W1.heap.size = gs at bs ⊢
         replace hgs : W1.heap.size ≤ gs := by omega
         clear hgg
         with_reducible refine HQ0.out gs _ ?_; exact ⟨bs, l6, by rw [HNW.out]; exact hgs⟩)
      | (have hA := Le.alloc w8 (.cells #[.int .i64 c, .int .i64 rr, .int .i64 a, .int .i64 th, .int .i64 b] 50)
         have bs := Box.new w8 #[.int .i64 c, .int .i64 rr, .int .i64 a, .int .i64 th, .int .i64 b] 50
         have hgs : W1.heap.size ≤ w8.heap.size := l6.size
         replace l6 := l6.trans hA
         clear hA l5
         clear p0' p1' p2' p3' q4' xL'' hb' z5' z6' l7
         generalize hWn : w8.alloc (.cells #[.int .i64 c, .int .i64 rr, .int .i64 a, .int .i64 th, .int .i64 b] 50) = W2 at bs l6  ⊢
         clear hWn
         generalize w8.heap.size = gs at bs hgs ⊢
         with_reducible refine HQ0.out gs _ ?_; exact ⟨bs, l6, by rw [HNW.out]; exact hgs⟩)
  case h2 =>
    rintro gs W2 ⟨bs, l6, hgs⟩
    rw [HNW.out] at hgs
    clear HNW nW
    clear p0 p1 p2 p3 q4 xL' m3
    clear z0 z1 z2 z3 z4 z5 z6 z7 z8
    replace hl := hl.trans l6
    replace hb := hb.le l6
    replace hbA := hbA.le l6
    replace hA := hA.le l6
    clear l6
    obtain ⟨c0, c1, c2, c3, _⟩ := bs.slot
    obtain ⟨p0, p1, p2, p3, p4, p5⟩ := hatp.le hl
    obtain ⟨⟨z0, z1, z2, z3, z4⟩, z5, z6, z7, z8⟩ := (hb).mach
    simp only [slV] at z6
    go_upto_region 9 with fail
    have nbbP : ¬ W2.heap.size = bP := by have h : bP < W2.heap.size := World.block_lt_of_cell? W2 _ p0; omega
    have nbgs : ¬ W2.heap.size = gs := by have h : gs < W2.heap.size := World.block_lt_of_cell? W2 _ c0; omega
    have nbw : ¬ W2.heap.size = w.heap.size := by have := hb.lt; omega
    go_region_held3 (fun w' => w'.cell? ⟨w.heap.size, 0, none⟩ = some (.int .i64 M.c.o) ∧ w'.cell? ⟨w.heap.size, 6, none⟩ = some (.slice (some ⟨bP, oP, none⟩) M.ps.length cP) ∧ w'.cell? ⟨bP, oP + r * 6, none⟩ = some (slV (vs 0)) ∧ w'.cell? ⟨bP, oP + r * 6 + 1, none⟩ = some (slV (vs 1)) ∧ w'.cell? ⟨bP, oP + r * 6 + 2, none⟩ = some (slV (vs 2)) ∧ w'.cell? ⟨bP, oP + r * 6 + 3, none⟩ = some (slV (vs 3)) ∧ w'.cell? ⟨gs, 0, none⟩ = some (.int .i64 c) ∧ w'.cell? ⟨gs, 1, none⟩ = some (.int .i64 rr) ∧ w'.cell? ⟨gs, 2, none⟩ = some (.int .i64 a)) (go_keep) (first
      | (go_at_call 16; refine (m4 _ (hl.trans (Le.drew W2))).mono ?_; rintro e w8 ⟨q, rfl, o5, l5⟩; have l6 := (Le.drew W2).trans l5; have l7 := hl.trans l6; obtain ⟨p0', p1', p2', p3', _, _⟩ := hatp.le l7; have hb' := hb.le l6; obtain ⟨⟨z0', _, _, _, _⟩, _, z6', _, _⟩ := hb'.mach; have bs' := bs.le l6; obtain ⟨c0', c1', c2', _, _⟩ := bs'.slot; simp only [slV] at z6')
      | (go_at_call 16; refine (m4 _ (hl.trans ((Le.alloc W2 (.cells (cells4 fun _ => slZ) 44)).trans (Le.drew _)))).mono ?_; rintro e w8 ⟨q, rfl, o5, l5⟩; have l6 := ((Le.alloc W2 (.cells (cells4 fun _ => slZ) 44)).trans (Le.drew _)).trans l5; have l7 := hl.trans l6; obtain ⟨p0', p1', p2', p3', _, _⟩ := hatp.le l7; have hb' := hb.le l6; obtain ⟨⟨z0', _, _, _, _⟩, _, z6', _, _⟩ := hb'.mach; have bs' := bs.le l6; obtain ⟨c0', c1', c2', _, _⟩ := bs'.slot; simp only [slV] at z6'; have hbz : Box w8 W2.heap.size (cells4 fun _ => slZ) 44 := ((Box.new W2 (cells4 fun _ => slZ) 44).le (Le.drew _)).le l5; obtain ⟨hz0, hz1, hz2, hz3, fz0, fz1, fz2, fz3⟩ := Box.st hbz))
    all_goals first
      | (have bt : Box ((((w8.setCell ⟨W2.heap.size, 0, none⟩ (slV (q 0))).setCell ⟨W2.heap.size, 1, none⟩ (slV (q 1))).setCell ⟨W2.heap.size, 2, none⟩ (slV (q 2))).setCell ⟨W2.heap.size, 3, none⟩ (slV (q 3))) W2.heap.size (cells4 q) 44 := ((((hbz.set 0 (slV (q 0))).set 1 (slV (q 1))).set 2 (slV (q 2))).set 3 (slV (q 3)))
         have hgt := Nat.le_refl W2.heap.size
         have oq := fun j hj => ((o5 j hj).base (base' := W2.heap.size) ((Le.alloc W2 (.cells (cells4 fun _ => slZ) 44)).trans (Le.drew _)).size).set4 hbz (by decide) (slV (q 0)) (slV (q 1)) (slV (q 2)) (slV (q 3))
         replace l6 : Le W2 ((((w8.setCell ⟨W2.heap.size, 0, none⟩ (slV (q 0))).setCell ⟨W2.heap.size, 1, none⟩ (slV (q 1))).setCell ⟨W2.heap.size, 2, none⟩ (slV (q 2))).setCell ⟨W2.heap.size, 3, none⟩ (slV (q 3))) := ((((l6.set (i := 0) (u := (slV (q 0))) (Nat.le_refl _)).set (i := 1) (u := (slV (q 1))) (Nat.le_refl _)).set (i := 2) (u := (slV (q 2))) (Nat.le_refl _)).set (i := 3) (u := (slV (q 3))) (Nat.le_refl _))
         clear l5 hbz hz0 hz1 hz2 hz3 fz0 fz1 fz2 fz3
         clear p0' p1' p2' p3' hb' bs' z0' z6' c0' c1' c2' l7 o5
         generalize hWn : ((((w8.setCell ⟨W2.heap.size, 0, none⟩ (slV (q 0))).setCell ⟨W2.heap.size, 1, none⟩ (slV (q 1))).setCell ⟨W2.heap.size, 2, none⟩ (slV (q 2))).setCell ⟨W2.heap.size, 3, none⟩ (slV (q 3))) = W3 at bt l6 oq ⊢
         clear hWn
         generalize hgg : W2.heap.size = gt at bt ⊢
         replace hgt : W2.heap.size ≤ gt := by omega
         clear hgg
         skip)
      | (have hA := Le.alloc w8 (.cells (cells4 q) 44)
         have bt := Box.new w8 (cells4 q) 44
         have hgt : W2.heap.size ≤ w8.heap.size := l6.size
         have oq := fun j hj => ((o5 j hj).base (base' := W2.heap.size) (Le.drew W2).size).le hA
         replace l6 := l6.trans hA
         clear hA l5
         clear p0' p1' p2' p3' hb' bs' z0' z6' c0' c1' c2' l7 o5
         generalize hWn : w8.alloc (.cells (cells4 q) 44) = W3 at bt l6 oq ⊢
         clear hWn
         generalize w8.heap.size = gt at bt hgt ⊢
         skip)
    all_goals
      clear p0 p1 p2 p3 p4 p5 c0 c1 c2 c3 m4
      clear z0 z1 z2 z3 z4 z5 z6 z7 z8
      have hW2 := hl.size
      replace hl := hl.trans l6
      replace hb := hb.le l6
      replace bs := bs.le l6
      replace hbA := hbA.le l6
      replace hA := hA.le l6
      have l23 := l6.size
      clear l6
      obtain ⟨⟨z0, z1, z2, z3, z4⟩, z5, z6, z7, z8⟩ := (hb).mach
      go_wp2_with fail
      refine (t2 _ _ (hx0.out.le hl)).mono ?_
      rintro e w4 ⟨L, rfl, HM, o1, ap, l4⟩
      clear z0 z1 z2 z3 z4 z5 z6 z7 z8
      clear t2
      have hbo := Box.new w4 (cells9 L.c L.qR L.qP L.qT L.qH) 29
      have a1 := Le.alloc w4 (.cells (cells9 L.c L.qR L.qP L.qT L.qH) 29)
      go_upto_region 11 with fail
      generalize hW5 : w4.alloc (.cells (cells9 L.c L.qR L.qP L.qT L.qH) 29) = W5 at hbo a1 ⊢
      clear hW5
      have I : MoI W3.heap.size w4.heap.size W5 L := ⟨hbo, l4.size, o1.le a1, ap⟩
      have hgo : W3.heap.size ≤ w4.heap.size := l4.size
      generalize w4.heap.size = go at hbo I hgo ⊢
      have l35 := l4.trans a1
      clear hbo o1 ap l4 a1
      obtain ⟨c', uR, uP, uT, uH, xR, xP, xT, xH⟩ := L
      try simp only at I ⊢
      have hiP : r < xP.length := by have := lay_ps HM; simp only at this; omega
      have hiP' : (r : Int) < (xP.length : Int) := by omega
      obtain ⟨gP, capP, hqP, hcapP, hgBP, hgltP, hgneP, hatP, hfzP⟩ := I.openP hiP
      try simp only at hqP hatP hcapP
      subst hqP
      obtain ⟨X, hX⟩ : ∃ X, X = xP.getD r repK.d := ⟨_, rfl⟩
      have HXP : Hid (X.P = M.rp r) := by have := lay_rp HM hiP; simp only at this; rw [hX]; exact this
      have hXc : ∀ e, (slV X.c).ownBlock = some e → W3.heap.size ≤ e := fun e he => by rw [hX] at he; exact ((I.own.iP _ (getD_mem (d := repK.d) hiP)).2.1.block he).1
      have I2 := I.setSb l23 rfl hiP q s' (fun j hj => (oq j hj).le l35) (fun j hj e he => ((oq j hj).block he).2)
      rw [← hX] at I2
      replace I2 : MoI W2.heap.size go ((((W5.setCell ⟨gP, r * 6, none⟩ (slV (q 0))).setCell ⟨gP, r * 6 + 1, none⟩ (slV (q 1))).setCell ⟨gP, r * 6 + 2, none⟩ (slV (q 2))).setCell ⟨gP, r * 6 + 3, none⟩ (slV (q 3))) ⟨c', uR, (some ⟨gP, 0, none⟩, xP.length, capP), uT, uH, xR, xP.set r ⟨{ X.P with s := s' }, q, X.c, X.l⟩, xT, xH⟩ := I2
      obtain ⟨k0, k1, k2, k3, _, _⟩ := hatP
      have f0 := hfzP (r * 6)
      have f1 := hfzP (r * 6 + 1)
      have f2 := hfzP (r * 6 + 2)
      have f3 := hfzP (r * 6 + 3)
      obtain ⟨b0, b1, b2, b3, _, _, _, _⟩ := (bt.le l35).st
      have l36 := l35.seto4 (o := r * 6) hgBP (slV (q 0)) (slV (q 1)) (slV (q 2)) (slV (q 3))
      obtain ⟨⟨y0, y1, y2, y3, y4⟩, y5, y6, y7, y8⟩ := (I.bo).mach
      simp only [slV] at y6
      clear hX hfzP oq
      go_upto_region 12 with fail
      generalize hW : (((W5.setCell ⟨gP, r * 6, none⟩ (slV (q 0))).setCell ⟨gP, r * 6 + 1, none⟩ (slV (q 1))).setCell ⟨gP, r * 6 + 2, none⟩ (slV (q 2))).setCell ⟨gP, r * 6 + 3, none⟩ (slV (q 3)) = W6 at I2 l36 ⊢
      clear hW I k0 k1 k2 k3 f0 f1 f2 f3 b0 b1 b2 b3 l35
      clear y0 y1 y2 y3 y4 y5 y6 y7 y8
      have hiP2 : r < (xP.set r ⟨{ X.P with s := s' }, q, X.c, X.l⟩).length := by rw [List.length_set]; exact hiP
      have e2 : (xP.set r ⟨{ X.P with s := s' }, q, X.c, X.l⟩).getD r repK.d = ⟨{ X.P with s := s' }, q, X.c, X.l⟩ := getD_same _ _ _ _ hiP
      have hgc3 : g < X.P.cs.length := by rw [HXP.out]; exact HTI.out.2.2
      obtain ⟨gl, cl, hql, _, _, hgll, xl, fl⟩ := I2.openC (i := r) (k := g) hiP2 (by simp only [e2]; exact hgc3)
      simp only [e2] at hql xl
      have hgl3 : W3.heap.size ≤ gl := hXc gl (by rw [hql]; rfl)
      rw [HXP.out, ← HXX.out] at xl
      have I3 := I2.setCu (i := r) (k := g) (v := x + 1) hiP2 (by simp only [e2]; exact hql) hgc3
      simp only [e2, List.set_set] at I3
      have k4 := (I2.repIn rfl hiP2).2.2.2.1.2.2.2.2.1
      simp only [e2] at k4
      rw [hql] at k4
      obtain ⟨nl, hnl⟩ : ∃ n, n = X.P.cs.length := ⟨_, rfl⟩
      rw [← hnl] at k4 hgc3
      have hgl4 : (g : Int) < (nl : Int) := by omega
      have l37 := l36.set (g := gl) (i := g) (u := .int .i64 (x + 1)) hgl3
      clear e2 hiP2 hnl hql hgc3 hXc
      obtain ⟨⟨y0, y1, y2, y3, y4⟩, y5, y6, y7, y8⟩ := (I2.bo).mach
      simp only [slV] at y6 k4
      go_upto_region 13 with fail
      generalize hW : W6.setCell ⟨gl, g, none⟩ (.int .i64 (x + 1)) = W7 at I3 l37 ⊢
      clear hW I2 l36 k4 xl fl
      clear y0 y1 y2 y3 y4 y5 y6 y7 y8
      have HM2 := lay_setP HM r ⟨{ X.P with s := s', cs := X.P.cs.set g (x + 1) }, q, X.c, X.l⟩
      have HE : Hid (({ (M.rp r).setCur g (x + 1) with s := s' } : Rp) = { X.P with s := s', cs := X.P.cs.set g (x + 1) }) := by show _ = _; rw [HXP.out, Rp.setCur, Int.toNat_natCast]
      have hbA7 := hbA.le l37
      obtain ⟨⟨y0, y1, y2, y3, y4⟩, y5, y6, y7, y8⟩ := (hbA7).mach
      go_wp2_with fail
      refine (t3 _ _ (hA.le l37)).mono ?_
      rintro e w8 ⟨L2, rfl, HMc, o2, ap2, l8⟩
      clear y0 y1 y2 y3 y4 y5 y6 y7 y8
      clear t3 hbA7
      have hbo := Box.new w8 (cells9 L2.c L2.qR L2.qP L2.qT L2.qH) 29
      have a1 := Le.alloc w8 (.cells (cells9 L2.c L2.qR L2.qP L2.qT L2.qH) 29)
      go_upto_region 14 with fail
      generalize hW8 : w8.alloc (.cells (cells9 L2.c L2.qR L2.qP L2.qT L2.qH) 29) = W8 at hbo a1 ⊢
      clear hW8
      have J : MoI W7.heap.size w8.heap.size W8 L2 := ⟨hbo, l8.size, o2.le a1, ap2⟩
      have hgc : W7.heap.size ≤ w8.heap.size := l8.size
      generalize w8.heap.size = gc at hbo J hgc ⊢
      have l78 := l8.trans a1
      have l38 := l37.trans l78
      clear hbo o2 ap2 l8 a1
      obtain ⟨d', vR, vP, vT, vH, zR, zP, zT, zH⟩ := L2
      try simp only at J ⊢
      have hiT : th < xT.length := by have := lay_ts HM; simp only at this; rw [this]; exact HTI.out.1
      have hiT' : (th : Int) < (xT.length : Int) := by omega
      obtain ⟨gT, capT, hqT, hcapT, hgBT, hgltT, hgneT, hatT, _⟩ := I3.openT hiT
      try simp only at hqT hatT hcapT
      subst hqT
      have hat7 := hatT
      have I37 := I3
      replace hatT := hatT.le l78
      have hgo7 := I3.bo.lt
      replace I3 := I3.le l78
      have hiZ : th < zT.length := by have := lay_ts HMc; simp only at this; rw [this, HTI.out.2.1]; exact HTI.out.1
      have hiZ' : (th : Int) < (zT.length : Int) := by omega
      obtain ⟨gZ, capZ, hqZ, hcapZ, hgBZ, hgltZ, hgneZ, hatZ, hfzZ⟩ := J.openT hiZ
      try simp only at hqZ hatZ hcapZ
      subst hqZ
      have hth0 : ¬ (th : Int) < 0 := by omega
      obtain ⟨T0, hT0⟩ : ∃ T0, T0 = (xT.getD th thK.d).T := ⟨_, rfl⟩
      have HT0 : Hid (T0 = M.th th) := by have := lay_th HM hiT; simp only at this; rw [hT0]; exact this
      rw [← hT0] at hatT
      obtain ⟨_, _, _, _, _, _, _, _, _, b9, b10, _⟩ := hatT
      clear hT0
      obtain ⟨X0, hX0⟩ : ∃ x0, x0 = zT.getD th thK.d := ⟨_, rfl⟩
      have HX0 : Hid (X0.T = N.th th) := by have := lay_th HMc hiZ; simp only at this; rw [hX0]; exact this
      obtain ⟨_, _, _, _, _, _, _, _, _, c9, c10, _⟩ := hatZ
      rw [← hX0] at c9 c10
      have f9 := hfzZ (th * 12 + 9)
      have f10 := hfzZ (th * 12 + 10)
      have bs8 := bs.le l38
      obtain ⟨_, _, _, c3, _⟩ := bs8.slot
      obtain ⟨⟨y0, y1, y2, y3, y4⟩, y5, y6, y7, y8⟩ := (I3.bo).mach
      obtain ⟨⟨z0, z1, z2, z3, z4⟩, z5, z6, z7, z8⟩ := (J.bo).mach
      simp only [slV] at y7 z7
      have n1 : ¬ gZ = gc := fun e => hgneZ e.symm
      have n2 : ¬ gZ = gs := fun e => by have := bs8.lt; have h1 := (bs.le l37).lt; omega
      have n3 : ¬ gZ = go := fun e => by omega
      have n4 : ¬ gZ = gT := fun e => by omega
      have n1' : ¬ gc = gZ := fun e => n1 e.symm
      have n2' : ¬ gs = gZ := fun e => n2 e.symm
      have n3' : ¬ go = gZ := fun e => n3 e.symm
      have n4' : ¬ gT = gZ := fun e => n4 e.symm
      have J2 := (J.setTx (j := 10) (u := .int .i64 T0.an) rfl hiZ (by decide) X0 hX0.symm { X0.T with an := T0.an } rfl rfl rfl).le (Le.drew _)
      have l39 : Le W7 (W8.setCell ⟨gZ, th * 12 + 10, none⟩ (.int .i64 T0.an)).drew := (l78.set (g := gZ) (i := th * 12 + 10) (u := .int .i64 T0.an) hgBZ).trans (Le.drew _)
      clear hX0 hfzZ J
      go_upto_region 16 with fail
      go_region_held3 (fun w' => w'.cell? ⟨gc, 7, none⟩ = some (.slice (some ⟨gZ, 0, none⟩) zT.length capZ) ∧ w'.cell? ⟨gs, 3, none⟩ = some (.int .i64 th) ∧ w'.cell? ⟨go, 7, none⟩ = some (.slice (some ⟨gT, 0, none⟩) xT.length capT) ∧ w'.cell? ⟨gT, th * 12 + 10, none⟩ = some (.int .i64 T0.an)) (go_keep) (fail)
      go_upto_region 17 with fail
      clear y0 y1 y2 y3 y4 y5 y6 y7 y8 z0 z1 z2 z3 z4 z5 z6 z7 z8
      clear c9 c10 f9 f10 b9 b10 c3 bs8 I3
      generalize hW9 : (W8.setCell ⟨gZ, th * 12 + 10, none⟩ (.int .i64 T0.an)).drew = W9 at J2 l39 ⊢
      clear hW9
      have hat9 := hat7.le l39
      rw [show (xT.getD th thK.d).T = T0 by rw [HT0.out]; have := lay_th HM hiT; simp only at this; exact this] at hat9
      obtain ⟨_, _, _, _, _, _, _, _, _, b9, b10, _⟩ := hat9
      have I39 := I37.le l39
      have bs9 := (bs.le l37).le l39
      obtain ⟨_, _, _, c3, _⟩ := bs9.slot
      obtain ⟨_, _, _, ⟨_, _, _, _, _, _, _, _, _, c9, _, _⟩, hfz9⟩ := J2.thAt (i := th) rfl (by simp only [List.length_set]; exact hiZ)
      have f9 := hfz9 (th * 12 + 9)
      clear hfz9
      obtain ⟨c9v, hc9v⟩ : ∃ b, b = ((zT.set th ⟨{ X0.T with an := T0.an }, X0.b, X0.t⟩).getD th thK.d).T.re := ⟨_, rfl⟩
      simp only at c9
      rw [← hc9v] at c9
      clear hc9v
      obtain ⟨⟨y0, y1, y2, y3, y4⟩, y5, y6, y7, y8⟩ := (I39.bo).mach
      obtain ⟨⟨z0, z1, z2, z3, z4⟩, z5, z6, z7, z8⟩ := (J2.bo).mach
      simp only [slV] at y7 z7
      have J3 := (J2.setTy (j := 9) (u := .bool T0.re) rfl hiZ (by decide) { X0.T with an := T0.an, re := T0.re } rfl rfl rfl).le (Le.drew _)
      have l30 : Le W7 (W9.setCell ⟨gZ, th * 12 + 9, none⟩ (.bool T0.re)).drew := (l39.set (g := gZ) (i := th * 12 + 9) (u := .bool T0.re) hgBZ).trans (Le.drew _)
      clear J2
      go_region_held3 (fun w' => w'.cell? ⟨gc, 7, none⟩ = some (.slice (some ⟨gZ, 0, none⟩) zT.length capZ) ∧ w'.cell? ⟨gs, 3, none⟩ = some (.int .i64 th) ∧ w'.cell? ⟨go, 7, none⟩ = some (.slice (some ⟨gT, 0, none⟩) xT.length capT) ∧ w'.cell? ⟨gT, th * 12 + 9, none⟩ = some (.bool T0.re)) (go_keep) (fail)
      go_upto_region 18 with fail
      clear y0 y1 y2 y3 y4 y5 y6 y7 y8 z0 z1 z2 z3 z4 z5 z6 z7 z8
      clear c9 f9 b9 b10 c3 bs9 I39 n1 n2 n3 n4 n1' n2' n3' n4'
      generalize hWA : (W9.setCell ⟨gZ, th * 12 + 9, none⟩ (.bool T0.re)).drew = WA at J3 l30 ⊢
      clear hWA
      have hMb := (I37.le l30).has
      rw [HM2] at hMb
      have hMc := J3.has
      rw [lay_setT HMc] at hMc
      have e1 : M.putP (r : Int) { X.P with s := s', cs := X.P.cs.set g (x + 1) } = M.putP (r : Int) { (M.rp r).setCur g (x + 1) with s := s' } := by rw [HE.out]
      have e2 : N.putT (th : Int) { X0.T with an := T0.an, re := T0.re } = M.putP (r : Int) { (M.rp r).setCur g (x + 1) with s := s' } := by rw [HX0.out, HT0.out]; exact HNM.out
      simp only at hMb hMc
      rw [e1] at hMb
      rw [e2] at hMc
      clear e1 e2
      obtain ⟨B, hB⟩ : ∃ B, B = M.putP (r : Int) { (M.rp r).setCur g (x + 1) with s := s' } := ⟨_, rfl⟩
      rw [← hB] at hMb hMc
      have fB : FitM B := by
        rw [hB, ← HNM.out]
        exact fN.putT _ (fN.th _)
      clear hB
      have s9 := lawSameMachine _ _ B B WA hMb hMc fB
      simp only [decide_true] at s9
      obtain ⟨⟨y0, y1, y2, y3, y4⟩, y5, y6, y7, y8⟩ := ((I37.bo.le l30)).mach
      obtain ⟨⟨z0, z1, z2, z3, z4⟩, z5, z6, z7, z8⟩ := (J3.bo).mach
      go_wp2_with fail
      refine s9.mono ?_
      rintro e wz ⟨rfl, lz⟩
      go_wp2_with fail
      go_ret
      exact ⟨rfl, ((hl.trans l37).trans l30).trans lz⟩
end Go.Proofs.YtepplhbajmlbpaaGreat

namespace Go.Proofs.YtepplhbajmlbpaaGreat
open Go.ChangeShapes Go.WideShapes Go.ChangeAt Go.RowKit Go.Joins Go.Deep
theorem cellsOp : Tryz.prog.cellsOf 48 = 3 := by kernel_rfl
theorem cellsInt : Tryz.prog.cellsOf 3 = 1 := by kernel_rfl
theorem cellsSlot : Tryz.prog.cellsOf 50 = 5 := by kernel_rfl
set_option maxRecDepth 20000 in
theorem trod_slot {H : Type} {enc : TypeId × Value → H} {W : World} {n : Nat} {c0 c1 c2 c3 c4 : Value} {y : DataW H × List MemPlace} (h : DataW.trod enc Tryz.prog W 0 (fun _ => true) true n 50 [c0, c1, c2, c3, c4] = some y) :
   ∃ c r a t b : Int, c0 = .int .i64 c ∧ c1 = .int .i64 r ∧ c2 = .int .i64 a ∧ c3 = .int .i64 t ∧ c4 = .int .i64 b ∧ (Lit.int .i64 c).wf = true ∧ (Lit.int .i64 r).wf = true ∧ (Lit.int .i64 a).wf = true ∧ (Lit.int .i64 t).wf = true ∧ (Lit.int .i64 b).wf = true := by
 obtain ⟨y0, y1, y2, m, _, _, h0, h1, h2⟩ := trod_struct3 Tryz.underlying50 h
 simp [cellsOp, cellsInt] at h0 h1 h2
 obtain ⟨z0, z1, z2, m', _, _, g0, g1, g2⟩ := trod_struct3 Tryz.underlying48 h0
 simp [cellsInt] at g0 g1 g2
 obtain ⟨c, e0, _, wc⟩ := DataW.trod_int Tryz.underlying3 g0
 obtain ⟨r, e1, _, wr⟩ := DataW.trod_int Tryz.underlying3 g1
 obtain ⟨a, e2, _, wa⟩ := DataW.trod_int Tryz.underlying3 g2
 obtain ⟨t, e3, _, wt⟩ := DataW.trod_int Tryz.underlying3 h1
 obtain ⟨b, e4, _, wb⟩ := DataW.trod_int Tryz.underlying3 h2
 simp at e0 e1 e2 e3 e4
 exact ⟨c, r, a, t, b, e0, e1, e2, e3, e4, wc, wr, wa, wt, wb⟩
end Go.Proofs.YtepplhbajmlbpaaGreat

namespace Go.Proofs.YtepplhbajmlbpaaGreat
open Go.ChangeShapes Go.WideShapes Go.ChangeAt Go.RowKit Go.Joins Go.Deep
theorem bytesSlot : Tryz.prog.bytesOf 50 = 40 := by kernel_rfl
theorem cellsSlots : Tryz.prog.cellsOf 53 = 1 := by kernel_rfl
set_option maxRecDepth 20000 in
theorem open_slots {H : Type} {enc : TypeId × Value → H} {W : World} {n : Nat} {c : Value} {y : DataW H × List MemPlace} (h : DataW.trod enc Tryz.prog W 0 (fun _ => true) true n 53 [c] = some y)
   (hs : ∀ k ∈ y.1.weights Tryz.prog 53, k ≤ reachBytes) : ∃ ss, HasL W c ss ∧ ss.length * 40 ≤ 140737488351232 := by
 rcases open_slice Tryz.underlying53 h with ⟨hcs, _⟩ | ⟨a, len, cap, m, n', D, Pl, hcs, _, hl, hm, hmm, rfl, hx⟩
 ·simp at hcs
  subst hcs
  exact ⟨[], HasL.nil _, by decide⟩
 ·simp at hcs
  subst hcs
  simp only [if_true] at hmm
  subst hmm
  rw [cellsSlot] at hx
  have hw := hs _ (by simp [DataW.weights, Tryz.underlying53]; exact Or.inl rfl)
  rw [bytesSlot] at hw
  have each : ∀ i, i < m → ∃ s : Slt, ∀ j, j < 5 → W.cell? ((a.add (i * 5)).add j) = s.vals[j]? := by
    intro i hi
    obtain ⟨cs', h1, h2⟩ := hx i hi
    obtain ⟨_, hlen, hcell⟩ := World.cells?_some h1
    match cs', hlen with
    | [c0, c1, c2, c3, c4], _ =>
      obtain ⟨c, r, a', t, b, rfl, rfl, rfl, rfl, rfl, _⟩ := trod_slot h2
      exact ⟨⟨c, r, a', t, b⟩, fun j hj => by rw [hcell j (by omega)]; rfl⟩
  have : Inhabited Slt := ⟨Slt.zero⟩
  obtain ⟨s, hsl⟩ := choose_lt each
  refine ⟨(List.range len).map s, ?_, by rw [List.length_map, List.length_range]; simp only [reachBytes] at hw; omega⟩
  have hlen : ((List.range len).map s).length = len := by simp
  refine ⟨some a, m, by rw [hlen], by rw [hlen]; exact hl, (fun h => by cases h), fun hp => ?_⟩
  rw [hlen] at hp ⊢
  obtain ⟨b, off, spot⟩ := a
  have hc := hsl 0 (by omega) 0 (by omega)
  have hspot : spot = none := by simpa [Addr.add] using World.cell?_spot hc
  subst hspot
  refine ⟨b, off, rfl, fun i hi => SlotAt.of fun j hj => ?_⟩
  have h1 := hsl i (by omega) j hj
  rw [add_plain, add_plain] at h1
  rw [h1]
  simp [List.getD, hi]
end Go.Proofs.YtepplhbajmlbpaaGreat

namespace Go.Proofs.YtepplhbajmlbpaaGreat
open Go.ChangeShapes Go.WideShapes Go.ChangeAt Go.RowKit Go.Joins
theorem bytesInt : Tryz.prog.bytesOf 3 = 8 := by kernel_rfl
theorem cellsState : Tryz.prog.cellsOf 44 = 4 := by kernel_rfl
theorem cellsRows : Tryz.prog.cellsOf 42 = 4 := by kernel_rfl
theorem cellsInts : Tryz.prog.cellsOf 41 = 1 := by kernel_rfl
theorem has_of_ints {w : World} {a : Addr} {len cap : Nat} {zs : List Int} (hl : len ≤ cap) (hz : zs.length = cap) (hcell : ∀ i, i < zs.length → w.cell? (a.add i) = some (.int .i64 (zs.getD i 0))) : Has w (.slice (some a) len cap) (zs.take len) := by
 have hlen : (zs.take len).length = len := by rw [List.length_take]; omega
 refine ⟨some a, cap, by rw [hlen], by rw [hlen]; exact hl, (fun h => by cases h), fun hp => ?_⟩
 rw [hlen] at hp ⊢
 obtain ⟨b, off, spot⟩ := a
 have hc := hcell 0 (by omega)
 have hspot : spot = none := by simpa [Addr.add] using World.cell?_spot hc
 subst hspot
 refine ⟨b, off, rfl, fun i hi => ?_⟩
 have h1 := hcell i (by omega)
 rw [add_plain] at h1
 rw [h1]
 simp [List.getD, hi]
set_option maxRecDepth 20000 in
theorem open_nums {H : Type} {enc : TypeId × Value → H} {W : World} {n : Nat} {c : Value} {y : DataW H × List MemPlace} (h : DataW.trod enc Tryz.prog W 0 (fun _ => true) true n 41 [c] = some y)
   (hs : ∀ k ∈ y.1.weights Tryz.prog 41, k ≤ reachBytes) : ∃ xs, Has W c xs ∧ xs.length * 8 ≤ 140737488351232 := by
 rcases open_ints Tryz.underlying41 Tryz.underlying3 (by kernel_rfl) h with ⟨hcs, _⟩ | ⟨x, l, cp, zs, hcs, _, hl, hm, hz, hd, hcell, hwz⟩
 ·simp at hcs
  subst hcs
  exact ⟨[], Has.nil _, by decide⟩
 ·simp at hcs
  subst hcs
  have hd0 : y.1 = .slice (lits .i64 (zs.take l)) (lits .i64 (zs.drop l)) := congrArg Prod.fst hd
  have := hs _ (by rw [hd0]; simp [DataW.weights, Tryz.underlying41]; exact Or.inl rfl)
  rw [bytesInt] at this
  simp only [lits, List.length_map, List.length_take, List.length_drop, reachBytes] at this
  exact ⟨zs.take l, has_of_ints hl (by simpa using hz) hcell, by rw [List.length_take]; omega⟩
end Go.Proofs.YtepplhbajmlbpaaGreat

namespace Go.Proofs.YtepplhbajmlbpaaGreat
open Go.ChangeShapes Go.WideShapes Go.ChangeAt Go.RowKit Go.Joins Go.Deep
theorem cellsCfg : Tryz.prog.cellsOf 23 = 5 := by kernel_rfl
theorem cellsInt1 : Tryz.prog.cellsOf 3 = 1 := by kernel_rfl
theorem trod_struct5 {H : Type} {enc : TypeId × Value → H} {P : Program} {W : World} {base : Nat} {spare : Nat → Bool} {held : Bool} {t : TypeId} {f0 f1 f2 f3 f4 : Field} {fuel : Nat} {cs : List Value} {x : DataW H × List MemPlace} (ht : P.underlying t = some (.struct #[f0, f1, f2, f3, f4])) (h : DataW.trod enc P W base spare held fuel t cs = some x) :
   ∃ y0 y1 y2 y3 y4 n, x = (.agg [y0.1, y1.1, y2.1, y3.1, y4.1], y0.2 ++ (y1.2 ++ (y2.2 ++ (y3.2 ++ y4.2)))) ∧ cs.length = P.cellsOf t ∧ DataW.trod enc P W base spare held n f0.type ((cs.drop f0.offset).take (P.cellsOf f0.type)) = some y0 ∧
     DataW.trod enc P W base spare held n f1.type ((cs.drop f1.offset).take (P.cellsOf f1.type)) = some y1 ∧ DataW.trod enc P W base spare held n f2.type ((cs.drop f2.offset).take (P.cellsOf f2.type)) = some y2 ∧
     DataW.trod enc P W base spare held n f3.type ((cs.drop f3.offset).take (P.cellsOf f3.type)) = some y3 ∧ DataW.trod enc P W base spare held n f4.type ((cs.drop f4.offset).take (P.cellsOf f4.type)) = some y4 := by
 obtain ⟨xs, n, _, rfl, hl, hlen, hf⟩ := DataW.trod_struct ht h
 match xs, hlen with
 | [y0, y1, y2, y3, y4], _ => exact ⟨y0, y1, y2, y3, y4, n, by simp, hl, by simpa using hf 0 f0 rfl, by simpa using hf 1 f1 rfl, by simpa using hf 2 f2 rfl, by simpa using hf 3 f3 rfl, by simpa using hf 4 f4 rfl⟩
set_option maxRecDepth 20000 in
theorem trod_cfg {H : Type} {enc : TypeId × Value → H} {W : World} {n : Nat} {c0 c1 c2 c3 c4 : Value} {y : DataW H × List MemPlace} (h : DataW.trod enc Tryz.prog W 0 (fun _ => true) true n 23 [c0, c1, c2, c3, c4] = some y) :
   ∃ c r a t b : Int, c0 = .int .i64 c ∧ c1 = .int .i64 r ∧ c2 = .int .i64 a ∧ c3 = .int .i64 t ∧ c4 = .int .i64 b ∧ (Lit.int .i64 c).wf = true ∧ (Lit.int .i64 r).wf = true ∧ (Lit.int .i64 a).wf = true ∧ (Lit.int .i64 t).wf = true ∧ (Lit.int .i64 b).wf = true := by
 obtain ⟨y0, y1, y2, y3, y4, m, _, _, h0, h1, h2, h3, h4⟩ := trod_struct5 Tryz.underlying23 h
 simp [cellsInt1] at h0 h1 h2 h3 h4
 obtain ⟨c, e0, _, wc⟩ := DataW.trod_int Tryz.underlying3 h0
 obtain ⟨r, e1, _, wr⟩ := DataW.trod_int Tryz.underlying3 h1
 obtain ⟨a, e2, _, wa⟩ := DataW.trod_int Tryz.underlying3 h2
 obtain ⟨t, e3, _, wt⟩ := DataW.trod_int Tryz.underlying3 h3
 obtain ⟨b, e4, _, wb⟩ := DataW.trod_int Tryz.underlying3 h4
 simp at e0 e1 e2 e3 e4
 exact ⟨c, r, a, t, b, e0, e1, e2, e3, e4, wc, wr, wa, wt, wb⟩
end Go.Proofs.YtepplhbajmlbpaaGreat

namespace Go.Proofs.YtepplhbajmlbpaaGreat
open Go.ChangeShapes Go.WideShapes Go.ChangeAt Go.RowKit Go.Joins Go.Deep
theorem weightsAll_mem {H : Type} {P : Program} {e : TypeId} {d : DataW H} {k : Nat} (hk : k ∈ d.weights P e) : ∀ l : List (DataW H), d ∈ l → k ∈ DataW.weightsAll P e l
 | [], h => by cases h
 | x :: l, h => by
   unfold DataW.weightsAll
   rcases List.mem_cons.1 h with rfl | h
   ·exact List.mem_append.2 (.inl hk)
   ·exact List.mem_append.2 (.inr (weightsAll_mem hk l h))
theorem open_row {α : Type} (K : Kind α) {tS : TypeId} (hu : Tryz.prog.underlying tS = some (.slice K.t)) (hc : Tryz.prog.cellsOf K.t = K.k) (hb : Tryz.prog.bytesOf K.t = K.by') {H : Type} {enc : TypeId × Value → H} {W : World} (G : α → Prop)
   (hel : ∀ (n : Nat) (cs : List Value) (y : DataW H × List MemPlace), cs.length = K.k → DataW.trod enc Tryz.prog W 0 (fun _ => true) true n K.t cs = some y → (∀ k ∈ y.1.weights Tryz.prog K.t, k ≤ reachBytes) → ∃ x : α, cs = K.f x ∧ G x)
   {n : Nat} {c : Value} {y : DataW H × List MemPlace} (h : DataW.trod enc Tryz.prog W 0 (fun _ => true) true n tS [c] = some y) (hs : ∀ k ∈ y.1.weights Tryz.prog tS, k ≤ reachBytes) : ∃ xs, HasE K W c xs ∧ (∀ x ∈ xs, G x) ∧ xs.length * K.by' ≤ 140737488351232 := by
 rcases open_slice hu h with ⟨hcs, _⟩ | ⟨a, len, cap, m, n', D, Pl, hcs, _, hl, hm, hmm, rfl, hx⟩
 ·simp at hcs
  subst hcs
  exact ⟨[], HasE.nil _ _, (fun x h => by cases h), by simp⟩
 ·simp at hcs
  subst hcs
  simp only [if_true] at hmm
  subst hmm
  rw [hc] at hx
  have hw := hs _ (by simp [DataW.weights, hu]; exact Or.inl rfl)
  rw [hb] at hw
  have each : ∀ i, i < len → ∃ x : α, (∀ j, j < K.k → W.cell? ((a.add (i * K.k)).add j) = (K.f x)[j]?) ∧ G x := by
    intro i hi
    obtain ⟨cs', h1, h2⟩ := hx i (by omega)
    obtain ⟨_, hlen, hcell⟩ := World.cells?_some h1
    obtain ⟨x, rfl, hg⟩ := hel n' cs' _ hlen h2 (fun k hk => hs k (by
      simp only [DataW.weights, hu]
      refine List.mem_cons_of_mem _ (List.mem_append.2 (.inl (weightsAll_mem hk _ ?_)))
      exact List.mem_map.2 ⟨i, List.mem_range.2 hi, rfl⟩))
    exact ⟨x, fun j hj => hcell j (by omega), hg⟩
  have : Inhabited α := ⟨K.d⟩
  obtain ⟨s, hsl⟩ := choose_lt each
  have hlen : ((List.range len).map s).length = len := by simp
  refine ⟨(List.range len).map s, ?_, fun x hx => ?_, ?_⟩
  ·refine ⟨some a, m, by rw [hlen], by rw [hlen]; exact hl, (fun h => by cases h), fun hp => ?_⟩
   rw [hlen] at hp ⊢
   obtain ⟨b, off, spot⟩ := a
   have hk := K.pos
   have hc0 := (hsl 0 (by omega)).1 0 hk
   have hlt : 0 < (K.f (s 0)).length := by rw [K.len]; exact hk
   rw [List.getElem?_eq_getElem hlt] at hc0
   have hspot : spot = none := by simpa [Addr.add] using World.cell?_spot hc0
   subst hspot
   refine ⟨b, off, rfl, fun i hi j hj => ?_⟩
   have h1 := (hsl i hi).1 j hj
   rw [add_plain, add_plain] at h1
   rw [h1]
   simp [List.getD, hi]
  ·obtain ⟨i, hi, rfl⟩ := List.mem_map.1 hx
   exact (hsl i (List.mem_range.1 hi)).2
  ·rw [hlen]
   simp only [reachBytes] at hw
   have : len * K.by' ≤ (len + (m - len)) * K.by' := Nat.mul_le_mul_right _ (by omega)
   omega
theorem cellsInt2 : Tryz.prog.cellsOf 3 = 1 := by kernel_rfl
theorem cellsBool : Tryz.prog.cellsOf 4 = 1 := by kernel_rfl
theorem cellsOp2 : Tryz.prog.cellsOf 48 = 3 := by kernel_rfl
theorem open_ringE {H : Type} {enc : TypeId × Value → H} {W : World} (n : Nat) (cs : List Value) (y : DataW H × List MemPlace) (hlen : cs.length = 4) (h : DataW.trod enc Tryz.prog W 0 (fun _ => true) true n 55 cs = some y) (hs : ∀ k ∈ y.1.weights Tryz.prog 55, k ≤ reachBytes) :
   ∃ x : LR, cs = LR.cells x ∧ HasL W (slV x.q) x.R.ss ∧ FitR x.R := by
 match cs, hlen with
 | [c0, c1, c2, c3], _ =>
   obtain ⟨y0, y1, y2, y3, n, hx, _, h0, h1, h2, h3⟩ := trod_struct4 Tryz.underlying55 h
   simp [cellsInt2, cellsSlots] at h0 h1 h2 h3
   have hd : y.1 = .agg [y0.1, y1.1, y2.1, y3.1] := congrArg Prod.fst hx
   obtain ⟨x0, e0, _, w0⟩ := DataW.trod_int Tryz.underlying3 h0
   obtain ⟨x1, e1, _, w1⟩ := DataW.trod_int Tryz.underlying3 h1
   obtain ⟨x2, e2, _, w2⟩ := DataW.trod_int Tryz.underlying3 h2
   simp at e0 e1 e2
   subst e0 e1 e2
   obtain ⟨ss, a0, b0⟩ := open_slots h3 (fun k hk => hs k (by
     rw [hd]
     simp [DataW.weights, DataW.weightsEach, Tryz.underlying55]
     exact Or.inr (Or.inr (Or.inr hk))))
   obtain ⟨q, rfl⟩ := a0.sl
   exact ⟨⟨⟨x0, x1, x2, ss⟩, q⟩, rfl, a0, b0⟩
theorem open_repE {H : Type} {enc : TypeId × Value → H} {W : World} (n : Nat) (cs : List Value) (y : DataW H × List MemPlace) (hlen : cs.length = 6) (h : DataW.trod enc Tryz.prog W 0 (fun _ => true) true n 46 cs = some y) (hs : ∀ k ∈ y.1.weights Tryz.prog 46, k ≤ reachBytes) :
   ∃ x : LP, cs = LP.cells x ∧ (∀ i, i < 4 → Has W (slV (x.vs i)) (x.P.s.at i)) ∧ Has W (slV x.c) x.P.cs ∧ Has W (slV x.l) x.P.ls ∧ Fit x.P.s ∧ x.P.cs.length * 8 ≤ 140737488351232 ∧ x.P.ls.length * 8 ≤ 140737488351232 := by
 match cs, hlen with
 | [c0, c1, c2, c3, c4, c5], _ =>
   obtain ⟨ys, m, _, hx, _, hlen', hf⟩ := DataW.trod_struct Tryz.underlying46 h
   match ys, hlen' with
   | [y0, y1, y2], _ =>
     have hd : y.1 = .agg [y0.1, y1.1, y2.1] := congrArg Prod.fst hx
     have h0 := hf 0 _ rfl
     have h1 := hf 1 _ rfl
     have h2 := hf 2 _ rfl
     simp [cellsState, cellsInts] at h0 h1 h2
     have hw : ∀ k, k ∈ y0.1.weights Tryz.prog 44 ∨ k ∈ y1.1.weights Tryz.prog 41 ∨ k ∈ y2.1.weights Tryz.prog 41 → k ≤ reachBytes := fun k hk => hs k (by
       rw [hd]
       simp [DataW.weights, DataW.weightsEach, Tryz.underlying46]
       exact hk)
     obtain ⟨z, m1, hz, _, g1⟩ := trod_struct1 Tryz.underlying44 h0
     simp [cellsRows] at g1
     obtain ⟨z0, z1, z2, z3, m2, hy, t0, t1, t2, t3⟩ := trod_array4 Tryz.underlying42 cellsInts g1
     have hd0 : y0.1 = .agg [.agg [z0.1, z1.1, z2.1, z3.1]] := by
       have := congrArg Prod.fst hz
       simp only [hy] at this
       exact this
     have hw0 : ∀ k, k ∈ z0.1.weights Tryz.prog 41 ∨ k ∈ z1.1.weights Tryz.prog 41 ∨ k ∈ z2.1.weights Tryz.prog 41 ∨ k ∈ z3.1.weights Tryz.prog 41 → k ≤ reachBytes := fun k hk => hw k (.inl (by
       rw [hd0]
       simp [DataW.weights, DataW.weightsEach, DataW.weightsAll, Tryz.underlying44, Tryz.underlying42]
       exact hk))
     obtain ⟨x0, a0, b0⟩ := open_nums t0 (fun k hk => hw0 k (.inl hk))
     obtain ⟨x1, a1, b1⟩ := open_nums t1 (fun k hk => hw0 k (.inr (.inl hk)))
     obtain ⟨x2, a2, b2⟩ := open_nums t2 (fun k hk => hw0 k (.inr (.inr (.inl hk))))
     obtain ⟨x3, a3, b3⟩ := open_nums t3 (fun k hk => hw0 k (.inr (.inr (.inr hk))))
     obtain ⟨x4, a4, b4⟩ := open_nums h1 (fun k hk => hw k (.inr (.inl hk)))
     obtain ⟨x5, a5, b5⟩ := open_nums h2 (fun k hk => hw k (.inr (.inr hk)))
     obtain ⟨q0, rfl⟩ := a0.sl
     obtain ⟨q1, rfl⟩ := a1.sl
     obtain ⟨q2, rfl⟩ := a2.sl
     obtain ⟨q3, rfl⟩ := a3.sl
     obtain ⟨q4, rfl⟩ := a4.sl
     obtain ⟨q5, rfl⟩ := a5.sl
     refine ⟨⟨⟨⟨x0, x1, x2, x3⟩, x4, x5⟩, fun i => match i with | 0 => q0 | 1 => q1 | 2 => q2 | _ => q3, q4, q5⟩, rfl, fun i hi => ?_, a4, a5, fun i hi => ?_, b4, b5⟩
     ·rcases four hi with rfl | rfl | rfl | rfl
      ·exact a0
      ·exact a1
      ·exact a2
      ·exact a3
     ·rcases four hi with rfl | rfl | rfl | rfl
      ·exact b0
      ·exact b1
      ·exact b2
      ·exact b3
theorem trod_op {H : Type} {enc : TypeId × Value → H} {W : World} {n : Nat} {c0 c1 c2 : Value} {y : DataW H × List MemPlace} (h : DataW.trod enc Tryz.prog W 0 (fun _ => true) true n 48 [c0, c1, c2] = some y) : ∃ c r a : Int, c0 = .int .i64 c ∧ c1 = .int .i64 r ∧ c2 = .int .i64 a := by
 obtain ⟨ys, m, _, hx, _, hlen', hf⟩ := DataW.trod_struct Tryz.underlying48 h
 match ys, hlen' with
 | [y0, y1, y2], _ =>
   have h0 := hf 0 _ rfl
   have h1 := hf 1 _ rfl
   have h2 := hf 2 _ rfl
   simp [cellsInt2] at h0 h1 h2
   obtain ⟨x0, e0, _, _⟩ := DataW.trod_int Tryz.underlying3 h0
   obtain ⟨x1, e1, _, _⟩ := DataW.trod_int Tryz.underlying3 h1
   obtain ⟨x2, e2, _, _⟩ := DataW.trod_int Tryz.underlying3 h2
   simp at e0 e1 e2
   exact ⟨x0, x1, x2, e0, e1, e2⟩
theorem open_evE {H : Type} {enc : TypeId × Value → H} {W : World} (n : Nat) (cs : List Value) (y : DataW H × List MemPlace) (hlen : cs.length = 6) (h : DataW.trod enc Tryz.prog W 0 (fun _ => true) true n 102 cs = some y) (_hs : ∀ k ∈ y.1.weights Tryz.prog 102, k ≤ reachBytes) :
   ∃ x : Ev, cs = Ev.cells x ∧ True := by
 match cs, hlen with
 | [c0, c1, c2, c3, c4, c5], _ =>
   obtain ⟨ys, m, _, hx, _, hlen', hf⟩ := DataW.trod_struct Tryz.underlying102 h
   match ys, hlen' with
   | [y0, y1, y2, y3], _ =>
     have h0 := hf 0 _ rfl
     have h1 := hf 1 _ rfl
     have h2 := hf 2 _ rfl
     have h3 := hf 3 _ rfl
     simp [cellsInt2, cellsBool, cellsOp2] at h0 h1 h2 h3
     obtain ⟨x0, e0, _, _⟩ := DataW.trod_int Tryz.underlying3 h0
     obtain ⟨x1, e1, _⟩ := DataW.trod_bool Tryz.underlying4 h1
     obtain ⟨x2, x3, x4, e2, e3, e4⟩ := trod_op h2
     obtain ⟨x5, e5, _, _⟩ := DataW.trod_int Tryz.underlying3 h3
     simp at e0 e1 e5
     subst e0 e1 e2 e3 e4 e5
     exact ⟨⟨x0, x1, x2, x3, x4, x5⟩, rfl, trivial⟩
theorem open_thE {H : Type} {enc : TypeId × Value → H} {W : World} (n : Nat) (cs : List Value) (y : DataW H × List MemPlace) (hlen : cs.length = 12) (h : DataW.trod enc Tryz.prog W 0 (fun _ => true) true n 59 cs = some y) (hs : ∀ k ∈ y.1.weights Tryz.prog 59, k ≤ reachBytes) :
   ∃ x : LT, cs = LT.cells x ∧ Has W (slV x.b) x.T.b ∧ Has W (slV x.t) x.T.tl ∧ x.T.b.length * 8 ≤ 140737488351232 ∧ x.T.tl.length * 8 ≤ 140737488351232 := by
 match cs, hlen with
 | [c0, c1, c2, c3, c4, c5, c6, c7, c8, c9, c10, c11], _ =>
   obtain ⟨ys, m, _, hx, _, hlen', hf⟩ := DataW.trod_struct Tryz.underlying59 h
   match ys, hlen' with
   | [y0, y1, y2, y3, y4, y5, y6, y7, y8, y9], _ =>
     have hd : y.1 = .agg [y0.1, y1.1, y2.1, y3.1, y4.1, y5.1, y6.1, y7.1, y8.1, y9.1] := congrArg Prod.fst hx
     have h0 := hf 0 _ rfl
     have h1 := hf 1 _ rfl
     have h2 := hf 2 _ rfl
     have h3 := hf 3 _ rfl
     have h4 := hf 4 _ rfl
     have h5 := hf 5 _ rfl
     have h6 := hf 6 _ rfl
     have h7 := hf 7 _ rfl
     have h8 := hf 8 _ rfl
     have h9 := hf 9 _ rfl
     simp [cellsInt2, cellsBool, cellsOp2, cellsInts] at h0 h1 h2 h3 h4 h5 h6 h7 h8 h9
     have hw : ∀ k, k ∈ y4.1.weights Tryz.prog 41 ∨ k ∈ y9.1.weights Tryz.prog 41 → k ≤ reachBytes := fun k hk => hs k (by
       rw [hd]
       simp only [DataW.weights, DataW.weightsEach, Tryz.underlying59, List.map_cons, List.map_nil, List.mem_append]
       rcases hk with hk | hk
       ·exact .inr (.inr (.inr (.inr (.inl hk))))
       ·exact .inr (.inr (.inr (.inr (.inr (.inr (.inr (.inr (.inr (.inl hk))))))))))
     obtain ⟨x0, e0, _, _⟩ := DataW.trod_int Tryz.underlying3 h0
     obtain ⟨x1, x2, x3, e1, e2, e3⟩ := trod_op h1
     obtain ⟨x4, e4, _, _⟩ := DataW.trod_int Tryz.underlying3 h2
     obtain ⟨x5, e5, _, _⟩ := DataW.trod_int Tryz.underlying3 h3
     obtain ⟨x6, a6, b6⟩ := open_nums h4 (fun k hk => hw k (.inl hk))
     obtain ⟨x7, e7, _, _⟩ := DataW.trod_int Tryz.underlying3 h5
     obtain ⟨x8, e8, _⟩ := DataW.trod_bool Tryz.underlying4 h6
     obtain ⟨x9, e9, _⟩ := DataW.trod_bool Tryz.underlying4 h7
     obtain ⟨x10, e10, _, _⟩ := DataW.trod_int Tryz.underlying3 h8
     obtain ⟨x11, a11, b11⟩ := open_nums h9 (fun k hk => hw k (.inr hk))
     simp at e0 e4 e5 e7 e8 e9 e10
     subst e0 e1 e2 e3 e4 e5 e7 e8 e9 e10
     obtain ⟨q6, rfl⟩ := a6.sl
     obtain ⟨q11, rfl⟩ := a11.sl
     exact ⟨⟨⟨x0, x1, x2, x3, x4, x5, x6, x7, x8, x9, x10, x11⟩, q6, q11⟩, rfl, a6, a11, b6, b11⟩
theorem cellsMach : Tryz.prog.cellsOf 29 = 9 := by kernel_rfl
theorem cellsS1 : Tryz.prog.cellsOf 24 = 1 := by kernel_rfl
theorem cellsS2 : Tryz.prog.cellsOf 25 = 1 := by kernel_rfl
theorem cellsS3 : Tryz.prog.cellsOf 26 = 1 := by kernel_rfl
theorem cellsS4 : Tryz.prog.cellsOf 27 = 1 := by kernel_rfl
theorem array9 {α : Type} {cs : Array α} (h : cs.size = 9) : ∃ c0 c1 c2 c3 c4 c5 c6 c7 c8, cs = #[c0, c1, c2, c3, c4, c5, c6, c7, c8] := by
 obtain ⟨l⟩ := cs
 match l, h with
 | [c0, c1, c2, c3, c4, c5, c6, c7, c8], _ => exact ⟨c0, c1, c2, c3, c4, c5, c6, c7, c8, rfl⟩
set_option maxRecDepth 20000 in
theorem open_mach {H : Type} {enc : TypeId × Value → H} {W : World} {base : Nat} {v : Value} {d : DataW H} {p : List MemPlace} (hv : Value.okWide Tryz.prog W .any base 29 v)
   (h : DataW.Trod enc Tryz.prog W 0 (fun _ => true) true 29 v d p) (hs : ∀ k ∈ d.weights Tryz.prog 29, k ≤ reachBytes) : ∃ M, HasM W v M ∧ FitM M := by
 obtain ⟨cs, rfl, hsz⟩ := okWide_struct Tryz.underlying29 hv
 obtain ⟨c0, c1, c2, c3, c4, c5, c6, c7, c8, rfl⟩ := array9 (hsz.trans cellsMach)
 obtain ⟨fuel, hf⟩ := h
 obtain ⟨y0, y1, y2, y3, y4, n, hx, _, h0, h1, h2, h3, h4⟩ := trod_struct5 Tryz.underlying29 hf
 simp [Value.cells, cellsCfg, cellsS1, cellsS2, cellsS3, cellsS4] at h0 h1 h2 h3 h4
 have hd : d = .agg [y0.1, y1.1, y2.1, y3.1, y4.1] := congrArg Prod.fst hx
 have hw : ∀ k, k ∈ y1.1.weights Tryz.prog 24 ∨ k ∈ y2.1.weights Tryz.prog 25 ∨ k ∈ y3.1.weights Tryz.prog 26 ∨ k ∈ y4.1.weights Tryz.prog 27 → k ≤ reachBytes := fun k hk => hs k (by
   rw [hd]
   simp [DataW.weights, DataW.weightsEach, Tryz.underlying29]
   exact Or.inr hk)
 obtain ⟨o, r, l, t, s, rfl, rfl, rfl, rfl, rfl, _⟩ := trod_cfg h0
 obtain ⟨rs, hR, gR, fR⟩ := open_row ringK (tS := 24) Tryz.underlying24 (by kernel_rfl) (by kernel_rfl) (fun x => HasL W (slV x.q) x.R.ss ∧ FitR x.R) (fun n cs y hl h hs => open_ringE n cs y hl h hs) h1 (fun k hk => hw k (.inl hk))
 obtain ⟨ps, hP, gP, fP⟩ := open_row repK (tS := 25) Tryz.underlying25 (by kernel_rfl) (by kernel_rfl) (fun x => (∀ i, i < 4 → Has W (slV (x.vs i)) (x.P.s.at i)) ∧ Has W (slV x.c) x.P.cs ∧ Has W (slV x.l) x.P.ls ∧ Fit x.P.s ∧ x.P.cs.length * 8 ≤ 140737488351232 ∧ x.P.ls.length * 8 ≤ 140737488351232) (fun n cs y hl h hs => open_repE n cs y hl h hs) h2 (fun k hk => hw k (.inr (.inl hk)))
 obtain ⟨ts, hT, gT, fT⟩ := open_row thK (tS := 26) Tryz.underlying26 (by kernel_rfl) (by kernel_rfl) (fun x => Has W (slV x.b) x.T.b ∧ Has W (slV x.t) x.T.tl ∧ x.T.b.length * 8 ≤ 140737488351232 ∧ x.T.tl.length * 8 ≤ 140737488351232) (fun n cs y hl h hs => open_thE n cs y hl h hs) h3 (fun k hk => hw k (.inr (.inr (.inl hk))))
 obtain ⟨es, hE, _, fE⟩ := open_row evK (tS := 27) Tryz.underlying27 (by kernel_rfl) (by kernel_rfl) (fun _ => True) (fun n cs y hl h hs => open_evE n cs y hl h hs) h4 (fun k hk => hw k (.inr (.inr (.inr hk))))
 obtain ⟨qR, rfl⟩ := hR.sl
 obtain ⟨qP, rfl⟩ := hP.sl
 obtain ⟨qT, rfl⟩ := hT.sl
 obtain ⟨qH, rfl⟩ := hE.sl
 refine ⟨⟨⟨o, r, l, t, s⟩, rs.map LR.R, ps.map LP.P, ts.map LT.T, es⟩, ⟨qR, qP, qT, qH, rfl, ⟨rs, rfl, hR, fun x hx => (gR x hx).1⟩, ⟨ps, rfl, hP, fun x hx => ⟨(gP x hx).1, (gP x hx).2.1, (gP x hx).2.2.1⟩⟩, ⟨ts, rfl, hT, fun x hx => ⟨(gT x hx).1, (gT x hx).2.1⟩⟩, hE⟩, ⟨by rw [List.length_map]; exact fR, by rw [List.length_map]; exact fP, by rw [List.length_map]; exact fT, fE, fun R hR' => ?_, fun P hP' => ?_, fun T hT' => ?_⟩⟩
 ·obtain ⟨x, hx, rfl⟩ := List.mem_map.1 hR'
  exact (gR x hx).2
 ·obtain ⟨x, hx, rfl⟩ := List.mem_map.1 hP'
  exact (gP x hx).2.2.2
 ·obtain ⟨x, hx, rfl⟩ := List.mem_map.1 hT'
  exact (gT x hx).2.2
end Go.Proofs.YtepplhbajmlbpaaGreat
