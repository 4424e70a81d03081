/-
  PARTS LAID TOGETHER, each with its own opening: MsU, BtF, Mrg, MtJ, MtK, MtL, MtM, MtN, MtO, MtP, BtG, Bits, BtE.
-/
import Derived.Test.YtnemldboiogdkaaGreatCom5
import Derived.Test.YtnemldboiogdkaaGreatCom3
import Derived.Test.YtnemldboiogdkaaGreatCom1
import Derived.Test.YtnemldboiogdkaaGreatCom2
import Derived.Deep.RegionHeld3
import Derived.Laws.BitsLemmas
/-
  PLAIN GROUND, NO WALK: what of a machine may be turned so that it may be still. No condition.
-/
namespace Go.Proofs.YtnemldboiogdkaaGreat
open Go.RowKit

structure MayP (M : Mc) : Prop where
  ok : M.c.ok = true
  lr : (M.rs.length : Int) = M.c.l
  rs : ∀ R ∈ M.rs, ringB M.c R = true
  lp : (M.ps.length : Int) = M.c.r
  ps : ∀ P ∈ M.ps, repB M.c M.rs P = true
  lt : (M.ts.length : Int) = M.c.t
  ts : ∀ T ∈ M.ts, thB M.c T = true
  le : (M.es.length : Int) ≤ 64
  es : ∀ E ∈ M.es, evB M.c E = true
theorem mayM_iff {M : Mc} : mayM M = true ↔ MayP M := by
  constructor
  · intro h
    obtain ⟨a, b, c, d⟩ := mayM_lens h
    exact ⟨mayM_ok h, a, mayM_rs h, b, mayM_ps h, c, mayM_ts h, d, mayM_es h⟩
  · intro h
    unfold mayM
    simp only [Bool.and_eq_true, decide_eq_true_eq, List.all_eq_true]
    exact ⟨h.ok, ⟨h.lr, h.rs⟩, ⟨h.lp, h.ps⟩, ⟨h.lt, h.ts⟩, h.le, h.es⟩
theorem thB_yes {c : Cfg} {T : Th} (h1 : 0 ≤ T.st ∧ T.st ≤ 19) (h2 : opMay T.c T.r T.a = true) (h3 : 0 ≤ T.lg ∧ T.lg ≤ c.l - 1) (h4 : 0 ≤ T.sn ∧ T.sn ≤ 1048576) (h5 : (T.b.length : Int) ≤ c.t) (h6 : ∀ x ∈ T.b, 0 ≤ x ∧ x ≤ c.t - 1) (h7 : 0 ≤ T.pl ∧ T.pl ≤ T.b.length) (h8 : (T.tl.length : Int) ≤ c.l) (h9 : ∀ x ∈ T.tl, 0 ≤ x ∧ x ≤ 1048576) : thB c T = true := by
  unfold thB
  simp only [Bool.and_eq_true, decide_eq_true_eq, List.all_eq_true]
  exact ⟨inB_yes h1.1 h1.2, h2, inB_yes h3.1 h3.2, inB_yes h4.1 h4.2, ⟨h5, fun x hx => inB_yes (h6 x hx).1 (h6 x hx).2⟩, inB_yes h7.1 h7.2, h8, fun x hx => inB_yes (h9 x hx).1 (h9 x hx).2⟩
theorem mayM_putT {M : Mc} (h : mayM M = true) {t : Int} {x : Th} (hx : thB M.c x = true) : mayM (M.putT t x) = true := by
  obtain ⟨a, b, c, d, e, f, g, i, j⟩ := mayM_iff.1 h
  refine mayM_iff.2 ⟨a, b, c, d, e, by simpa [Mc.putT] using f, fun T hT => ?_, i, j⟩
  rcases List.mem_or_eq_of_mem_set hT with hT | rfl
  · exact g T hT
  · exact hx
/-- A thread that is idle may be. -/
theorem thB_zero {c : Cfg} (h : c.ok = true) : thB c Th.zero = true := by
  obtain ⟨_, _, ⟨l0, _⟩, ⟨t0, _⟩, _, _⟩ := Cfg.ok_cases h
  exact thB_yes (by decide) (by decide) (by simp [Th.zero]; omega) (by decide) (by simp [Th.zero]; omega) (by simp [Th.zero]) (by simp [Th.zero]) (by simp [Th.zero]; omega) (by simp [Th.zero])
theorem th_may {M : Mc} (h : mayM M = true) (t : Int) : thB M.c (M.th t) = true := by
  unfold Mc.th
  rcases Nat.lt_or_ge t.toNat M.ts.length with ht | ht
  · exact mayM_ts h _ (getD_mem ht)
  · rw [getD_out ht]; exact thB_zero (mayM_ok h)
theorem mayM_step {M : Mc} (h : mayM M = true) (t : Int) {st : Int} (hs : 0 ≤ st ∧ st ≤ 19) : mayM (stepM M t st) = true := by
  obtain ⟨_, b, c, d, e, f, g, i, j⟩ := thB_cases (th_may h t)
  exact mayM_putT h (thB_yes hs b c d e f g i j)
end Go.Proofs.YtnemldboiogdkaaGreat

/-
  PLAIN GROUND, NO WALK: what is collected at other steps, by threads that are none, of machines that may not be, and when nobody waits. No condition.
-/
namespace Go.Proofs.YtnemldboiogdkaaGreat
open Go.RowKit

theorem held17L (w : World) : Calls Tryz.prog 16 #[] w fun e w' => ∃ L : Lay, e = .returned L.v ∧ L.M = hldM ∧ OwnsM w' w.heap.size L ∧ ApartM L ∧ Le w w' := by
  refine (held17 w).mono ?_
  rintro e w' ⟨qR, qP, qT, qH, rfl, ⟨L, hv, hm, ho, ha⟩, l⟩
  exact ⟨L, by rw [hv], hm, ho, ha, l⟩
theorem step_th (M : Mc) (t st : Int) (h : t.toNat < M.ts.length) : ((stepM M t st).th t).st = st := by
  unfold stepM Mc.putT Mc.th
  simp [List.getD, h]
theorem collect_step {q : Int} (h : q ≠ 3) : collectM (stepM hldM 0 q) 0 = (Mc.zero, 1700) := by
  have e := step_th hldM 0 q (by decide +kernel)
  unfold collectM
  rw [e, decide_eq_false h]
  simp
theorem collect_three : collectM (stepM hldM 0 3) 0 = (btM, 0) := by decide +kernel
theorem collect_no {M : Mc} {t : Int} (h : t < 0 ∨ M.c.t ≤ t) : collectM M t = (Mc.zero, 1700) := by
  have e : thereB M 0 0 t = false := by
    unfold thereB
    rw [inB_off (a := 0) (x := t) (b := M.c.t - 1) (by rcases h with h | h; exact .inl h; exact .inr (by omega))]
    simp
  unfold collectM
  rw [e]
  rfl
theorem fit_step {M : Mc} (h : FitM M) (t st : Int) : FitM (stepM M t st) := h.putT t (h.th t)
/-- .. told of one replica alone. -/
def bdM : Mc := { hldM with c := ⟨2, 1, 2, 4, 8⟩ }
theorem bd_fit : FitM bdM := ⟨hld_fit.rs, hld_fit.ps, hld_fit.ts, hld_fit.es, hld_fit.r, hld_fit.p, hld_fit.t⟩
theorem bd_col : collectM bdM 0 = (Mc.zero, 1700) := by decide +kernel
/-- .. its thread 0 waits no more. -/
def beM : Mc := hldM.putT 0 { hldM.th 0 with po := false }
theorem be_fit : FitM beM := fitB_fit (by decide +kernel)
def bcM : Mc := (collectM beM 0).1
theorem be_col : collectM beM 0 = (bcM, 0) := by decide +kernel
theorem bc_fit : FitM bcM := fitB_fit (by decide +kernel)
theorem bc_may : mayM bcM = true := by decide +kernel
theorem bc_c : bcM.c = begC := by decide +kernel
theorem bc_no {q : Int} (h : 0 ≤ q ∧ q < 4) : collectM bcM q = (Mc.zero, 1700) := by
  rcases (by omega : q = 0 ∨ q = 1 ∨ q = 2 ∨ q = 3) with rfl | rfl | rfl | rfl <;> decide +kernel
theorem bc_open {w : World} {v : Value} (h : HasM w v bcM) : ∃ qR qP bT oT cT qH ab cb, v = machV begC qR qP (some ⟨bT, oT, none⟩, 4, cT) qH ∧ w.cell? ⟨bT, oT, none⟩ = some (.int .i64 9) ∧ w.cell? ⟨bT, oT + 6, none⟩ = some (.slice ab 0 cb) := by
  obtain ⟨bR, oR, cR, bP, oP, cP, bT, oT, cT, qH, rfl, _, _, hcT, _⟩ := h.opens bc_may
  obtain ⟨qb, qt, ⟨x0, _, _, _, _, _, x6, _, x8, _⟩, hb, _⟩ := hcT 0 (by decide +kernel)
  have h5 : (bcM.ts.getD 0 Th.zero).st = 9 := by decide +kernel
  have h6 : (bcM.ts.getD 0 Th.zero).b = [] := by decide +kernel
  rw [h5] at x0
  rw [h6] at hb
  rw [Nat.zero_mul, Nat.add_zero] at x0 x6
  have h3 : bcM.ts.length = 4 := by decide +kernel
  obtain ⟨a, cap, hv, _, _, _⟩ := hb
  rw [hv] at x6
  rw [h3, bc_c]
  exact ⟨_, _, bT, oT, cT, qH, a, cap, rfl, x0, x6⟩

end Go.Proofs.YtnemldboiogdkaaGreat

/-
  PLAIN GROUND, NO WALK: a statement that leaves its order open and ends in several ways that are alike: one way onward. No condition.
-/
namespace Go.Proofs.YtnemldboiogdkaaGreat
open Go.RowKit

end Go.Proofs.YtnemldboiogdkaaGreat

/-
  THE WALK over the document's One: an entry is replayed. Condition: that the machine's rows can be copied.
-/
namespace Go.Proofs.YtnemldboiogdkaaGreat
open Go.RowKit

end Go.Proofs.YtnemldboiogdkaaGreat

/-
  THE WALKS over the document's replaying (One, or nothing), done and finished (a thread has its answer). Condition: that the machine's rows can be copied.
-/
namespace Go.Proofs.YtnemldboiogdkaaGreat
open Go.RowKit

end Go.Proofs.YtnemldboiogdkaaGreat

/-
  THE WALK over the document's room: a step that makes room in a log. Condition: that the machine's rows can be copied, that it may be.
-/
namespace Go.Proofs.YtnemldboiogdkaaGreat
open Go.RowKit

end Go.Proofs.YtnemldboiogdkaaGreat

/-
  THE WALKS over the document's Claim where it makes room, waits for a fence, or begins anew. Condition: that the machine's rows can be copied.
-/
namespace Go.Proofs.YtnemldboiogdkaaGreat
open Go.RowKit

end Go.Proofs.YtnemldboiogdkaaGreat

/-
  THE WALK over the document's Claim at StepPublish. Condition: that the machine's rows can be copied.
-/
namespace Go.Proofs.YtnemldboiogdkaaGreat
open Go.RowKit

end Go.Proofs.YtnemldboiogdkaaGreat

/-
  THE LAW of the document's Claim, for every machine and thread: its walks laid together. Condition: that the machine's rows can be copied.
-/
namespace Go.Proofs.YtnemldboiogdkaaGreat
open Go.RowKit

end Go.Proofs.YtnemldboiogdkaaGreat

/-
  THE WALKS over the document's Update: replaying up to the batch's end, giving the lock back, an answer that is there, what may not be; and for every machine. Condition: that the machine's rows can be copied.
-/
namespace Go.Proofs.YtnemldboiogdkaaGreat
open Go.RowKit

theorem FitM.step {M : Mc} (h : FitM M) (t st : Int) : FitM (stepM M t st) := h.putT t (h.th t)
theorem freeM_ts {M : Mc} {r g : Int} (h : thereB M r g 0 = true) : (freeM M r g).1.ts.length = M.ts.length := by
  unfold freeM
  rw [if_pos h]
  rfl
theorem freeM_er {M : Mc} {r g : Int} (h : thereB M r g 0 = true) : (freeM M r g).2 = 0 := by
  unfold freeM
  rw [if_pos h]
theorem there_step {M : Mc} {t : Int} {st : Int} (h1 : thereB M 0 0 t = true) (hs : 0 ≤ st ∧ st ≤ 19) : thereB (stepM M t st) (M.home t) (M.th t).lg 0 = true := by
  obtain ⟨a, b, c, d⟩ := thereB_cases (home_there h1)
  exact thereB_yes (mayM_step a t hs) b c (by have : (stepM M t st).c = M.c := rfl; rw [this]; omega)

set_option maxRecDepth 8000 in
set_option maxHeartbeats 8000000 in
theorem rmUpd9 (v : Value) (M : Mc) (t : Int) (w : World) (hx : HasM w v M) (hf : FitM M) (h1 : thereB M 0 0 t = true) (h2 : opUp (M.th t).c (M.th t).r (M.th t).a = true) (h3 : (M.th t).st = 9) : Calls Tryz.prog 40 #[v, .int .i64 t] w fun e w' => ∃ v', e = .returned (.tuple #[v', .int .i64 0]) ∧ OwnA w' w.heap.size v' ((loosed M t).putT t { (loosed M t).th t with b := [], pl := 0 }) ∧ Le w w' := by
  have hth := there_step (st := 10) h1 (by decide)
  have hNl := freeM_ts hth
  have hNe := freeM_er hth
  obtain ⟨N, hN⟩ : ∃ N, N = loosed M t := ⟨_, rfl⟩
  rw [← hN]
  have HNN : Hid (N = (freeM (stepM M t 10) (M.home t) (M.th t).lg).1) := hN
  have HNE : Hid ((freeM (stepM M t 10) (M.home t) (M.th t).lg).2 = 0) := hNe
  have hNl2 : N.ts.length = M.ts.length := by
    have : (stepM M t 10).ts.length = M.ts.length := by simp [stepM, Mc.putT]
    rw [hN]
    unfold loosed
    rw [hNl, this]
  clear hN hNl hNe hth
  have m1 := fun w' (l : Le w w') => rmThere v M 0 0 t w' (hx.le l) hf
  obtain ⟨hmay, _, _, ⟨t0, t1⟩⟩ := thereB_cases h1
  obtain ⟨hrs, hps, hts, _⟩ := mayM_lens hmay
  obtain ⟨_, ⟨r2, r3⟩, ⟨_, l3⟩, ⟨t2, t3⟩, _, _⟩ := Cfg.ok_cases (mayM_ok hmay)
  obtain ⟨t, rfl⟩ : ∃ n : Nat, t = n := ⟨t.toNat, by omega⟩
  have hti : t < M.ts.length := by omega
  have hti' : (t : Int) < (M.ts.length : Int) := by omega
  have hxw := hx
  obtain ⟨_, _, ⟨g0, g1⟩, _, _, _, _, _, _⟩ := thB_cases (Mc.th_may hmay hti)
  obtain ⟨g, hg⟩ : ∃ n : Nat, (M.th t).lg = n := ⟨(M.th t).lg.toNat, by omega⟩
  obtain ⟨r, hr0⟩ : ∃ n : Nat, M.home t = n := ⟨(M.home t).toNat, by have := Int.emod_nonneg (t : Int) (show M.c.r ≠ 0 by omega); unfold Mc.home; omega⟩
  have hrr : (r : Int) < M.c.r := by have := Int.emod_lt_of_pos (t : Int) (show 0 < M.c.r by omega); unfold Mc.home at hr0; omega
  have htm : (t : Int).tmod M.c.r = (r : Int) := by rw [← hr0]; exact Int.tmod_eq_emod_of_nonneg (by omega)
  have htm2 : (t : Int) % M.c.r = (r : Int) := hr0
  have hne0 : ¬ M.c.r = 0 := by omega
  obtain ⟨bR, oR, cR, bP, oP, cP, bT, oT, cT, qH, rfl, hcR, hcP, hcT, _⟩ := hx.opens hmay
  obtain ⟨⟨b0, b1, b2⟩, qt, hat, hbb, _⟩ := hcT t hti
  have hb1 := has_len hbb
  rw [← Mc.th_nat] at hat hb1
  simp only [h1] at m1
  obtain ⟨T, hT⟩ : ∃ T, T = M.th t := ⟨_, rfl⟩
  have HT : Hid (T = M.th t) := hT
  have HG : Hid ((M.th t).lg = g) := hg
  have HH : Hid (M.home t = r) := hr0
  have HMAY : Hid (mayM M = true) := hmay
  rw [← hT] at h2 h3 hg hat hb1
  clear hT hr0
  obtain ⟨tst, tc, tr, ta, tlg, tsn, tb, tpl, tpo, tre, tan, ttl⟩ := T
  simp only at h2 h3 hg hb1
  subst h3 hg
  have HB1 : Hid (b1 = tb.length) := hb1
  clear h1 hb1 hmay hrs hps hts hbb hcT hcR hx
  have hr := Box.new (w.alloc (.cells (cells9 M.c (some ⟨bR, oR, none⟩, M.rs.length, cR) (some ⟨bP, oP, none⟩, M.ps.length, cP) (some ⟨bT, oT, none⟩, M.ts.length, cT) qH) 29)) cellsZ9 29
  have hb := (Box.new w (cells9 M.c (some ⟨bR, oR, none⟩, M.rs.length, cR) (some ⟨bP, oP, none⟩, M.ps.length, cP) (some ⟨bT, oT, none⟩, M.ts.length, cT) qH) 29).le (Le.alloc _ (.cells cellsZ9 29))
  have hl := (Le.alloc w (.cells (cells9 M.c (some ⟨bR, oR, none⟩, M.rs.length, cR) (some ⟨bP, oP, none⟩, M.ps.length, cP) (some ⟨bT, oT, none⟩, M.ts.length, cT) qH) 29)).trans (Le.alloc _ (.cells cellsZ9 29))
  rw [World.size_alloc] at hr
  go_enter Tryz.func40, Tryz.ntmps40
  go_upto_region 1 with fail
  generalize hW : (w.alloc (.cells (cells9 M.c (some ⟨bR, oR, none⟩, M.rs.length, cR) (some ⟨bP, oP, none⟩, M.ps.length, cP) (some ⟨bT, oT, none⟩, M.ts.length, cT) qH) 29)).alloc (.cells cellsZ9 29) = W at hl hb hr ⊢
  clear hW
  have hgr := hr.lt
  obtain ⟨⟨z0, z1, z2, z3, z4⟩, z5, z6, z7, z8⟩ := (hb).mach
  go_wp2_with fail
  refine (m1 _ hl).mono ?_
  rintro e w1 ⟨rfl, l1⟩
  clear z0 z1 z2 z3 z4 z5 z6 z7 z8
  clear m1
  replace hb := hb.le l1
  replace hl := hl.trans l1
  have hgr := Nat.lt_of_lt_of_le hgr l1.size
  replace hr := hr.le l1
  clear l1
  obtain ⟨x0, x1, x2, x3, x4, x5, x6, x7, x8, x9, x10, x11⟩ := hat.le hl
  obtain ⟨⟨z0, z1, z2, z3, z4⟩, z5, z6, z7, z8⟩ := (hb).mach
  simp only [slV] at z7
  go_wp2_with fail
  refine (refUpdates _ _ _ _).mono ?_
  rw [h2]
  rintro e w2 ⟨rfl, l1⟩
  clear x0 x1 x2 x3 x4 x5 x6 x7 x8 x9 x10 x11 h2
  clear z0 z1 z2 z3 z4 z5 z6 z7 z8
  replace hb := hb.le l1
  replace hl := hl.trans l1
  have hgr := Nat.lt_of_lt_of_le hgr l1.size
  replace hr := hr.le l1
  clear l1
  obtain ⟨x0, x1, x2, x3, x4, x5, x6, x7, x8, x9, x10, x11⟩ := hat.le hl
  obtain ⟨⟨z0, z1, z2, z3, z4⟩, z5, z6, z7, z8⟩ := (hb).mach
  simp only [slV] at z7
  have bx := Box.new w2 (cellsT ⟨9, tc, tr, ta, (g : Int), tsn, tb, tpl, tpo, tre, tan, ttl⟩ (b0, b1, b2) qt) 45
  have a1 := Le.alloc w2 (.cells (cellsT ⟨9, tc, tr, ta, (g : Int), tsn, tb, tpl, tpo, tre, tan, ttl⟩ (b0, b1, b2) qt) 45)
  go_upto_region 4 with fail
  generalize hW1 : w2.alloc (.cells (cellsT ⟨9, tc, tr, ta, (g : Int), tsn, tb, tpl, tpo, tre, tan, ttl⟩ (b0, b1, b2) qt) 45) = W2 at bx a1 ⊢
  clear hW1
  have hgbx : w2.heap.size ≤ w2.heap.size := Nat.le_refl _
  generalize hgg : w2.heap.size = gbx at bx hgbx ⊢
  have hsbx : w2.heap.size ≤ gbx := by omega
  clear hgg hgbx
  have hgr := Nat.lt_of_lt_of_le hgr a1.size
  replace hl := hl.trans a1
  replace hb := hb.le a1
  replace hr := hr.le a1
  clear a1 x0 x1 x2 x3 x4 x5 x6 x7 x8 x9 x10 x11
  clear z0 z1 z2 z3 z4 z5 z6 z7 z8
  obtain ⟨x0, x1, x2, x3, x4, x5, x6, x7, x8, x9, x10, x11⟩ := bx.th
  obtain ⟨⟨z0, z1, z2, z3, z4⟩, z5, z6, z7, z8⟩ := (hb).mach
  go_quiet (fail)
  clear x0 x1 x2 x3 x4 x5 x6 x7 x8 x9 x10 x11
  clear z0 z1 z2 z3 z4 z5 z6 z7 z8
  have l1 := Le.drewN W2 nq
  generalize W2.drewN nq = W3 at l1 ⊢
  replace hb := hb.le l1
  replace hl := hl.trans l1
  have hgr := Nat.lt_of_lt_of_le hgr l1.size
  replace hr := hr.le l1
  replace bx := bx.le l1
  clear l1
  obtain ⟨x0, x1, x2, x3, x4, x5, x6, x7, x8, x9, x10, x11⟩ := bx.th
  have m2 := fun w' (l : Le w w') => rmStepped _ M t 10 w' (hxw.le l) hf hti
  obtain ⟨⟨z0, z1, z2, z3, z4⟩, z5, z6, z7, z8⟩ := (hb).mach
  clear hat bx
  go_wp2_with fail
  refine (m2 _ hl).mono ?_
  rintro e w5 ⟨v5, rfl, o5, l5⟩
  clear z0 z1 z2 z3 z4 z5 z6 z7 z8
  clear m2 x0 x1 x2 x3 x4 x5 x6 x7 x8 x9 x10 x11
  replace hb := hb.le l5
  have hgr := Nat.lt_of_lt_of_le hgr l5.size
  replace hr := hr.le l5
  replace hl := hl.trans l5
  have m3 := rmFree v5 (stepM M t 10) r g w5 o5.has (hf.step t 10)
  have hF1 : (freeM (stepM M t 10) r g).1 = N := by rw [HNN.out, HH.out, HG.out]
  have hF2 : (freeM (stepM M t 10) r g).2 = 0 := by have := HNE.out; rw [HH.out, HG.out] at this; exact this
  rw [hF1, hF2] at m3
  clear hF1 hF2 o5 l5
  obtain ⟨⟨z0, z1, z2, z3, z4⟩, z5, z6, z7, z8⟩ := (hb).mach
  go_wp2_with fail
  refine (m3).mono ?_
  rintro e w9 ⟨_, rfl, ⟨L, rfl, HM, o1, ap⟩, l1⟩
  clear z0 z1 z2 z3 z4 z5 z6 z7 z8
  clear m3
  have hbo := Box.new w9 (cells9 L.c L.qR L.qP L.qT L.qH) 29
  have a1 := Le.alloc w9 (.cells (cells9 L.c L.qR L.qP L.qT L.qH) 29)
  go_upto_region 30 with fail
  generalize hW1 : w9.alloc (.cells (cells9 L.c L.qR L.qP L.qT L.qH) 29) = W6 at hbo a1 ⊢
  clear hW1
  have I : MoI w5.heap.size w9.heap.size W6 L := ⟨hbo, l1.size, o1.le a1, ap⟩
  have hgo : w5.heap.size ≤ w9.heap.size := l1.size
  generalize w9.heap.size = go at hbo I hgo ⊢
  have l01 := l1.trans a1
  clear hbo o1 ap l1 a1
  obtain ⟨c', uR, uP, uT, uH, xR, xP, xT, xH⟩ := L
  try simp only at I ⊢
  replace hr := hr.le l01
  replace hb := hb.le l01
  have hlB : w.heap.size ≤ w5.heap.size := hl.size
  have hiT : t < xT.length := by have := lay_ts HM; rw [hNl2] at this; simp only at this; omega
  have hiT' : (t : Int) < (xT.length : Int) := by omega
  obtain ⟨gT, capT, hqT, hcapT, hgBT, hgltT, hgneT, hatT, hfzT⟩ := I.openT hiT
  try simp only at hqT hatT hcapT
  subst hqT
  obtain ⟨⟨y0, y1, y2, y3, y4⟩, y5, y6, y7, y8⟩ := (I.bo).mach
  simp only [slV] at y7
  obtain ⟨_, _, _, _, _, _, x6, x7, _, _, _, _⟩ := hatT
  have f6 := hfzT (t * 12 + 6)
  have f7 := hfzT (t * 12 + 7)
  clear hfzT
  obtain ⟨x0, hx0⟩ : ∃ x0, x0 = xT.getD t thK.d := ⟨_, rfl⟩
  have HX0 : Hid (x0 = xT.getD t thK.d) := hx0
  have oT := I.own.iT _ (getD_mem (d := thK.d) hiT)
  simp only at oT
  rw [← hx0] at oT x6 x7
  have I2 := I.setT (i := t) (j := 6) (u := .slice none 0 0) rfl hiT (by decide) ⟨{ x0.T with b := [] }, slZ, x0.t⟩ (by simp only [hx0]; rfl) (Own.nil _ _) oT.2 (I.ap.setTn I.own.bel hiT (.inr (.inl rfl)) (.inl (by simp only [hx0])) (.inl rfl))
  have I3 := I2.setTs (i := t) (j := 7) (u := .int .i64 0) rfl (by simpa using hiT) (by decide) { x0.T with b := [], pl := 0 } (by simp only [getD_set _ _ _ _ _ hiT]; rfl) (by simp only [getD_set _ _ _ _ _ hiT]; rfl) (by simp only [getD_set _ _ _ _ _ hiT]; rfl)
  have l2 := (l01.set (g := gT) (i := t * 12 + 6) (u := .slice none 0 0) hgBT).set (g := gT) (i := t * 12 + 7) (u := .int .i64 0) hgBT
  have hr2 := (hr.other (show w.heap.size + 1 ≠ gT by omega) (t * 12 + 6) (.slice none 0 0)).other (show w.heap.size + 1 ≠ gT by omega) (t * 12 + 7) (.int .i64 0)
  go_upto_region 32 with fail
  generalize hW2 : (W6.setCell ⟨gT, t * 12 + 6, none⟩ (.slice none 0 0)).setCell ⟨gT, t * 12 + 7, none⟩ (.int .i64 0) = W7 at I3 l2 hr2 ⊢
  clear y0 y1 y2 y3 y4 y5 y6 y7 y8
  clear hW2 hr hb I I2 x6 x7 f6 f7 hx0 oT
  obtain ⟨⟨y0, y1, y2, y3, y4⟩, y5, y6, y7, y8⟩ := (I3.bo).mach
  obtain ⟨⟨r0, r1, r2, r3, r4, r5, r6, r7, r8⟩, k0, k1, k2, k3, k4, k5, k6, k7, k8⟩ := hr2.res
  go_wp2_with fail
  refine bodyPost_ret (v := .tuple #[machV c' uR uP (some ⟨gT, 0, none⟩, xT.length, capT) uH, .int .i64 0]) (by simp [results, Tryz.results40, go_sem, r0, r1, r2, r3, r4, r5, r6, r7, r8]) rfl ⟨_, rfl, ?_, (hl.trans l2).put9 (g := w.heap.size + 1) (by omega) c' uR uP (some ⟨gT, 0, none⟩, xT.length, capT) uH⟩
  have := (I3.ret hr2).base hlB
  simp only [List.set_set, getD_set _ _ _ _ _ hiT, if_true] at this
  rw [lay_setT HM] at this
  simp only [HX0.out, lay_th HM hiT] at this
  exact this

end Go.Proofs.YtnemldboiogdkaaGreat

/-
  THE WALK over the document's Pick of a thread that frees its lock, in the machine where nobody waited. No condition.
-/
namespace Go.Proofs.YtnemldboiogdkaaGreat
open Go.RowKit

def bpM : Mc := (loosed bcM 0).putT 0 { (loosed bcM 0).th 0 with b := [], pl := 0 }
theorem bp_may : mayM bpM = true := by decide +kernel
theorem bp_c : bpM.c = begC := by decide +kernel
theorem pickBc (v : Value) (w : World) (hx : HasM w v bcM) : Calls Tryz.prog 17 #[v, .int .i64 0] w fun e w' => ∃ qR qP qT qH, e = .returned (.tuple #[machV begC qR qP qT qH, .int .i64 0]) ∧ HasM w' (machV begC qR qP qT qH) bpM ∧ Le w w' := by
  refine (rmPickU v bcM 0 w hx bc_fit bc_may (by decide) (by decide +kernel) (by decide +kernel) (by decide +kernel) bpM (fun w' l => rmUpd9 v bcM 0 w' (hx.le l) bc_fit (by decide +kernel) (by decide +kernel) (by decide +kernel))).mono ?_
  rintro e w' ⟨v', rfl, o, l⟩
  obtain ⟨qR, qP, qT, qH, rfl⟩ := o.open
  rw [bp_c] at o ⊢
  exact ⟨_, _, _, _, rfl, o.has, l⟩
theorem bp_open {w : World} {v : Value} (h : HasM w v bpM) : ∃ qR bP oP cP bT oT cT qH gL oL cL, v = machV begC qR (some ⟨bP, oP, none⟩, 2, cP) (some ⟨bT, oT, none⟩, 4, cT) qH ∧ w.cell? ⟨bT, oT, none⟩ = some (.int .i64 10) ∧ w.cell? ⟨bP, oP + 5, none⟩ = some (.slice (some ⟨gL, oL, none⟩) 2 cL) ∧ w.cell? ⟨gL, oL, none⟩ = some (.int .i64 0) := by
  obtain ⟨bR, oR, cR, bP, oP, cP, bT, oT, cT, qH, rfl, _, hcP, hcT, _⟩ := h.opens bp_may
  obtain ⟨qb, qt, ⟨x0, _⟩, _, _⟩ := hcT 0 (by decide +kernel)
  obtain ⟨vs, c, l, ⟨_, _, _, _, _, p5⟩, _, _, hl⟩ := hcP 0 (by decide +kernel)
  have h5 : (bpM.ts.getD 0 Th.zero).st = 10 := by decide +kernel
  have h6 : (bpM.ps.getD 0 Rp.zero).ls = [0, 0] := by decide +kernel
  rw [h5, Nat.zero_mul, Nat.add_zero] at x0
  rw [h6] at hl
  rw [Nat.zero_mul, Nat.add_zero] at p5
  have h3 : bpM.ts.length = 4 := by decide +kernel
  have h4 : bpM.ps.length = 2 := by decide +kernel
  obtain ⟨a, cap, hv, _, _, hc⟩ := hl
  obtain ⟨gL, oL, rfl, hcc⟩ := hc (by decide)
  have e0 := hcc 0 (by decide)
  rw [hv] at p5
  rw [h3, h4, bp_c]
  exact ⟨_, bP, oP, cP, bT, oT, cT, qH, gL, oL, cap, rfl, x0, p5, e0⟩

end Go.Proofs.YtnemldboiogdkaaGreat

/-
  PLAIN GROUND, NO WALK: an int and a mask, for every int. No condition.
-/
namespace Go.Proofs.YtnemldboiogdkaaGreat

theorem and3 (n : Int) : bits .and .i64 n 3 = n % 4 := by
  have h : (BitVec.ofInt 64 3).toNat = 2 ^ 2 - 1 := by decide
  have key : (BitVec.ofInt 64 n &&& BitVec.ofInt 64 3).toNat = (n % ((2 ^ 64 : Nat) : Int)).toNat % 2 ^ 2 := by
    rw [BitVec.toNat_and, BitVec.toNat_ofInt, h, Nat.and_two_pow_sub_one_eq_mod]
  show IntKind.i64.wrap ((BitVec.ofInt 64 n &&& BitVec.ofInt 64 3).toNat : Nat) = n % 4
  rw [key, IntKind.wrap_i64]
  omega

theorem and1023 (n : Int) : bits .and .i64 n 1023 = n % 1024 := by
  have h : (BitVec.ofInt 64 1023).toNat = 2 ^ 10 - 1 := by decide
  have key : (BitVec.ofInt 64 n &&& BitVec.ofInt 64 1023).toNat = (n % ((2 ^ 64 : Nat) : Int)).toNat % 2 ^ 10 := by
    rw [BitVec.toNat_and, BitVec.toNat_ofInt, h, Nat.and_two_pow_sub_one_eq_mod]
  show IntKind.i64.wrap ((BitVec.ofInt 64 n &&& BitVec.ofInt 64 1023).toNat : Nat) = n % 1024
  rw [key, IntKind.wrap_i64]
  omega

end Go.Proofs.YtnemldboiogdkaaGreat

/-
  THE WALK over the law BatchEmpty: it answers true, for every number, and turns nothing that was there. No condition.
-/
namespace Go.Proofs.YtnemldboiogdkaaGreat
open Go.RowKit

set_option maxRecDepth 8000 in
set_option maxHeartbeats 8000000 in
theorem lawBatchEmpty (w : World) (a0 : Int) : Calls Tryz.prog 6 #[.int .i64 a0] w fun e w' => e = .returned (.bool true) ∧ Le w w' := by
  obtain ⟨q, hq, q0, q1⟩ : ∃ q, bits .and .i64 a0 3 = q ∧ 0 ≤ q ∧ q < 4 := ⟨_, and3 a0, by omega, by omega⟩
  have t4 := fun v w' (h : HasM w' v bcM) => batchCollectAs (bc_no (q := q) ⟨q0, q1⟩) v w' h bc_fit
  have hl := Le.refl w
  go_enter Tryz.func6, Tryz.ntmps6
  go_wp2_with fail
  refine (lawAwake17 _).mono ?_
  rintro e w0 ⟨rfl, l0⟩
  replace hl := hl.trans l0
  clear l0
  go_wp2_with fail
  refine (held17L _).mono ?_
  rintro e w1 ⟨L, rfl, HM, o1, ap, l1⟩
  have hbo := Box.new w1 (cells9 L.c L.qR L.qP L.qT L.qH) 29
  have a1 := Le.alloc w1 (.cells (cells9 L.c L.qR L.qP L.qT L.qH) 29)
  go_upto_region 4 with fail
  generalize hW1 : w1.alloc (.cells (cells9 L.c L.qR L.qP L.qT L.qH) 29) = W1 at hbo a1 ⊢
  clear hW1
  have I : MoI w0.heap.size w1.heap.size W1 L := ⟨hbo, l1.size, o1.le a1, ap⟩
  have hsw := hl.size
  generalize w1.heap.size = go at hbo I ⊢
  replace hl := (hl.trans l1).trans a1
  clear hbo o1 ap l1 a1
  obtain ⟨c', uR, uP, uT, uH, xR, xP, xT, xH⟩ := L
  try simp only at I ⊢
  have hiT : 0 < xT.length := by have := lay_ts HM; simp only at this; rw [this]; decide +kernel
  have hiT' : (0 : Int) < (xT.length : Int) := by omega
  obtain ⟨gT, capT, hqT, hcapT, hgBT, hgltT, hgneT, hatT, hfzT⟩ := I.openT hiT
  try simp only at hqT hatT hcapT
  subst hqT
  obtain ⟨x0, hx0'⟩ : ∃ x0, x0 = xT.getD 0 thK.d := ⟨_, rfl⟩
  have HX0 : Hid (x0.T = hldM.th 0) := by rw [hx0']; exact lay_th HM hiT
  rw [Nat.zero_mul] at hatT
  obtain ⟨_, _, _, _, _, _, _, _, c8, _, _, _⟩ := hatT
  rw [← hx0', Nat.zero_add] at c8
  have f8 := hfzT 8
  have I2 : MoI w0.heap.size go (W1.setCell ⟨gT, 8, none⟩ (.bool false)) _ := I.setTx (j := 8) (u := .bool false) rfl hiT (by decide) x0 hx0'.symm { x0.T with po := false } rfl rfl rfl
  have l2 := hl.set (g := gT) (i := 8) (u := .bool false) (by omega)
  clear hfzT hx0'
  obtain ⟨⟨y0, y1, y2, y3, y4⟩, y5, y6, y7, y8⟩ := (I.bo).mach
  simp only [slV] at y7
  go_upto_region 5 with fail
  clear y0 y1 y2 y3 y4 y5 y6 y7 y8
  generalize hW2 : W1.setCell ⟨gT, 8, none⟩ (.bool false) = W2 at I2 l2 ⊢
  clear hW2 I hl c8 f8
  have hM2 := I2.has
  rw [lay_setT HM] at hM2
  simp only [HX0.out] at hM2
  have hM3 : HasM W2 (machV c' uR uP (some ⟨gT, 0, none⟩, xT.length, capT) uH) beM := hM2
  clear hM2
  obtain ⟨⟨y0, y1, y2, y3, y4⟩, y5, y6, y7, y8⟩ := (I2.bo).mach
  go_wp2_with fail
  refine (batchCollectAs be_col _ _ hM3 be_fit).mono ?_
  rintro e w2 ⟨aR, aP, aT, aH, rfl, oA, l3⟩
  clear y0 y1 y2 y3 y4 y5 y6 y7 y8
  clear hM3 I2 HX0 HM
  have hl := l2.trans l3
  clear l2 l3
  have hA := oA.has
  clear oA
  rw [bc_c] at hA ⊢
  obtain ⟨dR, dP, bT, oT, cT, dH, ab, cb, hv, c0, c6⟩ := bc_open hA
  rw [hv] at hA ⊢
  clear hv aR aP aT aH
  obtain ⟨dT, hdT⟩ : ∃ q : Sl, q = (some ⟨bT, oT, none⟩, 4, cT) := ⟨_, rfl⟩
  rw [← hdT] at hA ⊢
  have HDT : Hid (dT = (some ⟨bT, oT, none⟩, 4, cT)) := hdT
  clear hdT
  have hbA := Box.new w2 (cells9 begC dR dP dT dH) 29
  have a1 := Le.alloc w2 (.cells (cells9 begC dR dP dT dH) 29)
  go_upto_region 6 with fail
  generalize hW1 : w2.alloc (.cells (cells9 begC dR dP dT dH) 29) = V1 at hbA a1 ⊢
  clear hW1
  have hggA : w2.heap.size ≤ w2.heap.size := Nat.le_refl _
  generalize hgg : w2.heap.size = gA at hbA hggA ⊢
  have hsgA : w2.heap.size ≤ gA := by omega
  clear hgg hggA
  replace hl := hl.trans a1
  replace hA := hA.le a1
  replace c0 := cell_le c0 a1
  replace c6 := cell_le c6 a1
  clear a1
  obtain ⟨⟨y0, y1, y2, y3, y4⟩, y5, y6, y7, y8⟩ := (hbA).mach
  go_wp2_with fail
  refine (pickBc _ _ hA).mono ?_
  rintro e w3 ⟨eR, eP, eT, eH, rfl, hB, l3⟩
  clear y0 y1 y2 y3 y4 y5 y6 y7 y8
  replace hl := hl.trans l3
  replace hbA := hbA.le l3
  replace hA := hA.le l3
  replace c0 := cell_le c0 l3
  replace c6 := cell_le c6 l3
  clear l3
  obtain ⟨kR, gP, oP, cP, gT2, oT2, cT2, kH, gL, oL, cL, hv, p0, p5, pl⟩ := bp_open hB
  rw [hv]
  clear hv hB eR eP eT eH
  obtain ⟨kT, hkT⟩ : ∃ q : Sl, q = (some ⟨gT2, oT2, none⟩, 4, cT2) := ⟨_, rfl⟩
  obtain ⟨kP, hkP⟩ : ∃ q : Sl, q = (some ⟨gP, oP, none⟩, 2, cP) := ⟨_, rfl⟩
  rw [← hkT, ← hkP]
  have HKT : Hid (kT = (some ⟨gT2, oT2, none⟩, 4, cT2)) := hkT
  have HKP : Hid (kP = (some ⟨gP, oP, none⟩, 2, cP)) := hkP
  clear hkT hkP
  have hbB := Box.new w3 (cells9 begC kR kP kT kH) 29
  have a1 := Le.alloc w3 (.cells (cells9 begC kR kP kT kH) 29)
  go_upto_region 7 with fail
  generalize hW1 : w3.alloc (.cells (cells9 begC kR kP kT kH) 29) = V2 at hbB a1 ⊢
  clear hW1
  have hggB : w3.heap.size ≤ w3.heap.size := Nat.le_refl _
  generalize hgg : w3.heap.size = gB at hbB hggB ⊢
  have hsgB : w3.heap.size ≤ gB := by omega
  clear hgg hggB
  replace hl := hl.trans a1
  replace hbA := hbA.le a1
  replace hA := hA.le a1
  replace c0 := cell_le c0 a1
  replace c6 := cell_le c6 a1
  replace p0 := cell_le p0 a1
  replace p5 := cell_le p5 a1
  replace pl := cell_le pl a1
  clear a1
  obtain ⟨⟨y0, y1, y2, y3, y4⟩, y5, y6, y7, y8⟩ := (hbA).mach
  obtain ⟨⟨z0, z1, z2, z3, z4⟩, z5, z6, z7, z8⟩ := (hbB).mach
  have y7' := y7
  rw [HDT.out] at y7'
  rw [HKT.out] at z7
  rw [HKP.out] at z6
  simp only [slV] at y7' z7 z6
  clear y7
  go_upto_region 9 with fail
  clear y0 y1 y2 y3 y4 y5 y6 y7' y8
  obtain ⟨⟨y0, y1, y2, y3, y4⟩, y5, y6, y7, y8⟩ := (hbA).mach
  go_wp2_with fail
  refine (t4 _ _ hA).mono ?_
  rintro e w4 ⟨iR, iP, iT, iH, rfl, _, l4⟩
  clear y0 y1 y2 y3 y4 y5 y6 y7 y8
  clear z0 z1 z2 z3 z4 z5 z6 z7 z8
  replace hl := hl.trans l4
  replace hbA := hbA.le l4
  replace hbB := hbB.le l4
  replace c0 := cell_le c0 l4
  replace c6 := cell_le c6 l4
  replace p0 := cell_le p0 l4
  replace p5 := cell_le p5 l4
  replace pl := cell_le pl l4
  clear l4 hA
  have hbI := Box.new w4 (cells9 Mc.zero.c iR iP iT iH) 29
  have a1 := Le.alloc w4 (.cells (cells9 Mc.zero.c iR iP iT iH) 29)
  go_upto_region 10 with fail
  generalize hW1 : w4.alloc (.cells (cells9 Mc.zero.c iR iP iT iH) 29) = V3 at hbI a1 ⊢
  clear hW1
  have hggI : w4.heap.size ≤ w4.heap.size := Nat.le_refl _
  generalize hgg : w4.heap.size = gI at hbI hggI ⊢
  have hsgI : w4.heap.size ≤ gI := by omega
  clear hgg hggI
  replace hl := hl.trans a1
  replace hbA := hbA.le a1
  replace hbB := hbB.le a1
  replace c0 := cell_le c0 a1
  replace c6 := cell_le c6 a1
  replace p0 := cell_le p0 a1
  replace p5 := cell_le p5 a1
  replace pl := cell_le pl a1
  clear hbI a1
  obtain ⟨⟨y0, y1, y2, y3, y4⟩, y5, y6, y7, y8⟩ := (hbA).mach
  obtain ⟨⟨z0, z1, z2, z3, z4⟩, z5, z6, z7, z8⟩ := (hbB).mach
  rw [HDT.out] at y7
  rw [HKT.out] at z7
  rw [HKP.out] at z6
  simp only [slV] at y7 z7 z6
  go_wp2_with (go_at_call 11; refine (lawNum _ _).mono ?_; rintro e _ ⟨rfl, rfl⟩)
  go_ret
  exact ⟨rfl, hl⟩

end Go.Proofs.YtnemldboiogdkaaGreat
