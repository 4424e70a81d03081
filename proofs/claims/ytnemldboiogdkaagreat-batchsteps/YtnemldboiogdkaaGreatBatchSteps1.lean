/-
  PARTS LAID TOGETHER, each with its own opening: MsU, BtF, OwA, Bits, BtZ.
-/
import Derived.Test.YtnemldboiogdkaaGreatCom5
import Derived.Test.YtnemldboiogdkaaGreatCom3
import Derived.Test.YtnemldboiogdkaaGreatCom1
import Derived.Laws.BitsLemmas
/-
  PLAIN GROUND, NO WALK: what of a machine may be turned so that it may be still. No condition.
-/
namespace Go.Proofs.YtnemldboiogdkaaGreat
open Go.RowKit

structure MayP (M : Mc) : Prop where
  ok : M.c.ok = true
  lr : (M.rs.length : Int) = M.c.l
  rs : ∀ R ∈ M.rs, ringB M.c R = true
  lp : (M.ps.length : Int) = M.c.r
  ps : ∀ P ∈ M.ps, repB M.c M.rs P = true
  lt : (M.ts.length : Int) = M.c.t
  ts : ∀ T ∈ M.ts, thB M.c T = true
  le : (M.es.length : Int) ≤ 64
  es : ∀ E ∈ M.es, evB M.c E = true
theorem mayM_iff {M : Mc} : mayM M = true ↔ MayP M := by
  constructor
  · intro h
    obtain ⟨a, b, c, d⟩ := mayM_lens h
    exact ⟨mayM_ok h, a, mayM_rs h, b, mayM_ps h, c, mayM_ts h, d, mayM_es h⟩
  · intro h
    unfold mayM
    simp only [Bool.and_eq_true, decide_eq_true_eq, List.all_eq_true]
    exact ⟨h.ok, ⟨h.lr, h.rs⟩, ⟨h.lp, h.ps⟩, ⟨h.lt, h.ts⟩, h.le, h.es⟩
theorem thB_yes {c : Cfg} {T : Th} (h1 : 0 ≤ T.st ∧ T.st ≤ 19) (h2 : opMay T.c T.r T.a = true) (h3 : 0 ≤ T.lg ∧ T.lg ≤ c.l - 1) (h4 : 0 ≤ T.sn ∧ T.sn ≤ 1048576) (h5 : (T.b.length : Int) ≤ c.t) (h6 : ∀ x ∈ T.b, 0 ≤ x ∧ x ≤ c.t - 1) (h7 : 0 ≤ T.pl ∧ T.pl ≤ T.b.length) (h8 : (T.tl.length : Int) ≤ c.l) (h9 : ∀ x ∈ T.tl, 0 ≤ x ∧ x ≤ 1048576) : thB c T = true := by
  unfold thB
  simp only [Bool.and_eq_true, decide_eq_true_eq, List.all_eq_true]
  exact ⟨inB_yes h1.1 h1.2, h2, inB_yes h3.1 h3.2, inB_yes h4.1 h4.2, ⟨h5, fun x hx => inB_yes (h6 x hx).1 (h6 x hx).2⟩, inB_yes h7.1 h7.2, h8, fun x hx => inB_yes (h9 x hx).1 (h9 x hx).2⟩
theorem mayM_putT {M : Mc} (h : mayM M = true) {t : Int} {x : Th} (hx : thB M.c x = true) : mayM (M.putT t x) = true := by
  obtain ⟨a, b, c, d, e, f, g, i, j⟩ := mayM_iff.1 h
  refine mayM_iff.2 ⟨a, b, c, d, e, by simpa [Mc.putT] using f, fun T hT => ?_, i, j⟩
  rcases List.mem_or_eq_of_mem_set hT with hT | rfl
  · exact g T hT
  · exact hx
/-- A thread that is idle may be. -/
theorem thB_zero {c : Cfg} (h : c.ok = true) : thB c Th.zero = true := by
  obtain ⟨_, _, ⟨l0, _⟩, ⟨t0, _⟩, _, _⟩ := Cfg.ok_cases h
  exact thB_yes (by decide) (by decide) (by simp [Th.zero]; omega) (by decide) (by simp [Th.zero]; omega) (by simp [Th.zero]) (by simp [Th.zero]) (by simp [Th.zero]; omega) (by simp [Th.zero])
theorem th_may {M : Mc} (h : mayM M = true) (t : Int) : thB M.c (M.th t) = true := by
  unfold Mc.th
  rcases Nat.lt_or_ge t.toNat M.ts.length with ht | ht
  · exact mayM_ts h _ (getD_mem ht)
  · rw [getD_out ht]; exact thB_zero (mayM_ok h)
theorem mayM_step {M : Mc} (h : mayM M = true) (t : Int) {st : Int} (hs : 0 ≤ st ∧ st ≤ 19) : mayM (stepM M t st) = true := by
  obtain ⟨_, b, c, d, e, f, g, i, j⟩ := thB_cases (th_may h t)
  exact mayM_putT h (thB_yes hs b c d e f g i j)
end Go.Proofs.YtnemldboiogdkaaGreat

/-
  PLAIN GROUND, NO WALK: what is collected at other steps, by threads that are none, of machines that may not be, and when nobody waits. No condition.
-/
namespace Go.Proofs.YtnemldboiogdkaaGreat
open Go.RowKit

theorem held17L (w : World) : Calls Tryz.prog 16 #[] w fun e w' => ∃ L : Lay, e = .returned L.v ∧ L.M = hldM ∧ OwnsM w' w.heap.size L ∧ ApartM L ∧ Le w w' := by
  refine (held17 w).mono ?_
  rintro e w' ⟨qR, qP, qT, qH, rfl, ⟨L, hv, hm, ho, ha⟩, l⟩
  exact ⟨L, by rw [hv], hm, ho, ha, l⟩
theorem step_th (M : Mc) (t st : Int) (h : t.toNat < M.ts.length) : ((stepM M t st).th t).st = st := by
  unfold stepM Mc.putT Mc.th
  simp [List.getD, h]
theorem collect_step {q : Int} (h : q ≠ 3) : collectM (stepM hldM 0 q) 0 = (Mc.zero, 1700) := by
  have e := step_th hldM 0 q (by decide +kernel)
  unfold collectM
  rw [e, decide_eq_false h]
  simp
theorem collect_three : collectM (stepM hldM 0 3) 0 = (btM, 0) := by decide +kernel
theorem collect_no {M : Mc} {t : Int} (h : t < 0 ∨ M.c.t ≤ t) : collectM M t = (Mc.zero, 1700) := by
  have e : thereB M 0 0 t = false := by
    unfold thereB
    rw [inB_off (a := 0) (x := t) (b := M.c.t - 1) (by rcases h with h | h; exact .inl h; exact .inr (by omega))]
    simp
  unfold collectM
  rw [e]
  rfl
theorem fit_step {M : Mc} (h : FitM M) (t st : Int) : FitM (stepM M t st) := h.putT t (h.th t)
/-- .. told of one replica alone. -/
def bdM : Mc := { hldM with c := ⟨2, 1, 2, 4, 8⟩ }
theorem bd_fit : FitM bdM := ⟨hld_fit.rs, hld_fit.ps, hld_fit.ts, hld_fit.es, hld_fit.r, hld_fit.p, hld_fit.t⟩
theorem bd_col : collectM bdM 0 = (Mc.zero, 1700) := by decide +kernel
/-- .. its thread 0 waits no more. -/
def beM : Mc := hldM.putT 0 { hldM.th 0 with po := false }
theorem be_fit : FitM beM := fitB_fit (by decide +kernel)
def bcM : Mc := (collectM beM 0).1
theorem be_col : collectM beM 0 = (bcM, 0) := by decide +kernel
theorem bc_fit : FitM bcM := fitB_fit (by decide +kernel)
theorem bc_may : mayM bcM = true := by decide +kernel
theorem bc_c : bcM.c = begC := by decide +kernel
theorem bc_no {q : Int} (h : 0 ≤ q ∧ q < 4) : collectM bcM q = (Mc.zero, 1700) := by
  rcases (by omega : q = 0 ∨ q = 1 ∨ q = 2 ∨ q = 3) with rfl | rfl | rfl | rfl <;> decide +kernel
theorem bc_open {w : World} {v : Value} (h : HasM w v bcM) : ∃ qR qP bT oT cT qH ab cb, v = machV begC qR qP (some ⟨bT, oT, none⟩, 4, cT) qH ∧ w.cell? ⟨bT, oT, none⟩ = some (.int .i64 9) ∧ w.cell? ⟨bT, oT + 6, none⟩ = some (.slice ab 0 cb) := by
  obtain ⟨bR, oR, cR, bP, oP, cP, bT, oT, cT, qH, rfl, _, _, hcT, _⟩ := h.opens bc_may
  obtain ⟨qb, qt, ⟨x0, _, _, _, _, _, x6, _, x8, _⟩, hb, _⟩ := hcT 0 (by decide +kernel)
  have h5 : (bcM.ts.getD 0 Th.zero).st = 9 := by decide +kernel
  have h6 : (bcM.ts.getD 0 Th.zero).b = [] := by decide +kernel
  rw [h5] at x0
  rw [h6] at hb
  rw [Nat.zero_mul, Nat.add_zero] at x0 x6
  have h3 : bcM.ts.length = 4 := by decide +kernel
  obtain ⟨a, cap, hv, _, _, _⟩ := hb
  rw [hv] at x6
  rw [h3, bc_c]
  exact ⟨_, _, bT, oT, cT, qH, a, cap, rfl, x0, x6⟩

end Go.Proofs.YtnemldboiogdkaaGreat

/-
  PLAIN GROUND, NO WALK: a machine of the call's own may be written over, in the blocks that the call made; and it stands behind a store into another machine's variable. No condition but that its rows can be copied.
-/
namespace Go.Proofs.YtnemldboiogdkaaGreat
open Go.RowKit

theorem OwnA.sp {w : World} {base : Nat} {v : Value} {M : Mc} (h : OwnA w base v M) (hf : FitM M) : Sp.IntsM w (fun g => base ≤ g ∧ g < w.heap.size) v := by
  obtain ⟨L, rfl, rfl, ho, _⟩ := h
  exact Sp.ownsM_ints ho hf (fun g h1 h2 => ⟨h1, h2⟩)

theorem OwnM.setM {w : World} {B g i : Nat} {v u : Value} {M : Mc} {cs : Array Value} (h : OwnM w B v M) (hb : Box w g cs 29) : OwnM (w.setCell ⟨g, i, none⟩ u) B v M := by
  obtain ⟨L, hv, hm, o⟩ := h
  exact ⟨L, hv, hm, ⟨own_setM hb o.oR (by decide), own_setM hb o.oP (by decide), own_setM hb o.oT (by decide), own_setM hb o.oH (by decide), fun y hy => own_setM hb (o.iR y hy) (by decide), fun y hy => ⟨fun i hi => own_setM hb ((o.iP y hy).1 i hi) (by decide), own_setM hb (o.iP y hy).2.1 (by decide), own_setM hb (o.iP y hy).2.2 (by decide)⟩, fun y hy => ⟨own_setM hb (o.iT y hy).1 (by decide), own_setM hb (o.iT y hy).2 (by decide)⟩⟩⟩


end Go.Proofs.YtnemldboiogdkaaGreat

/-
  PLAIN GROUND, NO WALK: an int and a mask, for every int. No condition.
-/
namespace Go.Proofs.YtnemldboiogdkaaGreat

theorem and3 (n : Int) : bits .and .i64 n 3 = n % 4 := by
  have h : (BitVec.ofInt 64 3).toNat = 2 ^ 2 - 1 := by decide
  have key : (BitVec.ofInt 64 n &&& BitVec.ofInt 64 3).toNat = (n % ((2 ^ 64 : Nat) : Int)).toNat % 2 ^ 2 := by
    rw [BitVec.toNat_and, BitVec.toNat_ofInt, h, Nat.and_two_pow_sub_one_eq_mod]
  show IntKind.i64.wrap ((BitVec.ofInt 64 n &&& BitVec.ofInt 64 3).toNat : Nat) = n % 4
  rw [key, IntKind.wrap_i64]
  omega

theorem and1023 (n : Int) : bits .and .i64 n 1023 = n % 1024 := by
  have h : (BitVec.ofInt 64 1023).toNat = 2 ^ 10 - 1 := by decide
  have key : (BitVec.ofInt 64 n &&& BitVec.ofInt 64 1023).toNat = (n % ((2 ^ 64 : Nat) : Int)).toNat % 2 ^ 10 := by
    rw [BitVec.toNat_and, BitVec.toNat_ofInt, h, Nat.and_two_pow_sub_one_eq_mod]
  show IntKind.i64.wrap ((BitVec.ofInt 64 n &&& BitVec.ofInt 64 1023).toNat : Nat) = n % 1024
  rw [key, IntKind.wrap_i64]
  omega

end Go.Proofs.YtnemldboiogdkaaGreat

/-
  THE WALK over the law BatchSteps: it answers true, for every two numbers, and turns nothing that was there. No condition.
-/
namespace Go.Proofs.YtnemldboiogdkaaGreat
open Go.RowKit

theorem twenty (a : Int) : ∃ q : Int, (IntKind.u64.wrap a).tmod 20 = q ∧ 0 ≤ q ∧ q < 20 := by
  have h : 0 ≤ IntKind.u64.wrap a := by simp [IntKind.wrap, IntKind.bits, IntKind.signed]; omega
  rw [Int.tmod_eq_emod_of_nonneg h]
  exact ⟨_, rfl, by omega, by omega⟩

set_option maxRecDepth 8000 in
set_option maxHeartbeats 8000000 in
theorem lawBatchSteps (w : World) (a0 a1 : Int) : Calls Tryz.prog 5 #[.int .i64 a0, .int .i64 a1] w fun e w' => e = .returned (.bool true) ∧ Le w w' := by
  obtain ⟨m, hm, m0, m1⟩ : ∃ m, bits .and .i64 a1 1023 = m ∧ 0 ≤ m ∧ m ≤ 1023 := ⟨_, and1023 a1, by omega, by omega⟩
  obtain ⟨d, hd⟩ : ∃ d, 1 + m = d := ⟨_, rfl⟩
  obtain ⟨d0, d1⟩ : 1 ≤ d ∧ d ≤ 1024 := by omega
  obtain ⟨q, hq, q0, q1⟩ := twenty a0
  have hqw : IntKind.i64.wrap q = q := by simp [IntKind.wrap, IntKind.bits, IntKind.signed]; omega
  obtain ⟨N, er, hN, he⟩ : ∃ N er, collectM (stepM hldM 0 q) 0 = (N, er) ∧ (q = 3 ∧ er = 0 ∨ q ≠ 3 ∧ er = 1700) := by
    by_cases e : q = 3
    · exact ⟨_, _, by rw [e]; exact collect_three, .inl ⟨e, rfl⟩⟩
    · exact ⟨_, _, collect_step e, .inr ⟨e, rfl⟩⟩
  have t1 := fun v w' (h : HasM w' v (stepM hldM 0 q)) => batchCollectAs hN v w' h (fit_step hld_fit 0 q)
  have t2 := fun v w' (h : HasM w' v hldM) => batchCollectAs (collect_no (M := hldM) (t := -d) (.inl (by omega))) v w' h hld_fit
  have t3 := fun v w' (h : HasM w' v hldM) => batchCollectAs (collect_no (M := hldM) (t := 3 + d) (.inr (by show (4 : Int) ≤ _; omega))) v w' h hld_fit
  clear hN
  have HE : Hid (q = 3 ∧ er = 0 ∨ q ≠ 3 ∧ er = 1700) := he
  clear he
  have hl := Le.refl w
  go_enter Tryz.func5, Tryz.ntmps5
  go_wp2_with fail
  refine (lawAwake17 _).mono ?_
  rintro e w0 ⟨rfl, l0⟩
  replace hl := hl.trans l0
  clear l0
  go_wp2_with fail
  refine (held17L _).mono ?_
  rintro e w1 ⟨L, rfl, HM, o1, ap, l1⟩
  have hbo := Box.new w1 (cells9 L.c L.qR L.qP L.qT L.qH) 29
  have a1 := Le.alloc w1 (.cells (cells9 L.c L.qR L.qP L.qT L.qH) 29)
  go_upto_region 5 with fail
  generalize hW1 : w1.alloc (.cells (cells9 L.c L.qR L.qP L.qT L.qH) 29) = W1 at hbo a1 ⊢
  clear hW1
  have I : MoI w0.heap.size w1.heap.size W1 L := ⟨hbo, l1.size, o1.le a1, ap⟩
  have hsw := hl.size
  generalize w1.heap.size = go at hbo I ⊢
  replace hl := (hl.trans l1).trans a1
  clear hbo o1 ap l1 a1
  obtain ⟨c', uR, uP, uT, uH, xR, xP, xT, xH⟩ := L
  try simp only at I ⊢
  have hiT : 0 < xT.length := by have := lay_ts HM; simp only at this; rw [this]; decide +kernel
  have hiT' : (0 : Int) < (xT.length : Int) := by omega
  obtain ⟨gT, capT, hqT, hcapT, hgBT, hgltT, hgneT, hatT, hfzT⟩ := I.openT hiT
  try simp only at hqT hatT hcapT
  subst hqT
  obtain ⟨x0, hx0'⟩ : ∃ x0, x0 = xT.getD 0 thK.d := ⟨_, rfl⟩
  have HX0 : Hid (x0.T = hldM.th 0) := by rw [hx0']; exact lay_th HM hiT
  rw [Nat.zero_mul] at hatT
  obtain ⟨c0, _, _, _, _, _, _, _, _, _, _, _⟩ := hatT
  rw [← hx0'] at c0
  have f0 := hfzT 0
  have I2 : MoI w0.heap.size go (W1.setCell ⟨gT, 0, none⟩ (.int .i64 q)) _ := I.setTx (j := 0) (u := .int .i64 q) rfl hiT (by decide) x0 hx0'.symm { x0.T with st := q } rfl rfl rfl
  have l2 := hl.set (g := gT) (i := 0) (u := .int .i64 q) (by omega)
  clear hfzT hx0'
  obtain ⟨⟨y0, y1, y2, y3, y4⟩, y5, y6, y7, y8⟩ := (I.bo).mach
  simp only [slV] at y7
  go_upto_region 7 with fail
  clear y0 y1 y2 y3 y4 y5 y6 y7 y8
  generalize hW2 : W1.setCell ⟨gT, 0, none⟩ (.int .i64 q) = W2 at I2 l2 ⊢
  clear hW2 I hl c0 f0 hm
  have hM2 := I2.has
  rw [lay_setT HM] at hM2
  simp only [HX0.out] at hM2
  have hM3 : HasM W2 (machV c' uR uP (some ⟨gT, 0, none⟩, xT.length, capT) uH) (stepM hldM 0 q) := hM2
  clear hM2
  obtain ⟨⟨y0, y1, y2, y3, y4⟩, y5, y6, y7, y8⟩ := (I2.bo).mach
  go_wp2_with fail
  refine (t1 _ _ hM3).mono ?_
  rintro e w2 ⟨aR, aP, aT, aH, rfl, _, l3⟩
  clear y0 y1 y2 y3 y4 y5 y6 y7 y8
  clear t1 hM3 I2 HX0 HM
  have hl := l2.trans l3
  clear l2 l3
  have hbA := Box.new w2 (cells9 N.c aR aP aT aH) 29
  have a1 := Le.alloc w2 (.cells (cells9 N.c aR aP aT aH) 29)
  go_upto_region 8 with fail
  generalize hW1 : w2.alloc (.cells (cells9 N.c aR aP aT aH) 29) = V1 at hbA a1 ⊢
  clear hW1
  have hggA : w2.heap.size ≤ w2.heap.size := Nat.le_refl _
  generalize hgg : w2.heap.size = gA at hbA hggA ⊢
  have hsgA : w2.heap.size ≤ gA := by omega
  clear hgg hggA
  replace hl := hl.trans a1
  clear hbA a1
  go_wp2_with fail
  refine (held17 _).mono ?_
  rintro e w3 ⟨bR, bP, bT, bH, rfl, o3, l3⟩
  replace hl := hl.trans l3
  go_wp2_with fail
  refine (t2 _ _ o3.has).mono ?_
  rintro e w4 ⟨eR, eP, eT, eH, rfl, _, l4⟩
  replace hl := hl.trans l4
  clear l3 l4 o3
  have hbE := Box.new w4 (cells9 Mc.zero.c eR eP eT eH) 29
  have a1 := Le.alloc w4 (.cells (cells9 Mc.zero.c eR eP eT eH) 29)
  go_upto_region 9 with fail
  generalize hW1 : w4.alloc (.cells (cells9 Mc.zero.c eR eP eT eH) 29) = V2 at hbE a1 ⊢
  clear hW1
  have hggE : w4.heap.size ≤ w4.heap.size := Nat.le_refl _
  generalize hgg : w4.heap.size = gE at hbE hggE ⊢
  have hsgE : w4.heap.size ≤ gE := by omega
  clear hgg hggE
  replace hl := hl.trans a1
  clear hbE a1
  go_wp2_with fail
  refine (held17 _).mono ?_
  rintro e w5 ⟨bR, bP, bT, bH, rfl, o3, l3⟩
  replace hl := hl.trans l3
  go_wp2_with fail
  refine (t3 _ _ o3.has).mono ?_
  rintro e w6 ⟨fR, fP, fT, fH, rfl, _, l4⟩
  replace hl := hl.trans l4
  clear l3 l4 o3
  have hbF := Box.new w6 (cells9 Mc.zero.c fR fP fT fH) 29
  have a1 := Le.alloc w6 (.cells (cells9 Mc.zero.c fR fP fT fH) 29)
  go_upto_region 10 with fail
  generalize hW1 : w6.alloc (.cells (cells9 Mc.zero.c fR fP fT fH) 29) = V3 at hbF a1 ⊢
  clear hW1
  have hggF : w6.heap.size ≤ w6.heap.size := Nat.le_refl _
  generalize hgg : w6.heap.size = gF at hbF hggF ⊢
  have hsgF : w6.heap.size ≤ gF := by omega
  clear hgg hggF
  replace hl := hl.trans a1
  clear hbF a1
  go_wp2_with fail
  refine (held17 _).mono ?_
  rintro e w7 ⟨gR, gP, gT', gH, rfl, oM, l7⟩
  have hs7 := hl.size
  replace hl := hl.trans l7
  obtain ⟨gTT, hgTT⟩ : ∃ q : Sl, q = gT' := ⟨_, rfl⟩
  rw [← hgTT] at oM ⊢
  clear hgTT
  obtain ⟨hR, hhR⟩ : ∃ q : Sl, q = gR := ⟨_, rfl⟩
  rw [← hhR] at oM ⊢
  obtain ⟨hP, hhP⟩ : ∃ q : Sl, q = gP := ⟨_, rfl⟩
  rw [← hhP] at oM ⊢
  obtain ⟨hH, hhH⟩ : ∃ q : Sl, q = gH := ⟨_, rfl⟩
  rw [← hhH] at oM ⊢
  clear hhR hhP hhH
  obtain ⟨hT, hhT⟩ : ∃ q : Sl, q = gTT := ⟨_, rfl⟩
  rw [← hhT] at oM ⊢
  clear hhT
  have hs8 := l7.size
  clear l7
  have hbM := Box.new w7 (cells9 begC hR hP hT hH) 29
  have a1 := Le.alloc w7 (.cells (cells9 begC hR hP hT hH) 29)
  go_upto_region 11 with fail
  generalize hW1 : w7.alloc (.cells (cells9 begC hR hP hT hH) 29) = V4 at hbM a1 ⊢
  clear hW1
  have hggM : w7.heap.size ≤ w7.heap.size := Nat.le_refl _
  generalize hgg : w7.heap.size = gM at hbM hggM ⊢
  have hsgM : w7.heap.size ≤ gM := by omega
  clear hgg hggM
  replace hl := hl.trans a1
  have oM2 : OwnM V4 0 (machV begC hR hP hT hH) hldM := by
    obtain ⟨L, hv, hmm, ho, _⟩ := oM.le a1
    exact (show OwnM V4 _ (machV begC hR hP hT hH) hldM from ⟨L, hv, hmm.symm, ho⟩).base (Nat.zero_le _)
  clear a1 oM
  have k1 := hbM.frozen 1
  have c1 := hbM.cell 1
  simp only [List.getElem?_toArray, List.getElem?_cons_succ, List.getElem?_cons_zero] at c1
  have hM4 : HasM (V4.setCell ⟨gM, 1, none⟩ (.int .i64 1)) (machV ⟨2, 1, 2, 4, 8⟩ hR hP hT hH) bdM := ((oM2.setM (i := 1) (u := .int .i64 1) hbM).has).reC
  have hb4 : Box (V4.setCell ⟨gM, 1, none⟩ (.int .i64 1)) gM (cells9 ⟨2, 1, 2, 4, 8⟩ hR hP hT hH) 29 := hbM.set 1 _
  have hl4 : Le w (V4.setCell ⟨gM, 1, none⟩ (.int .i64 1)) := hl.set (by omega)
  go_upto_region 12 with fail
  clear k1 c1 oM2 hbM hl
  generalize hW4 : V4.setCell ⟨gM, 1, none⟩ (.int .i64 1) = V5 at hb4 hl4 hM4 ⊢
  clear hW4
  obtain ⟨⟨y0, y1, y2, y3, y4⟩, y5, y6, y7, y8⟩ := (hb4).mach
  go_wp2_with fail
  refine (batchCollectAs bd_col _ _ hM4 bd_fit).mono ?_
  rintro e w8 ⟨iR, iP, iT, iH, rfl, _, l8⟩
  clear y0 y1 y2 y3 y4 y5 y6 y7 y8
  have hl := hl4.trans l8
  clear hl4 l8 hM4 hb4
  have hbI := Box.new w8 (cells9 Mc.zero.c iR iP iT iH) 29
  have a1 := Le.alloc w8 (.cells (cells9 Mc.zero.c iR iP iT iH) 29)
  go_upto_region 13 with fail
  generalize hW1 : w8.alloc (.cells (cells9 Mc.zero.c iR iP iT iH) 29) = V6 at hbI a1 ⊢
  clear hW1
  have hggI : w8.heap.size ≤ w8.heap.size := Nat.le_refl _
  generalize hgg : w8.heap.size = gI at hbI hggI ⊢
  have hsgI : w8.heap.size ≤ gI := by omega
  clear hgg hggI
  replace hl := hl.trans a1
  clear hbI a1
  have hlast := HE.out
  rcases hlast with ⟨rfl, rfl⟩ | ⟨hq3, rfl⟩
  · go_wp2_with (go_at_call 11; refine (lawNum _ _).mono ?_; rintro e _ ⟨rfl, rfl⟩)
    go_ret
    exact ⟨rfl, hl⟩
  · have hq4 : (q == 3) = false := by simp [hq3]
    go_wp2_with (go_at_call 11; refine (lawNum _ _).mono ?_; rintro e _ ⟨rfl, rfl⟩)
    go_ret
    exact ⟨rfl, hl⟩

end Go.Proofs.YtnemldboiogdkaaGreat
