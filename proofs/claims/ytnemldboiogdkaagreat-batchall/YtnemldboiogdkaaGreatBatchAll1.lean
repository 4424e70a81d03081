/-
  PARTS LAID TOGETHER, each with its own opening: MsU, BtH, BtY, OpenSl, OpenR, OpenSt, OpenCf, OpenM.
-/
import Derived.Test.YtnemldboiogdkaaGreatCom5
import Derived.Test.YtnemldboiogdkaaGreatCom3
import Derived.Test.YtnemldboiogdkaaGreatCom4
import Derived.Test.YtnemldboiogdkaaGreatCom2
import Derived.Test.YtnemldboiogdkaaGreatCom1
import Derived.ProofKit
import Derived.OpenShut
import Derived.SizedLaws
import Derived.Lib.SmallJoins
import Derived.Deep.Slices
import Derived.Deep.Strs
import Derived.Laws.IdiomArrays
/-
  PLAIN GROUND, NO WALK: what of a machine may be turned so that it may be still. No condition.
-/
namespace Go.Proofs.YtnemldboiogdkaaGreat
open Go.RowKit

structure MayP (M : Mc) : Prop where
  ok : M.c.ok = true
  lr : (M.rs.length : Int) = M.c.l
  rs : ∀ R ∈ M.rs, ringB M.c R = true
  lp : (M.ps.length : Int) = M.c.r
  ps : ∀ P ∈ M.ps, repB M.c M.rs P = true
  lt : (M.ts.length : Int) = M.c.t
  ts : ∀ T ∈ M.ts, thB M.c T = true
  le : (M.es.length : Int) ≤ 64
  es : ∀ E ∈ M.es, evB M.c E = true
theorem mayM_iff {M : Mc} : mayM M = true ↔ MayP M := by
  constructor
  · intro h
    obtain ⟨a, b, c, d⟩ := mayM_lens h
    exact ⟨mayM_ok h, a, mayM_rs h, b, mayM_ps h, c, mayM_ts h, d, mayM_es h⟩
  · intro h
    unfold mayM
    simp only [Bool.and_eq_true, decide_eq_true_eq, List.all_eq_true]
    exact ⟨h.ok, ⟨h.lr, h.rs⟩, ⟨h.lp, h.ps⟩, ⟨h.lt, h.ts⟩, h.le, h.es⟩
theorem thB_yes {c : Cfg} {T : Th} (h1 : 0 ≤ T.st ∧ T.st ≤ 19) (h2 : opMay T.c T.r T.a = true) (h3 : 0 ≤ T.lg ∧ T.lg ≤ c.l - 1) (h4 : 0 ≤ T.sn ∧ T.sn ≤ 1048576) (h5 : (T.b.length : Int) ≤ c.t) (h6 : ∀ x ∈ T.b, 0 ≤ x ∧ x ≤ c.t - 1) (h7 : 0 ≤ T.pl ∧ T.pl ≤ T.b.length) (h8 : (T.tl.length : Int) ≤ c.l) (h9 : ∀ x ∈ T.tl, 0 ≤ x ∧ x ≤ 1048576) : thB c T = true := by
  unfold thB
  simp only [Bool.and_eq_true, decide_eq_true_eq, List.all_eq_true]
  exact ⟨inB_yes h1.1 h1.2, h2, inB_yes h3.1 h3.2, inB_yes h4.1 h4.2, ⟨h5, fun x hx => inB_yes (h6 x hx).1 (h6 x hx).2⟩, inB_yes h7.1 h7.2, h8, fun x hx => inB_yes (h9 x hx).1 (h9 x hx).2⟩
theorem mayM_putT {M : Mc} (h : mayM M = true) {t : Int} {x : Th} (hx : thB M.c x = true) : mayM (M.putT t x) = true := by
  obtain ⟨a, b, c, d, e, f, g, i, j⟩ := mayM_iff.1 h
  refine mayM_iff.2 ⟨a, b, c, d, e, by simpa [Mc.putT] using f, fun T hT => ?_, i, j⟩
  rcases List.mem_or_eq_of_mem_set hT with hT | rfl
  · exact g T hT
  · exact hx
/-- A thread that is idle may be. -/
theorem thB_zero {c : Cfg} (h : c.ok = true) : thB c Th.zero = true := by
  obtain ⟨_, _, ⟨l0, _⟩, ⟨t0, _⟩, _, _⟩ := Cfg.ok_cases h
  exact thB_yes (by decide) (by decide) (by simp [Th.zero]; omega) (by decide) (by simp [Th.zero]; omega) (by simp [Th.zero]) (by simp [Th.zero]) (by simp [Th.zero]; omega) (by simp [Th.zero])
theorem th_may {M : Mc} (h : mayM M = true) (t : Int) : thB M.c (M.th t) = true := by
  unfold Mc.th
  rcases Nat.lt_or_ge t.toNat M.ts.length with ht | ht
  · exact mayM_ts h _ (getD_mem ht)
  · rw [getD_out ht]; exact thB_zero (mayM_ok h)
theorem mayM_step {M : Mc} (h : mayM M = true) (t : Int) {st : Int} (hs : 0 ≤ st ∧ st ≤ 19) : mayM (stepM M t st) = true := by
  obtain ⟨_, b, c, d, e, f, g, i, j⟩ := thB_cases (th_may h t)
  exact mayM_putT h (thB_yes hs b c d e f g i j)
end Go.Proofs.YtnemldboiogdkaaGreat

/-
  PLAIN GROUND, NO WALK: behind a Collect the machine may be still, and nobody waits there any more. No condition.
-/
namespace Go.Proofs.YtnemldboiogdkaaGreat
open Go.RowKit

theorem collect_cases {M : Mc} {t : Int} (h : (thereB M 0 0 t && decide ((M.th t).st = 3)) = true) : thereB M 0 0 t = true ∧ (M.th t).st = 3 := by
  simp only [Bool.and_eq_true, decide_eq_true_eq] at h
  exact h
theorem unpost_c (M : Mc) (bs : List Int) : (unpost M bs).c = M.c := by
  unfold unpost
  induction bs generalizing M with
  | nil => rfl
  | cons b bs ih => exact ih _
theorem unpost_len (M : Mc) (bs : List Int) : (unpost M bs).ts.length = M.ts.length := by
  unfold unpost
  induction bs generalizing M with
  | nil => rfl
  | cons b bs ih => exact (ih _).trans (by simp [Mc.putT])
theorem th_put (M : Mc) (t : Int) (x : Th) (i : Nat) : (M.putT t x).th i = if i = t.toNat ∧ i < M.ts.length then x else M.th i := by
  unfold Mc.putT Mc.th
  simp only [Int.toNat_natCast]
  rw [List.getD_eq_getElem?_getD, List.getElem?_set, List.getD_eq_getElem?_getD]
  by_cases e : t.toNat = i
  · subst e
    by_cases h : t.toNat < M.ts.length
    · rw [if_pos rfl, if_pos h, if_pos ⟨rfl, h⟩]; rfl
    · rw [if_pos rfl, if_neg h, if_neg (fun k => h k.2), List.getElem?_eq_none (by omega)]
  · rw [if_neg e, if_neg (fun k => e k.1.symm)]
/-- What a thread is behind it: all but its mark. -/
theorem unpost_th (M : Mc) (bs : List Int) (i : Nat) : ∃ p, (unpost M bs).th i = { M.th i with po := p } ∧ (p = true → (M.th i).po = true) ∧ ((i : Int) ∈ bs → i < M.ts.length → p = false) := by
  unfold unpost
  induction bs generalizing M with
  | nil => exact ⟨(M.th i).po, rfl, id, fun h => by cases h⟩
  | cons b bs ih =>
    obtain ⟨p, h1, h2, h3⟩ := ih (M.putT b { M.th b with po := false })
    rw [List.foldl_cons, h1]
    rw [th_put] at h1 h2 ⊢
    by_cases e : i = b.toNat ∧ i < M.ts.length
    · rw [if_pos e] at h2 ⊢
      have hb : M.th b = M.th i := by unfold Mc.th; rw [Int.toNat_natCast, e.1]
      have hp : p = false := by
        cases p with
        | false => rfl
        | true => exact absurd (h2 rfl) (by simp)
      rw [hb]
      exact ⟨p, rfl, fun h => absurd (hp.symm.trans h) (by decide), fun _ _ => hp⟩
    · rw [if_neg e] at h2 ⊢
      refine ⟨p, rfl, h2, fun hm hl => ?_⟩
      rcases List.mem_cons.1 hm with rfl | hm
      · exact absurd ⟨by simp, hl⟩ e
      · exact h3 hm (by simpa [Mc.putT] using hl)
theorem mayM_unpost {M : Mc} (h : mayM M = true) (bs : List Int) : mayM (unpost M bs) = true := by
  unfold unpost
  induction bs generalizing M with
  | nil => exact h
  | cons b bs ih => exact ih (mayM_putT h (x := { M.th b with po := false }) (th_may h b))
theorem waiters_mem {M : Mc} {r g : Int} {n i : Nat} (hi : i < n) (h : waitsB M r g i = true) : (i : Int) ∈ waiters M r g n := by
  unfold waiters
  exact List.mem_map.2 ⟨i, List.mem_filter.2 ⟨List.mem_range.2 hi, h⟩, rfl⟩
theorem waiters_none {M : Mc} {r g : Int} {n : Nat} (h : ∀ i, i < n → waitsB M r g i = false) : waiters M r g n = [] := by
  unfold waiters
  rw [List.map_eq_nil_iff, List.filter_eq_nil_iff]
  intro i hi
  rw [h i (List.mem_range.1 hi)]
  decide
/-- What is known of a Collect that is done. -/
theorem collect_done {M : Mc} {t : Nat} (h1 : thereB M 0 0 (t : Int) = true) (h3 : (M.th t).st = 3) : ∃ bs : List Int,
    waitM M (M.home t) (M.th t).lg = (bs, 0) ∧ bs.length ≤ 4 ∧ (∀ x ∈ bs, ∃ i : Nat, x = i ∧ i < M.ts.length) ∧
    collectM M t = ((unpost M bs).putT t { (unpost M bs).th t with b := bs, pl := 0, st := if bs = [] then 9 else 4 }, 0) ∧
    mayM ((unpost M bs).putT t { (unpost M bs).th t with b := bs, pl := 0, st := if bs = [] then 9 else 4 }) = true ∧
    waitM ((unpost M bs).putT t { (unpost M bs).th t with b := bs, pl := 0, st := if bs = [] then 9 else 4 }) (M.home t) (M.th t).lg = ([], 0) := by
  obtain ⟨hmay, _, _, ⟨t0, t1⟩⟩ := thereB_cases h1
  obtain ⟨hrs, hps, hts, _⟩ := mayM_lens hmay
  obtain ⟨_, ⟨r2, r3⟩, ⟨_, l3⟩, ⟨t2, t3⟩, _, _⟩ := Cfg.ok_cases (mayM_ok hmay)
  have hT := th_may hmay (t : Int)
  have hlg : 0 ≤ (M.th t).lg ∧ (M.th t).lg ≤ M.c.l - 1 := by
    unfold thB at hT
    simp only [Bool.and_eq_true] at hT
    exact inB_cases hT.2.2.1
  have hho : 0 ≤ M.home t ∧ M.home t ≤ M.c.r - 1 := by
    unfold Mc.home
    have := Int.emod_lt_of_pos (t : Int) (show 0 < M.c.r by omega)
    have := Int.emod_nonneg (t : Int) (show M.c.r ≠ 0 by omega)
    omega
  have h2 : thereB M (M.home t) (M.th t).lg 0 = true := thereB_yes hmay hho hlg ⟨by omega, by omega⟩
  have hw : waitM M (M.home t) (M.th t).lg = (waiters M (M.home t) (M.th t).lg M.c.t.toNat, 0) := by unfold waitM; rw [h2]; rfl
  obtain ⟨bs, hbs⟩ : ∃ bs, bs = waiters M (M.home t) (M.th t).lg M.c.t.toNat := ⟨_, rfl⟩
  rw [← hbs] at hw
  have hin : ∀ x ∈ bs, ∃ i : Nat, x = i ∧ i < M.ts.length := by
    intro x hx
    rw [hbs] at hx
    obtain ⟨i, rfl, hi, _⟩ := waiters_in hx
    exact ⟨i, rfl, by omega⟩
  have hln : bs.length ≤ M.c.t.toNat := by rw [hbs]; exact waiters_len _ _ _ _
  have hN : mayM ((unpost M bs).putT t { (unpost M bs).th t with b := bs, pl := 0, st := if bs = [] then 9 else 4 }) = true := by
    refine mayM_putT (mayM_unpost hmay bs) ?_
    have hu := th_may (mayM_unpost hmay bs) (t : Int)
    rw [unpost_c] at hu ⊢
    unfold thB at hu ⊢
    simp only [Bool.and_eq_true, decide_eq_true_eq, List.all_eq_true] at hu ⊢
    obtain ⟨u1, u2, u3, u4, _, _, u7⟩ := hu
    refine ⟨?_, u2, u3, u4, ⟨by omega, fun x hx => ?_⟩, inB_yes (Int.le_refl _) (by omega), u7⟩
    · split <;> decide
    · obtain ⟨i, rfl, hi⟩ := hin x hx
      exact inB_yes (by omega) (by omega)
  refine ⟨bs, hw, by omega, hin, ?_, hN, ?_⟩
  · unfold collectM
    rw [h1, decide_eq_true h3, hw]
    rfl
  · have hc : ((unpost M bs).putT t { (unpost M bs).th t with b := bs, pl := 0, st := if bs = [] then 9 else 4 }).c = M.c := unpost_c M bs
    have h4 : thereB ((unpost M bs).putT t { (unpost M bs).th t with b := bs, pl := 0, st := if bs = [] then 9 else 4 }) (M.home t) (M.th t).lg 0 = true := thereB_yes hN (by rw [hc]; exact hho) (by rw [hc]; exact hlg) (by rw [hc]; exact ⟨by omega, by omega⟩)
    unfold waitM
    rw [h4, hc]
    simp only [if_true]
    congr 1
    refine waiters_none fun i hi => ?_
    obtain ⟨p, e1, e2, e3⟩ := unpost_th M bs i
    have e4 : ∃ T : Th, ((unpost M bs).putT t { (unpost M bs).th t with b := bs, pl := 0, st := if bs = [] then 9 else 4 }).th i = T ∧ T.c = (M.th i).c ∧ T.r = (M.th i).r ∧ T.a = (M.th i).a ∧ T.lg = (M.th i).lg ∧ T.po = p := by
      rw [th_put, Int.toNat_natCast]
      by_cases e : i = t ∧ i < (unpost M bs).ts.length
      · rw [if_pos e, ← e.1, e1]; exact ⟨_, rfl, rfl, rfl, rfl, rfl, rfl⟩
      · rw [if_neg e, e1]; exact ⟨_, rfl, rfl, rfl, rfl, rfl, rfl⟩
    obtain ⟨T, hT, c1, c2, c3, c4, c5⟩ := e4
    cases hb : waitsB M (M.home t) (M.th t).lg i
    · unfold waitsB at hb ⊢
      rw [hT, hc, c1, c2, c3, c4, c5]
      cases hp : p with
      | false => simp
      | true =>
        rw [e2 hp] at hb
        exact hb
    · have hm := e3 (by rw [hbs]; exact waiters_mem hi hb) (by omega)
      unfold waitsB
      rw [hT, c5, hm]
      simp

end Go.Proofs.YtnemldboiogdkaaGreat

/-
  THE WALK over the law BatchAll: it answers true and turns nothing that was there, for every machine and thread. Condition: that the machine's rows can be copied.
-/
namespace Go.Proofs.YtnemldboiogdkaaGreat
open Go.RowKit

theorem takeU {M : Mc} {bs : List Int} {k j : Nat} (hk : k < bs.length) (hj : bs.getD k 0 = (j : Int)) : unpost M (bs.take (k + 1)) = (unpost M (bs.take k)).putT j { (unpost M (bs.take k)).th j with po := false } := by
  rw [List.take_succ_eq_append_getElem hk, unpost_snoc]
  rw [show bs.getD k 0 = bs[k] by simp [List.getD, hk]] at hj
  rw [hj]
theorem Lay.Below.setPo {c : Cfg} {qR qP qT qH : Sl} {rs : List LR} {ps : List LP} {ts : List LT} {es : List Ev} {m j : Nat} (h : (⟨c, qR, qP, qT, qH, rs, ps, ts, es⟩ : Lay).Below m) (hj : j < ts.length) (T : Th) : (⟨c, qR, qP, qT, qH, rs, ps, ts.set j ⟨T, (ts.getD j thK.d).b, (ts.getD j thK.d).t⟩, es⟩ : Lay).Below m := by
  refine ⟨h.1, fun p b e => ?_⟩
  cases p with
  | rep a d => exact h.2 (.rep a d) b e
  | th a d =>
    refine h.2 (.th a d) b ?_
    simp only [Lay.at, getD_set _ _ _ _ _ hj] at e ⊢
    by_cases e1 : a = j
    · subst e1
      rw [if_pos rfl] at e
      match d, e with
      | 0, e => exact e
      | 1, e => exact e
      | _ + 2, e => simp [LT.row, Value.ownBlock] at e
    · rw [if_neg e1] at e; exact e

set_option maxRecDepth 8000 in
set_option maxHeartbeats 16000000 in
theorem lawBatchAll (w : World) (v : Value) (M : Mc) (hx : HasM w v M) (hf : FitM M) (t : Int) : Calls Tryz.prog 4 #[v, .int .i64 t] w fun e w' => e = .returned (.bool true) ∧ Le w w' := by
  cases h1 : (thereB M 0 0 t && decide ((M.th t).st = 3))
  · have hP : collectM M t = (Mc.zero, 1700) := by unfold collectM; rw [h1]; rfl
    have t1 := fun v w' (h : HasM w' v M) => batchCollectAs hP v w' h hf
    have hx0 := hx
    obtain ⟨qR, qP, qT, qH, rfl, _, _, _, _⟩ := hx
    have hb0 := Box.new w (cells9 M.c qR qP qT qH) 29
    have hl := Le.alloc w (.cells (cells9 M.c qR qP qT qH) 29)
    go_enter Tryz.func4, Tryz.ntmps4
    go_upto_region 1 with fail
    generalize hW : w.alloc (.cells (cells9 M.c qR qP qT qH) 29) = W at hl hb0 ⊢
    clear hW hP h1
    go_wp2_with fail
    refine (lawAwake17 _).mono ?_
    rintro e w0 ⟨rfl, l0⟩
    replace hb0 := hb0.le l0
    replace hl := hl.trans l0
    clear l0
    obtain ⟨⟨y0, y1, y2, y3, y4⟩, y5, y6, y7, y8⟩ := (hb0).mach
    go_wp2_with fail
    refine (t1 _ _ (hx0.le hl)).mono ?_
    rintro e w1 ⟨aR, aP, aT, aH, rfl, oA, l1⟩
    clear y0 y1 y2 y3 y4 y5 y6 y7 y8
    replace hl := hl.trans l1
    clear l1 t1 hb0
    have hbA := Box.new w1 (cells9 Mc.zero.c aR aP aT aH) 29
    have a1 := Le.alloc w1 (.cells (cells9 Mc.zero.c aR aP aT aH) 29)
    go_upto_region 4 with fail
    generalize hW1 : w1.alloc (.cells (cells9 Mc.zero.c aR aP aT aH) 29) = W1 at hbA a1 ⊢
    clear hW1
    have hggA : w1.heap.size ≤ w1.heap.size := Nat.le_refl _
    generalize hgg : w1.heap.size = gA at hbA hggA ⊢
    have hsgA : w1.heap.size ≤ gA := by omega
    clear hgg hggA
    replace hl := hl.trans a1
    replace oA := oA.le a1
    clear a1
    go_wp2_with fail
    refine (lawNum _ _).mono ?_
    rintro e _ ⟨rfl, rfl⟩
    have s1 := lawSameMachine _ _ Mc.zero Mc.zero W1 oA.has (HasM.zero W1) fitM_zero
    simp only [decide_true] at s1
    obtain ⟨⟨y0, y1, y2, y3, y4⟩, y5, y6, y7, y8⟩ := (hbA).mach
    go_wp2_with fail
    refine s1.mono ?_
    rintro e w2 ⟨rfl, l2⟩
    go_wp2_with fail
    go_ret
    exact ⟨rfl, hl.trans l2⟩
  · obtain ⟨h2, h3⟩ := collect_cases h1
    obtain ⟨hmay, _, _, ⟨t0, t1'⟩⟩ := thereB_cases h2
    obtain ⟨_, _, hts, _⟩ := mayM_lens hmay
    obtain ⟨_, ⟨r2, r3⟩, _, ⟨_, t3⟩, _, _⟩ := Cfg.ok_cases (mayM_ok hmay)
    obtain ⟨t, rfl⟩ : ∃ n : Nat, t = n := ⟨t.toNat, by omega⟩
    have hti : t < M.ts.length := by omega
    obtain ⟨bs, hW1, hbl, hbin, hP, hmN, hW2⟩ := collect_done h2 h3
    have fN : FitM ((unpost M bs).putT t { (unpost M bs).th t with b := bs, pl := 0, st := if bs = [] then 9 else 4 }) := by have := fitM_collect hf (t : Int); rw [hP] at this; exact this
    obtain ⟨N1, hN1⟩ : ∃ N1, N1 = (unpost M bs).putT t { (unpost M bs).th t with b := bs, pl := 0, st := if bs = [] then 9 else 4 } := ⟨_, rfl⟩
    rw [← hN1] at hP hmN hW2 fN
    have HN1 : Hid (N1 = (unpost M bs).putT t { (unpost M bs).th t with b := bs, pl := 0, st := if bs = [] then 9 else 4 }) := hN1
    have hN2 : N1.ts.length = M.ts.length := by rw [hN1]; exact (by simp [Mc.putT] : _ = (unpost M bs).ts.length).trans (unpost_len M bs)
    have hN3 : (N1.ts.getD t Th.zero).b = bs := by
      obtain ⟨X, hX⟩ : ∃ X : Th, X = { (unpost M bs).th t with b := bs, pl := 0, st := if bs = [] then 9 else 4 } := ⟨_, rfl⟩
      rw [hN1, ← hX, ← Mc.th_nat, th_put, if_pos ⟨by simp, by rw [unpost_len]; exact hti⟩, hX]
    clear hN1
    obtain ⟨ho, hho⟩ : ∃ x, x = M.home (t : Int) := ⟨_, rfl⟩
    obtain ⟨lg, hlg⟩ : ∃ x, x = (M.th t).lg := ⟨_, rfl⟩
    rw [← hho, ← hlg] at hW1 hW2
    have htm : (t : Int).tmod M.c.r = ho := by rw [hho]; exact Int.tmod_eq_emod_of_nonneg (by omega)
    have htm2 : (t : Int) % M.c.r = ho := by rw [hho]; rfl
    have hne0 : ¬ M.c.r = 0 := by omega
    have hr1 : ¬ M.c.r < 1 := by omega
    have c1 := fun v w' (h : HasM w' v M) => batchCollectAs hP v w' h hf
    have c2 := fun v w' (h : HasM w' v M) => rmWaitAs hW1 v w' h hf
    have c3 := fun v w' (h : HasM w' v N1) => rmWaitAs hW2 v w' h fN
    have c4 := fun v w' (h : HasM w' v M) => lawCopyMachine v M w' h hf
    clear hP hW1 hW2 h1 h2 h3 hho t0 t1' hts t3
    have hx0 := hx
    obtain ⟨bR, oR, cR, bP, oP, cP, bT, oT, cT, qH, rfl, _, _, hcT, _⟩ := hx.opens hmay
    obtain ⟨qb, qt, hat, _, _⟩ := hcT t hti
    rw [← Mc.th_nat] at hat
    obtain ⟨_, _, _, _, k4, _, _, _, _, _, _, _⟩ := hat
    rw [← hlg] at k4
    have HB : Hid (∀ x ∈ bs, ∃ i : Nat, x = i ∧ i < M.ts.length) := hbin
    obtain ⟨nT, hnT⟩ : ∃ n, n = M.ts.length := ⟨_, rfl⟩
    have hti' : (t : Int) < (nT : Int) := by omega
    have hln : nT ≤ 4611686018427387904 := by have := hf.ts; omega
    have HLN : Hid (nT = M.ts.length) := hnT
    rw [← hnT] at hx0 hN2 ⊢
    have HHX : Hid (HasM w (machV M.c (some ⟨bR, oR, none⟩, M.rs.length, cR) (some ⟨bP, oP, none⟩, M.ps.length, cP) (some ⟨bT, oT, none⟩, nT, cT) qH) M) := hx0
    have hb0 := Box.new w (cells9 M.c (some ⟨bR, oR, none⟩, M.rs.length, cR) (some ⟨bP, oP, none⟩, M.ps.length, cP) (some ⟨bT, oT, none⟩, nT, cT) qH) 29
    have hl := Le.alloc w (.cells (cells9 M.c (some ⟨bR, oR, none⟩, M.rs.length, cR) (some ⟨bP, oP, none⟩, M.ps.length, cP) (some ⟨bT, oT, none⟩, nT, cT) qH) 29)
    clear hlg hnT hcT hbin
    obtain ⟨nb, hnb⟩ : ∃ n, n = bs.length := ⟨_, rfl⟩
    rw [← hnb] at c2 hbl
    have HNB : Hid (nb = bs.length) := hnb
    clear hnb
    go_enter Tryz.func4, Tryz.ntmps4
    go_upto_region 1 with fail
    generalize hW : w.alloc (.cells (cells9 M.c (some ⟨bR, oR, none⟩, M.rs.length, cR) (some ⟨bP, oP, none⟩, M.ps.length, cP) (some ⟨bT, oT, none⟩, nT, cT) qH) 29) = W at hl hb0 ⊢
    clear hW
    go_wp2_with fail
    refine (lawAwake17 _).mono ?_
    rintro e w0 ⟨rfl, l0⟩
    replace hb0 := hb0.le l0
    replace hl := hl.trans l0
    clear l0
    obtain ⟨⟨y0, y1, y2, y3, y4⟩, y5, y6, y7, y8⟩ := (hb0).mach
    go_wp2_with fail
    refine (c1 _ _ (hx0.le hl)).mono ?_
    rintro e w1 ⟨aR, aP, aT, aH, rfl, oA, l1⟩
    clear y0 y1 y2 y3 y4 y5 y6 y7 y8
    replace hb0 := hb0.le l1
    replace hl := hl.trans l1
    clear l1 c1
    have hA := oA.has
    clear oA
    obtain ⟨dR, pR, eR, dP, pP, eP, dT, pT, eT, rH, hv, _, _, hdT, _⟩ := hA.opens hmN
    rw [hv] at hA ⊢
    clear hv aR aP aT aH
    obtain ⟨qb2, qt2, hat2, hbs2, _⟩ := hdT t (by omega)
    rw [hN3] at hbs2
    clear hdT hN3
    rw [hN2] at hA ⊢
    obtain ⟨aR, hxR⟩ : ∃ q : Sl, q = (some ⟨dR, pR, none⟩, N1.rs.length, eR) := ⟨_, rfl⟩
    obtain ⟨aP, hxP⟩ : ∃ q : Sl, q = (some ⟨dP, pP, none⟩, N1.ps.length, eP) := ⟨_, rfl⟩
    obtain ⟨aT, hxT⟩ : ∃ q : Sl, q = (some ⟨dT, pT, none⟩, nT, eT) := ⟨_, rfl⟩
    rw [← hxR, ← hxP, ← hxT] at hA ⊢
    have HXT : Hid (aT = (some ⟨dT, pT, none⟩, nT, eT)) := hxT
    clear hxR hxP hxT
    obtain ⟨aH, haH⟩ : ∃ q : Sl, q = rH := ⟨_, rfl⟩
    rw [← haH] at hA ⊢
    clear haH
    obtain ⟨_, _, _, _, _, _, j6, _, _, _, _, _⟩ := hat2
    have hbA := Box.new w1 (cells9 N1.c aR aP aT aH) 29
    have a1 := Le.alloc w1 (.cells (cells9 N1.c aR aP aT aH) 29)
    go_upto_region 4 with fail
    generalize hW1 : w1.alloc (.cells (cells9 N1.c aR aP aT aH) 29) = W1 at hbA a1 ⊢
    clear hW1
    have hggA : w1.heap.size ≤ w1.heap.size := Nat.le_refl _
    generalize hgg : w1.heap.size = gA at hbA hggA ⊢
    have hsgA : w1.heap.size ≤ gA := by omega
    clear hgg hggA
    replace hl := hl.trans a1
    replace hb0 := hb0.le a1
    replace hA := hA.le a1
    replace j6 := cell_le j6 a1
    replace hbs2 := hbs2.le a1
    clear a1
    go_wp2_with fail
    refine (lawNum _ _).mono ?_
    rintro e _ ⟨rfl, rfl⟩
    have hge : ¬ (t : Int) < 0 := by omega
    obtain ⟨⟨y0, y1, y2, y3, y4⟩, y5, y6, y7, y8⟩ := (hbA).mach
    have y7' := y7
    rw [HXT.out] at y7'
    simp only [slV] at y7'
    clear y7
    obtain ⟨⟨z0, z1, z2, z3, z4⟩, z5, z6, z7, z8⟩ := (hb0).mach
    simp only [slV] at z5 z6 z7
    have x4 := cell_le k4 hl
    go_upto_region 9 with fail
    clear y0 y1 y2 y3 y4 y5 y6 y7' y8
    have c2' := c2 _ W1.drew ((HHX.out.le hl).le (Le.drew W1))
    go_region_held3 (fun w' => w'.cell? ⟨w.heap.size, 0, none⟩ = some (.int .i64 M.c.o) ∧ w'.cell? ⟨w.heap.size, 1, none⟩ = some (.int .i64 M.c.r) ∧ w'.cell? ⟨w.heap.size, 2, none⟩ = some (.int .i64 M.c.l) ∧ w'.cell? ⟨w.heap.size, 3, none⟩ = some (.int .i64 M.c.t) ∧ w'.cell? ⟨w.heap.size, 4, none⟩ = some (.int .i64 M.c.s) ∧ w'.cell? ⟨w.heap.size, 5, none⟩ = some (.slice (some ⟨bR, oR, none⟩) M.rs.length cR) ∧ w'.cell? ⟨w.heap.size, 6, none⟩ = some (.slice (some ⟨bP, oP, none⟩) M.ps.length cP) ∧ w'.cell? ⟨w.heap.size, 7, none⟩ = some (.slice (some ⟨bT, oT, none⟩) nT cT) ∧ w'.cell? ⟨w.heap.size, 8, none⟩ = some (slV qH)) (go_keep) (first
      | (go_at_call 14; refine c2'.mono ?_; rintro e w4 ⟨wa, wc, rfl, oq, l4⟩; have l5 := (Le.drew W1).trans l4; have z0' := cell_le z0 l5; have z1' := cell_le z1 l5; have z2' := cell_le z2 l5; have z3' := cell_le z3 l5; have z4' := cell_le z4 l5; have z5' := cell_le z5 l5; have z6' := cell_le z6 l5; have z7' := cell_le z7 l5; have z8' := cell_le z8 l5))
    have hq2 := oq.has
    have oqb := oq
    clear z0' z1' z2' z3' z4' z5' z6' z7' z8' x4 c2' c2 oq
    clear z0 z1 z2 z3 z4 z5 z6 z7 z8
    replace hb0 := hb0.le l5
    replace hbA := hbA.le l5
    replace hA := hA.le l5
    replace j6 := cell_le j6 l5
    replace hbs2 := hbs2.le l5
    replace hl := hl.trans l5
    clear l4 l5
    obtain ⟨⟨y0, y1, y2, y3, y4⟩, y5, y6, y7, y8⟩ := (hbA).mach
    have z1 := hb0.mach.1.2.1
    go_upto_region 10 with fail
    have c3' := c3 _ w4.drew (hA.le (Le.drew w4))
    go_region_held3 (fun w' => w'.cell? ⟨gA, 0, none⟩ = some (.int .i64 N1.c.o) ∧ w'.cell? ⟨gA, 1, none⟩ = some (.int .i64 N1.c.r) ∧ w'.cell? ⟨gA, 2, none⟩ = some (.int .i64 N1.c.l) ∧ w'.cell? ⟨gA, 3, none⟩ = some (.int .i64 N1.c.t) ∧ w'.cell? ⟨gA, 4, none⟩ = some (.int .i64 N1.c.s) ∧ w'.cell? ⟨gA, 5, none⟩ = some (slV aR) ∧ w'.cell? ⟨gA, 6, none⟩ = some (slV aP) ∧ w'.cell? ⟨gA, 7, none⟩ = some (slV aT) ∧ w'.cell? ⟨gA, 8, none⟩ = some (slV aH) ∧ w'.cell? ⟨w.heap.size, 1, none⟩ = some (.int .i64 M.c.r)) (go_keep) (first
      | (go_at_call 14; refine c3'.mono ?_; rintro e w5 ⟨ra, rc, rfl, _, l4⟩; have l5 := (Le.drew w4).trans l4; have y0' := cell_le y0 l5; have y1' := cell_le y1 l5; have y2' := cell_le y2 l5; have y3' := cell_le y3 l5; have y4' := cell_le y4 l5; have y5' := cell_le y5 l5; have y6' := cell_le y6 l5; have y7' := cell_le y7 l5; have y8' := cell_le y8 l5; have z1' := cell_le z1 l5))
    clear y0' y1' y2' y3' y4' y5' y6' y7' y8' z1' z1 c3' c3
    clear y0 y1 y2 y3 y4 y5 y6 y7 y8
    replace hb0 := hb0.le l5
    replace hbA := hbA.le l5
    replace hA := hA.le l5
    replace j6 := cell_le j6 l5
    replace hbs2 := hbs2.le l5
    replace hq2 := hq2.le l5
    replace hl := hl.trans l5
    replace oqb := oqb.le l5
    clear l4 l5
    obtain ⟨V5, hV5⟩ : ∃ x, x = w5 := ⟨_, rfl⟩
    rw [← hV5] at hb0 hbA hA j6 hbs2 hq2 hl oqb ⊢
    clear hV5
    have hs2 := lawSameInts _ _ bs bs V5 hbs2 hq2 (by have := HNB.out; omega)
    simp only [decide_true] at hs2
    obtain ⟨⟨y0, y1, y2, y3, y4⟩, y5, y6, y7, y8⟩ := (hbA).mach
    have y7' := y7
    rw [HXT.out] at y7'
    simp only [slV] at y7'
    clear y7
    go_wp2_with fail
    refine hs2.mono ?_
    rintro e w6 ⟨rfl, n6, hn6⟩
    have l6 : Le V5 w6 := by rw [hn6]; exact Le.drewN _ _
    clear hs2 hn6 y0 y1 y2 y3 y4 y5 y6 y7' y8 j6 hbs2
    replace hb0 := hb0.le l6
    replace hbA := hbA.le l6
    replace hA := hA.le l6
    replace hl := hl.trans l6
    have oq6 : Own w6 W1.drew.heap.size (slV (wa, nb, wc)) bs := oqb.le l6
    clear l6 hq2 oqb
    obtain ⟨⟨z0, z1, z2, z3, z4⟩, z5, z6, z7, z8⟩ := (hb0).mach
    simp only [slV] at z5 z6 z7
    go_wp2_with fail
    refine (c4 _ _ (HHX.out.le hl)).mono ?_
    rintro e w7 ⟨L, rfl, HM, o1, ap, l7⟩
    clear z0 z1 z2 z3 z4 z5 z6 z7 z8
    clear c4 hb0
    have hbo := Box.new w7 (cells9 L.c L.qR L.qP L.qT L.qH) 29
    have a1 := Le.alloc w7 (.cells (cells9 L.c L.qR L.qP L.qT L.qH) 29)
    go_upto_region 14 with fail
    generalize hW7 : w7.alloc (.cells (cells9 L.c L.qR L.qP L.qT L.qH) 29) = W7 at hbo a1 ⊢
    clear hW7
    have I : MoI w6.heap.size w7.heap.size W7 L := ⟨hbo, l7.size, o1.le a1, ap⟩
    have hg6 : w6.heap.size ≤ w7.heap.size := l7.size
    generalize w7.heap.size = go at hbo I hg6 ⊢
    have l67 := l7.trans a1
    clear hbo o1 ap l7 a1
    obtain ⟨c', uR, uP, uT, uH, xR, xP, xT, xH⟩ := L
    try simp only at I ⊢
    have hbel := I.own.bel
    have hiT : t < xT.length := by have := lay_ts HM; simp only at this; rw [this]; exact hti
    have hiT' : (t : Int) < (xT.length : Int) := by omega
    have HXL : Hid (xT.length = M.ts.length) := lay_ts HM
    obtain ⟨gT, capT, hqT, hcapT, hgBT, hgltT, hgneT, hatT, hfzT⟩ := I.openT hiT
    try simp only at hqT hatT hcapT
    subst hqT
    clear hatT hfzT
    have hgneT' : ¬ gT = go := fun e => hgneT e.symm
    have hsz0 : W7.heap.size ≤ W7.heap.size := Nat.le_refl _
    go_wp2_with fail
    go_loopw [13] (fun i wr => ∃ (k : Nat) (ts : List LT), k ≤ nb ∧ i = .int .i64 k ∧ Hid (MoI w6.heap.size go wr ⟨c', uR, uP, (some ⟨gT, 0, none⟩, xT.length, capT), uH, xR, xP, ts, xH⟩ ∧ (⟨c', uR, uP, (some ⟨gT, 0, none⟩, xT.length, capT), uH, xR, xP, ts, xH⟩ : Lay).M = unpost M (bs.take k) ∧ ts.length = xT.length ∧ (⟨c', uR, uP, (some ⟨gT, 0, none⟩, xT.length, capT), uH, xR, xP, ts, xH⟩ : Lay).Below W7.heap.size ∧ W7.heap.size ≤ wr.heap.size ∧ Le w6 wr)) (fun i _ => nb - (intOf i).toNat)
    case atStart => exact ⟨0, xT, by omega, rfl, I, HM, rfl, hbel, hsz0, l67⟩
    case round =>
      clear I HM hbel l67 hsz0 hgltT
      obtain ⟨k, ts, hk, rfl, HI⟩ := hrel
      obtain ⟨I, HM, hlen, hbel, hsz, hle⟩ := HI.out
      have HLEN : Hid (ts.length = xT.length) := hlen
      clear HI hlen
      by_cases hlt : k < nb
      · obtain ⟨j, hj, hjl⟩ := HB.out (bs.getD k 0) (getD_mem (by have := HNB.out; omega))
        have HJ : Hid (bs.getD k 0 = (j : Int)) := hj
        have hjx : j < ts.length := by have := HLEN.out; have := HXL.out; omega
        have hjx' : (j : Int) < (xT.length : Int) := by have := HLEN.out; omega
        obtain ⟨_, _, _, hatj, hfzj⟩ := I.thAt rfl hjx
        obtain ⟨_, _, _, _, _, _, _, _, x8, _, _, _⟩ := hatj
        have f8 := hfzj (j * 12 + 8)
        obtain ⟨⟨y0, y1, y2, y3, y4⟩, y5, y6, y7, y8⟩ := (I.bo).mach
        simp only [slV] at y7
        obtain ⟨gl, cl, hql, _, _, hgl6, xl, _⟩ := own_open (q := (wa, nb, wc)) oq6 (show k < bs.length by have := HNB.out; omega)
        simp only [Prod.mk.injEq] at hql
        obtain ⟨rfl, hh, rfl⟩ := hql
        clear hh
        have hne2 : gT ≠ gl := by omega
        have hne3 : ¬ gl = gT := fun e => hne2 e.symm
        have hne4 : ¬ gl = go := by omega
        have hne5 : ¬ go = gT := hgneT
        rw [HJ.out] at xl
        replace xl := cell_le xl hle
        have hltq : (k : Int) < (nb : Int) := by omega
        have I2 := I.setTx (j := 8) (u := .bool false) rfl hjx (by decide) _ rfl { (ts.getD j thK.d).T with po := false } rfl rfl rfl
        have HM2 : Hid (Lay.M ⟨c', uR, uP, (some ⟨gT, 0, none⟩, xT.length, capT), uH, xR, xP, ts.set j ⟨{ (ts.getD j thK.d).T with po := false }, (ts.getD j thK.d).b, (ts.getD j thK.d).t⟩, xH⟩ = unpost M (bs.take (k + 1))) := by
          show _ = _
          rw [takeU (by have := HNB.out; omega) HJ.out]
          have h2 := lay_th HM hjx
          simp only at h2
          rw [← h2]
          exact lay_setT HM j ⟨{ (ts.getD j thK.d).T with po := false }, (ts.getD j thK.d).b, (ts.getD j thK.d).t⟩
        have hbel2 : Hid (Lay.Below ⟨c', uR, uP, (some ⟨gT, 0, none⟩, xT.length, capT), uH, xR, xP, ts.set j ⟨{ (ts.getD j thK.d).T with po := false }, (ts.getD j thK.d).b, (ts.getD j thK.d).t⟩, xH⟩ W7.heap.size) := hbel.setPo hjx _
        clear hbel HM
        go_upto_region 17 with fail
        go_region_held3 (fun w' => w'.cell? ⟨go, 7, none⟩ = some (.slice (some ⟨gT, 0, none⟩) xT.length capT) ∧ w'.cell? ⟨gl, k, none⟩ = some (.int .i64 (j : Int))) (go_keep) (fail)
        go_wp2_with fail
        go_roundw
        case rel => exact ⟨k + 1, _, by omega, by go_num, I2.le (Le.drew _), HM2.out, by rw [List.length_set]; exact HLEN.out, hbel2.out, by simpa using hsz, (hle.set hgBT).trans (Le.drew _)⟩
        case measure => simp [intOf]; omega
      · have hkn : k = nb := by omega
        have htk : bs.take k = bs := by rw [hkn, HNB.out, List.take_length]
        rw [htk] at HM
        have hlt' : ¬ (k : Int) < (nb : Int) := by omega
        clear htk hkn hlt hk
        have hit : t < ts.length := by have := HLEN.out; omega
        obtain ⟨X, hX⟩ : ∃ X, X = ts.getD t thK.d := ⟨_, rfl⟩
        have HX : Hid (X.T = (unpost M bs).th t) := by rw [hX]; exact lay_th HM hit
        obtain ⟨⟨y0, y1, y2, y3, y4⟩, y5, y6, y7, y8⟩ := (I.bo).mach
        simp only [slV] at y7
        go_upto_region 18 with fail
        clear y0 y1 y2 y3 y4 y5 y6 y8
        refine wp_region_any (by kernel_rfl) ?_
        refine wpAny_grow [] [0, 1, 2, 3, 4, 5] [6, 7, 8] (by decide) (by kernel_rfl) Le (Le.refl _) (fun _ _ _ => Le.trans)
          (fun vs i x => match i with
            | 0 => vs 0 = .pointer (some ⟨go, 7, none⟩)
            | 1 => vs 1 = .slice (some ⟨gT, 0, none⟩) xT.length capT
            | 2 => vs 2 = .int .i64 t
            | 3 => ∃ b, vs 3 = .slice (some ⟨b, 0, none⟩) 0 0 ∧ Own x wr.heap.size (.slice (some ⟨b, 0, none⟩) 0 0) []
            | 4 => vs 4 = .slice wa nb wc
            | _ => ∃ q : Sl, vs 5 = slV q ∧ Own x wr.heap.size (slV q) bs) ?_ ?_ (by decide) ?_ ?_
        · intro vs i x y hi _ h hxy
          simp only [List.mem_cons, List.not_mem_nil, or_false] at hi
          rcases hi with rfl | rfl | rfl | rfl | rfl | rfl
          · exact h
          · exact h
          · exact h
          · obtain ⟨b, e, o⟩ := h; exact ⟨b, e, o.le hxy⟩
          · exact h
          · obtain ⟨b, e, o⟩ := h; exact ⟨b, e, o.le hxy⟩
        · intro vs vs' i o x hi _ hk h
          have e := hk i (.inl rfl)
          simp only [List.mem_cons, List.not_mem_nil, or_false] at hi
          rcases hi with rfl | rfl | rfl | rfl | rfl | rfl
          all_goals
            simp only at h ⊢
            rw [← e]
            exact h
        · intro i o hi ho vs x hx hd
          have hx0 := (Le.drew wr).trans hx
          simp only [List.mem_cons, List.not_mem_nil, or_false] at hi
          generalize hρ : (putH _ _ _ vs).eval = ρ
          rcases hi with rfl | rfl | rfl | rfl | rfl | rfl
          · cases ho
            have r1 : ρ (.tmp 12) = .pointer (some ⟨go, 0, none⟩) := by rw [← hρ]; kernel_rfl
            exact gives_value (w' := x) (v := .pointer (some ⟨go, 7, none⟩)) (by simp [go_sem, r1]) ⟨Le.refl _, rfl⟩
          · cases ho
            have r1 : ρ (.tmp 116) = vs 0 := by rw [← hρ]; kernel_rfl
            have d := hd 0 (by decide) (by kernel_rfl)
            simp only at d
            rw [d] at r1
            have y := cell_le y7 hx0
            exact gives_value (w' := x) (v := .slice (some ⟨gT, 0, none⟩) xT.length capT) (by simp [go_sem, r1, y]) ⟨Le.refl _, rfl⟩
          · cases ho
            have r1 : ρ (.tmp 1) = .int .i64 t := by rw [← hρ]; kernel_rfl
            exact gives_value (w' := x) (v := .int .i64 t) (by simp [go_sem, r1]) ⟨Le.refl _, rfl⟩
          · cases ho
            exact gives_value (w' := x.alloc (.cells #[] 3)) (v := .slice (some ⟨x.heap.size, 0, none⟩) 0 0) (by simp [go_sem]) ⟨Le.alloc _ _, x.heap.size, rfl, Own.lit x wr.heap.size hx0.size [] (by simp)⟩
          · cases ho
            have r1 : ρ (.tmp 8) = .slice wa nb wc := by rw [← hρ]; kernel_rfl
            exact gives_value (w' := x) (v := .slice wa nb wc) (by simp [go_sem, r1]) ⟨Le.refl _, rfl⟩
          · cases ho
            have r1 : ρ (.tmp 119) = vs 3 := by rw [← hρ]; kernel_rfl
            have r2 : ρ (.tmp 120) = vs 4 := by rw [← hρ]; kernel_rfl
            have d3 := hd 3 (by decide) (by kernel_rfl)
            have d4 := hd 4 (by decide) (by kernel_rfl)
            simp only at d3 d4
            obtain ⟨b, e3, o3⟩ := d3
            rw [e3] at r1
            rw [d4] at r2
            obtain ⟨q, x', hrun, o5, l5, _⟩ := run_append_emptyI 43 x wr.heap.size b (.slice wa nb wc) bs o3 ((oq6.has.le hle).le hx0) (by have := HNB.out; omega) hx0.size
            exact gives_value (w' := x') (v := slV q) (by simp only [execOp, resolve, invoke, builtin, Sem.run_bind, Sem.run_pure, Result.andThen_ok, List.map_toArray, List.map_cons, List.map_nil, r1, r2, hrun]) ⟨l5, q, rfl, o5⟩
        · intro vs x hx hd
          have hx0 := (Le.drew wr).trans hx
          have e1 := hd 1 (by decide)
          have e2 := hd 2 (by decide)
          have hh := hd 5 (by decide)
          simp only at e1 e2 hh
          replace hh := hh.choose_spec
          generalize Exists.choose _ = q at hh
          have e5 := hh.1
          have o5 := hh.2
          clear hh hd
          have Ix := I.le hx0
          have hat := (Ix.thAt rfl hit).2.2.2.1
          have hfz := (Ix.thAt rfl hit).2.2.2.2
          have c6 : ∃ u, x.cell? ⟨gT, t * 12 + 6, none⟩ = some u := ⟨_, hat.2.2.2.2.2.2.1⟩
          have f6 := hfz (t * 12 + 6)
          have I2 := Ix.setTb rfl hit X hX.symm q bs (o5.base hle.size) hbel (.inr (fun c e => Nat.le_trans hsz (o5.block e).1))
          have l2 := (hle.trans hx0).set (i := t * 12 + 6) (u := slV q) hgBT
          generalize hf0 : putH _ _ _ vs = fr0
          refine wpSeq_cons rfl ?_
          refine wp_value_at (v0 := .pointer (some ⟨gT, t * 12, none⟩)) (w0 := x) ?_ ?_
          · generalize hρ : fr0.eval = ρ
            have r1 : ρ (.tmp 117) = vs 1 := by rw [← hρ, ← hf0]; kernel_rfl
            have r2 : ρ (.tmp 118) = vs 2 := by rw [← hρ, ← hf0]; kernel_rfl
            rw [e1] at r1
            rw [e2] at r2
            simp [go_sem, r1, r2, hiT']
          · generalize hf2 : Act.put fr0 _ _ = fr2
            refine wpSeq_cons rfl ?_
            refine wp_value_at (v0 := .pointer (some ⟨gT, t * 12 + 6, none⟩)) (w0 := x) ?_ ?_
            · generalize hρ : fr2.eval = ρ
              have r1 : ρ (.tmp 122) = .pointer (some ⟨gT, t * 12, none⟩) := by rw [← hρ, ← hf2, ← hf0]; kernel_rfl
              simp [go_sem, r1]
            · generalize hf3 : Act.put fr2 _ _ = fr3
              refine wpSeq_cons rfl ?_
              refine wp_skip_at (w0 := x.setCell ⟨gT, t * 12 + 6, none⟩ (slV q)) ?_ ?_
              · generalize hρ : fr3.eval = ρ
                have r1 : ρ (.tmp 123) = .pointer (some ⟨gT, t * 12 + 6, none⟩) := by rw [← hρ, ← hf3, ← hf2, ← hf0]; kernel_rfl
                have r2 : ρ (.tmp 121) = vs 5 := by rw [← hρ, ← hf3, ← hf2, ← hf0]; kernel_rfl
                rw [e5] at r2
                obtain ⟨u, c6⟩ := c6
                simp [go_sem, r1, r2, c6, f6]
              · subst hf3 hf2 hf0
                simp only [wpSeq, putH, List.getElem?_cons_succ, List.getElem?_cons_zero, Option.bind_some, Act.put, List.setIfInBounds_toArray, List.set_cons_zero, List.set_cons_succ]
                clear e1 e2 e5 o5 c6 f6 hat hfz Ix hx hx0 hbel hsz y7 I hle
                generalize x.setCell ⟨gT, t * 12 + 6, none⟩ (slV q) = W8 at I2 l2 ⊢
                obtain ⟨_, _, _, ⟨x0, _, _, _, _, _, _, x7, _, _, _, _⟩, hfz⟩ := I2.thAt (i := t) rfl (by simp only [List.length_set]; exact hit)
                simp only at x0 x7
                have f0 := hfz (t * 12)
                have f7 := hfz (t * 12 + 7)
                clear hfz
                obtain ⟨⟨y0, y1, y2, y3, y4⟩, y5, y6, y7, y8⟩ := (I2.bo).mach
                simp only [slV] at y7
                have I3 := I2.setTy (j := 7) (u := .int .i64 0) rfl hit (by decide) { X.T with b := bs, pl := 0 } rfl rfl rfl
                have I4 := I3.setTy (j := 0) (u := .int .i64 4) rfl hit (by decide) { X.T with b := bs, pl := 0, st := 4 } rfl rfl rfl
                have l3 := (l2.set (i := t * 12 + 7) (u := .int .i64 0) hgBT).set (i := t * 12 + 0) (u := .int .i64 4) hgBT
                go_upto_region 21 with fail
                clear y0 y1 y2 y3 y4 y5 y6 y7 y8
                clear x0 x7 f0 f7 I2 I3 l2
                generalize hW9 : (W8.setCell ⟨gT, t * 12 + 7, none⟩ (.int .i64 0)).setCell ⟨gT, t * 12 + 0, none⟩ (.int .i64 4) = W9 at I4 l3 ⊢
                clear hW9
                have HM4 : Hid (Lay.M ⟨c', uR, uP, (some ⟨gT, 0, none⟩, xT.length, capT), uH, xR, xP, ts.set t ⟨{ X.T with b := bs, pl := 0, st := 4 }, q, X.t⟩, xH⟩ = (unpost M bs).putT t { (unpost M bs).th t with b := bs, pl := 0, st := 4 }) := by
                  rw [← HX.out]
                  exact lay_setT HM t ⟨{ X.T with b := bs, pl := 0, st := 4 }, q, X.t⟩
                have hA9 := hA.le l3
                have hbA9 := hbA.le l3
                by_cases hb0 : bs = []
                · have hq0 : ((nb : Int) == 0) = true := by have := HNB.out; rw [hb0] at this; simp at this; simp [this]
                  have HB0 : Hid (bs = []) := hb0
                  clear hb0
                  obtain ⟨⟨y0, y1, y2, y3, y4⟩, y5, y6, y7, y8⟩ := (I4.bo).mach
                  simp only [slV] at y7
                  have x0 := (I4.thAt rfl (by rw [List.length_set]; exact hit)).2.2.2.1.1
                  have f0 := (I4.thAt rfl (by rw [List.length_set]; exact hit)).2.2.2.2 (t * 12)
                  have I5 := I4.setTy (j := 0) (u := .int .i64 9) rfl hit (by decide) { X.T with b := bs, pl := 0, st := 9 } rfl rfl rfl
                  have HM5 : Hid (Lay.M ⟨c', uR, uP, (some ⟨gT, 0, none⟩, xT.length, capT), uH, xR, xP, ts.set t ⟨{ X.T with b := bs, pl := 0, st := 9 }, q, X.t⟩, xH⟩ = (unpost M bs).putT t { (unpost M bs).th t with b := bs, pl := 0, st := 9 }) := by
                    rw [← HX.out]
                    exact lay_setT HM t ⟨{ X.T with b := bs, pl := 0, st := 9 }, q, X.t⟩
                  have l5 := l3.set (i := t * 12 + 0) (u := .int .i64 9) hgBT
                  go_upto_region 23 with fail
                  clear x0 f0
                  clear y0 y1 y2 y3 y4 y5 y6 y7 y8
                  generalize hWA : W9.setCell ⟨gT, t * 12 + 0, none⟩ (.int .i64 9) = WA at I5 l5 ⊢
                  clear hWA I4 l3 hA9 hbA9
                  have hM5 := I5.has
                  rw [HM5.out] at hM5
                  have e9 : N1 = (unpost M bs).putT t { (unpost M bs).th t with b := bs, pl := 0, st := 9 } := by rw [HN1.out, if_pos HB0.out]
                  rw [← e9] at hM5
                  clear e9
                  have s9 := lawSameMachine _ _ N1 N1 WA (hA.le l5) hM5 fN
                  simp only [decide_true] at s9
                  have hbA5 := hbA.le l5
                  obtain ⟨⟨y0, y1, y2, y3, y4⟩, y5, y6, y7, y8⟩ := (hbA5).mach
                  obtain ⟨⟨z0, z1, z2, z3, z4⟩, z5, z6, z7, z8⟩ := (I5.bo).mach
                  go_wp2_with fail
                  refine s9.mono ?_
                  rintro e wz ⟨rfl, lz⟩
                  go_wp2_with fail
                  go_ret
                  exact ⟨rfl, (hl.trans l5).trans lz⟩
                · have hq0 : ((nb : Int) == 0) = false := by have := HNB.out; have : nb ≠ 0 := fun e => hb0 (List.length_eq_zero_iff.1 (by omega)); simp; omega
                  have hM5 := I4.has
                  rw [HM4.out] at hM5
                  have e9 : N1 = (unpost M bs).putT t { (unpost M bs).th t with b := bs, pl := 0, st := 4 } := by rw [HN1.out, if_neg hb0]
                  rw [← e9] at hM5
                  clear e9 hb0
                  have s9 := lawSameMachine _ _ N1 N1 W9 hA9 hM5 fN
                  simp only [decide_true] at s9
                  obtain ⟨⟨y0, y1, y2, y3, y4⟩, y5, y6, y7, y8⟩ := (hbA9).mach
                  obtain ⟨⟨z0, z1, z2, z3, z4⟩, z5, z6, z7, z8⟩ := (I4.bo).mach
                  go_wp2_with fail
                  refine s9.mono ?_
                  rintro e wz ⟨rfl, lz⟩
                  go_wp2_with fail
                  go_ret
                  exact ⟨rfl, (hl.trans l3).trans lz⟩

end Go.Proofs.YtnemldboiogdkaaGreat

/-
  PLAIN GROUND: what a row's reading says of a slot that came in: five numbers. No condition.
-/
namespace Go.Proofs.YtnemldboiogdkaaGreat
open Go.ChangeShapes Go.WideShapes Go.ChangeAt Go.RowKit Go.Joins Go.Deep

theorem cellsOp : Tryz.prog.cellsOf 42 = 3 := by kernel_rfl
theorem cellsInt : Tryz.prog.cellsOf 3 = 1 := by kernel_rfl
theorem cellsSlot : Tryz.prog.cellsOf 121 = 5 := by kernel_rfl

set_option maxRecDepth 20000 in
/-- Five cells that read as a slot are five numbers. -/
theorem trod_slot {H : Type} {enc : TypeId × Value → H} {W : World} {n : Nat} {c0 c1 c2 c3 c4 : Value} {y : DataW H × List MemPlace} (h : DataW.trod enc Tryz.prog W 0 (fun _ => true) true n 121 [c0, c1, c2, c3, c4] = some y) :
    ∃ c r a t b : Int, c0 = .int .i64 c ∧ c1 = .int .i64 r ∧ c2 = .int .i64 a ∧ c3 = .int .i64 t ∧ c4 = .int .i64 b ∧ (Lit.int .i64 c).wf = true ∧ (Lit.int .i64 r).wf = true ∧ (Lit.int .i64 a).wf = true ∧ (Lit.int .i64 t).wf = true ∧ (Lit.int .i64 b).wf = true := by
  obtain ⟨y0, y1, y2, m, _, _, h0, h1, h2⟩ := trod_struct3 Tryz.underlying121 h
  simp [cellsOp, cellsInt] at h0 h1 h2
  obtain ⟨z0, z1, z2, m', _, _, g0, g1, g2⟩ := trod_struct3 Tryz.underlying42 h0
  simp [cellsInt] at g0 g1 g2
  obtain ⟨c, e0, _, wc⟩ := DataW.trod_int Tryz.underlying3 g0
  obtain ⟨r, e1, _, wr⟩ := DataW.trod_int Tryz.underlying3 g1
  obtain ⟨a, e2, _, wa⟩ := DataW.trod_int Tryz.underlying3 g2
  obtain ⟨t, e3, _, wt⟩ := DataW.trod_int Tryz.underlying3 h1
  obtain ⟨b, e4, _, wb⟩ := DataW.trod_int Tryz.underlying3 h2
  simp at e0 e1 e2 e3 e4
  exact ⟨c, r, a, t, b, e0, e1, e2, e3, e4, wc, wr, wa, wt, wb⟩

end Go.Proofs.YtnemldboiogdkaaGreat

/-
  PLAIN GROUND: what a row's reading says of a ring that came in: its three numbers and its slots, and that the slots can be copied. No condition.
-/
namespace Go.Proofs.YtnemldboiogdkaaGreat
open Go.ChangeShapes Go.WideShapes Go.ChangeAt Go.RowKit Go.Joins Go.Deep

theorem bytesSlot : Tryz.prog.bytesOf 121 = 40 := by kernel_rfl
theorem cellsSlots : Tryz.prog.cellsOf 58 = 1 := by kernel_rfl

set_option maxRecDepth 20000 in
/-- A slice of slots, read. -/
theorem open_slots {H : Type} {enc : TypeId × Value → H} {W : World} {n : Nat} {c : Value} {y : DataW H × List MemPlace} (h : DataW.trod enc Tryz.prog W 0 (fun _ => true) true n 58 [c] = some y)
    (hs : ∀ k ∈ y.1.weights Tryz.prog 58, k ≤ reachBytes) : ∃ ss, HasL W c ss ∧ ss.length * 40 ≤ 140737488351232 := by
  rcases open_slice Tryz.underlying58 h with ⟨hcs, _⟩ | ⟨a, len, cap, m, n', D, Pl, hcs, _, hl, hm, hmm, rfl, hx⟩
  · simp at hcs
    subst hcs
    exact ⟨[], HasL.nil _, by decide⟩
  · simp at hcs
    subst hcs
    simp only [if_true] at hmm
    subst hmm
    rw [cellsSlot] at hx
    have hw := hs _ (by simp [DataW.weights, Tryz.underlying58]; exact Or.inl rfl)
    rw [bytesSlot] at hw
    have each : ∀ i, i < m → ∃ s : Slt, ∀ j, j < 5 → W.cell? ((a.add (i * 5)).add j) = s.vals[j]? := by
      intro i hi
      obtain ⟨cs', h1, h2⟩ := hx i hi
      obtain ⟨_, hlen, hcell⟩ := World.cells?_some h1
      match cs', hlen with
      | [c0, c1, c2, c3, c4], _ =>
        obtain ⟨c, r, a', t, b, rfl, rfl, rfl, rfl, rfl, _⟩ := trod_slot h2
        exact ⟨⟨c, r, a', t, b⟩, fun j hj => by rw [hcell j (by omega)]; rfl⟩
    have : Inhabited Slt := ⟨Slt.zero⟩
    obtain ⟨s, hsl⟩ := choose_lt each
    refine ⟨(List.range len).map s, ?_, by rw [List.length_map, List.length_range]; simp only [reachBytes] at hw; omega⟩
    have hlen : ((List.range len).map s).length = len := by simp
    refine ⟨some a, m, by rw [hlen], by rw [hlen]; exact hl, (fun h => by cases h), fun hp => ?_⟩
    rw [hlen] at hp ⊢
    obtain ⟨b, off, spot⟩ := a
    have hc := hsl 0 (by omega) 0 (by omega)
    have hspot : spot = none := by simpa [Addr.add] using World.cell?_spot hc
    subst hspot
    refine ⟨b, off, rfl, fun i hi => SlotAt.of fun j hj => ?_⟩
    have h1 := hsl i (by omega) j hj
    rw [add_plain, add_plain] at h1
    rw [h1]
    simp [List.getD, hi]

end Go.Proofs.YtnemldboiogdkaaGreat

/-
  PLAIN GROUND: what a row's reading says of a slice of numbers and of a state that came in: the numbers that each row holds, and that its bytes are within the reach. No condition.
-/
namespace Go.Proofs.YtnemldboiogdkaaGreat
open Go.ChangeShapes Go.WideShapes Go.ChangeAt Go.RowKit Go.Joins

theorem bytesInt : Tryz.prog.bytesOf 3 = 8 := by kernel_rfl
theorem cellsState : Tryz.prog.cellsOf 54 = 4 := by kernel_rfl
theorem cellsRows : Tryz.prog.cellsOf 52 = 4 := by kernel_rfl
theorem cellsInts : Tryz.prog.cellsOf 43 = 1 := by kernel_rfl

theorem has_of_ints {w : World} {a : Addr} {len cap : Nat} {zs : List Int} (hl : len ≤ cap) (hz : zs.length = cap) (hcell : ∀ i, i < zs.length → w.cell? (a.add i) = some (.int .i64 (zs.getD i 0))) : Has w (.slice (some a) len cap) (zs.take len) := by
  have hlen : (zs.take len).length = len := by rw [List.length_take]; omega
  refine ⟨some a, cap, by rw [hlen], by rw [hlen]; exact hl, (fun h => by cases h), fun hp => ?_⟩
  rw [hlen] at hp ⊢
  obtain ⟨b, off, spot⟩ := a
  have hc := hcell 0 (by omega)
  have hspot : spot = none := by simpa [Addr.add] using World.cell?_spot hc
  subst hspot
  refine ⟨b, off, rfl, fun i hi => ?_⟩
  have h1 := hcell i (by omega)
  rw [add_plain] at h1
  rw [h1]
  simp [List.getD, hi]

set_option maxRecDepth 20000 in
/-- A slice of numbers, read. -/
theorem open_nums {H : Type} {enc : TypeId × Value → H} {W : World} {n : Nat} {c : Value} {y : DataW H × List MemPlace} (h : DataW.trod enc Tryz.prog W 0 (fun _ => true) true n 43 [c] = some y)
    (hs : ∀ k ∈ y.1.weights Tryz.prog 43, k ≤ reachBytes) : ∃ xs, Has W c xs ∧ xs.length * 8 ≤ 140737488351232 := by
  rcases open_ints Tryz.underlying43 Tryz.underlying3 (by kernel_rfl) h with ⟨hcs, _⟩ | ⟨x, l, cp, zs, hcs, _, hl, hm, hz, hd, hcell, hwz⟩
  · simp at hcs
    subst hcs
    exact ⟨[], Has.nil _, by decide⟩
  · simp at hcs
    subst hcs
    have hd0 : y.1 = .slice (lits .i64 (zs.take l)) (lits .i64 (zs.drop l)) := congrArg Prod.fst hd
    have := hs _ (by rw [hd0]; simp [DataW.weights, Tryz.underlying43]; exact Or.inl rfl)
    rw [bytesInt] at this
    simp only [lits, List.length_map, List.length_take, List.length_drop, reachBytes] at this
    exact ⟨zs.take l, has_of_ints hl (by simpa using hz) hcell, by rw [List.length_take]; omega⟩

end Go.Proofs.YtnemldboiogdkaaGreat

/-
  PLAIN GROUND: what a row's reading says of a Config that came in: five numbers. No condition.
-/
namespace Go.Proofs.YtnemldboiogdkaaGreat
open Go.ChangeShapes Go.WideShapes Go.ChangeAt Go.RowKit Go.Joins Go.Deep

theorem cellsCfg : Tryz.prog.cellsOf 23 = 5 := by kernel_rfl
theorem cellsInt1 : Tryz.prog.cellsOf 3 = 1 := by kernel_rfl

theorem trod_struct5 {H : Type} {enc : TypeId × Value → H} {P : Program} {W : World} {base : Nat} {spare : Nat → Bool} {held : Bool} {t : TypeId} {f0 f1 f2 f3 f4 : Field} {fuel : Nat} {cs : List Value} {x : DataW H × List MemPlace} (ht : P.underlying t = some (.struct #[f0, f1, f2, f3, f4])) (h : DataW.trod enc P W base spare held fuel t cs = some x) :
    ∃ y0 y1 y2 y3 y4 n, x = (.agg [y0.1, y1.1, y2.1, y3.1, y4.1], y0.2 ++ (y1.2 ++ (y2.2 ++ (y3.2 ++ y4.2)))) ∧ cs.length = P.cellsOf t ∧ DataW.trod enc P W base spare held n f0.type ((cs.drop f0.offset).take (P.cellsOf f0.type)) = some y0 ∧
      DataW.trod enc P W base spare held n f1.type ((cs.drop f1.offset).take (P.cellsOf f1.type)) = some y1 ∧ DataW.trod enc P W base spare held n f2.type ((cs.drop f2.offset).take (P.cellsOf f2.type)) = some y2 ∧
      DataW.trod enc P W base spare held n f3.type ((cs.drop f3.offset).take (P.cellsOf f3.type)) = some y3 ∧ DataW.trod enc P W base spare held n f4.type ((cs.drop f4.offset).take (P.cellsOf f4.type)) = some y4 := by
  obtain ⟨xs, n, _, rfl, hl, hlen, hf⟩ := DataW.trod_struct ht h
  match xs, hlen with
  | [y0, y1, y2, y3, y4], _ => exact ⟨y0, y1, y2, y3, y4, n, by simp, hl, by simpa using hf 0 f0 rfl, by simpa using hf 1 f1 rfl, by simpa using hf 2 f2 rfl, by simpa using hf 3 f3 rfl, by simpa using hf 4 f4 rfl⟩

set_option maxRecDepth 20000 in
/-- Five cells that read as a Config are five numbers. -/
theorem trod_cfg {H : Type} {enc : TypeId × Value → H} {W : World} {n : Nat} {c0 c1 c2 c3 c4 : Value} {y : DataW H × List MemPlace} (h : DataW.trod enc Tryz.prog W 0 (fun _ => true) true n 23 [c0, c1, c2, c3, c4] = some y) :
    ∃ c r a t b : Int, c0 = .int .i64 c ∧ c1 = .int .i64 r ∧ c2 = .int .i64 a ∧ c3 = .int .i64 t ∧ c4 = .int .i64 b ∧ (Lit.int .i64 c).wf = true ∧ (Lit.int .i64 r).wf = true ∧ (Lit.int .i64 a).wf = true ∧ (Lit.int .i64 t).wf = true ∧ (Lit.int .i64 b).wf = true := by
  obtain ⟨y0, y1, y2, y3, y4, m, _, _, h0, h1, h2, h3, h4⟩ := trod_struct5 Tryz.underlying23 h
  simp [cellsInt1] at h0 h1 h2 h3 h4
  obtain ⟨c, e0, _, wc⟩ := DataW.trod_int Tryz.underlying3 h0
  obtain ⟨r, e1, _, wr⟩ := DataW.trod_int Tryz.underlying3 h1
  obtain ⟨a, e2, _, wa⟩ := DataW.trod_int Tryz.underlying3 h2
  obtain ⟨t, e3, _, wt⟩ := DataW.trod_int Tryz.underlying3 h3
  obtain ⟨b, e4, _, wb⟩ := DataW.trod_int Tryz.underlying3 h4
  simp at e0 e1 e2 e3 e4
  exact ⟨c, r, a, t, b, e0, e1, e2, e3, e4, wc, wr, wa, wt, wb⟩

end Go.Proofs.YtnemldboiogdkaaGreat

/-
  PLAIN GROUND: what a row's reading says of a machine that came in: its Config's numbers, its logs, replicas, threads and events, and that all of it can be copied. No condition.
-/
namespace Go.Proofs.YtnemldboiogdkaaGreat
open Go.ChangeShapes Go.WideShapes Go.ChangeAt Go.RowKit Go.Joins Go.Deep

theorem weightsAll_mem {H : Type} {P : Program} {e : TypeId} {d : DataW H} {k : Nat} (hk : k ∈ d.weights P e) : ∀ l : List (DataW H), d ∈ l → k ∈ DataW.weightsAll P e l
  | [], h => by cases h
  | x :: l, h => by
    unfold DataW.weightsAll
    rcases List.mem_cons.1 h with rfl | h
    · exact List.mem_append.2 (.inl hk)
    · exact List.mem_append.2 (.inr (weightsAll_mem hk l h))

/-- A slice of elements, read. -/
theorem open_row {α : Type} (K : Kind α) {tS : TypeId} (hu : Tryz.prog.underlying tS = some (.slice K.t)) (hc : Tryz.prog.cellsOf K.t = K.k) (hb : Tryz.prog.bytesOf K.t = K.by') {H : Type} {enc : TypeId × Value → H} {W : World} (G : α → Prop)
    (hel : ∀ (n : Nat) (cs : List Value) (y : DataW H × List MemPlace), cs.length = K.k → DataW.trod enc Tryz.prog W 0 (fun _ => true) true n K.t cs = some y → (∀ k ∈ y.1.weights Tryz.prog K.t, k ≤ reachBytes) → ∃ x : α, cs = K.f x ∧ G x)
    {n : Nat} {c : Value} {y : DataW H × List MemPlace} (h : DataW.trod enc Tryz.prog W 0 (fun _ => true) true n tS [c] = some y) (hs : ∀ k ∈ y.1.weights Tryz.prog tS, k ≤ reachBytes) : ∃ xs, HasE K W c xs ∧ (∀ x ∈ xs, G x) ∧ xs.length * K.by' ≤ 140737488351232 := by
  rcases open_slice hu h with ⟨hcs, _⟩ | ⟨a, len, cap, m, n', D, Pl, hcs, _, hl, hm, hmm, rfl, hx⟩
  · simp at hcs
    subst hcs
    exact ⟨[], HasE.nil _ _, (fun x h => by cases h), by simp⟩
  · simp at hcs
    subst hcs
    simp only [if_true] at hmm
    subst hmm
    rw [hc] at hx
    have hw := hs _ (by simp [DataW.weights, hu]; exact Or.inl rfl)
    rw [hb] at hw
    have each : ∀ i, i < len → ∃ x : α, (∀ j, j < K.k → W.cell? ((a.add (i * K.k)).add j) = (K.f x)[j]?) ∧ G x := by
      intro i hi
      obtain ⟨cs', h1, h2⟩ := hx i (by omega)
      obtain ⟨_, hlen, hcell⟩ := World.cells?_some h1
      obtain ⟨x, rfl, hg⟩ := hel n' cs' _ hlen h2 (fun k hk => hs k (by
        simp only [DataW.weights, hu]
        refine List.mem_cons_of_mem _ (List.mem_append.2 (.inl (weightsAll_mem hk _ ?_)))
        exact List.mem_map.2 ⟨i, List.mem_range.2 hi, rfl⟩))
      exact ⟨x, fun j hj => hcell j (by omega), hg⟩
    have : Inhabited α := ⟨K.d⟩
    obtain ⟨s, hsl⟩ := choose_lt each
    have hlen : ((List.range len).map s).length = len := by simp
    refine ⟨(List.range len).map s, ?_, fun x hx => ?_, ?_⟩
    · refine ⟨some a, m, by rw [hlen], by rw [hlen]; exact hl, (fun h => by cases h), fun hp => ?_⟩
      rw [hlen] at hp ⊢
      obtain ⟨b, off, spot⟩ := a
      have hk := K.pos
      have hc0 := (hsl 0 (by omega)).1 0 hk
      have hlt : 0 < (K.f (s 0)).length := by rw [K.len]; exact hk
      rw [List.getElem?_eq_getElem hlt] at hc0
      have hspot : spot = none := by simpa [Addr.add] using World.cell?_spot hc0
      subst hspot
      refine ⟨b, off, rfl, fun i hi j hj => ?_⟩
      have h1 := (hsl i hi).1 j hj
      rw [add_plain, add_plain] at h1
      rw [h1]
      simp [List.getD, hi]
    · obtain ⟨i, hi, rfl⟩ := List.mem_map.1 hx
      exact (hsl i (List.mem_range.1 hi)).2
    · rw [hlen]
      simp only [reachBytes] at hw
      have : len * K.by' ≤ (len + (m - len)) * K.by' := Nat.mul_le_mul_right _ (by omega)
      omega

theorem cellsInt2 : Tryz.prog.cellsOf 3 = 1 := by kernel_rfl
theorem cellsBool : Tryz.prog.cellsOf 4 = 1 := by kernel_rfl
theorem cellsOp2 : Tryz.prog.cellsOf 42 = 3 := by kernel_rfl

/-- Four cells that read as a ring. -/
theorem open_ringE {H : Type} {enc : TypeId × Value → H} {W : World} (n : Nat) (cs : List Value) (y : DataW H × List MemPlace) (hlen : cs.length = 4) (h : DataW.trod enc Tryz.prog W 0 (fun _ => true) true n 60 cs = some y) (hs : ∀ k ∈ y.1.weights Tryz.prog 60, k ≤ reachBytes) :
    ∃ x : LR, cs = LR.cells x ∧ HasL W (slV x.q) x.R.ss ∧ FitR x.R := by
  match cs, hlen with
  | [c0, c1, c2, c3], _ =>
    obtain ⟨y0, y1, y2, y3, n, hx, _, h0, h1, h2, h3⟩ := trod_struct4 Tryz.underlying60 h
    simp [cellsInt2, cellsSlots] at h0 h1 h2 h3
    have hd : y.1 = .agg [y0.1, y1.1, y2.1, y3.1] := congrArg Prod.fst hx
    obtain ⟨x0, e0, _, w0⟩ := DataW.trod_int Tryz.underlying3 h0
    obtain ⟨x1, e1, _, w1⟩ := DataW.trod_int Tryz.underlying3 h1
    obtain ⟨x2, e2, _, w2⟩ := DataW.trod_int Tryz.underlying3 h2
    simp at e0 e1 e2
    subst e0 e1 e2
    obtain ⟨ss, a0, b0⟩ := open_slots h3 (fun k hk => hs k (by
      rw [hd]
      simp [DataW.weights, DataW.weightsEach, Tryz.underlying60]
      exact Or.inr (Or.inr (Or.inr hk))))
    obtain ⟨q, rfl⟩ := a0.sl
    exact ⟨⟨⟨x0, x1, x2, ss⟩, q⟩, rfl, a0, b0⟩

/-- Six cells that read as a replica. -/
theorem open_repE {H : Type} {enc : TypeId × Value → H} {W : World} (n : Nat) (cs : List Value) (y : DataW H × List MemPlace) (hlen : cs.length = 6) (h : DataW.trod enc Tryz.prog W 0 (fun _ => true) true n 56 cs = some y) (hs : ∀ k ∈ y.1.weights Tryz.prog 56, k ≤ reachBytes) :
    ∃ x : LP, cs = LP.cells x ∧ (∀ i, i < 4 → Has W (slV (x.vs i)) (x.P.s.at i)) ∧ Has W (slV x.c) x.P.cs ∧ Has W (slV x.l) x.P.ls ∧ Fit x.P.s ∧ x.P.cs.length * 8 ≤ 140737488351232 ∧ x.P.ls.length * 8 ≤ 140737488351232 := by
  match cs, hlen with
  | [c0, c1, c2, c3, c4, c5], _ =>
    obtain ⟨ys, m, _, hx, _, hlen', hf⟩ := DataW.trod_struct Tryz.underlying56 h
    match ys, hlen' with
    | [y0, y1, y2], _ =>
      have hd : y.1 = .agg [y0.1, y1.1, y2.1] := congrArg Prod.fst hx
      have h0 := hf 0 _ rfl
      have h1 := hf 1 _ rfl
      have h2 := hf 2 _ rfl
      simp [cellsState, cellsInts] at h0 h1 h2
      have hw : ∀ k, k ∈ y0.1.weights Tryz.prog 54 ∨ k ∈ y1.1.weights Tryz.prog 43 ∨ k ∈ y2.1.weights Tryz.prog 43 → k ≤ reachBytes := fun k hk => hs k (by
        rw [hd]
        simp [DataW.weights, DataW.weightsEach, Tryz.underlying56]
        exact hk)
      obtain ⟨z, m1, hz, _, g1⟩ := trod_struct1 Tryz.underlying54 h0
      simp [cellsRows] at g1
      obtain ⟨z0, z1, z2, z3, m2, hy, t0, t1, t2, t3⟩ := trod_array4 Tryz.underlying52 cellsInts g1
      have hd0 : y0.1 = .agg [.agg [z0.1, z1.1, z2.1, z3.1]] := by
        have := congrArg Prod.fst hz
        simp only [hy] at this
        exact this
      have hw0 : ∀ k, k ∈ z0.1.weights Tryz.prog 43 ∨ k ∈ z1.1.weights Tryz.prog 43 ∨ k ∈ z2.1.weights Tryz.prog 43 ∨ k ∈ z3.1.weights Tryz.prog 43 → k ≤ reachBytes := fun k hk => hw k (.inl (by
        rw [hd0]
        simp [DataW.weights, DataW.weightsEach, DataW.weightsAll, Tryz.underlying54, Tryz.underlying52]
        exact hk))
      obtain ⟨x0, a0, b0⟩ := open_nums t0 (fun k hk => hw0 k (.inl hk))
      obtain ⟨x1, a1, b1⟩ := open_nums t1 (fun k hk => hw0 k (.inr (.inl hk)))
      obtain ⟨x2, a2, b2⟩ := open_nums t2 (fun k hk => hw0 k (.inr (.inr (.inl hk))))
      obtain ⟨x3, a3, b3⟩ := open_nums t3 (fun k hk => hw0 k (.inr (.inr (.inr hk))))
      obtain ⟨x4, a4, b4⟩ := open_nums h1 (fun k hk => hw k (.inr (.inl hk)))
      obtain ⟨x5, a5, b5⟩ := open_nums h2 (fun k hk => hw k (.inr (.inr hk)))
      obtain ⟨q0, rfl⟩ := a0.sl
      obtain ⟨q1, rfl⟩ := a1.sl
      obtain ⟨q2, rfl⟩ := a2.sl
      obtain ⟨q3, rfl⟩ := a3.sl
      obtain ⟨q4, rfl⟩ := a4.sl
      obtain ⟨q5, rfl⟩ := a5.sl
      refine ⟨⟨⟨⟨x0, x1, x2, x3⟩, x4, x5⟩, fun i => match i with | 0 => q0 | 1 => q1 | 2 => q2 | _ => q3, q4, q5⟩, rfl, fun i hi => ?_, a4, a5, fun i hi => ?_, b4, b5⟩
      · rcases four hi with rfl | rfl | rfl | rfl
        · exact a0
        · exact a1
        · exact a2
        · exact a3
      · rcases four hi with rfl | rfl | rfl | rfl
        · exact b0
        · exact b1
        · exact b2
        · exact b3

/-- Three cells that read as an operation. -/
theorem trod_op {H : Type} {enc : TypeId × Value → H} {W : World} {n : Nat} {c0 c1 c2 : Value} {y : DataW H × List MemPlace} (h : DataW.trod enc Tryz.prog W 0 (fun _ => true) true n 42 [c0, c1, c2] = some y) : ∃ c r a : Int, c0 = .int .i64 c ∧ c1 = .int .i64 r ∧ c2 = .int .i64 a := by
  obtain ⟨ys, m, _, hx, _, hlen', hf⟩ := DataW.trod_struct Tryz.underlying42 h
  match ys, hlen' with
  | [y0, y1, y2], _ =>
    have h0 := hf 0 _ rfl
    have h1 := hf 1 _ rfl
    have h2 := hf 2 _ rfl
    simp [cellsInt2] at h0 h1 h2
    obtain ⟨x0, e0, _, _⟩ := DataW.trod_int Tryz.underlying3 h0
    obtain ⟨x1, e1, _, _⟩ := DataW.trod_int Tryz.underlying3 h1
    obtain ⟨x2, e2, _, _⟩ := DataW.trod_int Tryz.underlying3 h2
    simp at e0 e1 e2
    exact ⟨x0, x1, x2, e0, e1, e2⟩

/-- Six cells that read as an event. -/
theorem open_evE {H : Type} {enc : TypeId × Value → H} {W : World} (n : Nat) (cs : List Value) (y : DataW H × List MemPlace) (hlen : cs.length = 6) (h : DataW.trod enc Tryz.prog W 0 (fun _ => true) true n 89 cs = some y) (_hs : ∀ k ∈ y.1.weights Tryz.prog 89, k ≤ reachBytes) :
    ∃ x : Ev, cs = Ev.cells x ∧ True := by
  match cs, hlen with
  | [c0, c1, c2, c3, c4, c5], _ =>
    obtain ⟨ys, m, _, hx, _, hlen', hf⟩ := DataW.trod_struct Tryz.underlying89 h
    match ys, hlen' with
    | [y0, y1, y2, y3], _ =>
      have h0 := hf 0 _ rfl
      have h1 := hf 1 _ rfl
      have h2 := hf 2 _ rfl
      have h3 := hf 3 _ rfl
      simp [cellsInt2, cellsBool, cellsOp2] at h0 h1 h2 h3
      obtain ⟨x0, e0, _, _⟩ := DataW.trod_int Tryz.underlying3 h0
      obtain ⟨x1, e1, _⟩ := DataW.trod_bool Tryz.underlying4 h1
      obtain ⟨x2, x3, x4, e2, e3, e4⟩ := trod_op h2
      obtain ⟨x5, e5, _, _⟩ := DataW.trod_int Tryz.underlying3 h3
      simp at e0 e1 e5
      subst e0 e1 e2 e3 e4 e5
      exact ⟨⟨x0, x1, x2, x3, x4, x5⟩, rfl, trivial⟩

/-- Twelve cells that read as a thread. -/
theorem open_thE {H : Type} {enc : TypeId × Value → H} {W : World} (n : Nat) (cs : List Value) (y : DataW H × List MemPlace) (hlen : cs.length = 12) (h : DataW.trod enc Tryz.prog W 0 (fun _ => true) true n 45 cs = some y) (hs : ∀ k ∈ y.1.weights Tryz.prog 45, k ≤ reachBytes) :
    ∃ x : LT, cs = LT.cells x ∧ Has W (slV x.b) x.T.b ∧ Has W (slV x.t) x.T.tl ∧ x.T.b.length * 8 ≤ 140737488351232 ∧ x.T.tl.length * 8 ≤ 140737488351232 := by
  match cs, hlen with
  | [c0, c1, c2, c3, c4, c5, c6, c7, c8, c9, c10, c11], _ =>
    obtain ⟨ys, m, _, hx, _, hlen', hf⟩ := DataW.trod_struct Tryz.underlying45 h
    match ys, hlen' with
    | [y0, y1, y2, y3, y4, y5, y6, y7, y8, y9], _ =>
      have hd : y.1 = .agg [y0.1, y1.1, y2.1, y3.1, y4.1, y5.1, y6.1, y7.1, y8.1, y9.1] := congrArg Prod.fst hx
      have h0 := hf 0 _ rfl
      have h1 := hf 1 _ rfl
      have h2 := hf 2 _ rfl
      have h3 := hf 3 _ rfl
      have h4 := hf 4 _ rfl
      have h5 := hf 5 _ rfl
      have h6 := hf 6 _ rfl
      have h7 := hf 7 _ rfl
      have h8 := hf 8 _ rfl
      have h9 := hf 9 _ rfl
      simp [cellsInt2, cellsBool, cellsOp2, cellsInts] at h0 h1 h2 h3 h4 h5 h6 h7 h8 h9
      have hw : ∀ k, k ∈ y4.1.weights Tryz.prog 43 ∨ k ∈ y9.1.weights Tryz.prog 43 → k ≤ reachBytes := fun k hk => hs k (by
        rw [hd]
        simp only [DataW.weights, DataW.weightsEach, Tryz.underlying45, List.map_cons, List.map_nil, List.mem_append]
        rcases hk with hk | hk
        · exact .inr (.inr (.inr (.inr (.inl hk))))
        · exact .inr (.inr (.inr (.inr (.inr (.inr (.inr (.inr (.inr (.inl hk))))))))))
      obtain ⟨x0, e0, _, _⟩ := DataW.trod_int Tryz.underlying3 h0
      obtain ⟨x1, x2, x3, e1, e2, e3⟩ := trod_op h1
      obtain ⟨x4, e4, _, _⟩ := DataW.trod_int Tryz.underlying3 h2
      obtain ⟨x5, e5, _, _⟩ := DataW.trod_int Tryz.underlying3 h3
      obtain ⟨x6, a6, b6⟩ := open_nums h4 (fun k hk => hw k (.inl hk))
      obtain ⟨x7, e7, _, _⟩ := DataW.trod_int Tryz.underlying3 h5
      obtain ⟨x8, e8, _⟩ := DataW.trod_bool Tryz.underlying4 h6
      obtain ⟨x9, e9, _⟩ := DataW.trod_bool Tryz.underlying4 h7
      obtain ⟨x10, e10, _, _⟩ := DataW.trod_int Tryz.underlying3 h8
      obtain ⟨x11, a11, b11⟩ := open_nums h9 (fun k hk => hw k (.inr hk))
      simp at e0 e4 e5 e7 e8 e9 e10
      subst e0 e1 e2 e3 e4 e5 e7 e8 e9 e10
      obtain ⟨q6, rfl⟩ := a6.sl
      obtain ⟨q11, rfl⟩ := a11.sl
      exact ⟨⟨⟨x0, x1, x2, x3, x4, x5, x6, x7, x8, x9, x10, x11⟩, q6, q11⟩, rfl, a6, a11, b6, b11⟩

theorem cellsMach : Tryz.prog.cellsOf 29 = 9 := by kernel_rfl
theorem cellsS1 : Tryz.prog.cellsOf 24 = 1 := by kernel_rfl
theorem cellsS2 : Tryz.prog.cellsOf 25 = 1 := by kernel_rfl
theorem cellsS3 : Tryz.prog.cellsOf 26 = 1 := by kernel_rfl
theorem cellsS4 : Tryz.prog.cellsOf 27 = 1 := by kernel_rfl
theorem array9 {α : Type} {cs : Array α} (h : cs.size = 9) : ∃ c0 c1 c2 c3 c4 c5 c6 c7 c8, cs = #[c0, c1, c2, c3, c4, c5, c6, c7, c8] := by
  obtain ⟨l⟩ := cs
  match l, h with
  | [c0, c1, c2, c3, c4, c5, c6, c7, c8], _ => exact ⟨c0, c1, c2, c3, c4, c5, c6, c7, c8, rfl⟩

set_option maxRecDepth 20000 in
/-- A machine, read. -/
theorem open_mach {H : Type} {enc : TypeId × Value → H} {W : World} {base : Nat} {v : Value} {d : DataW H} {p : List MemPlace} (hv : Value.okWide Tryz.prog W .any base 29 v)
    (h : DataW.Trod enc Tryz.prog W 0 (fun _ => true) true 29 v d p) (hs : ∀ k ∈ d.weights Tryz.prog 29, k ≤ reachBytes) : ∃ M, HasM W v M ∧ FitM M := by
  obtain ⟨cs, rfl, hsz⟩ := okWide_struct Tryz.underlying29 hv
  obtain ⟨c0, c1, c2, c3, c4, c5, c6, c7, c8, rfl⟩ := array9 (hsz.trans cellsMach)
  obtain ⟨fuel, hf⟩ := h
  obtain ⟨y0, y1, y2, y3, y4, n, hx, _, h0, h1, h2, h3, h4⟩ := trod_struct5 Tryz.underlying29 hf
  simp [Value.cells, cellsCfg, cellsS1, cellsS2, cellsS3, cellsS4] at h0 h1 h2 h3 h4
  have hd : d = .agg [y0.1, y1.1, y2.1, y3.1, y4.1] := congrArg Prod.fst hx
  have hw : ∀ k, k ∈ y1.1.weights Tryz.prog 24 ∨ k ∈ y2.1.weights Tryz.prog 25 ∨ k ∈ y3.1.weights Tryz.prog 26 ∨ k ∈ y4.1.weights Tryz.prog 27 → k ≤ reachBytes := fun k hk => hs k (by
    rw [hd]
    simp [DataW.weights, DataW.weightsEach, Tryz.underlying29]
    exact Or.inr hk)
  obtain ⟨o, r, l, t, s, rfl, rfl, rfl, rfl, rfl, _⟩ := trod_cfg h0
  obtain ⟨rs, hR, gR, fR⟩ := open_row ringK (tS := 24) Tryz.underlying24 (by kernel_rfl) (by kernel_rfl) (fun x => HasL W (slV x.q) x.R.ss ∧ FitR x.R) (fun n cs y hl h hs => open_ringE n cs y hl h hs) h1 (fun k hk => hw k (.inl hk))
  obtain ⟨ps, hP, gP, fP⟩ := open_row repK (tS := 25) Tryz.underlying25 (by kernel_rfl) (by kernel_rfl) (fun x => (∀ i, i < 4 → Has W (slV (x.vs i)) (x.P.s.at i)) ∧ Has W (slV x.c) x.P.cs ∧ Has W (slV x.l) x.P.ls ∧ Fit x.P.s ∧ x.P.cs.length * 8 ≤ 140737488351232 ∧ x.P.ls.length * 8 ≤ 140737488351232) (fun n cs y hl h hs => open_repE n cs y hl h hs) h2 (fun k hk => hw k (.inr (.inl hk)))
  obtain ⟨ts, hT, gT, fT⟩ := open_row thK (tS := 26) Tryz.underlying26 (by kernel_rfl) (by kernel_rfl) (fun x => Has W (slV x.b) x.T.b ∧ Has W (slV x.t) x.T.tl ∧ x.T.b.length * 8 ≤ 140737488351232 ∧ x.T.tl.length * 8 ≤ 140737488351232) (fun n cs y hl h hs => open_thE n cs y hl h hs) h3 (fun k hk => hw k (.inr (.inr (.inl hk))))
  obtain ⟨es, hE, _, fE⟩ := open_row evK (tS := 27) Tryz.underlying27 (by kernel_rfl) (by kernel_rfl) (fun _ => True) (fun n cs y hl h hs => open_evE n cs y hl h hs) h4 (fun k hk => hw k (.inr (.inr (.inr hk))))
  obtain ⟨qR, rfl⟩ := hR.sl
  obtain ⟨qP, rfl⟩ := hP.sl
  obtain ⟨qT, rfl⟩ := hT.sl
  obtain ⟨qH, rfl⟩ := hE.sl
  refine ⟨⟨⟨o, r, l, t, s⟩, rs.map LR.R, ps.map LP.P, ts.map LT.T, es⟩, ⟨qR, qP, qT, qH, rfl, ⟨rs, rfl, hR, fun x hx => (gR x hx).1⟩, ⟨ps, rfl, hP, fun x hx => ⟨(gP x hx).1, (gP x hx).2.1, (gP x hx).2.2.1⟩⟩, ⟨ts, rfl, hT, fun x hx => ⟨(gT x hx).1, (gT x hx).2.1⟩⟩, hE⟩, ⟨by rw [List.length_map]; exact fR, by rw [List.length_map]; exact fP, by rw [List.length_map]; exact fT, fE, fun R hR' => ?_, fun P hP' => ?_, fun T hT' => ?_⟩⟩
  · obtain ⟨x, hx, rfl⟩ := List.mem_map.1 hR'
    exact (gR x hx).2
  · obtain ⟨x, hx, rfl⟩ := List.mem_map.1 hP'
    exact (gP x hx).2.2.2
  · obtain ⟨x, hx, rfl⟩ := List.mem_map.1 hT'
    exact (gT x hx).2.2

end Go.Proofs.YtnemldboiogdkaaGreat
