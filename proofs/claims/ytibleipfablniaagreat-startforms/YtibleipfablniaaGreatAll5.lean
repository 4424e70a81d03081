/-
  PARTS LAID TOGETHER, each with its own opening: MtG, MtH, MtI, NwR, GdA, SfA, Bits, GdB, StC, LmE.
-/
import Derived.Test.YtibleipfablniaaGreatAll4
import Derived.Test.YtibleipfablniaaGreatAll2
import Derived.Test.YtibleipfablniaaGreatAll1
import Derived.Laws.BitsLemmas
import Derived.Test.YtibleipfablniaaGreatAll3
import Derived.Deep.CutRange
/-
  THE WALKS over the document's Update: a step of a thread that turns something. Condition: that the machine's rows can be copied.
-/
namespace Go.Proofs.YtibleipfablniaaGreat
open Go.RowKit

theorem FitM.putT {M : Mc} (h : FitM M) (t : Int) {x : Th} (hx : x.b.length * 8 ≤ 140737488351232 ∧ x.tl.length * 8 ≤ 140737488351232) : FitM (M.putT t x) := by
  refine ⟨h.rs, h.ps, by simpa [Mc.putT] using h.ts, h.es, h.r, h.p, fun T hT => ?_⟩
  rcases List.mem_or_eq_of_mem_set (show T ∈ M.ts.set t.toNat x from hT) with hT | rfl
  · exact h.t T hT
  · exact hx
theorem FitM.th {M : Mc} (h : FitM M) (t : Int) : (M.th t).b.length * 8 ≤ 140737488351232 ∧ (M.th t).tl.length * 8 ≤ 140737488351232 := by
  unfold Mc.th
  rcases Nat.lt_or_ge t.toNat M.ts.length with ht | ht
  · exact h.t _ (getD_mem ht)
  · rw [getD_out ht]; decide
theorem FitM.rp {M : Mc} (h : FitM M) (r : Int) : Fit (M.rp r).s ∧ (M.rp r).cs.length * 8 ≤ 140737488351232 ∧ (M.rp r).ls.length * 8 ≤ 140737488351232 := by
  unfold Mc.rp
  rcases Nat.lt_or_ge r.toNat M.ps.length with ht | ht
  · exact h.p _ (getD_mem ht)
  · rw [getD_out ht]; exact ⟨fit_zero, by decide, by decide⟩
theorem FitM.putP {M : Mc} (h : FitM M) (r : Int) {x : Rp} (hx : Fit x.s ∧ x.cs.length * 8 ≤ 140737488351232 ∧ x.ls.length * 8 ≤ 140737488351232) : FitM (M.putP r x) := by
  refine ⟨h.rs, by simpa [Mc.putP] using h.ps, h.ts, h.es, h.r, fun P hP => ?_, h.t⟩
  rcases List.mem_or_eq_of_mem_set (show P ∈ M.ps.set r.toNat x from hP) with hP | rfl
  · exact h.p P hP
  · exact hx
theorem postM_fit {M : Mc} (h : FitM M) (t : Int) : FitM (postM M t).1 := by
  unfold postM
  split
  · exact h.putT t (h.th t)
  · exact fitM_zero
theorem tryM_fit {M : Mc} (h : FitM M) (r g t : Int) : FitM (tryM M r g t).1 := by
  unfold tryM
  split
  · split
    · refine h.putP r ⟨(h.rp r).1, (h.rp r).2.1, ?_⟩
      simpa [Rp.setLock] using (h.rp r).2.2
    · exact h
  · exact fitM_zero
theorem postM_ts {M : Mc} {t : Int} (h : thereB M 0 0 t = true) : (postM M t).1.ts.length = M.ts.length := by
  unfold postM
  rw [if_pos h]
  simp [Mc.putT]
theorem tryM_ts {M : Mc} {r g t : Int} (h : thereB M r g t = true) : (tryM M r g t).1.ts.length = M.ts.length := by
  unfold tryM
  rw [if_pos h]
  split
  · rfl
  · rfl

set_option maxRecDepth 8000 in
set_option maxHeartbeats 8000000 in
theorem rmUpd1 (v : Value) (M : Mc) (t : Int) (w : World) (hx : HasM w v M) (hf : FitM M) (h1 : thereB M 0 0 t = true) (h2 : opUp (M.th t).c (M.th t).r (M.th t).a = true) (h3 : (M.th t).st = 1) : Calls Tryz.prog 74 #[v, .int .i64 t] w fun e w' => ∃ v', e = .returned (.tuple #[v', .int .i64 0]) ∧ OwnA w' w.heap.size v' (stepM (postM M t).1 t 2) ∧ Le w w' := by
  have m2 := fun w' (l : Le w w') => rmPost v M t w' (hx.le l) hf
  have hpf := postM_fit hf t
  have hpl := postM_ts h1
  have m1 := fun w' (l : Le w w') => rmThere v M 0 0 t w' (hx.le l) hf
  obtain ⟨hmay, _, _, ⟨t0, t1⟩⟩ := thereB_cases h1
  obtain ⟨hrs, hps, hts, _⟩ := mayM_lens hmay
  obtain ⟨_, ⟨r2, r3⟩, ⟨_, l3⟩, ⟨t2, t3⟩, _, _⟩ := Cfg.ok_cases (mayM_ok hmay)
  obtain ⟨t, rfl⟩ : ∃ n : Nat, t = n := ⟨t.toNat, by omega⟩
  have hti : t < M.ts.length := by omega
  have hti' : (t : Int) < (M.ts.length : Int) := by omega
  have hxw := hx
  obtain ⟨_, _, ⟨g0, g1⟩, _, _, _, _, _, _⟩ := thB_cases (Mc.th_may hmay hti)
  obtain ⟨g, hg⟩ : ∃ n : Nat, (M.th t).lg = n := ⟨(M.th t).lg.toNat, by omega⟩
  obtain ⟨r, hr0⟩ : ∃ n : Nat, M.home t = n := ⟨(M.home t).toNat, by have := Int.emod_nonneg (t : Int) (show M.c.r ≠ 0 by omega); unfold Mc.home; omega⟩
  have hrr : (r : Int) < M.c.r := by have := Int.emod_lt_of_pos (t : Int) (show 0 < M.c.r by omega); unfold Mc.home at hr0; omega
  have htm : (t : Int).tmod M.c.r = (r : Int) := by rw [← hr0]; exact Int.tmod_eq_emod_of_nonneg (by omega)
  have htm2 : (t : Int) % M.c.r = (r : Int) := hr0
  have hne0 : ¬ M.c.r = 0 := by omega
  obtain ⟨bR, oR, cR, bP, oP, cP, bT, oT, cT, qH, rfl, hcR, hcP, hcT, _⟩ := hx.opens hmay
  obtain ⟨⟨b0, b1, b2⟩, qt, hat, hbb, _⟩ := hcT t hti
  have hb1 := has_len hbb
  rw [← Mc.th_nat] at hat hb1
  simp only [h1] at m1
  obtain ⟨T, hT⟩ : ∃ T, T = M.th t := ⟨_, rfl⟩
  have HT : Hid (T = M.th t) := hT
  have HG : Hid ((M.th t).lg = g) := hg
  have HH : Hid (M.home t = r) := hr0
  have HMAY : Hid (mayM M = true) := hmay
  rw [← hT] at h2 h3 hg hat hb1
  clear hT hr0
  obtain ⟨tst, tc, tr, ta, tlg, tsn, tb, tpl, tpo, tre, tan, ttl⟩ := T
  simp only at h2 h3 hg hb1
  subst h3 hg
  have HB1 : Hid (b1 = tb.length) := hb1
  clear h1 hb1 hmay hrs hps hts hbb hcT hcR hx
  have hr := Box.new (w.alloc (.cells (cells9 M.c (some ⟨bR, oR, none⟩, M.rs.length, cR) (some ⟨bP, oP, none⟩, M.ps.length, cP) (some ⟨bT, oT, none⟩, M.ts.length, cT) qH) 29)) cellsZ9 29
  have hb := (Box.new w (cells9 M.c (some ⟨bR, oR, none⟩, M.rs.length, cR) (some ⟨bP, oP, none⟩, M.ps.length, cP) (some ⟨bT, oT, none⟩, M.ts.length, cT) qH) 29).le (Le.alloc _ (.cells cellsZ9 29))
  have hl := (Le.alloc w (.cells (cells9 M.c (some ⟨bR, oR, none⟩, M.rs.length, cR) (some ⟨bP, oP, none⟩, M.ps.length, cP) (some ⟨bT, oT, none⟩, M.ts.length, cT) qH) 29)).trans (Le.alloc _ (.cells cellsZ9 29))
  rw [World.size_alloc] at hr
  go_enter Tryz.func74, Tryz.ntmps74
  go_upto_region 1 with fail
  generalize hW : (w.alloc (.cells (cells9 M.c (some ⟨bR, oR, none⟩, M.rs.length, cR) (some ⟨bP, oP, none⟩, M.ps.length, cP) (some ⟨bT, oT, none⟩, M.ts.length, cT) qH) 29)).alloc (.cells cellsZ9 29) = W at hl hb hr ⊢
  clear hW
  have hgr := hr.lt
  obtain ⟨⟨z0, z1, z2, z3, z4⟩, z5, z6, z7, z8⟩ := (hb).mach
  go_wp2_with fail
  refine (m1 _ hl).mono ?_
  rintro e w1 ⟨rfl, l1⟩
  clear z0 z1 z2 z3 z4 z5 z6 z7 z8
  clear m1
  replace hb := hb.le l1
  replace hl := hl.trans l1
  have hgr := Nat.lt_of_lt_of_le hgr l1.size
  replace hr := hr.le l1
  clear l1
  obtain ⟨x0, x1, x2, x3, x4, x5, x6, x7, x8, x9, x10, x11⟩ := hat.le hl
  obtain ⟨⟨z0, z1, z2, z3, z4⟩, z5, z6, z7, z8⟩ := (hb).mach
  simp only [slV] at z7
  go_wp2_with fail
  refine (refUpdates _ _ _ _).mono ?_
  rw [h2]
  rintro e w2 ⟨rfl, l1⟩
  clear x0 x1 x2 x3 x4 x5 x6 x7 x8 x9 x10 x11 h2
  clear z0 z1 z2 z3 z4 z5 z6 z7 z8
  replace hb := hb.le l1
  replace hl := hl.trans l1
  have hgr := Nat.lt_of_lt_of_le hgr l1.size
  replace hr := hr.le l1
  clear l1
  obtain ⟨x0, x1, x2, x3, x4, x5, x6, x7, x8, x9, x10, x11⟩ := hat.le hl
  obtain ⟨⟨z0, z1, z2, z3, z4⟩, z5, z6, z7, z8⟩ := (hb).mach
  simp only [slV] at z7
  have bx := Box.new w2 (cellsT ⟨1, tc, tr, ta, (g : Int), tsn, tb, tpl, tpo, tre, tan, ttl⟩ (b0, b1, b2) qt) 58
  have a1 := Le.alloc w2 (.cells (cellsT ⟨1, tc, tr, ta, (g : Int), tsn, tb, tpl, tpo, tre, tan, ttl⟩ (b0, b1, b2) qt) 58)
  go_upto_region 4 with fail
  generalize hW1 : w2.alloc (.cells (cellsT ⟨1, tc, tr, ta, (g : Int), tsn, tb, tpl, tpo, tre, tan, ttl⟩ (b0, b1, b2) qt) 58) = W2 at bx a1 ⊢
  clear hW1
  have hgbx : w2.heap.size ≤ w2.heap.size := Nat.le_refl _
  generalize hgg : w2.heap.size = gbx at bx hgbx ⊢
  have hsbx : w2.heap.size ≤ gbx := by omega
  clear hgg hgbx
  have hgr := Nat.lt_of_lt_of_le hgr a1.size
  replace hl := hl.trans a1
  replace hb := hb.le a1
  replace hr := hr.le a1
  clear a1 x0 x1 x2 x3 x4 x5 x6 x7 x8 x9 x10 x11
  clear z0 z1 z2 z3 z4 z5 z6 z7 z8
  obtain ⟨x0, x1, x2, x3, x4, x5, x6, x7, x8, x9, x10, x11⟩ := bx.th
  obtain ⟨⟨z0, z1, z2, z3, z4⟩, z5, z6, z7, z8⟩ := (hb).mach
  go_quiet (fail)
  clear x0 x1 x2 x3 x4 x5 x6 x7 x8 x9 x10 x11
  clear z0 z1 z2 z3 z4 z5 z6 z7 z8
  have l1 := Le.drewN W2 nq
  generalize W2.drewN nq = W3 at l1 ⊢
  replace hb := hb.le l1
  replace hl := hl.trans l1
  have hgr := Nat.lt_of_lt_of_le hgr l1.size
  replace hr := hr.le l1
  replace bx := bx.le l1
  clear l1
  obtain ⟨x0, x1, x2, x3, x4, x5, x6, x7, x8, x9, x10, x11⟩ := bx.th
  obtain ⟨⟨z0, z1, z2, z3, z4⟩, z5, z6, z7, z8⟩ := (hb).mach
  go_wp2_with fail
  refine (m2 _ hl).mono ?_
  rintro e w9 ⟨_, rfl, ⟨L, rfl, HM, o1, ap⟩, l1⟩
  clear z0 z1 z2 z3 z4 z5 z6 z7 z8
  clear m2 x0 x1 x2 x3 x4 x5 x6 x7 x8 x9 x10 x11
  have hbo := Box.new w9 (cells9 L.c L.qR L.qP L.qT L.qH) 29
  have a1 := Le.alloc w9 (.cells (cells9 L.c L.qR L.qP L.qT L.qH) 29)
  go_upto_region 8 with fail
  generalize hW1 : w9.alloc (.cells (cells9 L.c L.qR L.qP L.qT L.qH) 29) = W4 at hbo a1 ⊢
  clear hW1
  have I : MoI W3.heap.size w9.heap.size W4 L := ⟨hbo, l1.size, o1.le a1, ap⟩
  have hgo : W3.heap.size ≤ w9.heap.size := l1.size
  generalize w9.heap.size = go at hbo I hgo ⊢
  have l01 := l1.trans a1
  clear hbo o1 ap l1 a1
  obtain ⟨c', uR, uP, uT, uH, xR, xP, xT, xH⟩ := L
  try simp only at I ⊢
  replace hr := hr.le l01
  replace hb := hb.le l01
  have hlB : w.heap.size ≤ W3.heap.size := hl.size
  replace hl := hl.trans l01
  have hmI := I.has
  rw [HM] at hmI
  have m3 := fun w' (l : Le W4 w') => rmStepped _ (postM M t).1 t 2 w' (hmI.le l) hpf (by rw [hpl]; exact hti)
  obtain ⟨⟨y0, y1, y2, y3, y4⟩, y5, y6, y7, y8⟩ := (I.bo).mach
  clear HM hat bx
  go_wp2_with fail
  refine (m3 _ (Le.refl _)).mono ?_
  rintro e w9 ⟨_, rfl, ⟨⟨c', uR, uP, uT, uH, xR, xP, xT, xH⟩, rfl, HM, o1, ap⟩, l1⟩
  clear m3 I
  replace hr := hr.le l1
  have r0 := (hr).cell 0
  have r1 := (hr).cell 1
  have r2 := (hr).cell 2
  have r3 := (hr).cell 3
  have r4 := (hr).cell 4
  have r5 := (hr).cell 5
  have r6 := (hr).cell 6
  have r7 := (hr).cell 7
  have r8 := (hr).cell 8
  simp only [List.getElem?_toArray, List.getElem?_cons_succ, List.getElem?_cons_zero] at r0 r1 r2 r3 r4 r5 r6 r7 r8
  have k0 := (hr).frozen 0
  have k1 := (hr).frozen 1
  have k2 := (hr).frozen 2
  have k3 := (hr).frozen 3
  have k4 := (hr).frozen 4
  have k5 := (hr).frozen 5
  have k6 := (hr).frozen 6
  have k7 := (hr).frozen 7
  have k8 := (hr).frozen 8
  go_wp2_with fail
  refine bodyPost_ret (v := .tuple #[machV c' uR uP uT uH, .int .i64 0]) (by simp [results, Tryz.results74, go_sem, r0, r1, r2, r3, r4, r5, r6, r7, r8]) rfl ⟨_, rfl, ?_, (hl.trans l1).put9 (g := w.heap.size + 1) (by omega) c' uR uP uT uH⟩
  refine ⟨⟨c', uR, uP, uT, uH, xR, xP, xT, xH⟩, rfl, HM, ?_, ap⟩
  exact (o1.base hl.size).put9 hr c' uR uP uT uH

theorem home_there {M : Mc} {t : Int} (h1 : thereB M 0 0 t = true) : thereB M (M.home t) (M.th t).lg t = true := by
  obtain ⟨hmay, _, _, ⟨t0, t1⟩⟩ := thereB_cases h1
  obtain ⟨_, _, hts, _⟩ := mayM_lens hmay
  obtain ⟨_, ⟨r2, r3⟩, _, _, _, _⟩ := Cfg.ok_cases (mayM_ok hmay)
  obtain ⟨t, rfl⟩ : ∃ n : Nat, t = n := ⟨t.toNat, by omega⟩
  obtain ⟨_, _, ⟨g0, g1⟩, _⟩ := thB_cases (Mc.th_may hmay (t := t) (by omega))
  refine thereB_yes hmay ?_ ⟨g0, g1⟩ ⟨t0, t1⟩
  have h2 := Int.emod_nonneg (t : Int) (show M.c.r ≠ 0 by omega)
  have h3 := Int.emod_lt_of_pos (t : Int) (show 0 < M.c.r by omega)
  unfold Mc.home
  omega

set_option maxRecDepth 8000 in
set_option maxHeartbeats 8000000 in
theorem rmUpd2 (v : Value) (M : Mc) (t : Int) (w : World) (hx : HasM w v M) (hf : FitM M) (h1 : thereB M 0 0 t = true) (h2 : opUp (M.th t).c (M.th t).r (M.th t).a = true) (h3 : (M.th t).st = 2) : Calls Tryz.prog 74 #[v, .int .i64 t] w fun e w' => ∃ v', e = .returned (.tuple #[v', .int .i64 0]) ∧ OwnA w' w.heap.size v' (stepM (tryM M (M.home t) (M.th t).lg t).1 t (if (tryM M (M.home t) (M.th t).lg t).2.1 then 3 else 10)) ∧ Le w w' := by
  have m2 := fun w' (l : Le w w') => rmTry v M (M.home t) (M.th t).lg t w' (hx.le l) hf
  have hpf := tryM_fit hf (M.home t) (M.th t).lg t
  have hpl := tryM_ts (home_there h1)
  obtain ⟨ok, hok⟩ : ∃ ok, ok = (tryM M (M.home t) (M.th t).lg t).2.1 := ⟨_, rfl⟩
  obtain ⟨er, her⟩ : ∃ er, er = (tryM M (M.home t) (M.th t).lg t).2.2 := ⟨_, rfl⟩
  obtain ⟨N, hN⟩ : ∃ N, N = (tryM M (M.home t) (M.th t).lg t).1 := ⟨_, rfl⟩
  simp only [← hok, ← her, ← hN] at m2 hpf hpl ⊢
  clear hok her hN
  have m1 := fun w' (l : Le w w') => rmThere v M 0 0 t w' (hx.le l) hf
  obtain ⟨hmay, _, _, ⟨t0, t1⟩⟩ := thereB_cases h1
  obtain ⟨hrs, hps, hts, _⟩ := mayM_lens hmay
  obtain ⟨_, ⟨r2, r3⟩, ⟨_, l3⟩, ⟨t2, t3⟩, _, _⟩ := Cfg.ok_cases (mayM_ok hmay)
  obtain ⟨t, rfl⟩ : ∃ n : Nat, t = n := ⟨t.toNat, by omega⟩
  have hti : t < M.ts.length := by omega
  have hti' : (t : Int) < (M.ts.length : Int) := by omega
  have hxw := hx
  obtain ⟨_, _, ⟨g0, g1⟩, _, _, _, _, _, _⟩ := thB_cases (Mc.th_may hmay hti)
  obtain ⟨g, hg⟩ : ∃ n : Nat, (M.th t).lg = n := ⟨(M.th t).lg.toNat, by omega⟩
  obtain ⟨r, hr0⟩ : ∃ n : Nat, M.home t = n := ⟨(M.home t).toNat, by have := Int.emod_nonneg (t : Int) (show M.c.r ≠ 0 by omega); unfold Mc.home; omega⟩
  have hrr : (r : Int) < M.c.r := by have := Int.emod_lt_of_pos (t : Int) (show 0 < M.c.r by omega); unfold Mc.home at hr0; omega
  have htm : (t : Int).tmod M.c.r = (r : Int) := by rw [← hr0]; exact Int.tmod_eq_emod_of_nonneg (by omega)
  have htm2 : (t : Int) % M.c.r = (r : Int) := hr0
  have hne0 : ¬ M.c.r = 0 := by omega
  obtain ⟨bR, oR, cR, bP, oP, cP, bT, oT, cT, qH, rfl, hcR, hcP, hcT, _⟩ := hx.opens hmay
  obtain ⟨⟨b0, b1, b2⟩, qt, hat, hbb, _⟩ := hcT t hti
  have hb1 := has_len hbb
  rw [← Mc.th_nat] at hat hb1
  simp only [h1] at m1
  obtain ⟨T, hT⟩ : ∃ T, T = M.th t := ⟨_, rfl⟩
  have HT : Hid (T = M.th t) := hT
  have HG : Hid ((M.th t).lg = g) := hg
  have HH : Hid (M.home t = r) := hr0
  have HMAY : Hid (mayM M = true) := hmay
  rw [← hT] at h2 h3 hg hat hb1
  clear hT hr0
  obtain ⟨tst, tc, tr, ta, tlg, tsn, tb, tpl, tpo, tre, tan, ttl⟩ := T
  simp only at h2 h3 hg hb1
  subst h3 hg
  have HB1 : Hid (b1 = tb.length) := hb1
  clear h1 hb1 hmay hrs hps hts hbb hcT hcR hx
  have hr := Box.new (w.alloc (.cells (cells9 M.c (some ⟨bR, oR, none⟩, M.rs.length, cR) (some ⟨bP, oP, none⟩, M.ps.length, cP) (some ⟨bT, oT, none⟩, M.ts.length, cT) qH) 29)) cellsZ9 29
  have hb := (Box.new w (cells9 M.c (some ⟨bR, oR, none⟩, M.rs.length, cR) (some ⟨bP, oP, none⟩, M.ps.length, cP) (some ⟨bT, oT, none⟩, M.ts.length, cT) qH) 29).le (Le.alloc _ (.cells cellsZ9 29))
  have hl := (Le.alloc w (.cells (cells9 M.c (some ⟨bR, oR, none⟩, M.rs.length, cR) (some ⟨bP, oP, none⟩, M.ps.length, cP) (some ⟨bT, oT, none⟩, M.ts.length, cT) qH) 29)).trans (Le.alloc _ (.cells cellsZ9 29))
  rw [World.size_alloc] at hr
  go_enter Tryz.func74, Tryz.ntmps74
  go_upto_region 1 with fail
  generalize hW : (w.alloc (.cells (cells9 M.c (some ⟨bR, oR, none⟩, M.rs.length, cR) (some ⟨bP, oP, none⟩, M.ps.length, cP) (some ⟨bT, oT, none⟩, M.ts.length, cT) qH) 29)).alloc (.cells cellsZ9 29) = W at hl hb hr ⊢
  clear hW
  have hgr := hr.lt
  obtain ⟨⟨z0, z1, z2, z3, z4⟩, z5, z6, z7, z8⟩ := (hb).mach
  go_wp2_with fail
  refine (m1 _ hl).mono ?_
  rintro e w1 ⟨rfl, l1⟩
  clear z0 z1 z2 z3 z4 z5 z6 z7 z8
  clear m1
  replace hb := hb.le l1
  replace hl := hl.trans l1
  have hgr := Nat.lt_of_lt_of_le hgr l1.size
  replace hr := hr.le l1
  clear l1
  obtain ⟨x0, x1, x2, x3, x4, x5, x6, x7, x8, x9, x10, x11⟩ := hat.le hl
  obtain ⟨⟨z0, z1, z2, z3, z4⟩, z5, z6, z7, z8⟩ := (hb).mach
  simp only [slV] at z7
  go_wp2_with fail
  refine (refUpdates _ _ _ _).mono ?_
  rw [h2]
  rintro e w2 ⟨rfl, l1⟩
  clear x0 x1 x2 x3 x4 x5 x6 x7 x8 x9 x10 x11 h2
  clear z0 z1 z2 z3 z4 z5 z6 z7 z8
  replace hb := hb.le l1
  replace hl := hl.trans l1
  have hgr := Nat.lt_of_lt_of_le hgr l1.size
  replace hr := hr.le l1
  clear l1
  obtain ⟨x0, x1, x2, x3, x4, x5, x6, x7, x8, x9, x10, x11⟩ := hat.le hl
  obtain ⟨⟨z0, z1, z2, z3, z4⟩, z5, z6, z7, z8⟩ := (hb).mach
  simp only [slV] at z7
  have bx := Box.new w2 (cellsT ⟨2, tc, tr, ta, (g : Int), tsn, tb, tpl, tpo, tre, tan, ttl⟩ (b0, b1, b2) qt) 58
  have a1 := Le.alloc w2 (.cells (cellsT ⟨2, tc, tr, ta, (g : Int), tsn, tb, tpl, tpo, tre, tan, ttl⟩ (b0, b1, b2) qt) 58)
  go_upto_region 4 with fail
  generalize hW1 : w2.alloc (.cells (cellsT ⟨2, tc, tr, ta, (g : Int), tsn, tb, tpl, tpo, tre, tan, ttl⟩ (b0, b1, b2) qt) 58) = W2 at bx a1 ⊢
  clear hW1
  have hgbx : w2.heap.size ≤ w2.heap.size := Nat.le_refl _
  generalize hgg : w2.heap.size = gbx at bx hgbx ⊢
  have hsbx : w2.heap.size ≤ gbx := by omega
  clear hgg hgbx
  have hgr := Nat.lt_of_lt_of_le hgr a1.size
  replace hl := hl.trans a1
  replace hb := hb.le a1
  replace hr := hr.le a1
  clear a1 x0 x1 x2 x3 x4 x5 x6 x7 x8 x9 x10 x11
  clear z0 z1 z2 z3 z4 z5 z6 z7 z8
  obtain ⟨x0, x1, x2, x3, x4, x5, x6, x7, x8, x9, x10, x11⟩ := bx.th
  obtain ⟨⟨z0, z1, z2, z3, z4⟩, z5, z6, z7, z8⟩ := (hb).mach
  go_quiet (fail)
  clear x0 x1 x2 x3 x4 x5 x6 x7 x8 x9 x10 x11
  clear z0 z1 z2 z3 z4 z5 z6 z7 z8
  have l1 := Le.drewN W2 nq
  generalize W2.drewN nq = W3 at l1 ⊢
  replace hb := hb.le l1
  replace hl := hl.trans l1
  have hgr := Nat.lt_of_lt_of_le hgr l1.size
  replace hr := hr.le l1
  replace bx := bx.le l1
  clear l1
  obtain ⟨x0, x1, x2, x3, x4, x5, x6, x7, x8, x9, x10, x11⟩ := bx.th
  simp only [HG.out, HH.out] at m2
  obtain ⟨⟨z0, z1, z2, z3, z4⟩, z5, z6, z7, z8⟩ := (hb).mach
  go_wp2_with fail
  refine (m2 _ hl).mono ?_
  rintro e w9 ⟨_, rfl, ⟨L, rfl, HM, o1, ap⟩, l1⟩
  clear z0 z1 z2 z3 z4 z5 z6 z7 z8
  clear m2 x0 x1 x2 x3 x4 x5 x6 x7 x8 x9 x10 x11
  have hbo := Box.new w9 (cells9 L.c L.qR L.qP L.qT L.qH) 29
  have a1 := Le.alloc w9 (.cells (cells9 L.c L.qR L.qP L.qT L.qH) 29)
  go_upto_region 11 with fail
  generalize hW1 : w9.alloc (.cells (cells9 L.c L.qR L.qP L.qT L.qH) 29) = W4 at hbo a1 ⊢
  clear hW1
  have I : MoI W3.heap.size w9.heap.size W4 L := ⟨hbo, l1.size, o1.le a1, ap⟩
  have hgo : W3.heap.size ≤ w9.heap.size := l1.size
  generalize w9.heap.size = go at hbo I hgo ⊢
  have l01 := l1.trans a1
  clear hbo o1 ap l1 a1
  obtain ⟨c', uR, uP, uT, uH, xR, xP, xT, xH⟩ := L
  try simp only at I ⊢
  replace hr := hr.le l01
  replace hb := hb.le l01
  have hlB : w.heap.size ≤ W3.heap.size := hl.size
  replace hl := hl.trans l01
  have hmI := I.has
  rw [HM] at hmI
  have m3 := fun st w' (l : Le W4 w') => rmStepped _ N t st w' (hmI.le l) hpf (by rw [hpl]; exact hti)
  obtain ⟨⟨y0, y1, y2, y3, y4⟩, y5, y6, y7, y8⟩ := (I.bo).mach
  clear HM hat bx
  cases ok
  ·
    go_wp2_with fail
    refine (m3 _ _ (Le.refl _)).mono ?_
    rintro e w9 ⟨_, rfl, ⟨⟨c', uR, uP, uT, uH, xR, xP, xT, xH⟩, rfl, HM, o1, ap⟩, l1⟩
    clear m3 I
    replace hr := hr.le l1
    have r0 := (hr).cell 0
    have r1 := (hr).cell 1
    have r2 := (hr).cell 2
    have r3 := (hr).cell 3
    have r4 := (hr).cell 4
    have r5 := (hr).cell 5
    have r6 := (hr).cell 6
    have r7 := (hr).cell 7
    have r8 := (hr).cell 8
    simp only [List.getElem?_toArray, List.getElem?_cons_succ, List.getElem?_cons_zero] at r0 r1 r2 r3 r4 r5 r6 r7 r8
    have k0 := (hr).frozen 0
    have k1 := (hr).frozen 1
    have k2 := (hr).frozen 2
    have k3 := (hr).frozen 3
    have k4 := (hr).frozen 4
    have k5 := (hr).frozen 5
    have k6 := (hr).frozen 6
    have k7 := (hr).frozen 7
    have k8 := (hr).frozen 8
    go_wp2_with fail
    refine bodyPost_ret (v := .tuple #[machV c' uR uP uT uH, .int .i64 0]) (by simp [results, Tryz.results74, go_sem, r0, r1, r2, r3, r4, r5, r6, r7, r8]) rfl ⟨_, rfl, ?_, (hl.trans l1).put9 (g := w.heap.size + 1) (by omega) c' uR uP uT uH⟩
    refine ⟨⟨c', uR, uP, uT, uH, xR, xP, xT, xH⟩, rfl, HM, ?_, ap⟩
    exact (o1.base hl.size).put9 hr c' uR uP uT uH
  ·
    go_wp2_with fail
    refine (m3 _ _ (Le.refl _)).mono ?_
    rintro e w9 ⟨_, rfl, ⟨⟨c', uR, uP, uT, uH, xR, xP, xT, xH⟩, rfl, HM, o1, ap⟩, l1⟩
    clear m3 I
    replace hr := hr.le l1
    have r0 := (hr).cell 0
    have r1 := (hr).cell 1
    have r2 := (hr).cell 2
    have r3 := (hr).cell 3
    have r4 := (hr).cell 4
    have r5 := (hr).cell 5
    have r6 := (hr).cell 6
    have r7 := (hr).cell 7
    have r8 := (hr).cell 8
    simp only [List.getElem?_toArray, List.getElem?_cons_succ, List.getElem?_cons_zero] at r0 r1 r2 r3 r4 r5 r6 r7 r8
    have k0 := (hr).frozen 0
    have k1 := (hr).frozen 1
    have k2 := (hr).frozen 2
    have k3 := (hr).frozen 3
    have k4 := (hr).frozen 4
    have k5 := (hr).frozen 5
    have k6 := (hr).frozen 6
    have k7 := (hr).frozen 7
    have k8 := (hr).frozen 8
    go_wp2_with fail
    refine bodyPost_ret (v := .tuple #[machV c' uR uP uT uH, .int .i64 0]) (by simp [results, Tryz.results74, go_sem, r0, r1, r2, r3, r4, r5, r6, r7, r8]) rfl ⟨_, rfl, ?_, (hl.trans l1).put9 (g := w.heap.size + 1) (by omega) c' uR uP uT uH⟩
    refine ⟨⟨c', uR, uP, uT, uH, xR, xP, xT, xH⟩, rfl, HM, ?_, ap⟩
    exact (o1.base hl.size).put9 hr c' uR uP uT uH

set_option maxRecDepth 8000 in
set_option maxHeartbeats 8000000 in
theorem rmUpd3 (v : Value) (M : Mc) (t : Int) (w : World) (hx : HasM w v M) (hf : FitM M) (h1 : thereB M 0 0 t = true) (h2 : opUp (M.th t).c (M.th t).r (M.th t).a = true) (h3 : (M.th t).st = 3) : Calls Tryz.prog 74 #[v, .int .i64 t] w fun e w' => ∃ v', e = .returned (.tuple #[v', .int .i64 0]) ∧ OwnA w' w.heap.size v' (collectM M t).1 ∧ Le w w' := by
  have m2 := fun w' (l : Le w w') => rmCollect v M t w' (hx.le l) hf
  have hce : (collectM M t).2 = 0 := by unfold collectM; rw [h1, decide_eq_true h3]; rfl
  rw [hce] at m2
  clear hce
  have m1 := fun w' (l : Le w w') => rmThere v M 0 0 t w' (hx.le l) hf
  obtain ⟨hmay, _, _, ⟨t0, t1⟩⟩ := thereB_cases h1
  obtain ⟨hrs, hps, hts, _⟩ := mayM_lens hmay
  obtain ⟨_, ⟨r2, r3⟩, ⟨_, l3⟩, ⟨t2, t3⟩, _, _⟩ := Cfg.ok_cases (mayM_ok hmay)
  obtain ⟨t, rfl⟩ : ∃ n : Nat, t = n := ⟨t.toNat, by omega⟩
  have hti : t < M.ts.length := by omega
  have hti' : (t : Int) < (M.ts.length : Int) := by omega
  have hxw := hx
  obtain ⟨_, _, ⟨g0, g1⟩, _, _, _, _, _, _⟩ := thB_cases (Mc.th_may hmay hti)
  obtain ⟨g, hg⟩ : ∃ n : Nat, (M.th t).lg = n := ⟨(M.th t).lg.toNat, by omega⟩
  obtain ⟨r, hr0⟩ : ∃ n : Nat, M.home t = n := ⟨(M.home t).toNat, by have := Int.emod_nonneg (t : Int) (show M.c.r ≠ 0 by omega); unfold Mc.home; omega⟩
  have hrr : (r : Int) < M.c.r := by have := Int.emod_lt_of_pos (t : Int) (show 0 < M.c.r by omega); unfold Mc.home at hr0; omega
  have htm : (t : Int).tmod M.c.r = (r : Int) := by rw [← hr0]; exact Int.tmod_eq_emod_of_nonneg (by omega)
  have htm2 : (t : Int) % M.c.r = (r : Int) := hr0
  have hne0 : ¬ M.c.r = 0 := by omega
  obtain ⟨bR, oR, cR, bP, oP, cP, bT, oT, cT, qH, rfl, hcR, hcP, hcT, _⟩ := hx.opens hmay
  obtain ⟨⟨b0, b1, b2⟩, qt, hat, hbb, _⟩ := hcT t hti
  have hb1 := has_len hbb
  rw [← Mc.th_nat] at hat hb1
  simp only [h1] at m1
  obtain ⟨T, hT⟩ : ∃ T, T = M.th t := ⟨_, rfl⟩
  have HT : Hid (T = M.th t) := hT
  have HG : Hid ((M.th t).lg = g) := hg
  have HH : Hid (M.home t = r) := hr0
  have HMAY : Hid (mayM M = true) := hmay
  rw [← hT] at h2 h3 hg hat hb1
  clear hT hr0
  obtain ⟨tst, tc, tr, ta, tlg, tsn, tb, tpl, tpo, tre, tan, ttl⟩ := T
  simp only at h2 h3 hg hb1
  subst h3 hg
  have HB1 : Hid (b1 = tb.length) := hb1
  clear h1 hb1 hmay hrs hps hts hbb hcT hcR hx
  have hr := Box.new (w.alloc (.cells (cells9 M.c (some ⟨bR, oR, none⟩, M.rs.length, cR) (some ⟨bP, oP, none⟩, M.ps.length, cP) (some ⟨bT, oT, none⟩, M.ts.length, cT) qH) 29)) cellsZ9 29
  have hb := (Box.new w (cells9 M.c (some ⟨bR, oR, none⟩, M.rs.length, cR) (some ⟨bP, oP, none⟩, M.ps.length, cP) (some ⟨bT, oT, none⟩, M.ts.length, cT) qH) 29).le (Le.alloc _ (.cells cellsZ9 29))
  have hl := (Le.alloc w (.cells (cells9 M.c (some ⟨bR, oR, none⟩, M.rs.length, cR) (some ⟨bP, oP, none⟩, M.ps.length, cP) (some ⟨bT, oT, none⟩, M.ts.length, cT) qH) 29)).trans (Le.alloc _ (.cells cellsZ9 29))
  rw [World.size_alloc] at hr
  go_enter Tryz.func74, Tryz.ntmps74
  go_upto_region 1 with fail
  generalize hW : (w.alloc (.cells (cells9 M.c (some ⟨bR, oR, none⟩, M.rs.length, cR) (some ⟨bP, oP, none⟩, M.ps.length, cP) (some ⟨bT, oT, none⟩, M.ts.length, cT) qH) 29)).alloc (.cells cellsZ9 29) = W at hl hb hr ⊢
  clear hW
  have hgr := hr.lt
  obtain ⟨⟨z0, z1, z2, z3, z4⟩, z5, z6, z7, z8⟩ := (hb).mach
  go_wp2_with fail
  refine (m1 _ hl).mono ?_
  rintro e w1 ⟨rfl, l1⟩
  clear z0 z1 z2 z3 z4 z5 z6 z7 z8
  clear m1
  replace hb := hb.le l1
  replace hl := hl.trans l1
  have hgr := Nat.lt_of_lt_of_le hgr l1.size
  replace hr := hr.le l1
  clear l1
  obtain ⟨x0, x1, x2, x3, x4, x5, x6, x7, x8, x9, x10, x11⟩ := hat.le hl
  obtain ⟨⟨z0, z1, z2, z3, z4⟩, z5, z6, z7, z8⟩ := (hb).mach
  simp only [slV] at z7
  go_wp2_with fail
  refine (refUpdates _ _ _ _).mono ?_
  rw [h2]
  rintro e w2 ⟨rfl, l1⟩
  clear x0 x1 x2 x3 x4 x5 x6 x7 x8 x9 x10 x11 h2
  clear z0 z1 z2 z3 z4 z5 z6 z7 z8
  replace hb := hb.le l1
  replace hl := hl.trans l1
  have hgr := Nat.lt_of_lt_of_le hgr l1.size
  replace hr := hr.le l1
  clear l1
  obtain ⟨x0, x1, x2, x3, x4, x5, x6, x7, x8, x9, x10, x11⟩ := hat.le hl
  obtain ⟨⟨z0, z1, z2, z3, z4⟩, z5, z6, z7, z8⟩ := (hb).mach
  simp only [slV] at z7
  have bx := Box.new w2 (cellsT ⟨3, tc, tr, ta, (g : Int), tsn, tb, tpl, tpo, tre, tan, ttl⟩ (b0, b1, b2) qt) 58
  have a1 := Le.alloc w2 (.cells (cellsT ⟨3, tc, tr, ta, (g : Int), tsn, tb, tpl, tpo, tre, tan, ttl⟩ (b0, b1, b2) qt) 58)
  go_upto_region 4 with fail
  generalize hW1 : w2.alloc (.cells (cellsT ⟨3, tc, tr, ta, (g : Int), tsn, tb, tpl, tpo, tre, tan, ttl⟩ (b0, b1, b2) qt) 58) = W2 at bx a1 ⊢
  clear hW1
  have hgbx : w2.heap.size ≤ w2.heap.size := Nat.le_refl _
  generalize hgg : w2.heap.size = gbx at bx hgbx ⊢
  have hsbx : w2.heap.size ≤ gbx := by omega
  clear hgg hgbx
  have hgr := Nat.lt_of_lt_of_le hgr a1.size
  replace hl := hl.trans a1
  replace hb := hb.le a1
  replace hr := hr.le a1
  clear a1 x0 x1 x2 x3 x4 x5 x6 x7 x8 x9 x10 x11
  clear z0 z1 z2 z3 z4 z5 z6 z7 z8
  obtain ⟨x0, x1, x2, x3, x4, x5, x6, x7, x8, x9, x10, x11⟩ := bx.th
  obtain ⟨⟨z0, z1, z2, z3, z4⟩, z5, z6, z7, z8⟩ := (hb).mach
  go_quiet (fail)
  clear x0 x1 x2 x3 x4 x5 x6 x7 x8 x9 x10 x11
  clear z0 z1 z2 z3 z4 z5 z6 z7 z8
  have l1 := Le.drewN W2 nq
  generalize W2.drewN nq = W3 at l1 ⊢
  replace hb := hb.le l1
  replace hl := hl.trans l1
  have hgr := Nat.lt_of_lt_of_le hgr l1.size
  replace hr := hr.le l1
  replace bx := bx.le l1
  clear l1
  obtain ⟨x0, x1, x2, x3, x4, x5, x6, x7, x8, x9, x10, x11⟩ := bx.th
  obtain ⟨⟨z0, z1, z2, z3, z4⟩, z5, z6, z7, z8⟩ := (hb).mach
  clear hat bx
  go_wp2_with fail
  refine (m2 _ hl).mono ?_
  rintro e w9 ⟨_, rfl, ⟨⟨c', uR, uP, uT, uH, xR, xP, xT, xH⟩, rfl, HM, o1, ap⟩, l1⟩
  clear m2
  replace hr := hr.le l1
  have r0 := (hr).cell 0
  have r1 := (hr).cell 1
  have r2 := (hr).cell 2
  have r3 := (hr).cell 3
  have r4 := (hr).cell 4
  have r5 := (hr).cell 5
  have r6 := (hr).cell 6
  have r7 := (hr).cell 7
  have r8 := (hr).cell 8
  simp only [List.getElem?_toArray, List.getElem?_cons_succ, List.getElem?_cons_zero] at r0 r1 r2 r3 r4 r5 r6 r7 r8
  have k0 := (hr).frozen 0
  have k1 := (hr).frozen 1
  have k2 := (hr).frozen 2
  have k3 := (hr).frozen 3
  have k4 := (hr).frozen 4
  have k5 := (hr).frozen 5
  have k6 := (hr).frozen 6
  have k7 := (hr).frozen 7
  have k8 := (hr).frozen 8
  go_wp2_with fail
  refine bodyPost_ret (v := .tuple #[machV c' uR uP uT uH, .int .i64 0]) (by simp [results, Tryz.results74, go_sem, r0, r1, r2, r3, r4, r5, r6, r7, r8]) rfl ⟨_, rfl, ?_, (hl.trans l1).put9 (g := w.heap.size + 1) (by omega) c' uR uP uT uH⟩
  refine ⟨⟨c', uR, uP, uT, uH, xR, xP, xT, xH⟩, rfl, HM, ?_, ap⟩
  exact (o1.base hl.size).put9 hr c' uR uP uT uH

set_option maxRecDepth 8000 in
set_option maxHeartbeats 8000000 in
theorem rmUpdC (v : Value) (M : Mc) (t : Int) (w : World) (hx : HasM w v M) (hf : FitM M) (h1 : thereB M 0 0 t = true) (h2 : opUp (M.th t).c (M.th t).r (M.th t).a = true) (st : Int) (hst : 4 ≤ st ∧ st ≤ 7) (h3 : (M.th t).st = st) (N : Mc) (m2 : ∀ w', Le w w' → Calls Tryz.prog 95 #[v, .int .i64 t] w' fun e w'' => ∃ v', e = .returned (.tuple #[v', .int .i64 0]) ∧ OwnA w'' w'.heap.size v' N ∧ Le w' w'') : Calls Tryz.prog 74 #[v, .int .i64 t] w fun e w' => ∃ v', e = .returned (.tuple #[v', .int .i64 0]) ∧ OwnA w' w.heap.size v' N ∧ Le w w' := by
  have hst4 : st = 4 ∨ st = 5 ∨ st = 6 ∨ st = 7 := by omega
  clear hst
  rcases hst4 with rfl | rfl | rfl | rfl
  ·
    have m1 := fun w' (l : Le w w') => rmThere v M 0 0 t w' (hx.le l) hf
    obtain ⟨hmay, _, _, ⟨t0, t1⟩⟩ := thereB_cases h1
    obtain ⟨hrs, hps, hts, _⟩ := mayM_lens hmay
    obtain ⟨_, ⟨r2, r3⟩, ⟨_, l3⟩, ⟨t2, t3⟩, _, _⟩ := Cfg.ok_cases (mayM_ok hmay)
    obtain ⟨t, rfl⟩ : ∃ n : Nat, t = n := ⟨t.toNat, by omega⟩
    have hti : t < M.ts.length := by omega
    have hti' : (t : Int) < (M.ts.length : Int) := by omega
    have hxw := hx
    obtain ⟨_, _, ⟨g0, g1⟩, _, _, _, _, _, _⟩ := thB_cases (Mc.th_may hmay hti)
    obtain ⟨g, hg⟩ : ∃ n : Nat, (M.th t).lg = n := ⟨(M.th t).lg.toNat, by omega⟩
    obtain ⟨r, hr0⟩ : ∃ n : Nat, M.home t = n := ⟨(M.home t).toNat, by have := Int.emod_nonneg (t : Int) (show M.c.r ≠ 0 by omega); unfold Mc.home; omega⟩
    have hrr : (r : Int) < M.c.r := by have := Int.emod_lt_of_pos (t : Int) (show 0 < M.c.r by omega); unfold Mc.home at hr0; omega
    have htm : (t : Int).tmod M.c.r = (r : Int) := by rw [← hr0]; exact Int.tmod_eq_emod_of_nonneg (by omega)
    have htm2 : (t : Int) % M.c.r = (r : Int) := hr0
    have hne0 : ¬ M.c.r = 0 := by omega
    obtain ⟨bR, oR, cR, bP, oP, cP, bT, oT, cT, qH, rfl, hcR, hcP, hcT, _⟩ := hx.opens hmay
    obtain ⟨⟨b0, b1, b2⟩, qt, hat, hbb, _⟩ := hcT t hti
    have hb1 := has_len hbb
    rw [← Mc.th_nat] at hat hb1
    simp only [h1] at m1
    obtain ⟨T, hT⟩ : ∃ T, T = M.th t := ⟨_, rfl⟩
    have HT : Hid (T = M.th t) := hT
    have HG : Hid ((M.th t).lg = g) := hg
    have HH : Hid (M.home t = r) := hr0
    have HMAY : Hid (mayM M = true) := hmay
    rw [← hT] at h2 h3 hg hat hb1
    clear hT hr0
    obtain ⟨tst, tc, tr, ta, tlg, tsn, tb, tpl, tpo, tre, tan, ttl⟩ := T
    simp only at h2 h3 hg hb1
    subst h3 hg
    have HB1 : Hid (b1 = tb.length) := hb1
    clear h1 hb1 hmay hrs hps hts hbb hcT hcR hx
    have hr := Box.new (w.alloc (.cells (cells9 M.c (some ⟨bR, oR, none⟩, M.rs.length, cR) (some ⟨bP, oP, none⟩, M.ps.length, cP) (some ⟨bT, oT, none⟩, M.ts.length, cT) qH) 29)) cellsZ9 29
    have hb := (Box.new w (cells9 M.c (some ⟨bR, oR, none⟩, M.rs.length, cR) (some ⟨bP, oP, none⟩, M.ps.length, cP) (some ⟨bT, oT, none⟩, M.ts.length, cT) qH) 29).le (Le.alloc _ (.cells cellsZ9 29))
    have hl := (Le.alloc w (.cells (cells9 M.c (some ⟨bR, oR, none⟩, M.rs.length, cR) (some ⟨bP, oP, none⟩, M.ps.length, cP) (some ⟨bT, oT, none⟩, M.ts.length, cT) qH) 29)).trans (Le.alloc _ (.cells cellsZ9 29))
    rw [World.size_alloc] at hr
    go_enter Tryz.func74, Tryz.ntmps74
    go_upto_region 1 with fail
    generalize hW : (w.alloc (.cells (cells9 M.c (some ⟨bR, oR, none⟩, M.rs.length, cR) (some ⟨bP, oP, none⟩, M.ps.length, cP) (some ⟨bT, oT, none⟩, M.ts.length, cT) qH) 29)).alloc (.cells cellsZ9 29) = W at hl hb hr ⊢
    clear hW
    have hgr := hr.lt
    obtain ⟨⟨z0, z1, z2, z3, z4⟩, z5, z6, z7, z8⟩ := (hb).mach
    go_wp2_with fail
    refine (m1 _ hl).mono ?_
    rintro e w1 ⟨rfl, l1⟩
    clear z0 z1 z2 z3 z4 z5 z6 z7 z8
    clear m1
    replace hb := hb.le l1
    replace hl := hl.trans l1
    have hgr := Nat.lt_of_lt_of_le hgr l1.size
    replace hr := hr.le l1
    clear l1
    obtain ⟨x0, x1, x2, x3, x4, x5, x6, x7, x8, x9, x10, x11⟩ := hat.le hl
    obtain ⟨⟨z0, z1, z2, z3, z4⟩, z5, z6, z7, z8⟩ := (hb).mach
    simp only [slV] at z7
    go_wp2_with fail
    refine (refUpdates _ _ _ _).mono ?_
    rw [h2]
    rintro e w2 ⟨rfl, l1⟩
    clear x0 x1 x2 x3 x4 x5 x6 x7 x8 x9 x10 x11 h2
    clear z0 z1 z2 z3 z4 z5 z6 z7 z8
    replace hb := hb.le l1
    replace hl := hl.trans l1
    have hgr := Nat.lt_of_lt_of_le hgr l1.size
    replace hr := hr.le l1
    clear l1
    obtain ⟨x0, x1, x2, x3, x4, x5, x6, x7, x8, x9, x10, x11⟩ := hat.le hl
    obtain ⟨⟨z0, z1, z2, z3, z4⟩, z5, z6, z7, z8⟩ := (hb).mach
    simp only [slV] at z7
    have bx := Box.new w2 (cellsT ⟨4, tc, tr, ta, (g : Int), tsn, tb, tpl, tpo, tre, tan, ttl⟩ (b0, b1, b2) qt) 58
    have a1 := Le.alloc w2 (.cells (cellsT ⟨4, tc, tr, ta, (g : Int), tsn, tb, tpl, tpo, tre, tan, ttl⟩ (b0, b1, b2) qt) 58)
    go_upto_region 4 with fail
    generalize hW1 : w2.alloc (.cells (cellsT ⟨4, tc, tr, ta, (g : Int), tsn, tb, tpl, tpo, tre, tan, ttl⟩ (b0, b1, b2) qt) 58) = W2 at bx a1 ⊢
    clear hW1
    have hgbx : w2.heap.size ≤ w2.heap.size := Nat.le_refl _
    generalize hgg : w2.heap.size = gbx at bx hgbx ⊢
    have hsbx : w2.heap.size ≤ gbx := by omega
    clear hgg hgbx
    have hgr := Nat.lt_of_lt_of_le hgr a1.size
    replace hl := hl.trans a1
    replace hb := hb.le a1
    replace hr := hr.le a1
    clear a1 x0 x1 x2 x3 x4 x5 x6 x7 x8 x9 x10 x11
    clear z0 z1 z2 z3 z4 z5 z6 z7 z8
    obtain ⟨x0, x1, x2, x3, x4, x5, x6, x7, x8, x9, x10, x11⟩ := bx.th
    obtain ⟨⟨z0, z1, z2, z3, z4⟩, z5, z6, z7, z8⟩ := (hb).mach
    go_quiet (fail)
    clear x0 x1 x2 x3 x4 x5 x6 x7 x8 x9 x10 x11
    clear z0 z1 z2 z3 z4 z5 z6 z7 z8
    have l1 := Le.drewN W2 nq
    generalize W2.drewN nq = W3 at l1 ⊢
    replace hb := hb.le l1
    replace hl := hl.trans l1
    have hgr := Nat.lt_of_lt_of_le hgr l1.size
    replace hr := hr.le l1
    replace bx := bx.le l1
    clear l1
    obtain ⟨x0, x1, x2, x3, x4, x5, x6, x7, x8, x9, x10, x11⟩ := bx.th
    obtain ⟨⟨z0, z1, z2, z3, z4⟩, z5, z6, z7, z8⟩ := (hb).mach
    go_wp2_with fail
    refine (m2 _ hl).mono ?_
    rintro e w9 ⟨_, rfl, ⟨L, rfl, HM, o1, ap⟩, l1⟩
    clear z0 z1 z2 z3 z4 z5 z6 z7 z8
    clear m2 x0 x1 x2 x3 x4 x5 x6 x7 x8 x9 x10 x11
    have hbo := Box.new w9 (cells9 L.c L.qR L.qP L.qT L.qH) 29
    have a1 := Le.alloc w9 (.cells (cells9 L.c L.qR L.qP L.qT L.qH) 29)
    go_upto_region 21 with fail
    generalize hW1 : w9.alloc (.cells (cells9 L.c L.qR L.qP L.qT L.qH) 29) = W4 at hbo a1 ⊢
    clear hW1
    have I : MoI W3.heap.size w9.heap.size W4 L := ⟨hbo, l1.size, o1.le a1, ap⟩
    have hgo : W3.heap.size ≤ w9.heap.size := l1.size
    generalize w9.heap.size = go at hbo I hgo ⊢
    have l01 := l1.trans a1
    clear hbo o1 ap l1 a1
    obtain ⟨c', uR, uP, uT, uH, xR, xP, xT, xH⟩ := L
    try simp only at I ⊢
    replace hr := hr.le l01
    replace hb := hb.le l01
    have hlB : w.heap.size ≤ W3.heap.size := hl.size
    replace hl := hl.trans l01
    obtain ⟨⟨y0, y1, y2, y3, y4⟩, y5, y6, y7, y8⟩ := (I.bo).mach
    have r0 := (hr).cell 0
    have r1 := (hr).cell 1
    have r2 := (hr).cell 2
    have r3 := (hr).cell 3
    have r4 := (hr).cell 4
    have r5 := (hr).cell 5
    have r6 := (hr).cell 6
    have r7 := (hr).cell 7
    have r8 := (hr).cell 8
    simp only [List.getElem?_toArray, List.getElem?_cons_succ, List.getElem?_cons_zero] at r0 r1 r2 r3 r4 r5 r6 r7 r8
    have k0 := (hr).frozen 0
    have k1 := (hr).frozen 1
    have k2 := (hr).frozen 2
    have k3 := (hr).frozen 3
    have k4 := (hr).frozen 4
    have k5 := (hr).frozen 5
    have k6 := (hr).frozen 6
    have k7 := (hr).frozen 7
    have k8 := (hr).frozen 8
    go_wp2_with fail
    refine bodyPost_ret (v := .tuple #[machV c' uR uP uT uH, .int .i64 0]) (by simp [results, Tryz.results74, go_sem, r0, r1, r2, r3, r4, r5, r6, r7, r8]) rfl ⟨_, rfl, ?_, (hl).put9 (g := w.heap.size + 1) (by omega) c' uR uP uT uH⟩
    have := (I.ret hr).base hlB
    rw [HM] at this
    exact this
  ·
    have m1 := fun w' (l : Le w w') => rmThere v M 0 0 t w' (hx.le l) hf
    obtain ⟨hmay, _, _, ⟨t0, t1⟩⟩ := thereB_cases h1
    obtain ⟨hrs, hps, hts, _⟩ := mayM_lens hmay
    obtain ⟨_, ⟨r2, r3⟩, ⟨_, l3⟩, ⟨t2, t3⟩, _, _⟩ := Cfg.ok_cases (mayM_ok hmay)
    obtain ⟨t, rfl⟩ : ∃ n : Nat, t = n := ⟨t.toNat, by omega⟩
    have hti : t < M.ts.length := by omega
    have hti' : (t : Int) < (M.ts.length : Int) := by omega
    have hxw := hx
    obtain ⟨_, _, ⟨g0, g1⟩, _, _, _, _, _, _⟩ := thB_cases (Mc.th_may hmay hti)
    obtain ⟨g, hg⟩ : ∃ n : Nat, (M.th t).lg = n := ⟨(M.th t).lg.toNat, by omega⟩
    obtain ⟨r, hr0⟩ : ∃ n : Nat, M.home t = n := ⟨(M.home t).toNat, by have := Int.emod_nonneg (t : Int) (show M.c.r ≠ 0 by omega); unfold Mc.home; omega⟩
    have hrr : (r : Int) < M.c.r := by have := Int.emod_lt_of_pos (t : Int) (show 0 < M.c.r by omega); unfold Mc.home at hr0; omega
    have htm : (t : Int).tmod M.c.r = (r : Int) := by rw [← hr0]; exact Int.tmod_eq_emod_of_nonneg (by omega)
    have htm2 : (t : Int) % M.c.r = (r : Int) := hr0
    have hne0 : ¬ M.c.r = 0 := by omega
    obtain ⟨bR, oR, cR, bP, oP, cP, bT, oT, cT, qH, rfl, hcR, hcP, hcT, _⟩ := hx.opens hmay
    obtain ⟨⟨b0, b1, b2⟩, qt, hat, hbb, _⟩ := hcT t hti
    have hb1 := has_len hbb
    rw [← Mc.th_nat] at hat hb1
    simp only [h1] at m1
    obtain ⟨T, hT⟩ : ∃ T, T = M.th t := ⟨_, rfl⟩
    have HT : Hid (T = M.th t) := hT
    have HG : Hid ((M.th t).lg = g) := hg
    have HH : Hid (M.home t = r) := hr0
    have HMAY : Hid (mayM M = true) := hmay
    rw [← hT] at h2 h3 hg hat hb1
    clear hT hr0
    obtain ⟨tst, tc, tr, ta, tlg, tsn, tb, tpl, tpo, tre, tan, ttl⟩ := T
    simp only at h2 h3 hg hb1
    subst h3 hg
    have HB1 : Hid (b1 = tb.length) := hb1
    clear h1 hb1 hmay hrs hps hts hbb hcT hcR hx
    have hr := Box.new (w.alloc (.cells (cells9 M.c (some ⟨bR, oR, none⟩, M.rs.length, cR) (some ⟨bP, oP, none⟩, M.ps.length, cP) (some ⟨bT, oT, none⟩, M.ts.length, cT) qH) 29)) cellsZ9 29
    have hb := (Box.new w (cells9 M.c (some ⟨bR, oR, none⟩, M.rs.length, cR) (some ⟨bP, oP, none⟩, M.ps.length, cP) (some ⟨bT, oT, none⟩, M.ts.length, cT) qH) 29).le (Le.alloc _ (.cells cellsZ9 29))
    have hl := (Le.alloc w (.cells (cells9 M.c (some ⟨bR, oR, none⟩, M.rs.length, cR) (some ⟨bP, oP, none⟩, M.ps.length, cP) (some ⟨bT, oT, none⟩, M.ts.length, cT) qH) 29)).trans (Le.alloc _ (.cells cellsZ9 29))
    rw [World.size_alloc] at hr
    go_enter Tryz.func74, Tryz.ntmps74
    go_upto_region 1 with fail
    generalize hW : (w.alloc (.cells (cells9 M.c (some ⟨bR, oR, none⟩, M.rs.length, cR) (some ⟨bP, oP, none⟩, M.ps.length, cP) (some ⟨bT, oT, none⟩, M.ts.length, cT) qH) 29)).alloc (.cells cellsZ9 29) = W at hl hb hr ⊢
    clear hW
    have hgr := hr.lt
    obtain ⟨⟨z0, z1, z2, z3, z4⟩, z5, z6, z7, z8⟩ := (hb).mach
    go_wp2_with fail
    refine (m1 _ hl).mono ?_
    rintro e w1 ⟨rfl, l1⟩
    clear z0 z1 z2 z3 z4 z5 z6 z7 z8
    clear m1
    replace hb := hb.le l1
    replace hl := hl.trans l1
    have hgr := Nat.lt_of_lt_of_le hgr l1.size
    replace hr := hr.le l1
    clear l1
    obtain ⟨x0, x1, x2, x3, x4, x5, x6, x7, x8, x9, x10, x11⟩ := hat.le hl
    obtain ⟨⟨z0, z1, z2, z3, z4⟩, z5, z6, z7, z8⟩ := (hb).mach
    simp only [slV] at z7
    go_wp2_with fail
    refine (refUpdates _ _ _ _).mono ?_
    rw [h2]
    rintro e w2 ⟨rfl, l1⟩
    clear x0 x1 x2 x3 x4 x5 x6 x7 x8 x9 x10 x11 h2
    clear z0 z1 z2 z3 z4 z5 z6 z7 z8
    replace hb := hb.le l1
    replace hl := hl.trans l1
    have hgr := Nat.lt_of_lt_of_le hgr l1.size
    replace hr := hr.le l1
    clear l1
    obtain ⟨x0, x1, x2, x3, x4, x5, x6, x7, x8, x9, x10, x11⟩ := hat.le hl
    obtain ⟨⟨z0, z1, z2, z3, z4⟩, z5, z6, z7, z8⟩ := (hb).mach
    simp only [slV] at z7
    have bx := Box.new w2 (cellsT ⟨5, tc, tr, ta, (g : Int), tsn, tb, tpl, tpo, tre, tan, ttl⟩ (b0, b1, b2) qt) 58
    have a1 := Le.alloc w2 (.cells (cellsT ⟨5, tc, tr, ta, (g : Int), tsn, tb, tpl, tpo, tre, tan, ttl⟩ (b0, b1, b2) qt) 58)
    go_upto_region 4 with fail
    generalize hW1 : w2.alloc (.cells (cellsT ⟨5, tc, tr, ta, (g : Int), tsn, tb, tpl, tpo, tre, tan, ttl⟩ (b0, b1, b2) qt) 58) = W2 at bx a1 ⊢
    clear hW1
    have hgbx : w2.heap.size ≤ w2.heap.size := Nat.le_refl _
    generalize hgg : w2.heap.size = gbx at bx hgbx ⊢
    have hsbx : w2.heap.size ≤ gbx := by omega
    clear hgg hgbx
    have hgr := Nat.lt_of_lt_of_le hgr a1.size
    replace hl := hl.trans a1
    replace hb := hb.le a1
    replace hr := hr.le a1
    clear a1 x0 x1 x2 x3 x4 x5 x6 x7 x8 x9 x10 x11
    clear z0 z1 z2 z3 z4 z5 z6 z7 z8
    obtain ⟨x0, x1, x2, x3, x4, x5, x6, x7, x8, x9, x10, x11⟩ := bx.th
    obtain ⟨⟨z0, z1, z2, z3, z4⟩, z5, z6, z7, z8⟩ := (hb).mach
    go_quiet (fail)
    clear x0 x1 x2 x3 x4 x5 x6 x7 x8 x9 x10 x11
    clear z0 z1 z2 z3 z4 z5 z6 z7 z8
    have l1 := Le.drewN W2 nq
    generalize W2.drewN nq = W3 at l1 ⊢
    replace hb := hb.le l1
    replace hl := hl.trans l1
    have hgr := Nat.lt_of_lt_of_le hgr l1.size
    replace hr := hr.le l1
    replace bx := bx.le l1
    clear l1
    obtain ⟨x0, x1, x2, x3, x4, x5, x6, x7, x8, x9, x10, x11⟩ := bx.th
    obtain ⟨⟨z0, z1, z2, z3, z4⟩, z5, z6, z7, z8⟩ := (hb).mach
    go_wp2_with fail
    refine (m2 _ hl).mono ?_
    rintro e w9 ⟨_, rfl, ⟨L, rfl, HM, o1, ap⟩, l1⟩
    clear z0 z1 z2 z3 z4 z5 z6 z7 z8
    clear m2 x0 x1 x2 x3 x4 x5 x6 x7 x8 x9 x10 x11
    have hbo := Box.new w9 (cells9 L.c L.qR L.qP L.qT L.qH) 29
    have a1 := Le.alloc w9 (.cells (cells9 L.c L.qR L.qP L.qT L.qH) 29)
    go_upto_region 21 with fail
    generalize hW1 : w9.alloc (.cells (cells9 L.c L.qR L.qP L.qT L.qH) 29) = W4 at hbo a1 ⊢
    clear hW1
    have I : MoI W3.heap.size w9.heap.size W4 L := ⟨hbo, l1.size, o1.le a1, ap⟩
    have hgo : W3.heap.size ≤ w9.heap.size := l1.size
    generalize w9.heap.size = go at hbo I hgo ⊢
    have l01 := l1.trans a1
    clear hbo o1 ap l1 a1
    obtain ⟨c', uR, uP, uT, uH, xR, xP, xT, xH⟩ := L
    try simp only at I ⊢
    replace hr := hr.le l01
    replace hb := hb.le l01
    have hlB : w.heap.size ≤ W3.heap.size := hl.size
    replace hl := hl.trans l01
    obtain ⟨⟨y0, y1, y2, y3, y4⟩, y5, y6, y7, y8⟩ := (I.bo).mach
    have r0 := (hr).cell 0
    have r1 := (hr).cell 1
    have r2 := (hr).cell 2
    have r3 := (hr).cell 3
    have r4 := (hr).cell 4
    have r5 := (hr).cell 5
    have r6 := (hr).cell 6
    have r7 := (hr).cell 7
    have r8 := (hr).cell 8
    simp only [List.getElem?_toArray, List.getElem?_cons_succ, List.getElem?_cons_zero] at r0 r1 r2 r3 r4 r5 r6 r7 r8
    have k0 := (hr).frozen 0
    have k1 := (hr).frozen 1
    have k2 := (hr).frozen 2
    have k3 := (hr).frozen 3
    have k4 := (hr).frozen 4
    have k5 := (hr).frozen 5
    have k6 := (hr).frozen 6
    have k7 := (hr).frozen 7
    have k8 := (hr).frozen 8
    go_wp2_with fail
    refine bodyPost_ret (v := .tuple #[machV c' uR uP uT uH, .int .i64 0]) (by simp [results, Tryz.results74, go_sem, r0, r1, r2, r3, r4, r5, r6, r7, r8]) rfl ⟨_, rfl, ?_, (hl).put9 (g := w.heap.size + 1) (by omega) c' uR uP uT uH⟩
    have := (I.ret hr).base hlB
    rw [HM] at this
    exact this
  ·
    have m1 := fun w' (l : Le w w') => rmThere v M 0 0 t w' (hx.le l) hf
    obtain ⟨hmay, _, _, ⟨t0, t1⟩⟩ := thereB_cases h1
    obtain ⟨hrs, hps, hts, _⟩ := mayM_lens hmay
    obtain ⟨_, ⟨r2, r3⟩, ⟨_, l3⟩, ⟨t2, t3⟩, _, _⟩ := Cfg.ok_cases (mayM_ok hmay)
    obtain ⟨t, rfl⟩ : ∃ n : Nat, t = n := ⟨t.toNat, by omega⟩
    have hti : t < M.ts.length := by omega
    have hti' : (t : Int) < (M.ts.length : Int) := by omega
    have hxw := hx
    obtain ⟨_, _, ⟨g0, g1⟩, _, _, _, _, _, _⟩ := thB_cases (Mc.th_may hmay hti)
    obtain ⟨g, hg⟩ : ∃ n : Nat, (M.th t).lg = n := ⟨(M.th t).lg.toNat, by omega⟩
    obtain ⟨r, hr0⟩ : ∃ n : Nat, M.home t = n := ⟨(M.home t).toNat, by have := Int.emod_nonneg (t : Int) (show M.c.r ≠ 0 by omega); unfold Mc.home; omega⟩
    have hrr : (r : Int) < M.c.r := by have := Int.emod_lt_of_pos (t : Int) (show 0 < M.c.r by omega); unfold Mc.home at hr0; omega
    have htm : (t : Int).tmod M.c.r = (r : Int) := by rw [← hr0]; exact Int.tmod_eq_emod_of_nonneg (by omega)
    have htm2 : (t : Int) % M.c.r = (r : Int) := hr0
    have hne0 : ¬ M.c.r = 0 := by omega
    obtain ⟨bR, oR, cR, bP, oP, cP, bT, oT, cT, qH, rfl, hcR, hcP, hcT, _⟩ := hx.opens hmay
    obtain ⟨⟨b0, b1, b2⟩, qt, hat, hbb, _⟩ := hcT t hti
    have hb1 := has_len hbb
    rw [← Mc.th_nat] at hat hb1
    simp only [h1] at m1
    obtain ⟨T, hT⟩ : ∃ T, T = M.th t := ⟨_, rfl⟩
    have HT : Hid (T = M.th t) := hT
    have HG : Hid ((M.th t).lg = g) := hg
    have HH : Hid (M.home t = r) := hr0
    have HMAY : Hid (mayM M = true) := hmay
    rw [← hT] at h2 h3 hg hat hb1
    clear hT hr0
    obtain ⟨tst, tc, tr, ta, tlg, tsn, tb, tpl, tpo, tre, tan, ttl⟩ := T
    simp only at h2 h3 hg hb1
    subst h3 hg
    have HB1 : Hid (b1 = tb.length) := hb1
    clear h1 hb1 hmay hrs hps hts hbb hcT hcR hx
    have hr := Box.new (w.alloc (.cells (cells9 M.c (some ⟨bR, oR, none⟩, M.rs.length, cR) (some ⟨bP, oP, none⟩, M.ps.length, cP) (some ⟨bT, oT, none⟩, M.ts.length, cT) qH) 29)) cellsZ9 29
    have hb := (Box.new w (cells9 M.c (some ⟨bR, oR, none⟩, M.rs.length, cR) (some ⟨bP, oP, none⟩, M.ps.length, cP) (some ⟨bT, oT, none⟩, M.ts.length, cT) qH) 29).le (Le.alloc _ (.cells cellsZ9 29))
    have hl := (Le.alloc w (.cells (cells9 M.c (some ⟨bR, oR, none⟩, M.rs.length, cR) (some ⟨bP, oP, none⟩, M.ps.length, cP) (some ⟨bT, oT, none⟩, M.ts.length, cT) qH) 29)).trans (Le.alloc _ (.cells cellsZ9 29))
    rw [World.size_alloc] at hr
    go_enter Tryz.func74, Tryz.ntmps74
    go_upto_region 1 with fail
    generalize hW : (w.alloc (.cells (cells9 M.c (some ⟨bR, oR, none⟩, M.rs.length, cR) (some ⟨bP, oP, none⟩, M.ps.length, cP) (some ⟨bT, oT, none⟩, M.ts.length, cT) qH) 29)).alloc (.cells cellsZ9 29) = W at hl hb hr ⊢
    clear hW
    have hgr := hr.lt
    obtain ⟨⟨z0, z1, z2, z3, z4⟩, z5, z6, z7, z8⟩ := (hb).mach
    go_wp2_with fail
    refine (m1 _ hl).mono ?_
    rintro e w1 ⟨rfl, l1⟩
    clear z0 z1 z2 z3 z4 z5 z6 z7 z8
    clear m1
    replace hb := hb.le l1
    replace hl := hl.trans l1
    have hgr := Nat.lt_of_lt_of_le hgr l1.size
    replace hr := hr.le l1
    clear l1
    obtain ⟨x0, x1, x2, x3, x4, x5, x6, x7, x8, x9, x10, x11⟩ := hat.le hl
    obtain ⟨⟨z0, z1, z2, z3, z4⟩, z5, z6, z7, z8⟩ := (hb).mach
    simp only [slV] at z7
    go_wp2_with fail
    refine (refUpdates _ _ _ _).mono ?_
    rw [h2]
    rintro e w2 ⟨rfl, l1⟩
    clear x0 x1 x2 x3 x4 x5 x6 x7 x8 x9 x10 x11 h2
    clear z0 z1 z2 z3 z4 z5 z6 z7 z8
    replace hb := hb.le l1
    replace hl := hl.trans l1
    have hgr := Nat.lt_of_lt_of_le hgr l1.size
    replace hr := hr.le l1
    clear l1
    obtain ⟨x0, x1, x2, x3, x4, x5, x6, x7, x8, x9, x10, x11⟩ := hat.le hl
    obtain ⟨⟨z0, z1, z2, z3, z4⟩, z5, z6, z7, z8⟩ := (hb).mach
    simp only [slV] at z7
    have bx := Box.new w2 (cellsT ⟨6, tc, tr, ta, (g : Int), tsn, tb, tpl, tpo, tre, tan, ttl⟩ (b0, b1, b2) qt) 58
    have a1 := Le.alloc w2 (.cells (cellsT ⟨6, tc, tr, ta, (g : Int), tsn, tb, tpl, tpo, tre, tan, ttl⟩ (b0, b1, b2) qt) 58)
    go_upto_region 4 with fail
    generalize hW1 : w2.alloc (.cells (cellsT ⟨6, tc, tr, ta, (g : Int), tsn, tb, tpl, tpo, tre, tan, ttl⟩ (b0, b1, b2) qt) 58) = W2 at bx a1 ⊢
    clear hW1
    have hgbx : w2.heap.size ≤ w2.heap.size := Nat.le_refl _
    generalize hgg : w2.heap.size = gbx at bx hgbx ⊢
    have hsbx : w2.heap.size ≤ gbx := by omega
    clear hgg hgbx
    have hgr := Nat.lt_of_lt_of_le hgr a1.size
    replace hl := hl.trans a1
    replace hb := hb.le a1
    replace hr := hr.le a1
    clear a1 x0 x1 x2 x3 x4 x5 x6 x7 x8 x9 x10 x11
    clear z0 z1 z2 z3 z4 z5 z6 z7 z8
    obtain ⟨x0, x1, x2, x3, x4, x5, x6, x7, x8, x9, x10, x11⟩ := bx.th
    obtain ⟨⟨z0, z1, z2, z3, z4⟩, z5, z6, z7, z8⟩ := (hb).mach
    go_quiet (fail)
    clear x0 x1 x2 x3 x4 x5 x6 x7 x8 x9 x10 x11
    clear z0 z1 z2 z3 z4 z5 z6 z7 z8
    have l1 := Le.drewN W2 nq
    generalize W2.drewN nq = W3 at l1 ⊢
    replace hb := hb.le l1
    replace hl := hl.trans l1
    have hgr := Nat.lt_of_lt_of_le hgr l1.size
    replace hr := hr.le l1
    replace bx := bx.le l1
    clear l1
    obtain ⟨x0, x1, x2, x3, x4, x5, x6, x7, x8, x9, x10, x11⟩ := bx.th
    obtain ⟨⟨z0, z1, z2, z3, z4⟩, z5, z6, z7, z8⟩ := (hb).mach
    go_wp2_with fail
    refine (m2 _ hl).mono ?_
    rintro e w9 ⟨_, rfl, ⟨L, rfl, HM, o1, ap⟩, l1⟩
    clear z0 z1 z2 z3 z4 z5 z6 z7 z8
    clear m2 x0 x1 x2 x3 x4 x5 x6 x7 x8 x9 x10 x11
    have hbo := Box.new w9 (cells9 L.c L.qR L.qP L.qT L.qH) 29
    have a1 := Le.alloc w9 (.cells (cells9 L.c L.qR L.qP L.qT L.qH) 29)
    go_upto_region 21 with fail
    generalize hW1 : w9.alloc (.cells (cells9 L.c L.qR L.qP L.qT L.qH) 29) = W4 at hbo a1 ⊢
    clear hW1
    have I : MoI W3.heap.size w9.heap.size W4 L := ⟨hbo, l1.size, o1.le a1, ap⟩
    have hgo : W3.heap.size ≤ w9.heap.size := l1.size
    generalize w9.heap.size = go at hbo I hgo ⊢
    have l01 := l1.trans a1
    clear hbo o1 ap l1 a1
    obtain ⟨c', uR, uP, uT, uH, xR, xP, xT, xH⟩ := L
    try simp only at I ⊢
    replace hr := hr.le l01
    replace hb := hb.le l01
    have hlB : w.heap.size ≤ W3.heap.size := hl.size
    replace hl := hl.trans l01
    obtain ⟨⟨y0, y1, y2, y3, y4⟩, y5, y6, y7, y8⟩ := (I.bo).mach
    have r0 := (hr).cell 0
    have r1 := (hr).cell 1
    have r2 := (hr).cell 2
    have r3 := (hr).cell 3
    have r4 := (hr).cell 4
    have r5 := (hr).cell 5
    have r6 := (hr).cell 6
    have r7 := (hr).cell 7
    have r8 := (hr).cell 8
    simp only [List.getElem?_toArray, List.getElem?_cons_succ, List.getElem?_cons_zero] at r0 r1 r2 r3 r4 r5 r6 r7 r8
    have k0 := (hr).frozen 0
    have k1 := (hr).frozen 1
    have k2 := (hr).frozen 2
    have k3 := (hr).frozen 3
    have k4 := (hr).frozen 4
    have k5 := (hr).frozen 5
    have k6 := (hr).frozen 6
    have k7 := (hr).frozen 7
    have k8 := (hr).frozen 8
    go_wp2_with fail
    refine bodyPost_ret (v := .tuple #[machV c' uR uP uT uH, .int .i64 0]) (by simp [results, Tryz.results74, go_sem, r0, r1, r2, r3, r4, r5, r6, r7, r8]) rfl ⟨_, rfl, ?_, (hl).put9 (g := w.heap.size + 1) (by omega) c' uR uP uT uH⟩
    have := (I.ret hr).base hlB
    rw [HM] at this
    exact this
  ·
    have m1 := fun w' (l : Le w w') => rmThere v M 0 0 t w' (hx.le l) hf
    obtain ⟨hmay, _, _, ⟨t0, t1⟩⟩ := thereB_cases h1
    obtain ⟨hrs, hps, hts, _⟩ := mayM_lens hmay
    obtain ⟨_, ⟨r2, r3⟩, ⟨_, l3⟩, ⟨t2, t3⟩, _, _⟩ := Cfg.ok_cases (mayM_ok hmay)
    obtain ⟨t, rfl⟩ : ∃ n : Nat, t = n := ⟨t.toNat, by omega⟩
    have hti : t < M.ts.length := by omega
    have hti' : (t : Int) < (M.ts.length : Int) := by omega
    have hxw := hx
    obtain ⟨_, _, ⟨g0, g1⟩, _, _, _, _, _, _⟩ := thB_cases (Mc.th_may hmay hti)
    obtain ⟨g, hg⟩ : ∃ n : Nat, (M.th t).lg = n := ⟨(M.th t).lg.toNat, by omega⟩
    obtain ⟨r, hr0⟩ : ∃ n : Nat, M.home t = n := ⟨(M.home t).toNat, by have := Int.emod_nonneg (t : Int) (show M.c.r ≠ 0 by omega); unfold Mc.home; omega⟩
    have hrr : (r : Int) < M.c.r := by have := Int.emod_lt_of_pos (t : Int) (show 0 < M.c.r by omega); unfold Mc.home at hr0; omega
    have htm : (t : Int).tmod M.c.r = (r : Int) := by rw [← hr0]; exact Int.tmod_eq_emod_of_nonneg (by omega)
    have htm2 : (t : Int) % M.c.r = (r : Int) := hr0
    have hne0 : ¬ M.c.r = 0 := by omega
    obtain ⟨bR, oR, cR, bP, oP, cP, bT, oT, cT, qH, rfl, hcR, hcP, hcT, _⟩ := hx.opens hmay
    obtain ⟨⟨b0, b1, b2⟩, qt, hat, hbb, _⟩ := hcT t hti
    have hb1 := has_len hbb
    rw [← Mc.th_nat] at hat hb1
    simp only [h1] at m1
    obtain ⟨T, hT⟩ : ∃ T, T = M.th t := ⟨_, rfl⟩
    have HT : Hid (T = M.th t) := hT
    have HG : Hid ((M.th t).lg = g) := hg
    have HH : Hid (M.home t = r) := hr0
    have HMAY : Hid (mayM M = true) := hmay
    rw [← hT] at h2 h3 hg hat hb1
    clear hT hr0
    obtain ⟨tst, tc, tr, ta, tlg, tsn, tb, tpl, tpo, tre, tan, ttl⟩ := T
    simp only at h2 h3 hg hb1
    subst h3 hg
    have HB1 : Hid (b1 = tb.length) := hb1
    clear h1 hb1 hmay hrs hps hts hbb hcT hcR hx
    have hr := Box.new (w.alloc (.cells (cells9 M.c (some ⟨bR, oR, none⟩, M.rs.length, cR) (some ⟨bP, oP, none⟩, M.ps.length, cP) (some ⟨bT, oT, none⟩, M.ts.length, cT) qH) 29)) cellsZ9 29
    have hb := (Box.new w (cells9 M.c (some ⟨bR, oR, none⟩, M.rs.length, cR) (some ⟨bP, oP, none⟩, M.ps.length, cP) (some ⟨bT, oT, none⟩, M.ts.length, cT) qH) 29).le (Le.alloc _ (.cells cellsZ9 29))
    have hl := (Le.alloc w (.cells (cells9 M.c (some ⟨bR, oR, none⟩, M.rs.length, cR) (some ⟨bP, oP, none⟩, M.ps.length, cP) (some ⟨bT, oT, none⟩, M.ts.length, cT) qH) 29)).trans (Le.alloc _ (.cells cellsZ9 29))
    rw [World.size_alloc] at hr
    go_enter Tryz.func74, Tryz.ntmps74
    go_upto_region 1 with fail
    generalize hW : (w.alloc (.cells (cells9 M.c (some ⟨bR, oR, none⟩, M.rs.length, cR) (some ⟨bP, oP, none⟩, M.ps.length, cP) (some ⟨bT, oT, none⟩, M.ts.length, cT) qH) 29)).alloc (.cells cellsZ9 29) = W at hl hb hr ⊢
    clear hW
    have hgr := hr.lt
    obtain ⟨⟨z0, z1, z2, z3, z4⟩, z5, z6, z7, z8⟩ := (hb).mach
    go_wp2_with fail
    refine (m1 _ hl).mono ?_
    rintro e w1 ⟨rfl, l1⟩
    clear z0 z1 z2 z3 z4 z5 z6 z7 z8
    clear m1
    replace hb := hb.le l1
    replace hl := hl.trans l1
    have hgr := Nat.lt_of_lt_of_le hgr l1.size
    replace hr := hr.le l1
    clear l1
    obtain ⟨x0, x1, x2, x3, x4, x5, x6, x7, x8, x9, x10, x11⟩ := hat.le hl
    obtain ⟨⟨z0, z1, z2, z3, z4⟩, z5, z6, z7, z8⟩ := (hb).mach
    simp only [slV] at z7
    go_wp2_with fail
    refine (refUpdates _ _ _ _).mono ?_
    rw [h2]
    rintro e w2 ⟨rfl, l1⟩
    clear x0 x1 x2 x3 x4 x5 x6 x7 x8 x9 x10 x11 h2
    clear z0 z1 z2 z3 z4 z5 z6 z7 z8
    replace hb := hb.le l1
    replace hl := hl.trans l1
    have hgr := Nat.lt_of_lt_of_le hgr l1.size
    replace hr := hr.le l1
    clear l1
    obtain ⟨x0, x1, x2, x3, x4, x5, x6, x7, x8, x9, x10, x11⟩ := hat.le hl
    obtain ⟨⟨z0, z1, z2, z3, z4⟩, z5, z6, z7, z8⟩ := (hb).mach
    simp only [slV] at z7
    have bx := Box.new w2 (cellsT ⟨7, tc, tr, ta, (g : Int), tsn, tb, tpl, tpo, tre, tan, ttl⟩ (b0, b1, b2) qt) 58
    have a1 := Le.alloc w2 (.cells (cellsT ⟨7, tc, tr, ta, (g : Int), tsn, tb, tpl, tpo, tre, tan, ttl⟩ (b0, b1, b2) qt) 58)
    go_upto_region 4 with fail
    generalize hW1 : w2.alloc (.cells (cellsT ⟨7, tc, tr, ta, (g : Int), tsn, tb, tpl, tpo, tre, tan, ttl⟩ (b0, b1, b2) qt) 58) = W2 at bx a1 ⊢
    clear hW1
    have hgbx : w2.heap.size ≤ w2.heap.size := Nat.le_refl _
    generalize hgg : w2.heap.size = gbx at bx hgbx ⊢
    have hsbx : w2.heap.size ≤ gbx := by omega
    clear hgg hgbx
    have hgr := Nat.lt_of_lt_of_le hgr a1.size
    replace hl := hl.trans a1
    replace hb := hb.le a1
    replace hr := hr.le a1
    clear a1 x0 x1 x2 x3 x4 x5 x6 x7 x8 x9 x10 x11
    clear z0 z1 z2 z3 z4 z5 z6 z7 z8
    obtain ⟨x0, x1, x2, x3, x4, x5, x6, x7, x8, x9, x10, x11⟩ := bx.th
    obtain ⟨⟨z0, z1, z2, z3, z4⟩, z5, z6, z7, z8⟩ := (hb).mach
    go_quiet (fail)
    clear x0 x1 x2 x3 x4 x5 x6 x7 x8 x9 x10 x11
    clear z0 z1 z2 z3 z4 z5 z6 z7 z8
    have l1 := Le.drewN W2 nq
    generalize W2.drewN nq = W3 at l1 ⊢
    replace hb := hb.le l1
    replace hl := hl.trans l1
    have hgr := Nat.lt_of_lt_of_le hgr l1.size
    replace hr := hr.le l1
    replace bx := bx.le l1
    clear l1
    obtain ⟨x0, x1, x2, x3, x4, x5, x6, x7, x8, x9, x10, x11⟩ := bx.th
    obtain ⟨⟨z0, z1, z2, z3, z4⟩, z5, z6, z7, z8⟩ := (hb).mach
    go_wp2_with fail
    refine (m2 _ hl).mono ?_
    rintro e w9 ⟨_, rfl, ⟨L, rfl, HM, o1, ap⟩, l1⟩
    clear z0 z1 z2 z3 z4 z5 z6 z7 z8
    clear m2 x0 x1 x2 x3 x4 x5 x6 x7 x8 x9 x10 x11
    have hbo := Box.new w9 (cells9 L.c L.qR L.qP L.qT L.qH) 29
    have a1 := Le.alloc w9 (.cells (cells9 L.c L.qR L.qP L.qT L.qH) 29)
    go_upto_region 21 with fail
    generalize hW1 : w9.alloc (.cells (cells9 L.c L.qR L.qP L.qT L.qH) 29) = W4 at hbo a1 ⊢
    clear hW1
    have I : MoI W3.heap.size w9.heap.size W4 L := ⟨hbo, l1.size, o1.le a1, ap⟩
    have hgo : W3.heap.size ≤ w9.heap.size := l1.size
    generalize w9.heap.size = go at hbo I hgo ⊢
    have l01 := l1.trans a1
    clear hbo o1 ap l1 a1
    obtain ⟨c', uR, uP, uT, uH, xR, xP, xT, xH⟩ := L
    try simp only at I ⊢
    replace hr := hr.le l01
    replace hb := hb.le l01
    have hlB : w.heap.size ≤ W3.heap.size := hl.size
    replace hl := hl.trans l01
    obtain ⟨⟨y0, y1, y2, y3, y4⟩, y5, y6, y7, y8⟩ := (I.bo).mach
    have r0 := (hr).cell 0
    have r1 := (hr).cell 1
    have r2 := (hr).cell 2
    have r3 := (hr).cell 3
    have r4 := (hr).cell 4
    have r5 := (hr).cell 5
    have r6 := (hr).cell 6
    have r7 := (hr).cell 7
    have r8 := (hr).cell 8
    simp only [List.getElem?_toArray, List.getElem?_cons_succ, List.getElem?_cons_zero] at r0 r1 r2 r3 r4 r5 r6 r7 r8
    have k0 := (hr).frozen 0
    have k1 := (hr).frozen 1
    have k2 := (hr).frozen 2
    have k3 := (hr).frozen 3
    have k4 := (hr).frozen 4
    have k5 := (hr).frozen 5
    have k6 := (hr).frozen 6
    have k7 := (hr).frozen 7
    have k8 := (hr).frozen 8
    go_wp2_with fail
    refine bodyPost_ret (v := .tuple #[machV c' uR uP uT uH, .int .i64 0]) (by simp [results, Tryz.results74, go_sem, r0, r1, r2, r3, r4, r5, r6, r7, r8]) rfl ⟨_, rfl, ?_, (hl).put9 (g := w.heap.size + 1) (by omega) c' uR uP uT uH⟩
    have := (I.ret hr).base hlB
    rw [HM] at this
    exact this

set_option maxRecDepth 8000 in
set_option maxHeartbeats 8000000 in
theorem rmUpd10 (v : Value) (M : Mc) (t : Int) (w : World) (hx : HasM w v M) (hf : FitM M) (h1 : thereB M 0 0 t = true) (h2 : opUp (M.th t).c (M.th t).r (M.th t).a = true) (h3 : (M.th t).st = 10) (h4 : (M.th t).re = false) : Calls Tryz.prog 74 #[v, .int .i64 t] w fun e w' => ∃ v', e = .returned (.tuple #[v', .int .i64 0]) ∧ OwnA w' w.heap.size v' (stepM M t 2) ∧ Le w w' := by
  have m2 := fun w' (l : Le w w') (hti : t.toNat < M.ts.length) => rmStepped v M t.toNat 2 w' (hx.le l) hf hti
  have m1 := fun w' (l : Le w w') => rmThere v M 0 0 t w' (hx.le l) hf
  obtain ⟨hmay, _, _, ⟨t0, t1⟩⟩ := thereB_cases h1
  obtain ⟨hrs, hps, hts, _⟩ := mayM_lens hmay
  obtain ⟨_, ⟨r2, r3⟩, ⟨_, l3⟩, ⟨t2, t3⟩, _, _⟩ := Cfg.ok_cases (mayM_ok hmay)
  obtain ⟨t, rfl⟩ : ∃ n : Nat, t = n := ⟨t.toNat, by omega⟩
  simp only [Int.toNat_natCast] at m2
  have hti : t < M.ts.length := by omega
  have hti' : (t : Int) < (M.ts.length : Int) := by omega
  have hxw := hx
  obtain ⟨_, _, ⟨g0, g1⟩, _, _, _, _, _, _⟩ := thB_cases (Mc.th_may hmay hti)
  obtain ⟨g, hg⟩ : ∃ n : Nat, (M.th t).lg = n := ⟨(M.th t).lg.toNat, by omega⟩
  obtain ⟨r, hr0⟩ : ∃ n : Nat, M.home t = n := ⟨(M.home t).toNat, by have := Int.emod_nonneg (t : Int) (show M.c.r ≠ 0 by omega); unfold Mc.home; omega⟩
  have hrr : (r : Int) < M.c.r := by have := Int.emod_lt_of_pos (t : Int) (show 0 < M.c.r by omega); unfold Mc.home at hr0; omega
  have htm : (t : Int).tmod M.c.r = (r : Int) := by rw [← hr0]; exact Int.tmod_eq_emod_of_nonneg (by omega)
  have htm2 : (t : Int) % M.c.r = (r : Int) := hr0
  have hne0 : ¬ M.c.r = 0 := by omega
  obtain ⟨bR, oR, cR, bP, oP, cP, bT, oT, cT, qH, rfl, hcR, hcP, hcT, _⟩ := hx.opens hmay
  obtain ⟨⟨b0, b1, b2⟩, qt, hat, hbb, _⟩ := hcT t hti
  have hb1 := has_len hbb
  rw [← Mc.th_nat] at hat hb1
  simp only [h1] at m1
  obtain ⟨T, hT⟩ : ∃ T, T = M.th t := ⟨_, rfl⟩
  have HT : Hid (T = M.th t) := hT
  have HG : Hid ((M.th t).lg = g) := hg
  have HH : Hid (M.home t = r) := hr0
  have HMAY : Hid (mayM M = true) := hmay
  rw [← hT] at h2 h3 h4 hg hat hb1
  clear hT hr0
  obtain ⟨tst, tc, tr, ta, tlg, tsn, tb, tpl, tpo, tre, tan, ttl⟩ := T
  simp only at h2 h3 h4 hg hb1
  subst h3 hg h4
  have HB1 : Hid (b1 = tb.length) := hb1
  clear h1 hb1 hmay hrs hps hts hbb hcT hcR hx
  have hr := Box.new (w.alloc (.cells (cells9 M.c (some ⟨bR, oR, none⟩, M.rs.length, cR) (some ⟨bP, oP, none⟩, M.ps.length, cP) (some ⟨bT, oT, none⟩, M.ts.length, cT) qH) 29)) cellsZ9 29
  have hb := (Box.new w (cells9 M.c (some ⟨bR, oR, none⟩, M.rs.length, cR) (some ⟨bP, oP, none⟩, M.ps.length, cP) (some ⟨bT, oT, none⟩, M.ts.length, cT) qH) 29).le (Le.alloc _ (.cells cellsZ9 29))
  have hl := (Le.alloc w (.cells (cells9 M.c (some ⟨bR, oR, none⟩, M.rs.length, cR) (some ⟨bP, oP, none⟩, M.ps.length, cP) (some ⟨bT, oT, none⟩, M.ts.length, cT) qH) 29)).trans (Le.alloc _ (.cells cellsZ9 29))
  rw [World.size_alloc] at hr
  go_enter Tryz.func74, Tryz.ntmps74
  go_upto_region 1 with fail
  generalize hW : (w.alloc (.cells (cells9 M.c (some ⟨bR, oR, none⟩, M.rs.length, cR) (some ⟨bP, oP, none⟩, M.ps.length, cP) (some ⟨bT, oT, none⟩, M.ts.length, cT) qH) 29)).alloc (.cells cellsZ9 29) = W at hl hb hr ⊢
  clear hW
  have hgr := hr.lt
  obtain ⟨⟨z0, z1, z2, z3, z4⟩, z5, z6, z7, z8⟩ := (hb).mach
  go_wp2_with fail
  refine (m1 _ hl).mono ?_
  rintro e w1 ⟨rfl, l1⟩
  clear z0 z1 z2 z3 z4 z5 z6 z7 z8
  clear m1
  replace hb := hb.le l1
  replace hl := hl.trans l1
  have hgr := Nat.lt_of_lt_of_le hgr l1.size
  replace hr := hr.le l1
  clear l1
  obtain ⟨x0, x1, x2, x3, x4, x5, x6, x7, x8, x9, x10, x11⟩ := hat.le hl
  obtain ⟨⟨z0, z1, z2, z3, z4⟩, z5, z6, z7, z8⟩ := (hb).mach
  simp only [slV] at z7
  go_wp2_with fail
  refine (refUpdates _ _ _ _).mono ?_
  rw [h2]
  rintro e w2 ⟨rfl, l1⟩
  clear x0 x1 x2 x3 x4 x5 x6 x7 x8 x9 x10 x11 h2
  clear z0 z1 z2 z3 z4 z5 z6 z7 z8
  replace hb := hb.le l1
  replace hl := hl.trans l1
  have hgr := Nat.lt_of_lt_of_le hgr l1.size
  replace hr := hr.le l1
  clear l1
  obtain ⟨x0, x1, x2, x3, x4, x5, x6, x7, x8, x9, x10, x11⟩ := hat.le hl
  obtain ⟨⟨z0, z1, z2, z3, z4⟩, z5, z6, z7, z8⟩ := (hb).mach
  simp only [slV] at z7
  have bx := Box.new w2 (cellsT ⟨10, tc, tr, ta, (g : Int), tsn, tb, tpl, tpo, false, tan, ttl⟩ (b0, b1, b2) qt) 58
  have a1 := Le.alloc w2 (.cells (cellsT ⟨10, tc, tr, ta, (g : Int), tsn, tb, tpl, tpo, false, tan, ttl⟩ (b0, b1, b2) qt) 58)
  go_upto_region 4 with fail
  generalize hW1 : w2.alloc (.cells (cellsT ⟨10, tc, tr, ta, (g : Int), tsn, tb, tpl, tpo, false, tan, ttl⟩ (b0, b1, b2) qt) 58) = W2 at bx a1 ⊢
  clear hW1
  have hgbx : w2.heap.size ≤ w2.heap.size := Nat.le_refl _
  generalize hgg : w2.heap.size = gbx at bx hgbx ⊢
  have hsbx : w2.heap.size ≤ gbx := by omega
  clear hgg hgbx
  have hgr := Nat.lt_of_lt_of_le hgr a1.size
  replace hl := hl.trans a1
  replace hb := hb.le a1
  replace hr := hr.le a1
  clear a1 x0 x1 x2 x3 x4 x5 x6 x7 x8 x9 x10 x11
  clear z0 z1 z2 z3 z4 z5 z6 z7 z8
  obtain ⟨x0, x1, x2, x3, x4, x5, x6, x7, x8, x9, x10, x11⟩ := bx.th
  obtain ⟨⟨z0, z1, z2, z3, z4⟩, z5, z6, z7, z8⟩ := (hb).mach
  go_quiet (fail)
  clear x0 x1 x2 x3 x4 x5 x6 x7 x8 x9 x10 x11
  clear z0 z1 z2 z3 z4 z5 z6 z7 z8
  have l1 := Le.drewN W2 nq
  generalize W2.drewN nq = W3 at l1 ⊢
  replace hb := hb.le l1
  replace hl := hl.trans l1
  have hgr := Nat.lt_of_lt_of_le hgr l1.size
  replace hr := hr.le l1
  replace bx := bx.le l1
  clear l1
  obtain ⟨x0, x1, x2, x3, x4, x5, x6, x7, x8, x9, x10, x11⟩ := bx.th
  obtain ⟨⟨z0, z1, z2, z3, z4⟩, z5, z6, z7, z8⟩ := (hb).mach
  clear hat bx
  go_wp2_with fail
  refine (m2 _ hl hti).mono ?_
  rintro e w9 ⟨_, rfl, ⟨⟨c', uR, uP, uT, uH, xR, xP, xT, xH⟩, rfl, HM, o1, ap⟩, l1⟩
  clear m2
  replace hr := hr.le l1
  have r0 := (hr).cell 0
  have r1 := (hr).cell 1
  have r2 := (hr).cell 2
  have r3 := (hr).cell 3
  have r4 := (hr).cell 4
  have r5 := (hr).cell 5
  have r6 := (hr).cell 6
  have r7 := (hr).cell 7
  have r8 := (hr).cell 8
  simp only [List.getElem?_toArray, List.getElem?_cons_succ, List.getElem?_cons_zero] at r0 r1 r2 r3 r4 r5 r6 r7 r8
  have k0 := (hr).frozen 0
  have k1 := (hr).frozen 1
  have k2 := (hr).frozen 2
  have k3 := (hr).frozen 3
  have k4 := (hr).frozen 4
  have k5 := (hr).frozen 5
  have k6 := (hr).frozen 6
  have k7 := (hr).frozen 7
  have k8 := (hr).frozen 8
  go_wp2_with fail
  refine bodyPost_ret (v := .tuple #[machV c' uR uP uT uH, .int .i64 0]) (by simp [results, Tryz.results74, go_sem, r0, r1, r2, r3, r4, r5, r6, r7, r8]) rfl ⟨_, rfl, ?_, (hl.trans l1).put9 (g := w.heap.size + 1) (by omega) c' uR uP uT uH⟩
  refine ⟨⟨c', uR, uP, uT, uH, xR, xP, xT, xH⟩, rfl, HM, ?_, ap⟩
  exact (o1.base hl.size).put9 hr c' uR uP uT uH

end Go.Proofs.YtibleipfablniaaGreat

/-
  THE WALKS over the document's Pick (a thread that turns something) and Call. Condition: that the machine's rows can be copied.
-/
namespace Go.Proofs.YtibleipfablniaaGreat
open Go.RowKit

set_option maxRecDepth 8000 in
set_option maxHeartbeats 8000000 in
theorem rmPickU (v : Value) (M : Mc) (t : Int) (w : World) (hx : HasM w v M) (hf : FitM M) (hmay : mayM M = true) (ht : 0 ≤ t ∧ t < M.c.t) (h3 : (M.th t).st ≠ 0) (h4 : (M.th t).c ≠ 2) (h5 : (M.th t).c ≠ 3) (N : Mc) (m2 : ∀ w', Le w w' → Calls Tryz.prog 74 #[v, .int .i64 t] w' fun e w'' => ∃ v', e = .returned (.tuple #[v', .int .i64 0]) ∧ OwnA w'' w'.heap.size v' N ∧ Le w' w'') : Calls Tryz.prog 44 #[v, .int .i64 t] w fun e w' => ∃ v', e = .returned (.tuple #[v', .int .i64 0]) ∧ OwnA w' w.heap.size v' N ∧ Le w w' := by
  have m1 := fun w' (l : Le w w') => rmMay v M w' (hx.le l) hf
  simp only [hmay] at m1
  obtain ⟨hrs, hps, hts, _⟩ := mayM_lens hmay
  obtain ⟨_, ⟨r2, r3⟩, ⟨_, l3⟩, ⟨t2, t3⟩, _, _⟩ := Cfg.ok_cases (mayM_ok hmay)
  obtain ⟨t, rfl⟩ : ∃ n : Nat, t = n := ⟨t.toNat, by omega⟩
  have hti : t < M.ts.length := by omega
  have hti' : (t : Int) < (M.ts.length : Int) := by omega
  have htc : (t : Int) < M.c.t := ht.2
  obtain ⟨bR, oR, cR, bP, oP, cP, bT, oT, cT, qH, rfl, _, _, hcT, _⟩ := hx.opens hmay
  obtain ⟨qb, qt, hat, _, _⟩ := hcT t hti
  rw [← Mc.th_nat] at hat
  obtain ⟨x0, x1, _⟩ := hat
  obtain ⟨st, hst⟩ : ∃ x, x = (M.th t).st := ⟨_, rfl⟩
  obtain ⟨co, hco⟩ : ∃ x, x = (M.th t).c := ⟨_, rfl⟩
  rw [← hst] at h3 x0
  rw [← hco] at h4 h5 x1
  have hb0 : (st == 0) = false := by simp [h3]
  have hb2 : (co == 2) = false := by simp [h4]
  have hb3 : (co == 3) = false := by simp [h5]
  clear hst hco h3 h4 h5 hcT hmay hrs hps hts ht
  have hr := Box.new (w.alloc (.cells (cells9 M.c (some ⟨bR, oR, none⟩, M.rs.length, cR) (some ⟨bP, oP, none⟩, M.ps.length, cP) (some ⟨bT, oT, none⟩, M.ts.length, cT) qH) 29)) cellsZ9 29
  have hb := (Box.new w (cells9 M.c (some ⟨bR, oR, none⟩, M.rs.length, cR) (some ⟨bP, oP, none⟩, M.ps.length, cP) (some ⟨bT, oT, none⟩, M.ts.length, cT) qH) 29).le (Le.alloc _ (.cells cellsZ9 29))
  have hl := (Le.alloc w (.cells (cells9 M.c (some ⟨bR, oR, none⟩, M.rs.length, cR) (some ⟨bP, oP, none⟩, M.ps.length, cP) (some ⟨bT, oT, none⟩, M.ts.length, cT) qH) 29)).trans (Le.alloc _ (.cells cellsZ9 29))
  rw [World.size_alloc] at hr
  go_enter Tryz.func44, Tryz.ntmps44
  go_upto_region 1 with fail
  generalize hW : (w.alloc (.cells (cells9 M.c (some ⟨bR, oR, none⟩, M.rs.length, cR) (some ⟨bP, oP, none⟩, M.ps.length, cP) (some ⟨bT, oT, none⟩, M.ts.length, cT) qH) 29)).alloc (.cells cellsZ9 29) = W at hl hb hr ⊢
  clear hW
  have hgr := hr.lt
  obtain ⟨⟨z0, z1, z2, z3, z4⟩, z5, z6, z7, z8⟩ := (hb).mach
  go_wp2_with fail
  refine (m1 _ hl).mono ?_
  rintro e w1 ⟨rfl, l1⟩
  clear z0 z1 z2 z3 z4 z5 z6 z7 z8
  clear m1
  replace hb := hb.le l1
  replace hl := hl.trans l1
  have hgr := Nat.lt_of_lt_of_le hgr l1.size
  replace hr := hr.le l1
  clear l1
  have y0 := cell_le x0 hl
  have y1 := cell_le x1 hl
  obtain ⟨⟨z0, z1, z2, z3, z4⟩, z5, z6, z7, z8⟩ := (hb).mach
  simp only [slV] at z7
  have bo := Box.new w1 cellsZ9 29
  have a1 := Le.alloc w1 (.cells cellsZ9 29)
  go_upto_region 7 with fail
  generalize hW1 : w1.alloc (.cells cellsZ9 29) = W2 at bo a1 ⊢
  clear hW1
  have hgbo : w1.heap.size ≤ w1.heap.size := Nat.le_refl _
  generalize hgg : w1.heap.size = gbo at bo hgbo ⊢
  have hsbo : w1.heap.size ≤ gbo := by omega
  clear hgg hgbo
  have hgr := Nat.lt_of_lt_of_le hgr a1.size
  replace hl := hl.trans a1
  replace hb := hb.le a1
  replace hr := hr.le a1
  clear a1 y0 y1
  clear z0 z1 z2 z3 z4 z5 z6 z7 z8
  have y0 := cell_le x0 hl
  have y1 := cell_le x1 hl
  obtain ⟨⟨z0, z1, z2, z3, z4⟩, z5, z6, z7, z8⟩ := (hb).mach
  simp only [slV] at z7
  go_wp2_with fail
  refine (m2 _ hl).mono ?_
  rintro e w9 ⟨_, rfl, ⟨⟨c', uR, uP, uT, uH, xR, xP, xT, xH⟩, rfl, HM, o1, ap⟩, l1⟩
  clear m2 y0 y1
  clear z0 z1 z2 z3 z4 z5 z6 z7 z8
  replace bo := bo.le l1
  replace hr := hr.le l1
  replace hl := hl.trans l1
  have r0 := (bo).cell 0
  have r1 := (bo).cell 1
  have r2 := (bo).cell 2
  have r3 := (bo).cell 3
  have r4 := (bo).cell 4
  have r5 := (bo).cell 5
  have r6 := (bo).cell 6
  have r7 := (bo).cell 7
  have r8 := (bo).cell 8
  simp only [List.getElem?_toArray, List.getElem?_cons_succ, List.getElem?_cons_zero] at r0 r1 r2 r3 r4 r5 r6 r7 r8
  have k0 := (bo).frozen 0
  have k1 := (bo).frozen 1
  have k2 := (bo).frozen 2
  have k3 := (bo).frozen 3
  have k4 := (bo).frozen 4
  have k5 := (bo).frozen 5
  have k6 := (bo).frozen 6
  have k7 := (bo).frozen 7
  have k8 := (bo).frozen 8
  have hne : w.heap.size + 1 ≠ gbo := by omega
  go_upto_region 13 with fail
  clear r0 r1 r2 r3 r4 r5 r6 r7 r8 k0 k1 k2 k3 k4 k5 k6 k7 k8
  have bo2 := bo.put9 rfl c' uR uP uT uH
  have hr2 := hr.off9 hne c' uR uP uT uH
  have hl2 := hl.put9 (g := gbo) (by omega) c' uR uP uT uH
  have o2 := o1.put9 bo c' uR uP uT uH
  show Code.wp _ _ _ _ (put9 w9 gbo c' uR uP uT uH)
  generalize put9 w9 gbo c' uR uP uT uH = W5 at bo2 hr2 hl2 o2 ⊢
  clear bo hr hl o1
  obtain ⟨⟨y0, y1, y2, y3, y4⟩, y5, y6, y7, y8⟩ := (bo2).mach
  have r0 := (hr2).cell 0
  have r1 := (hr2).cell 1
  have r2 := (hr2).cell 2
  have r3 := (hr2).cell 3
  have r4 := (hr2).cell 4
  have r5 := (hr2).cell 5
  have r6 := (hr2).cell 6
  have r7 := (hr2).cell 7
  have r8 := (hr2).cell 8
  simp only [List.getElem?_toArray, List.getElem?_cons_succ, List.getElem?_cons_zero] at r0 r1 r2 r3 r4 r5 r6 r7 r8
  have k0 := (hr2).frozen 0
  have k1 := (hr2).frozen 1
  have k2 := (hr2).frozen 2
  have k3 := (hr2).frozen 3
  have k4 := (hr2).frozen 4
  have k5 := (hr2).frozen 5
  have k6 := (hr2).frozen 6
  have k7 := (hr2).frozen 7
  have k8 := (hr2).frozen 8
  go_wp2_with fail
  refine bodyPost_ret (v := .tuple #[machV c' uR uP uT uH, .int .i64 0]) (by simp [results, Tryz.results44, go_sem, r0, r1, r2, r3, r4, r5, r6, r7, r8]) rfl ⟨_, rfl, ?_, hl2.put9 (g := w.heap.size + 1) (by omega) c' uR uP uT uH⟩
  refine ⟨⟨c', uR, uP, uT, uH, xR, xP, xT, xH⟩, rfl, HM, ?_, ap⟩
  exact (o2.base (by omega)).put9 hr2 c' uR uP uT uH

end Go.Proofs.YtibleipfablniaaGreat

/-
  THE WALK over the document's Call that is taken. Condition: that the machine's rows can be copied.
-/
namespace Go.Proofs.YtibleipfablniaaGreat
open Go.RowKit

theorem busy_take {ts : List Th} {k : Nat} (hk : k < ts.length) : busy (ts.take (k + 1)) = busy (ts.take k) + if (ts.getD k Th.zero).st ≠ 0 then 1 else 0 := by
  unfold busy
  rw [List.take_succ_eq_append_getElem hk, List.filter_append, List.length_append]
  simp only [List.getD, List.getElem?_eq_getElem hk, Option.getD_some]
  by_cases h : ts[k].st = 0 <;> simp [h]
theorem busy_le (ts : List Th) : 0 ≤ busy ts ∧ busy ts ≤ ts.length := by
  unfold busy
  have := List.length_filter_le (fun T : Th => decide (T.st ≠ 0)) ts
  omega

set_option maxRecDepth 8000 in
set_option maxHeartbeats 8000000 in
theorem rmCallOk (v : Value) (M : Mc) (t c r a : Int) (w : World) (hx : HasM w v M) (hf : FitM M) (hmay : mayM M = true) (hop : opMay c r a = true) (ht : 0 ≤ t ∧ t < M.c.t) (h3 : (M.th t).st = 0) (h4 : (M.es.length : Int) + 2 + busy M.ts ≤ 64) : Calls Tryz.prog 43 #[v, .int .i64 t, opV c r a] w fun e w' => ∃ v', e = .returned (.tuple #[v', .int .i64 0]) ∧ OwnA w' w.heap.size v' { M with ts := M.ts.set t.toNat (newT M c r a), es := M.es ++ [⟨t, true, c, r, a, 0⟩] } ∧ Le w w' := by
  have m1 := fun w' (l : Le w w') => rmMay v M w' (hx.le l) hf
  have m2 := fun w' (l : Le w w') => rmCopy v M w' (hx.le l) hf
  have m3 := fun w' => refOperMay c r a w'
  simp only [hmay] at m1
  simp only [hop] at m3
  obtain ⟨hrs, hps, hts, hes⟩ := mayM_lens hmay
  obtain ⟨_, ⟨r2, r3⟩, ⟨l2, l3⟩, ⟨t2, t3⟩, _, _⟩ := Cfg.ok_cases (mayM_ok hmay)
  obtain ⟨t, rfl⟩ : ∃ n : Nat, t = n := ⟨t.toNat, by omega⟩
  rw [Int.toNat_natCast]
  have hti : t < M.ts.length := by omega
  have hti' : (t : Int) < (M.ts.length : Int) := by omega
  have htc : (t : Int) < M.c.t := ht.2
  obtain ⟨bR, oR, cR, bP, oP, cP, bT, oT, cT, ⟨h0, h1, h2⟩, rfl, _, _, hcT, hH⟩ := hx.opens hmay
  have hhl : h1 = M.es.length := hH.len
  obtain ⟨qb, qt, hat, _, _⟩ := hcT t hti
  rw [← Mc.th_nat] at hat
  obtain ⟨y0, _⟩ := hat
  rw [h3] at y0
  obtain ⟨n, hn⟩ : ∃ n : Nat, M.c.t = n := ⟨M.c.t.toNat, by omega⟩
  have HN : Hid (M.c.t = n) := hn
  have HTS : Hid (M.ts.length = n) := by show M.ts.length = n; omega
  have HH1 : Hid (h1 = M.es.length) := hhl
  have HBUSY : Hid ((M.es.length : Int) + 2 + busy M.ts ≤ 64) := h4
  have hh64 : (h1 : Int) ≤ 64 := by omega
  have hn4 : n ≤ 4 := by omega
  have hl0 : ¬ M.c.l = 0 := by omega
  have hr0 : 0 ≤ r := by
    unfold opMay at hop
    simp only [Bool.and_eq_true, decide_eq_true_eq] at hop
    exact hop.1.1.1.1
  obtain ⟨lg, hlg⟩ : ∃ x, x = r % M.c.l := ⟨_, rfl⟩
  have hlg1 : r.tmod M.c.l = lg := by rw [hlg]; exact Int.tmod_eq_emod_of_nonneg hr0
  have hlg2 : r % M.c.l = lg := hlg.symm
  have HLG : Hid (lg = r % M.c.l) := hlg
  clear hlg
  clear hmay hop hrs hps hts hes ht h3 hhl hn h4
  have hb := ((Box.new w (cells9 M.c (some ⟨bR, oR, none⟩, M.rs.length, cR) (some ⟨bP, oP, none⟩, M.ps.length, cP) (some ⟨bT, oT, none⟩, M.ts.length, cT) (h0, h1, h2)) 29).le (Le.alloc _ (.cells #[.int .i64 c, .int .i64 r, .int .i64 a] 48))).le (Le.alloc _ (.cells cellsZ9 29))
  have bo := (Box.new (w.alloc (.cells (cells9 M.c (some ⟨bR, oR, none⟩, M.rs.length, cR) (some ⟨bP, oP, none⟩, M.ps.length, cP) (some ⟨bT, oT, none⟩, M.ts.length, cT) (h0, h1, h2)) 29)) #[.int .i64 c, .int .i64 r, .int .i64 a] 48).le (Le.alloc _ (.cells cellsZ9 29))
  have hr := Box.new ((w.alloc (.cells (cells9 M.c (some ⟨bR, oR, none⟩, M.rs.length, cR) (some ⟨bP, oP, none⟩, M.ps.length, cP) (some ⟨bT, oT, none⟩, M.ts.length, cT) (h0, h1, h2)) 29)).alloc (.cells #[.int .i64 c, .int .i64 r, .int .i64 a] 48)) cellsZ9 29
  have hl := ((Le.alloc w (.cells (cells9 M.c (some ⟨bR, oR, none⟩, M.rs.length, cR) (some ⟨bP, oP, none⟩, M.ps.length, cP) (some ⟨bT, oT, none⟩, M.ts.length, cT) (h0, h1, h2)) 29)).trans (Le.alloc _ (.cells #[.int .i64 c, .int .i64 r, .int .i64 a] 48))).trans (Le.alloc _ (.cells cellsZ9 29))
  simp only [World.size_alloc] at hr bo
  go_enter Tryz.func43, Tryz.ntmps43
  go_upto_region 1 with fail
  generalize hW : ((w.alloc (.cells (cells9 M.c (some ⟨bR, oR, none⟩, M.rs.length, cR) (some ⟨bP, oP, none⟩, M.ps.length, cP) (some ⟨bT, oT, none⟩, M.ts.length, cT) (h0, h1, h2)) 29)).alloc (.cells #[.int .i64 c, .int .i64 r, .int .i64 a] 48)).alloc (.cells cellsZ9 29) = W at hl hb hr bo ⊢
  clear hW
  have hgr := hr.lt
  obtain ⟨⟨z0, z1, z2, z3, z4⟩, z5, z6, z7, z8⟩ := (hb).mach
  go_wp2_with fail
  refine (m1 _ hl).mono ?_
  rintro e w1 ⟨rfl, l1⟩
  clear z0 z1 z2 z3 z4 z5 z6 z7 z8
  replace hb := hb.le l1
  replace bo := bo.le l1
  replace hr := hr.le l1
  replace hl := hl.trans l1
  replace hgr := Nat.lt_of_lt_of_le hgr l1.size
  clear l1 m1
  obtain ⟨p0, p1, p2, _, _, _⟩ := bo.op
  go_wp2_with fail
  refine (m3 _).mono ?_
  rintro e w2 ⟨rfl, l1⟩
  clear p0 p1 p2 m3
  replace hb := hb.le l1
  replace bo := bo.le l1
  replace hr := hr.le l1
  replace hl := hl.trans l1
  replace hgr := Nat.lt_of_lt_of_le hgr l1.size
  clear l1
  obtain ⟨⟨z0, z1, z2, z3, z4⟩, z5, z6, z7, z8⟩ := (hb).mach
  simp only [slV] at z7 z8
  have y0' := cell_le y0 hl
  go_wp2_with fail
  clear y0'
  clear z0 z1 z2 z3 z4 z5 z6 z7 z8
  go_loopw [8, 9] (fun s i wr => ∃ (k : Nat) (S : Int), k ≤ n ∧ i = .int .i64 k ∧ s = .int .i64 S ∧ Hid (S = (h1 : Int) + 2 + busy (M.ts.take k)) ∧ (0 ≤ S ∧ S ≤ 70) ∧ w2 = wr) (fun _ i _ => n - (intOf i).toNat)
  case atStart => exact ⟨0, (h1 : Int) + 2, by omega, rfl, rfl, by show _ = _; simp [busy], by omega, rfl⟩
  case round =>
    obtain ⟨k, S, hk, rfl, rfl, HS, hS, rfl⟩ := hrel
    obtain ⟨⟨z0, z1, z2, z3, z4⟩, z5, z6, z7, z8⟩ := (hb).mach
    simp only [slV] at z7 z8
    by_cases hlt : k < n
    · have hlt' : (k : Int) < M.c.t := by have := HN.out; omega
      have hkn : k < M.ts.length := by have := HTS.out; omega
      have hltn : (k : Int) < (M.ts.length : Int) := by omega
      obtain ⟨qb, qt, hat, _, _⟩ := hcT k hkn
      obtain ⟨x0, _⟩ := hat.le hl
      have hbt := busy_take hkn
      have hbl := busy_le (M.ts.take (k + 1))
      have hS1 : Hid ((h1 : Int) + 2 + busy (M.ts.take (k + 1)) ≤ 70) := by
        show _ ≤ _
        have := List.length_take_le (k + 1) M.ts
        have := HTS.out
        have := hbl.2
        omega
      clear hbl
      obtain ⟨st, hst⟩ : ∃ x, x = (M.ts.getD k Th.zero).st := ⟨_, rfl⟩
      rw [← hst] at x0 hbt
      have HBT : Hid (busy (M.ts.take (k + 1)) = busy (M.ts.take k) + if st ≠ 0 then 1 else 0) := hbt
      clear hst hbt hkn hat
      by_cases h0 : st = 0
      · have hb0 : (st != 0) = false := by simp [h0]
        have HS2 : Hid (S = (h1 : Int) + 2 + busy (M.ts.take (k + 1))) := by show _ = _; rw [HBT.out, if_neg (by simp [h0])]; have := HS.out; omega
        clear h0
        go_wp2_with fail
        go_roundw
        case rel => exact ⟨k + 1, S, by omega, by go_num, rfl, HS2, hS, trivial⟩
        case measure => simp [intOf]; omega
      · have hb0 : (st != 0) = true := by simp [h0]
        have HS2 : Hid (S + 1 = (h1 : Int) + 2 + busy (M.ts.take (k + 1))) := by show _ = _; rw [HBT.out, if_pos h0]; have := HS.out; omega
        have hS3 : 0 ≤ S + 1 ∧ S + 1 ≤ 70 := by have := HS2.out; have := hS1.out; omega
        clear h0
        go_wp2_with fail
        go_roundw
        case rel => exact ⟨k + 1, S + 1, by omega, by go_num, by go_num, HS2, hS3, trivial⟩
        case measure => simp [intOf]; omega
    · obtain rfl : n = k := by omega
      have hge : M.c.t ≤ (n : Int) := by have := HN.out; omega
      have hS64 : S ≤ 64 := by
        have h1 := HS.out
        have h2 := HBUSY.out
        have h3 := HH1.out
        rw [List.take_of_length_le (by have := HTS.out; omega)] at h1
        omega
      clear hlt hS HS
      go_wp2_with fail
      refine (m2 _ hl).mono ?_
      rintro e w9 ⟨L, rfl, HM, o1, ap, l1⟩
      clear z0 z1 z2 z3 z4 z5 z6 z7 z8
      clear m2
      have hbu := Box.new w9 (cells9 L.c L.qR L.qP L.qT L.qH) 29
      have a1 := Le.alloc w9 (.cells (cells9 L.c L.qR L.qP L.qT L.qH) 29)
      go_upto_region 16 with fail
      generalize hW1 : w9.alloc (.cells (cells9 L.c L.qR L.qP L.qT L.qH) 29) = W3 at hbu a1 ⊢
      clear hW1
      have I : MoI w2.heap.size w9.heap.size W3 L := ⟨hbu, l1.size, o1.le a1, ap⟩
      have hgo : w2.heap.size ≤ w9.heap.size := l1.size
      generalize w9.heap.size = go at hbu I hgo ⊢
      have l01 := l1.trans a1
      clear hbu o1 ap l1 a1
      obtain ⟨c', uR, uP, uT, uH, xR, xP, xT, xH⟩ := L
      replace hr := hr.le l01
      replace hb := hb.le l01
      replace bo := bo.le l01
      have hlB : w.heap.size ≤ w2.heap.size := hl.size
      have hiT : t < xT.length := by have := lay_ts HM; simp only at this; omega
      have hiT' : (t : Int) < (xT.length : Int) := by omega
      obtain ⟨gT, capT, hqT, hcapT, hgBT, hgltT, hgneT, hatT, hfzT⟩ := I.openT hiT
      try simp only at hqT hatT hcapT
      subst hqT
      have hT0 : True := trivial
      obtain ⟨p0, p1, p2, _, _, _⟩ := bo.op
      obtain ⟨⟨z0, z1, z2, z3, z4⟩, z5, z6, z7, z8⟩ := (hb).mach
      by_cases hc2 : c = 2
      · subst hc2
        go_upto_region 17 with fail
        have bx := Box.new W3 (cellsT ⟨1, 2, r, a, 0, 0, [], 0, false, false, 0, []⟩ slZ slZ) 58
        have lx := Le.alloc W3 (.cells (cellsT ⟨1, 2, r, a, 0, 0, [], 0, false, false, 0, []⟩ slZ slZ) 58)
        generalize hW4 : W3.alloc (.cells (cellsT ⟨1, 2, r, a, 0, 0, [], 0, false, false, 0, []⟩ slZ slZ) 58) = W4 at bx lx ⊢
        clear hW4
        have hgx : W3.heap.size ≤ W3.heap.size := Nat.le_refl _
        generalize hgg : W3.heap.size = gx at bx ⊢
        replace hgx : W3.heap.size ≤ gx := by omega
        clear hgg
        clear z0 z1 z2 z3 z4 z5 z6 z7 z8
        clear p0 p1 p2
        obtain ⟨p0, p1, p2, _, _, _⟩ := (bo.le lx).op
        obtain ⟨⟨z0, z1, z2, z3, z4⟩, z5, z6, z7, z8⟩ := ((hb.le lx)).mach
        have e0 := bx.cell 0
        have e4 := bx.cell 4
        have k0 := bx.frozen 0
        have k4 := bx.frozen 4
        go_upto_region 22 with fail
        have bx5 : Box (W4.setCell ⟨gx, 0, none⟩ (.int .i64 11)) gx (cellsT ⟨11, 2, r, a, 0, 0, [], 0, false, false, 0, []⟩ slZ slZ) 58 := by
          have := bx.set 0 (.int .i64 11)
          simpa only [Array.set!_eq_setIfInBounds, List.setIfInBounds_toArray, List.set_cons_zero, List.set_cons_succ] using this
        have lx5 := lx.set (i := 0) (u := .int .i64 11) hgx
        generalize hW5 : W4.setCell ⟨gx, 0, none⟩ (.int .i64 11) = W5 at bx5 lx5 ⊢
        clear hW5 bx lx e0 e4 k0 k4 p0 p1 p2
        have bx := bx5
        have lx := lx5
        clear bx5 lx5
        clear z0 z1 z2 z3 z4 z5 z6 z7 z8
        obtain ⟨p0, p1, p2, _, _, _⟩ := (bo.le lx).op
        obtain ⟨⟨z0, z1, z2, z3, z4⟩, z5, z6, z7, z8⟩ := ((hb.le lx)).mach
        have e0 := bx.cell 0
        have e4 := bx.cell 4
        have k0 := bx.frozen 0
        have k4 := bx.frozen 4
        go_upto_region 24 with fail
        have bx5 : Box (W5.setCell ⟨gx, 4, none⟩ (.int .i64 lg)) gx (cellsT ⟨11, 2, r, a, lg, 0, [], 0, false, false, 0, []⟩ slZ slZ) 58 := by
          have := bx.set 4 (.int .i64 lg)
          simpa only [Array.set!_eq_setIfInBounds, List.setIfInBounds_toArray, List.set_cons_zero, List.set_cons_succ] using this
        have lx5 := lx.set (i := 4) (u := .int .i64 lg) hgx
        generalize hW5 : W5.setCell ⟨gx, 4, none⟩ (.int .i64 lg) = W6 at bx5 lx5 ⊢
        clear hW5 bx lx e0 e4 k0 k4 p0 p1 p2
        have bx := bx5
        have lx := lx5
        clear bx5 lx5
        clear z0 z1 z2 z3 z4 z5 z6 z7 z8
        have HNT : Hid (newT M 2 r a = ⟨11, 2, r, a, lg, 0, [], 0, false, false, 0, []⟩) := by show _ = _; rw [HLG.out]; rfl
        replace hb := hb.le lx
        replace bo := bo.le lx
        replace hr := hr.le lx
        have l02 := l01.trans lx
        have IX := I.le lx
        clear I lx
        obtain ⟨x0, x1, x2, x3, x4, x5, x6, x7, x8, x9, x10, x11⟩ := bx.th
        obtain ⟨_, _, hgBT, hat, hfz⟩ := IX.thAt rfl hiT
        obtain ⟨q0, q1, q2, q3, q4, q5, q6, q7, q8, q9, q10, q11⟩ := hat
        have f0 := hfz (t * 12)
        have f1 := hfz (t * 12 + 1)
        have f2 := hfz (t * 12 + 2)
        have f3 := hfz (t * 12 + 3)
        have f4 := hfz (t * 12 + 4)
        have f5 := hfz (t * 12 + 5)
        have f6 := hfz (t * 12 + 6)
        have f7 := hfz (t * 12 + 7)
        have f8 := hfz (t * 12 + 8)
        have f9 := hfz (t * 12 + 9)
        have f10 := hfz (t * 12 + 10)
        have f11 := hfz (t * 12 + 11)
        obtain ⟨⟨y0, y1, y2, y3, y4⟩, y5, y6, y7, y8⟩ := (IX.bo).mach
        simp only [slV] at y7
        have I2 := IX.setTA (i := t) rfl hiT ⟨⟨11, 2, r, a, lg, 0, [], 0, false, false, 0, []⟩, slZ, slZ⟩ (Own.nil _ _) (Own.nil _ _) (IX.ap.setTn IX.own.bel hiT (.inr (.inl rfl)) (.inr (.inl rfl)) (.inl rfl))
        have hl2 := setsW_le hgBT (LT.cells ⟨⟨11, 2, r, a, lg, 0, [], 0, false, false, 0, []⟩, slZ, slZ⟩) W6 0 (off := t * 12) l02
        have hr2 := setsW_box (off := t * 12) (show w.heap.size + 1 + 1 ≠ gT by omega) (LT.cells ⟨⟨11, 2, r, a, lg, 0, [], 0, false, false, 0, []⟩, slZ, slZ⟩) W6 0 hr
        have hb2 := setsW_box (off := t * 12) (show w.heap.size ≠ gT by omega) (LT.cells ⟨⟨11, 2, r, a, lg, 0, [], 0, false, false, 0, []⟩, slZ, slZ⟩) W6 0 hb
        have bo2 := setsW_box (off := t * 12) (show w.heap.size + 1 ≠ gT by omega) (LT.cells ⟨⟨11, 2, r, a, lg, 0, [], 0, false, false, 0, []⟩, slZ, slZ⟩) W6 0 bo
        go_upto_region 25 with fail
        show Code.wp _ _ _ _ (setsW gT (t * 12) W6 0 (LT.cells ⟨⟨11, 2, r, a, lg, 0, [], 0, false, false, 0, []⟩, slZ, slZ⟩))
        generalize setsW gT (t * 12) W6 0 (LT.cells ⟨⟨11, 2, r, a, lg, 0, [], 0, false, false, 0, []⟩, slZ, slZ⟩) = W7 at I2 hl2 hr2 hb2 bo2 ⊢
        clear x0 x1 x2 x3 x4 x5 x6 x7 x8 x9 x10 x11 q0 q1 q2 q3 q4 q5 q6 q7 q8 q9 q10 q11 f0 f1 f2 f3 f4 f5 f6 f7 f8 f9 f10 f11 hfz IX hr hb bo bx
        clear y0 y1 y2 y3 y4 y5 y6 y7 y8
        have hxe : xH = M.es := lay_es HM
        have hxl : xH.length ≤ 64 := by have := HH1.out; rw [hxe]; omega
        have HXE : Hid (xH = M.es) := hxe
        clear hxe
        have hlit := OwnE.lit evK W7 W7.heap.size (Nat.le_refl _) [⟨(t : Int), true, 2, r, a, 0⟩] (by simp)
        replace hlit : OwnE evK (W7.alloc (.cells #[.int .i64 (t : Int), .bool true, .int .i64 2, .int .i64 r, .int .i64 a, .int .i64 0] 60)) W7.heap.size (.slice (some ⟨W7.heap.size, 0, none⟩) 1 1) [⟨(t : Int), true, 2, r, a, 0⟩] := hlit
        have hA := Le.alloc W7 (.cells #[.int .i64 (t : Int), .bool true, .int .i64 2, .int .i64 r, .int .i64 a, .int .i64 0] 60)
        have I3 := I2.le hA
        have hoH := I3.own.oH
        have hr3 := hr2.le hA
        have l3 := hl2.trans hA
        obtain ⟨p0, p1, p2, _, _, _⟩ := bo2.op
        obtain ⟨⟨y0, y1, y2, y3, y4⟩, y5, y6, y7, y8⟩ := (I2.bo).mach
        clear hb2
        go_upto_region 26 with (at_builtin; refine wp_append_E evIn rfl _ _ rfl w2.heap.size _ _ xH [⟨(t : Int), true, 2, r, a, 0⟩] rfl rfl hoH hlit.has (by show (xH.length + 1) * 48 ≤ _; omega) (by show xH.length + 1 ≤ _; omega) l3.size ?_; intro v' w8 o8 hg8 _; obtain ⟨q', rfl⟩ := o8.has.sl; have hb8 := I3.bo.grown hg8 (hoH.apart I3.bo (by decide)); have c8 := hb8.cell 8; have k8 := hb8.frozen 8)
        have I4 := I3.setH o8 hg8
        have hr4 := (hr3.grown hg8 (hoH.apart hr3 (by decide))).other (show w.heap.size + 1 + 1 ≠ go by omega) 8 (slV q')
        have l48 : Le w2 w8 := Below.grown l3 hg8 l3.size (fun gz e => (hoH.block e).1)
        have l4 := l48.set (g := go) (i := 8) (u := slV q') hgo
        have HM4 : Hid (Lay.M ⟨c', uR, uP, (some ⟨gT, 0, none⟩, xT.length, capT), q', xR, xP, xT.set t ⟨⟨11, 2, r, a, lg, 0, [], 0, false, false, 0, []⟩, slZ, slZ⟩, xH ++ [⟨(t : Int), true, 2, r, a, 0⟩]⟩ = { M with ts := M.ts.set t (newT M 2 r a), es := M.es ++ [⟨(t : Int), true, 2, r, a, 0⟩] }) := by
          have h1 := lay_setT HM t ⟨⟨11, 2, r, a, lg, 0, [], 0, false, false, 0, []⟩, slZ, slZ⟩
          have h2 := lay_setH h1 q' (xH ++ [⟨(t : Int), true, 2, r, a, 0⟩])
          show _ = _
          rw [HNT.out, ← HXE.out]
          refine Eq.trans h2 ?_
          simp only [Mc.putT, Int.toNat_natCast]
        generalize hW8 : w8.setCell ⟨go, 8, none⟩ (slV q') = W9 at I4 hr4 l4 ⊢
        clear hW8 I2 I3 hr2 hr3 c8 k8 p0 p1 p2
        clear y0 y1 y2 y3 y4 y5 y6 y7 y8
        obtain ⟨⟨y0, y1, y2, y3, y4⟩, y5, y6, y7, y8⟩ := (I4.bo).mach
        have r0 := (hr4).cell 0
        have r1 := (hr4).cell 1
        have r2 := (hr4).cell 2
        have r3 := (hr4).cell 3
        have r4 := (hr4).cell 4
        have r5 := (hr4).cell 5
        have r6 := (hr4).cell 6
        have r7 := (hr4).cell 7
        have r8 := (hr4).cell 8
        simp only [List.getElem?_toArray, List.getElem?_cons_succ, List.getElem?_cons_zero] at r0 r1 r2 r3 r4 r5 r6 r7 r8
        have k0 := (hr4).frozen 0
        have k1 := (hr4).frozen 1
        have k2 := (hr4).frozen 2
        have k3 := (hr4).frozen 3
        have k4 := (hr4).frozen 4
        have k5 := (hr4).frozen 5
        have k6 := (hr4).frozen 6
        have k7 := (hr4).frozen 7
        have k8 := (hr4).frozen 8
        go_wp2_with fail
        refine bodyPost_ret (v := .tuple #[machV c' uR uP (some ⟨gT, 0, none⟩, xT.length, capT) q', .int .i64 0]) (by simp [results, Tryz.results43, go_sem, r0, r1, r2, r3, r4, r5, r6, r7, r8]) rfl ⟨_, rfl, ?_, (hl.trans l4).put9 (g := w.heap.size + 1 + 1) (by omega) c' uR uP (some ⟨gT, 0, none⟩, xT.length, capT) q'⟩
        have := (I4.ret hr4).base hlB
        rw [HM4.out] at this
        exact this
      by_cases hc3 : c = 3
      · subst hc3
        go_upto_region 17 with fail
        have bx := Box.new W3 (cellsT ⟨1, 3, r, a, 0, 0, [], 0, false, false, 0, []⟩ slZ slZ) 58
        have lx := Le.alloc W3 (.cells (cellsT ⟨1, 3, r, a, 0, 0, [], 0, false, false, 0, []⟩ slZ slZ) 58)
        generalize hW4 : W3.alloc (.cells (cellsT ⟨1, 3, r, a, 0, 0, [], 0, false, false, 0, []⟩ slZ slZ) 58) = W4 at bx lx ⊢
        clear hW4
        have hgx : W3.heap.size ≤ W3.heap.size := Nat.le_refl _
        generalize hgg : W3.heap.size = gx at bx ⊢
        replace hgx : W3.heap.size ≤ gx := by omega
        clear hgg
        clear z0 z1 z2 z3 z4 z5 z6 z7 z8
        clear p0 p1 p2
        obtain ⟨p0, p1, p2, _, _, _⟩ := (bo.le lx).op
        obtain ⟨⟨z0, z1, z2, z3, z4⟩, z5, z6, z7, z8⟩ := ((hb.le lx)).mach
        have e0 := bx.cell 0
        have e4 := bx.cell 4
        have k0 := bx.frozen 0
        have k4 := bx.frozen 4
        go_upto_region 22 with fail
        have bx5 : Box (W4.setCell ⟨gx, 0, none⟩ (.int .i64 17)) gx (cellsT ⟨17, 3, r, a, 0, 0, [], 0, false, false, 0, []⟩ slZ slZ) 58 := by
          have := bx.set 0 (.int .i64 17)
          simpa only [Array.set!_eq_setIfInBounds, List.setIfInBounds_toArray, List.set_cons_zero, List.set_cons_succ] using this
        have lx5 := lx.set (i := 0) (u := .int .i64 17) hgx
        generalize hW5 : W4.setCell ⟨gx, 0, none⟩ (.int .i64 17) = W5 at bx5 lx5 ⊢
        clear hW5 bx lx e0 e4 k0 k4 p0 p1 p2
        have bx := bx5
        have lx := lx5
        clear bx5 lx5
        clear z0 z1 z2 z3 z4 z5 z6 z7 z8
        obtain ⟨p0, p1, p2, _, _, _⟩ := (bo.le lx).op
        obtain ⟨⟨z0, z1, z2, z3, z4⟩, z5, z6, z7, z8⟩ := ((hb.le lx)).mach
        have e0 := bx.cell 0
        have e4 := bx.cell 4
        have k0 := bx.frozen 0
        have k4 := bx.frozen 4
        go_upto_region 24 with fail
        clear e0 e4 k0 k4 p0 p1 p2
        clear z0 z1 z2 z3 z4 z5 z6 z7 z8
        have HNT : Hid (newT M 3 r a = ⟨17, 3, r, a, 0, 0, [], 0, false, false, 0, []⟩) := by exact rfl
        replace hb := hb.le lx
        replace bo := bo.le lx
        replace hr := hr.le lx
        have l02 := l01.trans lx
        have IX := I.le lx
        clear I lx
        obtain ⟨x0, x1, x2, x3, x4, x5, x6, x7, x8, x9, x10, x11⟩ := bx.th
        obtain ⟨_, _, hgBT, hat, hfz⟩ := IX.thAt rfl hiT
        obtain ⟨q0, q1, q2, q3, q4, q5, q6, q7, q8, q9, q10, q11⟩ := hat
        have f0 := hfz (t * 12)
        have f1 := hfz (t * 12 + 1)
        have f2 := hfz (t * 12 + 2)
        have f3 := hfz (t * 12 + 3)
        have f4 := hfz (t * 12 + 4)
        have f5 := hfz (t * 12 + 5)
        have f6 := hfz (t * 12 + 6)
        have f7 := hfz (t * 12 + 7)
        have f8 := hfz (t * 12 + 8)
        have f9 := hfz (t * 12 + 9)
        have f10 := hfz (t * 12 + 10)
        have f11 := hfz (t * 12 + 11)
        obtain ⟨⟨y0, y1, y2, y3, y4⟩, y5, y6, y7, y8⟩ := (IX.bo).mach
        simp only [slV] at y7
        have I2 := IX.setTA (i := t) rfl hiT ⟨⟨17, 3, r, a, 0, 0, [], 0, false, false, 0, []⟩, slZ, slZ⟩ (Own.nil _ _) (Own.nil _ _) (IX.ap.setTn IX.own.bel hiT (.inr (.inl rfl)) (.inr (.inl rfl)) (.inl rfl))
        have hl2 := setsW_le hgBT (LT.cells ⟨⟨17, 3, r, a, 0, 0, [], 0, false, false, 0, []⟩, slZ, slZ⟩) W5 0 (off := t * 12) l02
        have hr2 := setsW_box (off := t * 12) (show w.heap.size + 1 + 1 ≠ gT by omega) (LT.cells ⟨⟨17, 3, r, a, 0, 0, [], 0, false, false, 0, []⟩, slZ, slZ⟩) W5 0 hr
        have hb2 := setsW_box (off := t * 12) (show w.heap.size ≠ gT by omega) (LT.cells ⟨⟨17, 3, r, a, 0, 0, [], 0, false, false, 0, []⟩, slZ, slZ⟩) W5 0 hb
        have bo2 := setsW_box (off := t * 12) (show w.heap.size + 1 ≠ gT by omega) (LT.cells ⟨⟨17, 3, r, a, 0, 0, [], 0, false, false, 0, []⟩, slZ, slZ⟩) W5 0 bo
        go_upto_region 25 with fail
        show Code.wp _ _ _ _ (setsW gT (t * 12) W5 0 (LT.cells ⟨⟨17, 3, r, a, 0, 0, [], 0, false, false, 0, []⟩, slZ, slZ⟩))
        generalize setsW gT (t * 12) W5 0 (LT.cells ⟨⟨17, 3, r, a, 0, 0, [], 0, false, false, 0, []⟩, slZ, slZ⟩) = W7 at I2 hl2 hr2 hb2 bo2 ⊢
        clear x0 x1 x2 x3 x4 x5 x6 x7 x8 x9 x10 x11 q0 q1 q2 q3 q4 q5 q6 q7 q8 q9 q10 q11 f0 f1 f2 f3 f4 f5 f6 f7 f8 f9 f10 f11 hfz IX hr hb bo bx
        clear y0 y1 y2 y3 y4 y5 y6 y7 y8
        have hxe : xH = M.es := lay_es HM
        have hxl : xH.length ≤ 64 := by have := HH1.out; rw [hxe]; omega
        have HXE : Hid (xH = M.es) := hxe
        clear hxe
        have hlit := OwnE.lit evK W7 W7.heap.size (Nat.le_refl _) [⟨(t : Int), true, 3, r, a, 0⟩] (by simp)
        replace hlit : OwnE evK (W7.alloc (.cells #[.int .i64 (t : Int), .bool true, .int .i64 3, .int .i64 r, .int .i64 a, .int .i64 0] 60)) W7.heap.size (.slice (some ⟨W7.heap.size, 0, none⟩) 1 1) [⟨(t : Int), true, 3, r, a, 0⟩] := hlit
        have hA := Le.alloc W7 (.cells #[.int .i64 (t : Int), .bool true, .int .i64 3, .int .i64 r, .int .i64 a, .int .i64 0] 60)
        have I3 := I2.le hA
        have hoH := I3.own.oH
        have hr3 := hr2.le hA
        have l3 := hl2.trans hA
        obtain ⟨p0, p1, p2, _, _, _⟩ := bo2.op
        obtain ⟨⟨y0, y1, y2, y3, y4⟩, y5, y6, y7, y8⟩ := (I2.bo).mach
        clear hb2
        go_upto_region 26 with (at_builtin; refine wp_append_E evIn rfl _ _ rfl w2.heap.size _ _ xH [⟨(t : Int), true, 3, r, a, 0⟩] rfl rfl hoH hlit.has (by show (xH.length + 1) * 48 ≤ _; omega) (by show xH.length + 1 ≤ _; omega) l3.size ?_; intro v' w8 o8 hg8 _; obtain ⟨q', rfl⟩ := o8.has.sl; have hb8 := I3.bo.grown hg8 (hoH.apart I3.bo (by decide)); have c8 := hb8.cell 8; have k8 := hb8.frozen 8)
        have I4 := I3.setH o8 hg8
        have hr4 := (hr3.grown hg8 (hoH.apart hr3 (by decide))).other (show w.heap.size + 1 + 1 ≠ go by omega) 8 (slV q')
        have l48 : Le w2 w8 := Below.grown l3 hg8 l3.size (fun gz e => (hoH.block e).1)
        have l4 := l48.set (g := go) (i := 8) (u := slV q') hgo
        have HM4 : Hid (Lay.M ⟨c', uR, uP, (some ⟨gT, 0, none⟩, xT.length, capT), q', xR, xP, xT.set t ⟨⟨17, 3, r, a, 0, 0, [], 0, false, false, 0, []⟩, slZ, slZ⟩, xH ++ [⟨(t : Int), true, 3, r, a, 0⟩]⟩ = { M with ts := M.ts.set t (newT M 3 r a), es := M.es ++ [⟨(t : Int), true, 3, r, a, 0⟩] }) := by
          have h1 := lay_setT HM t ⟨⟨17, 3, r, a, 0, 0, [], 0, false, false, 0, []⟩, slZ, slZ⟩
          have h2 := lay_setH h1 q' (xH ++ [⟨(t : Int), true, 3, r, a, 0⟩])
          show _ = _
          rw [HNT.out, ← HXE.out]
          refine Eq.trans h2 ?_
          simp only [Mc.putT, Int.toNat_natCast]
        generalize hW8 : w8.setCell ⟨go, 8, none⟩ (slV q') = W9 at I4 hr4 l4 ⊢
        clear hW8 I2 I3 hr2 hr3 c8 k8 p0 p1 p2
        clear y0 y1 y2 y3 y4 y5 y6 y7 y8
        obtain ⟨⟨y0, y1, y2, y3, y4⟩, y5, y6, y7, y8⟩ := (I4.bo).mach
        have r0 := (hr4).cell 0
        have r1 := (hr4).cell 1
        have r2 := (hr4).cell 2
        have r3 := (hr4).cell 3
        have r4 := (hr4).cell 4
        have r5 := (hr4).cell 5
        have r6 := (hr4).cell 6
        have r7 := (hr4).cell 7
        have r8 := (hr4).cell 8
        simp only [List.getElem?_toArray, List.getElem?_cons_succ, List.getElem?_cons_zero] at r0 r1 r2 r3 r4 r5 r6 r7 r8
        have k0 := (hr4).frozen 0
        have k1 := (hr4).frozen 1
        have k2 := (hr4).frozen 2
        have k3 := (hr4).frozen 3
        have k4 := (hr4).frozen 4
        have k5 := (hr4).frozen 5
        have k6 := (hr4).frozen 6
        have k7 := (hr4).frozen 7
        have k8 := (hr4).frozen 8
        go_wp2_with fail
        refine bodyPost_ret (v := .tuple #[machV c' uR uP (some ⟨gT, 0, none⟩, xT.length, capT) q', .int .i64 0]) (by simp [results, Tryz.results43, go_sem, r0, r1, r2, r3, r4, r5, r6, r7, r8]) rfl ⟨_, rfl, ?_, (hl.trans l4).put9 (g := w.heap.size + 1 + 1) (by omega) c' uR uP (some ⟨gT, 0, none⟩, xT.length, capT) q'⟩
        have := (I4.ret hr4).base hlB
        rw [HM4.out] at this
        exact this
      · have hb2 : (c == 2) = false := by simp [hc2]
        have hb3 : (c == 3) = false := by simp [hc3]
        have hb4 : (c != 3) = true := by simp [hc3]
        go_upto_region 17 with fail
        have bx := Box.new W3 (cellsT ⟨1, c, r, a, 0, 0, [], 0, false, false, 0, []⟩ slZ slZ) 58
        have lx := Le.alloc W3 (.cells (cellsT ⟨1, c, r, a, 0, 0, [], 0, false, false, 0, []⟩ slZ slZ) 58)
        generalize hW4 : W3.alloc (.cells (cellsT ⟨1, c, r, a, 0, 0, [], 0, false, false, 0, []⟩ slZ slZ) 58) = W4 at bx lx ⊢
        clear hW4
        have hgx : W3.heap.size ≤ W3.heap.size := Nat.le_refl _
        generalize hgg : W3.heap.size = gx at bx ⊢
        replace hgx : W3.heap.size ≤ gx := by omega
        clear hgg
        clear z0 z1 z2 z3 z4 z5 z6 z7 z8
        clear p0 p1 p2
        obtain ⟨p0, p1, p2, _, _, _⟩ := (bo.le lx).op
        obtain ⟨⟨z0, z1, z2, z3, z4⟩, z5, z6, z7, z8⟩ := ((hb.le lx)).mach
        have e0 := bx.cell 0
        have e4 := bx.cell 4
        have k0 := bx.frozen 0
        have k4 := bx.frozen 4
        go_upto_region 24 with fail
        have bx5 : Box (W4.setCell ⟨gx, 4, none⟩ (.int .i64 lg)) gx (cellsT ⟨1, c, r, a, lg, 0, [], 0, false, false, 0, []⟩ slZ slZ) 58 := by
          have := bx.set 4 (.int .i64 lg)
          simpa only [Array.set!_eq_setIfInBounds, List.setIfInBounds_toArray, List.set_cons_zero, List.set_cons_succ] using this
        have lx5 := lx.set (i := 4) (u := .int .i64 lg) hgx
        generalize hW5 : W4.setCell ⟨gx, 4, none⟩ (.int .i64 lg) = W6 at bx5 lx5 ⊢
        clear hW5 bx lx e0 e4 k0 k4 p0 p1 p2
        have bx := bx5
        have lx := lx5
        clear bx5 lx5
        clear z0 z1 z2 z3 z4 z5 z6 z7 z8
        have HNT : Hid (newT M c r a = ⟨1, c, r, a, lg, 0, [], 0, false, false, 0, []⟩) := by show _ = _; rw [HLG.out]; unfold newT; rw [if_neg hc2, if_neg hc3, if_neg hc3]; rfl
        replace hb := hb.le lx
        replace bo := bo.le lx
        replace hr := hr.le lx
        have l02 := l01.trans lx
        have IX := I.le lx
        clear I lx
        obtain ⟨x0, x1, x2, x3, x4, x5, x6, x7, x8, x9, x10, x11⟩ := bx.th
        obtain ⟨_, _, hgBT, hat, hfz⟩ := IX.thAt rfl hiT
        obtain ⟨q0, q1, q2, q3, q4, q5, q6, q7, q8, q9, q10, q11⟩ := hat
        have f0 := hfz (t * 12)
        have f1 := hfz (t * 12 + 1)
        have f2 := hfz (t * 12 + 2)
        have f3 := hfz (t * 12 + 3)
        have f4 := hfz (t * 12 + 4)
        have f5 := hfz (t * 12 + 5)
        have f6 := hfz (t * 12 + 6)
        have f7 := hfz (t * 12 + 7)
        have f8 := hfz (t * 12 + 8)
        have f9 := hfz (t * 12 + 9)
        have f10 := hfz (t * 12 + 10)
        have f11 := hfz (t * 12 + 11)
        obtain ⟨⟨y0, y1, y2, y3, y4⟩, y5, y6, y7, y8⟩ := (IX.bo).mach
        simp only [slV] at y7
        have I2 := IX.setTA (i := t) rfl hiT ⟨⟨1, c, r, a, lg, 0, [], 0, false, false, 0, []⟩, slZ, slZ⟩ (Own.nil _ _) (Own.nil _ _) (IX.ap.setTn IX.own.bel hiT (.inr (.inl rfl)) (.inr (.inl rfl)) (.inl rfl))
        have hl2 := setsW_le hgBT (LT.cells ⟨⟨1, c, r, a, lg, 0, [], 0, false, false, 0, []⟩, slZ, slZ⟩) W6 0 (off := t * 12) l02
        have hr2 := setsW_box (off := t * 12) (show w.heap.size + 1 + 1 ≠ gT by omega) (LT.cells ⟨⟨1, c, r, a, lg, 0, [], 0, false, false, 0, []⟩, slZ, slZ⟩) W6 0 hr
        have hb2 := setsW_box (off := t * 12) (show w.heap.size ≠ gT by omega) (LT.cells ⟨⟨1, c, r, a, lg, 0, [], 0, false, false, 0, []⟩, slZ, slZ⟩) W6 0 hb
        have bo2 := setsW_box (off := t * 12) (show w.heap.size + 1 ≠ gT by omega) (LT.cells ⟨⟨1, c, r, a, lg, 0, [], 0, false, false, 0, []⟩, slZ, slZ⟩) W6 0 bo
        go_upto_region 25 with fail
        show Code.wp _ _ _ _ (setsW gT (t * 12) W6 0 (LT.cells ⟨⟨1, c, r, a, lg, 0, [], 0, false, false, 0, []⟩, slZ, slZ⟩))
        generalize setsW gT (t * 12) W6 0 (LT.cells ⟨⟨1, c, r, a, lg, 0, [], 0, false, false, 0, []⟩, slZ, slZ⟩) = W7 at I2 hl2 hr2 hb2 bo2 ⊢
        clear x0 x1 x2 x3 x4 x5 x6 x7 x8 x9 x10 x11 q0 q1 q2 q3 q4 q5 q6 q7 q8 q9 q10 q11 f0 f1 f2 f3 f4 f5 f6 f7 f8 f9 f10 f11 hfz IX hr hb bo bx
        clear y0 y1 y2 y3 y4 y5 y6 y7 y8
        have hxe : xH = M.es := lay_es HM
        have hxl : xH.length ≤ 64 := by have := HH1.out; rw [hxe]; omega
        have HXE : Hid (xH = M.es) := hxe
        clear hxe
        have hlit := OwnE.lit evK W7 W7.heap.size (Nat.le_refl _) [⟨(t : Int), true, c, r, a, 0⟩] (by simp)
        replace hlit : OwnE evK (W7.alloc (.cells #[.int .i64 (t : Int), .bool true, .int .i64 c, .int .i64 r, .int .i64 a, .int .i64 0] 60)) W7.heap.size (.slice (some ⟨W7.heap.size, 0, none⟩) 1 1) [⟨(t : Int), true, c, r, a, 0⟩] := hlit
        have hA := Le.alloc W7 (.cells #[.int .i64 (t : Int), .bool true, .int .i64 c, .int .i64 r, .int .i64 a, .int .i64 0] 60)
        have I3 := I2.le hA
        have hoH := I3.own.oH
        have hr3 := hr2.le hA
        have l3 := hl2.trans hA
        obtain ⟨p0, p1, p2, _, _, _⟩ := bo2.op
        obtain ⟨⟨y0, y1, y2, y3, y4⟩, y5, y6, y7, y8⟩ := (I2.bo).mach
        clear hb2
        go_upto_region 26 with (at_builtin; refine wp_append_E evIn rfl _ _ rfl w2.heap.size _ _ xH [⟨(t : Int), true, c, r, a, 0⟩] rfl rfl hoH hlit.has (by show (xH.length + 1) * 48 ≤ _; omega) (by show xH.length + 1 ≤ _; omega) l3.size ?_; intro v' w8 o8 hg8 _; obtain ⟨q', rfl⟩ := o8.has.sl; have hb8 := I3.bo.grown hg8 (hoH.apart I3.bo (by decide)); have c8 := hb8.cell 8; have k8 := hb8.frozen 8)
        have I4 := I3.setH o8 hg8
        have hr4 := (hr3.grown hg8 (hoH.apart hr3 (by decide))).other (show w.heap.size + 1 + 1 ≠ go by omega) 8 (slV q')
        have l48 : Le w2 w8 := Below.grown l3 hg8 l3.size (fun gz e => (hoH.block e).1)
        have l4 := l48.set (g := go) (i := 8) (u := slV q') hgo
        have HM4 : Hid (Lay.M ⟨c', uR, uP, (some ⟨gT, 0, none⟩, xT.length, capT), q', xR, xP, xT.set t ⟨⟨1, c, r, a, lg, 0, [], 0, false, false, 0, []⟩, slZ, slZ⟩, xH ++ [⟨(t : Int), true, c, r, a, 0⟩]⟩ = { M with ts := M.ts.set t (newT M c r a), es := M.es ++ [⟨(t : Int), true, c, r, a, 0⟩] }) := by
          have h1 := lay_setT HM t ⟨⟨1, c, r, a, lg, 0, [], 0, false, false, 0, []⟩, slZ, slZ⟩
          have h2 := lay_setH h1 q' (xH ++ [⟨(t : Int), true, c, r, a, 0⟩])
          show _ = _
          rw [HNT.out, ← HXE.out]
          refine Eq.trans h2 ?_
          simp only [Mc.putT, Int.toNat_natCast]
        generalize hW8 : w8.setCell ⟨go, 8, none⟩ (slV q') = W9 at I4 hr4 l4 ⊢
        clear hW8 I2 I3 hr2 hr3 c8 k8 p0 p1 p2
        clear y0 y1 y2 y3 y4 y5 y6 y7 y8
        obtain ⟨⟨y0, y1, y2, y3, y4⟩, y5, y6, y7, y8⟩ := (I4.bo).mach
        have r0 := (hr4).cell 0
        have r1 := (hr4).cell 1
        have r2 := (hr4).cell 2
        have r3 := (hr4).cell 3
        have r4 := (hr4).cell 4
        have r5 := (hr4).cell 5
        have r6 := (hr4).cell 6
        have r7 := (hr4).cell 7
        have r8 := (hr4).cell 8
        simp only [List.getElem?_toArray, List.getElem?_cons_succ, List.getElem?_cons_zero] at r0 r1 r2 r3 r4 r5 r6 r7 r8
        have k0 := (hr4).frozen 0
        have k1 := (hr4).frozen 1
        have k2 := (hr4).frozen 2
        have k3 := (hr4).frozen 3
        have k4 := (hr4).frozen 4
        have k5 := (hr4).frozen 5
        have k6 := (hr4).frozen 6
        have k7 := (hr4).frozen 7
        have k8 := (hr4).frozen 8
        go_wp2_with fail
        refine bodyPost_ret (v := .tuple #[machV c' uR uP (some ⟨gT, 0, none⟩, xT.length, capT) q', .int .i64 0]) (by simp [results, Tryz.results43, go_sem, r0, r1, r2, r3, r4, r5, r6, r7, r8]) rfl ⟨_, rfl, ?_, (hl.trans l4).put9 (g := w.heap.size + 1 + 1) (by omega) c' uR uP (some ⟨gT, 0, none⟩, xT.length, capT) q'⟩
        have := (I4.ret hr4).base hlB
        rw [HM4.out] at this
        exact this

end Go.Proofs.YtibleipfablniaaGreat

/-
  THE WALK over the document's New: what it answers, for every Config, in memory of the call's own. No condition. (Written by program out of NwB: the same text.)
-/
namespace Go.Proofs.YtibleipfablniaaGreat
open Go.RowKit

set_option maxRecDepth 8000 in
set_option maxHeartbeats 16000000 in
theorem refNew (c : Cfg) (w : World) : Calls Tryz.prog 7 #[cfgV c.o c.r c.l c.t c.s] w fun e w' => ∃ v', e = .returned (.tuple #[v', .int .i64 (newM c).2]) ∧ OwnM w' w.heap.size v' (newM c).1 ∧ Le w w' := by
  have hl := (Le.alloc w (.cells (cells5 c) 23)).trans (Le.alloc _ (.cells cellsZ9 29))
  have hb1 := (Box.new w (cells5 c) 23).le (Le.alloc _ (.cells cellsZ9 29))
  have hb2 := Box.new (w.alloc (.cells (cells5 c) 23)) cellsZ9 29
  have hWs : ((w.alloc (.cells (cells5 c) 23)).alloc (.cells cellsZ9 29)).heap.size = w.heap.size + 2 := by simp
  rw [World.size_alloc] at hb2
  have m1 := fun w' => rmConfigMay c.o c.r c.l c.t c.s w'
  cases h1 : cfgB c.o c.r c.l c.t c.s
  · have hN : newM c = (Mc.zero, 1400) := by unfold newM Cfg.ok; rw [h1]; rfl
    rw [hN]
    simp only [h1] at m1
    go_enter Tryz.func7, Tryz.ntmps7
    go_wp2_with fail
    refine (m1 _).mono ?_
    rintro e w1 ⟨rfl, n1⟩
    replace hb2 := hb2.le n1
    have r0 := hb2.cell 0
    have r1 := hb2.cell 1
    have r2 := hb2.cell 2
    have r3 := hb2.cell 3
    have r4 := hb2.cell 4
    have r5 := hb2.cell 5
    have r6 := hb2.cell 6
    have r7 := hb2.cell 7
    have r8 := hb2.cell 8
    simp only [List.getElem?_toArray, List.getElem?_cons_succ, List.getElem?_cons_zero] at r0 r1 r2 r3 r4 r5 r6 r7 r8
    have k0 := hb2.frozen 0
    have k1 := hb2.frozen 1
    have k2 := hb2.frozen 2
    have k3 := hb2.frozen 3
    have k4 := hb2.frozen 4
    have k5 := hb2.frozen 5
    have k6 := hb2.frozen 6
    have k7 := hb2.frozen 7
    have k8 := hb2.frozen 8
    go_wp2_with fail
    refine bodyPost_ret (v := .tuple #[machZ, .int .i64 1400]) (by simp [results, Tryz.results7, go_sem, r0, r1, r2, r3, r4, r5, r6, r7, r8]) rfl ⟨_, rfl, OwnM.zero _ _, ?_⟩
    exact (hl.trans n1).put9 (c := Cfg.zero) (by omega) slZ slZ slZ slZ
  have hN : newM c = (freshM c, 0) := by unfold newM Cfg.ok; rw [h1]; rfl
  rw [hN]
  simp only [h1] at m1
  obtain ⟨_, ⟨r0, r1⟩, ⟨l0, l1⟩, ⟨t0, t1⟩, hs, _⟩ := cfgB_cases h1
  obtain ⟨nl, hnl⟩ : ∃ n : Nat, c.l = n := ⟨c.l.toNat, by omega⟩
  obtain ⟨nr, hnr⟩ : ∃ n : Nat, c.r = n := ⟨c.r.toNat, by omega⟩
  obtain ⟨nt, hnt⟩ : ∃ n : Nat, c.t = n := ⟨c.t.toNat, by omega⟩
  have HNL : Hid (c.l = nl) := hnl
  have HNR : Hid (c.r = nr) := hnr
  have HNT : Hid (c.t = nt) := hnt
  have hnl2 : nl ≤ 2 := by omega
  have hnr2 : nr ≤ 2 := by omega
  have hnt4 : nt = 1 ∨ nt = 2 ∨ nt = 3 ∨ nt = 4 := by omega
  clear h1 hnl hnr hnt
  go_enter Tryz.func7, Tryz.ntmps7
  go_wp2_with fail
  refine (m1 _).mono ?_
  rintro e w1 ⟨rfl, n1⟩
  replace hb1 := hb1.le n1
  replace hb2 := hb2.le n1
  have hsz := hWs
  have hsz2 := n1.size
  rw [hWs] at hsz2
  replace hl := hl.trans n1
  clear m1 n1 hWs hsz
  obtain ⟨z0, z1, z2, z3, z4⟩ := hb1.slot
  go_upto_region 3 with fail
  go_cut [4] from 9 (fun s4 wc => ∃ g q, s4 = .pointer (some ⟨g, 0, none⟩) ∧ CpI False w (cells5 c) 23 c g wc ⟨c, slZ, slZ, q, slZ, [], [], List.replicate nt ⟨Th.zero, slZ, slZ⟩, []⟩)
  case first =>
    refine wp_region_any (by kernel_rfl) ?_
    refine wpAny_grow [] [0, 1, 2, 3, 4, 5] [6] (by decide) (by kernel_rfl) Le (Le.refl _) (fun _ _ _ => Le.trans)
      (fun vs i x => match i with
        | 0 => vs 0 = cfgV c.o c.r c.l c.t c.s
        | 1 => vs 1 = .pointer (some ⟨w.heap.size, 3, none⟩)
        | 2 => vs 2 = .int .i64 nt
        | 3 => ∃ q, vs 3 = slV q ∧ OwnE thK x (w.heap.size + 2) (slV q) (List.replicate nt ⟨Th.zero, slZ, slZ⟩)
        | 4 => ∃ q, vs 4 = machV c slZ slZ q slZ ∧ OwnE thK x (w.heap.size + 2) (slV q) (List.replicate nt ⟨Th.zero, slZ, slZ⟩)
        | _ => ∃ g, vs 5 = .pointer (some ⟨g, 0, none⟩) ∧ w.heap.size + 2 ≤ g ∧ Box x g cellsZ9 29) ?_ ?_ (by decide) ?_ ?_
    · intro vs i x y hi _ h hxy
      simp only [List.mem_cons, List.not_mem_nil, or_false] at hi
      rcases hi with rfl | rfl | rfl | rfl | rfl | rfl
      · exact h
      · exact h
      · exact h
      · obtain ⟨b, e, o⟩ := h; exact ⟨b, e, o.le hxy⟩
      · obtain ⟨b, e, o⟩ := h; exact ⟨b, e, o.le hxy⟩
      · obtain ⟨b, e, o, o'⟩ := h; exact ⟨b, e, o, o'.le hxy⟩
    · intro vs vs' i o x hi _ hk h
      have e := hk i (.inl rfl)
      simp only [List.mem_cons, List.not_mem_nil, or_false] at hi
      rcases hi with rfl | rfl | rfl | rfl | rfl | rfl
      all_goals
        simp only at h ⊢
        rw [← e]
        exact h
    · intro i o hi ho vs x hx hd
      have hx0 := (Le.drew w1).trans hx
      simp only [List.mem_cons, List.not_mem_nil, or_false] at hi
      generalize hρ : (putH _ _ _ vs).eval = ρ
      rcases hi with rfl | rfl | rfl | rfl | rfl | rfl
      · cases ho
        have r1 : ρ (.tmp 1) = .pointer (some ⟨w.heap.size, 0, none⟩) := by rw [← hρ]; kernel_rfl
        have y0 := cell_le z0 hx0
        have y1 := cell_le z1 hx0
        have y2 := cell_le z2 hx0
        have y3 := cell_le z3 hx0
        have y4 := cell_le z4 hx0
        exact gives_value (w' := x) (v := cfgV c.o c.r c.l c.t c.s) (by simp [go_sem, r1, y0, y1, y2, y3, y4]) ⟨Le.refl _, rfl⟩
      · cases ho
        have r1 : ρ (.tmp 1) = .pointer (some ⟨w.heap.size, 0, none⟩) := by rw [← hρ]; kernel_rfl
        exact gives_value (w' := x) (v := .pointer (some ⟨w.heap.size, 3, none⟩)) (by simp [go_sem, r1]) ⟨Le.refl _, rfl⟩
      · cases ho
        have r1 : ρ (.tmp 14) = vs 1 := by rw [← hρ]; kernel_rfl
        have d := hd 1 (by decide) (by kernel_rfl)
        simp only at d
        rw [d] at r1
        have y3 := cell_le z3 hx0
        rw [HNT.out] at y3
        exact gives_value (w' := x) (v := .int .i64 nt) (by simp [go_sem, r1, y3]) ⟨Le.refl _, rfl⟩
      · cases ho
        have r1 : ρ (.tmp 15) = vs 2 := by rw [← hρ]; kernel_rfl
        have d := hd 2 (by decide) (by kernel_rfl)
        simp only at d
        rw [d] at r1
        obtain ⟨x', hrun, o3, l3⟩ := run_make_ths x (w.heap.size + 2) nt hnt4 (Nat.le_trans hsz2 hx0.size)
        exact gives_value (w' := x') (v := slV (some ⟨x.heap.size, 0, none⟩, nt, nt)) (by simp [go_sem, r1, hrun]) ⟨l3, _, rfl, o3⟩
      · cases ho
        have r1 : ρ (.tmp 13) = vs 0 := by rw [← hρ]; kernel_rfl
        have r2 : ρ (.tmp 16) = vs 3 := by rw [← hρ]; kernel_rfl
        have e1 := hd 0 (by decide) (by kernel_rfl)
        have hh := hd 3 (by decide) (by kernel_rfl)
        simp only at e1 hh
        obtain ⟨q, e5, o5⟩ := hh
        rw [e1] at r1
        rw [e5] at r2
        exact gives_value (w' := x) (v := machV c slZ slZ q slZ) (by simp [go_sem, r1, r2]) ⟨Le.refl _, q, rfl, o5⟩
      · cases ho
        exact gives_value (w' := x.alloc (.cells cellsZ9 29)) (v := .pointer (some ⟨x.heap.size, 0, none⟩)) (by simp [go_sem]) ⟨Le.alloc _ _, x.heap.size, rfl, Nat.le_trans hsz2 hx0.size, Box.new _ _ _⟩
    · intro vs x hx hd
      have hx0 := (Le.drew w1).trans hx
      have hh := hd 4 (by decide)
      simp only at hh
      replace hh := hh.choose_spec
      generalize Exists.choose _ = q at hh
      have e6 := hh.1
      have o6 := hh.2
      have hh := hd 5 (by decide)
      simp only at hh
      replace hh := hh.choose_spec
      generalize Exists.choose _ = g at hh
      have e7 := hh.1
      have hg := hh.2.1
      have b7 := hh.2.2
      generalize hf0 : putH _ _ _ vs = fr0
      refine wpSeq_cons rfl ?_
      refine wp_skip_at (w0 := put9 x g c slZ slZ q slZ) ?_ ?_
      · generalize hρ : fr0.eval = ρ
        have r1 : ρ (.tmp 4) = vs 5 := by rw [← hρ, ← hf0]; kernel_rfl
        have r2 : ρ (.tmp 17) = vs 4 := by rw [← hρ, ← hf0]; kernel_rfl
        rw [e7] at r1
        rw [e6] at r2
        have c0 := b7.cell 0
        have c1 := b7.cell 1
        have c2 := b7.cell 2
        have c3 := b7.cell 3
        have c4 := b7.cell 4
        have c5 := b7.cell 5
        have c6 := b7.cell 6
        have c7 := b7.cell 7
        have c8 := b7.cell 8
        simp only [List.getElem?_toArray, List.getElem?_cons_succ, List.getElem?_cons_zero] at c0 c1 c2 c3 c4 c5 c6 c7 c8
        have k0 := b7.frozen 0
        have k1 := b7.frozen 1
        have k2 := b7.frozen 2
        have k3 := b7.frozen 3
        have k4 := b7.frozen 4
        have k5 := b7.frozen 5
        have k6 := b7.frozen 6
        have k7 := b7.frozen 7
        have k8 := b7.frozen 8
        simp [go_sem, r1, r2, c0, c1, c2, c3, c4, c5, c6, c7, c8, k0, k1, k2, k3, k4, k5, k6, k7, k8]
      · subst hf0
        simp only [wpSeq, putH, List.getElem?_cons_succ, List.getElem?_cons_zero, Option.bind_some, Act.put, List.setIfInBounds_toArray, List.set_cons_zero, List.set_cons_succ, e7]
        go_wp2_with fail
        go_meet
        case rel => exact ⟨g, q, rfl, CpI.start2 id (hl.trans hx0) (hb1.le hx0) (hb2.le hx0) b7 hg o6⟩
  case rest =>
    obtain ⟨g, q0, rfl, I0⟩ := hcut
    clear hb1 hb2 hl z0 z1 z2 z3 z4
    obtain ⟨R, hR⟩ : ∃ R, R = (newS c.s).1 := ⟨_, rfl⟩
    obtain ⟨er, her⟩ : ∃ e, e = (newS c.s).2 := ⟨_, rfl⟩
    have HR : Hid (R = (newS c.s).1) := hR
    have hnew := fun w' => refNewRing c.s w'
    simp only [← hR, ← her] at hnew
    clear hR her
    obtain ⟨z0, z1, z2, z3, z4⟩ := I0.bp.slot
    go_wp2_with fail
    go_loopw [5] (fun i wr => ∃ (k : Nat) (L : Lay), k ≤ nl ∧ i = .int .i64 k ∧ CpI False w (cells5 c) 23 c g wr L ∧ Hid (L.c = c ∧ L.rs.map LR.R = List.replicate k R ∧ L.ps = [] ∧ L.ts.map LT.T = List.replicate nt Th.zero ∧ L.es = [])) (fun i _ => nl - (intOf i).toNat)
    case atStart => exact ⟨0, _, Nat.zero_le _, rfl, I0, rfl, rfl, rfl, by simp, rfl⟩
    case round =>
      clear I0 z0 z1 z2 z3 z4
      obtain ⟨k, L, hk, rfl, I, HL⟩ := hrel
      obtain ⟨z0, z1, z2, z3, z4⟩ := I.bp.slot
      by_cases hlt : k < nl
      · have hlt' : (k : Int) < c.l := by have := HNL.out; omega
        have hLn : L.rs.length = k := by
          have := congrArg List.length HL.out.2.1
          simp at this
          exact this
        have HLn : Hid (L.rs.length = k) := hLn
        clear hLn
        go_wp2_with fail
        refine (hnew _).mono ?_
        rintro e w2 ⟨v', rfl, ⟨q, rfl, oq⟩, l2⟩
        have hA := Le.alloc w2 (.cells (cellsR R.h R.t R.f q) 46)
        have hbx := Box.new w2 (cellsR R.h R.t R.f q) 46
        clear z0 z1 z2 z3 z4
        go_upto_region 8 with fail
        generalize hW2 : w2.alloc (.cells (cellsR R.h R.t R.f q) 46) = w3 at hA hbx ⊢
        generalize w2.heap.size = gx at hbx ⊢
        clear hW2
        have l3 := l2.trans hA
        replace oq := oq.le hA
        clear hA l2
        have hlit := OwnE.lit ringK w3 wr.heap.size l3.size [⟨R, q⟩] (by simp)
        replace hlit : OwnE ringK (w3.alloc (.cells (cellsR R.h R.t R.f q) 46)) wr.heap.size (.slice (some ⟨w3.heap.size, 0, none⟩) 1 1) [⟨R, q⟩] := hlit
        have hA6 := Le.alloc w3 (.cells (cellsR R.h R.t R.f q) 46)
        have I6 := I.later l3
        have y5 := I6.bo.mach.2.1
        have hoR := I6.own.oR.le hA6
        obtain ⟨s0, s1, s2, s3, _, _, _, _⟩ := hbx.ring
        go_wp2_with (at_builtin; refine wp_append_E ringIn rfl _ _ rfl w.heap.size _ _ L.rs [⟨R, q⟩] rfl rfl hoR hlit.has (by have := HLn.out; show (L.rs.length + 1) * 48 ≤ _; omega) (by have := HLn.out; show L.rs.length + 1 ≤ _; omega) (I6.le.trans hA6).size ?_; intro v' w7 o8 hg8 _; obtain ⟨q', rfl⟩ := o8.has.sl; have hb8 := (I6.bo.le hA6).grown hg8 (hoR.apart (I6.bo.le hA6) (by decide)); have c5 := hb8.cell 5; have k5 := hb8.frozen 5)
        have IN := I.ring (by decide) (l3.trans hA6) (x := ⟨R, q⟩) (oq.le hA6) o8 hg8
        go_roundw
        case rel => exact ⟨k + 1, _, by omega, by go_num, IN, HL.out.1, by rw [List.map_append, HL.out.2.1, List.replicate_succ']; rfl, HL.out.2.2.1, HL.out.2.2.2.1, HL.out.2.2.2.2⟩
        case measure => simp [intOf]; omega
      · have hge : c.l ≤ (k : Int) := by have := HNL.out; omega
        have hkl : k = nl := by omega
        have HL0 : Hid (L.c = c ∧ L.rs.map LR.R = List.replicate nl R ∧ L.ps.map LP.P = List.replicate 0 ⟨St.zero, List.replicate nl 0, List.replicate nl 0⟩ ∧ L.ts.map LT.T = List.replicate nt Th.zero ∧ L.es = []) := ⟨HL.out.1, by rw [HL.out.2.1, hkl], by rw [HL.out.2.2.1]; rfl, HL.out.2.2.2.1, HL.out.2.2.2.2⟩
        clear hkl hnew
        go_wp2_with fail
        go_loopw [8] (fun i wr => ∃ (k : Nat) (L : Lay), k ≤ nr ∧ i = .int .i64 k ∧ CpI False w (cells5 c) 23 c g wr L ∧ Hid (L.c = c ∧ L.rs.map LR.R = List.replicate nl R ∧ L.ps.map LP.P = List.replicate k ⟨St.zero, List.replicate nl 0, List.replicate nl 0⟩ ∧ L.ts.map LT.T = List.replicate nt Th.zero ∧ L.es = [])) (fun i _ => nr - (intOf i).toNat)
        case atStart => exact ⟨0, L, Nat.zero_le _, rfl, I, HL0⟩
        case round =>
          clear HL0 HL I z0 z1 z2 z3 z4 hlt hge hk
          rename_i _ k0 L0 _ _
          obtain ⟨k, L, hk, rfl, I, HL⟩ := hrel
          obtain ⟨z0, z1, z2, z3, z4⟩ := I.bp.slot
          by_cases hlt : k < nr
          · have hlt' : (k : Int) < c.r := by have := HNR.out; omega
            have hLn : L.ps.length = k := by
              have := congrArg List.length HL.out.2.2.1
              simp at this
              exact this
            have HLn : Hid (L.ps.length = k) := hLn
            clear hLn
            have y6 := I.bo.mach.2.2.1
            go_upto_region 12 with fail
            refine wp_region_any (by kernel_rfl) ?_
            refine wpAny_grow [] [0, 1, 2, 3, 4, 5, 6, 7, 8, 9] [10, 11, 12] (by decide) (by kernel_rfl) Le (Le.refl _) (fun _ _ _ => Le.trans)
              (fun vs i x => match i with
                | 0 => vs 0 = .pointer (some ⟨g, 6, none⟩)
                | 1 => vs 1 = slV L.qP
                | 2 => vs 2 = .pointer (some ⟨w.heap.size, 2, none⟩)
                | 3 => vs 3 = .int .i64 nl
                | 4 => ∃ q, vs 4 = slV q ∧ Own x wr.heap.size (slV q) (List.replicate nl 0)
                | 5 => vs 5 = .pointer (some ⟨w.heap.size, 2, none⟩)
                | 6 => vs 6 = .int .i64 nl
                | 7 => ∃ q, vs 7 = slV q ∧ Own x wr.heap.size (slV q) (List.replicate nl 0)
                | 8 => ∃ qa qb, vs 8 = repV (fun _ => slZ) qa qb ∧ Own x wr.heap.size (slV qa) (List.replicate nl 0) ∧ Own x wr.heap.size (slV qb) (List.replicate nl 0)
                | _ => ∃ qa qb, OwnE repK x wr.heap.size (vs 9) [⟨⟨St.zero, List.replicate nl 0, List.replicate nl 0⟩, fun _ => slZ, qa, qb⟩] ∧ Own x wr.heap.size (slV qa) (List.replicate nl 0) ∧ Own x wr.heap.size (slV qb) (List.replicate nl 0)) ?_ ?_ (by decide) ?_ ?_
            · intro vs i x y hi _ h hxy
              simp only [List.mem_cons, List.not_mem_nil, or_false] at hi
              rcases hi with rfl | rfl | rfl | rfl | rfl | rfl | rfl | rfl | rfl | rfl
              iterate 4
                · exact h
              · obtain ⟨b, e, o⟩ := h; exact ⟨b, e, o.le hxy⟩
              iterate 2
                · exact h
              · obtain ⟨b, e, o⟩ := h; exact ⟨b, e, o.le hxy⟩
              · obtain ⟨a, b, e, o, o'⟩ := h; exact ⟨a, b, e, o.le hxy, o'.le hxy⟩
              · obtain ⟨a, b, e, o, o'⟩ := h; exact ⟨a, b, e.le hxy, o.le hxy, o'.le hxy⟩
            · intro vs vs' i o x hi _ hk h
              have e := hk i (.inl rfl)
              simp only [List.mem_cons, List.not_mem_nil, or_false] at hi
              rcases hi with rfl | rfl | rfl | rfl | rfl | rfl | rfl | rfl | rfl | rfl
              all_goals
                simp only at h ⊢
                rw [← e]
                exact h
            · intro i o hi ho vs x hx hd
              have hx0 := (Le.drew wr).trans hx
              simp only [List.mem_cons, List.not_mem_nil, or_false] at hi
              generalize hρ : (putH _ _ _ vs).eval = ρ
              rcases hi with rfl | rfl | rfl | rfl | rfl | rfl | rfl | rfl | rfl | rfl
              · cases ho
                have r1 : ρ (.tmp 4) = .pointer (some ⟨g, 0, none⟩) := by rw [← hρ]; kernel_rfl
                exact gives_value (w' := x) (v := .pointer (some ⟨g, 6, none⟩)) (by simp [go_sem, r1]) ⟨Le.refl _, rfl⟩
              · cases ho
                have r1 : ρ (.tmp 42) = vs 0 := by rw [← hρ]; kernel_rfl
                have d := hd 0 (by decide) (by kernel_rfl)
                simp only at d
                rw [d] at r1
                have s6 := cell_le y6 hx0
                exact gives_value (w' := x) (v := slV L.qP) (by simp [go_sem, r1, s6]) ⟨Le.refl _, rfl⟩
              · cases ho
                have r1 : ρ (.tmp 1) = .pointer (some ⟨w.heap.size, 0, none⟩) := by rw [← hρ]; kernel_rfl
                exact gives_value (w' := x) (v := .pointer (some ⟨w.heap.size, 2, none⟩)) (by simp [go_sem, r1]) ⟨Le.refl _, rfl⟩
              · cases ho
                have r1 : ρ (.tmp 44) = vs 2 := by rw [← hρ]; kernel_rfl
                have d := hd 2 (by decide) (by kernel_rfl)
                simp only at d
                rw [d] at r1
                have s2 := cell_le z2 hx0
                rw [HNL.out] at s2
                exact gives_value (w' := x) (v := .int .i64 nl) (by simp [go_sem, r1, s2]) ⟨Le.refl _, rfl⟩
              · cases ho
                have r1 : ρ (.tmp 45) = vs 3 := by rw [← hρ]; kernel_rfl
                have d := hd 3 (by decide) (by kernel_rfl)
                simp only at d
                rw [d] at r1
                obtain ⟨x', hrun, o3, l3⟩ := run_make_ints x wr.heap.size nl (by omega) hx0.size
                exact gives_value (w' := x') (v := slV (some ⟨x.heap.size, 0, none⟩, nl, nl)) (by simp [go_sem, r1, hrun]) ⟨l3, _, rfl, o3⟩
              · cases ho
                have r1 : ρ (.tmp 1) = .pointer (some ⟨w.heap.size, 0, none⟩) := by rw [← hρ]; kernel_rfl
                exact gives_value (w' := x) (v := .pointer (some ⟨w.heap.size, 2, none⟩)) (by simp [go_sem, r1]) ⟨Le.refl _, rfl⟩
              · cases ho
                have r1 : ρ (.tmp 47) = vs 5 := by rw [← hρ]; kernel_rfl
                have d := hd 5 (by decide) (by kernel_rfl)
                simp only at d
                rw [d] at r1
                have s2 := cell_le z2 hx0
                rw [HNL.out] at s2
                exact gives_value (w' := x) (v := .int .i64 nl) (by simp [go_sem, r1, s2]) ⟨Le.refl _, rfl⟩
              · cases ho
                have r1 : ρ (.tmp 48) = vs 6 := by rw [← hρ]; kernel_rfl
                have d := hd 6 (by decide) (by kernel_rfl)
                simp only at d
                rw [d] at r1
                obtain ⟨x', hrun, o3, l3⟩ := run_make_ints x wr.heap.size nl (by omega) hx0.size
                exact gives_value (w' := x') (v := slV (some ⟨x.heap.size, 0, none⟩, nl, nl)) (by simp [go_sem, r1, hrun]) ⟨l3, _, rfl, o3⟩
              · cases ho
                have r1 : ρ (.tmp 46) = vs 4 := by rw [← hρ]; kernel_rfl
                have r2 : ρ (.tmp 49) = vs 7 := by rw [← hρ]; kernel_rfl
                have h4 := hd 4 (by decide) (by kernel_rfl)
                have h7 := hd 7 (by decide) (by kernel_rfl)
                simp only at h4 h7
                obtain ⟨qa, e4, o4⟩ := h4
                obtain ⟨qb, e7, o7⟩ := h7
                rw [e4] at r1
                rw [e7] at r2
                exact gives_value (w' := x) (v := repV (fun _ => slZ) qa qb) (by simp [go_sem, r1, r2]) ⟨Le.refl _, qa, qb, rfl, o4, o7⟩
              · cases ho
                have r1 : ρ (.tmp 50) = vs 8 := by rw [← hρ]; kernel_rfl
                have hh := hd 8 (by decide) (by kernel_rfl)
                simp only at hh
                obtain ⟨qa, qb, e8, o8, o9⟩ := hh
                rw [e8] at r1
                have hlit := OwnE.lit repK x wr.heap.size hx0.size [⟨⟨St.zero, List.replicate nl 0, List.replicate nl 0⟩, fun _ => slZ, qa, qb⟩] (by simp)
                exact gives_value (w' := x.alloc (.cells (cellsP (fun _ => slZ) qa qb) 56)) (v := .slice (some ⟨x.heap.size, 0, none⟩) 1 1) (by simp [go_sem, r1]) ⟨Le.alloc _ _, qa, qb, hlit, o8.le (Le.alloc _ _), o9.le (Le.alloc _ _)⟩
            · intro vs x hx hd
              have hx0 := (Le.drew wr).trans hx
              have e1 := hd 1 (by decide)
              simp only at e1
              have hh := hd 9 (by decide)
              simp only at hh
              replace hh := hh.choose_spec
              generalize Exists.choose _ = qa at hh
              replace hh := hh.choose_spec
              generalize Exists.choose _ = qb at hh
              have o9 := hh.1
              have oa := hh.2.1
              have ob := hh.2.2
              have hrun := run_append_E repIn 25 x w.heap.size (slV L.qP) (vs 9) L.ps [⟨⟨St.zero, List.replicate nl 0, List.replicate nl 0⟩, fun _ => slZ, qa, qb⟩] (I.own.oP.le hx0) o9.has (by simp) (by have := HLn.out; show (L.ps.length + 1) * 144 ≤ _; omega) (by have := HLn.out; show L.ps.length + 1 ≤ _; omega) (I.le.trans hx0).size
              replace hrun := hrun.choose_spec
              generalize Exists.choose _ = q' at hrun
              replace hrun := hrun.choose_spec
              generalize Exists.choose _ = x2 at hrun
              have hrn := hrun.1
              have IN := I.rep (by decide) hx0 (x := ⟨⟨St.zero, List.replicate nl 0, List.replicate nl 0⟩, fun _ => slZ, qa, qb⟩) (fun i _ => by show Own x _ _ (St.zero.at i); rw [St.at_zero]; exact Own.nil _ _) oa ob (fun h => h.elim) hrun.2.1 hrun.2.2
              have bo2 : x2.cell? ⟨g, 6, none⟩ = some (slV L.qP) ∧ x2.frozen? ⟨g, 6, none⟩ = false := by
                have hb := (I.bo.le hx0).grown hrun.2.2 ((I.own.oP.le hx0).apart (I.bo.le hx0) (by decide))
                exact ⟨hb.cell 6, hb.frozen 6⟩
              have c6 := bo2.1
              have k6 := bo2.2
              generalize hf0 : putH _ _ _ vs = fr0
              refine wpSeq_cons rfl ?_
              refine wp_value_at (v0 := slV q') (w0 := x2) ?_ ?_
              · have r1 : fr0.eval (.tmp 43) = vs 1 := by rw [← hf0]; kernel_rfl
                have r2 : fr0.eval (.tmp 51) = vs 9 := by rw [← hf0]; kernel_rfl
                rw [e1] at r1
                simp only [execOp, resolve, invoke, builtin, Sem.run_bind, Sem.run_pure, Result.andThen_ok, List.map_toArray, List.map_cons, List.map_nil, r1, r2, hrn]
              · generalize hf1 : Act.put fr0 _ _ = fr1
                refine wpSeq_cons rfl ?_
                refine wp_value_at (v0 := .pointer (some ⟨g, 6, none⟩)) (w0 := x2) ?_ ?_
                · generalize hρ : fr1.eval = ρ
                  have r1 : ρ (.tmp 4) = .pointer (some ⟨g, 0, none⟩) := by rw [← hρ, ← hf1, ← hf0]; kernel_rfl
                  simp [go_sem, r1]
                · generalize hf2 : Act.put fr1 _ _ = fr2
                  refine wpSeq_cons rfl ?_
                  refine wp_skip_at (w0 := x2.setCell ⟨g, 6, none⟩ (slV q')) ?_ ?_
                  · generalize hρ : fr2.eval = ρ
                    have r1 : ρ (.tmp 53) = .pointer (some ⟨g, 6, none⟩) := by rw [← hρ, ← hf2, ← hf1, ← hf0]; kernel_rfl
                    have r2 : ρ (.tmp 52) = slV q' := by rw [← hρ, ← hf2, ← hf1, ← hf0]; kernel_rfl
                    simp [go_sem, r1, r2, c6, k6]
                  · subst hf2 hf1 hf0
                    simp only [wpSeq, putH, List.getElem?_cons_succ, List.getElem?_cons_zero, Option.bind_some, Act.put, List.setIfInBounds_toArray, List.set_cons_zero, List.set_cons_succ]
                    go_wp2_with fail
                    go_roundw
                    case rel => exact ⟨k + 1, _, by omega, by go_num, IN, HL.out.1, HL.out.2.1, by rw [List.map_append, HL.out.2.2.1, List.replicate_succ']; rfl, HL.out.2.2.2.1, HL.out.2.2.2.2⟩
                    case measure => simp [intOf]; omega
          · have hge : c.r ≤ (k : Int) := by have := HNR.out; omega
            have HM : Hid (L.M = freshM c) := by
              have hkr : k = nr := by omega
              show Lay.M L = _
              unfold Lay.M freshM
              have h1 := HNL.out
              have h2 := HNR.out
              have h3 := HNT.out
              rw [HL.out.1, HL.out.2.1, HL.out.2.2.1, HL.out.2.2.2.1, HL.out.2.2.2.2, ← HR.out, h1, h2, h3, hkr]
              simp
            have HC : Hid (L.c = c) := HL.out.1
            obtain ⟨⟨m0, m1, m2, m3, m4⟩, m5, m6, m7, m8⟩ := I.bo.mach
            have r0 := I.br.cell 0
            have r1 := I.br.cell 1
            have r2 := I.br.cell 2
            have r3 := I.br.cell 3
            have r4 := I.br.cell 4
            have r5 := I.br.cell 5
            have r6 := I.br.cell 6
            have r7 := I.br.cell 7
            have r8 := I.br.cell 8
            simp only [List.getElem?_toArray, List.getElem?_cons_succ, List.getElem?_cons_zero] at r0 r1 r2 r3 r4 r5 r6 r7 r8
            have k0' := I.br.frozen 0
            have k1' := I.br.frozen 1
            have k2 := I.br.frozen 2
            have k3 := I.br.frozen 3
            have k4 := I.br.frozen 4
            have k5 := I.br.frozen 5
            have k6 := I.br.frozen 6
            have k7 := I.br.frozen 7
            have k8 := I.br.frozen 8
            clear HL
            go_wp2_with fail
            refine bodyPost_ret (v := .tuple #[machV c L.qR L.qP L.qT L.qH, .int .i64 0]) (by simp [results, Tryz.results7, go_sem, r0, r1, r2, r3, r4, r5, r6, r7, r8]) rfl ⟨_, rfl, ⟨L, by rw [← HC.out], HM.out.symm, ?_⟩, ?_⟩
            · exact I.own.put9 I.br c L.qR L.qP L.qT L.qH
            · exact I.le.put9 (by omega) _ _ _ _ _

end Go.Proofs.YtibleipfablniaaGreat

/-
  THE WALK over choruslaw14.good: a machine under way: four calls, twenty picks. No condition.
-/
namespace Go.Proofs.YtibleipfablniaaGreat
open Go.RowKit

/-- Small enough to be copied. -/
def fitB (M : Mc) : Bool := decide (M.rs.length ≤ 100) && (decide (M.ps.length ≤ 100) && (decide (M.ts.length ≤ 100) && (decide (M.es.length ≤ 100) && (M.rs.all (fun R => decide (R.ss.length ≤ 100)) && (M.ps.all (fun P => (decide (P.s.r0.length ≤ 100) && (decide (P.s.r1.length ≤ 100) && (decide (P.s.r2.length ≤ 100) && decide (P.s.r3.length ≤ 100)))) && (decide (P.cs.length ≤ 100) && decide (P.ls.length ≤ 100))) && M.ts.all (fun T => decide (T.b.length ≤ 100) && decide (T.tl.length ≤ 100)))))))
theorem fitB_fit {M : Mc} (h : fitB M = true) : FitM M := by
  unfold fitB at h
  simp only [Bool.and_eq_true, decide_eq_true_eq, List.all_eq_true] at h
  obtain ⟨h1, h2, h3, h4, h5, h6, h7⟩ := h
  refine ⟨by omega, by omega, by omega, by omega, fun R hR => ?_, fun P hP => ⟨fun i hi => ?_, ?_, ?_⟩, fun T hT => ?_⟩
  · have := h5 R hR
    show R.ss.length * 40 ≤ _
    omega
  · obtain ⟨⟨a, b, c, d⟩, _⟩ := h6 P hP
    rcases four hi with rfl | rfl | rfl | rfl <;> simp only [St.at] <;> omega
  · have := (h6 P hP).2.1; omega
  · have := (h6 P hP).2.2; omega
  · have := h7 T hT; omega

/-- A pick of a thread that turns something, at the steps that are walked here. -/
def okU (M : Mc) (t : Int) : Bool := fitB M && (thereB M 0 0 t && (opUp (M.th t).c (M.th t).r (M.th t).a && (decide ((M.th t).st = 1) || (decide ((M.th t).st = 2) || (decide ((M.th t).st = 3) || ((decide ((M.th t).st = 4) && (decide ((M.th t).b ≠ []) && decide ((M.rg (M.th t).lg).f = 0))) || ((decide ((M.th t).st = 6) && (decide ((M.th t).b ≠ []) && (decide ((M.rg (M.th t).lg).t = (M.th t).sn) && decide ((reserveS (M.rg (M.th t).lg) (M.th t).b.length).2.2 = 0)))) || (decide ((M.th t).st = 10) && decide ((M.th t).re = false)))))))))

theorem rmUpdOk (v : Value) (M : Mc) (t : Int) (w : World) (hx : HasM w v M) (h : okU M t = true) : Calls Tryz.prog 74 #[v, .int .i64 t] w fun e w' => ∃ v', e = .returned (.tuple #[v', .int .i64 0]) ∧ OwnA w' w.heap.size v' (updM M t).1 ∧ Le w w' := by
  unfold okU at h
  simp only [Bool.and_eq_true, Bool.or_eq_true, decide_eq_true_eq] at h
  obtain ⟨hfb, h1, h2, h⟩ := h
  have hf := fitB_fit hfb
  have hu : (thereB M 0 0 t && opUp (M.th t).c (M.th t).r (M.th t).a) = true := by rw [h1, h2]; rfl
  rcases h with h3 | h3 | h3 | ⟨h3, h4, h5⟩ | ⟨h3, h4, h5, h6⟩ | ⟨h3, h4⟩
  · have e : updM M t = (stepM (postM M t).1 t 2, 0) := by unfold updM; rw [if_pos hu, if_pos h3]
    rw [e]
    exact rmUpd1 v M t w hx hf h1 h2 h3
  · have e : updM M t = (stepM (tryM M (M.home t) (M.th t).lg t).1 t (if (tryM M (M.home t) (M.th t).lg t).2.1 then 3 else 10), 0) := by unfold updM; rw [if_pos hu, if_neg (by omega), if_pos h3]
    rw [e]
    exact rmUpd2 v M t w hx hf h1 h2 h3
  · have e : updM M t = collectM M t := by unfold updM; rw [if_pos hu, if_neg (by omega), if_neg (by omega), if_pos h3]
    rw [e]
    exact rmUpd3 v M t w hx hf h1 h2 h3
  · have hc : (thereB M 0 0 t && decide ((M.th t).b ≠ [])) = true := by rw [h1, decide_eq_true h4]; rfl
    have ec : claimM M t = (M.putT t { M.th t with sn := (M.rg (M.th t).lg).t, st := if (M.rg (M.th t).lg).h + (M.rg (M.th t).lg).ss.length < (M.rg (M.th t).lg).t + (M.th t).b.length then 5 else 6 }, 0) := by unfold claimM; rw [if_pos hc, if_pos h3, if_pos h5]
    have e : updM M t = (M.putT t { M.th t with sn := (M.rg (M.th t).lg).t, st := if (M.rg (M.th t).lg).h + (M.rg (M.th t).lg).ss.length < (M.rg (M.th t).lg).t + (M.th t).b.length then 5 else 6 }, 0) := by
      unfold updM
      rw [if_pos hu, if_neg (by omega), if_neg (by omega), if_neg (by omega), if_pos (by omega), ec, if_pos rfl]
    rw [e]
    exact rmUpdC v M t w hx hf h1 h2 4 (by omega) h3 _ (fun w' l => rmClaim4 v M t w' (hx.le l) hf h1 h4 h3 h5)
  · have hc : (thereB M 0 0 t && decide ((M.th t).b ≠ [])) = true := by rw [h1, decide_eq_true h4]; rfl
    have ec : claimM M t = ((M.putR (M.th t).lg (reserveS (M.rg (M.th t).lg) (M.th t).b.length).1).putT t { M.th t with st := 7, pl := 0 }, 0) := by unfold claimM; rw [if_pos hc, if_neg (by omega), if_neg (by omega), if_pos h3, if_pos ⟨h5, h6⟩]
    have e : updM M t = ((M.putR (M.th t).lg (reserveS (M.rg (M.th t).lg) (M.th t).b.length).1).putT t { M.th t with st := 7, pl := 0 }, 0) := by
      unfold updM
      rw [if_pos hu, if_neg (by omega), if_neg (by omega), if_neg (by omega), if_pos (by omega), ec, if_pos rfl]
    rw [e]
    exact rmUpdC v M t w hx hf h1 h2 6 (by omega) h3 _ (fun w' l => rmClaim6 v M t w' (hx.le l) hf h1 h4 h3 h5 h6)
  · have e : updM M t = (stepM M t 2, 0) := by unfold updM; rw [if_pos hu, if_neg (by omega), if_neg (by omega), if_neg (by omega), if_neg (by omega), if_neg (by omega), if_neg (by omega), if_pos h3, if_neg (by rw [h4]; decide)]
    rw [e]
    exact rmUpd10 v M t w hx hf h1 h2 h3 h4

theorem rmPickOk (v : Value) (M : Mc) (t : Int) (w : World) (hx : HasM w v M) (h : okU M t = true) : Calls Tryz.prog 44 #[v, .int .i64 t] w fun e w' => ∃ v', e = .returned (.tuple #[v', .int .i64 0]) ∧ OwnA w' w.heap.size v' (updM M t).1 ∧ Le w w' := by
  have h0 := h
  unfold okU at h
  simp only [Bool.and_eq_true, Bool.or_eq_true, decide_eq_true_eq] at h
  obtain ⟨hfb, h1, h2, h⟩ := h
  obtain ⟨hmay, _, _, ht⟩ := thereB_cases h1
  have hc : (M.th t).c = 0 ∨ (M.th t).c = 1 := by
    unfold opUp at h2
    simp only [Bool.and_eq_true, Bool.or_eq_true, decide_eq_true_eq] at h2
    exact h2.2
  exact rmPickU v M t w hx (fitB_fit hfb) hmay ⟨ht.1, by omega⟩ (by omega) (by omega) (by omega) _ (fun w' l => rmUpdOk v M t w' (hx.le l) h0)

def okC (M : Mc) (t : Int) : Bool := fitB M && (mayM M && (opMay 0 t t && (decide (0 ≤ t) && (decide (t < M.c.t) && (decide ((M.th t).st = 0) && decide ((M.es.length : Int) + 2 + busy M.ts ≤ 64))))))
def calledM (M : Mc) (t : Int) : Mc := { M with ts := M.ts.set t.toNat (newT M 0 t t), es := M.es ++ [⟨t, true, 0, t, t, 0⟩] }
theorem rmCallT (v : Value) (M : Mc) (t : Int) (w : World) (hx : HasM w v M) (h : okC M t = true) : Calls Tryz.prog 43 #[v, .int .i64 t, opV 0 t t] w fun e w' => ∃ v', e = .returned (.tuple #[v', .int .i64 0]) ∧ OwnA w' w.heap.size v' (calledM M t) ∧ Le w w' := by
  unfold okC at h
  simp only [Bool.and_eq_true, decide_eq_true_eq] at h
  obtain ⟨hfb, h1, h2, h3, h4, h5, h6⟩ := h
  exact rmCallOk v M t 0 t t w hx (fitB_fit hfb) h1 h2 ⟨h3, h4⟩ h5 h6

def callsT : Nat → Mc
  | 0 => (newM ⟨2, 2, 2, 4, 8⟩).1
  | k + 1 => calledM (callsT k) k
def picksT : Nat → Mc
  | 0 => callsT 4
  | k + 1 => (updM (picksT k) ((k % 4 : Nat) : Int)).1
theorem calls_ok : ∀ k, k < 4 → okC (callsT k) k = true := by decide +kernel
theorem picks_ok : ∀ k, k < 20 → okU (picksT k) ((k % 4 : Nat) : Int) = true := by decide +kernel
theorem start_ok : newM ⟨2, 2, 2, 4, 8⟩ = (callsT 0, 0) := by decide +kernel
def goodM : Mc := picksT 20

end Go.Proofs.YtibleipfablniaaGreat

/-
  PLAIN GROUND, NO WALK: the machine under way, written out; parts of the call's own machine turned one at a time; that such a machine may not be. No condition.
-/
namespace Go.Proofs.YtibleipfablniaaGreat
open Go.RowKit

def gR : Rg := ⟨0, 2, 0, List.replicate 8 Slt.zero⟩
def gP0 : Rp := ⟨St.zero, [0, 0], [1, 0]⟩
def gP1 : Rp := ⟨St.zero, [0, 0], [0, 2]⟩
def gT0 : Th := ⟨7, 0, 0, 0, 0, 0, [0, 2], 0, false, false, 0, []⟩
def gT1 : Th := ⟨7, 0, 1, 1, 1, 0, [1, 3], 0, false, false, 0, []⟩
def gT2 : Th := ⟨2, 0, 2, 2, 0, 0, [], 0, false, false, 0, []⟩
def gT3 : Th := ⟨2, 0, 3, 3, 1, 0, [], 0, false, false, 0, []⟩
def gE : List Ev := [⟨0, true, 0, 0, 0, 0⟩, ⟨1, true, 0, 1, 1, 0⟩, ⟨2, true, 0, 2, 2, 0⟩, ⟨3, true, 0, 3, 3, 0⟩]
def gC : Cfg := ⟨2, 2, 2, 4, 8⟩
theorem good_is : goodM = ⟨gC, [gR, gR], [gP0, gP1], [gT0, gT1, gT2, gT3], gE⟩ := by decide +kernel
theorem good_may : mayM goodM = true := by decide +kernel
theorem good_fit : FitM goodM := fitB_fit (by decide +kernel)

theorem two_of {α β : Type} {f : α → β} {xs : List α} {a b : β} (h : xs.map f = [a, b]) : ∃ x y, xs = [x, y] ∧ f x = a ∧ f y = b := by
  match xs, h with
  | [x, y], h => simp at h; exact ⟨x, y, rfl, h.1, h.2⟩
theorem four_of {α β : Type} {f : α → β} {xs : List α} {a b c d : β} (h : xs.map f = [a, b, c, d]) : ∃ x y z u, xs = [x, y, z, u] ∧ f x = a ∧ f y = b ∧ f z = c ∧ f u = d := by
  match xs, h with
  | [x, y, z, u], h => simp at h; exact ⟨x, y, z, u, rfl, h.1, h.2.1, h.2.2.1, h.2.2.2⟩

/-- The machine under way, in a variable: where its parts lie. -/
theorem good_open {B g : Nat} {w : World} {L : Lay} (h : MoI B g w L) (HM : L.M = goodM) : ∃ r0 r1 p0 p1 t0 t1 t2 t3 gR' cR gP cP gT cT uH, L = ⟨gC, (some ⟨gR', 0, none⟩, 2, cR), (some ⟨gP, 0, none⟩, 2, cP), (some ⟨gT, 0, none⟩, 4, cT), uH, [r0, r1], [p0, p1], [t0, t1, t2, t3], gE⟩ ∧
    (r0.R = gR ∧ r1.R = gR) ∧ (p0.P = gP0 ∧ p1.P = gP1) ∧ (t0.T = gT0 ∧ t1.T = gT1 ∧ t2.T = gT2 ∧ t3.T = gT3) := by
  rw [good_is] at HM
  obtain ⟨c, qR, qP, qT, qH, rs, ps, ts, es⟩ := L
  simp only [Lay.M, Mc.mk.injEq] at HM
  obtain ⟨rfl, hr, hp, ht, rfl⟩ := HM
  obtain ⟨r0, r1, rfl, kr⟩ := two_of hr
  obtain ⟨p0, p1, rfl, kp⟩ := two_of hp
  obtain ⟨t0, t1, t2, t3, rfl, kt⟩ := four_of ht
  obtain ⟨gR', cR, h1, _⟩ := h.openR (i := 0) (by show 0 < 2; decide)
  obtain ⟨gP, cP, h2, _⟩ := h.openP (i := 0) (by show 0 < 2; decide)
  obtain ⟨gT, cT, h3, _⟩ := h.openT (i := 0) (by show 0 < 4; decide)
  replace h1 : qR = (some ⟨gR', 0, none⟩, 2, cR) := h1
  replace h2 : qP = (some ⟨gP, 0, none⟩, 2, cP) := h2
  replace h3 : qT = (some ⟨gT, 0, none⟩, 4, cT) := h3
  subst h1 h2 h3
  exact ⟨r0, r1, p0, p1, t0, t1, t2, t3, gR', cR, gP, cP, gT, cT, qH, rfl, kr, kp, kt⟩
theorem MoI.repAt {B g : Nat} {w : World} {L : Lay} (h : MoI B g w L) {i gP n cap : Nat} (hq : L.qP = (some ⟨gP, 0, none⟩, n, cap)) (hi : i < L.ps.length) : g ≠ gP ∧ gP < w.heap.size ∧ B ≤ gP ∧ RepAt w gP (i * 6) (L.ps.getD i repK.d).vs (L.ps.getD i repK.d).c (L.ps.getD i repK.d).l ∧ ∀ j, w.frozen? ⟨gP, j, none⟩ = false := by
  obtain ⟨g', c, hq', _, h1, h2, h3, h4, h5⟩ := h.openP hi
  rw [hq] at hq'
  simp only [Prod.mk.injEq, Option.some.injEq, Addr.mk.injEq, and_true] at hq'
  obtain ⟨rfl, _⟩ := hq'
  exact ⟨h3, h2, h1, h4, h5⟩

/-! Parts turned. -/
/-- A shorter row. -/
theorem own_take {w : World} {base k n m : Nat} {t : TypeId} {a : Option Addr} {c : Nat} {us : List Value} (h : w.ownsRow base t k (.slice a n c) n us) (hm : m ≤ n) : w.ownsRow base t k (.slice a m c) m (us.take (m * k)) := by
  obtain ⟨h1, h2⟩ := h
  have hmk : m * k ≤ n * k := Nat.mul_le_mul_right _ hm
  refine ⟨by rw [List.length_take, h1]; omega, ?_⟩
  rcases h2 with ⟨h2, h3⟩ | ⟨g, cap, cur, hv, hg, hh, hn, hmx, hs, ht⟩
  · simp only [Value.slice.injEq] at h2
    obtain ⟨rfl, h4, rfl⟩ := h2
    have : m = 0 := by omega
    subst this
    exact .inl ⟨rfl, rfl⟩
  · simp only [Value.slice.injEq] at hv
    obtain ⟨rfl, _, rfl⟩ := hv
    exact .inr ⟨g, c, cur, rfl, hg, hh, by omega, hmx, hs, by rw [← ht, List.take_take, Nat.min_eq_left hmk]⟩
theorem rowC_take {α : Type} {f : α → List Value} {k : Nat} (hk : ∀ x, (f x).length = k) : ∀ (xs : List α) (m : Nat), m ≤ xs.length → (rowC f xs).take (m * k) = rowC f (xs.take m)
  | xs, 0, _ => by simp [rowC]
  | [], m + 1, h => by simp at h
  | x :: xs, m + 1, h => by
    simp only [rowC, List.take_succ_cons]
    rw [Nat.succ_mul, Nat.add_comm, List.take_append, hk, List.take_of_length_le (by rw [hk]; omega), show k + m * k - k = m * k by omega, rowC_take hk xs m (by simpa using h)]
theorem OwnE.take {α : Type} {K : Kind α} {w : World} {base n c m : Nat} {a : Option Addr} {xs : List α} (h : OwnE K w base (.slice a n c) xs) (hm : m ≤ xs.length) : OwnE K w base (.slice a m c) (xs.take m) := by
  have hn : n = xs.length := by
    obtain ⟨_, _, hv, _⟩ := h.has
    simp only [Value.slice.injEq] at hv
    exact hv.2.1
  subst hn
  exact OwnE.of (own_take h hm) (by simp; omega) (rowC_take K.len xs m hm)
theorem OwnL.take {w : World} {base n c m : Nat} {a : Option Addr} {ss : List Slt} (h : OwnL w base (.slice a n c) ss) (hm : m ≤ ss.length) : OwnL w base (.slice a m c) (ss.take m) := by
  have hn : n = ss.length := by
    obtain ⟨_, _, hv, _⟩ := h.has
    simp only [Value.slice.injEq] at hv
    exact hv.2.1
  subst hn
  have e : ∀ (xs : List Slt), flatV xs = rowC Slt.vals xs := fun xs => by
    induction xs with
    | nil => rfl
    | cons x xs ih => simp only [flatV, rowC, ih]
  refine OwnL.of (own_take h hm) (by simp; omega) ?_
  rw [e, e, rowC_take Slt.len ss m hm]

theorem own_box {w : World} {base g i k n : Nat} {t : TypeId} {v u : Value} {us : List Value} {cs : Array Value} (h : w.ownsRow base t k v n us) (hb : Box w g cs 29) (ht : t ≠ 29) : (w.setCell ⟨g, i, none⟩ u).ownsRow base t k v n us :=
  ownsRow_setCell_other h (fun e => by
    rcases h.2 with ⟨e2, _⟩ | ⟨g', cap, cur, hv, _, hh, _⟩
    · rw [e2] at e; simp [Value.ownBlock] at e
    · rw [hv] at e
      simp [Value.ownBlock] at e
      subst e
      unfold Box at hb
      rw [hb] at hh
      simp at hh
      exact ht hh.2.symm) u
theorem OwnsM.box {w : World} {base g i : Nat} {u : Value} {cs : Array Value} {L : Lay} (o : OwnsM w base L) (hb : Box w g cs 29) : OwnsM (w.setCell ⟨g, i, none⟩ u) base L :=
  ⟨own_box o.oR hb (by decide), own_box o.oP hb (by decide), own_box o.oT hb (by decide), own_box o.oH hb (by decide), fun y hy => own_box (o.iR y hy) hb (by decide),
    fun y hy => ⟨fun j hj => own_box ((o.iP y hy).1 j hj) hb (by decide), own_box (o.iP y hy).2.1 hb (by decide), own_box (o.iP y hy).2.2 hb (by decide)⟩, fun y hy => ⟨own_box (o.iT y hy).1 hb (by decide), own_box (o.iT y hy).2 hb (by decide)⟩⟩

theorem OwnsM.chT {w w' : World} {B : Nat} {L : Lay} (h : OwnsM w B L) {gT n cap : Nat} (hq : L.qT = (some ⟨gT, 0, none⟩, n, cap)) {ts : List LT}
    (hk : ∀ {t : TypeId} {kk m : Nat} {v : Value} {us : List Value}, w.ownsRow B t kk v m us → v.ownBlock ≠ some gT → w'.ownsRow B t kk v m us)
    (ho : OwnE thK w' B (.slice (some ⟨gT, 0, none⟩) n cap) ts) (hts : ∀ x ∈ ts, x ∈ L.ts ∨ (Own w B (slV x.b) x.T.b ∧ Own w B (slV x.t) x.T.tl)) : OwnsM w' B { L with ts := ts } := by
  have ho0 := h.oT
  rw [hq] at ho0
  have key : ∀ {t : TypeId} {kk m : Nat} {v : Value} {us : List Value}, w.ownsRow B t kk v m us → t ≠ 58 → w'.ownsRow B t kk v m us := fun h1 h2 => hk h1 (own_k (g := gT) ho0 h1 h2 rfl)
  refine ⟨key h.oR (by decide), key h.oP (by decide), ?_, key h.oH (by decide), fun y hy => key (h.iR y hy) (by decide), fun y hy => ?_, fun y hy => ?_⟩
  · show OwnE thK _ B (slV L.qT) ts
    rw [hq]
    exact ho
  · obtain ⟨a, b, c⟩ := h.iP y hy
    exact ⟨fun i hi => key (a i hi) (by decide), key b (by decide), key c (by decide)⟩
  · rcases hts y hy with hy | ⟨a, b⟩
    · obtain ⟨a, b⟩ := h.iT y hy
      exact ⟨key a (by decide), key b (by decide)⟩
    · exact ⟨key a (by decide), key b (by decide)⟩
theorem OwnsM.chR {w w' : World} {B : Nat} {L : Lay} (h : OwnsM w B L) {gR n cap : Nat} (hq : L.qR = (some ⟨gR, 0, none⟩, n, cap)) {rs : List LR}
    (hk : ∀ {t : TypeId} {kk m : Nat} {v : Value} {us : List Value}, w.ownsRow B t kk v m us → v.ownBlock ≠ some gR → w'.ownsRow B t kk v m us)
    (ho : OwnE ringK w' B (.slice (some ⟨gR, 0, none⟩) n cap) rs) (hrs : ∀ x ∈ rs, x ∈ L.rs ∨ OwnL w B (slV x.q) x.R.ss) : OwnsM w' B { L with rs := rs } := by
  have ho0 := h.oR
  rw [hq] at ho0
  have key : ∀ {t : TypeId} {kk m : Nat} {v : Value} {us : List Value}, w.ownsRow B t kk v m us → t ≠ 46 → w'.ownsRow B t kk v m us := fun h1 h2 => hk h1 (own_k (g := gR) ho0 h1 h2 rfl)
  refine ⟨?_, key h.oP (by decide), key h.oT (by decide), key h.oH (by decide), fun y hy => ?_, fun y hy => ?_, fun y hy => ?_⟩
  · show OwnE ringK _ B (slV L.qR) rs
    rw [hq]
    exact ho
  · rcases hrs y hy with hy | a
    · exact key (h.iR y hy) (by decide)
    · exact key a (by decide)
  · obtain ⟨a, b, c⟩ := h.iP y hy
    exact ⟨fun i hi => key (a i hi) (by decide), key b (by decide), key c (by decide)⟩
  · obtain ⟨a, b⟩ := h.iT y hy
    exact ⟨key a (by decide), key b (by decide)⟩
theorem OwnsM.chP {w w' : World} {B : Nat} {L : Lay} (h : OwnsM w B L) {gP n cap : Nat} (hq : L.qP = (some ⟨gP, 0, none⟩, n, cap)) {ps : List LP}
    (hk : ∀ {t : TypeId} {kk m : Nat} {v : Value} {us : List Value}, w.ownsRow B t kk v m us → v.ownBlock ≠ some gP → w'.ownsRow B t kk v m us)
    (ho : OwnE repK w' B (.slice (some ⟨gP, 0, none⟩) n cap) ps) (hps : ∀ x ∈ ps, x ∈ L.ps ∨ ((∀ i, i < 4 → Own w B (slV (x.vs i)) (x.P.s.at i)) ∧ Own w B (slV x.c) x.P.cs ∧ Own w B (slV x.l) x.P.ls)) : OwnsM w' B { L with ps := ps } := by
  have ho0 := h.oP
  rw [hq] at ho0
  have key : ∀ {t : TypeId} {kk m : Nat} {v : Value} {us : List Value}, w.ownsRow B t kk v m us → t ≠ 56 → w'.ownsRow B t kk v m us := fun h1 h2 => hk h1 (own_k (g := gP) ho0 h1 h2 rfl)
  refine ⟨key h.oR (by decide), ?_, key h.oT (by decide), key h.oH (by decide), fun y hy => key (h.iR y hy) (by decide), fun y hy => ?_, fun y hy => ?_⟩
  · show OwnE repK _ B (slV L.qP) ps
    rw [hq]
    exact ho
  · rcases hps y hy with hy | ⟨a, b, c⟩
    · obtain ⟨a, b, c⟩ := h.iP y hy
      exact ⟨fun i hi => key (a i hi) (by decide), key b (by decide), key c (by decide)⟩
    · exact ⟨fun i hi => key (a i hi) (by decide), key b (by decide), key c (by decide)⟩
  · obtain ⟨a, b⟩ := h.iT y hy
    exact ⟨key a (by decide), key b (by decide)⟩

/-- One cell of a thread. -/
theorem OwnsM.setT {w : World} {B : Nat} {L : Lay} (h : OwnsM w B L) {i j gT n cap : Nat} {u : Value} (hq : L.qT = (some ⟨gT, 0, none⟩, n, cap)) (hi : i < L.ts.length) (hj : j < 12) (x : LT) (hx : x.cells = (L.ts.getD i thK.d).cells.set j u) (hb : Own w B (slV x.b) x.T.b) (ht : Own w B (slV x.t) x.T.tl) : OwnsM (w.setCell ⟨gT, i * 12 + j, none⟩ u) B { L with ts := L.ts.set i x } := by
  have ho := h.oT
  rw [hq] at ho
  refine h.chT hq (fun h1 h2 => ownsRow_setCell_other h1 h2 u) (ho.put hi hj hx) (fun y hy => ?_)
  rcases List.mem_or_eq_of_mem_set hy with hy | rfl
  · exact .inl hy
  · exact .inr ⟨hb, ht⟩
/-- One cell of a ring. -/
theorem OwnsM.setR {w : World} {B : Nat} {L : Lay} (h : OwnsM w B L) {i j gR n cap : Nat} {u : Value} (hq : L.qR = (some ⟨gR, 0, none⟩, n, cap)) (hi : i < L.rs.length) (hj : j < 4) (x : LR) (hx : x.cells = (L.rs.getD i ringK.d).cells.set j u) (hs : OwnL w B (slV x.q) x.R.ss) : OwnsM (w.setCell ⟨gR, i * 4 + j, none⟩ u) B { L with rs := L.rs.set i x } := by
  have ho := h.oR
  rw [hq] at ho
  refine h.chR hq (fun h1 h2 => ownsRow_setCell_other h1 h2 u) (ho.put hi hj hx) (fun y hy => ?_)
  rcases List.mem_or_eq_of_mem_set hy with hy | rfl
  · exact .inl hy
  · exact .inr hs
/-- One cell of a replica. -/
theorem OwnsM.setP {w : World} {B : Nat} {L : Lay} (h : OwnsM w B L) {i j gP n cap : Nat} {u : Value} (hq : L.qP = (some ⟨gP, 0, none⟩, n, cap)) (hi : i < L.ps.length) (hj : j < 6) (x : LP) (hx : x.cells = (L.ps.getD i repK.d).cells.set j u) (h1 : ∀ i, i < 4 → Own w B (slV (x.vs i)) (x.P.s.at i)) (h2 : Own w B (slV x.c) x.P.cs) (h3 : Own w B (slV x.l) x.P.ls) : OwnsM (w.setCell ⟨gP, i * 6 + j, none⟩ u) B { L with ps := L.ps.set i x } := by
  have ho := h.oP
  rw [hq] at ho
  refine h.chP hq (fun h1 h2 => ownsRow_setCell_other h1 h2 u) (ho.put hi hj hx) (fun y hy => ?_)
  rcases List.mem_or_eq_of_mem_set hy with hy | rfl
  · exact .inl hy
  · exact .inr ⟨h1, h2, h3⟩
/-- One cell of an event. -/
theorem OwnsM.setE {w : World} {B : Nat} {L : Lay} (h : OwnsM w B L) {i j gH n cap : Nat} {u : Value} (hq : L.qH = (some ⟨gH, 0, none⟩, n, cap)) (hi : i < L.es.length) (hj : j < 6) (x : Ev) (hx : x.cells = (L.es.getD i evK.d).cells.set j u) : OwnsM (w.setCell ⟨gH, i * 6 + j, none⟩ u) B { L with es := L.es.set i x } := by
  have ho := h.oH
  rw [hq] at ho
  have key : ∀ {t : TypeId} {kk m : Nat} {v : Value} {us : List Value}, w.ownsRow B t kk v m us → t ≠ 60 → (w.setCell ⟨gH, i * 6 + j, none⟩ u).ownsRow B t kk v m us := fun h1 h2 => by
    refine ownsRow_setCell_other h1 ?_ u
    exact own_k (g := gH) ho h1 h2 rfl
  refine ⟨key h.oR (by decide), key h.oP (by decide), key h.oT (by decide), ?_, fun y hy => key (h.iR y hy) (by decide), fun y hy => ?_, fun y hy => ?_⟩
  · show OwnE evK _ B (slV L.qH) _
    rw [hq]
    exact ho.put hi hj hx
  · obtain ⟨a, b, c⟩ := h.iP y hy
    exact ⟨fun i hi => key (a i hi) (by decide), key b (by decide), key c (by decide)⟩
  · obtain ⟨a, b⟩ := h.iT y hy
    exact ⟨key a (by decide), key b (by decide)⟩
theorem flatV_set1' : ∀ (ss : List Slt) (i j : Nat) (u : Value) (s : Slt), i < ss.length → j < 5 → s.vals = (ss.getD i Slt.zero).vals.set j u → (flatV ss).set (i * 5 + j) u = flatV (ss.set i s)
  | [], i, j, u, s, h, _, _ => by simp at h
  | z :: ss, 0, j, u, s, _, hj, hs => by
    simp at hs
    simp only [flatV, List.set_cons_zero, Nat.zero_mul, Nat.zero_add, hs]
    rw [List.set_append_left _ _ (by simp [Slt.vals]; omega)]
  | z :: ss, i + 1, j, u, s, h, hj, hs => by
    have ih := flatV_set1' ss i j u s (by simpa using h) hj (by simpa using hs)
    simp only [flatV, List.set_cons_succ]
    rw [← ih, List.set_append_right _ _ (by simp [Slt.vals]; omega)]
    congr 2
    simp [Slt.vals]
    omega
/-- One cell of a slot. -/
theorem MoI.setSl {B g : Nat} {w : World} {L : Lay} (h : MoI B g w L) {i k j gs n cap : Nat} {u : Value} {s : Slt} (hi : i < L.rs.length) (hq : (L.rs.getD i ringK.d).q = (some ⟨gs, 0, none⟩, n, cap)) (hk : k < (L.rs.getD i ringK.d).R.ss.length) (hj : j < 5) (hs : s.vals = ((L.rs.getD i ringK.d).R.ss.getD k Slt.zero).vals.set j u) :
    OwnsM (w.setCell ⟨gs, k * 5 + j, none⟩ u) B { L with rs := L.rs.set i ⟨{ (L.rs.getD i ringK.d).R with ss := (L.rs.getD i ringK.d).R.ss.set k s }, (L.rs.getD i ringK.d).q⟩ } := by
  have o := h.own.iR _ (getD_mem (d := ringK.d) hi)
  rw [hq] at o
  have key : ∀ {t : TypeId} {kk m : Nat} {v' : Value} {us : List Value}, w.ownsRow B t kk v' m us → t ≠ 50 → (w.setCell ⟨gs, k * 5 + j, none⟩ u).ownsRow B t kk v' m us := fun {t kk m v' us} h1 h2 => by
    refine ownsRow_setCell_other h1 ?_ u
    exact ownsRow_apart (g := gs) (show w.ownsRow B 50 5 _ _ _ from o) h1 (fun e => h2 e.symm) rfl
  refine ⟨?_, key h.own.oP (by decide), key h.own.oT (by decide), key h.own.oH (by decide), fun y hy => ?_, fun y hy => ?_, fun y hy => ?_⟩
  · have h1 : OwnE ringK (w.setCell ⟨gs, k * 5 + j, none⟩ u) B (slV L.qR) L.rs := key h.own.oR (by decide)
    refine OwnE.of h1 (by simp) ?_
    exact (rowC_same (f := ringK.f) (x' := ⟨{ (L.rs.getD i ringK.d).R with ss := (L.rs.getD i ringK.d).R.ss.set k s }, (L.rs.getD i ringK.d).q⟩) ringK.d L.rs i hi rfl).symm
  · obtain ⟨a, ha, rfl⟩ := List.mem_iff_getElem.1 hy
    simp only [List.length_set] at ha
    by_cases e : i = a
    · subst e
      simp only [List.getElem_set_self]
      rw [hq]
      have hn : n = (L.rs.getD i ringK.d).R.ss.length := by
        obtain ⟨_, _, hv, _⟩ := o.has
        simp only [Value.slice.injEq] at hv
        exact hv.2.1
      subst hn
      have h3 := (World.ownsRow.stored o (k * 5 + j) u).1
      exact OwnL.of h3 (by simp) (flatV_set1' _ k j u s hk hj hs)
    · rw [List.getElem_set_ne e]
      have ga : L.rs[a] = L.rs.getD a ringK.d := by simp [List.getD, ha]
      have oa := h.own.iR _ (List.getElem_mem (l := L.rs) (n := a) (by omega))
      rw [ga] at oa ⊢
      have hne : (slV (L.rs.getD a ringK.d).q).ownBlock ≠ some gs := h.ap.s i a e gs (by show (slV (L.rs.getD i ringK.d).q).ownBlock = some gs; rw [hq]; rfl)
      exact ownsRow_setCell_other oa hne u
  · obtain ⟨a, b, c⟩ := h.own.iP y hy
    exact ⟨fun i hi => key (a i hi) (by decide), key b (by decide), key c (by decide)⟩
  · obtain ⟨a, b⟩ := h.own.iT y hy
    exact ⟨key a (by decide), key b (by decide)⟩

/-! That such a machine may not be. -/
theorem no_rl {M : Mc} (h : ¬ (M.rs.length : Int) = M.c.l) : mayM M = false := by rw [← Bool.not_eq_true]; intro hm; exact h (mayM_lens hm).1
theorem no_pl {M : Mc} (h : ¬ (M.ps.length : Int) = M.c.r) : mayM M = false := by rw [← Bool.not_eq_true]; intro hm; exact h (mayM_lens hm).2.1
theorem no_tl {M : Mc} (h : ¬ (M.ts.length : Int) = M.c.t) : mayM M = false := by rw [← Bool.not_eq_true]; intro hm; exact h (mayM_lens hm).2.2.1
theorem no_el {M : Mc} (h : ¬ (M.es.length : Int) ≤ 64) : mayM M = false := by rw [← Bool.not_eq_true]; intro hm; exact h (mayM_lens hm).2.2.2
theorem no_r {M : Mc} {R : Rg} (hR : R ∈ M.rs) (h : ringB M.c R = false) : mayM M = false := by rw [← Bool.not_eq_true]; intro hm; have := mayM_rs hm R hR; rw [h] at this; cases this
theorem no_p {M : Mc} {P : Rp} (hP : P ∈ M.ps) (h : repB M.c M.rs P = false) : mayM M = false := by rw [← Bool.not_eq_true]; intro hm; have := mayM_ps hm P hP; rw [h] at this; cases this
theorem no_t {M : Mc} {T : Th} (hT : T ∈ M.ts) (h : thB M.c T = false) : mayM M = false := by rw [← Bool.not_eq_true]; intro hm; have := mayM_ts hm T hT; rw [h] at this; cases this
theorem no_e {M : Mc} {E : Ev} (hE : E ∈ M.es) (h : evB M.c E = false) : mayM M = false := by rw [← Bool.not_eq_true]; intro hm; have := mayM_es hm E hE; rw [h] at this; cases this

/-- A row of one element again and again, cell by cell. -/
theorem rowC_rep_get {α : Type} {f : α → List Value} {k : Nat} (hk : ∀ x, (f x).length = k) (x : α) : ∀ (n p : Nat), p < n * k → (rowC f (List.replicate n x))[p]? = (f x)[p % k]?
  | 0, p, h => by simp at h
  | n + 1, p, h => by
    simp only [List.replicate_succ, rowC]
    by_cases hp : p < k
    · rw [List.getElem?_append_left (by rw [hk]; exact hp), Nat.mod_eq_of_lt hp]
    · rw [List.getElem?_append_right (by rw [hk]; omega), hk, rowC_rep_get hk x n (p - k) (by rw [Nat.succ_mul] at h; omega), Nat.mod_eq_sub_mod (by omega : p ≥ k)]
/-- A make of n events. -/
theorem run_make_evs (w : World) (base n : Nat) (hn : n ≤ 2000) (hb : base ≤ w.heap.size) :
    ∃ w', (Instr.makeSlice 27 (.int .i64 (n : Int)) (.int .i64 (n : Int))).run Tryz.prog w = .ok (.slice (some ⟨w.heap.size, 0, none⟩) n n) w' ∧ OwnE evK w' base (.slice (some ⟨w.heap.size, 0, none⟩) n n) (List.replicate n Ev.zero) ∧ Le w w' := by
  obtain ⟨z, hinfo, hzs⟩ := evIn.info
  have hz : z = .agg #[.int .i64 0, .bool false, .int .i64 0, .int .i64 0, .int .i64 0, .int .i64 0] := by
    have h2 : (Tryz.prog.info? 60).map (fun i => (i.zero, i.size, i.bytes)) = some (some (.agg #[.int .i64 0, .bool false, .int .i64 0, .int .i64 0, .int .i64 0, .int .i64 0]), 6, 48) := by kernel_rfl
    have h3 : (Tryz.prog.info? 60).map (fun i => (i.zero, i.size, i.bytes)) = some (some z, 6, 48) := hinfo
    rw [h2] at h3
    simp only [Option.some.injEq, Prod.mk.injEq] at h3
    exact h3.1.symm
  subst hz
  obtain ⟨i0, hi, hz0, hz1, hz2⟩ := info_parts hinfo
  obtain ⟨w', h1, h2, h3⟩ := run_make_full (P := Tryz.prog) w base 27 60 i0 _ 6 Tryz.underlying27 hi hz0 hz1 .i64 .i64 n (by rw [hz2]; show 48 * n ≤ _; omega) (by unfold maxLen; omega) hb
  refine ⟨w', h1, OwnE.of h2 (by simp) ?_, le_grown h3⟩
  refine List.ext_getElem? fun p => ?_
  by_cases hp : p < n * 6
  · rw [rowC_rep_get (k := 6) evK.len Ev.zero n p hp]
    have h6 : p % 6 < 6 := Nat.mod_lt _ (by decide)
    have h7 : (madeCells (Value.agg #[.int .i64 0, .bool false, .int .i64 0, .int .i64 0, .int .i64 0, .int .i64 0]).cells (n * 6)).toList[p]? = some ((#[.int .i64 0, .bool false, .int .i64 0, .int .i64 0, .int .i64 0, .int .i64 0] : Array Value)[p % 6]!) := by
      simp only [madeCells, Array.getElem?_toList, Array.getElem?_map, Array.getElem?_range, hp, if_true]
      rfl
    rw [h7]
    generalize p % 6 = q at h6
    rcases (by omega : q = 0 ∨ q = 1 ∨ q = 2 ∨ q = 3 ∨ q = 4 ∨ q = 5) with rfl | rfl | rfl | rfl | rfl | rfl <;> rfl
  · rw [List.getElem?_eq_none (by rw [Array.length_toList, size_madeCells]; omega), List.getElem?_eq_none (by rw [rowC_len (k := 6) evK.len, List.length_replicate]; omega)]

end Go.Proofs.YtibleipfablniaaGreat

/-
  PLAIN GROUND, NO WALK: an int and a mask, for every int. No condition.
-/
namespace Go.Proofs.YtibleipfablniaaGreat

theorem and1 (n : Int) : bits .and .i64 n 1 = n % 2 := by
  have h : (BitVec.ofInt 64 1).toNat = 2 ^ 1 - 1 := by decide
  have key : (BitVec.ofInt 64 n &&& BitVec.ofInt 64 1).toNat = (n % ((2 ^ 64 : Nat) : Int)).toNat % 2 ^ 1 := by
    rw [BitVec.toNat_and, BitVec.toNat_ofInt, h, Nat.and_two_pow_sub_one_eq_mod]
  show IntKind.i64.wrap ((BitVec.ofInt 64 n &&& BitVec.ofInt 64 1).toNat : Nat) = n % 2
  rw [key, IntKind.wrap_i64]
  omega

theorem and3 (n : Int) : bits .and .i64 n 3 = n % 4 := by
  have h : (BitVec.ofInt 64 3).toNat = 2 ^ 2 - 1 := by decide
  have key : (BitVec.ofInt 64 n &&& BitVec.ofInt 64 3).toNat = (n % ((2 ^ 64 : Nat) : Int)).toNat % 2 ^ 2 := by
    rw [BitVec.toNat_and, BitVec.toNat_ofInt, h, Nat.and_two_pow_sub_one_eq_mod]
  show IntKind.i64.wrap ((BitVec.ofInt 64 n &&& BitVec.ofInt 64 3).toNat : Nat) = n % 4
  rw [key, IntKind.wrap_i64]
  omega

theorem and7 (n : Int) : bits .and .i64 n 7 = n % 8 := by
  have h : (BitVec.ofInt 64 7).toNat = 2 ^ 3 - 1 := by decide
  have key : (BitVec.ofInt 64 n &&& BitVec.ofInt 64 7).toNat = (n % ((2 ^ 64 : Nat) : Int)).toNat % 2 ^ 3 := by
    rw [BitVec.toNat_and, BitVec.toNat_ofInt, h, Nat.and_two_pow_sub_one_eq_mod]
  show IntKind.i64.wrap ((BitVec.ofInt 64 n &&& BitVec.ofInt 64 7).toNat : Nat) = n % 8
  rw [key, IntKind.wrap_i64]
  omega

theorem and255 (n : Int) : bits .and .i64 n 255 = n % 256 := by
  have h : (BitVec.ofInt 64 255).toNat = 2 ^ 8 - 1 := by decide
  have key : (BitVec.ofInt 64 n &&& BitVec.ofInt 64 255).toNat = (n % ((2 ^ 64 : Nat) : Int)).toNat % 2 ^ 8 := by
    rw [BitVec.toNat_and, BitVec.toNat_ofInt, h, Nat.and_two_pow_sub_one_eq_mod]
  show IntKind.i64.wrap ((BitVec.ofInt 64 n &&& BitVec.ofInt 64 255).toNat : Nat) = n % 256
  rw [key, IntKind.wrap_i64]
  omega

theorem and1023 (n : Int) : bits .and .i64 n 1023 = n % 1024 := by
  have h : (BitVec.ofInt 64 1023).toNat = 2 ^ 10 - 1 := by decide
  have key : (BitVec.ofInt 64 n &&& BitVec.ofInt 64 1023).toNat = (n % ((2 ^ 64 : Nat) : Int)).toNat % 2 ^ 10 := by
    rw [BitVec.toNat_and, BitVec.toNat_ofInt, h, Nat.and_two_pow_sub_one_eq_mod]
  show IntKind.i64.wrap ((BitVec.ofInt 64 n &&& BitVec.ofInt 64 1023).toNat : Nat) = n % 1024
  rw [key, IntKind.wrap_i64]
  omega

theorem and65535 (n : Int) : bits .and .i64 n 65535 = n % 65536 := by
  have h : (BitVec.ofInt 64 65535).toNat = 2 ^ 16 - 1 := by decide
  have key : (BitVec.ofInt 64 n &&& BitVec.ofInt 64 65535).toNat = (n % ((2 ^ 64 : Nat) : Int)).toNat % 2 ^ 16 := by
    rw [BitVec.toNat_and, BitVec.toNat_ofInt, h, Nat.and_two_pow_sub_one_eq_mod]
  show IntKind.i64.wrap ((BitVec.ofInt 64 n &&& BitVec.ofInt 64 65535).toNat : Nat) = n % 65536
  rw [key, IntKind.wrap_i64]
  omega

end Go.Proofs.YtibleipfablniaaGreat

/-
  THE WALK over choruslaw14.good: a machine under way: four calls, twenty picks. No condition.
-/
namespace Go.Proofs.YtibleipfablniaaGreat
open Go.RowKit

theorem refNewG {c : Cfg} {M : Mc} {er : Int} (h : newM c = (M, er)) (w : World) : Calls Tryz.prog 7 #[cfgV c.o c.r c.l c.t c.s] w fun e w' => ∃ c' qR qP qT qH, e = .returned (.tuple #[machV c' qR qP qT qH, .int .i64 er]) ∧ OwnM w' w.heap.size (machV c' qR qP qT qH) M ∧ Le w w' := by
  have := refNew c w
  rw [h] at this
  refine this.mono ?_
  rintro e w' ⟨v', rfl, o, l⟩
  obtain ⟨L, rfl, hM, o'⟩ := o
  exact ⟨_, _, _, _, _, rfl, ⟨L, rfl, hM, o'⟩, l⟩

set_option maxRecDepth 8000 in
set_option maxHeartbeats 8000000 in
theorem lawGood (w : World) : Calls Tryz.prog 14 #[] w fun e w' => ∃ v', e = .returned v' ∧ OwnA w' w.heap.size v' goodM ∧ Le w w' := by
  have m0 := fun w' => refNewG start_ok w'
  have hr := Box.new w cellsZ9 29
  have hl := Le.alloc w (.cells cellsZ9 29)
  go_enter Tryz.func14, Tryz.ntmps14
  go_upto_region 1 with fail
  generalize hW : w.alloc (.cells cellsZ9 29) = W at hl hr ⊢
  clear hW
  have hgr := hr.lt
  simp only at m0
  go_wp2_with fail
  refine (m0 _).mono ?_
  rintro e w1 ⟨c, uR, uP, uT, uH, rfl, own, l1⟩
  replace hr := hr.le l1
  replace own := own.base (base' := w.heap.size) hl.size
  replace hl := hl.trans l1
  clear m0 l1
  have hm := Box.new w1 (cells9 c uR uP uT uH) 29
  have a1 := Le.alloc w1 (.cells (cells9 c uR uP uT uH) 29)
  have hgr := hr.lt
  go_upto_region 2 with fail
  generalize hW : w1.alloc (.cells (cells9 c uR uP uT uH) 29) = W1 at hm a1 ⊢
  generalize w1.heap.size = gm at hm hgr ⊢
  clear hW
  replace own := own.le a1
  replace hr := hr.le a1
  replace hl := hl.trans a1
  clear a1
  have hne : w.heap.size ≠ gm := by omega
  have hgm : w.heap.size ≤ gm := by omega
  have HSZ : Hid (∀ w', Le w w' → w.heap.size ≤ w'.heap.size) := fun w' l => l.size
  go_wp2_with fail
  go_loopw [3] (fun i wr => ∃ (k : Nat) (c : Cfg) (uR uP uT uH : Sl), k ≤ 4 ∧ i = .int .i64 k ∧ Hid (Box wr gm (cells9 c uR uP uT uH) 29 ∧ OwnM wr w.heap.size (machV c uR uP uT uH) (callsT k) ∧ Box wr w.heap.size cellsZ9 29 ∧ Le w wr)) (fun i _ => 4 - (intOf i).toNat)
  case atStart => exact ⟨0, c, uR, uP, uT, uH, by omega, rfl, hm, own, hr, hl⟩
  case round =>
    clear hm own hr hl
    obtain ⟨k, c, uR, uP, uT, uH, hk, rfl, HI⟩ := hrel
    obtain ⟨hm, own, hr, hle⟩ := HI.out
    clear HI
    by_cases hlt : k < 4
    · have hlt' : (k : Int) < 4 := by omega
      have m1 := rmCallT _ (callsT k) k wr own.has (calls_ok k hlt)
      obtain ⟨⟨z0, z1, z2, z3, z4⟩, z5, z6, z7, z8⟩ := (hm).mach
      go_wp2_with fail
      refine m1.mono ?_
      rintro e w9 ⟨_, rfl, ⟨⟨c', vR, vP, vT, vH, xR, xP, xT, xH⟩, rfl, HM, o1, ap⟩, l1⟩
      clear z0 z1 z2 z3 z4 z5 z6 z7 z8
      have hwz : w.heap.size ≤ wr.heap.size := hle.size
      clear m1 own ap
      replace hm := hm.le l1
      replace hr := hr.le l1
      replace hle := hle.trans l1
      obtain ⟨⟨z0, z1, z2, z3, z4⟩, z5, z6, z7, z8⟩ := (hm).mach
      have f0 := (hm).frozen 0
      have f1 := (hm).frozen 1
      have f2 := (hm).frozen 2
      have f3 := (hm).frozen 3
      have f4 := (hm).frozen 4
      have f5 := (hm).frozen 5
      have f6 := (hm).frozen 6
      have f7 := (hm).frozen 7
      have f8 := (hm).frozen 8
      have hm2 := hm.put9 rfl c' vR vP vT vH
      have hr2 := hr.off9 hne c' vR vP vT vH
      have hl2 := hle.put9 hgm c' vR vP vT vH
      have o2 := ((o1.base hwz).put9 hm c' vR vP vT vH)
      go_wp2_with fail
      go_roundw
      case rel => exact ⟨k + 1, c', vR, vP, vT, vH, by omega, by go_num, hm2, ⟨⟨c', vR, vP, vT, vH, xR, xP, xT, xH⟩, rfl, HM.symm, o2⟩, hr2, hl2⟩
      case measure => simp [intOf]; omega
    · have HK4 : Hid (k = 4) := by show k = 4; omega
      have hge : (4 : Int) ≤ (k : Int) := by omega
      have hown : OwnM wr w.heap.size (machV c uR uP uT uH) (picksT 0) := by have := own; rw [HK4.out] at this; exact this
      clear own hlt
      go_wp2_with fail
      go_loopw [4] (fun i wr => ∃ (k : Nat) (c : Cfg) (uR uP uT uH : Sl), k ≤ 20 ∧ i = .int .i64 k ∧ Hid (Box wr gm (cells9 c uR uP uT uH) 29 ∧ OwnM wr w.heap.size (machV c uR uP uT uH) (picksT k) ∧ Box wr w.heap.size cellsZ9 29 ∧ Le w wr ∧ (0 < k → OwnA wr w.heap.size (machV c uR uP uT uH) (picksT k)))) (fun i _ => 20 - (intOf i).toNat)
      case atStart => exact ⟨0, c, uR, uP, uT, uH, by omega, rfl, hm, hown, hr, hle, fun h => by omega⟩
      case round =>
        clear hm hown hr hle hk
        obtain ⟨k, c, uR, uP, uT, uH, hk, rfl, HI⟩ := hrel
        obtain ⟨hm, own, hr, hle, hA⟩ := HI.out
        clear HI
        by_cases hlt : k < 20
        · have hlt' : (k : Int) < 20 := by omega
          have m1 := rmPickOk _ (picksT k) ((k % 4 : Nat) : Int) wr own.has (picks_ok k hlt)
          have hand : bits .and .i64 (k : Int) 3 = ((k % 4 : Nat) : Int) := by rw [and3]; omega
          obtain ⟨⟨z0, z1, z2, z3, z4⟩, z5, z6, z7, z8⟩ := (hm).mach
          go_wp2_with fail
          refine m1.mono ?_
          rintro e w9 ⟨_, rfl, ⟨⟨c', vR, vP, vT, vH, xR, xP, xT, xH⟩, rfl, HM, o1, ap⟩, l1⟩
          clear z0 z1 z2 z3 z4 z5 z6 z7 z8
          have hwz : w.heap.size ≤ wr.heap.size := hle.size
          clear m1 own hA hand
          replace hm := hm.le l1
          replace hr := hr.le l1
          replace hle := hle.trans l1
          obtain ⟨⟨z0, z1, z2, z3, z4⟩, z5, z6, z7, z8⟩ := (hm).mach
          have f0 := (hm).frozen 0
          have f1 := (hm).frozen 1
          have f2 := (hm).frozen 2
          have f3 := (hm).frozen 3
          have f4 := (hm).frozen 4
          have f5 := (hm).frozen 5
          have f6 := (hm).frozen 6
          have f7 := (hm).frozen 7
          have f8 := (hm).frozen 8
          have hm2 := hm.put9 rfl c' vR vP vT vH
          have hr2 := hr.off9 hne c' vR vP vT vH
          have hl2 := hle.put9 hgm c' vR vP vT vH
          have o2 := ((o1.base hwz).put9 hm c' vR vP vT vH)
          go_wp2_with fail
          go_roundw
          case rel => exact ⟨k + 1, c', vR, vP, vT, vH, by omega, by go_num, hm2, ⟨⟨c', vR, vP, vT, vH, xR, xP, xT, xH⟩, rfl, HM.symm, o2⟩, hr2, hl2, fun _ => ⟨⟨c', vR, vP, vT, vH, xR, xP, xT, xH⟩, rfl, HM, o2, ap⟩⟩
          case measure => simp [intOf]; omega
        · obtain rfl : 20 = k := by omega
          obtain ⟨⟨y0, y1, y2, y3, y4⟩, y5, y6, y7, y8⟩ := (hm).mach
          have r0 := (hr).cell 0
          have r1 := (hr).cell 1
          have r2 := (hr).cell 2
          have r3 := (hr).cell 3
          have r4 := (hr).cell 4
          have r5 := (hr).cell 5
          have r6 := (hr).cell 6
          have r7 := (hr).cell 7
          have r8 := (hr).cell 8
          simp only [List.getElem?_toArray, List.getElem?_cons_succ, List.getElem?_cons_zero] at r0 r1 r2 r3 r4 r5 r6 r7 r8
          have k0 := (hr).frozen 0
          have k1 := (hr).frozen 1
          have k2 := (hr).frozen 2
          have k3 := (hr).frozen 3
          have k4 := (hr).frozen 4
          have k5 := (hr).frozen 5
          have k6 := (hr).frozen 6
          have k7 := (hr).frozen 7
          have k8 := (hr).frozen 8
          go_wp2_with fail
          refine bodyPost_ret (v := machV c uR uP uT uH) (by simp [results, Tryz.results14, go_sem, r0, r1, r2, r3, r4, r5, r6, r7, r8]) rfl ⟨_, rfl, ?_, hle.put9 (g := w.heap.size) (Nat.le_refl _) c uR uP uT uH⟩
          obtain ⟨L, hv, hM, o, ap⟩ := hA (by omega)
          exact ⟨L, hv, hM, o.put9 hr c uR uP uT uH, ap⟩

end Go.Proofs.YtibleipfablniaaGreat

/-
  THE WALKS over choruslaw0's CopyState and SpoilState: what each does, for every state. Condition: where memory is made, the rows' bytes are within the reach that every row bears.
-/
namespace Go.Proofs.YtibleipfablniaaGreat
open Go.RowKit

set_option maxHeartbeats 400000 in
theorem lawCopyState (v : Value) (s : St) (w : World) (hx : HasS w v s) (hf : Fit s) :
    Calls Tryz.prog 16 #[v] w fun e w' => ∃ v', e = .returned v' ∧ OwnS w' w.heap.size v' s ∧ Le w w' := by
  obtain ⟨vs, rfl, hr⟩ := hx
  go_enter Tryz.func16, Tryz.ntmps16
  go_wp2
  go_loopw [4] (fun i wr => ∃ (k : Nat) (us : Nat → Sl), k ≤ 4 ∧ i = .int .i64 k ∧ Cp w s vs wr k us) (fun i _ => 4 - (intOf i).toNat)
  case atStart => exact ⟨0, _, by omega, rfl, Cp.start w s vs⟩
  case round =>
    obtain ⟨k, us, hk, rfl, hcp⟩ := hrel
    by_cases hlt : k < 4
    · have c1 : (wr.alloc (.cells #[] 3)).cell? ⟨w.heap.size, k, none⟩ = some (slV (vs k)) := ((hcp.given.le (Le.alloc wr _)).cell k).trans (cells4_at vs hlt)
      have hw1 : Has (wr.alloc (.cells #[] 3)) (slV (vs k)) (s.at k) := (hr k hlt).le (hcp.le.trans (Le.alloc wr _))
      have hn1 : Own (wr.alloc (.cells #[] 3)) wr.heap.size (.slice (some ⟨wr.heap.size, 0, none⟩) 0 0) [] := Own.lit wr _ (Nat.le_refl _) [] (by decide)
      have hfk := hf k hlt
      have hrow : ∀ g, (Value.slice (some ⟨wr.heap.size, 0, none⟩) 0 0).ownBlock = some g → wr.heap.size ≤ g := by intro g hg; cases hg; exact Nat.le_refl _
      go_wp2_with (at_builtin; refine wp_append_ints rfl _ _ rfl wr.heap.size _ _ [] (s.at k) rfl rfl hn1 hw1 (by simp; omega) (by simp) ?_; intro v' w2 hown hgrow; rw [List.nil_append] at hown; have l2 : Le wr w2 := Below.grown (Le.alloc wr _) hgrow (by simp) hrow; have c3 := (hcp.filled.le l2).cell k; rw [cells4_at us hlt] at c3; have f3 := (hcp.filled.le l2).frozen k; obtain ⟨q, rfl⟩ := hown.has.sl)
      go_roundw
      case rel => exact ⟨k + 1, _, by omega, by go_num, hcp.next hlt (Le.alloc wr _) hgrow hrow hown⟩
      case measure => simp [intOf]; omega
    · obtain rfl : k = 4 := by omega
      obtain ⟨p0, p1, p2, p3, _, _, _, _⟩ := hcp.filled.st
      obtain ⟨b0, b1, b2, b3, f0, f1, f2, f3⟩ := hcp.result.st
      go_wp2
      refine bodyPost_ret (v := stV us) (by simp [results, Tryz.results16, go_sem, b0, b1, b2, b3]) rfl ⟨_, rfl, ⟨us, rfl, fun i hi => ?_⟩, ?_⟩
      · exact ((((hcp.rows i hi).setBox hcp.result (by decide)).setBox (hcp.result.set _ _) (by decide)).setBox ((hcp.result.set _ _).set _ _) (by decide)).setBox (((hcp.result.set _ _).set _ _).set _ _) (by decide)
      · exact (((Below.setCell hcp.le (by show w.heap.size ≤ w.heap.size + 1; omega) _).setCell (by show w.heap.size ≤ w.heap.size + 1; omega) _).setCell (by show w.heap.size ≤ w.heap.size + 1; omega) _).setCell (by show w.heap.size ≤ w.heap.size + 1; omega) _

set_option maxHeartbeats 400000 in
theorem lawSpoilState (v : Value) (base : Nat) (w : World) (hx : IntsS w base v) (hbase : base ≤ w.heap.size) :
    Calls Tryz.prog 41 #[v] w fun e w' => e = .returned (.tuple #[]) ∧ Spoilt base w w' := by
  obtain ⟨vs, rfl, hr⟩ := hx
  have hb1 := Box.new w (cells4 vs) 54
  have hs1 : Spoilt base w (w.alloc (.cells (cells4 vs) 54)) := Spoilt.le hbase (Le.alloc _ _)
  go_enter Tryz.func41, Tryz.ntmps41
  go_wp2
  go_loopw [2] (fun i wr => ∃ k : Nat, k ≤ 4 ∧ i = .int .i64 k ∧ Spoilt base (w.alloc (.cells (cells4 vs) 54)) wr) (fun i _ => 4 - (intOf i).toNat)
  case atStart => exact ⟨0, by omega, rfl, Spoilt.refl _ _⟩
  case round =>
    obtain ⟨k, hk, rfl, hsp⟩ := hrel
    by_cases hlt : k < 4
    · have hi := (hr k hlt).spoilt (hs1.trans hsp)
      have c1 : wr.cell? ⟨w.heap.size, k, none⟩ = some (slV (vs k)) := hsp.rest _ _ ((hb1.cell k).trans (cells4_at vs hlt)) (fun x h => by cases h)
      go_wp2_with (go_at_call 42; refine (lawSpoil _ base _ hi).mono ?_; rintro e w1 ⟨rfl, s1⟩; clear hi c1)
      go_roundw
      case rel => exact ⟨k + 1, by omega, by go_num, hsp.trans s1⟩
      case measure => simp [intOf]; omega
    · obtain rfl : k = 4 := by omega
      go_wp2
      go_end0
      exact ⟨rfl, hs1.trans hsp⟩

end Go.Proofs.YtibleipfablniaaGreat

/-
  THE WALK over a machine's copy: the same machine, in memory of the call's own, each row in a block of its own. Condition: that its rows can be copied.
-/
namespace Go.Proofs.YtibleipfablniaaGreat
open Go.RowKit

set_option maxRecDepth 8000 in
set_option maxHeartbeats 16000000 in
theorem lawCopyMachine (v : Value) (M : Mc) (w : World) (hx : HasM w v M) (hf : FitM M) :
    Calls Tryz.prog 5 #[v] w fun e w' => ∃ L : Lay, e = .returned L.v ∧ L.M = M ∧ OwnsM w' w.heap.size L ∧ ApartM L ∧ Le w w' := by
  obtain ⟨c, Rs, Ps, Ts, Es⟩ := M
  obtain ⟨⟨aR, nR, cR⟩, ⟨aP, nP, cP⟩, ⟨aT, nT, cT⟩, qH, rfl, hR, hP, hT, hH⟩ := hx
  obtain ⟨f1, f2, f3, f4, fr, fp, ft⟩ := hf
  simp only at hR hP hT hH f1 f2 f3 f4 fr fp ft
  obtain ⟨a, n, hv, nc, _, oR⟩ := hR.open
  simp only [slV, Value.slice.injEq] at hv
  obtain ⟨rfl, rfl, rfl⟩ := hv
  obtain ⟨a, n, hv, pc, _, oP⟩ := hP.open
  simp only [slV, Value.slice.injEq] at hv
  obtain ⟨rfl, rfl, rfl⟩ := hv
  obtain ⟨a, n, hv, tc, _, oT⟩ := hT.open
  simp only [slV, Value.slice.injEq] at hv
  obtain ⟨rfl, rfl, rfl⟩ := hv
  clear hR hP hT
  obtain ⟨nR, hnR⟩ : ∃ n, n = Rs.length := ⟨_, rfl⟩
  obtain ⟨nP, hnP⟩ : ∃ n, n = Ps.length := ⟨_, rfl⟩
  obtain ⟨nT, hnT⟩ : ∃ n, n = Ts.length := ⟨_, rfl⟩
  have HR : Hid (nR = Rs.length) := hnR
  have HP : Hid (nP = Ps.length) := hnP
  have HT : Hid (nT = Ts.length) := hnT
  rw [← hnR] at nc oR f1 ⊢
  rw [← hnP] at pc oP f2 ⊢
  rw [← hnT] at tc oT f3 ⊢
  clear hnR hnP hnT
  have hl := (Le.alloc w (.cells (cells9 c (aR, nR, cR) (aP, nP, cP) (aT, nT, cT) qH) 29)).trans (Le.alloc _ (.cells cellsZ9 29))
  have hb1 := (Box.new w (cells9 c (aR, nR, cR) (aP, nP, cP) (aT, nT, cT) qH) 29).le (Le.alloc _ (.cells cellsZ9 29))
  have hb2 := Box.new (w.alloc (.cells (cells9 c (aR, nR, cR) (aP, nP, cP) (aT, nT, cT) qH) 29)) cellsZ9 29
  have hWs : ((w.alloc (.cells (cells9 c (aR, nR, cR) (aP, nP, cP) (aT, nT, cT) qH) 29)).alloc (.cells cellsZ9 29)).heap.size = w.heap.size + 2 := by simp
  rw [World.size_alloc] at hb2
  go_enter Tryz.func5, Tryz.ntmps5
  go_upto_region 1 with fail
  generalize hW : (w.alloc (.cells (cells9 c (aR, nR, cR) (aP, nP, cP) (aT, nT, cT) qH) 29)).alloc (.cells cellsZ9 29) = W at hl hb1 hb2 hWs ⊢
  clear hW
  go_cut [3] from 9 (fun s3 wc => ∃ g q, s3 = .pointer (some ⟨g, 0, none⟩) ∧ CpI True w (cells9 c (aR, nR, cR) (aP, nP, cP) (aT, nT, cT) qH) 29 c g wc ⟨c, slZ, slZ, slZ, q, [], [], [], Es⟩)
  case first =>
    refine wp_region_any (by kernel_rfl) ?_
    obtain ⟨⟨z0, z1, z2, z3, z4⟩, z5, z6, z7, z8⟩ := hb1.mach
    have hH' := hH.le hl
    refine wpAny_grow [] [0, 1, 2, 3, 4, 5, 6, 7] [8] (by decide) (by kernel_rfl) Le (Le.refl _) (fun _ _ _ => Le.trans)
      (fun vs i x => match i with
        | 0 => vs 0 = .pointer (some ⟨w.heap.size, 0, none⟩)
        | 1 => vs 1 = cfgV c.o c.r c.l c.t c.s
        | 2 => ∃ b, vs 2 = .slice (some ⟨b, 0, none⟩) 0 0 ∧ OwnE evK x (w.heap.size + 2) (.slice (some ⟨b, 0, none⟩) 0 0) []
        | 3 => vs 3 = .pointer (some ⟨w.heap.size, 8, none⟩)
        | 4 => vs 4 = slV qH
        | 5 => ∃ q, vs 5 = slV q ∧ OwnE evK x (w.heap.size + 2) (slV q) Es
        | 6 => ∃ q, vs 6 = machV c slZ slZ slZ q ∧ OwnE evK x (w.heap.size + 2) (slV q) Es
        | _ => ∃ g, vs 7 = .pointer (some ⟨g, 0, none⟩) ∧ w.heap.size + 2 ≤ g ∧ Box x g cellsZ9 29) ?_ ?_ (by decide) ?_ ?_
    · intro vs i x y hi _ h hxy
      simp only [List.mem_cons, List.not_mem_nil, or_false] at hi
      rcases hi with rfl | rfl | rfl | rfl | rfl | rfl | rfl | rfl
      · exact h
      · exact h
      · obtain ⟨b, e, o⟩ := h; exact ⟨b, e, o.le hxy⟩
      · exact h
      · exact h
      · obtain ⟨b, e, o⟩ := h; exact ⟨b, e, o.le hxy⟩
      · obtain ⟨b, e, o⟩ := h; exact ⟨b, e, o.le hxy⟩
      · obtain ⟨b, e, o, o'⟩ := h; exact ⟨b, e, o, o'.le hxy⟩
    · intro vs vs' i o x hi _ hk h
      have e := hk i (.inl rfl)
      simp only [List.mem_cons, List.not_mem_nil, or_false] at hi
      rcases hi with rfl | rfl | rfl | rfl | rfl | rfl | rfl | rfl
      all_goals
        simp only at h ⊢
        rw [← e]
        exact h
    · intro i o hi ho vs x hx hd
      have hx0 := (Le.drew W).trans hx
      simp only [List.mem_cons, List.not_mem_nil, or_false] at hi
      generalize hρ : (putH _ _ _ vs).eval = ρ
      rcases hi with rfl | rfl | rfl | rfl | rfl | rfl | rfl | rfl
      · cases ho
        have r1 : ρ (.tmp 1) = .pointer (some ⟨w.heap.size, 0, none⟩) := by rw [← hρ]; kernel_rfl
        exact gives_value (w' := x) (v := .pointer (some ⟨w.heap.size, 0, none⟩)) (by simp [go_sem, r1]) ⟨Le.refl _, rfl⟩
      · cases ho
        have r1 : ρ (.tmp 9) = vs 0 := by rw [← hρ]; kernel_rfl
        have d := hd 0 (by decide) (by kernel_rfl)
        simp only at d
        rw [d] at r1
        have y0 := cell_le z0 hx0
        have y1 := cell_le z1 hx0
        have y2 := cell_le z2 hx0
        have y3 := cell_le z3 hx0
        have y4 := cell_le z4 hx0
        exact gives_value (w' := x) (v := cfgV c.o c.r c.l c.t c.s) (by simp [go_sem, r1, y0, y1, y2, y3, y4]) ⟨Le.refl _, rfl⟩
      · cases ho
        exact gives_value (w' := x.alloc (.cells #[] 60)) (v := .slice (some ⟨x.heap.size, 0, none⟩) 0 0) (by simp [go_sem]) ⟨Le.alloc _ _, x.heap.size, rfl, OwnE.lit0 evK x _ (by have := hx0.size; omega)⟩
      · cases ho
        have r1 : ρ (.tmp 1) = .pointer (some ⟨w.heap.size, 0, none⟩) := by rw [← hρ]; kernel_rfl
        exact gives_value (w' := x) (v := .pointer (some ⟨w.heap.size, 8, none⟩)) (by simp [go_sem, r1]) ⟨Le.refl _, rfl⟩
      · cases ho
        have r1 : ρ (.tmp 12) = vs 3 := by rw [← hρ]; kernel_rfl
        have d := hd 3 (by decide) (by kernel_rfl)
        simp only at d
        rw [d] at r1
        have y8 := cell_le z8 hx0
        exact gives_value (w' := x) (v := slV qH) (by simp [go_sem, r1, y8]) ⟨Le.refl _, rfl⟩
      · cases ho
        have r1 : ρ (.tmp 11) = vs 2 := by rw [← hρ]; kernel_rfl
        have r2 : ρ (.tmp 13) = vs 4 := by rw [← hρ]; kernel_rfl
        have hh := hd 2 (by decide) (by kernel_rfl)
        simp only at hh
        replace hh := hh.choose_spec
        generalize Exists.choose _ = b at hh
        have e2 := hh.1
        have o2 := hh.2
        have e4 := hd 4 (by decide) (by kernel_rfl)
        simp only at e4
        rw [e2] at r1
        rw [e4] at r2
        obtain ⟨q, x', hrun, o5, l5, _⟩ := run_append_empty evIn 27 x (w.heap.size + 2) b (slV qH) Es o2 (hH'.le hx0) (by show Es.length * 48 ≤ _; omega) (by omega) (by have := hx0.size; omega)
        exact gives_value (w' := x') (v := slV q) (by simp only [execOp, resolve, invoke, builtin, Sem.run_bind, Sem.run_pure, Result.andThen_ok, List.map_toArray, List.map_cons, List.map_nil, r1, r2, hrun]) ⟨l5, q, rfl, o5⟩
      · cases ho
        have r1 : ρ (.tmp 10) = vs 1 := by rw [← hρ]; kernel_rfl
        have r2 : ρ (.tmp 14) = vs 5 := by rw [← hρ]; kernel_rfl
        have e1 := hd 1 (by decide) (by kernel_rfl)
        have hh := hd 5 (by decide) (by kernel_rfl)
        simp only at hh
        replace hh := hh.choose_spec
        generalize Exists.choose _ = q at hh
        have e5 := hh.1
        have o5 := hh.2
        simp only at e1
        rw [e1] at r1
        rw [e5] at r2
        exact gives_value (w' := x) (v := machV c slZ slZ slZ q) (by simp [go_sem, r1, r2]) ⟨Le.refl _, q, rfl, o5⟩
      · cases ho
        exact gives_value (w' := x.alloc (.cells cellsZ9 29)) (v := .pointer (some ⟨x.heap.size, 0, none⟩)) (by simp [go_sem]) ⟨Le.alloc _ _, x.heap.size, rfl, by have := hx0.size; omega, Box.new _ _ _⟩
    · intro vs x hx hd o ho
      have hx0 := (Le.drew W).trans hx
      cases ho
      have hh := hd 6 (by decide)
      simp only at hh
      replace hh := hh.choose_spec
      generalize Exists.choose _ = q at hh
      have e6 := hh.1
      have o6 := hh.2
      have hh := hd 7 (by decide)
      simp only at hh
      replace hh := hh.choose_spec
      generalize Exists.choose _ = g at hh
      have e7 := hh.1
      have hg := hh.2.1
      have b7 := hh.2.2
      refine gives_wp (K := fun v w' => v = undef ∧ w' = put9 x g c slZ slZ slZ q) ?_ ?_
      · generalize hρ : (putH _ _ _ vs).eval = ρ
        have r1 : ρ (.tmp 3) = vs 7 := by rw [← hρ]; kernel_rfl
        have r2 : ρ (.tmp 15) = vs 6 := by rw [← hρ]; kernel_rfl
        rw [e7] at r1
        rw [e6] at r2
        have c0 := b7.cell 0
        have c1 := b7.cell 1
        have c2 := b7.cell 2
        have c3 := b7.cell 3
        have c4 := b7.cell 4
        have c5 := b7.cell 5
        have c6 := b7.cell 6
        have c7 := b7.cell 7
        have c8 := b7.cell 8
        simp only [List.getElem?_toArray, List.getElem?_cons_succ, List.getElem?_cons_zero] at c0 c1 c2 c3 c4 c5 c6 c7 c8
        have k0 := b7.frozen 0
        have k1 := b7.frozen 1
        have k2 := b7.frozen 2
        have k3 := b7.frozen 3
        have k4 := b7.frozen 4
        have k5 := b7.frozen 5
        have k6 := b7.frozen 6
        have k7 := b7.frozen 7
        have k8 := b7.frozen 8
        unfold gives
        simp [go_sem, r1, r2, c0, c1, c2, c3, c4, c5, c6, c7, c8, k0, k1, k2, k3, k4, k5, k6, k7, k8]
      · rintro _ _ ⟨rfl, rfl⟩
        simp only [wpSeq, putH, List.getElem?_cons_succ, List.getElem?_cons_zero, Option.bind_some, Act.put, List.setIfInBounds_toArray, List.set_cons_zero, List.set_cons_succ, e7]
        go_wp2_with fail
        go_meet
        case rel => exact ⟨g, q, rfl, CpI.start (hl.trans hx0) (hb1.le hx0) (hb2.le hx0) b7 hg o6⟩
  case rest =>
    obtain ⟨g, q0, rfl, I0⟩ := hcut
    clear hb1 hb2 hWs hl hH
    have z5 := I0.bp.mach.2.1
    simp only [slV] at z5
    go_wp2_with fail
    go_loopw [4] (fun i wr => ∃ (k : Nat) (L : Lay), k ≤ nR ∧ i = .int .i64 k ∧ CpI True w (cells9 c (aR, nR, cR) (aP, nP, cP) (aT, nT, cT) qH) 29 c g wr L ∧ Hid (L.c = c ∧ L.rs.map LR.R = Rs.take k ∧ L.ps = [] ∧ L.ts = [] ∧ L.es = Es)) (fun i _ => nR - (intOf i).toNat)
    case atStart => exact ⟨0, _, Nat.zero_le _, rfl, I0, rfl, rfl, rfl, rfl, rfl⟩
    case round =>
      obtain ⟨k, L, hk, rfl, I, HL⟩ := hrel
      clear I0 z5
      have z5 := I.bp.mach.2.1
      simp only [slV] at z5
      by_cases hlt : k < nR
      · obtain ⟨b, off, rfl, oRk⟩ := oR (by omega)
        obtain ⟨q, rA, hq⟩ := oRk k hlt
        obtain ⟨R, hRk⟩ : ∃ R, R = Rs.getD k Rg.zero := ⟨_, rfl⟩
        have HX : Hid (R = Rs.getD k Rg.zero) := hRk
        rw [← hRk] at rA hq
        have hfR : FitR R := by rw [hRk]; exact fr _ (getD_mem (by have := HR.out; omega))
        have hlt' : (k : Int) < (nR : Int) := by omega
        have hk0 : (0 : Int) ≤ (k : Int) := by omega
        clear hRk oRk oR oP oT fr fp ft
        replace hq := hq.le I.le
        obtain ⟨x0, x1, x2, x3⟩ := rA.le I.le
        have y5 := I.bo.mach.2.1
        have hLn : L.rs.length = k := by
          have := congrArg List.length HL.out.2.1
          have := HR.out
          simp at *
          omega
        have HLn : Hid (L.rs.length = k) := hLn
        clear rA hLn
        go_upto_region 5 with fail
        refine wp_region_any (by kernel_rfl) ?_
        refine wpAny_grow [] [0, 1, 2, 3, 4, 5, 6, 7, 8] [9, 10, 11] (by decide) (by kernel_rfl) Le (Le.refl _) (fun _ _ _ => Le.trans)
          (fun vs i x => match i with
            | 0 => vs 0 = .pointer (some ⟨g, 5, none⟩)
            | 1 => vs 1 = slV L.qR
            | 2 => vs 2 = .pointer (some ⟨w.heap.size, 5, none⟩)
            | 3 => vs 3 = .slice (some ⟨b, off, none⟩) nR cR
            | 4 => vs 4 = .int .i64 k
            | 5 => vs 5 = .pointer (some ⟨b, off + k * 4, none⟩)
            | 6 => vs 6 = ringV R.h R.t R.f q
            | 7 => ∃ u, vs 7 = ringV R.h R.t R.f u ∧ OwnL x wr.heap.size (slV u) R.ss
            | _ => ∃ u, OwnE ringK x wr.heap.size (vs 8) [⟨R, u⟩] ∧ OwnL x wr.heap.size (slV u) R.ss) ?_ ?_ (by decide) ?_ ?_
        · intro vs i x y hi _ h hxy
          simp only [List.mem_cons, List.not_mem_nil, or_false] at hi
          rcases hi with rfl | rfl | rfl | rfl | rfl | rfl | rfl | rfl | rfl
          iterate 7
            · exact h
          · obtain ⟨u, e, o⟩ := h; exact ⟨u, e, o.le hxy⟩
          · obtain ⟨u, o, o'⟩ := h; exact ⟨u, o.le hxy, o'.le hxy⟩
        · intro vs vs' i o x hi _ hk h
          have e := hk i (.inl rfl)
          simp only [List.mem_cons, List.not_mem_nil, or_false] at hi
          rcases hi with rfl | rfl | rfl | rfl | rfl | rfl | rfl | rfl | rfl
          all_goals
            simp only at h ⊢
            rw [← e]
            exact h
        · intro i o hi ho vs x hx hd
          have hx0 := (Le.drew wr).trans hx
          simp only [List.mem_cons, List.not_mem_nil, or_false] at hi
          generalize hρ : (putH _ _ _ vs).eval = ρ
          rcases hi with rfl | rfl | rfl | rfl | rfl | rfl | rfl | rfl | rfl
          · cases ho
            have r1 : ρ (.tmp 3) = .pointer (some ⟨g, 0, none⟩) := by rw [← hρ]; kernel_rfl
            exact gives_value (w' := x) (v := .pointer (some ⟨g, 5, none⟩)) (by simp [go_sem, r1]) ⟨Le.refl _, rfl⟩
          · cases ho
            have r1 : ρ (.tmp 23) = vs 0 := by rw [← hρ]; kernel_rfl
            have d := hd 0 (by decide) (by kernel_rfl)
            simp only at d
            rw [d] at r1
            have t5 := cell_le y5 hx0
            exact gives_value (w' := x) (v := slV L.qR) (by simp [go_sem, r1, t5]) ⟨Le.refl _, rfl⟩
          · cases ho
            have r1 : ρ (.tmp 1) = .pointer (some ⟨w.heap.size, 0, none⟩) := by rw [← hρ]; kernel_rfl
            exact gives_value (w' := x) (v := .pointer (some ⟨w.heap.size, 5, none⟩)) (by simp [go_sem, r1]) ⟨Le.refl _, rfl⟩
          · cases ho
            have r1 : ρ (.tmp 25) = vs 2 := by rw [← hρ]; kernel_rfl
            have d := hd 2 (by decide) (by kernel_rfl)
            simp only at d
            rw [d] at r1
            have t5 := cell_le z5 hx0
            exact gives_value (w' := x) (v := .slice (some ⟨b, off, none⟩) nR cR) (by simp [go_sem, r1, t5]) ⟨Le.refl _, rfl⟩
          · cases ho
            have r1 : ρ (.tmp 4) = .int .i64 k := by rw [← hρ]; kernel_rfl
            exact gives_value (w' := x) (v := .int .i64 k) (by simp [go_sem, r1]) ⟨Le.refl _, rfl⟩
          · cases ho
            have r1 : ρ (.tmp 26) = vs 3 := by rw [← hρ]; kernel_rfl
            have r2 : ρ (.tmp 27) = vs 4 := by rw [← hρ]; kernel_rfl
            have d := hd 3 (by decide) (by kernel_rfl)
            have d2 := hd 4 (by decide) (by kernel_rfl)
            simp only at d d2
            rw [d] at r1
            rw [d2] at r2
            exact gives_value (w' := x) (v := .pointer (some ⟨b, off + k * 4, none⟩)) (by simp [go_sem, r1, r2, hlt', hk0]) ⟨Le.refl _, rfl⟩
          · cases ho
            have r1 : ρ (.tmp 28) = vs 5 := by rw [← hρ]; kernel_rfl
            have d := hd 5 (by decide) (by kernel_rfl)
            simp only at d
            rw [d] at r1
            have t0 := cell_le x0 hx0
            have t1 := cell_le x1 hx0
            have t2 := cell_le x2 hx0
            have t3 := cell_le x3 hx0
            exact gives_value (w' := x) (v := ringV R.h R.t R.f q) (by simp [go_sem, r1, t0, t1, t2, t3]) ⟨Le.refl _, rfl⟩
          · cases ho
            have r1 : ρ (.tmp 29) = vs 6 := by rw [← hρ]; kernel_rfl
            have d := hd 6 (by decide) (by kernel_rfl)
            simp only at d
            rw [d] at r1
            have rf : ρ (.func 15) = .func (.func 15) #[] #[] := by rw [← hρ]; kernel_rfl
            have hcall := lawCopyRing R.h R.t R.f q R.ss x (hq.le hx0) hfR
            refine gives_call (f := 15) (args := #[ringV R.h R.t R.f q]) (by simp [go_sem, r1, rf]) (hcall.mono ?_)
            rintro e x' ⟨u, rfl, ou, lu⟩
            exact ⟨_, rfl, lu, u, rfl, ou.base hx0.size⟩
          · cases ho
            have r1 : ρ (.tmp 30) = vs 7 := by rw [← hρ]; kernel_rfl
            have hh := hd 7 (by decide) (by kernel_rfl)
            simp only at hh
            replace hh := hh.choose_spec
            generalize Exists.choose _ = u at hh
            rw [hh.1] at r1
            have o7 := hh.2
            have hlit := OwnE.lit ringK x wr.heap.size hx0.size [⟨R, u⟩] (by simp)
            exact gives_value (w' := x.alloc (.cells #[.int .i64 R.h, .int .i64 R.t, .int .i64 R.f, slV u] 46)) (v := .slice (some ⟨x.heap.size, 0, none⟩) 1 1) (by simp [go_sem, r1]) ⟨Le.alloc _ _, u, hlit, o7.le (Le.alloc _ _)⟩
        · intro vs x hx hd
          have hx0 := (Le.drew wr).trans hx
          have e1 := hd 1 (by decide)
          simp only at e1
          have hh := hd 8 (by decide)
          simp only at hh
          replace hh := hh.choose_spec
          generalize Exists.choose _ = u at hh
          have o8 := hh.1
          have o7 := hh.2
          have hrun := run_append_E ringIn 24 x w.heap.size (slV L.qR) (vs 8) L.rs [⟨R, u⟩] (I.own.oR.le hx0) o8.has (by simp) (by have := HLn.out; show (L.rs.length + 1) * 48 ≤ _; omega) (by have := HLn.out; show L.rs.length + 1 ≤ _; omega) (I.le.trans hx0).size
          replace hrun := hrun.choose_spec
          generalize Exists.choose _ = q' at hrun
          replace hrun := hrun.choose_spec
          generalize Exists.choose _ = x2 at hrun
          have hrn := hrun.1
          have IN := I.ring (by decide) hx0 (x := ⟨R, u⟩) o7 hrun.2.1 hrun.2.2
          have bo2 : x2.cell? ⟨g, 5, none⟩ = some (slV L.qR) ∧ x2.frozen? ⟨g, 5, none⟩ = false := by
            have hb := (I.bo.le hx0).grown hrun.2.2 ((I.own.oR.le hx0).apart (I.bo.le hx0) (by decide))
            exact ⟨hb.cell 5, hb.frozen 5⟩
          have c5 := bo2.1
          have k5 := bo2.2
          generalize hf0 : putH _ _ _ vs = fr0
          refine wpSeq_cons rfl ?_
          refine wp_value_at (v0 := slV q') (w0 := x2) ?_ ?_
          · have r1 : fr0.eval (.tmp 24) = vs 1 := by rw [← hf0]; kernel_rfl
            have r2 : fr0.eval (.tmp 31) = vs 8 := by rw [← hf0]; kernel_rfl
            rw [e1] at r1
            simp only [execOp, resolve, invoke, builtin, Sem.run_bind, Sem.run_pure, Result.andThen_ok, List.map_toArray, List.map_cons, List.map_nil, r1, r2, hrn]
          · generalize hf1 : Act.put fr0 _ _ = fr1
            refine wpSeq_cons rfl ?_
            refine wp_value_at (v0 := .pointer (some ⟨g, 5, none⟩)) (w0 := x2) ?_ ?_
            · generalize hρ : fr1.eval = ρ
              have r1 : ρ (.tmp 3) = .pointer (some ⟨g, 0, none⟩) := by rw [← hρ, ← hf1, ← hf0]; kernel_rfl
              simp [go_sem, r1]
            · generalize hf2 : Act.put fr1 _ _ = fr2
              refine wpSeq_cons rfl ?_
              refine wp_skip_at (w0 := x2.setCell ⟨g, 5, none⟩ (slV q')) ?_ ?_
              · generalize hρ : fr2.eval = ρ
                have r1 : ρ (.tmp 33) = .pointer (some ⟨g, 5, none⟩) := by rw [← hρ, ← hf2, ← hf1, ← hf0]; kernel_rfl
                have r2 : ρ (.tmp 32) = slV q' := by rw [← hρ, ← hf2, ← hf1, ← hf0]; kernel_rfl
                simp [go_sem, r1, r2, c5, k5]
              · subst hf2 hf1 hf0
                simp only [wpSeq, putH, List.getElem?_cons_succ, List.getElem?_cons_zero, Option.bind_some, Act.put, List.setIfInBounds_toArray, List.set_cons_zero, List.set_cons_succ]
                go_wp2_with fail
                go_roundw
                case rel => exact ⟨k + 1, _, by omega, by go_num, IN, HL.out.1, by rw [List.map_append, HL.out.2.1, List.take_succ_eq_append_getElem (by have := HR.out; omega)]; simp [HX.out, List.getD, show k < Rs.length by have := HR.out; omega], HL.out.2.2.1, HL.out.2.2.2.1, HL.out.2.2.2.2⟩
                case measure => simp [intOf]; omega
      · have HR2 : Hid (L.rs.map LR.R = Rs) := by
          have h := HL.out.2.1
          rw [List.take_of_length_le (by have := HR.out; omega)] at h
          exact h
        have z6 := I.bp.mach.2.2.1
        simp only [slV] at z6
        clear oR fr
        have HL0 : Hid (L.c = c ∧ L.ps.map LP.P = Ps.take 0 ∧ L.rs.map LR.R = Rs ∧ L.ts = [] ∧ L.es = Es) := ⟨HL.out.1, by rw [HL.out.2.2.1]; rfl, HR2.out, HL.out.2.2.2.1, HL.out.2.2.2.2⟩
        go_wp2_with fail
        go_loopw [5] (fun i wq => ∃ (k : Nat) (L : Lay), k ≤ nP ∧ i = .int .i64 k ∧ CpI True w (cells9 c (aR, nR, cR) (aP, nP, cP) (aT, nT, cT) qH) 29 c g wq L ∧ Hid (L.c = c ∧ L.ps.map LP.P = Ps.take k ∧ L.rs.map LR.R = Rs ∧ L.ts = [] ∧ L.es = Es)) (fun i _ => nP - (intOf i).toNat)
        case atStart => exact ⟨0, L, Nat.zero_le _, rfl, I, HL0⟩
        case round =>
          clear HL0 HL HR2 I z5 z6 hlt hk
          rename_i _ k0 L0 _ _
          obtain ⟨k, L, hk, rfl, I, HL⟩ := hrel
          have z6 := I.bp.mach.2.2.1
          simp only [slV] at z6
          by_cases hlt : k < nP
          · obtain ⟨b, off, rfl, oPk⟩ := oP (by omega)
            obtain ⟨rs0, qc, ql, rA, hq0, hq1, hq2⟩ := oPk k hlt
            obtain ⟨P, hPk⟩ : ∃ R, R = Ps.getD k Rp.zero := ⟨_, rfl⟩
            have HX : Hid (P = Ps.getD k Rp.zero) := hPk
            rw [← hPk] at hq0 hq1 hq2
            obtain ⟨g0, g1, g2⟩ : Fit P.s ∧ P.cs.length * 8 ≤ 140737488351232 ∧ P.ls.length * 8 ≤ 140737488351232 := by rw [hPk]; exact fp _ (getD_mem (by have := HP.out; omega))
            have hlt' : (k : Int) < (nP : Int) := by omega
            have hk0 : (0 : Int) ≤ (k : Int) := by omega
            clear hPk oPk oP oT fp ft
            obtain ⟨x0, x1, x2, x3, x4, x5⟩ := rA.le I.le
            have hLn : L.ps.length = k := by
              have := congrArg List.length HL.out.2.1
              have := HP.out
              simp at *
              omega
            have HLn : Hid (L.ps.length = k) := hLn
            have hA := Le.alloc wr (.cells (cellsP rs0 qc ql) 56)
            have hbx := Box.new wr (cellsP rs0 qc ql) 56
            have I1 := I.later hA
            clear rA hLn
            go_upto_region 10 with fail
            generalize hW2 : wr.alloc (.cells (cellsP rs0 qc ql) 56) = wq at hA hbx I1 ⊢
            clear hW2 x0 x1 x2 x3 x4 x5 z6 I
            generalize wr.heap.size = gx at hbx ⊢
            have HS : HasS wq (stV rs0) P.s := ⟨rs0, rfl, fun i hi => (hq0 i hi).le I1.le⟩
            replace hq1 := hq1.le I1.le
            replace hq2 := hq2.le I1.le
            have y6 := I1.bo.mach.2.2.1
            obtain ⟨t0, t1, t2, t3, t4, t5⟩ := hbx.rep
            clear hq0 hbx hA
            refine wp_region_any (by kernel_rfl) ?_
            refine wpAny_grow [] [0, 1, 2, 3, 4, 5, 6, 7, 8, 9, 10, 11, 12, 13, 14] [15, 16, 17] (by decide) (by kernel_rfl) Le (Le.refl _) (fun _ _ _ => Le.trans)
              (fun vs i x => match i with
                | 0 => vs 0 = .pointer (some ⟨g, 6, none⟩)
                | 1 => vs 1 = slV L.qP
                | 2 => vs 2 = .pointer (some ⟨gx, 0, none⟩)
                | 3 => vs 3 = stV rs0
                | 4 => ∃ us : Nat → Sl, vs 4 = stV us ∧ ∀ i, i < 4 → Own x wq.heap.size (slV (us i)) (P.s.at i)
                | 5 => ∃ b, vs 5 = .slice (some ⟨b, 0, none⟩) 0 0 ∧ Own x wq.heap.size (.slice (some ⟨b, 0, none⟩) 0 0) []
                | 6 => vs 6 = .pointer (some ⟨gx, 4, none⟩)
                | 7 => vs 7 = slV qc
                | 8 => ∃ q : Sl, vs 8 = slV q ∧ Own x wq.heap.size (slV q) P.cs ∧ (0 < P.cs.length → ∀ us : Nat → Sl, vs 4 = stV us → ∀ i, i < 4 → ∀ b, (slV q).ownBlock = some b → (slV (us i)).ownBlock ≠ some b)
                | 9 => ∃ b, vs 9 = .slice (some ⟨b, 0, none⟩) 0 0 ∧ Own x wq.heap.size (.slice (some ⟨b, 0, none⟩) 0 0) []
                | 10 => vs 10 = .pointer (some ⟨gx, 5, none⟩)
                | 11 => vs 11 = slV ql
                | 12 => ∃ q : Sl, vs 12 = slV q ∧ Own x wq.heap.size (slV q) P.ls ∧ (0 < P.ls.length → (∀ us : Nat → Sl, vs 4 = stV us → ∀ i, i < 4 → ∀ b, (slV q).ownBlock = some b → (slV (us i)).ownBlock ≠ some b) ∧ ∀ qa : Sl, vs 8 = slV qa → ∀ b, (slV q).ownBlock = some b → (slV qa).ownBlock ≠ some b)
                | 13 => ∃ (us : Nat → Sl) (qa qb : Sl), vs 13 = repV us qa qb ∧ RepOwn x wq.heap.size P us qa qb
                | _ => ∃ (us : Nat → Sl) (qa qb : Sl), OwnE repK x wq.heap.size (vs 14) [⟨P, us, qa, qb⟩] ∧ RepOwn x wq.heap.size P us qa qb) ?_ ?_ (by decide) ?_ ?_
            · intro vs i x y hi _ h hxy
              simp only [List.mem_cons, List.not_mem_nil, or_false] at hi
              rcases hi with rfl | rfl | rfl | rfl | rfl | rfl | rfl | rfl | rfl | rfl | rfl | rfl | rfl | rfl | rfl
              iterate 4
                · exact h
              · obtain ⟨u, e, o⟩ := h; exact ⟨u, e, fun i hi => (o i hi).le hxy⟩
              · obtain ⟨u, e, o⟩ := h; exact ⟨u, e, o.le hxy⟩
              iterate 2
                · exact h
              · obtain ⟨u, e, o, o'⟩ := h; exact ⟨u, e, o.le hxy, o'⟩
              · obtain ⟨u, e, o⟩ := h; exact ⟨u, e, o.le hxy⟩
              iterate 2
                · exact h
              · obtain ⟨u, e, o, o'⟩ := h; exact ⟨u, e, o.le hxy, o'⟩
              · obtain ⟨u, a, b, e, o⟩ := h; exact ⟨u, a, b, e, o.le hxy⟩
              · obtain ⟨u, a, b, o, o'⟩ := h; exact ⟨u, a, b, o.le hxy, o'.le hxy⟩
            · intro vs vs' i o x hi _ hk h
              have e := hk i (.inl rfl)
              simp only [List.mem_cons, List.not_mem_nil, or_false] at hi
              rcases hi with rfl | rfl | rfl | rfl | rfl | rfl | rfl | rfl | rfl | rfl | rfl | rfl | rfl | rfl | rfl
              case inr.inr.inr.inr.inr.inr.inr.inr.inl =>
                have e4 := hk 4 (.inr (by kernel_rfl))
                simp only at h ⊢
                rw [← e, ← e4]
                exact h
              case inr.inr.inr.inr.inr.inr.inr.inr.inr.inr.inr.inr.inl =>
                have e4 := hk 4 (.inr (by kernel_rfl))
                have e8 := hk 8 (.inr (by kernel_rfl))
                simp only at h ⊢
                rw [← e, ← e4, ← e8]
                exact h
              all_goals
                simp only at h ⊢
                rw [← e]
                exact h
            · intro i o hi ho vs x hx hd
              have hx0 := (Le.drew wq).trans hx
              simp only [List.mem_cons, List.not_mem_nil, or_false] at hi
              generalize hρ : (putH _ _ _ vs).eval = ρ
              rcases hi with rfl | rfl | rfl | rfl | rfl | rfl | rfl | rfl | rfl | rfl | rfl | rfl | rfl | rfl | rfl
              · cases ho
                have r1 : ρ (.tmp 3) = .pointer (some ⟨g, 0, none⟩) := by rw [← hρ]; kernel_rfl
                exact gives_value (w' := x) (v := .pointer (some ⟨g, 6, none⟩)) (by simp [go_sem, r1]) ⟨Le.refl _, rfl⟩
              · cases ho
                have r1 : ρ (.tmp 46) = vs 0 := by rw [← hρ]; kernel_rfl
                have d := hd 0 (by decide) (by kernel_rfl)
                simp only at d
                rw [d] at r1
                have s6 := cell_le y6 hx0
                exact gives_value (w' := x) (v := slV L.qP) (by simp [go_sem, r1, s6]) ⟨Le.refl _, rfl⟩
              · cases ho
                have r1 : ρ (.tmp 6) = .pointer (some ⟨gx, 0, none⟩) := by rw [← hρ]; kernel_rfl
                exact gives_value (w' := x) (v := .pointer (some ⟨gx, 0, none⟩)) (by simp [go_sem, r1]) ⟨Le.refl _, rfl⟩
              · cases ho
                have r1 : ρ (.tmp 48) = vs 2 := by rw [← hρ]; kernel_rfl
                have d := hd 2 (by decide) (by kernel_rfl)
                simp only at d
                rw [d] at r1
                have s0 := cell_le t0 hx0
                have s1 := cell_le t1 hx0
                have s2 := cell_le t2 hx0
                have s3 := cell_le t3 hx0
                exact gives_value (w' := x) (v := stV rs0) (by simp [go_sem, r1, s0, s1, s2, s3]) ⟨Le.refl _, rfl⟩
              · cases ho
                have r1 : ρ (.tmp 49) = vs 3 := by rw [← hρ]; kernel_rfl
                have rf : ρ (.func 16) = .func (.func 16) #[] #[] := by rw [← hρ]; kernel_rfl
                have d := hd 3 (by decide) (by kernel_rfl)
                simp only at d
                rw [d] at r1
                have hcall := lawCopyState (stV rs0) P.s x (HS.le hx0) g0
                refine gives_call (f := 16) (args := #[stV rs0]) (by simp [go_sem, r1, rf]) (hcall.mono ?_)
                rintro e x' ⟨v', rfl, ⟨us, rfl, ou⟩, lu⟩
                exact ⟨_, rfl, lu, us, rfl, fun i hi => (ou i hi).base hx0.size⟩
              · cases ho
                exact gives_value (w' := x.alloc (.cells #[] 3)) (v := .slice (some ⟨x.heap.size, 0, none⟩) 0 0) (by simp [go_sem]) ⟨Le.alloc _ _, x.heap.size, rfl, Own.lit x _ hx0.size [] (by decide)⟩
              · cases ho
                have r1 : ρ (.tmp 6) = .pointer (some ⟨gx, 0, none⟩) := by rw [← hρ]; kernel_rfl
                exact gives_value (w' := x) (v := .pointer (some ⟨gx, 4, none⟩)) (by simp [go_sem, r1]) ⟨Le.refl _, rfl⟩
              · cases ho
                have r1 : ρ (.tmp 52) = vs 6 := by rw [← hρ]; kernel_rfl
                have d := hd 6 (by decide) (by kernel_rfl)
                simp only at d
                rw [d] at r1
                have s4 := cell_le t4 hx0
                exact gives_value (w' := x) (v := slV qc) (by simp [go_sem, r1, s4]) ⟨Le.refl _, rfl⟩
              · cases ho
                have r1 : ρ (.tmp 51) = vs 5 := by rw [← hρ]; kernel_rfl
                have r2 : ρ (.tmp 53) = vs 7 := by rw [← hρ]; kernel_rfl
                have hh := hd 5 (by decide) (by kernel_rfl)
                have h4 := hd 4 (by decide) (by kernel_rfl)
                have d := hd 7 (by decide) (by kernel_rfl)
                simp only at hh h4 d
                obtain ⟨bb, e5, o5⟩ := hh
                obtain ⟨us, e4, o4⟩ := h4
                rw [e5] at r1
                rw [d] at r2
                obtain ⟨q, x', hrun, o8, l8, n8⟩ := run_append_emptyI 51 x wq.heap.size bb (slV qc) P.cs o5 (hq1.le hx0) g1 hx0.size
                refine gives_value (w' := x') (v := slV q) (by simp only [execOp, resolve, invoke, builtin, Sem.run_bind, Sem.run_pure, Result.andThen_ok, List.map_toArray, List.map_cons, List.map_nil, r1, r2, hrun]) ⟨l8, q, rfl, o8, fun hpos us' e i hi b hb hb' => ?_⟩
                have e' : stV us = stV us' := by rw [← e4]; exact e
                have hus : slV (us' i) = slV (us i) := by
                  simp only [Value.agg.injEq, Array.mk.injEq, List.cons.injEq] at e'
                  rcases four hi with rfl | rfl | rfl | rfl
                  · exact e'.1.symm
                  · exact e'.2.1.symm
                  · exact e'.2.2.1.symm
                  · exact e'.2.2.2.1.symm
                rw [hus] at hb'
                have h1 := ((o4 i hi).block hb').2
                rw [n8 hpos] at hb
                simp only [Option.some.injEq] at hb
                omega
              · cases ho
                exact gives_value (w' := x.alloc (.cells #[] 3)) (v := .slice (some ⟨x.heap.size, 0, none⟩) 0 0) (by simp [go_sem]) ⟨Le.alloc _ _, x.heap.size, rfl, Own.lit x _ hx0.size [] (by decide)⟩
              · cases ho
                have r1 : ρ (.tmp 6) = .pointer (some ⟨gx, 0, none⟩) := by rw [← hρ]; kernel_rfl
                exact gives_value (w' := x) (v := .pointer (some ⟨gx, 5, none⟩)) (by simp [go_sem, r1]) ⟨Le.refl _, rfl⟩
              · cases ho
                have r1 : ρ (.tmp 56) = vs 10 := by rw [← hρ]; kernel_rfl
                have d := hd 10 (by decide) (by kernel_rfl)
                simp only at d
                rw [d] at r1
                have s5 := cell_le t5 hx0
                exact gives_value (w' := x) (v := slV ql) (by simp [go_sem, r1, s5]) ⟨Le.refl _, rfl⟩
              · cases ho
                have r1 : ρ (.tmp 55) = vs 9 := by rw [← hρ]; kernel_rfl
                have r2 : ρ (.tmp 57) = vs 11 := by rw [← hρ]; kernel_rfl
                have hh := hd 9 (by decide) (by kernel_rfl)
                have h4 := hd 4 (by decide) (by kernel_rfl)
                have h8 := hd 8 (by decide) (by kernel_rfl)
                have d := hd 11 (by decide) (by kernel_rfl)
                simp only at hh h4 h8 d
                obtain ⟨bb, e5, o5⟩ := hh
                obtain ⟨us, e4, o4⟩ := h4
                obtain ⟨q8, e8, o8, _⟩ := h8
                rw [e5] at r1
                rw [d] at r2
                obtain ⟨q, x', hrun, o12, l12, n12⟩ := run_append_emptyI 51 x wq.heap.size bb (slV ql) P.ls o5 (hq2.le hx0) g2 hx0.size
                refine gives_value (w' := x') (v := slV q) (by simp only [execOp, resolve, invoke, builtin, Sem.run_bind, Sem.run_pure, Result.andThen_ok, List.map_toArray, List.map_cons, List.map_nil, r1, r2, hrun]) ⟨l12, q, rfl, o12, fun hpos => ⟨fun us' e i hi b hb hb' => ?_, fun qa e b hb hb' => ?_⟩⟩
                · have e' : stV us = stV us' := by rw [← e4]; exact e
                  have hus : slV (us' i) = slV (us i) := by
                    simp only [Value.agg.injEq, Array.mk.injEq, List.cons.injEq] at e'
                    rcases four hi with rfl | rfl | rfl | rfl
                    · exact e'.1.symm
                    · exact e'.2.1.symm
                    · exact e'.2.2.1.symm
                    · exact e'.2.2.2.1.symm
                  rw [hus] at hb'
                  have h1 := ((o4 i hi).block hb').2
                  rw [n12 hpos] at hb
                  simp only [Option.some.injEq] at hb
                  omega
                · have e' : slV q8 = slV qa := by rw [← e8]; exact e
                  rw [← e'] at hb'
                  have h1 := (o8.block hb').2
                  rw [n12 hpos] at hb
                  simp only [Option.some.injEq] at hb
                  omega
              · cases ho
                have r1 : ρ (.tmp 50) = vs 4 := by rw [← hρ]; kernel_rfl
                have r2 : ρ (.tmp 54) = vs 8 := by rw [← hρ]; kernel_rfl
                have r3 : ρ (.tmp 58) = vs 12 := by rw [← hρ]; kernel_rfl
                have h4 := hd 4 (by decide) (by kernel_rfl)
                have h8 := hd 8 (by decide) (by kernel_rfl)
                have h12 := hd 12 (by decide) (by kernel_rfl)
                simp only at h4 h8 h12
                obtain ⟨us, e4, o4⟩ := h4
                obtain ⟨q8, e8, o8, a8⟩ := h8
                obtain ⟨q12, e12, o12, a12⟩ := h12
                rw [e4] at r1
                rw [e8] at r2
                rw [e12] at r3
                exact gives_value (w' := x) (v := repV us q8 q12) (by simp [go_sem, r1, r2, r3]) ⟨Le.refl _, us, q8, q12, rfl, o4, o8, o12, fun hp => a8 hp us e4, fun hp => (a12 hp).1 us e4, fun hp => (a12 hp).2 q8 e8⟩
              · cases ho
                have r1 : ρ (.tmp 59) = vs 13 := by rw [← hρ]; kernel_rfl
                have hh := hd 13 (by decide) (by kernel_rfl)
                simp only at hh
                obtain ⟨us, qa, qb, e13, o13⟩ := hh
                rw [e13] at r1
                have hlit := OwnE.lit repK x wq.heap.size hx0.size [⟨P, us, qa, qb⟩] (by simp)
                exact gives_value (w' := x.alloc (.cells (cellsP us qa qb) 56)) (v := .slice (some ⟨x.heap.size, 0, none⟩) 1 1) (by simp [go_sem, r1]) ⟨Le.alloc _ _, us, qa, qb, hlit, o13.le (Le.alloc _ _)⟩
            · intro vs x hx hd
              have hx0 := (Le.drew wq).trans hx
              have e1 := hd 1 (by decide)
              simp only at e1
              have hh := hd 14 (by decide)
              simp only at hh
              replace hh := hh.choose_spec
              generalize Exists.choose _ = us at hh
              replace hh := hh.choose_spec
              generalize Exists.choose _ = qa at hh
              replace hh := hh.choose_spec
              generalize Exists.choose _ = qb at hh
              have o14 := hh.1
              have o13 := hh.2
              have hrun := run_append_E repIn 25 x w.heap.size (slV L.qP) (vs 14) L.ps [⟨P, us, qa, qb⟩] (I1.own.oP.le hx0) o14.has (by simp) (by have := HLn.out; show (L.ps.length + 1) * 144 ≤ _; omega) (by have := HLn.out; show L.ps.length + 1 ≤ _; omega) (I1.le.trans hx0).size
              replace hrun := hrun.choose_spec
              generalize Exists.choose _ = q' at hrun
              replace hrun := hrun.choose_spec
              generalize Exists.choose _ = x2 at hrun
              have hrn := hrun.1
              have IN := I1.rep (by decide) hx0 (x := ⟨P, us, qa, qb⟩) o13.s o13.c o13.l (fun _ => o13.apart) hrun.2.1 hrun.2.2
              have bo2 : x2.cell? ⟨g, 6, none⟩ = some (slV L.qP) ∧ x2.frozen? ⟨g, 6, none⟩ = false := by
                have hb := (I1.bo.le hx0).grown hrun.2.2 ((I1.own.oP.le hx0).apart (I1.bo.le hx0) (by decide))
                exact ⟨hb.cell 6, hb.frozen 6⟩
              have c6 := bo2.1
              have k6 := bo2.2
              generalize hf0 : putH _ _ _ vs = fr0
              refine wpSeq_cons rfl ?_
              refine wp_value_at (v0 := slV q') (w0 := x2) ?_ ?_
              · have r1 : fr0.eval (.tmp 47) = vs 1 := by rw [← hf0]; kernel_rfl
                have r2 : fr0.eval (.tmp 60) = vs 14 := by rw [← hf0]; kernel_rfl
                rw [e1] at r1
                simp only [execOp, resolve, invoke, builtin, Sem.run_bind, Sem.run_pure, Result.andThen_ok, List.map_toArray, List.map_cons, List.map_nil, r1, r2, hrn]
              · generalize hf1 : Act.put fr0 _ _ = fr1
                refine wpSeq_cons rfl ?_
                refine wp_value_at (v0 := .pointer (some ⟨g, 6, none⟩)) (w0 := x2) ?_ ?_
                · generalize hρ : fr1.eval = ρ
                  have r1 : ρ (.tmp 3) = .pointer (some ⟨g, 0, none⟩) := by rw [← hρ, ← hf1, ← hf0]; kernel_rfl
                  simp [go_sem, r1]
                · generalize hf2 : Act.put fr1 _ _ = fr2
                  refine wpSeq_cons rfl ?_
                  refine wp_skip_at (w0 := x2.setCell ⟨g, 6, none⟩ (slV q')) ?_ ?_
                  · generalize hρ : fr2.eval = ρ
                    have r1 : ρ (.tmp 62) = .pointer (some ⟨g, 6, none⟩) := by rw [← hρ, ← hf2, ← hf1, ← hf0]; kernel_rfl
                    have r2 : ρ (.tmp 61) = slV q' := by rw [← hρ, ← hf2, ← hf1, ← hf0]; kernel_rfl
                    simp [go_sem, r1, r2, c6, k6]
                  · subst hf2 hf1 hf0
                    simp only [wpSeq, putH, List.getElem?_cons_succ, List.getElem?_cons_zero, Option.bind_some, Act.put, List.setIfInBounds_toArray, List.set_cons_zero, List.set_cons_succ]
                    go_wp2_with fail
                    go_roundw
                    case rel => exact ⟨k + 1, _, by omega, by go_num, IN, HL.out.1, by rw [List.map_append, HL.out.2.1, List.take_succ_eq_append_getElem (by have := HP.out; omega)]; simp [HX.out, List.getD, show k < Ps.length by have := HP.out; omega], HL.out.2.2.1, HL.out.2.2.2.1, HL.out.2.2.2.2⟩
                    case measure => simp [intOf]; omega
          · have HP2 : Hid (L.ps.map LP.P = Ps) := by
              have h := HL.out.2.1
              rw [List.take_of_length_le (by have := HP.out; omega)] at h
              exact h
            have z7 := I.bp.mach.2.2.2.1
            simp only [slV] at z7
            clear oP fp
            have HL0 : Hid (L.c = c ∧ L.ts.map LT.T = Ts.take 0 ∧ L.rs.map LR.R = Rs ∧ L.ps.map LP.P = Ps ∧ L.es = Es) := ⟨HL.out.1, by rw [HL.out.2.2.2.1]; rfl, HL.out.2.2.1, HP2.out, HL.out.2.2.2.2⟩
            go_wp2_with fail
            go_loopw [7] (fun i wq => ∃ (k : Nat) (L : Lay), k ≤ nT ∧ i = .int .i64 k ∧ CpI True w (cells9 c (aR, nR, cR) (aP, nP, cP) (aT, nT, cT) qH) 29 c g wq L ∧ Hid (L.c = c ∧ L.ts.map LT.T = Ts.take k ∧ L.rs.map LR.R = Rs ∧ L.ps.map LP.P = Ps ∧ L.es = Es)) (fun i _ => nT - (intOf i).toNat)
            case atStart => exact ⟨0, L, Nat.zero_le _, rfl, I, HL0⟩
            case round =>
              clear HL0 HL HP2 I z6 z7 hlt hk
              rename_i _ k1 L1 _ _
              obtain ⟨k, L, hk, rfl, I, HL⟩ := hrel
              have z7 := I.bp.mach.2.2.2.1
              simp only [slV] at z7
              by_cases hlt : k < nT
              · obtain ⟨b, off, rfl, oTk⟩ := oT (by omega)
                obtain ⟨qb, qt, rA, hq1, hq2⟩ := oTk k hlt
                obtain ⟨T, hTk⟩ : ∃ R, R = Ts.getD k Th.zero := ⟨_, rfl⟩
                have HX : Hid (T = Ts.getD k Th.zero) := hTk
                rw [← hTk] at rA hq1 hq2
                obtain ⟨g1, g2⟩ : T.b.length * 8 ≤ 140737488351232 ∧ T.tl.length * 8 ≤ 140737488351232 := by rw [hTk]; exact ft _ (getD_mem (by have := HT.out; omega))
                have hlt' : (k : Int) < (nT : Int) := by omega
                have hk0 : (0 : Int) ≤ (k : Int) := by omega
                clear hTk oTk oT ft
                obtain ⟨x0, x1, x2, x3, x4, x5, x6, x7, x8, x9, x10, x11⟩ := rA.le I.le
                have hLn : L.ts.length = k := by
                  have := congrArg List.length HL.out.2.1
                  have := HT.out
                  simp at *
                  omega
                have HLn : Hid (L.ts.length = k) := hLn
                clear rA hLn
                have hA := Le.alloc wr (.cells (cellsT T qb qt) 58)
                have hbx := Box.new wr (cellsT T qb qt) 58
                replace hq1 := hq1.le (I.le.trans hA)
                replace hq2 := hq2.le (I.le.trans hA)
                go_upto_region 15 with fail
                generalize hW2 : wr.alloc (.cells (cellsT T qb qt) 58) = wq at hA hbx hq1 hq2 ⊢
                generalize hgx : wr.heap.size = gx at hbx ⊢
                have hBg : wr.heap.size ≤ gx := by omega
                clear hW2 hgx x0 x1 x2 x3 x4 x5 x6 x7 x8 x9 x10 x11 z7
                have s6 := (hbx.le (Le.alloc wq (.cells #[] 3))).th.2.2.2.2.2.2.1
                have hn1 : Own (wq.alloc (.cells #[] 3)) wr.heap.size (.slice (some ⟨wq.heap.size, 0, none⟩) 0 0) [] := Own.lit wq _ hA.size [] (by decide)
                have hq1' := hq1.le (Le.alloc wq (.cells #[] 3))
                have hA1 := hA.trans (Le.alloc wq (.cells #[] 3))
                go_upto_region 16 with (at_builtin; refine wp_append_emptyI rfl _ _ rfl wr.heap.size _ _ T.b rfl rfl hn1 hq1' g1 hA1.size ?_; intro q1 w3 o1 l3 n1; have hb3 := (hbx.le (Le.alloc wq (.cells #[] 3))).le l3; have c6 := hb3.th.2.2.2.2.2.2.1; have k6 := hb3.frozen 6)
                have hb4 := hb3.setT6 (q := q1)
                have l4 : Le wr (w3.setCell ⟨gx, 6, none⟩ (slV q1)) := Le.set (hA1.trans l3) hBg
                have o4 := o1.setBox (i := 6) (u := slV q1) hb3 (by decide)
                have hq4 : Has (w3.setCell ⟨gx, 6, none⟩ (slV q1)) (slV qt) T.tl := by
                  have h0 := hq2.le ((Le.alloc wq (.cells #[] 3)).trans l3)
                  obtain ⟨a, cap, hv, hc, hn, hx⟩ := h0
                  refine ⟨a, cap, hv, hc, hn, fun hp => ?_⟩
                  obtain ⟨b', off', ha, hcell⟩ := hx hp
                  refine ⟨b', off', ha, fun i hi => ?_⟩
                  rw [World.cell?_setCell_other _ _ _ _ (fun e => ?_)]
                  · exact hcell i hi
                  · have h1 := hcell i hi
                    rw [← e, c6] at h1
                    cases h1
                clear s6 hn1 hq1 hq1' hq2 c6 k6 hbx hb3 o1
                generalize hW4 : w3.setCell ⟨gx, 6, none⟩ (slV q1) = w4 at hb4 l4 o4 hq4 ⊢
                clear hW4 l3 hA1 hA
                have s11 := (hb4.le (Le.alloc w4 (.cells #[] 3))).th.2.2.2.2.2.2.2.2.2.2.2
                have hn2 : Own (w4.alloc (.cells #[] 3)) wr.heap.size (.slice (some ⟨w4.heap.size, 0, none⟩) 0 0) [] := Own.lit w4 _ l4.size [] (by decide)
                have hq4' := hq4.le (Le.alloc w4 (.cells #[] 3))
                have hA4 := l4.trans (Le.alloc w4 (.cells #[] 3))
                have o4' := o4.le (Le.alloc w4 (.cells #[] 3))
                go_upto_region 17 with (at_builtin; refine wp_append_emptyI rfl _ _ rfl wr.heap.size _ _ T.tl rfl rfl hn2 hq4' g2 hA4.size ?_; intro q2 w5 o2 l5 n2; have hb5 := (hb4.le (Le.alloc w4 (.cells #[] 3))).le l5; have c11 := hb5.th.2.2.2.2.2.2.2.2.2.2.2; have k11 := hb5.frozen 11)
                have hb6 := hb5.setT11 (q := q2)
                have l6 : Le wr (w5.setCell ⟨gx, 11, none⟩ (slV q2)) := Le.set (hA4.trans l5) hBg
                have o6 := (o4'.le l5).setBox (i := 11) (u := slV q2) hb5 (by decide)
                have o7 := o2.setBox (i := 11) (u := slV q2) hb5 (by decide)
                have hap : 0 < q1.2.1 → 0 < q2.2.1 → ∀ b, (slV q1).ownBlock = some b → (slV q2).ownBlock ≠ some b := fun _ p2 b e1 e2 => by
                  have h1 := (o4'.block e1).2
                  have h2 := n2 (by have := own_len o2; omega)
                  rw [h2] at e2
                  simp only [Option.some.injEq] at e2
                  omega
                clear s11 hn2 hq4 hq4' c11 k11 hb4 hb5 o2 o4 o4' n1 n2
                generalize hW6 : w5.setCell ⟨gx, 11, none⟩ (slV q2) = w6 at hb6 l6 o6 o7 ⊢
                clear hW6 l5 hA4 l4
                obtain ⟨t0, t1, t2, t3, t4, t5, t6, t7, t8, t9, t10, t11⟩ := hb6.th
                have I6 := I.later l6
                have y7 := I6.bo.mach.2.2.2.1
                have hlit := OwnE.lit thK w6 wr.heap.size l6.size [⟨T, q1, q2⟩] (by simp)
                replace hlit : OwnE thK (w6.alloc (.cells (cellsT T q1 q2) 58)) wr.heap.size (.slice (some ⟨w6.heap.size, 0, none⟩) 1 1) [⟨T, q1, q2⟩] := hlit
                have hA6 := Le.alloc w6 (.cells (cellsT T q1 q2) 58)
                have hoT := (I6.own.oT.le hA6)
                have y7' := cell_le y7 hA6
                go_wp2_with (at_builtin; refine wp_append_E thIn rfl _ _ rfl w.heap.size _ _ L.ts [⟨T, q1, q2⟩] rfl rfl hoT hlit.has (by have := HLn.out; show (L.ts.length + 1) * 120 ≤ _; omega) (by have := HLn.out; show L.ts.length + 1 ≤ _; omega) (I6.le.trans hA6).size ?_; intro v' w7 o8 hg8 _; obtain ⟨q', rfl⟩ := o8.has.sl; have hb8 := (I6.bo.le hA6).grown hg8 (hoT.apart (I6.bo.le hA6) (by decide)); have c7 := hb8.cell 7; have k7 := hb8.frozen 7)
                have IN := I.th (by decide) (l6.trans hA6) (x := ⟨T, q1, q2⟩) (o6.le hA6) (o7.le hA6) (fun _ => hap) o8 hg8
                go_roundw
                case rel => exact ⟨k + 1, _, by omega, by go_num, IN, HL.out.1, by rw [List.map_append, HL.out.2.1, List.take_succ_eq_append_getElem (by have := HT.out; omega)]; simp [HX.out, List.getD, show k < Ts.length by have := HT.out; omega], HL.out.2.2.1, HL.out.2.2.2.1, HL.out.2.2.2.2⟩
                case measure => simp [intOf]; omega
              · have HM : Hid (L.M = ⟨c, Rs, Ps, Ts, Es⟩) := by
                  have h := HL.out.2.1
                  rw [List.take_of_length_le (by have := HT.out; omega)] at h
                  show Lay.M L = _
                  unfold Lay.M
                  rw [HL.out.1, h, HL.out.2.2.1, HL.out.2.2.2.1, HL.out.2.2.2.2]
                have HC : Hid (L.c = c) := HL.out.1
                obtain ⟨⟨m0, m1, m2, m3, m4⟩, m5, m6, m7, m8⟩ := I.bo.mach
                have r0 := I.br.cell 0
                have r1 := I.br.cell 1
                have r2 := I.br.cell 2
                have r3 := I.br.cell 3
                have r4 := I.br.cell 4
                have r5 := I.br.cell 5
                have r6 := I.br.cell 6
                have r7 := I.br.cell 7
                have r8 := I.br.cell 8
                simp only [List.getElem?_toArray, List.getElem?_cons_succ, List.getElem?_cons_zero] at r0 r1 r2 r3 r4 r5 r6 r7 r8
                have k0 := I.br.frozen 0
                have k1' := I.br.frozen 1
                have k2 := I.br.frozen 2
                have k3 := I.br.frozen 3
                have k4 := I.br.frozen 4
                have k5 := I.br.frozen 5
                have k6 := I.br.frozen 6
                have k7 := I.br.frozen 7
                have k8 := I.br.frozen 8
                clear oT ft HL
                go_wp2_with fail
                refine bodyPost_ret (v := machV c L.qR L.qP L.qT L.qH) (by simp [results, Tryz.results5, go_sem, r0, r1, r2, r3, r4, r5, r6, r7, r8]) rfl ⟨L, by rw [← HC.out], HM.out, ?_, I.ap trivial, ?_⟩
                · have hne : ∀ {t : TypeId} {kk n : Nat} {v : Value} {us : List Value}, World.ownsRow wr w.heap.size t kk v n us → t ≠ 29 → (put9 wr (w.heap.size + 1) c L.qR L.qP L.qT L.qH).ownsRow w.heap.size t kk v n us := fun {t kk n v us} h ht => row_put9 h (fun e => by
                    rcases h.2 with ⟨e2, _⟩ | ⟨g', cap, cur, hv, _, hh, _⟩
                    · rw [e2] at e; simp [Value.ownBlock] at e
                    · rw [hv] at e
                      simp [Value.ownBlock] at e
                      subst e
                      have hb := I.br
                      unfold Box at hb
                      rw [hb] at hh
                      simp at hh
                      exact ht hh.2.symm) _ _ _ _ _
                  have o := I.own
                  exact ⟨hne o.oR (by decide), hne o.oP (by decide), hne o.oT (by decide), hne o.oH (by decide), fun y hy => hne (o.iR y hy) (by decide), fun y hy => ⟨fun i hi => hne ((o.iP y hy).1 i hi) (by decide), hne (o.iP y hy).2.1 (by decide), hne (o.iP y hy).2.2 (by decide)⟩, fun y hy => ⟨hne (o.iT y hy).1 (by decide), hne (o.iT y hy).2 (by decide)⟩⟩
                · exact I.le.put9 (by omega) _ _ _ _ _

end Go.Proofs.YtibleipfablniaaGreat
