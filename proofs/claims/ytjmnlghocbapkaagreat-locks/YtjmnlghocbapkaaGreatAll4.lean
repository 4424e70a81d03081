/-
  PARTS LAID TOGETHER, each with its own opening: LmE, LoA, LoB, HasBox, ObjA, ObjB, LoC, LoD, NwAwake, Bg15, MpA, MpB, LmD, MpC, MpD, MoD.
-/
import Derived.Test.YtjmnlghocbapkaaGreatAll3
import Derived.Deep.CutRange
import Derived.Test.YtjmnlghocbapkaaGreatAll1
import Derived.Test.YtjmnlghocbapkaaGreatAll2
import Derived.Deep.RegionHeld3
import Derived.Deep.Cut
import Derived.BigRegion
/-
  THE WALK over a machine's copy: the same machine, in memory of the call's own, each row in a block of its own. Condition: that its rows can be copied.
-/
namespace Go.Proofs.YtjmnlghocbapkaaGreat
open Go.RowKit

set_option maxRecDepth 8000 in
set_option maxHeartbeats 16000000 in
theorem lawCopyMachine (v : Value) (M : Mc) (w : World) (hx : HasM w v M) (hf : FitM M) :
    Calls Tryz.prog 5 #[v] w fun e w' => ∃ L : Lay, e = .returned L.v ∧ L.M = M ∧ OwnsM w' w.heap.size L ∧ ApartM L ∧ Le w w' := by
  obtain ⟨c, Rs, Ps, Ts, Es⟩ := M
  obtain ⟨⟨aR, nR, cR⟩, ⟨aP, nP, cP⟩, ⟨aT, nT, cT⟩, qH, rfl, hR, hP, hT, hH⟩ := hx
  obtain ⟨f1, f2, f3, f4, fr, fp, ft⟩ := hf
  simp only at hR hP hT hH f1 f2 f3 f4 fr fp ft
  obtain ⟨a, n, hv, nc, _, oR⟩ := hR.open
  simp only [slV, Value.slice.injEq] at hv
  obtain ⟨rfl, rfl, rfl⟩ := hv
  obtain ⟨a, n, hv, pc, _, oP⟩ := hP.open
  simp only [slV, Value.slice.injEq] at hv
  obtain ⟨rfl, rfl, rfl⟩ := hv
  obtain ⟨a, n, hv, tc, _, oT⟩ := hT.open
  simp only [slV, Value.slice.injEq] at hv
  obtain ⟨rfl, rfl, rfl⟩ := hv
  clear hR hP hT
  obtain ⟨nR, hnR⟩ : ∃ n, n = Rs.length := ⟨_, rfl⟩
  obtain ⟨nP, hnP⟩ : ∃ n, n = Ps.length := ⟨_, rfl⟩
  obtain ⟨nT, hnT⟩ : ∃ n, n = Ts.length := ⟨_, rfl⟩
  have HR : Hid (nR = Rs.length) := hnR
  have HP : Hid (nP = Ps.length) := hnP
  have HT : Hid (nT = Ts.length) := hnT
  rw [← hnR] at nc oR f1 ⊢
  rw [← hnP] at pc oP f2 ⊢
  rw [← hnT] at tc oT f3 ⊢
  clear hnR hnP hnT
  have hl := (Le.alloc w (.cells (cells9 c (aR, nR, cR) (aP, nP, cP) (aT, nT, cT) qH) 29)).trans (Le.alloc _ (.cells cellsZ9 29))
  have hb1 := (Box.new w (cells9 c (aR, nR, cR) (aP, nP, cP) (aT, nT, cT) qH) 29).le (Le.alloc _ (.cells cellsZ9 29))
  have hb2 := Box.new (w.alloc (.cells (cells9 c (aR, nR, cR) (aP, nP, cP) (aT, nT, cT) qH) 29)) cellsZ9 29
  have hWs : ((w.alloc (.cells (cells9 c (aR, nR, cR) (aP, nP, cP) (aT, nT, cT) qH) 29)).alloc (.cells cellsZ9 29)).heap.size = w.heap.size + 2 := by simp
  rw [World.size_alloc] at hb2
  go_enter Tryz.func5, Tryz.ntmps5
  go_upto_region 1 with fail
  generalize hW : (w.alloc (.cells (cells9 c (aR, nR, cR) (aP, nP, cP) (aT, nT, cT) qH) 29)).alloc (.cells cellsZ9 29) = W at hl hb1 hb2 hWs ⊢
  clear hW
  go_cut [3] from 9 (fun s3 wc => ∃ g q, s3 = .pointer (some ⟨g, 0, none⟩) ∧ CpI True w (cells9 c (aR, nR, cR) (aP, nP, cP) (aT, nT, cT) qH) 29 c g wc ⟨c, slZ, slZ, slZ, q, [], [], [], Es⟩)
  case first =>
    refine wp_region_any (by kernel_rfl) ?_
    obtain ⟨⟨z0, z1, z2, z3, z4⟩, z5, z6, z7, z8⟩ := hb1.mach
    have hH' := hH.le hl
    refine wpAny_grow [] [0, 1, 2, 3, 4, 5, 6, 7] [8] (by decide) (by kernel_rfl) Le (Le.refl _) (fun _ _ _ => Le.trans)
      (fun vs i x => match i with
        | 0 => vs 0 = .pointer (some ⟨w.heap.size, 0, none⟩)
        | 1 => vs 1 = cfgV c.o c.r c.l c.t c.s
        | 2 => ∃ b, vs 2 = .slice (some ⟨b, 0, none⟩) 0 0 ∧ OwnE evK x (w.heap.size + 2) (.slice (some ⟨b, 0, none⟩) 0 0) []
        | 3 => vs 3 = .pointer (some ⟨w.heap.size, 8, none⟩)
        | 4 => vs 4 = slV qH
        | 5 => ∃ q, vs 5 = slV q ∧ OwnE evK x (w.heap.size + 2) (slV q) Es
        | 6 => ∃ q, vs 6 = machV c slZ slZ slZ q ∧ OwnE evK x (w.heap.size + 2) (slV q) Es
        | _ => ∃ g, vs 7 = .pointer (some ⟨g, 0, none⟩) ∧ w.heap.size + 2 ≤ g ∧ Box x g cellsZ9 29) ?_ ?_ (by decide) ?_ ?_
    · intro vs i x y hi _ h hxy
      simp only [List.mem_cons, List.not_mem_nil, or_false] at hi
      rcases hi with rfl | rfl | rfl | rfl | rfl | rfl | rfl | rfl
      · exact h
      · exact h
      · obtain ⟨b, e, o⟩ := h; exact ⟨b, e, o.le hxy⟩
      · exact h
      · exact h
      · obtain ⟨b, e, o⟩ := h; exact ⟨b, e, o.le hxy⟩
      · obtain ⟨b, e, o⟩ := h; exact ⟨b, e, o.le hxy⟩
      · obtain ⟨b, e, o, o'⟩ := h; exact ⟨b, e, o, o'.le hxy⟩
    · intro vs vs' i o x hi _ hk h
      have e := hk i (.inl rfl)
      simp only [List.mem_cons, List.not_mem_nil, or_false] at hi
      rcases hi with rfl | rfl | rfl | rfl | rfl | rfl | rfl | rfl
      all_goals
        simp only at h ⊢
        rw [← e]
        exact h
    · intro i o hi ho vs x hx hd
      have hx0 := (Le.drew W).trans hx
      simp only [List.mem_cons, List.not_mem_nil, or_false] at hi
      generalize hρ : (putH _ _ _ vs).eval = ρ
      rcases hi with rfl | rfl | rfl | rfl | rfl | rfl | rfl | rfl
      · cases ho
        have r1 : ρ (.tmp 1) = .pointer (some ⟨w.heap.size, 0, none⟩) := by rw [← hρ]; kernel_rfl
        exact gives_value (w' := x) (v := .pointer (some ⟨w.heap.size, 0, none⟩)) (by simp [go_sem, r1]) ⟨Le.refl _, rfl⟩
      · cases ho
        have r1 : ρ (.tmp 9) = vs 0 := by rw [← hρ]; kernel_rfl
        have d := hd 0 (by decide) (by kernel_rfl)
        simp only at d
        rw [d] at r1
        have y0 := cell_le z0 hx0
        have y1 := cell_le z1 hx0
        have y2 := cell_le z2 hx0
        have y3 := cell_le z3 hx0
        have y4 := cell_le z4 hx0
        exact gives_value (w' := x) (v := cfgV c.o c.r c.l c.t c.s) (by simp [go_sem, r1, y0, y1, y2, y3, y4]) ⟨Le.refl _, rfl⟩
      · cases ho
        exact gives_value (w' := x.alloc (.cells #[] 86)) (v := .slice (some ⟨x.heap.size, 0, none⟩) 0 0) (by simp [go_sem]) ⟨Le.alloc _ _, x.heap.size, rfl, OwnE.lit0 evK x _ (by have := hx0.size; omega)⟩
      · cases ho
        have r1 : ρ (.tmp 1) = .pointer (some ⟨w.heap.size, 0, none⟩) := by rw [← hρ]; kernel_rfl
        exact gives_value (w' := x) (v := .pointer (some ⟨w.heap.size, 8, none⟩)) (by simp [go_sem, r1]) ⟨Le.refl _, rfl⟩
      · cases ho
        have r1 : ρ (.tmp 12) = vs 3 := by rw [← hρ]; kernel_rfl
        have d := hd 3 (by decide) (by kernel_rfl)
        simp only at d
        rw [d] at r1
        have y8 := cell_le z8 hx0
        exact gives_value (w' := x) (v := slV qH) (by simp [go_sem, r1, y8]) ⟨Le.refl _, rfl⟩
      · cases ho
        have r1 : ρ (.tmp 11) = vs 2 := by rw [← hρ]; kernel_rfl
        have r2 : ρ (.tmp 13) = vs 4 := by rw [← hρ]; kernel_rfl
        have hh := hd 2 (by decide) (by kernel_rfl)
        simp only at hh
        replace hh := hh.choose_spec
        generalize Exists.choose _ = b at hh
        have e2 := hh.1
        have o2 := hh.2
        have e4 := hd 4 (by decide) (by kernel_rfl)
        simp only at e4
        rw [e2] at r1
        rw [e4] at r2
        obtain ⟨q, x', hrun, o5, l5, _⟩ := run_append_empty evIn 27 x (w.heap.size + 2) b (slV qH) Es o2 (hH'.le hx0) (by show Es.length * 48 ≤ _; omega) (by omega) (by have := hx0.size; omega)
        exact gives_value (w' := x') (v := slV q) (by simp only [execOp, resolve, invoke, builtin, Sem.run_bind, Sem.run_pure, Result.andThen_ok, List.map_toArray, List.map_cons, List.map_nil, r1, r2, hrun]) ⟨l5, q, rfl, o5⟩
      · cases ho
        have r1 : ρ (.tmp 10) = vs 1 := by rw [← hρ]; kernel_rfl
        have r2 : ρ (.tmp 14) = vs 5 := by rw [← hρ]; kernel_rfl
        have e1 := hd 1 (by decide) (by kernel_rfl)
        have hh := hd 5 (by decide) (by kernel_rfl)
        simp only at hh
        replace hh := hh.choose_spec
        generalize Exists.choose _ = q at hh
        have e5 := hh.1
        have o5 := hh.2
        simp only at e1
        rw [e1] at r1
        rw [e5] at r2
        exact gives_value (w' := x) (v := machV c slZ slZ slZ q) (by simp [go_sem, r1, r2]) ⟨Le.refl _, q, rfl, o5⟩
      · cases ho
        exact gives_value (w' := x.alloc (.cells cellsZ9 29)) (v := .pointer (some ⟨x.heap.size, 0, none⟩)) (by simp [go_sem]) ⟨Le.alloc _ _, x.heap.size, rfl, by have := hx0.size; omega, Box.new _ _ _⟩
    · intro vs x hx hd o ho
      have hx0 := (Le.drew W).trans hx
      cases ho
      have hh := hd 6 (by decide)
      simp only at hh
      replace hh := hh.choose_spec
      generalize Exists.choose _ = q at hh
      have e6 := hh.1
      have o6 := hh.2
      have hh := hd 7 (by decide)
      simp only at hh
      replace hh := hh.choose_spec
      generalize Exists.choose _ = g at hh
      have e7 := hh.1
      have hg := hh.2.1
      have b7 := hh.2.2
      refine gives_wp (K := fun v w' => v = undef ∧ w' = put9 x g c slZ slZ slZ q) ?_ ?_
      · generalize hρ : (putH _ _ _ vs).eval = ρ
        have r1 : ρ (.tmp 3) = vs 7 := by rw [← hρ]; kernel_rfl
        have r2 : ρ (.tmp 15) = vs 6 := by rw [← hρ]; kernel_rfl
        rw [e7] at r1
        rw [e6] at r2
        have c0 := b7.cell 0
        have c1 := b7.cell 1
        have c2 := b7.cell 2
        have c3 := b7.cell 3
        have c4 := b7.cell 4
        have c5 := b7.cell 5
        have c6 := b7.cell 6
        have c7 := b7.cell 7
        have c8 := b7.cell 8
        simp only [List.getElem?_toArray, List.getElem?_cons_succ, List.getElem?_cons_zero] at c0 c1 c2 c3 c4 c5 c6 c7 c8
        have k0 := b7.frozen 0
        have k1 := b7.frozen 1
        have k2 := b7.frozen 2
        have k3 := b7.frozen 3
        have k4 := b7.frozen 4
        have k5 := b7.frozen 5
        have k6 := b7.frozen 6
        have k7 := b7.frozen 7
        have k8 := b7.frozen 8
        unfold gives
        simp [go_sem, r1, r2, c0, c1, c2, c3, c4, c5, c6, c7, c8, k0, k1, k2, k3, k4, k5, k6, k7, k8]
      · rintro _ _ ⟨rfl, rfl⟩
        simp only [wpSeq, putH, List.getElem?_cons_succ, List.getElem?_cons_zero, Option.bind_some, Act.put, List.setIfInBounds_toArray, List.set_cons_zero, List.set_cons_succ, e7]
        go_wp2_with fail
        go_meet
        case rel => exact ⟨g, q, rfl, CpI.start (hl.trans hx0) (hb1.le hx0) (hb2.le hx0) b7 hg o6⟩
  case rest =>
    obtain ⟨g, q0, rfl, I0⟩ := hcut
    clear hb1 hb2 hWs hl hH
    have z5 := I0.bp.mach.2.1
    simp only [slV] at z5
    go_wp2_with fail
    go_loopw [4] (fun i wr => ∃ (k : Nat) (L : Lay), k ≤ nR ∧ i = .int .i64 k ∧ CpI True w (cells9 c (aR, nR, cR) (aP, nP, cP) (aT, nT, cT) qH) 29 c g wr L ∧ Hid (L.c = c ∧ L.rs.map LR.R = Rs.take k ∧ L.ps = [] ∧ L.ts = [] ∧ L.es = Es)) (fun i _ => nR - (intOf i).toNat)
    case atStart => exact ⟨0, _, Nat.zero_le _, rfl, I0, rfl, rfl, rfl, rfl, rfl⟩
    case round =>
      obtain ⟨k, L, hk, rfl, I, HL⟩ := hrel
      clear I0 z5
      have z5 := I.bp.mach.2.1
      simp only [slV] at z5
      by_cases hlt : k < nR
      · obtain ⟨b, off, rfl, oRk⟩ := oR (by omega)
        obtain ⟨q, rA, hq⟩ := oRk k hlt
        obtain ⟨R, hRk⟩ : ∃ R, R = Rs.getD k Rg.zero := ⟨_, rfl⟩
        have HX : Hid (R = Rs.getD k Rg.zero) := hRk
        rw [← hRk] at rA hq
        have hfR : FitR R := by rw [hRk]; exact fr _ (getD_mem (by have := HR.out; omega))
        have hlt' : (k : Int) < (nR : Int) := by omega
        have hk0 : (0 : Int) ≤ (k : Int) := by omega
        clear hRk oRk oR oP oT fr fp ft
        replace hq := hq.le I.le
        obtain ⟨x0, x1, x2, x3⟩ := rA.le I.le
        have y5 := I.bo.mach.2.1
        have hLn : L.rs.length = k := by
          have := congrArg List.length HL.out.2.1
          have := HR.out
          simp at *
          omega
        have HLn : Hid (L.rs.length = k) := hLn
        clear rA hLn
        go_upto_region 5 with fail
        refine wp_region_any (by kernel_rfl) ?_
        refine wpAny_grow [] [0, 1, 2, 3, 4, 5, 6, 7, 8] [9, 10, 11] (by decide) (by kernel_rfl) Le (Le.refl _) (fun _ _ _ => Le.trans)
          (fun vs i x => match i with
            | 0 => vs 0 = .pointer (some ⟨g, 5, none⟩)
            | 1 => vs 1 = slV L.qR
            | 2 => vs 2 = .pointer (some ⟨w.heap.size, 5, none⟩)
            | 3 => vs 3 = .slice (some ⟨b, off, none⟩) nR cR
            | 4 => vs 4 = .int .i64 k
            | 5 => vs 5 = .pointer (some ⟨b, off + k * 4, none⟩)
            | 6 => vs 6 = ringV R.h R.t R.f q
            | 7 => ∃ u, vs 7 = ringV R.h R.t R.f u ∧ OwnL x wr.heap.size (slV u) R.ss
            | _ => ∃ u, OwnE ringK x wr.heap.size (vs 8) [⟨R, u⟩] ∧ OwnL x wr.heap.size (slV u) R.ss) ?_ ?_ (by decide) ?_ ?_
        · intro vs i x y hi _ h hxy
          simp only [List.mem_cons, List.not_mem_nil, or_false] at hi
          rcases hi with rfl | rfl | rfl | rfl | rfl | rfl | rfl | rfl | rfl
          iterate 7
            · exact h
          · obtain ⟨u, e, o⟩ := h; exact ⟨u, e, o.le hxy⟩
          · obtain ⟨u, o, o'⟩ := h; exact ⟨u, o.le hxy, o'.le hxy⟩
        · intro vs vs' i o x hi _ hk h
          have e := hk i (.inl rfl)
          simp only [List.mem_cons, List.not_mem_nil, or_false] at hi
          rcases hi with rfl | rfl | rfl | rfl | rfl | rfl | rfl | rfl | rfl
          all_goals
            simp only at h ⊢
            rw [← e]
            exact h
        · intro i o hi ho vs x hx hd
          have hx0 := (Le.drew wr).trans hx
          simp only [List.mem_cons, List.not_mem_nil, or_false] at hi
          generalize hρ : (putH _ _ _ vs).eval = ρ
          rcases hi with rfl | rfl | rfl | rfl | rfl | rfl | rfl | rfl | rfl
          · cases ho
            have r1 : ρ (.tmp 3) = .pointer (some ⟨g, 0, none⟩) := by rw [← hρ]; kernel_rfl
            exact gives_value (w' := x) (v := .pointer (some ⟨g, 5, none⟩)) (by simp [go_sem, r1]) ⟨Le.refl _, rfl⟩
          · cases ho
            have r1 : ρ (.tmp 23) = vs 0 := by rw [← hρ]; kernel_rfl
            have d := hd 0 (by decide) (by kernel_rfl)
            simp only at d
            rw [d] at r1
            have t5 := cell_le y5 hx0
            exact gives_value (w' := x) (v := slV L.qR) (by simp [go_sem, r1, t5]) ⟨Le.refl _, rfl⟩
          · cases ho
            have r1 : ρ (.tmp 1) = .pointer (some ⟨w.heap.size, 0, none⟩) := by rw [← hρ]; kernel_rfl
            exact gives_value (w' := x) (v := .pointer (some ⟨w.heap.size, 5, none⟩)) (by simp [go_sem, r1]) ⟨Le.refl _, rfl⟩
          · cases ho
            have r1 : ρ (.tmp 25) = vs 2 := by rw [← hρ]; kernel_rfl
            have d := hd 2 (by decide) (by kernel_rfl)
            simp only at d
            rw [d] at r1
            have t5 := cell_le z5 hx0
            exact gives_value (w' := x) (v := .slice (some ⟨b, off, none⟩) nR cR) (by simp [go_sem, r1, t5]) ⟨Le.refl _, rfl⟩
          · cases ho
            have r1 : ρ (.tmp 4) = .int .i64 k := by rw [← hρ]; kernel_rfl
            exact gives_value (w' := x) (v := .int .i64 k) (by simp [go_sem, r1]) ⟨Le.refl _, rfl⟩
          · cases ho
            have r1 : ρ (.tmp 26) = vs 3 := by rw [← hρ]; kernel_rfl
            have r2 : ρ (.tmp 27) = vs 4 := by rw [← hρ]; kernel_rfl
            have d := hd 3 (by decide) (by kernel_rfl)
            have d2 := hd 4 (by decide) (by kernel_rfl)
            simp only at d d2
            rw [d] at r1
            rw [d2] at r2
            exact gives_value (w' := x) (v := .pointer (some ⟨b, off + k * 4, none⟩)) (by simp [go_sem, r1, r2, hlt', hk0]) ⟨Le.refl _, rfl⟩
          · cases ho
            have r1 : ρ (.tmp 28) = vs 5 := by rw [← hρ]; kernel_rfl
            have d := hd 5 (by decide) (by kernel_rfl)
            simp only at d
            rw [d] at r1
            have t0 := cell_le x0 hx0
            have t1 := cell_le x1 hx0
            have t2 := cell_le x2 hx0
            have t3 := cell_le x3 hx0
            exact gives_value (w' := x) (v := ringV R.h R.t R.f q) (by simp [go_sem, r1, t0, t1, t2, t3]) ⟨Le.refl _, rfl⟩
          · cases ho
            have r1 : ρ (.tmp 29) = vs 6 := by rw [← hρ]; kernel_rfl
            have d := hd 6 (by decide) (by kernel_rfl)
            simp only at d
            rw [d] at r1
            have rf : ρ (.func 15) = .func (.func 15) #[] #[] := by rw [← hρ]; kernel_rfl
            have hcall := lawCopyRing R.h R.t R.f q R.ss x (hq.le hx0) hfR
            refine gives_call (f := 15) (args := #[ringV R.h R.t R.f q]) (by simp [go_sem, r1, rf]) (hcall.mono ?_)
            rintro e x' ⟨u, rfl, ou, lu⟩
            exact ⟨_, rfl, lu, u, rfl, ou.base hx0.size⟩
          · cases ho
            have r1 : ρ (.tmp 30) = vs 7 := by rw [← hρ]; kernel_rfl
            have hh := hd 7 (by decide) (by kernel_rfl)
            simp only at hh
            replace hh := hh.choose_spec
            generalize Exists.choose _ = u at hh
            rw [hh.1] at r1
            have o7 := hh.2
            have hlit := OwnE.lit ringK x wr.heap.size hx0.size [⟨R, u⟩] (by simp)
            exact gives_value (w' := x.alloc (.cells #[.int .i64 R.h, .int .i64 R.t, .int .i64 R.f, slV u] 50)) (v := .slice (some ⟨x.heap.size, 0, none⟩) 1 1) (by simp [go_sem, r1]) ⟨Le.alloc _ _, u, hlit, o7.le (Le.alloc _ _)⟩
        · intro vs x hx hd
          have hx0 := (Le.drew wr).trans hx
          have e1 := hd 1 (by decide)
          simp only at e1
          have hh := hd 8 (by decide)
          simp only at hh
          replace hh := hh.choose_spec
          generalize Exists.choose _ = u at hh
          have o8 := hh.1
          have o7 := hh.2
          have hrun := run_append_E ringIn 24 x w.heap.size (slV L.qR) (vs 8) L.rs [⟨R, u⟩] (I.own.oR.le hx0) o8.has (by simp) (by have := HLn.out; show (L.rs.length + 1) * 48 ≤ _; omega) (by have := HLn.out; show L.rs.length + 1 ≤ _; omega) (I.le.trans hx0).size
          replace hrun := hrun.choose_spec
          generalize Exists.choose _ = q' at hrun
          replace hrun := hrun.choose_spec
          generalize Exists.choose _ = x2 at hrun
          have hrn := hrun.1
          have IN := I.ring (by decide) hx0 (x := ⟨R, u⟩) o7 hrun.2.1 hrun.2.2
          have bo2 : x2.cell? ⟨g, 5, none⟩ = some (slV L.qR) ∧ x2.frozen? ⟨g, 5, none⟩ = false := by
            have hb := (I.bo.le hx0).grown hrun.2.2 ((I.own.oR.le hx0).apart (I.bo.le hx0) (by decide))
            exact ⟨hb.cell 5, hb.frozen 5⟩
          have c5 := bo2.1
          have k5 := bo2.2
          generalize hf0 : putH _ _ _ vs = fr0
          refine wpSeq_cons rfl ?_
          refine wp_value_at (v0 := slV q') (w0 := x2) ?_ ?_
          · have r1 : fr0.eval (.tmp 24) = vs 1 := by rw [← hf0]; kernel_rfl
            have r2 : fr0.eval (.tmp 31) = vs 8 := by rw [← hf0]; kernel_rfl
            rw [e1] at r1
            simp only [execOp, resolve, invoke, builtin, Sem.run_bind, Sem.run_pure, Result.andThen_ok, List.map_toArray, List.map_cons, List.map_nil, r1, r2, hrn]
          · generalize hf1 : Act.put fr0 _ _ = fr1
            refine wpSeq_cons rfl ?_
            refine wp_value_at (v0 := .pointer (some ⟨g, 5, none⟩)) (w0 := x2) ?_ ?_
            · generalize hρ : fr1.eval = ρ
              have r1 : ρ (.tmp 3) = .pointer (some ⟨g, 0, none⟩) := by rw [← hρ, ← hf1, ← hf0]; kernel_rfl
              simp [go_sem, r1]
            · generalize hf2 : Act.put fr1 _ _ = fr2
              refine wpSeq_cons rfl ?_
              refine wp_skip_at (w0 := x2.setCell ⟨g, 5, none⟩ (slV q')) ?_ ?_
              · generalize hρ : fr2.eval = ρ
                have r1 : ρ (.tmp 33) = .pointer (some ⟨g, 5, none⟩) := by rw [← hρ, ← hf2, ← hf1, ← hf0]; kernel_rfl
                have r2 : ρ (.tmp 32) = slV q' := by rw [← hρ, ← hf2, ← hf1, ← hf0]; kernel_rfl
                simp [go_sem, r1, r2, c5, k5]
              · subst hf2 hf1 hf0
                simp only [wpSeq, putH, List.getElem?_cons_succ, List.getElem?_cons_zero, Option.bind_some, Act.put, List.setIfInBounds_toArray, List.set_cons_zero, List.set_cons_succ]
                go_wp2_with fail
                go_roundw
                case rel => exact ⟨k + 1, _, by omega, by go_num, IN, HL.out.1, by rw [List.map_append, HL.out.2.1, List.take_succ_eq_append_getElem (by have := HR.out; omega)]; simp [HX.out, List.getD, show k < Rs.length by have := HR.out; omega], HL.out.2.2.1, HL.out.2.2.2.1, HL.out.2.2.2.2⟩
                case measure => simp [intOf]; omega
      · have HR2 : Hid (L.rs.map LR.R = Rs) := by
          have h := HL.out.2.1
          rw [List.take_of_length_le (by have := HR.out; omega)] at h
          exact h
        have z6 := I.bp.mach.2.2.1
        simp only [slV] at z6
        clear oR fr
        have HL0 : Hid (L.c = c ∧ L.ps.map LP.P = Ps.take 0 ∧ L.rs.map LR.R = Rs ∧ L.ts = [] ∧ L.es = Es) := ⟨HL.out.1, by rw [HL.out.2.2.1]; rfl, HR2.out, HL.out.2.2.2.1, HL.out.2.2.2.2⟩
        go_wp2_with fail
        go_loopw [5] (fun i wq => ∃ (k : Nat) (L : Lay), k ≤ nP ∧ i = .int .i64 k ∧ CpI True w (cells9 c (aR, nR, cR) (aP, nP, cP) (aT, nT, cT) qH) 29 c g wq L ∧ Hid (L.c = c ∧ L.ps.map LP.P = Ps.take k ∧ L.rs.map LR.R = Rs ∧ L.ts = [] ∧ L.es = Es)) (fun i _ => nP - (intOf i).toNat)
        case atStart => exact ⟨0, L, Nat.zero_le _, rfl, I, HL0⟩
        case round =>
          clear HL0 HL HR2 I z5 z6 hlt hk
          rename_i _ k0 L0 _ _
          obtain ⟨k, L, hk, rfl, I, HL⟩ := hrel
          have z6 := I.bp.mach.2.2.1
          simp only [slV] at z6
          by_cases hlt : k < nP
          · obtain ⟨b, off, rfl, oPk⟩ := oP (by omega)
            obtain ⟨rs0, qc, ql, rA, hq0, hq1, hq2⟩ := oPk k hlt
            obtain ⟨P, hPk⟩ : ∃ R, R = Ps.getD k Rp.zero := ⟨_, rfl⟩
            have HX : Hid (P = Ps.getD k Rp.zero) := hPk
            rw [← hPk] at hq0 hq1 hq2
            obtain ⟨g0, g1, g2⟩ : Fit P.s ∧ P.cs.length * 8 ≤ 140737488351232 ∧ P.ls.length * 8 ≤ 140737488351232 := by rw [hPk]; exact fp _ (getD_mem (by have := HP.out; omega))
            have hlt' : (k : Int) < (nP : Int) := by omega
            have hk0 : (0 : Int) ≤ (k : Int) := by omega
            clear hPk oPk oP oT fp ft
            obtain ⟨x0, x1, x2, x3, x4, x5⟩ := rA.le I.le
            have hLn : L.ps.length = k := by
              have := congrArg List.length HL.out.2.1
              have := HP.out
              simp at *
              omega
            have HLn : Hid (L.ps.length = k) := hLn
            have hA := Le.alloc wr (.cells (cellsP rs0 qc ql) 57)
            have hbx := Box.new wr (cellsP rs0 qc ql) 57
            have I1 := I.later hA
            clear rA hLn
            go_upto_region 10 with fail
            generalize hW2 : wr.alloc (.cells (cellsP rs0 qc ql) 57) = wq at hA hbx I1 ⊢
            clear hW2 x0 x1 x2 x3 x4 x5 z6 I
            generalize wr.heap.size = gx at hbx ⊢
            have HS : HasS wq (stV rs0) P.s := ⟨rs0, rfl, fun i hi => (hq0 i hi).le I1.le⟩
            replace hq1 := hq1.le I1.le
            replace hq2 := hq2.le I1.le
            have y6 := I1.bo.mach.2.2.1
            obtain ⟨t0, t1, t2, t3, t4, t5⟩ := hbx.rep
            clear hq0 hbx hA
            refine wp_region_any (by kernel_rfl) ?_
            refine wpAny_grow [] [0, 1, 2, 3, 4, 5, 6, 7, 8, 9, 10, 11, 12, 13, 14] [15, 16, 17] (by decide) (by kernel_rfl) Le (Le.refl _) (fun _ _ _ => Le.trans)
              (fun vs i x => match i with
                | 0 => vs 0 = .pointer (some ⟨g, 6, none⟩)
                | 1 => vs 1 = slV L.qP
                | 2 => vs 2 = .pointer (some ⟨gx, 0, none⟩)
                | 3 => vs 3 = stV rs0
                | 4 => ∃ us : Nat → Sl, vs 4 = stV us ∧ ∀ i, i < 4 → Own x wq.heap.size (slV (us i)) (P.s.at i)
                | 5 => ∃ b, vs 5 = .slice (some ⟨b, 0, none⟩) 0 0 ∧ Own x wq.heap.size (.slice (some ⟨b, 0, none⟩) 0 0) []
                | 6 => vs 6 = .pointer (some ⟨gx, 4, none⟩)
                | 7 => vs 7 = slV qc
                | 8 => ∃ q : Sl, vs 8 = slV q ∧ Own x wq.heap.size (slV q) P.cs ∧ (0 < P.cs.length → ∀ us : Nat → Sl, vs 4 = stV us → ∀ i, i < 4 → ∀ b, (slV q).ownBlock = some b → (slV (us i)).ownBlock ≠ some b)
                | 9 => ∃ b, vs 9 = .slice (some ⟨b, 0, none⟩) 0 0 ∧ Own x wq.heap.size (.slice (some ⟨b, 0, none⟩) 0 0) []
                | 10 => vs 10 = .pointer (some ⟨gx, 5, none⟩)
                | 11 => vs 11 = slV ql
                | 12 => ∃ q : Sl, vs 12 = slV q ∧ Own x wq.heap.size (slV q) P.ls ∧ (0 < P.ls.length → (∀ us : Nat → Sl, vs 4 = stV us → ∀ i, i < 4 → ∀ b, (slV q).ownBlock = some b → (slV (us i)).ownBlock ≠ some b) ∧ ∀ qa : Sl, vs 8 = slV qa → ∀ b, (slV q).ownBlock = some b → (slV qa).ownBlock ≠ some b)
                | 13 => ∃ (us : Nat → Sl) (qa qb : Sl), vs 13 = repV us qa qb ∧ RepOwn x wq.heap.size P us qa qb
                | _ => ∃ (us : Nat → Sl) (qa qb : Sl), OwnE repK x wq.heap.size (vs 14) [⟨P, us, qa, qb⟩] ∧ RepOwn x wq.heap.size P us qa qb) ?_ ?_ (by decide) ?_ ?_
            · intro vs i x y hi _ h hxy
              simp only [List.mem_cons, List.not_mem_nil, or_false] at hi
              rcases hi with rfl | rfl | rfl | rfl | rfl | rfl | rfl | rfl | rfl | rfl | rfl | rfl | rfl | rfl | rfl
              iterate 4
                · exact h
              · obtain ⟨u, e, o⟩ := h; exact ⟨u, e, fun i hi => (o i hi).le hxy⟩
              · obtain ⟨u, e, o⟩ := h; exact ⟨u, e, o.le hxy⟩
              iterate 2
                · exact h
              · obtain ⟨u, e, o, o'⟩ := h; exact ⟨u, e, o.le hxy, o'⟩
              · obtain ⟨u, e, o⟩ := h; exact ⟨u, e, o.le hxy⟩
              iterate 2
                · exact h
              · obtain ⟨u, e, o, o'⟩ := h; exact ⟨u, e, o.le hxy, o'⟩
              · obtain ⟨u, a, b, e, o⟩ := h; exact ⟨u, a, b, e, o.le hxy⟩
              · obtain ⟨u, a, b, o, o'⟩ := h; exact ⟨u, a, b, o.le hxy, o'.le hxy⟩
            · intro vs vs' i o x hi _ hk h
              have e := hk i (.inl rfl)
              simp only [List.mem_cons, List.not_mem_nil, or_false] at hi
              rcases hi with rfl | rfl | rfl | rfl | rfl | rfl | rfl | rfl | rfl | rfl | rfl | rfl | rfl | rfl | rfl
              case inr.inr.inr.inr.inr.inr.inr.inr.inl =>
                have e4 := hk 4 (.inr (by kernel_rfl))
                simp only at h ⊢
                rw [← e, ← e4]
                exact h
              case inr.inr.inr.inr.inr.inr.inr.inr.inr.inr.inr.inr.inl =>
                have e4 := hk 4 (.inr (by kernel_rfl))
                have e8 := hk 8 (.inr (by kernel_rfl))
                simp only at h ⊢
                rw [← e, ← e4, ← e8]
                exact h
              all_goals
                simp only at h ⊢
                rw [← e]
                exact h
            · intro i o hi ho vs x hx hd
              have hx0 := (Le.drew wq).trans hx
              simp only [List.mem_cons, List.not_mem_nil, or_false] at hi
              generalize hρ : (putH _ _ _ vs).eval = ρ
              rcases hi with rfl | rfl | rfl | rfl | rfl | rfl | rfl | rfl | rfl | rfl | rfl | rfl | rfl | rfl | rfl
              · cases ho
                have r1 : ρ (.tmp 3) = .pointer (some ⟨g, 0, none⟩) := by rw [← hρ]; kernel_rfl
                exact gives_value (w' := x) (v := .pointer (some ⟨g, 6, none⟩)) (by simp [go_sem, r1]) ⟨Le.refl _, rfl⟩
              · cases ho
                have r1 : ρ (.tmp 46) = vs 0 := by rw [← hρ]; kernel_rfl
                have d := hd 0 (by decide) (by kernel_rfl)
                simp only at d
                rw [d] at r1
                have s6 := cell_le y6 hx0
                exact gives_value (w' := x) (v := slV L.qP) (by simp [go_sem, r1, s6]) ⟨Le.refl _, rfl⟩
              · cases ho
                have r1 : ρ (.tmp 6) = .pointer (some ⟨gx, 0, none⟩) := by rw [← hρ]; kernel_rfl
                exact gives_value (w' := x) (v := .pointer (some ⟨gx, 0, none⟩)) (by simp [go_sem, r1]) ⟨Le.refl _, rfl⟩
              · cases ho
                have r1 : ρ (.tmp 48) = vs 2 := by rw [← hρ]; kernel_rfl
                have d := hd 2 (by decide) (by kernel_rfl)
                simp only at d
                rw [d] at r1
                have s0 := cell_le t0 hx0
                have s1 := cell_le t1 hx0
                have s2 := cell_le t2 hx0
                have s3 := cell_le t3 hx0
                exact gives_value (w' := x) (v := stV rs0) (by simp [go_sem, r1, s0, s1, s2, s3]) ⟨Le.refl _, rfl⟩
              · cases ho
                have r1 : ρ (.tmp 49) = vs 3 := by rw [← hρ]; kernel_rfl
                have rf : ρ (.func 16) = .func (.func 16) #[] #[] := by rw [← hρ]; kernel_rfl
                have d := hd 3 (by decide) (by kernel_rfl)
                simp only at d
                rw [d] at r1
                have hcall := lawCopyState (stV rs0) P.s x (HS.le hx0) g0
                refine gives_call (f := 16) (args := #[stV rs0]) (by simp [go_sem, r1, rf]) (hcall.mono ?_)
                rintro e x' ⟨v', rfl, ⟨us, rfl, ou⟩, lu⟩
                exact ⟨_, rfl, lu, us, rfl, fun i hi => (ou i hi).base hx0.size⟩
              · cases ho
                exact gives_value (w' := x.alloc (.cells #[] 3)) (v := .slice (some ⟨x.heap.size, 0, none⟩) 0 0) (by simp [go_sem]) ⟨Le.alloc _ _, x.heap.size, rfl, Own.lit x _ hx0.size [] (by decide)⟩
              · cases ho
                have r1 : ρ (.tmp 6) = .pointer (some ⟨gx, 0, none⟩) := by rw [← hρ]; kernel_rfl
                exact gives_value (w' := x) (v := .pointer (some ⟨gx, 4, none⟩)) (by simp [go_sem, r1]) ⟨Le.refl _, rfl⟩
              · cases ho
                have r1 : ρ (.tmp 52) = vs 6 := by rw [← hρ]; kernel_rfl
                have d := hd 6 (by decide) (by kernel_rfl)
                simp only at d
                rw [d] at r1
                have s4 := cell_le t4 hx0
                exact gives_value (w' := x) (v := slV qc) (by simp [go_sem, r1, s4]) ⟨Le.refl _, rfl⟩
              · cases ho
                have r1 : ρ (.tmp 51) = vs 5 := by rw [← hρ]; kernel_rfl
                have r2 : ρ (.tmp 53) = vs 7 := by rw [← hρ]; kernel_rfl
                have hh := hd 5 (by decide) (by kernel_rfl)
                have h4 := hd 4 (by decide) (by kernel_rfl)
                have d := hd 7 (by decide) (by kernel_rfl)
                simp only at hh h4 d
                obtain ⟨bb, e5, o5⟩ := hh
                obtain ⟨us, e4, o4⟩ := h4
                rw [e5] at r1
                rw [d] at r2
                obtain ⟨q, x', hrun, o8, l8, n8⟩ := run_append_emptyI 52 x wq.heap.size bb (slV qc) P.cs o5 (hq1.le hx0) g1 hx0.size
                refine gives_value (w' := x') (v := slV q) (by simp only [execOp, resolve, invoke, builtin, Sem.run_bind, Sem.run_pure, Result.andThen_ok, List.map_toArray, List.map_cons, List.map_nil, r1, r2, hrun]) ⟨l8, q, rfl, o8, fun hpos us' e i hi b hb hb' => ?_⟩
                have e' : stV us = stV us' := by rw [← e4]; exact e
                have hus : slV (us' i) = slV (us i) := by
                  simp only [Value.agg.injEq, Array.mk.injEq, List.cons.injEq] at e'
                  rcases four hi with rfl | rfl | rfl | rfl
                  · exact e'.1.symm
                  · exact e'.2.1.symm
                  · exact e'.2.2.1.symm
                  · exact e'.2.2.2.1.symm
                rw [hus] at hb'
                have h1 := ((o4 i hi).block hb').2
                rw [n8 hpos] at hb
                simp only [Option.some.injEq] at hb
                omega
              · cases ho
                exact gives_value (w' := x.alloc (.cells #[] 3)) (v := .slice (some ⟨x.heap.size, 0, none⟩) 0 0) (by simp [go_sem]) ⟨Le.alloc _ _, x.heap.size, rfl, Own.lit x _ hx0.size [] (by decide)⟩
              · cases ho
                have r1 : ρ (.tmp 6) = .pointer (some ⟨gx, 0, none⟩) := by rw [← hρ]; kernel_rfl
                exact gives_value (w' := x) (v := .pointer (some ⟨gx, 5, none⟩)) (by simp [go_sem, r1]) ⟨Le.refl _, rfl⟩
              · cases ho
                have r1 : ρ (.tmp 56) = vs 10 := by rw [← hρ]; kernel_rfl
                have d := hd 10 (by decide) (by kernel_rfl)
                simp only at d
                rw [d] at r1
                have s5 := cell_le t5 hx0
                exact gives_value (w' := x) (v := slV ql) (by simp [go_sem, r1, s5]) ⟨Le.refl _, rfl⟩
              · cases ho
                have r1 : ρ (.tmp 55) = vs 9 := by rw [← hρ]; kernel_rfl
                have r2 : ρ (.tmp 57) = vs 11 := by rw [← hρ]; kernel_rfl
                have hh := hd 9 (by decide) (by kernel_rfl)
                have h4 := hd 4 (by decide) (by kernel_rfl)
                have h8 := hd 8 (by decide) (by kernel_rfl)
                have d := hd 11 (by decide) (by kernel_rfl)
                simp only at hh h4 h8 d
                obtain ⟨bb, e5, o5⟩ := hh
                obtain ⟨us, e4, o4⟩ := h4
                obtain ⟨q8, e8, o8, _⟩ := h8
                rw [e5] at r1
                rw [d] at r2
                obtain ⟨q, x', hrun, o12, l12, n12⟩ := run_append_emptyI 52 x wq.heap.size bb (slV ql) P.ls o5 (hq2.le hx0) g2 hx0.size
                refine gives_value (w' := x') (v := slV q) (by simp only [execOp, resolve, invoke, builtin, Sem.run_bind, Sem.run_pure, Result.andThen_ok, List.map_toArray, List.map_cons, List.map_nil, r1, r2, hrun]) ⟨l12, q, rfl, o12, fun hpos => ⟨fun us' e i hi b hb hb' => ?_, fun qa e b hb hb' => ?_⟩⟩
                · have e' : stV us = stV us' := by rw [← e4]; exact e
                  have hus : slV (us' i) = slV (us i) := by
                    simp only [Value.agg.injEq, Array.mk.injEq, List.cons.injEq] at e'
                    rcases four hi with rfl | rfl | rfl | rfl
                    · exact e'.1.symm
                    · exact e'.2.1.symm
                    · exact e'.2.2.1.symm
                    · exact e'.2.2.2.1.symm
                  rw [hus] at hb'
                  have h1 := ((o4 i hi).block hb').2
                  rw [n12 hpos] at hb
                  simp only [Option.some.injEq] at hb
                  omega
                · have e' : slV q8 = slV qa := by rw [← e8]; exact e
                  rw [← e'] at hb'
                  have h1 := (o8.block hb').2
                  rw [n12 hpos] at hb
                  simp only [Option.some.injEq] at hb
                  omega
              · cases ho
                have r1 : ρ (.tmp 50) = vs 4 := by rw [← hρ]; kernel_rfl
                have r2 : ρ (.tmp 54) = vs 8 := by rw [← hρ]; kernel_rfl
                have r3 : ρ (.tmp 58) = vs 12 := by rw [← hρ]; kernel_rfl
                have h4 := hd 4 (by decide) (by kernel_rfl)
                have h8 := hd 8 (by decide) (by kernel_rfl)
                have h12 := hd 12 (by decide) (by kernel_rfl)
                simp only at h4 h8 h12
                obtain ⟨us, e4, o4⟩ := h4
                obtain ⟨q8, e8, o8, a8⟩ := h8
                obtain ⟨q12, e12, o12, a12⟩ := h12
                rw [e4] at r1
                rw [e8] at r2
                rw [e12] at r3
                exact gives_value (w' := x) (v := repV us q8 q12) (by simp [go_sem, r1, r2, r3]) ⟨Le.refl _, us, q8, q12, rfl, o4, o8, o12, fun hp => a8 hp us e4, fun hp => (a12 hp).1 us e4, fun hp => (a12 hp).2 q8 e8⟩
              · cases ho
                have r1 : ρ (.tmp 59) = vs 13 := by rw [← hρ]; kernel_rfl
                have hh := hd 13 (by decide) (by kernel_rfl)
                simp only at hh
                obtain ⟨us, qa, qb, e13, o13⟩ := hh
                rw [e13] at r1
                have hlit := OwnE.lit repK x wq.heap.size hx0.size [⟨P, us, qa, qb⟩] (by simp)
                exact gives_value (w' := x.alloc (.cells (cellsP us qa qb) 57)) (v := .slice (some ⟨x.heap.size, 0, none⟩) 1 1) (by simp [go_sem, r1]) ⟨Le.alloc _ _, us, qa, qb, hlit, o13.le (Le.alloc _ _)⟩
            · intro vs x hx hd
              have hx0 := (Le.drew wq).trans hx
              have e1 := hd 1 (by decide)
              simp only at e1
              have hh := hd 14 (by decide)
              simp only at hh
              replace hh := hh.choose_spec
              generalize Exists.choose _ = us at hh
              replace hh := hh.choose_spec
              generalize Exists.choose _ = qa at hh
              replace hh := hh.choose_spec
              generalize Exists.choose _ = qb at hh
              have o14 := hh.1
              have o13 := hh.2
              have hrun := run_append_E repIn 25 x w.heap.size (slV L.qP) (vs 14) L.ps [⟨P, us, qa, qb⟩] (I1.own.oP.le hx0) o14.has (by simp) (by have := HLn.out; show (L.ps.length + 1) * 144 ≤ _; omega) (by have := HLn.out; show L.ps.length + 1 ≤ _; omega) (I1.le.trans hx0).size
              replace hrun := hrun.choose_spec
              generalize Exists.choose _ = q' at hrun
              replace hrun := hrun.choose_spec
              generalize Exists.choose _ = x2 at hrun
              have hrn := hrun.1
              have IN := I1.rep (by decide) hx0 (x := ⟨P, us, qa, qb⟩) o13.s o13.c o13.l (fun _ => o13.apart) hrun.2.1 hrun.2.2
              have bo2 : x2.cell? ⟨g, 6, none⟩ = some (slV L.qP) ∧ x2.frozen? ⟨g, 6, none⟩ = false := by
                have hb := (I1.bo.le hx0).grown hrun.2.2 ((I1.own.oP.le hx0).apart (I1.bo.le hx0) (by decide))
                exact ⟨hb.cell 6, hb.frozen 6⟩
              have c6 := bo2.1
              have k6 := bo2.2
              generalize hf0 : putH _ _ _ vs = fr0
              refine wpSeq_cons rfl ?_
              refine wp_value_at (v0 := slV q') (w0 := x2) ?_ ?_
              · have r1 : fr0.eval (.tmp 47) = vs 1 := by rw [← hf0]; kernel_rfl
                have r2 : fr0.eval (.tmp 60) = vs 14 := by rw [← hf0]; kernel_rfl
                rw [e1] at r1
                simp only [execOp, resolve, invoke, builtin, Sem.run_bind, Sem.run_pure, Result.andThen_ok, List.map_toArray, List.map_cons, List.map_nil, r1, r2, hrn]
              · generalize hf1 : Act.put fr0 _ _ = fr1
                refine wpSeq_cons rfl ?_
                refine wp_value_at (v0 := .pointer (some ⟨g, 6, none⟩)) (w0 := x2) ?_ ?_
                · generalize hρ : fr1.eval = ρ
                  have r1 : ρ (.tmp 3) = .pointer (some ⟨g, 0, none⟩) := by rw [← hρ, ← hf1, ← hf0]; kernel_rfl
                  simp [go_sem, r1]
                · generalize hf2 : Act.put fr1 _ _ = fr2
                  refine wpSeq_cons rfl ?_
                  refine wp_skip_at (w0 := x2.setCell ⟨g, 6, none⟩ (slV q')) ?_ ?_
                  · generalize hρ : fr2.eval = ρ
                    have r1 : ρ (.tmp 62) = .pointer (some ⟨g, 6, none⟩) := by rw [← hρ, ← hf2, ← hf1, ← hf0]; kernel_rfl
                    have r2 : ρ (.tmp 61) = slV q' := by rw [← hρ, ← hf2, ← hf1, ← hf0]; kernel_rfl
                    simp [go_sem, r1, r2, c6, k6]
                  · subst hf2 hf1 hf0
                    simp only [wpSeq, putH, List.getElem?_cons_succ, List.getElem?_cons_zero, Option.bind_some, Act.put, List.setIfInBounds_toArray, List.set_cons_zero, List.set_cons_succ]
                    go_wp2_with fail
                    go_roundw
                    case rel => exact ⟨k + 1, _, by omega, by go_num, IN, HL.out.1, by rw [List.map_append, HL.out.2.1, List.take_succ_eq_append_getElem (by have := HP.out; omega)]; simp [HX.out, List.getD, show k < Ps.length by have := HP.out; omega], HL.out.2.2.1, HL.out.2.2.2.1, HL.out.2.2.2.2⟩
                    case measure => simp [intOf]; omega
          · have HP2 : Hid (L.ps.map LP.P = Ps) := by
              have h := HL.out.2.1
              rw [List.take_of_length_le (by have := HP.out; omega)] at h
              exact h
            have z7 := I.bp.mach.2.2.2.1
            simp only [slV] at z7
            clear oP fp
            have HL0 : Hid (L.c = c ∧ L.ts.map LT.T = Ts.take 0 ∧ L.rs.map LR.R = Rs ∧ L.ps.map LP.P = Ps ∧ L.es = Es) := ⟨HL.out.1, by rw [HL.out.2.2.2.1]; rfl, HL.out.2.2.1, HP2.out, HL.out.2.2.2.2⟩
            go_wp2_with fail
            go_loopw [7] (fun i wq => ∃ (k : Nat) (L : Lay), k ≤ nT ∧ i = .int .i64 k ∧ CpI True w (cells9 c (aR, nR, cR) (aP, nP, cP) (aT, nT, cT) qH) 29 c g wq L ∧ Hid (L.c = c ∧ L.ts.map LT.T = Ts.take k ∧ L.rs.map LR.R = Rs ∧ L.ps.map LP.P = Ps ∧ L.es = Es)) (fun i _ => nT - (intOf i).toNat)
            case atStart => exact ⟨0, L, Nat.zero_le _, rfl, I, HL0⟩
            case round =>
              clear HL0 HL HP2 I z6 z7 hlt hk
              rename_i _ k1 L1 _ _
              obtain ⟨k, L, hk, rfl, I, HL⟩ := hrel
              have z7 := I.bp.mach.2.2.2.1
              simp only [slV] at z7
              by_cases hlt : k < nT
              · obtain ⟨b, off, rfl, oTk⟩ := oT (by omega)
                obtain ⟨qb, qt, rA, hq1, hq2⟩ := oTk k hlt
                obtain ⟨T, hTk⟩ : ∃ R, R = Ts.getD k Th.zero := ⟨_, rfl⟩
                have HX : Hid (T = Ts.getD k Th.zero) := hTk
                rw [← hTk] at rA hq1 hq2
                obtain ⟨g1, g2⟩ : T.b.length * 8 ≤ 140737488351232 ∧ T.tl.length * 8 ≤ 140737488351232 := by rw [hTk]; exact ft _ (getD_mem (by have := HT.out; omega))
                have hlt' : (k : Int) < (nT : Int) := by omega
                have hk0 : (0 : Int) ≤ (k : Int) := by omega
                clear hTk oTk oT ft
                obtain ⟨x0, x1, x2, x3, x4, x5, x6, x7, x8, x9, x10, x11⟩ := rA.le I.le
                have hLn : L.ts.length = k := by
                  have := congrArg List.length HL.out.2.1
                  have := HT.out
                  simp at *
                  omega
                have HLn : Hid (L.ts.length = k) := hLn
                clear rA hLn
                have hA := Le.alloc wr (.cells (cellsT T qb qt) 62)
                have hbx := Box.new wr (cellsT T qb qt) 62
                replace hq1 := hq1.le (I.le.trans hA)
                replace hq2 := hq2.le (I.le.trans hA)
                go_upto_region 15 with fail
                generalize hW2 : wr.alloc (.cells (cellsT T qb qt) 62) = wq at hA hbx hq1 hq2 ⊢
                generalize hgx : wr.heap.size = gx at hbx ⊢
                have hBg : wr.heap.size ≤ gx := by omega
                clear hW2 hgx x0 x1 x2 x3 x4 x5 x6 x7 x8 x9 x10 x11 z7
                have s6 := (hbx.le (Le.alloc wq (.cells #[] 3))).th.2.2.2.2.2.2.1
                have hn1 : Own (wq.alloc (.cells #[] 3)) wr.heap.size (.slice (some ⟨wq.heap.size, 0, none⟩) 0 0) [] := Own.lit wq _ hA.size [] (by decide)
                have hq1' := hq1.le (Le.alloc wq (.cells #[] 3))
                have hA1 := hA.trans (Le.alloc wq (.cells #[] 3))
                go_upto_region 16 with (at_builtin; refine wp_append_emptyI rfl _ _ rfl wr.heap.size _ _ T.b rfl rfl hn1 hq1' g1 hA1.size ?_; intro q1 w3 o1 l3 n1; have hb3 := (hbx.le (Le.alloc wq (.cells #[] 3))).le l3; have c6 := hb3.th.2.2.2.2.2.2.1; have k6 := hb3.frozen 6)
                have hb4 := hb3.setT6 (q := q1)
                have l4 : Le wr (w3.setCell ⟨gx, 6, none⟩ (slV q1)) := Le.set (hA1.trans l3) hBg
                have o4 := o1.setBox (i := 6) (u := slV q1) hb3 (by decide)
                have hq4 : Has (w3.setCell ⟨gx, 6, none⟩ (slV q1)) (slV qt) T.tl := by
                  have h0 := hq2.le ((Le.alloc wq (.cells #[] 3)).trans l3)
                  obtain ⟨a, cap, hv, hc, hn, hx⟩ := h0
                  refine ⟨a, cap, hv, hc, hn, fun hp => ?_⟩
                  obtain ⟨b', off', ha, hcell⟩ := hx hp
                  refine ⟨b', off', ha, fun i hi => ?_⟩
                  rw [World.cell?_setCell_other _ _ _ _ (fun e => ?_)]
                  · exact hcell i hi
                  · have h1 := hcell i hi
                    rw [← e, c6] at h1
                    cases h1
                clear s6 hn1 hq1 hq1' hq2 c6 k6 hbx hb3 o1
                generalize hW4 : w3.setCell ⟨gx, 6, none⟩ (slV q1) = w4 at hb4 l4 o4 hq4 ⊢
                clear hW4 l3 hA1 hA
                have s11 := (hb4.le (Le.alloc w4 (.cells #[] 3))).th.2.2.2.2.2.2.2.2.2.2.2
                have hn2 : Own (w4.alloc (.cells #[] 3)) wr.heap.size (.slice (some ⟨w4.heap.size, 0, none⟩) 0 0) [] := Own.lit w4 _ l4.size [] (by decide)
                have hq4' := hq4.le (Le.alloc w4 (.cells #[] 3))
                have hA4 := l4.trans (Le.alloc w4 (.cells #[] 3))
                have o4' := o4.le (Le.alloc w4 (.cells #[] 3))
                go_upto_region 17 with (at_builtin; refine wp_append_emptyI rfl _ _ rfl wr.heap.size _ _ T.tl rfl rfl hn2 hq4' g2 hA4.size ?_; intro q2 w5 o2 l5 n2; have hb5 := (hb4.le (Le.alloc w4 (.cells #[] 3))).le l5; have c11 := hb5.th.2.2.2.2.2.2.2.2.2.2.2; have k11 := hb5.frozen 11)
                have hb6 := hb5.setT11 (q := q2)
                have l6 : Le wr (w5.setCell ⟨gx, 11, none⟩ (slV q2)) := Le.set (hA4.trans l5) hBg
                have o6 := (o4'.le l5).setBox (i := 11) (u := slV q2) hb5 (by decide)
                have o7 := o2.setBox (i := 11) (u := slV q2) hb5 (by decide)
                have hap : 0 < q1.2.1 → 0 < q2.2.1 → ∀ b, (slV q1).ownBlock = some b → (slV q2).ownBlock ≠ some b := fun _ p2 b e1 e2 => by
                  have h1 := (o4'.block e1).2
                  have h2 := n2 (by have := own_len o2; omega)
                  rw [h2] at e2
                  simp only [Option.some.injEq] at e2
                  omega
                clear s11 hn2 hq4 hq4' c11 k11 hb4 hb5 o2 o4 o4' n1 n2
                generalize hW6 : w5.setCell ⟨gx, 11, none⟩ (slV q2) = w6 at hb6 l6 o6 o7 ⊢
                clear hW6 l5 hA4 l4
                obtain ⟨t0, t1, t2, t3, t4, t5, t6, t7, t8, t9, t10, t11⟩ := hb6.th
                have I6 := I.later l6
                have y7 := I6.bo.mach.2.2.2.1
                have hlit := OwnE.lit thK w6 wr.heap.size l6.size [⟨T, q1, q2⟩] (by simp)
                replace hlit : OwnE thK (w6.alloc (.cells (cellsT T q1 q2) 62)) wr.heap.size (.slice (some ⟨w6.heap.size, 0, none⟩) 1 1) [⟨T, q1, q2⟩] := hlit
                have hA6 := Le.alloc w6 (.cells (cellsT T q1 q2) 62)
                have hoT := (I6.own.oT.le hA6)
                have y7' := cell_le y7 hA6
                go_wp2_with (at_builtin; refine wp_append_E thIn rfl _ _ rfl w.heap.size _ _ L.ts [⟨T, q1, q2⟩] rfl rfl hoT hlit.has (by have := HLn.out; show (L.ts.length + 1) * 120 ≤ _; omega) (by have := HLn.out; show L.ts.length + 1 ≤ _; omega) (I6.le.trans hA6).size ?_; intro v' w7 o8 hg8 _; obtain ⟨q', rfl⟩ := o8.has.sl; have hb8 := (I6.bo.le hA6).grown hg8 (hoT.apart (I6.bo.le hA6) (by decide)); have c7 := hb8.cell 7; have k7 := hb8.frozen 7)
                have IN := I.th (by decide) (l6.trans hA6) (x := ⟨T, q1, q2⟩) (o6.le hA6) (o7.le hA6) (fun _ => hap) o8 hg8
                go_roundw
                case rel => exact ⟨k + 1, _, by omega, by go_num, IN, HL.out.1, by rw [List.map_append, HL.out.2.1, List.take_succ_eq_append_getElem (by have := HT.out; omega)]; simp [HX.out, List.getD, show k < Ts.length by have := HT.out; omega], HL.out.2.2.1, HL.out.2.2.2.1, HL.out.2.2.2.2⟩
                case measure => simp [intOf]; omega
              · have HM : Hid (L.M = ⟨c, Rs, Ps, Ts, Es⟩) := by
                  have h := HL.out.2.1
                  rw [List.take_of_length_le (by have := HT.out; omega)] at h
                  show Lay.M L = _
                  unfold Lay.M
                  rw [HL.out.1, h, HL.out.2.2.1, HL.out.2.2.2.1, HL.out.2.2.2.2]
                have HC : Hid (L.c = c) := HL.out.1
                obtain ⟨⟨m0, m1, m2, m3, m4⟩, m5, m6, m7, m8⟩ := I.bo.mach
                have r0 := I.br.cell 0
                have r1 := I.br.cell 1
                have r2 := I.br.cell 2
                have r3 := I.br.cell 3
                have r4 := I.br.cell 4
                have r5 := I.br.cell 5
                have r6 := I.br.cell 6
                have r7 := I.br.cell 7
                have r8 := I.br.cell 8
                simp only [List.getElem?_toArray, List.getElem?_cons_succ, List.getElem?_cons_zero] at r0 r1 r2 r3 r4 r5 r6 r7 r8
                have k0 := I.br.frozen 0
                have k1' := I.br.frozen 1
                have k2 := I.br.frozen 2
                have k3 := I.br.frozen 3
                have k4 := I.br.frozen 4
                have k5 := I.br.frozen 5
                have k6 := I.br.frozen 6
                have k7 := I.br.frozen 7
                have k8 := I.br.frozen 8
                clear oT ft HL
                go_wp2_with fail
                refine bodyPost_ret (v := machV c L.qR L.qP L.qT L.qH) (by simp [results, Tryz.results5, go_sem, r0, r1, r2, r3, r4, r5, r6, r7, r8]) rfl ⟨L, by rw [← HC.out], HM.out, ?_, I.ap trivial, ?_⟩
                · have hne : ∀ {t : TypeId} {kk n : Nat} {v : Value} {us : List Value}, World.ownsRow wr w.heap.size t kk v n us → t ≠ 29 → (put9 wr (w.heap.size + 1) c L.qR L.qP L.qT L.qH).ownsRow w.heap.size t kk v n us := fun {t kk n v us} h ht => row_put9 h (fun e => by
                    rcases h.2 with ⟨e2, _⟩ | ⟨g', cap, cur, hv, _, hh, _⟩
                    · rw [e2] at e; simp [Value.ownBlock] at e
                    · rw [hv] at e
                      simp [Value.ownBlock] at e
                      subst e
                      have hb := I.br
                      unfold Box at hb
                      rw [hb] at hh
                      simp at hh
                      exact ht hh.2.symm) _ _ _ _ _
                  have o := I.own
                  exact ⟨hne o.oR (by decide), hne o.oP (by decide), hne o.oT (by decide), hne o.oH (by decide), fun y hy => hne (o.iR y hy) (by decide), fun y hy => ⟨fun i hi => hne ((o.iP y hy).1 i hi) (by decide), hne (o.iP y hy).2.1 (by decide), hne (o.iP y hy).2.2 (by decide)⟩, fun y hy => ⟨hne (o.iT y hy).1 (by decide), hne (o.iT y hy).2 (by decide)⟩⟩
                · exact I.le.put9 (by omega) _ _ _ _ _

end Go.Proofs.YtjmnlghocbapkaaGreat

/-
  THE WALKS over package lists' All and package start's exactly and atMost, at logs, slots, replicas, threads, events and numbers, with a method value that holds its receiver: what each answers. Condition: no more elements than an int tells.
-/
namespace Go.Proofs.YtjmnlghocbapkaaGreat
open Go.RowKit

theorem allE_take {α : Type} {xs : List α} {d : α} {p : α → Bool} {k : Nat} (hk : k < xs.length) (h : (xs.take k).all p = true) (hp : p (xs.getD k d) = true) : (xs.take (k + 1)).all p = true := by
  rw [List.take_succ_eq_append_getElem hk, List.all_append, h]
  simp [List.getD, hk] at hp
  simp [hp]
theorem allE_no {α : Type} {xs : List α} {d : α} {p : α → Bool} {k : Nat} (hk : k < xs.length) (hp : p (xs.getD k d) = false) : xs.all p = false := by
  rw [← Bool.not_eq_true, List.all_eq_true]
  intro h
  have := h (xs.getD k d) (by simp [List.getD, hk])
  rw [hp] at this
  cases this
/-- The value v is a slot's. -/
def IsSlot (_w : World) (v : Value) (s : Slt) : Prop := v = s.v
/-- The value v is an event's. -/
def IsEv (_w : World) (v : Value) (E : Ev) : Prop := v = evV E
/-- The value v is a number's. -/
def IsInt (_w : World) (v : Value) (x : Int) : Prop := v = .int .i64 x
theorem HasL.open {w : World} {v : Value} {ss : List Slt} (h : HasL w v ss) : ∃ (a : Option Addr) (cap : Nat), v = .slice a ss.length cap ∧ ss.length ≤ cap ∧ (a = none → cap = 0) ∧
    (0 < ss.length → ∃ b off, a = some ⟨b, off, none⟩ ∧ ∀ i, i < ss.length → SlotAt w b (off + i * 5) (ss.getD i Slt.zero)) := h
theorem Has.open {w : World} {v : Value} {xs : List Int} (h : Has w v xs) : ∃ (a : Option Addr) (cap : Nat), v = .slice a xs.length cap ∧ xs.length ≤ cap ∧ (a = none → cap = 0) ∧
    (0 < xs.length → ∃ b off, a = some ⟨b, off, none⟩ ∧ ∀ i, i < xs.length → w.cell? ⟨b, off + i, none⟩ = some (.int .i64 (xs.getD i 0))) := h

set_option maxHeartbeats 1000000 in
theorem allRing (f : Nat) (c : Value) (p : Rg → Bool) (hc : ∀ (u : Value) (w : World), (callFunc f #[c, u]).run Tryz.prog w = .ok (.enter f #[c, u]) w) (v : Value) (xs : List Rg) (w : World)
    (hp : ∀ w', Le w w' → ∀ (u : Value) (x : Rg), x ∈ xs → HasR w' u x → Calls Tryz.prog f #[c, u] w' fun e w'' => e = .returned (.bool (p x)) ∧ Le w' w'') (hx : HasRs w v xs) (hm : xs.length ≤ 9223372036854775807) :
    Calls Tryz.prog 76 #[v, .func (.func f) #[c] #[]] w fun e w' => e = .returned (.bool (xs.all p)) ∧ Le w w' := by
  obtain ⟨a, cap, rfl, hc', _, hx⟩ := hx.open
  by_cases h0 : 0 < xs.length
  · obtain ⟨b, off, rfl, hcell⟩ := hx h0
    clear hx
    obtain ⟨L, hL⟩ : ∃ L, L = xs.length := ⟨_, rfl⟩
    have HL : Hid (L = xs.length) := hL
    rw [← hL] at hm h0 hc' hcell ⊢
    clear hL
    go_enter Tryz.func76, Tryz.ntmps76
    go_wp2
    go_loopw [9] (fun i wr => ∃ k : Nat, k ≤ L ∧ i = .int .i64 k ∧ Hid ((xs.take k).all p = true) ∧ Le w wr) (fun i _ => L - (intOf i).toNat)
    case atStart => exact ⟨0, by omega, rfl, rfl, Le.refl _⟩
    case round =>
      obtain ⟨k, hk, rfl, HA, hle⟩ := hrel
      by_cases hlt : k < L
      · obtain ⟨q, rA, hq⟩ := hcell k hlt
        obtain ⟨s, hs⟩ : ∃ s, s = xs.getD k Rg.zero := ⟨_, rfl⟩
        have HS : Hid (s = xs.getD k Rg.zero) := hs
        have hmem : s ∈ xs := by rw [hs]; exact getD_mem (by have := HL.out; omega)
        rw [← hs] at rA hq
        obtain ⟨x0, x1, x2, x3⟩ := rA.le hle
        have hlt' : (k : Int) < (L : Int) := by omega
        clear hs hcell
        have hm2 := fun o => hp (wr.alloc o) (hle.trans (Le.alloc _ _)) (ringV s.h s.t s.f q) s hmem (⟨q, rfl, (hq.le hle).le (Le.alloc _ _)⟩)
        clear hp hmem
        cases hh : p s
        · simp only [hh] at hm2
          go_wp2_with fail
          refine (hm2 _).mono ?_
          rintro e w1 ⟨rfl, l1⟩
          go_wp2
          go_ret
          exact ⟨ret_bool (allE_no (k := k) (d := Rg.zero) (by have := HL.out; omega) (by rw [← HS.out]; exact hh)).symm, (hle.trans (Le.alloc _ _)).trans l1⟩
        · simp only [hh] at hm2
          go_wp2_with fail
          refine (hm2 _).mono ?_
          rintro e w1 ⟨rfl, l1⟩
          go_wp2
          go_roundw
          case rel => exact ⟨k + 1, by omega, by go_num, allE_take (d := Rg.zero) (by have := HL.out; omega) HA.out (by rw [← HS.out]; exact hh), (hle.trans (Le.alloc _ _)).trans l1⟩
          case measure => simp [intOf]; omega
      · obtain rfl : k = L := by omega
        go_wp2
        go_ret
        exact ⟨ret_bool (by have := HA.out; rw [HL.out, List.take_length] at this; exact this.symm), hle⟩
  · have hxn : xs = [] := by cases xs with | nil => rfl | cons _ _ => simp at h0
    subst hxn
    go_enter Tryz.func76, Tryz.ntmps76
    go_wp2
    refine wp_loop_rounds 1 ?_
    rw [rounds_succ]
    go_wp2
    go_ret
    exact ⟨rfl, Le.refl _⟩

theorem exactlyRing (f : Nat) (c : Value) (p : Rg → Bool) (hc : ∀ (u : Value) (w : World), (callFunc f #[c, u]).run Tryz.prog w = .ok (.enter f #[c, u]) w) (v : Value) (xs : List Rg) (n : Int) (w : World)
    (hp : ∀ w', Le w w' → ∀ (u : Value) (x : Rg), x ∈ xs → (xs.length : Int) = n → HasR w' u x → Calls Tryz.prog f #[c, u] w' fun e w'' => e = .returned (.bool (p x)) ∧ Le w' w'') (hx : HasRs w v xs) (hm : xs.length ≤ 9223372036854775807) :
    Calls Tryz.prog 54 #[v, .int .i64 n, .func (.func f) #[c] #[]] w fun e w' => e = .returned (.bool (decide ((xs.length : Int) = n) && xs.all p)) ∧ Le w w' := by
  by_cases hn : (xs.length : Int) = n
  · have hall := allRing f c p hc v xs w (fun w' l u x hm h => hp w' l u x hm hn h) hx hm
    rw [decide_eq_true hn, Bool.true_and]
    generalize xs.all p = y at hall
    obtain ⟨a, cap, rfl, _, _, _⟩ := hx.open
    have hb : ((xs.length : Int) == n) = true := by simp [hn]
    clear hp hc hn
    go_enter Tryz.func54, Tryz.ntmps54
    go_wp2_with fail
    refine hall.mono ?_
    rintro e w1 ⟨rfl, l1⟩
    go_wp2_with fail
    go_ret
    exact ⟨rfl, l1⟩
  · rw [decide_eq_false hn, Bool.false_and]
    obtain ⟨a, cap, rfl, _, _, _⟩ := hx.open
    have hb : ((xs.length : Int) == n) = false := by simp [hn]
    clear hp hc hn
    go_enter Tryz.func54, Tryz.ntmps54
    go_wp2_with fail
    go_ret
    exact ⟨rfl, Le.refl _⟩

set_option maxHeartbeats 1000000 in
theorem allSlot (f : Nat) (c : Value) (p : Slt → Bool) (hc : ∀ (u : Value) (w : World), (callFunc f #[c, u]).run Tryz.prog w = .ok (.enter f #[c, u]) w) (v : Value) (xs : List Slt) (w : World)
    (hp : ∀ w', Le w w' → ∀ (u : Value) (x : Slt), x ∈ xs → IsSlot w' u x → Calls Tryz.prog f #[c, u] w' fun e w'' => e = .returned (.bool (p x)) ∧ Le w' w'') (hx : HasL w v xs) (hm : xs.length ≤ 9223372036854775807) :
    Calls Tryz.prog 79 #[v, .func (.func f) #[c] #[]] w fun e w' => e = .returned (.bool (xs.all p)) ∧ Le w w' := by
  obtain ⟨a, cap, rfl, hc', _, hx⟩ := hx.open
  by_cases h0 : 0 < xs.length
  · obtain ⟨b, off, rfl, hcell⟩ := hx h0
    clear hx
    obtain ⟨L, hL⟩ : ∃ L, L = xs.length := ⟨_, rfl⟩
    have HL : Hid (L = xs.length) := hL
    rw [← hL] at hm h0 hc' hcell ⊢
    clear hL
    go_enter Tryz.func79, Tryz.ntmps79
    go_wp2
    go_loopw [9] (fun i wr => ∃ k : Nat, k ≤ L ∧ i = .int .i64 k ∧ Hid ((xs.take k).all p = true) ∧ Le w wr) (fun i _ => L - (intOf i).toNat)
    case atStart => exact ⟨0, by omega, rfl, rfl, Le.refl _⟩
    case round =>
      obtain ⟨k, hk, rfl, HA, hle⟩ := hrel
      by_cases hlt : k < L
      · have rA := hcell k hlt
        obtain ⟨s, hs⟩ : ∃ s, s = xs.getD k Slt.zero := ⟨_, rfl⟩
        have HS : Hid (s = xs.getD k Slt.zero) := hs
        have hmem : s ∈ xs := by rw [hs]; exact getD_mem (by have := HL.out; omega)
        rw [← hs] at rA
        obtain ⟨x0, x1, x2, x3, x4⟩ := rA.le hle
        have hlt' : (k : Int) < (L : Int) := by omega
        clear hs hcell
        have hm2 := fun o => hp (wr.alloc o) (hle.trans (Le.alloc _ _)) (s.v) s hmem (rfl)
        clear hp hmem
        cases hh : p s
        · simp only [hh] at hm2
          go_wp2_with fail
          refine (hm2 _).mono ?_
          rintro e w1 ⟨rfl, l1⟩
          go_wp2
          go_ret
          exact ⟨ret_bool (allE_no (k := k) (d := Slt.zero) (by have := HL.out; omega) (by rw [← HS.out]; exact hh)).symm, (hle.trans (Le.alloc _ _)).trans l1⟩
        · simp only [hh] at hm2
          go_wp2_with fail
          refine (hm2 _).mono ?_
          rintro e w1 ⟨rfl, l1⟩
          go_wp2
          go_roundw
          case rel => exact ⟨k + 1, by omega, by go_num, allE_take (d := Slt.zero) (by have := HL.out; omega) HA.out (by rw [← HS.out]; exact hh), (hle.trans (Le.alloc _ _)).trans l1⟩
          case measure => simp [intOf]; omega
      · obtain rfl : k = L := by omega
        go_wp2
        go_ret
        exact ⟨ret_bool (by have := HA.out; rw [HL.out, List.take_length] at this; exact this.symm), hle⟩
  · have hxn : xs = [] := by cases xs with | nil => rfl | cons _ _ => simp at h0
    subst hxn
    go_enter Tryz.func79, Tryz.ntmps79
    go_wp2
    refine wp_loop_rounds 1 ?_
    rw [rounds_succ]
    go_wp2
    go_ret
    exact ⟨rfl, Le.refl _⟩

set_option maxHeartbeats 1000000 in
theorem allRep (f : Nat) (c : Value) (p : Rp → Bool) (hc : ∀ (u : Value) (w : World), (callFunc f #[c, u]).run Tryz.prog w = .ok (.enter f #[c, u]) w) (v : Value) (xs : List Rp) (w : World)
    (hp : ∀ w', Le w w' → ∀ (u : Value) (x : Rp), x ∈ xs → HasP w' u x → Calls Tryz.prog f #[c, u] w' fun e w'' => e = .returned (.bool (p x)) ∧ Le w' w'') (hx : HasPs w v xs) (hm : xs.length ≤ 9223372036854775807) :
    Calls Tryz.prog 81 #[v, .func (.func f) #[c] #[]] w fun e w' => e = .returned (.bool (xs.all p)) ∧ Le w w' := by
  obtain ⟨a, cap, rfl, hc', _, hx⟩ := hx.open
  by_cases h0 : 0 < xs.length
  · obtain ⟨b, off, rfl, hcell⟩ := hx h0
    clear hx
    obtain ⟨L, hL⟩ : ∃ L, L = xs.length := ⟨_, rfl⟩
    have HL : Hid (L = xs.length) := hL
    rw [← hL] at hm h0 hc' hcell ⊢
    clear hL
    go_enter Tryz.func81, Tryz.ntmps81
    go_wp2
    go_loopw [9] (fun i wr => ∃ k : Nat, k ≤ L ∧ i = .int .i64 k ∧ Hid ((xs.take k).all p = true) ∧ Le w wr) (fun i _ => L - (intOf i).toNat)
    case atStart => exact ⟨0, by omega, rfl, rfl, Le.refl _⟩
    case round =>
      obtain ⟨k, hk, rfl, HA, hle⟩ := hrel
      by_cases hlt : k < L
      · obtain ⟨vs, c0, l0, rA, hq0, hq1, hq2⟩ := hcell k hlt
        obtain ⟨s, hs⟩ : ∃ s, s = xs.getD k Rp.zero := ⟨_, rfl⟩
        have HS : Hid (s = xs.getD k Rp.zero) := hs
        have hmem : s ∈ xs := by rw [hs]; exact getD_mem (by have := HL.out; omega)
        rw [← hs] at hq0 hq1 hq2
        obtain ⟨x0, x1, x2, x3, x4, x5⟩ := rA.le hle
        have hlt' : (k : Int) < (L : Int) := by omega
        clear hs hcell
        have hm2 := fun o => hp (wr.alloc o) (hle.trans (Le.alloc _ _)) (repV vs c0 l0) s hmem (⟨vs, c0, l0, rfl, fun i hi => ((hq0 i hi).le hle).le (Le.alloc _ _), (hq1.le hle).le (Le.alloc _ _), (hq2.le hle).le (Le.alloc _ _)⟩)
        clear hp hmem
        cases hh : p s
        · simp only [hh] at hm2
          go_wp2_with fail
          refine (hm2 _).mono ?_
          rintro e w1 ⟨rfl, l1⟩
          go_wp2
          go_ret
          exact ⟨ret_bool (allE_no (k := k) (d := Rp.zero) (by have := HL.out; omega) (by rw [← HS.out]; exact hh)).symm, (hle.trans (Le.alloc _ _)).trans l1⟩
        · simp only [hh] at hm2
          go_wp2_with fail
          refine (hm2 _).mono ?_
          rintro e w1 ⟨rfl, l1⟩
          go_wp2
          go_roundw
          case rel => exact ⟨k + 1, by omega, by go_num, allE_take (d := Rp.zero) (by have := HL.out; omega) HA.out (by rw [← HS.out]; exact hh), (hle.trans (Le.alloc _ _)).trans l1⟩
          case measure => simp [intOf]; omega
      · obtain rfl : k = L := by omega
        go_wp2
        go_ret
        exact ⟨ret_bool (by have := HA.out; rw [HL.out, List.take_length] at this; exact this.symm), hle⟩
  · have hxn : xs = [] := by cases xs with | nil => rfl | cons _ _ => simp at h0
    subst hxn
    go_enter Tryz.func81, Tryz.ntmps81
    go_wp2
    refine wp_loop_rounds 1 ?_
    rw [rounds_succ]
    go_wp2
    go_ret
    exact ⟨rfl, Le.refl _⟩

theorem exactlyRep (f : Nat) (c : Value) (p : Rp → Bool) (hc : ∀ (u : Value) (w : World), (callFunc f #[c, u]).run Tryz.prog w = .ok (.enter f #[c, u]) w) (v : Value) (xs : List Rp) (n : Int) (w : World)
    (hp : ∀ w', Le w w' → ∀ (u : Value) (x : Rp), x ∈ xs → (xs.length : Int) = n → HasP w' u x → Calls Tryz.prog f #[c, u] w' fun e w'' => e = .returned (.bool (p x)) ∧ Le w' w'') (hx : HasPs w v xs) (hm : xs.length ≤ 9223372036854775807) :
    Calls Tryz.prog 56 #[v, .int .i64 n, .func (.func f) #[c] #[]] w fun e w' => e = .returned (.bool (decide ((xs.length : Int) = n) && xs.all p)) ∧ Le w w' := by
  by_cases hn : (xs.length : Int) = n
  · have hall := allRep f c p hc v xs w (fun w' l u x hm h => hp w' l u x hm hn h) hx hm
    rw [decide_eq_true hn, Bool.true_and]
    generalize xs.all p = y at hall
    obtain ⟨a, cap, rfl, _, _, _⟩ := hx.open
    have hb : ((xs.length : Int) == n) = true := by simp [hn]
    clear hp hc hn
    go_enter Tryz.func56, Tryz.ntmps56
    go_wp2_with fail
    refine hall.mono ?_
    rintro e w1 ⟨rfl, l1⟩
    go_wp2_with fail
    go_ret
    exact ⟨rfl, l1⟩
  · rw [decide_eq_false hn, Bool.false_and]
    obtain ⟨a, cap, rfl, _, _, _⟩ := hx.open
    have hb : ((xs.length : Int) == n) = false := by simp [hn]
    clear hp hc hn
    go_enter Tryz.func56, Tryz.ntmps56
    go_wp2_with fail
    go_ret
    exact ⟨rfl, Le.refl _⟩

set_option maxHeartbeats 1000000 in
theorem allTh (f : Nat) (c : Value) (p : Th → Bool) (hc : ∀ (u : Value) (w : World), (callFunc f #[c, u]).run Tryz.prog w = .ok (.enter f #[c, u]) w) (v : Value) (xs : List Th) (w : World)
    (hp : ∀ w', Le w w' → ∀ (u : Value) (x : Th), x ∈ xs → HasT w' u x → Calls Tryz.prog f #[c, u] w' fun e w'' => e = .returned (.bool (p x)) ∧ Le w' w'') (hx : HasTs w v xs) (hm : xs.length ≤ 9223372036854775807) :
    Calls Tryz.prog 85 #[v, .func (.func f) #[c] #[]] w fun e w' => e = .returned (.bool (xs.all p)) ∧ Le w w' := by
  obtain ⟨a, cap, rfl, hc', _, hx⟩ := hx.open
  by_cases h0 : 0 < xs.length
  · obtain ⟨b, off, rfl, hcell⟩ := hx h0
    clear hx
    obtain ⟨L, hL⟩ : ∃ L, L = xs.length := ⟨_, rfl⟩
    have HL : Hid (L = xs.length) := hL
    rw [← hL] at hm h0 hc' hcell ⊢
    clear hL
    go_enter Tryz.func85, Tryz.ntmps85
    go_wp2
    go_loopw [9] (fun i wr => ∃ k : Nat, k ≤ L ∧ i = .int .i64 k ∧ Hid ((xs.take k).all p = true) ∧ Le w wr) (fun i _ => L - (intOf i).toNat)
    case atStart => exact ⟨0, by omega, rfl, rfl, Le.refl _⟩
    case round =>
      obtain ⟨k, hk, rfl, HA, hle⟩ := hrel
      by_cases hlt : k < L
      · obtain ⟨q, t, rA, hq, ht⟩ := hcell k hlt
        obtain ⟨s, hs⟩ : ∃ s, s = xs.getD k Th.zero := ⟨_, rfl⟩
        have HS : Hid (s = xs.getD k Th.zero) := hs
        have hmem : s ∈ xs := by rw [hs]; exact getD_mem (by have := HL.out; omega)
        rw [← hs] at rA hq ht
        obtain ⟨x0, x1, x2, x3, x4, x5, x6, x7, x8, x9, x10, x11⟩ := rA.le hle
        have hlt' : (k : Int) < (L : Int) := by omega
        clear hs hcell
        have hm2 := fun o => hp (wr.alloc o) (hle.trans (Le.alloc _ _)) (thV s q t) s hmem (⟨q, t, rfl, (hq.le hle).le (Le.alloc _ _), (ht.le hle).le (Le.alloc _ _)⟩)
        clear hp hmem
        cases hh : p s
        · simp only [hh] at hm2
          go_wp2_with fail
          refine (hm2 _).mono ?_
          rintro e w1 ⟨rfl, l1⟩
          go_wp2
          go_ret
          exact ⟨ret_bool (allE_no (k := k) (d := Th.zero) (by have := HL.out; omega) (by rw [← HS.out]; exact hh)).symm, (hle.trans (Le.alloc _ _)).trans l1⟩
        · simp only [hh] at hm2
          go_wp2_with fail
          refine (hm2 _).mono ?_
          rintro e w1 ⟨rfl, l1⟩
          go_wp2
          go_roundw
          case rel => exact ⟨k + 1, by omega, by go_num, allE_take (d := Th.zero) (by have := HL.out; omega) HA.out (by rw [← HS.out]; exact hh), (hle.trans (Le.alloc _ _)).trans l1⟩
          case measure => simp [intOf]; omega
      · obtain rfl : k = L := by omega
        go_wp2
        go_ret
        exact ⟨ret_bool (by have := HA.out; rw [HL.out, List.take_length] at this; exact this.symm), hle⟩
  · have hxn : xs = [] := by cases xs with | nil => rfl | cons _ _ => simp at h0
    subst hxn
    go_enter Tryz.func85, Tryz.ntmps85
    go_wp2
    refine wp_loop_rounds 1 ?_
    rw [rounds_succ]
    go_wp2
    go_ret
    exact ⟨rfl, Le.refl _⟩

theorem exactlyTh (f : Nat) (c : Value) (p : Th → Bool) (hc : ∀ (u : Value) (w : World), (callFunc f #[c, u]).run Tryz.prog w = .ok (.enter f #[c, u]) w) (v : Value) (xs : List Th) (n : Int) (w : World)
    (hp : ∀ w', Le w w' → ∀ (u : Value) (x : Th), x ∈ xs → (xs.length : Int) = n → HasT w' u x → Calls Tryz.prog f #[c, u] w' fun e w'' => e = .returned (.bool (p x)) ∧ Le w' w'') (hx : HasTs w v xs) (hm : xs.length ≤ 9223372036854775807) :
    Calls Tryz.prog 58 #[v, .int .i64 n, .func (.func f) #[c] #[]] w fun e w' => e = .returned (.bool (decide ((xs.length : Int) = n) && xs.all p)) ∧ Le w w' := by
  by_cases hn : (xs.length : Int) = n
  · have hall := allTh f c p hc v xs w (fun w' l u x hm h => hp w' l u x hm hn h) hx hm
    rw [decide_eq_true hn, Bool.true_and]
    generalize xs.all p = y at hall
    obtain ⟨a, cap, rfl, _, _, _⟩ := hx.open
    have hb : ((xs.length : Int) == n) = true := by simp [hn]
    clear hp hc hn
    go_enter Tryz.func58, Tryz.ntmps58
    go_wp2_with fail
    refine hall.mono ?_
    rintro e w1 ⟨rfl, l1⟩
    go_wp2_with fail
    go_ret
    exact ⟨rfl, l1⟩
  · rw [decide_eq_false hn, Bool.false_and]
    obtain ⟨a, cap, rfl, _, _, _⟩ := hx.open
    have hb : ((xs.length : Int) == n) = false := by simp [hn]
    clear hp hc hn
    go_enter Tryz.func58, Tryz.ntmps58
    go_wp2_with fail
    go_ret
    exact ⟨rfl, Le.refl _⟩

set_option maxHeartbeats 1000000 in
theorem allEv (f : Nat) (c : Value) (p : Ev → Bool) (hc : ∀ (u : Value) (w : World), (callFunc f #[c, u]).run Tryz.prog w = .ok (.enter f #[c, u]) w) (v : Value) (xs : List Ev) (w : World)
    (hp : ∀ w', Le w w' → ∀ (u : Value) (x : Ev), x ∈ xs → IsEv w' u x → Calls Tryz.prog f #[c, u] w' fun e w'' => e = .returned (.bool (p x)) ∧ Le w' w'') (hx : HasE evK w v xs) (hm : xs.length ≤ 9223372036854775807) :
    Calls Tryz.prog 91 #[v, .func (.func f) #[c] #[]] w fun e w' => e = .returned (.bool (xs.all p)) ∧ Le w w' := by
  obtain ⟨a, cap, rfl, hc', _, hx⟩ := hx.openEv
  by_cases h0 : 0 < xs.length
  · obtain ⟨b, off, rfl, hcell⟩ := hx h0
    clear hx
    obtain ⟨L, hL⟩ : ∃ L, L = xs.length := ⟨_, rfl⟩
    have HL : Hid (L = xs.length) := hL
    rw [← hL] at hm h0 hc' hcell ⊢
    clear hL
    go_enter Tryz.func91, Tryz.ntmps91
    go_wp2
    go_loopw [9] (fun i wr => ∃ k : Nat, k ≤ L ∧ i = .int .i64 k ∧ Hid ((xs.take k).all p = true) ∧ Le w wr) (fun i _ => L - (intOf i).toNat)
    case atStart => exact ⟨0, by omega, rfl, rfl, Le.refl _⟩
    case round =>
      obtain ⟨k, hk, rfl, HA, hle⟩ := hrel
      by_cases hlt : k < L
      · have rA := hcell k hlt
        obtain ⟨s, hs⟩ : ∃ s, s = xs.getD k Ev.zero := ⟨_, rfl⟩
        have HS : Hid (s = xs.getD k Ev.zero) := hs
        have hmem : s ∈ xs := by rw [hs]; exact getD_mem (by have := HL.out; omega)
        rw [← hs] at rA
        obtain ⟨x0, x1, x2, x3, x4, x5⟩ := rA.le hle
        have hlt' : (k : Int) < (L : Int) := by omega
        clear hs hcell
        have hm2 := fun o => hp (wr.alloc o) (hle.trans (Le.alloc _ _)) (evV s) s hmem (rfl)
        clear hp hmem
        cases hh : p s
        · simp only [hh] at hm2
          go_wp2_with fail
          refine (hm2 _).mono ?_
          rintro e w1 ⟨rfl, l1⟩
          go_wp2
          go_ret
          exact ⟨ret_bool (allE_no (k := k) (d := Ev.zero) (by have := HL.out; omega) (by rw [← HS.out]; exact hh)).symm, (hle.trans (Le.alloc _ _)).trans l1⟩
        · simp only [hh] at hm2
          go_wp2_with fail
          refine (hm2 _).mono ?_
          rintro e w1 ⟨rfl, l1⟩
          go_wp2
          go_roundw
          case rel => exact ⟨k + 1, by omega, by go_num, allE_take (d := Ev.zero) (by have := HL.out; omega) HA.out (by rw [← HS.out]; exact hh), (hle.trans (Le.alloc _ _)).trans l1⟩
          case measure => simp [intOf]; omega
      · obtain rfl : k = L := by omega
        go_wp2
        go_ret
        exact ⟨ret_bool (by have := HA.out; rw [HL.out, List.take_length] at this; exact this.symm), hle⟩
  · have hxn : xs = [] := by cases xs with | nil => rfl | cons _ _ => simp at h0
    subst hxn
    go_enter Tryz.func91, Tryz.ntmps91
    go_wp2
    refine wp_loop_rounds 1 ?_
    rw [rounds_succ]
    go_wp2
    go_ret
    exact ⟨rfl, Le.refl _⟩

theorem atMostEv (f : Nat) (c : Value) (p : Ev → Bool) (hc : ∀ (u : Value) (w : World), (callFunc f #[c, u]).run Tryz.prog w = .ok (.enter f #[c, u]) w) (v : Value) (xs : List Ev) (n : Int) (w : World)
    (hp : ∀ w', Le w w' → ∀ (u : Value) (x : Ev), x ∈ xs → (xs.length : Int) ≤ n → IsEv w' u x → Calls Tryz.prog f #[c, u] w' fun e w'' => e = .returned (.bool (p x)) ∧ Le w' w'') (hx : HasE evK w v xs) (hm : xs.length ≤ 9223372036854775807) :
    Calls Tryz.prog 60 #[v, .int .i64 n, .func (.func f) #[c] #[]] w fun e w' => e = .returned (.bool (decide ((xs.length : Int) ≤ n) && xs.all p)) ∧ Le w w' := by
  by_cases hn : (xs.length : Int) ≤ n
  · have hall := allEv f c p hc v xs w (fun w' l u x hm h => hp w' l u x hm hn h) hx hm
    rw [decide_eq_true hn, Bool.true_and]
    generalize xs.all p = y at hall
    obtain ⟨a, cap, rfl, _, _, _⟩ := hx.openEv
    clear hp hc
    go_enter Tryz.func60, Tryz.ntmps60
    go_wp2_with fail
    refine hall.mono ?_
    rintro e w1 ⟨rfl, l1⟩
    go_wp2_with fail
    go_ret
    exact ⟨rfl, l1⟩
  · rw [decide_eq_false hn, Bool.false_and]
    obtain ⟨a, cap, rfl, _, _, _⟩ := hx.openEv
    have hb : n < (xs.length : Int) := by omega
    clear hp hc hn
    go_enter Tryz.func60, Tryz.ntmps60
    go_wp2_with fail
    go_ret
    exact ⟨rfl, Le.refl _⟩

set_option maxHeartbeats 1000000 in
theorem allNum (f : Nat) (c : Value) (p : Int → Bool) (hc : ∀ (u : Value) (w : World), (callFunc f #[c, u]).run Tryz.prog w = .ok (.enter f #[c, u]) w) (v : Value) (xs : List Int) (w : World)
    (hp : ∀ w', Le w w' → ∀ (u : Value) (x : Int), x ∈ xs → IsInt w' u x → Calls Tryz.prog f #[c, u] w' fun e w'' => e = .returned (.bool (p x)) ∧ Le w' w'') (hx : Has w v xs) (hm : xs.length ≤ 9223372036854775807) :
    Calls Tryz.prog 100 #[v, .func (.func f) #[c] #[]] w fun e w' => e = .returned (.bool (xs.all p)) ∧ Le w w' := by
  obtain ⟨a, cap, rfl, hc', _, hx⟩ := hx.open
  by_cases h0 : 0 < xs.length
  · obtain ⟨b, off, rfl, hcell⟩ := hx h0
    clear hx
    obtain ⟨L, hL⟩ : ∃ L, L = xs.length := ⟨_, rfl⟩
    have HL : Hid (L = xs.length) := hL
    rw [← hL] at hm h0 hc' hcell ⊢
    clear hL
    go_enter Tryz.func100, Tryz.ntmps100
    go_wp2
    go_loopw [9] (fun i wr => ∃ k : Nat, k ≤ L ∧ i = .int .i64 k ∧ Hid ((xs.take k).all p = true) ∧ Le w wr) (fun i _ => L - (intOf i).toNat)
    case atStart => exact ⟨0, by omega, rfl, rfl, Le.refl _⟩
    case round =>
      obtain ⟨k, hk, rfl, HA, hle⟩ := hrel
      by_cases hlt : k < L
      · have rA := hcell k hlt
        obtain ⟨s, hs⟩ : ∃ s, s = xs.getD k 0 := ⟨_, rfl⟩
        have HS : Hid (s = xs.getD k 0) := hs
        have hmem : s ∈ xs := by rw [hs]; exact getD_mem (by have := HL.out; omega)
        rw [← hs] at rA
        have x0 := cell_le rA hle
        have hlt' : (k : Int) < (L : Int) := by omega
        clear hs hcell
        have hm2 := hp _ hle (.int .i64 s) s hmem (rfl)
        clear hp hmem
        cases hh : p s
        · rw [hh] at hm2
          go_wp2_with fail
          refine hm2.mono ?_
          rintro e w1 ⟨rfl, l1⟩
          go_wp2
          go_ret
          exact ⟨ret_bool (allE_no (k := k) (d := 0) (by have := HL.out; omega) (by rw [← HS.out]; exact hh)).symm, hle.trans l1⟩
        · rw [hh] at hm2
          go_wp2_with fail
          refine hm2.mono ?_
          rintro e w1 ⟨rfl, l1⟩
          go_wp2
          go_roundw
          case rel => exact ⟨k + 1, by omega, by go_num, allE_take (d := 0) (by have := HL.out; omega) HA.out (by rw [← HS.out]; exact hh), hle.trans l1⟩
          case measure => simp [intOf]; omega
      · obtain rfl : k = L := by omega
        go_wp2
        go_ret
        exact ⟨ret_bool (by have := HA.out; rw [HL.out, List.take_length] at this; exact this.symm), hle⟩
  · have hxn : xs = [] := by cases xs with | nil => rfl | cons _ _ => simp at h0
    subst hxn
    go_enter Tryz.func100, Tryz.ntmps100
    go_wp2
    refine wp_loop_rounds 1 ?_
    rw [rounds_succ]
    go_wp2
    go_ret
    exact ⟨rfl, Le.refl _⟩

theorem exactlyNum (f : Nat) (c : Value) (p : Int → Bool) (hc : ∀ (u : Value) (w : World), (callFunc f #[c, u]).run Tryz.prog w = .ok (.enter f #[c, u]) w) (v : Value) (xs : List Int) (n : Int) (w : World)
    (hp : ∀ w', Le w w' → ∀ (u : Value) (x : Int), x ∈ xs → (xs.length : Int) = n → IsInt w' u x → Calls Tryz.prog f #[c, u] w' fun e w'' => e = .returned (.bool (p x)) ∧ Le w' w'') (hx : Has w v xs) (hm : xs.length ≤ 9223372036854775807) :
    Calls Tryz.prog 84 #[v, .int .i64 n, .func (.func f) #[c] #[]] w fun e w' => e = .returned (.bool (decide ((xs.length : Int) = n) && xs.all p)) ∧ Le w w' := by
  by_cases hn : (xs.length : Int) = n
  · have hall := allNum f c p hc v xs w (fun w' l u x hm h => hp w' l u x hm hn h) hx hm
    rw [decide_eq_true hn, Bool.true_and]
    generalize xs.all p = y at hall
    obtain ⟨a, cap, rfl, _, _, _⟩ := hx.open
    have hb : ((xs.length : Int) == n) = true := by simp [hn]
    clear hp hc hn
    go_enter Tryz.func84, Tryz.ntmps84
    go_wp2_with fail
    refine hall.mono ?_
    rintro e w1 ⟨rfl, l1⟩
    go_wp2_with fail
    go_ret
    exact ⟨rfl, l1⟩
  · rw [decide_eq_false hn, Bool.false_and]
    obtain ⟨a, cap, rfl, _, _, _⟩ := hx.open
    have hb : ((xs.length : Int) == n) = false := by simp [hn]
    clear hp hc hn
    go_enter Tryz.func84, Tryz.ntmps84
    go_wp2_with fail
    go_ret
    exact ⟨rfl, Le.refl _⟩

theorem atMostNum (f : Nat) (c : Value) (p : Int → Bool) (hc : ∀ (u : Value) (w : World), (callFunc f #[c, u]).run Tryz.prog w = .ok (.enter f #[c, u]) w) (v : Value) (xs : List Int) (n : Int) (w : World)
    (hp : ∀ w', Le w w' → ∀ (u : Value) (x : Int), x ∈ xs → (xs.length : Int) ≤ n → IsInt w' u x → Calls Tryz.prog f #[c, u] w' fun e w'' => e = .returned (.bool (p x)) ∧ Le w' w'') (hx : Has w v xs) (hm : xs.length ≤ 9223372036854775807) :
    Calls Tryz.prog 89 #[v, .int .i64 n, .func (.func f) #[c] #[]] w fun e w' => e = .returned (.bool (decide ((xs.length : Int) ≤ n) && xs.all p)) ∧ Le w w' := by
  by_cases hn : (xs.length : Int) ≤ n
  · have hall := allNum f c p hc v xs w (fun w' l u x hm h => hp w' l u x hm hn h) hx hm
    rw [decide_eq_true hn, Bool.true_and]
    generalize xs.all p = y at hall
    obtain ⟨a, cap, rfl, _, _, _⟩ := hx.open
    clear hp hc
    go_enter Tryz.func89, Tryz.ntmps89
    go_wp2_with fail
    refine hall.mono ?_
    rintro e w1 ⟨rfl, l1⟩
    go_wp2_with fail
    go_ret
    exact ⟨rfl, l1⟩
  · rw [decide_eq_false hn, Bool.false_and]
    obtain ⟨a, cap, rfl, _, _, _⟩ := hx.open
    have hb : n < (xs.length : Int) := by omega
    clear hp hc hn
    go_enter Tryz.func89, Tryz.ntmps89
    go_wp2_with fail
    go_ret
    exact ⟨rfl, Le.refl _⟩

set_option maxHeartbeats 1000000 in
theorem allNum0 (f : Nat) (p : Int → Bool) (hc : ∀ (u : Value) (w : World), (callFunc f #[u]).run Tryz.prog w = .ok (.enter f #[u]) w) (v : Value) (xs : List Int) (w : World)
    (hp : ∀ w', Le w w' → ∀ (u : Value) (x : Int), x ∈ xs → IsInt w' u x → Calls Tryz.prog f #[u] w' fun e w'' => e = .returned (.bool (p x)) ∧ Le w' w'') (hx : Has w v xs) (hm : xs.length ≤ 9223372036854775807) :
    Calls Tryz.prog 100 #[v, .func (.func f) #[] #[]] w fun e w' => e = .returned (.bool (xs.all p)) ∧ Le w w' := by
  obtain ⟨a, cap, rfl, hc', _, hx⟩ := hx.open
  by_cases h0 : 0 < xs.length
  · obtain ⟨b, off, rfl, hcell⟩ := hx h0
    clear hx
    obtain ⟨L, hL⟩ : ∃ L, L = xs.length := ⟨_, rfl⟩
    have HL : Hid (L = xs.length) := hL
    rw [← hL] at hm h0 hc' hcell ⊢
    clear hL
    go_enter Tryz.func100, Tryz.ntmps100
    go_wp2
    go_loopw [9] (fun i wr => ∃ k : Nat, k ≤ L ∧ i = .int .i64 k ∧ Hid ((xs.take k).all p = true) ∧ Le w wr) (fun i _ => L - (intOf i).toNat)
    case atStart => exact ⟨0, by omega, rfl, rfl, Le.refl _⟩
    case round =>
      obtain ⟨k, hk, rfl, HA, hle⟩ := hrel
      by_cases hlt : k < L
      · have rA := hcell k hlt
        obtain ⟨s, hs⟩ : ∃ s, s = xs.getD k 0 := ⟨_, rfl⟩
        have HS : Hid (s = xs.getD k 0) := hs
        have hmem : s ∈ xs := by rw [hs]; exact getD_mem (by have := HL.out; omega)
        rw [← hs] at rA
        have x0 := cell_le rA hle
        have hlt' : (k : Int) < (L : Int) := by omega
        clear hs hcell
        have hm2 := hp _ hle (.int .i64 s) s hmem (rfl)
        clear hp hmem
        cases hh : p s
        · rw [hh] at hm2
          go_wp2_with fail
          refine hm2.mono ?_
          rintro e w1 ⟨rfl, l1⟩
          go_wp2
          go_ret
          exact ⟨ret_bool (allE_no (k := k) (d := 0) (by have := HL.out; omega) (by rw [← HS.out]; exact hh)).symm, hle.trans l1⟩
        · rw [hh] at hm2
          go_wp2_with fail
          refine hm2.mono ?_
          rintro e w1 ⟨rfl, l1⟩
          go_wp2
          go_roundw
          case rel => exact ⟨k + 1, by omega, by go_num, allE_take (d := 0) (by have := HL.out; omega) HA.out (by rw [← HS.out]; exact hh), hle.trans l1⟩
          case measure => simp [intOf]; omega
      · obtain rfl : k = L := by omega
        go_wp2
        go_ret
        exact ⟨ret_bool (by have := HA.out; rw [HL.out, List.take_length] at this; exact this.symm), hle⟩
  · have hxn : xs = [] := by cases xs with | nil => rfl | cons _ _ => simp at h0
    subst hxn
    go_enter Tryz.func100, Tryz.ntmps100
    go_wp2
    refine wp_loop_rounds 1 ?_
    rw [rounds_succ]
    go_wp2
    go_ret
    exact ⟨rfl, Le.refl _⟩

theorem atMostNum0 (f : Nat) (p : Int → Bool) (hc : ∀ (u : Value) (w : World), (callFunc f #[u]).run Tryz.prog w = .ok (.enter f #[u]) w) (v : Value) (xs : List Int) (n : Int) (w : World)
    (hp : ∀ w', Le w w' → ∀ (u : Value) (x : Int), x ∈ xs → (xs.length : Int) ≤ n → IsInt w' u x → Calls Tryz.prog f #[u] w' fun e w'' => e = .returned (.bool (p x)) ∧ Le w' w'') (hx : Has w v xs) (hm : xs.length ≤ 9223372036854775807) :
    Calls Tryz.prog 89 #[v, .int .i64 n, .func (.func f) #[] #[]] w fun e w' => e = .returned (.bool (decide ((xs.length : Int) ≤ n) && xs.all p)) ∧ Le w w' := by
  by_cases hn : (xs.length : Int) ≤ n
  · have hall := allNum0 f p hc v xs w (fun w' l u x hm h => hp w' l u x hm hn h) hx hm
    rw [decide_eq_true hn, Bool.true_and]
    generalize xs.all p = y at hall
    obtain ⟨a, cap, rfl, _, _, _⟩ := hx.open
    clear hp hc
    go_enter Tryz.func89, Tryz.ntmps89
    go_wp2_with fail
    refine hall.mono ?_
    rintro e w1 ⟨rfl, l1⟩
    go_wp2_with fail
    go_ret
    exact ⟨rfl, l1⟩
  · rw [decide_eq_false hn, Bool.false_and]
    obtain ⟨a, cap, rfl, _, _, _⟩ := hx.open
    have hb : n < (xs.length : Int) := by omega
    clear hp hc hn
    go_enter Tryz.func89, Tryz.ntmps89
    go_wp2_with fail
    go_ret
    exact ⟨rfl, Le.refl _⟩

end Go.Proofs.YtjmnlghocbapkaaGreat

/-
  THE WALKS over package start's looker (within, mayPlace, isThread, mayHolder, maySlot, mayEvent, mayCursors, mayRing): what each answers, where the Config may be. Condition: that the slots can be copied.
-/
namespace Go.Proofs.YtjmnlghocbapkaaGreat
open Go.RowKit

theorem Has.len {w : World} {q : Sl} {xs : List Int} (h : Has w (slV q) xs) : q.2.1 = xs.length := by
  obtain ⟨a, cap, hv, _⟩ := h
  simp only [slV, Value.slice.injEq] at hv
  exact hv.2.1
/-- A looker's six cells. -/
abbrev cellsK (c : Cfg) (q : Sl) : Array Value := #[.int .i64 c.o, .int .i64 c.r, .int .i64 c.l, .int .i64 c.t, .int .i64 c.s, slV q]
abbrev lookV (c : Cfg) (q : Sl) : Value := .agg (cellsK c q)
theorem Box.look {w : World} {g : Nat} {c : Cfg} {q : Sl} {t : TypeId} (h : Box w g (cellsK c q) t) :
    w.cell? ⟨g, 0, none⟩ = some (.int .i64 c.o) ∧ w.cell? ⟨g, 1, none⟩ = some (.int .i64 c.r) ∧ w.cell? ⟨g, 2, none⟩ = some (.int .i64 c.l) ∧ w.cell? ⟨g, 3, none⟩ = some (.int .i64 c.t) ∧ w.cell? ⟨g, 4, none⟩ = some (.int .i64 c.s) ∧ w.cell? ⟨g, 5, none⟩ = some (slV q) :=
  ⟨h.cell 0, h.cell 1, h.cell 2, h.cell 3, h.cell 4, h.cell 5⟩

theorem startWithin (x a b : Int) (w : World) : Calls Tryz.prog 86 #[.int .i64 x, .int .i64 a, .int .i64 b] w fun e w' => e = .returned (.bool (inB a x b)) ∧ w = w' := by
  by_cases h : a ≤ x
  all_goals
    go_enter Tryz.func86, Tryz.ntmps86
    go_wp2
    go_ret
    exact ⟨ret_bool (by simp [inB, h]; try omega), rfl⟩

theorem startMayPlace (x : Int) (w : World) : Calls Tryz.prog 88 #[.int .i64 x] w fun e w' => e = .returned (.bool (inB 0 x 1048576)) ∧ w = w' := by
  go_enter Tryz.func88, Tryz.ntmps88
  go_wp2_with fail
  refine (startWithin _ _ _ _).mono ?_
  rintro e _ ⟨rfl, rfl⟩
  go_wp2_with fail
  go_ret
  exact ⟨rfl, rfl⟩

theorem lookIsThread (c : Cfg) (q : Sl) (x : Int) (w : World) (hc : c.ok = true) : Calls Tryz.prog 90 #[lookV c q, .int .i64 x] w fun e w' => e = .returned (.bool (inB 0 x (c.t - 1))) ∧ Le w w' := by
  obtain ⟨_, _, _, ⟨t0, t1⟩, _, _⟩ := Cfg.ok_cases hc
  have hl := Le.alloc w (.cells (cellsK c q) 95)
  have hs := fun w' => startWithin x 0 (c.t - 1) w'
  go_enter Tryz.func90, Tryz.ntmps90
  go_wp2_with fail
  refine (hs _).mono ?_
  rintro e _ ⟨rfl, rfl⟩
  go_wp2_with fail
  go_ret
  exact ⟨rfl, hl⟩

theorem lookMayHolder (c : Cfg) (q : Sl) (x : Int) (w : World) : Calls Tryz.prog 78 #[lookV c q, .int .i64 x] w fun e w' => e = .returned (.bool (inB 0 x c.t)) ∧ Le w w' := by
  have hl := Le.alloc w (.cells (cellsK c q) 95)
  go_enter Tryz.func78, Tryz.ntmps78
  go_wp2_with fail
  refine (startWithin _ _ _ _).mono ?_
  rintro e _ ⟨rfl, rfl⟩
  go_wp2_with fail
  go_ret
  exact ⟨rfl, hl⟩

theorem lookMaySlot (c : Cfg) (q : Sl) (s : Slt) (w : World) (hc : c.ok = true) : Calls Tryz.prog 80 #[lookV c q, s.v] w fun e w' => e = .returned (.bool (inB 0 s.t (c.t - 1))) ∧ Le w w' := by
  have hl := (Le.alloc w (.cells (cellsK c q) 95)).trans (Le.alloc _ (.cells #[.int .i64 s.c, .int .i64 s.r, .int .i64 s.a, .int .i64 s.t, .int .i64 s.b] 107))
  have hs := fun w' => lookIsThread c q s.t w' hc
  go_enter Tryz.func80, Tryz.ntmps80
  go_wp2_with fail
  refine (hs _).mono ?_
  rintro e w1 ⟨rfl, l1⟩
  go_wp2_with fail
  go_ret
  exact ⟨rfl, hl.trans l1⟩

set_option maxHeartbeats 400000 in
theorem lookMayEvent (c : Cfg) (q : Sl) (E : Ev) (w : World) (hc : c.ok = true) : Calls Tryz.prog 61 #[lookV c q, evV E] w fun e w' => e = .returned (.bool (evB c E)) ∧ Le w w' := by
  have hl := (Le.alloc w (.cells (cellsK c q) 95)).trans (Le.alloc _ (.cells #[.int .i64 E.t, .bool E.ca, .int .i64 E.c, .int .i64 E.r, .int .i64 E.a, .int .i64 E.an] 86))
  have hb := Box.new (w.alloc (.cells (cellsK c q) 95)) #[.int .i64 E.t, .bool E.ca, .int .i64 E.c, .int .i64 E.r, .int .i64 E.a, .int .i64 E.an] 86
  rw [World.size_alloc] at hb
  have hs := fun w' => lookIsThread c q E.t w' hc
  have ho := fun w' => operMay E.c E.r E.a w'
  simp only [evB]
  cases h1 : inB 0 E.t (c.t - 1)
  · simp only [h1] at hs
    go_enter Tryz.func61, Tryz.ntmps61
    go_wp2_with fail
    refine (hs _).mono ?_
    rintro e w1 ⟨rfl, l1⟩
    go_wp2_with fail
    go_ret
    exact ⟨rfl, hl.trans l1⟩
  · simp only [h1] at hs
    go_enter Tryz.func61, Tryz.ntmps61
    go_wp2_with fail
    refine (hs _).mono ?_
    rintro e w1 ⟨rfl, l1⟩
    replace hb := hb.le l1
    have y2 := hb.cell 2
    have y3 := hb.cell 3
    have y4 := hb.cell 4
    simp only [List.getElem?_toArray, List.getElem?_cons_succ, List.getElem?_cons_zero] at y2 y3 y4
    go_wp2_with fail
    refine (ho _).mono ?_
    rintro e w2 ⟨rfl, l2⟩
    go_wp2_with fail
    go_ret
    exact ⟨rfl, (hl.trans l1).trans l2⟩

set_option maxHeartbeats 1000000 in
theorem lookMayCursors (c : Cfg) (q : Sl) (v : Value) (Rs : List Rg) (cs : List Int) (w : World) (hR : HasRs w (slV q) Rs) (hx : Has w v cs) (hn : cs.length = Rs.length) (hm : Rs.length * 48 ≤ 140737488351232) :
    Calls Tryz.prog 83 #[lookV c q, v] w fun e w' => e = .returned (.bool (cursOK Rs cs)) ∧ Le w w' := by
  obtain ⟨qa, qn, qc⟩ := q
  obtain ⟨a, cap, rfl, hc, _, hx⟩ := hx.open
  obtain ⟨a', cap', hv, hc', _, hRo⟩ := hR.open
  clear hR
  simp only [slV, Value.slice.injEq] at hv
  obtain ⟨rfl, rfl, rfl⟩ := hv
  rw [← hn] at hRo hc' hm ⊢
  have HN : Hid (cs.length = Rs.length) := hn
  clear hn
  by_cases h0 : 0 < cs.length
  · obtain ⟨b, off, rfl, hcell⟩ := hx h0
    obtain ⟨b', off', rfl, hring⟩ := hRo h0
    clear hx hRo
    obtain ⟨L, hL⟩ : ∃ L, L = cs.length := ⟨_, rfl⟩
    have HL : Hid (L = cs.length) := hL
    rw [← hL] at h0 hc hc' hm hcell hring ⊢
    clear hL
    have hb := Box.new w (cellsK c (some ⟨b', off', none⟩, L, qc)) 95
    have hl := Le.alloc w (.cells (cellsK c (some ⟨b', off', none⟩, L, qc)) 95)
    have z5 := hb.look.2.2.2.2.2
    simp only [slV] at z5
    go_enter Tryz.func83, Tryz.ntmps83
    go_wp2
    generalize hW : w.alloc (.cells (cellsK c (some ⟨b', off', none⟩, L, qc)) 95) = W at hb hl z5 ⊢
    clear hW hb
    go_loopw [10] (fun i wr => ∃ k : Nat, k ≤ L ∧ i = .int .i64 k ∧ Hid (∀ i, i < k → inB (Rs.getD i Rg.zero).h (cs.getD i 0) (Rs.getD i Rg.zero).t = true) ∧ Le W wr) (fun i _ => L - (intOf i).toNat)
    case atStart => exact ⟨0, by omega, rfl, (fun i hi => by omega), Le.refl _⟩
    case round =>
      obtain ⟨k, hk, rfl, HA, hle⟩ := hrel
      by_cases hlt : k < L
      · obtain ⟨x, hxk⟩ : ∃ x, x = cs.getD k 0 := ⟨_, rfl⟩
        obtain ⟨R, hRk⟩ : ∃ R, R = Rs.getD k Rg.zero := ⟨_, rfl⟩
        have c0 := cell_le (cell_le (hcell k hlt) hl) hle
        obtain ⟨u, rA, _⟩ := hring k hlt
        rw [← hxk] at c0
        rw [← hRk] at rA
        have HX : Hid (x = cs.getD k 0) := hxk
        have HR : Hid (R = Rs.getD k Rg.zero) := hRk
        obtain ⟨x0, x1, x2, x3⟩ := (rA.le hl).le hle
        replace z5 := cell_le z5 hle
        have hlt' : (k : Int) < (L : Int) := by omega
        have hs := fun w' => startWithin x R.h R.t w'
        clear hxk hRk hcell hring rA
        cases hh : inB R.h x R.t
        · simp only [hh] at hs
          go_wp2_with fail
          refine (hs _).mono ?_
          rintro e _ ⟨rfl, rfl⟩
          go_wp2_with fail
          go_ret
          exact ⟨ret_bool (cursOK_no (k := k) (by have := HL.out; omega) (by rw [← HX.out, ← HR.out]; exact hh)).symm, (hl.trans hle).trans (Le.alloc _ _)⟩
        · simp only [hh] at hs
          go_wp2_with fail
          refine (hs _).mono ?_
          rintro e _ ⟨rfl, rfl⟩
          go_wp2_with fail
          go_roundw
          case rel =>
            refine ⟨k + 1, by omega, by go_num, fun i hi => ?_, hle.trans (Le.alloc _ _)⟩
            rcases Nat.lt_or_ge i k with h | h
            · exact HA.out i h
            · obtain rfl : i = k := by omega
              rw [← HX.out, ← HR.out]; exact hh
          case measure => simp [intOf]; omega
      · obtain rfl : k = L := by omega
        go_wp2_with fail
        go_ret
        exact ⟨ret_bool (cursOK_take HA.out HL.out).symm, hl.trans hle⟩
  · have hxn : cs = [] := by cases cs with | nil => rfl | cons _ _ => simp at h0
    subst hxn
    go_enter Tryz.func83, Tryz.ntmps83
    go_wp2
    refine wp_loop_rounds 1 ?_
    rw [rounds_succ]
    go_wp2
    go_ret
    exact ⟨rfl, Le.alloc _ _⟩

set_option maxHeartbeats 2000000 in
theorem lookMayRing (c : Cfg) (q : Sl) (v : Value) (R : Rg) (w : World) (hc : c.ok = true) (hx : HasR w v R) (hf : FitR R) :
    Calls Tryz.prog 55 #[lookV c q, v] w fun e w' => e = .returned (.bool (ringB c R)) ∧ Le w w' := by
  obtain ⟨u, rfl, hu⟩ := hx
  have hb := Box.new (w.alloc (.cells (cellsK c q) 95)) (cellsR R.h R.t R.f u) 50
  have hk := (Box.new w (cellsK c q) 95).le (Le.alloc _ (.cells (cellsR R.h R.t R.f u) 50))
  rw [World.size_alloc] at hb
  have hl := (Le.alloc w (.cells (cellsK c q) 95)).trans (Le.alloc _ (.cells (cellsR R.h R.t R.f u) 50))
  have m1 := ringMay (ringV R.h R.t R.f u) R _ ⟨u, rfl, hu.le hl⟩ hf
  have hlen := hu.len
  unfold FitR at hf
  have hss := fun w' (l : Le w w') => allSlot 80 (lookV c q) (fun s => inB 0 s.t (c.t - 1)) (fun _ _ => by kernel_rfl) (slV u) R.ss w' (fun w'' _ v s _ h => by rw [show v = s.v from h]; exact lookMaySlot c q s w'' hc) (hu.le l) (by omega)
  have m3 := fun w' => lookMayHolder c q R.f w'
  simp only [ringB]
  obtain ⟨ua, n, ucap⟩ := u
  simp only at hlen
  rw [← hlen]
  clear hlen hf hu
  cases h1 : mayR R
  · rw [h1] at m1
    go_enter Tryz.func55, Tryz.ntmps55
    go_wp2_with fail
    refine m1.mono ?_
    rintro e w1 ⟨rfl, l1⟩
    go_wp2_with fail
    go_ret
    exact ⟨rfl, hl.trans l1⟩
  rw [h1] at m1
  by_cases h2 : (n : Int) = c.s
  case neg =>
    have h2b : ((n : Int) == c.s) = false := by simp [h2]
    rw [decide_eq_false h2]
    clear h2
    go_enter Tryz.func55, Tryz.ntmps55
    go_wp2_with fail
    refine m1.mono ?_
    rintro e w1 ⟨rfl, l1⟩
    obtain ⟨b0, b1, b2, b3, _, _, _, _⟩ := (hb.le l1).ring
    obtain ⟨k0, k1, k2, k3, k4, k5⟩ := (hk.le l1).look
    simp only [slV] at b3
    go_wp2_with fail
    go_ret
    exact ⟨rfl, hl.trans l1⟩
  have h2b : ((n : Int) == c.s) = true := by simp [h2]
  rw [decide_eq_true h2]
  clear h2
  cases h3 : inB 0 R.f c.t
  · simp only [h3] at m3
    go_enter Tryz.func55, Tryz.ntmps55
    go_wp2_with fail
    refine m1.mono ?_
    rintro e w1 ⟨rfl, l1⟩
    obtain ⟨b0, b1, b2, b3, _, _, _, _⟩ := (hb.le l1).ring
    obtain ⟨k0, k1, k2, k3, k4, k5⟩ := (hk.le l1).look
    simp only [slV] at b3
    go_wp2_with fail
    refine (m3 _).mono ?_
    rintro e w2 ⟨rfl, l2⟩
    go_wp2_with fail
    go_ret
    exact ⟨rfl, (hl.trans l1).trans l2⟩
  · simp only [h3] at m3
    go_enter Tryz.func55, Tryz.ntmps55
    go_wp2_with fail
    refine m1.mono ?_
    rintro e w1 ⟨rfl, l1⟩
    obtain ⟨b0, b1, b2, b3, _, _, _, _⟩ := (hb.le l1).ring
    obtain ⟨k0, k1, k2, k3, k4, k5⟩ := (hk.le l1).look
    simp only [slV] at b3
    go_wp2_with fail
    refine (m3 _).mono ?_
    rintro e w2 ⟨rfl, l2⟩
    obtain ⟨_, _, _, b3', _, _, _, _⟩ := ((hb.le l1).le l2).ring
    obtain ⟨k0', k1', k2', k3', k4', k5'⟩ := ((hk.le l1).le l2).look
    go_wp2_with fail
    refine (hss _ ((hl.trans l1).trans l2)).mono ?_
    rintro e w3 ⟨rfl, l3⟩
    go_wp2_with fail
    go_ret
    exact ⟨rfl, ((hl.trans l1).trans l2).trans l3⟩

end Go.Proofs.YtjmnlghocbapkaaGreat

/-
  PLAIN GROUND, NO WALK: rows of numbers behind a store into a variable that holds a state. No condition.
-/
namespace Go.Proofs.YtjmnlghocbapkaaGreat
open Go.RowKit

theorem Box.all4 {w : World} {g : Nat} {vs us : Nat → Sl} {t : TypeId} (hb : Box w g (cells4 vs) t) :
    Box ((((w.setCell ⟨g, 0, none⟩ (slV (us 0))).setCell ⟨g, 1, none⟩ (slV (us 1))).setCell ⟨g, 2, none⟩ (slV (us 2))).setCell ⟨g, 3, none⟩ (slV (us 3))) g (cells4 us) t :=
  (((hb.set 0 _).set 1 _).set 2 _).set 3 _
theorem Box.other4 {w : World} {g g' : Nat} {cs : Array Value} {t : TypeId} (hb : Box w g cs t) (hne : g ≠ g') (x0 x1 x2 x3 : Value) :
    Box ((((w.setCell ⟨g', 0, none⟩ x0).setCell ⟨g', 1, none⟩ x1).setCell ⟨g', 2, none⟩ x2).setCell ⟨g', 3, none⟩ x3) g cs t :=
  (((hb.other hne 0 _).other hne 1 _).other hne 2 _).other hne 3 _

end Go.Proofs.YtjmnlghocbapkaaGreat

/-
  THE WALKS over package object's three methods, its table of them, Apply and May: what each answers, for every object, state and operation. Condition: the state's rows can be copied.
-/
namespace Go.Proofs.YtjmnlghocbapkaaGreat
open Go.RowKit

/-- A call's cells: the state's, the operation's. -/
abbrev cells7 (vs : Nat → Sl) (c r a : Int) : Array Value := #[slV (vs 0), slV (vs 1), slV (vs 2), slV (vs 3), .int .i64 c, .int .i64 r, .int .i64 a]

/-- The three methods, as cells. -/
abbrev threeV : Array Value := #[.func (.func 109) #[] #[], .func (.func 110) #[] #[], .func (.func 111) #[] #[]]

set_option maxHeartbeats 400000 in
theorem objThree (w : World) : Calls Tryz.prog 108 #[] w fun e w' => e = .returned (.slice (some ⟨w.heap.size, 0, none⟩) 3 3) ∧ w.alloc (.cells threeV 134) = w' := by
  go_enter Tryz.func108, Tryz.ntmps108
  go_wp2
  go_ret
  exact ⟨rfl, rfl⟩

set_option maxHeartbeats 1000000 in
theorem ofStore (vs : Nat → Sl) (s : St) (c r a : Int) (w : World) (hx : HasS w (stV vs) s) (hf : Fit s) :
    Calls Tryz.prog 109 #[.agg (cells7 vs c r a)] w fun e w' => ∃ v', e = .returned (.tuple #[v', .int .i64 (stoS s c r a 300).2.1, .int .i64 (stoS s c r a 300).2.2]) ∧ OwnS w' w.heap.size v' (stoS s c r a 300).1 ∧ Le w w' := by
  have hl := (Le.alloc w (.cells (cells7 vs c r a) 136)).trans (Le.alloc _ (.cells (cells4 fun _ => slZ) 55))
  have hb1 := (Box.new w (cells7 vs c r a) 136).le (Le.alloc _ (.cells (cells4 fun _ => slZ) 55))
  have hb2 := Box.new (w.alloc (.cells (cells7 vs c r a) 136)) (cells4 fun _ => slZ) 55
  simp only [World.size_alloc] at hb2
  have hap := storeApply (stV vs) s c r a _ (hx.le hl) hf
  generalize stoS s c r a 300 = S1 at hap ⊢
  go_enter Tryz.func109, Tryz.ntmps109
  go_wp2_with fail
  refine hap.mono ?_
  rintro e w1 ⟨_, rfl, ⟨q, rfl, o1⟩, l1⟩
  replace o1 := fun i hi => (o1 i hi).base (base' := w.heap.size) hl.size
  obtain ⟨z0, z1, z2, z3, f0, f1, f2, f3⟩ := (hb2.le l1).st
  go_wp2_with fail
  refine bodyPost_ret (v := .tuple #[stV q, .int .i64 S1.2.1, .int .i64 S1.2.2]) (by simp [results, Tryz.results109, go_sem, z0, z1, z2, z3]) rfl ⟨_, rfl, ⟨q, rfl, fun i hi => ?_⟩, ?_⟩
  · exact (o1 i hi).set4 (hb2.le l1) (by decide) _ _ _ _
  · exact (hl.trans l1).set4 (by omega) _ _ _ _

set_option maxHeartbeats 1000000 in
theorem ofFds (vs : Nat → Sl) (s : St) (c r a : Int) (w : World) (hx : HasS w (stV vs) s) (hf : Fit s) :
    Calls Tryz.prog 110 #[.agg (cells7 vs c r a)] w fun e w' => ∃ v', e = .returned (.tuple #[v', .int .i64 (fdsS s c r a 400).2.1, .int .i64 (fdsS s c r a 400).2.2]) ∧ OwnS w' w.heap.size v' (fdsS s c r a 400).1 ∧ Le w w' := by
  have hl := (Le.alloc w (.cells (cells7 vs c r a) 136)).trans (Le.alloc _ (.cells (cells4 fun _ => slZ) 55))
  have hb1 := (Box.new w (cells7 vs c r a) 136).le (Le.alloc _ (.cells (cells4 fun _ => slZ) 55))
  have hb2 := Box.new (w.alloc (.cells (cells7 vs c r a) 136)) (cells4 fun _ => slZ) 55
  simp only [World.size_alloc] at hb2
  have hap := fdsApply (stV vs) s c r a _ (hx.le hl) hf
  generalize fdsS s c r a 400 = S1 at hap ⊢
  go_enter Tryz.func110, Tryz.ntmps110
  go_wp2_with fail
  refine hap.mono ?_
  rintro e w1 ⟨_, rfl, ⟨q, rfl, o1⟩, l1⟩
  replace o1 := fun i hi => (o1 i hi).base (base' := w.heap.size) hl.size
  obtain ⟨z0, z1, z2, z3, f0, f1, f2, f3⟩ := (hb2.le l1).st
  go_wp2_with fail
  refine bodyPost_ret (v := .tuple #[stV q, .int .i64 S1.2.1, .int .i64 S1.2.2]) (by simp [results, Tryz.results110, go_sem, z0, z1, z2, z3]) rfl ⟨_, rfl, ⟨q, rfl, fun i hi => ?_⟩, ?_⟩
  · exact (o1 i hi).set4 (hb2.le l1) (by decide) _ _ _ _
  · exact (hl.trans l1).set4 (by omega) _ _ _ _

set_option maxHeartbeats 1000000 in
theorem ofQueue (vs : Nat → Sl) (s : St) (c r a : Int) (w : World) (hx : HasS w (stV vs) s) (hf : Fit s) :
    Calls Tryz.prog 111 #[.agg (cells7 vs c r a)] w fun e w' => ∃ v', e = .returned (.tuple #[v', .int .i64 (queS s c r a 500).2.1, .int .i64 (queS s c r a 500).2.2]) ∧ OwnS w' w.heap.size v' (queS s c r a 500).1 ∧ Le w w' := by
  have hl := (Le.alloc w (.cells (cells7 vs c r a) 136)).trans (Le.alloc _ (.cells (cells4 fun _ => slZ) 55))
  have hb1 := (Box.new w (cells7 vs c r a) 136).le (Le.alloc _ (.cells (cells4 fun _ => slZ) 55))
  have hb2 := Box.new (w.alloc (.cells (cells7 vs c r a) 136)) (cells4 fun _ => slZ) 55
  simp only [World.size_alloc] at hb2
  have hap := queApply (stV vs) s c r a _ (hx.le hl) hf
  generalize queS s c r a 500 = S1 at hap ⊢
  go_enter Tryz.func111, Tryz.ntmps111
  go_wp2_with fail
  refine hap.mono ?_
  rintro e w1 ⟨_, rfl, ⟨q, rfl, o1⟩, l1⟩
  replace o1 := fun i hi => (o1 i hi).base (base' := w.heap.size) hl.size
  obtain ⟨z0, z1, z2, z3, f0, f1, f2, f3⟩ := (hb2.le l1).st
  go_wp2_with fail
  refine bodyPost_ret (v := .tuple #[stV q, .int .i64 S1.2.1, .int .i64 S1.2.2]) (by simp [results, Tryz.results111, go_sem, z0, z1, z2, z3]) rfl ⟨_, rfl, ⟨q, rfl, fun i hi => ?_⟩, ?_⟩
  · exact (o1 i hi).set4 (hb2.le l1) (by decide) _ _ _ _
  · exact (hl.trans l1).set4 (by omega) _ _ _ _

set_option maxHeartbeats 4000000 in
theorem objApply0 (v : Value) (s : St) (c r a : Int) (w : World) (hx : HasS w v s) (hf : Fit s) :
    Calls Tryz.prog 99 #[.int .i64 0, v, opV c r a] w fun e w' => ∃ v', e = .returned (.tuple #[v', .int .i64 (objS 0 s c r a 600).2.1, .int .i64 (objS 0 s c r a 600).2.2]) ∧ OwnS w' w.heap.size v' (objS 0 s c r a 600).1 ∧ Le w w' := by
  have hx0 := hx
  obtain ⟨vs, rfl, hr⟩ := hx
  have hl := ((Le.alloc w (.cells (cells4 vs) 55)).trans (Le.alloc _ (.cells #[.int .i64 c, .int .i64 r, .int .i64 a] 60))).trans (Le.alloc _ (.cells (cells4 fun _ => slZ) 55))
  have hb1 := ((Box.new w (cells4 vs) 55).le (Le.alloc _ (.cells #[.int .i64 c, .int .i64 r, .int .i64 a] 60))).le (Le.alloc _ (.cells (cells4 fun _ => slZ) 55))
  have hb2 := (Box.new (w.alloc (.cells (cells4 vs) 55)) #[.int .i64 c, .int .i64 r, .int .i64 a] 60).le (Le.alloc _ (.cells (cells4 fun _ => slZ) 55))
  have hb3 := Box.new ((w.alloc (.cells (cells4 vs) 55)).alloc (.cells #[.int .i64 c, .int .i64 r, .int .i64 a] 60)) (cells4 fun _ => slZ) 55
  simp only [World.size_alloc] at hb1 hb2 hb3
  have hA := Le.alloc (((w.alloc (.cells (cells4 vs) 55)).alloc (.cells #[.int .i64 c, .int .i64 r, .int .i64 a] 60)).alloc (.cells (cells4 fun _ => slZ) 55)) (.cells threeV 134)
  have hb4 := Box.new (((w.alloc (.cells (cells4 vs) 55)).alloc (.cells #[.int .i64 c, .int .i64 r, .int .i64 a] 60)).alloc (.cells (cells4 fun _ => slZ) 55)) threeV 134
  simp only [World.size_alloc] at hb4
  replace hb1 := hb1.le hA
  replace hb2 := hb2.le hA
  replace hb3 := hb3.le hA
  replace hl := hl.trans hA
  clear hA
  have HT : Hid ((objS 0 s c r a 600 = (St.zero, 0, 600) ∧ ¬ (stoS s c r a 300).2.2 = 0) ∨ (objS 0 s c r a 600 = ((stoS s c r a 300).1, (stoS s c r a 300).2.1, 0) ∧ (stoS s c r a 300).2.2 = 0)) := by
    cases hmo : s.all rowMay1 && opMay c r a
    · exact .inl ⟨stoS_no hmo, by rw [stoS_no hmo]; decide⟩
    · exact .inr ⟨(stoS_err hmo).trans (by rw [stoS_err (er := 300) hmo]), by rw [stoS_err (er := 300) hmo]⟩
  have hap := fun (w' : World) (h : Le w w') => ofStore vs s c r a w' (hx0.le h) hf
  generalize objS 0 s c r a 600 = T1 at HT ⊢
  generalize stoS s c r a 300 = S1 at HT hap
  clear hx0 hr
  go_enter Tryz.func99, Tryz.ntmps99
  go_upto_region 4 with (go_at_call 108; refine (objThree _).mono ?_; rintro e _ ⟨rfl, rfl⟩)
  generalize hW : (((w.alloc (.cells (cells4 vs) 55)).alloc (.cells #[.int .i64 c, .int .i64 r, .int .i64 a] 60)).alloc (.cells (cells4 fun _ => slZ) 55)).alloc (.cells threeV 134) = W at hb1 hb2 hb3 hb4 hl ⊢
  clear hW
  obtain ⟨x0, x1, x2, x3, _, _, _, _⟩ := hb1.st
  obtain ⟨y0, y1, y2, _, _, _⟩ := hb2.op
  have u0 : W.cell? ⟨w.heap.size + 1 + 1 + 1, 0, none⟩ = some (.func (.func 109) #[] #[]) := hb4.cell 0
  have hapA := hap W.drew (hl.trans (Le.drew _))
  have hapB := hap (W.alloc (.cells (cells4 fun _ => slZ) 55)).drew (hl.trans ((Le.alloc _ _).trans (Le.drew _)))
  clear hap
  have n1 : ¬ W.heap.size = w.heap.size := by have := hb1.lt; omega
  have n2 : ¬ W.heap.size = w.heap.size + 1 := by have := hb2.lt; omega
  have n3 : ¬ W.heap.size = w.heap.size + 1 + 1 + 1 := by have := hb4.lt; omega
  go_region_held3 (fun w' => w'.cell? ⟨w.heap.size, 0, none⟩ = some (slV (vs 0)) ∧ w'.cell? ⟨w.heap.size, 1, none⟩ = some (slV (vs 1)) ∧ w'.cell? ⟨w.heap.size, 2, none⟩ = some (slV (vs 2)) ∧ w'.cell? ⟨w.heap.size, 3, none⟩ = some (slV (vs 3)) ∧ w'.cell? ⟨w.heap.size + 1, 0, none⟩ = some (.int .i64 c) ∧ w'.cell? ⟨w.heap.size + 1, 1, none⟩ = some (.int .i64 r) ∧ w'.cell? ⟨w.heap.size + 1, 2, none⟩ = some (.int .i64 a) ∧ w'.cell? ⟨w.heap.size + 1 + 1 + 1, 0, none⟩ = some (.func (.func 109) #[] #[])) (go_keep) (first
    | (go_at_call 109; refine hapA.mono ?_; rintro e w2 ⟨_, rfl, ⟨q2, rfl, ho2⟩, l2⟩; replace l2 := (Le.drew W).trans l2; obtain ⟨x0', x1', x2', x3', _, _, _, _⟩ := (hb1.le l2).st; obtain ⟨y0', y1', y2', _, _, _⟩ := (hb2.le l2).op; have u0' : w2.cell? ⟨w.heap.size + 1 + 1 + 1, 0, none⟩ = some (.func (.func 109) #[] #[]) := (hb4.le l2).cell 0; have m1 : ¬ w2.heap.size = w.heap.size := (by have := (hb1.le l2).lt; omega); have m2 : ¬ w2.heap.size = w.heap.size + 1 := (by have := (hb2.le l2).lt; omega); have m3 : ¬ w2.heap.size = w.heap.size + 1 + 1 + 1 := (by have := (hb4.le l2).lt; omega))
    | (go_at_call 109; refine hapB.mono ?_; rintro e w2 ⟨_, rfl, ⟨q2, rfl, ho2⟩, l2⟩; have hbz := ((Box.new W (cells4 fun _ => slZ) 55).le (Le.drew _)).le l2; replace l2 := ((Le.alloc W (.cells (cells4 fun _ => slZ) 55)).trans (Le.drew _)).trans l2; obtain ⟨x0', x1', x2', x3', _, _, _, _⟩ := (hb1.le l2).st; obtain ⟨y0', y1', y2', _, _, _⟩ := (hb2.le l2).op; have u0' : w2.cell? ⟨w.heap.size + 1 + 1 + 1, 0, none⟩ = some (.func (.func 109) #[] #[]) := (hb4.le l2).cell 0; obtain ⟨v0, v1, v2, v3, g0, g1, g2, g3⟩ := hbz.st))
  all_goals clear hapA hapB x0 x1 x2 x3 y0 y1 y2 u0 x0' x1' x2' x3' y0' y1' y2' u0'
  · have ht := Box.new w2 (cells4 q2) 55
    have hz := (hb3.le l2).le (Le.alloc w2 (.cells (cells4 q2) 55))
    replace ho2 := fun i hi => ((ho2 i hi).base (base' := w.heap.size) hl.size).le (Le.alloc w2 (.cells (cells4 q2) 55))
    replace hl := (hl.trans l2).trans (Le.alloc w2 (.cells (cells4 q2) 55))
    have n9 : ¬ w.heap.size + 1 + 1 = w2.heap.size := by have := (hb3.le l2).lt; omega
    generalize hW : w2.alloc (.cells (cells4 q2) 55) = W2 at ht hz ho2 hl ⊢
    generalize w2.heap.size = g9 at n9 ht ⊢
    clear hW l2 m1 m2 m3 n1 n2 n3 hb1 hb2 hb3 hb4
    obtain ⟨z0, z1, z2, z3, f0, f1, f2, f3⟩ := hz.st
    obtain ⟨t0, t1, t2, t3, _, _, _, _⟩ := ht.st
    have n0 := hz.lt
    rcases HT.out with ⟨rfl, h0⟩ | ⟨rfl, h0⟩
    · clear HT
      go_wp2_with fail
      refine bodyPost_ret (v := .tuple #[stZ, .int .i64 0, .int .i64 600]) (by simp [results, Tryz.results99, go_sem, z0, z1, z2, z3]) rfl ⟨_, rfl, OwnS.zero _ _, ?_⟩
      exact hl.set4 (by omega) _ _ _ _
    · clear HT
      go_wp2_with fail
      refine bodyPost_ret (v := .tuple #[stV q2, .int .i64 S1.2.1, .int .i64 0]) (by simp [results, Tryz.results99, go_sem, z0, z1, z2, z3]) rfl ⟨_, rfl, ⟨q2, rfl, fun i hi => ?_⟩, ?_⟩
      · exact (ho2 i hi).set4 hz (by decide) _ _ _ _
      · exact hl.set4 (by omega) _ _ _ _
  · have g : ∀ i, i < 4 → Own ((((w2.setCell ⟨W.heap.size, 0, none⟩ (slV (q2 0))).setCell ⟨W.heap.size, 1, none⟩ (slV (q2 1))).setCell ⟨W.heap.size, 2, none⟩ (slV (q2 2))).setCell ⟨W.heap.size, 3, none⟩ (slV (q2 3))) w.heap.size (slV (q2 i)) (S1.1.at i) :=
      fun i hi => ((ho2 i hi).base (base' := w.heap.size) (hl.trans ((Le.alloc W _).trans (Le.drew _))).size).set4 hbz (by decide) _ _ _ _
    have n9 : ¬ w.heap.size + 1 + 1 = W.heap.size := by have := hb3.lt; omega
    have ht := hbz.all4 (us := q2)
    have hz := (hb3.le l2).other4 n9 (slV (q2 0)) (slV (q2 1)) (slV (q2 2)) (slV (q2 3))
    have hs := hl.size
    replace hl := (hl.trans l2).set4 hs (slV (q2 0)) (slV (q2 1)) (slV (q2 2)) (slV (q2 3))
    clear ho2
    have ho2 := g
    clear g
    generalize hW : (((w2.setCell ⟨W.heap.size, 0, none⟩ (slV (q2 0))).setCell ⟨W.heap.size, 1, none⟩ (slV (q2 1))).setCell ⟨W.heap.size, 2, none⟩ (slV (q2 2))).setCell ⟨W.heap.size, 3, none⟩ (slV (q2 3)) = W2 at ht hz ho2 hl ⊢
    clear hW l2 n1 n2 n3 hb1 hb2 hb3 hb4 hbz v0 v1 v2 v3 g0 g1 g2 g3 hs
    generalize W.heap.size = g9 at n9 ht ⊢
    obtain ⟨z0, z1, z2, z3, f0, f1, f2, f3⟩ := hz.st
    obtain ⟨t0, t1, t2, t3, _, _, _, _⟩ := ht.st
    have n0 := hz.lt
    rcases HT.out with ⟨rfl, h0⟩ | ⟨rfl, h0⟩
    · clear HT
      go_wp2_with fail
      refine bodyPost_ret (v := .tuple #[stZ, .int .i64 0, .int .i64 600]) (by simp [results, Tryz.results99, go_sem, z0, z1, z2, z3]) rfl ⟨_, rfl, OwnS.zero _ _, ?_⟩
      exact hl.set4 (by omega) _ _ _ _
    · clear HT
      go_wp2_with fail
      refine bodyPost_ret (v := .tuple #[stV q2, .int .i64 S1.2.1, .int .i64 0]) (by simp [results, Tryz.results99, go_sem, z0, z1, z2, z3]) rfl ⟨_, rfl, ⟨q2, rfl, fun i hi => ?_⟩, ?_⟩
      · exact (ho2 i hi).set4 hz (by decide) _ _ _ _
      · exact hl.set4 (by omega) _ _ _ _

set_option maxHeartbeats 4000000 in
theorem objApply1 (v : Value) (s : St) (c r a : Int) (w : World) (hx : HasS w v s) (hf : Fit s) :
    Calls Tryz.prog 99 #[.int .i64 1, v, opV c r a] w fun e w' => ∃ v', e = .returned (.tuple #[v', .int .i64 (objS 1 s c r a 600).2.1, .int .i64 (objS 1 s c r a 600).2.2]) ∧ OwnS w' w.heap.size v' (objS 1 s c r a 600).1 ∧ Le w w' := by
  have hx0 := hx
  obtain ⟨vs, rfl, hr⟩ := hx
  have hl := ((Le.alloc w (.cells (cells4 vs) 55)).trans (Le.alloc _ (.cells #[.int .i64 c, .int .i64 r, .int .i64 a] 60))).trans (Le.alloc _ (.cells (cells4 fun _ => slZ) 55))
  have hb1 := ((Box.new w (cells4 vs) 55).le (Le.alloc _ (.cells #[.int .i64 c, .int .i64 r, .int .i64 a] 60))).le (Le.alloc _ (.cells (cells4 fun _ => slZ) 55))
  have hb2 := (Box.new (w.alloc (.cells (cells4 vs) 55)) #[.int .i64 c, .int .i64 r, .int .i64 a] 60).le (Le.alloc _ (.cells (cells4 fun _ => slZ) 55))
  have hb3 := Box.new ((w.alloc (.cells (cells4 vs) 55)).alloc (.cells #[.int .i64 c, .int .i64 r, .int .i64 a] 60)) (cells4 fun _ => slZ) 55
  simp only [World.size_alloc] at hb1 hb2 hb3
  have hA := Le.alloc (((w.alloc (.cells (cells4 vs) 55)).alloc (.cells #[.int .i64 c, .int .i64 r, .int .i64 a] 60)).alloc (.cells (cells4 fun _ => slZ) 55)) (.cells threeV 134)
  have hb4 := Box.new (((w.alloc (.cells (cells4 vs) 55)).alloc (.cells #[.int .i64 c, .int .i64 r, .int .i64 a] 60)).alloc (.cells (cells4 fun _ => slZ) 55)) threeV 134
  simp only [World.size_alloc] at hb4
  replace hb1 := hb1.le hA
  replace hb2 := hb2.le hA
  replace hb3 := hb3.le hA
  replace hl := hl.trans hA
  clear hA
  have HT : Hid ((objS 1 s c r a 600 = (St.zero, 0, 600) ∧ ¬ (fdsS s c r a 400).2.2 = 0) ∨ (objS 1 s c r a 600 = ((fdsS s c r a 400).1, (fdsS s c r a 400).2.1, 0) ∧ (fdsS s c r a 400).2.2 = 0)) := by
    cases hmo : s.all rowMay2 && opMay c r a
    · exact .inl ⟨fdsS_no hmo, by rw [fdsS_no hmo]; decide⟩
    · exact .inr ⟨(fdsS_err hmo).trans (by rw [fdsS_err (er := 400) hmo]), by rw [fdsS_err (er := 400) hmo]⟩
  have hap := fun (w' : World) (h : Le w w') => ofFds vs s c r a w' (hx0.le h) hf
  generalize objS 1 s c r a 600 = T1 at HT ⊢
  generalize fdsS s c r a 400 = S1 at HT hap
  clear hx0 hr
  go_enter Tryz.func99, Tryz.ntmps99
  go_upto_region 4 with (go_at_call 108; refine (objThree _).mono ?_; rintro e _ ⟨rfl, rfl⟩)
  generalize hW : (((w.alloc (.cells (cells4 vs) 55)).alloc (.cells #[.int .i64 c, .int .i64 r, .int .i64 a] 60)).alloc (.cells (cells4 fun _ => slZ) 55)).alloc (.cells threeV 134) = W at hb1 hb2 hb3 hb4 hl ⊢
  clear hW
  obtain ⟨x0, x1, x2, x3, _, _, _, _⟩ := hb1.st
  obtain ⟨y0, y1, y2, _, _, _⟩ := hb2.op
  have u0 : W.cell? ⟨w.heap.size + 1 + 1 + 1, 1, none⟩ = some (.func (.func 110) #[] #[]) := hb4.cell 1
  have hapA := hap W.drew (hl.trans (Le.drew _))
  have hapB := hap (W.alloc (.cells (cells4 fun _ => slZ) 55)).drew (hl.trans ((Le.alloc _ _).trans (Le.drew _)))
  clear hap
  have n1 : ¬ W.heap.size = w.heap.size := by have := hb1.lt; omega
  have n2 : ¬ W.heap.size = w.heap.size + 1 := by have := hb2.lt; omega
  have n3 : ¬ W.heap.size = w.heap.size + 1 + 1 + 1 := by have := hb4.lt; omega
  go_region_held3 (fun w' => w'.cell? ⟨w.heap.size, 0, none⟩ = some (slV (vs 0)) ∧ w'.cell? ⟨w.heap.size, 1, none⟩ = some (slV (vs 1)) ∧ w'.cell? ⟨w.heap.size, 2, none⟩ = some (slV (vs 2)) ∧ w'.cell? ⟨w.heap.size, 3, none⟩ = some (slV (vs 3)) ∧ w'.cell? ⟨w.heap.size + 1, 0, none⟩ = some (.int .i64 c) ∧ w'.cell? ⟨w.heap.size + 1, 1, none⟩ = some (.int .i64 r) ∧ w'.cell? ⟨w.heap.size + 1, 2, none⟩ = some (.int .i64 a) ∧ w'.cell? ⟨w.heap.size + 1 + 1 + 1, 1, none⟩ = some (.func (.func 110) #[] #[])) (go_keep) (first
    | (go_at_call 110; refine hapA.mono ?_; rintro e w2 ⟨_, rfl, ⟨q2, rfl, ho2⟩, l2⟩; replace l2 := (Le.drew W).trans l2; obtain ⟨x0', x1', x2', x3', _, _, _, _⟩ := (hb1.le l2).st; obtain ⟨y0', y1', y2', _, _, _⟩ := (hb2.le l2).op; have u0' : w2.cell? ⟨w.heap.size + 1 + 1 + 1, 1, none⟩ = some (.func (.func 110) #[] #[]) := (hb4.le l2).cell 1; have m1 : ¬ w2.heap.size = w.heap.size := (by have := (hb1.le l2).lt; omega); have m2 : ¬ w2.heap.size = w.heap.size + 1 := (by have := (hb2.le l2).lt; omega); have m3 : ¬ w2.heap.size = w.heap.size + 1 + 1 + 1 := (by have := (hb4.le l2).lt; omega))
    | (go_at_call 110; refine hapB.mono ?_; rintro e w2 ⟨_, rfl, ⟨q2, rfl, ho2⟩, l2⟩; have hbz := ((Box.new W (cells4 fun _ => slZ) 55).le (Le.drew _)).le l2; replace l2 := ((Le.alloc W (.cells (cells4 fun _ => slZ) 55)).trans (Le.drew _)).trans l2; obtain ⟨x0', x1', x2', x3', _, _, _, _⟩ := (hb1.le l2).st; obtain ⟨y0', y1', y2', _, _, _⟩ := (hb2.le l2).op; have u0' : w2.cell? ⟨w.heap.size + 1 + 1 + 1, 1, none⟩ = some (.func (.func 110) #[] #[]) := (hb4.le l2).cell 1; obtain ⟨v0, v1, v2, v3, g0, g1, g2, g3⟩ := hbz.st))
  all_goals clear hapA hapB x0 x1 x2 x3 y0 y1 y2 u0 x0' x1' x2' x3' y0' y1' y2' u0'
  · have ht := Box.new w2 (cells4 q2) 55
    have hz := (hb3.le l2).le (Le.alloc w2 (.cells (cells4 q2) 55))
    replace ho2 := fun i hi => ((ho2 i hi).base (base' := w.heap.size) hl.size).le (Le.alloc w2 (.cells (cells4 q2) 55))
    replace hl := (hl.trans l2).trans (Le.alloc w2 (.cells (cells4 q2) 55))
    have n9 : ¬ w.heap.size + 1 + 1 = w2.heap.size := by have := (hb3.le l2).lt; omega
    generalize hW : w2.alloc (.cells (cells4 q2) 55) = W2 at ht hz ho2 hl ⊢
    generalize w2.heap.size = g9 at n9 ht ⊢
    clear hW l2 m1 m2 m3 n1 n2 n3 hb1 hb2 hb3 hb4
    obtain ⟨z0, z1, z2, z3, f0, f1, f2, f3⟩ := hz.st
    obtain ⟨t0, t1, t2, t3, _, _, _, _⟩ := ht.st
    have n0 := hz.lt
    rcases HT.out with ⟨rfl, h0⟩ | ⟨rfl, h0⟩
    · clear HT
      go_wp2_with fail
      refine bodyPost_ret (v := .tuple #[stZ, .int .i64 0, .int .i64 600]) (by simp [results, Tryz.results99, go_sem, z0, z1, z2, z3]) rfl ⟨_, rfl, OwnS.zero _ _, ?_⟩
      exact hl.set4 (by omega) _ _ _ _
    · clear HT
      go_wp2_with fail
      refine bodyPost_ret (v := .tuple #[stV q2, .int .i64 S1.2.1, .int .i64 0]) (by simp [results, Tryz.results99, go_sem, z0, z1, z2, z3]) rfl ⟨_, rfl, ⟨q2, rfl, fun i hi => ?_⟩, ?_⟩
      · exact (ho2 i hi).set4 hz (by decide) _ _ _ _
      · exact hl.set4 (by omega) _ _ _ _
  · have g : ∀ i, i < 4 → Own ((((w2.setCell ⟨W.heap.size, 0, none⟩ (slV (q2 0))).setCell ⟨W.heap.size, 1, none⟩ (slV (q2 1))).setCell ⟨W.heap.size, 2, none⟩ (slV (q2 2))).setCell ⟨W.heap.size, 3, none⟩ (slV (q2 3))) w.heap.size (slV (q2 i)) (S1.1.at i) :=
      fun i hi => ((ho2 i hi).base (base' := w.heap.size) (hl.trans ((Le.alloc W _).trans (Le.drew _))).size).set4 hbz (by decide) _ _ _ _
    have n9 : ¬ w.heap.size + 1 + 1 = W.heap.size := by have := hb3.lt; omega
    have ht := hbz.all4 (us := q2)
    have hz := (hb3.le l2).other4 n9 (slV (q2 0)) (slV (q2 1)) (slV (q2 2)) (slV (q2 3))
    have hs := hl.size
    replace hl := (hl.trans l2).set4 hs (slV (q2 0)) (slV (q2 1)) (slV (q2 2)) (slV (q2 3))
    clear ho2
    have ho2 := g
    clear g
    generalize hW : (((w2.setCell ⟨W.heap.size, 0, none⟩ (slV (q2 0))).setCell ⟨W.heap.size, 1, none⟩ (slV (q2 1))).setCell ⟨W.heap.size, 2, none⟩ (slV (q2 2))).setCell ⟨W.heap.size, 3, none⟩ (slV (q2 3)) = W2 at ht hz ho2 hl ⊢
    clear hW l2 n1 n2 n3 hb1 hb2 hb3 hb4 hbz v0 v1 v2 v3 g0 g1 g2 g3 hs
    generalize W.heap.size = g9 at n9 ht ⊢
    obtain ⟨z0, z1, z2, z3, f0, f1, f2, f3⟩ := hz.st
    obtain ⟨t0, t1, t2, t3, _, _, _, _⟩ := ht.st
    have n0 := hz.lt
    rcases HT.out with ⟨rfl, h0⟩ | ⟨rfl, h0⟩
    · clear HT
      go_wp2_with fail
      refine bodyPost_ret (v := .tuple #[stZ, .int .i64 0, .int .i64 600]) (by simp [results, Tryz.results99, go_sem, z0, z1, z2, z3]) rfl ⟨_, rfl, OwnS.zero _ _, ?_⟩
      exact hl.set4 (by omega) _ _ _ _
    · clear HT
      go_wp2_with fail
      refine bodyPost_ret (v := .tuple #[stV q2, .int .i64 S1.2.1, .int .i64 0]) (by simp [results, Tryz.results99, go_sem, z0, z1, z2, z3]) rfl ⟨_, rfl, ⟨q2, rfl, fun i hi => ?_⟩, ?_⟩
      · exact (ho2 i hi).set4 hz (by decide) _ _ _ _
      · exact hl.set4 (by omega) _ _ _ _

set_option maxHeartbeats 4000000 in
theorem objApply2 (v : Value) (s : St) (c r a : Int) (w : World) (hx : HasS w v s) (hf : Fit s) :
    Calls Tryz.prog 99 #[.int .i64 2, v, opV c r a] w fun e w' => ∃ v', e = .returned (.tuple #[v', .int .i64 (objS 2 s c r a 600).2.1, .int .i64 (objS 2 s c r a 600).2.2]) ∧ OwnS w' w.heap.size v' (objS 2 s c r a 600).1 ∧ Le w w' := by
  have hx0 := hx
  obtain ⟨vs, rfl, hr⟩ := hx
  have hl := ((Le.alloc w (.cells (cells4 vs) 55)).trans (Le.alloc _ (.cells #[.int .i64 c, .int .i64 r, .int .i64 a] 60))).trans (Le.alloc _ (.cells (cells4 fun _ => slZ) 55))
  have hb1 := ((Box.new w (cells4 vs) 55).le (Le.alloc _ (.cells #[.int .i64 c, .int .i64 r, .int .i64 a] 60))).le (Le.alloc _ (.cells (cells4 fun _ => slZ) 55))
  have hb2 := (Box.new (w.alloc (.cells (cells4 vs) 55)) #[.int .i64 c, .int .i64 r, .int .i64 a] 60).le (Le.alloc _ (.cells (cells4 fun _ => slZ) 55))
  have hb3 := Box.new ((w.alloc (.cells (cells4 vs) 55)).alloc (.cells #[.int .i64 c, .int .i64 r, .int .i64 a] 60)) (cells4 fun _ => slZ) 55
  simp only [World.size_alloc] at hb1 hb2 hb3
  have hA := Le.alloc (((w.alloc (.cells (cells4 vs) 55)).alloc (.cells #[.int .i64 c, .int .i64 r, .int .i64 a] 60)).alloc (.cells (cells4 fun _ => slZ) 55)) (.cells threeV 134)
  have hb4 := Box.new (((w.alloc (.cells (cells4 vs) 55)).alloc (.cells #[.int .i64 c, .int .i64 r, .int .i64 a] 60)).alloc (.cells (cells4 fun _ => slZ) 55)) threeV 134
  simp only [World.size_alloc] at hb4
  replace hb1 := hb1.le hA
  replace hb2 := hb2.le hA
  replace hb3 := hb3.le hA
  replace hl := hl.trans hA
  clear hA
  have HT : Hid ((objS 2 s c r a 600 = (St.zero, 0, 600) ∧ ¬ (queS s c r a 500).2.2 = 0) ∨ (objS 2 s c r a 600 = ((queS s c r a 500).1, (queS s c r a 500).2.1, 0) ∧ (queS s c r a 500).2.2 = 0)) := by
    cases hmo : s.all rowMay3 && opMay c r a
    · exact .inl ⟨queS_no hmo, by rw [queS_no hmo]; decide⟩
    · exact .inr ⟨(queS_err hmo).trans (by rw [queS_err (er := 500) hmo]), by rw [queS_err (er := 500) hmo]⟩
  have hap := fun (w' : World) (h : Le w w') => ofQueue vs s c r a w' (hx0.le h) hf
  generalize objS 2 s c r a 600 = T1 at HT ⊢
  generalize queS s c r a 500 = S1 at HT hap
  clear hx0 hr
  go_enter Tryz.func99, Tryz.ntmps99
  go_upto_region 4 with (go_at_call 108; refine (objThree _).mono ?_; rintro e _ ⟨rfl, rfl⟩)
  generalize hW : (((w.alloc (.cells (cells4 vs) 55)).alloc (.cells #[.int .i64 c, .int .i64 r, .int .i64 a] 60)).alloc (.cells (cells4 fun _ => slZ) 55)).alloc (.cells threeV 134) = W at hb1 hb2 hb3 hb4 hl ⊢
  clear hW
  obtain ⟨x0, x1, x2, x3, _, _, _, _⟩ := hb1.st
  obtain ⟨y0, y1, y2, _, _, _⟩ := hb2.op
  have u0 : W.cell? ⟨w.heap.size + 1 + 1 + 1, 2, none⟩ = some (.func (.func 111) #[] #[]) := hb4.cell 2
  have hapA := hap W.drew (hl.trans (Le.drew _))
  have hapB := hap (W.alloc (.cells (cells4 fun _ => slZ) 55)).drew (hl.trans ((Le.alloc _ _).trans (Le.drew _)))
  clear hap
  have n1 : ¬ W.heap.size = w.heap.size := by have := hb1.lt; omega
  have n2 : ¬ W.heap.size = w.heap.size + 1 := by have := hb2.lt; omega
  have n3 : ¬ W.heap.size = w.heap.size + 1 + 1 + 1 := by have := hb4.lt; omega
  go_region_held3 (fun w' => w'.cell? ⟨w.heap.size, 0, none⟩ = some (slV (vs 0)) ∧ w'.cell? ⟨w.heap.size, 1, none⟩ = some (slV (vs 1)) ∧ w'.cell? ⟨w.heap.size, 2, none⟩ = some (slV (vs 2)) ∧ w'.cell? ⟨w.heap.size, 3, none⟩ = some (slV (vs 3)) ∧ w'.cell? ⟨w.heap.size + 1, 0, none⟩ = some (.int .i64 c) ∧ w'.cell? ⟨w.heap.size + 1, 1, none⟩ = some (.int .i64 r) ∧ w'.cell? ⟨w.heap.size + 1, 2, none⟩ = some (.int .i64 a) ∧ w'.cell? ⟨w.heap.size + 1 + 1 + 1, 2, none⟩ = some (.func (.func 111) #[] #[])) (go_keep) (first
    | (go_at_call 111; refine hapA.mono ?_; rintro e w2 ⟨_, rfl, ⟨q2, rfl, ho2⟩, l2⟩; replace l2 := (Le.drew W).trans l2; obtain ⟨x0', x1', x2', x3', _, _, _, _⟩ := (hb1.le l2).st; obtain ⟨y0', y1', y2', _, _, _⟩ := (hb2.le l2).op; have u0' : w2.cell? ⟨w.heap.size + 1 + 1 + 1, 2, none⟩ = some (.func (.func 111) #[] #[]) := (hb4.le l2).cell 2; have m1 : ¬ w2.heap.size = w.heap.size := (by have := (hb1.le l2).lt; omega); have m2 : ¬ w2.heap.size = w.heap.size + 1 := (by have := (hb2.le l2).lt; omega); have m3 : ¬ w2.heap.size = w.heap.size + 1 + 1 + 1 := (by have := (hb4.le l2).lt; omega))
    | (go_at_call 111; refine hapB.mono ?_; rintro e w2 ⟨_, rfl, ⟨q2, rfl, ho2⟩, l2⟩; have hbz := ((Box.new W (cells4 fun _ => slZ) 55).le (Le.drew _)).le l2; replace l2 := ((Le.alloc W (.cells (cells4 fun _ => slZ) 55)).trans (Le.drew _)).trans l2; obtain ⟨x0', x1', x2', x3', _, _, _, _⟩ := (hb1.le l2).st; obtain ⟨y0', y1', y2', _, _, _⟩ := (hb2.le l2).op; have u0' : w2.cell? ⟨w.heap.size + 1 + 1 + 1, 2, none⟩ = some (.func (.func 111) #[] #[]) := (hb4.le l2).cell 2; obtain ⟨v0, v1, v2, v3, g0, g1, g2, g3⟩ := hbz.st))
  all_goals clear hapA hapB x0 x1 x2 x3 y0 y1 y2 u0 x0' x1' x2' x3' y0' y1' y2' u0'
  · have ht := Box.new w2 (cells4 q2) 55
    have hz := (hb3.le l2).le (Le.alloc w2 (.cells (cells4 q2) 55))
    replace ho2 := fun i hi => ((ho2 i hi).base (base' := w.heap.size) hl.size).le (Le.alloc w2 (.cells (cells4 q2) 55))
    replace hl := (hl.trans l2).trans (Le.alloc w2 (.cells (cells4 q2) 55))
    have n9 : ¬ w.heap.size + 1 + 1 = w2.heap.size := by have := (hb3.le l2).lt; omega
    generalize hW : w2.alloc (.cells (cells4 q2) 55) = W2 at ht hz ho2 hl ⊢
    generalize w2.heap.size = g9 at n9 ht ⊢
    clear hW l2 m1 m2 m3 n1 n2 n3 hb1 hb2 hb3 hb4
    obtain ⟨z0, z1, z2, z3, f0, f1, f2, f3⟩ := hz.st
    obtain ⟨t0, t1, t2, t3, _, _, _, _⟩ := ht.st
    have n0 := hz.lt
    rcases HT.out with ⟨rfl, h0⟩ | ⟨rfl, h0⟩
    · clear HT
      go_wp2_with fail
      refine bodyPost_ret (v := .tuple #[stZ, .int .i64 0, .int .i64 600]) (by simp [results, Tryz.results99, go_sem, z0, z1, z2, z3]) rfl ⟨_, rfl, OwnS.zero _ _, ?_⟩
      exact hl.set4 (by omega) _ _ _ _
    · clear HT
      go_wp2_with fail
      refine bodyPost_ret (v := .tuple #[stV q2, .int .i64 S1.2.1, .int .i64 0]) (by simp [results, Tryz.results99, go_sem, z0, z1, z2, z3]) rfl ⟨_, rfl, ⟨q2, rfl, fun i hi => ?_⟩, ?_⟩
      · exact (ho2 i hi).set4 hz (by decide) _ _ _ _
      · exact hl.set4 (by omega) _ _ _ _
  · have g : ∀ i, i < 4 → Own ((((w2.setCell ⟨W.heap.size, 0, none⟩ (slV (q2 0))).setCell ⟨W.heap.size, 1, none⟩ (slV (q2 1))).setCell ⟨W.heap.size, 2, none⟩ (slV (q2 2))).setCell ⟨W.heap.size, 3, none⟩ (slV (q2 3))) w.heap.size (slV (q2 i)) (S1.1.at i) :=
      fun i hi => ((ho2 i hi).base (base' := w.heap.size) (hl.trans ((Le.alloc W _).trans (Le.drew _))).size).set4 hbz (by decide) _ _ _ _
    have n9 : ¬ w.heap.size + 1 + 1 = W.heap.size := by have := hb3.lt; omega
    have ht := hbz.all4 (us := q2)
    have hz := (hb3.le l2).other4 n9 (slV (q2 0)) (slV (q2 1)) (slV (q2 2)) (slV (q2 3))
    have hs := hl.size
    replace hl := (hl.trans l2).set4 hs (slV (q2 0)) (slV (q2 1)) (slV (q2 2)) (slV (q2 3))
    clear ho2
    have ho2 := g
    clear g
    generalize hW : (((w2.setCell ⟨W.heap.size, 0, none⟩ (slV (q2 0))).setCell ⟨W.heap.size, 1, none⟩ (slV (q2 1))).setCell ⟨W.heap.size, 2, none⟩ (slV (q2 2))).setCell ⟨W.heap.size, 3, none⟩ (slV (q2 3)) = W2 at ht hz ho2 hl ⊢
    clear hW l2 n1 n2 n3 hb1 hb2 hb3 hb4 hbz v0 v1 v2 v3 g0 g1 g2 g3 hs
    generalize W.heap.size = g9 at n9 ht ⊢
    obtain ⟨z0, z1, z2, z3, f0, f1, f2, f3⟩ := hz.st
    obtain ⟨t0, t1, t2, t3, _, _, _, _⟩ := ht.st
    have n0 := hz.lt
    rcases HT.out with ⟨rfl, h0⟩ | ⟨rfl, h0⟩
    · clear HT
      go_wp2_with fail
      refine bodyPost_ret (v := .tuple #[stZ, .int .i64 0, .int .i64 600]) (by simp [results, Tryz.results99, go_sem, z0, z1, z2, z3]) rfl ⟨_, rfl, OwnS.zero _ _, ?_⟩
      exact hl.set4 (by omega) _ _ _ _
    · clear HT
      go_wp2_with fail
      refine bodyPost_ret (v := .tuple #[stV q2, .int .i64 S1.2.1, .int .i64 0]) (by simp [results, Tryz.results99, go_sem, z0, z1, z2, z3]) rfl ⟨_, rfl, ⟨q2, rfl, fun i hi => ?_⟩, ?_⟩
      · exact (ho2 i hi).set4 hz (by decide) _ _ _ _
      · exact hl.set4 (by omega) _ _ _ _

end Go.Proofs.YtjmnlghocbapkaaGreat

/-
  THE WALKS over package object's Apply at no object, over Apply and May in one: what each answers, for every object, state and operation. Condition: the state's rows can be copied.
-/
namespace Go.Proofs.YtjmnlghocbapkaaGreat
open Go.RowKit

set_option maxHeartbeats 1000000 in
theorem objApplyOut (o : Int) (ho : o < 0 ∨ 2 < o) (v : Value) (s : St) (c r a : Int) (w : World) (hx : HasS w v s) :
    Calls Tryz.prog 99 #[.int .i64 o, v, opV c r a] w fun e w' => e = .returned (.tuple #[stZ, .int .i64 0, .int .i64 600]) ∧ Le w w' := by
  obtain ⟨vs, rfl, hr⟩ := hx
  have hl := ((Le.alloc w (.cells (cells4 vs) 55)).trans (Le.alloc _ (.cells #[.int .i64 c, .int .i64 r, .int .i64 a] 60))).trans (Le.alloc _ (.cells (cells4 fun _ => slZ) 55))
  have hb3 := Box.new ((w.alloc (.cells (cells4 vs) 55)).alloc (.cells #[.int .i64 c, .int .i64 r, .int .i64 a] 60)) (cells4 fun _ => slZ) 55
  simp only [World.size_alloc] at hb3
  have hA := Le.alloc (((w.alloc (.cells (cells4 vs) 55)).alloc (.cells #[.int .i64 c, .int .i64 r, .int .i64 a] 60)).alloc (.cells (cells4 fun _ => slZ) 55)) (.cells threeV 134)
  replace hb3 := hb3.le hA
  replace hl := hl.trans hA
  clear hA
  by_cases h0 : o < 0
  · go_enter Tryz.func99, Tryz.ntmps99
    go_upto_region 2 with (go_at_call 108; refine (objThree _).mono ?_; rintro e _ ⟨rfl, rfl⟩)
    generalize hW : (((w.alloc (.cells (cells4 vs) 55)).alloc (.cells #[.int .i64 c, .int .i64 r, .int .i64 a] 60)).alloc (.cells (cells4 fun _ => slZ) 55)).alloc (.cells threeV 134) = W at hb3 hl ⊢
    clear hW
    obtain ⟨z0, z1, z2, z3, f0, f1, f2, f3⟩ := hb3.st
    go_wp2_with fail
    refine bodyPost_ret (v := .tuple #[stZ, .int .i64 0, .int .i64 600]) (by simp [results, Tryz.results99, go_sem, z0, z1, z2, z3]) rfl ⟨rfl, ?_⟩
    exact hl.set4 (g := w.heap.size + 1 + 1) (by omega) _ _ _ _
  · have h1 : 3 ≤ o := by omega
    go_enter Tryz.func99, Tryz.ntmps99
    go_upto_region 2 with (go_at_call 108; refine (objThree _).mono ?_; rintro e _ ⟨rfl, rfl⟩)
    generalize hW : (((w.alloc (.cells (cells4 vs) 55)).alloc (.cells #[.int .i64 c, .int .i64 r, .int .i64 a] 60)).alloc (.cells (cells4 fun _ => slZ) 55)).alloc (.cells threeV 134) = W at hb3 hl ⊢
    clear hW
    obtain ⟨z0, z1, z2, z3, f0, f1, f2, f3⟩ := hb3.st
    go_wp2_with fail
    refine bodyPost_ret (v := .tuple #[stZ, .int .i64 0, .int .i64 600]) (by simp [results, Tryz.results99, go_sem, z0, z1, z2, z3]) rfl ⟨rfl, ?_⟩
    exact hl.set4 (g := w.heap.size + 1 + 1) (by omega) _ _ _ _

theorem objApply (o : Int) (v : Value) (s : St) (c r a : Int) (w : World) (hx : HasS w v s) (hf : Fit s) :
    Calls Tryz.prog 99 #[.int .i64 o, v, opV c r a] w fun e w' => ∃ v', e = .returned (.tuple #[v', .int .i64 (objS o s c r a 600).2.1, .int .i64 (objS o s c r a 600).2.2]) ∧ OwnS w' w.heap.size v' (objS o s c r a 600).1 ∧ Le w w' := by
  rcases obj_cases (o := o) with rfl | rfl | rfl | ho
  · exact objApply0 v s c r a w hx hf
  · exact objApply1 v s c r a w hx hf
  · exact objApply2 v s c r a w hx hf
  · rw [objS_out ho]
    exact (objApplyOut o ho v s c r a w hx).mono fun e w' ⟨he, hl⟩ => ⟨stZ, he, OwnS.zero _ _, hl⟩

theorem objScan (o : Int) (s : St) (er : Int) (h : er ≠ 0) : ((objS o s 3 0 0 er).2.2 == 0) = objMay o s := by
  have ho : opMay 3 0 0 = true := by decide
  cases hm : objMay o s
  · rw [objS_no (by rw [hm]; rfl)]; simpa using h
  · rw [objS_yes _ (by rw [hm, ho]; rfl)]; rfl

set_option maxHeartbeats 1000000 in
theorem objMayC (o : Int) (v : Value) (s : St) (w : World) (hx : HasS w v s) (hf : Fit s) :
    Calls Tryz.prog 82 #[.int .i64 o, v] w fun e w' => e = .returned (.bool (objMay o s)) ∧ Le w w' := by
  have hx0 := hx
  obtain ⟨vs, rfl, hr⟩ := hx
  have hl := Le.alloc w (.cells (cells4 vs) 55)
  have hap := objApply o (stV vs) s 3 0 0 _ (hx0.le hl) hf
  have hsc := objScan o s 600 (by decide)
  generalize objS o s 3 0 0 600 = S1 at hap hsc
  generalize objMay o s = b at hsc ⊢
  go_enter Tryz.func82, Tryz.ntmps82
  go_wp2_with fail
  refine hap.mono ?_
  rintro e w1 ⟨_, rfl, ⟨q, rfl, o1⟩, l1⟩
  go_wp2_with fail
  go_ret
  exact ⟨rfl, (hl.trans l1).trans (Le.alloc _ _)⟩

end Go.Proofs.YtjmnlghocbapkaaGreat

/-
  THE WALKS over package start's looker (mayReplica, mayThread) and May: what each answers, for every machine. Condition: that its rows can be copied.
-/
namespace Go.Proofs.YtjmnlghocbapkaaGreat
open Go.RowKit

set_option maxHeartbeats 4000000 in
theorem lookMayReplica (c : Cfg) (q : Sl) (v : Value) (Rs : List Rg) (P : Rp) (w : World) (hR : HasRs w (slV q) Rs) (hm : Rs.length * 48 ≤ 140737488351232) (hn : (Rs.length : Int) = c.l) (hx : HasP w v P) (hf : Fit P.s) (hf2 : P.ls.length * 8 ≤ 140737488351232) :
    Calls Tryz.prog 57 #[lookV c q, v] w fun e w' => e = .returned (.bool (repB c Rs P)) ∧ Le w w' := by
  obtain ⟨vs, qc, ql, rfl, i0, i1, i2⟩ := hx
  have hb := Box.new (w.alloc (.cells (cellsK c q) 95)) (cellsP vs qc ql) 57
  have hk := (Box.new w (cellsK c q) 95).le (Le.alloc _ (.cells (cellsP vs qc ql) 57))
  rw [World.size_alloc] at hb
  have hl := (Le.alloc w (.cells (cellsK c q) 95)).trans (Le.alloc _ (.cells (cellsP vs qc ql) 57))
  have m1 := objMayC c.o (stV vs) P.s _ (HasS.le ⟨vs, rfl, i0⟩ hl) hf
  have hlen := i1.len
  have m2 := fun w' (l : Le w w') (hh : P.cs.length = Rs.length) => lookMayCursors c q (slV qc) Rs P.cs w' (hR.le l) (i1.le l) hh hm
  have m3 := fun w' (l : Le w w') => exactlyNum 78 (lookV c q) (fun x => inB 0 x c.t) (fun _ _ => by kernel_rfl) (slV ql) P.ls c.l w' (fun w'' _ v x _ _ h => by rw [show v = .int .i64 x from h]; exact lookMayHolder c q x w'') (i2.le l) (by omega)
  simp only [repB]
  obtain ⟨ua, n, ucap⟩ := qc
  simp only at hlen
  have HN : Hid (n = P.cs.length) := hlen
  rw [← hlen]
  clear hlen hf hf2 i0 i1 i2
  cases h1 : objMay c.o P.s
  · rw [h1] at m1
    go_enter Tryz.func57, Tryz.ntmps57
    go_wp2_with fail
    refine m1.mono ?_
    rintro e w1 ⟨rfl, l1⟩
    go_wp2_with fail
    go_ret
    exact ⟨rfl, hl.trans l1⟩
  rw [h1] at m1
  by_cases h2 : (n : Int) = c.l
  case neg =>
    have h2b : ((n : Int) == c.l) = false := by simp [h2]
    rw [decide_eq_false h2]
    clear h2
    go_enter Tryz.func57, Tryz.ntmps57
    go_wp2_with fail
    refine m1.mono ?_
    rintro e w1 ⟨rfl, l1⟩
    obtain ⟨b0, b1, b2, b3, b4, b5⟩ := (hb.le l1).rep
    obtain ⟨k0, k1, k2, k3, k4, k5⟩ := (hk.le l1).look
    simp only [slV] at b4
    go_wp2_with fail
    go_ret
    exact ⟨rfl, hl.trans l1⟩
  have h2b : ((n : Int) == c.l) = true := by simp [h2]
  replace m2 := fun w' (l : Le w w') => m2 w' l (by have := HN.out; omega)
  rw [decide_eq_true h2]
  clear h2 hn
  cases h3 : cursOK Rs P.cs
  · simp only [h3] at m2
    go_enter Tryz.func57, Tryz.ntmps57
    go_wp2_with fail
    refine m1.mono ?_
    rintro e w1 ⟨rfl, l1⟩
    obtain ⟨b0, b1, b2, b3, b4, b5⟩ := (hb.le l1).rep
    obtain ⟨k0, k1, k2, k3, k4, k5⟩ := (hk.le l1).look
    simp only [slV] at b4
    go_wp2_with fail
    refine (m2 _ (hl.trans l1)).mono ?_
    rintro e w2 ⟨rfl, l2⟩
    go_wp2_with fail
    go_ret
    exact ⟨rfl, (hl.trans l1).trans l2⟩
  · simp only [h3] at m2
    go_enter Tryz.func57, Tryz.ntmps57
    go_wp2_with fail
    refine m1.mono ?_
    rintro e w1 ⟨rfl, l1⟩
    obtain ⟨b0, b1, b2, b3, b4, b5⟩ := (hb.le l1).rep
    obtain ⟨k0, k1, k2, k3, k4, k5⟩ := (hk.le l1).look
    simp only [slV] at b4
    go_wp2_with fail
    refine (m2 _ (hl.trans l1)).mono ?_
    rintro e w2 ⟨rfl, l2⟩
    obtain ⟨_, _, _, _, _, b5'⟩ := ((hb.le l1).le l2).rep
    obtain ⟨k0', k1', k2', k3', k4', k5'⟩ := ((hk.le l1).le l2).look
    go_wp2_with fail
    refine (m3 _ ((hl.trans l1).trans l2)).mono ?_
    rintro e w3 ⟨rfl, l3⟩
    go_wp2_with fail
    go_ret
    exact ⟨rfl, ((hl.trans l1).trans l2).trans l3⟩

set_option maxRecDepth 4000 in
set_option maxHeartbeats 8000000 in
theorem lookMayThread (c : Cfg) (q : Sl) (v : Value) (T : Th) (w : World) (hc : c.ok = true) (hx : HasT w v T) (hf : T.b.length * 8 ≤ 140737488351232) (hf2 : T.tl.length * 8 ≤ 140737488351232) :
    Calls Tryz.prog 59 #[lookV c q, v] w fun e w' => e = .returned (.bool (thB c T)) ∧ Le w w' := by
  obtain ⟨⟨ba, bn, bc⟩, t, rfl, i1, i2⟩ := hx
  obtain ⟨_, _, ⟨l0, l1'⟩, ⟨t0, t1⟩, _, _⟩ := Cfg.ok_cases hc
  have hb := Box.new (w.alloc (.cells (cellsK c q) 95)) (cellsT T (ba, bn, bc) t) 62
  have hk := (Box.new w (cellsK c q) 95).le (Le.alloc _ (.cells (cellsT T (ba, bn, bc) t) 62))
  rw [World.size_alloc] at hb
  have hl := (Le.alloc w (.cells (cellsK c q) 95)).trans (Le.alloc _ (.cells (cellsT T (ba, bn, bc) t) 62))
  have hlen := i1.len
  simp only at hlen
  have m1 := fun w' => startWithin T.st 0 19 w'
  have m2 := fun w' => operMay T.c T.r T.a w'
  have m3 := fun w' => startWithin T.lg 0 (c.l - 1) w'
  have m4 := fun w' => startMayPlace T.sn w'
  have m5 := fun w' (l : Le w w') => atMostNum 90 (lookV c q) (fun x => inB 0 x (c.t - 1)) (fun _ _ => by kernel_rfl) (slV (ba, bn, bc)) T.b c.t w' (fun w'' _ v x _ _ h => by rw [show v = .int .i64 x from h]; exact lookIsThread c q x w'' hc) (i1.le l) (by omega)
  have m6 := fun w' => startWithin T.pl 0 bn w'
  have m7 := fun w' (l : Le w w') => atMostNum0 88 (fun x => inB 0 x 1048576) (fun _ _ => by kernel_rfl) (slV t) T.tl c.l w' (fun w'' _ v x _ _ h => by rw [show v = .int .i64 x from h]; exact (startMayPlace x w'').mono (fun _ _ ⟨he, hw⟩ => ⟨he, by rw [hw]; exact Le.refl _⟩)) (i2.le l) (by omega)
  simp only [thB]
  rw [← hlen] at m5 ⊢
  clear hlen hf hf2 i1 i2 hc
  cases h1 : inB 0 T.st 19
  · simp only [h1] at m1
    go_enter Tryz.func59, Tryz.ntmps59
    go_wp2_with fail
    refine (m1 _).mono ?_
    rintro e _ ⟨rfl, rfl⟩
    go_wp2_with fail
    go_ret
    exact ⟨rfl, hl⟩
  simp only [h1] at m1
  cases h2 : opMay T.c T.r T.a
  · simp only [h2] at m2
    go_enter Tryz.func59, Tryz.ntmps59
    go_wp2_with fail
    refine (m1 _).mono ?_
    rintro e _ ⟨rfl, rfl⟩
    go_wp2_with fail
    refine (m2 _).mono ?_
    rintro e w1 ⟨rfl, n1⟩
    go_wp2_with fail
    go_ret
    exact ⟨rfl, hl.trans n1⟩
  simp only [h2] at m2
  cases h3 : inB 0 T.lg (c.l - 1)
  · simp only [h3] at m3
    go_enter Tryz.func59, Tryz.ntmps59
    go_wp2_with fail
    refine (m1 _).mono ?_
    rintro e _ ⟨rfl, rfl⟩
    go_wp2_with fail
    refine (m2 _).mono ?_
    rintro e w1 ⟨rfl, n1⟩
    obtain ⟨b10, b11, b12, b13, b14, b15, b16, b17, b18, b19, b110, b111⟩ := (hb.le n1).th
    obtain ⟨k10, k11, k12, k13, k14, k15⟩ := (hk.le n1).look
    simp only [slV] at b16
    go_wp2_with fail
    refine (m3 _).mono ?_
    rintro e _ ⟨rfl, rfl⟩
    go_wp2_with fail
    go_ret
    exact ⟨rfl, hl.trans n1⟩
  simp only [h3] at m3
  cases h4 : inB 0 T.sn 1048576
  · simp only [h4] at m4
    go_enter Tryz.func59, Tryz.ntmps59
    go_wp2_with fail
    refine (m1 _).mono ?_
    rintro e _ ⟨rfl, rfl⟩
    go_wp2_with fail
    refine (m2 _).mono ?_
    rintro e w1 ⟨rfl, n1⟩
    obtain ⟨b10, b11, b12, b13, b14, b15, b16, b17, b18, b19, b110, b111⟩ := (hb.le n1).th
    obtain ⟨k10, k11, k12, k13, k14, k15⟩ := (hk.le n1).look
    simp only [slV] at b16
    go_wp2_with fail
    refine (m3 _).mono ?_
    rintro e _ ⟨rfl, rfl⟩
    go_wp2_with fail
    refine (m4 _).mono ?_
    rintro e _ ⟨rfl, rfl⟩
    go_wp2_with fail
    go_ret
    exact ⟨rfl, hl.trans n1⟩
  simp only [h4] at m4
  cases h5 : (decide ((bn : Int) ≤ c.t) && T.b.all (fun x => inB 0 x (c.t - 1)))
  · simp only [h5] at m5
    go_enter Tryz.func59, Tryz.ntmps59
    go_wp2_with fail
    refine (m1 _).mono ?_
    rintro e _ ⟨rfl, rfl⟩
    go_wp2_with fail
    refine (m2 _).mono ?_
    rintro e w1 ⟨rfl, n1⟩
    obtain ⟨b10, b11, b12, b13, b14, b15, b16, b17, b18, b19, b110, b111⟩ := (hb.le n1).th
    obtain ⟨k10, k11, k12, k13, k14, k15⟩ := (hk.le n1).look
    simp only [slV] at b16
    go_wp2_with fail
    refine (m3 _).mono ?_
    rintro e _ ⟨rfl, rfl⟩
    go_wp2_with fail
    refine (m4 _).mono ?_
    rintro e _ ⟨rfl, rfl⟩
    go_wp2_with fail
    refine (m5 _ (hl.trans n1)).mono ?_
    rintro e w2 ⟨rfl, n2⟩
    go_wp2_with fail
    go_ret
    exact ⟨rfl, (hl.trans n1).trans n2⟩
  simp only [h5] at m5
  cases h6 : inB 0 T.pl bn
  · simp only [h6] at m6
    go_enter Tryz.func59, Tryz.ntmps59
    go_wp2_with fail
    refine (m1 _).mono ?_
    rintro e _ ⟨rfl, rfl⟩
    go_wp2_with fail
    refine (m2 _).mono ?_
    rintro e w1 ⟨rfl, n1⟩
    obtain ⟨b10, b11, b12, b13, b14, b15, b16, b17, b18, b19, b110, b111⟩ := (hb.le n1).th
    obtain ⟨k10, k11, k12, k13, k14, k15⟩ := (hk.le n1).look
    simp only [slV] at b16
    go_wp2_with fail
    refine (m3 _).mono ?_
    rintro e _ ⟨rfl, rfl⟩
    go_wp2_with fail
    refine (m4 _).mono ?_
    rintro e _ ⟨rfl, rfl⟩
    go_wp2_with fail
    refine (m5 _ (hl.trans n1)).mono ?_
    rintro e w2 ⟨rfl, n2⟩
    obtain ⟨b20, b21, b22, b23, b24, b25, b26, b27, b28, b29, b210, b211⟩ := ((hb.le n1).le n2).th
    obtain ⟨k20, k21, k22, k23, k24, k25⟩ := ((hk.le n1).le n2).look
    simp only [slV] at b26
    go_wp2_with fail
    refine (m6 _).mono ?_
    rintro e _ ⟨rfl, rfl⟩
    go_wp2_with fail
    go_ret
    exact ⟨rfl, (hl.trans n1).trans n2⟩
  simp only [h6] at m6
  go_enter Tryz.func59, Tryz.ntmps59
  go_wp2_with fail
  refine (m1 _).mono ?_
  rintro e _ ⟨rfl, rfl⟩
  go_wp2_with fail
  refine (m2 _).mono ?_
  rintro e w1 ⟨rfl, n1⟩
  obtain ⟨b10, b11, b12, b13, b14, b15, b16, b17, b18, b19, b110, b111⟩ := (hb.le n1).th
  obtain ⟨k10, k11, k12, k13, k14, k15⟩ := (hk.le n1).look
  simp only [slV] at b16
  go_wp2_with fail
  refine (m3 _).mono ?_
  rintro e _ ⟨rfl, rfl⟩
  go_wp2_with fail
  refine (m4 _).mono ?_
  rintro e _ ⟨rfl, rfl⟩
  go_wp2_with fail
  refine (m5 _ (hl.trans n1)).mono ?_
  rintro e w2 ⟨rfl, n2⟩
  obtain ⟨b20, b21, b22, b23, b24, b25, b26, b27, b28, b29, b210, b211⟩ := ((hb.le n1).le n2).th
  obtain ⟨k20, k21, k22, k23, k24, k25⟩ := ((hk.le n1).le n2).look
  simp only [slV] at b26
  go_wp2_with fail
  refine (m6 _).mono ?_
  rintro e _ ⟨rfl, rfl⟩
  go_wp2_with fail
  refine (m7 _ ((hl.trans n1).trans n2)).mono ?_
  rintro e w3 ⟨rfl, n3⟩
  go_wp2_with fail
  go_ret
  exact ⟨rfl, ((hl.trans n1).trans n2).trans n3⟩

end Go.Proofs.YtjmnlghocbapkaaGreat

/-
  THE WALK over package start's May: what it answers, for every machine. Condition: that its rows can be copied.
-/
namespace Go.Proofs.YtjmnlghocbapkaaGreat
open Go.RowKit

set_option maxRecDepth 4000 in
set_option maxHeartbeats 8000000 in
theorem startMay (v : Value) (M : Mc) (w : World) (hx : HasM w v M) (hf : FitM M) : Calls Tryz.prog 34 #[v] w fun e w' => e = .returned (.bool (mayM M)) ∧ Le w w' := by
  obtain ⟨c, Rs, Ps, Ts, Es⟩ := M
  obtain ⟨qR, qP, qT, qH, rfl, hR, hP, hT, hH⟩ := hx
  obtain ⟨f1, f2, f3, f4, fr, fp, ft⟩ := hf
  simp only at hR hP hT hH f1 f2 f3 f4 fr fp ft
  have hb := (Box.new w (cells9 c qR qP qT qH) 29).le (Le.alloc _ (.cells (cellsK c qR) 95))
  have hk := Box.new (w.alloc (.cells (cells9 c qR qP qT qH) 29)) (cellsK c qR) 95
  rw [World.size_alloc] at hk
  have hl := (Le.alloc w (.cells (cells9 c qR qP qT qH) 29)).trans (Le.alloc _ (.cells (cellsK c qR) 95))
  have m1 := fun w' => cfgMay c.o c.r c.l c.t c.s w'
  simp only [mayM, Cfg.ok]
  cases h1 : cfgB c.o c.r c.l c.t c.s
  · simp only [h1] at m1
    go_enter Tryz.func34, Tryz.ntmps34
    go_wp2_with fail
    refine (m1 _).mono ?_
    rintro e w1 ⟨rfl, n1⟩
    go_wp2_with fail
    go_ret
    exact ⟨rfl, hl.trans n1⟩
  have hc : c.ok = true := h1
  simp only [h1] at m1
  have m2 := fun w' (l : Le w w') => exactlyRing 55 (lookV c qR) (ringB c) (fun _ _ => by kernel_rfl) (slV qR) Rs c.l w' (fun w'' _ u R hm _ h => lookMayRing c qR u R w'' hc h (fr R hm)) (hR.le l) (by omega)
  cases h2 : (decide ((Rs.length : Int) = c.l) && Rs.all (ringB c))
  · simp only [h2] at m2
    go_enter Tryz.func34, Tryz.ntmps34
    go_wp2_with fail
    refine (m1 _).mono ?_
    rintro e w1 ⟨rfl, n1⟩
    obtain ⟨_, b5, b6, b7, b8⟩ := (hb.le n1).mach
    obtain ⟨k0, k1, k2, k3, k4, k5⟩ := (hk.le n1).look
    go_wp2_with fail
    refine (m2 _ (hl.trans n1)).mono ?_
    rintro e w2 ⟨rfl, n2⟩
    go_wp2_with fail
    go_ret
    exact ⟨rfl, (hl.trans n1).trans n2⟩
  simp only [h2] at m2
  have hn : (Rs.length : Int) = c.l := by simp at h2; exact h2.1
  have m3 := fun w' (l : Le w w') => exactlyRep 57 (lookV c qR) (repB c Rs) (fun _ _ => by kernel_rfl) (slV qP) Ps c.r w' (fun w'' l' u P hm _ h => lookMayReplica c qR u Rs P w'' (hR.le (l.trans l')) f1 hn h (fp P hm).1 (fp P hm).2.2) (hP.le l) (by omega)
  clear hn
  cases h3 : (decide ((Ps.length : Int) = c.r) && Ps.all (repB c Rs))
  · simp only [h3] at m3
    go_enter Tryz.func34, Tryz.ntmps34
    go_wp2_with fail
    refine (m1 _).mono ?_
    rintro e w1 ⟨rfl, n1⟩
    obtain ⟨_, b5, b6, b7, b8⟩ := (hb.le n1).mach
    obtain ⟨k0, k1, k2, k3, k4, k5⟩ := (hk.le n1).look
    go_wp2_with fail
    refine (m2 _ (hl.trans n1)).mono ?_
    rintro e w2 ⟨rfl, n2⟩
    obtain ⟨_, b5', b6', b7', b8'⟩ := ((hb.le n1).le n2).mach
    obtain ⟨k0', k1', k2', k3', k4', k5'⟩ := ((hk.le n1).le n2).look
    go_wp2_with fail
    refine (m3 _ ((hl.trans n1).trans n2)).mono ?_
    rintro e w3 ⟨rfl, n3⟩
    go_wp2_with fail
    go_ret
    exact ⟨rfl, ((hl.trans n1).trans n2).trans n3⟩
  simp only [h3] at m3
  have m4 := fun w' (l : Le w w') => exactlyTh 59 (lookV c qR) (thB c) (fun _ _ => by kernel_rfl) (slV qT) Ts c.t w' (fun w'' _ u T hm _ h => lookMayThread c qR u T w'' hc h (ft T hm).1 (ft T hm).2) (hT.le l) (by omega)
  cases h4 : (decide ((Ts.length : Int) = c.t) && Ts.all (thB c))
  · simp only [h4] at m4
    go_enter Tryz.func34, Tryz.ntmps34
    go_wp2_with fail
    refine (m1 _).mono ?_
    rintro e w1 ⟨rfl, n1⟩
    obtain ⟨_, b5, b6, b7, b8⟩ := (hb.le n1).mach
    obtain ⟨k0, k1, k2, k3, k4, k5⟩ := (hk.le n1).look
    go_wp2_with fail
    refine (m2 _ (hl.trans n1)).mono ?_
    rintro e w2 ⟨rfl, n2⟩
    obtain ⟨_, b5', b6', b7', b8'⟩ := ((hb.le n1).le n2).mach
    obtain ⟨k0', k1', k2', k3', k4', k5'⟩ := ((hk.le n1).le n2).look
    go_wp2_with fail
    refine (m3 _ ((hl.trans n1).trans n2)).mono ?_
    rintro e w3 ⟨rfl, n3⟩
    obtain ⟨_, _, b6'', b7'', b8''⟩ := (((hb.le n1).le n2).le n3).mach
    obtain ⟨k0'', k1'', k2'', k3'', k4'', k5''⟩ := (((hk.le n1).le n2).le n3).look
    go_wp2_with fail
    refine (m4 _ (((hl.trans n1).trans n2).trans n3)).mono ?_
    rintro e w4 ⟨rfl, n4⟩
    go_wp2_with fail
    go_ret
    exact ⟨rfl, (((hl.trans n1).trans n2).trans n3).trans n4⟩
  simp only [h4] at m4
  have m5 := fun w' (l : Le w w') => atMostEv 61 (lookV c qR) (evB c) (fun _ _ => by kernel_rfl) (slV qH) Es 64 w' (fun w'' _ u E hm _ h => by rw [show u = evV E from h]; exact lookMayEvent c qR E w'' hc) (hH.le l) (by omega)
  go_enter Tryz.func34, Tryz.ntmps34
  go_wp2_with fail
  refine (m1 _).mono ?_
  rintro e w1 ⟨rfl, n1⟩
  obtain ⟨_, b5, b6, b7, b8⟩ := (hb.le n1).mach
  obtain ⟨k0, k1, k2, k3, k4, k5⟩ := (hk.le n1).look
  go_wp2_with fail
  refine (m2 _ (hl.trans n1)).mono ?_
  rintro e w2 ⟨rfl, n2⟩
  obtain ⟨_, b5', b6', b7', b8'⟩ := ((hb.le n1).le n2).mach
  obtain ⟨k0', k1', k2', k3', k4', k5'⟩ := ((hk.le n1).le n2).look
  go_wp2_with fail
  refine (m3 _ ((hl.trans n1).trans n2)).mono ?_
  rintro e w3 ⟨rfl, n3⟩
  obtain ⟨_, _, b6'', b7'', b8''⟩ := (((hb.le n1).le n2).le n3).mach
  obtain ⟨k0'', k1'', k2'', k3'', k4'', k5''⟩ := (((hk.le n1).le n2).le n3).look
  go_wp2_with fail
  refine (m4 _ (((hl.trans n1).trans n2).trans n3)).mono ?_
  rintro e w4 ⟨rfl, n4⟩
  have b9 := ((((hb.le n1).le n2).le n3).le n4).mach.2.2.2.2
  obtain ⟨j0, j1, j2, j3, j4, j5⟩ := ((((hk.le n1).le n2).le n3).le n4).look
  go_wp2_with fail
  refine (m5 _ ((((hl.trans n1).trans n2).trans n3).trans n4)).mono ?_
  rintro e w5 ⟨rfl, n5⟩
  go_wp2_with fail
  go_ret
  exact ⟨rfl, ((((hl.trans n1).trans n2).trans n3).trans n4).trans n5⟩

end Go.Proofs.YtjmnlghocbapkaaGreat

/-
  THE WALK over choruslaw14.awake: it answers true and turns nothing that was there. No condition. Beside it the contracts of package start's New and choruslaw0's CopyMachine with their answers written out.
-/
namespace Go.Proofs.YtjmnlghocbapkaaGreat
open Go.RowKit

theorem copyMachineAs (v : Value) (M : Mc) (w : World) (hx : HasM w v M) (hf : FitM M) : Calls Tryz.prog 5 #[v] w fun e w' => ∃ qR qP qT qH, e = .returned (machV M.c qR qP qT qH) ∧ OwnM w' w.heap.size (machV M.c qR qP qT qH) M ∧ Le w w' := by
  refine (lawCopyMachine v M w hx hf).mono ?_
  rintro e w' ⟨L, rfl, rfl, o, _, l⟩
  exact ⟨_, _, _, _, rfl, ⟨L, rfl, rfl, o⟩, l⟩

theorem HasM.lens {w : World} {M : Mc} {c : Cfg} {a b d e : Sl} (h : HasM w (machV c a b d e) M) : a.2.1 = M.rs.length ∧ b.2.1 = M.ps.length ∧ d.2.1 = M.ts.length ∧ e.2.1 = M.es.length := by
  obtain ⟨qR, qP, qT, qH, hv, h1, h2, h3, h4⟩ := h
  simp only [machV, cells9, Value.agg.injEq, Array.mk.injEq, List.cons.injEq] at hv
  obtain ⟨_, _, _, _, _, e5, e6, e7, e8, _⟩ := hv
  refine ⟨HasRs.len (w := w) (by rw [e5]; exact h1), HasPs.len (w := w) (by rw [e6]; exact h2), HasTs.len (w := w) (by rw [e7]; exact h3), HasE.len (K := evK) (w := w) (by rw [e8]; exact h4)⟩

end Go.Proofs.YtjmnlghocbapkaaGreat

/-
  THE WALKS over choruslaw15's begun and called: a machine that begins, and one that thread 0 has called. No condition.
-/
namespace Go.Proofs.YtjmnlghocbapkaaGreat
open Go.RowKit

set_option maxRecDepth 8000 in
set_option maxHeartbeats 4000000 in
theorem begun15 (w : World) : Calls Tryz.prog 14 #[] w fun e w' => ∃ qR qP qT qH, e = .returned (machV begC qR qP qT qH) ∧ OwnM w' w.heap.size (machV begC qR qP qT qH) begM ∧ Le w w' := by
  have hr := Box.new w cellsZ9 29
  have hl := Le.alloc w (.cells cellsZ9 29)
  go_enter Tryz.func14, Tryz.ntmps14
  go_upto_region 1 with fail
  generalize hW : w.alloc (.cells cellsZ9 29) = W at hl hr ⊢
  clear hW
  go_wp2_with fail
  refine (begNew _).mono ?_
  rintro e w1 ⟨qR, qP, qT, qH, rfl, o, l1⟩
  replace hr := hr.le l1
  have ho := (o.base hl.size)
  replace hl := hl.trans l1
  clear o l1
  have hb := Box.new w1 (cells9 begC qR qP qT qH) 29
  have a1 := Le.alloc w1 (.cells (cells9 begC qR qP qT qH) 29)
  go_upto_region 2 with fail
  generalize hW1 : w1.alloc (.cells (cells9 begC qR qP qT qH) 29) = W1 at hb a1 ⊢
  generalize w1.heap.size = g1 at hb ⊢
  clear hW1
  replace hr := hr.le a1
  replace ho := ho.le a1
  replace hl := hl.trans a1
  clear a1
  obtain ⟨⟨z0, z1, z2, z3, z4⟩, z5, z6, z7, z8⟩ := (hb).mach
  have r0 := (hr).cell 0
  have r1 := (hr).cell 1
  have r2 := (hr).cell 2
  have r3 := (hr).cell 3
  have r4 := (hr).cell 4
  have r5 := (hr).cell 5
  have r6 := (hr).cell 6
  have r7 := (hr).cell 7
  have r8 := (hr).cell 8
  simp only [List.getElem?_toArray, List.getElem?_cons_succ, List.getElem?_cons_zero] at r0 r1 r2 r3 r4 r5 r6 r7 r8
  have k0 := (hr).frozen 0
  have k1 := (hr).frozen 1
  have k2 := (hr).frozen 2
  have k3 := (hr).frozen 3
  have k4 := (hr).frozen 4
  have k5 := (hr).frozen 5
  have k6 := (hr).frozen 6
  have k7 := (hr).frozen 7
  have k8 := (hr).frozen 8
  go_wp2_with fail
  refine bodyPost_ret (v := machV begC qR qP qT qH) (by simp [results, Tryz.results14, go_sem, r0, r1, r2, r3, r4, r5, r6, r7, r8]) rfl ⟨qR, qP, qT, qH, rfl, ?_, hl.put9 (g := w.heap.size) (Nat.le_refl _) begC qR qP qT qH⟩
  obtain ⟨L, hv, hm, ho⟩ := ho
  exact ⟨L, hv, hm, ho.put9 hr begC qR qP qT qH⟩

set_option maxRecDepth 8000 in
set_option maxHeartbeats 4000000 in
theorem called15 (w : World) : Calls Tryz.prog 32 #[] w fun e w' => ∃ qR qP qT qH, e = .returned (machV begC qR qP qT qH) ∧ OwnA w' w.heap.size (machV begC qR qP qT qH) cldM ∧ Le w w' := by
  have hr := Box.new w cellsZ9 29
  have hl := Le.alloc w (.cells cellsZ9 29)
  go_enter Tryz.func32, Tryz.ntmps32
  go_upto_region 1 with fail
  generalize hW : w.alloc (.cells cellsZ9 29) = W at hl hr ⊢
  clear hW
  go_wp2_with fail
  refine (begun15 _).mono ?_
  rintro e w0 ⟨pR, pP, pT, pH, rfl, o0, l0⟩
  replace hr := hr.le l0
  replace hl := hl.trans l0
  clear l0
  go_wp2_with fail
  refine (begCall _ _ o0.has).mono ?_
  rintro e w1 ⟨qR, qP, qT, qH, rfl, o, l1⟩
  clear o0
  replace hr := hr.le l1
  have ho := (o.base hl.size)
  replace hl := hl.trans l1
  clear o l1
  have hb := Box.new w1 (cells9 begC qR qP qT qH) 29
  have a1 := Le.alloc w1 (.cells (cells9 begC qR qP qT qH) 29)
  go_upto_region 2 with fail
  generalize hW1 : w1.alloc (.cells (cells9 begC qR qP qT qH) 29) = W1 at hb a1 ⊢
  generalize w1.heap.size = g1 at hb ⊢
  clear hW1
  replace hr := hr.le a1
  replace ho := ho.le a1
  replace hl := hl.trans a1
  clear a1
  obtain ⟨⟨z0, z1, z2, z3, z4⟩, z5, z6, z7, z8⟩ := (hb).mach
  have r0 := (hr).cell 0
  have r1 := (hr).cell 1
  have r2 := (hr).cell 2
  have r3 := (hr).cell 3
  have r4 := (hr).cell 4
  have r5 := (hr).cell 5
  have r6 := (hr).cell 6
  have r7 := (hr).cell 7
  have r8 := (hr).cell 8
  simp only [List.getElem?_toArray, List.getElem?_cons_succ, List.getElem?_cons_zero] at r0 r1 r2 r3 r4 r5 r6 r7 r8
  have k0 := (hr).frozen 0
  have k1 := (hr).frozen 1
  have k2 := (hr).frozen 2
  have k3 := (hr).frozen 3
  have k4 := (hr).frozen 4
  have k5 := (hr).frozen 5
  have k6 := (hr).frozen 6
  have k7 := (hr).frozen 7
  have k8 := (hr).frozen 8
  go_wp2_with fail
  refine bodyPost_ret (v := machV begC qR qP qT qH) (by simp [results, Tryz.results32, go_sem, r0, r1, r2, r3, r4, r5, r6, r7, r8]) rfl ⟨qR, qP, qT, qH, rfl, ?_, hl.put9 (g := w.heap.size) (Nat.le_refl _) begC qR qP qT qH⟩
  obtain ⟨L, hv, hm, ho, ha⟩ := ho
  exact ⟨L, hv, hm, ho.put9 hr begC qR qP qT qH, ha⟩

/-- .. as its history tells. -/
theorem calledL15 (w : World) : Calls Tryz.prog 32 #[] w fun e w' => ∃ qR qP qT a c, e = .returned (.agg #[.int .i64 2, .int .i64 2, .int .i64 2, .int .i64 4, .int .i64 8, slV qR, slV qP, slV qT, .slice a 1 c]) ∧ Le w w' := by
  refine (called15 w).mono ?_
  rintro e w' ⟨qR, qP, qT, qH, rfl, o, l⟩
  have hh : qH.2.1 = 1 := o.has.lens.2.2.2
  obtain ⟨a, n, c⟩ := qH
  simp only at hh
  subst hh
  exact ⟨qR, qP, qT, a, c, rfl, l⟩

end Go.Proofs.YtjmnlghocbapkaaGreat

/-
  THE WALKS over package lists' Copy at logs, replicas, threads and events, and package machines' copyRing, copyReplica, copyThread: what each answers, in rows of the call's own. Condition: that the rows can be copied.
-/
namespace Go.Proofs.YtjmnlghocbapkaaGreat
open Go.RowKit

theorem listsCopyR (v : Value) (xs : List LR) (w : World) (hx : HasE ringK w v xs) (hf : xs.length * 48 ≤ 140737488351232) :
    Calls Tryz.prog 62 #[v] w fun e w' => ∃ q : Sl, e = .returned (slV q) ∧ OwnE ringK w' w.heap.size (slV q) xs ∧ Le w w' := by
  have hrow : ∀ g, (Value.slice none 0 0).ownBlock = some g → w.heap.size ≤ g := by intro g hg; cases hg
  go_enter Tryz.func62, Tryz.ntmps62
  go_wp2_with (at_builtin; refine wp_append_E ringIn rfl _ _ rfl w.heap.size _ _ [] xs rfl rfl (OwnE.nil _ _ _) hx (by show (([] : List LR).length + xs.length) * 48 ≤ _; simp; omega) (by simp; omega) (by simp) ?_; intro v' w2 hown hgrow _; rw [List.nil_append] at hown; have l2 : Le w w2 := Below.grown (Le.refl w) hgrow (by simp) hrow; obtain ⟨q, rfl⟩ := hown.has.sl)
  go_ret
  exact ⟨q, rfl, hown, l2⟩

theorem listsCopyP (v : Value) (xs : List LP) (w : World) (hx : HasE repK w v xs) (hf : xs.length * 144 ≤ 140737488351232) :
    Calls Tryz.prog 64 #[v] w fun e w' => ∃ q : Sl, e = .returned (slV q) ∧ OwnE repK w' w.heap.size (slV q) xs ∧ Le w w' := by
  have hrow : ∀ g, (Value.slice none 0 0).ownBlock = some g → w.heap.size ≤ g := by intro g hg; cases hg
  go_enter Tryz.func64, Tryz.ntmps64
  go_wp2_with (at_builtin; refine wp_append_E repIn rfl _ _ rfl w.heap.size _ _ [] xs rfl rfl (OwnE.nil _ _ _) hx (by show (([] : List LP).length + xs.length) * 144 ≤ _; simp; omega) (by simp; omega) (by simp) ?_; intro v' w2 hown hgrow _; rw [List.nil_append] at hown; have l2 : Le w w2 := Below.grown (Le.refl w) hgrow (by simp) hrow; obtain ⟨q, rfl⟩ := hown.has.sl)
  go_ret
  exact ⟨q, rfl, hown, l2⟩

theorem listsCopyT (v : Value) (xs : List LT) (w : World) (hx : HasE thK w v xs) (hf : xs.length * 120 ≤ 140737488351232) :
    Calls Tryz.prog 67 #[v] w fun e w' => ∃ q : Sl, e = .returned (slV q) ∧ OwnE thK w' w.heap.size (slV q) xs ∧ Le w w' := by
  have hrow : ∀ g, (Value.slice none 0 0).ownBlock = some g → w.heap.size ≤ g := by intro g hg; cases hg
  go_enter Tryz.func67, Tryz.ntmps67
  go_wp2_with (at_builtin; refine wp_append_E thIn rfl _ _ rfl w.heap.size _ _ [] xs rfl rfl (OwnE.nil _ _ _) hx (by show (([] : List LT).length + xs.length) * 120 ≤ _; simp; omega) (by simp; omega) (by simp) ?_; intro v' w2 hown hgrow _; rw [List.nil_append] at hown; have l2 : Le w w2 := Below.grown (Le.refl w) hgrow (by simp) hrow; obtain ⟨q, rfl⟩ := hown.has.sl)
  go_ret
  exact ⟨q, rfl, hown, l2⟩

theorem listsCopyE (v : Value) (xs : List Ev) (w : World) (hx : HasE evK w v xs) (hf : xs.length * 48 ≤ 140737488351232) :
    Calls Tryz.prog 43 #[v] w fun e w' => ∃ q : Sl, e = .returned (slV q) ∧ OwnE evK w' w.heap.size (slV q) xs ∧ Le w w' := by
  have hrow : ∀ g, (Value.slice none 0 0).ownBlock = some g → w.heap.size ≤ g := by intro g hg; cases hg
  go_enter Tryz.func43, Tryz.ntmps43
  go_wp2_with (at_builtin; refine wp_append_E evIn rfl _ _ rfl w.heap.size _ _ [] xs rfl rfl (OwnE.nil _ _ _) hx (by show (([] : List Ev).length + xs.length) * 48 ≤ _; simp; omega) (by simp; omega) (by simp) ?_; intro v' w2 hown hgrow _; rw [List.nil_append] at hown; have l2 : Le w w2 := Below.grown (Le.refl w) hgrow (by simp) hrow; obtain ⟨q, rfl⟩ := hown.has.sl)
  go_ret
  exact ⟨q, rfl, hown, l2⟩

theorem machCopyRing (h t f : Int) (q : Sl) (ss : List Slt) (w : World) (hx : HasL w (slV q) ss) (hf : ss.length * 40 ≤ 140737488351232) :
    Calls Tryz.prog 38 #[ringV h t f q] w fun e w' => ∃ u : Sl, e = .returned (ringV h t f u) ∧ OwnL w' w.heap.size (slV u) ss ∧ Le w w' := by
  have hb := (Box.new w (cellsR h t f q) 50).le (Le.alloc _ (.cells (cellsR 0 0 0 slZ) 50))
  have hb2 := Box.new (w.alloc (.cells (cellsR h t f q) 50)) (cellsR 0 0 0 slZ) 50
  rw [World.size_alloc] at hb2
  have hl := (Le.alloc w (.cells (cellsR h t f q) 50)).trans (Le.alloc _ (.cells (cellsR 0 0 0 slZ) 50))
  go_enter Tryz.func38, Tryz.ntmps38
  go_wp2_with fail
  refine (listsCopy _ ss _ (hx.le hl) hf).mono ?_
  rintro e w1 ⟨u, rfl, hown, l1⟩
  have hb' := hb.le l1
  have hb2' := hb2.le l1
  obtain ⟨b0, b1, b2, b3, f0, f1, f2, f3⟩ := hb'.ring
  obtain ⟨p0, p1, p2, p3, g0, g1, g2, g3⟩ := hb2'.ring
  go_wp2
  refine bodyPost_ret (v := ringV h t f u) (by simp [results, Tryz.results38, go_sem, p0, p1, p2, p3]) rfl ⟨u, rfl, ?_, ?_⟩
  · iterate 5 refine OwnL.set ?_ (hown.off (by simp only [World.size_alloc]; omega))
    exact hown.base (by simp only [World.size_alloc]; omega)
  · iterate 5 refine Le.set ?_ (by omega)
    exact hl.trans l1

theorem Own.setNe {w : World} {base g i : Nat} {v u : Value} {xs : List Int} (h : Own w base v xs) (hne : v.ownBlock ≠ some g) : Own (w.setCell ⟨g, i, none⟩ u) base v xs := ownsRow_setCell_other h hne u
theorem Own.offB {w : World} {base g : Nat} {v : Value} {xs : List Int} (h : Own w base v xs) (hg : g < base) : v.ownBlock ≠ some g := fun e => by
  have := (h.block e).1
  omega
abbrev cellsT0 : Array Value := #[.int .i64 0, .int .i64 0, .int .i64 0, .int .i64 0, .int .i64 0, .int .i64 0, .slice none 0 0, .int .i64 0, .bool false, .bool false, .int .i64 0, .slice none 0 0]
theorem Box.setATh {w : World} {g : Nat} {T : Th} {b t q : Sl} {ty : TypeId} (h : Box w g (cellsT T b t) ty) : Box (w.setCell ⟨g, 6, none⟩ (slV q)) g (cellsT T q t) ty := h.setT6
theorem Box.setBTh {w : World} {g : Nat} {T : Th} {b t q : Sl} {ty : TypeId} (h : Box w g (cellsT T b t) ty) : Box (w.setCell ⟨g, 11, none⟩ (slV q)) g (cellsT T b q) ty := h.setT11
theorem Box.setARep {w : World} {g : Nat} {us : Nat → Sl} {b t q : Sl} {ty : TypeId} (h : Box w g (cellsP us b t) ty) : Box (w.setCell ⟨g, 4, none⟩ (slV q)) g (cellsP us q t) ty := h.set 4 (slV q)
theorem Box.setBRep {w : World} {g : Nat} {us : Nat → Sl} {b t q : Sl} {ty : TypeId} (h : Box w g (cellsP us b t) ty) : Box (w.setCell ⟨g, 5, none⟩ (slV q)) g (cellsP us b q) ty := h.set 5 (slV q)

set_option maxRecDepth 4000 in
set_option maxHeartbeats 2000000 in
theorem machCopyThread (T : Th) (qb qt : Sl) (w : World) (hq1 : Has w (slV qb) T.b) (hq2 : Has w (slV qt) T.tl) (hq1f : T.b.length * 8 ≤ 140737488351232) (hq2f : T.tl.length * 8 ≤ 140737488351232) :
    Calls Tryz.prog 42 #[thV T qb qt] w fun e w' => ∃ u1 u2 : Sl, e = .returned (thV T u1 u2) ∧ Own w' w.heap.size (slV u1) T.b ∧ Own w' w.heap.size (slV u2) T.tl ∧ (∀ b, (slV u2).ownBlock = some b → (slV u1).ownBlock ≠ some b) ∧ Le w w' := by
  obtain ⟨g, hg⟩ : ∃ g, w.heap.size = g := ⟨_, rfl⟩
  have hbW := (Box.new w (cellsT T qb qt) 62).le (Le.alloc _ (.cells cellsT0 62))
  have hrW := Box.new (w.alloc (.cells (cellsT T qb qt) 62)) cellsT0 62
  rw [World.size_alloc] at hrW
  have hl := (Le.alloc w (.cells (cellsT T qb qt) 62)).trans (Le.alloc _ (.cells cellsT0 62))
  go_enter Tryz.func42, Tryz.ntmps42
  go_upto_region 1 with fail
  generalize hW : (w.alloc (.cells (cellsT T qb qt) 62)).alloc (.cells cellsT0 62) = W at hl hbW hrW ⊢
  clear hW
  rw [hg] at hbW hrW
  replace hq1 := hq1.le hl
  replace hq2 := hq2.le hl
  have hgr := hrW.lt
  obtain ⟨_, _, _, _, _, _, c6, _, _, _, _, c11⟩ := hbW.th
  refine wp_region_any (by kernel_rfl) ?_
  refine wpAny_grow [] [0, 1, 2, 3, 4, 5, 6] [7, 8, 9] (by decide) (by kernel_rfl) Le (Le.refl _) (fun _ _ _ => Le.trans)
    (fun vs i x => match i with
      | 0 => vs 0 = .pointer (some ⟨g, 6, none⟩)
      | 1 => vs 1 = slV qb
      | 2 => ∃ q, vs 2 = slV q ∧ Own x W.heap.size (slV q) T.b
      | 3 => vs 3 = .pointer (some ⟨g, 11, none⟩)
      | 4 => vs 4 = slV qt
      | 6 => vs 6 = .pointer (some ⟨g, 6, none⟩)
      | _ => ∃ q q', vs 2 = slV q ∧ vs 5 = slV q' ∧ Own x W.heap.size (slV q) T.b ∧ Own x W.heap.size (slV q') T.tl ∧ ∀ b, (slV q').ownBlock = some b → (slV q).ownBlock ≠ some b) ?_ ?_ (by decide) ?_ ?_
  · intro vs i x y hi _ h hxy
    simp only [List.mem_cons, List.not_mem_nil, or_false] at hi
    rcases hi with rfl | rfl | rfl | rfl | rfl | rfl | rfl
    · exact h
    · exact h
    · obtain ⟨q, e, o⟩ := h; exact ⟨q, e, o.le hxy⟩
    · exact h
    · exact h
    · obtain ⟨q, q', e, e', o, o', ap⟩ := h; exact ⟨q, q', e, e', o.le hxy, o'.le hxy, ap⟩
    · exact h
  · intro vs vs' i o x hi _ hk h
    have e := hk i (.inl rfl)
    simp only [List.mem_cons, List.not_mem_nil, or_false] at hi
    rcases hi with rfl | rfl | rfl | rfl | rfl | rfl | rfl
    iterate 5
      · simp only at h ⊢
        rw [← e]
        exact h
    · have e2 := hk 2 (.inr (by kernel_rfl))
      simp only at h ⊢
      rw [← e, ← e2]
      exact h
    · simp only at h ⊢
      rw [← e]
      exact h
  · intro i o hi ho vs x hx hd
    have hx0 := (Le.drew W).trans hx
    simp only [List.mem_cons, List.not_mem_nil, or_false] at hi
    generalize hρ : (putH _ _ _ vs).eval = ρ
    rcases hi with rfl | rfl | rfl | rfl | rfl | rfl | rfl
    · cases ho
      have r1 : ρ (.tmp 1) = .pointer (some ⟨g, 0, none⟩) := by rw [← hρ]; kernel_rfl
      exact gives_value (w' := x) (v := .pointer (some ⟨g, 6, none⟩)) (by simp [go_sem, r1]) ⟨Le.refl _, rfl⟩
    · cases ho
      have r1 : ρ (.tmp 3) = vs 0 := by rw [← hρ]; kernel_rfl
      have d := hd 0 (by decide) (by kernel_rfl)
      simp only at d
      rw [d] at r1
      have y := cell_le c6 hx0
      exact gives_value (w' := x) (v := slV qb) (by simp [go_sem, r1, y]) ⟨Le.refl _, rfl⟩
    · cases ho
      have r1 : ρ (.tmp 4) = vs 1 := by rw [← hρ]; kernel_rfl
      have d := hd 1 (by decide) (by kernel_rfl)
      simp only at d
      rw [d] at r1
      have m := listsCopyI (slV qb) T.b x (hq1.le hx0) hq1f
      refine gives_call (f := 66) (args := #[slV qb]) (by simp [go_sem, r1]; kernel_rfl) (m.mono ?_)
      rintro e x2 ⟨q, rfl, o, gr⟩
      have l2 : Le x x2 := Below.grown (Le.refl x) gr (by simp) (by intro g hg; cases hg)
      exact ⟨_, rfl, l2, q, rfl, o.base hx0.size⟩
    · cases ho
      have r1 : ρ (.tmp 1) = .pointer (some ⟨g, 0, none⟩) := by rw [← hρ]; kernel_rfl
      exact gives_value (w' := x) (v := .pointer (some ⟨g, 11, none⟩)) (by simp [go_sem, r1]) ⟨Le.refl _, rfl⟩
    · cases ho
      have r1 : ρ (.tmp 6) = vs 3 := by rw [← hρ]; kernel_rfl
      have d := hd 3 (by decide) (by kernel_rfl)
      simp only at d
      rw [d] at r1
      have y := cell_le c11 hx0
      exact gives_value (w' := x) (v := slV qt) (by simp [go_sem, r1, y]) ⟨Le.refl _, rfl⟩
    · cases ho
      have r1 : ρ (.tmp 7) = vs 4 := by rw [← hρ]; kernel_rfl
      have d := hd 4 (by decide) (by kernel_rfl)
      have d2 := hd 2 (by decide) (by kernel_rfl)
      simp only at d d2
      obtain ⟨q, e2, o2⟩ := d2
      rw [d] at r1
      have m := listsCopyI (slV qt) T.tl x (hq2.le hx0) hq2f
      refine gives_call (f := 66) (args := #[slV qt]) (by simp [go_sem, r1]; kernel_rfl) (m.mono ?_)
      rintro e x2 ⟨q', rfl, o, gr⟩
      have l2 : Le x x2 := Below.grown (Le.refl x) gr (by simp) (by intro g hg; cases hg)
      refine ⟨_, rfl, l2, q, q', by simp [e2], by simp, o2.le l2, o.base hx0.size, fun b h1 h2 => ?_⟩
      have := (o.block h1).1
      have := (o2.block h2).2
      omega
    · cases ho
      have r1 : ρ (.tmp 1) = .pointer (some ⟨g, 0, none⟩) := by rw [← hρ]; kernel_rfl
      exact gives_value (w' := x) (v := .pointer (some ⟨g, 6, none⟩)) (by simp [go_sem, r1]) ⟨Le.refl _, rfl⟩
  · intro vs x hx hd
    have hx0 := (Le.drew W).trans hx
    have hh := hd 5 (by decide)
    simp only at hh
    replace hh := hh.choose_spec
    generalize Exists.choose _ = q1 at hh
    replace hh := hh.choose_spec
    generalize Exists.choose _ = q2 at hh
    have e1 := hh.1
    have e2 := hh.2.1
    have o1 := hh.2.2.1
    have o2 := hh.2.2.2.1
    have ap := hh.2.2.2.2
    have e6 := hd 6 (by decide)
    simp only at e6
    clear hh hd
    have hbx := hbW.le hx0
    have hrx := hrW.le hx0
    have cA : x.cell? ⟨g, 6, none⟩ = some (slV qb) ∧ x.frozen? ⟨g, 6, none⟩ = false := ⟨cell_le c6 hx0, hbx.frozen _⟩
    have hby := hbx.setATh (q := q1)
    have cB : (x.setCell ⟨g, 6, none⟩ (slV q1)).cell? ⟨g, 11, none⟩ = some (slV qt) ∧ (x.setCell ⟨g, 6, none⟩ (slV q1)).frozen? ⟨g, 11, none⟩ = false := ⟨by rw [hby.cell]; rfl, hby.frozen _⟩
    have hbz := hby.setBTh (q := q2)
    clear hbx
    generalize hf0 : putH _ _ _ vs = fr0
    refine wpSeq_cons rfl ?_
    refine wp_skip_at (w0 := x.setCell ⟨g, 6, none⟩ (slV q1)) ?_ ?_
    · generalize hρ : fr0.eval = ρ
      have r1 : ρ (.tmp 9) = vs 6 := by rw [← hρ, ← hf0]; kernel_rfl
      have r2 : ρ (.tmp 5) = vs 2 := by rw [← hρ, ← hf0]; kernel_rfl
      rw [e1] at r2
      rw [e6] at r1
      simp [go_sem, r1, r2, cA.1, cA.2]
    · generalize hf2 : Act.put fr0 _ _ = fr2
      refine wpSeq_cons rfl ?_
      refine wp_value_at (v0 := .pointer (some ⟨g, 11, none⟩)) (w0 := x.setCell ⟨g, 6, none⟩ (slV q1)) ?_ ?_
      · generalize hρ : fr2.eval = ρ
        have r1 : ρ (.tmp 1) = .pointer (some ⟨g, 0, none⟩) := by rw [← hρ, ← hf2, ← hf0]; kernel_rfl
        simp [go_sem, r1]
      · generalize hf3 : Act.put fr2 _ _ = fr3
        refine wpSeq_cons rfl ?_
        refine wp_skip_at (w0 := (x.setCell ⟨g, 6, none⟩ (slV q1)).setCell ⟨g, 11, none⟩ (slV q2)) ?_ ?_
        · generalize hρ : fr3.eval = ρ
          have r1 : ρ (.tmp 10) = .pointer (some ⟨g, 11, none⟩) := by rw [← hρ, ← hf3, ← hf2, ← hf0]; kernel_rfl
          have r2 : ρ (.tmp 8) = vs 5 := by rw [← hρ, ← hf3, ← hf2, ← hf0]; kernel_rfl
          rw [e2] at r2
          simp [go_sem, r1, r2, cB.1, cB.2]
        · subst hf3 hf2 hf0
          simp only [wpSeq, putH, List.getElem?_cons_succ, List.getElem?_cons_zero, Option.bind_some, Act.put, List.setIfInBounds_toArray, List.set_cons_zero, List.set_cons_succ]
          have l4 : Le w ((x.setCell ⟨g, 6, none⟩ (slV q1)).setCell ⟨g, 11, none⟩ (slV q2)) := Le.set (Le.set (hl.trans hx0) (by omega)) (by omega)
          have o3 : Own ((x.setCell ⟨g, 6, none⟩ (slV q1)).setCell ⟨g, 11, none⟩ (slV q2)) W.heap.size (slV q1) T.b := (o1.setNe (o1.offB (by omega))).setNe (o1.offB (by omega))
          have o4 : Own ((x.setCell ⟨g, 6, none⟩ (slV q1)).setCell ⟨g, 11, none⟩ (slV q2)) W.heap.size (slV q2) T.tl := (o2.setNe (o2.offB (by omega))).setNe (o2.offB (by omega))
          have hrz : Box ((x.setCell ⟨g, 6, none⟩ (slV q1)).setCell ⟨g, 11, none⟩ (slV q2)) (g + 1) cellsT0 62 := (hrx.other (by omega) _ _).other (by omega) _ _
          clear e1 e2 o1 o2 hrx hby cA cB c6 c11 hbW hrW
          generalize (x.setCell ⟨g, 6, none⟩ (slV q1)).setCell ⟨g, 11, none⟩ (slV q2) = w4 at hbz l4 o3 o4 hrz ⊢
          obtain ⟨t0, t1, t2, t3, t4, t5, t6, t7, t8, t9, t10, t11⟩ := hbz.th
          have hk := fun i => hrz.frozen i
          have r0 := hrz.cell 0
          have r1 := hrz.cell 1
          have r2 := hrz.cell 2
          have r3 := hrz.cell 3
          have r4 := hrz.cell 4
          have r5 := hrz.cell 5
          have r6 := hrz.cell 6
          have r7 := hrz.cell 7
          have r8 := hrz.cell 8
          have r9 := hrz.cell 9
          have r10 := hrz.cell 10
          have r11 := hrz.cell 11
          simp only [List.getElem?_toArray, List.getElem?_cons_succ, List.getElem?_cons_zero] at r0 r1 r2 r3 r4 r5 r6 r7 r8 r9 r10 r11
          have k0 := hk 0
          have k1 := hk 1
          have k2 := hk 2
          have k3 := hk 3
          have k4 := hk 4
          have k5 := hk 5
          have k6 := hk 6
          have k7 := hk 7
          have k8 := hk 8
          have k9 := hk 9
          have k10 := hk 10
          have k11 := hk 11
          clear hk
          go_wp2_with fail
          refine bodyPost_ret (v := thV T q1 q2) (by simp [results, Tryz.results42, go_sem, r0, r1, r2, r3, r4, r5, r6, r7, r8, r9, r10, r11]) rfl ⟨q1, q2, rfl, ?_, ?_, ap, ?_⟩
          · iterate 12 refine Own.setNe ?_ (o3.offB (by omega))
            exact o3.base (by omega)
          · iterate 12 refine Own.setNe ?_ (o4.offB (by omega))
            exact o4.base (by omega)
          · iterate 12 refine Le.set ?_ (by omega)
            exact l4

set_option maxRecDepth 4000 in
set_option maxHeartbeats 2000000 in
theorem machCopyReplica (P : Rp) (vs : Nat → Sl) (qc ql : Sl) (w : World) (hs : ∀ i, i < 4 → Has w (slV (vs i)) (P.s.at i)) (hq1 : Has w (slV qc) P.cs) (hq2 : Has w (slV ql) P.ls) (hfs : Fit P.s) (hq1f : P.cs.length * 8 ≤ 140737488351232) (hq2f : P.ls.length * 8 ≤ 140737488351232) :
    Calls Tryz.prog 40 #[repV vs qc ql] w fun e w' => ∃ (us : Nat → Sl) (u1 u2 : Sl), e = .returned (repV us u1 u2) ∧ RepOwn w' w.heap.size P us u1 u2 ∧ Le w w' := by
  obtain ⟨g, hg⟩ : ∃ g, w.heap.size = g := ⟨_, rfl⟩
  have hb := (Box.new w (cellsP vs qc ql) 57).le (Le.alloc _ (.cells (cellsP (fun _ => slZ) slZ slZ) 57))
  have hr := Box.new (w.alloc (.cells (cellsP vs qc ql) 57)) (cellsP (fun _ => slZ) slZ slZ) 57
  rw [World.size_alloc] at hr
  have hl := (Le.alloc w (.cells (cellsP vs qc ql) 57)).trans (Le.alloc _ (.cells (cellsP (fun _ => slZ) slZ slZ) 57))
  go_enter Tryz.func40, Tryz.ntmps40
  go_upto_region 1 with fail
  generalize hW : (w.alloc (.cells (cellsP vs qc ql) 57)).alloc (.cells (cellsP (fun _ => slZ) slZ slZ) 57) = W0 at hl hb hr ⊢
  clear hW
  rw [hg] at hb hr
  have hgr := hr.lt
  have m1 := statesCopy (stV vs) P.s W0 ⟨vs, rfl, fun i hi => (hs i hi).le hl⟩ hfs
  obtain ⟨b0, b1, b2, b3, _, _⟩ := hb.rep
  go_wp2_with fail
  refine m1.mono ?_
  rintro e w1 ⟨us, rfl, ou, apu, l1⟩
  clear b0 b1 b2 b3 m1
  replace hb := hb.le l1
  replace hr := hr.le l1
  obtain ⟨b0, b1, b2, b3, _, _⟩ := hb.rep
  have k0 := hb.frozen 0
  have k1 := hb.frozen 1
  have k2 := hb.frozen 2
  have k3 := hb.frozen 3
  have hl1 := hl.trans l1
  have hs1 := l1.size
  go_upto_region 2 with fail
  have hbW : Box ((((w1.setCell ⟨g, 0, none⟩ (slV (us 0))).setCell ⟨g, 1, none⟩ (slV (us 1))).setCell ⟨g, 2, none⟩ (slV (us 2))).setCell ⟨g, 3, none⟩ (slV (us 3))) g (cellsP us qc ql) 57 := (((hb.set 0 _).set 1 _).set 2 _).set 3 _
  have hrW : Box ((((w1.setCell ⟨g, 0, none⟩ (slV (us 0))).setCell ⟨g, 1, none⟩ (slV (us 1))).setCell ⟨g, 2, none⟩ (slV (us 2))).setCell ⟨g, 3, none⟩ (slV (us 3))) (g + 1) (cellsP (fun _ => slZ) slZ slZ) 57 := (((hr.other (by omega) _ _).other (by omega) _ _).other (by omega) _ _).other (by omega) _ _
  have hlW := hl1.set4 (g := g) (by omega) (slV (us 0)) (slV (us 1)) (slV (us 2)) (slV (us 3))
  have hou : ∀ i, i < 4 → Own ((((w1.setCell ⟨g, 0, none⟩ (slV (us 0))).setCell ⟨g, 1, none⟩ (slV (us 1))).setCell ⟨g, 2, none⟩ (slV (us 2))).setCell ⟨g, 3, none⟩ (slV (us 3))) W0.heap.size (slV (us i)) (P.s.at i) := fun i hi => (ou i hi).set4 hb (by decide) _ _ _ _
  replace hq1 := hq1.le hlW
  replace hq2 := hq2.le hlW
  clear b0 b1 b2 b3 k0 k1 k2 k3 ou hb hr
  generalize hW : (((w1.setCell ⟨g, 0, none⟩ (slV (us 0))).setCell ⟨g, 1, none⟩ (slV (us 1))).setCell ⟨g, 2, none⟩ (slV (us 2))).setCell ⟨g, 3, none⟩ (slV (us 3)) = W at hbW hrW hlW hou hq1 hq2 ⊢
  have hWs : w1.heap.size = W.heap.size := by rw [← hW]; simp
  clear hW
  obtain ⟨_, _, _, _, c4, c5⟩ := hbW.rep
  refine wp_region_any (by kernel_rfl) ?_
  refine wpAny_grow [] [0, 1, 2, 3, 4, 5, 6] [7, 8, 9] (by decide) (by kernel_rfl) Le (Le.refl _) (fun _ _ _ => Le.trans)
    (fun vs i x => match i with
      | 0 => vs 0 = .pointer (some ⟨g, 4, none⟩)
      | 1 => vs 1 = slV qc
      | 2 => ∃ q, vs 2 = slV q ∧ Own x W.heap.size (slV q) P.cs
      | 3 => vs 3 = .pointer (some ⟨g, 5, none⟩)
      | 4 => vs 4 = slV ql
      | 6 => vs 6 = .pointer (some ⟨g, 4, none⟩)
      | _ => ∃ q q', vs 2 = slV q ∧ vs 5 = slV q' ∧ Own x W.heap.size (slV q) P.cs ∧ Own x W.heap.size (slV q') P.ls ∧ ∀ b, (slV q').ownBlock = some b → (slV q).ownBlock ≠ some b) ?_ ?_ (by decide) ?_ ?_
  · intro vs i x y hi _ h hxy
    simp only [List.mem_cons, List.not_mem_nil, or_false] at hi
    rcases hi with rfl | rfl | rfl | rfl | rfl | rfl | rfl
    · exact h
    · exact h
    · obtain ⟨q, e, o⟩ := h; exact ⟨q, e, o.le hxy⟩
    · exact h
    · exact h
    · obtain ⟨q, q', e, e', o, o', ap⟩ := h; exact ⟨q, q', e, e', o.le hxy, o'.le hxy, ap⟩
    · exact h
  · intro vs vs' i o x hi _ hk h
    have e := hk i (.inl rfl)
    simp only [List.mem_cons, List.not_mem_nil, or_false] at hi
    rcases hi with rfl | rfl | rfl | rfl | rfl | rfl | rfl
    iterate 5
      · simp only at h ⊢
        rw [← e]
        exact h
    · have e2 := hk 2 (.inr (by kernel_rfl))
      simp only at h ⊢
      rw [← e, ← e2]
      exact h
    · simp only at h ⊢
      rw [← e]
      exact h
  · intro i o hi ho vs x hx hd
    have hx0 := (Le.drew W).trans hx
    simp only [List.mem_cons, List.not_mem_nil, or_false] at hi
    generalize hρ : (putH _ _ _ vs).eval = ρ
    rcases hi with rfl | rfl | rfl | rfl | rfl | rfl | rfl
    · cases ho
      have r1 : ρ (.tmp 1) = .pointer (some ⟨g, 0, none⟩) := by rw [← hρ]; kernel_rfl
      exact gives_value (w' := x) (v := .pointer (some ⟨g, 4, none⟩)) (by simp [go_sem, r1]) ⟨Le.refl _, rfl⟩
    · cases ho
      have r1 : ρ (.tmp 7) = vs 0 := by rw [← hρ]; kernel_rfl
      have d := hd 0 (by decide) (by kernel_rfl)
      simp only at d
      rw [d] at r1
      have y := cell_le c4 hx0
      exact gives_value (w' := x) (v := slV qc) (by simp [go_sem, r1, y]) ⟨Le.refl _, rfl⟩
    · cases ho
      have r1 : ρ (.tmp 8) = vs 1 := by rw [← hρ]; kernel_rfl
      have d := hd 1 (by decide) (by kernel_rfl)
      simp only at d
      rw [d] at r1
      have m := listsCopyI (slV qc) P.cs x (hq1.le hx0) hq1f
      refine gives_call (f := 66) (args := #[slV qc]) (by simp [go_sem, r1]; kernel_rfl) (m.mono ?_)
      rintro e x2 ⟨q, rfl, o, gr⟩
      have l2 : Le x x2 := Below.grown (Le.refl x) gr (by simp) (by intro g hg; cases hg)
      exact ⟨_, rfl, l2, q, rfl, o.base hx0.size⟩
    · cases ho
      have r1 : ρ (.tmp 1) = .pointer (some ⟨g, 0, none⟩) := by rw [← hρ]; kernel_rfl
      exact gives_value (w' := x) (v := .pointer (some ⟨g, 5, none⟩)) (by simp [go_sem, r1]) ⟨Le.refl _, rfl⟩
    · cases ho
      have r1 : ρ (.tmp 10) = vs 3 := by rw [← hρ]; kernel_rfl
      have d := hd 3 (by decide) (by kernel_rfl)
      simp only at d
      rw [d] at r1
      have y := cell_le c5 hx0
      exact gives_value (w' := x) (v := slV ql) (by simp [go_sem, r1, y]) ⟨Le.refl _, rfl⟩
    · cases ho
      have r1 : ρ (.tmp 11) = vs 4 := by rw [← hρ]; kernel_rfl
      have d := hd 4 (by decide) (by kernel_rfl)
      have d2 := hd 2 (by decide) (by kernel_rfl)
      simp only at d d2
      obtain ⟨q, e2, o2⟩ := d2
      rw [d] at r1
      have m := listsCopyI (slV ql) P.ls x (hq2.le hx0) hq2f
      refine gives_call (f := 66) (args := #[slV ql]) (by simp [go_sem, r1]; kernel_rfl) (m.mono ?_)
      rintro e x2 ⟨q', rfl, o, gr⟩
      have l2 : Le x x2 := Below.grown (Le.refl x) gr (by simp) (by intro g hg; cases hg)
      refine ⟨_, rfl, l2, q, q', by simp [e2], by simp, o2.le l2, o.base hx0.size, fun b h1 h2 => ?_⟩
      have := (o.block h1).1
      have := (o2.block h2).2
      omega
    · cases ho
      have r1 : ρ (.tmp 1) = .pointer (some ⟨g, 0, none⟩) := by rw [← hρ]; kernel_rfl
      exact gives_value (w' := x) (v := .pointer (some ⟨g, 4, none⟩)) (by simp [go_sem, r1]) ⟨Le.refl _, rfl⟩
  · intro vs x hx hd
    have hx0 := (Le.drew W).trans hx
    have hh := hd 5 (by decide)
    simp only at hh
    replace hh := hh.choose_spec
    generalize Exists.choose _ = q1 at hh
    replace hh := hh.choose_spec
    generalize Exists.choose _ = q2 at hh
    have e1 := hh.1
    have e2 := hh.2.1
    have o1 := hh.2.2.1
    have o2 := hh.2.2.2.1
    have ap := hh.2.2.2.2
    have e6 := hd 6 (by decide)
    simp only at e6
    clear hh hd
    have hbx := hbW.le hx0
    have hrx := hrW.le hx0
    have cA : x.cell? ⟨g, 4, none⟩ = some (slV qc) ∧ x.frozen? ⟨g, 4, none⟩ = false := ⟨cell_le c4 hx0, hbx.frozen _⟩
    have hby := hbx.setARep (q := q1)
    have cB : (x.setCell ⟨g, 4, none⟩ (slV q1)).cell? ⟨g, 5, none⟩ = some (slV ql) ∧ (x.setCell ⟨g, 4, none⟩ (slV q1)).frozen? ⟨g, 5, none⟩ = false := ⟨by rw [hby.cell]; rfl, hby.frozen _⟩
    have hbz := hby.setBRep (q := q2)
    clear hbx
    generalize hf0 : putH _ _ _ vs = fr0
    refine wpSeq_cons rfl ?_
    refine wp_skip_at (w0 := x.setCell ⟨g, 4, none⟩ (slV q1)) ?_ ?_
    · generalize hρ : fr0.eval = ρ
      have r1 : ρ (.tmp 13) = vs 6 := by rw [← hρ, ← hf0]; kernel_rfl
      have r2 : ρ (.tmp 9) = vs 2 := by rw [← hρ, ← hf0]; kernel_rfl
      rw [e1] at r2
      rw [e6] at r1
      simp [go_sem, r1, r2, cA.1, cA.2]
    · generalize hf2 : Act.put fr0 _ _ = fr2
      refine wpSeq_cons rfl ?_
      refine wp_value_at (v0 := .pointer (some ⟨g, 5, none⟩)) (w0 := x.setCell ⟨g, 4, none⟩ (slV q1)) ?_ ?_
      · generalize hρ : fr2.eval = ρ
        have r1 : ρ (.tmp 1) = .pointer (some ⟨g, 0, none⟩) := by rw [← hρ, ← hf2, ← hf0]; kernel_rfl
        simp [go_sem, r1]
      · generalize hf3 : Act.put fr2 _ _ = fr3
        refine wpSeq_cons rfl ?_
        refine wp_skip_at (w0 := (x.setCell ⟨g, 4, none⟩ (slV q1)).setCell ⟨g, 5, none⟩ (slV q2)) ?_ ?_
        · generalize hρ : fr3.eval = ρ
          have r1 : ρ (.tmp 14) = .pointer (some ⟨g, 5, none⟩) := by rw [← hρ, ← hf3, ← hf2, ← hf0]; kernel_rfl
          have r2 : ρ (.tmp 12) = vs 5 := by rw [← hρ, ← hf3, ← hf2, ← hf0]; kernel_rfl
          rw [e2] at r2
          simp [go_sem, r1, r2, cB.1, cB.2]
        · subst hf3 hf2 hf0
          simp only [wpSeq, putH, List.getElem?_cons_succ, List.getElem?_cons_zero, Option.bind_some, Act.put, List.setIfInBounds_toArray, List.set_cons_zero, List.set_cons_succ]
          have l4 : Le w ((x.setCell ⟨g, 4, none⟩ (slV q1)).setCell ⟨g, 5, none⟩ (slV q2)) := Le.set (Le.set (hlW.trans hx0) (by omega)) (by omega)
          have o3 : Own ((x.setCell ⟨g, 4, none⟩ (slV q1)).setCell ⟨g, 5, none⟩ (slV q2)) W.heap.size (slV q1) P.cs := (o1.setNe (o1.offB (by omega))).setNe (o1.offB (by omega))
          have o4 : Own ((x.setCell ⟨g, 4, none⟩ (slV q1)).setCell ⟨g, 5, none⟩ (slV q2)) W.heap.size (slV q2) P.ls := (o2.setNe (o2.offB (by omega))).setNe (o2.offB (by omega))
          have o5 : ∀ i, i < 4 → Own ((x.setCell ⟨g, 4, none⟩ (slV q1)).setCell ⟨g, 5, none⟩ (slV q2)) W0.heap.size (slV (us i)) (P.s.at i) := fun i hi => (((hou i hi).le hx0).setNe ((hou i hi).offB (by omega))).setNe ((hou i hi).offB (by omega))
          have hrz : Box ((x.setCell ⟨g, 4, none⟩ (slV q1)).setCell ⟨g, 5, none⟩ (slV q2)) (g + 1) (cellsP (fun _ => slZ) slZ slZ) 57 := (hrx.other (by omega) _ _).other (by omega) _ _
          have a1 : ∀ i, i < 4 → ∀ b, (slV q1).ownBlock = some b → (slV (us i)).ownBlock ≠ some b := fun i hi b h1 h2 => by
            have := (o1.block h1).1
            have := ((hou i hi).block h2).2
            omega
          have a2 : ∀ i, i < 4 → ∀ b, (slV q2).ownBlock = some b → (slV (us i)).ownBlock ≠ some b := fun i hi b h1 h2 => by
            have := (o2.block h1).1
            have := ((hou i hi).block h2).2
            omega
          clear e1 e2 o1 o2 hrx hby cA cB c4 c5 hbW hrW hou
          generalize (x.setCell ⟨g, 4, none⟩ (slV q1)).setCell ⟨g, 5, none⟩ (slV q2) = w4 at hbz l4 o3 o4 o5 hrz ⊢
          obtain ⟨t0, t1, t2, t3, t4, t5⟩ := hbz.rep
          have r0 := hrz.cell 0
          have r1 := hrz.cell 1
          have r2 := hrz.cell 2
          have r3 := hrz.cell 3
          have r4 := hrz.cell 4
          have r5 := hrz.cell 5
          simp only [List.getElem?_toArray, List.getElem?_cons_succ, List.getElem?_cons_zero] at r0 r1 r2 r3 r4 r5
          have k0 := hrz.frozen 0
          have k1 := hrz.frozen 1
          have k2 := hrz.frozen 2
          have k3 := hrz.frozen 3
          have k4 := hrz.frozen 4
          have k5 := hrz.frozen 5
          go_wp2_with fail
          refine bodyPost_ret (v := repV us q1 q2) (by simp [results, Tryz.results40, go_sem, r0, r1, r2, r3, r4, r5]) rfl ⟨us, q1, q2, rfl, ⟨fun i hi => ?_, ?_, ?_, fun _ => a1, fun _ => a2, fun _ => ap⟩, ?_⟩
          · iterate 6 refine Own.setNe ?_ ((o5 i hi).offB (by omega))
            exact (o5 i hi).base (by omega)
          · iterate 6 refine Own.setNe ?_ (o3.offB (by omega))
            exact o3.base (by omega)
          · iterate 6 refine Own.setNe ?_ (o4.offB (by omega))
            exact o4.base (by omega)
          · iterate 6 refine Le.set ?_ (by omega)
            exact l4

end Go.Proofs.YtjmnlghocbapkaaGreat

/-
  PLAIN GROUND, NO WALK: what stands ahead of each round of package lists' CopyEach, at logs, replicas, threads, and what a round makes of it. No condition.
-/
namespace Go.Proofs.YtjmnlghocbapkaaGreat
open Go.RowKit

/-- What the inner rows of an element are: their blocks, when they are the call's own. -/
structure InOf {α : Type} (K : Kind α) (In : World → Nat → α → Prop) (bk : α → Nat → Prop) : Prop where
  le : ∀ {w w' : World} {B : Nat} {y : α}, In w B y → Le w w' → In w' B y
  base : ∀ {w : World} {B B' : Nat} {y : α}, In w B y → B' ≤ B → In w B' y
  blk : ∀ {w : World} {B g : Nat} {y : α}, In w B y → bk y g → B ≤ g ∧ g < w.heap.size
  set : ∀ {w : World} {B B' gq n cap off j : Nat} {y : α} {zs : List α} {us : List Value}, OwnE K w B' (.slice (some ⟨gq, 0, none⟩) n cap) zs → In w B y → In (setsW gq off w j us) B y

/-- Ahead of a round: the first ones are copied (ys), the others are as they were (of xs). -/
structure EachI {α β : Type} (K : Kind α) (In : World → Nat → α → Prop) (bk : α → Nat → Prop) (f : α → β) (w wr : World) (v : Value) (xs ys : List α) : Prop where
  own : OwnE K wr w.heap.size v (ys ++ xs.drop ys.length)
  le : Le w wr
  inn : ∀ y ∈ ys, In wr w.heap.size y
  ap : ∀ i j, i < ys.length → j < i → ∀ g, bk (ys.getD i K.d) g → ¬ bk (ys.getD j K.d) g
  same : ys.map f = (xs.map f).take ys.length
  len : ys.length ≤ xs.length

theorem EachI.next {α β : Type} {K : Kind α} {In : World → Nat → α → Prop} {bk : α → Nat → Prop} {f : α → β} {w wr : World} {gq n cap : Nat} {xs ys : List α} (hI : InOf K In bk)
    (h : EachI K In bk f w wr (.slice (some ⟨gq, 0, none⟩) n cap) xs ys) (hk : ys.length < xs.length) {w2 : World} {B2 : Nat} (l2 : Le wr w2) {y : α} (hy : In w2 B2 y) (hB : wr.heap.size ≤ B2) (hf : f y = f (xs.getD ys.length K.d)) :
    EachI K In bk f w (setsW gq (ys.length * K.k) w2 0 (K.f y)) (.slice (some ⟨gq, 0, none⟩) n cap) xs (ys ++ [y]) := by
  have ho := h.own.le l2
  have hg : w.heap.size ≤ gq := (ho.block (g := gq) rfl).1
  have hlen : ys.length < (ys ++ xs.drop ys.length).length := by simp; omega
  have hset : (ys ++ xs.drop ys.length).set ys.length y = (ys ++ [y]) ++ xs.drop (ys ++ [y]).length := by
    rw [List.set_append_right _ _ (Nat.le_refl _), Nat.sub_self, List.drop_eq_getElem_cons hk, List.set_cons_zero]
    simp
  refine ⟨?_, setsW_le hg _ _ _ (h.le.trans l2), fun z hz => ?_, fun i j hi hj g h1 h2 => ?_, ?_, by simp; omega⟩
  · rw [← hset]
    refine ho.putS hlen (by rw [K.len]; exact Nat.le_refl _) ?_
    rw [List.drop_of_length_le (by rw [K.len, K.len]; exact Nat.le_refl _), List.append_nil]
  · rcases List.mem_append.1 hz with hz | hz
    · exact hI.set ho (hI.le (h.inn z hz) l2)
    · obtain rfl := List.mem_singleton.1 hz
      exact hI.set ho (hI.base hy (Nat.le_trans h.le.size hB))
  · simp only [List.length_append, List.length_cons, List.length_nil] at hi
    have e2 : (ys ++ [y]).getD j K.d = ys.getD j K.d := by simp [List.getD, List.getElem?_append_left (show j < ys.length by omega)]
    rw [e2] at h2
    rcases Nat.lt_or_ge i ys.length with hl | hl
    · have e1 : (ys ++ [y]).getD i K.d = ys.getD i K.d := by simp [List.getD, List.getElem?_append_left hl]
      rw [e1] at h1
      exact h.ap i j hl hj g h1 h2
    · have e : i = ys.length := by omega
      subst e
      have e1 : (ys ++ [y]).getD ys.length K.d = y := by simp [List.getD]
      rw [e1] at h1
      have := (hI.blk hy h1).1
      have := (hI.blk (h.inn _ (getD_mem (d := K.d) (show j < ys.length by omega))) h2).2
      omega
  · rw [List.map_append, h.same, List.length_append]
    simp only [List.map_cons, List.map_nil, List.length_cons, List.length_nil]
    rw [List.take_succ_eq_append_getElem (by simpa using hk), hf]
    simp [List.getD, hk]

/-- What CopyEach hands back: other elements, the same but for where their rows lie. -/
structure EachR {α β : Type} (K : Kind α) (In : World → Nat → α → Prop) (bk : α → Nat → Prop) (f : α → β) (B : Nat) (w' : World) (v : Value) (zs : List β) (ys : List α) : Prop where
  own : OwnE K w' B v ys
  inn : ∀ y ∈ ys, In w' B y
  ap : ∀ i j, i < ys.length → j < i → ∀ g, bk (ys.getD i K.d) g → ¬ bk (ys.getD j K.d) g
  same : ys.map f = zs
theorem EachI.done {α β : Type} {K : Kind α} {In : World → Nat → α → Prop} {bk : α → Nat → Prop} {f : α → β} {w wr : World} {v : Value} {xs ys : List α} (h : EachI K In bk f w wr v xs ys) (hk : ys.length = xs.length) : EachR K In bk f w.heap.size wr v (xs.map f) ys := by
  refine ⟨?_, h.inn, h.ap, ?_⟩
  · have := h.own
    rw [List.drop_of_length_le (by omega), List.append_nil] at this
    exact this
  · rw [h.same, List.take_of_length_le (by simp; omega)]
theorem EachI.start {α β : Type} {K : Kind α} {In : World → Nat → α → Prop} {bk : α → Nat → Prop} {f : α → β} {w wr : World} {v : Value} {xs : List α} (h : OwnE K wr w.heap.size v xs) (l : Le w wr) : EachI K In bk f w wr v xs [] :=
  ⟨by simpa using h, l, fun _ h => by simp at h, fun i j h => by simp at h, by simp, by simp⟩
theorem EachR.le {α β : Type} {K : Kind α} {In : World → Nat → α → Prop} {bk : α → Nat → Prop} {f : α → β} {B : Nat} {w w' : World} {v : Value} {zs : List β} {ys : List α} (hI : InOf K In bk) (h : EachR K In bk f B w v zs ys) (l : Le w w') : EachR K In bk f B w' v zs ys :=
  ⟨h.own.le l, fun y hy => hI.le (h.inn y hy) l, h.ap, h.same⟩

/-- The cells of an element of the call's own are there. -/
theorem ownE_cells {α : Type} {K : Kind α} {w : World} {B g n cap i : Nat} {xs : List α} (h : OwnE K w B (.slice (some ⟨g, 0, none⟩) n cap) xs) (hi : i < xs.length) : ∀ j, j < K.k → ∃ u, w.cell? ⟨g, i * K.k + j, none⟩ = some u := by
  intro j hj
  obtain ⟨a, c, hv, _, _, hx⟩ := h.has
  obtain ⟨b, off, ha, hcell⟩ := hx (by omega)
  simp only [Value.slice.injEq] at hv
  rw [ha] at hv
  simp only [Option.some.injEq, Addr.mk.injEq, and_true] at hv
  obtain ⟨⟨rfl, rfl⟩, _⟩ := hv
  have h1 := hcell i hi j hj
  have hlt : j < (K.f (xs.getD i K.d)).length := by rw [K.len]; exact hj
  rw [List.getElem?_eq_getElem hlt, Nat.zero_add] at h1
  exact ⟨_, h1⟩

/-! At logs, replicas, threads. -/
def InR (w : World) (B : Nat) (y : LR) : Prop := OwnL w B (slV y.q) y.R.ss
def InP (w : World) (B : Nat) (y : LP) : Prop := RepOwn w B y.P y.vs y.c y.l
def InT (w : World) (B : Nat) (y : LT) : Prop := Own w B (slV y.b) y.T.b ∧ Own w B (slV y.t) y.T.tl ∧ ∀ b, (slV y.t).ownBlock = some b → (slV y.b).ownBlock ≠ some b
def bkR (y : LR) (g : Nat) : Prop := (slV y.q).ownBlock = some g
def bkP (y : LP) (g : Nat) : Prop := ∃ j, (slV (y.row j)).ownBlock = some g
def bkT (y : LT) (g : Nat) : Prop := ∃ j, (slV (y.row j)).ownBlock = some g

theorem own_sets' {w : World} {B B' gq n m l cap off j k k' : Nat} {t t' : TypeId} {v : Value} {us zs vs : List Value} (h : w.ownsRow B' t k (.slice (some ⟨gq, 0, none⟩) n cap) m zs) (h2 : w.ownsRow B t' k' v l vs) (ht : t ≠ t') : (setsW gq off w j us).ownsRow B t' k' v l vs :=
  setsW_own _ _ _ h2 (ownsRow_apart h h2 ht rfl)

theorem inR : InOf ringK InR bkR where
  le := fun h l => OwnL.le h l
  base := fun h l => OwnL.base h l
  blk := fun h e => OwnL.block h e
  set := fun ho h => own_sets' ho h (by decide)
theorem rowP_cases {y : LP} {j g : Nat} {w : World} {B : Nat} (h : InP w B y) (e : (slV (y.row j)).ownBlock = some g) : B ≤ g ∧ g < w.heap.size := by
  match j, e with
  | 0, e => exact (h.s 0 (by decide)).block e
  | 1, e => exact (h.s 1 (by decide)).block e
  | 2, e => exact (h.s 2 (by decide)).block e
  | 3, e => exact (h.s 3 (by decide)).block e
  | 4, e => exact h.c.block e
  | 5, e => exact h.l.block e
  | _ + 6, e => simp [LP.row, Value.ownBlock] at e
theorem inP : InOf repK InP bkP where
  le := fun h l => RepOwn.le h l
  base := fun h l => ⟨fun i hi => (h.s i hi).base l, h.c.base l, h.l.base l, h.a1, h.a2, h.a3⟩
  blk := fun h ⟨_, e⟩ => rowP_cases h e
  set := fun ho h => ⟨fun i hi => own_sets' ho (h.s i hi) (by decide), own_sets' ho h.c (by decide), own_sets' ho h.l (by decide), h.a1, h.a2, h.a3⟩
theorem rowT_cases {y : LT} {j g : Nat} {w : World} {B : Nat} (h : InT w B y) (e : (slV (y.row j)).ownBlock = some g) : B ≤ g ∧ g < w.heap.size := by
  match j, e with
  | 0, e => exact h.1.block e
  | 1, e => exact h.2.1.block e
  | _ + 2, e => simp [LT.row, Value.ownBlock] at e
theorem inT : InOf thK InT bkT where
  le := fun h l => ⟨h.1.le l, h.2.1.le l, h.2.2⟩
  base := fun h l => ⟨h.1.base l, h.2.1.base l, h.2.2⟩
  blk := fun h ⟨_, e⟩ => rowT_cases h e
  set := fun ho h => ⟨own_sets' ho h.1 (by decide), own_sets' ho h.2.1 (by decide), h.2.2⟩

/-- A row of the call's own stays where a machine's variable is written to. -/
theorem own_setM {w : World} {B g i k n : Nat} {t : TypeId} {v u : Value} {us : List Value} {cs : Array Value} (hb : Box w g cs 29) (h : w.ownsRow B t k v n us) (ht : t ≠ 29) : (w.setCell ⟨g, i, none⟩ u).ownsRow B t k v n us := by
  refine ownsRow_setCell_other h (fun e => ?_) u
  rcases h.2 with ⟨e2, _⟩ | ⟨g', cap, cur, hv, _, hh, _⟩
  · rw [e2] at e; simp [Value.ownBlock] at e
  · rw [hv] at e
    simp [Value.ownBlock] at e
    subst e
    unfold Box at hb
    rw [hb] at hh
    simp at hh
    exact ht hh.2.symm
theorem EachR.setR {w : World} {B g i : Nat} {v u : Value} {zs : List Rg} {ys : List LR} {cs : Array Value} (h : EachR ringK InR bkR LR.R B w v zs ys) (hb : Box w g cs 29) : EachR ringK InR bkR LR.R B (w.setCell ⟨g, i, none⟩ u) v zs ys :=
  ⟨own_setM hb h.own (by decide), fun y hy => own_setM hb (h.inn y hy) (by decide), h.ap, h.same⟩
theorem EachR.setP {w : World} {B g i : Nat} {v u : Value} {zs : List Rp} {ys : List LP} {cs : Array Value} (h : EachR repK InP bkP LP.P B w v zs ys) (hb : Box w g cs 29) : EachR repK InP bkP LP.P B (w.setCell ⟨g, i, none⟩ u) v zs ys :=
  ⟨own_setM hb h.own (by decide), fun y hy => by have o := h.inn y hy; exact ⟨fun i hi => own_setM hb (o.s i hi) (by decide), own_setM hb o.c (by decide), own_setM hb o.l (by decide), o.a1, o.a2, o.a3⟩, h.ap, h.same⟩
theorem EachR.setT {w : World} {B g i : Nat} {v u : Value} {zs : List Th} {ys : List LT} {cs : Array Value} (h : EachR thK InT bkT LT.T B w v zs ys) (hb : Box w g cs 29) : EachR thK InT bkT LT.T B (w.setCell ⟨g, i, none⟩ u) v zs ys :=
  ⟨own_setM hb h.own (by decide), fun y hy => by have o := h.inn y hy; exact ⟨own_setM hb o.1 (by decide), own_setM hb o.2.1 (by decide), o.2.2⟩, h.ap, h.same⟩

/-- Copied logs, replicas, threads, one behind the other: a machine whose rows lie in blocks of their own. -/
theorem each_ownsM {w : World} {B B1 B2 : Nat} {c : Cfg} {qR qP qT qH : Sl} {Rs : List Rg} {Ps : List Rp} {Ts : List Th} {Es : List Ev} {yR : List LR} {yP : List LP} {yT : List LT} (hR : EachR ringK InR bkR LR.R B w (slV qR) Rs yR) (hP : EachR repK InP bkP LP.P B1 w (slV qP) Ps yP) (hT : EachR thK InT bkT LT.T B2 w (slV qT) Ts yT)
    (hH : OwnE evK w B (slV qH) Es) (h1 : B ≤ B1) (h2 : B1 ≤ B2) (hlt : ∀ y ∈ yP, ∀ g, bkP y g → g < B2) :
    let L : Lay := ⟨c, qR, qP, qT, qH, yR, yP, yT, Es⟩
    L.M = ⟨c, Rs, Ps, Ts, Es⟩ ∧ OwnsM w B L ∧ ApartM L := by
  intro L
  have hbp : ∀ i j g, (slV (L.at (.rep i j))).ownBlock = some g → i < yP.length ∧ bkP (yP.getD i repK.d) g := fun i j g e => by
    rcases Nat.lt_or_ge i yP.length with hi | hi
    · exact ⟨hi, j, e⟩
    · exfalso
      simp only [Lay.at, L] at e
      rw [getD_out hi] at e
      match j, e with
      | 0, e => cases e
      | 1, e => cases e
      | 2, e => cases e
      | 3, e => cases e
      | 4, e => cases e
      | 5, e => cases e
      | _ + 6, e => simp [LP.row, Value.ownBlock] at e
  have hbt : ∀ i j g, (slV (L.at (.th i j))).ownBlock = some g → i < yT.length ∧ bkT (yT.getD i thK.d) g := fun i j g e => by
    rcases Nat.lt_or_ge i yT.length with hi | hi
    · exact ⟨hi, j, e⟩
    · exfalso
      simp only [Lay.at, L] at e
      rw [getD_out hi] at e
      match j, e with
      | 0, e => cases e
      | 1, e => cases e
      | _ + 2, e => simp [LT.row, Value.ownBlock] at e
  refine ⟨?_, ⟨hR.own, hP.own.base h1, hT.own.base (Nat.le_trans h1 h2), hH, hR.inn, fun y hy => ?_, fun y hy => ?_⟩, ⟨fun i j hne g e1 e2 => ?_, fun p q hne hw n1 n2 g e1 e2 => ?_⟩⟩
  · show Lay.M L = _
    unfold Lay.M
    rw [hR.same, hP.same, hT.same]
  · have o := hP.inn y hy
    exact ⟨fun i hi => (o.s i hi).base h1, o.c.base h1, o.l.base h1⟩
  · have o := hT.inn y hy
    exact ⟨o.1.base (Nat.le_trans h1 h2), o.2.1.base (Nat.le_trans h1 h2)⟩
  · have hs : ∀ i, (slV (L.slots i)).ownBlock = some g → i < yR.length ∧ bkR (yR.getD i ringK.d) g := fun i e => by
      rcases Nat.lt_or_ge i yR.length with hi | hi
      · exact ⟨hi, e⟩
      · exfalso
        simp only [Lay.slots, L] at e
        rw [getD_out hi] at e
        cases e
    obtain ⟨a1, a2⟩ := hs i e1
    obtain ⟨b1, b2⟩ := hs j e2
    rcases Nat.lt_or_gt_of_ne hne with h | h
    · exact hR.ap j i b1 h g b2 a2
    · exact hR.ap i j a1 h g a2 b2
  · cases p with
    | rep i a =>
      obtain ⟨a1, a2⟩ := hbp i a g e1
      cases q with
      | rep j b =>
        obtain ⟨b1, b2⟩ := hbp j b g e2
        by_cases e : i = j
        · subst e
          have o := hP.inn _ (getD_mem (d := repK.d) a1)
          exact o.apart a b (fun e => hne (by rw [e])) (by simpa [Pos.wr] using hw) n1 n2 g e1 e2
        · rcases Nat.lt_or_gt_of_ne e with h | h
          · exact hP.ap j i b1 h g b2 a2
          · exact hP.ap i j a1 h g a2 b2
      | th j b =>
        obtain ⟨b1, b2⟩ := hbt j b g e2
        have := hlt _ (getD_mem (d := repK.d) a1) g a2
        have := (inT.blk (hT.inn _ (getD_mem (d := thK.d) b1)) b2).1
        omega
    | th i a =>
      obtain ⟨a1, a2⟩ := hbt i a g e1
      cases q with
      | rep j b =>
        obtain ⟨b1, b2⟩ := hbp j b g e2
        have := hlt _ (getD_mem (d := repK.d) b1) g b2
        have := (inT.blk (hT.inn _ (getD_mem (d := thK.d) a1)) a2).1
        omega
      | th j b =>
        obtain ⟨b1, b2⟩ := hbt j b g e2
        by_cases e : i = j
        · subst e
          have o := hT.inn _ (getD_mem (d := thK.d) a1)
          match a, b, e1, e2 with
          | 0, 0, _, _ => exact hne rfl
          | 1, 1, _, _ => exact hne rfl
          | 0, 1, e1, e2 => exact o.2.2 g e2 e1
          | 1, 0, e1, e2 => exact o.2.2 g e1 e2
          | _ + 2, _, e1, _ => simp [Lay.at, LT.row, Value.ownBlock] at e1
          | _, _ + 2, _, e2 => simp [Lay.at, LT.row, Value.ownBlock] at e2
        · rcases Nat.lt_or_gt_of_ne e with h | h
          · exact hT.ap j i b1 h g b2 a2
          · exact hT.ap i j a1 h g a2 b2

end Go.Proofs.YtjmnlghocbapkaaGreat

/-
  THE WALK over choruslaw0's SpoilMachine: it writes over the numbers of a machine of the call's own alone. No condition.
-/
namespace Go.Proofs.YtjmnlghocbapkaaGreat
open Go.RowKit

end Go.Proofs.YtjmnlghocbapkaaGreat

/-
  THE WALKS over package lists' CopyEach at logs, replicas, threads, and package machines' Copy: the same machine, each of its rows in a block of its own. Condition: that the rows can be copied.
-/
namespace Go.Proofs.YtjmnlghocbapkaaGreat
open Go.RowKit

set_option maxRecDepth 4000 in
set_option maxHeartbeats 2000000 in
theorem copyEachR (v : Value) (xs : List LR) (w : World) (hx : HasE ringK w v xs) (hq : ∀ x ∈ xs, HasL w (slV x.q) x.R.ss) (hfe : ∀ x ∈ xs, FitR x.R) (hf : xs.length * 48 ≤ 140737488351232) :
    Calls Tryz.prog 37 #[v, .func (.func 38) #[] #[]] w fun e w' => ∃ (q : Sl) (ys : List LR), e = .returned (slV q) ∧ EachR ringK InR bkR LR.R w.heap.size w' (slV q) (xs.map LR.R) ys ∧ Le w w' := by
  have hc : ∀ (u : Value) (w : World), (callFunc 38 #[u]).run Tryz.prog w = .ok (.enter 38 #[u]) w := fun _ _ => by kernel_rfl
  have m0 := listsCopyR v xs w hx hf
  by_cases h0 : 0 < xs.length
  · obtain ⟨L, hL⟩ : ∃ L, L = xs.length := ⟨_, rfl⟩
    have HL : Hid (L = xs.length) := hL
    have hm : L ≤ 9223372036854775807 := by omega
    have h0' : 0 < L := by omega
    go_enter Tryz.func37, Tryz.ntmps37
    go_wp2_with fail
    refine m0.mono ?_
    rintro e w1 ⟨q, rfl, oq, l1⟩
    clear m0
    obtain ⟨gq, cap, hqv, hcap, hgq, hgl⟩ := oq.shape h0
    have hqs : q = (some ⟨gq, 0, none⟩, L, cap) := by
      simp only [slV, Value.slice.injEq] at hqv
      obtain ⟨a, b, c⟩ := hqv
      rw [hL]
      exact Prod.ext a (Prod.ext b c)
    subst hqs
    have I0 : EachI ringK InR bkR LR.R w w1 (.slice (some ⟨gq, 0, none⟩) L cap) xs [] := EachI.start oq l1
    rw [← hL] at hcap
    clear oq hqv hL hf
    simp only [slV]
    go_wp2_with fail
    go_loopw [12] (fun i wr => ∃ (k : Nat) (ys : List LR), k ≤ L ∧ i = .int .i64 k ∧ Hid (ys.length = k) ∧ EachI ringK InR bkR LR.R w wr (.slice (some ⟨gq, 0, none⟩) L cap) xs ys) (fun i _ => L - (intOf i).toNat)
    case atStart => exact ⟨0, [], by omega, rfl, rfl, I0⟩
    case round =>
      clear I0
      obtain ⟨k, ys, hk, rfl, HK, I⟩ := hrel
      by_cases hlt : k < L
      · have hlt' : (k : Int) < (L : Int) := by omega
        have hkx : k < xs.length := by have := HL.out; omega
        obtain ⟨x0, hx0⟩ : ∃ x, x = xs.getD k ringK.d := ⟨_, rfl⟩
        have HX : Hid (x0 = xs.getD k ringK.d) := hx0
        have hmem : x0 ∈ xs := by rw [hx0]; exact getD_mem hkx
        obtain ⟨a', c', hv', _, _, hcell⟩ := I.own.has
        obtain ⟨b', off', ha', hcell⟩ := hcell (by have := HK.out; simp; omega)
        simp only [Value.slice.injEq] at hv'
        rw [ha'] at hv'
        simp only [Option.some.injEq, Addr.mk.injEq, and_true] at hv'
        obtain ⟨⟨hgb, hoff⟩, hjunk⟩ := hv'
        have hck := hcell k (by have := HK.out; simp; omega)
        have hget : (ys ++ xs.drop ys.length).getD k ringK.d = x0 := by
          rw [hx0, HK.out]
          simp only [List.getD]
          rw [List.getElem?_append_right (by have := HK.out; omega), List.getElem?_drop]
          congr 2
          have := HK.out
          omega
        rw [hget, ← hgb, ← hoff] at hck
        simp only [Nat.zero_add] at hck
        clear hcell hget hgb hoff ha' hx0 hjunk
        have hrow := (hq x0 hmem)
        have hfx := hfe x0 hmem
        obtain ⟨X, qx⟩ := x0
        simp only at hrow hfx
        have rA : RingAt wr gq (k * 4) X qx := ⟨hck 0 (by decide), hck 1 (by decide), hck 2 (by decide), hck 3 (by decide)⟩
        obtain ⟨x0, x1, x2, x3⟩ := rA
        simp only [FitR] at hfx
        have hbx := Box.new wr (cellsR X.h X.t X.f qx) 50
        have hA := Le.alloc wr (.cells (cellsR X.h X.t X.f qx) 50)
        clear hck
        go_upto_region 5 with fail
        generalize hW : wr.alloc (.cells (cellsR X.h X.t X.f qx) 50) = wq at hbx hA ⊢
        generalize hgx : wr.heap.size = gx at hbx ⊢
        clear hW x0 x1 x2 x3
        obtain ⟨z0, z1, z2, z3, _, _, _, _⟩ := hbx.ring
        have m1 := machCopyRing X.h X.t X.f qx X.ss wq ((hrow.le I.le).le hA) hfx
        go_wp2_with fail
        refine m1.mono ?_
        rintro e w2 ⟨u, rfl, ou, l2⟩
        clear m1 hbx z0 z1 z2 z3
        have I2 := I.own.le (hA.trans l2)
        have IN := I.next inR (by have := HK.out; omega) (hA.trans l2) (y := (⟨X, u⟩ : LR)) (show InR w2 wq.heap.size ⟨X, u⟩ from ou) hA.size (by rw [HK.out, ← HX.out])
        have f0 := I2.frozen (k * 4)
        have f1 := I2.frozen (k * 4 + 1)
        have f2 := I2.frozen (k * 4 + 2)
        have f3 := I2.frozen (k * 4 + 3)
        have hsz : ∀ j, j < 4 → ∃ u, w2.cell? ⟨gq, k * 4 + j, none⟩ = some u := ownE_cells I2 (i := k) (by have := HK.out; simp; omega)
        obtain ⟨y0, hy0⟩ := hsz 0 (by decide)
        obtain ⟨y1, hy1⟩ := hsz 1 (by decide)
        obtain ⟨y2, hy2⟩ := hsz 2 (by decide)
        obtain ⟨y3, hy3⟩ := hsz 3 (by decide)
        simp only [Nat.add_zero] at hy0
        rw [HK.out, show ringK.k = 4 from rfl] at IN
        clear hsz I2 hgx
        go_upto_region 6 with fail
        show Code.wp _ _ _ _ (setsW gq (k * 4) w2 0 (ringK.f (⟨X, u⟩ : LR)))
        generalize setsW gq (k * 4) w2 0 (ringK.f (⟨X, u⟩ : LR)) = w3 at IN ⊢
        clear hy0 hy1 hy2 hy3 f0 f1 f2 f3
        go_wp2_with fail
        go_roundw
        case rel => exact ⟨k + 1, _, by omega, by go_num, hid (by have := HK.out; simp only [List.length_append, List.length_cons, List.length_nil]; omega), IN⟩
        case measure => simp [intOf]; omega
      · obtain rfl : k = L := by omega
        have hR := I.done (by rw [HK.out, ← HL.out])
        have hle := I.le
        clear I
        go_wp2_with fail
        go_ret
        exact ⟨(some ⟨gq, 0, none⟩, k, cap), ys, rfl, hR, hle⟩
  · have hxn : xs = [] := by cases xs with | nil => rfl | cons _ _ => simp at h0
    subst hxn
    go_enter Tryz.func37, Tryz.ntmps37
    go_wp2_with fail
    refine m0.mono ?_
    rintro e w1 ⟨q, rfl, oq, l1⟩
    have hz : q.2.1 = 0 := oq.has.len
    obtain ⟨qa, qn, qcap⟩ := q
    simp only at hz
    subst hz
    go_wp2_with fail
    refine wp_loop_rounds 1 ?_
    rw [rounds_succ]
    go_wp2_with fail
    go_ret
    exact ⟨_, [], rfl, EachI.done (EachI.start oq l1) rfl, l1⟩

set_option maxRecDepth 4000 in
set_option maxHeartbeats 2000000 in
theorem copyEachP (v : Value) (xs : List LP) (w : World) (hx : HasE repK w v xs) (hq : ∀ x ∈ xs, (∀ i, i < 4 → Has w (slV (x.vs i)) (x.P.s.at i)) ∧ Has w (slV x.c) x.P.cs ∧ Has w (slV x.l) x.P.ls) (hfe : ∀ x ∈ xs, Fit x.P.s ∧ x.P.cs.length * 8 ≤ 140737488351232 ∧ x.P.ls.length * 8 ≤ 140737488351232) (hf : xs.length * 144 ≤ 140737488351232) :
    Calls Tryz.prog 39 #[v, .func (.func 40) #[] #[]] w fun e w' => ∃ (q : Sl) (ys : List LP), e = .returned (slV q) ∧ EachR repK InP bkP LP.P w.heap.size w' (slV q) (xs.map LP.P) ys ∧ Le w w' := by
  have hc : ∀ (u : Value) (w : World), (callFunc 40 #[u]).run Tryz.prog w = .ok (.enter 40 #[u]) w := fun _ _ => by kernel_rfl
  have m0 := listsCopyP v xs w hx hf
  by_cases h0 : 0 < xs.length
  · obtain ⟨L, hL⟩ : ∃ L, L = xs.length := ⟨_, rfl⟩
    have HL : Hid (L = xs.length) := hL
    have hm : L ≤ 9223372036854775807 := by omega
    have h0' : 0 < L := by omega
    go_enter Tryz.func39, Tryz.ntmps39
    go_wp2_with fail
    refine m0.mono ?_
    rintro e w1 ⟨q, rfl, oq, l1⟩
    clear m0
    obtain ⟨gq, cap, hqv, hcap, hgq, hgl⟩ := oq.shape h0
    have hqs : q = (some ⟨gq, 0, none⟩, L, cap) := by
      simp only [slV, Value.slice.injEq] at hqv
      obtain ⟨a, b, c⟩ := hqv
      rw [hL]
      exact Prod.ext a (Prod.ext b c)
    subst hqs
    have I0 : EachI repK InP bkP LP.P w w1 (.slice (some ⟨gq, 0, none⟩) L cap) xs [] := EachI.start oq l1
    rw [← hL] at hcap
    clear oq hqv hL hf
    simp only [slV]
    go_wp2_with fail
    go_loopw [12] (fun i wr => ∃ (k : Nat) (ys : List LP), k ≤ L ∧ i = .int .i64 k ∧ Hid (ys.length = k) ∧ EachI repK InP bkP LP.P w wr (.slice (some ⟨gq, 0, none⟩) L cap) xs ys) (fun i _ => L - (intOf i).toNat)
    case atStart => exact ⟨0, [], by omega, rfl, rfl, I0⟩
    case round =>
      clear I0
      obtain ⟨k, ys, hk, rfl, HK, I⟩ := hrel
      by_cases hlt : k < L
      · have hlt' : (k : Int) < (L : Int) := by omega
        have hkx : k < xs.length := by have := HL.out; omega
        obtain ⟨x0, hx0⟩ : ∃ x, x = xs.getD k repK.d := ⟨_, rfl⟩
        have HX : Hid (x0 = xs.getD k repK.d) := hx0
        have hmem : x0 ∈ xs := by rw [hx0]; exact getD_mem hkx
        obtain ⟨a', c', hv', _, _, hcell⟩ := I.own.has
        obtain ⟨b', off', ha', hcell⟩ := hcell (by have := HK.out; simp; omega)
        simp only [Value.slice.injEq] at hv'
        rw [ha'] at hv'
        simp only [Option.some.injEq, Addr.mk.injEq, and_true] at hv'
        obtain ⟨⟨hgb, hoff⟩, hjunk⟩ := hv'
        have hck := hcell k (by have := HK.out; simp; omega)
        have hget : (ys ++ xs.drop ys.length).getD k repK.d = x0 := by
          rw [hx0, HK.out]
          simp only [List.getD]
          rw [List.getElem?_append_right (by have := HK.out; omega), List.getElem?_drop]
          congr 2
          have := HK.out
          omega
        rw [hget, ← hgb, ← hoff] at hck
        simp only [Nat.zero_add] at hck
        clear hcell hget hgb hoff ha' hx0 hjunk
        have hrow := (hq x0 hmem)
        have hfx := hfe x0 hmem
        obtain ⟨X, vx, cx, lx⟩ := x0
        simp only at hrow hfx
        have rA : RepAt wr gq (k * 6) vx cx lx := ⟨hck 0 (by decide), hck 1 (by decide), hck 2 (by decide), hck 3 (by decide), hck 4 (by decide), hck 5 (by decide)⟩
        obtain ⟨x0, x1, x2, x3, x4, x5⟩ := rA
        have hbx := Box.new wr (cellsP vx cx lx) 57
        have hA := Le.alloc wr (.cells (cellsP vx cx lx) 57)
        clear hck
        go_upto_region 5 with fail
        generalize hW : wr.alloc (.cells (cellsP vx cx lx) 57) = wq at hbx hA ⊢
        generalize hgx : wr.heap.size = gx at hbx ⊢
        clear hW x0 x1 x2 x3 x4 x5
        obtain ⟨z0, z1, z2, z3, z4, z5⟩ := hbx.rep
        have m1 := machCopyReplica X vx cx lx wq (fun i hi => ((hrow.1 i hi).le I.le).le hA) ((hrow.2.1.le I.le).le hA) ((hrow.2.2.le I.le).le hA) hfx.1 hfx.2.1 hfx.2.2
        go_wp2_with fail
        refine m1.mono ?_
        rintro e w2 ⟨ux, u1, u2, rfl, ou, l2⟩
        clear m1 hbx z0 z1 z2 z3 z4 z5
        have I2 := I.own.le (hA.trans l2)
        have IN := I.next inP (by have := HK.out; omega) (hA.trans l2) (y := (⟨X, ux, u1, u2⟩ : LP)) (show InP w2 wq.heap.size ⟨X, ux, u1, u2⟩ from ou) hA.size (by rw [HK.out, ← HX.out])
        have f0 := I2.frozen (k * 6)
        have f1 := I2.frozen (k * 6 + 1)
        have f2 := I2.frozen (k * 6 + 2)
        have f3 := I2.frozen (k * 6 + 3)
        have f4 := I2.frozen (k * 6 + 4)
        have f5 := I2.frozen (k * 6 + 5)
        have hsz : ∀ j, j < 6 → ∃ u, w2.cell? ⟨gq, k * 6 + j, none⟩ = some u := ownE_cells I2 (i := k) (by have := HK.out; simp; omega)
        obtain ⟨y0, hy0⟩ := hsz 0 (by decide)
        obtain ⟨y1, hy1⟩ := hsz 1 (by decide)
        obtain ⟨y2, hy2⟩ := hsz 2 (by decide)
        obtain ⟨y3, hy3⟩ := hsz 3 (by decide)
        obtain ⟨y4, hy4⟩ := hsz 4 (by decide)
        obtain ⟨y5, hy5⟩ := hsz 5 (by decide)
        simp only [Nat.add_zero] at hy0
        rw [HK.out, show repK.k = 6 from rfl] at IN
        clear hsz I2 hgx
        go_upto_region 6 with fail
        show Code.wp _ _ _ _ (setsW gq (k * 6) w2 0 (repK.f (⟨X, ux, u1, u2⟩ : LP)))
        generalize setsW gq (k * 6) w2 0 (repK.f (⟨X, ux, u1, u2⟩ : LP)) = w3 at IN ⊢
        clear hy0 hy1 hy2 hy3 hy4 hy5 f0 f1 f2 f3 f4 f5
        go_wp2_with fail
        go_roundw
        case rel => exact ⟨k + 1, _, by omega, by go_num, hid (by have := HK.out; simp only [List.length_append, List.length_cons, List.length_nil]; omega), IN⟩
        case measure => simp [intOf]; omega
      · obtain rfl : k = L := by omega
        have hR := I.done (by rw [HK.out, ← HL.out])
        have hle := I.le
        clear I
        go_wp2_with fail
        go_ret
        exact ⟨(some ⟨gq, 0, none⟩, k, cap), ys, rfl, hR, hle⟩
  · have hxn : xs = [] := by cases xs with | nil => rfl | cons _ _ => simp at h0
    subst hxn
    go_enter Tryz.func39, Tryz.ntmps39
    go_wp2_with fail
    refine m0.mono ?_
    rintro e w1 ⟨q, rfl, oq, l1⟩
    have hz : q.2.1 = 0 := oq.has.len
    obtain ⟨qa, qn, qcap⟩ := q
    simp only at hz
    subst hz
    go_wp2_with fail
    refine wp_loop_rounds 1 ?_
    rw [rounds_succ]
    go_wp2_with fail
    go_ret
    exact ⟨_, [], rfl, EachI.done (EachI.start oq l1) rfl, l1⟩

set_option maxRecDepth 4000 in
set_option maxHeartbeats 2000000 in
theorem copyEachT (v : Value) (xs : List LT) (w : World) (hx : HasE thK w v xs) (hq : ∀ x ∈ xs, Has w (slV x.b) x.T.b ∧ Has w (slV x.t) x.T.tl) (hfe : ∀ x ∈ xs, x.T.b.length * 8 ≤ 140737488351232 ∧ x.T.tl.length * 8 ≤ 140737488351232) (hf : xs.length * 120 ≤ 140737488351232) :
    Calls Tryz.prog 41 #[v, .func (.func 42) #[] #[]] w fun e w' => ∃ (q : Sl) (ys : List LT), e = .returned (slV q) ∧ EachR thK InT bkT LT.T w.heap.size w' (slV q) (xs.map LT.T) ys ∧ Le w w' := by
  have hc : ∀ (u : Value) (w : World), (callFunc 42 #[u]).run Tryz.prog w = .ok (.enter 42 #[u]) w := fun _ _ => by kernel_rfl
  have m0 := listsCopyT v xs w hx hf
  by_cases h0 : 0 < xs.length
  · obtain ⟨L, hL⟩ : ∃ L, L = xs.length := ⟨_, rfl⟩
    have HL : Hid (L = xs.length) := hL
    have hm : L ≤ 9223372036854775807 := by omega
    have h0' : 0 < L := by omega
    go_enter Tryz.func41, Tryz.ntmps41
    go_wp2_with fail
    refine m0.mono ?_
    rintro e w1 ⟨q, rfl, oq, l1⟩
    clear m0
    obtain ⟨gq, cap, hqv, hcap, hgq, hgl⟩ := oq.shape h0
    have hqs : q = (some ⟨gq, 0, none⟩, L, cap) := by
      simp only [slV, Value.slice.injEq] at hqv
      obtain ⟨a, b, c⟩ := hqv
      rw [hL]
      exact Prod.ext a (Prod.ext b c)
    subst hqs
    have I0 : EachI thK InT bkT LT.T w w1 (.slice (some ⟨gq, 0, none⟩) L cap) xs [] := EachI.start oq l1
    rw [← hL] at hcap
    clear oq hqv hL hf
    simp only [slV]
    go_wp2_with fail
    go_loopw [12] (fun i wr => ∃ (k : Nat) (ys : List LT), k ≤ L ∧ i = .int .i64 k ∧ Hid (ys.length = k) ∧ EachI thK InT bkT LT.T w wr (.slice (some ⟨gq, 0, none⟩) L cap) xs ys) (fun i _ => L - (intOf i).toNat)
    case atStart => exact ⟨0, [], by omega, rfl, rfl, I0⟩
    case round =>
      clear I0
      obtain ⟨k, ys, hk, rfl, HK, I⟩ := hrel
      by_cases hlt : k < L
      · have hlt' : (k : Int) < (L : Int) := by omega
        have hkx : k < xs.length := by have := HL.out; omega
        obtain ⟨x0, hx0⟩ : ∃ x, x = xs.getD k thK.d := ⟨_, rfl⟩
        have HX : Hid (x0 = xs.getD k thK.d) := hx0
        have hmem : x0 ∈ xs := by rw [hx0]; exact getD_mem hkx
        obtain ⟨a', c', hv', _, _, hcell⟩ := I.own.has
        obtain ⟨b', off', ha', hcell⟩ := hcell (by have := HK.out; simp; omega)
        simp only [Value.slice.injEq] at hv'
        rw [ha'] at hv'
        simp only [Option.some.injEq, Addr.mk.injEq, and_true] at hv'
        obtain ⟨⟨hgb, hoff⟩, hjunk⟩ := hv'
        have hck := hcell k (by have := HK.out; simp; omega)
        have hget : (ys ++ xs.drop ys.length).getD k thK.d = x0 := by
          rw [hx0, HK.out]
          simp only [List.getD]
          rw [List.getElem?_append_right (by have := HK.out; omega), List.getElem?_drop]
          congr 2
          have := HK.out
          omega
        rw [hget, ← hgb, ← hoff] at hck
        simp only [Nat.zero_add] at hck
        clear hcell hget hgb hoff ha' hx0 hjunk
        have hrow := (hq x0 hmem)
        have hfx := hfe x0 hmem
        obtain ⟨X, bx, tx⟩ := x0
        simp only at hrow hfx
        have rA : ThAt wr gq (k * 12) X bx tx := ⟨hck 0 (by decide), hck 1 (by decide), hck 2 (by decide), hck 3 (by decide), hck 4 (by decide), hck 5 (by decide), hck 6 (by decide), hck 7 (by decide), hck 8 (by decide), hck 9 (by decide), hck 10 (by decide), hck 11 (by decide)⟩
        obtain ⟨x0, x1, x2, x3, x4, x5, x6, x7, x8, x9, x10, x11⟩ := rA
        have hbx := Box.new wr (cellsT X bx tx) 62
        have hA := Le.alloc wr (.cells (cellsT X bx tx) 62)
        clear hck
        go_upto_region 5 with fail
        generalize hW : wr.alloc (.cells (cellsT X bx tx) 62) = wq at hbx hA ⊢
        generalize hgx : wr.heap.size = gx at hbx ⊢
        clear hW x0 x1 x2 x3 x4 x5 x6 x7 x8 x9 x10 x11
        obtain ⟨z0, z1, z2, z3, z4, z5, z6, z7, z8, z9, z10, z11⟩ := hbx.th
        have m1 := machCopyThread X bx tx wq ((hrow.1.le I.le).le hA) ((hrow.2.le I.le).le hA) hfx.1 hfx.2
        go_wp2_with fail
        refine m1.mono ?_
        rintro e w2 ⟨u1, u2, rfl, o1, o2, ap, l2⟩
        clear m1 hbx z0 z1 z2 z3 z4 z5 z6 z7 z8 z9 z10 z11
        have I2 := I.own.le (hA.trans l2)
        have IN := I.next inT (by have := HK.out; omega) (hA.trans l2) (y := (⟨X, u1, u2⟩ : LT)) (show InT w2 wq.heap.size ⟨X, u1, u2⟩ from ⟨o1, o2, ap⟩) hA.size (by rw [HK.out, ← HX.out])
        have f0 := I2.frozen (k * 12)
        have f1 := I2.frozen (k * 12 + 1)
        have f2 := I2.frozen (k * 12 + 2)
        have f3 := I2.frozen (k * 12 + 3)
        have f4 := I2.frozen (k * 12 + 4)
        have f5 := I2.frozen (k * 12 + 5)
        have f6 := I2.frozen (k * 12 + 6)
        have f7 := I2.frozen (k * 12 + 7)
        have f8 := I2.frozen (k * 12 + 8)
        have f9 := I2.frozen (k * 12 + 9)
        have f10 := I2.frozen (k * 12 + 10)
        have f11 := I2.frozen (k * 12 + 11)
        have hsz : ∀ j, j < 12 → ∃ u, w2.cell? ⟨gq, k * 12 + j, none⟩ = some u := ownE_cells I2 (i := k) (by have := HK.out; simp; omega)
        obtain ⟨y0, hy0⟩ := hsz 0 (by decide)
        obtain ⟨y1, hy1⟩ := hsz 1 (by decide)
        obtain ⟨y2, hy2⟩ := hsz 2 (by decide)
        obtain ⟨y3, hy3⟩ := hsz 3 (by decide)
        obtain ⟨y4, hy4⟩ := hsz 4 (by decide)
        obtain ⟨y5, hy5⟩ := hsz 5 (by decide)
        obtain ⟨y6, hy6⟩ := hsz 6 (by decide)
        obtain ⟨y7, hy7⟩ := hsz 7 (by decide)
        obtain ⟨y8, hy8⟩ := hsz 8 (by decide)
        obtain ⟨y9, hy9⟩ := hsz 9 (by decide)
        obtain ⟨y10, hy10⟩ := hsz 10 (by decide)
        obtain ⟨y11, hy11⟩ := hsz 11 (by decide)
        simp only [Nat.add_zero] at hy0
        rw [HK.out, show thK.k = 12 from rfl] at IN
        clear hsz I2 hgx
        go_upto_region 6 with fail
        show Code.wp _ _ _ _ (setsW gq (k * 12) w2 0 (thK.f (⟨X, u1, u2⟩ : LT)))
        generalize setsW gq (k * 12) w2 0 (thK.f (⟨X, u1, u2⟩ : LT)) = w3 at IN ⊢
        clear hy0 hy1 hy2 hy3 hy4 hy5 hy6 hy7 hy8 hy9 hy10 hy11 f0 f1 f2 f3 f4 f5 f6 f7 f8 f9 f10 f11
        go_wp2_with fail
        go_roundw
        case rel => exact ⟨k + 1, _, by omega, by go_num, hid (by have := HK.out; simp only [List.length_append, List.length_cons, List.length_nil]; omega), IN⟩
        case measure => simp [intOf]; omega
      · obtain rfl : k = L := by omega
        have hR := I.done (by rw [HK.out, ← HL.out])
        have hle := I.le
        clear I
        go_wp2_with fail
        go_ret
        exact ⟨(some ⟨gq, 0, none⟩, k, cap), ys, rfl, hR, hle⟩
  · have hxn : xs = [] := by cases xs with | nil => rfl | cons _ _ => simp at h0
    subst hxn
    go_enter Tryz.func41, Tryz.ntmps41
    go_wp2_with fail
    refine m0.mono ?_
    rintro e w1 ⟨q, rfl, oq, l1⟩
    have hz : q.2.1 = 0 := oq.has.len
    obtain ⟨qa, qn, qcap⟩ := q
    simp only at hz
    subst hz
    go_wp2_with fail
    refine wp_loop_rounds 1 ?_
    rw [rounds_succ]
    go_wp2_with fail
    go_ret
    exact ⟨_, [], rfl, EachI.done (EachI.start oq l1) rfl, l1⟩

end Go.Proofs.YtjmnlghocbapkaaGreat

/-
  THE WALK over package machines' Copy: the same machine, each of its rows in a block of its own. Condition: that the machine's rows can be copied.
-/
namespace Go.Proofs.YtjmnlghocbapkaaGreat
open Go.RowKit

theorem Box.mset5 {w : World} {g : Nat} {c : Cfg} {a b d e q : Sl} {ty : TypeId} (h : Box w g (cells9 c a b d e) ty) : Box (w.setCell ⟨g, 5, none⟩ (slV q)) g (cells9 c q b d e) ty := h.set 5 _
theorem Box.mset6 {w : World} {g : Nat} {c : Cfg} {a b d e q : Sl} {ty : TypeId} (h : Box w g (cells9 c a b d e) ty) : Box (w.setCell ⟨g, 6, none⟩ (slV q)) g (cells9 c a q d e) ty := h.set 6 _
theorem Box.mset7 {w : World} {g : Nat} {c : Cfg} {a b d e q : Sl} {ty : TypeId} (h : Box w g (cells9 c a b d e) ty) : Box (w.setCell ⟨g, 7, none⟩ (slV q)) g (cells9 c a b q e) ty := h.set 7 _
theorem Box.mset8 {w : World} {g : Nat} {c : Cfg} {a b d e q : Sl} {ty : TypeId} (h : Box w g (cells9 c a b d e) ty) : Box (w.setCell ⟨g, 8, none⟩ (slV q)) g (cells9 c a b d q) ty := h.set 8 _

set_option maxRecDepth 8000 in
set_option maxHeartbeats 8000000 in
theorem machCopy (v : Value) (M : Mc) (w : World) (hx : HasM w v M) (hf : FitM M) :
    Calls Tryz.prog 19 #[v] w fun e w' => ∃ L : Lay, e = .returned L.v ∧ L.M = M ∧ OwnsM w' w.heap.size L ∧ ApartM L ∧ Le w w' := by
  obtain ⟨c, Rs, Ps, Ts, Es⟩ := M
  obtain ⟨qR, qP, qT, qH, rfl, ⟨xR, hxR, hER, hiR⟩, ⟨xP, hxP, hEP, hiP⟩, ⟨xT, hxT, hET, hiT⟩, hEH⟩ := hx
  obtain ⟨f1, f2, f3, f4, f5, f6, f7⟩ := hf
  simp only at hxR hxP hxT f1 f2 f3 f4 f5 f6 f7 hEH ⊢
  have hfR : ∀ x ∈ xR, FitR x.R := fun x hx => f5 _ (by rw [← hxR]; exact List.mem_map_of_mem hx)
  have hfP : ∀ x ∈ xP, Fit x.P.s ∧ x.P.cs.length * 8 ≤ 140737488351232 ∧ x.P.ls.length * 8 ≤ 140737488351232 := fun x hx => f6 _ (by rw [← hxP]; exact List.mem_map_of_mem hx)
  have hfT : ∀ x ∈ xT, x.T.b.length * 8 ≤ 140737488351232 ∧ x.T.tl.length * 8 ≤ 140737488351232 := fun x hx => f7 _ (by rw [← hxT]; exact List.mem_map_of_mem hx)
  have gR : xR.length * 48 ≤ 140737488351232 := by have := congrArg List.length hxR; simp at this; omega
  have gP : xP.length * 144 ≤ 140737488351232 := by have := congrArg List.length hxP; simp at this; omega
  have gT : xT.length * 120 ≤ 140737488351232 := by have := congrArg List.length hxT; simp at this; omega
  have m1 := fun w' (l : Le w w') => copyEachR (slV qR) xR w' (hER.le l) (fun x hx => (hiR x hx).le l) hfR gR
  have m2 := fun w' (l : Le w w') => copyEachP (slV qP) xP w' (hEP.le l) (fun x hx => ⟨fun i hi => ((hiP x hx).1 i hi).le l, (hiP x hx).2.1.le l, (hiP x hx).2.2.le l⟩) hfP gP
  have m3 := fun w' (l : Le w w') => copyEachT (slV qT) xT w' (hET.le l) (fun x hx => ⟨(hiT x hx).1.le l, (hiT x hx).2.le l⟩) hfT gT
  have m4 := fun w' (l : Le w w') => listsCopyE (slV qH) Es w' (hEH.le l) f4
  rw [hxR] at m1
  rw [hxP] at m2
  rw [hxT] at m3
  clear hER hiR hEP hiP hET hiT hEH f1 f2 f3 f4 f5 f6 f7 hfR hfP hfT gR gP gT hxR hxP hxT xR xP xT
  have hr := Box.new (w.alloc (.cells (cells9 c qR qP qT qH) 29)) cellsZ9 29
  have hb := (Box.new w (cells9 c qR qP qT qH) 29).le (Le.alloc _ (.cells cellsZ9 29))
  have hl := (Le.alloc w (.cells (cells9 c qR qP qT qH) 29)).trans (Le.alloc _ (.cells cellsZ9 29))
  rw [World.size_alloc] at hr
  have hgw : w.heap.size < ((w.alloc (.cells (cells9 c qR qP qT qH) 29)).alloc (.cells cellsZ9 29)).heap.size := by simp; omega
  go_enter Tryz.func19, Tryz.ntmps19
  go_upto_region 1 with fail
  generalize hW : (w.alloc (.cells (cells9 c qR qP qT qH) 29)).alloc (.cells cellsZ9 29) = W at hl hb hr hgw ⊢
  clear hW
  have y5 := hb.mach.2.1
  go_wp2_with fail
  refine (m1 _ hl).mono ?_
  rintro e w1 ⟨q1, yR, rfl, E1, l1⟩
  clear m1 y5
  replace hb := hb.le l1
  replace hr := hr.le l1
  replace hl := hl.trans l1
  have y5 := hb.mach.2.1
  have k5 := hb.frozen 5
  have hb2 := hb.mset5 (q := q1)
  have hr2 := hr.other (show w.heap.size + 1 ≠ w.heap.size by omega) 5 (slV q1)
  have hl2 := hl.set (g := w.heap.size) (i := 5) (u := slV q1) (Nat.le_refl _)
  have E1' := E1.setR (i := 5) (u := slV q1) hb
  have hs1 : W.heap.size ≤ (w1.setCell ⟨w.heap.size, 5, none⟩ (slV q1)).heap.size := by simp; exact l1.size
  go_upto_region 2 with fail
  clear y5 k5 hb hr hl E1
  generalize hW : w1.setCell ⟨w.heap.size, 5, none⟩ (slV q1) = W1 at hb2 hr2 hl2 E1' hs1 ⊢
  clear hW l1
  have y6 := hb2.mach.2.2.1
  go_wp2_with fail
  refine (m2 _ hl2).mono ?_
  rintro e w2 ⟨q2, yP, rfl, E2, l2⟩
  clear m2 y6
  replace hb := hb2.le l2
  replace hr := hr2.le l2
  replace hl := hl2.trans l2
  replace E1' := E1'.le inR l2
  have y6 := hb.mach.2.2.1
  have k6 := hb.frozen 6
  have hb3 := hb.mset6 (q := q2)
  have hr3 := hr.other (show w.heap.size + 1 ≠ w.heap.size by omega) 6 (slV q2)
  have hl3 := hl.set (g := w.heap.size) (i := 6) (u := slV q2) (Nat.le_refl _)
  have E1'' := E1'.setR (i := 6) (u := slV q2) hb
  have E2' := E2.setP (i := 6) (u := slV q2) hb
  have hs2 : W1.heap.size ≤ (w2.setCell ⟨w.heap.size, 6, none⟩ (slV q2)).heap.size := by simp; exact l2.size
  have hlt : ∀ y ∈ yP, ∀ g, bkP y g → g < (w2.setCell ⟨w.heap.size, 6, none⟩ (slV q2)).heap.size := fun y hy g h => (inP.blk (E2'.inn y hy) h).2
  go_upto_region 3 with fail
  clear y6 k6 hb hr hl E1' E2 hb2 hr2 hl2
  generalize hW : w2.setCell ⟨w.heap.size, 6, none⟩ (slV q2) = W2 at hb3 hr3 hl3 E1'' E2' hs2 hlt ⊢
  clear hW l2
  have y7 := hb3.mach.2.2.2.1
  go_wp2_with fail
  refine (m3 _ hl3).mono ?_
  rintro e w3 ⟨q3, yT, rfl, E3, l3⟩
  clear m3 y7
  replace hb := hb3.le l3
  replace hr := hr3.le l3
  replace hl := hl3.trans l3
  replace E1 := E1''.le inR l3
  replace E2 := E2'.le inP l3
  have y7 := hb.mach.2.2.2.1
  have k7 := hb.frozen 7
  have hb4 := hb.mset7 (q := q3)
  have hr4 := hr.other (show w.heap.size + 1 ≠ w.heap.size by omega) 7 (slV q3)
  have hl4 := hl.set (g := w.heap.size) (i := 7) (u := slV q3) (Nat.le_refl _)
  have E1' := E1.setR (i := 7) (u := slV q3) hb
  replace E2' := E2.setP (i := 7) (u := slV q3) hb
  have E3' := E3.setT (i := 7) (u := slV q3) hb
  go_upto_region 4 with fail
  clear y7 k7 hb hr hl E1 E2 E3 E1'' hb3 hr3 hl3
  generalize hW : w3.setCell ⟨w.heap.size, 7, none⟩ (slV q3) = W3 at hb4 hr4 hl4 E1' E2' E3' ⊢
  clear hW l3
  have y8 := hb4.mach.2.2.2.2
  go_wp2_with fail
  refine (m4 _ hl4).mono ?_
  rintro e w4 ⟨q4, rfl, oH, l4⟩
  clear m4 y8
  have hs4 := hl4.size
  replace hb := hb4.le l4
  replace hr := hr4.le l4
  replace hl := hl4.trans l4
  replace E1 := E1'.le inR l4
  replace E2 := E2'.le inP l4
  replace E3 := E3'.le inT l4
  have y8 := hb.mach.2.2.2.2
  have k8 := hb.frozen 8
  have hb5 := hb.mset8 (q := q4)
  have hr5 := hr.other (show w.heap.size + 1 ≠ w.heap.size by omega) 8 (slV q4)
  have hl5 := hl.set (g := w.heap.size) (i := 8) (u := slV q4) (Nat.le_refl _)
  replace E1' := E1.setR (i := 8) (u := slV q4) hb
  replace E2' := E2.setP (i := 8) (u := slV q4) hb
  replace E3' := E3.setT (i := 8) (u := slV q4) hb
  have oH' : OwnE evK (w4.setCell ⟨w.heap.size, 8, none⟩ (slV q4)) w.heap.size (slV q4) Es := own_setM hb (oH.base hs4) (by decide)
  go_upto_region 5 with fail
  clear y8 k8 hb hr hl E1 E2 E3 hb4 hr4 hl4 oH
  generalize hW : w4.setCell ⟨w.heap.size, 8, none⟩ (slV q4) = W4 at hb5 hr5 hl5 E1' E2' E3' oH' ⊢
  clear hW l4
  have hfin := each_ownsM (c := c) (B := w.heap.size) (w := W4) ⟨E1'.own.base (by omega), fun y hy => inR.base (E1'.inn y hy) (by omega), E1'.ap, E1'.same⟩ E2' E3' oH' (by omega) (by omega) hlt
  obtain ⟨⟨y0, y1, y2, y3, y4⟩, y5, y6, y7, y8⟩ := (hb5).mach
  have r0 := (hr5).cell 0
  have r1 := (hr5).cell 1
  have r2 := (hr5).cell 2
  have r3 := (hr5).cell 3
  have r4 := (hr5).cell 4
  have r5 := (hr5).cell 5
  have r6 := (hr5).cell 6
  have r7 := (hr5).cell 7
  have r8 := (hr5).cell 8
  simp only [List.getElem?_toArray, List.getElem?_cons_succ, List.getElem?_cons_zero] at r0 r1 r2 r3 r4 r5 r6 r7 r8
  have k0 := (hr5).frozen 0
  have k1 := (hr5).frozen 1
  have k2 := (hr5).frozen 2
  have k3 := (hr5).frozen 3
  have k4 := (hr5).frozen 4
  have k5 := (hr5).frozen 5
  have k6 := (hr5).frozen 6
  have k7 := (hr5).frozen 7
  have k8 := (hr5).frozen 8
  clear E1' E2' E3' oH' hlt
  go_wp2_with fail
  refine bodyPost_ret (v := machV c q1 q2 q3 q4) (by simp [results, Tryz.results19, go_sem, r0, r1, r2, r3, r4, r5, r6, r7, r8]) rfl ⟨⟨c, q1, q2, q3, q4, yR, yP, yT, Es⟩, rfl, hfin.1, ?_, hfin.2.2, hl5.put9 (by omega) c q1 q2 q3 q4⟩
  have o := hfin.2.1
  have hne : ∀ {t : TypeId} {kk n : Nat} {v : Value} {us : List Value}, World.ownsRow W4 w.heap.size t kk v n us → t ≠ 29 → (put9 W4 (w.heap.size + 1) c q1 q2 q3 q4).ownsRow w.heap.size t kk v n us := fun {t kk n v us} h ht => row_put9 h (fun e => by
    rcases h.2 with ⟨e2, _⟩ | ⟨g', cap, cur, hv, _, hh, _⟩
    · rw [e2] at e; simp [Value.ownBlock] at e
    · rw [hv] at e
      simp [Value.ownBlock] at e
      subst e
      unfold Box at hr5
      rw [hr5] at hh
      simp at hh
      exact ht hh.2.symm) _ _ _ _ _
  exact ⟨hne o.oR (by decide), hne o.oP (by decide), hne o.oT (by decide), hne o.oH (by decide), fun y hy => hne (o.iR y hy) (by decide), fun y hy => ⟨fun i hi => hne ((o.iP y hy).1 i hi) (by decide), hne (o.iP y hy).2.1 (by decide), hne (o.iP y hy).2.2 (by decide)⟩, fun y hy => ⟨hne (o.iT y hy).1 (by decide), hne (o.iT y hy).2 (by decide)⟩⟩

end Go.Proofs.YtjmnlghocbapkaaGreat

/-
  PLAIN GROUND, NO WALK: more of the call's own machine in a variable: where a replica lies, blocks that are apart by their types. No condition.
-/
namespace Go.Proofs.YtjmnlghocbapkaaGreat
open Go.RowKit

theorem OwnE.ne {α : Type} {K : Kind α} {w : World} {base g g' n c : Nat} {q : Sl} {xs : List α} {cs : Array Value} {t : TypeId} (h : OwnE K w base (slV q) xs) (hq : q = (some ⟨g', 0, none⟩, n, c)) (hb : Box w g cs t) (ht : t ≠ K.t) : g ≠ g' := fun e => h.apart hb ht (by rw [hq, e]; rfl)
theorem MoI.neL {B g g' gl n c i : Nat} {w : World} {L : Lay} (h : MoI B g w L) {cs : Array Value} {t : TypeId} (hi : i < L.ps.length) (hq : (L.ps.getD i repK.d).l = (some ⟨gl, 0, none⟩, n, c)) (hb : Box w g' cs t) (ht : t ≠ 3) : g' ≠ gl := (h.own.iP _ (getD_mem (d := repK.d) hi)).2.2.e.ne hq hb ht
end Go.Proofs.YtjmnlghocbapkaaGreat
