/-
  PARTS LAID TOGETHER, each with its own opening: OwA, RyX, OpenSl, OpenR, OpenSt, OpenCf, OpenM.
-/
import Derived.Test.YtepplhbajmlbpaaGreatCom7
import Derived.Test.YtepplhbajmlbpaaGreatCom6
import Derived.Test.YtepplhbajmlbpaaGreatCom1
import Derived.ProofKit
import Derived.OpenShut
import Derived.SizedLaws
import Derived.Lib.SmallJoins
import Derived.Deep.Slices
import Derived.Deep.Strs
import Derived.Laws.IdiomArrays
namespace Go.Proofs.YtepplhbajmlbpaaGreat
open Go.RowKit
theorem OwnA.sp {w : World} {base : Nat} {v : Value} {M : Mc} (h : OwnA w base v M) (hf : FitM M) : Sp.IntsM w (fun g => base ≤ g ∧ g < w.heap.size) v := by
 obtain ⟨L, rfl, rfl, ho, _⟩ := h
 exact Sp.ownsM_ints ho hf (fun g h1 h2 => ⟨h1, h2⟩)
set_option maxRecDepth 8000 in
set_option maxHeartbeats 4000000 in
theorem lawReplays (w : World) (v : Value) (M : Mc) (hx : HasM w v M) (hf : FitM M) (r g : Int) : Calls Tryz.prog 3 #[v, .int .i64 r, .int .i64 g] w fun e w' => e = .returned (.bool true) ∧ Le w w' := by
 obtain ⟨N1, b1, e1, hN1⟩ : ∃ N b e, oneM M r g = (N, b, e) := ⟨_, _, _, rfl⟩
 have f1 : FitM N1 := by have := fitM_one hf r g; rw [hN1] at this; exact this
 have t1 := fun v w' (h : HasM w' v M) => replayOneAs hN1 v w' h hf
 have t2 := fun v w' (h : HasM w' v M) => rmOneAs hN1 v w' h hf
 clear hN1
 have hx0 := hx
 obtain ⟨qR, qP, qT, qH, rfl, _, _, _, _⟩ := hx
 have hb0 := Box.new w (cells9 M.c qR qP qT qH) 29
 have hl := Le.alloc w (.cells (cells9 M.c qR qP qT qH) 29)
 have hbb : (b1 != b1) = false := by simp
 have hee : (e1 != e1) = false := by simp
 go_enter Tryz.func3, Tryz.ntmps3
 go_upto_region 1 with fail
 generalize hW : w.alloc (.cells (cells9 M.c qR qP qT qH) 29) = W at hl hb0 ⊢
 clear hW
 obtain ⟨⟨y0, y1, y2, y3, y4⟩, y5, y6, y7, y8⟩ := (hb0).mach
 go_wp2_with fail
 refine (copyMachineAs _ _ _ (hx0.le hl) hf).mono ?_
 rintro e w1 ⟨xR, xP, xT, xH, rfl, oX, l1⟩
 clear y0 y1 y2 y3 y4 y5 y6 y7 y8
 replace hb0 := hb0.le l1
 replace hl := hl.trans l1
 clear l1
 have hbX := Box.new w1 (cells9 M.c xR xP xT xH) 29
 have a1 := Le.alloc w1 (.cells (cells9 M.c xR xP xT xH) 29)
 go_upto_region 2 with fail
 generalize hW1 : w1.alloc (.cells (cells9 M.c xR xP xT xH) 29) = W1 at hbX a1 ⊢
 clear hW1
 have hggX : w1.heap.size ≤ w1.heap.size := Nat.le_refl _
 generalize hgg : w1.heap.size = gX at hbX hggX ⊢
 have hsgX : w1.heap.size ≤ gX := by omega
 clear hgg hggX
 replace hl := hl.trans a1
 replace hb0 := hb0.le a1
 replace oX := oX.le a1
 clear a1
 have L1 := Le.refl W1
 obtain ⟨⟨y0, y1, y2, y3, y4⟩, y5, y6, y7, y8⟩ := (hbX).mach
 have hl1 := hl
 go_wp2_with fail
 refine (t1 _ _ oX.has).mono ?_
 rintro e w2 ⟨aR, aP, aT, aH, rfl, oA, l2⟩
 clear y0 y1 y2 y3 y4 y5 y6 y7 y8
 replace hl := hl.trans l2
 replace L1 := L1.trans l2
 have iA := oA.sp f1
 clear l2 t1
 have hbA := Box.new w2 (cells9 N1.c aR aP aT aH) 29
 have a1 := Le.alloc w2 (.cells (cells9 N1.c aR aP aT aH) 29)
 go_upto_region 3 with fail
 generalize hW1 : w2.alloc (.cells (cells9 N1.c aR aP aT aH) 29) = W2 at hbA a1 ⊢
 clear hW1
 have hggA : w2.heap.size ≤ w2.heap.size := Nat.le_refl _
 generalize hgg : w2.heap.size = gA at hbA hggA ⊢
 have hsgA : w2.heap.size ≤ gA := by omega
 clear hgg hggA
 replace hl := hl.trans a1
 replace oA := oA.le a1
 replace iA := iA.spoilt (Sp.Spoilt.le (S := fun g => W1.heap.size ≤ g ∧ g < w2.heap.size) trivial a1)
 replace L1 := L1.trans a1
 clear a1
 have L2 := Le.refl W2
 obtain ⟨⟨y0, y1, y2, y3, y4⟩, y5, y6, y7, y8⟩ := (hb0.le L1).mach
 go_wp2_with fail
 refine (t2 _ _ (hx0.le hl)).mono ?_
 rintro e w3 ⟨bR, bP, bT, bH, rfl, oB, l3⟩
 clear y0 y1 y2 y3 y4 y5 y6 y7 y8
 replace hl := hl.trans l3
 replace L1 := L1.trans l3
 replace L2 := L2.trans l3
 clear l3 t2
 have hbB := Box.new w3 (cells9 N1.c bR bP bT bH) 29
 have a1 := Le.alloc w3 (.cells (cells9 N1.c bR bP bT bH) 29)
 go_upto_region 4 with fail
 generalize hW1 : w3.alloc (.cells (cells9 N1.c bR bP bT bH) 29) = W3 at hbB a1 ⊢
 clear hW1
 have hggB : w3.heap.size ≤ w3.heap.size := Nat.le_refl _
 generalize hgg : w3.heap.size = gB at hbB hggB ⊢
 have hsgB : w3.heap.size ≤ gB := by omega
 clear hgg hggB
 replace hl := hl.trans a1
 replace oB := oB.le a1
 replace L1 := L1.trans a1
 replace L2 := L2.trans a1
 clear a1
 have L3 := Le.refl W3
 have hs1 := lawSameMachine _ _ N1 N1 W3 (oA.has.le L2) (oB.has.le L3) f1
 simp only [decide_true] at hs1
 obtain ⟨⟨y0, y1, y2, y3, y4⟩, y5, y6, y7, y8⟩ := (hbA.le L2).mach
 obtain ⟨⟨z0, z1, z2, z3, z4⟩, z5, z6, z7, z8⟩ := (hbB.le L3).mach
 go_wp2_with fail
 refine hs1.mono ?_
 rintro e w6 ⟨rfl, l6⟩
 clear y0 y1 y2 y3 y4 y5 y6 y7 y8 z0 z1 z2 z3 z4 z5 z6 z7 z8
 clear hs1 oB hbB
 go_wp2_with fail
 refine (lawNum _ _).mono ?_
 rintro e _ ⟨rfl, rfl⟩
 obtain ⟨⟨y0, y1, y2, y3, y4⟩, y5, y6, y7, y8⟩ := ((hbA.le L2).le l6).mach
 go_upto_region 6 with fail
 go_wp2_with fail
 refine (Sp.lawSpoilMachine _ _ w6 (iA.spoilt (Sp.Spoilt.le (S := fun g => W1.heap.size ≤ g ∧ g < w2.heap.size) trivial (L2.trans l6))) trivial).mono ?_
 rintro e w8 ⟨rfl, k8⟩
 clear y0 y1 y2 y3 y4 y5 y6 y7 y8
 have L8 : Le W1 w8 := k8.toLe (L1.trans l6) (fun g h1 h2 => by have := h2.1; omega)
 have hs3 := lawSameMachine _ _ M M w8 (oX.has.le L8) ((hx0.le hl1).le L8) hf
 simp only [decide_true] at hs3
 obtain ⟨⟨y0, y1, y2, y3, y4⟩, y5, y6, y7, y8⟩ := (hbX.le L8).mach
 obtain ⟨⟨z0, z1, z2, z3, z4⟩, z5, z6, z7, z8⟩ := (hb0.le L8).mach
 go_wp2_with fail
 refine hs3.mono ?_
 rintro e w10 ⟨rfl, l10⟩
 clear y0 y1 y2 y3 y4 y5 y6 y7 y8 z0 z1 z2 z3 z4 z5 z6 z7 z8
 go_wp2_with fail
 refine (lawAwake18 _).mono ?_
 rintro e w11 ⟨rfl, l11⟩
 go_wp2_with fail
 go_ret
 exact ⟨rfl, ((hl1.trans L8).trans l10).trans l11⟩
end Go.Proofs.YtepplhbajmlbpaaGreat

namespace Go.Proofs.YtepplhbajmlbpaaGreat
open Go.ChangeShapes Go.WideShapes Go.ChangeAt Go.RowKit Go.Joins Go.Deep
theorem cellsOp : Tryz.prog.cellsOf 48 = 3 := by kernel_rfl
theorem cellsInt : Tryz.prog.cellsOf 3 = 1 := by kernel_rfl
theorem cellsSlot : Tryz.prog.cellsOf 50 = 5 := by kernel_rfl
set_option maxRecDepth 20000 in
theorem trod_slot {H : Type} {enc : TypeId × Value → H} {W : World} {n : Nat} {c0 c1 c2 c3 c4 : Value} {y : DataW H × List MemPlace} (h : DataW.trod enc Tryz.prog W 0 (fun _ => true) true n 50 [c0, c1, c2, c3, c4] = some y) :
   ∃ c r a t b : Int, c0 = .int .i64 c ∧ c1 = .int .i64 r ∧ c2 = .int .i64 a ∧ c3 = .int .i64 t ∧ c4 = .int .i64 b ∧ (Lit.int .i64 c).wf = true ∧ (Lit.int .i64 r).wf = true ∧ (Lit.int .i64 a).wf = true ∧ (Lit.int .i64 t).wf = true ∧ (Lit.int .i64 b).wf = true := by
 obtain ⟨y0, y1, y2, m, _, _, h0, h1, h2⟩ := trod_struct3 Tryz.underlying50 h
 simp [cellsOp, cellsInt] at h0 h1 h2
 obtain ⟨z0, z1, z2, m', _, _, g0, g1, g2⟩ := trod_struct3 Tryz.underlying48 h0
 simp [cellsInt] at g0 g1 g2
 obtain ⟨c, e0, _, wc⟩ := DataW.trod_int Tryz.underlying3 g0
 obtain ⟨r, e1, _, wr⟩ := DataW.trod_int Tryz.underlying3 g1
 obtain ⟨a, e2, _, wa⟩ := DataW.trod_int Tryz.underlying3 g2
 obtain ⟨t, e3, _, wt⟩ := DataW.trod_int Tryz.underlying3 h1
 obtain ⟨b, e4, _, wb⟩ := DataW.trod_int Tryz.underlying3 h2
 simp at e0 e1 e2 e3 e4
 exact ⟨c, r, a, t, b, e0, e1, e2, e3, e4, wc, wr, wa, wt, wb⟩
end Go.Proofs.YtepplhbajmlbpaaGreat

namespace Go.Proofs.YtepplhbajmlbpaaGreat
open Go.ChangeShapes Go.WideShapes Go.ChangeAt Go.RowKit Go.Joins Go.Deep
theorem bytesSlot : Tryz.prog.bytesOf 50 = 40 := by kernel_rfl
theorem cellsSlots : Tryz.prog.cellsOf 53 = 1 := by kernel_rfl
set_option maxRecDepth 20000 in
theorem open_slots {H : Type} {enc : TypeId × Value → H} {W : World} {n : Nat} {c : Value} {y : DataW H × List MemPlace} (h : DataW.trod enc Tryz.prog W 0 (fun _ => true) true n 53 [c] = some y)
   (hs : ∀ k ∈ y.1.weights Tryz.prog 53, k ≤ reachBytes) : ∃ ss, HasL W c ss ∧ ss.length * 40 ≤ 140737488351232 := by
 rcases open_slice Tryz.underlying53 h with ⟨hcs, _⟩ | ⟨a, len, cap, m, n', D, Pl, hcs, _, hl, hm, hmm, rfl, hx⟩
 ·simp at hcs
  subst hcs
  exact ⟨[], HasL.nil _, by decide⟩
 ·simp at hcs
  subst hcs
  simp only [if_true] at hmm
  subst hmm
  rw [cellsSlot] at hx
  have hw := hs _ (by simp [DataW.weights, Tryz.underlying53]; exact Or.inl rfl)
  rw [bytesSlot] at hw
  have each : ∀ i, i < m → ∃ s : Slt, ∀ j, j < 5 → W.cell? ((a.add (i * 5)).add j) = s.vals[j]? := by
    intro i hi
    obtain ⟨cs', h1, h2⟩ := hx i hi
    obtain ⟨_, hlen, hcell⟩ := World.cells?_some h1
    match cs', hlen with
    | [c0, c1, c2, c3, c4], _ =>
      obtain ⟨c, r, a', t, b, rfl, rfl, rfl, rfl, rfl, _⟩ := trod_slot h2
      exact ⟨⟨c, r, a', t, b⟩, fun j hj => by rw [hcell j (by omega)]; rfl⟩
  have : Inhabited Slt := ⟨Slt.zero⟩
  obtain ⟨s, hsl⟩ := choose_lt each
  refine ⟨(List.range len).map s, ?_, by rw [List.length_map, List.length_range]; simp only [reachBytes] at hw; omega⟩
  have hlen : ((List.range len).map s).length = len := by simp
  refine ⟨some a, m, by rw [hlen], by rw [hlen]; exact hl, (fun h => by cases h), fun hp => ?_⟩
  rw [hlen] at hp ⊢
  obtain ⟨b, off, spot⟩ := a
  have hc := hsl 0 (by omega) 0 (by omega)
  have hspot : spot = none := by simpa [Addr.add] using World.cell?_spot hc
  subst hspot
  refine ⟨b, off, rfl, fun i hi => SlotAt.of fun j hj => ?_⟩
  have h1 := hsl i (by omega) j hj
  rw [add_plain, add_plain] at h1
  rw [h1]
  simp [List.getD, hi]
end Go.Proofs.YtepplhbajmlbpaaGreat

namespace Go.Proofs.YtepplhbajmlbpaaGreat
open Go.ChangeShapes Go.WideShapes Go.ChangeAt Go.RowKit Go.Joins
theorem bytesInt : Tryz.prog.bytesOf 3 = 8 := by kernel_rfl
theorem cellsState : Tryz.prog.cellsOf 44 = 4 := by kernel_rfl
theorem cellsRows : Tryz.prog.cellsOf 42 = 4 := by kernel_rfl
theorem cellsInts : Tryz.prog.cellsOf 41 = 1 := by kernel_rfl
theorem has_of_ints {w : World} {a : Addr} {len cap : Nat} {zs : List Int} (hl : len ≤ cap) (hz : zs.length = cap) (hcell : ∀ i, i < zs.length → w.cell? (a.add i) = some (.int .i64 (zs.getD i 0))) : Has w (.slice (some a) len cap) (zs.take len) := by
 have hlen : (zs.take len).length = len := by rw [List.length_take]; omega
 refine ⟨some a, cap, by rw [hlen], by rw [hlen]; exact hl, (fun h => by cases h), fun hp => ?_⟩
 rw [hlen] at hp ⊢
 obtain ⟨b, off, spot⟩ := a
 have hc := hcell 0 (by omega)
 have hspot : spot = none := by simpa [Addr.add] using World.cell?_spot hc
 subst hspot
 refine ⟨b, off, rfl, fun i hi => ?_⟩
 have h1 := hcell i (by omega)
 rw [add_plain] at h1
 rw [h1]
 simp [List.getD, hi]
set_option maxRecDepth 20000 in
theorem open_nums {H : Type} {enc : TypeId × Value → H} {W : World} {n : Nat} {c : Value} {y : DataW H × List MemPlace} (h : DataW.trod enc Tryz.prog W 0 (fun _ => true) true n 41 [c] = some y)
   (hs : ∀ k ∈ y.1.weights Tryz.prog 41, k ≤ reachBytes) : ∃ xs, Has W c xs ∧ xs.length * 8 ≤ 140737488351232 := by
 rcases open_ints Tryz.underlying41 Tryz.underlying3 (by kernel_rfl) h with ⟨hcs, _⟩ | ⟨x, l, cp, zs, hcs, _, hl, hm, hz, hd, hcell, hwz⟩
 ·simp at hcs
  subst hcs
  exact ⟨[], Has.nil _, by decide⟩
 ·simp at hcs
  subst hcs
  have hd0 : y.1 = .slice (lits .i64 (zs.take l)) (lits .i64 (zs.drop l)) := congrArg Prod.fst hd
  have := hs _ (by rw [hd0]; simp [DataW.weights, Tryz.underlying41]; exact Or.inl rfl)
  rw [bytesInt] at this
  simp only [lits, List.length_map, List.length_take, List.length_drop, reachBytes] at this
  exact ⟨zs.take l, has_of_ints hl (by simpa using hz) hcell, by rw [List.length_take]; omega⟩
end Go.Proofs.YtepplhbajmlbpaaGreat

namespace Go.Proofs.YtepplhbajmlbpaaGreat
open Go.ChangeShapes Go.WideShapes Go.ChangeAt Go.RowKit Go.Joins Go.Deep
theorem cellsCfg : Tryz.prog.cellsOf 23 = 5 := by kernel_rfl
theorem cellsInt1 : Tryz.prog.cellsOf 3 = 1 := by kernel_rfl
theorem trod_struct5 {H : Type} {enc : TypeId × Value → H} {P : Program} {W : World} {base : Nat} {spare : Nat → Bool} {held : Bool} {t : TypeId} {f0 f1 f2 f3 f4 : Field} {fuel : Nat} {cs : List Value} {x : DataW H × List MemPlace} (ht : P.underlying t = some (.struct #[f0, f1, f2, f3, f4])) (h : DataW.trod enc P W base spare held fuel t cs = some x) :
   ∃ y0 y1 y2 y3 y4 n, x = (.agg [y0.1, y1.1, y2.1, y3.1, y4.1], y0.2 ++ (y1.2 ++ (y2.2 ++ (y3.2 ++ y4.2)))) ∧ cs.length = P.cellsOf t ∧ DataW.trod enc P W base spare held n f0.type ((cs.drop f0.offset).take (P.cellsOf f0.type)) = some y0 ∧
     DataW.trod enc P W base spare held n f1.type ((cs.drop f1.offset).take (P.cellsOf f1.type)) = some y1 ∧ DataW.trod enc P W base spare held n f2.type ((cs.drop f2.offset).take (P.cellsOf f2.type)) = some y2 ∧
     DataW.trod enc P W base spare held n f3.type ((cs.drop f3.offset).take (P.cellsOf f3.type)) = some y3 ∧ DataW.trod enc P W base spare held n f4.type ((cs.drop f4.offset).take (P.cellsOf f4.type)) = some y4 := by
 obtain ⟨xs, n, _, rfl, hl, hlen, hf⟩ := DataW.trod_struct ht h
 match xs, hlen with
 | [y0, y1, y2, y3, y4], _ => exact ⟨y0, y1, y2, y3, y4, n, by simp, hl, by simpa using hf 0 f0 rfl, by simpa using hf 1 f1 rfl, by simpa using hf 2 f2 rfl, by simpa using hf 3 f3 rfl, by simpa using hf 4 f4 rfl⟩
set_option maxRecDepth 20000 in
theorem trod_cfg {H : Type} {enc : TypeId × Value → H} {W : World} {n : Nat} {c0 c1 c2 c3 c4 : Value} {y : DataW H × List MemPlace} (h : DataW.trod enc Tryz.prog W 0 (fun _ => true) true n 23 [c0, c1, c2, c3, c4] = some y) :
   ∃ c r a t b : Int, c0 = .int .i64 c ∧ c1 = .int .i64 r ∧ c2 = .int .i64 a ∧ c3 = .int .i64 t ∧ c4 = .int .i64 b ∧ (Lit.int .i64 c).wf = true ∧ (Lit.int .i64 r).wf = true ∧ (Lit.int .i64 a).wf = true ∧ (Lit.int .i64 t).wf = true ∧ (Lit.int .i64 b).wf = true := by
 obtain ⟨y0, y1, y2, y3, y4, m, _, _, h0, h1, h2, h3, h4⟩ := trod_struct5 Tryz.underlying23 h
 simp [cellsInt1] at h0 h1 h2 h3 h4
 obtain ⟨c, e0, _, wc⟩ := DataW.trod_int Tryz.underlying3 h0
 obtain ⟨r, e1, _, wr⟩ := DataW.trod_int Tryz.underlying3 h1
 obtain ⟨a, e2, _, wa⟩ := DataW.trod_int Tryz.underlying3 h2
 obtain ⟨t, e3, _, wt⟩ := DataW.trod_int Tryz.underlying3 h3
 obtain ⟨b, e4, _, wb⟩ := DataW.trod_int Tryz.underlying3 h4
 simp at e0 e1 e2 e3 e4
 exact ⟨c, r, a, t, b, e0, e1, e2, e3, e4, wc, wr, wa, wt, wb⟩
end Go.Proofs.YtepplhbajmlbpaaGreat

namespace Go.Proofs.YtepplhbajmlbpaaGreat
open Go.ChangeShapes Go.WideShapes Go.ChangeAt Go.RowKit Go.Joins Go.Deep
theorem weightsAll_mem {H : Type} {P : Program} {e : TypeId} {d : DataW H} {k : Nat} (hk : k ∈ d.weights P e) : ∀ l : List (DataW H), d ∈ l → k ∈ DataW.weightsAll P e l
 | [], h => by cases h
 | x :: l, h => by
   unfold DataW.weightsAll
   rcases List.mem_cons.1 h with rfl | h
   ·exact List.mem_append.2 (.inl hk)
   ·exact List.mem_append.2 (.inr (weightsAll_mem hk l h))
theorem open_row {α : Type} (K : Kind α) {tS : TypeId} (hu : Tryz.prog.underlying tS = some (.slice K.t)) (hc : Tryz.prog.cellsOf K.t = K.k) (hb : Tryz.prog.bytesOf K.t = K.by') {H : Type} {enc : TypeId × Value → H} {W : World} (G : α → Prop)
   (hel : ∀ (n : Nat) (cs : List Value) (y : DataW H × List MemPlace), cs.length = K.k → DataW.trod enc Tryz.prog W 0 (fun _ => true) true n K.t cs = some y → (∀ k ∈ y.1.weights Tryz.prog K.t, k ≤ reachBytes) → ∃ x : α, cs = K.f x ∧ G x)
   {n : Nat} {c : Value} {y : DataW H × List MemPlace} (h : DataW.trod enc Tryz.prog W 0 (fun _ => true) true n tS [c] = some y) (hs : ∀ k ∈ y.1.weights Tryz.prog tS, k ≤ reachBytes) : ∃ xs, HasE K W c xs ∧ (∀ x ∈ xs, G x) ∧ xs.length * K.by' ≤ 140737488351232 := by
 rcases open_slice hu h with ⟨hcs, _⟩ | ⟨a, len, cap, m, n', D, Pl, hcs, _, hl, hm, hmm, rfl, hx⟩
 ·simp at hcs
  subst hcs
  exact ⟨[], HasE.nil _ _, (fun x h => by cases h), by simp⟩
 ·simp at hcs
  subst hcs
  simp only [if_true] at hmm
  subst hmm
  rw [hc] at hx
  have hw := hs _ (by simp [DataW.weights, hu]; exact Or.inl rfl)
  rw [hb] at hw
  have each : ∀ i, i < len → ∃ x : α, (∀ j, j < K.k → W.cell? ((a.add (i * K.k)).add j) = (K.f x)[j]?) ∧ G x := by
    intro i hi
    obtain ⟨cs', h1, h2⟩ := hx i (by omega)
    obtain ⟨_, hlen, hcell⟩ := World.cells?_some h1
    obtain ⟨x, rfl, hg⟩ := hel n' cs' _ hlen h2 (fun k hk => hs k (by
      simp only [DataW.weights, hu]
      refine List.mem_cons_of_mem _ (List.mem_append.2 (.inl (weightsAll_mem hk _ ?_)))
      exact List.mem_map.2 ⟨i, List.mem_range.2 hi, rfl⟩))
    exact ⟨x, fun j hj => hcell j (by omega), hg⟩
  have : Inhabited α := ⟨K.d⟩
  obtain ⟨s, hsl⟩ := choose_lt each
  have hlen : ((List.range len).map s).length = len := by simp
  refine ⟨(List.range len).map s, ?_, fun x hx => ?_, ?_⟩
  ·refine ⟨some a, m, by rw [hlen], by rw [hlen]; exact hl, (fun h => by cases h), fun hp => ?_⟩
   rw [hlen] at hp ⊢
   obtain ⟨b, off, spot⟩ := a
   have hk := K.pos
   have hc0 := (hsl 0 (by omega)).1 0 hk
   have hlt : 0 < (K.f (s 0)).length := by rw [K.len]; exact hk
   rw [List.getElem?_eq_getElem hlt] at hc0
   have hspot : spot = none := by simpa [Addr.add] using World.cell?_spot hc0
   subst hspot
   refine ⟨b, off, rfl, fun i hi j hj => ?_⟩
   have h1 := (hsl i hi).1 j hj
   rw [add_plain, add_plain] at h1
   rw [h1]
   simp [List.getD, hi]
  ·obtain ⟨i, hi, rfl⟩ := List.mem_map.1 hx
   exact (hsl i (List.mem_range.1 hi)).2
  ·rw [hlen]
   simp only [reachBytes] at hw
   have : len * K.by' ≤ (len + (m - len)) * K.by' := Nat.mul_le_mul_right _ (by omega)
   omega
theorem cellsInt2 : Tryz.prog.cellsOf 3 = 1 := by kernel_rfl
theorem cellsBool : Tryz.prog.cellsOf 4 = 1 := by kernel_rfl
theorem cellsOp2 : Tryz.prog.cellsOf 48 = 3 := by kernel_rfl
theorem open_ringE {H : Type} {enc : TypeId × Value → H} {W : World} (n : Nat) (cs : List Value) (y : DataW H × List MemPlace) (hlen : cs.length = 4) (h : DataW.trod enc Tryz.prog W 0 (fun _ => true) true n 55 cs = some y) (hs : ∀ k ∈ y.1.weights Tryz.prog 55, k ≤ reachBytes) :
   ∃ x : LR, cs = LR.cells x ∧ HasL W (slV x.q) x.R.ss ∧ FitR x.R := by
 match cs, hlen with
 | [c0, c1, c2, c3], _ =>
   obtain ⟨y0, y1, y2, y3, n, hx, _, h0, h1, h2, h3⟩ := trod_struct4 Tryz.underlying55 h
   simp [cellsInt2, cellsSlots] at h0 h1 h2 h3
   have hd : y.1 = .agg [y0.1, y1.1, y2.1, y3.1] := congrArg Prod.fst hx
   obtain ⟨x0, e0, _, w0⟩ := DataW.trod_int Tryz.underlying3 h0
   obtain ⟨x1, e1, _, w1⟩ := DataW.trod_int Tryz.underlying3 h1
   obtain ⟨x2, e2, _, w2⟩ := DataW.trod_int Tryz.underlying3 h2
   simp at e0 e1 e2
   subst e0 e1 e2
   obtain ⟨ss, a0, b0⟩ := open_slots h3 (fun k hk => hs k (by
     rw [hd]
     simp [DataW.weights, DataW.weightsEach, Tryz.underlying55]
     exact Or.inr (Or.inr (Or.inr hk))))
   obtain ⟨q, rfl⟩ := a0.sl
   exact ⟨⟨⟨x0, x1, x2, ss⟩, q⟩, rfl, a0, b0⟩
theorem open_repE {H : Type} {enc : TypeId × Value → H} {W : World} (n : Nat) (cs : List Value) (y : DataW H × List MemPlace) (hlen : cs.length = 6) (h : DataW.trod enc Tryz.prog W 0 (fun _ => true) true n 46 cs = some y) (hs : ∀ k ∈ y.1.weights Tryz.prog 46, k ≤ reachBytes) :
   ∃ x : LP, cs = LP.cells x ∧ (∀ i, i < 4 → Has W (slV (x.vs i)) (x.P.s.at i)) ∧ Has W (slV x.c) x.P.cs ∧ Has W (slV x.l) x.P.ls ∧ Fit x.P.s ∧ x.P.cs.length * 8 ≤ 140737488351232 ∧ x.P.ls.length * 8 ≤ 140737488351232 := by
 match cs, hlen with
 | [c0, c1, c2, c3, c4, c5], _ =>
   obtain ⟨ys, m, _, hx, _, hlen', hf⟩ := DataW.trod_struct Tryz.underlying46 h
   match ys, hlen' with
   | [y0, y1, y2], _ =>
     have hd : y.1 = .agg [y0.1, y1.1, y2.1] := congrArg Prod.fst hx
     have h0 := hf 0 _ rfl
     have h1 := hf 1 _ rfl
     have h2 := hf 2 _ rfl
     simp [cellsState, cellsInts] at h0 h1 h2
     have hw : ∀ k, k ∈ y0.1.weights Tryz.prog 44 ∨ k ∈ y1.1.weights Tryz.prog 41 ∨ k ∈ y2.1.weights Tryz.prog 41 → k ≤ reachBytes := fun k hk => hs k (by
       rw [hd]
       simp [DataW.weights, DataW.weightsEach, Tryz.underlying46]
       exact hk)
     obtain ⟨z, m1, hz, _, g1⟩ := trod_struct1 Tryz.underlying44 h0
     simp [cellsRows] at g1
     obtain ⟨z0, z1, z2, z3, m2, hy, t0, t1, t2, t3⟩ := trod_array4 Tryz.underlying42 cellsInts g1
     have hd0 : y0.1 = .agg [.agg [z0.1, z1.1, z2.1, z3.1]] := by
       have := congrArg Prod.fst hz
       simp only [hy] at this
       exact this
     have hw0 : ∀ k, k ∈ z0.1.weights Tryz.prog 41 ∨ k ∈ z1.1.weights Tryz.prog 41 ∨ k ∈ z2.1.weights Tryz.prog 41 ∨ k ∈ z3.1.weights Tryz.prog 41 → k ≤ reachBytes := fun k hk => hw k (.inl (by
       rw [hd0]
       simp [DataW.weights, DataW.weightsEach, DataW.weightsAll, Tryz.underlying44, Tryz.underlying42]
       exact hk))
     obtain ⟨x0, a0, b0⟩ := open_nums t0 (fun k hk => hw0 k (.inl hk))
     obtain ⟨x1, a1, b1⟩ := open_nums t1 (fun k hk => hw0 k (.inr (.inl hk)))
     obtain ⟨x2, a2, b2⟩ := open_nums t2 (fun k hk => hw0 k (.inr (.inr (.inl hk))))
     obtain ⟨x3, a3, b3⟩ := open_nums t3 (fun k hk => hw0 k (.inr (.inr (.inr hk))))
     obtain ⟨x4, a4, b4⟩ := open_nums h1 (fun k hk => hw k (.inr (.inl hk)))
     obtain ⟨x5, a5, b5⟩ := open_nums h2 (fun k hk => hw k (.inr (.inr hk)))
     obtain ⟨q0, rfl⟩ := a0.sl
     obtain ⟨q1, rfl⟩ := a1.sl
     obtain ⟨q2, rfl⟩ := a2.sl
     obtain ⟨q3, rfl⟩ := a3.sl
     obtain ⟨q4, rfl⟩ := a4.sl
     obtain ⟨q5, rfl⟩ := a5.sl
     refine ⟨⟨⟨⟨x0, x1, x2, x3⟩, x4, x5⟩, fun i => match i with | 0 => q0 | 1 => q1 | 2 => q2 | _ => q3, q4, q5⟩, rfl, fun i hi => ?_, a4, a5, fun i hi => ?_, b4, b5⟩
     ·rcases four hi with rfl | rfl | rfl | rfl
      ·exact a0
      ·exact a1
      ·exact a2
      ·exact a3
     ·rcases four hi with rfl | rfl | rfl | rfl
      ·exact b0
      ·exact b1
      ·exact b2
      ·exact b3
theorem trod_op {H : Type} {enc : TypeId × Value → H} {W : World} {n : Nat} {c0 c1 c2 : Value} {y : DataW H × List MemPlace} (h : DataW.trod enc Tryz.prog W 0 (fun _ => true) true n 48 [c0, c1, c2] = some y) : ∃ c r a : Int, c0 = .int .i64 c ∧ c1 = .int .i64 r ∧ c2 = .int .i64 a := by
 obtain ⟨ys, m, _, hx, _, hlen', hf⟩ := DataW.trod_struct Tryz.underlying48 h
 match ys, hlen' with
 | [y0, y1, y2], _ =>
   have h0 := hf 0 _ rfl
   have h1 := hf 1 _ rfl
   have h2 := hf 2 _ rfl
   simp [cellsInt2] at h0 h1 h2
   obtain ⟨x0, e0, _, _⟩ := DataW.trod_int Tryz.underlying3 h0
   obtain ⟨x1, e1, _, _⟩ := DataW.trod_int Tryz.underlying3 h1
   obtain ⟨x2, e2, _, _⟩ := DataW.trod_int Tryz.underlying3 h2
   simp at e0 e1 e2
   exact ⟨x0, x1, x2, e0, e1, e2⟩
theorem open_evE {H : Type} {enc : TypeId × Value → H} {W : World} (n : Nat) (cs : List Value) (y : DataW H × List MemPlace) (hlen : cs.length = 6) (h : DataW.trod enc Tryz.prog W 0 (fun _ => true) true n 102 cs = some y) (_hs : ∀ k ∈ y.1.weights Tryz.prog 102, k ≤ reachBytes) :
   ∃ x : Ev, cs = Ev.cells x ∧ True := by
 match cs, hlen with
 | [c0, c1, c2, c3, c4, c5], _ =>
   obtain ⟨ys, m, _, hx, _, hlen', hf⟩ := DataW.trod_struct Tryz.underlying102 h
   match ys, hlen' with
   | [y0, y1, y2, y3], _ =>
     have h0 := hf 0 _ rfl
     have h1 := hf 1 _ rfl
     have h2 := hf 2 _ rfl
     have h3 := hf 3 _ rfl
     simp [cellsInt2, cellsBool, cellsOp2] at h0 h1 h2 h3
     obtain ⟨x0, e0, _, _⟩ := DataW.trod_int Tryz.underlying3 h0
     obtain ⟨x1, e1, _⟩ := DataW.trod_bool Tryz.underlying4 h1
     obtain ⟨x2, x3, x4, e2, e3, e4⟩ := trod_op h2
     obtain ⟨x5, e5, _, _⟩ := DataW.trod_int Tryz.underlying3 h3
     simp at e0 e1 e5
     subst e0 e1 e2 e3 e4 e5
     exact ⟨⟨x0, x1, x2, x3, x4, x5⟩, rfl, trivial⟩
theorem open_thE {H : Type} {enc : TypeId × Value → H} {W : World} (n : Nat) (cs : List Value) (y : DataW H × List MemPlace) (hlen : cs.length = 12) (h : DataW.trod enc Tryz.prog W 0 (fun _ => true) true n 59 cs = some y) (hs : ∀ k ∈ y.1.weights Tryz.prog 59, k ≤ reachBytes) :
   ∃ x : LT, cs = LT.cells x ∧ Has W (slV x.b) x.T.b ∧ Has W (slV x.t) x.T.tl ∧ x.T.b.length * 8 ≤ 140737488351232 ∧ x.T.tl.length * 8 ≤ 140737488351232 := by
 match cs, hlen with
 | [c0, c1, c2, c3, c4, c5, c6, c7, c8, c9, c10, c11], _ =>
   obtain ⟨ys, m, _, hx, _, hlen', hf⟩ := DataW.trod_struct Tryz.underlying59 h
   match ys, hlen' with
   | [y0, y1, y2, y3, y4, y5, y6, y7, y8, y9], _ =>
     have hd : y.1 = .agg [y0.1, y1.1, y2.1, y3.1, y4.1, y5.1, y6.1, y7.1, y8.1, y9.1] := congrArg Prod.fst hx
     have h0 := hf 0 _ rfl
     have h1 := hf 1 _ rfl
     have h2 := hf 2 _ rfl
     have h3 := hf 3 _ rfl
     have h4 := hf 4 _ rfl
     have h5 := hf 5 _ rfl
     have h6 := hf 6 _ rfl
     have h7 := hf 7 _ rfl
     have h8 := hf 8 _ rfl
     have h9 := hf 9 _ rfl
     simp [cellsInt2, cellsBool, cellsOp2, cellsInts] at h0 h1 h2 h3 h4 h5 h6 h7 h8 h9
     have hw : ∀ k, k ∈ y4.1.weights Tryz.prog 41 ∨ k ∈ y9.1.weights Tryz.prog 41 → k ≤ reachBytes := fun k hk => hs k (by
       rw [hd]
       simp only [DataW.weights, DataW.weightsEach, Tryz.underlying59, List.map_cons, List.map_nil, List.mem_append]
       rcases hk with hk | hk
       ·exact .inr (.inr (.inr (.inr (.inl hk))))
       ·exact .inr (.inr (.inr (.inr (.inr (.inr (.inr (.inr (.inr (.inl hk))))))))))
     obtain ⟨x0, e0, _, _⟩ := DataW.trod_int Tryz.underlying3 h0
     obtain ⟨x1, x2, x3, e1, e2, e3⟩ := trod_op h1
     obtain ⟨x4, e4, _, _⟩ := DataW.trod_int Tryz.underlying3 h2
     obtain ⟨x5, e5, _, _⟩ := DataW.trod_int Tryz.underlying3 h3
     obtain ⟨x6, a6, b6⟩ := open_nums h4 (fun k hk => hw k (.inl hk))
     obtain ⟨x7, e7, _, _⟩ := DataW.trod_int Tryz.underlying3 h5
     obtain ⟨x8, e8, _⟩ := DataW.trod_bool Tryz.underlying4 h6
     obtain ⟨x9, e9, _⟩ := DataW.trod_bool Tryz.underlying4 h7
     obtain ⟨x10, e10, _, _⟩ := DataW.trod_int Tryz.underlying3 h8
     obtain ⟨x11, a11, b11⟩ := open_nums h9 (fun k hk => hw k (.inr hk))
     simp at e0 e4 e5 e7 e8 e9 e10
     subst e0 e1 e2 e3 e4 e5 e7 e8 e9 e10
     obtain ⟨q6, rfl⟩ := a6.sl
     obtain ⟨q11, rfl⟩ := a11.sl
     exact ⟨⟨⟨x0, x1, x2, x3, x4, x5, x6, x7, x8, x9, x10, x11⟩, q6, q11⟩, rfl, a6, a11, b6, b11⟩
theorem cellsMach : Tryz.prog.cellsOf 29 = 9 := by kernel_rfl
theorem cellsS1 : Tryz.prog.cellsOf 24 = 1 := by kernel_rfl
theorem cellsS2 : Tryz.prog.cellsOf 25 = 1 := by kernel_rfl
theorem cellsS3 : Tryz.prog.cellsOf 26 = 1 := by kernel_rfl
theorem cellsS4 : Tryz.prog.cellsOf 27 = 1 := by kernel_rfl
theorem array9 {α : Type} {cs : Array α} (h : cs.size = 9) : ∃ c0 c1 c2 c3 c4 c5 c6 c7 c8, cs = #[c0, c1, c2, c3, c4, c5, c6, c7, c8] := by
 obtain ⟨l⟩ := cs
 match l, h with
 | [c0, c1, c2, c3, c4, c5, c6, c7, c8], _ => exact ⟨c0, c1, c2, c3, c4, c5, c6, c7, c8, rfl⟩
set_option maxRecDepth 20000 in
theorem open_mach {H : Type} {enc : TypeId × Value → H} {W : World} {base : Nat} {v : Value} {d : DataW H} {p : List MemPlace} (hv : Value.okWide Tryz.prog W .any base 29 v)
   (h : DataW.Trod enc Tryz.prog W 0 (fun _ => true) true 29 v d p) (hs : ∀ k ∈ d.weights Tryz.prog 29, k ≤ reachBytes) : ∃ M, HasM W v M ∧ FitM M := by
 obtain ⟨cs, rfl, hsz⟩ := okWide_struct Tryz.underlying29 hv
 obtain ⟨c0, c1, c2, c3, c4, c5, c6, c7, c8, rfl⟩ := array9 (hsz.trans cellsMach)
 obtain ⟨fuel, hf⟩ := h
 obtain ⟨y0, y1, y2, y3, y4, n, hx, _, h0, h1, h2, h3, h4⟩ := trod_struct5 Tryz.underlying29 hf
 simp [Value.cells, cellsCfg, cellsS1, cellsS2, cellsS3, cellsS4] at h0 h1 h2 h3 h4
 have hd : d = .agg [y0.1, y1.1, y2.1, y3.1, y4.1] := congrArg Prod.fst hx
 have hw : ∀ k, k ∈ y1.1.weights Tryz.prog 24 ∨ k ∈ y2.1.weights Tryz.prog 25 ∨ k ∈ y3.1.weights Tryz.prog 26 ∨ k ∈ y4.1.weights Tryz.prog 27 → k ≤ reachBytes := fun k hk => hs k (by
   rw [hd]
   simp [DataW.weights, DataW.weightsEach, Tryz.underlying29]
   exact Or.inr hk)
 obtain ⟨o, r, l, t, s, rfl, rfl, rfl, rfl, rfl, _⟩ := trod_cfg h0
 obtain ⟨rs, hR, gR, fR⟩ := open_row ringK (tS := 24) Tryz.underlying24 (by kernel_rfl) (by kernel_rfl) (fun x => HasL W (slV x.q) x.R.ss ∧ FitR x.R) (fun n cs y hl h hs => open_ringE n cs y hl h hs) h1 (fun k hk => hw k (.inl hk))
 obtain ⟨ps, hP, gP, fP⟩ := open_row repK (tS := 25) Tryz.underlying25 (by kernel_rfl) (by kernel_rfl) (fun x => (∀ i, i < 4 → Has W (slV (x.vs i)) (x.P.s.at i)) ∧ Has W (slV x.c) x.P.cs ∧ Has W (slV x.l) x.P.ls ∧ Fit x.P.s ∧ x.P.cs.length * 8 ≤ 140737488351232 ∧ x.P.ls.length * 8 ≤ 140737488351232) (fun n cs y hl h hs => open_repE n cs y hl h hs) h2 (fun k hk => hw k (.inr (.inl hk)))
 obtain ⟨ts, hT, gT, fT⟩ := open_row thK (tS := 26) Tryz.underlying26 (by kernel_rfl) (by kernel_rfl) (fun x => Has W (slV x.b) x.T.b ∧ Has W (slV x.t) x.T.tl ∧ x.T.b.length * 8 ≤ 140737488351232 ∧ x.T.tl.length * 8 ≤ 140737488351232) (fun n cs y hl h hs => open_thE n cs y hl h hs) h3 (fun k hk => hw k (.inr (.inr (.inl hk))))
 obtain ⟨es, hE, _, fE⟩ := open_row evK (tS := 27) Tryz.underlying27 (by kernel_rfl) (by kernel_rfl) (fun _ => True) (fun n cs y hl h hs => open_evE n cs y hl h hs) h4 (fun k hk => hw k (.inr (.inr (.inr hk))))
 obtain ⟨qR, rfl⟩ := hR.sl
 obtain ⟨qP, rfl⟩ := hP.sl
 obtain ⟨qT, rfl⟩ := hT.sl
 obtain ⟨qH, rfl⟩ := hE.sl
 refine ⟨⟨⟨o, r, l, t, s⟩, rs.map LR.R, ps.map LP.P, ts.map LT.T, es⟩, ⟨qR, qP, qT, qH, rfl, ⟨rs, rfl, hR, fun x hx => (gR x hx).1⟩, ⟨ps, rfl, hP, fun x hx => ⟨(gP x hx).1, (gP x hx).2.1, (gP x hx).2.2.1⟩⟩, ⟨ts, rfl, hT, fun x hx => ⟨(gT x hx).1, (gT x hx).2.1⟩⟩, hE⟩, ⟨by rw [List.length_map]; exact fR, by rw [List.length_map]; exact fP, by rw [List.length_map]; exact fT, fE, fun R hR' => ?_, fun P hP' => ?_, fun T hT' => ?_⟩⟩
 ·obtain ⟨x, hx, rfl⟩ := List.mem_map.1 hR'
  exact (gR x hx).2
 ·obtain ⟨x, hx, rfl⟩ := List.mem_map.1 hP'
  exact (gP x hx).2.2.2
 ·obtain ⟨x, hx, rfl⟩ := List.mem_map.1 hT'
  exact (gT x hx).2.2
end Go.Proofs.YtepplhbajmlbpaaGreat
