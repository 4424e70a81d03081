/-
  PARTS LAID TOGETHER, each with its own opening: MsU, BtH, OwA, Bits, Grow3, RyF.
-/
import Derived.Test.YtepplhbajmlbpaaGreatCom7
import Derived.Test.YtepplhbajmlbpaaGreatCom4
import Derived.Test.YtepplhbajmlbpaaGreatCom6
import Derived.Test.YtepplhbajmlbpaaGreatCom1
import Derived.Laws.BitsLemmas
import Derived.Test.YtepplhbajmlbpaaGreatCom3
namespace Go.Proofs.YtepplhbajmlbpaaGreat
open Go.RowKit
structure MayP (M : Mc) : Prop where
 ok : M.c.ok = true
 lr : (M.rs.length : Int) = M.c.l
 rs : ∀ R ∈ M.rs, ringB M.c R = true
 lp : (M.ps.length : Int) = M.c.r
 ps : ∀ P ∈ M.ps, repB M.c M.rs P = true
 lt : (M.ts.length : Int) = M.c.t
 ts : ∀ T ∈ M.ts, thB M.c T = true
 le : (M.es.length : Int) ≤ 64
 es : ∀ E ∈ M.es, evB M.c E = true
theorem mayM_iff {M : Mc} : mayM M = true ↔ MayP M := by
 constructor
 ·intro h
  obtain ⟨a, b, c, d⟩ := mayM_lens h
  exact ⟨mayM_ok h, a, mayM_rs h, b, mayM_ps h, c, mayM_ts h, d, mayM_es h⟩
 ·intro h
  unfold mayM
  simp only [Bool.and_eq_true, decide_eq_true_eq, List.all_eq_true]
  exact ⟨h.ok, ⟨h.lr, h.rs⟩, ⟨h.lp, h.ps⟩, ⟨h.lt, h.ts⟩, h.le, h.es⟩
theorem thB_yes {c : Cfg} {T : Th} (h1 : 0 ≤ T.st ∧ T.st ≤ 19) (h2 : opMay T.c T.r T.a = true) (h3 : 0 ≤ T.lg ∧ T.lg ≤ c.l - 1) (h4 : 0 ≤ T.sn ∧ T.sn ≤ 1048576) (h5 : (T.b.length : Int) ≤ c.t) (h6 : ∀ x ∈ T.b, 0 ≤ x ∧ x ≤ c.t - 1) (h7 : 0 ≤ T.pl ∧ T.pl ≤ T.b.length) (h8 : (T.tl.length : Int) ≤ c.l) (h9 : ∀ x ∈ T.tl, 0 ≤ x ∧ x ≤ 1048576) : thB c T = true := by
 unfold thB
 simp only [Bool.and_eq_true, decide_eq_true_eq, List.all_eq_true]
 exact ⟨inB_yes h1.1 h1.2, h2, inB_yes h3.1 h3.2, inB_yes h4.1 h4.2, ⟨h5, fun x hx => inB_yes (h6 x hx).1 (h6 x hx).2⟩, inB_yes h7.1 h7.2, h8, fun x hx => inB_yes (h9 x hx).1 (h9 x hx).2⟩
theorem repB_yes {c : Cfg} {Rs : List Rg} {P : Rp} (h1 : objMay c.o P.s = true) (h2 : (P.cs.length : Int) = c.l) (h3 : cursOK Rs P.cs = true) (h4 : (P.ls.length : Int) = c.l) (h5 : ∀ x ∈ P.ls, 0 ≤ x ∧ x ≤ c.t) : repB c Rs P = true := by
 unfold repB
 simp only [Bool.and_eq_true, decide_eq_true_eq, List.all_eq_true]
 exact ⟨h1, h2, h3, h4, fun x hx => inB_yes (h5 x hx).1 (h5 x hx).2⟩
theorem mayM_putT {M : Mc} (h : mayM M = true) {t : Int} {x : Th} (hx : thB M.c x = true) : mayM (M.putT t x) = true := by
 obtain ⟨a, b, c, d, e, f, g, i, j⟩ := mayM_iff.1 h
 refine mayM_iff.2 ⟨a, b, c, d, e, by simpa [Mc.putT] using f, fun T hT => ?_, i, j⟩
 rcases List.mem_or_eq_of_mem_set hT with hT | rfl
 ·exact g T hT
 ·exact hx
theorem mayM_putP {M : Mc} (h : mayM M = true) {r : Int} {x : Rp} (hx : repB M.c M.rs x = true) : mayM (M.putP r x) = true := by
 obtain ⟨a, b, c, d, e, f, g, i, j⟩ := mayM_iff.1 h
 refine mayM_iff.2 ⟨a, b, c, by simpa [Mc.putP] using d, fun P hP => ?_, f, g, i, j⟩
 rcases List.mem_or_eq_of_mem_set hP with hP | rfl
 ·exact e P hP
 ·exact hx
theorem cursOK_yes {Rs : List Rg} {cs : List Int} (h : ∀ k, k < cs.length → (Rs.getD k Rg.zero).h ≤ cs.getD k 0 ∧ cs.getD k 0 ≤ (Rs.getD k Rg.zero).t) : cursOK Rs cs = true := by
 unfold cursOK
 simp only [List.all_eq_true, List.mem_range]
 exact fun k hk => inB_yes (h k hk).1 (h k hk).2
theorem thB_zero {c : Cfg} (h : c.ok = true) : thB c Th.zero = true := by
 obtain ⟨_, _, ⟨l0, _⟩, ⟨t0, _⟩, _, _⟩ := Cfg.ok_cases h
 exact thB_yes (by decide) (by decide) (by simp [Th.zero]; omega) (by decide) (by simp [Th.zero]; omega) (by simp [Th.zero]) (by simp [Th.zero]) (by simp [Th.zero]; omega) (by simp [Th.zero])
theorem th_may {M : Mc} (h : mayM M = true) (t : Int) : thB M.c (M.th t) = true := by
 unfold Mc.th
 rcases Nat.lt_or_ge t.toNat M.ts.length with ht | ht
 ·exact mayM_ts h _ (getD_mem ht)
 ·rw [getD_out ht]; exact thB_zero (mayM_ok h)
theorem th_put (M : Mc) (t : Int) (x : Th) (i : Nat) : (M.putT t x).th i = if i = t.toNat ∧ i < M.ts.length then x else M.th i := by
 unfold Mc.putT Mc.th
 simp only [Int.toNat_natCast]
 rw [List.getD_eq_getElem?_getD, List.getElem?_set, List.getD_eq_getElem?_getD]
 by_cases e : t.toNat = i
 ·subst e
  by_cases h : t.toNat < M.ts.length
  ·rw [if_pos rfl, if_pos h, if_pos ⟨rfl, h⟩]; rfl
  ·rw [if_pos rfl, if_neg h, if_neg (fun k => h k.2), List.getElem?_eq_none (by omega)]
 ·rw [if_neg e, if_neg (fun k => e k.1.symm)]
theorem OwnA.sp {w : World} {base : Nat} {v : Value} {M : Mc} (h : OwnA w base v M) (hf : FitM M) : Sp.IntsM w (fun g => base ≤ g ∧ g < w.heap.size) v := by
 obtain ⟨L, rfl, rfl, ho, _⟩ := h
 exact Sp.ownsM_ints ho hf (fun g h1 h2 => ⟨h1, h2⟩)
end Go.Proofs.YtepplhbajmlbpaaGreat

namespace Go.Proofs.YtepplhbajmlbpaaGreat
theorem and1 (n : Int) : bits .and .i64 n 1 = n % 2 := by
 have h : (BitVec.ofInt 64 1).toNat = 2 ^ 1 - 1 := by decide
 have key : (BitVec.ofInt 64 n &&& BitVec.ofInt 64 1).toNat = (n % ((2 ^ 64 : Nat) : Int)).toNat % 2 ^ 1 := by
   rw [BitVec.toNat_and, BitVec.toNat_ofInt, h, Nat.and_two_pow_sub_one_eq_mod]
 show IntKind.i64.wrap ((BitVec.ofInt 64 n &&& BitVec.ofInt 64 1).toNat : Nat) = n % 2
 rw [key, IntKind.wrap_i64]
 omega
theorem and1023 (n : Int) : bits .and .i64 n 1023 = n % 1024 := by
 have h : (BitVec.ofInt 64 1023).toNat = 2 ^ 10 - 1 := by decide
 have key : (BitVec.ofInt 64 n &&& BitVec.ofInt 64 1023).toNat = (n % ((2 ^ 64 : Nat) : Int)).toNat % 2 ^ 10 := by
   rw [BitVec.toNat_and, BitVec.toNat_ofInt, h, Nat.and_two_pow_sub_one_eq_mod]
 show IntKind.i64.wrap ((BitVec.ofInt 64 n &&& BitVec.ofInt 64 1023).toNat : Nat) = n % 1024
 rw [key, IntKind.wrap_i64]
 omega
end Go.Proofs.YtepplhbajmlbpaaGreat

namespace Go.Proofs.YtepplhbajmlbpaaGreat.Gr3
open Go.RowKit
def growB (l : List Oper) (T H late : List Nat) (listed : Array Bool) : Bool :=
 decide (listed.size = l.length) && (List.range l.length).all (fun i => atL l i (plainB i) && (T.contains i || H.contains i || late.contains i) && ((listed.getD i true) == T.contains i)) &&
 T.all (fun i => atL l i (fun o => o.after.all (fun e => !Region.binds .any e || T.contains e.on))) &&
 H.all (fun i => !T.contains i && !late.contains i && atL l i (fun o => H.all (fun j => atL l j (pairB o i j)))) &&
 late.all (fun i => !T.contains i) && lateB l H [] late
structure GrowS (l : List Oper) (T H late : List Nat) : Prop where
 plain : ∀ i o, l[i]? = some o → o.guard = none ∧ notSelect o = true ∧ ∀ e ∈ o.after, Region.binds .any e = true → e.on < i
 cover : ∀ i o, l[i]? = some o → i ∈ T ∨ i ∈ H ∨ i ∈ late
 off : ∀ i, i ∈ H → i ∉ T ∧ i ∉ late
 offT : ∀ i, i ∈ late → i ∉ T
 dist : ∀ i j o oj, i ∈ H → j ∈ H → l[i]? = some o → l[j]? = some oj → j ≠ i → oj.dst ≠ o.dst
 dep : ∀ i j o oj t, i ∈ H → j ∈ H → l[i]? = some o → l[j]? = some oj → t ∈ tmpsOf o → oj.dst = some t → waitsFor o j = true
 lateS : lateB l H [] late = true
 inH : ∀ i, i ∈ H → ∃ o, l[i]? = some o
theorem growS {l : List Oper} {T H late : List Nat} {listed : Array Bool} (h : growB l T H late listed = true) : GrowS l T H late ∧ listed.size = l.length ∧ (∀ i, i < l.length → (listed.getD i true = true ↔ i ∈ T)) ∧ (∀ i o, i ∈ T → l[i]? = some o → ∀ e ∈ o.after, Region.binds .any e = true → e.on ∈ T) := by
 unfold growB at h
 simp only [Bool.and_eq_true, decide_eq_true_eq, List.all_eq_true, List.mem_range] at h
 obtain ⟨⟨⟨⟨⟨h0, h1⟩, h2⟩, h3⟩, h4⟩, h5⟩ := h
 refine ⟨⟨fun i o hi => ?_, fun i o hi => ?_, fun i hi => ?_, fun i hi => ?_, fun i j o oj hi hj ho hoj hne e => ?_, fun i j o oj t hi hj ho hoj ht hd => ?_, h5, fun i hi => ?_⟩, h0, fun i hi => ?_, fun i o hi ho e he hb => ?_⟩
 ·have := atL_spec hi (h1 i (lt_of_at hi)).1.1
  unfold plainB at this
  simp only [Bool.and_eq_true, Option.isNone_iff_eq_none] at this
  refine ⟨this.1.1, this.1.2, fun e he hb => ?_⟩
  have h6 := this.2
  rw [Array.all_eq_true'] at h6
  have := h6 e he
  simp [hb] at this
  exact this
 ·have := (h1 i (lt_of_at hi)).1.2
  simp at this
  rcases this with (h | h) | h
  ·exact .inl h
  ·exact .inr (.inl h)
  ·exact .inr (.inr h)
 ·have := (h3 i hi).1
  simp at this
  exact this
 ·have := h4 i hi
  simpa using this
 ·have h6 := atL_spec ho (h3 i hi).2
  simp only [List.all_eq_true] at h6
  have h7 := atL_spec hoj (h6 j hj)
  unfold pairB at h7
  simp [hne, e] at h7
 ·have h6 := atL_spec ho (h3 i hi).2
  simp only [List.all_eq_true] at h6
  have h7 := atL_spec hoj (h6 j hj)
  unfold pairB at h7
  simp only [Bool.and_eq_true, Bool.or_eq_true, Bool.not_eq_true'] at h7
  rcases h7.2 with h8 | h8
  ·exfalso
   rw [← Bool.not_eq_true, List.any_eq_true] at h8
   exact h8 ⟨t, ht, by simp [hd]⟩
  ·exact h8
 ·exact atL_some (h3 i hi).2
 ·have := (h1 i hi).2
  simp only [beq_iff_eq] at this
  rw [this]
  simp
 ·have h6 := atL_spec ho (h2 i hi)
  rw [Array.all_eq_true'] at h6
  have := h6 e he
  simpa [hb] using this
structure GrowI (l : List Oper) (T H late : List Nat) (a0 : Act) (A : (Nat → Value) → Nat → World → Prop) (Rel : World → World → Prop) (w0 : World) (listed : Array Bool) (vs : Nat → Value) (a : Act) (w : World) : Prop where
 ls : listed.size = l.length
 shut : Shut l listed
 t : ∀ i o, l[i]? = some o → i ∈ T → listed.getD i false = true
 lt : ∀ i o, l[i]? = some o → i ∈ late → listed.getD i true = false
 rel : Rel w0 w
 df : a.defers = a0.defers
 sz : a.tmps.size = a0.tmps.size
 at' : ∀ i o t, i ∈ H → l[i]? = some o → o.dst = some t → listed.getD i false = true → t < a0.tmps.size → a.tmps[t]? = some (vs i)
 off : ∀ t, (∀ i o, i ∈ H → l[i]? = some o → listed.getD i false = true → o.dst ≠ some t) → a.tmps[t]? = a0.tmps[t]?
 fact : ∀ i, i ∈ H → listed.getD i false = true → A vs i w
theorem GrowI.look {l : List Oper} {T H late : List Nat} {a0 : Act} {A : (Nat → Value) → Nat → World → Prop} {Rel : World → World → Prop} {w0 w : World} {listed : Array Bool} {vs : Nat → Value} {a : Act} (I : GrowI l T H late a0 A Rel w0 listed vs a w) (g : GrowS l T H late)
   (t : Tmp) (hl : ∀ j oj, j ∈ H → l[j]? = some oj → oj.dst = some t → listed.getD j false = true) : a.tmps[t]? = (putH l H a0 vs).tmps[t]? := by
 by_cases hd : ∃ j oj, j ∈ H ∧ l[j]? = some oj ∧ oj.dst = some t
 ·obtain ⟨j, oj, hj, hoj, hdj⟩ := hd
  rcases Nat.lt_or_ge t a0.tmps.size with ht | ht
  ·rw [I.at' _ oj t hj hoj hdj (hl j oj hj hoj hdj) ht]
   rw [putH_at l H a0 vs t j hj (by rw [hoj]; exact hdj) (fun k hk hne hdk => by
     obtain ⟨ok, hok⟩ := g.inH k hk
     rw [hok] at hdk
     exact g.dist j k oj ok hj hk hoj hok hne (by rw [hdj]; exact hdk)) ht]
  ·rw [Array.getElem?_eq_none (by rw [I.sz]; exact ht), Array.getElem?_eq_none (by rw [putH_size]; exact ht)]
 ·rw [I.off t (fun j oj hj hoj _ e => hd ⟨j, oj, hj, hoj, e⟩), putH_off]
  intro j hj e
  obtain ⟨oj, hoj⟩ := g.inH j hj
  rw [hoj] at e
  exact hd ⟨j, oj, hj, hoj, e⟩
theorem GrowI.eval {l : List Oper} {T H late : List Nat} {a0 : Act} {A : (Nat → Value) → Nat → World → Prop} {Rel : World → World → Prop} {w0 w : World} {listed : Array Bool} {vs : Nat → Value} {a : Act} (I : GrowI l T H late a0 A Rel w0 listed vs a w) (g : GrowS l T H late)
   {i : Nat} {o : Oper} (hi : i ∈ H) (ho : l[i]? = some o) (hr : ∀ e ∈ o.after, Region.binds .any e = true → listed.getD e.on false = true) : ∀ x ∈ o.op.operands, a.eval x = (putH l H a0 vs).eval x := by
 intro x hx
 cases x with
 | tmp t =>
   have hmem : t ∈ tmpsOf o := List.mem_filterMap.2 ⟨.tmp t, by simpa using hx, rfl⟩
   have h := I.look g t (fun j oj hj hoj hdj => by
     obtain ⟨e, he, hb, rfl⟩ := waitsFor_spec (g.dep i j o oj t hi hj ho hoj hmem hdj)
     exact hr e he hb)
   simp [Act.eval, h]
 | _ => rfl
theorem GrowI.frame {l : List Oper} {T H late : List Nat} {a0 : Act} {A : (Nat → Value) → Nat → World → Prop} {Rel : World → World → Prop} {w0 w : World} {listed : Array Bool} {vs : Nat → Value} {a : Act} (I : GrowI l T H late a0 A Rel w0 listed vs a w) (g : GrowS l T H late)
   (hall : ∀ j, j ∈ H → listed.getD j false = true) : a = putH l H a0 vs := by
 have h : a.tmps = (putH l H a0 vs).tmps := Array.ext_getElem? fun t => I.look g t (fun j _ hj _ _ => hall j hj)
 have h2 : a.defers = (putH l H a0 vs).defers := by rw [putH_defers]; exact I.df
 cases a
 cases hp : putH l H a0 vs
 rw [hp] at h h2
 simp only at h h2
 subst h h2
 rfl
theorem GrowI.next {l : List Oper} {T H late : List Nat} {a0 : Act} {A : (Nat → Value) → Nat → World → Prop} {Rel : World → World → Prop} {w0 w w' : World} {listed : Array Bool} {vs : Nat → Value} {a : Act} (I : GrowI l T H late a0 A Rel w0 listed vs a w) (g : GrowS l T H late)
   (ht : ∀ x y z, Rel x y → Rel y z → Rel x z) (hA : ∀ vs i x y, i ∈ H → Rel w0 x → A vs i x → Rel x y → A vs i y) (hC : ∀ vs vs' i o x, i ∈ H → l[i]? = some o → (∀ k, k = i ∨ (need l.length l i).contains k = true → vs k = vs' k) → A vs i x → A vs' i x) {i : Nat} {o : Oper} {v : Value} (hi : i ∈ H) (ho : l[i]? = some o) (hun : listed.getD i true = false) (hr : ∀ e ∈ o.after, Region.binds .any e = true → listed.getD e.on false = true) (hrel : Rel w w') (hv : A (fun j => if j = i then v else vs j) i w') :
   GrowI l T H late a0 A Rel w0 (listed.setIfInBounds i true) (fun j => if j = i then v else vs j) (a.put o.dst v) w' := by
 have hil : i < listed.size := by rw [I.ls]; exact lt_of_at ho
 have up : ∀ j, listed.getD j false = true → (listed.setIfInBounds i true).getD j false = true := fun j h => by
   by_cases e : j = i
   ·subst e; exact getD_set_same _ hil
   ·rw [getD_set_other _ e]; exact h
 have dn : ∀ j, (listed.setIfInBounds i true).getD j false = true → j = i ∨ (j ≠ i ∧ listed.getD j false = true) := fun j h => by
   by_cases e : j = i
   ·exact .inl e
   ·rw [getD_set_other _ e] at h; exact .inr ⟨e, h⟩
 refine ⟨by simpa using I.ls, fun j oj hoj hl e he hb => ?_, fun j oj hoj hj => up _ (I.t j oj hoj hj), fun j oj hoj hj => ?_, ht _ _ _ I.rel hrel, by rw [put_defers]; exact I.df, by rw [put_size]; exact I.sz, fun j oj t hj hoj hd hl hlt => ?_, fun t hno => ?_, fun j hj hl => ?_⟩
 ·rcases dn j hl with rfl | ⟨_, hl'⟩
  ·rw [ho] at hoj
   cases hoj
   exact up _ (hr e he hb)
  ·exact up _ (I.shut j oj hoj hl' e he hb)
 ·have hji : j ≠ i := fun e => by subst e; exact (g.off j hi).2 hj
  rw [getD_set_other _ hji]
  exact I.lt j oj hoj hj
 ·rcases dn j hl with rfl | ⟨hne, hl'⟩
  ·rw [ho] at hoj
   cases hoj
   rw [hd, put_same _ _ (by rw [I.sz]; exact hlt)]
   simp
  ·rw [put_other _ _ _ (fun e => g.dist i j o oj hi hj ho hoj hne (by rw [hd, e])), I.at' j oj t hj hoj hd hl' hlt]
   simp [hne]
 ·have hdi : o.dst ≠ some t := hno i o hi ho (getD_set_same _ hil)
  rw [put_other _ _ _ hdi]
  exact I.off t fun j oj hj hoj hl => hno j oj hj hoj (up j hl)
 ·rcases dn j hl with rfl | ⟨hne, hl'⟩
  ·exact hv
  ·obtain ⟨oj, hoj⟩ := g.inH j hj
   refine hC vs _ j oj w' hj hoj (fun k hk => ?_) (hA vs j _ _ hj I.rel (I.fact j hj hl') hrel)
   have hki : k ≠ i := by
     rcases hk with rfl | hk
     ·exact hne
     ·rintro rfl
      exact getD_both (need_listed I.shut _ j (fun ok hok => I.shut j ok hok hl') k (by simpa using hk)) hun
   simp [hki]
theorem wpAny_growI {P : Program} {l : List Oper} {T H late : List Nat} {Q : Exit → Act → World → Prop} {a0 : Act} {w0 : World} (g : GrowS l T H late) (hne : late ≠ [])
   (Rel : World → World → Prop) (ht : ∀ x y z, Rel x y → Rel y z → Rel x z) (A : (Nat → Value) → Nat → World → Prop) (hA : ∀ vs i x y, i ∈ H → Rel w0 x → A vs i x → Rel x y → A vs i y) (hC : ∀ vs vs' i o x, i ∈ H → l[i]? = some o → (∀ k, k = i ∨ (need l.length l i).contains k = true → vs k = vs' k) → A vs i x → A vs' i x)
   (steps : ∀ i o, i ∈ H → l[i]? = some o → ∀ vs w, Rel w0 w → (∀ j, j ∈ H → (need l.length l i).contains j = true → A vs j w) → gives P (putH l H a0 vs).eval o w (fun v w' => Rel w w' ∧ A (fun j => if j = i then v else vs j) i w'))
   (rest : ∀ vs w, Rel w0 w → (∀ j, j ∈ H → A vs j w) → wpSeq P l Q late (putH l H a0 vs) w) :
   ∀ (fuel : Nat) (U : List Nat) (listed : Array Bool) (vs : Nat → Value) (a : Act) (w : World), (∀ i o, l[i]? = some o → i ∉ late → listed.getD i true = false → i ∈ U) → U.length + late.length ≤ fuel → GrowI l T H late a0 A Rel w0 listed vs a w → wpAny P .any l.toArray Q fuel listed a w := by
 intro fuel
 have lfst : ∃ i0, i0 ∈ late := by cases late with | nil => exact absurd rfl hne | cons x _ => exact ⟨x, List.mem_cons_self⟩
 obtain ⟨i0, hi0⟩ := lfst
 have hi0l : ∃ o, l[i0]? = some o := ⟨_, List.getElem?_eq_getElem (lateB_lt _ _ _ g.lateS hi0)⟩
 obtain ⟨o0, ho0⟩ := hi0l
 induction fuel with
 | zero =>
   intro U listed vs a w _ hlen _
   cases late with
   | nil => exact absurd rfl hne
   | cons _ _ => simp at hlen
 | succ fuel ih =>
   intro U listed vs a w hU hlen I
   by_cases hall : ∀ j, j ∈ H → listed.getD j false = true
   ·-- all of H have come up
    rw [I.frame g hall]
    refine wpAny_late g.plain late [] (fuel + 1) listed _ w g.lateS I.ls I.shut (fun i hi => ?_) (fun i o hi hf => ?_) (by omega) (rest vs w I.rel (fun j hj => I.fact j hj (hall j hj)))
    ·exact I.lt i _ (List.getElem?_eq_getElem (lateB_lt _ _ _ g.lateS hi)) hi
    ·rcases g.cover i o hi with h | h | h
     ·exact (getD_both (I.t i o hi h) hf).elim
     ·exact (getD_both (hall i h) hf).elim
     ·exact h
   ·refine ⟨fun hr => absurd hr (ready_some (fun i o hi => (g.plain i o hi).2.2) I.ls (I.lt i0 o0 ho0 hi0)), fun i hi => ?_⟩
    obtain ⟨h1, o, ho, hr⟩ := mem_ready.1 hi
    have hol : l[i]? = some o := by simpa using ho
    obtain ⟨hg, hs, _⟩ := g.plain i o hol
    rcases g.cover i o hol with hT | hH | hL
    ·exact (getD_both (I.t i o hol hT) h1).elim
    ·have hUi := hU i o hol (g.off i hH).2 h1
     unfold wpOp
     simp only [ho]
     rw [if_pos (by unfold Region.wanted; rw [hg])]
     left
     have hst := steps i o hH hol vs w I.rel (fun j hj hw => I.fact j hj (need_listed I.shut _ i (fun oi hoi e he hb => by rw [hol] at hoi; cases hoi; exact hr e he hb) j (by simpa using hw)))
     unfold gives at hst
     rw [← execOp_congr o (notSelect_spec hs) (I.eval g hH hol hr)] at hst
     refine gives_wp (K := fun v w' => Rel w w' ∧ A (fun j => if j = i then v else vs j) i w') hst fun v w' ⟨hrel, hv⟩ => ?_
     have hil : i < listed.size := by rw [I.ls]; exact lt_of_at hol
     refine ih (U.erase i) _ (fun j => if j = i then v else vs j) _ _ (fun j oj hoj hj hf => ?_) ?_ (I.next g ht hA hC hH hol h1 hr hrel hv)
     ·have hne : j ≠ i := fun e => by
        subst e
        rw [getD_set_same _ hil] at hf
        cases hf
      rw [getD_set_other _ hne] at hf
      exact (List.mem_erase_of_ne hne).2 (hU j oj hoj hj hf)
     ·rw [List.length_erase_of_mem hUi]
      have := List.length_pos_of_mem hUi
      omega
    ·exfalso
     refine hall fun j hj => ?_
     exact need_listed I.shut _ i (fun oi hoi e he hb => by rw [hol] at hoi; cases hoi; exact hr e he hb) j (lateB_need _ _ _ g.lateS hL j hj)
theorem wpAny_grow {P : Program} {l : List Oper} {Q : Exit → Act → World → Prop} {a0 : Act} {w0 : World} {listed : Array Bool} {fuel : Nat} (T H late : List Nat) (hne : late ≠ []) (hB : growB l T H late listed = true)
   (Rel : World → World → Prop) (hr : Rel w0 w0) (ht : ∀ x y z, Rel x y → Rel y z → Rel x z) (A : (Nat → Value) → Nat → World → Prop) (hA : ∀ vs i x y, i ∈ H → Rel w0 x → A vs i x → Rel x y → A vs i y) (hC : ∀ vs vs' i o x, i ∈ H → l[i]? = some o → (∀ k, k = i ∨ (need l.length l i).contains k = true → vs k = vs' k) → A vs i x → A vs' i x)
   (hlen : H.length + late.length ≤ fuel)
   (steps : ∀ i o, i ∈ H → l[i]? = some o → ∀ vs w, Rel w0 w → (∀ j, j ∈ H → (need l.length l i).contains j = true → A vs j w) → gives P (putH l H a0 vs).eval o w (fun v w' => Rel w w' ∧ A (fun j => if j = i then v else vs j) i w'))
   (rest : ∀ vs w, Rel w0 w → (∀ j, j ∈ H → A vs j w) → wpSeq P l Q late (putH l H a0 vs) w) : wpAny P .any l.toArray Q fuel listed a0 w0 := by
 obtain ⟨g, hls, hT, hTs⟩ := growS hB
 have hlT : ∀ i o, l[i]? = some o → listed.getD i false = true → i ∈ T := fun i o ho h => by
   have hi := lt_of_at ho
   refine (hT i hi).1 ?_
   have := getD_size h
   simp [Array.getD, this] at h ⊢
   exact h
 have hTl : ∀ i, i < l.length → i ∈ T → listed.getD i false = true := fun i hi h => by
   have := (hT i hi).2 h
   have hsz : i < listed.size := by omega
   simp [Array.getD, hsz] at this ⊢
   exact this
 refine wpAny_growI g hne Rel ht A hA hC steps rest fuel H listed (fun _ => undef) a0 w0 (fun i o ho hl hf => ?_) hlen ⟨hls, fun i o ho hl e he hb => ?_, fun i o ho h => hTl i (lt_of_at ho) h, fun i o ho h => ?_, hr, rfl, rfl, fun i o t hi ho _ hl _ => ?_, fun _ _ => rfl, fun i hi hl => ?_⟩
 ·rcases g.cover i o ho with h | h | h
  ·exact (getD_both (hTl i (lt_of_at ho) h) hf).elim
  ·exact h
  ·exact absurd h hl
 ·have h1 := hTs i o (hlT i o ho hl) ho e he hb
  have h2 := (g.plain i o ho).2.2 e he hb
  exact hTl _ (by have := lt_of_at ho; omega) h1
 ·have hi := lt_of_at ho
  have hnT := g.offT i h
  cases hx : listed.getD i true with
  | false => rfl
  | true => exact absurd ((hT i hi).1 hx) hnT
 ·exact absurd (hlT i o ho hl) (g.off i hi).1
 ·obtain ⟨o, ho⟩ := g.inH i hi
  exact absurd (hlT i o ho hl) (g.off i hi).1
theorem gives_skip {P : Program} {ρ : Operand → Value} {o : Oper} {w w' : World} {K : Value → World → Prop} (h : (execOp ρ o).run P w = .ok .skip w') (hk : K undef w') : gives P ρ o w K := by
 unfold gives; rw [h]; exact hk
end Go.Proofs.YtepplhbajmlbpaaGreat.Gr3
namespace Go.Proofs.YtepplhbajmlbpaaGreat
open Go.RowKit
structure LeX (B : Nat) (x y : World) : Prop where
 os : y.os = x.os
 tape : y.tape = x.tape
 output : y.output = x.output
 size : x.heap.size ≤ y.heap.size
 block : ∀ k, k < x.heap.size → y.heap[k]? = x.heap[k]? ∨ (B ≤ k ∧ (∃ cs, Box x k cs 29) ∧ ∃ c a b d e, Box y k (cells9 c a b d e) 29)
theorem LeX.of {B : Nat} {x y : World} (h : Le x y) : LeX B x y := ⟨h.os, h.tape, h.output, h.size, fun k hk => .inl (h.block k hk)⟩
theorem LeX.trans {B : Nat} {x y z : World} (h : LeX B x y) (j : LeX B y z) : LeX B x z := by
 refine ⟨j.os.trans h.os, j.tape.trans h.tape, j.output.trans h.output, Nat.le_trans h.size j.size, fun k hk => ?_⟩
 have hk2 := Nat.lt_of_lt_of_le hk h.size
 rcases h.block k hk with e | ⟨hb, hx, c, a, b, d, f, hy⟩
 ·rcases j.block k hk2 with e2 | ⟨hb, ⟨cs, hy⟩, hz⟩
  ·exact .inl (e2.trans e)
  ·exact .inr ⟨hb, ⟨cs, by unfold Box at hy ⊢; rw [← e]; exact hy⟩, hz⟩
 ·rcases j.block k hk2 with e2 | ⟨_, _, hz⟩
  ·exact .inr ⟨hb, hx, c, a, b, d, f, by unfold Box at hy ⊢; rw [e2]; exact hy⟩
  ·exact .inr ⟨hb, hx, hz⟩
theorem LeX.le {B : Nat} {w0 x y : World} (h : LeX B x y) (l : Le w0 x) (hB : w0.heap.size ≤ B) : Le w0 y := by
 refine ⟨h.os.trans l.os, h.tape.trans l.tape, h.output.trans l.output, Nat.le_trans l.size h.size, fun k hk => ?_⟩
 rcases h.block k (Nat.lt_of_lt_of_le hk l.size) with e | ⟨hb, _⟩
 ·exact e.trans (l.block k hk)
 ·omega
theorem LeX.heap {B : Nat} {x y : World} (h : LeX B x y) {g : Nat} {cs : Array Value} {t : TypeId} {o : Nat × Nat} (hb : x.heap[g]? = some (.cells cs t o)) (ht : t ≠ 29) : y.heap[g]? = some (.cells cs t o) := by
 rcases h.block g (block_lt hb) with e | ⟨_, ⟨cs', hx⟩, _⟩
 ·rw [e]; exact hb
 ·unfold Box at hx
  rw [hb] at hx
  simp at hx
  exact absurd hx.2.1 ht
theorem LeX.box {B : Nat} {x y : World} (h : LeX B x y) {g : Nat} {cs : Array Value} {t : TypeId} (hb : Box x g cs t) (ht : t ≠ 29) : Box y g cs t := h.heap hb ht
theorem LeX.row {B : Nat} {x y : World} (k : LeX B x y) {base kk n : Nat} {t : TypeId} {v : Value} {us : List Value} (h : x.ownsRow base t kk v n us) (ht : t ≠ 29) : y.ownsRow base t kk v n us := by
 obtain ⟨h1, h2⟩ := h
 refine ⟨h1, ?_⟩
 rcases h2 with h2 | ⟨g, cap, cur, hv, hg, hh, r⟩
 ·exact .inl h2
 ·exact .inr ⟨g, cap, cur, hv, hg, k.heap hh ht, r⟩
theorem LeX.ownM {B : Nat} {x y : World} (k : LeX B x y) {base : Nat} {v : Value} {M : Mc} (h : OwnM x base v M) : OwnM y base v M := by
 obtain ⟨L, hv, hm, o⟩ := h
 exact ⟨L, hv, hm, ⟨k.row o.oR (by decide), k.row o.oP (by decide), k.row o.oT (by decide), k.row o.oH (by decide), fun y hy => k.row (o.iR y hy) (by decide), fun y hy => ⟨fun i hi => k.row ((o.iP y hy).1 i hi) (by decide), k.row (o.iP y hy).2.1 (by decide), k.row (o.iP y hy).2.2 (by decide)⟩, fun y hy => ⟨k.row (o.iT y hy).1 (by decide), k.row (o.iT y hy).2 (by decide)⟩⟩⟩
theorem LeX.var {B : Nat} {x y : World} (h : LeX B x y) {g : Nat} {c : Cfg} {a b d e : Sl} (hb : Box x g (cells9 c a b d e) 29) : ∃ c a b d e, Box y g (cells9 c a b d e) 29 := by
 rcases h.block g hb.lt with e' | ⟨_, _, hy⟩
 ·exact ⟨c, a, b, d, e, by unfold Box at hb ⊢; rw [e']; exact hb⟩
 ·exact hy
theorem LeX.store {B : Nat} {x : World} {g : Nat} {c : Cfg} {a b d e : Sl} (hg : B ≤ g) (hb : Box x g (cells9 c a b d e) 29) (c' : Cfg) (a' b' d' e' : Sl) : LeX B x (put9 x g c' a' b' d' e') := by
 have ho : ∀ (w : World) (i : Nat) (u : Value), (w.setCell ⟨g, i, none⟩ u).os = w.os := fun _ _ _ => rfl
 have ht : ∀ (w : World) (i : Nat) (u : Value), (w.setCell ⟨g, i, none⟩ u).tape = w.tape := fun _ _ _ => rfl
 have hp : ∀ (w : World) (i : Nat) (u : Value), (w.setCell ⟨g, i, none⟩ u).output = w.output := fun _ _ _ => rfl
 have hz : ∀ (w : World) (i : Nat) (u : Value), (w.setCell ⟨g, i, none⟩ u).heap.size = w.heap.size := fun w i u => by simp
 refine ⟨(ho _ 8 _).trans ((ho _ 7 _).trans ((ho _ 6 _).trans ((ho _ 5 _).trans ((ho _ 4 _).trans ((ho _ 3 _).trans ((ho _ 2 _).trans ((ho _ 1 _).trans (ho _ 0 _)))))))), (ht _ 8 _).trans ((ht _ 7 _).trans ((ht _ 6 _).trans ((ht _ 5 _).trans ((ht _ 4 _).trans ((ht _ 3 _).trans ((ht _ 2 _).trans ((ht _ 1 _).trans (ht _ 0 _)))))))), (hp _ 8 _).trans ((hp _ 7 _).trans ((hp _ 6 _).trans ((hp _ 5 _).trans ((hp _ 4 _).trans ((hp _ 3 _).trans ((hp _ 2 _).trans ((hp _ 1 _).trans (hp _ 0 _)))))))), Nat.le_of_eq ((hz _ 8 _).trans ((hz _ 7 _).trans ((hz _ 6 _).trans ((hz _ 5 _).trans ((hz _ 4 _).trans ((hz _ 3 _).trans ((hz _ 2 _).trans ((hz _ 1 _).trans (hz _ 0 _))))))))).symm, fun k hk => ?_⟩
 by_cases e : k = g
 ·subst e
  exact .inr ⟨hg, ⟨_, hb⟩, c', a', b', d', e', hb.put9 rfl c' a' b' d' e'⟩
 ·refine .inl ?_
  have hs : ∀ (w : World) (i : Nat) (u : Value), (w.setCell ⟨g, i, none⟩ u).heap[k]? = w.heap[k]? := fun w i u => Below.heap_setCell w ⟨g, i, none⟩ u k e
  exact (hs _ 8 _).trans ((hs _ 7 _).trans ((hs _ 6 _).trans ((hs _ 5 _).trans ((hs _ 4 _).trans ((hs _ 3 _).trans ((hs _ 2 _).trans ((hs _ 1 _).trans (hs _ 0 _))))))))
end Go.Proofs.YtepplhbajmlbpaaGreat

namespace Go.Proofs.YtepplhbajmlbpaaGreat
open Go.RowKit
theorem published18L (w : World) : Calls Tryz.prog 19 #[] w fun e w' => ∃ L : Lay, e = .returned L.v ∧ L.M = pbM ∧ OwnsM w' w.heap.size L ∧ ApartM L ∧ Le w w' := by
 refine (published18 w).mono ?_
 rintro e w' ⟨qR, qP, qT, qH, rfl, ⟨L, hv, hm, ho, ha⟩, l⟩
 exact ⟨L, by rw [hv], hm, ho, ha, l⟩
theorem OwnA.ownM0 {w : World} {base : Nat} {v : Value} {M : Mc} (h : OwnA w base v M) : OwnM w 0 v M := by
 obtain ⟨L, hv, hm, ho, _⟩ := h
 exact (show OwnM w base v M from ⟨L, hv, hm.symm, ho⟩).base (Nat.zero_le _)
theorem pub_no {r g : Int} (h : r < 0 ∨ 2 ≤ r ∨ g < 0 ∨ 2 ≤ g) : oneM pbM r g = (Mc.zero, false, 1800) := by
 have hr : pbM.c.r = 2 := by decide +kernel
 have hg : pbM.c.l = 2 := by decide +kernel
 have e : thereB pbM r g 0 = false := by
   unfold thereB
   rw [hr, hg]
   rcases h with h | h | h | h
   ·rw [inB_off (a := 0) (x := r) (.inl h)]; simp
   ·rw [inB_off (a := 0) (x := r) (.inr (by omega))]; simp
   ·rw [inB_off (a := 0) (x := g) (.inl h)]; simp
   ·rw [inB_off (a := 0) (x := g) (.inr (by omega))]; simp
 unfold oneM
 rw [e]
 rfl
theorem pub_one : oneM pbM 0 1 = (pbM, false, 0) := by decide +kernel
theorem pub_bad {d : Int} (h : 1 ≤ d) : oneM (stepM pbM 1 (-d)) 0 0 = (Mc.zero, false, 1800) := by
 have e : thereB (stepM pbM 1 (-d)) 0 0 0 = false := by
   cases hm : mayM (stepM pbM 1 (-d))
   ·unfold thereB; rw [hm]; rfl
   ·exfalso
    have ht := th_may hm 1
    have e2 : ((stepM pbM 1 (-d)).th 1).st = -d := by
      unfold stepM
      have := th_put pbM 1 { pbM.th 1 with st := -d } 1
      rw [if_pos ⟨by decide, by decide +kernel⟩] at this
      have e3 : ((1 : Nat) : Int) = 1 := rfl
      rw [e3] at this
      rw [this]
    unfold thB at ht
    rw [e2] at ht
    simp only [Bool.and_eq_true] at ht
    have := (inB_cases ht.1).1
    omega
 unfold oneM
 rw [e]
 rfl
theorem pub_bad_fit (d : Int) : FitM (stepM pbM 1 (-d)) := pb_fit.putT 1 (pb_fit.th 1)
theorem neg_run (d : Int) (h : -1024 ≤ d ∧ d ≤ 1024) : IntKind.i64.wrap (-d) = -d := by
 simp [IntKind.wrap, IntKind.bits, IntKind.signed]; omega
theorem add_run (k d : Int) (h0 : -8 ≤ k ∧ k ≤ 8) (h : -1024 ≤ d ∧ d ≤ 1024) : IntKind.i64.wrap (k + d) = k + d := by
 simp [IntKind.wrap, IntKind.bits, IntKind.signed]; omega
def TwoAt (x : World) (v : Value) (a b : Int) : Prop := ∃ g : Nat, v = .slice (some ⟨g, 0, none⟩) 2 2 ∧ Box x g #[.int .i64 a, .int .i64 b] 3
theorem TwoAt.lx {B : Nat} {x y : World} {v : Value} {a b : Int} (h : TwoAt x v a b) (l : LeX B x y) : TwoAt y v a b := by
 obtain ⟨g, hv, h0⟩ := h; exact ⟨g, hv, l.box h0 (by decide)⟩
def PtAt (x : World) (v : Value) (i : Nat) (a b : Int) : Prop := ∃ g : Nat, v = .pointer (some ⟨g, i, none⟩) ∧ Box x g #[.int .i64 a, .int .i64 b] 3
theorem PtAt.lx {B : Nat} {x y : World} {v : Value} {i : Nat} {a b : Int} (h : PtAt x v i a b) (l : LeX B x y) : PtAt y v i a b := by
 obtain ⟨g, hv, h0⟩ := h; exact ⟨g, hv, l.box h0 (by decide)⟩
def BegAt (x : World) (v : Value) : Prop := ∃ qR qP qT qH, v = machV begC qR qP qT qH ∧ OwnM x 0 v pbM
theorem BegAt.lx {B : Nat} {x y : World} {v : Value} (h : BegAt x v) (l : LeX B x y) : BegAt y v := by
 obtain ⟨qR, qP, qT, qH, hv, h⟩ := h; exact ⟨qR, qP, qT, qH, hv, l.ownM h⟩
def ErrAt (v : Value) : Prop := ∃ qR qP qT qH, v = .tuple #[machV Mc.zero.c qR qP qT qH, .bool false, .int .i64 1800]
def MchAt (v : Value) : Prop := ∃ qR qP qT qH, v = machV Mc.zero.c qR qP qT qH
def VarAt (B : Nat) (x : World) (v : Value) : Prop := ∃ g : Nat, v = .pointer (some ⟨g, 0, none⟩) ∧ B ≤ g ∧ ∃ c a b d e, Box x g (cells9 c a b d e) 29
theorem VarAt.lx {B : Nat} {x y : World} {v : Value} (h : VarAt B x v) (l : LeX B x y) : VarAt B y v := by
 obtain ⟨g, hv, hg, c, a, b, d, e, hb⟩ := h; exact ⟨g, hv, hg, l.var hb⟩
set_option maxRecDepth 8000 in
set_option maxHeartbeats 16000000 in
theorem ryForms0 (w : World) (a0 a1 : Int) (hq : bits .and .i64 a0 1 = 0) : Calls Tryz.prog 6 #[.int .i64 a0, .int .i64 a1] w fun e w' => e = .returned (.bool true) ∧ Le w w' := by
 obtain ⟨m, hm, m0, m1⟩ : ∃ m, bits .and .i64 a1 1023 = m ∧ 0 ≤ m ∧ m ≤ 1023 := ⟨_, and1023 a1, by omega, by omega⟩
 obtain ⟨d, hd⟩ : ∃ d, 1 + m = d := ⟨_, rfl⟩
 obtain ⟨d0, d1⟩ : 1 ≤ d ∧ d ≤ 1024 := by omega
 have t1 := fun v w' (h : HasM w' v (stepM pbM 1 (-d))) => replayOneAs (pub_bad d0) v w' h (pub_bad_fit d)
 have hl := Le.refl w
 go_enter Tryz.func6, Tryz.ntmps6
 go_wp2_with fail
 refine (lawAwake18 _).mono ?_
 rintro e w0 ⟨rfl, l0⟩
 replace hl := hl.trans l0
 clear l0
 go_wp2_with fail
 refine (published18L _).mono ?_
 rintro e w1 ⟨L, rfl, HM, o1, ap, l1⟩
 have hbo := Box.new w1 (cells9 L.c L.qR L.qP L.qT L.qH) 29
 have a1' := Le.alloc w1 (.cells (cells9 L.c L.qR L.qP L.qT L.qH) 29)
 go_upto_region 5 with fail
 generalize hW1 : w1.alloc (.cells (cells9 L.c L.qR L.qP L.qT L.qH) 29) = W1 at hbo a1' ⊢
 clear hW1
 have I : MoI w0.heap.size w1.heap.size W1 L := ⟨hbo, l1.size, o1.le a1', ap⟩
 have hsw := hl.size
 generalize w1.heap.size = go at hbo I ⊢
 replace hl := (hl.trans l1).trans a1'
 clear hbo o1 ap l1 a1'
 obtain ⟨c', uR, uP, uT, uH, xR, xP, xT, xH⟩ := L
 try simp only at I ⊢
 have hiT : 1 < xT.length := by have := lay_ts HM; simp only at this; rw [this]; decide +kernel
 have hiT' : (1 : Int) < (xT.length : Int) := by omega
 obtain ⟨gT, capT, hqT, hcapT, hgBT, hgltT, hgneT, hatT, hfzT⟩ := I.openT hiT
 try simp only at hqT hatT hcapT
 subst hqT
 obtain ⟨x0, hx0'⟩ : ∃ x0, x0 = xT.getD 1 thK.d := ⟨_, rfl⟩
 have HX0 : Hid (x0.T = pbM.th 1) := by rw [hx0']; exact lay_th HM hiT
 rw [Nat.one_mul] at hatT
 obtain ⟨c0, _, _, _, _, _, _, _, _, _, _, _⟩ := hatT
 rw [← hx0'] at c0
 have f0 := hfzT 12
 have I2 : MoI w0.heap.size go (W1.setCell ⟨gT, 12, none⟩ (.int .i64 (-d))) _ := I.setTx (j := 0) (u := .int .i64 (-d)) rfl hiT (by decide) x0 hx0'.symm { x0.T with st := -d } rfl rfl rfl
 have l2 := hl.set (g := gT) (i := 12) (u := .int .i64 (-d)) (by omega)
 clear hfzT hx0'
 obtain ⟨⟨y0, y1, y2, y3, y4⟩, y5, y6, y7, y8⟩ := (I.bo).mach
 simp only [slV] at y7
 go_upto_region 6 with fail
 clear y0 y1 y2 y3 y4 y5 y6 y7 y8
 clear hm
 generalize hW2 : W1.setCell ⟨gT, 12, none⟩ (.int .i64 (-d)) = W2 at I2 l2 ⊢
 clear hW2 I hl c0 f0
 have hM2 := I2.has
 rw [lay_setT HM] at hM2
 simp only [HX0.out] at hM2
 have hM3 : HasM W2 (machV c' uR uP (some ⟨gT, 0, none⟩, xT.length, capT) uH) (stepM pbM 1 (-d)) := hM2
 clear hM2
 obtain ⟨⟨y0, y1, y2, y3, y4⟩, y5, y6, y7, y8⟩ := (I2.bo).mach
 go_wp2_with fail
 refine (t1 _ _ hM3).mono ?_
 rintro e w2 ⟨aR, aP, aT, aH, rfl, _, l3⟩
 clear y0 y1 y2 y3 y4 y5 y6 y7 y8
 clear t1 hM3 I2 HX0 HM
 have hl := l2.trans l3
 clear l2 l3
 have hbA := Box.new w2 (cells9 Mc.zero.c aR aP aT aH) 29
 have a1 := Le.alloc w2 (.cells (cells9 Mc.zero.c aR aP aT aH) 29)
 go_upto_region 7 with fail
 generalize hW1 : w2.alloc (.cells (cells9 Mc.zero.c aR aP aT aH) 29) = V1 at hbA a1 ⊢
 clear hW1
 have hggA : w2.heap.size ≤ w2.heap.size := Nat.le_refl _
 generalize hgg : w2.heap.size = gA at hbA hggA ⊢
 have hsgA : w2.heap.size ≤ gA := by omega
 clear hgg hggA
 replace hl := hl.trans a1
 clear hbA a1
 refine wp_region_any (by kernel_rfl) ?_
 refine Gr3.wpAny_grow [] [0, 1, 2, 3, 4, 5, 6, 7, 8, 9, 10, 11, 12, 13, 14, 15, 16, 17] [18] (by decide) (by kernel_rfl) (LeX V1.heap.size) (LeX.of (Le.refl _)) (fun _ _ _ => LeX.trans)
   (fun vs i x => match i with
     | 0 => BegAt x (vs 0)
     | 1 => vs 1 = .int .i64 d
     | 2 => vs 2 = .int .i64 (-d)
     | 3 => vs 3 = .int .i64 d
     | 4 => vs 4 = .int .i64 (1 + d)
     | 5 => TwoAt x (vs 5) (-d) (1 + d)
     | 6 => vs 6 = .int .i64 a0
     | 7 => vs 7 = .int .i64 0
     | 8 => PtAt x (vs 8) 0 (-d) (1 + d)
     | 9 => vs 9 = .int .i64 (-d)
     | 10 => ErrAt (vs 10)
     | 11 => ErrAt (vs 11)
     | 12 => MchAt (vs 12)
     | 13 => vs 13 = .bool false
     | 14 => vs 14 = .int .i64 1800
     | 15 => VarAt V1.heap.size x (vs 15)
     | 16 => True
     | _ => True) ?_ ?_ (by decide) ?_ ?_
 ·intro vs i x y hi _ h hxy
  simp only [List.mem_cons, List.not_mem_nil, or_false] at hi
  rcases hi with rfl | rfl | rfl | rfl | rfl | rfl | rfl | rfl | rfl | rfl | rfl | rfl | rfl | rfl | rfl | rfl | rfl | rfl
  ·exact h.lx hxy
  ·exact h
  ·exact h
  ·exact h
  ·exact h
  ·exact h.lx hxy
  ·exact h
  ·exact h
  ·exact h.lx hxy
  ·exact h
  ·exact h
  ·exact h
  ·exact h
  ·exact h
  ·exact h
  ·exact h.lx hxy
  ·exact h
  ·exact h
 ·intro vs vs' i o x hi _ hk h
  have e := hk i (.inl rfl)
  simp only [List.mem_cons, List.not_mem_nil, or_false] at hi
  rcases hi with rfl | rfl | rfl | rfl | rfl | rfl | rfl | rfl | rfl | rfl | rfl | rfl | rfl | rfl | rfl | rfl | rfl | rfl
  all_goals
    simp only at h ⊢
    try (rw [← e]; exact h)
 ·intro i o hi ho vs x hx hd
  have hx0 : Le V1 x := hx.le (Le.drew V1) (Nat.le_refl _)
  simp only [List.mem_cons, List.not_mem_nil, or_false] at hi
  generalize hρ : (putH _ _ _ vs).eval = ρ
  rcases hi with rfl | rfl | rfl | rfl | rfl | rfl | rfl | rfl | rfl | rfl | rfl | rfl | rfl | rfl | rfl | rfl | rfl | rfl
  ·cases ho
   have rf : ρ (.func 19) = .func (.func 19) #[] #[] := by rw [← hρ]; kernel_rfl
   refine gives_call (f := 19) (args := #[]) (by simp [go_sem, rf]) ((published18 x).mono ?_)
   rintro e x2 ⟨uR, uP, uT, uH, rfl, o, l2⟩
   exact ⟨_, rfl, LeX.of (l2), uR, uP, uT, uH, rfl, o.ownM0⟩
  ·cases ho
   have r1 : ρ (.tmp 5) = .int .i64 d := by rw [← hρ]; kernel_rfl
   exact gives_value (w' := x) (v := .int .i64 d) (by simp [go_sem, r1]) ⟨LeX.of (Le.refl _), rfl⟩
  ·cases ho
   have r1 : ρ (.tmp 39) = vs 1 := by rw [← hρ]; kernel_rfl
   have d1 := hd 1 (by decide) (by kernel_rfl)
   simp only at d1
   rw [d1] at r1
   exact gives_value (w' := x) (v := .int .i64 (-d)) (by simp [go_sem, r1, neg_run d (by omega)]) ⟨LeX.of (Le.refl _), rfl⟩
  ·cases ho
   have r1 : ρ (.tmp 5) = .int .i64 d := by rw [← hρ]; kernel_rfl
   exact gives_value (w' := x) (v := .int .i64 d) (by simp [go_sem, r1]) ⟨LeX.of (Le.refl _), rfl⟩
  ·cases ho
   have r1 : ρ (.tmp 41) = vs 3 := by rw [← hρ]; kernel_rfl
   have d3 := hd 3 (by decide) (by kernel_rfl)
   simp only at d3
   rw [d3] at r1
   have rc : ρ (.const (.int .i64 1)) = .int .i64 1 := by rw [← hρ]; kernel_rfl
   exact gives_value (w' := x) (v := .int .i64 (1 + d)) (by simp [go_sem, r1, rc, add_run 1 d (by omega) (by omega)]) ⟨LeX.of (Le.refl _), rfl⟩
  ·cases ho
   have r1 : ρ (.tmp 40) = vs 2 := by rw [← hρ]; kernel_rfl
   have d2 := hd 2 (by decide) (by kernel_rfl)
   simp only at d2
   rw [d2] at r1
   have r2 : ρ (.tmp 42) = vs 4 := by rw [← hρ]; kernel_rfl
   have d4 := hd 4 (by decide) (by kernel_rfl)
   simp only at d4
   rw [d4] at r2
   exact gives_value (w' := x.alloc (.cells #[.int .i64 (-d), .int .i64 (1 + d)] 3)) (v := .slice (some ⟨x.heap.size, 0, none⟩) 2 2) (by simp [go_sem, r1, r2]) ⟨LeX.of (Le.alloc _ _), x.heap.size, rfl, Box.new _ _ _⟩
  ·cases ho
   have r1 : ρ (.tmp 0) = .int .i64 a0 := by rw [← hρ]; kernel_rfl
   exact gives_value (w' := x) (v := .int .i64 a0) (by simp [go_sem, r1]) ⟨LeX.of (Le.refl _), rfl⟩
  ·cases ho
   have r1 : ρ (.tmp 44) = vs 6 := by rw [← hρ]; kernel_rfl
   have d6 := hd 6 (by decide) (by kernel_rfl)
   simp only at d6
   rw [d6] at r1
   have rc : ρ (.const (.int .i64 1)) = .int .i64 1 := by rw [← hρ]; kernel_rfl
   exact gives_value (w' := x) (v := .int .i64 0) (by simp [go_sem, r1, rc, hq]) ⟨LeX.of (Le.refl _), rfl⟩
  ·cases ho
   have r1 : ρ (.tmp 43) = vs 5 := by rw [← hρ]; kernel_rfl
   have d5 := hd 5 (by decide) (by kernel_rfl)
   simp only at d5
   have r2 : ρ (.tmp 45) = vs 7 := by rw [← hρ]; kernel_rfl
   have d7 := hd 7 (by decide) (by kernel_rfl)
   simp only at d7
   rw [d7] at r2
   obtain ⟨g, e5, c0⟩ := d5
   rw [e5] at r1
   exact gives_value (w' := x) (v := .pointer (some ⟨g, 0, none⟩)) (by simp [go_sem, r1, r2]) ⟨LeX.of (Le.refl _), g, rfl, c0⟩
  ·cases ho
   have r1 : ρ (.tmp 46) = vs 8 := by rw [← hρ]; kernel_rfl
   have d8 := hd 8 (by decide) (by kernel_rfl)
   simp only at d8
   obtain ⟨g, e8, hb⟩ := d8
   rw [e8] at r1
   have c0 := hb.cell 0
   simp only [List.getElem?_toArray, List.getElem?_cons_zero] at c0
   exact gives_value (w' := x) (v := .int .i64 (-d)) (by simp [go_sem, r1, c0]) ⟨LeX.of (Le.refl _), rfl⟩
  ·cases ho
   have r1 : ρ (.tmp 38) = vs 0 := by rw [← hρ]; kernel_rfl
   have d0 := hd 0 (by decide) (by kernel_rfl)
   simp only at d0
   have r2 : ρ (.tmp 47) = vs 9 := by rw [← hρ]; kernel_rfl
   have d9 := hd 9 (by decide) (by kernel_rfl)
   simp only at d9
   rw [d9] at r2
   obtain ⟨qR, qP, qT, qH, e0, d0⟩ := d0
   rw [e0] at r1 d0
   have rf : ρ (.func 9) = .func (.func 9) #[] #[] := by rw [← hρ]; kernel_rfl
   have rc : ρ (.const (.int .i64 0)) = .int .i64 0 := by rw [← hρ]; kernel_rfl
   refine gives_call (f := 9) (args := #[machV begC qR qP qT qH, .int .i64 (-d), .int .i64 0]) (by simp [go_sem, rf, r1, r2, rc]) ((replayOneAs (pub_no (r := (-d)) (g := 0) (by omega)) _ x d0.has pb_fit).mono ?_)
   rintro e x2 ⟨uR, uP, uT, uH, rfl, _, l2⟩
   exact ⟨_, rfl, LeX.of l2, uR, uP, uT, uH, rfl⟩
  ·cases ho
   have r1 : ρ (.tmp 48) = vs 10 := by rw [← hρ]; kernel_rfl
   have d10 := hd 10 (by decide) (by kernel_rfl)
   simp only at d10
   obtain ⟨qR, qP, qT, qH, e0⟩ := d10
   rw [e0] at r1
   exact gives_value (w' := x) (v := .tuple #[machV Mc.zero.c qR qP qT qH, .bool false, .int .i64 1800]) (by simp [go_sem, r1]) ⟨LeX.of (Le.refl _), qR, qP, qT, qH, rfl⟩
  ·cases ho
   have r1 : ρ (.tmp 37) = vs 11 := by rw [← hρ]; kernel_rfl
   have d11 := hd 11 (by decide) (by kernel_rfl)
   simp only at d11
   obtain ⟨qR, qP, qT, qH, e0⟩ := d11
   rw [e0] at r1
   exact gives_value (w' := x) (v := machV Mc.zero.c qR qP qT qH) (by simp [go_sem, r1]) ⟨LeX.of (Le.refl _), qR, qP, qT, qH, rfl⟩
  ·cases ho
   have r1 : ρ (.tmp 37) = vs 11 := by rw [← hρ]; kernel_rfl
   have d11 := hd 11 (by decide) (by kernel_rfl)
   simp only at d11
   obtain ⟨qR, qP, qT, qH, e0⟩ := d11
   rw [e0] at r1
   exact gives_value (w' := x) (v := .bool false) (by simp [go_sem, r1]) ⟨LeX.of (Le.refl _), rfl⟩
  ·cases ho
   have r1 : ρ (.tmp 37) = vs 11 := by rw [← hρ]; kernel_rfl
   have d11 := hd 11 (by decide) (by kernel_rfl)
   simp only at d11
   obtain ⟨qR, qP, qT, qH, e0⟩ := d11
   rw [e0] at r1
   exact gives_value (w' := x) (v := .int .i64 1800) (by simp [go_sem, r1]) ⟨LeX.of (Le.refl _), rfl⟩
  ·cases ho
   exact gives_value (w' := x.alloc (.cells cellsZ9 29)) (v := .pointer (some ⟨x.heap.size, 0, none⟩)) (by simp [go_sem]) ⟨LeX.of (Le.alloc _ _), x.heap.size, rfl, hx0.size, Cfg.zero, slZ, slZ, slZ, slZ, Box.new _ _ _⟩
  ·cases ho
   have r2 : ρ (.tmp 49) = vs 12 := by rw [← hρ]; kernel_rfl
   have d12 := hd 12 (by decide) (by kernel_rfl)
   simp only at d12
   have r1 : ρ (.tmp 10) = vs 15 := by rw [← hρ]; kernel_rfl
   have d15 := hd 15 (by decide) (by kernel_rfl)
   simp only at d15
   obtain ⟨mR, mP, mT, mH, e12⟩ := d12
   obtain ⟨g, e15, hg, c, a, b, f, e, hb⟩ := d15
   rw [e12] at r2
   rw [e15] at r1
   have c0 := hb.cell 0
   have c1 := hb.cell 1
   have c2 := hb.cell 2
   have c3 := hb.cell 3
   have c4 := hb.cell 4
   have c5 := hb.cell 5
   have c6 := hb.cell 6
   have c7 := hb.cell 7
   have c8 := hb.cell 8
   simp only [List.getElem?_toArray, List.getElem?_cons_succ, List.getElem?_cons_zero] at c0 c1 c2 c3 c4 c5 c6 c7 c8
   have k0 := hb.frozen 0
   have k1 := hb.frozen 1
   have k2 := hb.frozen 2
   have k3 := hb.frozen 3
   have k4 := hb.frozen 4
   have k5 := hb.frozen 5
   have k6 := hb.frozen 6
   have k7 := hb.frozen 7
   have k8 := hb.frozen 8
   refine Gr3.gives_skip (w' := put9 x g Mc.zero.c mR mP mT mH) ?_ ⟨LeX.store hg hb _ _ _ _ _, trivial⟩
   simp [go_sem, r1, r2, c0, c1, c2, c3, c4, c5, c6, c7, c8, k0, k1, k2, k3, k4, k5, k6, k7, k8, put9]
  ·cases ho
   have r1 : ρ (.tmp 50) = vs 13 := by rw [← hρ]; kernel_rfl
   have d13 := hd 13 (by decide) (by kernel_rfl)
   simp only at d13
   rw [d13] at r1
   exact gives_value (w' := x) (v := .bool false) (by simp [go_sem, r1]) ⟨LeX.of (Le.refl _), trivial⟩
 ·intro vs1 X1 hx hd
  have hx0 : Le V1 X1 := hx.le (Le.drew V1) (Nat.le_refl _)
  have e13 := hd 14 (by decide)
  simp only at e13
  clear hd
  generalize hf0 : putH _ _ _ vs1 = fr0
  refine wpSeq_cons rfl ?_
  refine wp_value_at (v0 := .int .i64 1800) (w0 := X1) ?_ ?_
  ·generalize hρ : fr0.eval = ρ
   have r1 : ρ (.tmp 51) = vs1 14 := by rw [← hρ, ← hf0]; kernel_rfl
   rw [e13] at r1
   simp [go_sem, r1]
  ·subst hf0
   simp only [wpSeq, putH, List.getElem?_cons_succ, List.getElem?_cons_zero, Option.bind_some, Act.put, List.setIfInBounds_toArray, List.set_cons_zero, List.set_cons_succ]
   have hlp : Le V1 X1 := hx0
   clear e13 hx hx0
   replace hl := hl.trans hlp
   clear hlp
   go_upto_region 8 with fail
   refine wp_region_any (by kernel_rfl) ?_
   refine Gr3.wpAny_grow [] [0, 1, 2, 3, 4, 5, 6, 7, 8, 9, 10, 11, 12, 13, 14, 15, 16, 17] [18] (by decide) (by kernel_rfl) (LeX X1.heap.size) (LeX.of (Le.refl _)) (fun _ _ _ => LeX.trans)
     (fun vs i x => match i with
       | 0 => BegAt x (vs 0)
       | 1 => vs 1 = .int .i64 d
       | 2 => vs 2 = .int .i64 (-d)
       | 3 => vs 3 = .int .i64 d
       | 4 => vs 4 = .int .i64 (1 + d)
       | 5 => TwoAt x (vs 5) (-d) (1 + d)
       | 6 => vs 6 = .int .i64 a0
       | 7 => vs 7 = .int .i64 0
       | 8 => PtAt x (vs 8) 0 (-d) (1 + d)
       | 9 => vs 9 = .int .i64 (-d)
       | 10 => ErrAt (vs 10)
       | 11 => ErrAt (vs 11)
       | 12 => MchAt (vs 12)
       | 13 => vs 13 = .bool false
       | 14 => vs 14 = .int .i64 1800
       | 15 => VarAt X1.heap.size x (vs 15)
       | 16 => True
       | _ => True) ?_ ?_ (by decide) ?_ ?_
   ·intro vs i x y hi _ h hxy
    simp only [List.mem_cons, List.not_mem_nil, or_false] at hi
    rcases hi with rfl | rfl | rfl | rfl | rfl | rfl | rfl | rfl | rfl | rfl | rfl | rfl | rfl | rfl | rfl | rfl | rfl | rfl
    ·exact h.lx hxy
    ·exact h
    ·exact h
    ·exact h
    ·exact h
    ·exact h.lx hxy
    ·exact h
    ·exact h
    ·exact h.lx hxy
    ·exact h
    ·exact h
    ·exact h
    ·exact h
    ·exact h
    ·exact h
    ·exact h.lx hxy
    ·exact h
    ·exact h
   ·intro vs vs' i o x hi _ hk h
    have e := hk i (.inl rfl)
    simp only [List.mem_cons, List.not_mem_nil, or_false] at hi
    rcases hi with rfl | rfl | rfl | rfl | rfl | rfl | rfl | rfl | rfl | rfl | rfl | rfl | rfl | rfl | rfl | rfl | rfl | rfl
    all_goals
      simp only at h ⊢
      try (rw [← e]; exact h)
   ·intro i o hi ho vs x hx hd
    have hx0 : Le X1 x := hx.le (Le.drew X1) (Nat.le_refl _)
    simp only [List.mem_cons, List.not_mem_nil, or_false] at hi
    generalize hρ : (putH _ _ _ vs).eval = ρ
    rcases hi with rfl | rfl | rfl | rfl | rfl | rfl | rfl | rfl | rfl | rfl | rfl | rfl | rfl | rfl | rfl | rfl | rfl | rfl
    ·cases ho
     have rf : ρ (.func 19) = .func (.func 19) #[] #[] := by rw [← hρ]; kernel_rfl
     refine gives_call (f := 19) (args := #[]) (by simp [go_sem, rf]) ((published18 x).mono ?_)
     rintro e x2 ⟨uR, uP, uT, uH, rfl, o, l2⟩
     exact ⟨_, rfl, LeX.of (l2), uR, uP, uT, uH, rfl, o.ownM0⟩
    ·cases ho
     have r1 : ρ (.tmp 5) = .int .i64 d := by rw [← hρ]; kernel_rfl
     exact gives_value (w' := x) (v := .int .i64 d) (by simp [go_sem, r1]) ⟨LeX.of (Le.refl _), rfl⟩
    ·cases ho
     have r1 : ρ (.tmp 54) = vs 1 := by rw [← hρ]; kernel_rfl
     have d1 := hd 1 (by decide) (by kernel_rfl)
     simp only at d1
     rw [d1] at r1
     exact gives_value (w' := x) (v := .int .i64 (-d)) (by simp [go_sem, r1, neg_run d (by omega)]) ⟨LeX.of (Le.refl _), rfl⟩
    ·cases ho
     have r1 : ρ (.tmp 5) = .int .i64 d := by rw [← hρ]; kernel_rfl
     exact gives_value (w' := x) (v := .int .i64 d) (by simp [go_sem, r1]) ⟨LeX.of (Le.refl _), rfl⟩
    ·cases ho
     have r1 : ρ (.tmp 56) = vs 3 := by rw [← hρ]; kernel_rfl
     have d3 := hd 3 (by decide) (by kernel_rfl)
     simp only at d3
     rw [d3] at r1
     have rc : ρ (.const (.int .i64 1)) = .int .i64 1 := by rw [← hρ]; kernel_rfl
     exact gives_value (w' := x) (v := .int .i64 (1 + d)) (by simp [go_sem, r1, rc, add_run 1 d (by omega) (by omega)]) ⟨LeX.of (Le.refl _), rfl⟩
    ·cases ho
     have r1 : ρ (.tmp 55) = vs 2 := by rw [← hρ]; kernel_rfl
     have d2 := hd 2 (by decide) (by kernel_rfl)
     simp only at d2
     rw [d2] at r1
     have r2 : ρ (.tmp 57) = vs 4 := by rw [← hρ]; kernel_rfl
     have d4 := hd 4 (by decide) (by kernel_rfl)
     simp only at d4
     rw [d4] at r2
     exact gives_value (w' := x.alloc (.cells #[.int .i64 (-d), .int .i64 (1 + d)] 3)) (v := .slice (some ⟨x.heap.size, 0, none⟩) 2 2) (by simp [go_sem, r1, r2]) ⟨LeX.of (Le.alloc _ _), x.heap.size, rfl, Box.new _ _ _⟩
    ·cases ho
     have r1 : ρ (.tmp 0) = .int .i64 a0 := by rw [← hρ]; kernel_rfl
     exact gives_value (w' := x) (v := .int .i64 a0) (by simp [go_sem, r1]) ⟨LeX.of (Le.refl _), rfl⟩
    ·cases ho
     have r1 : ρ (.tmp 59) = vs 6 := by rw [← hρ]; kernel_rfl
     have d6 := hd 6 (by decide) (by kernel_rfl)
     simp only at d6
     rw [d6] at r1
     have rc : ρ (.const (.int .i64 1)) = .int .i64 1 := by rw [← hρ]; kernel_rfl
     exact gives_value (w' := x) (v := .int .i64 0) (by simp [go_sem, r1, rc, hq]) ⟨LeX.of (Le.refl _), rfl⟩
    ·cases ho
     have r1 : ρ (.tmp 58) = vs 5 := by rw [← hρ]; kernel_rfl
     have d5 := hd 5 (by decide) (by kernel_rfl)
     simp only at d5
     have r2 : ρ (.tmp 60) = vs 7 := by rw [← hρ]; kernel_rfl
     have d7 := hd 7 (by decide) (by kernel_rfl)
     simp only at d7
     rw [d7] at r2
     obtain ⟨g, e5, c0⟩ := d5
     rw [e5] at r1
     exact gives_value (w' := x) (v := .pointer (some ⟨g, 0, none⟩)) (by simp [go_sem, r1, r2]) ⟨LeX.of (Le.refl _), g, rfl, c0⟩
    ·cases ho
     have r1 : ρ (.tmp 61) = vs 8 := by rw [← hρ]; kernel_rfl
     have d8 := hd 8 (by decide) (by kernel_rfl)
     simp only at d8
     obtain ⟨g, e8, hb⟩ := d8
     rw [e8] at r1
     have c0 := hb.cell 0
     simp only [List.getElem?_toArray, List.getElem?_cons_zero] at c0
     exact gives_value (w' := x) (v := .int .i64 (-d)) (by simp [go_sem, r1, c0]) ⟨LeX.of (Le.refl _), rfl⟩
    ·cases ho
     have r1 : ρ (.tmp 53) = vs 0 := by rw [← hρ]; kernel_rfl
     have d0 := hd 0 (by decide) (by kernel_rfl)
     simp only at d0
     have r2 : ρ (.tmp 62) = vs 9 := by rw [← hρ]; kernel_rfl
     have d9 := hd 9 (by decide) (by kernel_rfl)
     simp only at d9
     rw [d9] at r2
     obtain ⟨qR, qP, qT, qH, e0, d0⟩ := d0
     rw [e0] at r1 d0
     have rf : ρ (.func 9) = .func (.func 9) #[] #[] := by rw [← hρ]; kernel_rfl
     have rc : ρ (.const (.int .i64 0)) = .int .i64 0 := by rw [← hρ]; kernel_rfl
     refine gives_call (f := 9) (args := #[machV begC qR qP qT qH, .int .i64 0, .int .i64 (-d)]) (by simp [go_sem, rf, r1, r2, rc]) ((replayOneAs (pub_no (r := 0) (g := (-d)) (by omega)) _ x d0.has pb_fit).mono ?_)
     rintro e x2 ⟨uR, uP, uT, uH, rfl, _, l2⟩
     exact ⟨_, rfl, LeX.of l2, uR, uP, uT, uH, rfl⟩
    ·cases ho
     have r1 : ρ (.tmp 63) = vs 10 := by rw [← hρ]; kernel_rfl
     have d10 := hd 10 (by decide) (by kernel_rfl)
     simp only at d10
     obtain ⟨qR, qP, qT, qH, e0⟩ := d10
     rw [e0] at r1
     exact gives_value (w' := x) (v := .tuple #[machV Mc.zero.c qR qP qT qH, .bool false, .int .i64 1800]) (by simp [go_sem, r1]) ⟨LeX.of (Le.refl _), qR, qP, qT, qH, rfl⟩
    ·cases ho
     have r1 : ρ (.tmp 52) = vs 11 := by rw [← hρ]; kernel_rfl
     have d11 := hd 11 (by decide) (by kernel_rfl)
     simp only at d11
     obtain ⟨qR, qP, qT, qH, e0⟩ := d11
     rw [e0] at r1
     exact gives_value (w' := x) (v := machV Mc.zero.c qR qP qT qH) (by simp [go_sem, r1]) ⟨LeX.of (Le.refl _), qR, qP, qT, qH, rfl⟩
    ·cases ho
     have r1 : ρ (.tmp 52) = vs 11 := by rw [← hρ]; kernel_rfl
     have d11 := hd 11 (by decide) (by kernel_rfl)
     simp only at d11
     obtain ⟨qR, qP, qT, qH, e0⟩ := d11
     rw [e0] at r1
     exact gives_value (w' := x) (v := .bool false) (by simp [go_sem, r1]) ⟨LeX.of (Le.refl _), rfl⟩
    ·cases ho
     have r1 : ρ (.tmp 52) = vs 11 := by rw [← hρ]; kernel_rfl
     have d11 := hd 11 (by decide) (by kernel_rfl)
     simp only at d11
     obtain ⟨qR, qP, qT, qH, e0⟩ := d11
     rw [e0] at r1
     exact gives_value (w' := x) (v := .int .i64 1800) (by simp [go_sem, r1]) ⟨LeX.of (Le.refl _), rfl⟩
    ·cases ho
     exact gives_value (w' := x.alloc (.cells cellsZ9 29)) (v := .pointer (some ⟨x.heap.size, 0, none⟩)) (by simp [go_sem]) ⟨LeX.of (Le.alloc _ _), x.heap.size, rfl, hx0.size, Cfg.zero, slZ, slZ, slZ, slZ, Box.new _ _ _⟩
    ·cases ho
     have r2 : ρ (.tmp 64) = vs 12 := by rw [← hρ]; kernel_rfl
     have d12 := hd 12 (by decide) (by kernel_rfl)
     simp only at d12
     have r1 : ρ (.tmp 13) = vs 15 := by rw [← hρ]; kernel_rfl
     have d15 := hd 15 (by decide) (by kernel_rfl)
     simp only at d15
     obtain ⟨mR, mP, mT, mH, e12⟩ := d12
     obtain ⟨g, e15, hg, c, a, b, f, e, hb⟩ := d15
     rw [e12] at r2
     rw [e15] at r1
     have c0 := hb.cell 0
     have c1 := hb.cell 1
     have c2 := hb.cell 2
     have c3 := hb.cell 3
     have c4 := hb.cell 4
     have c5 := hb.cell 5
     have c6 := hb.cell 6
     have c7 := hb.cell 7
     have c8 := hb.cell 8
     simp only [List.getElem?_toArray, List.getElem?_cons_succ, List.getElem?_cons_zero] at c0 c1 c2 c3 c4 c5 c6 c7 c8
     have k0 := hb.frozen 0
     have k1 := hb.frozen 1
     have k2 := hb.frozen 2
     have k3 := hb.frozen 3
     have k4 := hb.frozen 4
     have k5 := hb.frozen 5
     have k6 := hb.frozen 6
     have k7 := hb.frozen 7
     have k8 := hb.frozen 8
     refine Gr3.gives_skip (w' := put9 x g Mc.zero.c mR mP mT mH) ?_ ⟨LeX.store hg hb _ _ _ _ _, trivial⟩
     simp [go_sem, r1, r2, c0, c1, c2, c3, c4, c5, c6, c7, c8, k0, k1, k2, k3, k4, k5, k6, k7, k8, put9]
    ·cases ho
     have r1 : ρ (.tmp 65) = vs 13 := by rw [← hρ]; kernel_rfl
     have d13 := hd 13 (by decide) (by kernel_rfl)
     simp only at d13
     rw [d13] at r1
     exact gives_value (w' := x) (v := .bool false) (by simp [go_sem, r1]) ⟨LeX.of (Le.refl _), trivial⟩
   ·intro vs2 X2 hx hd
    have hx0 : Le X1 X2 := hx.le (Le.drew X1) (Nat.le_refl _)
    have e13 := hd 14 (by decide)
    simp only at e13
    clear hd
    generalize hf0 : putH _ _ _ vs2 = fr0
    refine wpSeq_cons rfl ?_
    refine wp_value_at (v0 := .int .i64 1800) (w0 := X2) ?_ ?_
    ·generalize hρ : fr0.eval = ρ
     have r1 : ρ (.tmp 66) = vs2 14 := by rw [← hρ, ← hf0]; kernel_rfl
     rw [e13] at r1
     simp [go_sem, r1]
    ·subst hf0
     simp only [wpSeq, putH, List.getElem?_cons_succ, List.getElem?_cons_zero, Option.bind_some, Act.put, List.setIfInBounds_toArray, List.set_cons_zero, List.set_cons_succ]
     have hlp : Le X1 X2 := hx0
     clear e13 hx hx0
     replace hl := hl.trans hlp
     clear hlp
     go_wp2_with fail
     refine (published18 _).mono ?_
     rintro e w5 ⟨pR, pP, pT, pH, rfl, o5, l5⟩
     replace hl := hl.trans l5
     clear l5
     go_wp2_with fail
     refine (replayOneAs pub_one _ _ o5.has pb_fit).mono ?_
     rintro e w6 ⟨nR, nP, nT, nH, rfl, o6, l6⟩
     replace hl := hl.trans l6
     clear l6 o5
     rw [pb_c] at o6 ⊢
     have hbN := Box.new w6 (cells9 begC nR nP nT nH) 29
     have a1 := Le.alloc w6 (.cells (cells9 begC nR nP nT nH) 29)
     go_upto_region 10 with fail
     generalize hW1 : w6.alloc (.cells (cells9 begC nR nP nT nH) 29) = V6 at hbN a1 ⊢
     clear hW1
     have hggN : w6.heap.size ≤ w6.heap.size := Nat.le_refl _
     generalize hgg : w6.heap.size = gN at hbN hggN ⊢
     have hsgN : w6.heap.size ≤ gN := by omega
     clear hgg hggN
     replace hl := hl.trans a1
     have hN := (o6.le a1).has
     clear a1 o6
     obtain ⟨⟨y0, y1, y2, y3, y4⟩, y5, y6, y7, y8⟩ := (hbN).mach
     go_region_held3 (fun w' => w'.cell? ⟨gN, 0, none⟩ = some (.int .i64 begC.o) ∧ w'.cell? ⟨gN, 1, none⟩ = some (.int .i64 begC.r) ∧ w'.cell? ⟨gN, 2, none⟩ = some (.int .i64 begC.l) ∧ w'.cell? ⟨gN, 3, none⟩ = some (.int .i64 begC.t) ∧ w'.cell? ⟨gN, 4, none⟩ = some (.int .i64 begC.s) ∧ w'.cell? ⟨gN, 5, none⟩ = some (slV nR) ∧ w'.cell? ⟨gN, 6, none⟩ = some (slV nP) ∧ w'.cell? ⟨gN, 7, none⟩ = some (slV nT) ∧ w'.cell? ⟨gN, 8, none⟩ = some (slV nH)) (go_keep) (first
       | (go_at_call 12; refine (lawNum _ _).mono ?_; rintro e _ ⟨rfl, rfl⟩)
       | (go_at_call 19; refine (published18 _).mono ?_; rintro e w9 ⟨pR, pP, pT, pH, rfl, o9, l9⟩; have l9' := (Le.drew V6).trans l9; have hs2 := lawSameMachine _ _ pbM pbM w9 (hN.le l9') o9.has pb_fit; simp only [decide_true] at hs2; obtain ⟨⟨y0, y1, y2, y3, y4⟩, y5, y6, y7, y8⟩ := (hbN.le l9').mach)
       | (go_at_call 11; with_reducible refine Calls.mono hs2 ?_; rintro e w10 ⟨rfl, l10⟩; have l10' := l9'.trans l10; obtain ⟨⟨y0, y1, y2, y3, y4⟩, y5, y6, y7, y8⟩ := (hbN.le l10').mach))
     go_wp2_with fail
     go_ret
     exact ⟨rfl, hl.trans l10'⟩
set_option maxRecDepth 8000 in
set_option maxHeartbeats 16000000 in
theorem ryForms1 (w : World) (a0 a1 : Int) (hq : bits .and .i64 a0 1 = 1) : Calls Tryz.prog 6 #[.int .i64 a0, .int .i64 a1] w fun e w' => e = .returned (.bool true) ∧ Le w w' := by
 obtain ⟨m, hm, m0, m1⟩ : ∃ m, bits .and .i64 a1 1023 = m ∧ 0 ≤ m ∧ m ≤ 1023 := ⟨_, and1023 a1, by omega, by omega⟩
 obtain ⟨d, hd⟩ : ∃ d, 1 + m = d := ⟨_, rfl⟩
 obtain ⟨d0, d1⟩ : 1 ≤ d ∧ d ≤ 1024 := by omega
 have t1 := fun v w' (h : HasM w' v (stepM pbM 1 (-d))) => replayOneAs (pub_bad d0) v w' h (pub_bad_fit d)
 have hl := Le.refl w
 go_enter Tryz.func6, Tryz.ntmps6
 go_wp2_with fail
 refine (lawAwake18 _).mono ?_
 rintro e w0 ⟨rfl, l0⟩
 replace hl := hl.trans l0
 clear l0
 go_wp2_with fail
 refine (published18L _).mono ?_
 rintro e w1 ⟨L, rfl, HM, o1, ap, l1⟩
 have hbo := Box.new w1 (cells9 L.c L.qR L.qP L.qT L.qH) 29
 have a1' := Le.alloc w1 (.cells (cells9 L.c L.qR L.qP L.qT L.qH) 29)
 go_upto_region 5 with fail
 generalize hW1 : w1.alloc (.cells (cells9 L.c L.qR L.qP L.qT L.qH) 29) = W1 at hbo a1' ⊢
 clear hW1
 have I : MoI w0.heap.size w1.heap.size W1 L := ⟨hbo, l1.size, o1.le a1', ap⟩
 have hsw := hl.size
 generalize w1.heap.size = go at hbo I ⊢
 replace hl := (hl.trans l1).trans a1'
 clear hbo o1 ap l1 a1'
 obtain ⟨c', uR, uP, uT, uH, xR, xP, xT, xH⟩ := L
 try simp only at I ⊢
 have hiT : 1 < xT.length := by have := lay_ts HM; simp only at this; rw [this]; decide +kernel
 have hiT' : (1 : Int) < (xT.length : Int) := by omega
 obtain ⟨gT, capT, hqT, hcapT, hgBT, hgltT, hgneT, hatT, hfzT⟩ := I.openT hiT
 try simp only at hqT hatT hcapT
 subst hqT
 obtain ⟨x0, hx0'⟩ : ∃ x0, x0 = xT.getD 1 thK.d := ⟨_, rfl⟩
 have HX0 : Hid (x0.T = pbM.th 1) := by rw [hx0']; exact lay_th HM hiT
 rw [Nat.one_mul] at hatT
 obtain ⟨c0, _, _, _, _, _, _, _, _, _, _, _⟩ := hatT
 rw [← hx0'] at c0
 have f0 := hfzT 12
 have I2 : MoI w0.heap.size go (W1.setCell ⟨gT, 12, none⟩ (.int .i64 (-d))) _ := I.setTx (j := 0) (u := .int .i64 (-d)) rfl hiT (by decide) x0 hx0'.symm { x0.T with st := -d } rfl rfl rfl
 have l2 := hl.set (g := gT) (i := 12) (u := .int .i64 (-d)) (by omega)
 clear hfzT hx0'
 obtain ⟨⟨y0, y1, y2, y3, y4⟩, y5, y6, y7, y8⟩ := (I.bo).mach
 simp only [slV] at y7
 go_upto_region 6 with fail
 clear y0 y1 y2 y3 y4 y5 y6 y7 y8
 clear hm
 generalize hW2 : W1.setCell ⟨gT, 12, none⟩ (.int .i64 (-d)) = W2 at I2 l2 ⊢
 clear hW2 I hl c0 f0
 have hM2 := I2.has
 rw [lay_setT HM] at hM2
 simp only [HX0.out] at hM2
 have hM3 : HasM W2 (machV c' uR uP (some ⟨gT, 0, none⟩, xT.length, capT) uH) (stepM pbM 1 (-d)) := hM2
 clear hM2
 obtain ⟨⟨y0, y1, y2, y3, y4⟩, y5, y6, y7, y8⟩ := (I2.bo).mach
 go_wp2_with fail
 refine (t1 _ _ hM3).mono ?_
 rintro e w2 ⟨aR, aP, aT, aH, rfl, _, l3⟩
 clear y0 y1 y2 y3 y4 y5 y6 y7 y8
 clear t1 hM3 I2 HX0 HM
 have hl := l2.trans l3
 clear l2 l3
 have hbA := Box.new w2 (cells9 Mc.zero.c aR aP aT aH) 29
 have a1 := Le.alloc w2 (.cells (cells9 Mc.zero.c aR aP aT aH) 29)
 go_upto_region 7 with fail
 generalize hW1 : w2.alloc (.cells (cells9 Mc.zero.c aR aP aT aH) 29) = V1 at hbA a1 ⊢
 clear hW1
 have hggA : w2.heap.size ≤ w2.heap.size := Nat.le_refl _
 generalize hgg : w2.heap.size = gA at hbA hggA ⊢
 have hsgA : w2.heap.size ≤ gA := by omega
 clear hgg hggA
 replace hl := hl.trans a1
 clear hbA a1
 refine wp_region_any (by kernel_rfl) ?_
 refine Gr3.wpAny_grow [] [0, 1, 2, 3, 4, 5, 6, 7, 8, 9, 10, 11, 12, 13, 14, 15, 16, 17] [18] (by decide) (by kernel_rfl) (LeX V1.heap.size) (LeX.of (Le.refl _)) (fun _ _ _ => LeX.trans)
   (fun vs i x => match i with
     | 0 => BegAt x (vs 0)
     | 1 => vs 1 = .int .i64 d
     | 2 => vs 2 = .int .i64 (-d)
     | 3 => vs 3 = .int .i64 d
     | 4 => vs 4 = .int .i64 (1 + d)
     | 5 => TwoAt x (vs 5) (-d) (1 + d)
     | 6 => vs 6 = .int .i64 a0
     | 7 => vs 7 = .int .i64 1
     | 8 => PtAt x (vs 8) 1 (-d) (1 + d)
     | 9 => vs 9 = .int .i64 (1 + d)
     | 10 => ErrAt (vs 10)
     | 11 => ErrAt (vs 11)
     | 12 => MchAt (vs 12)
     | 13 => vs 13 = .bool false
     | 14 => vs 14 = .int .i64 1800
     | 15 => VarAt V1.heap.size x (vs 15)
     | 16 => True
     | _ => True) ?_ ?_ (by decide) ?_ ?_
 ·intro vs i x y hi _ h hxy
  simp only [List.mem_cons, List.not_mem_nil, or_false] at hi
  rcases hi with rfl | rfl | rfl | rfl | rfl | rfl | rfl | rfl | rfl | rfl | rfl | rfl | rfl | rfl | rfl | rfl | rfl | rfl
  ·exact h.lx hxy
  ·exact h
  ·exact h
  ·exact h
  ·exact h
  ·exact h.lx hxy
  ·exact h
  ·exact h
  ·exact h.lx hxy
  ·exact h
  ·exact h
  ·exact h
  ·exact h
  ·exact h
  ·exact h
  ·exact h.lx hxy
  ·exact h
  ·exact h
 ·intro vs vs' i o x hi _ hk h
  have e := hk i (.inl rfl)
  simp only [List.mem_cons, List.not_mem_nil, or_false] at hi
  rcases hi with rfl | rfl | rfl | rfl | rfl | rfl | rfl | rfl | rfl | rfl | rfl | rfl | rfl | rfl | rfl | rfl | rfl | rfl
  all_goals
    simp only at h ⊢
    try (rw [← e]; exact h)
 ·intro i o hi ho vs x hx hd
  have hx0 : Le V1 x := hx.le (Le.drew V1) (Nat.le_refl _)
  simp only [List.mem_cons, List.not_mem_nil, or_false] at hi
  generalize hρ : (putH _ _ _ vs).eval = ρ
  rcases hi with rfl | rfl | rfl | rfl | rfl | rfl | rfl | rfl | rfl | rfl | rfl | rfl | rfl | rfl | rfl | rfl | rfl | rfl
  ·cases ho
   have rf : ρ (.func 19) = .func (.func 19) #[] #[] := by rw [← hρ]; kernel_rfl
   refine gives_call (f := 19) (args := #[]) (by simp [go_sem, rf]) ((published18 x).mono ?_)
   rintro e x2 ⟨uR, uP, uT, uH, rfl, o, l2⟩
   exact ⟨_, rfl, LeX.of (l2), uR, uP, uT, uH, rfl, o.ownM0⟩
  ·cases ho
   have r1 : ρ (.tmp 5) = .int .i64 d := by rw [← hρ]; kernel_rfl
   exact gives_value (w' := x) (v := .int .i64 d) (by simp [go_sem, r1]) ⟨LeX.of (Le.refl _), rfl⟩
  ·cases ho
   have r1 : ρ (.tmp 39) = vs 1 := by rw [← hρ]; kernel_rfl
   have d1 := hd 1 (by decide) (by kernel_rfl)
   simp only at d1
   rw [d1] at r1
   exact gives_value (w' := x) (v := .int .i64 (-d)) (by simp [go_sem, r1, neg_run d (by omega)]) ⟨LeX.of (Le.refl _), rfl⟩
  ·cases ho
   have r1 : ρ (.tmp 5) = .int .i64 d := by rw [← hρ]; kernel_rfl
   exact gives_value (w' := x) (v := .int .i64 d) (by simp [go_sem, r1]) ⟨LeX.of (Le.refl _), rfl⟩
  ·cases ho
   have r1 : ρ (.tmp 41) = vs 3 := by rw [← hρ]; kernel_rfl
   have d3 := hd 3 (by decide) (by kernel_rfl)
   simp only at d3
   rw [d3] at r1
   have rc : ρ (.const (.int .i64 1)) = .int .i64 1 := by rw [← hρ]; kernel_rfl
   exact gives_value (w' := x) (v := .int .i64 (1 + d)) (by simp [go_sem, r1, rc, add_run 1 d (by omega) (by omega)]) ⟨LeX.of (Le.refl _), rfl⟩
  ·cases ho
   have r1 : ρ (.tmp 40) = vs 2 := by rw [← hρ]; kernel_rfl
   have d2 := hd 2 (by decide) (by kernel_rfl)
   simp only at d2
   rw [d2] at r1
   have r2 : ρ (.tmp 42) = vs 4 := by rw [← hρ]; kernel_rfl
   have d4 := hd 4 (by decide) (by kernel_rfl)
   simp only at d4
   rw [d4] at r2
   exact gives_value (w' := x.alloc (.cells #[.int .i64 (-d), .int .i64 (1 + d)] 3)) (v := .slice (some ⟨x.heap.size, 0, none⟩) 2 2) (by simp [go_sem, r1, r2]) ⟨LeX.of (Le.alloc _ _), x.heap.size, rfl, Box.new _ _ _⟩
  ·cases ho
   have r1 : ρ (.tmp 0) = .int .i64 a0 := by rw [← hρ]; kernel_rfl
   exact gives_value (w' := x) (v := .int .i64 a0) (by simp [go_sem, r1]) ⟨LeX.of (Le.refl _), rfl⟩
  ·cases ho
   have r1 : ρ (.tmp 44) = vs 6 := by rw [← hρ]; kernel_rfl
   have d6 := hd 6 (by decide) (by kernel_rfl)
   simp only at d6
   rw [d6] at r1
   have rc : ρ (.const (.int .i64 1)) = .int .i64 1 := by rw [← hρ]; kernel_rfl
   exact gives_value (w' := x) (v := .int .i64 1) (by simp [go_sem, r1, rc, hq]) ⟨LeX.of (Le.refl _), rfl⟩
  ·cases ho
   have r1 : ρ (.tmp 43) = vs 5 := by rw [← hρ]; kernel_rfl
   have d5 := hd 5 (by decide) (by kernel_rfl)
   simp only at d5
   have r2 : ρ (.tmp 45) = vs 7 := by rw [← hρ]; kernel_rfl
   have d7 := hd 7 (by decide) (by kernel_rfl)
   simp only at d7
   rw [d7] at r2
   obtain ⟨g, e5, c0⟩ := d5
   rw [e5] at r1
   exact gives_value (w' := x) (v := .pointer (some ⟨g, 1, none⟩)) (by simp [go_sem, r1, r2]) ⟨LeX.of (Le.refl _), g, rfl, c0⟩
  ·cases ho
   have r1 : ρ (.tmp 46) = vs 8 := by rw [← hρ]; kernel_rfl
   have d8 := hd 8 (by decide) (by kernel_rfl)
   simp only at d8
   obtain ⟨g, e8, hb⟩ := d8
   rw [e8] at r1
   have c0 := hb.cell 1
   simp only [List.getElem?_toArray, List.getElem?_cons_succ, List.getElem?_cons_zero] at c0
   exact gives_value (w' := x) (v := .int .i64 (1 + d)) (by simp [go_sem, r1, c0]) ⟨LeX.of (Le.refl _), rfl⟩
  ·cases ho
   have r1 : ρ (.tmp 38) = vs 0 := by rw [← hρ]; kernel_rfl
   have d0 := hd 0 (by decide) (by kernel_rfl)
   simp only at d0
   have r2 : ρ (.tmp 47) = vs 9 := by rw [← hρ]; kernel_rfl
   have d9 := hd 9 (by decide) (by kernel_rfl)
   simp only at d9
   rw [d9] at r2
   obtain ⟨qR, qP, qT, qH, e0, d0⟩ := d0
   rw [e0] at r1 d0
   have rf : ρ (.func 9) = .func (.func 9) #[] #[] := by rw [← hρ]; kernel_rfl
   have rc : ρ (.const (.int .i64 0)) = .int .i64 0 := by rw [← hρ]; kernel_rfl
   refine gives_call (f := 9) (args := #[machV begC qR qP qT qH, .int .i64 (1 + d), .int .i64 0]) (by simp [go_sem, rf, r1, r2, rc]) ((replayOneAs (pub_no (r := (1 + d)) (g := 0) (by omega)) _ x d0.has pb_fit).mono ?_)
   rintro e x2 ⟨uR, uP, uT, uH, rfl, _, l2⟩
   exact ⟨_, rfl, LeX.of l2, uR, uP, uT, uH, rfl⟩
  ·cases ho
   have r1 : ρ (.tmp 48) = vs 10 := by rw [← hρ]; kernel_rfl
   have d10 := hd 10 (by decide) (by kernel_rfl)
   simp only at d10
   obtain ⟨qR, qP, qT, qH, e0⟩ := d10
   rw [e0] at r1
   exact gives_value (w' := x) (v := .tuple #[machV Mc.zero.c qR qP qT qH, .bool false, .int .i64 1800]) (by simp [go_sem, r1]) ⟨LeX.of (Le.refl _), qR, qP, qT, qH, rfl⟩
  ·cases ho
   have r1 : ρ (.tmp 37) = vs 11 := by rw [← hρ]; kernel_rfl
   have d11 := hd 11 (by decide) (by kernel_rfl)
   simp only at d11
   obtain ⟨qR, qP, qT, qH, e0⟩ := d11
   rw [e0] at r1
   exact gives_value (w' := x) (v := machV Mc.zero.c qR qP qT qH) (by simp [go_sem, r1]) ⟨LeX.of (Le.refl _), qR, qP, qT, qH, rfl⟩
  ·cases ho
   have r1 : ρ (.tmp 37) = vs 11 := by rw [← hρ]; kernel_rfl
   have d11 := hd 11 (by decide) (by kernel_rfl)
   simp only at d11
   obtain ⟨qR, qP, qT, qH, e0⟩ := d11
   rw [e0] at r1
   exact gives_value (w' := x) (v := .bool false) (by simp [go_sem, r1]) ⟨LeX.of (Le.refl _), rfl⟩
  ·cases ho
   have r1 : ρ (.tmp 37) = vs 11 := by rw [← hρ]; kernel_rfl
   have d11 := hd 11 (by decide) (by kernel_rfl)
   simp only at d11
   obtain ⟨qR, qP, qT, qH, e0⟩ := d11
   rw [e0] at r1
   exact gives_value (w' := x) (v := .int .i64 1800) (by simp [go_sem, r1]) ⟨LeX.of (Le.refl _), rfl⟩
  ·cases ho
   exact gives_value (w' := x.alloc (.cells cellsZ9 29)) (v := .pointer (some ⟨x.heap.size, 0, none⟩)) (by simp [go_sem]) ⟨LeX.of (Le.alloc _ _), x.heap.size, rfl, hx0.size, Cfg.zero, slZ, slZ, slZ, slZ, Box.new _ _ _⟩
  ·cases ho
   have r2 : ρ (.tmp 49) = vs 12 := by rw [← hρ]; kernel_rfl
   have d12 := hd 12 (by decide) (by kernel_rfl)
   simp only at d12
   have r1 : ρ (.tmp 10) = vs 15 := by rw [← hρ]; kernel_rfl
   have d15 := hd 15 (by decide) (by kernel_rfl)
   simp only at d15
   obtain ⟨mR, mP, mT, mH, e12⟩ := d12
   obtain ⟨g, e15, hg, c, a, b, f, e, hb⟩ := d15
   rw [e12] at r2
   rw [e15] at r1
   have c0 := hb.cell 0
   have c1 := hb.cell 1
   have c2 := hb.cell 2
   have c3 := hb.cell 3
   have c4 := hb.cell 4
   have c5 := hb.cell 5
   have c6 := hb.cell 6
   have c7 := hb.cell 7
   have c8 := hb.cell 8
   simp only [List.getElem?_toArray, List.getElem?_cons_succ, List.getElem?_cons_zero] at c0 c1 c2 c3 c4 c5 c6 c7 c8
   have k0 := hb.frozen 0
   have k1 := hb.frozen 1
   have k2 := hb.frozen 2
   have k3 := hb.frozen 3
   have k4 := hb.frozen 4
   have k5 := hb.frozen 5
   have k6 := hb.frozen 6
   have k7 := hb.frozen 7
   have k8 := hb.frozen 8
   refine Gr3.gives_skip (w' := put9 x g Mc.zero.c mR mP mT mH) ?_ ⟨LeX.store hg hb _ _ _ _ _, trivial⟩
   simp [go_sem, r1, r2, c0, c1, c2, c3, c4, c5, c6, c7, c8, k0, k1, k2, k3, k4, k5, k6, k7, k8, put9]
  ·cases ho
   have r1 : ρ (.tmp 50) = vs 13 := by rw [← hρ]; kernel_rfl
   have d13 := hd 13 (by decide) (by kernel_rfl)
   simp only at d13
   rw [d13] at r1
   exact gives_value (w' := x) (v := .bool false) (by simp [go_sem, r1]) ⟨LeX.of (Le.refl _), trivial⟩
 ·intro vs1 X1 hx hd
  have hx0 : Le V1 X1 := hx.le (Le.drew V1) (Nat.le_refl _)
  have e13 := hd 14 (by decide)
  simp only at e13
  clear hd
  generalize hf0 : putH _ _ _ vs1 = fr0
  refine wpSeq_cons rfl ?_
  refine wp_value_at (v0 := .int .i64 1800) (w0 := X1) ?_ ?_
  ·generalize hρ : fr0.eval = ρ
   have r1 : ρ (.tmp 51) = vs1 14 := by rw [← hρ, ← hf0]; kernel_rfl
   rw [e13] at r1
   simp [go_sem, r1]
  ·subst hf0
   simp only [wpSeq, putH, List.getElem?_cons_succ, List.getElem?_cons_zero, Option.bind_some, Act.put, List.setIfInBounds_toArray, List.set_cons_zero, List.set_cons_succ]
   have hlp : Le V1 X1 := hx0
   clear e13 hx hx0
   replace hl := hl.trans hlp
   clear hlp
   go_upto_region 8 with fail
   refine wp_region_any (by kernel_rfl) ?_
   refine Gr3.wpAny_grow [] [0, 1, 2, 3, 4, 5, 6, 7, 8, 9, 10, 11, 12, 13, 14, 15, 16, 17] [18] (by decide) (by kernel_rfl) (LeX X1.heap.size) (LeX.of (Le.refl _)) (fun _ _ _ => LeX.trans)
     (fun vs i x => match i with
       | 0 => BegAt x (vs 0)
       | 1 => vs 1 = .int .i64 d
       | 2 => vs 2 = .int .i64 (-d)
       | 3 => vs 3 = .int .i64 d
       | 4 => vs 4 = .int .i64 (1 + d)
       | 5 => TwoAt x (vs 5) (-d) (1 + d)
       | 6 => vs 6 = .int .i64 a0
       | 7 => vs 7 = .int .i64 1
       | 8 => PtAt x (vs 8) 1 (-d) (1 + d)
       | 9 => vs 9 = .int .i64 (1 + d)
       | 10 => ErrAt (vs 10)
       | 11 => ErrAt (vs 11)
       | 12 => MchAt (vs 12)
       | 13 => vs 13 = .bool false
       | 14 => vs 14 = .int .i64 1800
       | 15 => VarAt X1.heap.size x (vs 15)
       | 16 => True
       | _ => True) ?_ ?_ (by decide) ?_ ?_
   ·intro vs i x y hi _ h hxy
    simp only [List.mem_cons, List.not_mem_nil, or_false] at hi
    rcases hi with rfl | rfl | rfl | rfl | rfl | rfl | rfl | rfl | rfl | rfl | rfl | rfl | rfl | rfl | rfl | rfl | rfl | rfl
    ·exact h.lx hxy
    ·exact h
    ·exact h
    ·exact h
    ·exact h
    ·exact h.lx hxy
    ·exact h
    ·exact h
    ·exact h.lx hxy
    ·exact h
    ·exact h
    ·exact h
    ·exact h
    ·exact h
    ·exact h
    ·exact h.lx hxy
    ·exact h
    ·exact h
   ·intro vs vs' i o x hi _ hk h
    have e := hk i (.inl rfl)
    simp only [List.mem_cons, List.not_mem_nil, or_false] at hi
    rcases hi with rfl | rfl | rfl | rfl | rfl | rfl | rfl | rfl | rfl | rfl | rfl | rfl | rfl | rfl | rfl | rfl | rfl | rfl
    all_goals
      simp only at h ⊢
      try (rw [← e]; exact h)
   ·intro i o hi ho vs x hx hd
    have hx0 : Le X1 x := hx.le (Le.drew X1) (Nat.le_refl _)
    simp only [List.mem_cons, List.not_mem_nil, or_false] at hi
    generalize hρ : (putH _ _ _ vs).eval = ρ
    rcases hi with rfl | rfl | rfl | rfl | rfl | rfl | rfl | rfl | rfl | rfl | rfl | rfl | rfl | rfl | rfl | rfl | rfl | rfl
    ·cases ho
     have rf : ρ (.func 19) = .func (.func 19) #[] #[] := by rw [← hρ]; kernel_rfl
     refine gives_call (f := 19) (args := #[]) (by simp [go_sem, rf]) ((published18 x).mono ?_)
     rintro e x2 ⟨uR, uP, uT, uH, rfl, o, l2⟩
     exact ⟨_, rfl, LeX.of (l2), uR, uP, uT, uH, rfl, o.ownM0⟩
    ·cases ho
     have r1 : ρ (.tmp 5) = .int .i64 d := by rw [← hρ]; kernel_rfl
     exact gives_value (w' := x) (v := .int .i64 d) (by simp [go_sem, r1]) ⟨LeX.of (Le.refl _), rfl⟩
    ·cases ho
     have r1 : ρ (.tmp 54) = vs 1 := by rw [← hρ]; kernel_rfl
     have d1 := hd 1 (by decide) (by kernel_rfl)
     simp only at d1
     rw [d1] at r1
     exact gives_value (w' := x) (v := .int .i64 (-d)) (by simp [go_sem, r1, neg_run d (by omega)]) ⟨LeX.of (Le.refl _), rfl⟩
    ·cases ho
     have r1 : ρ (.tmp 5) = .int .i64 d := by rw [← hρ]; kernel_rfl
     exact gives_value (w' := x) (v := .int .i64 d) (by simp [go_sem, r1]) ⟨LeX.of (Le.refl _), rfl⟩
    ·cases ho
     have r1 : ρ (.tmp 56) = vs 3 := by rw [← hρ]; kernel_rfl
     have d3 := hd 3 (by decide) (by kernel_rfl)
     simp only at d3
     rw [d3] at r1
     have rc : ρ (.const (.int .i64 1)) = .int .i64 1 := by rw [← hρ]; kernel_rfl
     exact gives_value (w' := x) (v := .int .i64 (1 + d)) (by simp [go_sem, r1, rc, add_run 1 d (by omega) (by omega)]) ⟨LeX.of (Le.refl _), rfl⟩
    ·cases ho
     have r1 : ρ (.tmp 55) = vs 2 := by rw [← hρ]; kernel_rfl
     have d2 := hd 2 (by decide) (by kernel_rfl)
     simp only at d2
     rw [d2] at r1
     have r2 : ρ (.tmp 57) = vs 4 := by rw [← hρ]; kernel_rfl
     have d4 := hd 4 (by decide) (by kernel_rfl)
     simp only at d4
     rw [d4] at r2
     exact gives_value (w' := x.alloc (.cells #[.int .i64 (-d), .int .i64 (1 + d)] 3)) (v := .slice (some ⟨x.heap.size, 0, none⟩) 2 2) (by simp [go_sem, r1, r2]) ⟨LeX.of (Le.alloc _ _), x.heap.size, rfl, Box.new _ _ _⟩
    ·cases ho
     have r1 : ρ (.tmp 0) = .int .i64 a0 := by rw [← hρ]; kernel_rfl
     exact gives_value (w' := x) (v := .int .i64 a0) (by simp [go_sem, r1]) ⟨LeX.of (Le.refl _), rfl⟩
    ·cases ho
     have r1 : ρ (.tmp 59) = vs 6 := by rw [← hρ]; kernel_rfl
     have d6 := hd 6 (by decide) (by kernel_rfl)
     simp only at d6
     rw [d6] at r1
     have rc : ρ (.const (.int .i64 1)) = .int .i64 1 := by rw [← hρ]; kernel_rfl
     exact gives_value (w' := x) (v := .int .i64 1) (by simp [go_sem, r1, rc, hq]) ⟨LeX.of (Le.refl _), rfl⟩
    ·cases ho
     have r1 : ρ (.tmp 58) = vs 5 := by rw [← hρ]; kernel_rfl
     have d5 := hd 5 (by decide) (by kernel_rfl)
     simp only at d5
     have r2 : ρ (.tmp 60) = vs 7 := by rw [← hρ]; kernel_rfl
     have d7 := hd 7 (by decide) (by kernel_rfl)
     simp only at d7
     rw [d7] at r2
     obtain ⟨g, e5, c0⟩ := d5
     rw [e5] at r1
     exact gives_value (w' := x) (v := .pointer (some ⟨g, 1, none⟩)) (by simp [go_sem, r1, r2]) ⟨LeX.of (Le.refl _), g, rfl, c0⟩
    ·cases ho
     have r1 : ρ (.tmp 61) = vs 8 := by rw [← hρ]; kernel_rfl
     have d8 := hd 8 (by decide) (by kernel_rfl)
     simp only at d8
     obtain ⟨g, e8, hb⟩ := d8
     rw [e8] at r1
     have c0 := hb.cell 1
     simp only [List.getElem?_toArray, List.getElem?_cons_succ, List.getElem?_cons_zero] at c0
     exact gives_value (w' := x) (v := .int .i64 (1 + d)) (by simp [go_sem, r1, c0]) ⟨LeX.of (Le.refl _), rfl⟩
    ·cases ho
     have r1 : ρ (.tmp 53) = vs 0 := by rw [← hρ]; kernel_rfl
     have d0 := hd 0 (by decide) (by kernel_rfl)
     simp only at d0
     have r2 : ρ (.tmp 62) = vs 9 := by rw [← hρ]; kernel_rfl
     have d9 := hd 9 (by decide) (by kernel_rfl)
     simp only at d9
     rw [d9] at r2
     obtain ⟨qR, qP, qT, qH, e0, d0⟩ := d0
     rw [e0] at r1 d0
     have rf : ρ (.func 9) = .func (.func 9) #[] #[] := by rw [← hρ]; kernel_rfl
     have rc : ρ (.const (.int .i64 0)) = .int .i64 0 := by rw [← hρ]; kernel_rfl
     refine gives_call (f := 9) (args := #[machV begC qR qP qT qH, .int .i64 0, .int .i64 (1 + d)]) (by simp [go_sem, rf, r1, r2, rc]) ((replayOneAs (pub_no (r := 0) (g := (1 + d)) (by omega)) _ x d0.has pb_fit).mono ?_)
     rintro e x2 ⟨uR, uP, uT, uH, rfl, _, l2⟩
     exact ⟨_, rfl, LeX.of l2, uR, uP, uT, uH, rfl⟩
    ·cases ho
     have r1 : ρ (.tmp 63) = vs 10 := by rw [← hρ]; kernel_rfl
     have d10 := hd 10 (by decide) (by kernel_rfl)
     simp only at d10
     obtain ⟨qR, qP, qT, qH, e0⟩ := d10
     rw [e0] at r1
     exact gives_value (w' := x) (v := .tuple #[machV Mc.zero.c qR qP qT qH, .bool false, .int .i64 1800]) (by simp [go_sem, r1]) ⟨LeX.of (Le.refl _), qR, qP, qT, qH, rfl⟩
    ·cases ho
     have r1 : ρ (.tmp 52) = vs 11 := by rw [← hρ]; kernel_rfl
     have d11 := hd 11 (by decide) (by kernel_rfl)
     simp only at d11
     obtain ⟨qR, qP, qT, qH, e0⟩ := d11
     rw [e0] at r1
     exact gives_value (w' := x) (v := machV Mc.zero.c qR qP qT qH) (by simp [go_sem, r1]) ⟨LeX.of (Le.refl _), qR, qP, qT, qH, rfl⟩
    ·cases ho
     have r1 : ρ (.tmp 52) = vs 11 := by rw [← hρ]; kernel_rfl
     have d11 := hd 11 (by decide) (by kernel_rfl)
     simp only at d11
     obtain ⟨qR, qP, qT, qH, e0⟩ := d11
     rw [e0] at r1
     exact gives_value (w' := x) (v := .bool false) (by simp [go_sem, r1]) ⟨LeX.of (Le.refl _), rfl⟩
    ·cases ho
     have r1 : ρ (.tmp 52) = vs 11 := by rw [← hρ]; kernel_rfl
     have d11 := hd 11 (by decide) (by kernel_rfl)
     simp only at d11
     obtain ⟨qR, qP, qT, qH, e0⟩ := d11
     rw [e0] at r1
     exact gives_value (w' := x) (v := .int .i64 1800) (by simp [go_sem, r1]) ⟨LeX.of (Le.refl _), rfl⟩
    ·cases ho
     exact gives_value (w' := x.alloc (.cells cellsZ9 29)) (v := .pointer (some ⟨x.heap.size, 0, none⟩)) (by simp [go_sem]) ⟨LeX.of (Le.alloc _ _), x.heap.size, rfl, hx0.size, Cfg.zero, slZ, slZ, slZ, slZ, Box.new _ _ _⟩
    ·cases ho
     have r2 : ρ (.tmp 64) = vs 12 := by rw [← hρ]; kernel_rfl
     have d12 := hd 12 (by decide) (by kernel_rfl)
     simp only at d12
     have r1 : ρ (.tmp 13) = vs 15 := by rw [← hρ]; kernel_rfl
     have d15 := hd 15 (by decide) (by kernel_rfl)
     simp only at d15
     obtain ⟨mR, mP, mT, mH, e12⟩ := d12
     obtain ⟨g, e15, hg, c, a, b, f, e, hb⟩ := d15
     rw [e12] at r2
     rw [e15] at r1
     have c0 := hb.cell 0
     have c1 := hb.cell 1
     have c2 := hb.cell 2
     have c3 := hb.cell 3
     have c4 := hb.cell 4
     have c5 := hb.cell 5
     have c6 := hb.cell 6
     have c7 := hb.cell 7
     have c8 := hb.cell 8
     simp only [List.getElem?_toArray, List.getElem?_cons_succ, List.getElem?_cons_zero] at c0 c1 c2 c3 c4 c5 c6 c7 c8
     have k0 := hb.frozen 0
     have k1 := hb.frozen 1
     have k2 := hb.frozen 2
     have k3 := hb.frozen 3
     have k4 := hb.frozen 4
     have k5 := hb.frozen 5
     have k6 := hb.frozen 6
     have k7 := hb.frozen 7
     have k8 := hb.frozen 8
     refine Gr3.gives_skip (w' := put9 x g Mc.zero.c mR mP mT mH) ?_ ⟨LeX.store hg hb _ _ _ _ _, trivial⟩
     simp [go_sem, r1, r2, c0, c1, c2, c3, c4, c5, c6, c7, c8, k0, k1, k2, k3, k4, k5, k6, k7, k8, put9]
    ·cases ho
     have r1 : ρ (.tmp 65) = vs 13 := by rw [← hρ]; kernel_rfl
     have d13 := hd 13 (by decide) (by kernel_rfl)
     simp only at d13
     rw [d13] at r1
     exact gives_value (w' := x) (v := .bool false) (by simp [go_sem, r1]) ⟨LeX.of (Le.refl _), trivial⟩
   ·intro vs2 X2 hx hd
    have hx0 : Le X1 X2 := hx.le (Le.drew X1) (Nat.le_refl _)
    have e13 := hd 14 (by decide)
    simp only at e13
    clear hd
    generalize hf0 : putH _ _ _ vs2 = fr0
    refine wpSeq_cons rfl ?_
    refine wp_value_at (v0 := .int .i64 1800) (w0 := X2) ?_ ?_
    ·generalize hρ : fr0.eval = ρ
     have r1 : ρ (.tmp 66) = vs2 14 := by rw [← hρ, ← hf0]; kernel_rfl
     rw [e13] at r1
     simp [go_sem, r1]
    ·subst hf0
     simp only [wpSeq, putH, List.getElem?_cons_succ, List.getElem?_cons_zero, Option.bind_some, Act.put, List.setIfInBounds_toArray, List.set_cons_zero, List.set_cons_succ]
     have hlp : Le X1 X2 := hx0
     clear e13 hx hx0
     replace hl := hl.trans hlp
     clear hlp
     go_wp2_with fail
     refine (published18 _).mono ?_
     rintro e w5 ⟨pR, pP, pT, pH, rfl, o5, l5⟩
     replace hl := hl.trans l5
     clear l5
     go_wp2_with fail
     refine (replayOneAs pub_one _ _ o5.has pb_fit).mono ?_
     rintro e w6 ⟨nR, nP, nT, nH, rfl, o6, l6⟩
     replace hl := hl.trans l6
     clear l6 o5
     rw [pb_c] at o6 ⊢
     have hbN := Box.new w6 (cells9 begC nR nP nT nH) 29
     have a1 := Le.alloc w6 (.cells (cells9 begC nR nP nT nH) 29)
     go_upto_region 10 with fail
     generalize hW1 : w6.alloc (.cells (cells9 begC nR nP nT nH) 29) = V6 at hbN a1 ⊢
     clear hW1
     have hggN : w6.heap.size ≤ w6.heap.size := Nat.le_refl _
     generalize hgg : w6.heap.size = gN at hbN hggN ⊢
     have hsgN : w6.heap.size ≤ gN := by omega
     clear hgg hggN
     replace hl := hl.trans a1
     have hN := (o6.le a1).has
     clear a1 o6
     obtain ⟨⟨y0, y1, y2, y3, y4⟩, y5, y6, y7, y8⟩ := (hbN).mach
     go_region_held3 (fun w' => w'.cell? ⟨gN, 0, none⟩ = some (.int .i64 begC.o) ∧ w'.cell? ⟨gN, 1, none⟩ = some (.int .i64 begC.r) ∧ w'.cell? ⟨gN, 2, none⟩ = some (.int .i64 begC.l) ∧ w'.cell? ⟨gN, 3, none⟩ = some (.int .i64 begC.t) ∧ w'.cell? ⟨gN, 4, none⟩ = some (.int .i64 begC.s) ∧ w'.cell? ⟨gN, 5, none⟩ = some (slV nR) ∧ w'.cell? ⟨gN, 6, none⟩ = some (slV nP) ∧ w'.cell? ⟨gN, 7, none⟩ = some (slV nT) ∧ w'.cell? ⟨gN, 8, none⟩ = some (slV nH)) (go_keep) (first
       | (go_at_call 12; refine (lawNum _ _).mono ?_; rintro e _ ⟨rfl, rfl⟩)
       | (go_at_call 19; refine (published18 _).mono ?_; rintro e w9 ⟨pR, pP, pT, pH, rfl, o9, l9⟩; have l9' := (Le.drew V6).trans l9; have hs2 := lawSameMachine _ _ pbM pbM w9 (hN.le l9') o9.has pb_fit; simp only [decide_true] at hs2; obtain ⟨⟨y0, y1, y2, y3, y4⟩, y5, y6, y7, y8⟩ := (hbN.le l9').mach)
       | (go_at_call 11; with_reducible refine Calls.mono hs2 ?_; rintro e w10 ⟨rfl, l10⟩; have l10' := l9'.trans l10; obtain ⟨⟨y0, y1, y2, y3, y4⟩, y5, y6, y7, y8⟩ := (hbN.le l10').mach))
     go_wp2_with fail
     go_ret
     exact ⟨rfl, hl.trans l10'⟩
theorem lawReplayForms (w : World) (a0 a1 : Int) : Calls Tryz.prog 6 #[.int .i64 a0, .int .i64 a1] w fun e w' => e = .returned (.bool true) ∧ Le w w' := by
 have h := and1 a0
 rcases (by omega : a0 % 2 = 0 ∨ a0 % 2 = 1) with e | e
 ·exact ryForms0 w a0 a1 (by rw [h, e])
 ·exact ryForms1 w a0 a1 (by rw [h, e])
end Go.Proofs.YtepplhbajmlbpaaGreat
