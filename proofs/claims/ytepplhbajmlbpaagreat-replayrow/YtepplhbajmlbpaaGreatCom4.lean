/-
  PARTS LAID TOGETHER, each with its own opening: MoB, MoC, MtB, MtC, MtD, MtE, RfC, RfD, RfE, RfH, MtF, MtG, MtH.
-/
import Derived.Test.YtepplhbajmlbpaaGreatCom3
import Derived.Test.YtepplhbajmlbpaaGreatCom1
import Derived.Deep.RegionHeld3
import Derived.Test.YtepplhbajmlbpaaGreatCom2
namespace Go.Proofs.YtepplhbajmlbpaaGreat
open Go.RowKit
def setsW (g off : Nat) : World → Nat → List Value → World
 | w, _, [] => w
 | w, j, u :: us => setsW g off (w.setCell ⟨g, off + j, none⟩ u) (j + 1) us
def setsL (off : Nat) : List Value → Nat → List Value → List Value
 | l, _, [] => l
 | l, j, u :: us => setsL off (l.set (off + j) u) (j + 1) us
theorem setsL_at (off : Nat) : ∀ (us l : List Value) (j i : Nat), off + j + us.length ≤ l.length → (setsL off l j us)[i]? = if off + j ≤ i ∧ i < off + j + us.length then us[i - (off + j)]? else l[i]?
 | [], l, j, i, _ => by rw [setsL, if_neg (by simp only [List.length_nil]; omega)]
 | u :: us, l, j, i, h => by
   simp only [List.length_cons] at h
   rw [setsL, setsL_at off us _ (j + 1) i (by rw [List.length_set]; omega), List.getElem?_set]
   by_cases e : off + j = i
   ·subst e
    rw [if_neg (by omega), if_pos rfl, if_pos (by omega), if_pos (by simp only [List.length_cons]; omega)]
    simp
   ·rw [if_neg e]
    by_cases h1 : off + (j + 1) ≤ i ∧ i < off + (j + 1) + us.length
    ·rw [if_pos h1, if_pos (by simp only [List.length_cons]; omega), show i - (off + j) = (i - (off + (j + 1))) + 1 by omega]
     simp
    ·rw [if_neg h1, if_neg (by simp only [List.length_cons]; omega)]
theorem setsW_own {base g off k n : Nat} {t : TypeId} {v : Value} {rs : List Value} : ∀ (us : List Value) (w : World) (j : Nat), w.ownsRow base t k v n rs → v.ownBlock ≠ some g → (setsW g off w j us).ownsRow base t k v n rs
 | [], _, _, h, _ => h
 | u :: us, _, j, h, hne => setsW_own us _ (j + 1) (ownsRow_setCell_other h hne u) hne
theorem setsW_box {g off g' : Nat} {cs : Array Value} {t : TypeId} (hne : g' ≠ g) : ∀ (us : List Value) (w : World) (j : Nat), Box w g' cs t → Box (setsW g off w j us) g' cs t
 | [], _, _, h => h
 | _ :: us, _, j, h => setsW_box hne us _ (j + 1) (h.other hne _ _)
theorem setsW_le {w0 : World} {g off : Nat} (hg : w0.heap.size ≤ g) : ∀ (us : List Value) (w : World) (j : Nat), Le w0 w → Le w0 (setsW g off w j us)
 | [], _, _, h => h
 | _ :: us, _, j, h => setsW_le hg us _ (j + 1) (h.set hg)
theorem setsW_stored {base g off k n cap : Nat} {t : TypeId} : ∀ (us : List Value) (w : World) (j : Nat) (rs : List Value), w.ownsRow base t k (.slice (some ⟨g, 0, none⟩) n cap) n rs → (setsW g off w j us).ownsRow base t k (.slice (some ⟨g, 0, none⟩) n cap) n (setsL off rs j us)
 | [], _, _, _, h => h
 | u :: us, _, j, _, h => setsW_stored us _ (j + 1) _ (World.ownsRow.stored h (off + j) u).1
theorem rowC_sets {α : Type} {f : α → List Value} {k : Nat} (hk : ∀ x, (f x).length = k) (d : α) {x' : α} {us : List Value} (xs : List α) (i : Nat) (hi : i < xs.length) (hus : us.length ≤ k) (hf : f x' = us ++ (f (xs.getD i d)).drop us.length) : setsL (i * k) (rowC f xs) 0 us = rowC f (xs.set i x') := by
 have hle : i * k + k ≤ xs.length * k := by rw [← Nat.succ_mul]; exact Nat.mul_le_mul_right _ hi
 apply List.ext_getElem?
 intro m
 rw [setsL_at _ _ _ _ _ (by rw [rowC_len hk]; omega)]
 rcases Nat.lt_or_ge m (xs.length * k) with hm | hm
 ·have hk0 : 0 < k := by
    rcases Nat.eq_zero_or_pos k with h | h
    ·subst h; omega
    ·exact h
  have e : m = m / k * k + m % k := by rw [Nat.mul_comm]; exact (Nat.div_add_mod m k).symm
  have hd : m / k < xs.length := Nat.div_lt_of_lt_mul (by rw [Nat.mul_comm]; exact hm)
  have hr : m % k < k := Nat.mod_lt _ hk0
  have h2 : (rowC f (xs.set i x'))[m]? = (f ((xs.set i x').getD (m / k) d))[m % k]? := by
    conv => lhs; rw [e]
    exact rowC_at hk d _ _ _ (by simpa using hd) hr
  have h1 : (rowC f xs)[m]? = (f (xs.getD (m / k) d))[m % k]? := by
    conv => lhs; rw [e]
    exact rowC_at hk d _ _ _ hd hr
  rw [h2, getD_set _ _ _ _ _ hi]
  by_cases ei : m / k = i
  ·rw [if_pos ei, hf]
   have em : m = i * k + m % k := by rw [← ei]; exact e
   by_cases h3 : m % k < us.length
   ·rw [if_pos (by omega), List.getElem?_append_left h3]
    congr 1
    omega
   ·rw [if_neg (by omega), h1, ei, List.getElem?_append_right (by omega), List.getElem?_drop]
    congr 1
    omega
  ·rw [if_neg ei, if_neg, h1]
   rintro ⟨h3, h4⟩
   apply ei
   have : m / k = i := by
     apply Nat.div_eq_of_lt_le
     ·omega
     ·rw [Nat.succ_mul]; omega
   exact this
 ·rw [if_neg (by omega), List.getElem?_eq_none (by rw [rowC_len hk]; exact hm), List.getElem?_eq_none (by rw [rowC_len hk]; simpa using hm)]
theorem OwnE.putS {α : Type} {K : Kind α} {w : World} {base g n cap i : Nat} {xs : List α} {x' : α} {us : List Value} (h : OwnE K w base (.slice (some ⟨g, 0, none⟩) n cap) xs) (hi : i < xs.length) (hus : us.length ≤ K.k) (hx : K.f x' = us ++ (K.f (xs.getD i K.d)).drop us.length) :
   OwnE K (setsW g (i * K.k) w 0 us) base (.slice (some ⟨g, 0, none⟩) n cap) (xs.set i x') := by
 have hn : n = xs.length := by
   obtain ⟨a, c, hv, _⟩ := h.has
   simp only [Value.slice.injEq] at hv
   exact hv.2.1
 subst hn
 exact OwnE.of (setsW_stored us w 0 _ h) (by simp) (rowC_sets K.len K.d xs i hi hus hx)
theorem MoI.chT {B g : Nat} {w w' : World} {L : Lay} (h : MoI B g w L) {gT n cap : Nat} (hq : L.qT = (some ⟨gT, 0, none⟩, n, cap)) {ts : List LT}
   (hk : ∀ {t : TypeId} {kk m : Nat} {v : Value} {us : List Value}, w.ownsRow B t kk v m us → v.ownBlock ≠ some gT → w'.ownsRow B t kk v m us) (hb : ∀ {g' : Nat} {cs : Array Value} {t : TypeId}, g' ≠ gT → Box w g' cs t → Box w' g' cs t)
   (ho : OwnE thK w' B (.slice (some ⟨gT, 0, none⟩) n cap) ts) (hts : ∀ x ∈ ts, x ∈ L.ts ∨ (Own w B (slV x.b) x.T.b ∧ Own w B (slV x.t) x.T.tl)) (hap : ApartM { L with ts := ts }) : MoI B g w' { L with ts := ts } := by
 have ho0 := h.own.oT
 rw [hq] at ho0
 have hne : g ≠ gT := fun e => by
   have := ho0.apart h.bo (by decide)
   simp [Value.ownBlock] at this
   exact this e.symm
 have key : ∀ {t : TypeId} {kk m : Nat} {v : Value} {us : List Value}, w.ownsRow B t kk v m us → t ≠ 59 → w'.ownsRow B t kk v m us := fun h1 h2 => hk h1 (own_k (g := gT) ho0 h1 h2 rfl)
 refine ⟨hb hne h.bo, h.hB, ⟨key h.own.oR (by decide), key h.own.oP (by decide), ?_, key h.own.oH (by decide), fun y hy => key (h.own.iR y hy) (by decide), fun y hy => ?_, fun y hy => ?_⟩, hap⟩
 ·show OwnE thK _ B (slV L.qT) ts
  rw [hq]
  exact ho
 ·obtain ⟨a, b, c⟩ := h.own.iP y hy
  exact ⟨fun i hi => key (a i hi) (by decide), key b (by decide), key c (by decide)⟩
 ·rcases hts y hy with hy | ⟨a, b⟩
  ·obtain ⟨a, b⟩ := h.own.iT y hy
   exact ⟨key a (by decide), key b (by decide)⟩
  ·exact ⟨key a (by decide), key b (by decide)⟩
theorem MoI.setTA {B g : Nat} {w : World} {L : Lay} (h : MoI B g w L) {i gT n cap : Nat} (hq : L.qT = (some ⟨gT, 0, none⟩, n, cap)) (hi : i < L.ts.length) (x : LT) (hb : Own w B (slV x.b) x.T.b) (ht : Own w B (slV x.t) x.T.tl) (hap : ApartM { L with ts := L.ts.set i x }) :
   MoI B g (setsW gT (i * 12) w 0 x.cells) { L with ts := L.ts.set i x } := by
 have ho := h.own.oT
 rw [hq] at ho
 refine h.chT hq (fun h1 h2 => setsW_own _ _ _ h1 h2) (fun hne hb => setsW_box hne _ _ _ hb) (ho.putS hi (Nat.le_refl _) ?_) (fun y hy => ?_) hap
 ·show x.cells = x.cells ++ List.drop 12 (thK.f (L.ts.getD i thK.d))
  rw [List.drop_of_length_le (by rw [thK.len]; exact Nat.le_refl 12), List.append_nil]
 ·rcases List.mem_or_eq_of_mem_set hy with hy | rfl
  ·exact .inl hy
  ·exact .inr ⟨hb, ht⟩
theorem MoI.openR {B g : Nat} {w : World} {L : Lay} (h : MoI B g w L) {i : Nat} (hi : i < L.rs.length) : ∃ gR cap, L.qR = (some ⟨gR, 0, none⟩, L.rs.length, cap) ∧ L.rs.length ≤ cap ∧ B ≤ gR ∧ gR < w.heap.size ∧ g ≠ gR ∧
   RingAt w gR (i * 4) (L.rs.getD i ringK.d).R (L.rs.getD i ringK.d).q ∧ ∀ j, w.frozen? ⟨gR, j, none⟩ = false := by
 have ho := h.own.oR
 obtain ⟨gR, cap, hv, hc, hg, hlt⟩ := ho.shape (by omega)
 have hq : L.qR = (some ⟨gR, 0, none⟩, L.rs.length, cap) := by
   simp only [slV, Value.slice.injEq] at hv
   obtain ⟨a, b, c⟩ := hv
   exact Prod.ext a (Prod.ext b c)
 have hap := ho.apart h.bo (by decide)
 rw [hv] at hap
 simp only [Value.ownBlock, ne_eq, Option.some.injEq] at hap
 rw [hq] at ho
 refine ⟨gR, cap, hq, hc, hg, hlt, fun e => hap (by rw [e]), ?_, fun j => ho.frozen j⟩
 obtain ⟨a, c, hv', _, _, hx⟩ := ho.has
 obtain ⟨b, off, ha, hcell⟩ := hx (by omega)
 simp only [slV, Value.slice.injEq] at hv'
 rw [ha] at hv'
 simp only [Option.some.injEq, Addr.mk.injEq, and_true] at hv'
 obtain ⟨⟨rfl, rfl⟩, _⟩ := hv'
 have h' := hcell i hi
 simp only [Nat.zero_add] at h'
 exact ⟨h' 0 (by decide), h' 1 (by decide), h' 2 (by decide), h' 3 (by decide)⟩
theorem MoI.chR {B g : Nat} {w w' : World} {L : Lay} (h : MoI B g w L) {gR n cap : Nat} (hq : L.qR = (some ⟨gR, 0, none⟩, n, cap)) {rs : List LR}
   (hk : ∀ {t : TypeId} {kk m : Nat} {v : Value} {us : List Value}, w.ownsRow B t kk v m us → v.ownBlock ≠ some gR → w'.ownsRow B t kk v m us) (hb : ∀ {g' : Nat} {cs : Array Value} {t : TypeId}, g' ≠ gR → Box w g' cs t → Box w' g' cs t)
   (ho : OwnE ringK w' B (.slice (some ⟨gR, 0, none⟩) n cap) rs) (hrs : ∀ x ∈ rs, x ∈ L.rs ∨ OwnL w B (slV x.q) x.R.ss) (hap : ApartM { L with rs := rs }) : MoI B g w' { L with rs := rs } := by
 have ho0 := h.own.oR
 rw [hq] at ho0
 have hne : g ≠ gR := fun e => by
   have := ho0.apart h.bo (by decide)
   simp [Value.ownBlock] at this
   exact this e.symm
 have key : ∀ {t : TypeId} {kk m : Nat} {v : Value} {us : List Value}, w.ownsRow B t kk v m us → t ≠ 55 → w'.ownsRow B t kk v m us := fun h1 h2 => hk h1 (own_k (g := gR) ho0 h1 h2 rfl)
 refine ⟨hb hne h.bo, h.hB, ⟨?_, key h.own.oP (by decide), key h.own.oT (by decide), key h.own.oH (by decide), fun y hy => ?_, fun y hy => ?_, fun y hy => ?_⟩, hap⟩
 ·show OwnE ringK _ B (slV L.qR) rs
  rw [hq]
  exact ho
 ·rcases hrs y hy with hy | a
  ·exact key (h.own.iR y hy) (by decide)
  ·exact key a (by decide)
 ·obtain ⟨a, b, c⟩ := h.own.iP y hy
  exact ⟨fun i hi => key (a i hi) (by decide), key b (by decide), key c (by decide)⟩
 ·obtain ⟨a, b⟩ := h.own.iT y hy
  exact ⟨key a (by decide), key b (by decide)⟩
theorem MoI.setRA {B g : Nat} {w : World} {L : Lay} (h : MoI B g w L) {i gR n cap : Nat} (hq : L.qR = (some ⟨gR, 0, none⟩, n, cap)) (hi : i < L.rs.length) (x : LR) (hx : OwnL w B (slV x.q) x.R.ss) (hap : ApartM { L with rs := L.rs.set i x }) :
   MoI B g (setsW gR (i * 4) w 0 x.cells) { L with rs := L.rs.set i x } := by
 have ho := h.own.oR
 rw [hq] at ho
 refine h.chR hq (fun h1 h2 => setsW_own _ _ _ h1 h2) (fun hne hb => setsW_box hne _ _ _ hb) (ho.putS hi (Nat.le_refl _) ?_) (fun y hy => ?_) hap
 ·show x.cells = x.cells ++ List.drop 4 (ringK.f (L.rs.getD i ringK.d))
  rw [List.drop_of_length_le (by rw [ringK.len]; exact Nat.le_refl 4), List.append_nil]
 ·rcases List.mem_or_eq_of_mem_set hy with hy | rfl
  ·exact .inl hy
  ·exact .inr hx
theorem MoI.chP {B g : Nat} {w w' : World} {L : Lay} (h : MoI B g w L) {gP n cap : Nat} (hq : L.qP = (some ⟨gP, 0, none⟩, n, cap)) {ps : List LP}
   (hk : ∀ {t : TypeId} {kk m : Nat} {v : Value} {us : List Value}, w.ownsRow B t kk v m us → v.ownBlock ≠ some gP → w'.ownsRow B t kk v m us) (hb : ∀ {g' : Nat} {cs : Array Value} {t : TypeId}, g' ≠ gP → Box w g' cs t → Box w' g' cs t)
   (ho : OwnE repK w' B (.slice (some ⟨gP, 0, none⟩) n cap) ps) (hps : ∀ x ∈ ps, x ∈ L.ps ∨ ((∀ i, i < 4 → Own w B (slV (x.vs i)) (x.P.s.at i)) ∧ Own w B (slV x.c) x.P.cs ∧ Own w B (slV x.l) x.P.ls)) (hap : ApartM { L with ps := ps }) : MoI B g w' { L with ps := ps } := by
 have ho0 := h.own.oP
 rw [hq] at ho0
 have hne : g ≠ gP := fun e => by
   have := ho0.apart h.bo (by decide)
   simp [Value.ownBlock] at this
   exact this e.symm
 have key : ∀ {t : TypeId} {kk m : Nat} {v : Value} {us : List Value}, w.ownsRow B t kk v m us → t ≠ 46 → w'.ownsRow B t kk v m us := fun h1 h2 => hk h1 (own_k (g := gP) ho0 h1 h2 rfl)
 refine ⟨hb hne h.bo, h.hB, ⟨key h.own.oR (by decide), ?_, key h.own.oT (by decide), key h.own.oH (by decide), fun y hy => key (h.own.iR y hy) (by decide), fun y hy => ?_, fun y hy => ?_⟩, hap⟩
 ·show OwnE repK _ B (slV L.qP) ps
  rw [hq]
  exact ho
 ·rcases hps y hy with hy | ⟨a, b, c⟩
  ·obtain ⟨a, b, c⟩ := h.own.iP y hy
   exact ⟨fun i hi => key (a i hi) (by decide), key b (by decide), key c (by decide)⟩
  ·exact ⟨fun i hi => key (a i hi) (by decide), key b (by decide), key c (by decide)⟩
 ·obtain ⟨a, b⟩ := h.own.iT y hy
  exact ⟨key a (by decide), key b (by decide)⟩
theorem ApartM.setS {L : Lay} {m : Nat} (h : ApartM L) (hm : L.Below m) {i : Nat} (hi : i < L.ps.length) {x : LP} (hc : x.c = (L.ps.getD i repK.d).c) (hl : x.l = (L.ps.getD i repK.d).l) (hs : ∀ j, j < 4 → ∀ c, (slV (x.vs j)).ownBlock = some c → m ≤ c) : ApartM { L with ps := L.ps.set i x } := by
 have key : ∀ p, (({ L with ps := L.ps.set i x } : Lay).at p = L.at p) ∨ (p.wr = false ∧ ∀ c, (slV (({ L with ps := L.ps.set i x } : Lay).at p)).ownBlock = some c → m ≤ c) := fun p => by
   cases p with
   | th a b => exact .inl rfl
   | rep a b =>
     simp only [Lay.at, getD_set _ _ _ _ _ hi]
     by_cases e : a = i
     ·subst e
      rw [if_pos rfl]
      match b with
      | 0 => exact .inr ⟨rfl, hs 0 (by decide)⟩
      | 1 => exact .inr ⟨rfl, hs 1 (by decide)⟩
      | 2 => exact .inr ⟨rfl, hs 2 (by decide)⟩
      | 3 => exact .inr ⟨rfl, hs 3 (by decide)⟩
      | 4 => exact .inl hc
      | 5 => exact .inl hl
      | _ + 6 => exact .inl rfl
     ·rw [if_neg e]; exact .inl rfl
 refine ⟨h.s, fun p q hne hw n1 n2 b e1 e2 => ?_⟩
 rcases key p with k1 | ⟨k1, _⟩
 ·rw [k1] at n1 e1
  rcases key q with k2 | ⟨_, k2⟩
  ·rw [k2] at n2 e2; exact h.n p q hne hw n1 n2 b e1 e2
  ·have := hm.2 p b e1; have := k2 b e2; omega
 ·rw [k1] at hw; cases hw
theorem MoI.setS {B g m : Nat} {w : World} {L : Lay} (h : MoI B g w L) {i gP n cap : Nat} (hq : L.qP = (some ⟨gP, 0, none⟩, n, cap)) (hi : i < L.ps.length) (vs : Nat → Sl) (s : St) (hm : L.Below m) (hs : ∀ j, j < 4 → Own w B (slV (vs j)) (s.at j)) (hn : ∀ j, j < 4 → ∀ c, (slV (vs j)).ownBlock = some c → m ≤ c) :
   MoI B g (setsW gP (i * 6) w 0 [slV (vs 0), slV (vs 1), slV (vs 2), slV (vs 3)]) { L with ps := L.ps.set i ⟨{ (L.ps.getD i repK.d).P with s := s }, vs, (L.ps.getD i repK.d).c, (L.ps.getD i repK.d).l⟩ } := by
 have ho := h.own.oP
 rw [hq] at ho
 refine h.chP hq (fun h1 h2 => setsW_own _ _ _ h1 h2) (fun hne hb => setsW_box hne _ _ _ hb) (ho.putS hi (by show 4 ≤ 6; decide) rfl) (fun y hy => ?_) (h.ap.setS hm hi rfl rfl hn)
 rcases List.mem_or_eq_of_mem_set hy with hy | rfl
 ·exact .inl hy
 ·have o := h.own.iP _ (getD_mem (d := repK.d) hi)
  exact .inr ⟨hs, o.2.1, o.2.2⟩
theorem MoI.setH {B g : Nat} {w w' : World} {L : Lay} {q' : Sl} {Es : List Ev} (h : MoI B g w L) (ho : OwnE evK w' B (slV q') Es) (hg : w.grownBy w' (slV L.qH).ownBlock) : MoI B g (w'.setCell ⟨g, 8, none⟩ (slV q')) { L with qH := q', es := Es } := by
 have hrow := h.own.oH.rowT
 have hb := h.bo.grown hg (h.own.oH.apart h.bo (by decide))
 have o := h.own
 refine ⟨?_, h.hB, ⟨?_, ?_, ?_, ?_, fun y hy => ?_, fun y hy => ?_, fun y hy => ?_⟩, ⟨h.ap.s, h.ap.n⟩⟩
 ·have := hb.set 8 (slV q'); exact this
 ·exact row_kept hg hrow hb o.oR (by decide) (by decide)
 ·exact row_kept hg hrow hb o.oP (by decide) (by decide)
 ·exact row_kept hg hrow hb o.oT (by decide) (by decide)
 ·exact ho.set (ho.apart hb (by decide))
 ·exact row_kept hg hrow hb (o.iR y hy) (by decide) (by decide)
 ·exact ⟨fun i hi => row_kept hg hrow hb ((o.iP y hy).1 i hi) (by decide) (by decide), row_kept hg hrow hb (o.iP y hy).2.1 (by decide) (by decide), row_kept hg hrow hb (o.iP y hy).2.2 (by decide) (by decide)⟩
 ·exact ⟨row_kept hg hrow hb (o.iT y hy).1 (by decide) (by decide), row_kept hg hrow hb (o.iT y hy).2 (by decide) (by decide)⟩
def OwnA (w : World) (base : Nat) (v : Value) (M : Mc) : Prop := ∃ L : Lay, v = L.v ∧ L.M = M ∧ OwnsM w base L ∧ ApartM L
theorem OwnA.le {w w' : World} {base : Nat} {v : Value} {M : Mc} (h : OwnA w base v M) (hl : Le w w') : OwnA w' base v M := by obtain ⟨L, hv, hm, h, a⟩ := h; exact ⟨L, hv, hm, h.le hl, a⟩
theorem OwnA.base {w : World} {base base' : Nat} {v : Value} {M : Mc} (h : OwnA w base v M) (hb : base' ≤ base) : OwnA w base' v M := by obtain ⟨L, hv, hm, h, a⟩ := h; exact ⟨L, hv, hm, h.base hb, a⟩
theorem OwnA.own {w : World} {base : Nat} {v : Value} {M : Mc} (h : OwnA w base v M) : OwnM w base v M := by obtain ⟨L, hv, hm, h, _⟩ := h; exact ⟨L, hv, hm.symm, h⟩
theorem OwnA.has {w : World} {base : Nat} {v : Value} {M : Mc} (h : OwnA w base v M) : HasM w v M := h.own.has
def Lay.zero : Lay := ⟨Cfg.zero, slZ, slZ, slZ, slZ, [], [], [], []⟩
theorem apart_zero : ApartM Lay.zero := by
 refine ⟨fun i j _ b e _ => ?_, fun p r _ _ n1 _ b _ _ => ?_⟩
 ·simp [Lay.slots, Lay.zero, ringK, Value.ownBlock] at e
 ·cases p with
  | rep i j =>
    match j, n1 with
    | 0, n1 => simp [Lay.at, Lay.zero, repK, LP.row] at n1
    | 1, n1 => simp [Lay.at, Lay.zero, repK, LP.row] at n1
    | 2, n1 => simp [Lay.at, Lay.zero, repK, LP.row] at n1
    | 3, n1 => simp [Lay.at, Lay.zero, repK, LP.row] at n1
    | 4, n1 => simp [Lay.at, Lay.zero, repK, LP.row] at n1
    | 5, n1 => simp [Lay.at, Lay.zero, repK, LP.row] at n1
    | _ + 6, n1 => simp [Lay.at, LP.row] at n1
  | th i j =>
    match j, n1 with
    | 0, n1 => simp [Lay.at, Lay.zero, thK, LT.row] at n1
    | 1, n1 => simp [Lay.at, Lay.zero, thK, LT.row] at n1
    | _ + 2, n1 => simp [Lay.at, LT.row] at n1
theorem OwnA.zero (w : World) (base : Nat) : OwnA w base machZ Mc.zero :=
 ⟨Lay.zero, rfl, rfl, ⟨OwnE.nil _ _ _, OwnE.nil _ _ _, OwnE.nil _ _ _, OwnE.nil _ _ _, (fun x h => by cases h), (fun x h => by cases h), (fun x h => by cases h)⟩, apart_zero⟩
theorem OwnA.open {w : World} {base : Nat} {v : Value} {M : Mc} (h : OwnA w base v M) : ∃ qR qP qT qH, v = machV M.c qR qP qT qH := by
 obtain ⟨L, rfl, rfl, _⟩ := h; exact ⟨_, _, _, _, rfl⟩
theorem MoI.ret {B g gr : Nat} {w : World} {L : Lay} {cs : Array Value} (h : MoI B g w L) (hr : Box w gr cs 29) : OwnA (put9 w gr L.c L.qR L.qP L.qT L.qH) B (machV L.c L.qR L.qP L.qT L.qH) L.M :=
 ⟨L, rfl, rfl, h.own.put9 hr _ _ _ _ _, h.ap⟩
theorem getD_same {α : Type} (xs : List α) (i : Nat) (x d : α) (hi : i < xs.length) : (xs.set i x).getD i d = x := by rw [getD_set _ _ _ _ _ hi, if_pos rfl]
theorem lay_ts {L : Lay} {M : Mc} (h : L.M = M) : L.ts.length = M.ts.length := by subst h; simp [Lay.M]
theorem lay_ps {L : Lay} {M : Mc} (h : L.M = M) : L.ps.length = M.ps.length := by subst h; simp [Lay.M]
theorem lay_rs {L : Lay} {M : Mc} (h : L.M = M) : L.rs.length = M.rs.length := by subst h; simp [Lay.M]
theorem lay_c {L : Lay} {M : Mc} (h : L.M = M) : L.c = M.c := by subst h; rfl
theorem lay_es {L : Lay} {M : Mc} (h : L.M = M) : L.es = M.es := by subst h; rfl
theorem lay_th {L : Lay} {M : Mc} (h : L.M = M) {t : Nat} (hi : t < L.ts.length) : (L.ts.getD t thK.d).T = M.th t := by subst h; rw [Mc.th, Int.toNat_natCast, L.M_getT hi]
theorem lay_rp {L : Lay} {M : Mc} (h : L.M = M) {t : Nat} (hi : t < L.ps.length) : (L.ps.getD t repK.d).P = M.rp t := by subst h; rw [Mc.rp, Int.toNat_natCast, L.M_getP hi]
theorem lay_rg {L : Lay} {M : Mc} (h : L.M = M) {t : Nat} (hi : t < L.rs.length) : (L.rs.getD t ringK.d).R = M.rg t := by subst h; rw [Mc.rg, Int.toNat_natCast, L.M_getR hi]
theorem lay_setT {L : Lay} {M : Mc} (h : L.M = M) (t : Nat) (x : LT) : ({ L with ts := L.ts.set t x } : Lay).M = M.putT t x.T := by subst h; rw [Lay.M_setT, Mc.putT, Int.toNat_natCast]
theorem lay_setP {L : Lay} {M : Mc} (h : L.M = M) (t : Nat) (x : LP) : ({ L with ps := L.ps.set t x } : Lay).M = M.putP t x.P := by subst h; rw [Lay.M_setP, Mc.putP, Int.toNat_natCast]
theorem lay_setR {L : Lay} {M : Mc} (h : L.M = M) (t : Nat) (x : LR) : ({ L with rs := L.rs.set t x } : Lay).M = M.putR t x.R := by subst h; rw [Lay.M_setR, Mc.putR, Int.toNat_natCast]
theorem lay_setH {L : Lay} {M : Mc} (h : L.M = M) (q : Sl) (Es : List Ev) : ({ L with qH := q, es := Es } : Lay).M = { M with es := Es } := by subst h; rfl
theorem repB_cases {c : Cfg} {Rs : List Rg} {P : Rp} (h : repB c Rs P = true) : objMay c.o P.s = true ∧ (P.cs.length : Int) = c.l ∧ cursOK Rs P.cs = true ∧ (P.ls.length : Int) = c.l ∧ ∀ x ∈ P.ls, 0 ≤ x ∧ x ≤ c.t := by
 unfold repB at h
 simp only [Bool.and_eq_true, decide_eq_true_eq, List.all_eq_true] at h
 exact ⟨h.1, h.2.1, h.2.2.1, h.2.2.2.1, fun x hx => inB_cases (h.2.2.2.2 x hx)⟩
theorem ringB_cases {c : Cfg} {R : Rg} (h : ringB c R = true) : mayR R = true ∧ (R.ss.length : Int) = c.s ∧ (0 ≤ R.f ∧ R.f ≤ c.t) ∧ ∀ s ∈ R.ss, 0 ≤ s.t ∧ s.t ≤ c.t - 1 := by
 unfold ringB at h
 simp only [Bool.and_eq_true, decide_eq_true_eq, List.all_eq_true] at h
 exact ⟨h.1, h.2.1, inB_cases h.2.2.1, fun x hx => inB_cases (h.2.2.2 x hx)⟩
theorem thB_cases {c : Cfg} {T : Th} (h : thB c T = true) : (0 ≤ T.st ∧ T.st ≤ 19) ∧ opMay T.c T.r T.a = true ∧ (0 ≤ T.lg ∧ T.lg ≤ c.l - 1) ∧ (0 ≤ T.sn ∧ T.sn ≤ 1048576) ∧ (T.b.length : Int) ≤ c.t ∧ (∀ x ∈ T.b, 0 ≤ x ∧ x ≤ c.t - 1) ∧ (0 ≤ T.pl ∧ T.pl ≤ T.b.length) ∧ (T.tl.length : Int) ≤ c.l ∧ ∀ x ∈ T.tl, 0 ≤ x ∧ x ≤ 1048576 := by
 unfold thB at h
 simp only [Bool.and_eq_true, decide_eq_true_eq, List.all_eq_true] at h
 exact ⟨inB_cases h.1, h.2.1, inB_cases h.2.2.1, inB_cases h.2.2.2.1, h.2.2.2.2.1.1, fun x hx => inB_cases (h.2.2.2.2.1.2 x hx), inB_cases h.2.2.2.2.2.1, h.2.2.2.2.2.2.1, fun x hx => inB_cases (h.2.2.2.2.2.2.2 x hx)⟩
theorem cursOK_at {Rs : List Rg} {cs : List Int} {k : Nat} (h : cursOK Rs cs = true) (hk : k < cs.length) : (Rs.getD k Rg.zero).h ≤ cs.getD k 0 ∧ cs.getD k 0 ≤ (Rs.getD k Rg.zero).t := by
 unfold cursOK at h
 simp only [List.all_eq_true, List.mem_range] at h
 exact inB_cases (h k hk)
theorem Has.at {w : World} {q : Sl} {xs : List Int} (h : Has w (slV q) xs) {g : Nat} (hg : g < xs.length) : ∃ b off n c, q = (some ⟨b, off, none⟩, n, c) ∧ (g : Int) < (n : Int) ∧ w.cell? ⟨b, off + g, none⟩ = some (.int .i64 (xs.getD g 0)) := by
 obtain ⟨a, c, hv, _, _, hx⟩ := h
 obtain ⟨b, off, rfl, hcell⟩ := hx (by omega)
 obtain ⟨q0, q1, q2⟩ := q
 simp only [slV, Value.slice.injEq] at hv
 obtain ⟨rfl, hn, rfl⟩ := hv
 exact ⟨b, off, q1, q2, rfl, by omega, hcell g hg⟩
theorem HasM.opens {w : World} {v : Value} {M : Mc} (h : HasM w v M) (hm : mayM M = true) : ∃ bR oR cR bP oP cP bT oT cT qH, v = machV M.c (some ⟨bR, oR, none⟩, M.rs.length, cR) (some ⟨bP, oP, none⟩, M.ps.length, cP) (some ⟨bT, oT, none⟩, M.ts.length, cT) qH ∧
   (∀ i, i < M.rs.length → ∃ q, RingAt w bR (oR + i * 4) (M.rs.getD i Rg.zero) q ∧ HasL w (slV q) (M.rs.getD i Rg.zero).ss) ∧
   (∀ i, i < M.ps.length → ∃ vs c l, RepAt w bP (oP + i * 6) vs c l ∧ (∀ j, j < 4 → Has w (slV (vs j)) ((M.ps.getD i Rp.zero).s.at j)) ∧ Has w (slV c) (M.ps.getD i Rp.zero).cs ∧ Has w (slV l) (M.ps.getD i Rp.zero).ls) ∧
   (∀ i, i < M.ts.length → ∃ q t, ThAt w bT (oT + i * 12) (M.ts.getD i Th.zero) q t ∧ Has w (slV q) (M.ts.getD i Th.zero).b ∧ Has w (slV t) (M.ts.getD i Th.zero).tl) ∧ HasE evK w (slV qH) M.es := by
 obtain ⟨_, ⟨r0, r1⟩, ⟨l0, l1⟩, ⟨t0, t1⟩, _, _⟩ := Cfg.ok_cases (mayM_ok hm)
 obtain ⟨hrs, hps, hts, _⟩ := mayM_lens hm
 obtain ⟨⟨ra, rn, rc⟩, ⟨pa, pn, pc⟩, ⟨ta, tn, tc⟩, qH, rfl, hR, hP, hT, hH⟩ := h
 obtain ⟨_, _, hv, _, _, oR⟩ := hR.open
 simp only [slV, Value.slice.injEq] at hv
 obtain ⟨rfl, rfl, rfl⟩ := hv
 obtain ⟨_, _, hv, _, _, oP⟩ := hP.open
 simp only [slV, Value.slice.injEq] at hv
 obtain ⟨rfl, rfl, rfl⟩ := hv
 obtain ⟨_, _, hv, _, _, oT⟩ := hT.open
 simp only [slV, Value.slice.injEq] at hv
 obtain ⟨rfl, rfl, rfl⟩ := hv
 obtain ⟨bR, o1, rfl, h1⟩ := oR (by omega)
 obtain ⟨bP, o2, rfl, h2⟩ := oP (by omega)
 obtain ⟨bT, o3, rfl, h3⟩ := oT (by omega)
 exact ⟨_, _, _, _, _, _, _, _, _, qH, rfl, h1, h2, h3, hH⟩
theorem MoI.base {B B' g : Nat} {w : World} {L : Lay} (h : MoI B g w L) (hb : B' ≤ B) : MoI B' g w L := ⟨h.bo, Nat.le_trans hb h.hB, h.own.base hb, h.ap⟩
theorem ApartM.setRo {L : Lay} (h : ApartM L) {i : Nat} (hi : i < L.rs.length) {x : LR} (hq : ∀ c, (slV x.q).ownBlock = some c → ∀ j, (slV (L.slots j)).ownBlock ≠ some c) : ApartM { L with rs := L.rs.set i x } := by
 have hs : ∀ j, ({ L with rs := L.rs.set i x } : Lay).slots j = if j = i then x.q else L.slots j := fun j => by
   simp only [Lay.slots, getD_set _ _ _ _ _ hi]
   split <;> rfl
 refine ⟨fun j k hne b e1 e2 => ?_, h.n⟩
 rw [hs] at e1 e2
 by_cases h1 : j = i
 ·rw [if_pos h1] at e1
  rw [if_neg (by omega)] at e2
  exact hq b e1 k e2
 ·rw [if_neg h1] at e1
  by_cases h2 : k = i
  ·rw [if_pos h2] at e2
   exact hq b e2 j e1
  ·rw [if_neg h2] at e2
   exact h.s j k hne b e1 e2
theorem ApartM.setRold {w : World} {B : Nat} {L : Lay} (h : ApartM L) (o : OwnsM w B L) {i : Nat} (hi : i < L.rs.length) {x : LR} (hq : ∀ c, (slV x.q).ownBlock = some c → c < B) : ApartM { L with rs := L.rs.set i x } :=
 h.setRo hi fun c e j e2 => by
   have h1 := hq c e
   unfold Lay.slots at e2
   rcases Nat.lt_or_ge j L.rs.length with hj | hj
   ·have := ((o.iR _ (getD_mem (d := ringK.d) hj)).block e2).1
    omega
   ·rw [getD_out hj] at e2; cases e2
theorem MoI.setTx {B g : Nat} {w : World} {L : Lay} (h : MoI B g w L) {i j gT n cap : Nat} {u : Value} (hq : L.qT = (some ⟨gT, 0, none⟩, n, cap)) (hi : i < L.ts.length) (hj : j < 12) (x0 : LT) (hx0 : L.ts.getD i thK.d = x0) (T : Th)
   (hx : (⟨T, x0.b, x0.t⟩ : LT).cells = x0.cells.set j u) (hb : T.b = x0.T.b) (ht : T.tl = x0.T.tl) : MoI B g (w.setCell ⟨gT, i * 12 + j, none⟩ u) { L with ts := L.ts.set i ⟨T, x0.b, x0.t⟩ } := by
 subst hx0
 exact h.setTs hq hi hj T hx hb ht
theorem MoI.setTy {B g : Nat} {w : World} {L : Lay} {i j gT n cap : Nat} {x0 : LT} (h : MoI B g w { L with ts := L.ts.set i x0 }) {u : Value} (hq : L.qT = (some ⟨gT, 0, none⟩, n, cap)) (hi : i < L.ts.length) (hj : j < 12) (T : Th)
   (hx : (⟨T, x0.b, x0.t⟩ : LT).cells = x0.cells.set j u) (hb : T.b = x0.T.b) (ht : T.tl = x0.T.tl) : MoI B g (w.setCell ⟨gT, i * 12 + j, none⟩ u) { L with ts := L.ts.set i ⟨T, x0.b, x0.t⟩ } := by
 have := MoI.setTx h (i := i) hq (by simpa using hi) hj x0 (getD_same _ _ _ _ hi) T hx hb ht
 simp only [List.set_set] at this
 exact this
theorem MoI.setTb {B g m : Nat} {w : World} {L : Lay} (h : MoI B g w L) {i gT n cap : Nat} (hq : L.qT = (some ⟨gT, 0, none⟩, n, cap)) (hi : i < L.ts.length) (x0 : LT) (hx0 : L.ts.getD i thK.d = x0) (q : Sl) (bs : List Int) (hb : Own w B (slV q) bs)
   (hm : L.Below m) (hn : q.2.1 = 0 ∨ ∀ c, (slV q).ownBlock = some c → m ≤ c) : MoI B g (w.setCell ⟨gT, i * 12 + 6, none⟩ (slV q)) { L with ts := L.ts.set i ⟨{ x0.T with b := bs }, q, x0.t⟩ } := by
 subst hx0
 have o := h.own.iT _ (getD_mem (d := thK.d) hi)
 exact h.setT hq hi (by decide) ⟨_, q, _⟩ rfl hb o.2 (h.ap.setTn hm hi (.inr hn) (.inl rfl) (.inr (.inr (.inr rfl))))
theorem MoI.thAt {B g : Nat} {w : World} {L : Lay} (h : MoI B g w L) {i gT n cap : Nat} (hq : L.qT = (some ⟨gT, 0, none⟩, n, cap)) (hi : i < L.ts.length) : g ≠ gT ∧ gT < w.heap.size ∧ B ≤ gT ∧ ThAt w gT (i * 12) (L.ts.getD i thK.d).T (L.ts.getD i thK.d).b (L.ts.getD i thK.d).t ∧ ∀ j, w.frozen? ⟨gT, j, none⟩ = false := by
 obtain ⟨g', c, hq', _, h1, h2, h3, h4, h5⟩ := h.openT hi
 rw [hq] at hq'
 simp only [Prod.mk.injEq, Option.some.injEq, Addr.mk.injEq, and_true] at hq'
 obtain ⟨rfl, _⟩ := hq'
 exact ⟨h3, h2, h1, h4, h5⟩
theorem MoI.openL {B g : Nat} {w : World} {L : Lay} (h : MoI B g w L) {i k : Nat} (hi : i < L.ps.length) (hk : k < (L.ps.getD i repK.d).P.ls.length) : ∃ gl cap, (L.ps.getD i repK.d).l = (some ⟨gl, 0, none⟩, (L.ps.getD i repK.d).P.ls.length, cap) ∧ (L.ps.getD i repK.d).P.ls.length ≤ cap ∧ B ≤ gl ∧ gl < w.heap.size ∧ w.cell? ⟨gl, k, none⟩ = some (.int .i64 ((L.ps.getD i repK.d).P.ls.getD k 0)) ∧ w.frozen? ⟨gl, k, none⟩ = false :=
 own_open (h.own.iP _ (getD_mem (d := repK.d) hi)).2.2 hk
theorem MoI.openC {B g : Nat} {w : World} {L : Lay} (h : MoI B g w L) {i k : Nat} (hi : i < L.ps.length) (hk : k < (L.ps.getD i repK.d).P.cs.length) : ∃ gl cap, (L.ps.getD i repK.d).c = (some ⟨gl, 0, none⟩, (L.ps.getD i repK.d).P.cs.length, cap) ∧ (L.ps.getD i repK.d).P.cs.length ≤ cap ∧ B ≤ gl ∧ gl < w.heap.size ∧ w.cell? ⟨gl, k, none⟩ = some (.int .i64 ((L.ps.getD i repK.d).P.cs.getD k 0)) ∧ w.frozen? ⟨gl, k, none⟩ = false :=
 own_open (h.own.iP _ (getD_mem (d := repK.d) hi)).2.1 hk
theorem MoI.setLk {B g : Nat} {w : World} {L : Lay} (h : MoI B g w L) {i k gl n cap : Nat} {v : Int} (hi : i < L.ps.length) (hq : (L.ps.getD i repK.d).l = (some ⟨gl, 0, none⟩, n, cap)) (hk : k < n) :
   MoI B g (w.setCell ⟨gl, k, none⟩ (.int .i64 v)) { L with ps := L.ps.set i ⟨{ (L.ps.getD i repK.d).P with ls := (L.ps.getD i repK.d).P.ls.set k v }, (L.ps.getD i repK.d).vs, (L.ps.getD i repK.d).c, (L.ps.getD i repK.d).l⟩ } :=
 h.setN 5 (.inr rfl) hi hq hk _ rfl rfl rfl
theorem MoI.setCu {B g : Nat} {w : World} {L : Lay} (h : MoI B g w L) {i k gl n cap : Nat} {v : Int} (hi : i < L.ps.length) (hq : (L.ps.getD i repK.d).c = (some ⟨gl, 0, none⟩, n, cap)) (hk : k < n) :
   MoI B g (w.setCell ⟨gl, k, none⟩ (.int .i64 v)) { L with ps := L.ps.set i ⟨{ (L.ps.getD i repK.d).P with cs := (L.ps.getD i repK.d).P.cs.set k v }, (L.ps.getD i repK.d).vs, (L.ps.getD i repK.d).c, (L.ps.getD i repK.d).l⟩ } :=
 h.setN 4 (.inl rfl) hi hq hk _ rfl rfl rfl
set_option maxRecDepth 8000 in
set_option maxHeartbeats 8000000 in
theorem rmStepped (v : Value) (M : Mc) (t : Nat) (st : Int) (w : World) (hx : HasM w v M) (hf : FitM M) (ht : t < M.ts.length) : Calls Tryz.prog 87 #[v, .int .i64 t, .int .i64 st] w fun e w' => ∃ v', e = .returned v' ∧ OwnA w' w.heap.size v' (stepM M t st) ∧ Le w w' := by
 have m2 := fun w' (l : Le w w') => rmCopy v M w' (hx.le l) hf
 obtain ⟨qR, qP, qT, qH, rfl, _, _, _, _⟩ := hx
 have hr := Box.new (w.alloc (.cells (cells9 M.c qR qP qT qH) 29)) cellsZ9 29
 have hb := (Box.new w (cells9 M.c qR qP qT qH) 29).le (Le.alloc _ (.cells cellsZ9 29))
 have hl := (Le.alloc w (.cells (cells9 M.c qR qP qT qH) 29)).trans (Le.alloc _ (.cells cellsZ9 29))
 rw [World.size_alloc] at hr
 go_enter Tryz.func87, Tryz.ntmps87
 go_upto_region 1 with fail
 generalize hW : (w.alloc (.cells (cells9 M.c qR qP qT qH) 29)).alloc (.cells cellsZ9 29) = W at hl hb hr ⊢
 clear hW
 have hgr := hr.lt
 obtain ⟨⟨z0, z1, z2, z3, z4⟩, z5, z6, z7, z8⟩ := (hb).mach
 go_wp2_with fail
 refine (m2 _ hl).mono ?_
 rintro e w9 ⟨L, rfl, HM, o1, ap, l1⟩
 clear z0 z1 z2 z3 z4 z5 z6 z7 z8
 clear m2
 have hbo := Box.new w9 (cells9 L.c L.qR L.qP L.qT L.qH) 29
 have a1 := Le.alloc w9 (.cells (cells9 L.c L.qR L.qP L.qT L.qH) 29)
 go_upto_region 2 with fail
 generalize hW1 : w9.alloc (.cells (cells9 L.c L.qR L.qP L.qT L.qH) 29) = W1 at hbo a1 ⊢
 clear hW1
 have I : MoI W.heap.size w9.heap.size W1 L := ⟨hbo, l1.size, o1.le a1, ap⟩
 have hgo : W.heap.size ≤ w9.heap.size := l1.size
 generalize w9.heap.size = go at hbo I hgo ⊢
 have l01 := l1.trans a1
 clear hbo o1 ap l1 a1
 obtain ⟨c', uR, uP, uT, uH, xR, xP, xT, xH⟩ := L
 try simp only at I ⊢
 replace hr := hr.le l01
 replace hb := hb.le l01
 have hlB : w.heap.size ≤ W.heap.size := hl.size
 have hiT : t < xT.length := by have := lay_ts HM; simp only at this; omega
 have hiT' : (t : Int) < (xT.length : Int) := by omega
 obtain ⟨gT, capT, hqT, hcapT, hgBT, hgltT, hgneT, hatT, hfzT⟩ := I.openT hiT
 try simp only at hqT hatT hcapT
 subst hqT
 obtain ⟨⟨y0, y1, y2, y3, y4⟩, y5, y6, y7, y8⟩ := (I.bo).mach
 simp only [slV] at y7
 have x0 := hatT.1
 have x1 := hfzT (t * 12)
 go_upto_region 3 with fail
 have I2 := I.setTs (j := 0) (u := .int .i64 st) rfl hiT (by decide) { (xT.getD t thK.d).T with st := st } rfl rfl rfl
 clear y0 y1 y2 y3 y4 y5 y6 y7 y8
 clear x0 x1 hatT hfzT
 have l2 := l01.set (g := gT) (i := t * 12 + 0) (u := .int .i64 st) hgBT
 have hr2 := hr.other (show w.heap.size + 1 ≠ gT by omega) (t * 12 + 0) (.int .i64 st)
 generalize hW2 : W1.setCell ⟨gT, t * 12 + 0, none⟩ (.int .i64 st) = W2 at I2 l2 hr2 ⊢
 clear hW2 hr hb I
 obtain ⟨⟨y0, y1, y2, y3, y4⟩, y5, y6, y7, y8⟩ := (I2.bo).mach
 obtain ⟨⟨r0, r1, r2, r3, r4, r5, r6, r7, r8⟩, k0, k1, k2, k3, k4, k5, k6, k7, k8⟩ := hr2.res
 go_wp2_with fail
 refine bodyPost_ret (v := machV c' uR uP (some ⟨gT, 0, none⟩, xT.length, capT) uH) (by simp [results, Tryz.results87, go_sem, r0, r1, r2, r3, r4, r5, r6, r7, r8]) rfl ⟨_, rfl, ?_, (hl.trans l2).put9 (g := w.heap.size + 1) (by omega) c' uR uP (some ⟨gT, 0, none⟩, xT.length, capT) uH⟩
 have := (I2.ret hr2).base hl.size
 rw [lay_setT HM] at this
 simp only [lay_th HM hiT] at this
 exact this
set_option maxRecDepth 8000 in
set_option maxHeartbeats 8000000 in
theorem rmPost (v : Value) (M : Mc) (t : Int) (w : World) (hx : HasM w v M) (hf : FitM M) : Calls Tryz.prog 92 #[v, .int .i64 t] w fun e w' => ∃ v', e = .returned (.tuple #[v', .int .i64 (postM M t).2]) ∧ OwnA w' w.heap.size v' (postM M t).1 ∧ Le w w' := by
 have m1 := fun w' (l : Le w w') => rmThere v M 0 0 t w' (hx.le l) hf
 have m2 := fun w' (l : Le w w') => rmCopy v M w' (hx.le l) hf
 obtain ⟨qR, qP, qT, qH, rfl, _, _, _, _⟩ := hx
 cases h1 : thereB M 0 0 t
 ·have hP : postM M t = (Mc.zero, 1600) := by unfold postM; rw [h1]; rfl
  rw [hP]
  simp only [h1] at m1
  clear h1
  have hr := Box.new (w.alloc (.cells (cells9 M.c qR qP qT qH) 29)) cellsZ9 29
  have hb := (Box.new w (cells9 M.c qR qP qT qH) 29).le (Le.alloc _ (.cells cellsZ9 29))
  have hl := (Le.alloc w (.cells (cells9 M.c qR qP qT qH) 29)).trans (Le.alloc _ (.cells cellsZ9 29))
  rw [World.size_alloc] at hr
  go_enter Tryz.func92, Tryz.ntmps92
  go_upto_region 1 with fail
  generalize hW : (w.alloc (.cells (cells9 M.c qR qP qT qH) 29)).alloc (.cells cellsZ9 29) = W at hl hb hr ⊢
  clear hW
  have hgr := hr.lt
  obtain ⟨⟨z0, z1, z2, z3, z4⟩, z5, z6, z7, z8⟩ := (hb).mach
  go_wp2_with fail
  refine (m1 _ hl).mono ?_
  rintro e w1 ⟨rfl, l1⟩
  clear z0 z1 z2 z3 z4 z5 z6 z7 z8
  clear m1
  replace hb := hb.le l1
  replace hl := hl.trans l1
  have hgr := Nat.lt_of_lt_of_le hgr l1.size
  replace hr := hr.le l1
  clear l1
  obtain ⟨⟨r0, r1, r2, r3, r4, r5, r6, r7, r8⟩, k0, k1, k2, k3, k4, k5, k6, k7, k8⟩ := hr.res
  go_wp2_with fail
  refine bodyPost_ret (v := .tuple #[machZ, .int .i64 1600]) (by simp [results, Tryz.results92, go_sem, r0, r1, r2, r3, r4, r5, r6, r7, r8]) rfl ⟨_, rfl, OwnA.zero _ _, ?_⟩
  exact hl.put9 (c := Cfg.zero) (by omega) slZ slZ slZ slZ
 ·have hP : postM M t = (M.putT t { M.th t with po := true, re := false }, 0) := by unfold postM; rw [h1]; rfl
  rw [hP]
  obtain ⟨hmay, _, _, ⟨t0, t1⟩⟩ := thereB_cases h1
  obtain ⟨_, _, hts, _⟩ := mayM_lens hmay
  obtain ⟨t, rfl⟩ : ∃ n : Nat, t = n := ⟨t.toNat, by omega⟩
  simp only [h1] at m1
  have hti : t < M.ts.length := by omega
  clear h1 hmay t1 hts hP
  have hr := Box.new (w.alloc (.cells (cells9 M.c qR qP qT qH) 29)) cellsZ9 29
  have hb := (Box.new w (cells9 M.c qR qP qT qH) 29).le (Le.alloc _ (.cells cellsZ9 29))
  have hl := (Le.alloc w (.cells (cells9 M.c qR qP qT qH) 29)).trans (Le.alloc _ (.cells cellsZ9 29))
  rw [World.size_alloc] at hr
  go_enter Tryz.func92, Tryz.ntmps92
  go_upto_region 1 with fail
  generalize hW : (w.alloc (.cells (cells9 M.c qR qP qT qH) 29)).alloc (.cells cellsZ9 29) = W at hl hb hr ⊢
  clear hW
  have hgr := hr.lt
  obtain ⟨⟨z0, z1, z2, z3, z4⟩, z5, z6, z7, z8⟩ := (hb).mach
  go_wp2_with fail
  refine (m1 _ hl).mono ?_
  rintro e w1 ⟨rfl, l1⟩
  clear z0 z1 z2 z3 z4 z5 z6 z7 z8
  clear m1
  replace hb := hb.le l1
  replace hl := hl.trans l1
  have hgr := Nat.lt_of_lt_of_le hgr l1.size
  replace hr := hr.le l1
  clear l1
  obtain ⟨⟨z0, z1, z2, z3, z4⟩, z5, z6, z7, z8⟩ := (hb).mach
  go_wp2_with fail
  refine (m2 _ hl).mono ?_
  rintro e w9 ⟨L, rfl, HM, o1, ap, l1⟩
  clear z0 z1 z2 z3 z4 z5 z6 z7 z8
  clear m2
  have hbo := Box.new w9 (cells9 L.c L.qR L.qP L.qT L.qH) 29
  have a1 := Le.alloc w9 (.cells (cells9 L.c L.qR L.qP L.qT L.qH) 29)
  go_upto_region 4 with fail
  generalize hW1 : w9.alloc (.cells (cells9 L.c L.qR L.qP L.qT L.qH) 29) = W1 at hbo a1 ⊢
  clear hW1
  have I : MoI w1.heap.size w9.heap.size W1 L := ⟨hbo, l1.size, o1.le a1, ap⟩
  have hgo : w1.heap.size ≤ w9.heap.size := l1.size
  generalize w9.heap.size = go at hbo I hgo ⊢
  have l01 := l1.trans a1
  clear hbo o1 ap l1 a1
  obtain ⟨c', uR, uP, uT, uH, xR, xP, xT, xH⟩ := L
  try simp only at I ⊢
  replace hr := hr.le l01
  replace hb := hb.le l01
  have hlB : w.heap.size ≤ w1.heap.size := hl.size
  have hiT : t < xT.length := by have := lay_ts HM; simp only at this; omega
  have hiT' : (t : Int) < (xT.length : Int) := by omega
  obtain ⟨gT, capT, hqT, hcapT, hgBT, hgltT, hgneT, hatT, hfzT⟩ := I.openT hiT
  try simp only at hqT hatT hcapT
  subst hqT
  obtain ⟨⟨y0, y1, y2, y3, y4⟩, y5, y6, y7, y8⟩ := (I.bo).mach
  simp only [slV] at y7
  obtain ⟨_, _, _, _, _, _, _, _, x8, x9, _, _⟩ := hatT
  have f8 := hfzT (t * 12 + 8)
  have f9 := hfzT (t * 12 + 9)
  clear hfzT
  obtain ⟨x0, hx0⟩ : ∃ x0, x0 = xT.getD t thK.d := ⟨_, rfl⟩
  have I2 := I.setTx (j := 8) (u := .bool true) rfl hiT (by decide) x0 hx0.symm { x0.T with po := true } rfl rfl rfl
  have I3 := I2.setTy (j := 9) (u := .bool false) rfl hiT (by decide) { x0.T with po := true, re := false } rfl rfl rfl
  have l2 := (l01.set (g := gT) (i := t * 12 + 8) (u := .bool true) hgBT).set (g := gT) (i := t * 12 + 9) (u := .bool false) hgBT
  have hr2 := (hr.other (show w.heap.size + 1 ≠ gT by omega) (t * 12 + 8) (.bool true)).other (show w.heap.size + 1 ≠ gT by omega) (t * 12 + 9) (.bool false)
  go_upto_region 6 with fail
  generalize hW2 : (W1.setCell ⟨gT, t * 12 + 8, none⟩ (.bool true)).setCell ⟨gT, t * 12 + 9, none⟩ (.bool false) = W2 at I3 l2 hr2 ⊢
  clear y0 y1 y2 y3 y4 y5 y6 y7 y8
  clear hW2 hr hb I I2 x8 x9 f8 f9
  obtain ⟨⟨y0, y1, y2, y3, y4⟩, y5, y6, y7, y8⟩ := (I3.bo).mach
  obtain ⟨⟨r0, r1, r2, r3, r4, r5, r6, r7, r8⟩, k0, k1, k2, k3, k4, k5, k6, k7, k8⟩ := hr2.res
  go_wp2_with fail
  refine bodyPost_ret (v := .tuple #[machV c' uR uP (some ⟨gT, 0, none⟩, xT.length, capT) uH, .int .i64 0]) (by simp [results, Tryz.results92, go_sem, r0, r1, r2, r3, r4, r5, r6, r7, r8]) rfl ⟨_, rfl, ?_, (hl.trans l2).put9 (g := w.heap.size + 1) (by omega) c' uR uP (some ⟨gT, 0, none⟩, xT.length, capT) uH⟩
  have := (I3.ret hr2).base hlB
  rw [lay_setT HM] at this
  simp only [hx0, lay_th HM hiT] at this
  exact this
set_option maxRecDepth 8000 in
set_option maxHeartbeats 8000000 in
theorem rmTry (v : Value) (M : Mc) (r g t : Int) (w : World) (hx : HasM w v M) (hf : FitM M) : Calls Tryz.prog 88 #[v, .int .i64 r, .int .i64 g, .int .i64 t] w fun e w' => ∃ v', e = .returned (.tuple #[v', .bool (tryM M r g t).2.1, .int .i64 (tryM M r g t).2.2]) ∧ OwnA w' w.heap.size v' (tryM M r g t).1 ∧ Le w w' := by
 have m1 := fun w' (l : Le w w') => rmThere v M r g t w' (hx.le l) hf
 have m2 := fun w' (l : Le w w') => rmCopy v M w' (hx.le l) hf
 cases h1 : thereB M r g t
 ·have hP : tryM M r g t = (Mc.zero, false, 1500) := by unfold tryM; rw [h1]; rfl
  rw [hP]
  simp only [h1] at m1
  clear h1
  obtain ⟨qR, qP, qT, qH, rfl, _, _, _, _⟩ := hx
  have hr := Box.new (w.alloc (.cells (cells9 M.c qR qP qT qH) 29)) cellsZ9 29
  have hb := (Box.new w (cells9 M.c qR qP qT qH) 29).le (Le.alloc _ (.cells cellsZ9 29))
  have hl := (Le.alloc w (.cells (cells9 M.c qR qP qT qH) 29)).trans (Le.alloc _ (.cells cellsZ9 29))
  rw [World.size_alloc] at hr
  go_enter Tryz.func88, Tryz.ntmps88
  go_upto_region 1 with fail
  generalize hW : (w.alloc (.cells (cells9 M.c qR qP qT qH) 29)).alloc (.cells cellsZ9 29) = W at hl hb hr ⊢
  clear hW
  have hgr := hr.lt
  obtain ⟨⟨z0, z1, z2, z3, z4⟩, z5, z6, z7, z8⟩ := (hb).mach
  go_wp2_with fail
  refine (m1 _ hl).mono ?_
  rintro e w1 ⟨rfl, l1⟩
  clear z0 z1 z2 z3 z4 z5 z6 z7 z8
  clear m1
  replace hb := hb.le l1
  replace hl := hl.trans l1
  have hgr := Nat.lt_of_lt_of_le hgr l1.size
  replace hr := hr.le l1
  clear l1
  obtain ⟨⟨r0, r1, r2, r3, r4, r5, r6, r7, r8⟩, k0, k1, k2, k3, k4, k5, k6, k7, k8⟩ := hr.res
  go_wp2_with fail
  refine bodyPost_ret (v := .tuple #[machZ, .bool false, .int .i64 1500]) (by simp [results, Tryz.results88, go_sem, r0, r1, r2, r3, r4, r5, r6, r7, r8]) rfl ⟨_, rfl, OwnA.zero _ _, ?_⟩
  exact hl.put9 (c := Cfg.zero) (by omega) slZ slZ slZ slZ
 ·obtain ⟨hmay, ⟨ra, rb⟩, ⟨g0, g1⟩, ⟨t0, t1⟩⟩ := thereB_cases h1
  obtain ⟨hrs, hps, hts, _⟩ := mayM_lens hmay
  obtain ⟨_, ⟨_, r3⟩, ⟨_, l3⟩, ⟨_, t3⟩, _, _⟩ := Cfg.ok_cases (mayM_ok hmay)
  obtain ⟨r, rfl⟩ : ∃ n : Nat, r = n := ⟨r.toNat, by omega⟩
  obtain ⟨g, rfl⟩ : ∃ n : Nat, g = n := ⟨g.toNat, by omega⟩
  obtain ⟨t, rfl⟩ : ∃ n : Nat, t = n := ⟨t.toNat, by omega⟩
  have hpi : r < M.ps.length := by omega
  obtain ⟨_, _, _, hll, _⟩ := repB_cases (mayM_ps hmay _ (getD_mem (d := Rp.zero) hpi))
  have hT : tryM M r g t = if (M.rp r).lock g = 0 then (M.putP r ((M.rp r).setLock g ((t : Int) + 1)), true, 0) else (M, false, 0) := by unfold tryM; rw [h1]; rfl
  simp only [h1] at m1
  have hgl : g < (M.ps.getD r Rp.zero).ls.length := by omega
  have ht4 : (t : Int) < 4 := by omega
  have hlk : (M.rp r).lock g = (M.ps.getD r Rp.zero).ls.getD g 0 := by rw [Rp.lock, Mc.rp, Int.toNat_natCast, Int.toNat_natCast]
  rw [hlk] at hT
  obtain ⟨x, hxx⟩ : ∃ x, x = (M.ps.getD r Rp.zero).ls.getD g 0 := ⟨_, rfl⟩
  rw [← hxx] at hT
  obtain ⟨bR, oR, cR, bP, oP, cP, bT, oT, cT, qH, rfl, _, hcP, _, _⟩ := hx.opens hmay
  obtain ⟨vs, qc, ql, hatp, _, _, hlx⟩ := hcP r hpi
  obtain ⟨bL, offL, nL, cL, rfl, hgn, xL⟩ := hlx.at hgl
  rw [← hxx] at xL
  have hpi' : (r : Int) < (M.ps.length : Int) := by omega
  have hgl2 : g < (M.rp r).ls.length := by rw [Mc.rp, Int.toNat_natCast]; exact hgl
  clear hlx hlk h1 hcP hxx hll hmay hrs hps hts hgl
  by_cases hx0 : x = 0
  ·rw [hT, if_pos hx0]
   have hxb : (x != 0) = false := by simp [hx0]
   clear hT
   have hr := Box.new (w.alloc (.cells (cells9 M.c (some ⟨bR, oR, none⟩, M.rs.length, cR) (some ⟨bP, oP, none⟩, M.ps.length, cP) (some ⟨bT, oT, none⟩, M.ts.length, cT) qH) 29)) cellsZ9 29
   have hb := (Box.new w (cells9 M.c (some ⟨bR, oR, none⟩, M.rs.length, cR) (some ⟨bP, oP, none⟩, M.ps.length, cP) (some ⟨bT, oT, none⟩, M.ts.length, cT) qH) 29).le (Le.alloc _ (.cells cellsZ9 29))
   have hl := (Le.alloc w (.cells (cells9 M.c (some ⟨bR, oR, none⟩, M.rs.length, cR) (some ⟨bP, oP, none⟩, M.ps.length, cP) (some ⟨bT, oT, none⟩, M.ts.length, cT) qH) 29)).trans (Le.alloc _ (.cells cellsZ9 29))
   rw [World.size_alloc] at hr
   go_enter Tryz.func88, Tryz.ntmps88
   go_upto_region 1 with fail
   generalize hW : (w.alloc (.cells (cells9 M.c (some ⟨bR, oR, none⟩, M.rs.length, cR) (some ⟨bP, oP, none⟩, M.ps.length, cP) (some ⟨bT, oT, none⟩, M.ts.length, cT) qH) 29)).alloc (.cells cellsZ9 29) = W at hl hb hr ⊢
   clear hW
   have hgr := hr.lt
   obtain ⟨⟨z0, z1, z2, z3, z4⟩, z5, z6, z7, z8⟩ := (hb).mach
   go_wp2_with fail
   refine (m1 _ hl).mono ?_
   rintro e w1 ⟨rfl, l1⟩
   clear z0 z1 z2 z3 z4 z5 z6 z7 z8
   clear m1
   replace hb := hb.le l1
   replace hl := hl.trans l1
   have hgr := Nat.lt_of_lt_of_le hgr l1.size
   replace hr := hr.le l1
   clear l1
   obtain ⟨⟨z0, z1, z2, z3, z4⟩, z5, z6, z7, z8⟩ := (hb).mach
   go_wp2_with fail
   refine (m2 _ hl).mono ?_
   rintro e w9 ⟨L, rfl, HM, o1, ap, l1⟩
   clear z0 z1 z2 z3 z4 z5 z6 z7 z8
   clear m2
   have hbo := Box.new w9 (cells9 L.c L.qR L.qP L.qT L.qH) 29
   have a1 := Le.alloc w9 (.cells (cells9 L.c L.qR L.qP L.qT L.qH) 29)
   go_upto_region 4 with fail
   generalize hW1 : w9.alloc (.cells (cells9 L.c L.qR L.qP L.qT L.qH) 29) = W1 at hbo a1 ⊢
   clear hW1
   have I : MoI w1.heap.size w9.heap.size W1 L := ⟨hbo, l1.size, o1.le a1, ap⟩
   have hgo : w1.heap.size ≤ w9.heap.size := l1.size
   generalize w9.heap.size = go at hbo I hgo ⊢
   have l01 := l1.trans a1
   clear hbo o1 ap l1 a1
   obtain ⟨c', uR, uP, uT, uH, xR, xP, xT, xH⟩ := L
   try simp only at I ⊢
   replace hr := hr.le l01
   replace hb := hb.le l01
   have hlB : w.heap.size ≤ w1.heap.size := hl.size
   have hiP : r < xP.length := by have := lay_ps HM; simp only at this; omega
   have hiP' : (r : Int) < (xP.length : Int) := by omega
   obtain ⟨gP, capP, hqP, hcapP, hgBP, hgltP, hgneP, hatP, hfzP⟩ := I.openP hiP
   try simp only at hqP hatP hcapP
   subst hqP
   have hgl3 : g < (xP.getD r repK.d).P.ls.length := by have := lay_rp HM hiP; simp only at this; rw [this]; exact hgl2
   obtain ⟨gl, cl, hql, _, hglB, hgll, xl, fl⟩ := I.openL (k := g) hiP hgl3
   try simp only at hql xl
   have I2 := I.setLk (v := (t : Int) + 1) hiP hql hgl3
   try simp only at I2
   obtain ⟨_, _, _, _, _, q5⟩ := hatP
   obtain ⟨x0, hx0'⟩ : ∃ x0, x0 = xP.getD r repK.d := ⟨_, rfl⟩
   have HX0 : Hid (x0 = xP.getD r repK.d) := hx0'
   rw [← hx0'] at I2 hql xl q5 hgl3
   rw [hql] at q5
   obtain ⟨nl, hnl⟩ : ∃ n, n = x0.P.ls.length := ⟨_, rfl⟩
   rw [← hnl] at q5 hgl3
   have hgl4 : (g : Int) < (nl : Int) := by omega
   clear hx0' hnl hql hgl3
   have xL' := cell_le (cell_le xL hl) l01
   obtain ⟨p0, p1, p2, p3, p4, p5⟩ := (hatp.le hl).le l01
   obtain ⟨⟨z0, z1, z2, z3, z4⟩, z5, z6, z7, z8⟩ := (hb).mach
   obtain ⟨⟨y0, y1, y2, y3, y4⟩, y5, y6, y7, y8⟩ := (I.bo).mach
   simp only [slV] at z6 p5 y6 q5
   have l2 := l01.set (g := gl) (i := g) (u := .int .i64 ((t : Int) + 1)) hglB
   have hr2 := hr.other (show w.heap.size + 1 ≠ gl by omega) g (.int .i64 ((t : Int) + 1))
   go_upto_region 7 with fail
   generalize hW2 : W1.setCell ⟨gl, g, none⟩ (.int .i64 ((t : Int) + 1)) = W2 at I2 l2 hr2 ⊢
   clear y0 y1 y2 y3 y4 y5 y6 y7 y8 z0 z1 z2 z3 z4 z5 z6 z7 z8
   clear hW2 hr hb I p0 p1 p2 p3 p4 p5 xL xL' xl q5 fl
   obtain ⟨⟨y0, y1, y2, y3, y4⟩, y5, y6, y7, y8⟩ := (I2.bo).mach
   obtain ⟨⟨r0, r1, r2, r3, r4, r5, r6, r7, r8⟩, k0, k1, k2, k3, k4, k5, k6, k7, k8⟩ := hr2.res
   go_wp2_with fail
   refine bodyPost_ret (v := .tuple #[machV c' uR (some ⟨gP, 0, none⟩, xP.length, capP) uT uH, .bool true, .int .i64 0]) (by simp [results, Tryz.results88, go_sem, r0, r1, r2, r3, r4, r5, r6, r7, r8]) rfl ⟨_, rfl, ?_, (hl.trans l2).put9 (g := w.heap.size + 1) (by omega) c' uR (some ⟨gP, 0, none⟩, xP.length, capP) uT uH⟩
   have := (I2.ret hr2).base hlB
   rw [lay_setP HM] at this
   simp only [HX0.out, lay_rp HM hiP] at this
   rw [Rp.setLock, Int.toNat_natCast]
   exact this
  ·rw [hT, if_neg hx0]
   have hxb : (x != 0) = true := by simp [hx0]
   have hr := Box.new (w.alloc (.cells (cells9 M.c (some ⟨bR, oR, none⟩, M.rs.length, cR) (some ⟨bP, oP, none⟩, M.ps.length, cP) (some ⟨bT, oT, none⟩, M.ts.length, cT) qH) 29)) cellsZ9 29
   have hb := (Box.new w (cells9 M.c (some ⟨bR, oR, none⟩, M.rs.length, cR) (some ⟨bP, oP, none⟩, M.ps.length, cP) (some ⟨bT, oT, none⟩, M.ts.length, cT) qH) 29).le (Le.alloc _ (.cells cellsZ9 29))
   have hl := (Le.alloc w (.cells (cells9 M.c (some ⟨bR, oR, none⟩, M.rs.length, cR) (some ⟨bP, oP, none⟩, M.ps.length, cP) (some ⟨bT, oT, none⟩, M.ts.length, cT) qH) 29)).trans (Le.alloc _ (.cells cellsZ9 29))
   rw [World.size_alloc] at hr
   go_enter Tryz.func88, Tryz.ntmps88
   go_upto_region 1 with fail
   generalize hW : (w.alloc (.cells (cells9 M.c (some ⟨bR, oR, none⟩, M.rs.length, cR) (some ⟨bP, oP, none⟩, M.ps.length, cP) (some ⟨bT, oT, none⟩, M.ts.length, cT) qH) 29)).alloc (.cells cellsZ9 29) = W at hl hb hr ⊢
   clear hW
   have hgr := hr.lt
   obtain ⟨⟨z0, z1, z2, z3, z4⟩, z5, z6, z7, z8⟩ := (hb).mach
   go_wp2_with fail
   refine (m1 _ hl).mono ?_
   rintro e w1 ⟨rfl, l1⟩
   clear z0 z1 z2 z3 z4 z5 z6 z7 z8
   clear m1
   replace hb := hb.le l1
   replace hl := hl.trans l1
   have hgr := Nat.lt_of_lt_of_le hgr l1.size
   replace hr := hr.le l1
   clear l1
   obtain ⟨⟨z0, z1, z2, z3, z4⟩, z5, z6, z7, z8⟩ := (hb).mach
   go_wp2_with fail
   refine (m2 _ hl).mono ?_
   rintro e w9 ⟨L, rfl, HM, o1, ap, l1⟩
   clear z0 z1 z2 z3 z4 z5 z6 z7 z8
   clear m2
   have hbo := Box.new w9 (cells9 L.c L.qR L.qP L.qT L.qH) 29
   have a1 := Le.alloc w9 (.cells (cells9 L.c L.qR L.qP L.qT L.qH) 29)
   go_upto_region 4 with fail
   generalize hW1 : w9.alloc (.cells (cells9 L.c L.qR L.qP L.qT L.qH) 29) = W1 at hbo a1 ⊢
   clear hW1
   have I : MoI w1.heap.size w9.heap.size W1 L := ⟨hbo, l1.size, o1.le a1, ap⟩
   have hgo : w1.heap.size ≤ w9.heap.size := l1.size
   generalize w9.heap.size = go at hbo I hgo ⊢
   have l01 := l1.trans a1
   clear hbo o1 ap l1 a1
   obtain ⟨c', uR, uP, uT, uH, xR, xP, xT, xH⟩ := L
   try simp only at I ⊢
   replace hr := hr.le l01
   replace hb := hb.le l01
   have hlB : w.heap.size ≤ w1.heap.size := hl.size
   have xL' := cell_le (cell_le xL hl) l01
   obtain ⟨p0, p1, p2, p3, p4, p5⟩ := (hatp.le hl).le l01
   obtain ⟨⟨z0, z1, z2, z3, z4⟩, z5, z6, z7, z8⟩ := (hb).mach
   obtain ⟨⟨y0, y1, y2, y3, y4⟩, y5, y6, y7, y8⟩ := (I.bo).mach
   obtain ⟨⟨r0, r1, r2, r3, r4, r5, r6, r7, r8⟩, k0, k1, k2, k3, k4, k5, k6, k7, k8⟩ := hr.res
   simp only [slV] at z6 p5
   go_wp2_with fail
   refine bodyPost_ret (v := .tuple #[machV c' uR uP uT uH, .bool false, .int .i64 0]) (by simp [results, Tryz.results88, go_sem, r0, r1, r2, r3, r4, r5, r6, r7, r8]) rfl ⟨_, rfl, ?_, (hl.trans l01).put9 (g := w.heap.size + 1) (by omega) c' uR uP uT uH⟩
   have := (I.ret hr).base hlB
   rw [HM] at this
   exact this
theorem waiters_no {M : Mc} {r g : Int} {k : Nat} (h : waitsB M r g k = false) : waiters M r g (k + 1) = waiters M r g k := by
 unfold waiters
 rw [List.range_succ, List.filter_append, List.map_append]
 simp [h]
theorem waiters_yes {M : Mc} {r g : Int} {k : Nat} (h : waitsB M r g k = true) : waiters M r g (k + 1) = waiters M r g k ++ [(k : Int)] := by
 unfold waiters
 rw [List.range_succ, List.filter_append, List.map_append]
 simp [h]
theorem waiters_len (M : Mc) (r g : Int) (k : Nat) : (waiters M r g k).length ≤ k := by
 unfold waiters
 rw [List.length_map]
 exact Nat.le_trans (List.length_filter_le _ _) (by simp)
theorem waiters_in {M : Mc} {r g : Int} {k : Nat} {x : Int} (h : x ∈ waiters M r g k) : ∃ i : Nat, x = i ∧ i < k ∧ waitsB M r g i = true := by
 unfold waiters at h
 simp only [List.mem_map, List.mem_filter, List.mem_range] at h
 obtain ⟨i, ⟨h1, h2⟩, rfl⟩ := h
 exact ⟨i, rfl, h1, h2⟩
theorem Mc.th_nat (M : Mc) (k : Nat) : M.th (k : Int) = M.ts.getD k Th.zero := by rw [Mc.th, Int.toNat_natCast]
set_option maxRecDepth 8000 in
set_option maxHeartbeats 8000000 in
theorem rmWaiting (v : Value) (M : Mc) (r g : Int) (w : World) (hx : HasM w v M) (hf : FitM M) : Calls Tryz.prog 121 #[v, .int .i64 r, .int .i64 g] w fun e w' => ∃ q : Sl, e = .returned (.tuple #[slV q, .int .i64 (waitM M r g).2]) ∧ Own w' w.heap.size (slV q) (waitM M r g).1 ∧ Le w w' := by
 have m1 := fun w' (l : Le w w') => rmThere v M r g 0 w' (hx.le l) hf
 cases h1 : thereB M r g 0
 ·have hP : waitM M r g = ([], 1600) := by unfold waitM; rw [h1]; rfl
  rw [hP]
  simp only [h1] at m1
  clear h1
  obtain ⟨qR, qP, qT, qH, rfl, _, _, _, _⟩ := hx
  have hb := Box.new w (cells9 M.c qR qP qT qH) 29
  have hl := Le.alloc w (.cells (cells9 M.c qR qP qT qH) 29)
  go_enter Tryz.func121, Tryz.ntmps121
  go_upto_region 1 with fail
  generalize hW : w.alloc (.cells (cells9 M.c qR qP qT qH) 29) = W at hl hb ⊢
  clear hW
  obtain ⟨⟨z0, z1, z2, z3, z4⟩, z5, z6, z7, z8⟩ := (hb).mach
  go_wp2_with fail
  refine (m1 _ hl).mono ?_
  rintro e w1 ⟨rfl, l1⟩
  clear z0 z1 z2 z3 z4 z5 z6 z7 z8
  clear m1
  replace hb := hb.le l1
  replace hl := hl.trans l1
  clear l1
  go_wp2_with fail
  refine bodyPost_ret (v := .tuple #[.slice none 0 0, .int .i64 1600]) (by simp [results, Tryz.results121, go_sem]) rfl ⟨slZ, rfl, Own.nil _ _, hl⟩
 ·obtain ⟨hmay, ⟨ra, rb⟩, ⟨g0, g1⟩, _⟩ := thereB_cases h1
  obtain ⟨hrs, hps, hts, _⟩ := mayM_lens hmay
  obtain ⟨_, ⟨r2, r3⟩, ⟨_, l3⟩, ⟨t2, t3⟩, _, _⟩ := Cfg.ok_cases (mayM_ok hmay)
  have hP : waitM M r g = (waiters M r g M.c.t.toNat, 0) := by unfold waitM; rw [h1]; rfl
  rw [hP]
  simp only [h1] at m1
  obtain ⟨bR, oR, cR, bP, oP, cP, bT, oT, cT, qH, rfl, _, _, hcT, _⟩ := hx.opens hmay
  obtain ⟨n, hn⟩ : ∃ n : Nat, M.c.t = n := ⟨M.c.t.toNat, by omega⟩
  have HN : Hid (M.c.t = n) := hn
  have HTS : Hid ((M.ts.length : Int) = M.c.t) := hts
  have hn4 : n ≤ 4 := by omega
  clear h1 hrs hps hts hmay hP hn
  have hb := Box.new w (cells9 M.c (some ⟨bR, oR, none⟩, M.rs.length, cR) (some ⟨bP, oP, none⟩, M.ps.length, cP) (some ⟨bT, oT, none⟩, M.ts.length, cT) qH) 29
  have hl := Le.alloc w (.cells (cells9 M.c (some ⟨bR, oR, none⟩, M.rs.length, cR) (some ⟨bP, oP, none⟩, M.ps.length, cP) (some ⟨bT, oT, none⟩, M.ts.length, cT) qH) 29)
  go_enter Tryz.func121, Tryz.ntmps121
  go_upto_region 1 with fail
  generalize hW : w.alloc (.cells (cells9 M.c (some ⟨bR, oR, none⟩, M.rs.length, cR) (some ⟨bP, oP, none⟩, M.ps.length, cP) (some ⟨bT, oT, none⟩, M.ts.length, cT) qH) 29) = W at hl hb ⊢
  clear hW
  obtain ⟨⟨z0, z1, z2, z3, z4⟩, z5, z6, z7, z8⟩ := (hb).mach
  go_wp2_with fail
  refine (m1 _ hl).mono ?_
  rintro e w1 ⟨rfl, l1⟩
  clear z0 z1 z2 z3 z4 z5 z6 z7 z8
  clear m1
  replace hb := hb.le l1
  replace hl := hl.trans l1
  clear l1
  have hls : w.heap.size ≤ w1.heap.size := hl.size
  go_wp2_with fail
  go_loopw [8, 9] (fun o i wr => ∃ (k : Nat) (q : Sl), k ≤ n ∧ o = slV q ∧ i = .int .i64 k ∧ Hid (Own wr w1.heap.size (slV q) (waiters M r g k)) ∧ Le w1 wr) (fun _ i _ => n - (intOf i).toNat)
  case atStart => exact ⟨0, slZ, by omega, rfl, rfl, Own.nil _ _, Le.refl _⟩
  case round =>
    obtain ⟨k, q, hk, rfl, rfl, HO, hle⟩ := hrel
    obtain ⟨⟨z0, z1, z2, z3, z4⟩, z5, z6, z7, z8⟩ := ((hb.le hle)).mach
    simp only [slV] at z7
    by_cases hlt : k < n
    ·have hlt' : (k : Int) < M.c.t := by have := HN.out; omega
     have hltn : (k : Int) < (M.ts.length : Int) := by have := HN.out; have := HTS.out; omega
     obtain ⟨qb, qt, hat, _, _⟩ := hcT k (by omega)
     obtain ⟨T, hT⟩ : ∃ x, x = M.ts.getD k Th.zero := ⟨_, rfl⟩
     rw [← hT] at hat
     have HT : Hid (T = M.th (k : Int)) := by rw [Mc.th_nat]; exact hT
     clear hT
     obtain ⟨x0, x1, x2, x3, x4, x5, x6, x7, x8, x9, x10, x11⟩ := (hat.le hl).le hle
     have hbx := Box.new wr (cellsT T qb qt) 59
     have hA := Le.alloc wr (.cells (cellsT T qb qt) 59)
     go_upto_region 8 with fail
     generalize hW2 : wr.alloc (.cells (cellsT T qb qt) 59) = W2 at hbx hA ⊢
     clear hW2 x0 x1 x2 x3 x4 x5 x6 x7 x8 x9 x10 x11
     clear z0 z1 z2 z3 z4 z5 z6 z7 z8
     have h12 := hle.trans hA
     obtain ⟨⟨z0, z1, z2, z3, z4⟩, z5, z6, z7, z8⟩ := ((hb.le h12)).mach
     simp only [slV] at z7
     obtain ⟨x0, x1, x2, x3, x4, x5, x6, x7, x8, x9, x10, x11⟩ := hbx.th
     have htm : (k : Int).tmod M.c.r = (k : Int) % M.c.r := Int.tmod_eq_emod_of_nonneg (by omega)
     by_cases e1 : (k : Int) % M.c.r = r
     case neg =>
       have hno : Hid (waitsB M r g k = false) := by unfold waitsB; rw [decide_eq_false e1]; exact rfl
       have hb1 : ((k : Int) % M.c.r == r) = false := by simp [e1]
       have hb2 : ((k : Int).tmod M.c.r == r) = false := by rw [htm]; exact hb1
       clear e1 htm
       go_wp2_with fail
       go_roundw
       case rel => exact ⟨k + 1, q, by omega, rfl, by go_num, by rw [waiters_no hno.out]; exact HO.out.le hA, h12⟩
       case measure => simp [intOf]; omega
     have HE1 : Hid (decide ((k : Int) % M.c.r = r) = true) := decide_eq_true e1
     have hb1 : ((k : Int) % M.c.r == r) = true := by simp [e1]
     have hb2 : ((k : Int).tmod M.c.r == r) = true := by rw [htm]; exact hb1
     clear e1 htm
     go_wp2_with fail
     refine (refUpdates _ _ _ _).mono ?_
     rintro e w3 ⟨rfl, l3⟩
     clear x0 x1 x2 x3 x4 x5 x6 x7 x8 x9 x10 x11
     clear z0 z1 z2 z3 z4 z5 z6 z7 z8
     obtain ⟨x0, x1, x2, x3, x4, x5, x6, x7, x8, x9, x10, x11⟩ := (hbx.le l3).th
     have h13 := h12.trans l3
     have hA3 := hA.trans l3
     clear h12 hA l3
     cases e2 : opUp T.c T.r T.a
     ·have hno : Hid (waitsB M r g k = false) := by unfold waitsB; rw [HE1.out, ← HT.out, e2]; exact rfl
      go_wp2_with fail
      go_roundw
      case rel => exact ⟨k + 1, q, by omega, rfl, by go_num, by rw [waiters_no hno.out]; exact HO.out.le hA3, h13⟩
      case measure => simp [intOf]; omega
     have HE2 : Hid (opUp T.c T.r T.a = true) := e2
     clear e2
     by_cases e3 : T.lg = g
     case neg =>
       have hno : Hid (waitsB M r g k = false) := by unfold waitsB; rw [HE1.out, ← HT.out, HE2.out, decide_eq_false e3]; exact rfl
       have hb3 : (T.lg == g) = false := by simp [e3]
       clear e3
       go_wp2_with fail
       go_roundw
       case rel => exact ⟨k + 1, q, by omega, rfl, by go_num, by rw [waiters_no hno.out]; exact HO.out.le hA3, h13⟩
       case measure => simp [intOf]; omega
     have HE3 : Hid (decide (T.lg = g) = true) := decide_eq_true e3
     have hb3 : (T.lg == g) = true := by simp [e3]
     clear e3
     cases e4 : T.po
     ·rw [e4] at x8
      have hno : Hid (waitsB M r g k = false) := by unfold waitsB; rw [HE1.out, ← HT.out, HE2.out, HE3.out, e4]; exact rfl
      clear e4
      go_wp2_with fail
      go_roundw
      case rel => exact ⟨k + 1, q, by omega, rfl, by go_num, by rw [waiters_no hno.out]; exact HO.out.le hA3, h13⟩
      case measure => simp [intOf]; omega
     rw [e4] at x8
     have hyes : Hid (waitsB M r g k = true) := by unfold waitsB; rw [HE1.out, ← HT.out, HE2.out, HE3.out, e4]; exact rfl
     clear e4
     have ho := HO.out.le hA3
     have hlit := Own.lit w3 w3.heap.size (Nat.le_refl _) [(k : Int)] (by simp)
     replace hlit : Own (w3.alloc (.cells #[.int .i64 (k : Int)] 3)) w3.heap.size (.slice (some ⟨w3.heap.size, 0, none⟩) 1 1) [(k : Int)] := hlit
     have hA4 := Le.alloc w3 (.cells #[.int .i64 (k : Int)] 3)
     have ho4 := ho.le hA4
     have h14 := h13.trans hA4
     have hwl := waiters_len M r g k
     go_wp2_with (at_builtin; refine wp_append_ints rfl _ _ rfl w1.heap.size _ _ (waiters M r g k) [(k : Int)] rfl rfl ho4 hlit.has (by show ((waiters M r g k).length + 1) * 8 ≤ _; omega) h14.size ?_; intro v' w7 o8 hg8; obtain ⟨q', rfl⟩ := o8.has.sl)
     go_roundw
     case rel => exact ⟨k + 1, q', by omega, rfl, by go_num, by rw [waiters_yes hyes.out]; exact o8, Below.grown h14 hg8 h14.size (fun gz e => (ho4.block e).1)⟩
     case measure => simp [intOf]; omega
    ·obtain rfl : n = k := by omega
     have hge : M.c.t ≤ (n : Int) := by have := HN.out; omega
     go_wp2_with fail
     refine bodyPost_ret (v := .tuple #[slV q, .int .i64 0]) (by simp [results, Tryz.results121, go_sem]) rfl ⟨q, rfl, ?_, hl.trans hle⟩
     have := HO.out.base hls
     rw [HN.out, Int.toNat_natCast]
     exact this
theorem unpost_snoc (M : Mc) (bs : List Int) (b : Int) : unpost M (bs ++ [b]) = (unpost M bs).putT b { (unpost M bs).th b with po := false } := by
 unfold unpost
 rw [List.foldl_append]
 rfl
theorem rmWaitingAs (v : Value) (M : Mc) (r g : Int) (w : World) (hx : HasM w v M) (hf : FitM M) : Calls Tryz.prog 121 #[v, .int .i64 r, .int .i64 g] w fun e w' => ∃ a n c, e = .returned (.tuple #[.slice a n c, .int .i64 (waitM M r g).2]) ∧ Own w' w.heap.size (.slice a n c) (waitM M r g).1 ∧ Le w w' := by
 refine (rmWaiting v M r g w hx hf).mono ?_
 rintro e w' ⟨⟨a, n, c⟩, rfl, o, l⟩
 exact ⟨a, n, c, rfl, o, l⟩
set_option maxRecDepth 8000 in
set_option maxHeartbeats 8000000 in
theorem rmCollect (v : Value) (M : Mc) (t : Int) (w : World) (hx : HasM w v M) (hf : FitM M) : Calls Tryz.prog 93 #[v, .int .i64 t] w fun e w' => ∃ v', e = .returned (.tuple #[v', .int .i64 (collectM M t).2]) ∧ OwnA w' w.heap.size v' (collectM M t).1 ∧ Le w w' := by
 have m1 := fun w' (l : Le w w') => rmThere v M 0 0 t w' (hx.le l) hf
 have m2 := fun w' (l : Le w w') => rmCopy v M w' (hx.le l) hf
 cases h1 : thereB M 0 0 t
 ·have hP : collectM M t = (Mc.zero, 1700) := by unfold collectM; rw [h1]; rfl
  rw [hP]
  simp only [h1] at m1
  clear h1
  obtain ⟨qR, qP, qT, qH, rfl, _, _, _, _⟩ := hx
  have hr := Box.new (w.alloc (.cells (cells9 M.c qR qP qT qH) 29)) cellsZ9 29
  have hb := (Box.new w (cells9 M.c qR qP qT qH) 29).le (Le.alloc _ (.cells cellsZ9 29))
  have hl := (Le.alloc w (.cells (cells9 M.c qR qP qT qH) 29)).trans (Le.alloc _ (.cells cellsZ9 29))
  rw [World.size_alloc] at hr
  go_enter Tryz.func93, Tryz.ntmps93
  go_upto_region 1 with fail
  generalize hW : (w.alloc (.cells (cells9 M.c qR qP qT qH) 29)).alloc (.cells cellsZ9 29) = W at hl hb hr ⊢
  clear hW
  have hgr := hr.lt
  obtain ⟨⟨z0, z1, z2, z3, z4⟩, z5, z6, z7, z8⟩ := (hb).mach
  go_wp2_with fail
  refine (m1 _ hl).mono ?_
  rintro e w1 ⟨rfl, l1⟩
  clear z0 z1 z2 z3 z4 z5 z6 z7 z8
  clear m1
  replace hb := hb.le l1
  replace hl := hl.trans l1
  have hgr := Nat.lt_of_lt_of_le hgr l1.size
  replace hr := hr.le l1
  clear l1
  obtain ⟨⟨r0, r1, r2, r3, r4, r5, r6, r7, r8⟩, k0, k1, k2, k3, k4, k5, k6, k7, k8⟩ := hr.res
  go_wp2_with fail
  refine bodyPost_ret (v := .tuple #[machZ, .int .i64 1700]) (by simp [results, Tryz.results93, go_sem, r0, r1, r2, r3, r4, r5, r6, r7, r8]) rfl ⟨_, rfl, OwnA.zero _ _, ?_⟩
  exact hl.put9 (c := Cfg.zero) (by omega) slZ slZ slZ slZ
 ·obtain ⟨hmay, _, _, ⟨t0, t1⟩⟩ := thereB_cases h1
  obtain ⟨hrs, hps, hts, _⟩ := mayM_lens hmay
  obtain ⟨_, ⟨r2, r3⟩, ⟨_, l3⟩, ⟨t2, t3⟩, _, _⟩ := Cfg.ok_cases (mayM_ok hmay)
  obtain ⟨t, rfl⟩ : ∃ n : Nat, t = n := ⟨t.toNat, by omega⟩
  have hti : t < M.ts.length := by omega
  have hti' : (t : Int) < (M.ts.length : Int) := by omega
  have m3 := fun w' (l : Le w w') => rmWaitingAs v M (M.home t) (M.th t).lg w' (hx.le l) hf
  obtain ⟨bR, oR, cR, bP, oP, cP, bT, oT, cT, qH, rfl, _, _, hcT, _⟩ := hx.opens hmay
  obtain ⟨qb, qt, hat, _, _⟩ := hcT t hti
  rw [← Mc.th_nat] at hat
  simp only [h1] at m1
  clear hcT
  by_cases h2 : (M.th t).st = 3
  case neg =>
    have hP : collectM M t = (Mc.zero, 1700) := by unfold collectM; rw [h1, decide_eq_false h2]; rfl
    rw [hP]
    have h2b : ((M.th t).st != 3) = true := by simp [h2]
    clear h1 hmay hrs hps hts hP h2
    have hr := Box.new (w.alloc (.cells (cells9 M.c (some ⟨bR, oR, none⟩, M.rs.length, cR) (some ⟨bP, oP, none⟩, M.ps.length, cP) (some ⟨bT, oT, none⟩, M.ts.length, cT) qH) 29)) cellsZ9 29
    have hb := (Box.new w (cells9 M.c (some ⟨bR, oR, none⟩, M.rs.length, cR) (some ⟨bP, oP, none⟩, M.ps.length, cP) (some ⟨bT, oT, none⟩, M.ts.length, cT) qH) 29).le (Le.alloc _ (.cells cellsZ9 29))
    have hl := (Le.alloc w (.cells (cells9 M.c (some ⟨bR, oR, none⟩, M.rs.length, cR) (some ⟨bP, oP, none⟩, M.ps.length, cP) (some ⟨bT, oT, none⟩, M.ts.length, cT) qH) 29)).trans (Le.alloc _ (.cells cellsZ9 29))
    rw [World.size_alloc] at hr
    go_enter Tryz.func93, Tryz.ntmps93
    go_upto_region 1 with fail
    generalize hW : (w.alloc (.cells (cells9 M.c (some ⟨bR, oR, none⟩, M.rs.length, cR) (some ⟨bP, oP, none⟩, M.ps.length, cP) (some ⟨bT, oT, none⟩, M.ts.length, cT) qH) 29)).alloc (.cells cellsZ9 29) = W at hl hb hr ⊢
    clear hW
    have hgr := hr.lt
    obtain ⟨⟨z0, z1, z2, z3, z4⟩, z5, z6, z7, z8⟩ := (hb).mach
    go_wp2_with fail
    refine (m1 _ hl).mono ?_
    rintro e w1 ⟨rfl, l1⟩
    clear z0 z1 z2 z3 z4 z5 z6 z7 z8
    clear m1
    replace hb := hb.le l1
    replace hl := hl.trans l1
    have hgr := Nat.lt_of_lt_of_le hgr l1.size
    replace hr := hr.le l1
    clear l1
    obtain ⟨x0, x1, x2, x3, x4, x5, x6, x7, x8, x9, x10, x11⟩ := hat.le hl
    obtain ⟨⟨z0, z1, z2, z3, z4⟩, z5, z6, z7, z8⟩ := (hb).mach
    simp only [slV] at z7
    obtain ⟨⟨r0, r1, r2, r3, r4, r5, r6, r7, r8⟩, k0, k1, k2, k3, k4, k5, k6, k7, k8⟩ := hr.res
    go_wp2_with fail
    refine bodyPost_ret (v := .tuple #[machZ, .int .i64 1700]) (by simp [results, Tryz.results93, go_sem, r0, r1, r2, r3, r4, r5, r6, r7, r8]) rfl ⟨_, rfl, OwnA.zero _ _, ?_⟩
    exact hl.put9 (c := Cfg.zero) (by omega) slZ slZ slZ slZ
  obtain ⟨bs, hbs⟩ : ∃ bs, bs = (waitM M (M.home t) (M.th t).lg).1 := ⟨_, rfl⟩
  obtain ⟨er, her⟩ : ∃ er, er = (waitM M (M.home t) (M.th t).lg).2 := ⟨_, rfl⟩
  have hP : collectM M t = ((unpost M bs).putT t { (unpost M bs).th t with b := bs, pl := 0, st := if bs = [] then 9 else 4 }, 0) := by unfold collectM; rw [h1, decide_eq_true h2, ← hbs]; rfl
  rw [hP]
  have h2b : ((M.th t).st != 3) = false := by simp [h2]
  simp only [← hbs, ← her] at m3
  have hbin : ∀ x ∈ bs, ∃ i : Nat, x = i ∧ i < M.ts.length := by
    intro x hx
    rw [hbs] at hx
    unfold waitM at hx
    split at hx
    ·obtain ⟨i, rfl, hi, _⟩ := waiters_in hx
     exact ⟨i, rfl, by omega⟩
    ·cases hx
  have hbl : bs.length ≤ 4 := by
    rw [hbs]
    unfold waitM
    split
    ·exact Nat.le_trans (waiters_len _ _ _ _) (by omega)
    ·simp
  obtain ⟨ho, hho⟩ : ∃ x, x = M.home (t : Int) := ⟨_, rfl⟩
  have htm : (t : Int).tmod M.c.r = ho := by rw [hho]; exact Int.tmod_eq_emod_of_nonneg (by omega)
  have htm2 : (t : Int) % M.c.r = ho := by rw [hho]; rfl
  have hne0 : ¬ M.c.r = 0 := by omega
  have HB : Hid (∀ x ∈ bs, ∃ i : Nat, x = i ∧ i < M.ts.length) := hbin
  obtain ⟨lg, hlg⟩ : ∃ x, x = (M.th t).lg := ⟨_, rfl⟩
  rw [← hlg, ← hho] at m3
  have HLG : Hid (lg = (M.th t).lg) := hlg
  clear hho hlg
  clear h1 hmay hrs hps hts hP h2 hbin hbs her
  have hr := Box.new (w.alloc (.cells (cells9 M.c (some ⟨bR, oR, none⟩, M.rs.length, cR) (some ⟨bP, oP, none⟩, M.ps.length, cP) (some ⟨bT, oT, none⟩, M.ts.length, cT) qH) 29)) cellsZ9 29
  have hb := (Box.new w (cells9 M.c (some ⟨bR, oR, none⟩, M.rs.length, cR) (some ⟨bP, oP, none⟩, M.ps.length, cP) (some ⟨bT, oT, none⟩, M.ts.length, cT) qH) 29).le (Le.alloc _ (.cells cellsZ9 29))
  have hl := (Le.alloc w (.cells (cells9 M.c (some ⟨bR, oR, none⟩, M.rs.length, cR) (some ⟨bP, oP, none⟩, M.ps.length, cP) (some ⟨bT, oT, none⟩, M.ts.length, cT) qH) 29)).trans (Le.alloc _ (.cells cellsZ9 29))
  rw [World.size_alloc] at hr
  go_enter Tryz.func93, Tryz.ntmps93
  go_upto_region 1 with fail
  generalize hW : (w.alloc (.cells (cells9 M.c (some ⟨bR, oR, none⟩, M.rs.length, cR) (some ⟨bP, oP, none⟩, M.ps.length, cP) (some ⟨bT, oT, none⟩, M.ts.length, cT) qH) 29)).alloc (.cells cellsZ9 29) = W at hl hb hr ⊢
  clear hW
  have hgr := hr.lt
  obtain ⟨⟨z0, z1, z2, z3, z4⟩, z5, z6, z7, z8⟩ := (hb).mach
  go_wp2_with fail
  refine (m1 _ hl).mono ?_
  rintro e w1 ⟨rfl, l1⟩
  clear z0 z1 z2 z3 z4 z5 z6 z7 z8
  clear m1
  replace hb := hb.le l1
  replace hl := hl.trans l1
  have hgr := Nat.lt_of_lt_of_le hgr l1.size
  replace hr := hr.le l1
  clear l1
  obtain ⟨x0, x1, x2, x3, x4, x5, x6, x7, x8, x9, x10, x11⟩ := hat.le hl
  obtain ⟨⟨y0, y1, y2, y3, y4⟩, y5, y6, y7, y8⟩ := (hb).mach
  simp only [slV] at y7
  go_upto_region 3 with fail
  clear y0 y1 y2 y3 y4 y5 y6 y7 y8
  clear x0 x1 x2 x3 x4 x5 x6 x7 x8 x9 x10 x11
  obtain ⟨⟨z0, z1, z2, z3, z4⟩, z5, z6, z7, z8⟩ := (hb).mach
  go_wp2_with fail
  refine (m2 _ hl).mono ?_
  rintro e w9 ⟨L, rfl, HM, o1, ap, l1⟩
  clear z0 z1 z2 z3 z4 z5 z6 z7 z8
  clear m2
  have hbo := Box.new w9 (cells9 L.c L.qR L.qP L.qT L.qH) 29
  have a1 := Le.alloc w9 (.cells (cells9 L.c L.qR L.qP L.qT L.qH) 29)
  go_upto_region 4 with fail
  generalize hW1 : w9.alloc (.cells (cells9 L.c L.qR L.qP L.qT L.qH) 29) = W1 at hbo a1 ⊢
  clear hW1
  have I : MoI w1.heap.size w9.heap.size W1 L := ⟨hbo, l1.size, o1.le a1, ap⟩
  have hgo : w1.heap.size ≤ w9.heap.size := l1.size
  generalize w9.heap.size = go at hbo I hgo ⊢
  have l01 := l1.trans a1
  clear hbo o1 ap l1 a1
  obtain ⟨c', uR, uP, uT, uH, xR, xP, xT, xH⟩ := L
  try simp only at I ⊢
  replace hr := hr.le l01
  replace hb := hb.le l01
  have hlB : w.heap.size ≤ w1.heap.size := hl.size
  obtain ⟨⟨z0, z1, z2, z3, z4⟩, z5, z6, z7, z8⟩ := (hb).mach
  obtain ⟨_, _, _, _, x4, _, _, _, _, _, _, _⟩ := (hat.le hl).le l01
  rw [← HLG.out] at x4
  simp only [slV] at z5 z6 z7
  have m3' := m3 W1.drew ((hl.trans l01).trans (Le.drew _))
  go_region_held3 (fun w' => w'.cell? ⟨w.heap.size, 0, none⟩ = some (.int .i64 M.c.o) ∧ w'.cell? ⟨w.heap.size, 1, none⟩ = some (.int .i64 M.c.r) ∧ w'.cell? ⟨w.heap.size, 2, none⟩ = some (.int .i64 M.c.l) ∧ w'.cell? ⟨w.heap.size, 3, none⟩ = some (.int .i64 M.c.t) ∧ w'.cell? ⟨w.heap.size, 4, none⟩ = some (.int .i64 M.c.s) ∧ w'.cell? ⟨w.heap.size, 5, none⟩ = some (.slice (some ⟨bR, oR, none⟩) M.rs.length cR) ∧ w'.cell? ⟨w.heap.size, 6, none⟩ = some (.slice (some ⟨bP, oP, none⟩) M.ps.length cP) ∧ w'.cell? ⟨w.heap.size, 7, none⟩ = some (.slice (some ⟨bT, oT, none⟩) M.ts.length cT) ∧ w'.cell? ⟨w.heap.size, 8, none⟩ = some (slV qH) ∧ w'.cell? ⟨bT, oT + t * 12 + 4, none⟩ = some (.int .i64 lg)) (go_keep) (first
    | (go_at_call 121; refine m3'.mono ?_; rintro e w4 ⟨q0, q1, q2, rfl, oq, l4⟩; have l5 := (Le.drew W1).trans l4; have z0' := cell_le z0 l5; have z1' := cell_le z1 l5; have z2' := cell_le z2 l5; have z3' := cell_le z3 l5; have z4' := cell_le z4 l5; have z5' := cell_le z5 l5; have z6' := cell_le z6 l5; have z7' := cell_le z7 l5; have z8' := cell_le z8 l5; have x4' := cell_le x4 l5))
  have hbel := I.own.bel
  have hW1 : w1.heap.size ≤ W1.heap.size := l01.size
  have oq' : Own w4 w1.heap.size (.slice q0 q1 q2) bs := oq.base hW1
  have hqn : ∀ c, (slV (q0, q1, q2)).ownBlock = some c → W1.heap.size ≤ c := fun c e => (oq.block e).1
  have I4 := I.le l5
  have hr4 := hr.le l5
  have l45 := l01.trans l5
  clear m3 m3' z0 z1 z2 z3 z4 z5 z6 z7 z8 x4 z0' z1' z2' z3' z4' z5' z6' z7' z8' x4' hb hr l4 l5 oq
  have hiT : t < xT.length := by have := lay_ts HM; simp only at this; omega
  have hiT' : (t : Int) < (xT.length : Int) := by omega
  obtain ⟨gT, capT, hqT, hcapT, hgBT, hgltT, hgneT, hatT, hfzT⟩ := I.openT hiT
  try simp only at hqT hatT hcapT
  subst hqT
  clear hatT hfzT
  have hqlen : q1 = bs.length := own_len (q := (q0, q1, q2)) oq'
  have HQL : Hid (q1 = bs.length) := hqlen
  have HXT : Hid (xT.length = M.ts.length) := lay_ts HM
  have hq4 : q1 ≤ 4 := by omega
  clear hqlen I hbl
  go_wp2_with fail
  go_loopw [9] (fun i wr => ∃ (k : Nat) (ts : List LT), k ≤ q1 ∧ i = .int .i64 k ∧ Hid (MoI w1.heap.size go wr ⟨c', uR, uP, (some ⟨gT, 0, none⟩, xT.length, capT), uH, xR, xP, ts, xH⟩ ∧ (⟨c', uR, uP, (some ⟨gT, 0, none⟩, xT.length, capT), uH, xR, xP, ts, xH⟩ : Lay).M = unpost M (bs.take k) ∧ ts.length = xT.length ∧ (⟨c', uR, uP, (some ⟨gT, 0, none⟩, xT.length, capT), uH, xR, xP, ts, xH⟩ : Lay).Below W1.heap.size ∧ Box wr (w.heap.size + 1) cellsZ9 29 ∧ Own wr w1.heap.size (.slice q0 q1 q2) bs ∧ Le w1 wr)) (fun i _ => q1 - (intOf i).toNat)
  case atStart => exact ⟨0, xT, by omega, rfl, I4, HM, rfl, hbel, hr4, oq', l45⟩
  case round =>
    clear I4 HM hbel hr4 oq' l45
    obtain ⟨k, ts, hk, rfl, HI⟩ := hrel
    obtain ⟨I, HM, hlen, hbel, hr, oq, hle⟩ := HI.out
    have HLEN : Hid (ts.length = xT.length) := hlen
    clear HI hlen
    by_cases hlt : k < q1
    ·obtain ⟨j, hj, hjl⟩ := HB.out (bs.getD k 0) (getD_mem (by have := HQL.out; omega))
     have HJ : Hid (bs.getD k 0 = (j : Int)) := hj
     have hjx : j < ts.length := by have := HLEN.out; have := HXT.out; omega
     have hjx' : (j : Int) < (xT.length : Int) := by have := HLEN.out; omega
     obtain ⟨hgne', hgl', hgB', hatj, hfzj⟩ := I.thAt rfl hjx
     obtain ⟨_, _, _, _, _, _, _, _, x8, _, _, _⟩ := hatj
     have f8 := hfzj (j * 12 + 8)
     obtain ⟨⟨y0, y1, y2, y3, y4⟩, y5, y6, y7, y8⟩ := (I.bo).mach
     simp only [slV] at y7
     obtain ⟨gl, cl, hql, _, _, _, xl, _⟩ := own_open (q := (q0, q1, q2)) oq (show k < bs.length by have := HQL.out; omega)
     simp only [Prod.mk.injEq] at hql
     obtain ⟨rfl, hh, rfl⟩ := hql
     clear hh
     have hne2 : gT ≠ gl := by
       have := own_k (g := gT) I.own.oT oq (by decide) rfl
       simp [Value.ownBlock] at this
       exact fun e => this e.symm
     rw [HJ.out] at xl
     have hltq : (k : Int) < (q1 : Int) := by omega
     have I2 := I.setTx (j := 8) (u := .bool false) rfl hjx (by decide) _ rfl { (ts.getD j thK.d).T with po := false } rfl rfl rfl
     have HM2 : Hid (Lay.M ⟨c', uR, uP, (some ⟨gT, 0, none⟩, xT.length, capT), uH, xR, xP, ts.set j ⟨{ (ts.getD j thK.d).T with po := false }, (ts.getD j thK.d).b, (ts.getD j thK.d).t⟩, xH⟩ = unpost M (bs.take (k + 1))) := by
       rw [List.take_succ_eq_append_getElem (by have := HQL.out; omega), unpost_snoc]
       have h1 := HJ.out
       rw [show bs.getD k 0 = bs[k]'(by have := HQL.out; omega) by simp [List.getD, show k < bs.length by have := HQL.out; omega]] at h1
       rw [h1]
       have h2 := lay_th HM hjx
       simp only at h2
       rw [← h2]
       exact lay_setT HM j ⟨{ (ts.getD j thK.d).T with po := false }, (ts.getD j thK.d).b, (ts.getD j thK.d).t⟩
     have hbel2 : Hid (Lay.Below ⟨c', uR, uP, (some ⟨gT, 0, none⟩, xT.length, capT), uH, xR, xP, ts.set j ⟨{ (ts.getD j thK.d).T with po := false }, (ts.getD j thK.d).b, (ts.getD j thK.d).t⟩, xH⟩ W1.heap.size) := by
       refine ⟨hbel.1, fun p b e => ?_⟩
       cases p with
       | rep a d => exact hbel.2 (.rep a d) b e
       | th a d =>
         refine hbel.2 (.th a d) b ?_
         simp only [Lay.at, getD_set _ _ _ _ _ hjx] at e ⊢
         by_cases e1 : a = j
         ·subst e1
          rw [if_pos rfl] at e
          match d, e with
          | 0, e => exact e
          | 1, e => exact e
          | _ + 2, e => simp [LT.row, Value.ownBlock] at e
         ·rw [if_neg e1] at e; exact e
     clear hbel
     have hne3 : ¬ gT = go := fun e => hgne' e.symm
     go_upto_region 8 with fail
     go_region_held3 (fun w' => w'.cell? ⟨go, 7, none⟩ = some (.slice (some ⟨gT, 0, none⟩) xT.length capT) ∧ w'.cell? ⟨gl, k, none⟩ = some (.int .i64 (j : Int))) (go_keep) (fail)
     go_wp2_with fail
     go_roundw
     case rel => exact ⟨k + 1, _, by omega, by go_num, I2.le (Le.drew _), HM2.out, by rw [List.length_set]; exact HLEN.out, hbel2.out, (hr.other (show w.heap.size + 1 ≠ gT by omega) _ _).le (Le.drew _), Own.le (ownsRow_setCell_other oq (by simp only [Value.ownBlock, ne_eq, Option.some.injEq]; exact fun e => hne2 e.symm) _) (Le.drew _), (hle.set hgB').trans (Le.drew _)⟩
     case measure => simp [intOf]; omega
    ·obtain rfl : q1 = k := by omega
     have htk : bs.take q1 = bs := by rw [HQL.out, List.take_length]
     rw [htk] at HM
     have hit : t < ts.length := by have := HLEN.out; omega
     obtain ⟨hgne', hgl', hgB', hatt, hfzt⟩ := I.thAt rfl hit
     obtain ⟨x0, _, _, _, _, _, x6, x7, _, _, _, _⟩ := hatt
     have f0 := hfzt (t * 12)
     have f6 := hfzt (t * 12 + 6)
     have f7 := hfzt (t * 12 + 7)
     obtain ⟨X, hX⟩ : ∃ X, X = ts.getD t thK.d := ⟨_, rfl⟩
     have HX : Hid (X.T = (unpost M bs).th t) := by rw [hX]; exact lay_th HM hit
     have I2 := I.setTb rfl hit X hX.symm (q0, q1, q2) bs oq hbel (.inr hqn)
     have I3 := I2.setTy (j := 7) (u := .int .i64 0) rfl hit (by decide) { X.T with b := bs, pl := 0 } rfl rfl rfl
     have I4 := I3.setTy (j := 0) (u := .int .i64 4) rfl hit (by decide) { X.T with b := bs, pl := 0, st := 4 } rfl rfl rfl
     rw [← hX] at x0 x6 x7
     clear hX hfzt htk hlt hk
     obtain ⟨⟨y0, y1, y2, y3, y4⟩, y5, y6, y7, y8⟩ := (I.bo).mach
     simp only [slV] at y7
     have l2 := ((hle.set (i := t * 12 + 6) (u := .slice q0 q1 q2) hgB').set (i := t * 12 + 7) (u := .int .i64 0) hgB').set (i := t * 12 + 0) (u := .int .i64 4) hgB'
     have hne1 : w.heap.size + 1 ≠ gT := by omega
     have hr2 := ((hr.other hne1 (t * 12 + 6) (.slice q0 q1 q2)).other hne1 (t * 12 + 7) (.int .i64 0)).other hne1 (t * 12 + 0) (.int .i64 4)
     go_upto_region 12 with fail
     clear x0 x6 x7 f0 f6 f7 I2 I3
     clear y0 y1 y2 y3 y4 y5 y6 y7 y8
     generalize hW2 : ((wr.setCell ⟨gT, t * 12 + 6, none⟩ (.slice q0 q1 q2)).setCell ⟨gT, t * 12 + 7, none⟩ (.int .i64 0)).setCell ⟨gT, t * 12 + 0, none⟩ (.int .i64 4) = W2 at I4 l2 hr2 ⊢
     clear hW2 I hr hle oq
     have HM4 : Hid (Lay.M ⟨c', uR, uP, (some ⟨gT, 0, none⟩, xT.length, capT), uH, xR, xP, ts.set t ⟨{ X.T with b := bs, pl := 0, st := 4 }, (q0, q1, q2), X.t⟩, xH⟩ = (unpost M bs).putT t { (unpost M bs).th t with b := bs, pl := 0, st := 4 }) := by
       rw [← HX.out]
       exact lay_setT HM t ⟨{ X.T with b := bs, pl := 0, st := 4 }, (q0, q1, q2), X.t⟩
     by_cases hb0 : bs = []
     ·have hq0 : ((q1 : Int) == 0) = true := by have := HQL.out; rw [hb0] at this; simp at this; simp [this]
      have HB0 : Hid (bs = []) := hb0
      clear hb0
      obtain ⟨⟨y0, y1, y2, y3, y4⟩, y5, y6, y7, y8⟩ := (I4.bo).mach
      simp only [slV] at y7
      have x0 := (I4.thAt rfl (by rw [List.length_set]; exact hit)).2.2.2.1.1
      have f0 := (I4.thAt rfl (by rw [List.length_set]; exact hit)).2.2.2.2 (t * 12)
      have I5 := I4.setTy (j := 0) (u := .int .i64 9) rfl hit (by decide) { X.T with b := bs, pl := 0, st := 9 } rfl rfl rfl
      have HM5 : Hid (Lay.M ⟨c', uR, uP, (some ⟨gT, 0, none⟩, xT.length, capT), uH, xR, xP, ts.set t ⟨{ X.T with b := bs, pl := 0, st := 9 }, (q0, q1, q2), X.t⟩, xH⟩ = (unpost M bs).putT t { (unpost M bs).th t with b := bs, pl := 0, st := 9 }) := by
        rw [← HX.out]
        exact lay_setT HM t ⟨{ X.T with b := bs, pl := 0, st := 9 }, (q0, q1, q2), X.t⟩
      have l5 := l2.set (i := t * 12 + 0) (u := .int .i64 9) hgB'
      have hr5 := hr2.other hne1 (t * 12 + 0) (.int .i64 9)
      go_upto_region 14 with fail
      clear x0 f0
      clear y0 y1 y2 y3 y4 y5 y6 y7 y8
      generalize hW5 : W2.setCell ⟨gT, t * 12 + 0, none⟩ (.int .i64 9) = W5 at I5 l5 hr5 ⊢
      clear hW5 I4 l2 hr2
      obtain ⟨⟨y0, y1, y2, y3, y4⟩, y5, y6, y7, y8⟩ := (I5.bo).mach
      obtain ⟨⟨r0, r1, r2, r3, r4, r5, r6, r7, r8⟩, k0, k1, k2, k3, k4, k5, k6, k7, k8⟩ := hr5.res
      go_wp2_with fail
      refine bodyPost_ret (v := .tuple #[machV c' uR uP (some ⟨gT, 0, none⟩, xT.length, capT) uH, .int .i64 0]) (by simp [results, Tryz.results93, go_sem, r0, r1, r2, r3, r4, r5, r6, r7, r8]) rfl ⟨_, rfl, ?_, (hl.trans l5).put9 (g := w.heap.size + 1) (by omega) c' uR uP (some ⟨gT, 0, none⟩, xT.length, capT) uH⟩
      have := (I5.ret hr5).base hlB
      rw [HM5.out] at this
      simp only [HB0.out] at this
      exact this
     ·have hq0 : ((q1 : Int) == 0) = false := by have := HQL.out; have : q1 ≠ 0 := fun e => hb0 (List.length_eq_zero_iff.1 (by omega)); simp; omega
      have HB0 : Hid (¬ bs = []) := hb0
      clear hb0
      obtain ⟨⟨y0, y1, y2, y3, y4⟩, y5, y6, y7, y8⟩ := (I4.bo).mach
      obtain ⟨⟨r0, r1, r2, r3, r4, r5, r6, r7, r8⟩, k0, k1, k2, k3, k4, k5, k6, k7, k8⟩ := hr2.res
      go_wp2_with fail
      refine bodyPost_ret (v := .tuple #[machV c' uR uP (some ⟨gT, 0, none⟩, xT.length, capT) uH, .int .i64 0]) (by simp [results, Tryz.results93, go_sem, r0, r1, r2, r3, r4, r5, r6, r7, r8]) rfl ⟨_, rfl, ?_, (hl.trans l2).put9 (g := w.heap.size + 1) (by omega) c' uR uP (some ⟨gT, 0, none⟩, xT.length, capT) uH⟩
      have := (I4.ret hr2).base hlB
      rw [HM4.out] at this
      exact this
set_option maxHeartbeats 1000000 in
theorem refNewRing (n : Int) (w : World) : Calls Tryz.prog 86 #[.int .i64 n] w fun e w' => ∃ v', e = .returned (.tuple #[v', .int .i64 (newS n).2]) ∧ OwnR w' w.heap.size v' (newS n).1 ∧ Le w w' := by
 have m1 := fun w => refSlotsMay n w
 have hb := Box.new w (cellsR 0 0 0 slZ) 55
 have hl := Le.alloc w (.cells (cellsR 0 0 0 slZ) 55)
 obtain ⟨b0, b1, b2, b3, f0, f1, f2, f3⟩ := hb.ring
 cases hn : slotsB n
 ·rw [hn] at m1
  simp only [newS, hn]
  go_enter Tryz.func86, Tryz.ntmps86
  go_wp2_with (go_at_call 78; refine (m1 _).mono ?_; rintro e _ ⟨rfl, rfl⟩)
  refine bodyPost_ret (v := .tuple #[ringZ, .int .i64 1000]) (by simp [results, Tryz.results86, go_sem]) rfl ⟨_, rfl, OwnR.zero _ _, ?_⟩
  exact hl
 ·rw [hn] at m1
  simp only [newS, hn]
  have k2 := make2
  have k4 := make4
  have k8 := make8
  have k16 := make16
  rcases slotsB_cases hn with rfl | rfl | rfl | rfl
  ·go_enter Tryz.func86, Tryz.ntmps86
   go_wp2_with (go_at_call 78; refine (m1 _).mono ?_; rintro e _ ⟨rfl, rfl⟩)
   refine bodyPost_ret (v := .tuple #[ringV 0 0 0 (some ⟨w.heap.size + 1, 0, none⟩, 2, 2), .int .i64 0]) (by simp [results, Tryz.results86, go_sem]) rfl ⟨_, rfl, ⟨_, rfl, ?_⟩, (Le.alloc _ _).trans (Le.alloc _ _)⟩
   have := OwnL.made (w.alloc (.cells (cellsR 0 0 0 (some ⟨w.heap.size + 1, 0, none⟩, 2, 2)) 55)) w.heap.size 2 (by simp) (by decide)
   simp only [World.size_alloc] at this
   exact this
  ·go_enter Tryz.func86, Tryz.ntmps86
   go_wp2_with (go_at_call 78; refine (m1 _).mono ?_; rintro e _ ⟨rfl, rfl⟩)
   refine bodyPost_ret (v := .tuple #[ringV 0 0 0 (some ⟨w.heap.size + 1, 0, none⟩, 4, 4), .int .i64 0]) (by simp [results, Tryz.results86, go_sem]) rfl ⟨_, rfl, ⟨_, rfl, ?_⟩, (Le.alloc _ _).trans (Le.alloc _ _)⟩
   have := OwnL.made (w.alloc (.cells (cellsR 0 0 0 (some ⟨w.heap.size + 1, 0, none⟩, 4, 4)) 55)) w.heap.size 4 (by simp) (by decide)
   simp only [World.size_alloc] at this
   exact this
  ·go_enter Tryz.func86, Tryz.ntmps86
   go_wp2_with (go_at_call 78; refine (m1 _).mono ?_; rintro e _ ⟨rfl, rfl⟩)
   refine bodyPost_ret (v := .tuple #[ringV 0 0 0 (some ⟨w.heap.size + 1, 0, none⟩, 8, 8), .int .i64 0]) (by simp [results, Tryz.results86, go_sem]) rfl ⟨_, rfl, ⟨_, rfl, ?_⟩, (Le.alloc _ _).trans (Le.alloc _ _)⟩
   have := OwnL.made (w.alloc (.cells (cellsR 0 0 0 (some ⟨w.heap.size + 1, 0, none⟩, 8, 8)) 55)) w.heap.size 8 (by simp) (by decide)
   simp only [World.size_alloc] at this
   exact this
  ·go_enter Tryz.func86, Tryz.ntmps86
   go_wp2_with (go_at_call 78; refine (m1 _).mono ?_; rintro e _ ⟨rfl, rfl⟩)
   refine bodyPost_ret (v := .tuple #[ringV 0 0 0 (some ⟨w.heap.size + 1, 0, none⟩, 16, 16), .int .i64 0]) (by simp [results, Tryz.results86, go_sem]) rfl ⟨_, rfl, ⟨_, rfl, ?_⟩, (Le.alloc _ _).trans (Le.alloc _ _)⟩
   have := OwnL.made (w.alloc (.cells (cellsR 0 0 0 (some ⟨w.heap.size + 1, 0, none⟩, 16, 16)) 55)) w.heap.size 16 (by simp) (by decide)
   simp only [World.size_alloc] at this
   exact this
set_option maxHeartbeats 1000000 in
theorem refFreeTo (v : Value) (R : Rg) (p : Int) (w : World) (hx : HasR w v R) (hf : FitR R) : Calls Tryz.prog 145 #[v, .int .i64 p] w fun e w' =>
   ∃ v', e = .returned (.tuple #[v', .int .i64 (freeRS R p).2]) ∧ OwnR w' w.heap.size v' (freeRS R p).1 ∧ Le w w' := by
 have hmay := fun w' (l : Le w w') => refRingMay v R w' (hx.le l) hf
 unfold freeRS freeB
 obtain ⟨hh, t, f, ss⟩ := R
 obtain ⟨q, rfl, hq⟩ := hx
 simp only at hq hmay ⊢
 replace hf : ss.length * 40 ≤ 140737488351232 := hf
 have hl := (Le.alloc w (.cells (cellsR hh t f q) 55)).trans (Le.alloc _ (.cells (cellsR 0 0 0 slZ) 55))
 have hb := (Box.new w (cellsR hh t f q) 55).le (Le.alloc _ (.cells (cellsR 0 0 0 slZ) 55))
 have hb2 := Box.new (w.alloc (.cells (cellsR hh t f q) 55)) (cellsR 0 0 0 slZ) 55
 rw [World.size_alloc] at hb2
 have hm := hmay _ hl
 clear hmay
 cases h1 : mayR ⟨hh, t, f, ss⟩
 ·rw [h1] at hm
  simp only [Bool.false_and]
  clear h1
  go_enter Tryz.func145, Tryz.ntmps145
  go_wp2_with fail
  refine hm.mono ?_
  rintro e w1 ⟨rfl, l1⟩
  obtain ⟨z0, z1, z2, z3, f0, f1, f2, f3⟩ := (hb2.le l1).ring
  go_wp2_with fail
  refine bodyPost_ret (v := .tuple #[ringZ, .int .i64 1000]) (by simp [results, Tryz.results145, go_sem, z0, z1, z2, z3]) rfl ⟨_, rfl, OwnR.zero _ _, ?_⟩
  exact (hl.trans l1).put4 (by omega)
 ·rw [h1] at hm
  clear h1
  rcases (by omega : p < hh ∨ (hh ≤ p ∧ t < p) ∨ (hh ≤ p ∧ p ≤ t)) with h2 | ⟨h2, h3⟩ | ⟨h2, h3⟩
  ·rw [show (true && decide (hh ≤ p) && decide (p ≤ t)) = false by simp; omega]
   simp only [Bool.false_eq_true, ↓reduceIte]
   go_enter Tryz.func145, Tryz.ntmps145
   go_wp2_with fail
   refine hm.mono ?_
   rintro e w1 ⟨rfl, l1⟩
   obtain ⟨b0, b1, b2, b3, _, _, _, _⟩ := (hb.le l1).ring
   obtain ⟨z0, z1, z2, z3, f0, f1, f2, f3⟩ := (hb2.le l1).ring
   go_wp2_with fail
   refine bodyPost_ret (v := .tuple #[ringZ, .int .i64 1000]) (by simp [results, Tryz.results145, go_sem, z0, z1, z2, z3]) rfl ⟨_, rfl, OwnR.zero _ _, ?_⟩
   exact (hl.trans l1).put4 (by omega)
  ·rw [show (true && decide (hh ≤ p) && decide (p ≤ t)) = false by simp; omega]
   simp only [Bool.false_eq_true, ↓reduceIte]
   go_enter Tryz.func145, Tryz.ntmps145
   go_wp2_with fail
   refine hm.mono ?_
   rintro e w1 ⟨rfl, l1⟩
   obtain ⟨b0, b1, b2, b3, _, _, _, _⟩ := (hb.le l1).ring
   obtain ⟨z0, z1, z2, z3, f0, f1, f2, f3⟩ := (hb2.le l1).ring
   go_wp2_with fail
   refine bodyPost_ret (v := .tuple #[ringZ, .int .i64 1000]) (by simp [results, Tryz.results145, go_sem, z0, z1, z2, z3]) rfl ⟨_, rfl, OwnR.zero _ _, ?_⟩
   exact (hl.trans l1).put4 (by omega)
  ·rw [show (true && decide (hh ≤ p) && decide (p ≤ t)) = true by simp; omega]
   simp only
   go_enter Tryz.func145, Tryz.ntmps145
   go_wp2_with fail
   refine hm.mono ?_
   rintro e w1 ⟨rfl, l1⟩
   obtain ⟨b0, b1, b2, b3, _, _, _, _⟩ := (hb.le l1).ring
   go_wp2_with fail
   have hap := refCopyRing hh t f q ss _ (hq.le (hl.trans l1)) hf
   refine hap.mono ?_
   rintro e w2 ⟨u, rfl, hown, l2⟩
   have hbz := (hb2.le l1).le l2
   have hlw := (hl.trans l1).trans l2
   have hne1 : (slV u).ownBlock ≠ some (w.heap.size + 1) := hown.off (hb2.le l1).lt
   have hbs : w.heap.size ≤ w1.heap.size := (hl.trans l1).size
   have hlt := hbz.lt
   have m1 : ¬ w.heap.size + 1 = w2.heap.size := by omega
   have hbo := Box.new w2 (cellsR p t f u) 55
   have lo := Le.alloc w2 (.cells (cellsR p t f u) 55)
   clear b0 b1 b2 b3 hap hm hb hb2 hl
   go_upto_region 5 with fail
   generalize hW : w2.alloc (.cells (cellsR p t f u) 55) = W at hbo lo ⊢
   clear hW
   obtain ⟨c0, c1, c2, c3, _, _, _, _⟩ := hbo.ring
   obtain ⟨z0, z1, z2, z3, f0, f1, f2, f3⟩ := (hbz.le lo).ring
   go_wp2_with fail
   refine bodyPost_ret (v := .tuple #[ringV p t f u, .int .i64 0]) (by simp [results, Tryz.results145, go_sem, z0, z1, z2, z3]) rfl ⟨_, rfl, ⟨u, rfl, ?_⟩, ?_⟩
   ·exact ((hown.le lo).set4 hne1).base (by omega)
   ·exact (hlw.trans lo).put4 (by omega)
set_option maxHeartbeats 1000000 in
theorem refEntryNo (v : Value) (R : Rg) (p : Int) (w : World) (hx : HasR w v R) (hf : FitR R) (h : mayR R = false) : Calls Tryz.prog 15 #[v, .int .i64 p] w fun e w' =>
   e = .returned (.tuple #[slotZ, .int .i64 1000]) ∧ Le w w' := by
 have hmay := fun w' (l : Le w w') => refRingMay v R w' (hx.le l) hf
 obtain ⟨hh, t, f, ss⟩ := R
 obtain ⟨q, rfl, hq⟩ := hx
 simp only at hq hmay ⊢
 have hl := (Le.alloc w (.cells (cellsR hh t f q) 55)).trans (Le.alloc _ (.cells #[.int .i64 0, .int .i64 0, .int .i64 0, .int .i64 0, .int .i64 0] 50))
 have hb2 := Box.new (w.alloc (.cells (cellsR hh t f q) 55)) #[.int .i64 0, .int .i64 0, .int .i64 0, .int .i64 0, .int .i64 0] 50
 rw [World.size_alloc] at hb2
 have hm := hmay _ hl
 rw [h] at hm
 clear hmay h
 go_enter Tryz.func15, Tryz.ntmps15
 go_wp2_with fail
 refine hm.mono ?_
 rintro e w1 ⟨rfl, l1⟩
 obtain ⟨z0, z1, z2, z3, z4⟩ := (hb2.le l1).slot
 obtain ⟨f0, f1, f2, f3, f4⟩ := (hb2.le l1).slotF
 go_wp2_with fail
 refine bodyPost_ret (v := .tuple #[slotZ, .int .i64 1000]) (by simp [results, Tryz.results15, go_sem, z0, z1, z2, z3, z4]) rfl ⟨rfl, ?_⟩
 exact (hl.trans l1).put5 (by omega)
set_option maxHeartbeats 1000000 in
theorem refEntryOff (v : Value) (R : Rg) (p : Int) (w : World) (hx : HasR w v R) (h : mayR R = true) (h2 : hasB R.h R.t p = false) : Calls Tryz.prog 15 #[v, .int .i64 p] w fun e w' =>
   e = .returned (.tuple #[slotZ, .int .i64 1002]) ∧ Le w w' := by
 have hmay := fun w' (l : Le w w') => refRingMay v R w' (hx.le l) (mayR_fit h)
 obtain ⟨hh, t, f, ss⟩ := R
 obtain ⟨q, rfl, hq⟩ := hx
 simp only at hq hmay h2 ⊢
 have hl := (Le.alloc w (.cells (cellsR hh t f q) 55)).trans (Le.alloc _ (.cells #[.int .i64 0, .int .i64 0, .int .i64 0, .int .i64 0, .int .i64 0] 50))
 have hb := (Box.new w (cellsR hh t f q) 55).le (Le.alloc _ (.cells #[.int .i64 0, .int .i64 0, .int .i64 0, .int .i64 0, .int .i64 0] 50))
 have hb2 := Box.new (w.alloc (.cells (cellsR hh t f q) 55)) #[.int .i64 0, .int .i64 0, .int .i64 0, .int .i64 0, .int .i64 0] 50
 rw [World.size_alloc] at hb2
 have hm := hmay _ hl
 rw [h] at hm
 have h3 : p < hh ∨ (hh ≤ p ∧ t ≤ p) := by simp [hasB] at h2; omega
 clear hmay h h2
 rcases h3 with h3 | ⟨h3, h4⟩
 all_goals
   go_enter Tryz.func15, Tryz.ntmps15
   go_wp2_with fail
   refine hm.mono ?_
   rintro e w1 ⟨rfl, l1⟩
   obtain ⟨b0, b1, b2, b3, _, _, _, _⟩ := (hb.le l1).ring
   obtain ⟨z0, z1, z2, z3, z4⟩ := (hb2.le l1).slot
   obtain ⟨f0, f1, f2, f3, f4⟩ := (hb2.le l1).slotF
   go_wp2_with fail
   refine bodyPost_ret (v := .tuple #[slotZ, .int .i64 1002]) (by simp [results, Tryz.results15, go_sem, z0, z1, z2, z3, z4]) rfl ⟨rfl, ?_⟩
   exact (hl.trans l1).put5 (by omega)
set_option maxHeartbeats 1000000 in
theorem refEntryIn (v : Value) (R : Rg) (p : Int) (w : World) (hx : HasR w v R) (h : mayR R = true) (h2 : hasB R.h R.t p = true) : Calls Tryz.prog 15 #[v, .int .i64 p] w fun e w' =>
   e = .returned (.tuple #[(entryS R p).1.v, .int .i64 (entryS R p).2]) ∧ Le w w' := by
 have hmay := fun w' (l : Le w w') => refRingMay v R w' (hx.le l) (mayR_fit h)
 have hp : 0 ≤ p ∧ p ≤ 1048576 := by have := mayR_nums h; simp [hasB] at h2; omega
 have hsl := seat_lt (p := p) h
 have hse := seat_eq (p := p) h hp.1
 have hlen := mayR_len h
 simp only [entryS, h, if_true, entryB, h2, Bool.true_and]
 obtain ⟨hh, t, f, ss⟩ := R
 obtain ⟨q, rfl, hq⟩ := hx
 simp only at hq hmay h2 hsl hse hlen ⊢
 generalize seat ⟨hh, t, f, ss⟩ p = i at hsl hse ⊢
 obtain ⟨s, hs⟩ : ∃ s, s = ss.getD i Slt.zero := ⟨_, rfl⟩
 rw [← hs]
 have hal := fun w => refAlive s.c s.r s.a s.t s.b p ss.length w
 rw [aliveS_yes (mayR_slots h) (by simp [holdB, hp.1, hp.2])] at hal
 have hl := (Le.alloc w (.cells (cellsR hh t f q) 55)).trans (Le.alloc _ (.cells #[.int .i64 0, .int .i64 0, .int .i64 0, .int .i64 0, .int .i64 0] 50))
 have hb := (Box.new w (cellsR hh t f q) 55).le (Le.alloc _ (.cells #[.int .i64 0, .int .i64 0, .int .i64 0, .int .i64 0, .int .i64 0] 50))
 have hb2 := Box.new (w.alloc (.cells (cellsR hh t f q) 55)) #[.int .i64 0, .int .i64 0, .int .i64 0, .int .i64 0, .int .i64 0] 50
 rw [World.size_alloc] at hb2
 have hm := hmay _ hl
 rw [h] at hm
 obtain ⟨h3, h4⟩ : hh ≤ p ∧ p < t := by simpa [hasB] using h2
 obtain ⟨a, cap, hqv, hcap, _, hxx⟩ := hq
 obtain ⟨b, off, rfl, hcell⟩ := hxx (by omega)
 have hci := hcell i hsl
 rw [← hs] at hci
 obtain ⟨qa, n, qc⟩ := q
 simp only [slV, Value.slice.injEq] at hqv
 obtain ⟨rfl, hn, rfl⟩ := hqv
 rw [← hn] at hse hlen hsl hal hcap ⊢
 generalize decide (s.b = bitAt p n) = y at hal ⊢
 clear hmay h h2 hcell hxx hn hs
 go_enter Tryz.func15, Tryz.ntmps15
 go_wp2_with fail
 refine hm.mono ?_
 rintro e w1 ⟨rfl, l1⟩
 obtain ⟨b0, b1, b2, b3, _, _, _, _⟩ := (hb.le l1).ring
 clear hm
 replace hb := hb.le l1
 replace hb2 := hb2.le l1
 replace hci := hci.le (hl.trans l1)
 replace hl := hl.trans l1
 clear l1
 obtain ⟨x0, x1, x2, x3, x4⟩ := hci
 obtain ⟨n0, n1⟩ : (0 : Int) ≤ (i : Int) ∧ (i : Int) < (n : Int) := by omega
 have n2 : ¬ n = 0 := by omega
 replace b3 : w1.cell? ⟨w.heap.size, 3, none⟩ = some (.slice (some ⟨b, off, none⟩) n qc) := b3
 go_upto_region 5 with fail
 go_region_held3 (fun w' => w'.cell? ⟨w.heap.size, 3, none⟩ = some (.slice (some ⟨b, off, none⟩) n qc) ∧ w'.cell? ⟨b, off + i * 5, none⟩ = some (.int .i64 s.c) ∧ w'.cell? ⟨b, off + i * 5 + 1, none⟩ = some (.int .i64 s.r) ∧ w'.cell? ⟨b, off + i * 5 + 2, none⟩ = some (.int .i64 s.a) ∧ w'.cell? ⟨b, off + i * 5 + 3, none⟩ = some (.int .i64 s.t) ∧ w'.cell? ⟨b, off + i * 5 + 4, none⟩ = some (.int .i64 s.b)) (go_keep) (fail)
 go_wp2_with fail
 refine (hal _).mono ?_
 rintro e w3 ⟨rfl, l3⟩
 have hbs := (Box.new w1 #[.int .i64 s.c, .int .i64 s.r, .int .i64 s.a, .int .i64 s.t, .int .i64 s.b] 50).le ((Le.drew _).trans l3)
 have l4 := ((Le.alloc w1 (.cells #[.int .i64 s.c, .int .i64 s.r, .int .i64 s.a, .int .i64 s.t, .int .i64 s.b] 50)).trans (Le.drew _)).trans l3
 obtain ⟨z0, z1, z2, z3, z4⟩ := (hb2.le l4).slot
 obtain ⟨f0, f1, f2, f3, f4⟩ := (hb2.le l4).slotF
 obtain ⟨y0, y1, y2, y3, y4⟩ := hbs.slot
 clear x0 x1 x2 x3 x4 b0 b1 b2 b3 n0 n1 n2 hse hal hb hb2 l3
 cases y
 ·go_wp2_with fail
  refine bodyPost_ret (v := .tuple #[slotZ, .int .i64 1002]) (by simp [results, Tryz.results15, go_sem, z0, z1, z2, z3, z4]) rfl ⟨rfl, ?_⟩
  exact (hl.trans l4).put5 (by omega)
 ·go_wp2_with fail
  refine bodyPost_ret (v := .tuple #[s.v, .int .i64 0]) (by simp [results, Tryz.results15, go_sem, z0, z1, z2, z3, z4]) rfl ⟨rfl, ?_⟩
  exact (hl.trans l4).put5 (by omega)
theorem refEntry (v : Value) (R : Rg) (p : Int) (w : World) (hx : HasR w v R) (hf : FitR R) : Calls Tryz.prog 15 #[v, .int .i64 p] w fun e w' =>
   e = .returned (.tuple #[(entryS R p).1.v, .int .i64 (entryS R p).2]) ∧ Le w w' := by
 cases h : mayR R
 ·rw [show entryS R p = (Slt.zero, 1000) by simp [entryS, h]]
  exact refEntryNo v R p w hx hf h
 ·cases h2 : hasB R.h R.t p
  ·rw [show entryS R p = (Slt.zero, 1002) by simp [entryS, entryB, h, h2]]
   exact refEntryOff v R p w hx h h2
  ·exact refEntryIn v R p w hx h h2
set_option maxHeartbeats 2000000 in
theorem refReserveNo (v : Value) (R : Rg) (k : Int) (w : World) (hx : HasR w v R) (hf : FitR R) (h : askB R k = false) : Calls Tryz.prog 123 #[v, .int .i64 k] w fun e w' => e = .returned (.tuple #[ringZ, .int .i64 0, .int .i64 1000]) ∧ Le w w' := by
 have hmay := fun w' (l : Le w w') => refRingMay v R w' (hx.le l) hf
 unfold askB at h
 have hfl : R.ss.length ≤ 4611686018427387904 := by unfold FitR at hf; omega
 obtain ⟨hh, t, f, ss⟩ := R
 obtain ⟨q, rfl, hq⟩ := hx
 simp only at h hfl hq hmay ⊢
 have hn := hq.len
 rw [← hn] at h hfl
 clear hn
 have hl := (Le.alloc w (.cells (cellsR hh t f q) 55)).trans (Le.alloc _ (.cells (cellsR 0 0 0 slZ) 55))
 have hb := (Box.new w (cellsR hh t f q) 55).le (Le.alloc _ (.cells (cellsR 0 0 0 slZ) 55))
 have hb2 := Box.new (w.alloc (.cells (cellsR hh t f q) 55)) (cellsR 0 0 0 slZ) 55
 rw [World.size_alloc] at hb2
 have hm := hmay _ hl
 cases h1 : mayR ⟨hh, t, f, ss⟩
 ·rw [h1] at hm
  go_enter Tryz.func123, Tryz.ntmps123
  go_wp2_with fail
  refine hm.mono ?_
  rintro e w1 ⟨rfl, l1⟩
  obtain ⟨z0, z1, z2, z3, f0, f1, f2, f3⟩ := (hb2.le l1).ring
  go_wp2
  refine bodyPost_ret (v := .tuple #[ringZ, .int .i64 0, .int .i64 1000]) (by simp [results, Tryz.results123, go_sem, z0, z1, z2, z3]) rfl ⟨rfl, ?_⟩
  iterate 4 refine Le.set ?_ (by omega)
  exact hl.trans l1
 ·rw [h1] at hm
  have h2 : (decide (1 ≤ k) && decide (k ≤ (q.2.1 : Int))) = false := by simpa [h1] using h
  have hu := fun w => refUpTo k 1 q.2.1 w
  rw [h2] at hu
  clear h h2 h1 hmay
  go_enter Tryz.func123, Tryz.ntmps123
  go_wp2_with fail
  refine hm.mono ?_
  rintro e w1 ⟨rfl, l1⟩
  obtain ⟨z0, z1, z2, z3, f0, f1, f2, f3⟩ := (hb2.le l1).ring
  obtain ⟨b0, b1, b2, b3, _, _, _, _⟩ := (hb.le l1).ring
  go_wp2_with fail
  refine (hu _).mono ?_
  rintro e _ ⟨rfl, rfl⟩
  go_wp2_with fail
  refine bodyPost_ret (v := .tuple #[ringZ, .int .i64 0, .int .i64 1000]) (by simp [results, Tryz.results123, go_sem, z0, z1, z2, z3]) rfl ⟨rfl, ?_⟩
  iterate 4 refine Le.set ?_ (by omega)
  exact hl.trans l1
set_option maxHeartbeats 1000000 in
theorem refReserveFull (v : Value) (R : Rg) (k : Int) (w : World) (hx : HasR w v R) (h : askB R k = true) (h2 : roomB R k = false) : Calls Tryz.prog 123 #[v, .int .i64 k] w fun e w' =>
   e = .returned (.tuple #[ringZ, .int .i64 0, .int .i64 1001]) ∧ Le w w' := by
 have h1 : mayR R = true := by simp [askB] at h; exact h.1.1
 have hk : 1 ≤ k ∧ k ≤ R.ss.length := by simp [askB] at h; exact ⟨h.1.2, h.2⟩
 have hf := mayR_fit h1
 have hlen := mayR_len h1
 obtain ⟨n0, n1, n2, n3⟩ := mayR_nums h1
 have hmay := fun w' (l : Le w w') => refRingMay v R w' (hx.le l) hf
 unfold roomB at h2
 obtain ⟨hh, t, f, ss⟩ := R
 obtain ⟨q, rfl, hq⟩ := hx
 simp only at hq hmay hk hlen n0 n1 n2 n3 h2 ⊢
 replace hf : ss.length * 40 ≤ 140737488351232 := hf
 have hn := hq.len
 rw [← hn] at hk n3 hlen h2
 obtain ⟨k1, k2⟩ := hk
 have k3 : k ≤ 16 := by omega
 have hq0 : q.2.1 ≤ 4611686018427387904 := by omega
 have hl := (Le.alloc w (.cells (cellsR hh t f q) 55)).trans (Le.alloc _ (.cells (cellsR 0 0 0 slZ) 55))
 have hb := (Box.new w (cellsR hh t f q) 55).le (Le.alloc _ (.cells (cellsR 0 0 0 slZ) 55))
 have hb2 := Box.new (w.alloc (.cells (cellsR hh t f q) 55)) (cellsR 0 0 0 slZ) 55
 rw [World.size_alloc] at hb2
 have hsum : IntKind.i64.wrap (t + k) = t + k := by rw [IntKind.wrap_i64]; omega
 have hsum2 : IntKind.i64.wrap (hh + (q.2.1 : Int)) = hh + (q.2.1 : Int) := by rw [IntKind.wrap_i64]; omega
 have hu := fun w => refUpTo k 1 q.2.1 w
 rw [in_yes k1 k2] at hu
 have hm := hmay _ hl
 rw [h1] at hm
 have HN : Hid (q.2.1 = ss.length) := hn
 clear hn hmay h h1 hlen
 have h3 : f ≠ 0 ∨ f = 0 ∧ hh + (q.2.1 : Int) < t + k ∨ f = 0 ∧ t + k ≤ hh + (q.2.1 : Int) ∧ 1048576 < t + k := by
   by_cases e : f = 0
   ·simp [e, placesB] at h2
    omega
   ·exact .inl e
 clear h2
 rcases h3 with h3 | ⟨rfl, h4⟩ | ⟨rfl, h4, h5⟩
 ·have hfn : (f != 0) = true := by simp [h3]
  clear h3
  go_enter Tryz.func123, Tryz.ntmps123
  go_wp2_with fail
  refine hm.mono ?_
  rintro e w1 ⟨rfl, l1⟩
  obtain ⟨b0, b1, b2, b3, _, _, _, _⟩ := (hb.le l1).ring
  go_wp2_with fail
  refine (hu _).mono ?_
  rintro e _ ⟨rfl, rfl⟩
  obtain ⟨z0, z1, z2, z3, f0, f1, f2, f3⟩ := (hb2.le l1).ring
  go_wp2_with fail
  refine bodyPost_ret (v := .tuple #[ringZ, .int .i64 0, .int .i64 1001]) (by simp [results, Tryz.results123, go_sem, z0, z1, z2, z3]) rfl ⟨rfl, ?_⟩
  exact (hl.trans l1).put4 (by omega)
 ·go_enter Tryz.func123, Tryz.ntmps123
  go_wp2_with fail
  refine hm.mono ?_
  rintro e w1 ⟨rfl, l1⟩
  obtain ⟨b0, b1, b2, b3, _, _, _, _⟩ := (hb.le l1).ring
  go_wp2_with fail
  refine (hu _).mono ?_
  rintro e _ ⟨rfl, rfl⟩
  obtain ⟨z0, z1, z2, z3, f0, f1, f2, f3⟩ := (hb2.le l1).ring
  go_wp2_with fail
  refine bodyPost_ret (v := .tuple #[ringZ, .int .i64 0, .int .i64 1001]) (by simp [results, Tryz.results123, go_sem, z0, z1, z2, z3]) rfl ⟨rfl, ?_⟩
  exact (hl.trans l1).put4 (by omega)
 ·go_enter Tryz.func123, Tryz.ntmps123
  go_wp2_with fail
  refine hm.mono ?_
  rintro e w1 ⟨rfl, l1⟩
  obtain ⟨b0, b1, b2, b3, _, _, _, _⟩ := (hb.le l1).ring
  go_wp2_with fail
  refine (hu _).mono ?_
  rintro e _ ⟨rfl, rfl⟩
  obtain ⟨z0, z1, z2, z3, f0, f1, f2, f3⟩ := (hb2.le l1).ring
  go_wp2_with fail
  refine bodyPost_ret (v := .tuple #[ringZ, .int .i64 0, .int .i64 1001]) (by simp [results, Tryz.results123, go_sem, z0, z1, z2, z3]) rfl ⟨rfl, ?_⟩
  exact (hl.trans l1).put4 (by omega)
set_option maxHeartbeats 1000000 in
theorem refReserveOk (v : Value) (R : Rg) (k : Int) (w : World) (hx : HasR w v R) (h : askB R k = true) (h2 : roomB R k = true) : Calls Tryz.prog 123 #[v, .int .i64 k] w fun e w' =>
   ∃ v', e = .returned (.tuple #[v', .int .i64 R.t, .int .i64 0]) ∧ OwnR w' w.heap.size v' ⟨R.h, R.t + k, R.f, R.ss⟩ ∧ Le w w' := by
 have h1 : mayR R = true := by simp [askB] at h; exact h.1.1
 have hk : 1 ≤ k ∧ k ≤ R.ss.length := by simp [askB] at h; exact ⟨h.1.2, h.2⟩
 have hf := mayR_fit h1
 have hlen := mayR_len h1
 obtain ⟨n0, n1, n2, n3⟩ := mayR_nums h1
 have hmay := fun w' (l : Le w w') => refRingMay v R w' (hx.le l) hf
 unfold roomB at h2
 obtain ⟨hh, t, f, ss⟩ := R
 obtain ⟨q, rfl, hq⟩ := hx
 simp only at hq hmay hk hlen n0 n1 n2 n3 h2 ⊢
 replace hf : ss.length * 40 ≤ 140737488351232 := hf
 have hn := hq.len
 rw [← hn] at hk n3 hlen h2
 obtain ⟨k1, k2⟩ := hk
 have k3 : k ≤ 16 := by omega
 have hq0 : q.2.1 ≤ 4611686018427387904 := by omega
 have hl := (Le.alloc w (.cells (cellsR hh t f q) 55)).trans (Le.alloc _ (.cells (cellsR 0 0 0 slZ) 55))
 have hb := (Box.new w (cellsR hh t f q) 55).le (Le.alloc _ (.cells (cellsR 0 0 0 slZ) 55))
 have hb2 := Box.new (w.alloc (.cells (cellsR hh t f q) 55)) (cellsR 0 0 0 slZ) 55
 rw [World.size_alloc] at hb2
 have hsum : IntKind.i64.wrap (t + k) = t + k := by rw [IntKind.wrap_i64]; omega
 have hsum2 : IntKind.i64.wrap (hh + (q.2.1 : Int)) = hh + (q.2.1 : Int) := by rw [IntKind.wrap_i64]; omega
 have hu := fun w => refUpTo k 1 q.2.1 w
 rw [in_yes k1 k2] at hu
 have hm := hmay _ hl
 rw [h1] at hm
 have HN : Hid (q.2.1 = ss.length) := hn
 clear hn hmay h h1 hlen
 obtain ⟨rfl, h4, h5⟩ : f = 0 ∧ t + k ≤ hh + (q.2.1 : Int) ∧ t + k ≤ 1048576 := by simp [placesB] at h2; omega
 clear h2
 go_enter Tryz.func123, Tryz.ntmps123
 go_wp2_with fail
 refine hm.mono ?_
 rintro e w1 ⟨rfl, l1⟩
 obtain ⟨b0, b1, b2, b3, _, _, _, _⟩ := (hb.le l1).ring
 go_wp2_with fail
 refine (hu _).mono ?_
 rintro e _ ⟨rfl, rfl⟩
 go_wp2_with fail
 have hap := refCopyRing hh t 0 q ss _ (hq.le (hl.trans l1)) hf
 refine hap.mono ?_
 rintro e w2 ⟨u, rfl, hown, l2⟩
 have hbr := (hb.le l1).le l2
 have hbz := (hb2.le l1).le l2
 have hlw := (hl.trans l1).trans l2
 have hne1 : (slV u).ownBlock ≠ some (w.heap.size + 1) := hown.off (hb2.le l1).lt
 have hbs : w.heap.size ≤ w1.heap.size := (hl.trans l1).size
 have hlt := hbz.lt
 have m1 : ¬ w.heap.size + 1 = w2.heap.size := by omega
 have m2 : ¬ w.heap.size = w2.heap.size := by omega
 have hbo := Box.new w2 (cellsR hh (t + k) 0 u) 55
 have lo := Le.alloc w2 (.cells (cellsR hh (t + k) 0 u) 55)
 clear b0 b1 b2 b3 hap hm hb hb2 hl hu
 obtain ⟨b0, b1, b2, b3, _, _, _, _⟩ := (hbr.le (Le.alloc w2 (.cells (cellsR hh t 0 u) 55))).ring
 go_upto_region 7 with fail
 generalize hW : w2.alloc (.cells (cellsR hh (t + k) 0 u) 55) = W at hbo lo ⊢
 clear hW b0 b1 b2 b3
 obtain ⟨c0, c1, c2, c3, _, _, _, _⟩ := hbo.ring
 obtain ⟨b0, b1, b2, b3, _, _, _, _⟩ := (hbr.le lo).ring
 obtain ⟨z0, z1, z2, z3, f0, f1, f2, f3⟩ := (hbz.le lo).ring
 go_region_held3 (fun w' => w'.cell? ⟨w2.heap.size, 0, none⟩ = some (.int .i64 hh) ∧ w'.cell? ⟨w2.heap.size, 1, none⟩ = some (.int .i64 (t + k)) ∧ w'.cell? ⟨w2.heap.size, 2, none⟩ = some (.int .i64 0) ∧ w'.cell? ⟨w2.heap.size, 3, none⟩ = some (slV u) ∧ w'.cell? ⟨w.heap.size, 1, none⟩ = some (.int .i64 t)) (go_keep) (fail)
 all_goals
   go_wp2_with fail
   refine bodyPost_ret (v := .tuple #[ringV hh (t + k) 0 u, .int .i64 t, .int .i64 0]) (by simp [results, Tryz.results123, go_sem, z0, z1, z2, z3]) rfl ⟨_, rfl, ⟨u, rfl, ?_⟩, ?_⟩
   ·first
    | exact ((((hown.le lo).set4 hne1).le (Le.drew _)).base (by omega))
    | exact ((((hown.le lo).le (Le.drew _)).set4 hne1).base (by omega))
   ·first
    | exact ((hlw.trans lo).put4 (by omega)).trans (Le.drew _)
    | exact ((hlw.trans lo).trans (Le.drew _)).put4 (by omega)
theorem refReserve (v : Value) (R : Rg) (k : Int) (w : World) (hx : HasR w v R) (hf : FitR R) : Calls Tryz.prog 123 #[v, .int .i64 k] w fun e w' =>
   ∃ v', e = .returned (.tuple #[v', .int .i64 (reserveS R k).2.1, .int .i64 (reserveS R k).2.2]) ∧ OwnR w' w.heap.size v' (reserveS R k).1 ∧ Le w w' := by
 cases h : askB R k
 ·rw [show reserveS R k = (Rg.zero, 0, 1000) by simp [reserveS, h]]
  exact (refReserveNo v R k w hx hf h).mono fun e w' ⟨he, hl⟩ => ⟨_, he, OwnR.zero _ _, hl⟩
 ·cases h2 : roomB R k
  ·rw [show reserveS R k = (Rg.zero, 0, 1001) by simp [reserveS, h, h2]]
   exact (refReserveFull v R k w hx h h2).mono fun e w' ⟨he, hl⟩ => ⟨_, he, OwnR.zero _ _, hl⟩
  ·rw [show reserveS R k = (⟨R.h, R.t + k, R.f, R.ss⟩, R.t, 0) by simp [reserveS, h, h2]]
   exact refReserveOk v R k w hx h h2
set_option maxHeartbeats 1000000 in
theorem refPublishRing (v : Value) (R : Rg) (p c r a th : Int) (w : World) (hx : HasR w v R) (hf : FitR R) (h : mayR R = false) : Calls Tryz.prog 124 #[v, .int .i64 p, opV c r a, .int .i64 th] w fun e w' =>
   e = .returned (.tuple #[ringZ, .int .i64 1000]) ∧ Le w w' := by
 have hmay := fun w' (l : Le w w') => refRingMay v R w' (hx.le l) hf
 obtain ⟨hh, t, f, ss⟩ := R
 obtain ⟨q, rfl, hq⟩ := hx
 simp only at hq hmay ⊢
 have hl := ((Le.alloc w (.cells (cellsR hh t f q) 55)).trans (Le.alloc _ (.cells #[.int .i64 c, .int .i64 r, .int .i64 a] 48))).trans (Le.alloc _ (.cells (cellsR 0 0 0 slZ) 55))
 have hb := ((Box.new w (cellsR hh t f q) 55).le (Le.alloc _ (.cells #[.int .i64 c, .int .i64 r, .int .i64 a] 48))).le (Le.alloc _ (.cells (cellsR 0 0 0 slZ) 55))
 have hb1 := (Box.new (w.alloc (.cells (cellsR hh t f q) 55)) #[.int .i64 c, .int .i64 r, .int .i64 a] 48).le (Le.alloc _ (.cells (cellsR 0 0 0 slZ) 55))
 have hb2 := Box.new ((w.alloc (.cells (cellsR hh t f q) 55)).alloc (.cells #[.int .i64 c, .int .i64 r, .int .i64 a] 48)) (cellsR 0 0 0 slZ) 55
 simp only [World.size_alloc] at hb1 hb2
 have hm := hmay _ hl
 rw [h] at hm
 clear hmay h hf
 go_enter Tryz.func124, Tryz.ntmps124
 go_wp2_with fail
 refine hm.mono ?_
 rintro e w1 ⟨rfl, l1⟩
 obtain ⟨z0, z1, z2, z3, f0, f1, f2, f3⟩ := (hb2.le l1).ring
 go_wp2_with fail
 refine bodyPost_ret (v := .tuple #[ringZ, .int .i64 1000]) (by simp [results, Tryz.results124, go_sem, z0, z1, z2, z3]) rfl ⟨rfl, ?_⟩
 exact (hl.trans l1).put4 (by omega)
set_option maxHeartbeats 1000000 in
theorem refPublishOff (v : Value) (R : Rg) (p c r a th : Int) (w : World) (hx : HasR w v R) (h : mayR R = true) (h2 : hasB R.h R.t p = false) : Calls Tryz.prog 124 #[v, .int .i64 p, opV c r a, .int .i64 th] w fun e w' =>
   e = .returned (.tuple #[ringZ, .int .i64 1000]) ∧ Le w w' := by
 have hf := mayR_fit h
 have hmay := fun w' (l : Le w w') => refRingMay v R w' (hx.le l) hf
 obtain ⟨hh, t, f, ss⟩ := R
 obtain ⟨q, rfl, hq⟩ := hx
 simp only at hq hmay h2 ⊢
 have hl := ((Le.alloc w (.cells (cellsR hh t f q) 55)).trans (Le.alloc _ (.cells #[.int .i64 c, .int .i64 r, .int .i64 a] 48))).trans (Le.alloc _ (.cells (cellsR 0 0 0 slZ) 55))
 have hb := ((Box.new w (cellsR hh t f q) 55).le (Le.alloc _ (.cells #[.int .i64 c, .int .i64 r, .int .i64 a] 48))).le (Le.alloc _ (.cells (cellsR 0 0 0 slZ) 55))
 have hb1 := (Box.new (w.alloc (.cells (cellsR hh t f q) 55)) #[.int .i64 c, .int .i64 r, .int .i64 a] 48).le (Le.alloc _ (.cells (cellsR 0 0 0 slZ) 55))
 have hb2 := Box.new ((w.alloc (.cells (cellsR hh t f q) 55)).alloc (.cells #[.int .i64 c, .int .i64 r, .int .i64 a] 48)) (cellsR 0 0 0 slZ) 55
 simp only [World.size_alloc] at hb1 hb2
 have hm := hmay _ hl
 rw [h] at hm
 have h3 : p < hh ∨ (hh ≤ p ∧ t ≤ p) := by simp [hasB] at h2; omega
 clear hmay h h2 hf
 rcases h3 with h3 | ⟨h3, h4⟩
 all_goals
   go_enter Tryz.func124, Tryz.ntmps124
   go_wp2_with fail
   refine hm.mono ?_
   rintro e w1 ⟨rfl, l1⟩
   obtain ⟨b0, b1, b2, b3, _, _, _, _⟩ := (hb.le l1).ring
   obtain ⟨z0, z1, z2, z3, f0, f1, f2, f3⟩ := (hb2.le l1).ring
   go_wp2_with fail
   refine bodyPost_ret (v := .tuple #[ringZ, .int .i64 1000]) (by simp [results, Tryz.results124, go_sem, z0, z1, z2, z3]) rfl ⟨rfl, ?_⟩
   exact (hl.trans l1).put4 (by omega)
set_option maxHeartbeats 1000000 in
theorem refPublishOp (v : Value) (R : Rg) (p c r a th : Int) (w : World) (hx : HasR w v R) (h : mayR R = true) (h2 : hasB R.h R.t p = true) (g1 : opUp c r a = false) : Calls Tryz.prog 124 #[v, .int .i64 p, opV c r a, .int .i64 th] w fun e w' =>
   e = .returned (.tuple #[ringZ, .int .i64 1000]) ∧ Le w w' := by
 have hf := mayR_fit h
 have hmay := fun w' (l : Le w w') => refRingMay v R w' (hx.le l) hf
 obtain ⟨hh, t, f, ss⟩ := R
 obtain ⟨q, rfl, hq⟩ := hx
 simp only at hq hmay h2 ⊢
 have hl := ((Le.alloc w (.cells (cellsR hh t f q) 55)).trans (Le.alloc _ (.cells #[.int .i64 c, .int .i64 r, .int .i64 a] 48))).trans (Le.alloc _ (.cells (cellsR 0 0 0 slZ) 55))
 have hb := ((Box.new w (cellsR hh t f q) 55).le (Le.alloc _ (.cells #[.int .i64 c, .int .i64 r, .int .i64 a] 48))).le (Le.alloc _ (.cells (cellsR 0 0 0 slZ) 55))
 have hb1 := (Box.new (w.alloc (.cells (cellsR hh t f q) 55)) #[.int .i64 c, .int .i64 r, .int .i64 a] 48).le (Le.alloc _ (.cells (cellsR 0 0 0 slZ) 55))
 have hb2 := Box.new ((w.alloc (.cells (cellsR hh t f q) 55)).alloc (.cells #[.int .i64 c, .int .i64 r, .int .i64 a] 48)) (cellsR 0 0 0 slZ) 55
 simp only [World.size_alloc] at hb1 hb2
 have hm := hmay _ hl
 rw [h] at hm
 obtain ⟨h3, h4⟩ : hh ≤ p ∧ p < t := by simpa [hasB] using h2
 have hup := fun w => refUpdates c r a w
 rw [g1] at hup
 clear hmay h h2 hf g1
 go_enter Tryz.func124, Tryz.ntmps124
 go_wp2_with fail
 refine hm.mono ?_
 rintro e w1 ⟨rfl, l1⟩
 obtain ⟨b0, b1, b2, b3, _, _, _, _⟩ := (hb.le l1).ring
 obtain ⟨o0, o1, o2, _, _, _⟩ := (hb1.le l1).op
 go_wp2_with fail
 refine (hup _).mono ?_
 rintro e w2 ⟨rfl, l2⟩
 clear b0 b1 b2 b3 o0 o1 o2
 obtain ⟨z0, z1, z2, z3, f0, f1, f2, f3⟩ := ((hb2.le l1).le l2).ring
 go_wp2_with fail
 refine bodyPost_ret (v := .tuple #[ringZ, .int .i64 1000]) (by simp [results, Tryz.results124, go_sem, z0, z1, z2, z3]) rfl ⟨rfl, ?_⟩
 exact ((hl.trans l1).trans l2).put4 (by omega)
set_option maxHeartbeats 1000000 in
theorem refPublishThread (v : Value) (R : Rg) (p c r a th : Int) (w : World) (hx : HasR w v R) (h : mayR R = true) (h2 : hasB R.h R.t p = true) (g1 : opUp c r a = true) (g2 : threadB th = false) : Calls Tryz.prog 124 #[v, .int .i64 p, opV c r a, .int .i64 th] w fun e w' =>
   e = .returned (.tuple #[ringZ, .int .i64 1000]) ∧ Le w w' := by
 have hf := mayR_fit h
 have hmay := fun w' (l : Le w w') => refRingMay v R w' (hx.le l) hf
 obtain ⟨hh, t, f, ss⟩ := R
 obtain ⟨q, rfl, hq⟩ := hx
 simp only at hq hmay h2 ⊢
 have hl := ((Le.alloc w (.cells (cellsR hh t f q) 55)).trans (Le.alloc _ (.cells #[.int .i64 c, .int .i64 r, .int .i64 a] 48))).trans (Le.alloc _ (.cells (cellsR 0 0 0 slZ) 55))
 have hb := ((Box.new w (cellsR hh t f q) 55).le (Le.alloc _ (.cells #[.int .i64 c, .int .i64 r, .int .i64 a] 48))).le (Le.alloc _ (.cells (cellsR 0 0 0 slZ) 55))
 have hb1 := (Box.new (w.alloc (.cells (cellsR hh t f q) 55)) #[.int .i64 c, .int .i64 r, .int .i64 a] 48).le (Le.alloc _ (.cells (cellsR 0 0 0 slZ) 55))
 have hb2 := Box.new ((w.alloc (.cells (cellsR hh t f q) 55)).alloc (.cells #[.int .i64 c, .int .i64 r, .int .i64 a] 48)) (cellsR 0 0 0 slZ) 55
 simp only [World.size_alloc] at hb1 hb2
 have hm := hmay _ hl
 rw [h] at hm
 obtain ⟨h3, h4⟩ : hh ≤ p ∧ p < t := by simpa [hasB] using h2
 have hup := fun w => refUpdates c r a w
 rw [g1] at hup
 have hth := fun w => refThreadMay th w
 rw [g2] at hth
 clear hmay h h2 hf g1 g2
 go_enter Tryz.func124, Tryz.ntmps124
 go_wp2_with fail
 refine hm.mono ?_
 rintro e w1 ⟨rfl, l1⟩
 obtain ⟨b0, b1, b2, b3, _, _, _, _⟩ := (hb.le l1).ring
 obtain ⟨o0, o1, o2, _, _, _⟩ := (hb1.le l1).op
 go_wp2_with fail
 refine (hup _).mono ?_
 rintro e w2 ⟨rfl, l2⟩
 clear b0 b1 b2 b3 o0 o1 o2
 go_wp2_with fail
 refine (hth _).mono ?_
 rintro e _ ⟨rfl, rfl⟩
 obtain ⟨z0, z1, z2, z3, f0, f1, f2, f3⟩ := ((hb2.le l1).le l2).ring
 go_wp2_with fail
 refine bodyPost_ret (v := .tuple #[ringZ, .int .i64 1000]) (by simp [results, Tryz.results124, go_sem, z0, z1, z2, z3]) rfl ⟨rfl, ?_⟩
 exact ((hl.trans l1).trans l2).put4 (by omega)
set_option maxHeartbeats 2000000 in
theorem refPublishOk (v : Value) (R : Rg) (p c r a th : Int) (w : World) (hx : HasR w v R) (h : mayR R = true) (h2 : hasB R.h R.t p = true) (g1 : opUp c r a = true) (g2 : threadB th = true) : Calls Tryz.prog 124 #[v, .int .i64 p, opV c r a, .int .i64 th] w fun e w' =>
   ∃ v', e = .returned (.tuple #[v', .int .i64 0]) ∧ OwnR w' w.heap.size v' ⟨R.h, R.t, R.f, R.ss.set (seat R p) ⟨c, r, a, th, bitAt p R.ss.length⟩⟩ ∧ Le w w' := by
 have hf := mayR_fit h
 have hp0 : 0 ≤ p ∧ p ≤ 1048576 := by have := mayR_nums h; simp [hasB] at h2; omega
 have hp : holdB p = true := by simp [holdB, hp0.1, hp0.2]
 have hsl := seat_lt (p := p) h
 have hse := seat_eq (p := p) h hp0.1
 have hbt := fun w => refBit p R.ss.length w
 rw [bitS_yes (mayR_slots h) hp] at hbt
 generalize bitAt p R.ss.length = y at hbt ⊢
 generalize seat R p = i at hsl hse ⊢
 have hmay := fun w' (l : Le w w') => refRingMay v R w' (hx.le l) hf
 obtain ⟨hh, t, f, ss⟩ := R
 obtain ⟨q, rfl, hq⟩ := hx
 simp only at hq hmay h2 hsl hse hbt ⊢
 have hl := ((Le.alloc w (.cells (cellsR hh t f q) 55)).trans (Le.alloc _ (.cells #[.int .i64 c, .int .i64 r, .int .i64 a] 48))).trans (Le.alloc _ (.cells (cellsR 0 0 0 slZ) 55))
 have hb := ((Box.new w (cellsR hh t f q) 55).le (Le.alloc _ (.cells #[.int .i64 c, .int .i64 r, .int .i64 a] 48))).le (Le.alloc _ (.cells (cellsR 0 0 0 slZ) 55))
 have hb1 := (Box.new (w.alloc (.cells (cellsR hh t f q) 55)) #[.int .i64 c, .int .i64 r, .int .i64 a] 48).le (Le.alloc _ (.cells (cellsR 0 0 0 slZ) 55))
 have hb2 := Box.new ((w.alloc (.cells (cellsR hh t f q) 55)).alloc (.cells #[.int .i64 c, .int .i64 r, .int .i64 a] 48)) (cellsR 0 0 0 slZ) 55
 simp only [World.size_alloc] at hb1 hb2
 have hm := hmay _ hl
 have hn := hq.len
 rw [← hn] at hbt
 rw [h] at hm
 obtain ⟨h3, h4⟩ : hh ≤ p ∧ p < t := by simpa [hasB] using h2
 have hup := fun w => refUpdates c r a w
 rw [g1] at hup
 have hth := fun w => refThreadMay th w
 rw [g2] at hth
 replace hf : ss.length * 40 ≤ 140737488351232 := hf
 have HN : Hid (q.2.1 = ss.length) := hn
 have HE : Hid (p.tmod ss.length = i) := hse
 clear hmay h h2 g1 g2 hp hn hse
 go_enter Tryz.func124, Tryz.ntmps124
 go_wp2_with fail
 refine hm.mono ?_
 rintro e w1 ⟨rfl, l1⟩
 obtain ⟨b0, b1, b2, b3, _, _, _, _⟩ := (hb.le l1).ring
 obtain ⟨o0, o1, o2, _, _, _⟩ := (hb1.le l1).op
 go_wp2_with fail
 refine (hup _).mono ?_
 rintro e w2 ⟨rfl, l2⟩
 clear b0 b1 b2 b3 o0 o1 o2 hm
 go_wp2_with fail
 refine (hth _).mono ?_
 rintro e _ ⟨rfl, rfl⟩
 replace hb := (hb.le l1).le l2
 replace hb1 := (hb1.le l1).le l2
 replace hb2 := (hb2.le l1).le l2
 replace hl := (hl.trans l1).trans l2
 clear l1 l2 hup hth
 obtain ⟨b0, b1, b2, b3, _, _, _, _⟩ := hb.ring
 go_wp2_with fail
 have hap := refCopyRing hh t f q ss _ (hq.le hl) hf
 refine hap.mono ?_
 rintro e w3 ⟨u, rfl, hown, l3⟩
 have hbs : w.heap.size ≤ w2.heap.size := hl.size
 have hlt := hb2.lt
 have hlt3 : w2.heap.size ≤ w3.heap.size := l3.size
 have m3 : ¬ w.heap.size = w3.heap.size := by omega
 have m4 : ¬ w.heap.size + 1 = w3.heap.size := by omega
 have m5 : ¬ w.heap.size + 1 + 1 = w3.heap.size := by omega
 have hbo := Box.new w3 (cellsR hh t f u) 55
 have lo := Le.alloc w3 (.cells (cellsR hh t f u) 55)
 replace hb := (hb.le l3).le lo
 replace hb1 := (hb1.le l3).le lo
 replace hb2 := (hb2.le l3).le lo
 have hl' := (hl.trans l3).trans lo
 have ho' := hown.le lo
 clear b0 b1 b2 b3 hap l3 hl
 obtain ⟨b0, b1, b2, b3, _, _, _, _⟩ := hb.ring
 go_wp2_with fail
 refine (hbt _).mono ?_
 rintro e _ ⟨rfl, rfl⟩
 go_upto_region 5 with fail
 generalize hW : w3.alloc (.cells (cellsR hh t f u) 55) = W at hbo lo hb hb1 hb2 hl' ho' b0 b1 b2 b3 ⊢
 clear hW hbt
 obtain ⟨g, cap, rfl, hg, hcap⟩ := ho'.shape (by omega)
 have hu : q.2.1 = ss.length := HN.out
 obtain ⟨qa, n, qc⟩ := q
 simp only at hu
 have hse : p.tmod n = i := by rw [hu]; exact HE.out
 have hown' := ho'
 rw [← hu] at hcap hbo hown' ho'
 have hgs := (OwnL.block ho' (g := g) rfl).2
 obtain ⟨⟨x0, x1, x2, x3, x4⟩, hfz⟩ := OwnL.cell ho' hsl
 have g0 := hfz (i * 5)
 have g1 := hfz (i * 5 + 1)
 have g2 := hfz (i * 5 + 2)
 have g3 := hfz (i * 5 + 3)
 have g4 := hfz (i * 5 + 4)
 generalize ss.getD i Slt.zero = s0 at x0 x1 x2 x3 x4
 have HL : Hid (i < ss.length) := hsl
 obtain ⟨n0, n1⟩ : (0 : Int) ≤ (i : Int) ∧ (i : Int) < (n : Int) := by omega
 have n2 : ¬ n = 0 := by omega
 obtain ⟨c0, c1, c2, c3, _, _, _, _⟩ := hbo.ring
 obtain ⟨o0, o1, o2, _, _, _⟩ := hb1.op
 replace c3 : W.cell? ⟨w3.heap.size, 3, none⟩ = some (.slice (some ⟨g, 0, none⟩) n cap) := c3
 replace b3 : W.cell? ⟨w.heap.size, 3, none⟩ = some (.slice qa n qc) := b3
 have hgo := (OwnL.block hown (g := g) rfl).2
 have m0 : ¬ g = w.heap.size := by omega
 have m1 : ¬ g = w.heap.size + 1 := by omega
 have m2 : ¬ g = w.heap.size + 1 + 1 := by omega
 have m6 : ¬ g = w3.heap.size := by omega
 clear hu HN HE hfz hf hq hsl
 go_region_held3 (fun w' => w'.cell? ⟨w.heap.size, 3, none⟩ = some (.slice qa n qc) ∧ w'.cell? ⟨w3.heap.size, 3, none⟩ = some (.slice (some ⟨g, 0, none⟩) n cap) ∧ w'.cell? ⟨w.heap.size + 1, 0, none⟩ = some (.int .i64 c) ∧ w'.cell? ⟨w.heap.size + 1, 1, none⟩ = some (.int .i64 r) ∧ w'.cell? ⟨w.heap.size + 1, 2, none⟩ = some (.int .i64 a)) (go_keep) (fail)
 have k1 : OwnL _ w2.heap.size (.slice (some ⟨g, 0, none⟩) n cap) (ss.set i ⟨c, r, a, th, y⟩) := (OwnL.put (s := ⟨c, r, a, th, y⟩) hown' HL.out).le (Le.drew _)
 have k2 := ((((((hbo.other (g' := g) (fun e => m6 e.symm) (i * 5) (.int .i64 c)).other (fun e => m6 e.symm) (i * 5 + 1) (.int .i64 r)).other (fun e => m6 e.symm) (i * 5 + 2) (.int .i64 a)).other (fun e => m6 e.symm) (i * 5 + 3) (.int .i64 th)).other (fun e => m6 e.symm) (i * 5 + 4) (.int .i64 y))).le (Le.drew _)
 have k3 := ((((((hb2.other (g' := g) (fun e => m2 e.symm) (i * 5) (.int .i64 c)).other (fun e => m2 e.symm) (i * 5 + 1) (.int .i64 r)).other (fun e => m2 e.symm) (i * 5 + 2) (.int .i64 a)).other (fun e => m2 e.symm) (i * 5 + 3) (.int .i64 th)).other (fun e => m2 e.symm) (i * 5 + 4) (.int .i64 y))).le (Le.drew _)
 have k4 := (((((hl'.set (g := g) (i := i * 5) (u := .int .i64 c) (by omega)).set (g := g) (i := i * 5 + 1) (u := .int .i64 r) (by omega)).set (g := g) (i := i * 5 + 2) (u := .int .i64 a) (by omega)).set (g := g) (i := i * 5 + 3) (u := .int .i64 th) (by omega)).set (g := g) (i := i * 5 + 4) (u := .int .i64 y) (by omega)).trans (Le.drew _)
 generalize hX : (((((W.setCell ⟨g, i * 5, none⟩ (.int .i64 c)).setCell ⟨g, i * 5 + 1, none⟩ (.int .i64 r)).setCell ⟨g, i * 5 + 2, none⟩ (.int .i64 a)).setCell ⟨g, i * 5 + 3, none⟩ (.int .i64 th)).setCell ⟨g, i * 5 + 4, none⟩ (.int .i64 y)).drew = X at k1 k2 k3 k4 ⊢
 clear x0 x1 x2 x3 x4 g0 g1 g2 g3 g4 c0 c1 c2 c3 b0 b1 b2 b3 o0 o1 o2 hb hb1 hb2 hbo hown' ho' hl' hse n0 n1 n2 hown lo
 obtain ⟨c0, c1, c2, c3, _, _, _, _⟩ := k2.ring
 obtain ⟨z0, z1, z2, z3, f0, f1, f2, f3⟩ := k3.ring
 go_wp2_with fail
 refine bodyPost_ret (v := .tuple #[ringV hh t f (some ⟨g, 0, none⟩, n, cap), .int .i64 0]) (by simp [results, Tryz.results124, go_sem, z0, z1, z2, z3]) rfl ⟨_, rfl, ⟨_, rfl, ?_⟩, ?_⟩
 ·exact (k1.set4 (by simp [Value.ownBlock]; omega)).base (by omega)
 ·exact k4.put4 (by omega)
theorem refPublish (v : Value) (R : Rg) (p c r a th : Int) (w : World) (hx : HasR w v R) (hf : FitR R) : Calls Tryz.prog 124 #[v, .int .i64 p, opV c r a, .int .i64 th] w fun e w' =>
   ∃ v', e = .returned (.tuple #[v', .int .i64 (publishS R p c r a th).2]) ∧ OwnR w' w.heap.size v' (publishS R p c r a th).1 ∧ Le w w' := by
 unfold publishS pubB
 cases h1 : mayR R
 ·simp only [Bool.false_and, Bool.false_eq_true, ↓reduceIte]
  exact (refPublishRing v R p c r a th w hx hf h1).mono fun e w' ⟨he, hl⟩ => ⟨_, he, OwnR.zero _ _, hl⟩
 cases h2 : hasB R.h R.t p
 ·simp only [Bool.true_and, Bool.false_and, Bool.false_eq_true, ↓reduceIte]
  exact (refPublishOff v R p c r a th w hx h1 h2).mono fun e w' ⟨he, hl⟩ => ⟨_, he, OwnR.zero _ _, hl⟩
 cases g1 : opUp c r a
 ·simp only [Bool.true_and, Bool.false_and, Bool.false_eq_true, ↓reduceIte]
  exact (refPublishOp v R p c r a th w hx h1 h2 g1).mono fun e w' ⟨he, hl⟩ => ⟨_, he, OwnR.zero _ _, hl⟩
 cases g2 : threadB th
 ·simp only [Bool.true_and, Bool.false_eq_true, ↓reduceIte]
  exact (refPublishThread v R p c r a th w hx h1 h2 g1 g2).mono fun e w' ⟨he, hl⟩ => ⟨_, he, OwnR.zero _ _, hl⟩
 ·simp only [Bool.true_and, ↓reduceIte]
  exact refPublishOk v R p c r a th w hx h1 h2 g1 g2
theorem refReserveAs {h t f k h' t' f' x er : Int} {ss ss' : List Slt} (he : reserveS ⟨h, t, f, ss⟩ k = (⟨h', t', f', ss'⟩, x, er)) (hf : ss.length * 40 ≤ 140737488351232) (q : Sl) (w : World) (hq : HasL w (slV q) ss) :
   Calls Tryz.prog 123 #[ringV h t f q, .int .i64 k] w fun e w' => ∃ q : Sl, e = .returned (.tuple #[ringV h' t' f' q, .int .i64 x, .int .i64 er]) ∧ OwnL w' w.heap.size (slV q) ss' ∧ Le w w' := by
 have := refReserve (ringV h t f q) ⟨h, t, f, ss⟩ k w ⟨q, rfl, hq⟩ hf
 rw [he] at this
 exact this.mono fun e w' ⟨v', h1, ⟨q, h2, h3⟩, h4⟩ => ⟨q, by rw [h1, h2], h3, h4⟩
theorem refFreeAs {h t f p h' t' f' er : Int} {ss ss' : List Slt} (he : freeRS ⟨h, t, f, ss⟩ p = (⟨h', t', f', ss'⟩, er)) (hf : ss.length * 40 ≤ 140737488351232) (q : Sl) (w : World) (hq : HasL w (slV q) ss) :
   Calls Tryz.prog 145 #[ringV h t f q, .int .i64 p] w fun e w' => ∃ q : Sl, e = .returned (.tuple #[ringV h' t' f' q, .int .i64 er]) ∧ OwnL w' w.heap.size (slV q) ss' ∧ Le w w' := by
 have := refFreeTo (ringV h t f q) ⟨h, t, f, ss⟩ p w ⟨q, rfl, hq⟩ hf
 rw [he] at this
 exact this.mono fun e w' ⟨v', h1, ⟨q, h2, h3⟩, h4⟩ => ⟨q, by rw [h1, h2], h3, h4⟩
theorem refPublishAs {h t f p c r a th h' t' f' er : Int} {ss ss' : List Slt} (he : publishS ⟨h, t, f, ss⟩ p c r a th = (⟨h', t', f', ss'⟩, er)) (hf : ss.length * 40 ≤ 140737488351232) (q : Sl) (w : World) (hq : HasL w (slV q) ss) :
   Calls Tryz.prog 124 #[ringV h t f q, .int .i64 p, opV c r a, .int .i64 th] w fun e w' => ∃ q : Sl, e = .returned (.tuple #[ringV h' t' f' q, .int .i64 er]) ∧ OwnL w' w.heap.size (slV q) ss' ∧ Le w w' := by
 have := refPublish (ringV h t f q) ⟨h, t, f, ss⟩ p c r a th w ⟨q, rfl, hq⟩ hf
 rw [he] at this
 exact this.mono fun e w' ⟨v', h1, ⟨q, h2, h3⟩, h4⟩ => ⟨q, by rw [h1, h2], h3, h4⟩
theorem refEntryAs {h t f p c r a th b er : Int} {ss : List Slt} (he : entryS ⟨h, t, f, ss⟩ p = (⟨c, r, a, th, b⟩, er)) (hf : ss.length * 40 ≤ 140737488351232) (q : Sl) (w : World) (hq : HasL w (slV q) ss) :
   Calls Tryz.prog 15 #[ringV h t f q, .int .i64 p] w fun e w' => e = .returned (.tuple #[slotV c r a th b, .int .i64 er]) ∧ Le w w' := by
 have := refEntry (ringV h t f q) ⟨h, t, f, ss⟩ p w ⟨q, rfl, hq⟩ hf
 rw [he] at this
 exact this
theorem has_len {w : World} {q : Sl} {xs : List Int} (h : Has w (slV q) xs) : q.2.1 = xs.length := by
 obtain ⟨a, cap, hv, _⟩ := h
 simp only [slV, Value.slice.injEq] at hv
 exact hv.2.1
theorem Mc.th_putT {M : Mc} {t : Nat} (hi : t < M.ts.length) (x : Th) : (M.putT t x).th t = x := by
 simp only [Mc.th, Mc.putT, Int.toNat_natCast]
 rw [getD_set _ _ _ _ _ hi, if_pos rfl]
theorem stepM_ts (M : Mc) (t st : Int) : (stepM M t st).ts.length = M.ts.length := by simp only [stepM, Mc.putT, List.length_set]
theorem Mc.putT_putT (M : Mc) (t : Int) (x y : Th) : (M.putT t x).putT t y = M.putT t y := by
 simp only [Mc.putT, List.set_set]
theorem Mc.putR_putT (M : Mc) (g t : Int) (x : Rg) (y : Th) : (M.putT t y).putR g x = (M.putR g x).putT t y := rfl
theorem Mc.th_may {M : Mc} (h : mayM M = true) {t : Nat} (hi : t < M.ts.length) : thB M.c (M.th t) = true := by
 rw [Mc.th_nat]; exact mayM_ts h _ (getD_mem hi)
theorem Mc.rg_nat (M : Mc) (k : Nat) : M.rg (k : Int) = M.rs.getD k Rg.zero := by rw [Mc.rg, Int.toNat_natCast]
theorem Mc.rp_nat (M : Mc) (k : Nat) : M.rp (k : Int) = M.ps.getD k Rp.zero := by rw [Mc.rp, Int.toNat_natCast]
theorem Mc.rg_may {M : Mc} (h : mayM M = true) {g : Nat} (hi : g < M.rs.length) : ringB M.c (M.rg g) = true := by
 rw [Mc.rg_nat]; exact mayM_rs h _ (getD_mem hi)
theorem Mc.rp_may {M : Mc} (h : mayM M = true) {r : Nat} (hi : r < M.ps.length) : repB M.c M.rs (M.rp r) = true := by
 rw [Mc.rp_nat]; exact mayM_ps h _ (getD_mem hi)
set_option maxRecDepth 8000 in
set_option maxHeartbeats 8000000 in
theorem rmClaim4 (v : Value) (M : Mc) (t : Int) (w : World) (hx : HasM w v M) (hf : FitM M) (h1 : thereB M 0 0 t = true) (h2 : (M.th t).b ≠ []) (h3 : (M.th t).st = 4) (h4 : (M.rg (M.th t).lg).f = 0) : Calls Tryz.prog 94 #[v, .int .i64 t] w fun e w' => ∃ v', e = .returned (.tuple #[v', .int .i64 0]) ∧ OwnA w' w.heap.size v' (M.putT t { M.th t with sn := (M.rg (M.th t).lg).t, st := if (M.rg (M.th t).lg).h + (M.rg (M.th t).lg).ss.length < (M.rg (M.th t).lg).t + (M.th t).b.length then 5 else 6 }) ∧ Le w w' := by
 have m1 := fun w' (l : Le w w') => rmThere v M 0 0 t w' (hx.le l) hf
 obtain ⟨hmay, _, _, ⟨t0, t1⟩⟩ := thereB_cases h1
 obtain ⟨hrs, hps, hts, _⟩ := mayM_lens hmay
 obtain ⟨_, ⟨r2, r3⟩, ⟨_, l3⟩, ⟨t2, t3⟩, _, _⟩ := Cfg.ok_cases (mayM_ok hmay)
 obtain ⟨t, rfl⟩ : ∃ n : Nat, t = n := ⟨t.toNat, by omega⟩
 have hti : t < M.ts.length := by omega
 have hti' : (t : Int) < (M.ts.length : Int) := by omega
 have m2 := fun w' (l : Le w w') => rmStepped v M t 6 w' (hx.le l) hf hti
 obtain ⟨_, _, ⟨g0, g1⟩, _, hbl, _, _, _, _⟩ := thB_cases (Mc.th_may hmay hti)
 obtain ⟨g, hg⟩ : ∃ n : Nat, (M.th t).lg = n := ⟨(M.th t).lg.toNat, by omega⟩
 have hgi : g < M.rs.length := by omega
 have hgi' : (g : Int) < (M.rs.length : Int) := by omega
 obtain ⟨hRm, hRl, _, _⟩ := ringB_cases (Mc.rg_may hmay hgi)
 obtain ⟨rh0, rht, rt1, _⟩ := mayR_nums hRm
 have hRs := mayR_len hRm
 obtain ⟨bR, oR, cR, bP, oP, cP, bT, oT, cT, qH, rfl, hcR, _, hcT, _⟩ := hx.opens hmay
 obtain ⟨⟨b0, b1, b2⟩, qt, hat, hbb, _⟩ := hcT t hti
 obtain ⟨⟨s0, s1, s2⟩, hatR, hss⟩ := hcR g hgi
 have hb1 := has_len hbb
 have hs1 := hss.len
 rw [← Mc.th_nat] at hat hb1
 rw [← Mc.rg_nat] at hatR hs1 hss
 simp only [hg] at h4 ⊢
 simp only [h1] at m1
 obtain ⟨T, hT⟩ : ∃ T, T = M.th t := ⟨_, rfl⟩
 obtain ⟨R, hR⟩ : ∃ R, R = M.rg g := ⟨_, rfl⟩
 rw [← hT] at h2 h3 hg hat hb1 hbl ⊢
 rw [← hR] at h4 hatR hs1 hss rh0 rht rt1 hRs ⊢
 have HT : Hid (T = M.th t) := hT
 have HR : Hid (R = M.rg g) := hR
 clear hT hR
 obtain ⟨tst, tc, tr, ta, tlg, tsn, tb, tpl, tpo, tre, tan, ttl⟩ := T
 obtain ⟨rh, rt, rf, rss⟩ := R
 simp only at h2 h3 h4 hg hb1 hs1 hbl rh0 rht rt1 hRs ⊢
 subst h3 h4 hg
 rw [← hb1] at hbl ⊢
 rw [← hs1] at hRs ⊢
 have hb0 : ((b1 : Int) == 0) = false := by have : b1 ≠ 0 := fun e => h2 (List.length_eq_zero_iff.1 (by omega)); simp; omega
 have hb1' : (0 : Int) < (b1 : Int) := by have : b1 ≠ 0 := fun e => h2 (List.length_eq_zero_iff.1 (by omega)); omega
 have HB1 : Hid (b1 = tb.length) := hb1
 clear h1 h2 hb1 hs1 hmay hrs hps hts hRm hRl hbb hcT hcR
 have hr := Box.new (w.alloc (.cells (cells9 M.c (some ⟨bR, oR, none⟩, M.rs.length, cR) (some ⟨bP, oP, none⟩, M.ps.length, cP) (some ⟨bT, oT, none⟩, M.ts.length, cT) qH) 29)) cellsZ9 29
 have hb := (Box.new w (cells9 M.c (some ⟨bR, oR, none⟩, M.rs.length, cR) (some ⟨bP, oP, none⟩, M.ps.length, cP) (some ⟨bT, oT, none⟩, M.ts.length, cT) qH) 29).le (Le.alloc _ (.cells cellsZ9 29))
 have hl := (Le.alloc w (.cells (cells9 M.c (some ⟨bR, oR, none⟩, M.rs.length, cR) (some ⟨bP, oP, none⟩, M.ps.length, cP) (some ⟨bT, oT, none⟩, M.ts.length, cT) qH) 29)).trans (Le.alloc _ (.cells cellsZ9 29))
 rw [World.size_alloc] at hr
 go_enter Tryz.func94, Tryz.ntmps94
 go_upto_region 1 with fail
 generalize hW : (w.alloc (.cells (cells9 M.c (some ⟨bR, oR, none⟩, M.rs.length, cR) (some ⟨bP, oP, none⟩, M.ps.length, cP) (some ⟨bT, oT, none⟩, M.ts.length, cT) qH) 29)).alloc (.cells cellsZ9 29) = W at hl hb hr ⊢
 clear hW
 have hgr := hr.lt
 obtain ⟨⟨z0, z1, z2, z3, z4⟩, z5, z6, z7, z8⟩ := (hb).mach
 go_wp2_with fail
 refine (m1 _ hl).mono ?_
 rintro e w1 ⟨rfl, l1⟩
 clear z0 z1 z2 z3 z4 z5 z6 z7 z8
 clear m1
 replace hb := hb.le l1
 replace hl := hl.trans l1
 have hgr := Nat.lt_of_lt_of_le hgr l1.size
 replace hr := hr.le l1
 clear l1
 obtain ⟨x0, x1, x2, x3, x4, x5, x6, x7, x8, x9, x10, x11⟩ := hat.le hl
 obtain ⟨p0, p1, p2, p3⟩ := hatR.le hl
 obtain ⟨⟨z0, z1, z2, z3, z4⟩, z5, z6, z7, z8⟩ := (hb).mach
 simp only [slV] at z5 z7
 have bx := Box.new w1 (cellsT ⟨4, tc, tr, ta, (g : Int), tsn, tb, tpl, tpo, tre, tan, ttl⟩ (b0, b1, b2) qt) 59
 have a1 := Le.alloc w1 (.cells (cellsT ⟨4, tc, tr, ta, (g : Int), tsn, tb, tpl, tpo, tre, tan, ttl⟩ (b0, b1, b2) qt) 59)
 go_upto_region 4 with fail
 generalize hW1 : w1.alloc (.cells (cellsT ⟨4, tc, tr, ta, (g : Int), tsn, tb, tpl, tpo, tre, tan, ttl⟩ (b0, b1, b2) qt) 59) = W2 at bx a1 ⊢
 clear hW1
 have hgbx : w1.heap.size ≤ w1.heap.size := Nat.le_refl _
 generalize hgg : w1.heap.size = gbx at bx hgbx ⊢
 have hsbx : w1.heap.size ≤ gbx := by omega
 clear hgg hgbx
 have hgr := Nat.lt_of_lt_of_le hgr a1.size
 replace hl := hl.trans a1
 replace hb := hb.le a1
 replace hr := hr.le a1
 clear a1 x0 x1 x2 x3 x4 x5 x6 x7 x8 x9 x10 x11 p0 p1 p2 p3
 clear z0 z1 z2 z3 z4 z5 z6 z7 z8
 obtain ⟨p0, p1, p2, p3⟩ := hatR.le hl
 obtain ⟨⟨z0, z1, z2, z3, z4⟩, z5, z6, z7, z8⟩ := (hb).mach
 obtain ⟨x0, x1, x2, x3, x4, x5, x6, x7, x8, x9, x10, x11⟩ := bx.th
 simp only [slV] at z5 z7
 have bq := Box.new W2 (cellsR rh rt 0 (s0, s1, s2)) 55
 have a1 := Le.alloc W2 (.cells (cellsR rh rt 0 (s0, s1, s2)) 55)
 go_upto_region 5 with fail
 generalize hW1 : W2.alloc (.cells (cellsR rh rt 0 (s0, s1, s2)) 55) = W3 at bq a1 ⊢
 clear hW1
 have hgbq : W2.heap.size ≤ W2.heap.size := Nat.le_refl _
 generalize hgg : W2.heap.size = gbq at bq hgbq ⊢
 have hsbq : W2.heap.size ≤ gbq := by omega
 clear hgg hgbq
 have hgr := Nat.lt_of_lt_of_le hgr a1.size
 replace hl := hl.trans a1
 replace hb := hb.le a1
 replace hr := hr.le a1
 replace bx := bx.le a1
 clear a1 x0 x1 x2 x3 x4 x5 x6 x7 x8 x9 x10 x11 p0 p1 p2 p3
 clear z0 z1 z2 z3 z4 z5 z6 z7 z8
 obtain ⟨x0, x1, x2, x3, x4, x5, x6, x7, x8, x9, x10, x11⟩ := bx.th
 obtain ⟨p0, p1, p2, p3, _, _, _, _⟩ := bq.ring
 clear hss
 have hbx3 := bx.lt
 have hbq3 := bq.lt
 obtain ⟨⟨z0, z1, z2, z3, z4⟩, z5, z6, z7, z8⟩ := (hb).mach
 go_wp2_with fail
 refine (m2 _ hl).mono ?_
 rintro e w9 ⟨_, rfl, ⟨L, rfl, HM, o1, ap⟩, l1⟩
 clear z0 z1 z2 z3 z4 z5 z6 z7 z8
 clear m2 x0 x1 x2 x3 x4 x5 x6 x7 x8 x9 x10 x11 p0 p1 p2 p3
 have hbo := Box.new w9 (cells9 L.c L.qR L.qP L.qT L.qH) 29
 have a1 := Le.alloc w9 (.cells (cells9 L.c L.qR L.qP L.qT L.qH) 29)
 go_upto_region 11 with fail
 generalize hW1 : w9.alloc (.cells (cells9 L.c L.qR L.qP L.qT L.qH) 29) = W4 at hbo a1 ⊢
 clear hW1
 have I : MoI W3.heap.size w9.heap.size W4 L := ⟨hbo, l1.size, o1.le a1, ap⟩
 have hgo : W3.heap.size ≤ w9.heap.size := l1.size
 generalize w9.heap.size = go at hbo I hgo ⊢
 have l01 := l1.trans a1
 clear hbo o1 ap l1 a1
 obtain ⟨c', uR, uP, uT, uH, xR, xP, xT, xH⟩ := L
 try simp only at I ⊢
 replace hr := hr.le l01
 replace hb := hb.le l01
 have hlB : w.heap.size ≤ W3.heap.size := hl.size
 replace bx := bx.le l01
 replace bq := bq.le l01
 have hiT : t < xT.length := by have := lay_ts HM; rw [stepM_ts] at this; simp only at this; omega
 have hiT' : (t : Int) < (xT.length : Int) := by omega
 obtain ⟨gT, capT, hqT, hcapT, hgBT, hgltT, hgneT, hatT, hfzT⟩ := I.openT hiT
 try simp only at hqT hatT hcapT
 subst hqT
 obtain ⟨⟨y0, y1, y2, y3, y4⟩, y5, y6, y7, y8⟩ := (I.bo).mach
 simp only [slV] at y7
 obtain ⟨X, hX⟩ : ∃ X, X = xT.getD t thK.d := ⟨_, rfl⟩
 have HXT : Hid (X.T = ⟨6, tc, tr, ta, (g : Int), tsn, tb, tpl, tpo, tre, tan, ttl⟩) := by
   have := lay_th HM hiT
   simp only at this
   rw [hX, this, stepM, Mc.th_putT hti, ← HT.out]
   exact rfl
 obtain ⟨q0, _, _, _, _, q5, _, _, _, _, _, _⟩ := hatT
 have f0 := hfzT (t * 12)
 have f5 := hfzT (t * 12 + 5)
 have I2 := I.setTx (j := 5) (u := .int .i64 rt) rfl hiT (by decide) X hX.symm { X.T with sn := rt } rfl rfl rfl
 have HM2 : Hid (Lay.M ⟨c', uR, uP, (some ⟨gT, 0, none⟩, xT.length, capT), uH, xR, xP, xT.set t ⟨{ X.T with sn := rt }, X.b, X.t⟩, xH⟩ = M.putT t ⟨6, tc, tr, ta, (g : Int), rt, tb, tpl, tpo, tre, tan, ttl⟩) := by
   have := lay_setT HM t ⟨{ X.T with sn := rt }, X.b, X.t⟩
   simp only [HXT.out, stepM, Mc.putT_putT] at this
   simp only [HXT.out]
   exact this
 rw [← hX] at q0 q5
 clear hX hfzT
 have l2 := l01.set (g := gT) (i := t * 12 + 5) (u := .int .i64 rt) hgBT
 have hne1 : w.heap.size + 1 ≠ gT := by omega
 have hr2 := hr.other hne1 (t * 12 + 5) (.int .i64 rt)
 have bq2 := bq.other (show gbq ≠ gT by omega) (t * 12 + 5) (.int .i64 rt)
 have bx2 := bx.other (show gbx ≠ gT by omega) (t * 12 + 5) (.int .i64 rt)
 obtain ⟨p0, p1, p2, p3, _, _, _, _⟩ := bq.ring
 obtain ⟨x0, x1, x2, x3, x4, x5, x6, x7, x8, x9, x10, x11⟩ := bx.th
 go_upto_region 12 with fail
 generalize hW2 : W4.setCell ⟨gT, t * 12 + 5, none⟩ (.int .i64 rt) = W5 at I2 l2 hr2 bq2 bx2 ⊢
 clear hW2 x0 x1 x2 x3 x4 x5 x6 x7 x8 x9 x10 x11 p0 p1 p2 p3 q0 q5 f0 f5
 clear y0 y1 y2 y3 y4 y5 y6 y7 y8
 obtain ⟨p0, p1, p2, p3, _, _, _, _⟩ := bq2.ring
 have q0 := (I2.thAt rfl (by rw [List.length_set]; exact hiT)).2.2.2.1.1
 have f0 := (I2.thAt rfl (by rw [List.length_set]; exact hiT)).2.2.2.2 (t * 12)
 obtain ⟨⟨y0, y1, y2, y3, y4⟩, y5, y6, y7, y8⟩ := (I2.bo).mach
 simp only [slV] at y7
 by_cases hfull : rh + (s1 : Int) < rt + (b1 : Int)
 ·have I3 := I2.setTy (j := 0) (u := .int .i64 5) rfl hiT (by decide) { X.T with sn := rt, st := 5 } rfl rfl rfl
  have HM3 : Hid (Lay.M ⟨c', uR, uP, (some ⟨gT, 0, none⟩, xT.length, capT), uH, xR, xP, xT.set t ⟨{ X.T with sn := rt, st := 5 }, X.b, X.t⟩, xH⟩ = M.putT t ⟨5, tc, tr, ta, (g : Int), rt, tb, tpl, tpo, tre, tan, ttl⟩) := by
    have := lay_setT HM t ⟨{ X.T with sn := rt, st := 5 }, X.b, X.t⟩
    simp only [HXT.out, stepM, Mc.putT_putT] at this
    simp only [HXT.out]
    exact this
  have l3 := l2.set (g := gT) (i := t * 12 + 0) (u := .int .i64 5) hgBT
  have hr3 := hr2.other hne1 (t * 12 + 0) (.int .i64 5)
  go_upto_region 14 with fail
  generalize hW2 : W5.setCell ⟨gT, t * 12 + 0, none⟩ (.int .i64 5) = W6 at I3 l3 hr3 ⊢
  clear hW2 p0 p1 p2 p3 q0 f0 I2 hr2
  clear y0 y1 y2 y3 y4 y5 y6 y7 y8
  obtain ⟨⟨y0, y1, y2, y3, y4⟩, y5, y6, y7, y8⟩ := (I3.bo).mach
  obtain ⟨⟨r0, r1, r2, r3, r4, r5, r6, r7, r8⟩, k0, k1, k2, k3, k4, k5, k6, k7, k8⟩ := hr3.res
  go_wp2_with fail
  refine bodyPost_ret (v := .tuple #[machV c' uR uP (some ⟨gT, 0, none⟩, xT.length, capT) uH, .int .i64 0]) (by simp [results, Tryz.results94, go_sem, r0, r1, r2, r3, r4, r5, r6, r7, r8]) rfl ⟨_, rfl, ?_, (hl.trans l3).put9 (g := w.heap.size + 1) (by omega) c' uR uP (some ⟨gT, 0, none⟩, xT.length, capT) uH⟩
  have := (I3.ret hr3).base hlB
  rw [HM3.out] at this
  exact this
 ·clear q0 f0
  obtain ⟨⟨r0, r1, r2, r3, r4, r5, r6, r7, r8⟩, k0, k1, k2, k3, k4, k5, k6, k7, k8⟩ := hr2.res
  go_wp2_with fail
  refine bodyPost_ret (v := .tuple #[machV c' uR uP (some ⟨gT, 0, none⟩, xT.length, capT) uH, .int .i64 0]) (by simp [results, Tryz.results94, go_sem, r0, r1, r2, r3, r4, r5, r6, r7, r8]) rfl ⟨_, rfl, ?_, (hl.trans l2).put9 (g := w.heap.size + 1) (by omega) c' uR uP (some ⟨gT, 0, none⟩, xT.length, capT) uH⟩
  have := (I2.ret hr2).base hlB
  rw [HM2.out] at this
  exact this
theorem stepM_rs (M : Mc) (t st : Int) : (stepM M t st).rs.length = M.rs.length := rfl
set_option maxRecDepth 8000 in
set_option maxHeartbeats 8000000 in
theorem rmClaim6 (v : Value) (M : Mc) (t : Int) (w : World) (hx : HasM w v M) (hf : FitM M) (h1 : thereB M 0 0 t = true) (h2 : (M.th t).b ≠ []) (h3 : (M.th t).st = 6) (h4 : (M.rg (M.th t).lg).t = (M.th t).sn) (h5 : (reserveS (M.rg (M.th t).lg) (M.th t).b.length).2.2 = 0) : Calls Tryz.prog 94 #[v, .int .i64 t] w fun e w' => ∃ v', e = .returned (.tuple #[v', .int .i64 0]) ∧ OwnA w' w.heap.size v' ((M.putR (M.th t).lg (reserveS (M.rg (M.th t).lg) (M.th t).b.length).1).putT t { M.th t with st := 7, pl := 0 }) ∧ Le w w' := by
 obtain ⟨nh, nt, nf, nss, nx, ner, hres⟩ : ∃ nh nt nf nss nx ner, reserveS (M.rg (M.th t).lg) (M.th t).b.length = (⟨nh, nt, nf, nss⟩, nx, ner) := ⟨_, _, _, _, _, _, rfl⟩
 rw [hres] at h5 ⊢
 have m1 := fun w' (l : Le w w') => rmThere v M 0 0 t w' (hx.le l) hf
 obtain ⟨hmay, _, _, ⟨t0, t1⟩⟩ := thereB_cases h1
 obtain ⟨hrs, hps, hts, _⟩ := mayM_lens hmay
 obtain ⟨_, ⟨r2, r3⟩, ⟨_, l3⟩, ⟨t2, t3⟩, _, _⟩ := Cfg.ok_cases (mayM_ok hmay)
 obtain ⟨t, rfl⟩ : ∃ n : Nat, t = n := ⟨t.toNat, by omega⟩
 have hti : t < M.ts.length := by omega
 have hti' : (t : Int) < (M.ts.length : Int) := by omega
 have m2 := fun w' (l : Le w w') => rmStepped v M t 7 w' (hx.le l) hf hti
 obtain ⟨_, _, ⟨g0, g1⟩, _, hbl, _, _, _, _⟩ := thB_cases (Mc.th_may hmay hti)
 obtain ⟨g, hg⟩ : ∃ n : Nat, (M.th t).lg = n := ⟨(M.th t).lg.toNat, by omega⟩
 have hgi : g < M.rs.length := by omega
 have hgi' : (g : Int) < (M.rs.length : Int) := by omega
 obtain ⟨hRm, hRl, _, _⟩ := ringB_cases (Mc.rg_may hmay hgi)
 obtain ⟨rh0, rht, rt1, _⟩ := mayR_nums hRm
 have hRs := mayR_len hRm
 obtain ⟨bR, oR, cR, bP, oP, cP, bT, oT, cT, qH, rfl, hcR, _, hcT, _⟩ := hx.opens hmay
 obtain ⟨⟨b0, b1, b2⟩, qt, hat, hbb, _⟩ := hcT t hti
 obtain ⟨⟨s0, s1, s2⟩, hatR, hss⟩ := hcR g hgi
 have hb1 := has_len hbb
 have hs1 := hss.len
 rw [← Mc.th_nat] at hat hb1
 rw [← Mc.rg_nat] at hatR hs1 hss
 simp only [hg] at h4 hres ⊢
 simp only [h1] at m1
 obtain ⟨T, hT⟩ : ∃ T, T = M.th t := ⟨_, rfl⟩
 obtain ⟨R, hR⟩ : ∃ R, R = M.rg g := ⟨_, rfl⟩
 rw [← hT] at h2 h3 h4 hres hg hat hb1 hbl ⊢
 rw [← hR] at h4 hres hatR hs1 hss rh0 rht rt1 hRs
 have HT : Hid (T = M.th t) := hT
 have HR : Hid (R = M.rg g) := hR
 clear hT hR
 obtain ⟨tst, tc, tr, ta, tlg, tsn, tb, tpl, tpo, tre, tan, ttl⟩ := T
 obtain ⟨rh, rt, rf, rss⟩ := R
 simp only at h2 h3 h4 h5 hres hg hb1 hs1 hbl rh0 rht rt1 hRs ⊢
 subst h3 h4 hg
 rw [← hb1] at hres hbl
 rw [← hs1] at hRs
 have hb0 : ((b1 : Int) == 0) = false := by have : b1 ≠ 0 := fun e => h2 (List.length_eq_zero_iff.1 (by omega)); simp; omega
 have hb1' : (0 : Int) < (b1 : Int) := by have : b1 ≠ 0 := fun e => h2 (List.length_eq_zero_iff.1 (by omega)); omega
 have HB1 : Hid (b1 = tb.length) := hb1
 have HS1 : Hid (s1 = rss.length) := hs1
 clear h1 h2 hb1 hs1 hmay hrs hps hts hRm hRl hbb hcT hcR
 have hr := Box.new (w.alloc (.cells (cells9 M.c (some ⟨bR, oR, none⟩, M.rs.length, cR) (some ⟨bP, oP, none⟩, M.ps.length, cP) (some ⟨bT, oT, none⟩, M.ts.length, cT) qH) 29)) cellsZ9 29
 have hb := (Box.new w (cells9 M.c (some ⟨bR, oR, none⟩, M.rs.length, cR) (some ⟨bP, oP, none⟩, M.ps.length, cP) (some ⟨bT, oT, none⟩, M.ts.length, cT) qH) 29).le (Le.alloc _ (.cells cellsZ9 29))
 have hl := (Le.alloc w (.cells (cells9 M.c (some ⟨bR, oR, none⟩, M.rs.length, cR) (some ⟨bP, oP, none⟩, M.ps.length, cP) (some ⟨bT, oT, none⟩, M.ts.length, cT) qH) 29)).trans (Le.alloc _ (.cells cellsZ9 29))
 rw [World.size_alloc] at hr
 go_enter Tryz.func94, Tryz.ntmps94
 go_upto_region 1 with fail
 generalize hW : (w.alloc (.cells (cells9 M.c (some ⟨bR, oR, none⟩, M.rs.length, cR) (some ⟨bP, oP, none⟩, M.ps.length, cP) (some ⟨bT, oT, none⟩, M.ts.length, cT) qH) 29)).alloc (.cells cellsZ9 29) = W at hl hb hr ⊢
 clear hW
 have hgr := hr.lt
 obtain ⟨⟨z0, z1, z2, z3, z4⟩, z5, z6, z7, z8⟩ := (hb).mach
 go_wp2_with fail
 refine (m1 _ hl).mono ?_
 rintro e w1 ⟨rfl, l1⟩
 clear z0 z1 z2 z3 z4 z5 z6 z7 z8
 clear m1
 replace hb := hb.le l1
 replace hl := hl.trans l1
 have hgr := Nat.lt_of_lt_of_le hgr l1.size
 replace hr := hr.le l1
 clear l1
 obtain ⟨x0, x1, x2, x3, x4, x5, x6, x7, x8, x9, x10, x11⟩ := hat.le hl
 obtain ⟨p0, p1, p2, p3⟩ := hatR.le hl
 obtain ⟨⟨z0, z1, z2, z3, z4⟩, z5, z6, z7, z8⟩ := (hb).mach
 simp only [slV] at z5 z7
 have bx := Box.new w1 (cellsT ⟨6, tc, tr, ta, (g : Int), rt, tb, tpl, tpo, tre, tan, ttl⟩ (b0, b1, b2) qt) 59
 have a1 := Le.alloc w1 (.cells (cellsT ⟨6, tc, tr, ta, (g : Int), rt, tb, tpl, tpo, tre, tan, ttl⟩ (b0, b1, b2) qt) 59)
 go_upto_region 4 with fail
 generalize hW1 : w1.alloc (.cells (cellsT ⟨6, tc, tr, ta, (g : Int), rt, tb, tpl, tpo, tre, tan, ttl⟩ (b0, b1, b2) qt) 59) = W2 at bx a1 ⊢
 clear hW1
 have hgbx : w1.heap.size ≤ w1.heap.size := Nat.le_refl _
 generalize hgg : w1.heap.size = gbx at bx hgbx ⊢
 have hsbx : w1.heap.size ≤ gbx := by omega
 clear hgg hgbx
 have hgr := Nat.lt_of_lt_of_le hgr a1.size
 replace hl := hl.trans a1
 replace hb := hb.le a1
 replace hr := hr.le a1
 clear a1 x0 x1 x2 x3 x4 x5 x6 x7 x8 x9 x10 x11 p0 p1 p2 p3
 clear z0 z1 z2 z3 z4 z5 z6 z7 z8
 obtain ⟨p0, p1, p2, p3⟩ := hatR.le hl
 obtain ⟨⟨z0, z1, z2, z3, z4⟩, z5, z6, z7, z8⟩ := (hb).mach
 obtain ⟨x0, x1, x2, x3, x4, x5, x6, x7, x8, x9, x10, x11⟩ := bx.th
 simp only [slV] at z5 z7
 have bq := Box.new W2 (cellsR rh rt rf (s0, s1, s2)) 55
 have a1 := Le.alloc W2 (.cells (cellsR rh rt rf (s0, s1, s2)) 55)
 go_upto_region 5 with fail
 generalize hW1 : W2.alloc (.cells (cellsR rh rt rf (s0, s1, s2)) 55) = W3 at bq a1 ⊢
 clear hW1
 have hgbq : W2.heap.size ≤ W2.heap.size := Nat.le_refl _
 generalize hgg : W2.heap.size = gbq at bq hgbq ⊢
 have hsbq : W2.heap.size ≤ gbq := by omega
 clear hgg hgbq
 have hgr := Nat.lt_of_lt_of_le hgr a1.size
 replace hl := hl.trans a1
 replace hb := hb.le a1
 replace hr := hr.le a1
 replace bx := bx.le a1
 clear a1 x0 x1 x2 x3 x4 x5 x6 x7 x8 x9 x10 x11 p0 p1 p2 p3
 clear z0 z1 z2 z3 z4 z5 z6 z7 z8
 obtain ⟨x0, x1, x2, x3, x4, x5, x6, x7, x8, x9, x10, x11⟩ := bx.th
 obtain ⟨p0, p1, p2, p3, _, _, _, _⟩ := bq.ring
 subst h5
 have hfs : rss.length * 40 ≤ 140737488351232 := by have := HS1.out; omega
 have m3 := fun w' (l : Le w w') => refReserveAs hres hfs (s0, s1, s2) w' (hss.le l)
 clear hss hres
 obtain ⟨x0, x1, x2, x3, x4, x5, x6, x7, x8, x9, x10, x11⟩ := bx.th
 obtain ⟨p0, p1, p2, p3, _, _, _, _⟩ := bq.ring
 go_wp2_with fail
 refine (m3 _ hl).mono ?_
 rintro e w8 ⟨qn, rfl, on, l8⟩
 clear x0 x1 x2 x3 x4 x5 x6 x7 x8 x9 x10 x11 p0 p1 p2 p3 m3
 have hW3 : W3.heap.size ≤ w8.heap.size := l8.size
 have hgr := Nat.lt_of_lt_of_le hgr l8.size
 replace hl := hl.trans l8
 replace hb := hb.le l8
 replace hr := hr.le l8
 replace bx := bx.le l8
 replace bq := bq.le l8
 clear l8
 have bn := Box.new w8 (cellsR nh nt nf qn) 55
 have a1 := Le.alloc w8 (.cells (cellsR nh nt nf qn) 55)
 go_upto_region 19 with fail
 generalize hW1 : w8.alloc (.cells (cellsR nh nt nf qn) 55) = W4 at bn a1 ⊢
 clear hW1
 have hgbn : w8.heap.size ≤ w8.heap.size := Nat.le_refl _
 generalize hgg : w8.heap.size = gbn at bn hgbn ⊢
 have hsbn : w8.heap.size ≤ gbn := by omega
 clear hgg hgbn
 have hgr := Nat.lt_of_lt_of_le hgr a1.size
 replace hl := hl.trans a1
 replace hb := hb.le a1
 replace hr := hr.le a1
 replace bx := bx.le a1
 replace bq := bq.le a1
 replace on := on.le a1
 have hW34 : W3.heap.size ≤ W4.heap.size := Nat.le_trans hW3 a1.size
 clear a1
 obtain ⟨x0, x1, x2, x3, x4, x5, x6, x7, x8, x9, x10, x11⟩ := bx.th
 obtain ⟨p0, p1, p2, p3, _, _, _, _⟩ := bq.ring
 have hbx4 := bx.lt
 have hbq4 := bq.lt
 have hbn4 := bn.lt
 obtain ⟨⟨z0, z1, z2, z3, z4⟩, z5, z6, z7, z8⟩ := (hb).mach
 go_wp2_with fail
 refine (m2 _ hl).mono ?_
 rintro e w9 ⟨_, rfl, ⟨L, rfl, HM, o1, ap⟩, l1⟩
 clear z0 z1 z2 z3 z4 z5 z6 z7 z8
 clear m2 x0 x1 x2 x3 x4 x5 x6 x7 x8 x9 x10 x11 p0 p1 p2 p3
 have hbo := Box.new w9 (cells9 L.c L.qR L.qP L.qT L.qH) 29
 have a1 := Le.alloc w9 (.cells (cells9 L.c L.qR L.qP L.qT L.qH) 29)
 go_upto_region 22 with fail
 generalize hW1 : w9.alloc (.cells (cells9 L.c L.qR L.qP L.qT L.qH) 29) = W5 at hbo a1 ⊢
 clear hW1
 have I : MoI W4.heap.size w9.heap.size W5 L := ⟨hbo, l1.size, o1.le a1, ap⟩
 have hgo : W4.heap.size ≤ w9.heap.size := l1.size
 generalize w9.heap.size = go at hbo I hgo ⊢
 have l01 := l1.trans a1
 clear hbo o1 ap l1 a1
 obtain ⟨c', uR, uP, uT, uH, xR, xP, xT, xH⟩ := L
 try simp only at I ⊢
 replace hr := hr.le l01
 replace hb := hb.le l01
 have hlB : w.heap.size ≤ W4.heap.size := hl.size
 replace bx := bx.le l01
 replace bn := bn.le l01
 have hon := fun c (e : (slV qn).ownBlock = some c) => (on.block e).2
 replace on := on.le l01
 have hiT : t < xT.length := by have := lay_ts HM; rw [stepM_ts] at this; simp only at this; omega
 have hiT' : (t : Int) < (xT.length : Int) := by omega
 obtain ⟨gT, capT, hqT, hcapT, hgBT, hgltT, hgneT, hatT, hfzT⟩ := I.openT hiT
 try simp only at hqT hatT hcapT
 subst hqT
 have hiR : g < xR.length := by have := lay_rs HM; rw [stepM_rs] at this; simp only at this; omega
 have hiR' : (g : Int) < (xR.length : Int) := by omega
 obtain ⟨gR, capR, hqR, hcapR, hgBR, hgltR, hgneR, hatR, hfzR⟩ := I.openR hiR
 try simp only at hqR hatR hcapR
 subst hqR
 have I2 := (I.base hW34).setRA (i := g) rfl hiR ⟨⟨nh, nt, nf, nss⟩, qn⟩ on (I.ap.setRold I.own hiR hon)
 have HM2 : Hid (Lay.M ⟨c', (some ⟨gR, 0, none⟩, xR.length, capR), uP, (some ⟨gT, 0, none⟩, xT.length, capT), uH, xR.set g ⟨⟨nh, nt, nf, nss⟩, qn⟩, xP, xT, xH⟩ = (stepM M t 7).putR g ⟨nh, nt, nf, nss⟩) := lay_setR HM g ⟨⟨nh, nt, nf, nss⟩, qn⟩
 replace I2 : MoI W3.heap.size go ((((W5.setCell ⟨gR, g * 4, none⟩ (.int .i64 nh)).setCell ⟨gR, g * 4 + 1, none⟩ (.int .i64 nt)).setCell ⟨gR, g * 4 + 2, none⟩ (.int .i64 nf)).setCell ⟨gR, g * 4 + 3, none⟩ (slV qn)) ⟨c', (some ⟨gR, 0, none⟩, xR.length, capR), uP, (some ⟨gT, 0, none⟩, xT.length, capT), uH, xR.set g ⟨⟨nh, nt, nf, nss⟩, qn⟩, xP, xT, xH⟩ := I2
 have l2 := (((l01.set (i := g * 4) (u := .int .i64 nh) hgBR).set (i := g * 4 + 1) (u := .int .i64 nt) hgBR).set (i := g * 4 + 2) (u := .int .i64 nf) hgBR).set (i := g * 4 + 3) (u := slV qn) hgBR
 have hne1 : w.heap.size + 1 ≠ gR := by omega
 have hr2 := (((hr.other hne1 (g * 4) (.int .i64 nh)).other hne1 (g * 4 + 1) (.int .i64 nt)).other hne1 (g * 4 + 2) (.int .i64 nf)).other hne1 (g * 4 + 3) (slV qn)
 obtain ⟨v0, v1, v2, v3⟩ := hatR
 have f0 := hfzR (g * 4)
 have f1 := hfzR (g * 4 + 1)
 have f2 := hfzR (g * 4 + 2)
 have f3 := hfzR (g * 4 + 3)
 obtain ⟨_, _, _, _, x4, _, _, _, _, _, _, _⟩ := bx.th
 obtain ⟨p0, p1, p2, p3, _, _, _, _⟩ := bn.ring
 obtain ⟨⟨y0, y1, y2, y3, y4⟩, y5, y6, y7, y8⟩ := (I.bo).mach
 simp only [slV] at y5 y7
 clear hatT hfzT hfzR
 go_upto_region 23 with fail
 generalize hW2 : (((W5.setCell ⟨gR, g * 4, none⟩ (.int .i64 nh)).setCell ⟨gR, g * 4 + 1, none⟩ (.int .i64 nt)).setCell ⟨gR, g * 4 + 2, none⟩ (.int .i64 nf)).setCell ⟨gR, g * 4 + 3, none⟩ (slV qn) = W6 at I2 l2 hr2 ⊢
 clear hW2 v0 v1 v2 v3 f0 f1 f2 f3 x4 p0 p1 p2 p3 I hr bx bn on
 clear y0 y1 y2 y3 y4 y5 y6 y7 y8
 obtain ⟨hgne2, hglt2, hgB2, hat2, hfz2⟩ := I2.thAt rfl hiT
 obtain ⟨X, hX⟩ : ∃ X, X = xT.getD t thK.d := ⟨_, rfl⟩
 have HXT : Hid (X.T = ⟨7, tc, tr, ta, (g : Int), rt, tb, tpl, tpo, tre, tan, ttl⟩) := by
   have := lay_th HM hiT
   simp only at this
   rw [hX, this, stepM, Mc.th_putT hti, ← HT.out]
   exact rfl
 have I3 := I2.setTx (j := 7) (u := .int .i64 0) rfl hiT (by decide) X hX.symm { X.T with pl := 0 } rfl rfl rfl
 have HM3 : Hid (Lay.M ⟨c', (some ⟨gR, 0, none⟩, xR.length, capR), uP, (some ⟨gT, 0, none⟩, xT.length, capT), uH, xR.set g ⟨⟨nh, nt, nf, nss⟩, qn⟩, xP, xT.set t ⟨{ X.T with pl := 0 }, X.b, X.t⟩, xH⟩ = (M.putR g ⟨nh, nt, nf, nss⟩).putT t ⟨7, tc, tr, ta, (g : Int), rt, tb, 0, tpo, tre, tan, ttl⟩) := by
   have := lay_setT HM2.out t ⟨{ X.T with pl := 0 }, X.b, X.t⟩
   simp only [HXT.out, stepM, Mc.putR_putT, Mc.putT_putT] at this
   simp only [HXT.out]
   exact this
 simp only at hat2
 rw [← hX] at hat2
 obtain ⟨_, _, _, _, _, _, _, v7, _, _, _, _⟩ := hat2
 have f7 := hfz2 (t * 12 + 7)
 obtain ⟨⟨y0, y1, y2, y3, y4⟩, y5, y6, y7, y8⟩ := (I2.bo).mach
 simp only [slV] at y7
 have l3 := l2.set (i := t * 12 + 7) (u := .int .i64 0) hgBT
 have hne2 : w.heap.size + 1 ≠ gT := by omega
 have hr3 := hr2.other hne2 (t * 12 + 7) (.int .i64 0)
 clear hX hfz2
 go_upto_region 24 with fail
 generalize hW2 : W6.setCell ⟨gT, t * 12 + 7, none⟩ (.int .i64 0) = W7 at I3 l3 hr3 ⊢
 clear hW2 v7 f7 I2 hr2
 clear y0 y1 y2 y3 y4 y5 y6 y7 y8
 obtain ⟨⟨y0, y1, y2, y3, y4⟩, y5, y6, y7, y8⟩ := (I3.bo).mach
 obtain ⟨⟨r0, r1, r2, r3, r4, r5, r6, r7, r8⟩, k0, k1, k2, k3, k4, k5, k6, k7, k8⟩ := hr3.res
 go_wp2_with fail
 refine bodyPost_ret (v := .tuple #[machV c' (some ⟨gR, 0, none⟩, xR.length, capR) uP (some ⟨gT, 0, none⟩, xT.length, capT) uH, .int .i64 0]) (by simp [results, Tryz.results94, go_sem, r0, r1, r2, r3, r4, r5, r6, r7, r8]) rfl ⟨_, rfl, ?_, (hl.trans l3).put9 (g := w.heap.size + 1) (by omega) c' (some ⟨gR, 0, none⟩, xR.length, capR) uP (some ⟨gT, 0, none⟩, xT.length, capT) uH⟩
 have := (I3.ret hr3).base (show w.heap.size ≤ W3.heap.size by omega)
 rw [HM3.out] at this
 exact this
theorem FitM.putT {M : Mc} (h : FitM M) (t : Int) {x : Th} (hx : x.b.length * 8 ≤ 140737488351232 ∧ x.tl.length * 8 ≤ 140737488351232) : FitM (M.putT t x) := by
 refine ⟨h.rs, h.ps, by simpa [Mc.putT] using h.ts, h.es, h.r, h.p, fun T hT => ?_⟩
 rcases List.mem_or_eq_of_mem_set (show T ∈ M.ts.set t.toNat x from hT) with hT | rfl
 ·exact h.t T hT
 ·exact hx
theorem FitM.th {M : Mc} (h : FitM M) (t : Int) : (M.th t).b.length * 8 ≤ 140737488351232 ∧ (M.th t).tl.length * 8 ≤ 140737488351232 := by
 unfold Mc.th
 rcases Nat.lt_or_ge t.toNat M.ts.length with ht | ht
 ·exact h.t _ (getD_mem ht)
 ·rw [getD_out ht]; decide
theorem FitM.rp {M : Mc} (h : FitM M) (r : Int) : Fit (M.rp r).s ∧ (M.rp r).cs.length * 8 ≤ 140737488351232 ∧ (M.rp r).ls.length * 8 ≤ 140737488351232 := by
 unfold Mc.rp
 rcases Nat.lt_or_ge r.toNat M.ps.length with ht | ht
 ·exact h.p _ (getD_mem ht)
 ·rw [getD_out ht]; exact ⟨fit_zero, by decide, by decide⟩
theorem FitM.putP {M : Mc} (h : FitM M) (r : Int) {x : Rp} (hx : Fit x.s ∧ x.cs.length * 8 ≤ 140737488351232 ∧ x.ls.length * 8 ≤ 140737488351232) : FitM (M.putP r x) := by
 refine ⟨h.rs, by simpa [Mc.putP] using h.ps, h.ts, h.es, h.r, fun P hP => ?_, h.t⟩
 rcases List.mem_or_eq_of_mem_set (show P ∈ M.ps.set r.toNat x from hP) with hP | rfl
 ·exact h.p P hP
 ·exact hx
theorem postM_fit {M : Mc} (h : FitM M) (t : Int) : FitM (postM M t).1 := by
 unfold postM
 split
 ·exact h.putT t (h.th t)
 ·exact fitM_zero
theorem tryM_fit {M : Mc} (h : FitM M) (r g t : Int) : FitM (tryM M r g t).1 := by
 unfold tryM
 split
 ·split
  ·refine h.putP r ⟨(h.rp r).1, (h.rp r).2.1, ?_⟩
   simpa [Rp.setLock] using (h.rp r).2.2
  ·exact h
 ·exact fitM_zero
theorem postM_ts {M : Mc} {t : Int} (h : thereB M 0 0 t = true) : (postM M t).1.ts.length = M.ts.length := by
 unfold postM
 rw [if_pos h]
 simp [Mc.putT]
theorem tryM_ts {M : Mc} {r g t : Int} (h : thereB M r g t = true) : (tryM M r g t).1.ts.length = M.ts.length := by
 unfold tryM
 rw [if_pos h]
 split
 ·rfl
 ·rfl
set_option maxRecDepth 8000 in
set_option maxHeartbeats 8000000 in
theorem rmUpd1 (v : Value) (M : Mc) (t : Int) (w : World) (hx : HasM w v M) (hf : FitM M) (h1 : thereB M 0 0 t = true) (h2 : opUp (M.th t).c (M.th t).r (M.th t).a = true) (h3 : (M.th t).st = 1) : Calls Tryz.prog 59 #[v, .int .i64 t] w fun e w' => ∃ v', e = .returned (.tuple #[v', .int .i64 0]) ∧ OwnA w' w.heap.size v' (stepM (postM M t).1 t 2) ∧ Le w w' := by
 have m2 := fun w' (l : Le w w') => rmPost v M t w' (hx.le l) hf
 have hpf := postM_fit hf t
 have hpl := postM_ts h1
 have m1 := fun w' (l : Le w w') => rmThere v M 0 0 t w' (hx.le l) hf
 obtain ⟨hmay, _, _, ⟨t0, t1⟩⟩ := thereB_cases h1
 obtain ⟨hrs, hps, hts, _⟩ := mayM_lens hmay
 obtain ⟨_, ⟨r2, r3⟩, ⟨_, l3⟩, ⟨t2, t3⟩, _, _⟩ := Cfg.ok_cases (mayM_ok hmay)
 obtain ⟨t, rfl⟩ : ∃ n : Nat, t = n := ⟨t.toNat, by omega⟩
 have hti : t < M.ts.length := by omega
 have hti' : (t : Int) < (M.ts.length : Int) := by omega
 have hxw := hx
 obtain ⟨_, _, ⟨g0, g1⟩, _, _, _, _, _, _⟩ := thB_cases (Mc.th_may hmay hti)
 obtain ⟨g, hg⟩ : ∃ n : Nat, (M.th t).lg = n := ⟨(M.th t).lg.toNat, by omega⟩
 obtain ⟨r, hr0⟩ : ∃ n : Nat, M.home t = n := ⟨(M.home t).toNat, by have := Int.emod_nonneg (t : Int) (show M.c.r ≠ 0 by omega); unfold Mc.home; omega⟩
 have hrr : (r : Int) < M.c.r := by have := Int.emod_lt_of_pos (t : Int) (show 0 < M.c.r by omega); unfold Mc.home at hr0; omega
 have htm : (t : Int).tmod M.c.r = (r : Int) := by rw [← hr0]; exact Int.tmod_eq_emod_of_nonneg (by omega)
 have htm2 : (t : Int) % M.c.r = (r : Int) := hr0
 have hne0 : ¬ M.c.r = 0 := by omega
 obtain ⟨bR, oR, cR, bP, oP, cP, bT, oT, cT, qH, rfl, hcR, hcP, hcT, _⟩ := hx.opens hmay
 obtain ⟨⟨b0, b1, b2⟩, qt, hat, hbb, _⟩ := hcT t hti
 have hb1 := has_len hbb
 rw [← Mc.th_nat] at hat hb1
 simp only [h1] at m1
 obtain ⟨T, hT⟩ : ∃ T, T = M.th t := ⟨_, rfl⟩
 have HT : Hid (T = M.th t) := hT
 have HG : Hid ((M.th t).lg = g) := hg
 have HH : Hid (M.home t = r) := hr0
 have HMAY : Hid (mayM M = true) := hmay
 rw [← hT] at h2 h3 hg hat hb1
 clear hT hr0
 obtain ⟨tst, tc, tr, ta, tlg, tsn, tb, tpl, tpo, tre, tan, ttl⟩ := T
 simp only at h2 h3 hg hb1
 subst h3 hg
 have HB1 : Hid (b1 = tb.length) := hb1
 clear h1 hb1 hmay hrs hps hts hbb hcT hcR hx
 have hr := Box.new (w.alloc (.cells (cells9 M.c (some ⟨bR, oR, none⟩, M.rs.length, cR) (some ⟨bP, oP, none⟩, M.ps.length, cP) (some ⟨bT, oT, none⟩, M.ts.length, cT) qH) 29)) cellsZ9 29
 have hb := (Box.new w (cells9 M.c (some ⟨bR, oR, none⟩, M.rs.length, cR) (some ⟨bP, oP, none⟩, M.ps.length, cP) (some ⟨bT, oT, none⟩, M.ts.length, cT) qH) 29).le (Le.alloc _ (.cells cellsZ9 29))
 have hl := (Le.alloc w (.cells (cells9 M.c (some ⟨bR, oR, none⟩, M.rs.length, cR) (some ⟨bP, oP, none⟩, M.ps.length, cP) (some ⟨bT, oT, none⟩, M.ts.length, cT) qH) 29)).trans (Le.alloc _ (.cells cellsZ9 29))
 rw [World.size_alloc] at hr
 go_enter Tryz.func59, Tryz.ntmps59
 go_upto_region 1 with fail
 generalize hW : (w.alloc (.cells (cells9 M.c (some ⟨bR, oR, none⟩, M.rs.length, cR) (some ⟨bP, oP, none⟩, M.ps.length, cP) (some ⟨bT, oT, none⟩, M.ts.length, cT) qH) 29)).alloc (.cells cellsZ9 29) = W at hl hb hr ⊢
 clear hW
 have hgr := hr.lt
 obtain ⟨⟨z0, z1, z2, z3, z4⟩, z5, z6, z7, z8⟩ := (hb).mach
 go_wp2_with fail
 refine (m1 _ hl).mono ?_
 rintro e w1 ⟨rfl, l1⟩
 clear z0 z1 z2 z3 z4 z5 z6 z7 z8
 clear m1
 replace hb := hb.le l1
 replace hl := hl.trans l1
 have hgr := Nat.lt_of_lt_of_le hgr l1.size
 replace hr := hr.le l1
 clear l1
 obtain ⟨x0, x1, x2, x3, x4, x5, x6, x7, x8, x9, x10, x11⟩ := hat.le hl
 obtain ⟨⟨z0, z1, z2, z3, z4⟩, z5, z6, z7, z8⟩ := (hb).mach
 simp only [slV] at z7
 go_wp2_with fail
 refine (refUpdates _ _ _ _).mono ?_
 rw [h2]
 rintro e w2 ⟨rfl, l1⟩
 clear x0 x1 x2 x3 x4 x5 x6 x7 x8 x9 x10 x11 h2
 clear z0 z1 z2 z3 z4 z5 z6 z7 z8
 replace hb := hb.le l1
 replace hl := hl.trans l1
 have hgr := Nat.lt_of_lt_of_le hgr l1.size
 replace hr := hr.le l1
 clear l1
 obtain ⟨x0, x1, x2, x3, x4, x5, x6, x7, x8, x9, x10, x11⟩ := hat.le hl
 obtain ⟨⟨z0, z1, z2, z3, z4⟩, z5, z6, z7, z8⟩ := (hb).mach
 simp only [slV] at z7
 have bx := Box.new w2 (cellsT ⟨1, tc, tr, ta, (g : Int), tsn, tb, tpl, tpo, tre, tan, ttl⟩ (b0, b1, b2) qt) 59
 have a1 := Le.alloc w2 (.cells (cellsT ⟨1, tc, tr, ta, (g : Int), tsn, tb, tpl, tpo, tre, tan, ttl⟩ (b0, b1, b2) qt) 59)
 go_upto_region 4 with fail
 generalize hW1 : w2.alloc (.cells (cellsT ⟨1, tc, tr, ta, (g : Int), tsn, tb, tpl, tpo, tre, tan, ttl⟩ (b0, b1, b2) qt) 59) = W2 at bx a1 ⊢
 clear hW1
 have hgbx : w2.heap.size ≤ w2.heap.size := Nat.le_refl _
 generalize hgg : w2.heap.size = gbx at bx hgbx ⊢
 have hsbx : w2.heap.size ≤ gbx := by omega
 clear hgg hgbx
 have hgr := Nat.lt_of_lt_of_le hgr a1.size
 replace hl := hl.trans a1
 replace hb := hb.le a1
 replace hr := hr.le a1
 clear a1 x0 x1 x2 x3 x4 x5 x6 x7 x8 x9 x10 x11
 clear z0 z1 z2 z3 z4 z5 z6 z7 z8
 obtain ⟨x0, x1, x2, x3, x4, x5, x6, x7, x8, x9, x10, x11⟩ := bx.th
 obtain ⟨⟨z0, z1, z2, z3, z4⟩, z5, z6, z7, z8⟩ := (hb).mach
 go_quiet (fail)
 clear x0 x1 x2 x3 x4 x5 x6 x7 x8 x9 x10 x11
 clear z0 z1 z2 z3 z4 z5 z6 z7 z8
 have l1 := Le.drewN W2 nq
 generalize W2.drewN nq = W3 at l1 ⊢
 replace hb := hb.le l1
 replace hl := hl.trans l1
 have hgr := Nat.lt_of_lt_of_le hgr l1.size
 replace hr := hr.le l1
 replace bx := bx.le l1
 clear l1
 obtain ⟨x0, x1, x2, x3, x4, x5, x6, x7, x8, x9, x10, x11⟩ := bx.th
 obtain ⟨⟨z0, z1, z2, z3, z4⟩, z5, z6, z7, z8⟩ := (hb).mach
 go_wp2_with fail
 refine (m2 _ hl).mono ?_
 rintro e w9 ⟨_, rfl, ⟨L, rfl, HM, o1, ap⟩, l1⟩
 clear z0 z1 z2 z3 z4 z5 z6 z7 z8
 clear m2 x0 x1 x2 x3 x4 x5 x6 x7 x8 x9 x10 x11
 have hbo := Box.new w9 (cells9 L.c L.qR L.qP L.qT L.qH) 29
 have a1 := Le.alloc w9 (.cells (cells9 L.c L.qR L.qP L.qT L.qH) 29)
 go_upto_region 8 with fail
 generalize hW1 : w9.alloc (.cells (cells9 L.c L.qR L.qP L.qT L.qH) 29) = W4 at hbo a1 ⊢
 clear hW1
 have I : MoI W3.heap.size w9.heap.size W4 L := ⟨hbo, l1.size, o1.le a1, ap⟩
 have hgo : W3.heap.size ≤ w9.heap.size := l1.size
 generalize w9.heap.size = go at hbo I hgo ⊢
 have l01 := l1.trans a1
 clear hbo o1 ap l1 a1
 obtain ⟨c', uR, uP, uT, uH, xR, xP, xT, xH⟩ := L
 try simp only at I ⊢
 replace hr := hr.le l01
 replace hb := hb.le l01
 have hlB : w.heap.size ≤ W3.heap.size := hl.size
 replace hl := hl.trans l01
 have hmI := I.has
 rw [HM] at hmI
 have m3 := fun w' (l : Le W4 w') => rmStepped _ (postM M t).1 t 2 w' (hmI.le l) hpf (by rw [hpl]; exact hti)
 obtain ⟨⟨y0, y1, y2, y3, y4⟩, y5, y6, y7, y8⟩ := (I.bo).mach
 clear HM hat bx
 go_wp2_with fail
 refine (m3 _ (Le.refl _)).mono ?_
 rintro e w9 ⟨_, rfl, ⟨⟨c', uR, uP, uT, uH, xR, xP, xT, xH⟩, rfl, HM, o1, ap⟩, l1⟩
 clear m3 I
 replace hr := hr.le l1
 obtain ⟨⟨r0, r1, r2, r3, r4, r5, r6, r7, r8⟩, k0, k1, k2, k3, k4, k5, k6, k7, k8⟩ := hr.res
 go_wp2_with fail
 refine bodyPost_ret (v := .tuple #[machV c' uR uP uT uH, .int .i64 0]) (by simp [results, Tryz.results59, go_sem, r0, r1, r2, r3, r4, r5, r6, r7, r8]) rfl ⟨_, rfl, ?_, (hl.trans l1).put9 (g := w.heap.size + 1) (by omega) c' uR uP uT uH⟩
 refine ⟨⟨c', uR, uP, uT, uH, xR, xP, xT, xH⟩, rfl, HM, ?_, ap⟩
 exact (o1.base hl.size).put9 hr c' uR uP uT uH
theorem home_there {M : Mc} {t : Int} (h1 : thereB M 0 0 t = true) : thereB M (M.home t) (M.th t).lg t = true := by
 obtain ⟨hmay, _, _, ⟨t0, t1⟩⟩ := thereB_cases h1
 obtain ⟨_, _, hts, _⟩ := mayM_lens hmay
 obtain ⟨_, ⟨r2, r3⟩, _, _, _, _⟩ := Cfg.ok_cases (mayM_ok hmay)
 obtain ⟨t, rfl⟩ : ∃ n : Nat, t = n := ⟨t.toNat, by omega⟩
 obtain ⟨_, _, ⟨g0, g1⟩, _⟩ := thB_cases (Mc.th_may hmay (t := t) (by omega))
 refine thereB_yes hmay ?_ ⟨g0, g1⟩ ⟨t0, t1⟩
 have h2 := Int.emod_nonneg (t : Int) (show M.c.r ≠ 0 by omega)
 have h3 := Int.emod_lt_of_pos (t : Int) (show 0 < M.c.r by omega)
 unfold Mc.home
 omega
set_option maxRecDepth 8000 in
set_option maxHeartbeats 8000000 in
theorem rmUpd2 (v : Value) (M : Mc) (t : Int) (w : World) (hx : HasM w v M) (hf : FitM M) (h1 : thereB M 0 0 t = true) (h2 : opUp (M.th t).c (M.th t).r (M.th t).a = true) (h3 : (M.th t).st = 2) : Calls Tryz.prog 59 #[v, .int .i64 t] w fun e w' => ∃ v', e = .returned (.tuple #[v', .int .i64 0]) ∧ OwnA w' w.heap.size v' (stepM (tryM M (M.home t) (M.th t).lg t).1 t (if (tryM M (M.home t) (M.th t).lg t).2.1 then 3 else 10)) ∧ Le w w' := by
 have m2 := fun w' (l : Le w w') => rmTry v M (M.home t) (M.th t).lg t w' (hx.le l) hf
 have hpf := tryM_fit hf (M.home t) (M.th t).lg t
 have hpl := tryM_ts (home_there h1)
 obtain ⟨ok, hok⟩ : ∃ ok, ok = (tryM M (M.home t) (M.th t).lg t).2.1 := ⟨_, rfl⟩
 obtain ⟨er, her⟩ : ∃ er, er = (tryM M (M.home t) (M.th t).lg t).2.2 := ⟨_, rfl⟩
 obtain ⟨N, hN⟩ : ∃ N, N = (tryM M (M.home t) (M.th t).lg t).1 := ⟨_, rfl⟩
 simp only [← hok, ← her, ← hN] at m2 hpf hpl ⊢
 clear hok her hN
 have m1 := fun w' (l : Le w w') => rmThere v M 0 0 t w' (hx.le l) hf
 obtain ⟨hmay, _, _, ⟨t0, t1⟩⟩ := thereB_cases h1
 obtain ⟨hrs, hps, hts, _⟩ := mayM_lens hmay
 obtain ⟨_, ⟨r2, r3⟩, ⟨_, l3⟩, ⟨t2, t3⟩, _, _⟩ := Cfg.ok_cases (mayM_ok hmay)
 obtain ⟨t, rfl⟩ : ∃ n : Nat, t = n := ⟨t.toNat, by omega⟩
 have hti : t < M.ts.length := by omega
 have hti' : (t : Int) < (M.ts.length : Int) := by omega
 have hxw := hx
 obtain ⟨_, _, ⟨g0, g1⟩, _, _, _, _, _, _⟩ := thB_cases (Mc.th_may hmay hti)
 obtain ⟨g, hg⟩ : ∃ n : Nat, (M.th t).lg = n := ⟨(M.th t).lg.toNat, by omega⟩
 obtain ⟨r, hr0⟩ : ∃ n : Nat, M.home t = n := ⟨(M.home t).toNat, by have := Int.emod_nonneg (t : Int) (show M.c.r ≠ 0 by omega); unfold Mc.home; omega⟩
 have hrr : (r : Int) < M.c.r := by have := Int.emod_lt_of_pos (t : Int) (show 0 < M.c.r by omega); unfold Mc.home at hr0; omega
 have htm : (t : Int).tmod M.c.r = (r : Int) := by rw [← hr0]; exact Int.tmod_eq_emod_of_nonneg (by omega)
 have htm2 : (t : Int) % M.c.r = (r : Int) := hr0
 have hne0 : ¬ M.c.r = 0 := by omega
 obtain ⟨bR, oR, cR, bP, oP, cP, bT, oT, cT, qH, rfl, hcR, hcP, hcT, _⟩ := hx.opens hmay
 obtain ⟨⟨b0, b1, b2⟩, qt, hat, hbb, _⟩ := hcT t hti
 have hb1 := has_len hbb
 rw [← Mc.th_nat] at hat hb1
 simp only [h1] at m1
 obtain ⟨T, hT⟩ : ∃ T, T = M.th t := ⟨_, rfl⟩
 have HT : Hid (T = M.th t) := hT
 have HG : Hid ((M.th t).lg = g) := hg
 have HH : Hid (M.home t = r) := hr0
 have HMAY : Hid (mayM M = true) := hmay
 rw [← hT] at h2 h3 hg hat hb1
 clear hT hr0
 obtain ⟨tst, tc, tr, ta, tlg, tsn, tb, tpl, tpo, tre, tan, ttl⟩ := T
 simp only at h2 h3 hg hb1
 subst h3 hg
 have HB1 : Hid (b1 = tb.length) := hb1
 clear h1 hb1 hmay hrs hps hts hbb hcT hcR hx
 have hr := Box.new (w.alloc (.cells (cells9 M.c (some ⟨bR, oR, none⟩, M.rs.length, cR) (some ⟨bP, oP, none⟩, M.ps.length, cP) (some ⟨bT, oT, none⟩, M.ts.length, cT) qH) 29)) cellsZ9 29
 have hb := (Box.new w (cells9 M.c (some ⟨bR, oR, none⟩, M.rs.length, cR) (some ⟨bP, oP, none⟩, M.ps.length, cP) (some ⟨bT, oT, none⟩, M.ts.length, cT) qH) 29).le (Le.alloc _ (.cells cellsZ9 29))
 have hl := (Le.alloc w (.cells (cells9 M.c (some ⟨bR, oR, none⟩, M.rs.length, cR) (some ⟨bP, oP, none⟩, M.ps.length, cP) (some ⟨bT, oT, none⟩, M.ts.length, cT) qH) 29)).trans (Le.alloc _ (.cells cellsZ9 29))
 rw [World.size_alloc] at hr
 go_enter Tryz.func59, Tryz.ntmps59
 go_upto_region 1 with fail
 generalize hW : (w.alloc (.cells (cells9 M.c (some ⟨bR, oR, none⟩, M.rs.length, cR) (some ⟨bP, oP, none⟩, M.ps.length, cP) (some ⟨bT, oT, none⟩, M.ts.length, cT) qH) 29)).alloc (.cells cellsZ9 29) = W at hl hb hr ⊢
 clear hW
 have hgr := hr.lt
 obtain ⟨⟨z0, z1, z2, z3, z4⟩, z5, z6, z7, z8⟩ := (hb).mach
 go_wp2_with fail
 refine (m1 _ hl).mono ?_
 rintro e w1 ⟨rfl, l1⟩
 clear z0 z1 z2 z3 z4 z5 z6 z7 z8
 clear m1
 replace hb := hb.le l1
 replace hl := hl.trans l1
 have hgr := Nat.lt_of_lt_of_le hgr l1.size
 replace hr := hr.le l1
 clear l1
 obtain ⟨x0, x1, x2, x3, x4, x5, x6, x7, x8, x9, x10, x11⟩ := hat.le hl
 obtain ⟨⟨z0, z1, z2, z3, z4⟩, z5, z6, z7, z8⟩ := (hb).mach
 simp only [slV] at z7
 go_wp2_with fail
 refine (refUpdates _ _ _ _).mono ?_
 rw [h2]
 rintro e w2 ⟨rfl, l1⟩
 clear x0 x1 x2 x3 x4 x5 x6 x7 x8 x9 x10 x11 h2
 clear z0 z1 z2 z3 z4 z5 z6 z7 z8
 replace hb := hb.le l1
 replace hl := hl.trans l1
 have hgr := Nat.lt_of_lt_of_le hgr l1.size
 replace hr := hr.le l1
 clear l1
 obtain ⟨x0, x1, x2, x3, x4, x5, x6, x7, x8, x9, x10, x11⟩ := hat.le hl
 obtain ⟨⟨z0, z1, z2, z3, z4⟩, z5, z6, z7, z8⟩ := (hb).mach
 simp only [slV] at z7
 have bx := Box.new w2 (cellsT ⟨2, tc, tr, ta, (g : Int), tsn, tb, tpl, tpo, tre, tan, ttl⟩ (b0, b1, b2) qt) 59
 have a1 := Le.alloc w2 (.cells (cellsT ⟨2, tc, tr, ta, (g : Int), tsn, tb, tpl, tpo, tre, tan, ttl⟩ (b0, b1, b2) qt) 59)
 go_upto_region 4 with fail
 generalize hW1 : w2.alloc (.cells (cellsT ⟨2, tc, tr, ta, (g : Int), tsn, tb, tpl, tpo, tre, tan, ttl⟩ (b0, b1, b2) qt) 59) = W2 at bx a1 ⊢
 clear hW1
 have hgbx : w2.heap.size ≤ w2.heap.size := Nat.le_refl _
 generalize hgg : w2.heap.size = gbx at bx hgbx ⊢
 have hsbx : w2.heap.size ≤ gbx := by omega
 clear hgg hgbx
 have hgr := Nat.lt_of_lt_of_le hgr a1.size
 replace hl := hl.trans a1
 replace hb := hb.le a1
 replace hr := hr.le a1
 clear a1 x0 x1 x2 x3 x4 x5 x6 x7 x8 x9 x10 x11
 clear z0 z1 z2 z3 z4 z5 z6 z7 z8
 obtain ⟨x0, x1, x2, x3, x4, x5, x6, x7, x8, x9, x10, x11⟩ := bx.th
 obtain ⟨⟨z0, z1, z2, z3, z4⟩, z5, z6, z7, z8⟩ := (hb).mach
 go_quiet (fail)
 clear x0 x1 x2 x3 x4 x5 x6 x7 x8 x9 x10 x11
 clear z0 z1 z2 z3 z4 z5 z6 z7 z8
 have l1 := Le.drewN W2 nq
 generalize W2.drewN nq = W3 at l1 ⊢
 replace hb := hb.le l1
 replace hl := hl.trans l1
 have hgr := Nat.lt_of_lt_of_le hgr l1.size
 replace hr := hr.le l1
 replace bx := bx.le l1
 clear l1
 obtain ⟨x0, x1, x2, x3, x4, x5, x6, x7, x8, x9, x10, x11⟩ := bx.th
 simp only [HG.out, HH.out] at m2
 obtain ⟨⟨z0, z1, z2, z3, z4⟩, z5, z6, z7, z8⟩ := (hb).mach
 go_wp2_with fail
 refine (m2 _ hl).mono ?_
 rintro e w9 ⟨_, rfl, ⟨L, rfl, HM, o1, ap⟩, l1⟩
 clear z0 z1 z2 z3 z4 z5 z6 z7 z8
 clear m2 x0 x1 x2 x3 x4 x5 x6 x7 x8 x9 x10 x11
 have hbo := Box.new w9 (cells9 L.c L.qR L.qP L.qT L.qH) 29
 have a1 := Le.alloc w9 (.cells (cells9 L.c L.qR L.qP L.qT L.qH) 29)
 go_upto_region 11 with fail
 generalize hW1 : w9.alloc (.cells (cells9 L.c L.qR L.qP L.qT L.qH) 29) = W4 at hbo a1 ⊢
 clear hW1
 have I : MoI W3.heap.size w9.heap.size W4 L := ⟨hbo, l1.size, o1.le a1, ap⟩
 have hgo : W3.heap.size ≤ w9.heap.size := l1.size
 generalize w9.heap.size = go at hbo I hgo ⊢
 have l01 := l1.trans a1
 clear hbo o1 ap l1 a1
 obtain ⟨c', uR, uP, uT, uH, xR, xP, xT, xH⟩ := L
 try simp only at I ⊢
 replace hr := hr.le l01
 replace hb := hb.le l01
 have hlB : w.heap.size ≤ W3.heap.size := hl.size
 replace hl := hl.trans l01
 have hmI := I.has
 rw [HM] at hmI
 have m3 := fun st w' (l : Le W4 w') => rmStepped _ N t st w' (hmI.le l) hpf (by rw [hpl]; exact hti)
 obtain ⟨⟨y0, y1, y2, y3, y4⟩, y5, y6, y7, y8⟩ := (I.bo).mach
 clear HM hat bx
 cases ok
 ·
  go_wp2_with fail
  refine (m3 _ _ (Le.refl _)).mono ?_
  rintro e w9 ⟨_, rfl, ⟨⟨c', uR, uP, uT, uH, xR, xP, xT, xH⟩, rfl, HM, o1, ap⟩, l1⟩
  clear m3 I
  replace hr := hr.le l1
  obtain ⟨⟨r0, r1, r2, r3, r4, r5, r6, r7, r8⟩, k0, k1, k2, k3, k4, k5, k6, k7, k8⟩ := hr.res
  go_wp2_with fail
  refine bodyPost_ret (v := .tuple #[machV c' uR uP uT uH, .int .i64 0]) (by simp [results, Tryz.results59, go_sem, r0, r1, r2, r3, r4, r5, r6, r7, r8]) rfl ⟨_, rfl, ?_, (hl.trans l1).put9 (g := w.heap.size + 1) (by omega) c' uR uP uT uH⟩
  refine ⟨⟨c', uR, uP, uT, uH, xR, xP, xT, xH⟩, rfl, HM, ?_, ap⟩
  exact (o1.base hl.size).put9 hr c' uR uP uT uH
 ·
  go_wp2_with fail
  refine (m3 _ _ (Le.refl _)).mono ?_
  rintro e w9 ⟨_, rfl, ⟨⟨c', uR, uP, uT, uH, xR, xP, xT, xH⟩, rfl, HM, o1, ap⟩, l1⟩
  clear m3 I
  replace hr := hr.le l1
  obtain ⟨⟨r0, r1, r2, r3, r4, r5, r6, r7, r8⟩, k0, k1, k2, k3, k4, k5, k6, k7, k8⟩ := hr.res
  go_wp2_with fail
  refine bodyPost_ret (v := .tuple #[machV c' uR uP uT uH, .int .i64 0]) (by simp [results, Tryz.results59, go_sem, r0, r1, r2, r3, r4, r5, r6, r7, r8]) rfl ⟨_, rfl, ?_, (hl.trans l1).put9 (g := w.heap.size + 1) (by omega) c' uR uP uT uH⟩
  refine ⟨⟨c', uR, uP, uT, uH, xR, xP, xT, xH⟩, rfl, HM, ?_, ap⟩
  exact (o1.base hl.size).put9 hr c' uR uP uT uH
set_option maxRecDepth 8000 in
set_option maxHeartbeats 8000000 in
theorem rmUpd3 (v : Value) (M : Mc) (t : Int) (w : World) (hx : HasM w v M) (hf : FitM M) (h1 : thereB M 0 0 t = true) (h2 : opUp (M.th t).c (M.th t).r (M.th t).a = true) (h3 : (M.th t).st = 3) : Calls Tryz.prog 59 #[v, .int .i64 t] w fun e w' => ∃ v', e = .returned (.tuple #[v', .int .i64 0]) ∧ OwnA w' w.heap.size v' (collectM M t).1 ∧ Le w w' := by
 have m2 := fun w' (l : Le w w') => rmCollect v M t w' (hx.le l) hf
 have hce : (collectM M t).2 = 0 := by unfold collectM; rw [h1, decide_eq_true h3]; rfl
 rw [hce] at m2
 clear hce
 have m1 := fun w' (l : Le w w') => rmThere v M 0 0 t w' (hx.le l) hf
 obtain ⟨hmay, _, _, ⟨t0, t1⟩⟩ := thereB_cases h1
 obtain ⟨hrs, hps, hts, _⟩ := mayM_lens hmay
 obtain ⟨_, ⟨r2, r3⟩, ⟨_, l3⟩, ⟨t2, t3⟩, _, _⟩ := Cfg.ok_cases (mayM_ok hmay)
 obtain ⟨t, rfl⟩ : ∃ n : Nat, t = n := ⟨t.toNat, by omega⟩
 have hti : t < M.ts.length := by omega
 have hti' : (t : Int) < (M.ts.length : Int) := by omega
 have hxw := hx
 obtain ⟨_, _, ⟨g0, g1⟩, _, _, _, _, _, _⟩ := thB_cases (Mc.th_may hmay hti)
 obtain ⟨g, hg⟩ : ∃ n : Nat, (M.th t).lg = n := ⟨(M.th t).lg.toNat, by omega⟩
 obtain ⟨r, hr0⟩ : ∃ n : Nat, M.home t = n := ⟨(M.home t).toNat, by have := Int.emod_nonneg (t : Int) (show M.c.r ≠ 0 by omega); unfold Mc.home; omega⟩
 have hrr : (r : Int) < M.c.r := by have := Int.emod_lt_of_pos (t : Int) (show 0 < M.c.r by omega); unfold Mc.home at hr0; omega
 have htm : (t : Int).tmod M.c.r = (r : Int) := by rw [← hr0]; exact Int.tmod_eq_emod_of_nonneg (by omega)
 have htm2 : (t : Int) % M.c.r = (r : Int) := hr0
 have hne0 : ¬ M.c.r = 0 := by omega
 obtain ⟨bR, oR, cR, bP, oP, cP, bT, oT, cT, qH, rfl, hcR, hcP, hcT, _⟩ := hx.opens hmay
 obtain ⟨⟨b0, b1, b2⟩, qt, hat, hbb, _⟩ := hcT t hti
 have hb1 := has_len hbb
 rw [← Mc.th_nat] at hat hb1
 simp only [h1] at m1
 obtain ⟨T, hT⟩ : ∃ T, T = M.th t := ⟨_, rfl⟩
 have HT : Hid (T = M.th t) := hT
 have HG : Hid ((M.th t).lg = g) := hg
 have HH : Hid (M.home t = r) := hr0
 have HMAY : Hid (mayM M = true) := hmay
 rw [← hT] at h2 h3 hg hat hb1
 clear hT hr0
 obtain ⟨tst, tc, tr, ta, tlg, tsn, tb, tpl, tpo, tre, tan, ttl⟩ := T
 simp only at h2 h3 hg hb1
 subst h3 hg
 have HB1 : Hid (b1 = tb.length) := hb1
 clear h1 hb1 hmay hrs hps hts hbb hcT hcR hx
 have hr := Box.new (w.alloc (.cells (cells9 M.c (some ⟨bR, oR, none⟩, M.rs.length, cR) (some ⟨bP, oP, none⟩, M.ps.length, cP) (some ⟨bT, oT, none⟩, M.ts.length, cT) qH) 29)) cellsZ9 29
 have hb := (Box.new w (cells9 M.c (some ⟨bR, oR, none⟩, M.rs.length, cR) (some ⟨bP, oP, none⟩, M.ps.length, cP) (some ⟨bT, oT, none⟩, M.ts.length, cT) qH) 29).le (Le.alloc _ (.cells cellsZ9 29))
 have hl := (Le.alloc w (.cells (cells9 M.c (some ⟨bR, oR, none⟩, M.rs.length, cR) (some ⟨bP, oP, none⟩, M.ps.length, cP) (some ⟨bT, oT, none⟩, M.ts.length, cT) qH) 29)).trans (Le.alloc _ (.cells cellsZ9 29))
 rw [World.size_alloc] at hr
 go_enter Tryz.func59, Tryz.ntmps59
 go_upto_region 1 with fail
 generalize hW : (w.alloc (.cells (cells9 M.c (some ⟨bR, oR, none⟩, M.rs.length, cR) (some ⟨bP, oP, none⟩, M.ps.length, cP) (some ⟨bT, oT, none⟩, M.ts.length, cT) qH) 29)).alloc (.cells cellsZ9 29) = W at hl hb hr ⊢
 clear hW
 have hgr := hr.lt
 obtain ⟨⟨z0, z1, z2, z3, z4⟩, z5, z6, z7, z8⟩ := (hb).mach
 go_wp2_with fail
 refine (m1 _ hl).mono ?_
 rintro e w1 ⟨rfl, l1⟩
 clear z0 z1 z2 z3 z4 z5 z6 z7 z8
 clear m1
 replace hb := hb.le l1
 replace hl := hl.trans l1
 have hgr := Nat.lt_of_lt_of_le hgr l1.size
 replace hr := hr.le l1
 clear l1
 obtain ⟨x0, x1, x2, x3, x4, x5, x6, x7, x8, x9, x10, x11⟩ := hat.le hl
 obtain ⟨⟨z0, z1, z2, z3, z4⟩, z5, z6, z7, z8⟩ := (hb).mach
 simp only [slV] at z7
 go_wp2_with fail
 refine (refUpdates _ _ _ _).mono ?_
 rw [h2]
 rintro e w2 ⟨rfl, l1⟩
 clear x0 x1 x2 x3 x4 x5 x6 x7 x8 x9 x10 x11 h2
 clear z0 z1 z2 z3 z4 z5 z6 z7 z8
 replace hb := hb.le l1
 replace hl := hl.trans l1
 have hgr := Nat.lt_of_lt_of_le hgr l1.size
 replace hr := hr.le l1
 clear l1
 obtain ⟨x0, x1, x2, x3, x4, x5, x6, x7, x8, x9, x10, x11⟩ := hat.le hl
 obtain ⟨⟨z0, z1, z2, z3, z4⟩, z5, z6, z7, z8⟩ := (hb).mach
 simp only [slV] at z7
 have bx := Box.new w2 (cellsT ⟨3, tc, tr, ta, (g : Int), tsn, tb, tpl, tpo, tre, tan, ttl⟩ (b0, b1, b2) qt) 59
 have a1 := Le.alloc w2 (.cells (cellsT ⟨3, tc, tr, ta, (g : Int), tsn, tb, tpl, tpo, tre, tan, ttl⟩ (b0, b1, b2) qt) 59)
 go_upto_region 4 with fail
 generalize hW1 : w2.alloc (.cells (cellsT ⟨3, tc, tr, ta, (g : Int), tsn, tb, tpl, tpo, tre, tan, ttl⟩ (b0, b1, b2) qt) 59) = W2 at bx a1 ⊢
 clear hW1
 have hgbx : w2.heap.size ≤ w2.heap.size := Nat.le_refl _
 generalize hgg : w2.heap.size = gbx at bx hgbx ⊢
 have hsbx : w2.heap.size ≤ gbx := by omega
 clear hgg hgbx
 have hgr := Nat.lt_of_lt_of_le hgr a1.size
 replace hl := hl.trans a1
 replace hb := hb.le a1
 replace hr := hr.le a1
 clear a1 x0 x1 x2 x3 x4 x5 x6 x7 x8 x9 x10 x11
 clear z0 z1 z2 z3 z4 z5 z6 z7 z8
 obtain ⟨x0, x1, x2, x3, x4, x5, x6, x7, x8, x9, x10, x11⟩ := bx.th
 obtain ⟨⟨z0, z1, z2, z3, z4⟩, z5, z6, z7, z8⟩ := (hb).mach
 go_quiet (fail)
 clear x0 x1 x2 x3 x4 x5 x6 x7 x8 x9 x10 x11
 clear z0 z1 z2 z3 z4 z5 z6 z7 z8
 have l1 := Le.drewN W2 nq
 generalize W2.drewN nq = W3 at l1 ⊢
 replace hb := hb.le l1
 replace hl := hl.trans l1
 have hgr := Nat.lt_of_lt_of_le hgr l1.size
 replace hr := hr.le l1
 replace bx := bx.le l1
 clear l1
 obtain ⟨x0, x1, x2, x3, x4, x5, x6, x7, x8, x9, x10, x11⟩ := bx.th
 obtain ⟨⟨z0, z1, z2, z3, z4⟩, z5, z6, z7, z8⟩ := (hb).mach
 clear hat bx
 go_wp2_with fail
 refine (m2 _ hl).mono ?_
 rintro e w9 ⟨_, rfl, ⟨⟨c', uR, uP, uT, uH, xR, xP, xT, xH⟩, rfl, HM, o1, ap⟩, l1⟩
 clear m2
 replace hr := hr.le l1
 obtain ⟨⟨r0, r1, r2, r3, r4, r5, r6, r7, r8⟩, k0, k1, k2, k3, k4, k5, k6, k7, k8⟩ := hr.res
 go_wp2_with fail
 refine bodyPost_ret (v := .tuple #[machV c' uR uP uT uH, .int .i64 0]) (by simp [results, Tryz.results59, go_sem, r0, r1, r2, r3, r4, r5, r6, r7, r8]) rfl ⟨_, rfl, ?_, (hl.trans l1).put9 (g := w.heap.size + 1) (by omega) c' uR uP uT uH⟩
 refine ⟨⟨c', uR, uP, uT, uH, xR, xP, xT, xH⟩, rfl, HM, ?_, ap⟩
 exact (o1.base hl.size).put9 hr c' uR uP uT uH
set_option maxRecDepth 8000 in
set_option maxHeartbeats 8000000 in
theorem rmUpdC (v : Value) (M : Mc) (t : Int) (w : World) (hx : HasM w v M) (hf : FitM M) (h1 : thereB M 0 0 t = true) (h2 : opUp (M.th t).c (M.th t).r (M.th t).a = true) (st : Int) (hst : 4 ≤ st ∧ st ≤ 7) (h3 : (M.th t).st = st) (N : Mc) (m2 : ∀ w', Le w w' → Calls Tryz.prog 94 #[v, .int .i64 t] w' fun e w'' => ∃ v', e = .returned (.tuple #[v', .int .i64 0]) ∧ OwnA w'' w'.heap.size v' N ∧ Le w' w'') : Calls Tryz.prog 59 #[v, .int .i64 t] w fun e w' => ∃ v', e = .returned (.tuple #[v', .int .i64 0]) ∧ OwnA w' w.heap.size v' N ∧ Le w w' := by
 have hst4 : st = 4 ∨ st = 5 ∨ st = 6 ∨ st = 7 := by omega
 clear hst
 rcases hst4 with rfl | rfl | rfl | rfl
 ·
  have m1 := fun w' (l : Le w w') => rmThere v M 0 0 t w' (hx.le l) hf
  obtain ⟨hmay, _, _, ⟨t0, t1⟩⟩ := thereB_cases h1
  obtain ⟨hrs, hps, hts, _⟩ := mayM_lens hmay
  obtain ⟨_, ⟨r2, r3⟩, ⟨_, l3⟩, ⟨t2, t3⟩, _, _⟩ := Cfg.ok_cases (mayM_ok hmay)
  obtain ⟨t, rfl⟩ : ∃ n : Nat, t = n := ⟨t.toNat, by omega⟩
  have hti : t < M.ts.length := by omega
  have hti' : (t : Int) < (M.ts.length : Int) := by omega
  have hxw := hx
  obtain ⟨_, _, ⟨g0, g1⟩, _, _, _, _, _, _⟩ := thB_cases (Mc.th_may hmay hti)
  obtain ⟨g, hg⟩ : ∃ n : Nat, (M.th t).lg = n := ⟨(M.th t).lg.toNat, by omega⟩
  obtain ⟨r, hr0⟩ : ∃ n : Nat, M.home t = n := ⟨(M.home t).toNat, by have := Int.emod_nonneg (t : Int) (show M.c.r ≠ 0 by omega); unfold Mc.home; omega⟩
  have hrr : (r : Int) < M.c.r := by have := Int.emod_lt_of_pos (t : Int) (show 0 < M.c.r by omega); unfold Mc.home at hr0; omega
  have htm : (t : Int).tmod M.c.r = (r : Int) := by rw [← hr0]; exact Int.tmod_eq_emod_of_nonneg (by omega)
  have htm2 : (t : Int) % M.c.r = (r : Int) := hr0
  have hne0 : ¬ M.c.r = 0 := by omega
  obtain ⟨bR, oR, cR, bP, oP, cP, bT, oT, cT, qH, rfl, hcR, hcP, hcT, _⟩ := hx.opens hmay
  obtain ⟨⟨b0, b1, b2⟩, qt, hat, hbb, _⟩ := hcT t hti
  have hb1 := has_len hbb
  rw [← Mc.th_nat] at hat hb1
  simp only [h1] at m1
  obtain ⟨T, hT⟩ : ∃ T, T = M.th t := ⟨_, rfl⟩
  have HT : Hid (T = M.th t) := hT
  have HG : Hid ((M.th t).lg = g) := hg
  have HH : Hid (M.home t = r) := hr0
  have HMAY : Hid (mayM M = true) := hmay
  rw [← hT] at h2 h3 hg hat hb1
  clear hT hr0
  obtain ⟨tst, tc, tr, ta, tlg, tsn, tb, tpl, tpo, tre, tan, ttl⟩ := T
  simp only at h2 h3 hg hb1
  subst h3 hg
  have HB1 : Hid (b1 = tb.length) := hb1
  clear h1 hb1 hmay hrs hps hts hbb hcT hcR hx
  have hr := Box.new (w.alloc (.cells (cells9 M.c (some ⟨bR, oR, none⟩, M.rs.length, cR) (some ⟨bP, oP, none⟩, M.ps.length, cP) (some ⟨bT, oT, none⟩, M.ts.length, cT) qH) 29)) cellsZ9 29
  have hb := (Box.new w (cells9 M.c (some ⟨bR, oR, none⟩, M.rs.length, cR) (some ⟨bP, oP, none⟩, M.ps.length, cP) (some ⟨bT, oT, none⟩, M.ts.length, cT) qH) 29).le (Le.alloc _ (.cells cellsZ9 29))
  have hl := (Le.alloc w (.cells (cells9 M.c (some ⟨bR, oR, none⟩, M.rs.length, cR) (some ⟨bP, oP, none⟩, M.ps.length, cP) (some ⟨bT, oT, none⟩, M.ts.length, cT) qH) 29)).trans (Le.alloc _ (.cells cellsZ9 29))
  rw [World.size_alloc] at hr
  go_enter Tryz.func59, Tryz.ntmps59
  go_upto_region 1 with fail
  generalize hW : (w.alloc (.cells (cells9 M.c (some ⟨bR, oR, none⟩, M.rs.length, cR) (some ⟨bP, oP, none⟩, M.ps.length, cP) (some ⟨bT, oT, none⟩, M.ts.length, cT) qH) 29)).alloc (.cells cellsZ9 29) = W at hl hb hr ⊢
  clear hW
  have hgr := hr.lt
  obtain ⟨⟨z0, z1, z2, z3, z4⟩, z5, z6, z7, z8⟩ := (hb).mach
  go_wp2_with fail
  refine (m1 _ hl).mono ?_
  rintro e w1 ⟨rfl, l1⟩
  clear z0 z1 z2 z3 z4 z5 z6 z7 z8
  clear m1
  replace hb := hb.le l1
  replace hl := hl.trans l1
  have hgr := Nat.lt_of_lt_of_le hgr l1.size
  replace hr := hr.le l1
  clear l1
  obtain ⟨x0, x1, x2, x3, x4, x5, x6, x7, x8, x9, x10, x11⟩ := hat.le hl
  obtain ⟨⟨z0, z1, z2, z3, z4⟩, z5, z6, z7, z8⟩ := (hb).mach
  simp only [slV] at z7
  go_wp2_with fail
  refine (refUpdates _ _ _ _).mono ?_
  rw [h2]
  rintro e w2 ⟨rfl, l1⟩
  clear x0 x1 x2 x3 x4 x5 x6 x7 x8 x9 x10 x11 h2
  clear z0 z1 z2 z3 z4 z5 z6 z7 z8
  replace hb := hb.le l1
  replace hl := hl.trans l1
  have hgr := Nat.lt_of_lt_of_le hgr l1.size
  replace hr := hr.le l1
  clear l1
  obtain ⟨x0, x1, x2, x3, x4, x5, x6, x7, x8, x9, x10, x11⟩ := hat.le hl
  obtain ⟨⟨z0, z1, z2, z3, z4⟩, z5, z6, z7, z8⟩ := (hb).mach
  simp only [slV] at z7
  have bx := Box.new w2 (cellsT ⟨4, tc, tr, ta, (g : Int), tsn, tb, tpl, tpo, tre, tan, ttl⟩ (b0, b1, b2) qt) 59
  have a1 := Le.alloc w2 (.cells (cellsT ⟨4, tc, tr, ta, (g : Int), tsn, tb, tpl, tpo, tre, tan, ttl⟩ (b0, b1, b2) qt) 59)
  go_upto_region 4 with fail
  generalize hW1 : w2.alloc (.cells (cellsT ⟨4, tc, tr, ta, (g : Int), tsn, tb, tpl, tpo, tre, tan, ttl⟩ (b0, b1, b2) qt) 59) = W2 at bx a1 ⊢
  clear hW1
  have hgbx : w2.heap.size ≤ w2.heap.size := Nat.le_refl _
  generalize hgg : w2.heap.size = gbx at bx hgbx ⊢
  have hsbx : w2.heap.size ≤ gbx := by omega
  clear hgg hgbx
  have hgr := Nat.lt_of_lt_of_le hgr a1.size
  replace hl := hl.trans a1
  replace hb := hb.le a1
  replace hr := hr.le a1
  clear a1 x0 x1 x2 x3 x4 x5 x6 x7 x8 x9 x10 x11
  clear z0 z1 z2 z3 z4 z5 z6 z7 z8
  obtain ⟨x0, x1, x2, x3, x4, x5, x6, x7, x8, x9, x10, x11⟩ := bx.th
  obtain ⟨⟨z0, z1, z2, z3, z4⟩, z5, z6, z7, z8⟩ := (hb).mach
  go_quiet (fail)
  clear x0 x1 x2 x3 x4 x5 x6 x7 x8 x9 x10 x11
  clear z0 z1 z2 z3 z4 z5 z6 z7 z8
  have l1 := Le.drewN W2 nq
  generalize W2.drewN nq = W3 at l1 ⊢
  replace hb := hb.le l1
  replace hl := hl.trans l1
  have hgr := Nat.lt_of_lt_of_le hgr l1.size
  replace hr := hr.le l1
  replace bx := bx.le l1
  clear l1
  obtain ⟨x0, x1, x2, x3, x4, x5, x6, x7, x8, x9, x10, x11⟩ := bx.th
  obtain ⟨⟨z0, z1, z2, z3, z4⟩, z5, z6, z7, z8⟩ := (hb).mach
  go_wp2_with fail
  refine (m2 _ hl).mono ?_
  rintro e w9 ⟨_, rfl, ⟨L, rfl, HM, o1, ap⟩, l1⟩
  clear z0 z1 z2 z3 z4 z5 z6 z7 z8
  clear m2 x0 x1 x2 x3 x4 x5 x6 x7 x8 x9 x10 x11
  have hbo := Box.new w9 (cells9 L.c L.qR L.qP L.qT L.qH) 29
  have a1 := Le.alloc w9 (.cells (cells9 L.c L.qR L.qP L.qT L.qH) 29)
  go_upto_region 21 with fail
  generalize hW1 : w9.alloc (.cells (cells9 L.c L.qR L.qP L.qT L.qH) 29) = W4 at hbo a1 ⊢
  clear hW1
  have I : MoI W3.heap.size w9.heap.size W4 L := ⟨hbo, l1.size, o1.le a1, ap⟩
  have hgo : W3.heap.size ≤ w9.heap.size := l1.size
  generalize w9.heap.size = go at hbo I hgo ⊢
  have l01 := l1.trans a1
  clear hbo o1 ap l1 a1
  obtain ⟨c', uR, uP, uT, uH, xR, xP, xT, xH⟩ := L
  try simp only at I ⊢
  replace hr := hr.le l01
  replace hb := hb.le l01
  have hlB : w.heap.size ≤ W3.heap.size := hl.size
  replace hl := hl.trans l01
  obtain ⟨⟨y0, y1, y2, y3, y4⟩, y5, y6, y7, y8⟩ := (I.bo).mach
  obtain ⟨⟨r0, r1, r2, r3, r4, r5, r6, r7, r8⟩, k0, k1, k2, k3, k4, k5, k6, k7, k8⟩ := hr.res
  go_wp2_with fail
  refine bodyPost_ret (v := .tuple #[machV c' uR uP uT uH, .int .i64 0]) (by simp [results, Tryz.results59, go_sem, r0, r1, r2, r3, r4, r5, r6, r7, r8]) rfl ⟨_, rfl, ?_, (hl).put9 (g := w.heap.size + 1) (by omega) c' uR uP uT uH⟩
  have := (I.ret hr).base hlB
  rw [HM] at this
  exact this
 ·
  have m1 := fun w' (l : Le w w') => rmThere v M 0 0 t w' (hx.le l) hf
  obtain ⟨hmay, _, _, ⟨t0, t1⟩⟩ := thereB_cases h1
  obtain ⟨hrs, hps, hts, _⟩ := mayM_lens hmay
  obtain ⟨_, ⟨r2, r3⟩, ⟨_, l3⟩, ⟨t2, t3⟩, _, _⟩ := Cfg.ok_cases (mayM_ok hmay)
  obtain ⟨t, rfl⟩ : ∃ n : Nat, t = n := ⟨t.toNat, by omega⟩
  have hti : t < M.ts.length := by omega
  have hti' : (t : Int) < (M.ts.length : Int) := by omega
  have hxw := hx
  obtain ⟨_, _, ⟨g0, g1⟩, _, _, _, _, _, _⟩ := thB_cases (Mc.th_may hmay hti)
  obtain ⟨g, hg⟩ : ∃ n : Nat, (M.th t).lg = n := ⟨(M.th t).lg.toNat, by omega⟩
  obtain ⟨r, hr0⟩ : ∃ n : Nat, M.home t = n := ⟨(M.home t).toNat, by have := Int.emod_nonneg (t : Int) (show M.c.r ≠ 0 by omega); unfold Mc.home; omega⟩
  have hrr : (r : Int) < M.c.r := by have := Int.emod_lt_of_pos (t : Int) (show 0 < M.c.r by omega); unfold Mc.home at hr0; omega
  have htm : (t : Int).tmod M.c.r = (r : Int) := by rw [← hr0]; exact Int.tmod_eq_emod_of_nonneg (by omega)
  have htm2 : (t : Int) % M.c.r = (r : Int) := hr0
  have hne0 : ¬ M.c.r = 0 := by omega
  obtain ⟨bR, oR, cR, bP, oP, cP, bT, oT, cT, qH, rfl, hcR, hcP, hcT, _⟩ := hx.opens hmay
  obtain ⟨⟨b0, b1, b2⟩, qt, hat, hbb, _⟩ := hcT t hti
  have hb1 := has_len hbb
  rw [← Mc.th_nat] at hat hb1
  simp only [h1] at m1
  obtain ⟨T, hT⟩ : ∃ T, T = M.th t := ⟨_, rfl⟩
  have HT : Hid (T = M.th t) := hT
  have HG : Hid ((M.th t).lg = g) := hg
  have HH : Hid (M.home t = r) := hr0
  have HMAY : Hid (mayM M = true) := hmay
  rw [← hT] at h2 h3 hg hat hb1
  clear hT hr0
  obtain ⟨tst, tc, tr, ta, tlg, tsn, tb, tpl, tpo, tre, tan, ttl⟩ := T
  simp only at h2 h3 hg hb1
  subst h3 hg
  have HB1 : Hid (b1 = tb.length) := hb1
  clear h1 hb1 hmay hrs hps hts hbb hcT hcR hx
  have hr := Box.new (w.alloc (.cells (cells9 M.c (some ⟨bR, oR, none⟩, M.rs.length, cR) (some ⟨bP, oP, none⟩, M.ps.length, cP) (some ⟨bT, oT, none⟩, M.ts.length, cT) qH) 29)) cellsZ9 29
  have hb := (Box.new w (cells9 M.c (some ⟨bR, oR, none⟩, M.rs.length, cR) (some ⟨bP, oP, none⟩, M.ps.length, cP) (some ⟨bT, oT, none⟩, M.ts.length, cT) qH) 29).le (Le.alloc _ (.cells cellsZ9 29))
  have hl := (Le.alloc w (.cells (cells9 M.c (some ⟨bR, oR, none⟩, M.rs.length, cR) (some ⟨bP, oP, none⟩, M.ps.length, cP) (some ⟨bT, oT, none⟩, M.ts.length, cT) qH) 29)).trans (Le.alloc _ (.cells cellsZ9 29))
  rw [World.size_alloc] at hr
  go_enter Tryz.func59, Tryz.ntmps59
  go_upto_region 1 with fail
  generalize hW : (w.alloc (.cells (cells9 M.c (some ⟨bR, oR, none⟩, M.rs.length, cR) (some ⟨bP, oP, none⟩, M.ps.length, cP) (some ⟨bT, oT, none⟩, M.ts.length, cT) qH) 29)).alloc (.cells cellsZ9 29) = W at hl hb hr ⊢
  clear hW
  have hgr := hr.lt
  obtain ⟨⟨z0, z1, z2, z3, z4⟩, z5, z6, z7, z8⟩ := (hb).mach
  go_wp2_with fail
  refine (m1 _ hl).mono ?_
  rintro e w1 ⟨rfl, l1⟩
  clear z0 z1 z2 z3 z4 z5 z6 z7 z8
  clear m1
  replace hb := hb.le l1
  replace hl := hl.trans l1
  have hgr := Nat.lt_of_lt_of_le hgr l1.size
  replace hr := hr.le l1
  clear l1
  obtain ⟨x0, x1, x2, x3, x4, x5, x6, x7, x8, x9, x10, x11⟩ := hat.le hl
  obtain ⟨⟨z0, z1, z2, z3, z4⟩, z5, z6, z7, z8⟩ := (hb).mach
  simp only [slV] at z7
  go_wp2_with fail
  refine (refUpdates _ _ _ _).mono ?_
  rw [h2]
  rintro e w2 ⟨rfl, l1⟩
  clear x0 x1 x2 x3 x4 x5 x6 x7 x8 x9 x10 x11 h2
  clear z0 z1 z2 z3 z4 z5 z6 z7 z8
  replace hb := hb.le l1
  replace hl := hl.trans l1
  have hgr := Nat.lt_of_lt_of_le hgr l1.size
  replace hr := hr.le l1
  clear l1
  obtain ⟨x0, x1, x2, x3, x4, x5, x6, x7, x8, x9, x10, x11⟩ := hat.le hl
  obtain ⟨⟨z0, z1, z2, z3, z4⟩, z5, z6, z7, z8⟩ := (hb).mach
  simp only [slV] at z7
  have bx := Box.new w2 (cellsT ⟨5, tc, tr, ta, (g : Int), tsn, tb, tpl, tpo, tre, tan, ttl⟩ (b0, b1, b2) qt) 59
  have a1 := Le.alloc w2 (.cells (cellsT ⟨5, tc, tr, ta, (g : Int), tsn, tb, tpl, tpo, tre, tan, ttl⟩ (b0, b1, b2) qt) 59)
  go_upto_region 4 with fail
  generalize hW1 : w2.alloc (.cells (cellsT ⟨5, tc, tr, ta, (g : Int), tsn, tb, tpl, tpo, tre, tan, ttl⟩ (b0, b1, b2) qt) 59) = W2 at bx a1 ⊢
  clear hW1
  have hgbx : w2.heap.size ≤ w2.heap.size := Nat.le_refl _
  generalize hgg : w2.heap.size = gbx at bx hgbx ⊢
  have hsbx : w2.heap.size ≤ gbx := by omega
  clear hgg hgbx
  have hgr := Nat.lt_of_lt_of_le hgr a1.size
  replace hl := hl.trans a1
  replace hb := hb.le a1
  replace hr := hr.le a1
  clear a1 x0 x1 x2 x3 x4 x5 x6 x7 x8 x9 x10 x11
  clear z0 z1 z2 z3 z4 z5 z6 z7 z8
  obtain ⟨x0, x1, x2, x3, x4, x5, x6, x7, x8, x9, x10, x11⟩ := bx.th
  obtain ⟨⟨z0, z1, z2, z3, z4⟩, z5, z6, z7, z8⟩ := (hb).mach
  go_quiet (fail)
  clear x0 x1 x2 x3 x4 x5 x6 x7 x8 x9 x10 x11
  clear z0 z1 z2 z3 z4 z5 z6 z7 z8
  have l1 := Le.drewN W2 nq
  generalize W2.drewN nq = W3 at l1 ⊢
  replace hb := hb.le l1
  replace hl := hl.trans l1
  have hgr := Nat.lt_of_lt_of_le hgr l1.size
  replace hr := hr.le l1
  replace bx := bx.le l1
  clear l1
  obtain ⟨x0, x1, x2, x3, x4, x5, x6, x7, x8, x9, x10, x11⟩ := bx.th
  obtain ⟨⟨z0, z1, z2, z3, z4⟩, z5, z6, z7, z8⟩ := (hb).mach
  go_wp2_with fail
  refine (m2 _ hl).mono ?_
  rintro e w9 ⟨_, rfl, ⟨L, rfl, HM, o1, ap⟩, l1⟩
  clear z0 z1 z2 z3 z4 z5 z6 z7 z8
  clear m2 x0 x1 x2 x3 x4 x5 x6 x7 x8 x9 x10 x11
  have hbo := Box.new w9 (cells9 L.c L.qR L.qP L.qT L.qH) 29
  have a1 := Le.alloc w9 (.cells (cells9 L.c L.qR L.qP L.qT L.qH) 29)
  go_upto_region 21 with fail
  generalize hW1 : w9.alloc (.cells (cells9 L.c L.qR L.qP L.qT L.qH) 29) = W4 at hbo a1 ⊢
  clear hW1
  have I : MoI W3.heap.size w9.heap.size W4 L := ⟨hbo, l1.size, o1.le a1, ap⟩
  have hgo : W3.heap.size ≤ w9.heap.size := l1.size
  generalize w9.heap.size = go at hbo I hgo ⊢
  have l01 := l1.trans a1
  clear hbo o1 ap l1 a1
  obtain ⟨c', uR, uP, uT, uH, xR, xP, xT, xH⟩ := L
  try simp only at I ⊢
  replace hr := hr.le l01
  replace hb := hb.le l01
  have hlB : w.heap.size ≤ W3.heap.size := hl.size
  replace hl := hl.trans l01
  obtain ⟨⟨y0, y1, y2, y3, y4⟩, y5, y6, y7, y8⟩ := (I.bo).mach
  obtain ⟨⟨r0, r1, r2, r3, r4, r5, r6, r7, r8⟩, k0, k1, k2, k3, k4, k5, k6, k7, k8⟩ := hr.res
  go_wp2_with fail
  refine bodyPost_ret (v := .tuple #[machV c' uR uP uT uH, .int .i64 0]) (by simp [results, Tryz.results59, go_sem, r0, r1, r2, r3, r4, r5, r6, r7, r8]) rfl ⟨_, rfl, ?_, (hl).put9 (g := w.heap.size + 1) (by omega) c' uR uP uT uH⟩
  have := (I.ret hr).base hlB
  rw [HM] at this
  exact this
 ·
  have m1 := fun w' (l : Le w w') => rmThere v M 0 0 t w' (hx.le l) hf
  obtain ⟨hmay, _, _, ⟨t0, t1⟩⟩ := thereB_cases h1
  obtain ⟨hrs, hps, hts, _⟩ := mayM_lens hmay
  obtain ⟨_, ⟨r2, r3⟩, ⟨_, l3⟩, ⟨t2, t3⟩, _, _⟩ := Cfg.ok_cases (mayM_ok hmay)
  obtain ⟨t, rfl⟩ : ∃ n : Nat, t = n := ⟨t.toNat, by omega⟩
  have hti : t < M.ts.length := by omega
  have hti' : (t : Int) < (M.ts.length : Int) := by omega
  have hxw := hx
  obtain ⟨_, _, ⟨g0, g1⟩, _, _, _, _, _, _⟩ := thB_cases (Mc.th_may hmay hti)
  obtain ⟨g, hg⟩ : ∃ n : Nat, (M.th t).lg = n := ⟨(M.th t).lg.toNat, by omega⟩
  obtain ⟨r, hr0⟩ : ∃ n : Nat, M.home t = n := ⟨(M.home t).toNat, by have := Int.emod_nonneg (t : Int) (show M.c.r ≠ 0 by omega); unfold Mc.home; omega⟩
  have hrr : (r : Int) < M.c.r := by have := Int.emod_lt_of_pos (t : Int) (show 0 < M.c.r by omega); unfold Mc.home at hr0; omega
  have htm : (t : Int).tmod M.c.r = (r : Int) := by rw [← hr0]; exact Int.tmod_eq_emod_of_nonneg (by omega)
  have htm2 : (t : Int) % M.c.r = (r : Int) := hr0
  have hne0 : ¬ M.c.r = 0 := by omega
  obtain ⟨bR, oR, cR, bP, oP, cP, bT, oT, cT, qH, rfl, hcR, hcP, hcT, _⟩ := hx.opens hmay
  obtain ⟨⟨b0, b1, b2⟩, qt, hat, hbb, _⟩ := hcT t hti
  have hb1 := has_len hbb
  rw [← Mc.th_nat] at hat hb1
  simp only [h1] at m1
  obtain ⟨T, hT⟩ : ∃ T, T = M.th t := ⟨_, rfl⟩
  have HT : Hid (T = M.th t) := hT
  have HG : Hid ((M.th t).lg = g) := hg
  have HH : Hid (M.home t = r) := hr0
  have HMAY : Hid (mayM M = true) := hmay
  rw [← hT] at h2 h3 hg hat hb1
  clear hT hr0
  obtain ⟨tst, tc, tr, ta, tlg, tsn, tb, tpl, tpo, tre, tan, ttl⟩ := T
  simp only at h2 h3 hg hb1
  subst h3 hg
  have HB1 : Hid (b1 = tb.length) := hb1
  clear h1 hb1 hmay hrs hps hts hbb hcT hcR hx
  have hr := Box.new (w.alloc (.cells (cells9 M.c (some ⟨bR, oR, none⟩, M.rs.length, cR) (some ⟨bP, oP, none⟩, M.ps.length, cP) (some ⟨bT, oT, none⟩, M.ts.length, cT) qH) 29)) cellsZ9 29
  have hb := (Box.new w (cells9 M.c (some ⟨bR, oR, none⟩, M.rs.length, cR) (some ⟨bP, oP, none⟩, M.ps.length, cP) (some ⟨bT, oT, none⟩, M.ts.length, cT) qH) 29).le (Le.alloc _ (.cells cellsZ9 29))
  have hl := (Le.alloc w (.cells (cells9 M.c (some ⟨bR, oR, none⟩, M.rs.length, cR) (some ⟨bP, oP, none⟩, M.ps.length, cP) (some ⟨bT, oT, none⟩, M.ts.length, cT) qH) 29)).trans (Le.alloc _ (.cells cellsZ9 29))
  rw [World.size_alloc] at hr
  go_enter Tryz.func59, Tryz.ntmps59
  go_upto_region 1 with fail
  generalize hW : (w.alloc (.cells (cells9 M.c (some ⟨bR, oR, none⟩, M.rs.length, cR) (some ⟨bP, oP, none⟩, M.ps.length, cP) (some ⟨bT, oT, none⟩, M.ts.length, cT) qH) 29)).alloc (.cells cellsZ9 29) = W at hl hb hr ⊢
  clear hW
  have hgr := hr.lt
  obtain ⟨⟨z0, z1, z2, z3, z4⟩, z5, z6, z7, z8⟩ := (hb).mach
  go_wp2_with fail
  refine (m1 _ hl).mono ?_
  rintro e w1 ⟨rfl, l1⟩
  clear z0 z1 z2 z3 z4 z5 z6 z7 z8
  clear m1
  replace hb := hb.le l1
  replace hl := hl.trans l1
  have hgr := Nat.lt_of_lt_of_le hgr l1.size
  replace hr := hr.le l1
  clear l1
  obtain ⟨x0, x1, x2, x3, x4, x5, x6, x7, x8, x9, x10, x11⟩ := hat.le hl
  obtain ⟨⟨z0, z1, z2, z3, z4⟩, z5, z6, z7, z8⟩ := (hb).mach
  simp only [slV] at z7
  go_wp2_with fail
  refine (refUpdates _ _ _ _).mono ?_
  rw [h2]
  rintro e w2 ⟨rfl, l1⟩
  clear x0 x1 x2 x3 x4 x5 x6 x7 x8 x9 x10 x11 h2
  clear z0 z1 z2 z3 z4 z5 z6 z7 z8
  replace hb := hb.le l1
  replace hl := hl.trans l1
  have hgr := Nat.lt_of_lt_of_le hgr l1.size
  replace hr := hr.le l1
  clear l1
  obtain ⟨x0, x1, x2, x3, x4, x5, x6, x7, x8, x9, x10, x11⟩ := hat.le hl
  obtain ⟨⟨z0, z1, z2, z3, z4⟩, z5, z6, z7, z8⟩ := (hb).mach
  simp only [slV] at z7
  have bx := Box.new w2 (cellsT ⟨6, tc, tr, ta, (g : Int), tsn, tb, tpl, tpo, tre, tan, ttl⟩ (b0, b1, b2) qt) 59
  have a1 := Le.alloc w2 (.cells (cellsT ⟨6, tc, tr, ta, (g : Int), tsn, tb, tpl, tpo, tre, tan, ttl⟩ (b0, b1, b2) qt) 59)
  go_upto_region 4 with fail
  generalize hW1 : w2.alloc (.cells (cellsT ⟨6, tc, tr, ta, (g : Int), tsn, tb, tpl, tpo, tre, tan, ttl⟩ (b0, b1, b2) qt) 59) = W2 at bx a1 ⊢
  clear hW1
  have hgbx : w2.heap.size ≤ w2.heap.size := Nat.le_refl _
  generalize hgg : w2.heap.size = gbx at bx hgbx ⊢
  have hsbx : w2.heap.size ≤ gbx := by omega
  clear hgg hgbx
  have hgr := Nat.lt_of_lt_of_le hgr a1.size
  replace hl := hl.trans a1
  replace hb := hb.le a1
  replace hr := hr.le a1
  clear a1 x0 x1 x2 x3 x4 x5 x6 x7 x8 x9 x10 x11
  clear z0 z1 z2 z3 z4 z5 z6 z7 z8
  obtain ⟨x0, x1, x2, x3, x4, x5, x6, x7, x8, x9, x10, x11⟩ := bx.th
  obtain ⟨⟨z0, z1, z2, z3, z4⟩, z5, z6, z7, z8⟩ := (hb).mach
  go_quiet (fail)
  clear x0 x1 x2 x3 x4 x5 x6 x7 x8 x9 x10 x11
  clear z0 z1 z2 z3 z4 z5 z6 z7 z8
  have l1 := Le.drewN W2 nq
  generalize W2.drewN nq = W3 at l1 ⊢
  replace hb := hb.le l1
  replace hl := hl.trans l1
  have hgr := Nat.lt_of_lt_of_le hgr l1.size
  replace hr := hr.le l1
  replace bx := bx.le l1
  clear l1
  obtain ⟨x0, x1, x2, x3, x4, x5, x6, x7, x8, x9, x10, x11⟩ := bx.th
  obtain ⟨⟨z0, z1, z2, z3, z4⟩, z5, z6, z7, z8⟩ := (hb).mach
  go_wp2_with fail
  refine (m2 _ hl).mono ?_
  rintro e w9 ⟨_, rfl, ⟨L, rfl, HM, o1, ap⟩, l1⟩
  clear z0 z1 z2 z3 z4 z5 z6 z7 z8
  clear m2 x0 x1 x2 x3 x4 x5 x6 x7 x8 x9 x10 x11
  have hbo := Box.new w9 (cells9 L.c L.qR L.qP L.qT L.qH) 29
  have a1 := Le.alloc w9 (.cells (cells9 L.c L.qR L.qP L.qT L.qH) 29)
  go_upto_region 21 with fail
  generalize hW1 : w9.alloc (.cells (cells9 L.c L.qR L.qP L.qT L.qH) 29) = W4 at hbo a1 ⊢
  clear hW1
  have I : MoI W3.heap.size w9.heap.size W4 L := ⟨hbo, l1.size, o1.le a1, ap⟩
  have hgo : W3.heap.size ≤ w9.heap.size := l1.size
  generalize w9.heap.size = go at hbo I hgo ⊢
  have l01 := l1.trans a1
  clear hbo o1 ap l1 a1
  obtain ⟨c', uR, uP, uT, uH, xR, xP, xT, xH⟩ := L
  try simp only at I ⊢
  replace hr := hr.le l01
  replace hb := hb.le l01
  have hlB : w.heap.size ≤ W3.heap.size := hl.size
  replace hl := hl.trans l01
  obtain ⟨⟨y0, y1, y2, y3, y4⟩, y5, y6, y7, y8⟩ := (I.bo).mach
  obtain ⟨⟨r0, r1, r2, r3, r4, r5, r6, r7, r8⟩, k0, k1, k2, k3, k4, k5, k6, k7, k8⟩ := hr.res
  go_wp2_with fail
  refine bodyPost_ret (v := .tuple #[machV c' uR uP uT uH, .int .i64 0]) (by simp [results, Tryz.results59, go_sem, r0, r1, r2, r3, r4, r5, r6, r7, r8]) rfl ⟨_, rfl, ?_, (hl).put9 (g := w.heap.size + 1) (by omega) c' uR uP uT uH⟩
  have := (I.ret hr).base hlB
  rw [HM] at this
  exact this
 ·
  have m1 := fun w' (l : Le w w') => rmThere v M 0 0 t w' (hx.le l) hf
  obtain ⟨hmay, _, _, ⟨t0, t1⟩⟩ := thereB_cases h1
  obtain ⟨hrs, hps, hts, _⟩ := mayM_lens hmay
  obtain ⟨_, ⟨r2, r3⟩, ⟨_, l3⟩, ⟨t2, t3⟩, _, _⟩ := Cfg.ok_cases (mayM_ok hmay)
  obtain ⟨t, rfl⟩ : ∃ n : Nat, t = n := ⟨t.toNat, by omega⟩
  have hti : t < M.ts.length := by omega
  have hti' : (t : Int) < (M.ts.length : Int) := by omega
  have hxw := hx
  obtain ⟨_, _, ⟨g0, g1⟩, _, _, _, _, _, _⟩ := thB_cases (Mc.th_may hmay hti)
  obtain ⟨g, hg⟩ : ∃ n : Nat, (M.th t).lg = n := ⟨(M.th t).lg.toNat, by omega⟩
  obtain ⟨r, hr0⟩ : ∃ n : Nat, M.home t = n := ⟨(M.home t).toNat, by have := Int.emod_nonneg (t : Int) (show M.c.r ≠ 0 by omega); unfold Mc.home; omega⟩
  have hrr : (r : Int) < M.c.r := by have := Int.emod_lt_of_pos (t : Int) (show 0 < M.c.r by omega); unfold Mc.home at hr0; omega
  have htm : (t : Int).tmod M.c.r = (r : Int) := by rw [← hr0]; exact Int.tmod_eq_emod_of_nonneg (by omega)
  have htm2 : (t : Int) % M.c.r = (r : Int) := hr0
  have hne0 : ¬ M.c.r = 0 := by omega
  obtain ⟨bR, oR, cR, bP, oP, cP, bT, oT, cT, qH, rfl, hcR, hcP, hcT, _⟩ := hx.opens hmay
  obtain ⟨⟨b0, b1, b2⟩, qt, hat, hbb, _⟩ := hcT t hti
  have hb1 := has_len hbb
  rw [← Mc.th_nat] at hat hb1
  simp only [h1] at m1
  obtain ⟨T, hT⟩ : ∃ T, T = M.th t := ⟨_, rfl⟩
  have HT : Hid (T = M.th t) := hT
  have HG : Hid ((M.th t).lg = g) := hg
  have HH : Hid (M.home t = r) := hr0
  have HMAY : Hid (mayM M = true) := hmay
  rw [← hT] at h2 h3 hg hat hb1
  clear hT hr0
  obtain ⟨tst, tc, tr, ta, tlg, tsn, tb, tpl, tpo, tre, tan, ttl⟩ := T
  simp only at h2 h3 hg hb1
  subst h3 hg
  have HB1 : Hid (b1 = tb.length) := hb1
  clear h1 hb1 hmay hrs hps hts hbb hcT hcR hx
  have hr := Box.new (w.alloc (.cells (cells9 M.c (some ⟨bR, oR, none⟩, M.rs.length, cR) (some ⟨bP, oP, none⟩, M.ps.length, cP) (some ⟨bT, oT, none⟩, M.ts.length, cT) qH) 29)) cellsZ9 29
  have hb := (Box.new w (cells9 M.c (some ⟨bR, oR, none⟩, M.rs.length, cR) (some ⟨bP, oP, none⟩, M.ps.length, cP) (some ⟨bT, oT, none⟩, M.ts.length, cT) qH) 29).le (Le.alloc _ (.cells cellsZ9 29))
  have hl := (Le.alloc w (.cells (cells9 M.c (some ⟨bR, oR, none⟩, M.rs.length, cR) (some ⟨bP, oP, none⟩, M.ps.length, cP) (some ⟨bT, oT, none⟩, M.ts.length, cT) qH) 29)).trans (Le.alloc _ (.cells cellsZ9 29))
  rw [World.size_alloc] at hr
  go_enter Tryz.func59, Tryz.ntmps59
  go_upto_region 1 with fail
  generalize hW : (w.alloc (.cells (cells9 M.c (some ⟨bR, oR, none⟩, M.rs.length, cR) (some ⟨bP, oP, none⟩, M.ps.length, cP) (some ⟨bT, oT, none⟩, M.ts.length, cT) qH) 29)).alloc (.cells cellsZ9 29) = W at hl hb hr ⊢
  clear hW
  have hgr := hr.lt
  obtain ⟨⟨z0, z1, z2, z3, z4⟩, z5, z6, z7, z8⟩ := (hb).mach
  go_wp2_with fail
  refine (m1 _ hl).mono ?_
  rintro e w1 ⟨rfl, l1⟩
  clear z0 z1 z2 z3 z4 z5 z6 z7 z8
  clear m1
  replace hb := hb.le l1
  replace hl := hl.trans l1
  have hgr := Nat.lt_of_lt_of_le hgr l1.size
  replace hr := hr.le l1
  clear l1
  obtain ⟨x0, x1, x2, x3, x4, x5, x6, x7, x8, x9, x10, x11⟩ := hat.le hl
  obtain ⟨⟨z0, z1, z2, z3, z4⟩, z5, z6, z7, z8⟩ := (hb).mach
  simp only [slV] at z7
  go_wp2_with fail
  refine (refUpdates _ _ _ _).mono ?_
  rw [h2]
  rintro e w2 ⟨rfl, l1⟩
  clear x0 x1 x2 x3 x4 x5 x6 x7 x8 x9 x10 x11 h2
  clear z0 z1 z2 z3 z4 z5 z6 z7 z8
  replace hb := hb.le l1
  replace hl := hl.trans l1
  have hgr := Nat.lt_of_lt_of_le hgr l1.size
  replace hr := hr.le l1
  clear l1
  obtain ⟨x0, x1, x2, x3, x4, x5, x6, x7, x8, x9, x10, x11⟩ := hat.le hl
  obtain ⟨⟨z0, z1, z2, z3, z4⟩, z5, z6, z7, z8⟩ := (hb).mach
  simp only [slV] at z7
  have bx := Box.new w2 (cellsT ⟨7, tc, tr, ta, (g : Int), tsn, tb, tpl, tpo, tre, tan, ttl⟩ (b0, b1, b2) qt) 59
  have a1 := Le.alloc w2 (.cells (cellsT ⟨7, tc, tr, ta, (g : Int), tsn, tb, tpl, tpo, tre, tan, ttl⟩ (b0, b1, b2) qt) 59)
  go_upto_region 4 with fail
  generalize hW1 : w2.alloc (.cells (cellsT ⟨7, tc, tr, ta, (g : Int), tsn, tb, tpl, tpo, tre, tan, ttl⟩ (b0, b1, b2) qt) 59) = W2 at bx a1 ⊢
  clear hW1
  have hgbx : w2.heap.size ≤ w2.heap.size := Nat.le_refl _
  generalize hgg : w2.heap.size = gbx at bx hgbx ⊢
  have hsbx : w2.heap.size ≤ gbx := by omega
  clear hgg hgbx
  have hgr := Nat.lt_of_lt_of_le hgr a1.size
  replace hl := hl.trans a1
  replace hb := hb.le a1
  replace hr := hr.le a1
  clear a1 x0 x1 x2 x3 x4 x5 x6 x7 x8 x9 x10 x11
  clear z0 z1 z2 z3 z4 z5 z6 z7 z8
  obtain ⟨x0, x1, x2, x3, x4, x5, x6, x7, x8, x9, x10, x11⟩ := bx.th
  obtain ⟨⟨z0, z1, z2, z3, z4⟩, z5, z6, z7, z8⟩ := (hb).mach
  go_quiet (fail)
  clear x0 x1 x2 x3 x4 x5 x6 x7 x8 x9 x10 x11
  clear z0 z1 z2 z3 z4 z5 z6 z7 z8
  have l1 := Le.drewN W2 nq
  generalize W2.drewN nq = W3 at l1 ⊢
  replace hb := hb.le l1
  replace hl := hl.trans l1
  have hgr := Nat.lt_of_lt_of_le hgr l1.size
  replace hr := hr.le l1
  replace bx := bx.le l1
  clear l1
  obtain ⟨x0, x1, x2, x3, x4, x5, x6, x7, x8, x9, x10, x11⟩ := bx.th
  obtain ⟨⟨z0, z1, z2, z3, z4⟩, z5, z6, z7, z8⟩ := (hb).mach
  go_wp2_with fail
  refine (m2 _ hl).mono ?_
  rintro e w9 ⟨_, rfl, ⟨L, rfl, HM, o1, ap⟩, l1⟩
  clear z0 z1 z2 z3 z4 z5 z6 z7 z8
  clear m2 x0 x1 x2 x3 x4 x5 x6 x7 x8 x9 x10 x11
  have hbo := Box.new w9 (cells9 L.c L.qR L.qP L.qT L.qH) 29
  have a1 := Le.alloc w9 (.cells (cells9 L.c L.qR L.qP L.qT L.qH) 29)
  go_upto_region 21 with fail
  generalize hW1 : w9.alloc (.cells (cells9 L.c L.qR L.qP L.qT L.qH) 29) = W4 at hbo a1 ⊢
  clear hW1
  have I : MoI W3.heap.size w9.heap.size W4 L := ⟨hbo, l1.size, o1.le a1, ap⟩
  have hgo : W3.heap.size ≤ w9.heap.size := l1.size
  generalize w9.heap.size = go at hbo I hgo ⊢
  have l01 := l1.trans a1
  clear hbo o1 ap l1 a1
  obtain ⟨c', uR, uP, uT, uH, xR, xP, xT, xH⟩ := L
  try simp only at I ⊢
  replace hr := hr.le l01
  replace hb := hb.le l01
  have hlB : w.heap.size ≤ W3.heap.size := hl.size
  replace hl := hl.trans l01
  obtain ⟨⟨y0, y1, y2, y3, y4⟩, y5, y6, y7, y8⟩ := (I.bo).mach
  obtain ⟨⟨r0, r1, r2, r3, r4, r5, r6, r7, r8⟩, k0, k1, k2, k3, k4, k5, k6, k7, k8⟩ := hr.res
  go_wp2_with fail
  refine bodyPost_ret (v := .tuple #[machV c' uR uP uT uH, .int .i64 0]) (by simp [results, Tryz.results59, go_sem, r0, r1, r2, r3, r4, r5, r6, r7, r8]) rfl ⟨_, rfl, ?_, (hl).put9 (g := w.heap.size + 1) (by omega) c' uR uP uT uH⟩
  have := (I.ret hr).base hlB
  rw [HM] at this
  exact this
set_option maxRecDepth 8000 in
set_option maxHeartbeats 8000000 in
theorem rmPickU (v : Value) (M : Mc) (t : Int) (w : World) (hx : HasM w v M) (hf : FitM M) (hmay : mayM M = true) (ht : 0 ≤ t ∧ t < M.c.t) (h3 : (M.th t).st ≠ 0) (h4 : (M.th t).c ≠ 2) (h5 : (M.th t).c ≠ 3) (N : Mc) (m2 : ∀ w', Le w w' → Calls Tryz.prog 59 #[v, .int .i64 t] w' fun e w'' => ∃ v', e = .returned (.tuple #[v', .int .i64 0]) ∧ OwnA w'' w'.heap.size v' N ∧ Le w' w'') : Calls Tryz.prog 22 #[v, .int .i64 t] w fun e w' => ∃ v', e = .returned (.tuple #[v', .int .i64 0]) ∧ OwnA w' w.heap.size v' N ∧ Le w w' := by
 have m1 := fun w' (l : Le w w') => rmMay v M w' (hx.le l) hf
 simp only [hmay] at m1
 obtain ⟨hrs, hps, hts, _⟩ := mayM_lens hmay
 obtain ⟨_, ⟨r2, r3⟩, ⟨_, l3⟩, ⟨t2, t3⟩, _, _⟩ := Cfg.ok_cases (mayM_ok hmay)
 obtain ⟨t, rfl⟩ : ∃ n : Nat, t = n := ⟨t.toNat, by omega⟩
 have hti : t < M.ts.length := by omega
 have hti' : (t : Int) < (M.ts.length : Int) := by omega
 have htc : (t : Int) < M.c.t := ht.2
 obtain ⟨bR, oR, cR, bP, oP, cP, bT, oT, cT, qH, rfl, _, _, hcT, _⟩ := hx.opens hmay
 obtain ⟨qb, qt, hat, _, _⟩ := hcT t hti
 rw [← Mc.th_nat] at hat
 obtain ⟨x0, x1, _⟩ := hat
 obtain ⟨st, hst⟩ : ∃ x, x = (M.th t).st := ⟨_, rfl⟩
 obtain ⟨co, hco⟩ : ∃ x, x = (M.th t).c := ⟨_, rfl⟩
 rw [← hst] at h3 x0
 rw [← hco] at h4 h5 x1
 have hb0 : (st == 0) = false := by simp [h3]
 have hb2 : (co == 2) = false := by simp [h4]
 have hb3 : (co == 3) = false := by simp [h5]
 clear hst hco h3 h4 h5 hcT hmay hrs hps hts ht
 have hr := Box.new (w.alloc (.cells (cells9 M.c (some ⟨bR, oR, none⟩, M.rs.length, cR) (some ⟨bP, oP, none⟩, M.ps.length, cP) (some ⟨bT, oT, none⟩, M.ts.length, cT) qH) 29)) cellsZ9 29
 have hb := (Box.new w (cells9 M.c (some ⟨bR, oR, none⟩, M.rs.length, cR) (some ⟨bP, oP, none⟩, M.ps.length, cP) (some ⟨bT, oT, none⟩, M.ts.length, cT) qH) 29).le (Le.alloc _ (.cells cellsZ9 29))
 have hl := (Le.alloc w (.cells (cells9 M.c (some ⟨bR, oR, none⟩, M.rs.length, cR) (some ⟨bP, oP, none⟩, M.ps.length, cP) (some ⟨bT, oT, none⟩, M.ts.length, cT) qH) 29)).trans (Le.alloc _ (.cells cellsZ9 29))
 rw [World.size_alloc] at hr
 go_enter Tryz.func22, Tryz.ntmps22
 go_upto_region 1 with fail
 generalize hW : (w.alloc (.cells (cells9 M.c (some ⟨bR, oR, none⟩, M.rs.length, cR) (some ⟨bP, oP, none⟩, M.ps.length, cP) (some ⟨bT, oT, none⟩, M.ts.length, cT) qH) 29)).alloc (.cells cellsZ9 29) = W at hl hb hr ⊢
 clear hW
 have hgr := hr.lt
 obtain ⟨⟨z0, z1, z2, z3, z4⟩, z5, z6, z7, z8⟩ := (hb).mach
 go_wp2_with fail
 refine (m1 _ hl).mono ?_
 rintro e w1 ⟨rfl, l1⟩
 clear z0 z1 z2 z3 z4 z5 z6 z7 z8
 clear m1
 replace hb := hb.le l1
 replace hl := hl.trans l1
 have hgr := Nat.lt_of_lt_of_le hgr l1.size
 replace hr := hr.le l1
 clear l1
 have y0 := cell_le x0 hl
 have y1 := cell_le x1 hl
 obtain ⟨⟨z0, z1, z2, z3, z4⟩, z5, z6, z7, z8⟩ := (hb).mach
 simp only [slV] at z7
 have bo := Box.new w1 cellsZ9 29
 have a1 := Le.alloc w1 (.cells cellsZ9 29)
 go_upto_region 7 with fail
 generalize hW1 : w1.alloc (.cells cellsZ9 29) = W2 at bo a1 ⊢
 clear hW1
 have hgbo : w1.heap.size ≤ w1.heap.size := Nat.le_refl _
 generalize hgg : w1.heap.size = gbo at bo hgbo ⊢
 have hsbo : w1.heap.size ≤ gbo := by omega
 clear hgg hgbo
 have hgr := Nat.lt_of_lt_of_le hgr a1.size
 replace hl := hl.trans a1
 replace hb := hb.le a1
 replace hr := hr.le a1
 clear a1 y0 y1
 clear z0 z1 z2 z3 z4 z5 z6 z7 z8
 have y0 := cell_le x0 hl
 have y1 := cell_le x1 hl
 obtain ⟨⟨z0, z1, z2, z3, z4⟩, z5, z6, z7, z8⟩ := (hb).mach
 simp only [slV] at z7
 go_wp2_with fail
 refine (m2 _ hl).mono ?_
 rintro e w9 ⟨_, rfl, ⟨⟨c', uR, uP, uT, uH, xR, xP, xT, xH⟩, rfl, HM, o1, ap⟩, l1⟩
 clear m2 y0 y1
 clear z0 z1 z2 z3 z4 z5 z6 z7 z8
 replace bo := bo.le l1
 replace hr := hr.le l1
 replace hl := hl.trans l1
 obtain ⟨⟨r0, r1, r2, r3, r4, r5, r6, r7, r8⟩, k0, k1, k2, k3, k4, k5, k6, k7, k8⟩ := bo.res
 have hne : w.heap.size + 1 ≠ gbo := by omega
 go_upto_region 13 with fail
 clear r0 r1 r2 r3 r4 r5 r6 r7 r8 k0 k1 k2 k3 k4 k5 k6 k7 k8
 have bo2 := bo.put9 rfl c' uR uP uT uH
 have hr2 := hr.off9 hne c' uR uP uT uH
 have hl2 := hl.put9 (g := gbo) (by omega) c' uR uP uT uH
 have o2 := o1.put9 bo c' uR uP uT uH
 show Code.wp _ _ _ _ (put9 w9 gbo c' uR uP uT uH)
 generalize put9 w9 gbo c' uR uP uT uH = W5 at bo2 hr2 hl2 o2 ⊢
 clear bo hr hl o1
 obtain ⟨⟨y0, y1, y2, y3, y4⟩, y5, y6, y7, y8⟩ := (bo2).mach
 obtain ⟨⟨r0, r1, r2, r3, r4, r5, r6, r7, r8⟩, k0, k1, k2, k3, k4, k5, k6, k7, k8⟩ := hr2.res
 go_wp2_with fail
 refine bodyPost_ret (v := .tuple #[machV c' uR uP uT uH, .int .i64 0]) (by simp [results, Tryz.results22, go_sem, r0, r1, r2, r3, r4, r5, r6, r7, r8]) rfl ⟨_, rfl, ?_, hl2.put9 (g := w.heap.size + 1) (by omega) c' uR uP uT uH⟩
 refine ⟨⟨c', uR, uP, uT, uH, xR, xP, xT, xH⟩, rfl, HM, ?_, ap⟩
 exact (o2.base (by omega)).put9 hr2 c' uR uP uT uH
end Go.Proofs.YtepplhbajmlbpaaGreat
