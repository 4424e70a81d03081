/-
  THE WALK over choruslaw11.CursorLeast: it answers true, for all numbers, and turns nothing that was there. Condition: the numbers can be copied.
-/
import Derived.Test.YtgjhbhnfeeleeaaCuAwake
import Derived.Test.YtgjhbhnfeeleeaaApp2
import Derived.Test.YtgjhbhnfeeleeaaBits
import Derived.Deep.Cut
namespace Go.Proofs.Ytgjhbhnfeeleeaa
open Go.RowKit

theorem rot_min {f g : Nat → Int} {L K : Nat} (h0 : 0 < L) (hg : ∀ i, i < L → g i = f ((i + K) % L)) : minL (ofF g L) = minL (ofF f L) := by
  apply Int.le_antisymm
  · obtain ⟨i, hi, e⟩ := ofF_of (minL_mem (xs := ofF f L) (by rw [ofF_len]; exact h0))
    rw [e]
    have h1 : (i + (L - K % L)) % L < L := Nat.mod_lt _ h0
    have h2 := minL_le (ofF_mem (f := g) h1)
    rw [hg _ h1] at h2
    have h3 : ((i + (L - K % L)) % L + K) % L = i := by
      have hk := Nat.mod_lt K h0
      rw [Nat.mod_add_mod, show i + (L - K % L) + K = i + (L - K % L + K) by omega, ← Nat.add_mod_mod, show (L - K % L + K) % L = 0 by
        have e1 : L - K % L + K = L + (K - K % L) := by have := Nat.mod_le K L; omega
        rw [e1, Nat.add_mod_left]
        have := Nat.div_add_mod K L
        rw [show K - K % L = L * (K / L) by omega]
        exact Nat.mul_mod_right _ _, Nat.add_zero, Nat.mod_eq_of_lt hi]
    rw [h3] at h2
    exact h2
  · obtain ⟨i, hi, e⟩ := ofF_of (minL_mem (xs := ofF g L) (by rw [ofF_len]; exact h0))
    rw [e, hg i hi]
    exact minL_le (ofF_mem (Nat.mod_lt _ h0))

set_option maxRecDepth 20000 in
set_option maxHeartbeats 2000000 in
theorem cursorLeast_law (w : World) (v : Value) (xs : List Int) (hu : Has w v xs) (hr : xs.length * 8 ≤ 140737488351232) (a1 : Int) :
    Calls Try.prog 5 #[v, .int .i64 a1] w fun e w' => e = .returned (.bool true) ∧ Le w w' := by
  obtain ⟨a, cap, rfl, hc', _, hx⟩ := hu
  by_cases h0 : 0 < xs.length
  · obtain ⟨b, off, rfl, hcell⟩ := hx h0
    have hbw : b < w.heap.size := World.block_lt_of_cell? w _ (hcell 0 h0)
    clear hx
    obtain ⟨L, hL⟩ : ∃ L, L = xs.length := ⟨_, rfl⟩
    rw [← hL] at hr h0 hc' hcell ⊢
    clear hL
    have h1 : ((L : Int) == 0) = false := by simp; omega
    obtain ⟨K, hK, hKL⟩ : ∃ K : Nat, (IntKind.u64.wrap a1).tmod (L : Int) = (K : Int) ∧ K < L := by
      have hw : 0 ≤ IntKind.u64.wrap a1 := by rw [IntKind.wrap_u64]; omega
      have h2 := Int.emod_nonneg (IntKind.u64.wrap a1) (show (L : Int) ≠ 0 by omega)
      have h3 := Int.emod_lt_of_pos (IntKind.u64.wrap a1) (show (0 : Int) < L by omega)
      exact ⟨((IntKind.u64.wrap a1) % (L : Int)).toNat, by rw [Int.tmod_eq_emod_of_nonneg hw]; omega, by omega⟩
    go_enter Try.func5, Try.ntmps5
    go_wp2_with fail
    refine (lawAwake11 _).mono ?_
    rintro e w1 ⟨rfl, l1⟩
    obtain ⟨f, hf⟩ : ∃ f : Nat → Int, ∀ i, f i = xs.getD i 0 % 65536 := ⟨_, fun _ => rfl⟩
    obtain ⟨g, hg⟩ : ∃ g : Nat → Int, ∀ i, g i = f ((i + K) % L) := ⟨_, fun _ => rfl⟩
    have HF : Hid (∀ i, f i = xs.getD i 0 % 65536) := hf
    have HG : Hid (∀ i, g i = f ((i + K) % L)) := hg
    obtain ⟨m, hm⟩ : ∃ m, m = minL (ofF f L) := ⟨_, rfl⟩
    have HM : Hid (m = minL (ofF f L)) := hm
    have hpos : ∀ i, 0 ≤ f i := fun i => by rw [hf]; omega
    have s1 : leastS (ofF f L) = (m, 0) := by rw [least_pos (by rw [ofF_len]; exact h0) (fun i hi => by rw [ofF_len] at hi; rw [ofF_at hi]; exact hpos i), hm]
    have s2 : leastS (ofF g L) = (m, 0) := by rw [least_pos (by rw [ofF_len]; exact h0) (fun i hi => by rw [ofF_len] at hi; rw [ofF_at hi, hg]; exact hpos _), hm, rot_min (K := K) h0 (fun i _ => hg i)]
    have b1 := leastAs s1 (by rw [ofF_len]; omega)
    have b2 := leastAs s2 (by rw [ofF_len]; omega)
    clear s1 s2 hm hf hg
    go_wp2
    go_loopw [6, 7, 8] (fun y z i wr => ∃ k : Nat, k ≤ L ∧ i = .int .i64 k ∧ Two w1 wr y z (ofF f k) (ofF g k)) (fun _ _ i _ => L - (intOf i).toNat)
    case atStart => exact ⟨0, by omega, rfl, Two.nil _⟩
    case round =>
      obtain ⟨k, hk, rfl, h2⟩ := hrel
      by_cases hlt : k < L
      · obtain ⟨x, hxx⟩ : ∃ x, x = xs.getD k 0 := ⟨_, rfl⟩
        have c0 : wr.cell? ⟨b, off + k, none⟩ = some (.int .i64 x) := by rw [(l1.trans h2.le).cell (p := ⟨b, off + k, none⟩) hbw, hxx]; exact hcell k hlt
        have e0 : bits .and .i64 x 65535 = f k := by rw [and65535, HF.out, hxx]
        obtain ⟨J, hJ, hJL, hJ'⟩ : ∃ J : Nat, ((k : Int) + K).tmod L = (J : Int) ∧ J < L ∧ J = (k + K) % L := ⟨(k + K) % L, by rw [Int.tmod_eq_emod_of_nonneg (by omega), Int.natCast_emod, Int.natCast_add], Nat.mod_lt _ h0, rfl⟩
        have hJ2 : ((k : Int) + K) % L = (J : Int) := by rw [← hJ, Int.tmod_eq_emod_of_nonneg (by omega)]
        obtain ⟨x2, hx2⟩ : ∃ x, x = xs.getD J 0 := ⟨_, rfl⟩
        have c1 := hcell J hJL
        rw [← hx2] at c1
        have e1 : bits .and .i64 x2 65535 = g k := by rw [and65535, HG.out, HF.out, hx2, hJ']
        obtain ⟨fk, hfk⟩ : ∃ y, y = f k := ⟨_, rfl⟩
        obtain ⟨gk, hgk⟩ : ∃ y, y = g k := ⟨_, rfl⟩
        rw [← hfk] at e0
        rw [← hgk] at e1
        have HFK : Hid (fk = f k) := hfk
        have HGK : Hid (gk = g k) := hgk
        have hlt' : (k : Int) < (L : Int) := by omega
        have hJL' : (J : Int) < (L : Int) := by omega
        have h3 := h2.later (Le.alloc wr (.cells #[.int .i64 fk] 3))
        have q1 := Own.lit wr wr.heap.size (Nat.le_refl _) [fk] (by simp)
        clear hxx hx2 hJ' hfk hgk hcell
        go_upto_region 11 with (at_builtin; refine wp_append_at rfl _ _ rfl w1.heap.size _ _ (ofF f k) [fk] rfl rfl h3.oy q1.has (by rw [ofF_len]; simp; omega) h3.le.size ?_; intro y' w2 ho hgr hat)
        have h4 := h3.left ho hgr hat
        rw [show ofF f k ++ [fk] = ofF f (k + 1) by rw [HFK.out, ofF_next]] at h4
        replace c1 : w2.cell? ⟨b, off + J, none⟩ = some (.int .i64 x2) := by rw [(l1.trans h4.le).cell (p := ⟨b, off + J, none⟩) hbw]; exact c1
        have h5 := h4.symm.later (Le.alloc w2 (.cells #[.int .i64 gk] 3))
        have q2 := Own.lit w2 w2.heap.size (Nat.le_refl _) [gk] (by simp)
        clear h2 h3 h4 c0 ho hgr hat q1 e0
        go_wp2_with (at_builtin; refine wp_append_at rfl _ _ rfl w1.heap.size _ _ (ofF g k) [gk] rfl rfl h5.oy q2.has (by rw [ofF_len]; simp; omega) h5.le.size ?_; intro z' w3 ho hgr hat)
        have h6 := (h5.left ho hgr hat).symm
        rw [show ofF g k ++ [gk] = ofF g (k + 1) by rw [HGK.out, ofF_next]] at h6
        go_roundw
        case rel => exact ⟨k + 1, by omega, by go_num, h6⟩
        case measure => simp [intOf]; omega
      · obtain rfl : k = L := by omega
        obtain ⟨oy, oz, _, h3⟩ := h2
        replace h3 := l1.trans h3
        clear hcell hbw
        obtain ⟨ay, cy, hy, hyc, _, hyx⟩ := oy.has
        rw [ofF_len] at hy hyc hyx
        obtain ⟨b', off', rfl, hcell⟩ := hyx h0
        subst hy
        clear hyx
        go_wp2_with fail
        refine (b1 _ _ oy.has).mono ?_
        rintro e _ ⟨rfl, rfl⟩
        go_wp2_with fail
        refine (b2 _ _ oz.has).mono ?_
        rintro e _ ⟨rfl, rfl⟩
        have HMM : Hid (∀ i, i < k → m ≤ f i) := fun i hi => by rw [HM.out]; exact minL_le (ofF_mem hi)
        go_wp2
        go_loop [13, 14] (fun B i => ∃ (j : Nat) (y : Bool), j ≤ k ∧ B = .bool y ∧ i = .int .i64 j ∧ Hid (y = true ↔ ∃ n, n < j ∧ f n = m)) (fun _ i => k - (intOf i).toNat)
        case atStart => exact ⟨0, false, by omega, rfl, rfl, ⟨fun h => (by cases h), fun ⟨n, hn, _⟩ => (by omega)⟩⟩
        case round =>
          obtain ⟨j, y, hj, rfl, rfl, HA⟩ := hrel
          by_cases hlt : j < k
          · have c0 := hcell j hlt
            rw [ofF_at hlt] at c0
            obtain ⟨x, hx⟩ : ∃ x, x = f j := ⟨_, rfl⟩
            rw [← hx] at c0
            have HX : Hid (x = f j) := hx
            have hle : ¬ x < m := by have := HMM.out j hlt; omega
            have hj' : (j : Int) < (k : Int) := by omega
            clear hx hcell b1 b2
            cases y
            · by_cases hxm : x = m
              · have hxb : (x == m) = true := by simp [hxm]
                have HB : Hid (true = true ↔ ∃ n, n < j + 1 ∧ f n = m) := ⟨fun _ => ⟨j, by omega, by rw [← HX.out]; exact hxm⟩, fun _ => rfl⟩
                clear hxm HA HX
                go_wp2
                go_round
                case rel => exact ⟨j + 1, true, by omega, by go_num, by go_num, HB⟩
                case measure => simp [intOf]; omega
              · have hxb : (x == m) = false := by simp [hxm]
                have HB : Hid (false = true ↔ ∃ n, n < j + 1 ∧ f n = m) := by
                  refine ⟨fun h => (by cases h), fun ⟨n, hn, e⟩ => ?_⟩
                  by_cases en : n = j
                  · subst en; rw [← HX.out] at e; exact absurd e hxm
                  · exact HA.out.2 ⟨n, by omega, e⟩
                clear hxm HA HX
                go_wp2
                go_round
                case rel => exact ⟨j + 1, false, by omega, by go_num, by go_num, HB⟩
                case measure => simp [intOf]; omega
            · have HB : Hid (true = true ↔ ∃ n, n < j + 1 ∧ f n = m) := ⟨fun _ => by
                obtain ⟨n, hn, e⟩ := HA.out.1 rfl
                exact ⟨n, by omega, e⟩, fun _ => rfl⟩
              clear HA HX
              go_wp2
              go_round
              case rel => exact ⟨j + 1, true, by omega, by go_num, by go_num, HB⟩
              case measure => simp [intOf]; omega
          · obtain rfl : j = k := by omega
            obtain rfl : y = true := HA.out.2 (by
              obtain ⟨i, hi, e⟩ := ofF_of (minL_mem (xs := ofF f j) (by rw [ofF_len]; exact h0))
              exact ⟨i, hi, by rw [HM.out, e]⟩)
            go_wp2_with (go_at_call 10; refine (lawNum _ _).mono ?_; rintro e _ ⟨rfl, rfl⟩)
            go_ret
            exact ⟨ret_bool (by simp), h3⟩
  · have hxn : xs = [] := by cases xs with | nil => rfl | cons _ _ => simp at h0
    subst hxn
    go_enter Try.func5, Try.ntmps5
    go_wp2_with fail
    refine (lawAwake11 _).mono ?_
    rintro e w1 ⟨rfl, l1⟩
    go_wp2
    go_ret
    exact ⟨rfl, l1⟩

end Go.Proofs.Ytgjhbhnfeeleeaa
