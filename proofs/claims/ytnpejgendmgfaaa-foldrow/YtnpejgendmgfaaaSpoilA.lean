/-
  THE WALK over choruslaw0.SpoilInts: numbers in the call's own memory are written over, and nothing else turns. No condition but that they may be written over.
-/
import Derived.Test.YtnpejgendmgfaaaSlc
namespace Go.Proofs.Ytnpejgendmgfaaa
open Go.RowKit

set_option maxHeartbeats 400000 in
theorem lawSpoil (v : Value) (base : Nat) (w : World) (hx : Ints w base v) :
    Calls Try.prog 17 #[v] w fun e w' => e = .returned (.tuple #[]) ∧ Spoilt base w w' := by
  obtain ⟨a, L, cap, rfl, hc, hm, hx⟩ := hx
  rcases Nat.eq_zero_or_pos L with h0 | h0
  · subst h0
    go_enter Try.func17, Try.ntmps17
    go_wp2
    refine wp_loop_rounds 1 ?_
    rw [rounds_succ]
    go_wp2
    go_end0
    exact ⟨rfl, Spoilt.refl _ _⟩
  · obtain ⟨b, off, rfl, hb, hcell⟩ := hx h0
    clear hx
    go_enter Try.func17, Try.ntmps17
    go_wp2
    go_loopw [2] (fun i wr => ∃ k : Nat, k ≤ L ∧ i = .int .i64 k ∧ Spoilt base w wr) (fun i _ => L - (intOf i).toNat)
    case atStart => exact ⟨0, Nat.zero_le _, rfl, Spoilt.refl _ _⟩
    case round =>
      obtain ⟨k, hk, rfl, hsp⟩ := hrel
      by_cases hlt : k < L
      · obtain ⟨⟨x0, h1⟩, h2⟩ := hcell k hlt
        have hfz := hsp.thaw _ (World.block_lt_of_cell? w _ h1) h2
        obtain ⟨x, hcl⟩ := hsp.ints _ _ h1
        clear h1 h2 hcell
        go_wp2
        go_roundw
        case rel => exact ⟨k + 1, by omega, by go_num, hsp.trans (Spoilt.store hcl hb)⟩
        case measure => simp [intOf]; omega
      · go_wp2
        go_end0
        exact ⟨rfl, hsp⟩

end Go.Proofs.Ytnpejgendmgfaaa
