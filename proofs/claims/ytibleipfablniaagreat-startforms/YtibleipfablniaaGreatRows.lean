/-
  No cell of these rows narrows 'for every input' (looked for: loops, veiled, ifaces, maps, wideKeys, modest, calm, conditions, laid).
  DERIVED. THE GIVEN ROWS OF THIS SEAT. 2 by the template 'for every input the law returns true; each argument reads behind the call as it read before'; 0 by the template 'total and deterministic' (their statements: YtibleipfablniaaGreatTotals.lean).
  GIVEN WITH THE SEED: the statements are not yours to turn. If you find one false, say at which input.
  Laid BY PROGRAM, IN A SANDBOX (cutbox-rows.mjs): the forced cells as the released guide's own fill.sh prints them over the translation 2ebceb53a2c2afd3… (all of the seat's roots in one cut). By AI agents, Wed Nov 11 2026. No macro, syntax, notation, axiom, sorry.
-/
import Derived.Test.YtibleipfablniaaGreatChecked
import GoSem.Claim
import GoSem.ClaimJoined
import GoSem.ClaimMapViews
import Derived.JoinedTies
import Derived.KernelRfl
namespace Go.Proofs.YtibleipfablniaaGreat
/- THE CELL 'sum', in the pinned program and in every row, IS THE sha256 OF THE DUMP (.gsa) THAT YtibleipfablniaaGreatProg.lean LOADS. Nothing in Lean hashes anything: it is a label: what it is worth is what the hold of that sum in a sandbox is worth. -/
noncomputable def Tryz.pinned : Pinned := { name := "ytibleipfablniaagreat", sum := "2ebceb53a2c2afd3cac790a6b026f90674f8e69357719ba5ed881b419bf59a02", checked := Tryz.checked }
namespace Rows
def none {H : Type} : Left H := { results := [], args := [] }

/-- 'choruslaw14.Starts': WHATEVER THE INPUT: true; the input reads as it did. -/
def startsSpec : ChangeSpec := { name := "starts", fn := fun _ => fun
  | [d1, d2] => { results := [.lit (.bool true)], args := [d1, d2] }
  | _ => none }
def startsRow : OpenClaim := { program := "ytibleipfablniaagreat", sum := "2ebceb53a2c2afd3cac790a6b026f90674f8e69357719ba5ed881b419bf59a02", func := "chorus/choruslaw14.Starts", spec := "starts", inPlace := ["slices.overlaps[int]"], unfollowed := true, recurses := true, apart := false }
def StartsSaid : Prop := startsRow.holds Tryz.pinned (OpenSpec.ofChange startsSpec)

/-- ITS FALSE NEIGHBOUR: 'it returns false'. Refute it at one input. -/
def startsWrong : ChangeSpec := { name := "starts", fn := fun _ => fun
  | [d1, d2] => { results := [.lit (.bool false)], args := [d1, d2] }
  | _ => none }
def StartsWrongFalsely : Prop := startsRow.holds Tryz.pinned (OpenSpec.ofChange startsWrong)

/-- 'choruslaw14.StartForms': WHATEVER THE INPUT: true; the input reads as it did. -/
def startFormsSpec : ChangeSpec := { name := "startForms", fn := fun _ => fun
  | [d1, d2] => { results := [.lit (.bool true)], args := [d1, d2] }
  | _ => none }
def startFormsRow : OpenClaim := { program := "ytibleipfablniaagreat", sum := "2ebceb53a2c2afd3cac790a6b026f90674f8e69357719ba5ed881b419bf59a02", func := "chorus/choruslaw14.StartForms", spec := "startForms", inPlace := ["slices.overlaps[int]"], unfollowed := true, recurses := true, apart := false }
def StartFormsSaid : Prop := startFormsRow.holds Tryz.pinned (OpenSpec.ofChange startFormsSpec)

/-- ITS FALSE NEIGHBOUR: 'it returns false'. Refute it at one input. -/
def startFormsWrong : ChangeSpec := { name := "startForms", fn := fun _ => fun
  | [d1, d2] => { results := [.lit (.bool false)], args := [d1, d2] }
  | _ => none }
def StartFormsWrongFalsely : Prop := startFormsRow.holds Tryz.pinned (OpenSpec.ofChange startFormsWrong)

/- THE SECOND FORM. 'bulk': how many values and letters a reading holds, each counted each time it is reached (what is shared counts as often as it is met; a slice's spare places count too). A statement '..UptoSaid' is the law's where the arguments, and the package variables that the reading takes, are together of bulk at most 1048576: NARROWER than '..Said'. Prove '..Said' where nothing that the law and all that it calls make is longer than what came in: it says more and counts as full. Else prove '..UptoSaid'. A law counts once. -/
mutual
def uptoBulk {H : Type} : DataW H → Nat
  | .lit (.string bytes) => bytes.length + 1
  | .lit _ => 1
  | .nil => 1
  | .ptr d => uptoBulk d + 1
  | .slice elems spare => uptoBulkAll elems + uptoBulkAll spare + 1
  | .agg parts => uptoBulkAll parts + 1
  | .iface _ d => uptoBulk d + 1
  | .map entries => uptoBulkEntries entries + 1
  | .held _ => 1
def uptoBulkAll {H : Type} : List (DataW H) → Nat
  | [] => 0
  | d :: r => uptoBulk d + uptoBulkAll r
def uptoBulkEntries {H : Type} : List (Lit × DataW H) → Nat
  | [] => 0
  | x :: r => uptoBulkEntry x + uptoBulkEntries r
def uptoBulkEntry {H : Type} : Lit × DataW H → Nat
  | (.string bytes, d) => bytes.length + uptoBulk d + 1
  | (_, d) => uptoBulk d + 1
 end
def uptoSmall : (H : Type) → List (DataW H) → Bool := fun _ ds => decide (uptoBulkAll ds ≤ 1048576)
def OpenSpec.upto (s : _root_.Go.ChangeSpec) : _root_.Go.OpenSpec := { _root_.Go.OpenSpec.ofChange s with cond := some uptoSmall }

/-- 'choruslaw14.Starts', WHERE WHAT IT READS IS OF BULK AT MOST 1048576: true; the input reads as it did. -/
def startsUptoRow : OpenClaim := { program := "ytibleipfablniaagreat", sum := "2ebceb53a2c2afd3cac790a6b026f90674f8e69357719ba5ed881b419bf59a02", func := "chorus/choruslaw14.Starts", spec := "starts", inPlace := ["slices.overlaps[int]"], unfollowed := true, recurses := true, apart := false, narrowed := true }
def StartsUptoSaid : Prop := startsUptoRow.holds Tryz.pinned (OpenSpec.upto startsSpec)

/-- 'choruslaw14.StartForms', WHERE WHAT IT READS IS OF BULK AT MOST 1048576: true; the input reads as it did. -/
def startFormsUptoRow : OpenClaim := { program := "ytibleipfablniaagreat", sum := "2ebceb53a2c2afd3cac790a6b026f90674f8e69357719ba5ed881b419bf59a02", func := "chorus/choruslaw14.StartForms", spec := "startForms", inPlace := ["slices.overlaps[int]"], unfollowed := true, recurses := true, apart := false, narrowed := true }
def StartFormsUptoSaid : Prop := startFormsUptoRow.holds Tryz.pinned (OpenSpec.upto startFormsSpec)

end Rows
end Go.Proofs.YtibleipfablniaaGreat
