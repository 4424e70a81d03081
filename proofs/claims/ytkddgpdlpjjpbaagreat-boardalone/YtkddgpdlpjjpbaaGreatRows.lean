/-
  No cell of these rows narrows 'for every input' (looked for: loops, veiled, ifaces, maps, wideKeys, modest, calm, conditions, laid).
  DERIVED. THE GIVEN ROWS OF THIS SEAT. 6 by the template 'for every input the law returns true; each argument reads behind the call as it read before'; 0 by the template 'total and deterministic' (their statements: YtkddgpdlpjjpbaaGreatTotals.lean).
  GIVEN WITH THE SEED: the statements are not yours to turn. If you find one false, say at which input.
  Laid BY PROGRAM, IN A SANDBOX (cutbox-rows.mjs): the forced cells as the released guide's own fill.sh prints them over the translation 1def1ad88d593e8e… (all of the seat's roots in one cut). By AI agents, Wed Nov 11 2026. No macro, syntax, notation, axiom, sorry.
-/
import Derived.Test.YtkddgpdlpjjpbaaGreatChecked
import GoSem.Claim
import GoSem.ClaimJoined
import GoSem.ClaimMapViews
import Derived.JoinedTies
import Derived.KernelRfl
namespace Go.Proofs.YtkddgpdlpjjpbaaGreat
/- THE CELL 'sum', in the pinned program and in every row, IS THE sha256 OF THE DUMP (.gsa) THAT YtkddgpdlpjjpbaaGreatProg.lean LOADS. Nothing in Lean hashes anything: it is a label: what it is worth is what the hold of that sum in a sandbox is worth. -/
noncomputable def Tryz.pinned : Pinned := { name := "ytkddgpdlpjjpbaagreat", sum := "1def1ad88d593e8ed4a310cd8aa289821d0212013677d0d91e50d8551fb20b4d", checked := Tryz.checked }
namespace Rows
def none {H : Type} : Left H := { results := [], args := [] }

/-- 'choruslaw15.Locks': WHATEVER THE INPUT: true; the input reads as it did. -/
def locksSpec : ChangeSpec := { name := "locks", fn := fun _ => fun
  | [d1, d2, d3, d4] => { results := [.lit (.bool true)], args := [d1, d2, d3, d4] }
  | _ => none }
def locksRow : OpenClaim := { program := "ytkddgpdlpjjpbaagreat", sum := "1def1ad88d593e8ed4a310cd8aa289821d0212013677d0d91e50d8551fb20b4d", func := "chorus/choruslaw15.Locks", spec := "locks", inPlace := ["slices.overlaps[int]"], unfollowed := true, recurses := true, apart := false }
def LocksSaid : Prop := locksRow.holds Tryz.pinned (OpenSpec.ofChange locksSpec)

/-- ITS FALSE NEIGHBOUR: 'it returns false'. Refute it at one input. -/
def locksWrong : ChangeSpec := { name := "locks", fn := fun _ => fun
  | [d1, d2, d3, d4] => { results := [.lit (.bool false)], args := [d1, d2, d3, d4] }
  | _ => none }
def LocksWrongFalsely : Prop := locksRow.holds Tryz.pinned (OpenSpec.ofChange locksWrong)

/-- 'choruslaw15.LockForms': WHATEVER THE INPUT: true; the input reads as it did. -/
def lockFormsSpec : ChangeSpec := { name := "lockForms", fn := fun _ => fun
  | [d1, d2] => { results := [.lit (.bool true)], args := [d1, d2] }
  | _ => none }
def lockFormsRow : OpenClaim := { program := "ytkddgpdlpjjpbaagreat", sum := "1def1ad88d593e8ed4a310cd8aa289821d0212013677d0d91e50d8551fb20b4d", func := "chorus/choruslaw15.LockForms", spec := "lockForms", inPlace := ["slices.overlaps[int]"], unfollowed := true, recurses := true, apart := false }
def LockFormsSaid : Prop := lockFormsRow.holds Tryz.pinned (OpenSpec.ofChange lockFormsSpec)

/-- ITS FALSE NEIGHBOUR: 'it returns false'. Refute it at one input. -/
def lockFormsWrong : ChangeSpec := { name := "lockForms", fn := fun _ => fun
  | [d1, d2] => { results := [.lit (.bool false)], args := [d1, d2] }
  | _ => none }
def LockFormsWrongFalsely : Prop := lockFormsRow.holds Tryz.pinned (OpenSpec.ofChange lockFormsWrong)

/-- 'choruslaw16.Boards': WHATEVER THE INPUT: true; the input reads as it did. -/
def boardsSpec : ChangeSpec := { name := "boards", fn := fun _ => fun
  | [d1, d2, d3, d4] => { results := [.lit (.bool true)], args := [d1, d2, d3, d4] }
  | _ => none }
def boardsRow : OpenClaim := { program := "ytkddgpdlpjjpbaagreat", sum := "1def1ad88d593e8ed4a310cd8aa289821d0212013677d0d91e50d8551fb20b4d", func := "chorus/choruslaw16.Boards", spec := "boards", inPlace := ["slices.overlaps[int]"], unfollowed := true, recurses := true, apart := false }
def BoardsSaid : Prop := boardsRow.holds Tryz.pinned (OpenSpec.ofChange boardsSpec)

/-- ITS FALSE NEIGHBOUR: 'it returns false'. Refute it at one input. -/
def boardsWrong : ChangeSpec := { name := "boards", fn := fun _ => fun
  | [d1, d2, d3, d4] => { results := [.lit (.bool false)], args := [d1, d2, d3, d4] }
  | _ => none }
def BoardsWrongFalsely : Prop := boardsRow.holds Tryz.pinned (OpenSpec.ofChange boardsWrong)

/-- 'choruslaw16.BoardRow': WHATEVER THE INPUT: true; the input reads as it did. -/
def boardRowSpec : ChangeSpec := { name := "boardRow", fn := fun _ => fun
  | [d1, d2] => { results := [.lit (.bool true)], args := [d1, d2] }
  | _ => none }
def boardRowRow : OpenClaim := { program := "ytkddgpdlpjjpbaagreat", sum := "1def1ad88d593e8ed4a310cd8aa289821d0212013677d0d91e50d8551fb20b4d", func := "chorus/choruslaw16.BoardRow", spec := "boardRow", inPlace := ["slices.overlaps[int]"], unfollowed := true, recurses := true, apart := false }
def BoardRowSaid : Prop := boardRowRow.holds Tryz.pinned (OpenSpec.ofChange boardRowSpec)

/-- ITS FALSE NEIGHBOUR: 'it returns false'. Refute it at one input. -/
def boardRowWrong : ChangeSpec := { name := "boardRow", fn := fun _ => fun
  | [d1, d2] => { results := [.lit (.bool false)], args := [d1, d2] }
  | _ => none }
def BoardRowWrongFalsely : Prop := boardRowRow.holds Tryz.pinned (OpenSpec.ofChange boardRowWrong)

/-- 'choruslaw16.BoardForms': WHATEVER THE INPUT: true; the input reads as it did. -/
def boardFormsSpec : ChangeSpec := { name := "boardForms", fn := fun _ => fun
  | [d1, d2] => { results := [.lit (.bool true)], args := [d1, d2] }
  | _ => none }
def boardFormsRow : OpenClaim := { program := "ytkddgpdlpjjpbaagreat", sum := "1def1ad88d593e8ed4a310cd8aa289821d0212013677d0d91e50d8551fb20b4d", func := "chorus/choruslaw16.BoardForms", spec := "boardForms", inPlace := ["slices.overlaps[int]"], unfollowed := true, recurses := true, apart := false }
def BoardFormsSaid : Prop := boardFormsRow.holds Tryz.pinned (OpenSpec.ofChange boardFormsSpec)

/-- ITS FALSE NEIGHBOUR: 'it returns false'. Refute it at one input. -/
def boardFormsWrong : ChangeSpec := { name := "boardForms", fn := fun _ => fun
  | [d1, d2] => { results := [.lit (.bool false)], args := [d1, d2] }
  | _ => none }
def BoardFormsWrongFalsely : Prop := boardFormsRow.holds Tryz.pinned (OpenSpec.ofChange boardFormsWrong)

/-- 'choruslaw16.BoardAlone': WHATEVER THE INPUT: true; the input reads as it did. -/
def boardAloneSpec : ChangeSpec := { name := "boardAlone", fn := fun _ => fun
  | [d1, d2] => { results := [.lit (.bool true)], args := [d1, d2] }
  | _ => none }
def boardAloneRow : OpenClaim := { program := "ytkddgpdlpjjpbaagreat", sum := "1def1ad88d593e8ed4a310cd8aa289821d0212013677d0d91e50d8551fb20b4d", func := "chorus/choruslaw16.BoardAlone", spec := "boardAlone", inPlace := ["slices.overlaps[int]"], unfollowed := true, recurses := true, apart := false }
def BoardAloneSaid : Prop := boardAloneRow.holds Tryz.pinned (OpenSpec.ofChange boardAloneSpec)

/-- ITS FALSE NEIGHBOUR: 'it returns false'. Refute it at one input. -/
def boardAloneWrong : ChangeSpec := { name := "boardAlone", fn := fun _ => fun
  | [d1, d2] => { results := [.lit (.bool false)], args := [d1, d2] }
  | _ => none }
def BoardAloneWrongFalsely : Prop := boardAloneRow.holds Tryz.pinned (OpenSpec.ofChange boardAloneWrong)

/- THE SECOND FORM. 'bulk': how many values and letters a reading holds, each counted each time it is reached (what is shared counts as often as it is met; a slice's spare places count too). A statement '..UptoSaid' is the law's where the arguments, and the package variables that the reading takes, are together of bulk at most 1048576: NARROWER than '..Said'. Prove '..Said' where nothing that the law and all that it calls make is longer than what came in: it says more and counts as full. Else prove '..UptoSaid'. A law counts once. -/
mutual
def uptoBulk {H : Type} : DataW H → Nat
  | .lit (.string bytes) => bytes.length + 1
  | .lit _ => 1
  | .nil => 1
  | .ptr d => uptoBulk d + 1
  | .slice elems spare => uptoBulkAll elems + uptoBulkAll spare + 1
  | .agg parts => uptoBulkAll parts + 1
  | .iface _ d => uptoBulk d + 1
  | .map entries => uptoBulkEntries entries + 1
  | .held _ => 1
def uptoBulkAll {H : Type} : List (DataW H) → Nat
  | [] => 0
  | d :: r => uptoBulk d + uptoBulkAll r
def uptoBulkEntries {H : Type} : List (Lit × DataW H) → Nat
  | [] => 0
  | x :: r => uptoBulkEntry x + uptoBulkEntries r
def uptoBulkEntry {H : Type} : Lit × DataW H → Nat
  | (.string bytes, d) => bytes.length + uptoBulk d + 1
  | (_, d) => uptoBulk d + 1
 end
def uptoSmall : (H : Type) → List (DataW H) → Bool := fun _ ds => decide (uptoBulkAll ds ≤ 1048576)
def OpenSpec.upto (s : _root_.Go.ChangeSpec) : _root_.Go.OpenSpec := { _root_.Go.OpenSpec.ofChange s with cond := some uptoSmall }

/-- 'choruslaw15.Locks', WHERE WHAT IT READS IS OF BULK AT MOST 1048576: true; the input reads as it did. -/
def locksUptoRow : OpenClaim := { program := "ytkddgpdlpjjpbaagreat", sum := "1def1ad88d593e8ed4a310cd8aa289821d0212013677d0d91e50d8551fb20b4d", func := "chorus/choruslaw15.Locks", spec := "locks", inPlace := ["slices.overlaps[int]"], unfollowed := true, recurses := true, apart := false, narrowed := true }
def LocksUptoSaid : Prop := locksUptoRow.holds Tryz.pinned (OpenSpec.upto locksSpec)

/-- 'choruslaw15.LockForms', WHERE WHAT IT READS IS OF BULK AT MOST 1048576: true; the input reads as it did. -/
def lockFormsUptoRow : OpenClaim := { program := "ytkddgpdlpjjpbaagreat", sum := "1def1ad88d593e8ed4a310cd8aa289821d0212013677d0d91e50d8551fb20b4d", func := "chorus/choruslaw15.LockForms", spec := "lockForms", inPlace := ["slices.overlaps[int]"], unfollowed := true, recurses := true, apart := false, narrowed := true }
def LockFormsUptoSaid : Prop := lockFormsUptoRow.holds Tryz.pinned (OpenSpec.upto lockFormsSpec)

/-- 'choruslaw16.Boards', WHERE WHAT IT READS IS OF BULK AT MOST 1048576: true; the input reads as it did. -/
def boardsUptoRow : OpenClaim := { program := "ytkddgpdlpjjpbaagreat", sum := "1def1ad88d593e8ed4a310cd8aa289821d0212013677d0d91e50d8551fb20b4d", func := "chorus/choruslaw16.Boards", spec := "boards", inPlace := ["slices.overlaps[int]"], unfollowed := true, recurses := true, apart := false, narrowed := true }
def BoardsUptoSaid : Prop := boardsUptoRow.holds Tryz.pinned (OpenSpec.upto boardsSpec)

/-- 'choruslaw16.BoardRow', WHERE WHAT IT READS IS OF BULK AT MOST 1048576: true; the input reads as it did. -/
def boardRowUptoRow : OpenClaim := { program := "ytkddgpdlpjjpbaagreat", sum := "1def1ad88d593e8ed4a310cd8aa289821d0212013677d0d91e50d8551fb20b4d", func := "chorus/choruslaw16.BoardRow", spec := "boardRow", inPlace := ["slices.overlaps[int]"], unfollowed := true, recurses := true, apart := false, narrowed := true }
def BoardRowUptoSaid : Prop := boardRowUptoRow.holds Tryz.pinned (OpenSpec.upto boardRowSpec)

/-- 'choruslaw16.BoardForms', WHERE WHAT IT READS IS OF BULK AT MOST 1048576: true; the input reads as it did. -/
def boardFormsUptoRow : OpenClaim := { program := "ytkddgpdlpjjpbaagreat", sum := "1def1ad88d593e8ed4a310cd8aa289821d0212013677d0d91e50d8551fb20b4d", func := "chorus/choruslaw16.BoardForms", spec := "boardForms", inPlace := ["slices.overlaps[int]"], unfollowed := true, recurses := true, apart := false, narrowed := true }
def BoardFormsUptoSaid : Prop := boardFormsUptoRow.holds Tryz.pinned (OpenSpec.upto boardFormsSpec)

/-- 'choruslaw16.BoardAlone', WHERE WHAT IT READS IS OF BULK AT MOST 1048576: true; the input reads as it did. -/
def boardAloneUptoRow : OpenClaim := { program := "ytkddgpdlpjjpbaagreat", sum := "1def1ad88d593e8ed4a310cd8aa289821d0212013677d0d91e50d8551fb20b4d", func := "chorus/choruslaw16.BoardAlone", spec := "boardAlone", inPlace := ["slices.overlaps[int]"], unfollowed := true, recurses := true, apart := false, narrowed := true }
def BoardAloneUptoSaid : Prop := boardAloneUptoRow.holds Tryz.pinned (OpenSpec.upto boardAloneSpec)

end Rows
end Go.Proofs.YtkddgpdlpjjpbaaGreat
