/-
  THE SHELF'S CONTRACTS OF slices.Insert AT []int, LAID AT THIS PROGRAM. No condition.
-/
import Derived.Test.YtnpejgendmgfaaaObj
import Derived.Shelf.Spec.SlicesInsertGrow
namespace Go.Proofs.Ytnpejgendmgfaaa
open Go.RowKit Go.Shelf

/-- The shelf's numbers of functions and types, and this program's. -/
def insRen : Ren where
  f := fun x => match x with
    | 21 => 60
    | 27 => 64
    | 28 => 65
    | 35 => 67
    | 39 => 68
    | x => x
  t := fun x => match x with
    | 3 => 3
    | 4 => 4
    | 22 => 22
    | x => x
  g := fun x => x

theorem insLays : Lays2.n21 Try.prog insRen where
  mixed := by kernel_rfl
  f21 := by kernel_rfl
  f27 := by kernel_rfl
  f28 := by kernel_rfl
  f35 := by kernel_rfl
  f39 := by kernel_rfl
  t0 := by kernel_rfl
  a0 := fun _ => by kernel_rfl
  z0 := fun _ => by kernel_rfl
  v0 := fun _ => by kernel_rfl
  t3 := by kernel_rfl
  a3 := fun _ => by kernel_rfl
  z3 := fun _ => by kernel_rfl
  v3 := fun _ => by kernel_rfl
  t4 := by kernel_rfl
  a4 := fun _ => by kernel_rfl
  z4 := fun _ => by kernel_rfl
  v4 := fun _ => by kernel_rfl
  t22 := by kernel_rfl
  a22 := fun _ => by kernel_rfl
  z22 := fun _ => by kernel_rfl
  v22 := fun _ => by kernel_rfl
  i3 := by kernel_rfl

end Go.Proofs.Ytnpejgendmgfaaa
