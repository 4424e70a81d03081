/-
  THE WALK over fds.Apply: what it answers, for every state and operation, and that what it hands back lies in memory of its own. Condition: the state's rows can be copied.
-/
import Derived.Test.YtafjaghaibagkaaFdsA
import Derived.Test.YtafjaghaibagkaaApp
import Derived.Test.YtafjaghaibagkaaCnt
import Derived.Test.YtafjaghaibagkaaCnt
namespace Go.Proofs.Ytafjaghaibagkaa
open Go.RowKit

/-- The document's answer: the state, the answer, the error. -/
def fdsS (s : St) (c r a e : Int) : St × Int × Int := cntS rowMay2 (fun xs _ => putS xs) takeS s c r a e

theorem fdsS_no {s : St} {c r a er : Int} (h : (s.all rowMay2 && opMay c r a) = false) : fdsS s c r a er = (St.zero, 0, er) := cntS_no h
theorem fdsS_scan {s : St} {er : Int} (h : s.all rowMay2 = true) : fdsS s 3 0 0 er = (s, manyTo s 4, 0) := cntS_scan h
theorem fdsS_look {s : St} {k : Nat} {er : Int} (h : s.all rowMay2 = true) (hk : k < 4) : fdsS s 2 k 0 er = (s, ((s.at k).length : Int), 0) := cntS_look h hk

end Go.Proofs.Ytafjaghaibagkaa
