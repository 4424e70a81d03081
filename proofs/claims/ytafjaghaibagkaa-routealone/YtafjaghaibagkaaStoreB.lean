/-
  THE WALK over store.Apply: what it answers, for every state and operation, and that what it hands back lies in memory of its own. Condition: the state's rows can be copied.
-/
import Derived.Test.YtafjaghaibagkaaStoreA
import Derived.Deep.RegionHeld3
import Derived.Deep.Cut
namespace Go.Proofs.Ytafjaghaibagkaa
open Go.RowKit

/-- The document's answer: the state, the answer, the error. -/
def stoS (s : St) (c r a e : Int) : St × Int × Int :=
  if s.all rowMay1 && opMay c r a then
    (if c = 3 then (s, sumTo s 4, 0)
    else (if c = 0 then s.put r.toNat [a] else if c = 1 then s.put r.toNat [] else s, firstS (s.at r.toNat), 0))
  else (St.zero, 0, e)

end Go.Proofs.Ytafjaghaibagkaa
