/-
  WaitsRings: the statement, for every argument, no condition.
-/
import Derived.Test.YtbkhojopiimbdaaWaiRing
import Derived.Test.YtbkhojopiimbdaaWaiRingsRow
namespace Go.Proofs.Ytbkhojopiimbdaa

theorem rings_said : Rows.WaitsRingsSaid := rings_holds ring_held

#print axioms rings_said

end Go.Proofs.Ytbkhojopiimbdaa
