/-
  WaitsMore: the statement, for every argument, no condition.
-/
import Derived.Test.YtbkhojopiimbdaaWaiRing
import Derived.Test.YtbkhojopiimbdaaWaiMoreRow
namespace Go.Proofs.Ytbkhojopiimbdaa

theorem more_said : Rows.WaitsMoreSaid := more_holds ring_held

#print axioms more_said

end Go.Proofs.Ytbkhojopiimbdaa
