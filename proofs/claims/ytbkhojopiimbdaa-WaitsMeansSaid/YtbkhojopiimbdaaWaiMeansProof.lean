/-
  WaitsMeans: the statement, for every argument, no condition.
-/
import Derived.Test.YtbkhojopiimbdaaWaiRing
import Derived.Test.YtbkhojopiimbdaaWaiMeansRow
namespace Go.Proofs.Ytbkhojopiimbdaa

theorem means_said : Rows.WaitsMeansSaid := means_holds ring_held

#print axioms means_said

end Go.Proofs.Ytbkhojopiimbdaa
