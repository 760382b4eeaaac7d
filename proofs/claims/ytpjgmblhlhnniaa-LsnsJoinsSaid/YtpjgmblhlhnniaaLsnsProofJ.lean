/-
  LsnsJoins holds of the landed code: of every argument that can be read as data the statement returns true, and nothing that was there is turned. No condition.
-/
import Derived.Test.YtpjgmblhlhnniaaLsnsProofsJ
import Derived.Test.YtpjgmblhlhnniaaLsnsHeld
import Derived.Test.YtpjgmblhlhnniaaLsnsSortL
namespace Go.Proofs.Ytpjgmblhlhnniaa

theorem joins_said : Rows.LsnsJoinsSaid := joins_holds lsnsJ_held lsns_held

end Go.Proofs.Ytpjgmblhlhnniaa
