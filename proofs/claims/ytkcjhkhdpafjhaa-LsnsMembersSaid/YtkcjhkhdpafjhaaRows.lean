/-
  No cell of these rows narrows 'for every input' (looked for: loops, veiled, ifaces, maps, wideKeys, modest, calm, conditions, laid).
  DERIVED. THE GIVEN ROWS OF THIS SEAT. 7 by the template 'for every input the law returns true; each argument reads behind the call as it read before'; 0 by the template 'total and deterministic' (their statements: YtkcjhkhdpafjhaaTotals.lean).
  GIVEN WITH THE SEED: the statements are not yours to turn. If you find one false, say at which input.
  Laid BY PROGRAM, IN A SANDBOX (cutbox-rows.mjs): the forced cells as the released guide's own fill.sh prints them over the translation c3b0a7e22c7f3316… (all of the seat's roots in one cut). By AI agents, Wed Nov 11 2026. No macro, syntax, notation, axiom, sorry.
-/
import Derived.Test.YtkcjhkhdpafjhaaChecked
import GoSem.Claim
import GoSem.ClaimJoined
import GoSem.ClaimMapViews
import Derived.JoinedTies
import Derived.KernelRfl
namespace Go.Proofs.Ytkcjhkhdpafjhaa
/- THE CELL 'sum', in the pinned program and in every row, IS THE sha256 OF THE DUMP (.gsa) THAT YtkcjhkhdpafjhaaProg.lean LOADS. Nothing in Lean hashes anything: it is a label: what it is worth is what the hold of that sum in a sandbox is worth. -/
noncomputable def Try.pinned : Pinned := { name := "ytkcjhkhdpafjhaa", sum := "c3b0a7e22c7f3316f6044e7cbf82f74da448e62416e17b942a62e923600dad17", checked := Try.checked }
namespace Rows
def none {H : Type} : Left H := { results := [], args := [] }

/-- 'lockkeeperlaw04.LsnsAsks': WHATEVER THE INPUT: true; the input reads as it did. -/
def lsnsAsksSpec : ChangeSpec := { name := "lsnsAsks", fn := fun _ => fun
  | [d1, d2, d3] => { results := [.lit (.bool true)], args := [d1, d2, d3] }
  | _ => none }
def lsnsAsksRow : OpenClaim := { program := "ytkcjhkhdpafjhaa", sum := "c3b0a7e22c7f3316f6044e7cbf82f74da448e62416e17b942a62e923600dad17", func := "lockkeeper/lockkeeperlaw04.LsnsAsks", spec := "lsnsAsks", unfollowed := true, recurses := true, apart := false }
def LsnsAsksSaid : Prop := lsnsAsksRow.holds Try.pinned (OpenSpec.ofChange lsnsAsksSpec)

/-- ITS FALSE NEIGHBOUR: 'it returns false'. Refute it at one input. -/
def lsnsAsksWrong : ChangeSpec := { name := "lsnsAsks", fn := fun _ => fun
  | [d1, d2, d3] => { results := [.lit (.bool false)], args := [d1, d2, d3] }
  | _ => none }
def LsnsAsksWrongFalsely : Prop := lsnsAsksRow.holds Try.pinned (OpenSpec.ofChange lsnsAsksWrong)

/-- 'lockkeeperlaw04.LsnsTurns': WHATEVER THE INPUT: true; the input reads as it did. -/
def lsnsTurnsSpec : ChangeSpec := { name := "lsnsTurns", fn := fun _ => fun
  | [d1, d2, d3] => { results := [.lit (.bool true)], args := [d1, d2, d3] }
  | _ => none }
def lsnsTurnsRow : OpenClaim := { program := "ytkcjhkhdpafjhaa", sum := "c3b0a7e22c7f3316f6044e7cbf82f74da448e62416e17b942a62e923600dad17", func := "lockkeeper/lockkeeperlaw04.LsnsTurns", spec := "lsnsTurns", unfollowed := true, recurses := true, apart := false }
def LsnsTurnsSaid : Prop := lsnsTurnsRow.holds Try.pinned (OpenSpec.ofChange lsnsTurnsSpec)

/-- ITS FALSE NEIGHBOUR: 'it returns false'. Refute it at one input. -/
def lsnsTurnsWrong : ChangeSpec := { name := "lsnsTurns", fn := fun _ => fun
  | [d1, d2, d3] => { results := [.lit (.bool false)], args := [d1, d2, d3] }
  | _ => none }
def LsnsTurnsWrongFalsely : Prop := lsnsTurnsRow.holds Try.pinned (OpenSpec.ofChange lsnsTurnsWrong)

/-- 'lockkeeperlaw04.LsnsMembers': WHATEVER THE INPUT: true; the input reads as it did. -/
def lsnsMembersSpec : ChangeSpec := { name := "lsnsMembers", fn := fun _ => fun
  | [d] => { results := [.lit (.bool true)], args := [d] }
  | _ => none }
def lsnsMembersRow : OpenClaim := { program := "ytkcjhkhdpafjhaa", sum := "c3b0a7e22c7f3316f6044e7cbf82f74da448e62416e17b942a62e923600dad17", func := "lockkeeper/lockkeeperlaw04.LsnsMembers", spec := "lsnsMembers", unfollowed := true, recurses := true, apart := false }
def LsnsMembersSaid : Prop := lsnsMembersRow.holds Try.pinned (OpenSpec.ofChange lsnsMembersSpec)

/-- ITS FALSE NEIGHBOUR: 'it returns false'. Refute it at one input. -/
def lsnsMembersWrong : ChangeSpec := { name := "lsnsMembers", fn := fun _ => fun
  | [d] => { results := [.lit (.bool false)], args := [d] }
  | _ => none }
def LsnsMembersWrongFalsely : Prop := lsnsMembersRow.holds Try.pinned (OpenSpec.ofChange lsnsMembersWrong)

/-- 'lockkeeperlaw04.LsnsOrder': WHATEVER THE INPUT: true; the input reads as it did. -/
def lsnsOrderSpec : ChangeSpec := { name := "lsnsOrder", fn := fun _ => fun
  | [d1, d2] => { results := [.lit (.bool true)], args := [d1, d2] }
  | _ => none }
def lsnsOrderRow : OpenClaim := { program := "ytkcjhkhdpafjhaa", sum := "c3b0a7e22c7f3316f6044e7cbf82f74da448e62416e17b942a62e923600dad17", func := "lockkeeper/lockkeeperlaw04.LsnsOrder", spec := "lsnsOrder", unfollowed := true, recurses := true, apart := false }
def LsnsOrderSaid : Prop := lsnsOrderRow.holds Try.pinned (OpenSpec.ofChange lsnsOrderSpec)

/-- ITS FALSE NEIGHBOUR: 'it returns false'. Refute it at one input. -/
def lsnsOrderWrong : ChangeSpec := { name := "lsnsOrder", fn := fun _ => fun
  | [d1, d2] => { results := [.lit (.bool false)], args := [d1, d2] }
  | _ => none }
def LsnsOrderWrongFalsely : Prop := lsnsOrderRow.holds Try.pinned (OpenSpec.ofChange lsnsOrderWrong)

/-- 'lockkeeperlaw04.LsnsBytes': WHATEVER THE INPUT: true; the input reads as it did. -/
def lsnsBytesSpec : ChangeSpec := { name := "lsnsBytes", fn := fun _ => fun
  | [d1, d2] => { results := [.lit (.bool true)], args := [d1, d2] }
  | _ => none }
def lsnsBytesRow : OpenClaim := { program := "ytkcjhkhdpafjhaa", sum := "c3b0a7e22c7f3316f6044e7cbf82f74da448e62416e17b942a62e923600dad17", func := "lockkeeper/lockkeeperlaw04.LsnsBytes", spec := "lsnsBytes", unfollowed := true, recurses := true, apart := false }
def LsnsBytesSaid : Prop := lsnsBytesRow.holds Try.pinned (OpenSpec.ofChange lsnsBytesSpec)

/-- ITS FALSE NEIGHBOUR: 'it returns false'. Refute it at one input. -/
def lsnsBytesWrong : ChangeSpec := { name := "lsnsBytes", fn := fun _ => fun
  | [d1, d2] => { results := [.lit (.bool false)], args := [d1, d2] }
  | _ => none }
def LsnsBytesWrongFalsely : Prop := lsnsBytesRow.holds Try.pinned (OpenSpec.ofChange lsnsBytesWrong)

/-- 'lockkeeperlaw04.LsnsRaises': WHATEVER THE INPUT: true; the input reads as it did. -/
def lsnsRaisesSpec : ChangeSpec := { name := "lsnsRaises", fn := fun _ => fun
  | [d1, d2, d3] => { results := [.lit (.bool true)], args := [d1, d2, d3] }
  | _ => none }
def lsnsRaisesRow : OpenClaim := { program := "ytkcjhkhdpafjhaa", sum := "c3b0a7e22c7f3316f6044e7cbf82f74da448e62416e17b942a62e923600dad17", func := "lockkeeper/lockkeeperlaw04.LsnsRaises", spec := "lsnsRaises", unfollowed := true, recurses := true, apart := false }
def LsnsRaisesSaid : Prop := lsnsRaisesRow.holds Try.pinned (OpenSpec.ofChange lsnsRaisesSpec)

/-- ITS FALSE NEIGHBOUR: 'it returns false'. Refute it at one input. -/
def lsnsRaisesWrong : ChangeSpec := { name := "lsnsRaises", fn := fun _ => fun
  | [d1, d2, d3] => { results := [.lit (.bool false)], args := [d1, d2, d3] }
  | _ => none }
def LsnsRaisesWrongFalsely : Prop := lsnsRaisesRow.holds Try.pinned (OpenSpec.ofChange lsnsRaisesWrong)

/-- 'lockkeeperlaw04.LsnsJoins': WHATEVER THE INPUT: true; the input reads as it did. -/
def lsnsJoinsSpec : ChangeSpec := { name := "lsnsJoins", fn := fun _ => fun
  | [d1, d2, d3] => { results := [.lit (.bool true)], args := [d1, d2, d3] }
  | _ => none }
def lsnsJoinsRow : OpenClaim := { program := "ytkcjhkhdpafjhaa", sum := "c3b0a7e22c7f3316f6044e7cbf82f74da448e62416e17b942a62e923600dad17", func := "lockkeeper/lockkeeperlaw04.LsnsJoins", spec := "lsnsJoins", unfollowed := true, recurses := true, apart := false }
def LsnsJoinsSaid : Prop := lsnsJoinsRow.holds Try.pinned (OpenSpec.ofChange lsnsJoinsSpec)

/-- ITS FALSE NEIGHBOUR: 'it returns false'. Refute it at one input. -/
def lsnsJoinsWrong : ChangeSpec := { name := "lsnsJoins", fn := fun _ => fun
  | [d1, d2, d3] => { results := [.lit (.bool false)], args := [d1, d2, d3] }
  | _ => none }
def LsnsJoinsWrongFalsely : Prop := lsnsJoinsRow.holds Try.pinned (OpenSpec.ofChange lsnsJoinsWrong)

/- THE SECOND FORM. 'bulk': how many values and letters a reading holds, each counted each time it is reached (what is shared counts as often as it is met; a slice's spare places count too). A statement '..UptoSaid' is the law's where the arguments, and the package variables that the reading takes, are together of bulk at most 1048576: NARROWER than '..Said'. Prove '..Said' where nothing that the law and all that it calls make is longer than what came in: it says more and counts as full. Else prove '..UptoSaid'. A law counts once. -/
mutual
def uptoBulk {H : Type} : DataW H → Nat
  | .lit (.string bytes) => bytes.length + 1
  | .lit _ => 1
  | .nil => 1
  | .ptr d => uptoBulk d + 1
  | .slice elems spare => uptoBulkAll elems + uptoBulkAll spare + 1
  | .agg parts => uptoBulkAll parts + 1
  | .iface _ d => uptoBulk d + 1
  | .map entries => uptoBulkEntries entries + 1
  | .held _ => 1
def uptoBulkAll {H : Type} : List (DataW H) → Nat
  | [] => 0
  | d :: r => uptoBulk d + uptoBulkAll r
def uptoBulkEntries {H : Type} : List (Lit × DataW H) → Nat
  | [] => 0
  | x :: r => uptoBulkEntry x + uptoBulkEntries r
def uptoBulkEntry {H : Type} : Lit × DataW H → Nat
  | (.string bytes, d) => bytes.length + uptoBulk d + 1
  | (_, d) => uptoBulk d + 1
 end
def uptoSmall : (H : Type) → List (DataW H) → Bool := fun _ ds => decide (uptoBulkAll ds ≤ 1048576)
def OpenSpec.upto (s : _root_.Go.ChangeSpec) : _root_.Go.OpenSpec := { _root_.Go.OpenSpec.ofChange s with cond := some uptoSmall }

/-- 'lockkeeperlaw04.LsnsAsks', WHERE WHAT IT READS IS OF BULK AT MOST 1048576: true; the input reads as it did. -/
def lsnsAsksUptoRow : OpenClaim := { program := "ytkcjhkhdpafjhaa", sum := "c3b0a7e22c7f3316f6044e7cbf82f74da448e62416e17b942a62e923600dad17", func := "lockkeeper/lockkeeperlaw04.LsnsAsks", spec := "lsnsAsks", unfollowed := true, recurses := true, apart := false, narrowed := true }
def LsnsAsksUptoSaid : Prop := lsnsAsksUptoRow.holds Try.pinned (OpenSpec.upto lsnsAsksSpec)

/-- 'lockkeeperlaw04.LsnsTurns', WHERE WHAT IT READS IS OF BULK AT MOST 1048576: true; the input reads as it did. -/
def lsnsTurnsUptoRow : OpenClaim := { program := "ytkcjhkhdpafjhaa", sum := "c3b0a7e22c7f3316f6044e7cbf82f74da448e62416e17b942a62e923600dad17", func := "lockkeeper/lockkeeperlaw04.LsnsTurns", spec := "lsnsTurns", unfollowed := true, recurses := true, apart := false, narrowed := true }
def LsnsTurnsUptoSaid : Prop := lsnsTurnsUptoRow.holds Try.pinned (OpenSpec.upto lsnsTurnsSpec)

/-- 'lockkeeperlaw04.LsnsMembers', WHERE WHAT IT READS IS OF BULK AT MOST 1048576: true; the input reads as it did. -/
def lsnsMembersUptoRow : OpenClaim := { program := "ytkcjhkhdpafjhaa", sum := "c3b0a7e22c7f3316f6044e7cbf82f74da448e62416e17b942a62e923600dad17", func := "lockkeeper/lockkeeperlaw04.LsnsMembers", spec := "lsnsMembers", unfollowed := true, recurses := true, apart := false, narrowed := true }
def LsnsMembersUptoSaid : Prop := lsnsMembersUptoRow.holds Try.pinned (OpenSpec.upto lsnsMembersSpec)

/-- 'lockkeeperlaw04.LsnsOrder', WHERE WHAT IT READS IS OF BULK AT MOST 1048576: true; the input reads as it did. -/
def lsnsOrderUptoRow : OpenClaim := { program := "ytkcjhkhdpafjhaa", sum := "c3b0a7e22c7f3316f6044e7cbf82f74da448e62416e17b942a62e923600dad17", func := "lockkeeper/lockkeeperlaw04.LsnsOrder", spec := "lsnsOrder", unfollowed := true, recurses := true, apart := false, narrowed := true }
def LsnsOrderUptoSaid : Prop := lsnsOrderUptoRow.holds Try.pinned (OpenSpec.upto lsnsOrderSpec)

/-- 'lockkeeperlaw04.LsnsBytes', WHERE WHAT IT READS IS OF BULK AT MOST 1048576: true; the input reads as it did. -/
def lsnsBytesUptoRow : OpenClaim := { program := "ytkcjhkhdpafjhaa", sum := "c3b0a7e22c7f3316f6044e7cbf82f74da448e62416e17b942a62e923600dad17", func := "lockkeeper/lockkeeperlaw04.LsnsBytes", spec := "lsnsBytes", unfollowed := true, recurses := true, apart := false, narrowed := true }
def LsnsBytesUptoSaid : Prop := lsnsBytesUptoRow.holds Try.pinned (OpenSpec.upto lsnsBytesSpec)

/-- 'lockkeeperlaw04.LsnsRaises', WHERE WHAT IT READS IS OF BULK AT MOST 1048576: true; the input reads as it did. -/
def lsnsRaisesUptoRow : OpenClaim := { program := "ytkcjhkhdpafjhaa", sum := "c3b0a7e22c7f3316f6044e7cbf82f74da448e62416e17b942a62e923600dad17", func := "lockkeeper/lockkeeperlaw04.LsnsRaises", spec := "lsnsRaises", unfollowed := true, recurses := true, apart := false, narrowed := true }
def LsnsRaisesUptoSaid : Prop := lsnsRaisesUptoRow.holds Try.pinned (OpenSpec.upto lsnsRaisesSpec)

/-- 'lockkeeperlaw04.LsnsJoins', WHERE WHAT IT READS IS OF BULK AT MOST 1048576: true; the input reads as it did. -/
def lsnsJoinsUptoRow : OpenClaim := { program := "ytkcjhkhdpafjhaa", sum := "c3b0a7e22c7f3316f6044e7cbf82f74da448e62416e17b942a62e923600dad17", func := "lockkeeper/lockkeeperlaw04.LsnsJoins", spec := "lsnsJoins", unfollowed := true, recurses := true, apart := false, narrowed := true }
def LsnsJoinsUptoSaid : Prop := lsnsJoinsUptoRow.holds Try.pinned (OpenSpec.upto lsnsJoinsSpec)

end Rows
end Go.Proofs.Ytkcjhkhdpafjhaa
