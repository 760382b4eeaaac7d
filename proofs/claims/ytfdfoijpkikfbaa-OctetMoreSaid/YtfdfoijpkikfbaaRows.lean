/-
  No cell of these rows narrows 'for every input' (looked for: loops, veiled, ifaces, maps, wideKeys, modest, calm, conditions, laid).
  DERIVED. THE GIVEN ROWS OF THIS SEAT. 4 by the template 'for every input the law returns true; each argument reads behind the call as it read before'; 0 by the template 'total and deterministic' (their statements: YtfdfoijpkikfbaaTotals.lean).
  GIVEN WITH THE SEED: the statements are not yours to turn. If you find one false, say at which input.
  Laid BY PROGRAM, IN A SANDBOX (cutbox-rows.mjs): the forced cells as the released guide's own fill.sh prints them over the translation 9cf2914cfe16ccd2… (all of the seat's roots in one cut). By AI agents, Wed Nov 11 2026. No macro, syntax, notation, axiom, sorry.
-/
import Derived.Test.YtfdfoijpkikfbaaChecked
import GoSem.Claim
import GoSem.ClaimJoined
import GoSem.ClaimMapViews
import Derived.JoinedTies
import Derived.KernelRfl
namespace Go.Proofs.Ytfdfoijpkikfbaa
/- THE CELL 'sum', in the pinned program and in every row, IS THE sha256 OF THE DUMP (.gsa) THAT YtfdfoijpkikfbaaProg.lean LOADS. Nothing in Lean hashes anything: it is a label: what it is worth is what the hold of that sum in a sandbox is worth. -/
noncomputable def Try.pinned : Pinned := { name := "ytfdfoijpkikfbaa", sum := "9cf2914cfe16ccd255b7031fcac5f949d67515dcf95b2cc7848149428ebb2c32", checked := Try.checked }
namespace Rows
def none {H : Type} : Left H := { results := [], args := [] }

/-- 'lockkeeperlaw01.OctetWalk': WHATEVER THE INPUT: true; the input reads as it did. -/
def octetWalkSpec : ChangeSpec := { name := "octetWalk", fn := fun _ => fun
  | [d] => { results := [.lit (.bool true)], args := [d] }
  | _ => none }
def octetWalkRow : OpenClaim := { program := "ytfdfoijpkikfbaa", sum := "9cf2914cfe16ccd255b7031fcac5f949d67515dcf95b2cc7848149428ebb2c32", func := "lockkeeper/lockkeeperlaw01.OctetWalk", spec := "octetWalk", unfollowed := true, recurses := true, apart := false }
def OctetWalkSaid : Prop := octetWalkRow.holds Try.pinned (OpenSpec.ofChange octetWalkSpec)

/-- ITS FALSE NEIGHBOUR: 'it returns false'. Refute it at one input. -/
def octetWalkWrong : ChangeSpec := { name := "octetWalk", fn := fun _ => fun
  | [d] => { results := [.lit (.bool false)], args := [d] }
  | _ => none }
def OctetWalkWrongFalsely : Prop := octetWalkRow.holds Try.pinned (OpenSpec.ofChange octetWalkWrong)

/-- 'lockkeeperlaw01.OctetStands': WHATEVER THE INPUT: true; the input reads as it did. -/
def octetStandsSpec : ChangeSpec := { name := "octetStands", fn := fun _ => fun
  | [d] => { results := [.lit (.bool true)], args := [d] }
  | _ => none }
def octetStandsRow : OpenClaim := { program := "ytfdfoijpkikfbaa", sum := "9cf2914cfe16ccd255b7031fcac5f949d67515dcf95b2cc7848149428ebb2c32", func := "lockkeeper/lockkeeperlaw01.OctetStands", spec := "octetStands", unfollowed := true, recurses := true, apart := false }
def OctetStandsSaid : Prop := octetStandsRow.holds Try.pinned (OpenSpec.ofChange octetStandsSpec)

/-- ITS FALSE NEIGHBOUR: 'it returns false'. Refute it at one input. -/
def octetStandsWrong : ChangeSpec := { name := "octetStands", fn := fun _ => fun
  | [d] => { results := [.lit (.bool false)], args := [d] }
  | _ => none }
def OctetStandsWrongFalsely : Prop := octetStandsRow.holds Try.pinned (OpenSpec.ofChange octetStandsWrong)

/-- 'lockkeeperlaw01.OctetOrder': WHATEVER THE INPUT: true; the input reads as it did. -/
def octetOrderSpec : ChangeSpec := { name := "octetOrder", fn := fun _ => fun
  | [d] => { results := [.lit (.bool true)], args := [d] }
  | _ => none }
def octetOrderRow : OpenClaim := { program := "ytfdfoijpkikfbaa", sum := "9cf2914cfe16ccd255b7031fcac5f949d67515dcf95b2cc7848149428ebb2c32", func := "lockkeeper/lockkeeperlaw01.OctetOrder", spec := "octetOrder", unfollowed := true, recurses := true, apart := false }
def OctetOrderSaid : Prop := octetOrderRow.holds Try.pinned (OpenSpec.ofChange octetOrderSpec)

/-- ITS FALSE NEIGHBOUR: 'it returns false'. Refute it at one input. -/
def octetOrderWrong : ChangeSpec := { name := "octetOrder", fn := fun _ => fun
  | [d] => { results := [.lit (.bool false)], args := [d] }
  | _ => none }
def OctetOrderWrongFalsely : Prop := octetOrderRow.holds Try.pinned (OpenSpec.ofChange octetOrderWrong)

/-- 'lockkeeperlaw01.OctetMore': WHATEVER THE INPUT: true; the input reads as it did. -/
def octetMoreSpec : ChangeSpec := { name := "octetMore", fn := fun _ => fun
  | [d1, d2] => { results := [.lit (.bool true)], args := [d1, d2] }
  | _ => none }
def octetMoreRow : OpenClaim := { program := "ytfdfoijpkikfbaa", sum := "9cf2914cfe16ccd255b7031fcac5f949d67515dcf95b2cc7848149428ebb2c32", func := "lockkeeper/lockkeeperlaw01.OctetMore", spec := "octetMore", unfollowed := true, recurses := true, apart := false }
def OctetMoreSaid : Prop := octetMoreRow.holds Try.pinned (OpenSpec.ofChange octetMoreSpec)

/-- ITS FALSE NEIGHBOUR: 'it returns false'. Refute it at one input. -/
def octetMoreWrong : ChangeSpec := { name := "octetMore", fn := fun _ => fun
  | [d1, d2] => { results := [.lit (.bool false)], args := [d1, d2] }
  | _ => none }
def OctetMoreWrongFalsely : Prop := octetMoreRow.holds Try.pinned (OpenSpec.ofChange octetMoreWrong)

/- THE SECOND FORM. 'bulk': how many values and letters a reading holds, each counted each time it is reached (what is shared counts as often as it is met; a slice's spare places count too). A statement '..UptoSaid' is the law's where the arguments, and the package variables that the reading takes, are together of bulk at most 1048576: NARROWER than '..Said'. Prove '..Said' where nothing that the law and all that it calls make is longer than what came in: it says more and counts as full. Else prove '..UptoSaid'. A law counts once. -/
mutual
def uptoBulk {H : Type} : DataW H → Nat
  | .lit (.string bytes) => bytes.length + 1
  | .lit _ => 1
  | .nil => 1
  | .ptr d => uptoBulk d + 1
  | .slice elems spare => uptoBulkAll elems + uptoBulkAll spare + 1
  | .agg parts => uptoBulkAll parts + 1
  | .iface _ d => uptoBulk d + 1
  | .map entries => uptoBulkEntries entries + 1
  | .held _ => 1
def uptoBulkAll {H : Type} : List (DataW H) → Nat
  | [] => 0
  | d :: r => uptoBulk d + uptoBulkAll r
def uptoBulkEntries {H : Type} : List (Lit × DataW H) → Nat
  | [] => 0
  | x :: r => uptoBulkEntry x + uptoBulkEntries r
def uptoBulkEntry {H : Type} : Lit × DataW H → Nat
  | (.string bytes, d) => bytes.length + uptoBulk d + 1
  | (_, d) => uptoBulk d + 1
 end
def uptoSmall : (H : Type) → List (DataW H) → Bool := fun _ ds => decide (uptoBulkAll ds ≤ 1048576)
def OpenSpec.upto (s : _root_.Go.ChangeSpec) : _root_.Go.OpenSpec := { _root_.Go.OpenSpec.ofChange s with cond := some uptoSmall }

/-- 'lockkeeperlaw01.OctetWalk', WHERE WHAT IT READS IS OF BULK AT MOST 1048576: true; the input reads as it did. -/
def octetWalkUptoRow : OpenClaim := { program := "ytfdfoijpkikfbaa", sum := "9cf2914cfe16ccd255b7031fcac5f949d67515dcf95b2cc7848149428ebb2c32", func := "lockkeeper/lockkeeperlaw01.OctetWalk", spec := "octetWalk", unfollowed := true, recurses := true, apart := false, narrowed := true }
def OctetWalkUptoSaid : Prop := octetWalkUptoRow.holds Try.pinned (OpenSpec.upto octetWalkSpec)

/-- 'lockkeeperlaw01.OctetStands', WHERE WHAT IT READS IS OF BULK AT MOST 1048576: true; the input reads as it did. -/
def octetStandsUptoRow : OpenClaim := { program := "ytfdfoijpkikfbaa", sum := "9cf2914cfe16ccd255b7031fcac5f949d67515dcf95b2cc7848149428ebb2c32", func := "lockkeeper/lockkeeperlaw01.OctetStands", spec := "octetStands", unfollowed := true, recurses := true, apart := false, narrowed := true }
def OctetStandsUptoSaid : Prop := octetStandsUptoRow.holds Try.pinned (OpenSpec.upto octetStandsSpec)

/-- 'lockkeeperlaw01.OctetOrder', WHERE WHAT IT READS IS OF BULK AT MOST 1048576: true; the input reads as it did. -/
def octetOrderUptoRow : OpenClaim := { program := "ytfdfoijpkikfbaa", sum := "9cf2914cfe16ccd255b7031fcac5f949d67515dcf95b2cc7848149428ebb2c32", func := "lockkeeper/lockkeeperlaw01.OctetOrder", spec := "octetOrder", unfollowed := true, recurses := true, apart := false, narrowed := true }
def OctetOrderUptoSaid : Prop := octetOrderUptoRow.holds Try.pinned (OpenSpec.upto octetOrderSpec)

/-- 'lockkeeperlaw01.OctetMore', WHERE WHAT IT READS IS OF BULK AT MOST 1048576: true; the input reads as it did. -/
def octetMoreUptoRow : OpenClaim := { program := "ytfdfoijpkikfbaa", sum := "9cf2914cfe16ccd255b7031fcac5f949d67515dcf95b2cc7848149428ebb2c32", func := "lockkeeper/lockkeeperlaw01.OctetMore", spec := "octetMore", unfollowed := true, recurses := true, apart := false, narrowed := true }
def OctetMoreUptoSaid : Prop := octetMoreUptoRow.holds Try.pinned (OpenSpec.upto octetMoreSpec)

end Rows
end Go.Proofs.Ytfdfoijpkikfbaa
