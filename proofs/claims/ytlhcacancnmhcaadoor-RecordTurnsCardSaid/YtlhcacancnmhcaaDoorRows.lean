/-
  NARROWER THAN 'FOR EVERY INPUT', by the rows' own cells (each row's printed sentence says how): RecordText: laid · RecordOn: laid · RecordLacks: laid · RecordTurns: laid · RecordLong: laid.
  DERIVED. THE GIVEN ROWS OF THIS SEAT. 5 by the template 'for every input the law returns true; each argument reads behind the call as it read before'; 0 by the template 'total and deterministic' (their statements: YtlhcacancnmhcaaDoorTotals.lean).
  GIVEN WITH THE SEED: the statements are not yours to turn. If you find one false, say at which input.
  Laid BY PROGRAM, IN A SANDBOX (cutbox-rows.mjs): the forced cells as the released guide's own fill.sh prints them over the translation f008690ef9495d70… (all of the seat's roots in one cut). By AI agents, Wed Nov 11 2026. No macro, syntax, notation, axiom, sorry.
-/
import Derived.Test.YtlhcacancnmhcaaDoorChecked
import GoSem.Claim
import GoSem.ClaimJoined
import GoSem.ClaimMapViews
import Derived.JoinedTies
import Derived.KernelRfl
namespace Go.Proofs.YtlhcacancnmhcaaDoor
/- THE CELL 'sum', in the pinned program and in every row, IS THE sha256 OF THE DUMP (.gsa) THAT YtlhcacancnmhcaaDoorProg.lean LOADS. Nothing in Lean hashes anything: it is a label: what it is worth is what the hold of that sum in a sandbox is worth. -/
noncomputable def Tryd.pinned : Pinned := { name := "ytlhcacancnmhcaadoor", sum := "f008690ef9495d70f56a7ff9e2a20c6ef9b31e3eeaaada071286d7a58c072353", checked := Tryd.checked }
namespace Rows
def none {H : Type} : Left H := { results := [], args := [] }

/- WHAT THE LISTED PACKAGE-LEVEL VARIABLES READ AS WHEN THE CALL BEGINS. Each datum BY PROGRAM (the guide's laid-datum.mjs) off the statement by which the dump's own 'gosem.cut.vars' lays the variable. In a bare row this is a premise. The card (YtlhcacancnmhcaaDoorCards.lean) ties it to the program's text. -/
def laid_lockkeeper_crc_effects {H : Type} : DataW H := .agg [.lit (.int .u32 0), .lit (.int .u32 274646895), .lit (.int .u32 549293790), .lit (.int .u32 820201905), .lit (.int .u32 1098587580), .lit (.int .u32 1361435347), .lit (.int .u32 1640403810), .lit (.int .u32 1905808397), .lit (.int .u32 2197175160), .lit (.int .u32 2460548119), .lit (.int .u32 2722870694), .lit (.int .u32 2987750089), .lit (.int .u32 3280807620), .lit (.int .u32 3553878443), .lit (.int .u32 3811616794), .lit (.int .u32 4084100981)]

/-- 'lockkeeperlaw07.RecordText': WHATEVER THE INPUT: true; the input reads as it did. -/
def recordTextSpec : ChangeSpec := { name := "recordText", fn := fun _ => fun
  | [d1, d2] => { results := [.lit (.bool true)], args := [d1, d2] }
  | _ => none }
def recordTextRow : OpenClaim := { program := "ytlhcacancnmhcaadoor", sum := "f008690ef9495d70f56a7ff9e2a20c6ef9b31e3eeaaada071286d7a58c072353", func := "lockkeeper/lockkeeperlaw07.RecordText", spec := "recordText", unfollowed := true, recurses := true, named := ["lockkeeper/crc.effects"], apart := false, laid := [("lockkeeper/crc.effects", laid_lockkeeper_crc_effects)] }
def RecordTextSaid : Prop := recordTextRow.holds Tryd.pinned (OpenSpec.ofChange recordTextSpec)

/-- ITS FALSE NEIGHBOUR: 'it returns false'. Refute it at one input. -/
def recordTextWrong : ChangeSpec := { name := "recordText", fn := fun _ => fun
  | [d1, d2] => { results := [.lit (.bool false)], args := [d1, d2] }
  | _ => none }
def RecordTextWrongFalsely : Prop := recordTextRow.holds Tryd.pinned (OpenSpec.ofChange recordTextWrong)

/-- 'lockkeeperlaw07.RecordOn': WHATEVER THE INPUT: true; the input reads as it did. -/
def recordOnSpec : ChangeSpec := { name := "recordOn", fn := fun _ => fun
  | [d1, d2, d3] => { results := [.lit (.bool true)], args := [d1, d2, d3] }
  | _ => none }
def recordOnRow : OpenClaim := { program := "ytlhcacancnmhcaadoor", sum := "f008690ef9495d70f56a7ff9e2a20c6ef9b31e3eeaaada071286d7a58c072353", func := "lockkeeper/lockkeeperlaw07.RecordOn", spec := "recordOn", unfollowed := true, recurses := true, named := ["lockkeeper/crc.effects"], apart := false, laid := [("lockkeeper/crc.effects", laid_lockkeeper_crc_effects)] }
def RecordOnSaid : Prop := recordOnRow.holds Tryd.pinned (OpenSpec.ofChange recordOnSpec)

/-- ITS FALSE NEIGHBOUR: 'it returns false'. Refute it at one input. -/
def recordOnWrong : ChangeSpec := { name := "recordOn", fn := fun _ => fun
  | [d1, d2, d3] => { results := [.lit (.bool false)], args := [d1, d2, d3] }
  | _ => none }
def RecordOnWrongFalsely : Prop := recordOnRow.holds Tryd.pinned (OpenSpec.ofChange recordOnWrong)

/-- 'lockkeeperlaw07.RecordLacks': WHATEVER THE INPUT: true; the input reads as it did. -/
def recordLacksSpec : ChangeSpec := { name := "recordLacks", fn := fun _ => fun
  | [d] => { results := [.lit (.bool true)], args := [d] }
  | _ => none }
def recordLacksRow : OpenClaim := { program := "ytlhcacancnmhcaadoor", sum := "f008690ef9495d70f56a7ff9e2a20c6ef9b31e3eeaaada071286d7a58c072353", func := "lockkeeper/lockkeeperlaw07.RecordLacks", spec := "recordLacks", unfollowed := true, recurses := true, named := ["lockkeeper/crc.effects"], apart := false, laid := [("lockkeeper/crc.effects", laid_lockkeeper_crc_effects)] }
def RecordLacksSaid : Prop := recordLacksRow.holds Tryd.pinned (OpenSpec.ofChange recordLacksSpec)

/-- ITS FALSE NEIGHBOUR: 'it returns false'. Refute it at one input. -/
def recordLacksWrong : ChangeSpec := { name := "recordLacks", fn := fun _ => fun
  | [d] => { results := [.lit (.bool false)], args := [d] }
  | _ => none }
def RecordLacksWrongFalsely : Prop := recordLacksRow.holds Tryd.pinned (OpenSpec.ofChange recordLacksWrong)

/-- 'lockkeeperlaw07.RecordTurns': WHATEVER THE INPUT: true; the input reads as it did. -/
def recordTurnsSpec : ChangeSpec := { name := "recordTurns", fn := fun _ => fun
  | [d] => { results := [.lit (.bool true)], args := [d] }
  | _ => none }
def recordTurnsRow : OpenClaim := { program := "ytlhcacancnmhcaadoor", sum := "f008690ef9495d70f56a7ff9e2a20c6ef9b31e3eeaaada071286d7a58c072353", func := "lockkeeper/lockkeeperlaw07.RecordTurns", spec := "recordTurns", unfollowed := true, recurses := true, named := ["lockkeeper/crc.effects"], apart := false, laid := [("lockkeeper/crc.effects", laid_lockkeeper_crc_effects)] }
def RecordTurnsSaid : Prop := recordTurnsRow.holds Tryd.pinned (OpenSpec.ofChange recordTurnsSpec)

/-- ITS FALSE NEIGHBOUR: 'it returns false'. Refute it at one input. -/
def recordTurnsWrong : ChangeSpec := { name := "recordTurns", fn := fun _ => fun
  | [d] => { results := [.lit (.bool false)], args := [d] }
  | _ => none }
def RecordTurnsWrongFalsely : Prop := recordTurnsRow.holds Tryd.pinned (OpenSpec.ofChange recordTurnsWrong)

/-- 'lockkeeperlaw07.RecordLong': WHATEVER THE INPUT: true; the input reads as it did. -/
def recordLongSpec : ChangeSpec := { name := "recordLong", fn := fun _ => fun
  | [d1, d2] => { results := [.lit (.bool true)], args := [d1, d2] }
  | _ => none }
def recordLongRow : OpenClaim := { program := "ytlhcacancnmhcaadoor", sum := "f008690ef9495d70f56a7ff9e2a20c6ef9b31e3eeaaada071286d7a58c072353", func := "lockkeeper/lockkeeperlaw07.RecordLong", spec := "recordLong", unfollowed := true, recurses := true, named := ["lockkeeper/crc.effects"], apart := false, laid := [("lockkeeper/crc.effects", laid_lockkeeper_crc_effects)] }
def RecordLongSaid : Prop := recordLongRow.holds Tryd.pinned (OpenSpec.ofChange recordLongSpec)

/-- ITS FALSE NEIGHBOUR: 'it returns false'. Refute it at one input. -/
def recordLongWrong : ChangeSpec := { name := "recordLong", fn := fun _ => fun
  | [d1, d2] => { results := [.lit (.bool false)], args := [d1, d2] }
  | _ => none }
def RecordLongWrongFalsely : Prop := recordLongRow.holds Tryd.pinned (OpenSpec.ofChange recordLongWrong)

/- THE SECOND FORM. 'bulk': how many values and letters a reading holds, each counted each time it is reached (what is shared counts as often as it is met; a slice's spare places count too). A statement '..UptoSaid' is the law's where the arguments, and the package variables that the reading takes, are together of bulk at most 1048576: NARROWER than '..Said'. Prove '..Said' where nothing that the law and all that it calls make is longer than what came in: it says more and counts as full. Else prove '..UptoSaid'. A law counts once. -/
mutual
def uptoBulk {H : Type} : DataW H → Nat
  | .lit (.string bytes) => bytes.length + 1
  | .lit _ => 1
  | .nil => 1
  | .ptr d => uptoBulk d + 1
  | .slice elems spare => uptoBulkAll elems + uptoBulkAll spare + 1
  | .agg parts => uptoBulkAll parts + 1
  | .iface _ d => uptoBulk d + 1
  | .map entries => uptoBulkEntries entries + 1
  | .held _ => 1
def uptoBulkAll {H : Type} : List (DataW H) → Nat
  | [] => 0
  | d :: r => uptoBulk d + uptoBulkAll r
def uptoBulkEntries {H : Type} : List (Lit × DataW H) → Nat
  | [] => 0
  | x :: r => uptoBulkEntry x + uptoBulkEntries r
def uptoBulkEntry {H : Type} : Lit × DataW H → Nat
  | (.string bytes, d) => bytes.length + uptoBulk d + 1
  | (_, d) => uptoBulk d + 1
 end
def uptoSmall : (H : Type) → List (DataW H) → Bool := fun _ ds => decide (uptoBulkAll ds ≤ 1048576)
def OpenSpec.upto (s : _root_.Go.ChangeSpec) : _root_.Go.OpenSpec := { _root_.Go.OpenSpec.ofChange s with cond := some uptoSmall }

/-- 'lockkeeperlaw07.RecordText', WHERE WHAT IT READS IS OF BULK AT MOST 1048576: true; the input reads as it did. -/
def recordTextUptoRow : OpenClaim := { program := "ytlhcacancnmhcaadoor", sum := "f008690ef9495d70f56a7ff9e2a20c6ef9b31e3eeaaada071286d7a58c072353", func := "lockkeeper/lockkeeperlaw07.RecordText", spec := "recordText", unfollowed := true, recurses := true, named := ["lockkeeper/crc.effects"], apart := false, laid := [("lockkeeper/crc.effects", laid_lockkeeper_crc_effects)], narrowed := true }
def RecordTextUptoSaid : Prop := recordTextUptoRow.holds Tryd.pinned (OpenSpec.upto recordTextSpec)

/-- 'lockkeeperlaw07.RecordOn', WHERE WHAT IT READS IS OF BULK AT MOST 1048576: true; the input reads as it did. -/
def recordOnUptoRow : OpenClaim := { program := "ytlhcacancnmhcaadoor", sum := "f008690ef9495d70f56a7ff9e2a20c6ef9b31e3eeaaada071286d7a58c072353", func := "lockkeeper/lockkeeperlaw07.RecordOn", spec := "recordOn", unfollowed := true, recurses := true, named := ["lockkeeper/crc.effects"], apart := false, laid := [("lockkeeper/crc.effects", laid_lockkeeper_crc_effects)], narrowed := true }
def RecordOnUptoSaid : Prop := recordOnUptoRow.holds Tryd.pinned (OpenSpec.upto recordOnSpec)

/-- 'lockkeeperlaw07.RecordLacks', WHERE WHAT IT READS IS OF BULK AT MOST 1048576: true; the input reads as it did. -/
def recordLacksUptoRow : OpenClaim := { program := "ytlhcacancnmhcaadoor", sum := "f008690ef9495d70f56a7ff9e2a20c6ef9b31e3eeaaada071286d7a58c072353", func := "lockkeeper/lockkeeperlaw07.RecordLacks", spec := "recordLacks", unfollowed := true, recurses := true, named := ["lockkeeper/crc.effects"], apart := false, laid := [("lockkeeper/crc.effects", laid_lockkeeper_crc_effects)], narrowed := true }
def RecordLacksUptoSaid : Prop := recordLacksUptoRow.holds Tryd.pinned (OpenSpec.upto recordLacksSpec)

/-- 'lockkeeperlaw07.RecordTurns', WHERE WHAT IT READS IS OF BULK AT MOST 1048576: true; the input reads as it did. -/
def recordTurnsUptoRow : OpenClaim := { program := "ytlhcacancnmhcaadoor", sum := "f008690ef9495d70f56a7ff9e2a20c6ef9b31e3eeaaada071286d7a58c072353", func := "lockkeeper/lockkeeperlaw07.RecordTurns", spec := "recordTurns", unfollowed := true, recurses := true, named := ["lockkeeper/crc.effects"], apart := false, laid := [("lockkeeper/crc.effects", laid_lockkeeper_crc_effects)], narrowed := true }
def RecordTurnsUptoSaid : Prop := recordTurnsUptoRow.holds Tryd.pinned (OpenSpec.upto recordTurnsSpec)

/-- 'lockkeeperlaw07.RecordLong', WHERE WHAT IT READS IS OF BULK AT MOST 1048576: true; the input reads as it did. -/
def recordLongUptoRow : OpenClaim := { program := "ytlhcacancnmhcaadoor", sum := "f008690ef9495d70f56a7ff9e2a20c6ef9b31e3eeaaada071286d7a58c072353", func := "lockkeeper/lockkeeperlaw07.RecordLong", spec := "recordLong", unfollowed := true, recurses := true, named := ["lockkeeper/crc.effects"], apart := false, laid := [("lockkeeper/crc.effects", laid_lockkeeper_crc_effects)], narrowed := true }
def RecordLongUptoSaid : Prop := recordLongUptoRow.holds Tryd.pinned (OpenSpec.upto recordLongSpec)

end Rows
end Go.Proofs.YtlhcacancnmhcaaDoor
