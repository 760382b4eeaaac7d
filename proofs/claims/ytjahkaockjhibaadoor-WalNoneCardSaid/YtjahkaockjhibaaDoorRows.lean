/-
  NARROWER THAN 'FOR EVERY INPUT', by the rows' own cells (each row's printed sentence says how): WalPlays: laid · WalOpens: laid · WalKeeps: laid · WalRoom: laid · WalNone: laid · WalTrims: laid.
  DERIVED. THE GIVEN ROWS OF THIS SEAT. 6 by the template 'for every input the law returns true; each argument reads behind the call as it read before'; 0 by the template 'total and deterministic' (their statements: YtjahkaockjhibaaDoorTotals.lean).
  GIVEN WITH THE SEED: the statements are not yours to turn. If you find one false, say at which input.
  Laid BY PROGRAM, IN A SANDBOX (cutbox-rows.mjs): the forced cells as the released guide's own fill.sh prints them over the translation 6b785253569efff9… (all of the seat's roots in one cut). By AI agents, Wed Nov 11 2026. No macro, syntax, notation, axiom, sorry.
-/
import Derived.Test.YtjahkaockjhibaaDoorChecked
import GoSem.Claim
import GoSem.ClaimJoined
import GoSem.ClaimMapViews
import Derived.JoinedTies
import Derived.KernelRfl
namespace Go.Proofs.YtjahkaockjhibaaDoor
/- THE CELL 'sum', in the pinned program and in every row, IS THE sha256 OF THE DUMP (.gsa) THAT YtjahkaockjhibaaDoorProg.lean LOADS. Nothing in Lean hashes anything: it is a label: what it is worth is what the hold of that sum in a sandbox is worth. -/
noncomputable def Tryd.pinned : Pinned := { name := "ytjahkaockjhibaadoor", sum := "6b785253569efff909eaed519f269f4cb21e0c0b5ac95c172a57a96c4d14c932", checked := Tryd.checked }
namespace Rows
def none {H : Type} : Left H := { results := [], args := [] }

/- WHAT THE LISTED PACKAGE-LEVEL VARIABLES READ AS WHEN THE CALL BEGINS. Each datum BY PROGRAM (the guide's laid-datum.mjs) off the statement by which the dump's own 'gosem.cut.vars' lays the variable. In a bare row this is a premise. The card (YtjahkaockjhibaaDoorCards.lean) ties it to the program's text. -/
def laid_lockkeeper_crc_effects {H : Type} : DataW H := .agg [.lit (.int .u32 0), .lit (.int .u32 274646895), .lit (.int .u32 549293790), .lit (.int .u32 820201905), .lit (.int .u32 1098587580), .lit (.int .u32 1361435347), .lit (.int .u32 1640403810), .lit (.int .u32 1905808397), .lit (.int .u32 2197175160), .lit (.int .u32 2460548119), .lit (.int .u32 2722870694), .lit (.int .u32 2987750089), .lit (.int .u32 3280807620), .lit (.int .u32 3553878443), .lit (.int .u32 3811616794), .lit (.int .u32 4084100981)]

/-- 'lockkeeperlaw08.WalPlays': WHATEVER THE INPUT: true; the input reads as it did. -/
def walPlaysSpec : ChangeSpec := { name := "walPlays", fn := fun _ => fun
  | [d1, d2, d3] => { results := [.lit (.bool true)], args := [d1, d2, d3] }
  | _ => none }
def walPlaysRow : OpenClaim := { program := "ytjahkaockjhibaadoor", sum := "6b785253569efff909eaed519f269f4cb21e0c0b5ac95c172a57a96c4d14c932", func := "lockkeeper/lockkeeperlaw08.WalPlays", spec := "walPlays", unfollowed := true, recurses := true, named := ["lockkeeper/crc.effects"], apart := false, laid := [("lockkeeper/crc.effects", laid_lockkeeper_crc_effects)] }
def WalPlaysSaid : Prop := walPlaysRow.holds Tryd.pinned (OpenSpec.ofChange walPlaysSpec)

/-- ITS FALSE NEIGHBOUR: 'it returns false'. Refute it at one input. -/
def walPlaysWrong : ChangeSpec := { name := "walPlays", fn := fun _ => fun
  | [d1, d2, d3] => { results := [.lit (.bool false)], args := [d1, d2, d3] }
  | _ => none }
def WalPlaysWrongFalsely : Prop := walPlaysRow.holds Tryd.pinned (OpenSpec.ofChange walPlaysWrong)

/-- 'lockkeeperlaw08.WalOpens': WHATEVER THE INPUT: true; the input reads as it did. -/
def walOpensSpec : ChangeSpec := { name := "walOpens", fn := fun _ => fun
  | [d1, d2] => { results := [.lit (.bool true)], args := [d1, d2] }
  | _ => none }
def walOpensRow : OpenClaim := { program := "ytjahkaockjhibaadoor", sum := "6b785253569efff909eaed519f269f4cb21e0c0b5ac95c172a57a96c4d14c932", func := "lockkeeper/lockkeeperlaw08.WalOpens", spec := "walOpens", unfollowed := true, recurses := true, named := ["lockkeeper/crc.effects"], apart := false, laid := [("lockkeeper/crc.effects", laid_lockkeeper_crc_effects)] }
def WalOpensSaid : Prop := walOpensRow.holds Tryd.pinned (OpenSpec.ofChange walOpensSpec)

/-- ITS FALSE NEIGHBOUR: 'it returns false'. Refute it at one input. -/
def walOpensWrong : ChangeSpec := { name := "walOpens", fn := fun _ => fun
  | [d1, d2] => { results := [.lit (.bool false)], args := [d1, d2] }
  | _ => none }
def WalOpensWrongFalsely : Prop := walOpensRow.holds Tryd.pinned (OpenSpec.ofChange walOpensWrong)

/-- 'lockkeeperlaw08.WalKeeps': WHATEVER THE INPUT: true; the input reads as it did. -/
def walKeepsSpec : ChangeSpec := { name := "walKeeps", fn := fun _ => fun
  | [d1, d2] => { results := [.lit (.bool true)], args := [d1, d2] }
  | _ => none }
def walKeepsRow : OpenClaim := { program := "ytjahkaockjhibaadoor", sum := "6b785253569efff909eaed519f269f4cb21e0c0b5ac95c172a57a96c4d14c932", func := "lockkeeper/lockkeeperlaw08.WalKeeps", spec := "walKeeps", unfollowed := true, recurses := true, named := ["lockkeeper/crc.effects"], apart := false, laid := [("lockkeeper/crc.effects", laid_lockkeeper_crc_effects)] }
def WalKeepsSaid : Prop := walKeepsRow.holds Tryd.pinned (OpenSpec.ofChange walKeepsSpec)

/-- ITS FALSE NEIGHBOUR: 'it returns false'. Refute it at one input. -/
def walKeepsWrong : ChangeSpec := { name := "walKeeps", fn := fun _ => fun
  | [d1, d2] => { results := [.lit (.bool false)], args := [d1, d2] }
  | _ => none }
def WalKeepsWrongFalsely : Prop := walKeepsRow.holds Tryd.pinned (OpenSpec.ofChange walKeepsWrong)

/-- 'lockkeeperlaw08.WalRoom': WHATEVER THE INPUT: true; the input reads as it did. -/
def walRoomSpec : ChangeSpec := { name := "walRoom", fn := fun _ => fun
  | [d1, d2] => { results := [.lit (.bool true)], args := [d1, d2] }
  | _ => none }
def walRoomRow : OpenClaim := { program := "ytjahkaockjhibaadoor", sum := "6b785253569efff909eaed519f269f4cb21e0c0b5ac95c172a57a96c4d14c932", func := "lockkeeper/lockkeeperlaw08.WalRoom", spec := "walRoom", unfollowed := true, recurses := true, named := ["lockkeeper/crc.effects"], apart := false, laid := [("lockkeeper/crc.effects", laid_lockkeeper_crc_effects)] }
def WalRoomSaid : Prop := walRoomRow.holds Tryd.pinned (OpenSpec.ofChange walRoomSpec)

/-- ITS FALSE NEIGHBOUR: 'it returns false'. Refute it at one input. -/
def walRoomWrong : ChangeSpec := { name := "walRoom", fn := fun _ => fun
  | [d1, d2] => { results := [.lit (.bool false)], args := [d1, d2] }
  | _ => none }
def WalRoomWrongFalsely : Prop := walRoomRow.holds Tryd.pinned (OpenSpec.ofChange walRoomWrong)

/-- 'lockkeeperlaw08.WalNone': WHATEVER THE INPUT: true; the input reads as it did. -/
def walNoneSpec : ChangeSpec := { name := "walNone", fn := fun _ => fun
  | [d1, d2] => { results := [.lit (.bool true)], args := [d1, d2] }
  | _ => none }
def walNoneRow : OpenClaim := { program := "ytjahkaockjhibaadoor", sum := "6b785253569efff909eaed519f269f4cb21e0c0b5ac95c172a57a96c4d14c932", func := "lockkeeper/lockkeeperlaw08.WalNone", spec := "walNone", unfollowed := true, recurses := true, named := ["lockkeeper/crc.effects"], apart := false, laid := [("lockkeeper/crc.effects", laid_lockkeeper_crc_effects)] }
def WalNoneSaid : Prop := walNoneRow.holds Tryd.pinned (OpenSpec.ofChange walNoneSpec)

/-- ITS FALSE NEIGHBOUR: 'it returns false'. Refute it at one input. -/
def walNoneWrong : ChangeSpec := { name := "walNone", fn := fun _ => fun
  | [d1, d2] => { results := [.lit (.bool false)], args := [d1, d2] }
  | _ => none }
def WalNoneWrongFalsely : Prop := walNoneRow.holds Tryd.pinned (OpenSpec.ofChange walNoneWrong)

/-- 'lockkeeperlaw08.WalTrims': WHATEVER THE INPUT: true; the input reads as it did. -/
def walTrimsSpec : ChangeSpec := { name := "walTrims", fn := fun _ => fun
  | [d] => { results := [.lit (.bool true)], args := [d] }
  | _ => none }
def walTrimsRow : OpenClaim := { program := "ytjahkaockjhibaadoor", sum := "6b785253569efff909eaed519f269f4cb21e0c0b5ac95c172a57a96c4d14c932", func := "lockkeeper/lockkeeperlaw08.WalTrims", spec := "walTrims", unfollowed := true, recurses := true, named := ["lockkeeper/crc.effects"], apart := false, laid := [("lockkeeper/crc.effects", laid_lockkeeper_crc_effects)] }
def WalTrimsSaid : Prop := walTrimsRow.holds Tryd.pinned (OpenSpec.ofChange walTrimsSpec)

/-- ITS FALSE NEIGHBOUR: 'it returns false'. Refute it at one input. -/
def walTrimsWrong : ChangeSpec := { name := "walTrims", fn := fun _ => fun
  | [d] => { results := [.lit (.bool false)], args := [d] }
  | _ => none }
def WalTrimsWrongFalsely : Prop := walTrimsRow.holds Tryd.pinned (OpenSpec.ofChange walTrimsWrong)

/- THE SECOND FORM. 'bulk': how many values and letters a reading holds, each counted each time it is reached (what is shared counts as often as it is met; a slice's spare places count too). A statement '..UptoSaid' is the law's where the arguments, and the package variables that the reading takes, are together of bulk at most 1048576: NARROWER than '..Said'. Prove '..Said' where nothing that the law and all that it calls make is longer than what came in: it says more and counts as full. Else prove '..UptoSaid'. A law counts once. -/
mutual
def uptoBulk {H : Type} : DataW H → Nat
  | .lit (.string bytes) => bytes.length + 1
  | .lit _ => 1
  | .nil => 1
  | .ptr d => uptoBulk d + 1
  | .slice elems spare => uptoBulkAll elems + uptoBulkAll spare + 1
  | .agg parts => uptoBulkAll parts + 1
  | .iface _ d => uptoBulk d + 1
  | .map entries => uptoBulkEntries entries + 1
  | .held _ => 1
def uptoBulkAll {H : Type} : List (DataW H) → Nat
  | [] => 0
  | d :: r => uptoBulk d + uptoBulkAll r
def uptoBulkEntries {H : Type} : List (Lit × DataW H) → Nat
  | [] => 0
  | x :: r => uptoBulkEntry x + uptoBulkEntries r
def uptoBulkEntry {H : Type} : Lit × DataW H → Nat
  | (.string bytes, d) => bytes.length + uptoBulk d + 1
  | (_, d) => uptoBulk d + 1
 end
def uptoSmall : (H : Type) → List (DataW H) → Bool := fun _ ds => decide (uptoBulkAll ds ≤ 1048576)
def OpenSpec.upto (s : _root_.Go.ChangeSpec) : _root_.Go.OpenSpec := { _root_.Go.OpenSpec.ofChange s with cond := some uptoSmall }

/-- 'lockkeeperlaw08.WalPlays', WHERE WHAT IT READS IS OF BULK AT MOST 1048576: true; the input reads as it did. -/
def walPlaysUptoRow : OpenClaim := { program := "ytjahkaockjhibaadoor", sum := "6b785253569efff909eaed519f269f4cb21e0c0b5ac95c172a57a96c4d14c932", func := "lockkeeper/lockkeeperlaw08.WalPlays", spec := "walPlays", unfollowed := true, recurses := true, named := ["lockkeeper/crc.effects"], apart := false, laid := [("lockkeeper/crc.effects", laid_lockkeeper_crc_effects)], narrowed := true }
def WalPlaysUptoSaid : Prop := walPlaysUptoRow.holds Tryd.pinned (OpenSpec.upto walPlaysSpec)

/-- 'lockkeeperlaw08.WalOpens', WHERE WHAT IT READS IS OF BULK AT MOST 1048576: true; the input reads as it did. -/
def walOpensUptoRow : OpenClaim := { program := "ytjahkaockjhibaadoor", sum := "6b785253569efff909eaed519f269f4cb21e0c0b5ac95c172a57a96c4d14c932", func := "lockkeeper/lockkeeperlaw08.WalOpens", spec := "walOpens", unfollowed := true, recurses := true, named := ["lockkeeper/crc.effects"], apart := false, laid := [("lockkeeper/crc.effects", laid_lockkeeper_crc_effects)], narrowed := true }
def WalOpensUptoSaid : Prop := walOpensUptoRow.holds Tryd.pinned (OpenSpec.upto walOpensSpec)

/-- 'lockkeeperlaw08.WalKeeps', WHERE WHAT IT READS IS OF BULK AT MOST 1048576: true; the input reads as it did. -/
def walKeepsUptoRow : OpenClaim := { program := "ytjahkaockjhibaadoor", sum := "6b785253569efff909eaed519f269f4cb21e0c0b5ac95c172a57a96c4d14c932", func := "lockkeeper/lockkeeperlaw08.WalKeeps", spec := "walKeeps", unfollowed := true, recurses := true, named := ["lockkeeper/crc.effects"], apart := false, laid := [("lockkeeper/crc.effects", laid_lockkeeper_crc_effects)], narrowed := true }
def WalKeepsUptoSaid : Prop := walKeepsUptoRow.holds Tryd.pinned (OpenSpec.upto walKeepsSpec)

/-- 'lockkeeperlaw08.WalRoom', WHERE WHAT IT READS IS OF BULK AT MOST 1048576: true; the input reads as it did. -/
def walRoomUptoRow : OpenClaim := { program := "ytjahkaockjhibaadoor", sum := "6b785253569efff909eaed519f269f4cb21e0c0b5ac95c172a57a96c4d14c932", func := "lockkeeper/lockkeeperlaw08.WalRoom", spec := "walRoom", unfollowed := true, recurses := true, named := ["lockkeeper/crc.effects"], apart := false, laid := [("lockkeeper/crc.effects", laid_lockkeeper_crc_effects)], narrowed := true }
def WalRoomUptoSaid : Prop := walRoomUptoRow.holds Tryd.pinned (OpenSpec.upto walRoomSpec)

/-- 'lockkeeperlaw08.WalNone', WHERE WHAT IT READS IS OF BULK AT MOST 1048576: true; the input reads as it did. -/
def walNoneUptoRow : OpenClaim := { program := "ytjahkaockjhibaadoor", sum := "6b785253569efff909eaed519f269f4cb21e0c0b5ac95c172a57a96c4d14c932", func := "lockkeeper/lockkeeperlaw08.WalNone", spec := "walNone", unfollowed := true, recurses := true, named := ["lockkeeper/crc.effects"], apart := false, laid := [("lockkeeper/crc.effects", laid_lockkeeper_crc_effects)], narrowed := true }
def WalNoneUptoSaid : Prop := walNoneUptoRow.holds Tryd.pinned (OpenSpec.upto walNoneSpec)

/-- 'lockkeeperlaw08.WalTrims', WHERE WHAT IT READS IS OF BULK AT MOST 1048576: true; the input reads as it did. -/
def walTrimsUptoRow : OpenClaim := { program := "ytjahkaockjhibaadoor", sum := "6b785253569efff909eaed519f269f4cb21e0c0b5ac95c172a57a96c4d14c932", func := "lockkeeper/lockkeeperlaw08.WalTrims", spec := "walTrims", unfollowed := true, recurses := true, named := ["lockkeeper/crc.effects"], apart := false, laid := [("lockkeeper/crc.effects", laid_lockkeeper_crc_effects)], narrowed := true }
def WalTrimsUptoSaid : Prop := walTrimsUptoRow.holds Tryd.pinned (OpenSpec.upto walTrimsSpec)

end Rows
end Go.Proofs.YtjahkaockjhibaaDoor
