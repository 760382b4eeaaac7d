/-
  No cell of these rows narrows 'for every input' (looked for: loops, veiled, ifaces, maps, wideKeys, modest, calm, conditions, laid).
  DERIVED. THE GIVEN ROWS OF THIS SEAT. 3 by the template 'for every input the law returns true; each argument reads behind the call as it read before'; 0 by the template 'total and deterministic' (their statements: YtbkhojopiimbdaaTotals.lean).
  GIVEN WITH THE SEED: the statements are not yours to turn. If you find one false, say at which input.
  Laid BY PROGRAM, IN A SANDBOX (cutbox-rows.mjs): the forced cells as the released guide's own fill.sh prints them over the translation fd5ef32d1a8b2430… (all of the seat's roots in one cut). By AI agents, Wed Nov 11 2026. No macro, syntax, notation, axiom, sorry.
-/
import Derived.Test.YtbkhojopiimbdaaChecked
import GoSem.Claim
import GoSem.ClaimJoined
import GoSem.ClaimMapViews
import Derived.JoinedTies
import Derived.KernelRfl
namespace Go.Proofs.Ytbkhojopiimbdaa
/- THE CELL 'sum', in the pinned program and in every row, IS THE sha256 OF THE DUMP (.gsa) THAT YtbkhojopiimbdaaProg.lean LOADS. Nothing in Lean hashes anything: it is a label: what it is worth is what the hold of that sum in a sandbox is worth. -/
noncomputable def Try.pinned : Pinned := { name := "ytbkhojopiimbdaa", sum := "fd5ef32d1a8b24307a99f4ee19726c2e4e8a4f4181fc4610b535cd85f75b993a", checked := Try.checked }
namespace Rows
def none {H : Type} : Left H := { results := [], args := [] }

/-- 'lockkeeperlaw23.WaitsRings': WHATEVER THE INPUT: true; the input reads as it did. -/
def waitsRingsSpec : ChangeSpec := { name := "waitsRings", fn := fun _ => fun
  | [d1, d2] => { results := [.lit (.bool true)], args := [d1, d2] }
  | _ => none }
def waitsRingsRow : OpenClaim := { program := "ytbkhojopiimbdaa", sum := "fd5ef32d1a8b24307a99f4ee19726c2e4e8a4f4181fc4610b535cd85f75b993a", func := "lockkeeper/lockkeeperlaw23.WaitsRings", spec := "waitsRings", recurses := true, apart := false }
def WaitsRingsSaid : Prop := waitsRingsRow.holds Try.pinned (OpenSpec.ofChange waitsRingsSpec)

/-- ITS FALSE NEIGHBOUR: 'it returns false'. Refute it at one input. -/
def waitsRingsWrong : ChangeSpec := { name := "waitsRings", fn := fun _ => fun
  | [d1, d2] => { results := [.lit (.bool false)], args := [d1, d2] }
  | _ => none }
def WaitsRingsWrongFalsely : Prop := waitsRingsRow.holds Try.pinned (OpenSpec.ofChange waitsRingsWrong)

/-- 'lockkeeperlaw23.WaitsMeans': WHATEVER THE INPUT: true; the input reads as it did. -/
def waitsMeansSpec : ChangeSpec := { name := "waitsMeans", fn := fun _ => fun
  | [d1, d2] => { results := [.lit (.bool true)], args := [d1, d2] }
  | _ => none }
def waitsMeansRow : OpenClaim := { program := "ytbkhojopiimbdaa", sum := "fd5ef32d1a8b24307a99f4ee19726c2e4e8a4f4181fc4610b535cd85f75b993a", func := "lockkeeper/lockkeeperlaw23.WaitsMeans", spec := "waitsMeans", recurses := true, apart := false }
def WaitsMeansSaid : Prop := waitsMeansRow.holds Try.pinned (OpenSpec.ofChange waitsMeansSpec)

/-- ITS FALSE NEIGHBOUR: 'it returns false'. Refute it at one input. -/
def waitsMeansWrong : ChangeSpec := { name := "waitsMeans", fn := fun _ => fun
  | [d1, d2] => { results := [.lit (.bool false)], args := [d1, d2] }
  | _ => none }
def WaitsMeansWrongFalsely : Prop := waitsMeansRow.holds Try.pinned (OpenSpec.ofChange waitsMeansWrong)

/-- 'lockkeeperlaw23.WaitsMore': WHATEVER THE INPUT: true; the input reads as it did. -/
def waitsMoreSpec : ChangeSpec := { name := "waitsMore", fn := fun _ => fun
  | [d1, d2, d3] => { results := [.lit (.bool true)], args := [d1, d2, d3] }
  | _ => none }
def waitsMoreRow : OpenClaim := { program := "ytbkhojopiimbdaa", sum := "fd5ef32d1a8b24307a99f4ee19726c2e4e8a4f4181fc4610b535cd85f75b993a", func := "lockkeeper/lockkeeperlaw23.WaitsMore", spec := "waitsMore", recurses := true, apart := false }
def WaitsMoreSaid : Prop := waitsMoreRow.holds Try.pinned (OpenSpec.ofChange waitsMoreSpec)

/-- ITS FALSE NEIGHBOUR: 'it returns false'. Refute it at one input. -/
def waitsMoreWrong : ChangeSpec := { name := "waitsMore", fn := fun _ => fun
  | [d1, d2, d3] => { results := [.lit (.bool false)], args := [d1, d2, d3] }
  | _ => none }
def WaitsMoreWrongFalsely : Prop := waitsMoreRow.holds Try.pinned (OpenSpec.ofChange waitsMoreWrong)

/- THE SECOND FORM. 'bulk': how many values and letters a reading holds, each counted each time it is reached (what is shared counts as often as it is met; a slice's spare places count too). A statement '..UptoSaid' is the law's where the arguments, and the package variables that the reading takes, are together of bulk at most 1048576: NARROWER than '..Said'. Prove '..Said' where nothing that the law and all that it calls make is longer than what came in: it says more and counts as full. Else prove '..UptoSaid'. A law counts once. -/
mutual
def uptoBulk {H : Type} : DataW H → Nat
  | .lit (.string bytes) => bytes.length + 1
  | .lit _ => 1
  | .nil => 1
  | .ptr d => uptoBulk d + 1
  | .slice elems spare => uptoBulkAll elems + uptoBulkAll spare + 1
  | .agg parts => uptoBulkAll parts + 1
  | .iface _ d => uptoBulk d + 1
  | .map entries => uptoBulkEntries entries + 1
  | .held _ => 1
def uptoBulkAll {H : Type} : List (DataW H) → Nat
  | [] => 0
  | d :: r => uptoBulk d + uptoBulkAll r
def uptoBulkEntries {H : Type} : List (Lit × DataW H) → Nat
  | [] => 0
  | x :: r => uptoBulkEntry x + uptoBulkEntries r
def uptoBulkEntry {H : Type} : Lit × DataW H → Nat
  | (.string bytes, d) => bytes.length + uptoBulk d + 1
  | (_, d) => uptoBulk d + 1
 end
def uptoSmall : (H : Type) → List (DataW H) → Bool := fun _ ds => decide (uptoBulkAll ds ≤ 1048576)
def OpenSpec.upto (s : _root_.Go.ChangeSpec) : _root_.Go.OpenSpec := { _root_.Go.OpenSpec.ofChange s with cond := some uptoSmall }

/-- 'lockkeeperlaw23.WaitsRings', WHERE WHAT IT READS IS OF BULK AT MOST 1048576: true; the input reads as it did. -/
def waitsRingsUptoRow : OpenClaim := { program := "ytbkhojopiimbdaa", sum := "fd5ef32d1a8b24307a99f4ee19726c2e4e8a4f4181fc4610b535cd85f75b993a", func := "lockkeeper/lockkeeperlaw23.WaitsRings", spec := "waitsRings", recurses := true, apart := false, narrowed := true }
def WaitsRingsUptoSaid : Prop := waitsRingsUptoRow.holds Try.pinned (OpenSpec.upto waitsRingsSpec)

/-- 'lockkeeperlaw23.WaitsMeans', WHERE WHAT IT READS IS OF BULK AT MOST 1048576: true; the input reads as it did. -/
def waitsMeansUptoRow : OpenClaim := { program := "ytbkhojopiimbdaa", sum := "fd5ef32d1a8b24307a99f4ee19726c2e4e8a4f4181fc4610b535cd85f75b993a", func := "lockkeeper/lockkeeperlaw23.WaitsMeans", spec := "waitsMeans", recurses := true, apart := false, narrowed := true }
def WaitsMeansUptoSaid : Prop := waitsMeansUptoRow.holds Try.pinned (OpenSpec.upto waitsMeansSpec)

/-- 'lockkeeperlaw23.WaitsMore', WHERE WHAT IT READS IS OF BULK AT MOST 1048576: true; the input reads as it did. -/
def waitsMoreUptoRow : OpenClaim := { program := "ytbkhojopiimbdaa", sum := "fd5ef32d1a8b24307a99f4ee19726c2e4e8a4f4181fc4610b535cd85f75b993a", func := "lockkeeper/lockkeeperlaw23.WaitsMore", spec := "waitsMore", recurses := true, apart := false, narrowed := true }
def WaitsMoreUptoSaid : Prop := waitsMoreUptoRow.holds Try.pinned (OpenSpec.upto waitsMoreSpec)

end Rows
end Go.Proofs.Ytbkhojopiimbdaa
