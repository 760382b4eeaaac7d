/-
  DERIVED. GIVEN WITH THE SEED: THE CARDS: each row of YtlhcacancnmhcaaDoorRows.lean that lists a variable, with what it lists TIED to the program's text (the seventh form; the later family's looks); each row that meets fmt, with fmt's text TOLD by the authors' own Lean function (tested against real Go, not proved from fmt's source: count such statements apart). THE CARD IS WHAT COUNTS. Prove the row's statement (the work); the ties are given (YtlhcacancnmhcaaDoorTie.lean); close each card by the builder's one call (the guide's Derived/Test/ToyasCard.lean, 'card_holds'). Laid BY PROGRAM, IN A SANDBOX (cutbox-door.mjs). By AI agents, Wed Nov 11 2026. No macro, syntax, notation, axiom, sorry.
-/
import Derived.Test.YtlhcacancnmhcaaDoorRows
import GoSem.ClaimSeven
namespace Go.Proofs.YtlhcacancnmhcaaDoor
namespace Rows

/-- THE TIED CARD OF 'lockkeeperlaw07.RecordText'. -/
def recordTextCard : Claim7 := { stood := { row := recordTextRow, standIns := [], harness := (true, "01f622e9e07262714a32dd712ec25f8934353812db5a6e6afc6fc81950b13b9b"), looks := false }, kinds := [], alts := [], laidByText := true, laidKinds := [.data], laidTests := true, laidLooks := .later }
def RecordTextCardSaid : Prop := Claim7.holds Tryd.pinned (.plain (OpenSpec.ofChange recordTextSpec)) recordTextCard

/-- THE TIED CARD OF 'lockkeeperlaw07.RecordOn'. -/
def recordOnCard : Claim7 := { stood := { row := recordOnRow, standIns := [], harness := (true, "01f622e9e07262714a32dd712ec25f8934353812db5a6e6afc6fc81950b13b9b"), looks := false }, kinds := [], alts := [], laidByText := true, laidKinds := [.data], laidTests := true, laidLooks := .later }
def RecordOnCardSaid : Prop := Claim7.holds Tryd.pinned (.plain (OpenSpec.ofChange recordOnSpec)) recordOnCard

/-- THE TIED CARD OF 'lockkeeperlaw07.RecordLacks'. -/
def recordLacksCard : Claim7 := { stood := { row := recordLacksRow, standIns := [], harness := (true, "01f622e9e07262714a32dd712ec25f8934353812db5a6e6afc6fc81950b13b9b"), looks := false }, kinds := [], alts := [], laidByText := true, laidKinds := [.data], laidTests := true, laidLooks := .later }
def RecordLacksCardSaid : Prop := Claim7.holds Tryd.pinned (.plain (OpenSpec.ofChange recordLacksSpec)) recordLacksCard

/-- THE TIED CARD OF 'lockkeeperlaw07.RecordTurns'. -/
def recordTurnsCard : Claim7 := { stood := { row := recordTurnsRow, standIns := [], harness := (true, "01f622e9e07262714a32dd712ec25f8934353812db5a6e6afc6fc81950b13b9b"), looks := false }, kinds := [], alts := [], laidByText := true, laidKinds := [.data], laidTests := true, laidLooks := .later }
def RecordTurnsCardSaid : Prop := Claim7.holds Tryd.pinned (.plain (OpenSpec.ofChange recordTurnsSpec)) recordTurnsCard

/-- THE TIED CARD OF 'lockkeeperlaw07.RecordLong'. -/
def recordLongCard : Claim7 := { stood := { row := recordLongRow, standIns := [], harness := (true, "01f622e9e07262714a32dd712ec25f8934353812db5a6e6afc6fc81950b13b9b"), looks := false }, kinds := [], alts := [], laidByText := true, laidKinds := [.data], laidTests := true, laidLooks := .later }
def RecordLongCardSaid : Prop := Claim7.holds Tryd.pinned (.plain (OpenSpec.ofChange recordLongSpec)) recordLongCard

/-- THE SECOND FORM's CARD OF 'lockkeeperlaw07.RecordText'. -/
def recordTextUptoCard : Claim7 := { stood := { row := recordTextUptoRow, standIns := [], harness := (true, "01f622e9e07262714a32dd712ec25f8934353812db5a6e6afc6fc81950b13b9b"), looks := false }, kinds := [], alts := [], laidByText := true, laidKinds := [.data], laidTests := true, laidLooks := .later }
def RecordTextUptoCardSaid : Prop := Claim7.holds Tryd.pinned (.plain (OpenSpec.upto recordTextSpec)) recordTextUptoCard

/-- THE SECOND FORM's CARD OF 'lockkeeperlaw07.RecordOn'. -/
def recordOnUptoCard : Claim7 := { stood := { row := recordOnUptoRow, standIns := [], harness := (true, "01f622e9e07262714a32dd712ec25f8934353812db5a6e6afc6fc81950b13b9b"), looks := false }, kinds := [], alts := [], laidByText := true, laidKinds := [.data], laidTests := true, laidLooks := .later }
def RecordOnUptoCardSaid : Prop := Claim7.holds Tryd.pinned (.plain (OpenSpec.upto recordOnSpec)) recordOnUptoCard

/-- THE SECOND FORM's CARD OF 'lockkeeperlaw07.RecordLacks'. -/
def recordLacksUptoCard : Claim7 := { stood := { row := recordLacksUptoRow, standIns := [], harness := (true, "01f622e9e07262714a32dd712ec25f8934353812db5a6e6afc6fc81950b13b9b"), looks := false }, kinds := [], alts := [], laidByText := true, laidKinds := [.data], laidTests := true, laidLooks := .later }
def RecordLacksUptoCardSaid : Prop := Claim7.holds Tryd.pinned (.plain (OpenSpec.upto recordLacksSpec)) recordLacksUptoCard

/-- THE SECOND FORM's CARD OF 'lockkeeperlaw07.RecordTurns'. -/
def recordTurnsUptoCard : Claim7 := { stood := { row := recordTurnsUptoRow, standIns := [], harness := (true, "01f622e9e07262714a32dd712ec25f8934353812db5a6e6afc6fc81950b13b9b"), looks := false }, kinds := [], alts := [], laidByText := true, laidKinds := [.data], laidTests := true, laidLooks := .later }
def RecordTurnsUptoCardSaid : Prop := Claim7.holds Tryd.pinned (.plain (OpenSpec.upto recordTurnsSpec)) recordTurnsUptoCard

/-- THE SECOND FORM's CARD OF 'lockkeeperlaw07.RecordLong'. -/
def recordLongUptoCard : Claim7 := { stood := { row := recordLongUptoRow, standIns := [], harness := (true, "01f622e9e07262714a32dd712ec25f8934353812db5a6e6afc6fc81950b13b9b"), looks := false }, kinds := [], alts := [], laidByText := true, laidKinds := [.data], laidTests := true, laidLooks := .later }
def RecordLongUptoCardSaid : Prop := Claim7.holds Tryd.pinned (.plain (OpenSpec.upto recordLongSpec)) recordLongUptoCard
end Rows
end Go.Proofs.YtlhcacancnmhcaaDoor
