/-
  DERIVED. GIVEN WITH THE SEED: THE CARDS: each row of YtcpcdfihgabelaaDoorRows.lean that lists a variable, with what it lists TIED to the program's text (the seventh form; the later family's looks); each row that meets fmt, with fmt's text TOLD by the authors' own Lean function (tested against real Go, not proved from fmt's source: count such statements apart). THE CARD IS WHAT COUNTS. Prove the row's statement (the work); the ties are given (YtcpcdfihgabelaaDoorTie.lean); close each card by the builder's one call (the guide's Derived/Test/ToyasCard.lean, 'card_holds'). Laid BY PROGRAM, IN A SANDBOX (cutbox-door.mjs). By AI agents, Wed Nov 11 2026. No macro, syntax, notation, axiom, sorry.
-/
import Derived.Test.YtcpcdfihgabelaaDoorRows
import GoSem.ClaimSeven
namespace Go.Proofs.YtcpcdfihgabelaaDoor
namespace Rows

/-- THE TIED CARD OF 'kissgatelaw06.TopoBack'. -/
def topoBackCard : Claim7 := { stood := { row := topoBackRow, standIns := [], harness := (true, "b195f0f9b3293f479121494fb04e0b7ef406cfe0616411dc8588399a05d60f55"), looks := false }, kinds := [], alts := [], laidByText := true, laidKinds := [.data, .pinned], laidTests := true, laidLooks := .later }
def TopoBackCardSaid : Prop := Claim7.holds Tryd.pinned (.plain (OpenSpec.ofChange topoBackSpec)) topoBackCard

/-- THE TIED CARD OF 'kissgatelaw06.TopoChecks'. -/
def topoChecksCard : Claim7 := { stood := { row := topoChecksRow, standIns := [], harness := (true, "b195f0f9b3293f479121494fb04e0b7ef406cfe0616411dc8588399a05d60f55"), looks := false }, kinds := [], alts := [], laidByText := true, laidKinds := [.data, .pinned], laidTests := true, laidLooks := .later }
def TopoChecksCardSaid : Prop := Claim7.holds Tryd.pinned (.plain (OpenSpec.ofChange topoChecksSpec)) topoChecksCard

/-- THE TIED CARD OF 'kissgatelaw06.TopoEven'. -/
def topoEvenCard : Claim7 := { stood := { row := topoEvenRow, standIns := [], harness := (true, "b195f0f9b3293f479121494fb04e0b7ef406cfe0616411dc8588399a05d60f55"), looks := false }, kinds := [], alts := [], laidByText := true, laidKinds := [.data, .pinned], laidTests := true, laidLooks := .later }
def TopoEvenCardSaid : Prop := Claim7.holds Tryd.pinned (.plain (OpenSpec.ofChange topoEvenSpec)) topoEvenCard

/-- THE TIED CARD OF 'kissgatelaw06.TopoParses'. -/
def topoParsesCard : Claim7 := { stood := { row := topoParsesRow, standIns := [], harness := (true, "b195f0f9b3293f479121494fb04e0b7ef406cfe0616411dc8588399a05d60f55"), looks := false }, kinds := [], alts := [], laidByText := true, laidKinds := [.data, .pinned], laidTests := true, laidLooks := .later }
def TopoParsesCardSaid : Prop := Claim7.holds Tryd.pinned (.plain (OpenSpec.ofChange topoParsesSpec)) topoParsesCard

/-- THE SECOND FORM's CARD OF 'kissgatelaw06.TopoBack'. -/
def topoBackUptoCard : Claim7 := { stood := { row := topoBackUptoRow, standIns := [], harness := (true, "b195f0f9b3293f479121494fb04e0b7ef406cfe0616411dc8588399a05d60f55"), looks := false }, kinds := [], alts := [], laidByText := true, laidKinds := [.data, .pinned], laidTests := true, laidLooks := .later }
def TopoBackUptoCardSaid : Prop := Claim7.holds Tryd.pinned (.plain (OpenSpec.upto topoBackSpec)) topoBackUptoCard

/-- THE SECOND FORM's CARD OF 'kissgatelaw06.TopoChecks'. -/
def topoChecksUptoCard : Claim7 := { stood := { row := topoChecksUptoRow, standIns := [], harness := (true, "b195f0f9b3293f479121494fb04e0b7ef406cfe0616411dc8588399a05d60f55"), looks := false }, kinds := [], alts := [], laidByText := true, laidKinds := [.data, .pinned], laidTests := true, laidLooks := .later }
def TopoChecksUptoCardSaid : Prop := Claim7.holds Tryd.pinned (.plain (OpenSpec.upto topoChecksSpec)) topoChecksUptoCard

/-- THE SECOND FORM's CARD OF 'kissgatelaw06.TopoEven'. -/
def topoEvenUptoCard : Claim7 := { stood := { row := topoEvenUptoRow, standIns := [], harness := (true, "b195f0f9b3293f479121494fb04e0b7ef406cfe0616411dc8588399a05d60f55"), looks := false }, kinds := [], alts := [], laidByText := true, laidKinds := [.data, .pinned], laidTests := true, laidLooks := .later }
def TopoEvenUptoCardSaid : Prop := Claim7.holds Tryd.pinned (.plain (OpenSpec.upto topoEvenSpec)) topoEvenUptoCard

/-- THE SECOND FORM's CARD OF 'kissgatelaw06.TopoParses'. -/
def topoParsesUptoCard : Claim7 := { stood := { row := topoParsesUptoRow, standIns := [], harness := (true, "b195f0f9b3293f479121494fb04e0b7ef406cfe0616411dc8588399a05d60f55"), looks := false }, kinds := [], alts := [], laidByText := true, laidKinds := [.data, .pinned], laidTests := true, laidLooks := .later }
def TopoParsesUptoCardSaid : Prop := Claim7.holds Tryd.pinned (.plain (OpenSpec.upto topoParsesSpec)) topoParsesUptoCard
end Rows
end Go.Proofs.YtcpcdfihgabelaaDoor
