/-
  DERIVED. GIVEN WITH THE SEED: THE CARDS: each row of YtfngadfkopfhcaaDoorRows.lean that lists a variable, with what it lists TIED to the program's text (the seventh form; the later family's looks); each row that meets fmt, with fmt's text TOLD by the authors' own Lean function (tested against real Go, not proved from fmt's source: count such statements apart). THE CARD IS WHAT COUNTS. Prove the row's statement (the work); the ties are given (YtfngadfkopfhcaaDoorTie.lean); close each card by the builder's one call (the guide's Derived/Test/ToyasCard.lean, 'card_holds'). Laid BY PROGRAM, IN A SANDBOX (cutbox-door.mjs). By AI agents, Wed Nov 11 2026. No macro, syntax, notation, axiom, sorry.
-/
import Derived.Test.YtfngadfkopfhcaaDoorRows
import GoSem.ClaimSeven
namespace Go.Proofs.YtfngadfkopfhcaaDoor
namespace Rows

/-- THE TIED CARD OF 'campanilelaw.MethodReads'. -/
def methodReadsCard : Claim7 := { stood := { row := methodReadsRow, standIns := [], harness := (true, "fe2a288d9680d931da9fb049220bc454847b9b325d153f79b43a26bae5fc5cea"), looks := true }, kinds := [], alts := [], laidByText := true, laidKinds := [.data, .data, .data, .data, .sentinel, .sentinel, .pinned], laidTests := true, laidLooks := .later }
def MethodReadsCardSaid : Prop := Claim7.holds Tryd.pinned (.plain (OpenSpec.ofChange methodReadsSpec)) methodReadsCard

/-- THE SECOND FORM's CARD OF 'campanilelaw.MethodReads'. -/
def methodReadsUptoCard : Claim7 := { stood := { row := methodReadsUptoRow, standIns := [], harness := (true, "fe2a288d9680d931da9fb049220bc454847b9b325d153f79b43a26bae5fc5cea"), looks := true }, kinds := [], alts := [], laidByText := true, laidKinds := [.data, .data, .data, .data, .sentinel, .sentinel, .pinned], laidTests := true, laidLooks := .later }
def MethodReadsUptoCardSaid : Prop := Claim7.holds Tryd.pinned (.plain (OpenSpec.upto methodReadsSpec)) methodReadsUptoCard
end Rows
end Go.Proofs.YtfngadfkopfhcaaDoor
