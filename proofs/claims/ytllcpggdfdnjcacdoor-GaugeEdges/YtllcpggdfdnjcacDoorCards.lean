/-
  DERIVED. GIVEN WITH THE SEED: THE CARDS: each row of YtllcpggdfdnjcacDoorRows.lean that lists a variable, with what it lists TIED to the program's text (the seventh form; the later family's looks); each row that meets fmt, with fmt's text TOLD by the authors' own Lean function (tested against real Go, not proved from fmt's source: count such statements apart). THE CARD IS WHAT COUNTS. Prove the row's statement (the work); the ties are given (YtllcpggdfdnjcacDoorTie.lean); close each card by the builder's one call (the guide's Derived/Test/ToyasCard.lean, 'card_holds'). Laid BY PROGRAM, IN A SANDBOX (cutbox-door.mjs). By AI agents, Wed Nov 11 2026. No macro, syntax, notation, axiom, sorry.
-/
import Derived.Test.YtllcpggdfdnjcacDoorRows
import GoSem.ClaimSeven
namespace Go.Proofs.YtllcpggdfdnjcacDoor
namespace Rows

/-- THE TIED CARD OF 'bollardlaw08.GaugeEdges'. -/
def gaugeEdgesCard : Claim7 := { stood := { row := gaugeEdgesRow, standIns := [], harness := (true, "a26dc427d4f3bde1b3db527f874b37d5bf6d992d5dccaf38ab9a15c4e22911e4"), looks := false }, kinds := [], alts := [], laidByText := true, laidKinds := [.data, .data, .data], laidTests := true, laidLooks := .later }
def GaugeEdgesCardSaid : Prop := Claim7.holds Tryd.pinned (.plain (OpenSpec.ofChange gaugeEdgesSpec)) gaugeEdgesCard

/-- THE SECOND FORM's CARD OF 'bollardlaw08.GaugeEdges'. -/
def gaugeEdgesUptoCard : Claim7 := { stood := { row := gaugeEdgesUptoRow, standIns := [], harness := (true, "a26dc427d4f3bde1b3db527f874b37d5bf6d992d5dccaf38ab9a15c4e22911e4"), looks := false }, kinds := [], alts := [], laidByText := true, laidKinds := [.data, .data, .data], laidTests := true, laidLooks := .later }
def GaugeEdgesUptoCardSaid : Prop := Claim7.holds Tryd.pinned (.plain (OpenSpec.upto gaugeEdgesSpec)) gaugeEdgesUptoCard
end Rows
end Go.Proofs.YtllcpggdfdnjcacDoor
