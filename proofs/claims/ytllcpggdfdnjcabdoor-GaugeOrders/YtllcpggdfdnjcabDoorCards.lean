/-
  DERIVED. GIVEN WITH THE SEED: THE CARDS: each row of YtllcpggdfdnjcabDoorRows.lean that lists a variable, with what it lists TIED to the program's text (the seventh form; the later family's looks); each row that meets fmt, with fmt's text TOLD by the authors' own Lean function (tested against real Go, not proved from fmt's source: count such statements apart). THE CARD IS WHAT COUNTS. Prove the row's statement (the work); the ties are given (YtllcpggdfdnjcabDoorTie.lean); close each card by the builder's one call (the guide's Derived/Test/ToyasCard.lean, 'card_holds'). Laid BY PROGRAM, IN A SANDBOX (cutbox-door.mjs). By AI agents, Wed Nov 11 2026. No macro, syntax, notation, axiom, sorry.
-/
import Derived.Test.YtllcpggdfdnjcabDoorRows
import GoSem.ClaimSeven
namespace Go.Proofs.YtllcpggdfdnjcabDoor
namespace Rows

/-- THE TIED CARD OF 'bollardlaw08.GaugeOrders'. -/
def gaugeOrdersCard : Claim7 := { stood := { row := gaugeOrdersRow, standIns := [], harness := (true, "502f57dad70d5888181ef0f4fa0fc72e1eaf03364e9d67db6b1cc750c76d876c"), looks := false }, kinds := [], alts := [], laidByText := true, laidKinds := [.data, .data, .data], laidTests := true, laidLooks := .later }
def GaugeOrdersCardSaid : Prop := Claim7.holds Tryd.pinned (.plain (OpenSpec.ofChange gaugeOrdersSpec)) gaugeOrdersCard

/-- THE SECOND FORM's CARD OF 'bollardlaw08.GaugeOrders'. -/
def gaugeOrdersUptoCard : Claim7 := { stood := { row := gaugeOrdersUptoRow, standIns := [], harness := (true, "502f57dad70d5888181ef0f4fa0fc72e1eaf03364e9d67db6b1cc750c76d876c"), looks := false }, kinds := [], alts := [], laidByText := true, laidKinds := [.data, .data, .data], laidTests := true, laidLooks := .later }
def GaugeOrdersUptoCardSaid : Prop := Claim7.holds Tryd.pinned (.plain (OpenSpec.upto gaugeOrdersSpec)) gaugeOrdersUptoCard
end Rows
end Go.Proofs.YtllcpggdfdnjcabDoor
