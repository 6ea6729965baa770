/- WordSums: the sum of bytes, their sealing, and whether they are sealed are what the document says, whatever the bytes are. -/
import Derived.Test.YtkmijjipnepnoabFns
namespace Go.Proofs.Ytkmijjipnepnoab
open Go.RowKit

theorem BI.none (w : World) (p : Option Addr) : BI w p 0 [] := ⟨rfl, by omega, fun i => by simp, fun h => by omega⟩

theorem same_at {P : Program} {f : FuncId} {args : Array Value} {w : World} {v : Value} {Q : Ending → World → Prop} (h : Calls P f args w fun e w' => e = .returned v ∧ w' = w) (hq : Q (.returned v) w) : Calls P f args w Q :=
  h.mono (by rintro e w' ⟨rfl, rfl⟩; exact hq)

theorem sum_zero (w : World) : Calls Try.prog 65 #[.slice none 0 0] w fun e w' => e = .returned (.int .i64 1) ∧ w' = w := sum_none none 0 w

end Go.Proofs.Ytkmijjipnepnoab
