/- The document's headers out of bytes. -/
import Derived.Test.YtkmijjipnepnoabGDec
namespace Go.Proofs.Ytkmijjipnepnoab
open Go.RowKit
set_option linter.unusedVariables false

theorem zeroN (v : Int) : groupA v (zers 40) = #[.int .i64 v, .int .u8 0, .int .u8 0, .int .u8 0, .int .u8 0, .int .u8 0, .int .u8 0, .int .u8 0, .int .u8 0, .int .u8 0, .int .u8 0, .int .u8 0, .int .u8 0, .int .u8 0, .int .u8 0, .int .u8 0, .int .u8 0, .int .u8 0, .int .u8 0, .int .u8 0, .int .u8 0, .int .u8 0, .int .u8 0, .int .u8 0, .int .u8 0, .int .u8 0, .int .u8 0, .int .u8 0, .int .u8 0, .int .u8 0, .int .u8 0, .int .u8 0, .int .u8 0, .int .u8 0, .int .u8 0, .int .u8 0, .int .u8 0, .int .u8 0, .int .u8 0, .int .u8 0, .int .u8 0] := rfl

theorem hd_str {xs : List Int} (h : Num.Byt xs) : ((strOfNums xs).toList == [104, 100]) = (xs == [104, 100]) := by
  have := str_beq h (ys := [104, 100]) (Num.byt_of_wf (by decide))
  rw [show (strOfNums [104, 100]).toList = [104, 100] from Lib.strOfNums_toList _] at this
  exact this

end Go.Proofs.Ytkmijjipnepnoab
