/- The document's superblocks out of bytes. -/
import Derived.Test.YtkmijjipnepnoabForm
namespace Go.Proofs.Ytkmijjipnepnoab
open Go.RowKit
set_option linter.unusedVariables false

theorem gE_ok (n a k : Nat) (h1 : 1 ≤ k) (h4 : k ≤ 4) (h2 : a + k ≤ n) : Num.gE n (a : Int) (k : Int) = 0 := by
  unfold Num.gE
  rw [if_neg (by omega), if_neg (by omega)]

theorem boll_str {xs : List Int} (h : Num.Byt xs) : ((strOfNums xs).toList == [98, 111, 108, 108]) = (xs == [98, 111, 108, 108]) := by
  have := str_beq h (ys := [98, 111, 108, 108]) (Num.byt_of_wf (by decide))
  rw [show (strOfNums [98, 111, 108, 108]).toList = [98, 111, 108, 108] from Lib.strOfNums_toList _] at this
  exact this

end Go.Proofs.Ytkmijjipnepnoab
