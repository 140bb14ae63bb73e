/- What Product answers. -/
import Derived.Test.YtblmblbkfdcbjabK12
namespace Go.Proofs.Ytblmblbkfdcbjab
open Go.RowKit
/-- What Product answers. -/
def pdX (xs ys : List ByteArray) : List ByteArray := if isM xs = true ∧ isM ys = true ∧ wid xs = ys.length then txtL (wid ys) (prodL (arrL xs) (arrL ys)) else []
end Go.Proofs.Ytblmblbkfdcbjab
