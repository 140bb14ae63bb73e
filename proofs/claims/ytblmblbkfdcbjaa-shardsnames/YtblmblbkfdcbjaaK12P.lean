/- What Product answers. -/
import Derived.Test.YtblmblbkfdcbjaaK12
namespace Go.Proofs.Ytblmblbkfdcbjaa
open Go.RowKit
/-- What Product answers. -/
def pdX (xs ys : List ByteArray) : List ByteArray := if isM xs = true ∧ isM ys = true ∧ wid xs = ys.length then txtL (wid ys) (prodL (arrL xs) (arrL ys)) else []
end Go.Proofs.Ytblmblbkfdcbjaa
