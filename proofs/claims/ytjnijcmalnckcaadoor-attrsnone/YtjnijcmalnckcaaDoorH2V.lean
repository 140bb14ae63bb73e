/- Of the Go library: unicode/utf8.ValidString, DecodeRuneInString. -/
import Derived.Test.YtjnijcmalnckcaaDoorH1V
import Derived.Shelf.Unicode.ValidAny
import Derived.Shelf.Unicode.DecodeAny
import Derived.Shelf.Small.Wraps
namespace Go.Proofs.YtjnijcmalnckcaaDoor
open Go.Shelf Go.RowKit
/-- The two tables of unicode/utf8. -/
abbrev U8 (w : World) : Prop := Lib.Utf8Tabs 2 3 w
theorem U8.below {w w' : World} (h : U8 w) (hb : Below w.heap.size w w') : U8 w' := Utf8Tabs_below h hb
theorem valid_any (s : ByteArray) (w : World) (hs : s.size ≤ 9223372036854775807) (hT : U8 w) :
    Calls Tryd.prog 77 #[.string s] w fun e w' => e = .returned (.bool (Lib.validD s.data.toList)) ∧ Below w.heap.size w w' :=
  Any.utf8_ValidString lays196 s w hs hT
theorem decode_any (s : ByteArray) (w : World) (hT : U8 w) :
    Calls Tryd.prog 76 #[.string s] w fun e w' => e = .returned (.tuple #[.int .i32 (Lib.decodeGo s).1, .int .i64 (Lib.decodeGo s).2]) ∧ Below w.heap.size w w' :=
  Any.utf8_DecodeRuneInString lays197 s w hT
end Go.Proofs.YtjnijcmalnckcaaDoor
