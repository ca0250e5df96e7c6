/- Layer 4 (syms): the program's May is the document's. -/
import Derived.Test.YtaejidchoaejkaaSyW
import Derived.Test.YtaejidchoaejkaaSyX
set_option linter.unusedVariables false
set_option linter.unusedSimpArgs false
namespace Go.Proofs.Ytaejidchoaejkaa
open Go Go.RowKit

theorem may_ok : MayOk := fun s W hs => may_any s W hs
end Go.Proofs.Ytaejidchoaejkaa
