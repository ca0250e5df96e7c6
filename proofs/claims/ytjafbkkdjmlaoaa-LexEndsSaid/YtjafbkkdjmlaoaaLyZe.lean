/- LexEnds holds of the landed program: how long a word of letters may be, and a text (P7.1). No condition but those of the given statement. -/
import Derived.Test.YtjafbkkdjmlaoaaLxF
import Derived.Test.YtjafbkkdjmlaoaaLyO
set_option linter.unusedVariables false
namespace Go.Proofs.Ytjafbkkdjmlaoaa.lexEnds
open Go Go.RowKit
theorem proved : Rows.LexEndsSaid := proved_of lex_ok
#print axioms proved
end Go.Proofs.Ytjafbkkdjmlaoaa.lexEnds
