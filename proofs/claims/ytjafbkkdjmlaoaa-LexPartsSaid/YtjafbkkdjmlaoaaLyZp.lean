/- LexParts holds of the landed program: two texts, one behind the other, have the words of both; what is wrong in one of them is wrong there (P7.1). No condition but those of the given statement. -/
import Derived.Test.YtjafbkkdjmlaoaaLxP
import Derived.Test.YtjafbkkdjmlaoaaLyO
set_option linter.unusedVariables false
namespace Go.Proofs.Ytjafbkkdjmlaoaa.lexParts
open Go Go.RowKit
theorem proved : Rows.LexPartsSaid := proved_of lex_ok
#print axioms proved
end Go.Proofs.Ytjafbkkdjmlaoaa.lexParts
