/- LexBlanks holds of the landed program: two texts with blanks between have the words of both (P7.1). No condition but those of the given statement. -/
import Derived.Test.YtjafbkkdjmlaoaaLxK
import Derived.Test.YtjafbkkdjmlaoaaLyO
set_option linter.unusedVariables false
namespace Go.Proofs.Ytjafbkkdjmlaoaa.lexBlanks
open Go Go.RowKit
theorem proved : Rows.LexBlanksSaid := proved_of lex_ok
#print axioms proved
end Go.Proofs.Ytjafbkkdjmlaoaa.lexBlanks
