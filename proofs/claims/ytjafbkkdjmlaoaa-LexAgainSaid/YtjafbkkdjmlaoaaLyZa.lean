/- LexAgain holds of the landed program: the words of a text's words as a text are they; each stands where it says, none within another one (P7.3). No condition but those of the given statement. -/
import Derived.Test.YtjafbkkdjmlaoaaLxG
import Derived.Test.YtjafbkkdjmlaoaaLyO
set_option linter.unusedVariables false
namespace Go.Proofs.Ytjafbkkdjmlaoaa.lexAgain
open Go Go.RowKit
theorem proved : Rows.LexAgainSaid := proved_of lex_ok
#print axioms proved
end Go.Proofs.Ytjafbkkdjmlaoaa.lexAgain
