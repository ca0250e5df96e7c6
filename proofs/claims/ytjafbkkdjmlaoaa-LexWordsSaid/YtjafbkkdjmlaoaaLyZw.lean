/- LexWords holds of the landed program: the words of any text, or where it says nothing, and what words are as a text, are the document's (P7.1, P7.2). No condition but those of the given statement. -/
import Derived.Test.YtjafbkkdjmlaoaaLxW
import Derived.Test.YtjafbkkdjmlaoaaLyO
set_option linter.unusedVariables false
namespace Go.Proofs.Ytjafbkkdjmlaoaa.lexWords
open Go Go.RowKit
theorem proved : Rows.LexWordsSaid := proved_of lex_ok
#print axioms proved
end Go.Proofs.Ytjafbkkdjmlaoaa.lexWords
