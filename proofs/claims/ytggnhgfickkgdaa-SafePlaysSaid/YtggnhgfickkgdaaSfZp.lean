/- Layer 11 (safe), SafePlays: whatever the input, the law returns true (of any clauses and facts, Right and Arities answer as the document says), and the input reads as it did. No condition. -/
import Derived.Test.YtggnhgfickkgdaaSfO
set_option linter.unusedVariables false
namespace Go.Proofs.Ytggnhgfickkgdaa
open Go Go.RowKit

theorem safePlays.proved : Rows.SafePlaysSaid := safePlays.proved_of safe_ok (sWorks_of safe_ok)
end Go.Proofs.Ytggnhgfickkgdaa
