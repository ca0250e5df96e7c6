/- Layer 11 (safe), SafeNames: whatever the input, the law returns true (what predicates and variables are called says nothing), and the input reads as it did. No condition. -/
import Derived.Test.YtggnhgfickkgdaaSfO
set_option linter.unusedVariables false
namespace Go.Proofs.Ytggnhgfickkgdaa
open Go Go.RowKit

theorem safeNames.proved : Rows.SafeNamesSaid := safeNames.proved_of safe_ok (sWorks_of safe_ok)
end Go.Proofs.Ytggnhgfickkgdaa
