/- Layer 11 (safe), SafeParts: whatever the input, the law returns true (parts of a right program are right; what is wrong stays wrong, whatever stands behind it), and the input reads as it did. No condition. -/
import Derived.Test.YtggnhgfickkgdaaSfO
set_option linter.unusedVariables false
namespace Go.Proofs.Ytggnhgfickkgdaa
open Go Go.RowKit

theorem safeParts.proved : Rows.SafePartsSaid := safeParts.proved_of safe_ok (sWorks_of safe_ok)
end Go.Proofs.Ytggnhgfickkgdaa
