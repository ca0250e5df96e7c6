/- WireTurned holds of the landed program: of a rule's bytes with one of them turned there is no rule, or one whose bytes are the beginning of just those; cut there is none (P6.2, P6.3). No condition but those of the given statement. -/
import Derived.Test.YtcoafgnbmgndeaaWrTu
import Derived.Test.YtcoafgnbmgndeaaWqY
set_option linter.unusedVariables false
namespace Go.Proofs.Ytcoafgnbmgndeaa.wireTurned
open Go Go.RowKit
theorem proved : Rows.WireTurnedSaid := proved_of wire_ok
#print axioms proved
end Go.Proofs.Ytcoafgnbmgndeaa.wireTurned
