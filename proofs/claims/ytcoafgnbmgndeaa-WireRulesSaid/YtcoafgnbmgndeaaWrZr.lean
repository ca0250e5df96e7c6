/- WireRules holds of the landed program: any rule as bytes is the document's, and so is which rule stands at any place of any bytes, and which rules may be (P6.1, P6.2). No condition but those of the given statement. -/
import Derived.Test.YtcoafgnbmgndeaaWrRr
import Derived.Test.YtcoafgnbmgndeaaWqY
set_option linter.unusedVariables false
namespace Go.Proofs.Ytcoafgnbmgndeaa.wireRules
open Go Go.RowKit
theorem proved : Rows.WireRulesSaid := proved_of wire_ok
#print axioms proved
end Go.Proofs.Ytcoafgnbmgndeaa.wireRules
