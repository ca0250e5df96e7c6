/- WireClauses holds of the landed program: any clause as bytes is the document's, and so is which clause stands at any place of any bytes (P6.1, P6.2). No condition but those of the given statement. -/
import Derived.Test.YtcoafgnbmgndeaaWrRc
import Derived.Test.YtcoafgnbmgndeaaWqY
set_option linter.unusedVariables false
namespace Go.Proofs.Ytcoafgnbmgndeaa.wireClauses
open Go Go.RowKit
theorem proved : Rows.WireClausesSaid := proved_of wire_ok
#print axioms proved
end Go.Proofs.Ytcoafgnbmgndeaa.wireClauses
