/- WireFacts holds of the landed program: any fact as bytes is the document's, and so is which fact stands at any place of any bytes (P6.1, P6.2). No condition but those of the given statement. -/
import Derived.Test.YtcoafgnbmgndeaaWrR
import Derived.Test.YtcoafgnbmgndeaaWqY
set_option linter.unusedVariables false
namespace Go.Proofs.Ytcoafgnbmgndeaa.wireFacts
open Go Go.RowKit
theorem proved : Rows.WireFactsSaid := proved_of wire_ok
#print axioms proved
end Go.Proofs.Ytcoafgnbmgndeaa.wireFacts
