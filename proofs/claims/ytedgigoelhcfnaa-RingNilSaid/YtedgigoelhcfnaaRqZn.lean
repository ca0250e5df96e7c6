/- RingNil: whatever the input, the law returns true (where there is no ring each call says so), and the input reads as it did. No condition. -/
import Derived.Test.YtedgigoelhcfnaaRnN
import Derived.Test.YtedgigoelhcfnaaRqF
set_option linter.unusedVariables false
namespace Go.Proofs.Ytedgigoelhcfnaa
open Go Go.RowKit

theorem ringNil.proved : Rows.RingNilSaid := ringNil.proved_of ring_ok
end Go.Proofs.Ytedgigoelhcfnaa
