/- RingOnce: whatever the input, the law returns true (who has a key keeps it until it is dropped), and the input reads as it did. No condition. -/
import Derived.Test.YtedgigoelhcfnaaRnO
import Derived.Test.YtedgigoelhcfnaaRqF
set_option linter.unusedVariables false
namespace Go.Proofs.Ytedgigoelhcfnaa
open Go Go.RowKit

theorem ringOnce.proved : Rows.RingOnceSaid := ringOnce.proved_of ring_ok
end Go.Proofs.Ytedgigoelhcfnaa
