/- RingPlays: whatever the input, the law returns true (each answer of the ring, and all keys, are the document's; what is handed in is not kept), and the input reads as it did. No condition. -/
import Derived.Test.YtedgigoelhcfnaaRnP
import Derived.Test.YtedgigoelhcfnaaRqF
set_option linter.unusedVariables false
namespace Go.Proofs.Ytedgigoelhcfnaa
open Go Go.RowKit

theorem ringPlays.proved : Rows.RingPlaysSaid := ringPlays.proved_of ring_ok
end Go.Proofs.Ytedgigoelhcfnaa
