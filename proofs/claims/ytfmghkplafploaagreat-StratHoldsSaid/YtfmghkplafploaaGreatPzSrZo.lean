/- Proved: levels, where there are any, hold for each clause; each clause stands in one stratum; with a clause less no level is greater (P12.1 to P12.3). It says so of the landed commit efa743cf4f5064789155f1f00e4149e09947927a; for every input, with no premise. -/
import Derived.Test.YtfmghkplafploaaGreatPzZN
import Derived.Test.YtfmghkplafploaaGreatPzZQ
namespace Go.Proofs.YtfmghkplafploaaGreat.stratHolds
open Go Go.RowKit
theorem proved : Rows.StratHoldsSaid := proved_of strat_ok (tWorks_of strat_ok)
#print axioms proved
end Go.Proofs.YtfmghkplafploaaGreat.stratHolds
