/- Proved: levels are as each clause wants them, no one of them can be less, and where there are none a way goes round through a Not (P12.1, P12.3). It says so of the landed commit efa743cf4f5064789155f1f00e4149e09947927a; for every input, with no premise. -/
import Derived.Test.YtfmghkplafploaaGreatPzZN
import Derived.Test.YtfmghkplafploaaGreatPzZP
namespace Go.Proofs.YtfmghkplafploaaGreat.stratLeast
open Go Go.RowKit
theorem proved : Rows.StratLeastSaid := proved_of strat_ok (tWorks_of strat_ok)
#print axioms proved
end Go.Proofs.YtfmghkplafploaaGreat.stratLeast
