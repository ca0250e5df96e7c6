/- Proved: levels and strata of any program of up to 60 clauses, or why there are none, are the document's (P12.1, P12.2). It says so of the landed commit efa743cf4f5064789155f1f00e4149e09947927a; for every input, with no premise. -/
import Derived.Test.YtfmghkplafploaaGreatPzZN
import Derived.Test.YtfmghkplafploaaGreatPzZO
namespace Go.Proofs.YtfmghkplafploaaGreat.stratPlays
open Go Go.RowKit
theorem proved : Rows.StratPlaysSaid := proved_of strat_ok (tWorks_of strat_ok)
#print axioms proved
end Go.Proofs.YtfmghkplafploaaGreat.stratPlays
