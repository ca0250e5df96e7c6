/- Proved: where nothing is Not each predicate has the level 0 and all clauses stand in one stratum, in order (P12.1 to P12.3). It says so of the landed commit efa743cf4f5064789155f1f00e4149e09947927a; for every input, with no premise. -/
import Derived.Test.YtfmghkplafploaaPwZL
import Derived.Test.YtfmghkplafploaaPwZM
namespace Go.Proofs.Ytfmghkplafploaa.stratPlain
open Go Go.RowKit
theorem proved : Rows.StratPlainSaid := proved_of strat_ok (tWorks_of strat_ok)
#print axioms proved
end Go.Proofs.Ytfmghkplafploaa.stratPlain
