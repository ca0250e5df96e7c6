/- Texts, packed: SrO -/
import Derived.Test.YtfmghkplafploaaGreatPzZL
import Derived.Test.YtfmghkplafploaaGreatPzZM
set_option linter.unusedVariables false
namespace Go.Proofs.YtfmghkplafploaaGreat
open Go Go.RowKit

theorem strat_ok : StratOk where
  levels := fun A n c Q C w h _ hS _ => levels_any A n c Q C w h hS
  strata := fun A n c Q C w h _ hS _ => strata_any A n c Q C w h hS
end Go.Proofs.YtfmghkplafploaaGreat

