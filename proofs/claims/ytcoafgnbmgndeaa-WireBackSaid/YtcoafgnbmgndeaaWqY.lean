/- Layer 6 (wire): the seven contracts of the program hold. -/
import Derived.Test.YtcoafgnbmgndeaaWqX
import Derived.Test.YtcoafgnbmgndeaaWqU
set_option linter.unusedVariables false
namespace Go.Proofs.Ytcoafgnbmgndeaa
open Go Go.RowKit

theorem mayRule_any : MayRuleOk := by
  intro s0 x0 p A1 n1 c1 l A2 n2 c2 R L w hr1 hr2 hc1 hc2 hn1 hn2 hk
  exact rulMay_any s0 x0 p A1 n1 c1 l A2 n2 c2 R L w hr1 hr2 (by omega) (by omega) (fun x hx => Nat.le_trans (hk x hx) (by omega))
theorem wire_ok : WireOk := ⟨putFact_any, putClause_any, putRule_any, takeFact_any, takeClause_any, takeRule_any, mayRule_any⟩
end Go.Proofs.Ytcoafgnbmgndeaa
