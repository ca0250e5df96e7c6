/-
  No cell of these rows narrows 'for every input' (looked for: loops, veiled, ifaces, maps, wideKeys, modest, calm, conditions, laid).
  DERIVED. THE GIVEN ROWS OF THIS SEAT. 5 by the template 'for every input the law returns true; each argument reads behind the call as it read before'; 0 by the template 'total and deterministic' (their statements: YtcoafgnbmgndeaaTotals.lean).
  GIVEN WITH THE SEED: the statements are not yours to turn. If you find one false, say at which input.
  Laid BY PROGRAM, IN A SANDBOX (cutbox-rows.mjs): the forced cells as the released guide's own fill.sh prints them over the translation 8a7ad6535bf51aa5… (all of the seat's roots in one cut). By AI agents, Wed Nov 11 2026. No macro, syntax, notation, axiom, sorry.
-/
import Derived.Test.YtcoafgnbmgndeaaChecked
import GoSem.Claim
import GoSem.ClaimJoined
import GoSem.ClaimMapViews
import Derived.JoinedTies
import Derived.KernelRfl
namespace Go.Proofs.Ytcoafgnbmgndeaa
/- THE CELL 'sum', in the pinned program and in every row, IS THE sha256 OF THE DUMP (.gsa) THAT YtcoafgnbmgndeaaProg.lean LOADS. Nothing in Lean hashes anything: it is a label: what it is worth is what the hold of that sum in a sandbox is worth. -/
noncomputable def Try.pinned : Pinned := { name := "ytcoafgnbmgndeaa", sum := "8a7ad6535bf51aa55febbcd78efddfd1169cd35e7e219960199a87a400a8bf02", checked := Try.checked }
namespace Rows
def none {H : Type} : Left H := { results := [], args := [] }

/-- 'baileylaw06.WireFacts': WHATEVER THE INPUT: true; the input reads as it did. -/
def wireFactsSpec : ChangeSpec := { name := "wireFacts", fn := fun _ => fun
  | [d1, d2, d3, d4] => { results := [.lit (.bool true)], args := [d1, d2, d3, d4] }
  | _ => none }
def wireFactsRow : OpenClaim := { program := "ytcoafgnbmgndeaa", sum := "8a7ad6535bf51aa55febbcd78efddfd1169cd35e7e219960199a87a400a8bf02", func := "bailey/baileylaw06.WireFacts", spec := "wireFacts", unfollowed := true, recurses := true, apart := false }
def WireFactsSaid : Prop := wireFactsRow.holds Try.pinned (OpenSpec.ofChange wireFactsSpec)

/-- ITS FALSE NEIGHBOUR: 'it returns false'. Refute it at one input. -/
def wireFactsWrong : ChangeSpec := { name := "wireFacts", fn := fun _ => fun
  | [d1, d2, d3, d4] => { results := [.lit (.bool false)], args := [d1, d2, d3, d4] }
  | _ => none }
def WireFactsWrongFalsely : Prop := wireFactsRow.holds Try.pinned (OpenSpec.ofChange wireFactsWrong)

/-- 'baileylaw06.WireClauses': WHATEVER THE INPUT: true; the input reads as it did. -/
def wireClausesSpec : ChangeSpec := { name := "wireClauses", fn := fun _ => fun
  | [d1, d2, d3, d4] => { results := [.lit (.bool true)], args := [d1, d2, d3, d4] }
  | _ => none }
def wireClausesRow : OpenClaim := { program := "ytcoafgnbmgndeaa", sum := "8a7ad6535bf51aa55febbcd78efddfd1169cd35e7e219960199a87a400a8bf02", func := "bailey/baileylaw06.WireClauses", spec := "wireClauses", unfollowed := true, recurses := true, apart := false }
def WireClausesSaid : Prop := wireClausesRow.holds Try.pinned (OpenSpec.ofChange wireClausesSpec)

/-- ITS FALSE NEIGHBOUR: 'it returns false'. Refute it at one input. -/
def wireClausesWrong : ChangeSpec := { name := "wireClauses", fn := fun _ => fun
  | [d1, d2, d3, d4] => { results := [.lit (.bool false)], args := [d1, d2, d3, d4] }
  | _ => none }
def WireClausesWrongFalsely : Prop := wireClausesRow.holds Try.pinned (OpenSpec.ofChange wireClausesWrong)

/-- 'baileylaw06.WireRules': WHATEVER THE INPUT: true; the input reads as it did. -/
def wireRulesSpec : ChangeSpec := { name := "wireRules", fn := fun _ => fun
  | [d1, d2, d3, d4] => { results := [.lit (.bool true)], args := [d1, d2, d3, d4] }
  | _ => none }
def wireRulesRow : OpenClaim := { program := "ytcoafgnbmgndeaa", sum := "8a7ad6535bf51aa55febbcd78efddfd1169cd35e7e219960199a87a400a8bf02", func := "bailey/baileylaw06.WireRules", spec := "wireRules", unfollowed := true, recurses := true, apart := false }
def WireRulesSaid : Prop := wireRulesRow.holds Try.pinned (OpenSpec.ofChange wireRulesSpec)

/-- ITS FALSE NEIGHBOUR: 'it returns false'. Refute it at one input. -/
def wireRulesWrong : ChangeSpec := { name := "wireRules", fn := fun _ => fun
  | [d1, d2, d3, d4] => { results := [.lit (.bool false)], args := [d1, d2, d3, d4] }
  | _ => none }
def WireRulesWrongFalsely : Prop := wireRulesRow.holds Try.pinned (OpenSpec.ofChange wireRulesWrong)

/-- 'baileylaw06.WireBack': WHATEVER THE INPUT: true; the input reads as it did. -/
def wireBackSpec : ChangeSpec := { name := "wireBack", fn := fun _ => fun
  | [d1, d2, d3, d4, d5] => { results := [.lit (.bool true)], args := [d1, d2, d3, d4, d5] }
  | _ => none }
def wireBackRow : OpenClaim := { program := "ytcoafgnbmgndeaa", sum := "8a7ad6535bf51aa55febbcd78efddfd1169cd35e7e219960199a87a400a8bf02", func := "bailey/baileylaw06.WireBack", spec := "wireBack", unfollowed := true, recurses := true, apart := false }
def WireBackSaid : Prop := wireBackRow.holds Try.pinned (OpenSpec.ofChange wireBackSpec)

/-- ITS FALSE NEIGHBOUR: 'it returns false'. Refute it at one input. -/
def wireBackWrong : ChangeSpec := { name := "wireBack", fn := fun _ => fun
  | [d1, d2, d3, d4, d5] => { results := [.lit (.bool false)], args := [d1, d2, d3, d4, d5] }
  | _ => none }
def WireBackWrongFalsely : Prop := wireBackRow.holds Try.pinned (OpenSpec.ofChange wireBackWrong)

/-- 'baileylaw06.WireTurned': WHATEVER THE INPUT: true; the input reads as it did. -/
def wireTurnedSpec : ChangeSpec := { name := "wireTurned", fn := fun _ => fun
  | [d1, d2, d3] => { results := [.lit (.bool true)], args := [d1, d2, d3] }
  | _ => none }
def wireTurnedRow : OpenClaim := { program := "ytcoafgnbmgndeaa", sum := "8a7ad6535bf51aa55febbcd78efddfd1169cd35e7e219960199a87a400a8bf02", func := "bailey/baileylaw06.WireTurned", spec := "wireTurned", unfollowed := true, recurses := true, apart := false }
def WireTurnedSaid : Prop := wireTurnedRow.holds Try.pinned (OpenSpec.ofChange wireTurnedSpec)

/-- ITS FALSE NEIGHBOUR: 'it returns false'. Refute it at one input. -/
def wireTurnedWrong : ChangeSpec := { name := "wireTurned", fn := fun _ => fun
  | [d1, d2, d3] => { results := [.lit (.bool false)], args := [d1, d2, d3] }
  | _ => none }
def WireTurnedWrongFalsely : Prop := wireTurnedRow.holds Try.pinned (OpenSpec.ofChange wireTurnedWrong)

/- THE SECOND FORM. 'bulk': how many values and letters a reading holds, each counted each time it is reached (what is shared counts as often as it is met; a slice's spare places count too). A statement '..UptoSaid' is the law's where the arguments, and the package variables that the reading takes, are together of bulk at most 1048576: NARROWER than '..Said'. Prove '..Said' where nothing that the law and all that it calls make is longer than what came in: it says more and counts as full. Else prove '..UptoSaid'. A law counts once. -/
mutual
def uptoBulk {H : Type} : DataW H → Nat
  | .lit (.string bytes) => bytes.length + 1
  | .lit _ => 1
  | .nil => 1
  | .ptr d => uptoBulk d + 1
  | .slice elems spare => uptoBulkAll elems + uptoBulkAll spare + 1
  | .agg parts => uptoBulkAll parts + 1
  | .iface _ d => uptoBulk d + 1
  | .map entries => uptoBulkEntries entries + 1
  | .held _ => 1
def uptoBulkAll {H : Type} : List (DataW H) → Nat
  | [] => 0
  | d :: r => uptoBulk d + uptoBulkAll r
def uptoBulkEntries {H : Type} : List (Lit × DataW H) → Nat
  | [] => 0
  | x :: r => uptoBulkEntry x + uptoBulkEntries r
def uptoBulkEntry {H : Type} : Lit × DataW H → Nat
  | (.string bytes, d) => bytes.length + uptoBulk d + 1
  | (_, d) => uptoBulk d + 1
 end
def uptoSmall : (H : Type) → List (DataW H) → Bool := fun _ ds => decide (uptoBulkAll ds ≤ 1048576)
def OpenSpec.upto (s : _root_.Go.ChangeSpec) : _root_.Go.OpenSpec := { _root_.Go.OpenSpec.ofChange s with cond := some uptoSmall }

/-- 'baileylaw06.WireFacts', WHERE WHAT IT READS IS OF BULK AT MOST 1048576: true; the input reads as it did. -/
def wireFactsUptoRow : OpenClaim := { program := "ytcoafgnbmgndeaa", sum := "8a7ad6535bf51aa55febbcd78efddfd1169cd35e7e219960199a87a400a8bf02", func := "bailey/baileylaw06.WireFacts", spec := "wireFacts", unfollowed := true, recurses := true, apart := false, narrowed := true }
def WireFactsUptoSaid : Prop := wireFactsUptoRow.holds Try.pinned (OpenSpec.upto wireFactsSpec)

/-- 'baileylaw06.WireClauses', WHERE WHAT IT READS IS OF BULK AT MOST 1048576: true; the input reads as it did. -/
def wireClausesUptoRow : OpenClaim := { program := "ytcoafgnbmgndeaa", sum := "8a7ad6535bf51aa55febbcd78efddfd1169cd35e7e219960199a87a400a8bf02", func := "bailey/baileylaw06.WireClauses", spec := "wireClauses", unfollowed := true, recurses := true, apart := false, narrowed := true }
def WireClausesUptoSaid : Prop := wireClausesUptoRow.holds Try.pinned (OpenSpec.upto wireClausesSpec)

/-- 'baileylaw06.WireRules', WHERE WHAT IT READS IS OF BULK AT MOST 1048576: true; the input reads as it did. -/
def wireRulesUptoRow : OpenClaim := { program := "ytcoafgnbmgndeaa", sum := "8a7ad6535bf51aa55febbcd78efddfd1169cd35e7e219960199a87a400a8bf02", func := "bailey/baileylaw06.WireRules", spec := "wireRules", unfollowed := true, recurses := true, apart := false, narrowed := true }
def WireRulesUptoSaid : Prop := wireRulesUptoRow.holds Try.pinned (OpenSpec.upto wireRulesSpec)

/-- 'baileylaw06.WireBack', WHERE WHAT IT READS IS OF BULK AT MOST 1048576: true; the input reads as it did. -/
def wireBackUptoRow : OpenClaim := { program := "ytcoafgnbmgndeaa", sum := "8a7ad6535bf51aa55febbcd78efddfd1169cd35e7e219960199a87a400a8bf02", func := "bailey/baileylaw06.WireBack", spec := "wireBack", unfollowed := true, recurses := true, apart := false, narrowed := true }
def WireBackUptoSaid : Prop := wireBackUptoRow.holds Try.pinned (OpenSpec.upto wireBackSpec)

/-- 'baileylaw06.WireTurned', WHERE WHAT IT READS IS OF BULK AT MOST 1048576: true; the input reads as it did. -/
def wireTurnedUptoRow : OpenClaim := { program := "ytcoafgnbmgndeaa", sum := "8a7ad6535bf51aa55febbcd78efddfd1169cd35e7e219960199a87a400a8bf02", func := "bailey/baileylaw06.WireTurned", spec := "wireTurned", unfollowed := true, recurses := true, apart := false, narrowed := true }
def WireTurnedUptoSaid : Prop := wireTurnedUptoRow.holds Try.pinned (OpenSpec.upto wireTurnedSpec)

end Rows
end Go.Proofs.Ytcoafgnbmgndeaa
