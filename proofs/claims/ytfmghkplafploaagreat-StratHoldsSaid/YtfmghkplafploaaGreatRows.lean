/-
  No cell of these rows narrows 'for every input' (looked for: loops, veiled, ifaces, maps, wideKeys, modest, calm, conditions, laid).
  DERIVED. THE GIVEN ROWS OF THIS SEAT. 3 by the template 'for every input the law returns true; each argument reads behind the call as it read before'; 0 by the template 'total and deterministic' (their statements: YtfmghkplafploaaGreatTotals.lean).
  GIVEN WITH THE SEED: the statements are not yours to turn. If you find one false, say at which input.
  Laid BY PROGRAM, IN A SANDBOX (cutbox-rows.mjs): the forced cells as the released guide's own fill.sh prints them over the translation c6a210a8fd159db1… (all of the seat's roots in one cut). By AI agents, Wed Nov 11 2026. No macro, syntax, notation, axiom, sorry.
-/
import Derived.Test.YtfmghkplafploaaGreatChecked
import GoSem.Claim
import GoSem.ClaimJoined
import GoSem.ClaimMapViews
import Derived.JoinedTies
import Derived.KernelRfl
namespace Go.Proofs.YtfmghkplafploaaGreat
/- THE CELL 'sum', in the pinned program and in every row, IS THE sha256 OF THE DUMP (.gsa) THAT YtfmghkplafploaaGreatProg.lean LOADS. Nothing in Lean hashes anything: it is a label: what it is worth is what the hold of that sum in a sandbox is worth. -/
noncomputable def Tryz.pinned : Pinned := { name := "ytfmghkplafploaagreat", sum := "c6a210a8fd159db12d12bd006c98055980a422dd38fb1330fb5e83e8587af00a", checked := Tryz.checked }
namespace Rows
def none {H : Type} : Left H := { results := [], args := [] }

/-- 'baileylaw12.StratPlays': WHATEVER THE INPUT: true; the input reads as it did. -/
def stratPlaysSpec : ChangeSpec := { name := "stratPlays", fn := fun _ => fun
  | [d] => { results := [.lit (.bool true)], args := [d] }
  | _ => none }
def stratPlaysRow : OpenClaim := { program := "ytfmghkplafploaagreat", sum := "c6a210a8fd159db12d12bd006c98055980a422dd38fb1330fb5e83e8587af00a", func := "bailey/baileylaw12.StratPlays", spec := "stratPlays", inPlace := ["slices.overlaps[int]"], unfollowed := true, recurses := true, apart := false }
def StratPlaysSaid : Prop := stratPlaysRow.holds Tryz.pinned (OpenSpec.ofChange stratPlaysSpec)

/-- ITS FALSE NEIGHBOUR: 'it returns false'. Refute it at one input. -/
def stratPlaysWrong : ChangeSpec := { name := "stratPlays", fn := fun _ => fun
  | [d] => { results := [.lit (.bool false)], args := [d] }
  | _ => none }
def StratPlaysWrongFalsely : Prop := stratPlaysRow.holds Tryz.pinned (OpenSpec.ofChange stratPlaysWrong)

/-- 'baileylaw12.StratLeast': WHATEVER THE INPUT: true; the input reads as it did. -/
def stratLeastSpec : ChangeSpec := { name := "stratLeast", fn := fun _ => fun
  | [d] => { results := [.lit (.bool true)], args := [d] }
  | _ => none }
def stratLeastRow : OpenClaim := { program := "ytfmghkplafploaagreat", sum := "c6a210a8fd159db12d12bd006c98055980a422dd38fb1330fb5e83e8587af00a", func := "bailey/baileylaw12.StratLeast", spec := "stratLeast", inPlace := ["slices.overlaps[int]"], unfollowed := true, recurses := true, apart := false }
def StratLeastSaid : Prop := stratLeastRow.holds Tryz.pinned (OpenSpec.ofChange stratLeastSpec)

/-- ITS FALSE NEIGHBOUR: 'it returns false'. Refute it at one input. -/
def stratLeastWrong : ChangeSpec := { name := "stratLeast", fn := fun _ => fun
  | [d] => { results := [.lit (.bool false)], args := [d] }
  | _ => none }
def StratLeastWrongFalsely : Prop := stratLeastRow.holds Tryz.pinned (OpenSpec.ofChange stratLeastWrong)

/-- 'baileylaw12.StratHolds': WHATEVER THE INPUT: true; the input reads as it did. -/
def stratHoldsSpec : ChangeSpec := { name := "stratHolds", fn := fun _ => fun
  | [d1, d2] => { results := [.lit (.bool true)], args := [d1, d2] }
  | _ => none }
def stratHoldsRow : OpenClaim := { program := "ytfmghkplafploaagreat", sum := "c6a210a8fd159db12d12bd006c98055980a422dd38fb1330fb5e83e8587af00a", func := "bailey/baileylaw12.StratHolds", spec := "stratHolds", inPlace := ["slices.overlaps[int]"], unfollowed := true, recurses := true, apart := false }
def StratHoldsSaid : Prop := stratHoldsRow.holds Tryz.pinned (OpenSpec.ofChange stratHoldsSpec)

/-- ITS FALSE NEIGHBOUR: 'it returns false'. Refute it at one input. -/
def stratHoldsWrong : ChangeSpec := { name := "stratHolds", fn := fun _ => fun
  | [d1, d2] => { results := [.lit (.bool false)], args := [d1, d2] }
  | _ => none }
def StratHoldsWrongFalsely : Prop := stratHoldsRow.holds Tryz.pinned (OpenSpec.ofChange stratHoldsWrong)

/- THE SECOND FORM. 'bulk': how many values and letters a reading holds, each counted each time it is reached (what is shared counts as often as it is met; a slice's spare places count too). A statement '..UptoSaid' is the law's where the arguments, and the package variables that the reading takes, are together of bulk at most 1048576: NARROWER than '..Said'. Prove '..Said' where nothing that the law and all that it calls make is longer than what came in: it says more and counts as full. Else prove '..UptoSaid'. A law counts once. -/
mutual
def uptoBulk {H : Type} : DataW H → Nat
  | .lit (.string bytes) => bytes.length + 1
  | .lit _ => 1
  | .nil => 1
  | .ptr d => uptoBulk d + 1
  | .slice elems spare => uptoBulkAll elems + uptoBulkAll spare + 1
  | .agg parts => uptoBulkAll parts + 1
  | .iface _ d => uptoBulk d + 1
  | .map entries => uptoBulkEntries entries + 1
  | .held _ => 1
def uptoBulkAll {H : Type} : List (DataW H) → Nat
  | [] => 0
  | d :: r => uptoBulk d + uptoBulkAll r
def uptoBulkEntries {H : Type} : List (Lit × DataW H) → Nat
  | [] => 0
  | x :: r => uptoBulkEntry x + uptoBulkEntries r
def uptoBulkEntry {H : Type} : Lit × DataW H → Nat
  | (.string bytes, d) => bytes.length + uptoBulk d + 1
  | (_, d) => uptoBulk d + 1
 end
def uptoSmall : (H : Type) → List (DataW H) → Bool := fun _ ds => decide (uptoBulkAll ds ≤ 1048576)
def OpenSpec.upto (s : _root_.Go.ChangeSpec) : _root_.Go.OpenSpec := { _root_.Go.OpenSpec.ofChange s with cond := some uptoSmall }

/-- 'baileylaw12.StratPlays', WHERE WHAT IT READS IS OF BULK AT MOST 1048576: true; the input reads as it did. -/
def stratPlaysUptoRow : OpenClaim := { program := "ytfmghkplafploaagreat", sum := "c6a210a8fd159db12d12bd006c98055980a422dd38fb1330fb5e83e8587af00a", func := "bailey/baileylaw12.StratPlays", spec := "stratPlays", inPlace := ["slices.overlaps[int]"], unfollowed := true, recurses := true, apart := false, narrowed := true }
def StratPlaysUptoSaid : Prop := stratPlaysUptoRow.holds Tryz.pinned (OpenSpec.upto stratPlaysSpec)

/-- 'baileylaw12.StratLeast', WHERE WHAT IT READS IS OF BULK AT MOST 1048576: true; the input reads as it did. -/
def stratLeastUptoRow : OpenClaim := { program := "ytfmghkplafploaagreat", sum := "c6a210a8fd159db12d12bd006c98055980a422dd38fb1330fb5e83e8587af00a", func := "bailey/baileylaw12.StratLeast", spec := "stratLeast", inPlace := ["slices.overlaps[int]"], unfollowed := true, recurses := true, apart := false, narrowed := true }
def StratLeastUptoSaid : Prop := stratLeastUptoRow.holds Tryz.pinned (OpenSpec.upto stratLeastSpec)

/-- 'baileylaw12.StratHolds', WHERE WHAT IT READS IS OF BULK AT MOST 1048576: true; the input reads as it did. -/
def stratHoldsUptoRow : OpenClaim := { program := "ytfmghkplafploaagreat", sum := "c6a210a8fd159db12d12bd006c98055980a422dd38fb1330fb5e83e8587af00a", func := "bailey/baileylaw12.StratHolds", spec := "stratHolds", inPlace := ["slices.overlaps[int]"], unfollowed := true, recurses := true, apart := false, narrowed := true }
def StratHoldsUptoSaid : Prop := stratHoldsUptoRow.holds Tryz.pinned (OpenSpec.upto stratHoldsSpec)

end Rows
end Go.Proofs.YtfmghkplafploaaGreat
