/-
  No cell of these rows narrows 'for every input' (looked for: loops, veiled, ifaces, maps, wideKeys, modest, calm, conditions, laid).
  DERIVED. THE GIVEN ROWS OF THIS SEAT. 8 by the template 'for every input the law returns true; each argument reads behind the call as it read before'; 0 by the template 'total and deterministic' (their statements: YtjkdccokiaejhaaTotals.lean).
  GIVEN WITH THE SEED: the statements are not yours to turn. If you find one false, say at which input.
  Laid BY PROGRAM, IN A SANDBOX (cutbox-rows.mjs): the forced cells as the released guide's own fill.sh prints them over the translation f581ef303751d325… (all of the seat's roots in one cut). By AI agents, Wed Nov 11 2026. No macro, syntax, notation, axiom, sorry.
-/
import Derived.Test.YtjkdccokiaejhaaChecked
import GoSem.Claim
import GoSem.ClaimJoined
import GoSem.ClaimMapViews
import Derived.JoinedTies
import Derived.KernelRfl
namespace Go.Proofs.Ytjkdccokiaejhaa
/- THE CELL 'sum', in the pinned program and in every row, IS THE sha256 OF THE DUMP (.gsa) THAT YtjkdccokiaejhaaProg.lean LOADS. Nothing in Lean hashes anything: it is a label: what it is worth is what the hold of that sum in a sandbox is worth. -/
noncomputable def Try.pinned : Pinned := { name := "ytjkdccokiaejhaa", sum := "f581ef303751d325980499393f3dadfa240a22b8fb7526793454ada050b93f85", checked := Try.checked }
namespace Rows
def none {H : Type} : Left H := { results := [], args := [] }

/-- 'concordlaw17.QuorumRuns': WHATEVER THE INPUT: true; the input reads as it did. -/
def quorumRunsSpec : ChangeSpec := { name := "quorumRuns", fn := fun _ => fun
  | [] => { results := [.lit (.bool true)], args := [] }
  | _ => none }
def quorumRunsRow : OpenClaim := { program := "ytjkdccokiaejhaa", sum := "f581ef303751d325980499393f3dadfa240a22b8fb7526793454ada050b93f85", func := "concord/concordlaw17.QuorumRuns", spec := "quorumRuns", apart := false }
def QuorumRunsSaid : Prop := quorumRunsRow.holds Try.pinned (OpenSpec.ofChange quorumRunsSpec)

/-- ITS FALSE NEIGHBOUR: 'it returns false'. Refute it at one input. -/
def quorumRunsWrong : ChangeSpec := { name := "quorumRuns", fn := fun _ => fun
  | [] => { results := [.lit (.bool false)], args := [] }
  | _ => none }
def QuorumRunsWrongFalsely : Prop := quorumRunsRow.holds Try.pinned (OpenSpec.ofChange quorumRunsWrong)

/-- 'concordlaw17.QuorumSizes': WHATEVER THE INPUT: true; the input reads as it did. -/
def quorumSizesSpec : ChangeSpec := { name := "quorumSizes", fn := fun _ => fun
  | [d1, d2] => { results := [.lit (.bool true)], args := [d1, d2] }
  | _ => none }
def quorumSizesRow : OpenClaim := { program := "ytjkdccokiaejhaa", sum := "f581ef303751d325980499393f3dadfa240a22b8fb7526793454ada050b93f85", func := "concord/concordlaw17.QuorumSizes", spec := "quorumSizes", apart := false }
def QuorumSizesSaid : Prop := quorumSizesRow.holds Try.pinned (OpenSpec.ofChange quorumSizesSpec)

/-- ITS FALSE NEIGHBOUR: 'it returns false'. Refute it at one input. -/
def quorumSizesWrong : ChangeSpec := { name := "quorumSizes", fn := fun _ => fun
  | [d1, d2] => { results := [.lit (.bool false)], args := [d1, d2] }
  | _ => none }
def QuorumSizesWrongFalsely : Prop := quorumSizesRow.holds Try.pinned (OpenSpec.ofChange quorumSizesWrong)

/-- 'concordlaw17.QuorumPre': WHATEVER THE INPUT: true; the input reads as it did. -/
def quorumPreSpec : ChangeSpec := { name := "quorumPre", fn := fun _ => fun
  | [d1, d2, d3, d4, d5] => { results := [.lit (.bool true)], args := [d1, d2, d3, d4, d5] }
  | _ => none }
def quorumPreRow : OpenClaim := { program := "ytjkdccokiaejhaa", sum := "f581ef303751d325980499393f3dadfa240a22b8fb7526793454ada050b93f85", func := "concord/concordlaw17.QuorumPre", spec := "quorumPre", apart := false }
def QuorumPreSaid : Prop := quorumPreRow.holds Try.pinned (OpenSpec.ofChange quorumPreSpec)

/-- ITS FALSE NEIGHBOUR: 'it returns false'. Refute it at one input. -/
def quorumPreWrong : ChangeSpec := { name := "quorumPre", fn := fun _ => fun
  | [d1, d2, d3, d4, d5] => { results := [.lit (.bool false)], args := [d1, d2, d3, d4, d5] }
  | _ => none }
def QuorumPreWrongFalsely : Prop := quorumPreRow.holds Try.pinned (OpenSpec.ofChange quorumPreWrong)

/-- 'concordlaw17.QuorumPrepared': WHATEVER THE INPUT: true; the input reads as it did. -/
def quorumPreparedSpec : ChangeSpec := { name := "quorumPrepared", fn := fun _ => fun
  | [d1, d2, d3] => { results := [.lit (.bool true)], args := [d1, d2, d3] }
  | _ => none }
def quorumPreparedRow : OpenClaim := { program := "ytjkdccokiaejhaa", sum := "f581ef303751d325980499393f3dadfa240a22b8fb7526793454ada050b93f85", func := "concord/concordlaw17.QuorumPrepared", spec := "quorumPrepared", apart := false }
def QuorumPreparedSaid : Prop := quorumPreparedRow.holds Try.pinned (OpenSpec.ofChange quorumPreparedSpec)

/-- ITS FALSE NEIGHBOUR: 'it returns false'. Refute it at one input. -/
def quorumPreparedWrong : ChangeSpec := { name := "quorumPrepared", fn := fun _ => fun
  | [d1, d2, d3] => { results := [.lit (.bool false)], args := [d1, d2, d3] }
  | _ => none }
def QuorumPreparedWrongFalsely : Prop := quorumPreparedRow.holds Try.pinned (OpenSpec.ofChange quorumPreparedWrong)

/-- 'concordlaw17.QuorumFast': WHATEVER THE INPUT: true; the input reads as it did. -/
def quorumFastSpec : ChangeSpec := { name := "quorumFast", fn := fun _ => fun
  | [d1, d2, d3, d4, d5, d6, d7, d8] => { results := [.lit (.bool true)], args := [d1, d2, d3, d4, d5, d6, d7, d8] }
  | _ => none }
def quorumFastRow : OpenClaim := { program := "ytjkdccokiaejhaa", sum := "f581ef303751d325980499393f3dadfa240a22b8fb7526793454ada050b93f85", func := "concord/concordlaw17.QuorumFast", spec := "quorumFast", apart := false }
def QuorumFastSaid : Prop := quorumFastRow.holds Try.pinned (OpenSpec.ofChange quorumFastSpec)

/-- ITS FALSE NEIGHBOUR: 'it returns false'. Refute it at one input. -/
def quorumFastWrong : ChangeSpec := { name := "quorumFast", fn := fun _ => fun
  | [d1, d2, d3, d4, d5, d6, d7, d8] => { results := [.lit (.bool false)], args := [d1, d2, d3, d4, d5, d6, d7, d8] }
  | _ => none }
def QuorumFastWrongFalsely : Prop := quorumFastRow.holds Try.pinned (OpenSpec.ofChange quorumFastWrong)

/-- 'concordlaw17.QuorumSlow': WHATEVER THE INPUT: true; the input reads as it did. -/
def quorumSlowSpec : ChangeSpec := { name := "quorumSlow", fn := fun _ => fun
  | [d1, d2, d3, d4, d5, d6, d7] => { results := [.lit (.bool true)], args := [d1, d2, d3, d4, d5, d6, d7] }
  | _ => none }
def quorumSlowRow : OpenClaim := { program := "ytjkdccokiaejhaa", sum := "f581ef303751d325980499393f3dadfa240a22b8fb7526793454ada050b93f85", func := "concord/concordlaw17.QuorumSlow", spec := "quorumSlow", apart := false }
def QuorumSlowSaid : Prop := quorumSlowRow.holds Try.pinned (OpenSpec.ofChange quorumSlowSpec)

/-- ITS FALSE NEIGHBOUR: 'it returns false'. Refute it at one input. -/
def quorumSlowWrong : ChangeSpec := { name := "quorumSlow", fn := fun _ => fun
  | [d1, d2, d3, d4, d5, d6, d7] => { results := [.lit (.bool false)], args := [d1, d2, d3, d4, d5, d6, d7] }
  | _ => none }
def QuorumSlowWrongFalsely : Prop := quorumSlowRow.holds Try.pinned (OpenSpec.ofChange quorumSlowWrong)

/-- 'concordlaw17.QuorumOwner': WHATEVER THE INPUT: true; the input reads as it did. -/
def quorumOwnerSpec : ChangeSpec := { name := "quorumOwner", fn := fun _ => fun
  | [d1, d2, d3, d4, d5, d6] => { results := [.lit (.bool true)], args := [d1, d2, d3, d4, d5, d6] }
  | _ => none }
def quorumOwnerRow : OpenClaim := { program := "ytjkdccokiaejhaa", sum := "f581ef303751d325980499393f3dadfa240a22b8fb7526793454ada050b93f85", func := "concord/concordlaw17.QuorumOwner", spec := "quorumOwner", apart := false }
def QuorumOwnerSaid : Prop := quorumOwnerRow.holds Try.pinned (OpenSpec.ofChange quorumOwnerSpec)

/-- ITS FALSE NEIGHBOUR: 'it returns false'. Refute it at one input. -/
def quorumOwnerWrong : ChangeSpec := { name := "quorumOwner", fn := fun _ => fun
  | [d1, d2, d3, d4, d5, d6] => { results := [.lit (.bool false)], args := [d1, d2, d3, d4, d5, d6] }
  | _ => none }
def QuorumOwnerWrongFalsely : Prop := quorumOwnerRow.holds Try.pinned (OpenSpec.ofChange quorumOwnerWrong)

/-- 'concordlaw17.QuorumFew': WHATEVER THE INPUT: true; the input reads as it did. -/
def quorumFewSpec : ChangeSpec := { name := "quorumFew", fn := fun _ => fun
  | [d1, d2, d3, d4, d5] => { results := [.lit (.bool true)], args := [d1, d2, d3, d4, d5] }
  | _ => none }
def quorumFewRow : OpenClaim := { program := "ytjkdccokiaejhaa", sum := "f581ef303751d325980499393f3dadfa240a22b8fb7526793454ada050b93f85", func := "concord/concordlaw17.QuorumFew", spec := "quorumFew", apart := false }
def QuorumFewSaid : Prop := quorumFewRow.holds Try.pinned (OpenSpec.ofChange quorumFewSpec)

/-- ITS FALSE NEIGHBOUR: 'it returns false'. Refute it at one input. -/
def quorumFewWrong : ChangeSpec := { name := "quorumFew", fn := fun _ => fun
  | [d1, d2, d3, d4, d5] => { results := [.lit (.bool false)], args := [d1, d2, d3, d4, d5] }
  | _ => none }
def QuorumFewWrongFalsely : Prop := quorumFewRow.holds Try.pinned (OpenSpec.ofChange quorumFewWrong)

/- THE SECOND FORM. 'bulk': how many values and letters a reading holds, each counted each time it is reached (what is shared counts as often as it is met; a slice's spare places count too). A statement '..UptoSaid' is the law's where the arguments, and the package variables that the reading takes, are together of bulk at most 1048576: NARROWER than '..Said'. Prove '..Said' where nothing that the law and all that it calls make is longer than what came in: it says more and counts as full. Else prove '..UptoSaid'. A law counts once. -/
mutual
def uptoBulk {H : Type} : DataW H → Nat
  | .lit (.string bytes) => bytes.length + 1
  | .lit _ => 1
  | .nil => 1
  | .ptr d => uptoBulk d + 1
  | .slice elems spare => uptoBulkAll elems + uptoBulkAll spare + 1
  | .agg parts => uptoBulkAll parts + 1
  | .iface _ d => uptoBulk d + 1
  | .map entries => uptoBulkEntries entries + 1
  | .held _ => 1
def uptoBulkAll {H : Type} : List (DataW H) → Nat
  | [] => 0
  | d :: r => uptoBulk d + uptoBulkAll r
def uptoBulkEntries {H : Type} : List (Lit × DataW H) → Nat
  | [] => 0
  | x :: r => uptoBulkEntry x + uptoBulkEntries r
def uptoBulkEntry {H : Type} : Lit × DataW H → Nat
  | (.string bytes, d) => bytes.length + uptoBulk d + 1
  | (_, d) => uptoBulk d + 1
 end
def uptoSmall : (H : Type) → List (DataW H) → Bool := fun _ ds => decide (uptoBulkAll ds ≤ 1048576)
def OpenSpec.upto (s : _root_.Go.ChangeSpec) : _root_.Go.OpenSpec := { _root_.Go.OpenSpec.ofChange s with cond := some uptoSmall }

/-- 'concordlaw17.QuorumRuns', WHERE WHAT IT READS IS OF BULK AT MOST 1048576: true; the input reads as it did. -/
def quorumRunsUptoRow : OpenClaim := { program := "ytjkdccokiaejhaa", sum := "f581ef303751d325980499393f3dadfa240a22b8fb7526793454ada050b93f85", func := "concord/concordlaw17.QuorumRuns", spec := "quorumRuns", apart := false, narrowed := true }
def QuorumRunsUptoSaid : Prop := quorumRunsUptoRow.holds Try.pinned (OpenSpec.upto quorumRunsSpec)

/-- 'concordlaw17.QuorumSizes', WHERE WHAT IT READS IS OF BULK AT MOST 1048576: true; the input reads as it did. -/
def quorumSizesUptoRow : OpenClaim := { program := "ytjkdccokiaejhaa", sum := "f581ef303751d325980499393f3dadfa240a22b8fb7526793454ada050b93f85", func := "concord/concordlaw17.QuorumSizes", spec := "quorumSizes", apart := false, narrowed := true }
def QuorumSizesUptoSaid : Prop := quorumSizesUptoRow.holds Try.pinned (OpenSpec.upto quorumSizesSpec)

/-- 'concordlaw17.QuorumPre', WHERE WHAT IT READS IS OF BULK AT MOST 1048576: true; the input reads as it did. -/
def quorumPreUptoRow : OpenClaim := { program := "ytjkdccokiaejhaa", sum := "f581ef303751d325980499393f3dadfa240a22b8fb7526793454ada050b93f85", func := "concord/concordlaw17.QuorumPre", spec := "quorumPre", apart := false, narrowed := true }
def QuorumPreUptoSaid : Prop := quorumPreUptoRow.holds Try.pinned (OpenSpec.upto quorumPreSpec)

/-- 'concordlaw17.QuorumPrepared', WHERE WHAT IT READS IS OF BULK AT MOST 1048576: true; the input reads as it did. -/
def quorumPreparedUptoRow : OpenClaim := { program := "ytjkdccokiaejhaa", sum := "f581ef303751d325980499393f3dadfa240a22b8fb7526793454ada050b93f85", func := "concord/concordlaw17.QuorumPrepared", spec := "quorumPrepared", apart := false, narrowed := true }
def QuorumPreparedUptoSaid : Prop := quorumPreparedUptoRow.holds Try.pinned (OpenSpec.upto quorumPreparedSpec)

/-- 'concordlaw17.QuorumFast', WHERE WHAT IT READS IS OF BULK AT MOST 1048576: true; the input reads as it did. -/
def quorumFastUptoRow : OpenClaim := { program := "ytjkdccokiaejhaa", sum := "f581ef303751d325980499393f3dadfa240a22b8fb7526793454ada050b93f85", func := "concord/concordlaw17.QuorumFast", spec := "quorumFast", apart := false, narrowed := true }
def QuorumFastUptoSaid : Prop := quorumFastUptoRow.holds Try.pinned (OpenSpec.upto quorumFastSpec)

/-- 'concordlaw17.QuorumSlow', WHERE WHAT IT READS IS OF BULK AT MOST 1048576: true; the input reads as it did. -/
def quorumSlowUptoRow : OpenClaim := { program := "ytjkdccokiaejhaa", sum := "f581ef303751d325980499393f3dadfa240a22b8fb7526793454ada050b93f85", func := "concord/concordlaw17.QuorumSlow", spec := "quorumSlow", apart := false, narrowed := true }
def QuorumSlowUptoSaid : Prop := quorumSlowUptoRow.holds Try.pinned (OpenSpec.upto quorumSlowSpec)

/-- 'concordlaw17.QuorumOwner', WHERE WHAT IT READS IS OF BULK AT MOST 1048576: true; the input reads as it did. -/
def quorumOwnerUptoRow : OpenClaim := { program := "ytjkdccokiaejhaa", sum := "f581ef303751d325980499393f3dadfa240a22b8fb7526793454ada050b93f85", func := "concord/concordlaw17.QuorumOwner", spec := "quorumOwner", apart := false, narrowed := true }
def QuorumOwnerUptoSaid : Prop := quorumOwnerUptoRow.holds Try.pinned (OpenSpec.upto quorumOwnerSpec)

/-- 'concordlaw17.QuorumFew', WHERE WHAT IT READS IS OF BULK AT MOST 1048576: true; the input reads as it did. -/
def quorumFewUptoRow : OpenClaim := { program := "ytjkdccokiaejhaa", sum := "f581ef303751d325980499393f3dadfa240a22b8fb7526793454ada050b93f85", func := "concord/concordlaw17.QuorumFew", spec := "quorumFew", apart := false, narrowed := true }
def QuorumFewUptoSaid : Prop := quorumFewUptoRow.holds Try.pinned (OpenSpec.upto quorumFewSpec)

end Rows
end Go.Proofs.Ytjkdccokiaejhaa
