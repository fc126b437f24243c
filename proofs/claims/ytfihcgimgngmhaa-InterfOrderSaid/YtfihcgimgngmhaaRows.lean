/-
  No cell of these rows narrows 'for every input' (looked for: loops, veiled, ifaces, maps, wideKeys, modest, calm, conditions, laid).
  DERIVED. THE GIVEN ROWS OF THIS SEAT. 5 by the template 'for every input the law returns true; each argument reads behind the call as it read before'; 0 by the template 'total and deterministic' (their statements: YtfihcgimgngmhaaTotals.lean).
  GIVEN WITH THE SEED: the statements are not yours to turn. If you find one false, say at which input.
  Laid BY PROGRAM, IN A SANDBOX (cutbox-rows.mjs): the forced cells as the released guide's own fill.sh prints them over the translation 609580dc16a50d6e… (all of the seat's roots in one cut). By AI agents, Wed Nov 11 2026. No macro, syntax, notation, axiom, sorry.
-/
import Derived.Test.YtfihcgimgngmhaaChecked
import GoSem.Claim
import GoSem.ClaimJoined
import GoSem.ClaimMapViews
import Derived.JoinedTies
import Derived.KernelRfl
namespace Go.Proofs.Ytfihcgimgngmhaa
/- THE CELL 'sum', in the pinned program and in every row, IS THE sha256 OF THE DUMP (.gsa) THAT YtfihcgimgngmhaaProg.lean LOADS. Nothing in Lean hashes anything: it is a label: what it is worth is what the hold of that sum in a sandbox is worth. -/
noncomputable def Try.pinned : Pinned := { name := "ytfihcgimgngmhaa", sum := "609580dc16a50d6e5aa6de4371f7ff2bc55f3867d528b9cbdcaf03ace1a97562", checked := Try.checked }
namespace Rows
def none {H : Type} : Left H := { results := [], args := [] }

/-- 'concordlaw14.InterfRuns': WHATEVER THE INPUT: true; the input reads as it did. -/
def interfRunsSpec : ChangeSpec := { name := "interfRuns", fn := fun _ => fun
  | [] => { results := [.lit (.bool true)], args := [] }
  | _ => none }
def interfRunsRow : OpenClaim := { program := "ytfihcgimgngmhaa", sum := "609580dc16a50d6e5aa6de4371f7ff2bc55f3867d528b9cbdcaf03ace1a97562", func := "concord/concordlaw14.InterfRuns", spec := "interfRuns", unfollowed := true, recurses := true, plainKeys := false, apart := false }
def InterfRunsSaid : Prop := interfRunsRow.holds Try.pinned (OpenSpec.ofChange interfRunsSpec)

/-- ITS FALSE NEIGHBOUR: 'it returns false'. Refute it at one input. -/
def interfRunsWrong : ChangeSpec := { name := "interfRuns", fn := fun _ => fun
  | [] => { results := [.lit (.bool false)], args := [] }
  | _ => none }
def InterfRunsWrongFalsely : Prop := interfRunsRow.holds Try.pinned (OpenSpec.ofChange interfRunsWrong)

/-- 'concordlaw14.InterfPlays': WHATEVER THE INPUT: true; the input reads as it did. -/
def interfPlaysSpec : ChangeSpec := { name := "interfPlays", fn := fun _ => fun
  | [d] => { results := [.lit (.bool true)], args := [d] }
  | _ => none }
def interfPlaysRow : OpenClaim := { program := "ytfihcgimgngmhaa", sum := "609580dc16a50d6e5aa6de4371f7ff2bc55f3867d528b9cbdcaf03ace1a97562", func := "concord/concordlaw14.InterfPlays", spec := "interfPlays", unfollowed := true, recurses := true, plainKeys := false, apart := false }
def InterfPlaysSaid : Prop := interfPlaysRow.holds Try.pinned (OpenSpec.ofChange interfPlaysSpec)

/-- ITS FALSE NEIGHBOUR: 'it returns false'. Refute it at one input. -/
def interfPlaysWrong : ChangeSpec := { name := "interfPlays", fn := fun _ => fun
  | [d] => { results := [.lit (.bool false)], args := [d] }
  | _ => none }
def InterfPlaysWrongFalsely : Prop := interfPlaysRow.holds Try.pinned (OpenSpec.ofChange interfPlaysWrong)

/-- 'concordlaw14.InterfReach': WHATEVER THE INPUT: true; the input reads as it did. -/
def interfReachSpec : ChangeSpec := { name := "interfReach", fn := fun _ => fun
  | [d1, d2, d3, d4] => { results := [.lit (.bool true)], args := [d1, d2, d3, d4] }
  | _ => none }
def interfReachRow : OpenClaim := { program := "ytfihcgimgngmhaa", sum := "609580dc16a50d6e5aa6de4371f7ff2bc55f3867d528b9cbdcaf03ace1a97562", func := "concord/concordlaw14.InterfReach", spec := "interfReach", unfollowed := true, recurses := true, plainKeys := false, apart := false }
def InterfReachSaid : Prop := interfReachRow.holds Try.pinned (OpenSpec.ofChange interfReachSpec)

/-- ITS FALSE NEIGHBOUR: 'it returns false'. Refute it at one input. -/
def interfReachWrong : ChangeSpec := { name := "interfReach", fn := fun _ => fun
  | [d1, d2, d3, d4] => { results := [.lit (.bool false)], args := [d1, d2, d3, d4] }
  | _ => none }
def InterfReachWrongFalsely : Prop := interfReachRow.holds Try.pinned (OpenSpec.ofChange interfReachWrong)

/-- 'concordlaw14.InterfOrder': WHATEVER THE INPUT: true; the input reads as it did. -/
def interfOrderSpec : ChangeSpec := { name := "interfOrder", fn := fun _ => fun
  | [d1, d2, d3, d4] => { results := [.lit (.bool true)], args := [d1, d2, d3, d4] }
  | _ => none }
def interfOrderRow : OpenClaim := { program := "ytfihcgimgngmhaa", sum := "609580dc16a50d6e5aa6de4371f7ff2bc55f3867d528b9cbdcaf03ace1a97562", func := "concord/concordlaw14.InterfOrder", spec := "interfOrder", unfollowed := true, recurses := true, plainKeys := false, apart := false }
def InterfOrderSaid : Prop := interfOrderRow.holds Try.pinned (OpenSpec.ofChange interfOrderSpec)

/-- ITS FALSE NEIGHBOUR: 'it returns false'. Refute it at one input. -/
def interfOrderWrong : ChangeSpec := { name := "interfOrder", fn := fun _ => fun
  | [d1, d2, d3, d4] => { results := [.lit (.bool false)], args := [d1, d2, d3, d4] }
  | _ => none }
def InterfOrderWrongFalsely : Prop := interfOrderRow.holds Try.pinned (OpenSpec.ofChange interfOrderWrong)

/-- 'concordlaw14.InterfReads': WHATEVER THE INPUT: true; the input reads as it did. -/
def interfReadsSpec : ChangeSpec := { name := "interfReads", fn := fun _ => fun
  | [d1, d2] => { results := [.lit (.bool true)], args := [d1, d2] }
  | _ => none }
def interfReadsRow : OpenClaim := { program := "ytfihcgimgngmhaa", sum := "609580dc16a50d6e5aa6de4371f7ff2bc55f3867d528b9cbdcaf03ace1a97562", func := "concord/concordlaw14.InterfReads", spec := "interfReads", unfollowed := true, recurses := true, plainKeys := false, apart := false }
def InterfReadsSaid : Prop := interfReadsRow.holds Try.pinned (OpenSpec.ofChange interfReadsSpec)

/-- ITS FALSE NEIGHBOUR: 'it returns false'. Refute it at one input. -/
def interfReadsWrong : ChangeSpec := { name := "interfReads", fn := fun _ => fun
  | [d1, d2] => { results := [.lit (.bool false)], args := [d1, d2] }
  | _ => none }
def InterfReadsWrongFalsely : Prop := interfReadsRow.holds Try.pinned (OpenSpec.ofChange interfReadsWrong)

/- THE SECOND FORM. 'bulk': how many values and letters a reading holds, each counted each time it is reached (what is shared counts as often as it is met; a slice's spare places count too). A statement '..UptoSaid' is the law's where the arguments, and the package variables that the reading takes, are together of bulk at most 1048576: NARROWER than '..Said'. Prove '..Said' where nothing that the law and all that it calls make is longer than what came in: it says more and counts as full. Else prove '..UptoSaid'. A law counts once. -/
mutual
def uptoBulk {H : Type} : DataW H → Nat
  | .lit (.string bytes) => bytes.length + 1
  | .lit _ => 1
  | .nil => 1
  | .ptr d => uptoBulk d + 1
  | .slice elems spare => uptoBulkAll elems + uptoBulkAll spare + 1
  | .agg parts => uptoBulkAll parts + 1
  | .iface _ d => uptoBulk d + 1
  | .map entries => uptoBulkEntries entries + 1
  | .held _ => 1
def uptoBulkAll {H : Type} : List (DataW H) → Nat
  | [] => 0
  | d :: r => uptoBulk d + uptoBulkAll r
def uptoBulkEntries {H : Type} : List (Lit × DataW H) → Nat
  | [] => 0
  | x :: r => uptoBulkEntry x + uptoBulkEntries r
def uptoBulkEntry {H : Type} : Lit × DataW H → Nat
  | (.string bytes, d) => bytes.length + uptoBulk d + 1
  | (_, d) => uptoBulk d + 1
 end
def uptoSmall : (H : Type) → List (DataW H) → Bool := fun _ ds => decide (uptoBulkAll ds ≤ 1048576)
def OpenSpec.upto (s : _root_.Go.ChangeSpec) : _root_.Go.OpenSpec := { _root_.Go.OpenSpec.ofChange s with cond := some uptoSmall }

/-- 'concordlaw14.InterfRuns', WHERE WHAT IT READS IS OF BULK AT MOST 1048576: true; the input reads as it did. -/
def interfRunsUptoRow : OpenClaim := { program := "ytfihcgimgngmhaa", sum := "609580dc16a50d6e5aa6de4371f7ff2bc55f3867d528b9cbdcaf03ace1a97562", func := "concord/concordlaw14.InterfRuns", spec := "interfRuns", unfollowed := true, recurses := true, plainKeys := false, apart := false, narrowed := true }
def InterfRunsUptoSaid : Prop := interfRunsUptoRow.holds Try.pinned (OpenSpec.upto interfRunsSpec)

/-- 'concordlaw14.InterfPlays', WHERE WHAT IT READS IS OF BULK AT MOST 1048576: true; the input reads as it did. -/
def interfPlaysUptoRow : OpenClaim := { program := "ytfihcgimgngmhaa", sum := "609580dc16a50d6e5aa6de4371f7ff2bc55f3867d528b9cbdcaf03ace1a97562", func := "concord/concordlaw14.InterfPlays", spec := "interfPlays", unfollowed := true, recurses := true, plainKeys := false, apart := false, narrowed := true }
def InterfPlaysUptoSaid : Prop := interfPlaysUptoRow.holds Try.pinned (OpenSpec.upto interfPlaysSpec)

/-- 'concordlaw14.InterfReach', WHERE WHAT IT READS IS OF BULK AT MOST 1048576: true; the input reads as it did. -/
def interfReachUptoRow : OpenClaim := { program := "ytfihcgimgngmhaa", sum := "609580dc16a50d6e5aa6de4371f7ff2bc55f3867d528b9cbdcaf03ace1a97562", func := "concord/concordlaw14.InterfReach", spec := "interfReach", unfollowed := true, recurses := true, plainKeys := false, apart := false, narrowed := true }
def InterfReachUptoSaid : Prop := interfReachUptoRow.holds Try.pinned (OpenSpec.upto interfReachSpec)

/-- 'concordlaw14.InterfOrder', WHERE WHAT IT READS IS OF BULK AT MOST 1048576: true; the input reads as it did. -/
def interfOrderUptoRow : OpenClaim := { program := "ytfihcgimgngmhaa", sum := "609580dc16a50d6e5aa6de4371f7ff2bc55f3867d528b9cbdcaf03ace1a97562", func := "concord/concordlaw14.InterfOrder", spec := "interfOrder", unfollowed := true, recurses := true, plainKeys := false, apart := false, narrowed := true }
def InterfOrderUptoSaid : Prop := interfOrderUptoRow.holds Try.pinned (OpenSpec.upto interfOrderSpec)

/-- 'concordlaw14.InterfReads', WHERE WHAT IT READS IS OF BULK AT MOST 1048576: true; the input reads as it did. -/
def interfReadsUptoRow : OpenClaim := { program := "ytfihcgimgngmhaa", sum := "609580dc16a50d6e5aa6de4371f7ff2bc55f3867d528b9cbdcaf03ace1a97562", func := "concord/concordlaw14.InterfReads", spec := "interfReads", unfollowed := true, recurses := true, plainKeys := false, apart := false, narrowed := true }
def InterfReadsUptoSaid : Prop := interfReadsUptoRow.holds Try.pinned (OpenSpec.upto interfReadsSpec)

end Rows
end Go.Proofs.Ytfihcgimgngmhaa
