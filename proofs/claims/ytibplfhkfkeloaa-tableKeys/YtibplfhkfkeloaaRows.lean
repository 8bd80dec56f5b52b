/-
  No cell of these rows narrows 'for every input' (looked for: loops, veiled, ifaces, maps, wideKeys, modest, calm, conditions, laid).
  DERIVED. THE GIVEN ROWS OF THIS SEAT. 4 by the template 'for every input the law returns true; each argument reads behind the call as it read before'; 0 by the template 'total and deterministic' (their statements: YtibplfhkfkeloaaTotals.lean).
  GIVEN WITH THE SEED: the statements are not yours to turn. If you find one false, say at which input.
  Laid BY PROGRAM, IN A SANDBOX (cutbox-rows.mjs): the forced cells as the released guide's own fill.sh prints them over the translation 303fb3b3cf00ef8a… (all of the seat's roots in one cut). By AI agents, Wed Nov 11 2026. No macro, syntax, notation, axiom, sorry.
-/
import Derived.Test.YtibplfhkfkeloaaChecked
import GoSem.Claim
import GoSem.ClaimJoined
import GoSem.ClaimMapViews
import Derived.JoinedTies
import Derived.KernelRfl
namespace Go.Proofs.Ytibplfhkfkeloaa
/- THE CELL 'sum', in the pinned program and in every row, IS THE sha256 OF THE DUMP (.gsa) THAT YtibplfhkfkeloaaProg.lean LOADS. Nothing in Lean hashes anything: it is a label: what it is worth is what the hold of that sum in a sandbox is worth. -/
noncomputable def Try.pinned : Pinned := { name := "ytibplfhkfkeloaa", sum := "303fb3b3cf00ef8a7c81eaf6be82562364c4304eb3ea3ba4ce6aa72a672c74b6", checked := Try.checked }
namespace Rows
def none {H : Type} : Left H := { results := [], args := [] }

/-- 'assayerlaw04.TableKeys': WHATEVER THE INPUT: true; the input reads as it did. -/
def tableKeysSpec : ChangeSpec := { name := "tableKeys", fn := fun _ => fun
  | [d1, d2, d3] => { results := [.lit (.bool true)], args := [d1, d2, d3] }
  | _ => none }
def tableKeysRow : OpenClaim := { program := "ytibplfhkfkeloaa", sum := "303fb3b3cf00ef8a7c81eaf6be82562364c4304eb3ea3ba4ce6aa72a672c74b6", func := "assayer/assayerlaw04.TableKeys", spec := "tableKeys", unfollowed := true, recurses := true, plainKeys := false, apart := false }
def TableKeysSaid : Prop := tableKeysRow.holds Try.pinned (OpenSpec.ofChange tableKeysSpec)

/-- ITS FALSE NEIGHBOUR: 'it returns false'. Refute it at one input. -/
def tableKeysWrong : ChangeSpec := { name := "tableKeys", fn := fun _ => fun
  | [d1, d2, d3] => { results := [.lit (.bool false)], args := [d1, d2, d3] }
  | _ => none }
def TableKeysWrongFalsely : Prop := tableKeysRow.holds Try.pinned (OpenSpec.ofChange tableKeysWrong)

/-- 'assayerlaw04.TableWriters': WHATEVER THE INPUT: true; the input reads as it did. -/
def tableWritersSpec : ChangeSpec := { name := "tableWriters", fn := fun _ => fun
  | [d1, d2, d3] => { results := [.lit (.bool true)], args := [d1, d2, d3] }
  | _ => none }
def tableWritersRow : OpenClaim := { program := "ytibplfhkfkeloaa", sum := "303fb3b3cf00ef8a7c81eaf6be82562364c4304eb3ea3ba4ce6aa72a672c74b6", func := "assayer/assayerlaw04.TableWriters", spec := "tableWriters", unfollowed := true, recurses := true, plainKeys := false, apart := false }
def TableWritersSaid : Prop := tableWritersRow.holds Try.pinned (OpenSpec.ofChange tableWritersSpec)

/-- ITS FALSE NEIGHBOUR: 'it returns false'. Refute it at one input. -/
def tableWritersWrong : ChangeSpec := { name := "tableWriters", fn := fun _ => fun
  | [d1, d2, d3] => { results := [.lit (.bool false)], args := [d1, d2, d3] }
  | _ => none }
def TableWritersWrongFalsely : Prop := tableWritersRow.holds Try.pinned (OpenSpec.ofChange tableWritersWrong)

/-- 'assayerlaw04.TableFinals': WHATEVER THE INPUT: true; the input reads as it did. -/
def tableFinalsSpec : ChangeSpec := { name := "tableFinals", fn := fun _ => fun
  | [d1, d2, d3] => { results := [.lit (.bool true)], args := [d1, d2, d3] }
  | _ => none }
def tableFinalsRow : OpenClaim := { program := "ytibplfhkfkeloaa", sum := "303fb3b3cf00ef8a7c81eaf6be82562364c4304eb3ea3ba4ce6aa72a672c74b6", func := "assayer/assayerlaw04.TableFinals", spec := "tableFinals", unfollowed := true, recurses := true, plainKeys := false, apart := false }
def TableFinalsSaid : Prop := tableFinalsRow.holds Try.pinned (OpenSpec.ofChange tableFinalsSpec)

/-- ITS FALSE NEIGHBOUR: 'it returns false'. Refute it at one input. -/
def tableFinalsWrong : ChangeSpec := { name := "tableFinals", fn := fun _ => fun
  | [d1, d2, d3] => { results := [.lit (.bool false)], args := [d1, d2, d3] }
  | _ => none }
def TableFinalsWrongFalsely : Prop := tableFinalsRow.holds Try.pinned (OpenSpec.ofChange tableFinalsWrong)

/-- 'assayerlaw04.TableUnique': WHATEVER THE INPUT: true; the input reads as it did. -/
def tableUniqueSpec : ChangeSpec := { name := "tableUnique", fn := fun _ => fun
  | [d1, d2] => { results := [.lit (.bool true)], args := [d1, d2] }
  | _ => none }
def tableUniqueRow : OpenClaim := { program := "ytibplfhkfkeloaa", sum := "303fb3b3cf00ef8a7c81eaf6be82562364c4304eb3ea3ba4ce6aa72a672c74b6", func := "assayer/assayerlaw04.TableUnique", spec := "tableUnique", unfollowed := true, recurses := true, plainKeys := false, apart := false }
def TableUniqueSaid : Prop := tableUniqueRow.holds Try.pinned (OpenSpec.ofChange tableUniqueSpec)

/-- ITS FALSE NEIGHBOUR: 'it returns false'. Refute it at one input. -/
def tableUniqueWrong : ChangeSpec := { name := "tableUnique", fn := fun _ => fun
  | [d1, d2] => { results := [.lit (.bool false)], args := [d1, d2] }
  | _ => none }
def TableUniqueWrongFalsely : Prop := tableUniqueRow.holds Try.pinned (OpenSpec.ofChange tableUniqueWrong)

/- THE SECOND FORM. 'bulk': how many values and letters a reading holds, each counted each time it is reached (what is shared counts as often as it is met; a slice's spare places count too). A statement '..UptoSaid' is the law's where the arguments, and the package variables that the reading takes, are together of bulk at most 1048576: NARROWER than '..Said'. Prove '..Said' where nothing that the law and all that it calls make is longer than what came in: it says more and counts as full. Else prove '..UptoSaid'. A law counts once. -/
mutual
def uptoBulk {H : Type} : DataW H → Nat
  | .lit (.string bytes) => bytes.length + 1
  | .lit _ => 1
  | .nil => 1
  | .ptr d => uptoBulk d + 1
  | .slice elems spare => uptoBulkAll elems + uptoBulkAll spare + 1
  | .agg parts => uptoBulkAll parts + 1
  | .iface _ d => uptoBulk d + 1
  | .map entries => uptoBulkEntries entries + 1
  | .held _ => 1
def uptoBulkAll {H : Type} : List (DataW H) → Nat
  | [] => 0
  | d :: r => uptoBulk d + uptoBulkAll r
def uptoBulkEntries {H : Type} : List (Lit × DataW H) → Nat
  | [] => 0
  | x :: r => uptoBulkEntry x + uptoBulkEntries r
def uptoBulkEntry {H : Type} : Lit × DataW H → Nat
  | (.string bytes, d) => bytes.length + uptoBulk d + 1
  | (_, d) => uptoBulk d + 1
 end
def uptoSmall : (H : Type) → List (DataW H) → Bool := fun _ ds => decide (uptoBulkAll ds ≤ 1048576)
def OpenSpec.upto (s : _root_.Go.ChangeSpec) : _root_.Go.OpenSpec := { _root_.Go.OpenSpec.ofChange s with cond := some uptoSmall }

/-- 'assayerlaw04.TableKeys', WHERE WHAT IT READS IS OF BULK AT MOST 1048576: true; the input reads as it did. -/
def tableKeysUptoRow : OpenClaim := { program := "ytibplfhkfkeloaa", sum := "303fb3b3cf00ef8a7c81eaf6be82562364c4304eb3ea3ba4ce6aa72a672c74b6", func := "assayer/assayerlaw04.TableKeys", spec := "tableKeys", unfollowed := true, recurses := true, plainKeys := false, apart := false, narrowed := true }
def TableKeysUptoSaid : Prop := tableKeysUptoRow.holds Try.pinned (OpenSpec.upto tableKeysSpec)

/-- 'assayerlaw04.TableWriters', WHERE WHAT IT READS IS OF BULK AT MOST 1048576: true; the input reads as it did. -/
def tableWritersUptoRow : OpenClaim := { program := "ytibplfhkfkeloaa", sum := "303fb3b3cf00ef8a7c81eaf6be82562364c4304eb3ea3ba4ce6aa72a672c74b6", func := "assayer/assayerlaw04.TableWriters", spec := "tableWriters", unfollowed := true, recurses := true, plainKeys := false, apart := false, narrowed := true }
def TableWritersUptoSaid : Prop := tableWritersUptoRow.holds Try.pinned (OpenSpec.upto tableWritersSpec)

/-- 'assayerlaw04.TableFinals', WHERE WHAT IT READS IS OF BULK AT MOST 1048576: true; the input reads as it did. -/
def tableFinalsUptoRow : OpenClaim := { program := "ytibplfhkfkeloaa", sum := "303fb3b3cf00ef8a7c81eaf6be82562364c4304eb3ea3ba4ce6aa72a672c74b6", func := "assayer/assayerlaw04.TableFinals", spec := "tableFinals", unfollowed := true, recurses := true, plainKeys := false, apart := false, narrowed := true }
def TableFinalsUptoSaid : Prop := tableFinalsUptoRow.holds Try.pinned (OpenSpec.upto tableFinalsSpec)

/-- 'assayerlaw04.TableUnique', WHERE WHAT IT READS IS OF BULK AT MOST 1048576: true; the input reads as it did. -/
def tableUniqueUptoRow : OpenClaim := { program := "ytibplfhkfkeloaa", sum := "303fb3b3cf00ef8a7c81eaf6be82562364c4304eb3ea3ba4ce6aa72a672c74b6", func := "assayer/assayerlaw04.TableUnique", spec := "tableUnique", unfollowed := true, recurses := true, plainKeys := false, apart := false, narrowed := true }
def TableUniqueUptoSaid : Prop := tableUniqueUptoRow.holds Try.pinned (OpenSpec.upto tableUniqueSpec)

end Rows
end Go.Proofs.Ytibplfhkfkeloaa
