/-
  No cell of these rows narrows 'for every input' (looked for: loops, veiled, ifaces, maps, wideKeys, modest, calm, conditions, laid).
  DERIVED. THE GIVEN ROWS OF THIS SEAT. 6 by the template 'for every input the law returns true; each argument reads behind the call as it read before'; 0 by the template 'total and deterministic' (their statements: YtnfbcmnlloipiaaTotals.lean).
  GIVEN WITH THE SEED: the statements are not yours to turn. If you find one false, say at which input.
  Laid BY PROGRAM, IN A SANDBOX (cutbox-rows.mjs): the forced cells as the released guide's own fill.sh prints them over the translation 9ae767f15c615b81… (all of the seat's roots in one cut). By AI agents, Wed Nov 11 2026. No macro, syntax, notation, axiom, sorry.
-/
import Derived.Test.YtnfbcmnlloipiaaChecked
import GoSem.Claim
import GoSem.ClaimJoined
import GoSem.ClaimMapViews
import Derived.JoinedTies
import Derived.KernelRfl
namespace Go.Proofs.Ytnfbcmnlloipiaa
/- THE CELL 'sum', in the pinned program and in every row, IS THE sha256 OF THE DUMP (.gsa) THAT YtnfbcmnlloipiaaProg.lean LOADS. Nothing in Lean hashes anything: it is a label: what it is worth is what the hold of that sum in a sandbox is worth. -/
noncomputable def Try.pinned : Pinned := { name := "ytnfbcmnlloipiaa", sum := "9ae767f15c615b81ed6cf145ee2870d0305912c48753ee5410e40735cdc3b6d4", checked := Try.checked }
namespace Rows
def none {H : Type} : Left H := { results := [], args := [] }

/-- 'assayerlaw10.ListsTell': WHATEVER THE INPUT: true; the input reads as it did. -/
def listsTellSpec : ChangeSpec := { name := "listsTell", fn := fun _ => fun
  | [d1, d2] => { results := [.lit (.bool true)], args := [d1, d2] }
  | _ => none }
def listsTellRow : OpenClaim := { program := "ytnfbcmnlloipiaa", sum := "9ae767f15c615b81ed6cf145ee2870d0305912c48753ee5410e40735cdc3b6d4", func := "assayer/assayerlaw10.ListsTell", spec := "listsTell", unfollowed := true, recurses := true, plainKeys := false, apart := false }
def ListsTellSaid : Prop := listsTellRow.holds Try.pinned (OpenSpec.ofChange listsTellSpec)

/-- ITS FALSE NEIGHBOUR: 'it returns false'. Refute it at one input. -/
def listsTellWrong : ChangeSpec := { name := "listsTell", fn := fun _ => fun
  | [d1, d2] => { results := [.lit (.bool false)], args := [d1, d2] }
  | _ => none }
def ListsTellWrongFalsely : Prop := listsTellRow.holds Try.pinned (OpenSpec.ofChange listsTellWrong)

/-- 'assayerlaw10.ListsBegin': WHATEVER THE INPUT: true; the input reads as it did. -/
def listsBeginSpec : ChangeSpec := { name := "listsBegin", fn := fun _ => fun
  | [d] => { results := [.lit (.bool true)], args := [d] }
  | _ => none }
def listsBeginRow : OpenClaim := { program := "ytnfbcmnlloipiaa", sum := "9ae767f15c615b81ed6cf145ee2870d0305912c48753ee5410e40735cdc3b6d4", func := "assayer/assayerlaw10.ListsBegin", spec := "listsBegin", unfollowed := true, recurses := true, plainKeys := false, apart := false }
def ListsBeginSaid : Prop := listsBeginRow.holds Try.pinned (OpenSpec.ofChange listsBeginSpec)

/-- ITS FALSE NEIGHBOUR: 'it returns false'. Refute it at one input. -/
def listsBeginWrong : ChangeSpec := { name := "listsBegin", fn := fun _ => fun
  | [d] => { results := [.lit (.bool false)], args := [d] }
  | _ => none }
def ListsBeginWrongFalsely : Prop := listsBeginRow.holds Try.pinned (OpenSpec.ofChange listsBeginWrong)

/-- 'assayerlaw10.ListsServed': WHATEVER THE INPUT: true; the input reads as it did. -/
def listsServedSpec : ChangeSpec := { name := "listsServed", fn := fun _ => fun
  | [d] => { results := [.lit (.bool true)], args := [d] }
  | _ => none }
def listsServedRow : OpenClaim := { program := "ytnfbcmnlloipiaa", sum := "9ae767f15c615b81ed6cf145ee2870d0305912c48753ee5410e40735cdc3b6d4", func := "assayer/assayerlaw10.ListsServed", spec := "listsServed", unfollowed := true, recurses := true, plainKeys := false, apart := false }
def ListsServedSaid : Prop := listsServedRow.holds Try.pinned (OpenSpec.ofChange listsServedSpec)

/-- ITS FALSE NEIGHBOUR: 'it returns false'. Refute it at one input. -/
def listsServedWrong : ChangeSpec := { name := "listsServed", fn := fun _ => fun
  | [d] => { results := [.lit (.bool false)], args := [d] }
  | _ => none }
def ListsServedWrongFalsely : Prop := listsServedRow.holds Try.pinned (OpenSpec.ofChange listsServedWrong)

/-- 'assayerlaw10.ListsChain': WHATEVER THE INPUT: true; the input reads as it did. -/
def listsChainSpec : ChangeSpec := { name := "listsChain", fn := fun _ => fun
  | [d] => { results := [.lit (.bool true)], args := [d] }
  | _ => none }
def listsChainRow : OpenClaim := { program := "ytnfbcmnlloipiaa", sum := "9ae767f15c615b81ed6cf145ee2870d0305912c48753ee5410e40735cdc3b6d4", func := "assayer/assayerlaw10.ListsChain", spec := "listsChain", unfollowed := true, recurses := true, plainKeys := false, apart := false }
def ListsChainSaid : Prop := listsChainRow.holds Try.pinned (OpenSpec.ofChange listsChainSpec)

/-- ITS FALSE NEIGHBOUR: 'it returns false'. Refute it at one input. -/
def listsChainWrong : ChangeSpec := { name := "listsChain", fn := fun _ => fun
  | [d] => { results := [.lit (.bool false)], args := [d] }
  | _ => none }
def ListsChainWrongFalsely : Prop := listsChainRow.holds Try.pinned (OpenSpec.ofChange listsChainWrong)

/-- 'assayerlaw10.ListsTwice': WHATEVER THE INPUT: true; the input reads as it did. -/
def listsTwiceSpec : ChangeSpec := { name := "listsTwice", fn := fun _ => fun
  | [d1, d2] => { results := [.lit (.bool true)], args := [d1, d2] }
  | _ => none }
def listsTwiceRow : OpenClaim := { program := "ytnfbcmnlloipiaa", sum := "9ae767f15c615b81ed6cf145ee2870d0305912c48753ee5410e40735cdc3b6d4", func := "assayer/assayerlaw10.ListsTwice", spec := "listsTwice", unfollowed := true, recurses := true, plainKeys := false, apart := false }
def ListsTwiceSaid : Prop := listsTwiceRow.holds Try.pinned (OpenSpec.ofChange listsTwiceSpec)

/-- ITS FALSE NEIGHBOUR: 'it returns false'. Refute it at one input. -/
def listsTwiceWrong : ChangeSpec := { name := "listsTwice", fn := fun _ => fun
  | [d1, d2] => { results := [.lit (.bool false)], args := [d1, d2] }
  | _ => none }
def ListsTwiceWrongFalsely : Prop := listsTwiceRow.holds Try.pinned (OpenSpec.ofChange listsTwiceWrong)

/-- 'assayerlaw10.ListsNobody': WHATEVER THE INPUT: true; the input reads as it did. -/
def listsNobodySpec : ChangeSpec := { name := "listsNobody", fn := fun _ => fun
  | [d] => { results := [.lit (.bool true)], args := [d] }
  | _ => none }
def listsNobodyRow : OpenClaim := { program := "ytnfbcmnlloipiaa", sum := "9ae767f15c615b81ed6cf145ee2870d0305912c48753ee5410e40735cdc3b6d4", func := "assayer/assayerlaw10.ListsNobody", spec := "listsNobody", unfollowed := true, recurses := true, plainKeys := false, apart := false }
def ListsNobodySaid : Prop := listsNobodyRow.holds Try.pinned (OpenSpec.ofChange listsNobodySpec)

/-- ITS FALSE NEIGHBOUR: 'it returns false'. Refute it at one input. -/
def listsNobodyWrong : ChangeSpec := { name := "listsNobody", fn := fun _ => fun
  | [d] => { results := [.lit (.bool false)], args := [d] }
  | _ => none }
def ListsNobodyWrongFalsely : Prop := listsNobodyRow.holds Try.pinned (OpenSpec.ofChange listsNobodyWrong)

/- THE SECOND FORM. 'bulk': how many values and letters a reading holds, each counted each time it is reached (what is shared counts as often as it is met; a slice's spare places count too). A statement '..UptoSaid' is the law's where the arguments, and the package variables that the reading takes, are together of bulk at most 1048576: NARROWER than '..Said'. Prove '..Said' where nothing that the law and all that it calls make is longer than what came in: it says more and counts as full. Else prove '..UptoSaid'. A law counts once. -/
mutual
def uptoBulk {H : Type} : DataW H → Nat
  | .lit (.string bytes) => bytes.length + 1
  | .lit _ => 1
  | .nil => 1
  | .ptr d => uptoBulk d + 1
  | .slice elems spare => uptoBulkAll elems + uptoBulkAll spare + 1
  | .agg parts => uptoBulkAll parts + 1
  | .iface _ d => uptoBulk d + 1
  | .map entries => uptoBulkEntries entries + 1
  | .held _ => 1
def uptoBulkAll {H : Type} : List (DataW H) → Nat
  | [] => 0
  | d :: r => uptoBulk d + uptoBulkAll r
def uptoBulkEntries {H : Type} : List (Lit × DataW H) → Nat
  | [] => 0
  | x :: r => uptoBulkEntry x + uptoBulkEntries r
def uptoBulkEntry {H : Type} : Lit × DataW H → Nat
  | (.string bytes, d) => bytes.length + uptoBulk d + 1
  | (_, d) => uptoBulk d + 1
 end
def uptoSmall : (H : Type) → List (DataW H) → Bool := fun _ ds => decide (uptoBulkAll ds ≤ 1048576)
def OpenSpec.upto (s : _root_.Go.ChangeSpec) : _root_.Go.OpenSpec := { _root_.Go.OpenSpec.ofChange s with cond := some uptoSmall }

/-- 'assayerlaw10.ListsTell', WHERE WHAT IT READS IS OF BULK AT MOST 1048576: true; the input reads as it did. -/
def listsTellUptoRow : OpenClaim := { program := "ytnfbcmnlloipiaa", sum := "9ae767f15c615b81ed6cf145ee2870d0305912c48753ee5410e40735cdc3b6d4", func := "assayer/assayerlaw10.ListsTell", spec := "listsTell", unfollowed := true, recurses := true, plainKeys := false, apart := false, narrowed := true }
def ListsTellUptoSaid : Prop := listsTellUptoRow.holds Try.pinned (OpenSpec.upto listsTellSpec)

/-- 'assayerlaw10.ListsBegin', WHERE WHAT IT READS IS OF BULK AT MOST 1048576: true; the input reads as it did. -/
def listsBeginUptoRow : OpenClaim := { program := "ytnfbcmnlloipiaa", sum := "9ae767f15c615b81ed6cf145ee2870d0305912c48753ee5410e40735cdc3b6d4", func := "assayer/assayerlaw10.ListsBegin", spec := "listsBegin", unfollowed := true, recurses := true, plainKeys := false, apart := false, narrowed := true }
def ListsBeginUptoSaid : Prop := listsBeginUptoRow.holds Try.pinned (OpenSpec.upto listsBeginSpec)

/-- 'assayerlaw10.ListsServed', WHERE WHAT IT READS IS OF BULK AT MOST 1048576: true; the input reads as it did. -/
def listsServedUptoRow : OpenClaim := { program := "ytnfbcmnlloipiaa", sum := "9ae767f15c615b81ed6cf145ee2870d0305912c48753ee5410e40735cdc3b6d4", func := "assayer/assayerlaw10.ListsServed", spec := "listsServed", unfollowed := true, recurses := true, plainKeys := false, apart := false, narrowed := true }
def ListsServedUptoSaid : Prop := listsServedUptoRow.holds Try.pinned (OpenSpec.upto listsServedSpec)

/-- 'assayerlaw10.ListsChain', WHERE WHAT IT READS IS OF BULK AT MOST 1048576: true; the input reads as it did. -/
def listsChainUptoRow : OpenClaim := { program := "ytnfbcmnlloipiaa", sum := "9ae767f15c615b81ed6cf145ee2870d0305912c48753ee5410e40735cdc3b6d4", func := "assayer/assayerlaw10.ListsChain", spec := "listsChain", unfollowed := true, recurses := true, plainKeys := false, apart := false, narrowed := true }
def ListsChainUptoSaid : Prop := listsChainUptoRow.holds Try.pinned (OpenSpec.upto listsChainSpec)

/-- 'assayerlaw10.ListsTwice', WHERE WHAT IT READS IS OF BULK AT MOST 1048576: true; the input reads as it did. -/
def listsTwiceUptoRow : OpenClaim := { program := "ytnfbcmnlloipiaa", sum := "9ae767f15c615b81ed6cf145ee2870d0305912c48753ee5410e40735cdc3b6d4", func := "assayer/assayerlaw10.ListsTwice", spec := "listsTwice", unfollowed := true, recurses := true, plainKeys := false, apart := false, narrowed := true }
def ListsTwiceUptoSaid : Prop := listsTwiceUptoRow.holds Try.pinned (OpenSpec.upto listsTwiceSpec)

/-- 'assayerlaw10.ListsNobody', WHERE WHAT IT READS IS OF BULK AT MOST 1048576: true; the input reads as it did. -/
def listsNobodyUptoRow : OpenClaim := { program := "ytnfbcmnlloipiaa", sum := "9ae767f15c615b81ed6cf145ee2870d0305912c48753ee5410e40735cdc3b6d4", func := "assayer/assayerlaw10.ListsNobody", spec := "listsNobody", unfollowed := true, recurses := true, plainKeys := false, apart := false, narrowed := true }
def ListsNobodyUptoSaid : Prop := listsNobodyUptoRow.holds Try.pinned (OpenSpec.upto listsNobodySpec)

end Rows
end Go.Proofs.Ytnfbcmnlloipiaa
