/-
  No cell of these rows narrows 'for every input' (looked for: loops, veiled, ifaces, maps, wideKeys, modest, calm, conditions, laid).
  DERIVED. THE GIVEN ROWS OF THIS SEAT. 4 by the template 'for every input the law returns true; each argument reads behind the call as it read before'; 0 by the template 'total and deterministic' (their statements: YtonmmeeigklapabTotals.lean).
  GIVEN WITH THE SEED: the statements are not yours to turn. If you find one false, say at which input.
  Laid BY PROGRAM, IN A SANDBOX (cutbox-rows.mjs): the forced cells as the released guide's own fill.sh prints them over the translation 508afe67fd00761a… (all of the seat's roots in one cut). By AI agents, Wed Nov 11 2026. No macro, syntax, notation, axiom, sorry.
-/
import Derived.Test.YtonmmeeigklapabChecked
import GoSem.Claim
import GoSem.ClaimJoined
import GoSem.ClaimMapViews
import Derived.JoinedTies
import Derived.KernelRfl
namespace Go.Proofs.Ytonmmeeigklapab
/- THE CELL 'sum', in the pinned program and in every row, IS THE sha256 OF THE DUMP (.gsa) THAT YtonmmeeigklapabProg.lean LOADS. Nothing in Lean hashes anything: it is a label: what it is worth is what the hold of that sum in a sandbox is worth. -/
noncomputable def Try.pinned : Pinned := { name := "ytonmmeeigklapab", sum := "508afe67fd00761a4df33b4eb26473be76976a633c25db8b424bf2af86ea05f2", checked := Try.checked }
namespace Rows
def none {H : Type} : Left H := { results := [], args := [] }

/-- 'assayerlaw18.LevelsRefute': WHATEVER THE INPUT: true; the input reads as it did. -/
def levelsRefuteSpec : ChangeSpec := { name := "levelsRefute", fn := fun _ => fun
  | [d1, d2, d3, d4] => { results := [.lit (.bool true)], args := [d1, d2, d3, d4] }
  | _ => none }
def levelsRefuteRow : OpenClaim := { program := "ytonmmeeigklapab", sum := "508afe67fd00761a4df33b4eb26473be76976a633c25db8b424bf2af86ea05f2", func := "assayer/assayerlaw18.LevelsRefute", spec := "levelsRefute", apart := false }
def LevelsRefuteSaid : Prop := levelsRefuteRow.holds Try.pinned (OpenSpec.ofChange levelsRefuteSpec)

/-- ITS FALSE NEIGHBOUR: 'it returns false'. Refute it at one input. -/
def levelsRefuteWrong : ChangeSpec := { name := "levelsRefute", fn := fun _ => fun
  | [d1, d2, d3, d4] => { results := [.lit (.bool false)], args := [d1, d2, d3, d4] }
  | _ => none }
def LevelsRefuteWrongFalsely : Prop := levelsRefuteRow.holds Try.pinned (OpenSpec.ofChange levelsRefuteWrong)

/-- 'assayerlaw18.LevelsAll': WHATEVER THE INPUT: true; the input reads as it did. -/
def levelsAllSpec : ChangeSpec := { name := "levelsAll", fn := fun _ => fun
  | [d] => { results := [.lit (.bool true)], args := [d] }
  | _ => none }
def levelsAllRow : OpenClaim := { program := "ytonmmeeigklapab", sum := "508afe67fd00761a4df33b4eb26473be76976a633c25db8b424bf2af86ea05f2", func := "assayer/assayerlaw18.LevelsAll", spec := "levelsAll", apart := false }
def LevelsAllSaid : Prop := levelsAllRow.holds Try.pinned (OpenSpec.ofChange levelsAllSpec)

/-- ITS FALSE NEIGHBOUR: 'it returns false'. Refute it at one input. -/
def levelsAllWrong : ChangeSpec := { name := "levelsAll", fn := fun _ => fun
  | [d] => { results := [.lit (.bool false)], args := [d] }
  | _ => none }
def LevelsAllWrongFalsely : Prop := levelsAllRow.holds Try.pinned (OpenSpec.ofChange levelsAllWrong)

/-- 'assayerlaw18.LevelsLowest': WHATEVER THE INPUT: true; the input reads as it did. -/
def levelsLowestSpec : ChangeSpec := { name := "levelsLowest", fn := fun _ => fun
  | [d1, d2, d3] => { results := [.lit (.bool true)], args := [d1, d2, d3] }
  | _ => none }
def levelsLowestRow : OpenClaim := { program := "ytonmmeeigklapab", sum := "508afe67fd00761a4df33b4eb26473be76976a633c25db8b424bf2af86ea05f2", func := "assayer/assayerlaw18.LevelsLowest", spec := "levelsLowest", apart := false }
def LevelsLowestSaid : Prop := levelsLowestRow.holds Try.pinned (OpenSpec.ofChange levelsLowestSpec)

/-- ITS FALSE NEIGHBOUR: 'it returns false'. Refute it at one input. -/
def levelsLowestWrong : ChangeSpec := { name := "levelsLowest", fn := fun _ => fun
  | [d1, d2, d3] => { results := [.lit (.bool false)], args := [d1, d2, d3] }
  | _ => none }
def LevelsLowestWrongFalsely : Prop := levelsLowestRow.holds Try.pinned (OpenSpec.ofChange levelsLowestWrong)

/-- 'assayerlaw18.LevelsDown': WHATEVER THE INPUT: true; the input reads as it did. -/
def levelsDownSpec : ChangeSpec := { name := "levelsDown", fn := fun _ => fun
  | [d1, d2, d3, d4] => { results := [.lit (.bool true)], args := [d1, d2, d3, d4] }
  | _ => none }
def levelsDownRow : OpenClaim := { program := "ytonmmeeigklapab", sum := "508afe67fd00761a4df33b4eb26473be76976a633c25db8b424bf2af86ea05f2", func := "assayer/assayerlaw18.LevelsDown", spec := "levelsDown", apart := false }
def LevelsDownSaid : Prop := levelsDownRow.holds Try.pinned (OpenSpec.ofChange levelsDownSpec)

/-- ITS FALSE NEIGHBOUR: 'it returns false'. Refute it at one input. -/
def levelsDownWrong : ChangeSpec := { name := "levelsDown", fn := fun _ => fun
  | [d1, d2, d3, d4] => { results := [.lit (.bool false)], args := [d1, d2, d3, d4] }
  | _ => none }
def LevelsDownWrongFalsely : Prop := levelsDownRow.holds Try.pinned (OpenSpec.ofChange levelsDownWrong)

/- THE SECOND FORM. 'bulk': how many values and letters a reading holds, each counted each time it is reached (what is shared counts as often as it is met; a slice's spare places count too). A statement '..UptoSaid' is the law's where the arguments, and the package variables that the reading takes, are together of bulk at most 1048576: NARROWER than '..Said'. Prove '..Said' where nothing that the law and all that it calls make is longer than what came in: it says more and counts as full. Else prove '..UptoSaid'. A law counts once. -/
mutual
def uptoBulk {H : Type} : DataW H → Nat
  | .lit (.string bytes) => bytes.length + 1
  | .lit _ => 1
  | .nil => 1
  | .ptr d => uptoBulk d + 1
  | .slice elems spare => uptoBulkAll elems + uptoBulkAll spare + 1
  | .agg parts => uptoBulkAll parts + 1
  | .iface _ d => uptoBulk d + 1
  | .map entries => uptoBulkEntries entries + 1
  | .held _ => 1
def uptoBulkAll {H : Type} : List (DataW H) → Nat
  | [] => 0
  | d :: r => uptoBulk d + uptoBulkAll r
def uptoBulkEntries {H : Type} : List (Lit × DataW H) → Nat
  | [] => 0
  | x :: r => uptoBulkEntry x + uptoBulkEntries r
def uptoBulkEntry {H : Type} : Lit × DataW H → Nat
  | (.string bytes, d) => bytes.length + uptoBulk d + 1
  | (_, d) => uptoBulk d + 1
 end
def uptoSmall : (H : Type) → List (DataW H) → Bool := fun _ ds => decide (uptoBulkAll ds ≤ 1048576)
def OpenSpec.upto (s : _root_.Go.ChangeSpec) : _root_.Go.OpenSpec := { _root_.Go.OpenSpec.ofChange s with cond := some uptoSmall }

/-- 'assayerlaw18.LevelsRefute', WHERE WHAT IT READS IS OF BULK AT MOST 1048576: true; the input reads as it did. -/
def levelsRefuteUptoRow : OpenClaim := { program := "ytonmmeeigklapab", sum := "508afe67fd00761a4df33b4eb26473be76976a633c25db8b424bf2af86ea05f2", func := "assayer/assayerlaw18.LevelsRefute", spec := "levelsRefute", apart := false, narrowed := true }
def LevelsRefuteUptoSaid : Prop := levelsRefuteUptoRow.holds Try.pinned (OpenSpec.upto levelsRefuteSpec)

/-- 'assayerlaw18.LevelsAll', WHERE WHAT IT READS IS OF BULK AT MOST 1048576: true; the input reads as it did. -/
def levelsAllUptoRow : OpenClaim := { program := "ytonmmeeigklapab", sum := "508afe67fd00761a4df33b4eb26473be76976a633c25db8b424bf2af86ea05f2", func := "assayer/assayerlaw18.LevelsAll", spec := "levelsAll", apart := false, narrowed := true }
def LevelsAllUptoSaid : Prop := levelsAllUptoRow.holds Try.pinned (OpenSpec.upto levelsAllSpec)

/-- 'assayerlaw18.LevelsLowest', WHERE WHAT IT READS IS OF BULK AT MOST 1048576: true; the input reads as it did. -/
def levelsLowestUptoRow : OpenClaim := { program := "ytonmmeeigklapab", sum := "508afe67fd00761a4df33b4eb26473be76976a633c25db8b424bf2af86ea05f2", func := "assayer/assayerlaw18.LevelsLowest", spec := "levelsLowest", apart := false, narrowed := true }
def LevelsLowestUptoSaid : Prop := levelsLowestUptoRow.holds Try.pinned (OpenSpec.upto levelsLowestSpec)

/-- 'assayerlaw18.LevelsDown', WHERE WHAT IT READS IS OF BULK AT MOST 1048576: true; the input reads as it did. -/
def levelsDownUptoRow : OpenClaim := { program := "ytonmmeeigklapab", sum := "508afe67fd00761a4df33b4eb26473be76976a633c25db8b424bf2af86ea05f2", func := "assayer/assayerlaw18.LevelsDown", spec := "levelsDown", apart := false, narrowed := true }
def LevelsDownUptoSaid : Prop := levelsDownUptoRow.holds Try.pinned (OpenSpec.upto levelsDownSpec)

end Rows
end Go.Proofs.Ytonmmeeigklapab
