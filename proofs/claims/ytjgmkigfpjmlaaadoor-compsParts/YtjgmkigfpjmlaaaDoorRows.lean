/-
  NARROWER THAN 'FOR EVERY INPUT', by the rows' own cells (each row's printed sentence says how): CompsTells: laid · CompsOrders: laid · CompsParts: laid · CompsLeads: laid · CompsTurned: laid · CompsNobody: laid.
  DERIVED. THE GIVEN ROWS OF THIS SEAT. 6 by the template 'for every input the law returns true; each argument reads behind the call as it read before'; 0 by the template 'total and deterministic' (their statements: YtjgmkigfpjmlaaaDoorTotals.lean).
  GIVEN WITH THE SEED: the statements are not yours to turn. If you find one false, say at which input.
  Laid BY PROGRAM, IN A SANDBOX (cutbox-rows.mjs): the forced cells as the released guide's own fill.sh prints them over the translation 9af382ecf855b433… (all of the seat's roots in one cut). By AI agents, Wed Nov 11 2026. No macro, syntax, notation, axiom, sorry.
-/
import Derived.Test.YtjgmkigfpjmlaaaDoorChecked
import GoSem.Claim
import GoSem.ClaimJoined
import GoSem.ClaimMapViews
import Derived.JoinedTies
import Derived.KernelRfl
namespace Go.Proofs.YtjgmkigfpjmlaaaDoor
/- THE CELL 'sum', in the pinned program and in every row, IS THE sha256 OF THE DUMP (.gsa) THAT YtjgmkigfpjmlaaaDoorProg.lean LOADS. Nothing in Lean hashes anything: it is a label: what it is worth is what the hold of that sum in a sandbox is worth. -/
noncomputable def Tryd.pinned : Pinned := { name := "ytjgmkigfpjmlaaadoor", sum := "9af382ecf855b43394e18ec1e6a69693d55c384768d6a90e74ffd910c17b061d", checked := Tryd.checked }
namespace Rows
def none {H : Type} : Left H := { results := [], args := [] }

/- WHAT THE LISTED PACKAGE-LEVEL VARIABLES READ AS WHEN THE CALL BEGINS. Each datum BY PROGRAM (the guide's laid-datum.mjs) off the statement by which the dump's own 'gosem.cut.vars' lays the variable. In a bare row this is a premise. The card (YtjgmkigfpjmlaaaDoorCards.lean) ties it to the program's text. -/
def laid_math_bits_deBruijn64tab {H : Type} : DataW H := .agg [.lit (.int .u8 0), .lit (.int .u8 1), .lit (.int .u8 56), .lit (.int .u8 2), .lit (.int .u8 57), .lit (.int .u8 49), .lit (.int .u8 28), .lit (.int .u8 3), .lit (.int .u8 61), .lit (.int .u8 58), .lit (.int .u8 42), .lit (.int .u8 50), .lit (.int .u8 38), .lit (.int .u8 29), .lit (.int .u8 17), .lit (.int .u8 4), .lit (.int .u8 62), .lit (.int .u8 47), .lit (.int .u8 59), .lit (.int .u8 36), .lit (.int .u8 45), .lit (.int .u8 43), .lit (.int .u8 51), .lit (.int .u8 22), .lit (.int .u8 53), .lit (.int .u8 39), .lit (.int .u8 33), .lit (.int .u8 30), .lit (.int .u8 24), .lit (.int .u8 18), .lit (.int .u8 12), .lit (.int .u8 5), .lit (.int .u8 63), .lit (.int .u8 55), .lit (.int .u8 48), .lit (.int .u8 27), .lit (.int .u8 60), .lit (.int .u8 41), .lit (.int .u8 37), .lit (.int .u8 16), .lit (.int .u8 46), .lit (.int .u8 35), .lit (.int .u8 44), .lit (.int .u8 21), .lit (.int .u8 52), .lit (.int .u8 32), .lit (.int .u8 23), .lit (.int .u8 11), .lit (.int .u8 54), .lit (.int .u8 26), .lit (.int .u8 40), .lit (.int .u8 15), .lit (.int .u8 34), .lit (.int .u8 20), .lit (.int .u8 31), .lit (.int .u8 10), .lit (.int .u8 25), .lit (.int .u8 14), .lit (.int .u8 19), .lit (.int .u8 9), .lit (.int .u8 13), .lit (.int .u8 8), .lit (.int .u8 7), .lit (.int .u8 6)]

/-- 'assayerlaw07.CompsTells': WHATEVER THE INPUT: true; the input reads as it did. -/
def compsTellsSpec : ChangeSpec := { name := "compsTells", fn := fun _ => fun
  | [d1, d2, d3] => { results := [.lit (.bool true)], args := [d1, d2, d3] }
  | _ => none }
def compsTellsRow : OpenClaim := { program := "ytjgmkigfpjmlaaadoor", sum := "9af382ecf855b43394e18ec1e6a69693d55c384768d6a90e74ffd910c17b061d", func := "assayer/assayerlaw07.CompsTells", spec := "compsTells", unfollowed := true, recurses := true, named := ["math/bits.deBruijn64tab"], apart := false, laid := [("math/bits.deBruijn64tab", laid_math_bits_deBruijn64tab)] }
def CompsTellsSaid : Prop := compsTellsRow.holds Tryd.pinned (OpenSpec.ofChange compsTellsSpec)

/-- ITS FALSE NEIGHBOUR: 'it returns false'. Refute it at one input. -/
def compsTellsWrong : ChangeSpec := { name := "compsTells", fn := fun _ => fun
  | [d1, d2, d3] => { results := [.lit (.bool false)], args := [d1, d2, d3] }
  | _ => none }
def CompsTellsWrongFalsely : Prop := compsTellsRow.holds Tryd.pinned (OpenSpec.ofChange compsTellsWrong)

/-- 'assayerlaw07.CompsOrders': WHATEVER THE INPUT: true; the input reads as it did. -/
def compsOrdersSpec : ChangeSpec := { name := "compsOrders", fn := fun _ => fun
  | [d1, d2, d3] => { results := [.lit (.bool true)], args := [d1, d2, d3] }
  | _ => none }
def compsOrdersRow : OpenClaim := { program := "ytjgmkigfpjmlaaadoor", sum := "9af382ecf855b43394e18ec1e6a69693d55c384768d6a90e74ffd910c17b061d", func := "assayer/assayerlaw07.CompsOrders", spec := "compsOrders", unfollowed := true, recurses := true, named := ["math/bits.deBruijn64tab"], apart := false, laid := [("math/bits.deBruijn64tab", laid_math_bits_deBruijn64tab)] }
def CompsOrdersSaid : Prop := compsOrdersRow.holds Tryd.pinned (OpenSpec.ofChange compsOrdersSpec)

/-- ITS FALSE NEIGHBOUR: 'it returns false'. Refute it at one input. -/
def compsOrdersWrong : ChangeSpec := { name := "compsOrders", fn := fun _ => fun
  | [d1, d2, d3] => { results := [.lit (.bool false)], args := [d1, d2, d3] }
  | _ => none }
def CompsOrdersWrongFalsely : Prop := compsOrdersRow.holds Tryd.pinned (OpenSpec.ofChange compsOrdersWrong)

/-- 'assayerlaw07.CompsParts': WHATEVER THE INPUT: true; the input reads as it did. -/
def compsPartsSpec : ChangeSpec := { name := "compsParts", fn := fun _ => fun
  | [d1, d2, d3] => { results := [.lit (.bool true)], args := [d1, d2, d3] }
  | _ => none }
def compsPartsRow : OpenClaim := { program := "ytjgmkigfpjmlaaadoor", sum := "9af382ecf855b43394e18ec1e6a69693d55c384768d6a90e74ffd910c17b061d", func := "assayer/assayerlaw07.CompsParts", spec := "compsParts", unfollowed := true, recurses := true, named := ["math/bits.deBruijn64tab"], apart := false, laid := [("math/bits.deBruijn64tab", laid_math_bits_deBruijn64tab)] }
def CompsPartsSaid : Prop := compsPartsRow.holds Tryd.pinned (OpenSpec.ofChange compsPartsSpec)

/-- ITS FALSE NEIGHBOUR: 'it returns false'. Refute it at one input. -/
def compsPartsWrong : ChangeSpec := { name := "compsParts", fn := fun _ => fun
  | [d1, d2, d3] => { results := [.lit (.bool false)], args := [d1, d2, d3] }
  | _ => none }
def CompsPartsWrongFalsely : Prop := compsPartsRow.holds Tryd.pinned (OpenSpec.ofChange compsPartsWrong)

/-- 'assayerlaw07.CompsLeads': WHATEVER THE INPUT: true; the input reads as it did. -/
def compsLeadsSpec : ChangeSpec := { name := "compsLeads", fn := fun _ => fun
  | [d1, d2, d3] => { results := [.lit (.bool true)], args := [d1, d2, d3] }
  | _ => none }
def compsLeadsRow : OpenClaim := { program := "ytjgmkigfpjmlaaadoor", sum := "9af382ecf855b43394e18ec1e6a69693d55c384768d6a90e74ffd910c17b061d", func := "assayer/assayerlaw07.CompsLeads", spec := "compsLeads", unfollowed := true, recurses := true, named := ["math/bits.deBruijn64tab"], apart := false, laid := [("math/bits.deBruijn64tab", laid_math_bits_deBruijn64tab)] }
def CompsLeadsSaid : Prop := compsLeadsRow.holds Tryd.pinned (OpenSpec.ofChange compsLeadsSpec)

/-- ITS FALSE NEIGHBOUR: 'it returns false'. Refute it at one input. -/
def compsLeadsWrong : ChangeSpec := { name := "compsLeads", fn := fun _ => fun
  | [d1, d2, d3] => { results := [.lit (.bool false)], args := [d1, d2, d3] }
  | _ => none }
def CompsLeadsWrongFalsely : Prop := compsLeadsRow.holds Tryd.pinned (OpenSpec.ofChange compsLeadsWrong)

/-- 'assayerlaw07.CompsTurned': WHATEVER THE INPUT: true; the input reads as it did. -/
def compsTurnedSpec : ChangeSpec := { name := "compsTurned", fn := fun _ => fun
  | [d1, d2, d3] => { results := [.lit (.bool true)], args := [d1, d2, d3] }
  | _ => none }
def compsTurnedRow : OpenClaim := { program := "ytjgmkigfpjmlaaadoor", sum := "9af382ecf855b43394e18ec1e6a69693d55c384768d6a90e74ffd910c17b061d", func := "assayer/assayerlaw07.CompsTurned", spec := "compsTurned", unfollowed := true, recurses := true, named := ["math/bits.deBruijn64tab"], apart := false, laid := [("math/bits.deBruijn64tab", laid_math_bits_deBruijn64tab)] }
def CompsTurnedSaid : Prop := compsTurnedRow.holds Tryd.pinned (OpenSpec.ofChange compsTurnedSpec)

/-- ITS FALSE NEIGHBOUR: 'it returns false'. Refute it at one input. -/
def compsTurnedWrong : ChangeSpec := { name := "compsTurned", fn := fun _ => fun
  | [d1, d2, d3] => { results := [.lit (.bool false)], args := [d1, d2, d3] }
  | _ => none }
def CompsTurnedWrongFalsely : Prop := compsTurnedRow.holds Tryd.pinned (OpenSpec.ofChange compsTurnedWrong)

/-- 'assayerlaw07.CompsNobody': WHATEVER THE INPUT: true; the input reads as it did. -/
def compsNobodySpec : ChangeSpec := { name := "compsNobody", fn := fun _ => fun
  | [d] => { results := [.lit (.bool true)], args := [d] }
  | _ => none }
def compsNobodyRow : OpenClaim := { program := "ytjgmkigfpjmlaaadoor", sum := "9af382ecf855b43394e18ec1e6a69693d55c384768d6a90e74ffd910c17b061d", func := "assayer/assayerlaw07.CompsNobody", spec := "compsNobody", unfollowed := true, recurses := true, named := ["math/bits.deBruijn64tab"], apart := false, laid := [("math/bits.deBruijn64tab", laid_math_bits_deBruijn64tab)] }
def CompsNobodySaid : Prop := compsNobodyRow.holds Tryd.pinned (OpenSpec.ofChange compsNobodySpec)

/-- ITS FALSE NEIGHBOUR: 'it returns false'. Refute it at one input. -/
def compsNobodyWrong : ChangeSpec := { name := "compsNobody", fn := fun _ => fun
  | [d] => { results := [.lit (.bool false)], args := [d] }
  | _ => none }
def CompsNobodyWrongFalsely : Prop := compsNobodyRow.holds Tryd.pinned (OpenSpec.ofChange compsNobodyWrong)

/- THE SECOND FORM. 'bulk': how many values and letters a reading holds, each counted each time it is reached (what is shared counts as often as it is met; a slice's spare places count too). A statement '..UptoSaid' is the law's where the arguments, and the package variables that the reading takes, are together of bulk at most 1048576: NARROWER than '..Said'. Prove '..Said' where nothing that the law and all that it calls make is longer than what came in: it says more and counts as full. Else prove '..UptoSaid'. A law counts once. -/
mutual
def uptoBulk {H : Type} : DataW H → Nat
  | .lit (.string bytes) => bytes.length + 1
  | .lit _ => 1
  | .nil => 1
  | .ptr d => uptoBulk d + 1
  | .slice elems spare => uptoBulkAll elems + uptoBulkAll spare + 1
  | .agg parts => uptoBulkAll parts + 1
  | .iface _ d => uptoBulk d + 1
  | .map entries => uptoBulkEntries entries + 1
  | .held _ => 1
def uptoBulkAll {H : Type} : List (DataW H) → Nat
  | [] => 0
  | d :: r => uptoBulk d + uptoBulkAll r
def uptoBulkEntries {H : Type} : List (Lit × DataW H) → Nat
  | [] => 0
  | x :: r => uptoBulkEntry x + uptoBulkEntries r
def uptoBulkEntry {H : Type} : Lit × DataW H → Nat
  | (.string bytes, d) => bytes.length + uptoBulk d + 1
  | (_, d) => uptoBulk d + 1
 end
def uptoSmall : (H : Type) → List (DataW H) → Bool := fun _ ds => decide (uptoBulkAll ds ≤ 1048576)
def OpenSpec.upto (s : _root_.Go.ChangeSpec) : _root_.Go.OpenSpec := { _root_.Go.OpenSpec.ofChange s with cond := some uptoSmall }

/-- 'assayerlaw07.CompsTells', WHERE WHAT IT READS IS OF BULK AT MOST 1048576: true; the input reads as it did. -/
def compsTellsUptoRow : OpenClaim := { program := "ytjgmkigfpjmlaaadoor", sum := "9af382ecf855b43394e18ec1e6a69693d55c384768d6a90e74ffd910c17b061d", func := "assayer/assayerlaw07.CompsTells", spec := "compsTells", unfollowed := true, recurses := true, named := ["math/bits.deBruijn64tab"], apart := false, laid := [("math/bits.deBruijn64tab", laid_math_bits_deBruijn64tab)], narrowed := true }
def CompsTellsUptoSaid : Prop := compsTellsUptoRow.holds Tryd.pinned (OpenSpec.upto compsTellsSpec)

/-- 'assayerlaw07.CompsOrders', WHERE WHAT IT READS IS OF BULK AT MOST 1048576: true; the input reads as it did. -/
def compsOrdersUptoRow : OpenClaim := { program := "ytjgmkigfpjmlaaadoor", sum := "9af382ecf855b43394e18ec1e6a69693d55c384768d6a90e74ffd910c17b061d", func := "assayer/assayerlaw07.CompsOrders", spec := "compsOrders", unfollowed := true, recurses := true, named := ["math/bits.deBruijn64tab"], apart := false, laid := [("math/bits.deBruijn64tab", laid_math_bits_deBruijn64tab)], narrowed := true }
def CompsOrdersUptoSaid : Prop := compsOrdersUptoRow.holds Tryd.pinned (OpenSpec.upto compsOrdersSpec)

/-- 'assayerlaw07.CompsParts', WHERE WHAT IT READS IS OF BULK AT MOST 1048576: true; the input reads as it did. -/
def compsPartsUptoRow : OpenClaim := { program := "ytjgmkigfpjmlaaadoor", sum := "9af382ecf855b43394e18ec1e6a69693d55c384768d6a90e74ffd910c17b061d", func := "assayer/assayerlaw07.CompsParts", spec := "compsParts", unfollowed := true, recurses := true, named := ["math/bits.deBruijn64tab"], apart := false, laid := [("math/bits.deBruijn64tab", laid_math_bits_deBruijn64tab)], narrowed := true }
def CompsPartsUptoSaid : Prop := compsPartsUptoRow.holds Tryd.pinned (OpenSpec.upto compsPartsSpec)

/-- 'assayerlaw07.CompsLeads', WHERE WHAT IT READS IS OF BULK AT MOST 1048576: true; the input reads as it did. -/
def compsLeadsUptoRow : OpenClaim := { program := "ytjgmkigfpjmlaaadoor", sum := "9af382ecf855b43394e18ec1e6a69693d55c384768d6a90e74ffd910c17b061d", func := "assayer/assayerlaw07.CompsLeads", spec := "compsLeads", unfollowed := true, recurses := true, named := ["math/bits.deBruijn64tab"], apart := false, laid := [("math/bits.deBruijn64tab", laid_math_bits_deBruijn64tab)], narrowed := true }
def CompsLeadsUptoSaid : Prop := compsLeadsUptoRow.holds Tryd.pinned (OpenSpec.upto compsLeadsSpec)

/-- 'assayerlaw07.CompsTurned', WHERE WHAT IT READS IS OF BULK AT MOST 1048576: true; the input reads as it did. -/
def compsTurnedUptoRow : OpenClaim := { program := "ytjgmkigfpjmlaaadoor", sum := "9af382ecf855b43394e18ec1e6a69693d55c384768d6a90e74ffd910c17b061d", func := "assayer/assayerlaw07.CompsTurned", spec := "compsTurned", unfollowed := true, recurses := true, named := ["math/bits.deBruijn64tab"], apart := false, laid := [("math/bits.deBruijn64tab", laid_math_bits_deBruijn64tab)], narrowed := true }
def CompsTurnedUptoSaid : Prop := compsTurnedUptoRow.holds Tryd.pinned (OpenSpec.upto compsTurnedSpec)

/-- 'assayerlaw07.CompsNobody', WHERE WHAT IT READS IS OF BULK AT MOST 1048576: true; the input reads as it did. -/
def compsNobodyUptoRow : OpenClaim := { program := "ytjgmkigfpjmlaaadoor", sum := "9af382ecf855b43394e18ec1e6a69693d55c384768d6a90e74ffd910c17b061d", func := "assayer/assayerlaw07.CompsNobody", spec := "compsNobody", unfollowed := true, recurses := true, named := ["math/bits.deBruijn64tab"], apart := false, laid := [("math/bits.deBruijn64tab", laid_math_bits_deBruijn64tab)], narrowed := true }
def CompsNobodyUptoSaid : Prop := compsNobodyUptoRow.holds Tryd.pinned (OpenSpec.upto compsNobodySpec)

end Rows
end Go.Proofs.YtjgmkigfpjmlaaaDoor
