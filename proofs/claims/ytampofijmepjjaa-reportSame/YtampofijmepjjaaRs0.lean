/-
  Reports in memory: plain data, how they lie, when two dependencies are the same.
-/
import Derived.Test.YtampofijmepjjaaT1
import Derived.Laws.StructEq
import Derived.Lib.Walk
import Derived.Lib.SmallJoins
import Derived.WalkSpells
import Derived.Deep.RegionHeld3
import Derived.Deep.RegionWith
import Derived.Deep.QuietTactic
import Derived.BigQuiet
namespace Go.Proofs.Ytampofijmepjjaa
set_option linter.unusedVariables false
set_option linter.unusedSimpArgs false
open Go.RowKit
open Tx (RowsIn.cells RowCells)

/-- A dependency, plain. -/
abbrev MW := Int × Int × Int × ByteArray × Int × Int × Bool × Bool
def encW (x : MW) : List Value := [.int .i64 x.1, .int .i64 x.2.1, .int .i64 x.2.2.1, .string x.2.2.2.1, .int .i64 x.2.2.2.2.1, .int .i64 x.2.2.2.2.2.1, .bool x.2.2.2.2.2.2.1, .bool x.2.2.2.2.2.2.2]
/-- An anomaly, plain: kind, txn, op, other, key, value, cycle, real, level. -/
abbrev MA := Int × Int × Int × Int × ByteArray × Int × List MW × Bool × Int
/-- A report, plain: txns, unique, anomalies, level, answer, order. -/
abbrev MR := Int × Bool × List MA × Int × Int × List Int
abbrev All (_ : Nat) : Prop := True
def WhysIn (w : World) (v : Value) (l : List MW) : Prop := RowsIn 8 64 (fun cs x => cs = encW x) All w v l
def encA (a : MA) (cv : Value) : List Value := [.int .i64 a.1, .int .i64 a.2.1, .int .i64 a.2.2.1, .int .i64 a.2.2.2.1, .string a.2.2.2.2.1, .int .i64 a.2.2.2.2.2.1, cv, .bool a.2.2.2.2.2.2.2.1, .int .i64 a.2.2.2.2.2.2.2.2]
abbrev MA.cyc (a : MA) : List MW := a.2.2.2.2.2.2.1
def AnRow (w : World) (cs : List Value) (a : MA) : Prop := ∃ cv, cs = encA a cv ∧ WhysIn w cv a.cyc
def AnsIn (w : World) (v : Value) (l : List MA) : Prop := RowsIn 9 96 (AnRow w) All w v l
def encR (r : MR) (av ov : Value) : Array Value := #[.int .i64 r.1, .bool r.2.1, av, .int .i64 r.2.2.2.1, .int .i64 r.2.2.2.2.1, ov]
def RepIn (w : World) (v : Value) (r : MR) : Prop := ∃ av ov, v = .agg (encR r av ov) ∧ AnsIn w av r.2.2.1 ∧ IntsIn All w ov r.2.2.2.2.2
theorem rows_later {α : Type} [Inhabited α] {k bytes : Nat} {R R' : List Value → α → Prop} {w w' : World} {v : Value} {l : List α} (h : RowsIn k bytes R All w v l) (hk : 0 < k) (hb : Below w.heap.size w w') (hR : ∀ cs a, R cs a → R' cs a) : RowsIn k bytes R' All w' v l := by
  obtain ⟨ao, c, hv, hl, hc⟩ := h
  refine ⟨ao, c, hv, hl, fun h0 => ?_⟩
  obtain ⟨b, off, e1, e2, hj⟩ := hc h0
  refine ⟨b, off, e1, e2, fun j hlt => ?_⟩
  obtain ⟨cs, q1, q2, q3⟩ := hj j hlt
  exact ⟨cs, q1, hR _ _ q2, fun i u hu => (hb.cell (World.block_lt_of_cell? _ _ (q3 i u hu))).trans (q3 i u hu)⟩
theorem WhysIn.later {w w' : World} {v : Value} {l : List MW} (h : WhysIn w v l) (hb : Below w.heap.size w w') : WhysIn w' v l := rows_later h (by omega) hb (fun _ _ h => h)
theorem AnsIn.later {w w' : World} {v : Value} {l : List MA} (h : AnsIn w v l) (hb : Below w.heap.size w w') : AnsIn w' v l := rows_later h (by omega) hb (fun _ _ ⟨cv, h1, h2⟩ => ⟨cv, h1, h2.later hb⟩)
theorem IntsIn.laterB {w w' : World} {v : Value} {l : List Int} (h : IntsIn All w v l) (hb : Below w.heap.size w w') : IntsIn All w' v l := by
  obtain ⟨ao, c, hv, hl, hc⟩ := h
  refine ⟨ao, c, hv, hl, fun h0 => ?_⟩
  obtain ⟨b, off, e1, e2, hj⟩ := hc h0
  exact ⟨b, off, e1, e2, fun j hlt => (hb.cell (World.block_lt_of_cell? _ _ (hj j hlt))).trans (hj j hlt)⟩
theorem RepIn.later {w w' : World} {v : Value} {r : MR} (h : RepIn w v r) (hb : Below w.heap.size w w') : RepIn w' v r := by
  obtain ⟨av, ov, hv, h1, h2⟩ := h
  exact ⟨av, ov, hv, h1.later hb, h2.laterB hb⟩

/-- Whether two dependencies are the same. -/
def wEq (x y : MW) : Bool := x.1 == y.1 && (x.2.1 == y.2.1 && (x.2.2.1 == y.2.2.1 && (x.2.2.2.1.toList == y.2.2.2.1.toList && (x.2.2.2.2.1 == y.2.2.2.2.1 && (x.2.2.2.2.2.1 == y.2.2.2.2.2.1 && (x.2.2.2.2.2.2.1 == y.2.2.2.2.2.2.1 && x.2.2.2.2.2.2.2 == y.2.2.2.2.2.2.2))))))
def whysEq (xs ys : List MW) : Bool := allEq wEq xs ys
/-- Whether two anomalies are the same. -/
def aEq (a b : MA) : Bool := a.1 == b.1 && (a.2.1 == b.2.1 && (a.2.2.1 == b.2.2.1 && (a.2.2.2.1 == b.2.2.2.1 && (a.2.2.2.2.1.toList == b.2.2.2.2.1.toList && (a.2.2.2.2.2.1 == b.2.2.2.2.2.1 && (a.2.2.2.2.2.2.2.1 == b.2.2.2.2.2.2.2.1 && (a.2.2.2.2.2.2.2.2 == b.2.2.2.2.2.2.2.2 && whysEq a.cyc b.cyc)))))))
def ansEq (xs ys : List MA) : Bool := allEq aEq xs ys
/-- Whether two reports are the same. -/
def rEq (a b : MR) : Bool := a.1 == b.1 && (a.2.1 == b.2.1 && (a.2.2.2.1 == b.2.2.2.1 && (a.2.2.2.2.1 == b.2.2.2.2.1 && (intsEq a.2.2.2.2.2 b.2.2.2.2.2 && ansEq a.2.2.1 b.2.2.1))))
theorem wEq_refl (x : MW) : wEq x x = true := by simp [wEq]
theorem wEq_symm (x y : MW) : wEq x y = wEq y x := by
  unfold wEq; rw [beq_sw x.1, beq_sw x.2.1, beq_sw x.2.2.1, beq_sw x.2.2.2.1.toList, beq_sw x.2.2.2.2.1, beq_sw x.2.2.2.2.2.1, beq_sw x.2.2.2.2.2.2.1, beq_sw x.2.2.2.2.2.2.2]
theorem aEq_refl (x : MA) : aEq x x = true := by simp [aEq, whysEq, allEq_refl _ wEq_refl]
theorem aEq_symm (x y : MA) : aEq x y = aEq y x := by
  unfold aEq whysEq; rw [beq_sw x.1, beq_sw x.2.1, beq_sw x.2.2.1, beq_sw x.2.2.2.1, beq_sw x.2.2.2.2.1.toList, beq_sw x.2.2.2.2.2.1, beq_sw x.2.2.2.2.2.2.2.1, beq_sw x.2.2.2.2.2.2.2.2, allEq_symm _ wEq_symm]
theorem rEq_refl (x : MR) : rEq x x = true := by simp [rEq, ansEq, intsEq_refl, allEq_refl _ aEq_refl]
theorem rEq_symm (x y : MR) : rEq x y = rEq y x := by
  unfold rEq ansEq; rw [beq_sw x.1, beq_sw x.2.1, beq_sw x.2.2.2.1, beq_sw x.2.2.2.2.1, intsEq_symm, allEq_symm _ aEq_symm]

set_option maxHeartbeats 2000000 in
set_option maxRecDepth 100000 in
theorem neq_why (x y : MW) (w : World) : (binOp .neq 32 (.agg (encW x).toArray) (.agg (encW y).toArray)).run Try.prog w = .ok (.bool (!wEq x y)) w := by
  obtain ⟨x1, x2, x3, x4, x5, x6, x7, x8⟩ := x
  obtain ⟨y1, y2, y3, y4, y5, y6, y7, y8⟩ := y
  simp only [encW, wEq]
  generalize h1 : (x1 == y1) = b1
  generalize h2 : (x2 == y2) = b2
  generalize h3 : (x3 == y3) = b3
  generalize h4 : (x4.toList == y4.toList) = b4
  generalize h5 : (x5 == y5) = b5
  generalize h6 : (x6 == y6) = b6
  generalize h7 : (x7 == y7) = b7
  generalize h8 : (x8 == y8) = b8
  cases b1
  · simp [go_sem, h1]
  cases b2
  · simp [go_sem, h1, h2]
  cases b3
  · simp [go_sem, h1, h2, h3]
  cases b4
  · simp [go_sem, h1, h2, h3, h4]
  cases b5
  · simp [go_sem, h1, h2, h3, h4, h5]
  cases b6
  · simp [go_sem, h1, h2, h3, h4, h5, h6]
  cases b7
  · simp [go_sem, h1, h2, h3, h4, h5, h6, h7]
  cases b8
  · simp [go_sem, h1, h2, h3, h4, h5, h6, h7, h8]
  simp [go_sem, h1, h2, h3, h4, h5, h6, h7, h8]
end Go.Proofs.Ytampofijmepjjaa
