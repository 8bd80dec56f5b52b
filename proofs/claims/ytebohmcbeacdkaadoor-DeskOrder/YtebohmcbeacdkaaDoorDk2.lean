/-
  Walk of desk's Parse.
-/
import Derived.Test.YtebohmcbeacdkaaDoorDk1
namespace Go.Proofs.YtebohmcbeacdkaaDoor
set_option linter.unusedVariables false
set_option linter.unusedSimpArgs false
open Go.RowKit

/-- The box of a result of the type Options. -/
structure RB (rb : Nat) (w : World) : Prop where
  c0 : w.cell? ⟨rb, 0, none⟩ = some (.bool false)
  c1 : w.cell? ⟨rb, 1, none⟩ = some (.bool false)
  c2 : w.cell? ⟨rb, 2, none⟩ = some (.int .i64 0)
  z0 : w.frozen? ⟨rb, 0, none⟩ = false
  z1 : w.frozen? ⟨rb, 1, none⟩ = false
  z2 : w.frozen? ⟨rb, 2, none⟩ = false
theorem RB.new (w : World) : RB w.heap.size (w.alloc (.cells #[.bool false, .bool false, .int .i64 0] 23)) :=
  ⟨by simp, by simp, by simp, by simp, by simp, by simp⟩
theorem RB.same {rb : Nat} {w w' : World} (h : RB rb w) (hb : w'.heap[rb]? = w.heap[rb]?) : RB rb w' := by
  have k : ∀ i, w'.cell? ⟨rb, i, none⟩ = w.cell? ⟨rb, i, none⟩ := fun i => World.cell?_of_block (w := w) hb
  have f : ∀ i, w'.frozen? ⟨rb, i, none⟩ = w.frozen? ⟨rb, i, none⟩ := fun i => by unfold World.frozen?; rw [hb]
  exact ⟨(k 0).trans h.c0, (k 1).trans h.c1, (k 2).trans h.c2, (f 0).trans h.z0, (f 1).trans h.z1, (f 2).trans h.z2⟩
theorem RB.lt {rb : Nat} {w : World} (h : RB rb w) : rb < w.heap.size := World.block_lt_of_cell? _ _ h.c0
theorem AC.new (w : World) : AC w.heap.size (w.alloc (.cells #[.bool false, .bool false, .int .i64 0, .bool false, .bool false] 41)) MOpt.none false :=
  ⟨by simp [MOpt.none], by simp [MOpt.none], by simp [MOpt.none], by simp [MOpt.none], by simp, by simp, by simp, by simp, by simp, by simp⟩

/-- What Parse answers. -/
def parseV : Except (Int × Int) MOpt → Value
  | .ok o => .tuple #[.agg #[.bool o.real, .bool o.search, .int .i64 o.steps], .bool o.echo, .nilIface]
  | .error (a, y) => .tuple #[.agg #[.bool false, .bool false, .int .i64 0], .bool false, .iface 46 (.agg #[.int .i64 a, .int .i64 y])]

theorem optM_err {s : ByteArray} {a y : Nat} (h : scanM s = .error (a, y)) : optM s = .error ((a : Int), (y : Int)) := by unfold optM; rw [h]
theorem optM_ok {s : ByteArray} {l : List MTok} (h : scanM s = .ok l) : optM s = (match fin s.size (takes l MOpt.none false) with | .error a => .error (a, 240) | .ok o => .ok o) := by unfold optM; rw [h]; rfl

theorem takes_at {l : List MTok} {k : Nat} (h : k < l.length) (o : MOpt) (op : Bool) : takes (l.drop k) o op = (match take1 o op (l.getD k default) with | Option.none => .error (l.getD k default).2.1 | some (o', op') => takes (l.drop (k + 1)) o' op') := by
  rw [List.drop_eq_getElem_cons h]
  rw [show l.getD k default = l[k] by simp [List.getD, List.getElem?_eq_getElem h]]
  rfl

set_option maxRecDepth 100000 in
set_option maxHeartbeats 4000000 in
theorem parse_err (s : ByteArray) (w : World) (te : TypeId) (pe : Value) (hv : w.cell? ⟨2, 0, none⟩ = some (.iface te pe)) (a y : Nat) (hS : scanM s = .error (a, y)) :
    Calls Tryd.prog 5 #[.string s] w fun e w' => e = .returned (parseV (optM s)) ∧ Below w.heap.size w w' := by
  have h9 := scan_any s (w.alloc (.cells #[.bool false, .bool false, .int .i64 0] 23)) te pe (Lib.cell?_alloc_some _ hv)
  rw [optM_err hS]
  rw [hS] at h9
  have H9 := hidD h9
  clear h9 hS hv
  go_enter Tryd.func5, Tryd.ntmps5
  go_wp2_with fail
  refine H9.out.mono ?_
  rintro e w1 ⟨he, b1⟩
  simp only [ScanPost] at he
  subst he
  have hR := (RB.new w).same (b1.block _ (by simp))
  have B1 := hidD ((below_new w (.cells #[.bool false, .bool false, .int .i64 0] 23)).trans (b1.mono (by simp)))
  obtain ⟨g0, g1, g2, z0, z1, z2⟩ := hR
  clear b1
  go_wp2_with fail
  exact bodyPost_ret (v := parseV (.error ((a : Int), (y : Int)))) (by simp [results, go_sem, g0, g1, g2, parseV]) rfl ⟨rfl, ((B1.out.setCell (Nat.le_refl _) _).setCell (Nat.le_refl _) _).setCell (Nat.le_refl _) _⟩
end Go.Proofs.YtebohmcbeacdkaaDoor
