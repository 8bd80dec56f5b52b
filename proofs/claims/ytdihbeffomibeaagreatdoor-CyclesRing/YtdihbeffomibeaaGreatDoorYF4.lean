/-
  The law DepsFinds.
-/
import Derived.Test.YtdihbeffomibeaaGreatDoorYF3
import Derived.Laws.AppendOwnNone
namespace Go.Proofs.YtdihbeffomibeaaGreatDoor
set_option linter.unusedVariables false
set_option linter.unusedSimpArgs false
open Go.RowKit Go.Lib

def consW (x : MW) (f : Nat → MW) : Nat → MW := fun j => if j = 0 then x else f (j - 1)
theorem rowsW_cons (x : MW) (f : Nat → MW) (m : Nat) : (rowsW (consW x f) (m + 1)).flatten = encW x ++ (rowsW f m).flatten := by
  simp [rowsW, List.range_succ_eq_map, consW, Function.comp_def]
theorem owns_one (w : World) (x0 x1 x2 : Int) (x3 : ByteArray) (x4 x5 : Int) (x6 x7 : Bool) : (w.alloc (.cells #[.int .i64 x0, .int .i64 x1, .int .i64 x2, .string x3, .int .i64 x4, .int .i64 x5, .bool x6, .bool x7] 25)).ownsRow w.heap.size 25 8 (.slice (some ⟨w.heap.size, 0, none⟩) 1 1) 1 (encW (x0, x1, x2, x3, x4, x5, x6, x7)) :=
  ⟨rfl, .inr ⟨w.heap.size, 1, _, rfl, Nat.le_refl _, heap_alloc_new w _, Nat.le_refl _, by decide, rfl, rfl⟩⟩
theorem toArr (x0 x1 x2 : Int) (x3 : ByteArray) (x4 x5 : Int) (x6 x7 : Bool) : (encW (x0, x1, x2, x3, x4, x5, x6, x7)).toArray = #[.int .i64 x0, .int .i64 x1, .int .i64 x2, .string x3, .int .i64 x4, .int .i64 x5, .bool x6, .bool x7] := rfl

/-- An append of dependencies, or of none, to a row of one's own. -/
theorem wpList_append_why {ops : Array Oper} {rest : List Oper} {o : Oper} {a : Act} {Q : Exit → Act → World → Prop} (w : World) (hgd : o.guard = none) (s x : Operand)
    (ho : o.op = .call { callee := .builtin .append, args := #[s, x], argTypes := #[22, 22] }) (base : Nat) (v : Value) (n : Nat) (xs : List Value) (hs : a.eval s = v) (hown : w.ownsRow base 25 8 v n xs)
    (ao : Option Addr) (m c : Nat) (f : Nat → MW) (hx : a.eval x = .slice ao m c) (hl : Lw w ao m f) (hnil : ao = none → m = 0 ∧ c = 0) (hm : n + m ≤ 1000) (hbase : base ≤ w.heap.size)
    (h : ∀ v' w', w'.ownsRow base 25 8 v' (n + m) (xs ++ (rowsW f m).flatten) → w.grownBy w' v.ownBlock → wpList Tryz.prog ops Q rest (a.put o.dst v') w') : wpList Tryz.prog ops Q (o :: rest) a w := by
  obtain ⟨i0, hi, hz0, hz1, hz2⟩ := info_parts Tryz.infoW
  cases ao with
  | none =>
    obtain ⟨rfl, rfl⟩ := hnil rfl
    exact wpList_append_own_none hgd s x 22 ho base 25 i0 8 Tryz.underlying22 hi v n xs hs hown hx (h v w (by simpa [rowsW] using hown) (World.grownBy.refl _ _))
  | some ad =>
    exact wpList_append_own w hgd s x 22 ho base 25 i0 _ 8 64 Tryz.underlying22 hi hz0 hz1 hz2 rfl (by decide) v n xs hs hown ad m c (rowsW f m).flatten hx (by rw [flatten_len 8 _ (rowsW_size f m), rowsW_len]) (fun j u hj => hl.news j u hj) (rowsW_one f m) (by unfold maxLen; omega) (by omega) hbase (fun v' w' h1 h2 _ => h v' w' h1 h2)end Go.Proofs.YtdihbeffomibeaaGreatDoor
