/-
  Walk of the scanner's Scan.
-/
import Derived.Test.YtlkmciegpmpbbaaDoorS1
import Derived.Lib.SliceRun
import Derived.Test.YtlkmciegpmpbbaaDoorMem
import Derived.WalkMore
import Derived.Deep.QuietTactic
import Derived.BigQuiet
namespace Go.Proofs.YtlkmciegpmpbbaaDoor
set_option linter.unusedVariables false
set_option linter.unusedSimpArgs false
open Go.RowKit

theorem below_drewN {B : Nat} {w w' : World} (h : Below B w w') (q : Nat) : Below B w (w'.drewN q) := ⟨h.os, h.tape, h.output, h.size, h.block⟩

/-- A token's four cells. -/
def TokRow (_ : Nat → Prop) (_ : World) (cs : List Value) (t : MTok) : Prop := cs = [.int .i64 t.1, .int .i64 t.2.1, .string t.2.2.1, .int .i64 t.2.2.2]
theorem tokRow_keep (S T : Nat → Prop) (w w' : World) (cs : List Value) (x : MTok) (h : TokRow S w cs x) (_ : KeepsIn S w w') (_ : ∀ b, b < w.heap.size → S b → T b) : TokRow T w' cs x := h
theorem Tryd.infoTok : (Tryd.prog.info? 38).map (fun i => (i.zero, i.size, i.bytes)) = some (some (.agg #[.int .i64 0, .int .i64 0, .string ByteArray.empty, .int .i64 0]), 4, 40) := by kernel_rfl

def ToksIn (S : Nat → Prop) (w : World) (v : Value) (l : List MTok) : Prop := RowsIn 4 40 (TokRow S w) S w v l

/-- A world in which the token's box lies, and all older blocks as they were. -/
structure Box (wr W : World) (kd i nm : Int) : Prop where
  below : Below wr.heap.size wr W
  size : wr.heap.size + 1 ≤ W.heap.size
  c0 : W.cell? ⟨wr.heap.size, 0, none⟩ = some (.int .i64 kd)
  c1 : W.cell? ⟨wr.heap.size, 1, none⟩ = some (.int .i64 i)
  c2 : W.cell? ⟨wr.heap.size, 2, none⟩ = some (.string ByteArray.empty)
  c3 : W.cell? ⟨wr.heap.size, 3, none⟩ = some (.int .i64 nm)
  z2 : W.frozen? ⟨wr.heap.size, 2, none⟩ = false
  z3 : W.frozen? ⟨wr.heap.size, 3, none⟩ = false

theorem Box.later {wr W W' : World} {kd i nm : Int} (h : Box wr W kd i nm) (hb : Below W.heap.size W W') : Box wr W' kd i nm :=
  have hl : wr.heap.size < W.heap.size := h.size
  ⟨h.below.trans (hb.mono (by omega)), Nat.le_trans h.size hb.size, (hb.cell (p := ⟨wr.heap.size, 0, none⟩) hl).trans h.c0, (hb.cell (p := ⟨wr.heap.size, 1, none⟩) hl).trans h.c1, (hb.cell (p := ⟨wr.heap.size, 2, none⟩) hl).trans h.c2, (hb.cell (p := ⟨wr.heap.size, 3, none⟩) hl).trans h.c3, (hb.frozen (p := ⟨wr.heap.size, 2, none⟩) hl).trans h.z2, (hb.frozen (p := ⟨wr.heap.size, 3, none⟩) hl).trans h.z3⟩

theorem Box.new (wr : World) (kd i nm : Int) : Box wr (wr.alloc (.cells #[.int .i64 kd, .int .i64 i, .string ByteArray.empty, .int .i64 nm] 38)) kd i nm :=
  ⟨(Below.refl _ wr).alloc (Nat.le_refl _) _, by simp, by simp, by simp, by simp, by simp, by simp, by simp⟩

theorem numM_err {s : ByteArray} {i a y : Nat} (h : numM s i = .error (a, y)) : ((y : Int) != 0) = true := by
  unfold numM at h
  split at h
  · cases h; rfl
  · split at h
    · cases h; rfl
    · split at h
      · cases h; rfl
      · cases h

theorem left_good {s : ByteArray} {i k : Nat} {acc : List MTok} {t : MTok} (HL : left s 0 [] = left s i acc) (h : i < s.size) (hb : ¬ bt s i = 32) (ht : tokM s i = .ok (t, k)) : left s 0 [] = left s k (acc ++ [t]) := HL.trans (left_tok acc h hb ht)

/-- What Scan answers. -/
def ScanPost (w : World) (r : Except (Nat × Nat) (List MTok)) (e : Ending) (w' : World) : Prop :=
  match r with
  | .ok l => ∃ v, e = .returned (.tuple #[v, .nilIface]) ∧ ToksIn (fun b => w.heap.size ≤ b) w' v l
  | .error (a, y) => e = .returned (.tuple #[.slice none 0 0, .iface 40 (.agg #[.int .i64 a, .int .i64 y])])

end Go.Proofs.YtlkmciegpmpbbaaDoor
