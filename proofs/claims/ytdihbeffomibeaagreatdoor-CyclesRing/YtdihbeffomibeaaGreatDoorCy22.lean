/-
  An append of dependencies as one operation of a drawn region.
-/
import Derived.Test.YtdihbeffomibeaaGreatDoorCy21
namespace Go.Proofs.YtdihbeffomibeaaGreatDoor
set_option linter.unusedVariables false
set_option linter.unusedSimpArgs false
open Go.RowKit Go.Lib Go.Maps

theorem wp_append_why {o : Oper} {a : Act} {K : Act → World → Prop} {Q : Exit → Act → World → Prop} (w : World) (s x : Operand)
    (ho : o.op = .call { callee := .builtin .append, args := #[s, x], argTypes := #[22, 22] }) (base : Nat) (v : Value) (n : Nat) (xs : List Value) (hs : a.eval s = v) (hown : w.ownsRow base 25 8 v n xs)
    (ad : Addr) (m c : Nat) (f : Nat → MW) (hx : a.eval x = .slice (some ad) m c) (hl : Lw w (some ad) m f) (hm : n + m ≤ 1000) (hbase : base ≤ w.heap.size)
    (h : ∀ v' w', w'.ownsRow base 25 8 v' (n + m) (xs ++ (rowsW f m).flatten) → w.grownBy w' v.ownBlock → K (a.put o.dst v') w') : o.wp Tryz.prog a w K Q := by
  obtain ⟨i0, hi, hz0, hz1, hz2⟩ := info_parts Tryz.infoW
  exact wp_append_own w s x 22 ho base 25 i0 _ 8 64 Tryz.underlying22 hi hz0 hz1 hz2 rfl (by decide) v n xs hs hown ad m c (rowsW f m).flatten hx (by rw [flatten_len 8 _ (rowsW_size f m), rowsW_len]) (fun j u hj => hl.news j u hj) (rowsW_one f m) (by unfold maxLen; omega) (by omega) hbase (fun v' w' h1 h2 _ => h v' w' h1 h2)
/-- The first so many of one list, then those of another. -/
def catF (n : Nat) (f g : Nat → MW) (j : Nat) : MW := if j < n then f j else g (j - n)
theorem rows_cat (f g : Nat → MW) (n : Nat) : ∀ m, (rowsW (catF n f g) (n + m)).flatten = (rowsW f n).flatten ++ (rowsW g m).flatten := by
  intro m
  unfold rowsW
  rw [← List.flatten_append, List.range_add, List.map_append, List.map_map]
  congr 2
  · refine List.map_congr_left fun j hj => ?_
    have := List.mem_range.1 hj
    simp [catF, this]
  · refine List.map_congr_left fun j hj => ?_
    show encW (if n + j < n then f (n + j) else g (n + j - n)) = encW (g j)
    rw [if_neg (by omega), show n + j - n = j by omega]
theorem cut_cat {n X cut : Nat} (j : Nat) : catF cut (ringF n X) (fun j => ringF n X (cut + 1 + j)) j = cutF n X cut j := by
  unfold catF cutF
  by_cases h : j < cut
  · rw [if_pos h, if_pos h]
  · rw [if_neg h, if_neg h]
    show ringF n X (cut + 1 + (j - cut)) = ringF n X (j + 1)
    rw [show cut + 1 + (j - cut) = j + 1 by omega]
end Go.Proofs.YtdihbeffomibeaaGreatDoor
