/-
  A drawing, plain, and what is needed to draw it.
-/
import Derived.Test.YtcbflglnadmmfaaDoorPl11
namespace Go.Proofs.YtcbflglnadmmfaaDoor
set_option linter.unusedVariables false
set_option linter.unusedSimpArgs false
open Go.RowKit Go.Lib

def subAll : Bool := (List.range 21).all fun i => (List.range 21).all fun j =>
  floatBits .sub .f64 (fb ((i : Int) - 10)) (fb ((j : Int) - 10)) == some (fb ((i : Int) - j)) && floatToIntVal .f64 (fb ((i : Int) - j)) .i64 == some ((i : Int) - j)
theorem subAll_true : subAll = true := by decide +kernel
theorem sub_at (x y : Int) (h : -10 ≤ x ∧ x ≤ 10) (k : -10 ≤ y ∧ y ≤ 10) : floatBits .sub .f64 (fb x) (fb y) = some (fb (x - y)) ∧ floatToIntVal .f64 (fb (x - y)) .i64 = some (x - y) := by
  have h1 := subAll_true
  unfold subAll at h1
  rw [List.all_eq_true] at h1
  have h2 := h1 (x + 10).toNat (List.mem_range.2 (by omega))
  rw [List.all_eq_true] at h2
  have h3 := h2 (y + 10).toNat (List.mem_range.2 (by omega))
  have e : (((x + 10).toNat : Nat) : Int) - 10 = x := by omega
  have e' : (((y + 10).toNat : Nat) : Int) - 10 = y := by omega
  have e2 : (((x + 10).toNat : Nat) : Int) - ((y + 10).toNat : Nat) = x - y := by omega
  simp only [e, e', e2, Bool.and_eq_true, beq_iff_eq] at h3
  exact h3
theorem csub_at (p q : Int × Int) (h : -10 ≤ p.1 ∧ p.1 ≤ 10 ∧ -10 ≤ p.2 ∧ p.2 ≤ 10) (k : -10 ≤ q.1 ∧ q.1 ≤ 10 ∧ -10 ≤ q.2 ∧ q.2 ≤ 10) (w : World) :
    (binOp .sub 33 (.complex .f64 (fb p.1) (fb p.2)) (.complex .f64 (fb q.1) (fb q.2))).run Tryd.prog w = .ok (.complex .f64 (fb (p.1 - q.1)) (fb (p.2 - q.2))) w := by
  refine run_complex_sum w .sub (.inr rfl) 33 .f64 _ _ _ _ _ _ ?_
  unfold cSumBits
  rw [(sub_at p.1 q.1 (by omega) (by omega)).1, (sub_at p.2 q.2 (by omega) (by omega)).1]
  rfl
theorem conv_at (x y : Int) (h : -10 ≤ x ∧ x ≤ 10) (k : -10 ≤ y ∧ y ≤ 10) (w : World) : (convert 41 3 (.float .f64 (fb (x - y)))).run Tryd.prog w = .ok (.int .i64 (x - y)) w :=
  run_convert_float_int w 41 3 .f64 .i64 _ _ (by kernel_rfl) Tryd.underlying3 (sub_at x y h k).2
theorem lo_le (f : Nat → Int × Int) : ∀ m k, k < m → (lo f m).1 ≤ (f k).1 ∧ (lo f m).2 ≤ (f k).2
  | 0, k, h => by omega
  | m + 1, k, h => by
    by_cases e : k = m
    · subst e
      show min _ _ ≤ _ ∧ min _ _ ≤ _
      omega
    · have := lo_le f m k (by omega)
      show min _ _ ≤ _ ∧ min _ _ ≤ _
      omega
theorem hi_ge (f : Nat → Int × Int) : ∀ m k, k < m → (f k).1 ≤ (hi f m).1 ∧ (f k).2 ≤ (hi f m).2
  | 0, k, h => by omega
  | m + 1, k, h => by
    by_cases e : k = m
    · subst e
      show _ ≤ max _ _ ∧ _ ≤ max _ _
      omega
    · have := hi_ge f m k (by omega)
      show _ ≤ max _ _ ∧ _ ≤ max _ _
      omega
/-- How wide and how high. -/
def wid (f : Nat → Int × Int) (m : Nat) : Nat := ((hi f m).1 - (lo f m).1).toNat + 1
def hei (f : Nat → Int × Int) (m : Nat) : Nat := ((hi f m).2 - (lo f m).2).toNat + 1
def rowM (n : Nat) : List UInt8 := List.replicate n 46 ++ [10]
theorem rowM_len (n : Nat) : (rowM n).length = n + 1 := by simp [rowM]
/-- Where a place lies, and its letter. -/
def posM (f : Nat → Int × Int) (m k : Nat) : Nat := ((hi f m).2 - (f k).2).toNat * (wid f m + 1) + ((f k).1 - (lo f m).1).toNat
def letM (k : Nat) : UInt8 := UInt8.ofNat (97 + k % 26)
def sheetM (f : Nat → Int × Int) (m : Nat) : Nat → List UInt8
  | 0 => repL (rowM (wid f m)) (hei f m)
  | k + 1 => (sheetM f m k).set (posM f m k) (letM k)
theorem sheetM_len (f : Nat → Int × Int) (m : Nat) : ∀ k, (sheetM f m k).length = hei f m * (wid f m + 1)
  | 0 => by rw [sheetM, repL_len, rowM_len]
  | k + 1 => by rw [sheetM, List.length_set, sheetM_len f m k]
theorem pos_lt (f : Nat → Int × Int) (m k : Nat) (hk : k < m) : posM f m k < hei f m * (wid f m + 1) := by
  have h1 := lo_le f m k hk
  have h2 := hi_ge f m k hk
  unfold posM hei
  have a : ((hi f m).2 - (f k).2).toNat + 1 ≤ ((hi f m).2 - (lo f m).2).toNat + 1 := by omega
  have b : ((f k).1 - (lo f m).1).toNat < wid f m + 1 := by unfold wid; omega
  have c := Nat.mul_le_mul_right (wid f m + 1) a
  rw [Nat.succ_mul] at c
  omega
theorem wid_le (f : Nat → Int × Int) (m : Nat) (h : Near f m) (h0 : 0 < m) : wid f m ≤ 21 ∧ hei f m ≤ 21 ∧ (((hi f m).1 - (lo f m).1 : Int) = (wid f m : Int) - 1) ∧ (((hi f m).2 - (lo f m).2 : Int) = (hei f m : Int) - 1) := by
  have h1 := lo_range f m h h0 m (Nat.le_refl _)
  have h2 := hi_range f m h h0 m (Nat.le_refl _)
  have h3 := lo_le f m 0 h0
  have h4 := hi_ge f m 0 h0
  unfold wid hei
  omega
/-- A byte is put in. -/
theorem Buf.put {w0 wr : World} {h N : Nat} {acc : List UInt8} (hb : Buf w0 wr h N acc) (p : Nat) (hp : p < N) (x : UInt8) : Buf w0 (wr.setCell ⟨h, p, none⟩ (.int .u8 (x.toNat : Int))) h N (acc.set p x) where
  below := hb.below.setCell (p := ⟨h, p, none⟩) (Nat.le_refl _) _
  there := fun j hj => by
    by_cases e : j = p
    · subst e
      obtain ⟨u, hu⟩ := Option.isSome_iff_exists.1 (hb.there j hj)
      rw [World.cell?_setCell_same _ _ _ hu]
      rfl
    · rw [World.cell?_setCell_other _ _ _ _ (fun c => e (by have := congrArg Addr.off c; simp at this; omega))]
      exact hb.there j hj
  free := fun j hj => by
    rw [World.frozen?_setCell]
    exact hb.free j hj
  holds := fun j y hy => by
    rw [List.getElem?_set] at hy
    by_cases e : p = j
    · subst e
      rw [if_pos rfl] at hy
      split at hy
      · injection hy with hy
        subst hy
        obtain ⟨u, hu⟩ := Option.isSome_iff_exists.1 (hb.there p hp)
        exact World.cell?_setCell_same _ _ _ hu
      · cases hy
    · rw [if_neg e] at hy
      rw [World.cell?_setCell_other _ _ _ _ (fun c => e (by have := congrArg Addr.off c; simp at this; omega))]
      exact hb.holds j y hy
  fits := by rw [List.length_set]; exact hb.fits
theorem nextcap_small : ∀ n, n < 22 → Builtin.nextslicecap (n + 1) n ≤ 1000 := by decide
end Go.Proofs.YtcbflglnadmmfaaDoor
