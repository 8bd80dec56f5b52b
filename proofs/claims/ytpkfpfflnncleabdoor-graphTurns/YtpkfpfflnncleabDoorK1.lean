/-
  Masks, one behind the other.
-/
import Derived.Test.YtpkfpfflnncleabDoorJ9
namespace Go.Proofs.YtpkfpfflnncleabDoor
set_option linter.unusedVariables false
set_option linter.unusedSimpArgs false
open Go.RowKit

/-- The labels under a mask. -/
def maskL (L : Nat → Nat → Nat) (n m : Nat) : Nat → Nat → Nat := fun f t => if f < n ∧ t < n then L f t &&& m else 0
theorem maskL_small (L : Nat → Nat → Nat) (n m : Nat) (h : ∀ f t, L f t < 16) (f t : Nat) : maskL L n m f t < 16 := by
  unfold maskL
  split
  · exact Nat.lt_of_le_of_lt Nat.and_le_left (h f t)
  · decide
theorem maskL_diag (L : Nat → Nat → Nat) (n m : Nat) (h : ∀ f, L f f = 0) (f : Nat) : maskL L n m f f = 0 := by
  unfold maskL
  split
  · rw [h f]; simp
  · rfl
theorem Graph.masked {w : World} {b n r : Nat} {bk ck : Nat → Nat} {L : Nat → Nat → Nat} {m : Nat} (h : Graph w b n r bk ck (((allE L n n).map fun e => (e.1, e.2.1, e.2.2 &&& m)).foldl (stepE n) (fun _ _ => 0))) (hs : ∀ f t, L f t < 16) (hd : ∀ f, L f f = 0) : Graph w b n r bk ck (maskL L n m) := by
  refine h.congr (fun f t hf => ?_) (maskL_small L n m hs)
  unfold maskL
  by_cases ht : t < n
  · rw [if_pos ⟨hf, ht⟩]
    exact fold_only L n m hs hd f t hf ht
  · rw [if_neg (fun c => ht c.2)]
    exact h.beyond f t hf (by omega)
theorem RefG.masked {w : World} {b n : Nat} {v : Value} {rw' : Nat → Nat} {L : Nat → Nat → Nat} {m : Nat} (h : RefG w b n v rw' (((allE L n n).map fun e => (e.1, e.2.1, e.2.2 &&& m)).foldl (stepE n) (fun _ _ => 0))) (hs : ∀ f t, L f t < 16) (hd : ∀ f, L f f = 0) : RefG w b n v rw' (maskL L n m) := by
  refine h.congr (fun f t hf ht => ?_) (maskL_small L n m hs)
  unfold maskL
  rw [if_pos ⟨hf, ht⟩]
  exact fold_only L n m hs hd f t hf ht
theorem Graph.whole {w : World} {b n r : Nat} {bk ck : Nat → Nat} {L : Nat → Nat → Nat} (h : Graph w b n r bk ck (maskL L n 15)) (hs : ∀ f t, L f t < 16) (hb : ∀ f t, f < n → n ≤ t → L f t = 0) : Graph w b n r bk ck L := by
  refine h.congr (fun f t hf => ?_) hs
  unfold maskL
  by_cases ht : t < n
  · rw [if_pos ⟨hf, ht⟩]
    exact and_15 _ (hs f t)
  · rw [if_neg (fun c => ht c.2), hb f t hf (by omega)]
theorem maskL_mask (L : Nat → Nat → Nat) (n a b : Nat) : maskL (maskL L n a) n b = maskL L n (a &&& b) := by
  funext f t
  unfold maskL
  split
  · rw [Nat.and_assoc]
  · rfl
theorem maskL_none (L : Nat → Nat → Nat) (n : Nat) (h : ∀ f t, L f t < 16) : ed (maskL L n 0) n = [] := by
  unfold ed
  rw [List.map_eq_nil_iff, List.eq_nil_iff_forall_not_mem]
  intro e he
  obtain ⟨f, t, hf, ht, h0, _⟩ := (mem_allE _ n (maskL_small L n 0 h) e).1 he
  apply h0
  unfold maskL
  rw [if_pos ⟨hf, ht⟩]
  simp
theorem and_mod16 (a b : Int) : ((BitVec.ofInt 64 a &&& BitVec.ofInt 64 b).toNat) % 2 ^ 4 = (a % 16).toNat &&& (b % 16).toNat := by
  have ha : (BitVec.ofInt 64 a).toNat % 2 ^ 4 = (a % 16).toNat := by rw [BitVec.toNat_ofInt]; omega
  have hb : (BitVec.ofInt 64 b).toNat % 2 ^ 4 = (b % 16).toNat := by rw [BitVec.toNat_ofInt]; omega
  rw [BitVec.toNat_and, Nat.and_mod_two_pow, ha, hb]
theorem wrap_mod16 (N : Nat) : (IntKind.i64.wrap (N : Int) % 16).toNat = N % 2 ^ 4 := by
  rw [IntKind.wrap_i64]
  omega
theorem mask_and (a b : Int) : ((bits .and .i64 a b) % 16).toNat = (a % 16).toNat &&& (b % 16).toNat := by
  rw [← and_mod16, ← wrap_mod16]
  rfl
end Go.Proofs.YtpkfpfflnncleabDoor
