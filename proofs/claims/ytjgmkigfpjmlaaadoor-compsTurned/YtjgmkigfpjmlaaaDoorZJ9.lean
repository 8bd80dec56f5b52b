/-
  drawn once more: no edge of a graph leads to where it begins; graphs by other functions that are alike.
-/
import Derived.Test.YtjgmkigfpjmlaaaDoorZJ7
namespace Go.Proofs.YtjgmkigfpjmlaaaDoor
set_option linter.unusedVariables false
set_option linter.unusedSimpArgs false
open Go.RowKit

set_option maxRecDepth 100000 in
theorem turn_is (b n r : Nat) (bk ck : Nat → Nat) (L : Nat → Nat → Nat) (w : World) (h : Graph w b n r bk ck L) (hT : Tab w) :
    Calls Tryd.prog 19 #[.pointer (some ⟨b, 0, none⟩)] w fun e w' => (∃ b' r' bk' ck', e = .returned (.pointer (some ⟨b', 0, none⟩)) ∧ Graph w' b' n r' bk' ck' (((allE L n n).map fun e => (e.2.1, e.1, e.2.2)).foldl (stepE n) (fun _ _ => 0)) ∧ ∀ k, k < 4 * n → w.heap.size ≤ ck' k) ∧ Below w.heap.size w w' := by
  have H := hid (redrawT b n r bk ck L w h hT)
  clear h hT
  go_enter Tryd.func19, Tryd.ntmps19
  go_wp2_with fail
  refine H.out.mono ?_
  rintro e w' ⟨⟨b', r', bk', ck', rfl, h1, h2⟩, h3⟩
  have G1 := hid h1
  have L1 := hid h2
  have B1 := hid h3
  clear h1 h2 h3 H
  go_wp2_with fail
  go_ret
  first | exact ⟨⟨_, rfl, r', bk', ck', G1.out, L1.out⟩, B1.out⟩ | exact ⟨⟨_, r', bk', ck', rfl, G1.out, L1.out⟩, B1.out⟩

theorem Graph.beyond {w : World} {b n r : Nat} {bk ck : Nat → Nat} {L : Nat → Nat → Nat} (h : Graph w b n r bk ck L) (f t : Nat) (hf : f < n) (ht : n ≤ t) : L f t = 0 := by
  apply Nat.eq_of_testBit_eq
  intro i
  rw [Nat.zero_testBit]
  by_cases hi : i < 4
  · have h1 := (h.sets (4 * f + i) (by omega)).top t ht
    have e1 : (4 * f + i) / 4 = f := by omega
    have e2 : (4 * f + i) % 4 = i := by omega
    rw [e1, e2] at h1
    exact h1
  · exact Nat.testBit_lt_two_pow (Nat.lt_of_lt_of_le (h.small f t) (Nat.pow_le_pow_right (n := 2) (i := 4) (by decide) (by omega)))
theorem Graph.congr {w : World} {b n r : Nat} {bk ck : Nat → Nat} {L L' : Nat → Nat → Nat} (h : Graph w b n r bk ck L) (he : ∀ f t, f < n → L f t = L' f t) (hs : ∀ f t, L' f t < 16) : Graph w b n r bk ck L' := by
  refine ⟨h.box, h.row, fun k hk => ?_, h.apart, hs, h.bound⟩
  have e : (fun to' => (L' (k / 4) to').testBit (k % 4)) = (fun to' => (L (k / 4) to').testBit (k % 4)) := by
    funext t
    rw [he (k / 4) t (by omega)]
  rw [e]
  exact h.sets k hk
theorem RefG.congr {w : World} {b n : Nat} {v : Value} {rw' : Nat → Nat} {L L' : Nat → Nat → Nat} (h : RefG w b n v rw' L) (he : ∀ f t, f < n → t < n → L f t = L' f t) (hs : ∀ f t, L' f t < 16) : RefG w b n v rw' L' := by
  refine ⟨h.box, h.rows, fun i hi => ?_, h.apart, hs, h.bound⟩
  obtain ⟨cur, h1, h2, h3⟩ := h.each i hi
  exact ⟨cur, h1, h2, fun j hj => by rw [← he i j hi hj]; exact h3 j hj⟩
/-- The turned labels. -/
def turnL (L : Nat → Nat → Nat) (n : Nat) : Nat → Nat → Nat := fun f t => if f < n ∧ t < n then L t f else 0
theorem turnL_small (L : Nat → Nat → Nat) (n : Nat) (h : ∀ f t, L f t < 16) (f t : Nat) : turnL L n f t < 16 := by
  unfold turnL
  split
  · exact h t f
  · decide
theorem turnL_diag (L : Nat → Nat → Nat) (n : Nat) (h : ∀ f, L f f = 0) (f : Nat) : turnL L n f f = 0 := by
  unfold turnL
  split
  · exact h f
  · rfl
theorem Graph.turned {w : World} {b n r : Nat} {bk ck : Nat → Nat} {L : Nat → Nat → Nat} (h : Graph w b n r bk ck (((allE L n n).map fun e => (e.2.1, e.1, e.2.2)).foldl (stepE n) (fun _ _ => 0))) (hs : ∀ f t, L f t < 16) (hd : ∀ f, L f f = 0) : Graph w b n r bk ck (turnL L n) := by
  refine h.congr (fun f t hf => ?_) (turnL_small L n hs)
  unfold turnL
  by_cases ht : t < n
  · rw [if_pos ⟨hf, ht⟩]
    exact fold_turn L n hs hd f t hf ht
  · rw [if_neg (fun c => ht c.2)]
    exact h.beyond f t hf (by omega)
theorem RefG.turned {w : World} {b n : Nat} {v : Value} {rw' : Nat → Nat} {L : Nat → Nat → Nat} (h : RefG w b n v rw' (((allE L n n).map fun e => (e.2.1, e.1, e.2.2)).foldl (stepE n) (fun _ _ => 0))) (hs : ∀ f t, L f t < 16) (hd : ∀ f, L f f = 0) : RefG w b n v rw' (turnL L n) := by
  refine h.congr (fun f t hf ht => ?_) (turnL_small L n hs)
  unfold turnL
  rw [if_pos ⟨hf, ht⟩]
  exact fold_turn L n hs hd f t hf ht
/-- Turned twice. -/
theorem Graph.back {w : World} {b n r : Nat} {bk ck : Nat → Nat} {L : Nat → Nat → Nat} (h : Graph w b n r bk ck (turnL (turnL L n) n)) (hs : ∀ f t, L f t < 16) (hb : ∀ f t, f < n → n ≤ t → L f t = 0) : Graph w b n r bk ck L := by
  refine h.congr (fun f t hf => ?_) hs
  unfold turnL
  by_cases ht : t < n
  · rw [if_pos ⟨hf, ht⟩, if_pos ⟨ht, hf⟩]
  · rw [if_neg (fun c => ht c.2), hb f t hf (by omega)]
end Go.Proofs.YtjgmkigfpjmlaaaDoor
