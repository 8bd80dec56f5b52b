/-
  The law GraphLives.
-/
import Derived.Test.YtpkfpfflnncleabDoorI3
import Derived.Test.YtpkfpfflnncleabDoorB11
namespace Go.Proofs.YtpkfpfflnncleabDoor
set_option linter.unusedVariables false
set_option linter.unusedSimpArgs false
open Go.RowKit

/-- The labels of an edge, whatever is asked for. -/
def labZ (L : Nat → Nat → Nat) (n : Nat) (f t : Int) : Nat := if (0 ≤ f ∧ f < n) ∧ 0 ≤ t ∧ t < n then L f.toNat t.toNat else 0
theorem Graph.beyond {w : World} {b n r : Nat} {bk ck : Nat → Nat} {L : Nat → Nat → Nat} (h : Graph w b n r bk ck L) (f t : Nat) (hf : f < n) (ht : n ≤ t) : L f t = 0 := by
  apply Nat.eq_of_testBit_eq
  intro i
  rw [Nat.zero_testBit]
  by_cases hi : i < 4
  · have h1 := (h.sets (4 * f + i) (by omega)).top t ht
    have e1 : (4 * f + i) / 4 = f := by omega
    have e2 : (4 * f + i) % 4 = i := by omega
    rw [e1, e2] at h1
    exact h1
  · exact Nat.testBit_lt_two_pow (Nat.lt_of_lt_of_le (h.small f t) (Nat.pow_le_pow_right (n := 2) (i := 4) (by decide) (by omega)))
theorem labels_any (b n r : Nat) (f : Int) (bk ck : Nat → Nat) (L : Nat → Nat → Nat) (tt : Int) (w : World) (h : Graph w b n r bk ck L) :
    Calls Tryd.prog 17 #[.pointer (some ⟨b, 0, none⟩), .int .i64 f, .int .i64 tt] w fun e w' => e = .returned (.int .i64 (labZ L n f tt)) ∧ w = w' := by
  by_cases hf : 0 ≤ f ∧ f < n
  · obtain ⟨F, rfl⟩ : ∃ F : Nat, f = F := ⟨f.toNat, by omega⟩
    have e : labZ L n (F : Int) tt = labAt L F tt := by
      unfold labZ labAt
      by_cases h0 : 0 ≤ tt
      · rw [if_pos h0]
        by_cases h1 : tt < n
        · rw [if_pos ⟨hf, h0, h1⟩]; rfl
        · rw [if_neg (fun c => h1 c.2.2), h.beyond F tt.toNat (by omega) (by omega)]
      · rw [if_neg h0, if_neg (fun c => h0 c.2.1)]
    rw [e]
    exact labels_ok b n r F bk ck L tt w h (by omega)
  · have e : labZ L n f tt = 0 := by unfold labZ; rw [if_neg (fun c => hf c.1)]
    rw [e]
    exact labels_no b n r f bk ck L tt w h (by omega)
/-- The ends of a node's edges, whatever is asked for. -/
def outZ (L : Nat → Nat → Nat) (n : Nat) (f l : Int) : List Int := if 0 ≤ f ∧ f < n then (lst (endsF L f.toNat l 4) n).map (fun x : Nat => (x : Int)) else []
theorem outZ_len (L : Nat → Nat → Nat) (n : Nat) (f l : Int) : (outZ L n f l).length ≤ n := by
  unfold outZ
  split
  · rw [List.length_map]; exact lst_le _ _
  · simp
theorem out_any (b n r : Nat) (f : Int) (bk ck : Nat → Nat) (L : Nat → Nat → Nat) (l : Int) (w : World) (h : Graph w b n r bk ck L) (hT : Tab w) :
    Calls Tryd.prog 16 #[.pointer (some ⟨b, 0, none⟩), .int .i64 f, .int .i64 l] w fun e w' => (∃ ao cp, e = .returned (.slice ao (outZ L n f l).length cp) ∧ ArgIn w' ao (outZ L n f l)) ∧ Below w.heap.size w w' := by
  by_cases hf : 0 ≤ f ∧ f < n
  · obtain ⟨F, rfl⟩ : ∃ F : Nat, f = F := ⟨f.toNat, by omega⟩
    have e : outZ L n (F : Int) l = (lst (endsF L F l 4) n).map (fun x : Nat => (x : Int)) := by unfold outZ; rw [if_pos hf]; rfl
    rw [e]
    refine (out_ok b n r F bk ck L l w h (by omega) hT).mono ?_
    rintro e w' ⟨⟨v, rfl, hI⟩, bl⟩
    obtain ⟨ao, cp, hv, hA⟩ := hI.arg
    exact ⟨⟨ao, cp, by rw [hv], hA⟩, bl⟩
  · have e : outZ L n f l = [] := by unfold outZ; rw [if_neg hf]
    rw [e]
    refine (out_no b n r f bk ck L l w h (by omega)).mono ?_
    rintro e w' ⟨rfl, rfl⟩
    exact ⟨⟨none, 0, rfl, fun j hj => by simp at hj⟩, Below.refl _ _⟩
end Go.Proofs.YtpkfpfflnncleabDoor
