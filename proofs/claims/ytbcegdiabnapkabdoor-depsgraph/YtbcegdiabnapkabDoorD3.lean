/-
  How many edges there are: as many as keys of which each edge has one. Plain.
-/
import Derived.Test.YtbcegdiabnapkabDoorD2
import Derived.Test.YtbcegdiabnapkabDoorH4
namespace Go.Proofs.YtbcegdiabnapkabDoor
set_option linter.unusedVariables false
set_option linter.unusedSimpArgs false
open Go.RowKit

/-- Where the edges of the first k nodes lie. -/
def keysE (L : Nat → Nat → Nat) (n k : Nat) : List (Nat × Nat) := (allE L n k).map fun e => (e.1, e.2.1)
theorem keysE_succ (L : Nat → Nat → Nat) (n k : Nat) : keysE L n (k + 1) = keysE L n k ++ (lst (endsF L k 15 4) n).map (fun t => (k, t)) := by
  unfold keysE
  rw [allE_succ, List.map_append]
  unfold rowE
  rw [List.map_map]
  rfl
theorem ends_iff (L : Nat → Nat → Nat) (f t : Nat) (hx : L f t < 16) : endsF L f 15 4 t = true ↔ L f t ≠ 0 := by
  have h := ends_15 L f t hx
  cases he : endsF L f 15 4 t with
  | true =>
    rw [he] at h
    simp at h
    simp only [true_iff]
    omega
  | false =>
    rw [he] at h
    simp at h
    simp [h]
theorem keysE_mem (L : Nat → Nat → Nat) (n : Nat) (hs : ∀ f t, L f t < 16) (p : Nat × Nat) : ∀ k, p ∈ keysE L n k ↔ p.1 < k ∧ p.2 < n ∧ L p.1 p.2 ≠ 0
  | 0 => by simp [keysE, allE]
  | k + 1 => by
    rw [keysE_succ, List.mem_append, keysE_mem L n hs p k]
    unfold lst
    simp only [List.mem_map, List.mem_filter, List.mem_range]
    constructor
    · rintro (⟨h1, h2, h3⟩ | ⟨t, ⟨h1, h2⟩, rfl⟩)
      · exact ⟨by omega, h2, h3⟩
      · exact ⟨Nat.lt_succ_self _, h1, (ends_iff L k t (hs _ _)).1 h2⟩
    · rintro ⟨h1, h2, h3⟩
      by_cases e : p.1 = k
      · exact .inr ⟨p.2, ⟨h2, (ends_iff L k p.2 (hs _ _)).2 (by rw [← e]; exact h3)⟩, by rw [← e]⟩
      · exact .inl ⟨by omega, h2, h3⟩
theorem keysE_nodup (L : Nat → Nat → Nat) (n : Nat) (hs : ∀ f t, L f t < 16) : ∀ k, (keysE L n k).Nodup
  | 0 => by simp [keysE, allE]
  | k + 1 => by
    rw [keysE_succ]
    refine List.nodup_append.2 ⟨keysE_nodup L n hs k, ?_, fun a ha b hb e => ?_⟩
    · rw [List.nodup_iff_pairwise_ne, List.pairwise_map]
      unfold lst
      refine (List.Pairwise.filter _ List.pairwise_lt_range).imp (fun {a b} hab e => ?_)
      have : a = b := congrArg Prod.snd e
      omega
    · subst e
      have h1 := ((keysE_mem L n hs a k).1 ha).1
      obtain ⟨t, _, rfl⟩ := List.mem_map.1 hb
      exact Nat.lt_irrefl _ h1
/-- As many keys as edges. -/
theorem keys_count (L : Nat → Nat → Nat) (n : Nat) (hs : ∀ f t, L f t < 16) (l : List (Nat × Nat)) (hn : l.Nodup) (hm : ∀ p, p ∈ l ↔ p.1 < n ∧ p.2 < n ∧ L p.1 p.2 ≠ 0) : l.length = (allE L n n).length := by
  have h := ((List.perm_ext_iff_of_nodup hn (keysE_nodup L n hs n)).2 (fun p => by rw [hm p, keysE_mem L n hs p n])).length_eq
  rw [h]
  simp [keysE]
end Go.Proofs.YtbcegdiabnapkabDoor
