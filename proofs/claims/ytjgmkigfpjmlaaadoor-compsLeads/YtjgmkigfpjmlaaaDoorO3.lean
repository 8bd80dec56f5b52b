/-
  Plain: the counts while an order is made.
-/
import Derived.Test.YtjgmkigfpjmlaaaDoorO2
namespace Go.Proofs.YtjgmkigfpjmlaaaDoor
set_option linter.unusedVariables false
set_option linter.unusedSimpArgs false

/-- How many edges lead to a node from nodes that are not placed; -1 of one that is. -/
def cl (E : Nat → Nat → Bool) (n : Nat) (l : List Nat) (v : Nat) : Int := if v ∈ l then -1 else ((Pop.cnt (fun u => !(l.contains u) && E u v) n : Nat) : Int)
/-- The same while k is placed and the ends below t of its edges are done. -/
def cm (E : Nat → Nat → Bool) (n : Nat) (l : List Nat) (k t v : Nat) : Int := if v ∈ l ++ [k] then -1 else ((Pop.cnt (fun u => !(l.contains u) && E u v) n : Nat) : Int) - (if v < t ∧ E k v = true then 1 else 0)
theorem cnt_pos (f : Nat → Bool) (n : Nat) : Pop.cnt f n = 0 ↔ ∀ u, u < n → f u = false := by
  induction n with
  | zero => exact ⟨fun _ u hu => by omega, fun _ => rfl⟩
  | succ n ih =>
    show Pop.cnt f n + (f n).toNat = 0 ↔ _
    constructor
    · intro h u hu
      by_cases e : u = n
      · subst e
        cases hf : f u with
        | false => rfl
        | true => rw [hf] at h; simp at h
      · exact (ih.1 (by omega)) u (by omega)
    · intro h
      rw [ih.2 (fun u hu => h u (by omega)), h n (by omega)]
      rfl
theorem cl_nil (E : Nat → Nat → Bool) (n v : Nat) : cl E n [] v = ((Pop.cnt (fun u => E u v) n : Nat) : Int) := by
  unfold cl
  rw [if_neg (by simp)]
  simp
theorem cl_free {E : Nat → Nat → Bool} {n : Nat} {l : List Nat} {v : Nat} (hv : v < n) : cl E n l v = 0 ↔ Free E n l v := by
  unfold cl Free
  by_cases h : v ∈ l
  · rw [if_pos h]
    exact ⟨fun h => by omega, fun h2 => absurd h h2.2.1⟩
  · rw [if_neg h]
    have e : (((Pop.cnt (fun u => !(l.contains u) && E u v) n : Nat) : Int) = 0) ↔ (Pop.cnt (fun u => !(l.contains u) && E u v) n = 0) := by omega
    rw [e, cnt_pos]
    constructor
    · intro hc
      refine ⟨hv, h, fun m hm hml => ?_⟩
      have := hc m hm
      simpa [hml] using this
    · rintro ⟨_, _, hc⟩ u hu
      by_cases hul : u ∈ l
      · simp [hul]
      · simp [hc u hu hul]
theorem cl_range (E : Nat → Nat → Bool) (n : Nat) (l : List Nat) (v : Nat) : -1 ≤ cl E n l v ∧ cl E n l v ≤ n := by
  unfold cl
  split
  · omega
  · have := Pop.cnt_le (fun u => !(l.contains u) && E u v) n
    omega
theorem cm_range (E : Nat → Nat → Bool) (n : Nat) (l : List Nat) (k t v : Nat) : -1 ≤ cm E n l k t v ∧ cm E n l k t v ≤ n := by
  unfold cm
  split
  · omega
  · have := Pop.cnt_le (fun u => !(l.contains u) && E u v) n
    split <;> omega
theorem cm_first {E : Nat → Nat → Bool} {n : Nat} {l : List Nat} {k : Nat} (v : Nat) : (if v = k then -1 else cl E n l v) = cm E n l k 0 v := by
  unfold cm cl
  by_cases e : v = k
  · subst e
    rw [if_pos rfl, if_pos (by simp)]
  · rw [if_neg e]
    by_cases h : v ∈ l
    · rw [if_pos h, if_pos (by simp [h])]
    · rw [if_neg h, if_neg (by simp [h, e]), if_neg (by omega)]
      omega
theorem Beg.out {E : Nat → Nat → Bool} {n : Nat} {l : List Nat} {k m : Nat} (h : Beg E n l) (hk : Free E n l k) (he : E k m = true) : m ∉ l ++ [k] := by
  intro hm
  rcases List.mem_append.1 hm with hm | hm
  · obtain ⟨j, hj, rfl⟩ := List.getElem_of_mem hm
    obtain ⟨i, hi, e⟩ := h.leads j hj k hk.1 (by simpa [List.getD, hj] using he)
    apply hk.2.1
    rw [← e]
    simp only [List.getD, List.getElem?_eq_getElem (show i < l.length from by omega), Option.getD_some]
    exact List.getElem_mem _
  · have e : m = k := by simpa using hm
    subst e
    rw [hk.2.2 m hk.1 hk.2.1] at he
    cases he
theorem cm_step {E : Nat → Nat → Bool} {n : Nat} {l : List Nat} {k t m : Nat} (h : Beg E n l) (hk : Free E n l k) (htm : t ≤ m) (he : E k m = true) (hgap : ∀ x, t ≤ x → x < m → E k x = false) (v : Nat) : (if v = m then cm E n l k t m - 1 else cm E n l k t v) = cm E n l k (m + 1) v := by
  have hm := h.out hk he
  by_cases e : v = m
  · subst e
    rw [if_pos rfl]
    unfold cm
    rw [if_neg hm, if_neg (by omega), if_neg hm, if_pos ⟨by omega, he⟩]
    omega
  · rw [if_neg e]
    unfold cm
    by_cases hv : v ∈ l ++ [k]
    · rw [if_pos hv, if_pos hv]
    · rw [if_neg hv, if_neg hv]
      congr 1
      by_cases h1 : v < t
      · have h2 : v < m + 1 := by omega
        simp [h1, h2]
      · by_cases h2 : v < m + 1
        · rw [if_neg (fun c => h1 c.1), if_neg]
          rintro ⟨_, h3⟩
          rw [hgap v (by omega) (by omega)] at h3
          cases h3
        · rw [if_neg (fun c => h1 c.1), if_neg (fun c => h2 c.1)]
theorem cm_last {E : Nat → Nat → Bool} {n : Nat} {l : List Nat} {k t : Nat} (hk : Free E n l k) (ht : t ≤ n) (hgap : ∀ x, t ≤ x → x < n → E k x = false) (v : Nat) (hv : v < n) : cm E n l k t v = cl E n (l ++ [k]) v := by
  unfold cm cl
  by_cases hm : v ∈ l ++ [k]
  · rw [if_pos hm, if_pos hm]
  · rw [if_neg hm, if_neg hm]
    have h1 := cnt_drop (fun u => !(l.contains u) && E u v) k n hk.1
    have e1 : (fun j => !(j == k) && (!(l.contains j) && E j v)) = fun u => !((l ++ [k]).contains u) && E u v := by
      funext u
      by_cases e : u = k
      · subst e; simp
      · simp [e]
    rw [e1] at h1
    have e2 : (!(l.contains k) && E k v) = E k v := by simp [hk.2.1]
    rw [e2] at h1
    cases he : E k v with
    | true =>
      rw [he] at h1
      have hvt : v < t := Classical.byContradiction fun hc => by
        rw [hgap v (by omega) hv] at he
        cases he
      rw [if_pos ⟨hvt, rfl⟩]
      change _ + 1 = _ at h1
      omega
    | false =>
      rw [he] at h1
      rw [if_neg (fun c => by cases c.2)]
      change _ + 0 = _ at h1
      omega
end Go.Proofs.YtjgmkigfpjmlaaaDoor
