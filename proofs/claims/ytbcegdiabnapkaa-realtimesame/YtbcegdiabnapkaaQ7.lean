/-
  Rows of pairs, plain.
-/
import Derived.Test.YtbcegdiabnapkaaQ6
namespace Go.Proofs.Ytbcegdiabnapkaa
set_option linter.unusedVariables false
set_option linter.unusedSimpArgs false
open Go.RowKit Go.Lib

/-- Two sorted lists of the same numbers are one. -/
theorem sorted_eq : ∀ (l m : List Int), l.Perm m → l.Pairwise (· ≤ ·) → m.Pairwise (· ≤ ·) → l = m
  | [], m, hp, _, _ => (List.nil_perm.1 hp).symm ▸ rfl
  | x :: l, m, hp, hl, hm => by
    cases m with
    | nil => exact absurd hp.symm (by simp)
    | cons y m =>
      have h1 : x ≤ y := by
        rcases List.mem_cons.1 (hp.symm.subset (List.mem_cons_self)) with h | h
        · omega
        · exact (List.pairwise_cons.1 hl).1 y h
      have h2 : y ≤ x := by
        rcases List.mem_cons.1 (hp.subset (List.mem_cons_self)) with h | h
        · omega
        · exact (List.pairwise_cons.1 hm).1 x h
      have e : x = y := by omega
      subst e
      rw [sorted_eq l m (List.perm_cons x |>.1 hp) (List.pairwise_cons.1 hl).2 (List.pairwise_cons.1 hm).2]
theorem row_unique (i : Nat) (ks : List Nat) (l3 : List (Int × Int)) (hp : l3.Perm (ks.map (fun x : Nat => ((i : Int), (x : Int))))) (hs : ∀ a b, a < b → b < l3.length → (l3.getD a default).2 ≤ (l3.getD b default).2) (hk : ks.Pairwise (· < ·)) : l3 = ks.map (fun x : Nat => ((i : Int), (x : Int))) := by
  have h1 : (l3.map Prod.snd) = ks.map (fun x : Nat => (x : Int)) := by
    refine sorted_eq _ _ ?_ ?_ ?_
    · have := hp.map Prod.snd
      rw [List.map_map] at this
      exact this
    · rw [List.pairwise_iff_getElem]
      intro a b ha hb hab
      have ha' : a < l3.length := by simpa using ha
      have hb' : b < l3.length := by simpa using hb
      have := hs a b hab hb'
      simp only [List.getD, List.getElem?_eq_getElem ha', List.getElem?_eq_getElem hb', Option.getD_some] at this
      simpa using this
    · rw [List.pairwise_map]
      exact hk.imp (fun h => by omega)
  have h2 : ∀ z ∈ l3, z.1 = (i : Int) := fun z hz => by
    obtain ⟨x, _, rfl⟩ := List.mem_map.1 (hp.subset hz)
    rfl
  have h3 : l3 = (l3.map Prod.snd).map (fun x : Int => ((i : Int), x)) := by
    rw [List.map_map]
    conv => lhs; rw [← List.map_id l3]
    apply List.map_congr_left
    intro z hz
    show z = ((i : Int), z.2)
    rw [← h2 z hz]
  rw [h3, h1, List.map_map]
  rfl
/-- The pairs of the first k transactions. -/
def allL (rowL : Nat → List Nat) (k : Nat) : List (Int × Int) := (List.range k).flatMap (fun i => (rowL i).map (fun x : Nat => ((i : Int), (x : Int))))
theorem allL_succ (rowL : Nat → List Nat) (k : Nat) : allL rowL (k + 1) = allL rowL k ++ (rowL k).map (fun x : Nat => ((k : Int), (x : Int))) := by
  simp [allL, List.range_succ]
theorem allL_len (rowL : Nat → List Nat) (M : Nat) (h : ∀ i, (rowL i).length ≤ M) : ∀ k, (allL rowL k).length ≤ k * M
  | 0 => by simp [allL]
  | k + 1 => by
    rw [allL_succ, List.length_append, List.length_map, Nat.add_mul]
    have := allL_len rowL M h k
    have := h k
    omega
/-- How many starts transaction i is not before. -/
def cnt (f : Nat → LT) (t : Nat → Nat) (q i : Nat) : Nat := (List.range q).countP (fun j => !bef (f i) (f (t j)))
theorem cnt_le (f : Nat → LT) (t : Nat → Nat) (q i : Nat) : cnt f t q i ≤ q := by
  have := List.countP_le_length (p := fun j => !bef (f i) (f (t j))) (l := List.range q)
  simpa [cnt] using this
section
variable {f : Nat → LT} {n q : Nat} {t : Nat → Nat} {fs : Nat → Int}
theorem Sts.ok (h : Sts f n q t fs) {j : Nat} (hj : j < q) : t j < n ∧ (f (t j)).state = 1 := by
  have := h.perm.subset (List.mem_map.2 ⟨j, List.mem_range.2 hj, rfl⟩)
  exact (okL_mem f n _).1 this
theorem Sts.le (h : Sts f n q t fs) {a b : Nat} (hab : a ≤ b) (hb : b < q) : (f (t a)).since ≤ (f (t b)).since := by
  rcases Nat.lt_or_eq_of_le hab with h1 | h1
  · exact h.sorted a b h1 hb
  · subst h1; exact Int.le_refl _
theorem Sts.mono (h : Sts f n q t fs) (X : LT) (a b : Nat) (hab : a ≤ b) (hb : b < q) (hx : bef X (f (t a)) = true) : bef X (f (t b)) = true := by
  rw [bef_iff] at *
  have h1 := h.le hab hb
  have h2 := (h.ok hb).2
  omega
end
/-- Of a test that stays true once it is, the count of what is false tells where it begins. -/
theorem count_at (p : Nat → Bool) : ∀ (q : Nat), (∀ a b, a ≤ b → b < q → p a = true → p b = true) → ∀ j, j < q → (p j = true ↔ (List.range q).countP (fun i => !p i) ≤ j)
  | 0, _, j, hj => by omega
  | q + 1, h, j, hj => by
    have ih := count_at p q (fun a b h1 h2 => h a b h1 (by omega))
    have hle : (List.range q).countP (fun i => !p i) ≤ q := by
      have := List.countP_le_length (p := fun i => !p i) (l := List.range q)
      simpa using this
    rw [List.range_succ, List.countP_append, List.countP_singleton]
    cases hq : p q with
    | true =>
      simp only [Bool.not_true, Bool.false_eq_true, if_false, Nat.add_zero]
      by_cases e : j = q
      · subst e; simp [hq, hle]
      · exact ih j (by omega)
    | false =>
      simp only [Bool.not_false, if_true]
      have hall : ∀ a, a ≤ q → p a = false := fun a ha => by
        cases hp : p a with
        | false => rfl
        | true => have := h a q ha (by omega) hp; rw [hq] at this; cases this
      have hc : (List.range q).countP (fun i => !p i) = q := by
        have : (List.range q).countP (fun i => !p i) = (List.range q).length := by
          rw [List.countP_eq_length]
          intro a ha
          rw [hall a (by have := List.mem_range.1 ha; omega)]
          rfl
        simpa using this
      rw [hc, hall j (by omega)]
      simp
      omega
end Go.Proofs.Ytbcegdiabnapkaa
