/-
  All keys, rising: plain.
-/
import Derived.Test.YtnfbcmnlloipiaaTb18
import Derived.Sort.KeysCollected
namespace Go.Proofs.Ytnfbcmnlloipiaa
set_option linter.unusedVariables false
set_option linter.unusedSimpArgs false
open Go.RowKit Go.Lib Go.Maps

abbrev Bs := List UInt8
/-- One key is met while another one is put in its place. -/
def stK (key : Bs) (p : List Bs × Bool) (k : Bs) : List Bs × Bool :=
  let q := if p.2 = false ∧ ¬ k < key then (p.1 ++ [key], true) else p
  (if k = key then q.1 else q.1 ++ [k], q.2)
def foK (key : Bs) (out : List Bs) (j : Nat) : List Bs × Bool := (out.take j).foldl (stK key) ([], false)
theorem foK_succ (key : Bs) (out : List Bs) (j : Nat) (h : j < out.length) : foK key out (j + 1) = stK key (foK key out j) (out.getD j default) := by
  unfold foK
  rw [List.take_succ_eq_append_getElem h, List.foldl_append]
  simp [List.getD, List.getElem?_eq_getElem h]
def insK (key : Bs) (out : List Bs) : List Bs := if (foK key out out.length).2 = true then (foK key out out.length).1 else (foK key out out.length).1 ++ [key]
theorem lt_of_ge {a b : Bs} (h : ¬ b < a) (hne : b ≠ a) : a < b := by
  have h1 : a ≤ b := List.not_lt.1 h
  apply Classical.byContradiction
  intro c
  exact hne (List.le_antisymm (List.not_lt.1 c) h1)
/-- Strictly rising. -/
abbrev Ris (l : List Bs) : Prop := l.Pairwise (· < ·)
theorem ris_snoc {l : List Bs} {x : Bs} (h : Ris l) (hx : ∀ y ∈ l, y < x) : Ris (l ++ [x]) := by
  refine List.pairwise_append.2 ⟨h, by simp, fun a ha b hb => ?_⟩
  obtain rfl : b = x := by simpa using hb
  exact hx a ha
theorem ris_at {l : List Bs} (h : Ris l) {i j : Nat} (hij : i < j) (hj : j < l.length) : l.getD i default < l.getD j default := by
  rw [getD_at l i (by omega), getD_at l j hj]
  exact List.pairwise_iff_getElem.1 h i j (by omega) hj hij
theorem mem_take_at {l : List Bs} {j : Nat} {x : Bs} (h : x ∈ l.take j) : ∃ i, i < j ∧ i < l.length ∧ l.getD i default = x := by
  obtain ⟨i, hi, e⟩ := List.mem_iff_getElem.1 h
  rw [List.length_take] at hi
  refine ⟨i, by omega, by omega, ?_⟩
  rw [getD_at l i (by omega), ← e, List.getElem_take]
/-- What is known behind j keys. -/
def FoI (key : Bs) (out : List Bs) (j : Nat) (p : List Bs × Bool) : Prop :=
  Ris p.1 ∧ (∀ x, x ∈ p.1 ↔ x ∈ out.take j ∨ (p.2 = true ∧ x = key)) ∧ (p.2 = false → ∀ x ∈ out.take j, x < key) ∧ (p.2 = true → 0 < j ∧ ¬ out.getD (j - 1) default < key)
theorem take_mem (out : List Bs) (j : Nat) (h : j < out.length) (x : Bs) : x ∈ out.take (j + 1) ↔ x ∈ out.take j ∨ x = out.getD j default := by
  rw [List.take_succ_eq_append_getElem h, List.mem_append, getD_at out j h]
  simp
theorem fo_step (key : Bs) (out : List Bs) (hr : Ris out) (j : Nat) (hj : j < out.length) (p : List Bs × Bool) (h : FoI key out j p) : FoI key out (j + 1) (stK key p (out.getD j default)) := by
  obtain ⟨h1, h2, h3, h4⟩ := h
  obtain ⟨nx, put⟩ := p
  generalize hk : out.getD j default = k at *
  have hbef : ∀ x ∈ out.take j, x < k := fun x hx => by
    obtain ⟨i, hi, hil, e⟩ := mem_take_at hx
    rw [← e, ← hk]
    exact ris_at hr hi hj
  have hm := take_mem out j hj
  rw [hk] at hm
  cases put with
  | true =>
    obtain ⟨h0, h5⟩ := h4 rfl
    have hlk : out.getD (j - 1) default < k := by rw [← hk]; exact ris_at hr (by omega) hj
    have hkk : key < k := by
      have : key ≤ out.getD (j - 1) default := List.not_lt.1 h5
      exact List.lt_of_le_of_lt this hlk
    have hne : k ≠ key := fun e => by rw [e] at hkk; exact List.lt_irrefl _ hkk
    have est : stK key (nx, true) k = (nx ++ [k], true) := by simp [stK, hne]
    rw [est]
    refine ⟨ris_snoc h1 (fun y hy => ?_), fun x => ?_, fun c => (by cases c), fun _ => ⟨by omega, ?_⟩⟩
    · rcases (h2 y).1 hy with c | c
      · exact hbef y c
      · rw [c.2]; exact hkk
    · rw [List.mem_append, h2 x, hm x]
      simp only [List.mem_singleton]
      constructor
      · rintro ((c | c) | c)
        · exact .inl (.inl c)
        · exact .inr c
        · exact .inl (.inr c)
      · rintro ((c | c) | c)
        · exact .inl (.inl c)
        · exact .inr c
        · exact .inl (.inr c)
    · rw [Nat.add_sub_cancel, hk]
      exact fun c => List.lt_irrefl _ (List.lt_trans c hkk)
  | false =>
    have hall := h3 rfl
    by_cases hlt : k < key
    · have hne : k ≠ key := fun e => by rw [e] at hlt; exact List.lt_irrefl _ hlt
      have est : stK key (nx, false) k = (nx ++ [k], false) := by simp [stK, hlt, hne]
      rw [est]
      refine ⟨ris_snoc h1 (fun y hy => ?_), fun x => ?_, fun _ x hx => ?_, fun c => (by cases c)⟩
      · rcases (h2 y).1 hy with c | c
        · exact hbef y c
        · exact absurd c.1 (by simp)
      · rw [List.mem_append, h2 x, hm x]
        simp
      · rcases (hm x).1 hx with c | c
        · exact hall x c
        · rw [c]; exact hlt
    · by_cases hne : k = key
      · have est : stK key (nx, false) k = (nx ++ [key], true) := by simp [stK, hne, List.lt_irrefl]
        rw [est]
        refine ⟨ris_snoc h1 (fun y hy => ?_), fun x => ?_, fun c => (by cases c), fun _ => ⟨by omega, by rw [Nat.add_sub_cancel, hk]; exact hlt⟩⟩
        · rcases (h2 y).1 hy with c | c
          · exact hall y c
          · exact absurd c.1 (by simp)
        · rw [List.mem_append, h2 x, hm x]
          simp [hne]
      · have hkk : key < k := lt_of_ge hlt hne
        have est : stK key (nx, false) k = (nx ++ [key] ++ [k], true) := by simp [stK, hlt, hne]
        rw [est]
        have hs1 : Ris (nx ++ [key]) := ris_snoc h1 (fun y hy => by
          rcases (h2 y).1 hy with c | c
          · exact hall y c
          · exact absurd c.1 (by simp))
        refine ⟨ris_snoc hs1 (fun y hy => ?_), fun x => ?_, fun c => (by cases c), fun _ => ⟨by omega, by rw [Nat.add_sub_cancel, hk]; exact hlt⟩⟩
        · rcases List.mem_append.1 hy with c | c
          · rcases (h2 y).1 c with c | c
            · exact hbef y c
            · exact absurd c.1 (by simp)
          · obtain rfl : y = key := by simpa using c
            exact hkk
        · rw [List.mem_append, List.mem_append, h2 x, hm x]
          simp
          constructor
          · rintro ((c | c) | c)
            · exact .inl (.inl c)
            · exact .inr c
            · exact .inl (.inr c)
          · rintro ((c | c) | c)
            · exact .inl (.inl c)
            · exact .inr c
            · exact .inl (.inr c)
theorem fo_all (key : Bs) (out : List Bs) (hr : Ris out) : ∀ j, j ≤ out.length → FoI key out j (foK key out j)
  | 0, _ => ⟨by simp [foK], fun x => by simp [foK], fun _ x hx => by simp at hx, fun c => by simp [foK] at c⟩
  | j + 1, h => by
    rw [foK_succ key out j (by omega)]
    exact fo_step key out hr j (by omega) _ (fo_all key out hr j (by omega))
theorem ins_ris (key : Bs) (out : List Bs) (hr : Ris out) : Ris (insK key out) ∧ ∀ x, x ∈ insK key out ↔ x ∈ out ∨ x = key := by
  obtain ⟨h1, h2, h3, h4⟩ := fo_all key out hr out.length (Nat.le_refl _)
  rw [List.take_of_length_le (Nat.le_refl _)] at h2 h3
  unfold insK
  by_cases hp : (foK key out out.length).2 = true
  · rw [if_pos hp]
    exact ⟨h1, fun x => by rw [h2 x]; simp [hp]⟩
  · rw [if_neg hp]
    have hf : (foK key out out.length).2 = false := by simpa using hp
    refine ⟨ris_snoc h1 (fun y hy => ?_), fun x => ?_⟩
    · rcases (h2 y).1 hy with c | c
      · exact h3 hf y c
      · exact absurd c.1 hp
    · rw [List.mem_append, h2 x]
      simp [hf]
theorem fo_len (key : Bs) (out : List Bs) : ∀ j, j ≤ out.length → (foK key out j).1.length ≤ j + (if (foK key out j).2 = true then 1 else 0)
  | 0, _ => by simp [foK]
  | j + 1, h => by
    have ih := fo_len key out j (by omega)
    rw [foK_succ key out j (by omega)]
    generalize foK key out j = p at *
    obtain ⟨nx, put⟩ := p
    generalize out.getD j default = k
    unfold stK
    by_cases h1 : put = false ∧ ¬ k < key
    · obtain ⟨h1, h2⟩ := h1
      subst h1
      simp only [h2] at ih ⊢
      by_cases e : k = key <;> simp [e] at ih ⊢ <;> omega
    · cases put with
      | true => by_cases e : k = key <;> simp [e] at ih ⊢ <;> omega
      | false =>
        have h2 : k < key := Classical.byContradiction (fun c => h1 ⟨rfl, c⟩)
        have e : k ≠ key := fun c => by rw [c] at h2; exact List.lt_irrefl _ h2
        simp [h2, e] at ih ⊢
        omega
theorem ins_len (key : Bs) (out : List Bs) : (insK key out).length ≤ out.length + 1 := by
  have h := fo_len key out out.length (Nat.le_refl _)
  unfold insK
  split
  · rename_i c
    rw [if_pos c] at h
    exact h
  · rename_i c
    rw [if_neg c] at h
    rw [List.length_append]
    simp
    omega
/-- All keys of what was noted. -/
def keysN : List MN → List Bs → List Bs
  | [], out => out
  | x :: N, out => keysN N (if thing x.2.2.kind = 0 then out else insK x.2.2.key.data.toList out)
theorem keysN_snoc (N : List MN) (x : MN) : ∀ out, keysN (N ++ [x]) out = if thing x.2.2.kind = 0 then keysN N out else insK x.2.2.key.data.toList (keysN N out) := by
  induction N with
  | nil => intro out; rfl
  | cons y N ih => intro out; exact ih _
theorem bytes_eq {a b : ByteArray} (h : a.data.toList = b.data.toList) : a = b := WideShapes.bytes_inj h
theorem keysN_is (N : List MN) : Ris (keysN N []) ∧ ∀ s : ByteArray, s.data.toList ∈ keysN N [] ↔ kindN N s ≠ 0 := by
  rw [← List.reverse_reverse N]
  generalize N.reverse = M
  induction M with
  | nil => exact ⟨by simp [keysN], fun s => by simp [keysN, kindN]⟩
  | cons x M ih =>
    rw [List.reverse_cons]
    generalize M.reverse = N at *
    obtain ⟨h1, h2⟩ := ih
    rw [keysN_snoc]
    by_cases ht : thing x.2.2.kind = 0
    · rw [if_pos ht]
      refine ⟨h1, fun s => ?_⟩
      rw [h2 s, kind_snoc]
      by_cases e : kindN N s = 0
      · simp [e, ht]
      · simp [e]
    · rw [if_neg ht]
      obtain ⟨h3, h4⟩ := ins_ris x.2.2.key.data.toList _ h1
      refine ⟨h3, fun s => ?_⟩
      rw [h4, h2 s, kind_snoc]
      by_cases e : kindN N s = 0
      · by_cases ek : x.2.2.key = s
        · simp [e, ek, ht]
        · have : s.data.toList ≠ x.2.2.key.data.toList := fun c => ek (bytes_eq c).symm
          simp [e, ek, this]
      · simp [e]
end Go.Proofs.Ytnfbcmnlloipiaa
