/-
  Plain: an order in which each edge leads on, the least node that can stand at each place.
-/
namespace Go.Proofs.YtjgmkigfpjmlaaaDoor
set_option linter.unusedVariables false
set_option linter.unusedSimpArgs false

/-- v can stand next: it is not placed, and no edge leads to it from a node that is not. -/
def Free (E : Nat → Nat → Bool) (n : Nat) (l : List Nat) (v : Nat) : Prop := v < n ∧ v ∉ l ∧ ∀ m, m < n → m ∉ l → E m v = false
/-- v is the least that can. -/
def Pk (E : Nat → Nat → Bool) (n : Nat) (l : List Nat) (v : Nat) : Prop := Free E n l v ∧ ∀ x, x < v → ¬ Free E n l x
theorem Pk.uniq {E : Nat → Nat → Bool} {n : Nat} {l : List Nat} {v x : Nat} (h : Pk E n l v) (h' : Pk E n l x) : v = x := by
  rcases Nat.lt_trichotomy v x with h1 | h1 | h1
  · exact absurd h.1 (h'.2 v h1)
  · exact h1
  · exact absurd h'.1 (h.2 x h1)
/-- A beginning of the order. -/
def Beg (E : Nat → Nat → Bool) (n : Nat) (l : List Nat) : Prop := ∀ k, k < l.length → Pk E n (l.take k) (l.getD k 0)
theorem Beg.nil (E : Nat → Nat → Bool) (n : Nat) : Beg E n [] := fun k hk => by simp at hk
theorem Beg.snoc {E : Nat → Nat → Bool} {n : Nat} {l : List Nat} {v : Nat} (h : Beg E n l) (hp : Pk E n l v) : Beg E n (l ++ [v]) := by
  intro k hk
  rw [List.length_append, List.length_singleton] at hk
  by_cases hkl : k < l.length
  · have e1 : (l ++ [v]).take k = l.take k := by rw [List.take_append_of_le_length (by omega)]
    have e2 : (l ++ [v]).getD k 0 = l.getD k 0 := by simp [List.getD, List.getElem?_append_left hkl]
    rw [e1, e2]
    exact h k hkl
  · obtain rfl : k = l.length := by omega
    have e1 : (l ++ [v]).take l.length = l := by simp
    have e2 : (l ++ [v]).getD l.length 0 = v := by simp [List.getD]
    rw [e1, e2]
    exact hp
theorem Beg.at {E : Nat → Nat → Bool} {n : Nat} {l : List Nat} (h : Beg E n l) (v : Nat) (hv : v ∈ l) : v < n := by
  obtain ⟨k, hk, rfl⟩ := List.getElem_of_mem hv
  have := (h k hk).1.1
  simpa [List.getD, hk] using this
theorem Beg.nodup {E : Nat → Nat → Bool} {n : Nat} {l : List Nat} (h : Beg E n l) (i j : Nat) (hi : i < j) (hj : j < l.length) : l.getD i 0 ≠ l.getD j 0 := by
  intro e
  have h1 := (h j hj).1.2.1
  apply h1
  rw [← e]
  have hl : i < (l.take j).length := by rw [List.length_take]; omega
  have e2 : (l.take j)[i] = l.getD i 0 := by rw [List.getElem_take]; simp [List.getD, show i < l.length from by omega]
  rw [← e2]
  exact List.getElem_mem hl
/-- Two beginnings of one length are alike. -/
theorem Beg.uniq {E : Nat → Nat → Bool} {n : Nat} {l l' : List Nat} (h : Beg E n l) (h' : Beg E n l') (hl : l.length = l'.length) : l = l' := by
  have key : ∀ k, k ≤ l.length → l.take k = l'.take k := by
    intro k
    induction k with
    | zero => intro _; simp
    | succ k ih =>
      intro hk
      have e := ih (by omega)
      have h1 := h k (by omega)
      have h2 := h' k (by omega)
      rw [← e] at h2
      have e2 := h1.uniq h2
      rw [List.take_succ_eq_append_getElem (by omega), List.take_succ_eq_append_getElem (by omega), e]
      congr 2
      simpa [List.getD, show k < l.length from by omega, show k < l'.length from by omega] using e2
  have h1 := key l.length (Nat.le_refl _)
  rw [List.take_length, hl, List.take_length] at h1
  exact h1
/-- Edges lead on: whatever leads to a placed node is placed ahead of it. -/
theorem Beg.leads {E : Nat → Nat → Bool} {n : Nat} {l : List Nat} (h : Beg E n l) (j : Nat) (hj : j < l.length) (m : Nat) (hm : m < n) (he : E m (l.getD j 0) = true) : ∃ i, i < j ∧ l.getD i 0 = m := by
  have hml : m ∈ l.take j := Classical.byContradiction fun hc => by
    rw [(h j hj).1.2.2 m hm hc] at he
    cases he
  obtain ⟨i, hi, e⟩ := List.getElem_of_mem hml
  have hi2 : i < j ∧ i < l.length := by rw [List.length_take] at hi; omega
  refine ⟨i, hi2.1, ?_⟩
  rw [List.getElem_take] at e
  simp [List.getD, hi2.2, e]
theorem Beg.len {E : Nat → Nat → Bool} {n : Nat} {l : List Nat} (h : Beg E n l) : l.length ≤ n := by
  have hnd : l.Nodup := by
    rw [List.nodup_iff_pairwise_ne, List.pairwise_iff_getElem]
    intro i j hi hj hij
    have := h.nodup i j hij hj
    simpa [List.getD, hi, hj] using this
  have hsub : l ⊆ List.range n := fun v hv => List.mem_range.2 (h.at v hv)
  have := hnd.length_le_of_subset hsub
  simpa using this
/-- Of all nodes each is placed. -/
theorem Beg.all {E : Nat → Nat → Bool} {n : Nat} {l : List Nat} (h : Beg E n l) (hl : l.length = n) (v : Nat) (hv : v < n) : v ∈ l := by
  apply Classical.byContradiction
  intro hc
  have hnd : l.Nodup := by
    rw [List.nodup_iff_pairwise_ne, List.pairwise_iff_getElem]
    intro i j hi hj hij
    have := h.nodup i j hij hj
    simpa [List.getD, hi, hj] using this
  have hnd2 : (v :: l).Nodup := List.nodup_cons.2 ⟨hc, hnd⟩
  have hsub : (v :: l) ⊆ List.range n := fun x hx => by
    rcases List.mem_cons.1 hx with rfl | hx
    · exact List.mem_range.2 hv
    · exact List.mem_range.2 (h.at x hx)
  have := hnd2.length_le_of_subset hsub
  rw [List.length_cons, List.length_range] at this
  omega
/-- What Order answers: all nodes; or it stands still. -/
def IsOrder (E : Nat → Nat → Bool) (n : Nat) (l : List Nat) (ok : Bool) : Prop :=
  (ok = true ∧ Beg E n l ∧ l.length = n) ∨ (ok = false ∧ l = [] ∧ ∃ l', Beg E n l' ∧ l'.length < n ∧ ∀ v, ¬ Free E n l' v)
theorem Beg.take {E : Nat → Nat → Bool} {n : Nat} {l : List Nat} (h : Beg E n l) (k : Nat) (hk : k ≤ l.length) : Beg E n (l.take k) := by
  intro j hj
  rw [List.length_take] at hj
  have e1 : (l.take k).take j = l.take j := by rw [List.take_take]; congr 1; omega
  have e2 : (l.take k).getD j 0 = l.getD j 0 := by simp [List.getD, List.getElem?_take, show j < k from by omega]
  rw [e1, e2]
  exact h j (by omega)
theorem IsOrder.uniq {E : Nat → Nat → Bool} {n : Nat} {l l' : List Nat} {ok ok' : Bool} (h : IsOrder E n l ok) (h' : IsOrder E n l' ok') : l = l' ∧ ok = ok' := by
  have key : ∀ {a b : List Nat}, Beg E n a → a.length = n → Beg E n b → b.length < n → ¬ ∀ v, ¬ Free E n b v := by
    intro a b ha hl hb hlt hno
    have h1 := ha.take b.length (by omega)
    have e : a.take b.length = b := h1.uniq hb (by rw [List.length_take]; omega)
    have h2 := ha b.length (by omega)
    rw [e] at h2
    exact hno _ h2.1
  rcases h with ⟨rfl, h1, h2⟩ | ⟨rfl, rfl, b, h1, h2, h3⟩
  · rcases h' with ⟨rfl, k1, k2⟩ | ⟨rfl, rfl, b, k1, k2, k3⟩
    · exact ⟨h1.uniq k1 (by omega), rfl⟩
    · exact absurd k3 (key h1 h2 k1 k2)
  · rcases h' with ⟨rfl, k1, k2⟩ | ⟨rfl, rfl, b', k1, k2, k3⟩
    · exact absurd h3 (key k1 k2 h1 h2)
    · exact ⟨rfl, rfl⟩
end Go.Proofs.YtjgmkigfpjmlaaaDoor
