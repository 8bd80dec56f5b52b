/-
  Plain: what follows of pairs, and a search that finds it.
-/
namespace Go.Proofs.Ytmnfmilgpglfcaa

/-- A relation that goes on. -/
def Tr (R : Nat → Nat → Bool) : Prop := ∀ i j k, R i j = true → R j k = true → R i k = true
/-- a, and all that stand ahead of it, ahead of b and all behind b. -/
def joinR (R : Nat → Nat → Bool) (a b : Nat) : Nat → Nat → Bool := fun i j => R i j || ((i == a || R i a) && (j == b || R b j))
theorem joinR_same {R : Nat → Nat → Bool} {a b : Nat} (hT : Tr R) (h : R a b = true) : joinR R a b = R := by
  funext i j
  unfold joinR
  cases hij : R i j with
  | true => rfl
  | false =>
    rw [Bool.false_or, Bool.and_eq_false_iff]
    by_cases h1 : (i == a || R i a) = true
    · right
      have hib : R i b = true := by
        rcases Bool.or_eq_true_iff.1 h1 with e | e
        · rw [beq_iff_eq.1 e]; exact h
        · exact hT _ _ _ e h
      by_cases h2 : (j == b || R b j) = true
      · exfalso
        rcases Bool.or_eq_true_iff.1 h2 with e | e
        · rw [beq_iff_eq.1 e, hib] at hij; cases hij
        · rw [hT _ _ _ hib e] at hij; cases hij
      · simpa using h2
    · left
      simpa using h1
theorem joinR_trans {R : Nat → Nat → Bool} (a b : Nat) (hT : Tr R) : Tr (joinR R a b) := by
  intro i j k h1 h2
  simp only [joinR, Bool.or_eq_true, Bool.and_eq_true, beq_iff_eq] at h1 h2 ⊢
  rcases h1 with h1 | ⟨h1, h3⟩
  · rcases h2 with h2 | ⟨h2, h4⟩
    · exact .inl (hT _ _ _ h1 h2)
    · refine .inr ⟨.inr ?_, h4⟩
      rcases h2 with rfl | h2
      · exact h1
      · exact hT _ _ _ h1 h2
  · rcases h2 with h2 | ⟨h2, h4⟩
    · refine .inr ⟨h1, .inr ?_⟩
      rcases h3 with rfl | h3
      · exact h2
      · exact hT _ _ _ h3 h2
    · exact .inr ⟨h1, h4⟩
/-- What follows of pairs. -/
def clR (ps : List (Nat × Nat)) : Nat → Nat → Bool := ps.foldl (fun R p => joinR R p.1 p.2) (fun _ _ => false)
theorem clR_snoc (ps : List (Nat × Nat)) (p : Nat × Nat) : clR (ps ++ [p]) = joinR (clR ps) p.1 p.2 := by
  unfold clR
  rw [List.foldl_append]
  rfl
theorem listSnoc {α : Type} {P : List α → Prop} (h0 : P []) (h1 : ∀ r v, P r → P (r ++ [v])) (l : List α) : P l := by
  have h : ∀ k (l : List α), l.length = k → P l := by
    intro k
    induction k with
    | zero => intro l hl; rw [List.length_eq_zero_iff.1 hl]; exact h0
    | succ k ih =>
      intro l hl
      have hne : l ≠ [] := by rintro rfl; simp at hl
      rw [← List.dropLast_concat_getLast hne]
      exact h1 _ _ (ih _ (by simp [hl]))
  exact h _ l rfl
theorem clR_trans (ps : List (Nat × Nat)) : Tr (clR ps) := by
  induction ps using listSnoc with
  | h0 => intro i j k h; cases h
  | h1 ps p ih => rw [clR_snoc]; exact joinR_trans _ _ ih
theorem clR_has (ps : List (Nat × Nat)) : ∀ p ∈ ps, clR ps p.1 p.2 = true := by
  induction ps using listSnoc with
  | h0 => intro p h; cases h
  | h1 ps q ih =>
    intro p hp
    rw [clR_snoc]
    rcases List.mem_append.1 hp with h | h
    · simp [joinR, ih p h]
    · have e : p = q := by simpa using h
      subst e
      simp [joinR]
/-- It is in each relation that goes on and has the pairs. -/
theorem clR_least (ps : List (Nat × Nat)) (R : Nat → Nat → Bool) (hT : Tr R) (hp : ∀ p ∈ ps, R p.1 p.2 = true) : ∀ i j, clR ps i j = true → R i j = true := by
  induction ps using listSnoc with
  | h0 => intro i j h; cases h
  | h1 ps q ih =>
    intro i j h
    have ih := ih (fun p h => hp p (List.mem_append_left _ h))
    have hq := hp q (by simp)
    rw [clR_snoc] at h
    simp only [joinR, Bool.or_eq_true, Bool.and_eq_true, beq_iff_eq] at h
    rcases h with h | ⟨h1, h2⟩
    · exact ih i j h
    · have h3 : R i q.2 = true := by
        rcases h1 with rfl | h1
        · exact hq
        · exact hT _ _ _ (ih _ _ h1) hq
      rcases h2 with rfl | h2
      · exact h3
      · exact hT _ _ _ h3 (ih _ _ h2)
theorem clR_sub {ps qs : List (Nat × Nat)} (h : ∀ p ∈ ps, p ∈ qs) (i j : Nat) (hc : clR ps i j = true) : clR qs i j = true :=
  clR_least ps _ (clR_trans qs) (fun p hp => clR_has qs p (h p hp)) i j hc
theorem clR_same {ps qs : List (Nat × Nat)} (h : ∀ p, p ∈ ps ↔ p ∈ qs) : clR ps = clR qs := by
  funext i j
  rw [Bool.eq_iff_iff]
  exact ⟨clR_sub (fun p => (h p).1) i j, clR_sub (fun p => (h p).2) i j⟩
theorem clR_lt {ps : List (Nat × Nat)} {n : Nat} (h : ∀ p ∈ ps, p.1 < n ∧ p.2 < n) (i j : Nat) (hc : clR ps i j = true) : i < n ∧ j < n := by
  have := clR_least ps (fun i j => decide (i < n) && decide (j < n)) (fun i j k h1 h2 => by simp at h1 h2 ⊢; omega) (fun p hp => by simp; exact h p hp) i j hc
  simpa using this
/-- Where a thing stands ahead of itself, one was put ahead of itself, or two stand ahead of one another. -/
theorem clR_cyc {ps : List (Nat × Nat)} {a : Nat} (h : clR ps a a = true) : (∃ p ∈ ps, p.1 = p.2) ∨ ∃ i j, i ≠ j ∧ clR ps i j = true ∧ clR ps j i = true := by
  by_cases h1 : ∃ p ∈ ps, p.1 = p.2
  · exact .inl h1
  · right
    have hp : ∀ p ∈ ps, p.1 ≠ p.2 := fun p hp e => h1 ⟨p, hp, e⟩
    apply Classical.byContradiction
    intro hn
    have key : ∀ i j, clR ps i j = true → (clR ps i j && !(i == j)) = true := clR_least ps _ (fun i j k h1 h2 => by
      simp only [Bool.and_eq_true, Bool.not_eq_true', beq_eq_false_iff_ne] at h1 h2 ⊢
      refine ⟨clR_trans ps _ _ _ h1.1 h2.1, ?_⟩
      rintro rfl
      exact hn ⟨i, j, h1.2, h1.1, h2.1⟩) (fun p h => by
      simp only [Bool.and_eq_true, Bool.not_eq_true', beq_eq_false_iff_ne]
      exact ⟨clR_has ps p h, hp p h⟩)
    have := key a a h
    simp at this

/-- The document's search from s: what is met, and what is to come; x is looked at, its first k pairs are done. -/
structure Sr (ps : List (Nat × Nat)) (s : Nat) (M : Nat → Bool) (l : List Nat) : Prop where
  met : ∀ v, M v = true → clR ps s v = true
  que : ∀ v ∈ l, v = s ∨ M v = true
  all : ∀ v, (v = s ∨ M v = true) → v ∈ l ∨ ∀ p ∈ ps, p.1 = v → M p.2 = true
/-- The same while x is looked at; the pairs of dn are done. -/
structure Sq (ps : List (Nat × Nat)) (s : Nat) (M : Nat → Bool) (x : Nat) (l : List Nat) (dn : List (Nat × Nat)) : Prop where
  met : ∀ v, M v = true → clR ps s v = true
  cur : x = s ∨ M x = true
  que : ∀ v ∈ l, v = s ∨ M v = true
  all : ∀ v, (v = s ∨ M v = true) → v = x ∨ v ∈ l ∨ ∀ p ∈ ps, p.1 = v → M p.2 = true
  now : ∀ p ∈ dn, p.1 = x → M p.2 = true
theorem Sr.first (ps : List (Nat × Nat)) (s : Nat) : Sr ps s (fun _ => false) [s] := by
  refine ⟨fun v h => (by cases h), fun v h => .inl (by simpa using h), fun v h => ?_⟩
  rcases h with rfl | h
  · exact .inl (by simp)
  · cases h
theorem Sr.open' {ps : List (Nat × Nat)} {s x : Nat} {M : Nat → Bool} {l : List Nat} (h : Sr ps s M (x :: l)) : Sq ps s M x l [] := by
  refine ⟨h.met, h.que x (by simp), fun v hv => h.que v (List.mem_cons_of_mem _ hv), fun v hv => ?_, fun p hp => by simp at hp⟩
  rcases h.all v hv with h1 | h1
  · rcases List.mem_cons.1 h1 with rfl | h1
    · exact .inl rfl
    · exact .inr (.inl h1)
  · exact .inr (.inr h1)
theorem Sq.close {ps : List (Nat × Nat)} {s x : Nat} {M : Nat → Bool} {l : List Nat} (h : Sq ps s M x l ps) : Sr ps s M l := by
  refine ⟨h.met, h.que, fun v hv => ?_⟩
  rcases h.all v hv with rfl | h1 | h1
  · right
    intro p hp he
    exact h.now p hp he
  · exact .inl h1
  · exact .inr h1
theorem Sq.pass {ps : List (Nat × Nat)} {s x : Nat} {M : Nat → Bool} {l : List Nat} {dn : List (Nat × Nat)} (h : Sq ps s M x l dn) (q : Nat × Nat) (hp : q.1 = x → M q.2 = true) : Sq ps s M x l (dn ++ [q]) := by
  refine ⟨h.met, h.cur, h.que, h.all, fun p h1 h2 => ?_⟩
  rcases List.mem_append.1 h1 with h1 | h1
  · exact h.now p h1 h2
  · have e : p = q := by simpa using h1
    subst e
    exact hp h2
theorem Sq.meet {ps : List (Nat × Nat)} {s x : Nat} {M : Nat → Bool} {l : List Nat} {dn : List (Nat × Nat)} (h : Sq ps s M x l dn) (q : Nat × Nat) (hmem : q ∈ ps) (hp : q.1 = x) : Sq ps s (fun v => v == q.2 || M v) x (l ++ [q.2]) (dn ++ [q]) := by
  have hc : clR ps s q.2 = true := by
    have h1 := clR_has ps q hmem
    rw [hp] at h1
    rcases h.cur with e | e
    · rw [← e]; exact h1
    · exact clR_trans ps _ _ _ (h.met x e) h1
  have mono : ∀ v, M v = true → (v == q.2 || M v) = true := fun v hv => by simp [hv]
  refine ⟨fun v hv => ?_, ?_, fun v hv => ?_, fun v hv => ?_, fun p h1 h2 => ?_⟩
  · rcases Bool.or_eq_true_iff.1 hv with e | e
    · rw [beq_iff_eq.1 e]; exact hc
    · exact h.met v e
  · rcases h.cur with e | e
    · exact .inl e
    · exact .inr (mono _ e)
  · rcases List.mem_append.1 hv with h1 | h1
    · rcases h.que v h1 with e | e
      · exact .inl e
      · exact .inr (mono _ e)
    · right
      have e : v = q.2 := by simpa using h1
      simp [e]
  · have hv' : (v = s ∨ M v = true) ∨ v = q.2 := by
      rcases hv with e | e
      · exact .inl (.inl e)
      · rcases Bool.or_eq_true_iff.1 e with e | e
        · exact .inr (beq_iff_eq.1 e)
        · exact .inl (.inr e)
    rcases hv' with hv' | hv'
    · rcases h.all v hv' with h1 | h1 | h1
      · exact .inl h1
      · exact .inr (.inl (List.mem_append_left _ h1))
      · exact .inr (.inr fun p h2 h3 => mono _ (h1 p h2 h3))
    · exact .inr (.inl (by simp [hv']))
  · rcases List.mem_append.1 h1 with h1 | h1
    · exact mono _ (h.now p h1 h2)
    · have e : p = q := by simpa using h1
      subst e
      simp
theorem Sr.ends {ps : List (Nat × Nat)} {s : Nat} {M : Nat → Bool} (h : Sr ps s M []) : M = clR ps s := by
  funext v
  rw [Bool.eq_iff_iff]
  refine ⟨h.met v, fun hv => ?_⟩
  have hall : ∀ u, (u = s ∨ M u = true) → ∀ p ∈ ps, p.1 = u → M p.2 = true := fun u hu => by
    rcases h.all u hu with h1 | h1
    · cases h1
    · exact h1
  have key := clR_least ps (fun i j => (!(i == s) || M j) && (!(M i) || M j)) (fun i j k h1 h2 => by
    simp only [Bool.and_eq_true, Bool.or_eq_true, Bool.not_eq_true', beq_eq_false_iff_ne] at h1 h2 ⊢
    refine ⟨?_, ?_⟩
    · rcases h1.1 with e | e
      · exact .inl e
      · rcases h2.2 with f | f
        · rw [f] at e; cases e
        · exact .inr f
    · rcases h1.2 with e | e
      · exact .inl e
      · rcases h2.2 with f | f
        · rw [f] at e; cases e
        · exact .inr f) (fun p hp => by
    simp only [Bool.and_eq_true, Bool.or_eq_true, Bool.not_eq_true', beq_eq_false_iff_ne]
    refine ⟨?_, ?_⟩
    · by_cases e : p.1 = s
      · exact .inr (hall p.1 (.inl e) p hp rfl)
      · exact .inl e
    · cases e : M p.1 with
      | false => exact .inl rfl
      | true => exact .inr (hall p.1 (.inr e) p hp rfl)) s v hv
  have k2 : (!(s == s) || M v) = true := (Bool.and_eq_true_iff.1 key).1
  simpa using k2
/-- The pairs that count: all, or the sure ones. -/
def sel (t : Bool) (ps : List (Nat × Nat × Bool)) : List (Nat × Nat) := (ps.filter fun p => p.2.2 || !t).map fun p => (p.1, p.2.1)
theorem sel_snoc (t : Bool) (ps : List (Nat × Nat × Bool)) (p : Nat × Nat × Bool) : sel t (ps ++ [p]) = if (p.2.2 || !t) = true then sel t ps ++ [(p.1, p.2.1)] else sel t ps := by
  unfold sel
  rw [List.filter_append, List.map_append]
  split
  · next h => simp [h]
  · next h => simp only [Bool.not_eq_true] at h; simp [h]
theorem sel_mem {t : Bool} {ps : List (Nat × Nat × Bool)} {p : Nat × Nat × Bool} (h : p ∈ ps) (hu : (p.2.2 || !t) = true) : (p.1, p.2.1) ∈ sel t ps := by
  unfold sel
  exact List.mem_map.2 ⟨p, List.mem_filter.2 ⟨h, hu⟩, rfl⟩
theorem sel_sub (ps : List (Nat × Nat × Bool)) : ∀ p ∈ sel true ps, p ∈ sel false ps := by
  intro p hp
  unfold sel at *
  obtain ⟨q, h1, h2⟩ := List.mem_map.1 hp
  exact List.mem_map.2 ⟨q, List.mem_filter.2 ⟨(List.mem_filter.1 h1).1, by simp⟩, h2⟩
theorem sel_lt {t : Bool} {ps : List (Nat × Nat × Bool)} {n : Nat} (h : ∀ p ∈ ps, p.1 < n ∧ p.2.1 < n) : ∀ p ∈ sel t ps, p.1 < n ∧ p.2 < n := by
  intro p hp
  unfold sel at hp
  obtain ⟨q, h1, h2⟩ := List.mem_map.1 hp
  have := h q (List.mem_filter.1 h1).1
  rw [← h2]
  exact this
theorem sel_same {t : Bool} {ps qs : List (Nat × Nat × Bool)} (h : ∀ p, p ∈ ps ↔ p ∈ qs) (p : Nat × Nat) : p ∈ sel t ps ↔ p ∈ sel t qs := by
  unfold sel
  simp only [List.mem_map, List.mem_filter, h]
end Go.Proofs.Ytmnfmilgpglfcaa
