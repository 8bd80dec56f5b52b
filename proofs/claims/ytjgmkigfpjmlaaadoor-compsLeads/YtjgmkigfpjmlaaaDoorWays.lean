/-
  Plain: walks along edges, their numbers, and what a search in width knows while it goes.
-/
namespace Go.Proofs.YtjgmkigfpjmlaaaDoor

/-- r leads from s to t along edges between nodes below n. -/
def Wl (E : Nat → Nat → Bool) (n : Nat) : Nat → List Nat → Nat → Prop
  | s, [], t => s = t
  | s, m :: r, t => E s m = true ∧ m < n ∧ Wl E n m r t
/-- A walk's number: its nodes are the digits. -/
def cod (n a : Nat) (r : List Nat) : Nat := r.foldl (fun c v => c * (n + 1) + (v + 1)) a

theorem cod_cons (n a v : Nat) (r : List Nat) : cod n a (v :: r) = cod n (a * (n + 1) + (v + 1)) r := rfl
theorem cod_snoc (n a v : Nat) (r : List Nat) : cod n a (r ++ [v]) = cod n a r * (n + 1) + (v + 1) := by
  unfold cod
  rw [List.foldl_append]
  rfl
theorem Wl.snoc {E : Nat → Nat → Bool} {n v t : Nat} : ∀ {r : List Nat} {s : Nat}, Wl E n s (r ++ [v]) t ↔ ∃ u, Wl E n s r u ∧ E u v = true ∧ v < n ∧ v = t := by
  intro r
  induction r with
  | nil =>
    intro s
    constructor
    · rintro ⟨h1, h2, h3⟩; exact ⟨s, rfl, h1, h2, h3⟩
    · rintro ⟨u, h0, h1, h2, h3⟩; cases h0; exact ⟨h1, h2, h3⟩
  | cons m r ih =>
    intro s
    constructor
    · rintro ⟨h1, h2, h3⟩
      obtain ⟨u, k1, k2⟩ := ih.1 h3
      exact ⟨u, ⟨h1, h2, k1⟩, k2⟩
    · rintro ⟨u, ⟨h1, h2, k1⟩, k2⟩
      exact ⟨h1, h2, ih.2 ⟨u, k1, k2⟩⟩
theorem Wl.last {E : Nat → Nat → Bool} {n t : Nat} : ∀ {r : List Nat} {s : Nat}, Wl E n s r t → r ≠ [] → t < n := by
  intro r
  induction r with
  | nil => intro s _ h; exact absurd rfl h
  | cons m r ih =>
    rintro s ⟨h1, h2, h3⟩ _
    cases r with
    | nil => cases h3; exact h2
    | cons a r => exact ih h3 (by simp)
theorem Wl.digits {E : Nat → Nat → Bool} {n t : Nat} : ∀ {r : List Nat} {s : Nat}, Wl E n s r t → ∀ v ∈ r, v < n := by
  intro r
  induction r with
  | nil => intro s _ v h; cases h
  | cons m r ih =>
    rintro s ⟨h1, h2, h3⟩ v hv
    rcases List.mem_cons.1 hv with rfl | hv
    · exact h2
    · exact ih h3 v hv

/-- lists, from their ends -/
theorem snocRec {P : List Nat → Prop} (h0 : P []) (h1 : ∀ r v, P r → P (r ++ [v])) (l : List Nat) : P l := by
  have h : ∀ k (l : List Nat), l.length = k → P l := by
    intro k
    induction k with
    | zero => intro l hl; rw [List.length_eq_zero_iff.1 hl]; exact h0
    | succ k ih =>
      intro l hl
      have hne : l ≠ [] := by rintro rfl; simp at hl
      rw [← List.dropLast_concat_getLast hne]
      exact h1 _ _ (ih _ (by simp [hl]))
  exact h _ l rfl

theorem cod_low (n a : Nat) (ha : 1 ≤ a) (r : List Nat) : (n + 1) ^ r.length ≤ cod n a r := by
  induction r using snocRec with
  | h0 => exact ha
  | h1 r v ih =>
    rw [cod_snoc, List.length_append, List.length_singleton, Nat.pow_succ]
    exact Nat.le_trans (Nat.mul_le_mul_right _ ih) (Nat.le_add_right _ _)
theorem cod_high (n a : Nat) (ha : a ≤ n) (r : List Nat) (hr : ∀ v ∈ r, v < n) : cod n a r < (n + 1) ^ (r.length + 1) := by
  induction r using snocRec with
  | h0 => show a < (n + 1) ^ 1; rw [Nat.pow_one]; omega
  | h1 r v ih =>
    have h1 := ih (fun x hx => hr x (List.mem_append_left _ hx))
    have h2 : v < n := hr v (by simp)
    rw [cod_snoc, List.length_append, List.length_singleton, Nat.pow_succ (n + 1) (r.length + 1)]
    have h3 : (cod n a r + 1) * (n + 1) ≤ (n + 1) ^ (r.length + 1) * (n + 1) := Nat.mul_le_mul_right _ h1
    rw [Nat.add_mul, Nat.one_mul] at h3
    omega
theorem cod_longer (n a : Nat) (h1 : 1 ≤ a) (ha : a ≤ n) (r r' : List Nat) (hr : ∀ v ∈ r, v < n) (hl : r.length < r'.length) : cod n a r < cod n a r' :=
  Nat.lt_of_lt_of_le (cod_high n a ha r hr) (Nat.le_trans (Nat.pow_le_pow_right (by omega) hl) (cod_low n a h1 r'))
/-- A lower beginning is lower whatever follows. -/
theorem cod_lt (n : Nat) : ∀ (r r' : List Nat) (a b : Nat), r.length = r'.length → (∀ v ∈ r, v < n) → a < b → cod n a r < cod n b r' := by
  intro r
  induction r with
  | nil => intro r' a b hl _ h; rw [List.length_eq_zero_iff.1 hl.symm]; exact h
  | cons x r ih =>
    intro r' a b hl hr h
    cases r' with
    | nil => simp at hl
    | cons y r' =>
      rw [cod_cons, cod_cons]
      refine ih r' _ _ (by simpa using hl) (fun v hv => hr v (List.mem_cons_of_mem _ hv)) ?_
      have h2 : x < n := hr x (by simp)
      have h3 : (a + 1) * (n + 1) ≤ b * (n + 1) := Nat.mul_le_mul_right _ h
      rw [Nat.add_mul, Nat.one_mul] at h3
      omega
theorem mul_one_inj {n X Y v w : Nat} (hv : v < n) (hw : w < n) (h : X * (n + 1) + (v + 1) = Y * (n + 1) + (w + 1)) : X = Y ∧ v = w := by
  have h1 : (X * (n + 1) + (v + 1)) % (n + 1) = (Y * (n + 1) + (w + 1)) % (n + 1) := by rw [h]
  rw [Nat.mul_comm X, Nat.mul_comm Y, Nat.mul_add_mod, Nat.mul_add_mod, Nat.mod_eq_of_lt (by omega), Nat.mod_eq_of_lt (by omega)] at h1
  have h2 : v = w := by omega
  subst h2
  have h3 : X * (n + 1) = Y * (n + 1) := by omega
  exact ⟨Nat.eq_of_mul_eq_mul_right (by omega) h3, rfl⟩
theorem cod_inj (n a : Nat) (ha1 : 1 ≤ a) (ha : a ≤ n) (r r' : List Nat) (hr : ∀ v ∈ r, v < n) (hr' : ∀ v ∈ r', v < n) (h : cod n a r = cod n a r') : r = r' := by
  have hl : r.length = r'.length := by
    rcases Nat.lt_trichotomy r.length r'.length with h1 | h1 | h1
    · have := cod_longer n a ha1 ha r r' hr h1; omega
    · exact h1
    · have := cod_longer n a ha1 ha r' r hr' h1; omega
  clear ha1 ha
  have key : ∀ (r r' : List Nat), r.length = r'.length → (∀ v ∈ r, v < n) → (∀ v ∈ r', v < n) → ∀ a b, cod n a r = cod n b r' → a = b ∧ r = r' := by
    intro r
    induction r with
    | nil => intro r' hl _ _ a b h; rw [List.length_eq_zero_iff.1 hl.symm] at h ⊢; exact ⟨h, rfl⟩
    | cons x r ih =>
      intro r' hl hr hr' a b h
      cases r' with
      | nil => simp at hl
      | cons y r' =>
        rw [cod_cons, cod_cons] at h
        obtain ⟨h1, rfl⟩ := ih r' (by simpa using hl) (fun v hv => hr v (List.mem_cons_of_mem _ hv)) (fun v hv => hr' v (List.mem_cons_of_mem _ hv)) _ _ h
        obtain ⟨rfl, rfl⟩ := mul_one_inj (hr x (by simp)) (hr' y (by simp)) h1
        exact ⟨rfl, rfl⟩
  exact (key r r' hl hr hr' a a h).2

/-- What is known: the node to begin with, and those that were reached, with their first walks' numbers. -/
def Ent (s : Nat) (cd : Nat → Nat) (v c : Nat) : Prop := (v = s ∧ c = s + 1) ∨ (cd v = c ∧ c ≠ 0)

/-- What holds while the ends below t of u's edges are done, with Q still to come. -/
structure Bfs (E : Nat → Nat → Bool) (n s : Nat) (cd bf : Nat → Nat) (u cu t : Nat) (Q : List (Nat × Nat)) : Prop where
  hs : s < n
  cur : Ent s cd u cu
  que : ∀ x ∈ Q, Ent s cd x.1 x.2 ∧ cu < x.2
  sorted : Q.Pairwise (fun x y => x.2 < y.2)
  all : ∀ v c, Ent s cd v c → c ≤ cu ∨ (v, c) ∈ Q
  old : ∀ v c, Ent s cd v c → c < cu → ∀ m, m < n → E v m = true → cd m ≠ 0 ∧ cd m ≤ c * (n + 1) + (m + 1)
  now : ∀ m, m < t → m < n → E u m = true → cd m ≠ 0 ∧ cd m ≤ cu * (n + 1) + (m + 1)
  high : ∀ v c, Ent s cd v c → c ≤ cu * (n + 1) + t
  from' : ∀ v, cd v ≠ 0 → v < n ∧ ∃ cb, cd v = cb * (n + 1) + (v + 1) ∧ E (bf v) v = true ∧ bf v < n ∧ (bf v = s → cb = s + 1) ∧ (bf v ≠ s → cb = cd (bf v) ∧ cb ≠ 0)
  least : ∀ v, cd v ≠ 0 → ∀ r, r ≠ [] → Wl E n s r v → cd v ≤ cod n (s + 1) r

theorem Bfs.first (E : Nat → Nat → Bool) (n s : Nat) (bf : Nat → Nat) (hs : s < n) : Bfs E n s (fun _ => 0) bf s (s + 1) 0 [] := by
  have he : ∀ v c, Ent s (fun _ => 0) v c → v = s ∧ c = s + 1 := by
    rintro v c (h | ⟨h1, h2⟩)
    · exact h
    · exact absurd h1.symm h2
  refine ⟨hs, .inl ⟨rfl, rfl⟩, fun x hx => (by cases hx), List.Pairwise.nil, fun v c h => .inl (by have := he v c h; omega), fun v c h hc => by have := he v c h; omega, fun m hm => by omega, fun v c h => ?_, fun v h => absurd rfl h, fun v h => absurd rfl h⟩
  obtain ⟨_, rfl⟩ := he v c h
  exact Nat.le_trans (Nat.le_mul_of_pos_right _ (by omega)) (Nat.le_add_right _ _)

theorem Bfs.code {E : Nat → Nat → Bool} {n s : Nat} {cd bf : Nat → Nat} {u cu t : Nat} {Q : List (Nat × Nat)} (h : Bfs E n s cd bf u cu t Q) {v c : Nat} (he : Ent s cd v c) : v < n ∧ ∃ X, c = X * (n + 1) + (v + 1) := by
  rcases he with ⟨rfl, rfl⟩ | ⟨h1, h2⟩
  · exact ⟨h.hs, 0, by omega⟩
  · obtain ⟨h3, cb, h4, _⟩ := h.from' v (by omega)
    exact ⟨h3, cb, by omega⟩
theorem Bfs.one {E : Nat → Nat → Bool} {n s : Nat} {cd bf : Nat → Nat} {u cu t : Nat} {Q : List (Nat × Nat)} (h : Bfs E n s cd bf u cu t Q) {v x c : Nat} (h1 : Ent s cd v c) (h2 : Ent s cd x c) : v = x := by
  obtain ⟨a1, X, a2⟩ := h.code h1
  obtain ⟨b1, Y, b2⟩ := h.code h2
  exact (mul_one_inj a1 b1 (a2.symm.trans b2)).2
/-- Walks below the one in hand are known. -/
theorem Bfs.below {E : Nat → Nat → Bool} {n s : Nat} {cd bf : Nat → Nat} {u cu t : Nat} {Q : List (Nat × Nat)} (h : Bfs E n s cd bf u cu t Q) (r : List Nat) : ∀ v, Wl E n s r v → cod n (s + 1) r < cu → ∃ c, Ent s cd v c ∧ c ≤ cod n (s + 1) r := by
  induction r using snocRec with
  | h0 => rintro v rfl _; exact ⟨s + 1, .inl ⟨rfl, rfl⟩, Nat.le_refl _⟩
  | h1 r x ih =>
    intro v hw hc
    obtain ⟨y, w1, w2, w3, rfl⟩ := Wl.snoc.1 hw
    rw [cod_snoc] at hc ⊢
    have hlt : cod n (s + 1) r < cu := by
      have := Nat.le_mul_of_pos_right (cod n (s + 1) r) (show 0 < n + 1 by omega)
      omega
    obtain ⟨c, e1, e2⟩ := ih y w1 hlt
    obtain ⟨k1, k2⟩ := h.old y c e1 (by omega) x w3 w2
    exact ⟨cd x, .inr ⟨rfl, k1⟩, Nat.le_trans k2 (by have := Nat.mul_le_mul_right (n + 1) e2; omega)⟩

/-- An end that was reached before. -/
theorem Bfs.skip {E : Nat → Nat → Bool} {n s : Nat} {cd bf : Nat → Nat} {u cu t : Nat} {Q : List (Nat × Nat)} (h : Bfs E n s cd bf u cu t Q) (m : Nat) (htm : t ≤ m) (hgap : ∀ k, t ≤ k → k < m → k < n → E u k = false) (hc : cd m ≠ 0) : Bfs E n s cd bf u cu (m + 1) Q := by
  refine { h with now := fun k hk hn he => ?_, high := fun v c e => by have := h.high v c e; omega }
  by_cases h1 : k < t
  · exact h.now k h1 hn he
  · by_cases h2 : k = m
    · subst h2
      refine ⟨hc, ?_⟩
      have := h.high k (cd k) (.inr ⟨rfl, hc⟩)
      omega
    · have := hgap k (by omega) (by omega) hn
      rw [this] at he
      cases he
/-- No end is left. -/
theorem Bfs.done {E : Nat → Nat → Bool} {n s : Nat} {cd bf : Nat → Nat} {u cu t : Nat} {Q : List (Nat × Nat)} (h : Bfs E n s cd bf u cu t Q) (ht : t ≤ n) (hgap : ∀ k, t ≤ k → k < n → E u k = false) : Bfs E n s cd bf u cu n Q := by
  refine { h with now := fun k hk hn he => ?_, high := fun v c e => by have := h.high v c e; omega }
  by_cases h1 : k < t
  · exact h.now k h1 hn he
  · rw [hgap k (by omega) hn] at he
    cases he
theorem Bfs.root {E : Nat → Nat → Bool} {n s : Nat} {cd bf : Nat → Nat} {u cu t : Nat} {Q : List (Nat × Nat)} (h : Bfs E n s cd bf u cu t Q) (m : Nat) (hm : m < n) (hE : E u m = true) (hc : cd m = 0) : (u = s → cu = s + 1) ∧ (u ≠ s → cu = cd u ∧ cu ≠ 0) := by
  rcases h.cur with ⟨rfl, rfl⟩ | ⟨h1, h2⟩
  · exact ⟨fun _ => rfl, fun c => absurd rfl c⟩
  · refine ⟨?_, fun _ => ⟨h1.symm, h2⟩⟩
    rintro rfl
    obtain ⟨_, cb, h4, _⟩ := h.from' u (by omega)
    have hlt : u + 1 < cu := by
      have hs := h.hs
      obtain ⟨h3, cb, h4, _, h5, h6, h7⟩ := h.from' u (by omega)
      have hcb : 1 ≤ cb := by
        by_cases e : bf u = u
        · have := h6 e; omega
        · have := (h7 e).2; omega
      have := Nat.mul_le_mul_right (n + 1) hcb
      omega
    exact absurd hc (h.old u (u + 1) (.inl ⟨rfl, rfl⟩) hlt m hm hE).1
/-- An end that is reached now. -/
theorem Bfs.reach {E : Nat → Nat → Bool} {n s : Nat} {cd bf : Nat → Nat} {u cu t : Nat} {Q : List (Nat × Nat)} (h : Bfs E n s cd bf u cu t Q) (m : Nat) (htm : t ≤ m) (hm : m < n) (hE : E u m = true) (hgap : ∀ k, t ≤ k → k < m → k < n → E u k = false) (hc : cd m = 0) :
    Bfs E n s (fun v => if v = m then cu * (n + 1) + (m + 1) else cd v) (fun v => if v = m then u else bf v) u cu (m + 1) (Q ++ [(m, cu * (n + 1) + (m + 1))]) := by
  have hroot := h.root m hm hE hc
  have hun : u < n := (h.code h.cur).1
  have hcu : cu < cu * (n + 1) + (m + 1) := by
    have := Nat.le_mul_of_pos_right cu (show 0 < n + 1 by omega)
    omega
  have hent : ∀ v c, Ent s (fun v => if v = m then cu * (n + 1) + (m + 1) else cd v) v c ↔ Ent s cd v c ∨ (v = m ∧ c = cu * (n + 1) + (m + 1)) := by
    intro v c
    unfold Ent
    by_cases e : v = m
    · subst e
      dsimp only
      rw [if_pos rfl]
      constructor
      · rintro (h1 | ⟨h1, h2⟩)
        · exact .inl (.inl h1)
        · exact .inr ⟨rfl, h1.symm⟩
      · rintro ((h1 | ⟨h1, h2⟩) | ⟨_, h1⟩)
        · exact .inl h1
        · omega
        · exact .inr ⟨h1.symm, by omega⟩
    · dsimp only
      rw [if_neg e]
      constructor
      · intro h1; exact .inl h1
      · rintro (h1 | ⟨h1, _⟩)
        · exact h1
        · exact absurd h1 e
  have hnew : ∀ v, cd v ≠ 0 → (if v = m then cu * (n + 1) + (m + 1) else cd v) = cd v := by
    intro v hv
    rw [if_neg (by rintro rfl; exact hv hc)]
  refine ⟨h.hs, (hent _ _).2 (.inl h.cur), fun x hx => ?_, ?_, fun v c e => ?_, fun v c e hlt k hk he => ?_, fun k hk hn he => ?_, fun v c e => ?_, fun v hv => ?_, fun v hv r hne hw => ?_⟩
  · rcases List.mem_append.1 hx with hx | hx
    · exact ⟨(hent _ _).2 (.inl (h.que x hx).1), (h.que x hx).2⟩
    · rw [List.mem_singleton] at hx
      subst hx
      exact ⟨(hent _ _).2 (.inr ⟨rfl, rfl⟩), hcu⟩
  · rw [List.pairwise_append]
    refine ⟨h.sorted, List.pairwise_singleton _ _, fun a ha b hb => ?_⟩
    rw [List.mem_singleton] at hb
    subst hb
    have := h.high a.1 a.2 (h.que a ha).1
    show a.2 < cu * (n + 1) + (m + 1)
    omega
  · rcases (hent _ _).1 e with e | ⟨rfl, rfl⟩
    · rcases h.all v c e with h1 | h1
      · exact .inl h1
      · exact .inr (List.mem_append_left _ h1)
    · exact .inr (by simp)
  · rcases (hent _ _).1 e with e | ⟨rfl, rfl⟩
    · obtain ⟨h1, h2⟩ := h.old v c e hlt k hk he
      have e2 := hnew k h1
      show (if k = m then cu * (n + 1) + (m + 1) else cd k) ≠ 0 ∧ (if k = m then cu * (n + 1) + (m + 1) else cd k) ≤ _
      rw [e2]
      exact ⟨h1, h2⟩
    · omega
  · show (if k = m then cu * (n + 1) + (m + 1) else cd k) ≠ 0 ∧ (if k = m then cu * (n + 1) + (m + 1) else cd k) ≤ _
    by_cases e : k = m
    · subst e
      rw [if_pos rfl]
      exact ⟨by omega, Nat.le_refl _⟩
    · rw [if_neg e]
      by_cases h1 : k < t
      · exact h.now k h1 hn he
      · rw [hgap k (by omega) (by omega) hn] at he
        cases he
  · rcases (hent _ _).1 e with e | ⟨rfl, rfl⟩
    · have := h.high v c e; omega
    · omega
  · by_cases e : v = m
    · subst e
      rw [if_pos rfl, if_pos rfl]
      refine ⟨hm, cu, rfl, hE, hun, hroot.1, fun hne => ?_⟩
      have h2 := hroot.2 hne
      refine ⟨?_, h2.2⟩
      rw [hnew u (by rw [← h2.1]; exact h2.2)]
      exact h2.1
    · rw [if_neg e, if_neg e]
      rw [if_neg e] at hv
      obtain ⟨h1, cb, h2, h3, h4, h5, h6⟩ := h.from' v hv
      refine ⟨h1, cb, h2, h3, h4, h5, fun hne => ?_⟩
      obtain ⟨h7, h8⟩ := h6 hne
      exact ⟨by rw [hnew _ (by rw [← h7]; exact h8)]; exact h7, h8⟩
  · by_cases e : v = m
    · subst e
      rw [if_pos rfl]
      rw [← List.dropLast_concat_getLast hne] at hw ⊢
      obtain ⟨y, w1, w2, w3, w4⟩ := Wl.snoc.1 hw
      rw [w4] at w2 ⊢
      rw [cod_snoc]
      by_cases hlt : cod n (s + 1) r.dropLast < cu
      · obtain ⟨c, e1, e2⟩ := h.below _ y w1 hlt
        exact absurd hc (h.old y c e1 (by omega) v hm w2).1
      · have := Nat.mul_le_mul_right (n + 1) (show cu ≤ cod n (s + 1) r.dropLast by omega)
        omega
    · rw [if_neg e] at hv ⊢
      exact h.least v hv r hne hw
/-- The next one in the queue. -/
theorem Bfs.next {E : Nat → Nat → Bool} {n s : Nat} {cd bf : Nat → Nat} {u cu : Nat} {v c : Nat} {Q : List (Nat × Nat)} (h : Bfs E n s cd bf u cu n ((v, c) :: Q)) : Bfs E n s cd bf v c 0 Q := by
  obtain ⟨h1, h2⟩ := h.que (v, c) (by simp)
  have hs := List.pairwise_cons.1 h.sorted
  simp only at h1 h2
  refine ⟨h.hs, h1, fun x hx => ⟨(h.que x (List.mem_cons_of_mem _ hx)).1, hs.1 x hx⟩, hs.2, fun x cx e => ?_, fun x cx e hlt m hm he => ?_, fun m hm => by omega, fun x cx e => ?_, h.from', h.least⟩
  · rcases h.all x cx e with k | k
    · exact .inl (by omega)
    · rcases List.mem_cons.1 k with k | k
      · cases k; exact .inl (Nat.le_refl _)
      · exact .inr k
  · rcases h.all x cx e with k | k
    · rcases Nat.lt_or_eq_of_le k with k | k
      · exact h.old x cx e k m hm he
      · subst k
        obtain rfl := h.one e h.cur
        exact h.now m hm hm he
    · rcases List.mem_cons.1 k with k | k
      · cases k; omega
      · have := hs.1 _ k
        simp only at this
        omega
  · have k1 := h.high x cx e
    have k2 := Nat.mul_le_mul_right (n + 1) (show cu + 1 ≤ c by omega)
    rw [Nat.add_mul, Nat.one_mul] at k2
    omega
/-- With nothing to come all that can be reached is. -/
theorem Bfs.whole {E : Nat → Nat → Bool} {n s : Nat} {cd bf : Nat → Nat} {u cu : Nat} (h : Bfs E n s cd bf u cu n []) (r : List Nat) : ∀ v, Wl E n s r v → (∃ c, Ent s cd v c) ∧ (r ≠ [] → cd v ≠ 0) := by
  induction r using snocRec with
  | h0 => rintro v rfl; exact ⟨⟨s + 1, .inl ⟨rfl, rfl⟩⟩, fun h => absurd rfl h⟩
  | h1 r x ih =>
    intro v hw
    obtain ⟨y, w1, w2, w3, rfl⟩ := Wl.snoc.1 hw
    obtain ⟨⟨c, e⟩, _⟩ := ih y w1
    have hcd : cd x ≠ 0 := by
      rcases h.all y c e with k | k
      · rcases Nat.lt_or_eq_of_le k with k | k
        · exact (h.old y c e k x w3 w2).1
        · subst k
          obtain rfl := h.one e h.cur
          exact (h.now x w3 w3 w2).1
      · cases k
    exact ⟨⟨cd x, .inr ⟨rfl, hcd⟩⟩, fun _ => hcd⟩
end Go.Proofs.YtjgmkigfpjmlaaaDoor
