/-
  Plain: walks along edges, their numbers, and what a search in width knows while it goes.
-/
import Derived.ArgAppend
import Derived.Lib.Walk
import Derived.Test.YtjgmkigfpjmlaabDoorZE
namespace Go.Proofs.YtjgmkigfpjmlaabDoor

/-- r leads from s to t along edges between nodes below n. -/
def Wl (E : Nat → Nat → Bool) (n : Nat) : Nat → List Nat → Nat → Prop
  | s, [], t => s = t
  | s, m :: r, t => E s m = true ∧ m < n ∧ Wl E n m r t
/-- A walk's number: its nodes are the digits. -/
def cod (n a : Nat) (r : List Nat) : Nat := r.foldl (fun c v => c * (n + 1) + (v + 1)) a

theorem cod_cons (n a v : Nat) (r : List Nat) : cod n a (v :: r) = cod n (a * (n + 1) + (v + 1)) r := rfl
theorem cod_snoc (n a v : Nat) (r : List Nat) : cod n a (r ++ [v]) = cod n a r * (n + 1) + (v + 1) := by
  unfold cod
  rw [List.foldl_append]
  rfl
theorem Wl.snoc {E : Nat → Nat → Bool} {n v t : Nat} : ∀ {r : List Nat} {s : Nat}, Wl E n s (r ++ [v]) t ↔ ∃ u, Wl E n s r u ∧ E u v = true ∧ v < n ∧ v = t := by
  intro r
  induction r with
  | nil =>
    intro s
    constructor
    · rintro ⟨h1, h2, h3⟩; exact ⟨s, rfl, h1, h2, h3⟩
    · rintro ⟨u, h0, h1, h2, h3⟩; cases h0; exact ⟨h1, h2, h3⟩
  | cons m r ih =>
    intro s
    constructor
    · rintro ⟨h1, h2, h3⟩
      obtain ⟨u, k1, k2⟩ := ih.1 h3
      exact ⟨u, ⟨h1, h2, k1⟩, k2⟩
    · rintro ⟨u, ⟨h1, h2, k1⟩, k2⟩
      exact ⟨h1, h2, ih.2 ⟨u, k1, k2⟩⟩
theorem Wl.last {E : Nat → Nat → Bool} {n t : Nat} : ∀ {r : List Nat} {s : Nat}, Wl E n s r t → r ≠ [] → t < n := by
  intro r
  induction r with
  | nil => intro s _ h; exact absurd rfl h
  | cons m r ih =>
    rintro s ⟨h1, h2, h3⟩ _
    cases r with
    | nil => cases h3; exact h2
    | cons a r => exact ih h3 (by simp)
theorem Wl.digits {E : Nat → Nat → Bool} {n t : Nat} : ∀ {r : List Nat} {s : Nat}, Wl E n s r t → ∀ v ∈ r, v < n := by
  intro r
  induction r with
  | nil => intro s _ v h; cases h
  | cons m r ih =>
    rintro s ⟨h1, h2, h3⟩ v hv
    rcases List.mem_cons.1 hv with rfl | hv
    · exact h2
    · exact ih h3 v hv

/-- lists, from their ends -/
theorem snocRec {P : List Nat → Prop} (h0 : P []) (h1 : ∀ r v, P r → P (r ++ [v])) (l : List Nat) : P l := by
  have h : ∀ k (l : List Nat), l.length = k → P l := by
    intro k
    induction k with
    | zero => intro l hl; rw [List.length_eq_zero_iff.1 hl]; exact h0
    | succ k ih =>
      intro l hl
      have hne : l ≠ [] := by rintro rfl; simp at hl
      rw [← List.dropLast_concat_getLast hne]
      exact h1 _ _ (ih _ (by simp [hl]))
  exact h _ l rfl

theorem cod_low (n a : Nat) (ha : 1 ≤ a) (r : List Nat) : (n + 1) ^ r.length ≤ cod n a r := by
  induction r using snocRec with
  | h0 => exact ha
  | h1 r v ih =>
    rw [cod_snoc, List.length_append, List.length_singleton, Nat.pow_succ]
    exact Nat.le_trans (Nat.mul_le_mul_right _ ih) (Nat.le_add_right _ _)
theorem cod_high (n a : Nat) (ha : a ≤ n) (r : List Nat) (hr : ∀ v ∈ r, v < n) : cod n a r < (n + 1) ^ (r.length + 1) := by
  induction r using snocRec with
  | h0 => show a < (n + 1) ^ 1; rw [Nat.pow_one]; omega
  | h1 r v ih =>
    have h1 := ih (fun x hx => hr x (List.mem_append_left _ hx))
    have h2 : v < n := hr v (by simp)
    rw [cod_snoc, List.length_append, List.length_singleton, Nat.pow_succ (n + 1) (r.length + 1)]
    have h3 : (cod n a r + 1) * (n + 1) ≤ (n + 1) ^ (r.length + 1) * (n + 1) := Nat.mul_le_mul_right _ h1
    rw [Nat.add_mul, Nat.one_mul] at h3
    omega
theorem cod_longer (n a : Nat) (h1 : 1 ≤ a) (ha : a ≤ n) (r r' : List Nat) (hr : ∀ v ∈ r, v < n) (hl : r.length < r'.length) : cod n a r < cod n a r' :=
  Nat.lt_of_lt_of_le (cod_high n a ha r hr) (Nat.le_trans (Nat.pow_le_pow_right (by omega) hl) (cod_low n a h1 r'))
/-- A lower beginning is lower whatever follows. -/
theorem cod_lt (n : Nat) : ∀ (r r' : List Nat) (a b : Nat), r.length = r'.length → (∀ v ∈ r, v < n) → a < b → cod n a r < cod n b r' := by
  intro r
  induction r with
  | nil => intro r' a b hl _ h; rw [List.length_eq_zero_iff.1 hl.symm]; exact h
  | cons x r ih =>
    intro r' a b hl hr h
    cases r' with
    | nil => simp at hl
    | cons y r' =>
      rw [cod_cons, cod_cons]
      refine ih r' _ _ (by simpa using hl) (fun v hv => hr v (List.mem_cons_of_mem _ hv)) ?_
      have h2 : x < n := hr x (by simp)
      have h3 : (a + 1) * (n + 1) ≤ b * (n + 1) := Nat.mul_le_mul_right _ h
      rw [Nat.add_mul, Nat.one_mul] at h3
      omega
theorem mul_one_inj {n X Y v w : Nat} (hv : v < n) (hw : w < n) (h : X * (n + 1) + (v + 1) = Y * (n + 1) + (w + 1)) : X = Y ∧ v = w := by
  have h1 : (X * (n + 1) + (v + 1)) % (n + 1) = (Y * (n + 1) + (w + 1)) % (n + 1) := by rw [h]
  rw [Nat.mul_comm X, Nat.mul_comm Y, Nat.mul_add_mod, Nat.mul_add_mod, Nat.mod_eq_of_lt (by omega), Nat.mod_eq_of_lt (by omega)] at h1
  have h2 : v = w := by omega
  subst h2
  have h3 : X * (n + 1) = Y * (n + 1) := by omega
  exact ⟨Nat.eq_of_mul_eq_mul_right (by omega) h3, rfl⟩
theorem cod_inj (n a : Nat) (ha1 : 1 ≤ a) (ha : a ≤ n) (r r' : List Nat) (hr : ∀ v ∈ r, v < n) (hr' : ∀ v ∈ r', v < n) (h : cod n a r = cod n a r') : r = r' := by
  have hl : r.length = r'.length := by
    rcases Nat.lt_trichotomy r.length r'.length with h1 | h1 | h1
    · have := cod_longer n a ha1 ha r r' hr h1; omega
    · exact h1
    · have := cod_longer n a ha1 ha r' r hr' h1; omega
  clear ha1 ha
  have key : ∀ (r r' : List Nat), r.length = r'.length → (∀ v ∈ r, v < n) → (∀ v ∈ r', v < n) → ∀ a b, cod n a r = cod n b r' → a = b ∧ r = r' := by
    intro r
    induction r with
    | nil => intro r' hl _ _ a b h; rw [List.length_eq_zero_iff.1 hl.symm] at h ⊢; exact ⟨h, rfl⟩
    | cons x r ih =>
      intro r' hl hr hr' a b h
      cases r' with
      | nil => simp at hl
      | cons y r' =>
        rw [cod_cons, cod_cons] at h
        obtain ⟨h1, rfl⟩ := ih r' (by simpa using hl) (fun v hv => hr v (List.mem_cons_of_mem _ hv)) (fun v hv => hr' v (List.mem_cons_of_mem _ hv)) _ _ h
        obtain ⟨rfl, rfl⟩ := mul_one_inj (hr x (by simp)) (hr' y (by simp)) h1
        exact ⟨rfl, rfl⟩
  exact (key r r' hl hr hr' a a h).2

/-- What is known: the node to begin with, and those that were reached, with their first walks' numbers. -/
def Ent (s : Nat) (cd : Nat → Nat) (v c : Nat) : Prop := (v = s ∧ c = s + 1) ∨ (cd v = c ∧ c ≠ 0)

/-- What holds while the ends below t of u's edges are done, with Q still to come. -/
structure Bfs (E : Nat → Nat → Bool) (n s : Nat) (cd bf : Nat → Nat) (u cu t : Nat) (Q : List (Nat × Nat)) : Prop where
  hs : s < n
  cur : Ent s cd u cu
  que : ∀ x ∈ Q, Ent s cd x.1 x.2 ∧ cu < x.2
  sorted : Q.Pairwise (fun x y => x.2 < y.2)
  all : ∀ v c, Ent s cd v c → c ≤ cu ∨ (v, c) ∈ Q
  old : ∀ v c, Ent s cd v c → c < cu → ∀ m, m < n → E v m = true → cd m ≠ 0 ∧ cd m ≤ c * (n + 1) + (m + 1)
  now : ∀ m, m < t → m < n → E u m = true → cd m ≠ 0 ∧ cd m ≤ cu * (n + 1) + (m + 1)
  high : ∀ v c, Ent s cd v c → c ≤ cu * (n + 1) + t
  from' : ∀ v, cd v ≠ 0 → v < n ∧ ∃ cb, cd v = cb * (n + 1) + (v + 1) ∧ E (bf v) v = true ∧ bf v < n ∧ (bf v = s → cb = s + 1) ∧ (bf v ≠ s → cb = cd (bf v) ∧ cb ≠ 0)
  least : ∀ v, cd v ≠ 0 → ∀ r, r ≠ [] → Wl E n s r v → cd v ≤ cod n (s + 1) r

theorem Bfs.first (E : Nat → Nat → Bool) (n s : Nat) (bf : Nat → Nat) (hs : s < n) : Bfs E n s (fun _ => 0) bf s (s + 1) 0 [] := by
  have he : ∀ v c, Ent s (fun _ => 0) v c → v = s ∧ c = s + 1 := by
    rintro v c (h | ⟨h1, h2⟩)
    · exact h
    · exact absurd h1.symm h2
  refine ⟨hs, .inl ⟨rfl, rfl⟩, fun x hx => (by cases hx), List.Pairwise.nil, fun v c h => .inl (by have := he v c h; omega), fun v c h hc => by have := he v c h; omega, fun m hm => by omega, fun v c h => ?_, fun v h => absurd rfl h, fun v h => absurd rfl h⟩
  obtain ⟨_, rfl⟩ := he v c h
  exact Nat.le_trans (Nat.le_mul_of_pos_right _ (by omega)) (Nat.le_add_right _ _)

theorem Bfs.code {E : Nat → Nat → Bool} {n s : Nat} {cd bf : Nat → Nat} {u cu t : Nat} {Q : List (Nat × Nat)} (h : Bfs E n s cd bf u cu t Q) {v c : Nat} (he : Ent s cd v c) : v < n ∧ ∃ X, c = X * (n + 1) + (v + 1) := by
  rcases he with ⟨rfl, rfl⟩ | ⟨h1, h2⟩
  · exact ⟨h.hs, 0, by omega⟩
  · obtain ⟨h3, cb, h4, _⟩ := h.from' v (by omega)
    exact ⟨h3, cb, by omega⟩
theorem Bfs.one {E : Nat → Nat → Bool} {n s : Nat} {cd bf : Nat → Nat} {u cu t : Nat} {Q : List (Nat × Nat)} (h : Bfs E n s cd bf u cu t Q) {v x c : Nat} (h1 : Ent s cd v c) (h2 : Ent s cd x c) : v = x := by
  obtain ⟨a1, X, a2⟩ := h.code h1
  obtain ⟨b1, Y, b2⟩ := h.code h2
  exact (mul_one_inj a1 b1 (a2.symm.trans b2)).2
/-- Walks below the one in hand are known. -/
theorem Bfs.below {E : Nat → Nat → Bool} {n s : Nat} {cd bf : Nat → Nat} {u cu t : Nat} {Q : List (Nat × Nat)} (h : Bfs E n s cd bf u cu t Q) (r : List Nat) : ∀ v, Wl E n s r v → cod n (s + 1) r < cu → ∃ c, Ent s cd v c ∧ c ≤ cod n (s + 1) r := by
  induction r using snocRec with
  | h0 => rintro v rfl _; exact ⟨s + 1, .inl ⟨rfl, rfl⟩, Nat.le_refl _⟩
  | h1 r x ih =>
    intro v hw hc
    obtain ⟨y, w1, w2, w3, rfl⟩ := Wl.snoc.1 hw
    rw [cod_snoc] at hc ⊢
    have hlt : cod n (s + 1) r < cu := by
      have := Nat.le_mul_of_pos_right (cod n (s + 1) r) (show 0 < n + 1 by omega)
      omega
    obtain ⟨c, e1, e2⟩ := ih y w1 hlt
    obtain ⟨k1, k2⟩ := h.old y c e1 (by omega) x w3 w2
    exact ⟨cd x, .inr ⟨rfl, k1⟩, Nat.le_trans k2 (by have := Nat.mul_le_mul_right (n + 1) e2; omega)⟩

/-- An end that was reached before. -/
theorem Bfs.skip {E : Nat → Nat → Bool} {n s : Nat} {cd bf : Nat → Nat} {u cu t : Nat} {Q : List (Nat × Nat)} (h : Bfs E n s cd bf u cu t Q) (m : Nat) (htm : t ≤ m) (hgap : ∀ k, t ≤ k → k < m → k < n → E u k = false) (hc : cd m ≠ 0) : Bfs E n s cd bf u cu (m + 1) Q := by
  refine { h with now := fun k hk hn he => ?_, high := fun v c e => by have := h.high v c e; omega }
  by_cases h1 : k < t
  · exact h.now k h1 hn he
  · by_cases h2 : k = m
    · subst h2
      refine ⟨hc, ?_⟩
      have := h.high k (cd k) (.inr ⟨rfl, hc⟩)
      omega
    · have := hgap k (by omega) (by omega) hn
      rw [this] at he
      cases he
/-- No end is left. -/
theorem Bfs.done {E : Nat → Nat → Bool} {n s : Nat} {cd bf : Nat → Nat} {u cu t : Nat} {Q : List (Nat × Nat)} (h : Bfs E n s cd bf u cu t Q) (ht : t ≤ n) (hgap : ∀ k, t ≤ k → k < n → E u k = false) : Bfs E n s cd bf u cu n Q := by
  refine { h with now := fun k hk hn he => ?_, high := fun v c e => by have := h.high v c e; omega }
  by_cases h1 : k < t
  · exact h.now k h1 hn he
  · rw [hgap k (by omega) hn] at he
    cases he
theorem Bfs.root {E : Nat → Nat → Bool} {n s : Nat} {cd bf : Nat → Nat} {u cu t : Nat} {Q : List (Nat × Nat)} (h : Bfs E n s cd bf u cu t Q) (m : Nat) (hm : m < n) (hE : E u m = true) (hc : cd m = 0) : (u = s → cu = s + 1) ∧ (u ≠ s → cu = cd u ∧ cu ≠ 0) := by
  rcases h.cur with ⟨rfl, rfl⟩ | ⟨h1, h2⟩
  · exact ⟨fun _ => rfl, fun c => absurd rfl c⟩
  · refine ⟨?_, fun _ => ⟨h1.symm, h2⟩⟩
    rintro rfl
    obtain ⟨_, cb, h4, _⟩ := h.from' u (by omega)
    have hlt : u + 1 < cu := by
      have hs := h.hs
      obtain ⟨h3, cb, h4, _, h5, h6, h7⟩ := h.from' u (by omega)
      have hcb : 1 ≤ cb := by
        by_cases e : bf u = u
        · have := h6 e; omega
        · have := (h7 e).2; omega
      have := Nat.mul_le_mul_right (n + 1) hcb
      omega
    exact absurd hc (h.old u (u + 1) (.inl ⟨rfl, rfl⟩) hlt m hm hE).1
/-- An end that is reached now. -/
theorem Bfs.reach {E : Nat → Nat → Bool} {n s : Nat} {cd bf : Nat → Nat} {u cu t : Nat} {Q : List (Nat × Nat)} (h : Bfs E n s cd bf u cu t Q) (m : Nat) (htm : t ≤ m) (hm : m < n) (hE : E u m = true) (hgap : ∀ k, t ≤ k → k < m → k < n → E u k = false) (hc : cd m = 0) :
    Bfs E n s (fun v => if v = m then cu * (n + 1) + (m + 1) else cd v) (fun v => if v = m then u else bf v) u cu (m + 1) (Q ++ [(m, cu * (n + 1) + (m + 1))]) := by
  have hroot := h.root m hm hE hc
  have hun : u < n := (h.code h.cur).1
  have hcu : cu < cu * (n + 1) + (m + 1) := by
    have := Nat.le_mul_of_pos_right cu (show 0 < n + 1 by omega)
    omega
  have hent : ∀ v c, Ent s (fun v => if v = m then cu * (n + 1) + (m + 1) else cd v) v c ↔ Ent s cd v c ∨ (v = m ∧ c = cu * (n + 1) + (m + 1)) := by
    intro v c
    unfold Ent
    by_cases e : v = m
    · subst e
      dsimp only
      rw [if_pos rfl]
      constructor
      · rintro (h1 | ⟨h1, h2⟩)
        · exact .inl (.inl h1)
        · exact .inr ⟨rfl, h1.symm⟩
      · rintro ((h1 | ⟨h1, h2⟩) | ⟨_, h1⟩)
        · exact .inl h1
        · omega
        · exact .inr ⟨h1.symm, by omega⟩
    · dsimp only
      rw [if_neg e]
      constructor
      · intro h1; exact .inl h1
      · rintro (h1 | ⟨h1, _⟩)
        · exact h1
        · exact absurd h1 e
  have hnew : ∀ v, cd v ≠ 0 → (if v = m then cu * (n + 1) + (m + 1) else cd v) = cd v := by
    intro v hv
    rw [if_neg (by rintro rfl; exact hv hc)]
  refine ⟨h.hs, (hent _ _).2 (.inl h.cur), fun x hx => ?_, ?_, fun v c e => ?_, fun v c e hlt k hk he => ?_, fun k hk hn he => ?_, fun v c e => ?_, fun v hv => ?_, fun v hv r hne hw => ?_⟩
  · rcases List.mem_append.1 hx with hx | hx
    · exact ⟨(hent _ _).2 (.inl (h.que x hx).1), (h.que x hx).2⟩
    · rw [List.mem_singleton] at hx
      subst hx
      exact ⟨(hent _ _).2 (.inr ⟨rfl, rfl⟩), hcu⟩
  · rw [List.pairwise_append]
    refine ⟨h.sorted, List.pairwise_singleton _ _, fun a ha b hb => ?_⟩
    rw [List.mem_singleton] at hb
    subst hb
    have := h.high a.1 a.2 (h.que a ha).1
    show a.2 < cu * (n + 1) + (m + 1)
    omega
  · rcases (hent _ _).1 e with e | ⟨rfl, rfl⟩
    · rcases h.all v c e with h1 | h1
      · exact .inl h1
      · exact .inr (List.mem_append_left _ h1)
    · exact .inr (by simp)
  · rcases (hent _ _).1 e with e | ⟨rfl, rfl⟩
    · obtain ⟨h1, h2⟩ := h.old v c e hlt k hk he
      have e2 := hnew k h1
      show (if k = m then cu * (n + 1) + (m + 1) else cd k) ≠ 0 ∧ (if k = m then cu * (n + 1) + (m + 1) else cd k) ≤ _
      rw [e2]
      exact ⟨h1, h2⟩
    · omega
  · show (if k = m then cu * (n + 1) + (m + 1) else cd k) ≠ 0 ∧ (if k = m then cu * (n + 1) + (m + 1) else cd k) ≤ _
    by_cases e : k = m
    · subst e
      rw [if_pos rfl]
      exact ⟨by omega, Nat.le_refl _⟩
    · rw [if_neg e]
      by_cases h1 : k < t
      · exact h.now k h1 hn he
      · rw [hgap k (by omega) (by omega) hn] at he
        cases he
  · rcases (hent _ _).1 e with e | ⟨rfl, rfl⟩
    · have := h.high v c e; omega
    · omega
  · by_cases e : v = m
    · subst e
      rw [if_pos rfl, if_pos rfl]
      refine ⟨hm, cu, rfl, hE, hun, hroot.1, fun hne => ?_⟩
      have h2 := hroot.2 hne
      refine ⟨?_, h2.2⟩
      rw [hnew u (by rw [← h2.1]; exact h2.2)]
      exact h2.1
    · rw [if_neg e, if_neg e]
      rw [if_neg e] at hv
      obtain ⟨h1, cb, h2, h3, h4, h5, h6⟩ := h.from' v hv
      refine ⟨h1, cb, h2, h3, h4, h5, fun hne => ?_⟩
      obtain ⟨h7, h8⟩ := h6 hne
      exact ⟨by rw [hnew _ (by rw [← h7]; exact h8)]; exact h7, h8⟩
  · by_cases e : v = m
    · subst e
      rw [if_pos rfl]
      rw [← List.dropLast_concat_getLast hne] at hw ⊢
      obtain ⟨y, w1, w2, w3, w4⟩ := Wl.snoc.1 hw
      rw [w4] at w2 ⊢
      rw [cod_snoc]
      by_cases hlt : cod n (s + 1) r.dropLast < cu
      · obtain ⟨c, e1, e2⟩ := h.below _ y w1 hlt
        exact absurd hc (h.old y c e1 (by omega) v hm w2).1
      · have := Nat.mul_le_mul_right (n + 1) (show cu ≤ cod n (s + 1) r.dropLast by omega)
        omega
    · rw [if_neg e] at hv ⊢
      exact h.least v hv r hne hw
/-- The next one in the queue. -/
theorem Bfs.next {E : Nat → Nat → Bool} {n s : Nat} {cd bf : Nat → Nat} {u cu : Nat} {v c : Nat} {Q : List (Nat × Nat)} (h : Bfs E n s cd bf u cu n ((v, c) :: Q)) : Bfs E n s cd bf v c 0 Q := by
  obtain ⟨h1, h2⟩ := h.que (v, c) (by simp)
  have hs := List.pairwise_cons.1 h.sorted
  simp only at h1 h2
  refine ⟨h.hs, h1, fun x hx => ⟨(h.que x (List.mem_cons_of_mem _ hx)).1, hs.1 x hx⟩, hs.2, fun x cx e => ?_, fun x cx e hlt m hm he => ?_, fun m hm => by omega, fun x cx e => ?_, h.from', h.least⟩
  · rcases h.all x cx e with k | k
    · exact .inl (by omega)
    · rcases List.mem_cons.1 k with k | k
      · cases k; exact .inl (Nat.le_refl _)
      · exact .inr k
  · rcases h.all x cx e with k | k
    · rcases Nat.lt_or_eq_of_le k with k | k
      · exact h.old x cx e k m hm he
      · subst k
        obtain rfl := h.one e h.cur
        exact h.now m hm hm he
    · rcases List.mem_cons.1 k with k | k
      · cases k; omega
      · have := hs.1 _ k
        simp only at this
        omega
  · have k1 := h.high x cx e
    have k2 := Nat.mul_le_mul_right (n + 1) (show cu + 1 ≤ c by omega)
    rw [Nat.add_mul, Nat.one_mul] at k2
    omega
/-- With nothing to come all that can be reached is. -/
theorem Bfs.whole {E : Nat → Nat → Bool} {n s : Nat} {cd bf : Nat → Nat} {u cu : Nat} (h : Bfs E n s cd bf u cu n []) (r : List Nat) : ∀ v, Wl E n s r v → (∃ c, Ent s cd v c) ∧ (r ≠ [] → cd v ≠ 0) := by
  induction r using snocRec with
  | h0 => rintro v rfl; exact ⟨⟨s + 1, .inl ⟨rfl, rfl⟩⟩, fun h => absurd rfl h⟩
  | h1 r x ih =>
    intro v hw
    obtain ⟨y, w1, w2, w3, rfl⟩ := Wl.snoc.1 hw
    obtain ⟨⟨c, e⟩, _⟩ := ih y w1
    have hcd : cd x ≠ 0 := by
      rcases h.all y c e with k | k
      · rcases Nat.lt_or_eq_of_le k with k | k
        · exact (h.old y c e k x w3 w2).1
        · subst k
          obtain rfl := h.one e h.cur
          exact (h.now x w3 w3 w2).1
      · cases k
    exact ⟨⟨cd x, .inr ⟨rfl, hcd⟩⟩, fun _ => hcd⟩
end Go.Proofs.YtjgmkigfpjmlaabDoor

/-
  Plain: how far it is to a node, layer by layer, and the first of the shortest walks.
-/
namespace Go.Proofs.YtjgmkigfpjmlaabDoor

def Rk (E : Nat → Nat → Bool) (n T k v : Nat) : Prop := ∃ r, r.length = k ∧ Wl E n v r T
theorem Rk_zero {E : Nat → Nat → Bool} {n T v : Nat} : Rk E n T 0 v ↔ v = T := by
  constructor
  · rintro ⟨r, hl, hw⟩
    rw [List.length_eq_zero_iff.1 hl] at hw
    exact hw
  · rintro rfl
    exact ⟨[], rfl, rfl⟩
theorem Rk_succ {E : Nat → Nat → Bool} {n T k v : Nat} : Rk E n T (k + 1) v ↔ ∃ m, m < n ∧ E v m = true ∧ Rk E n T k m := by
  constructor
  · rintro ⟨r, hl, hw⟩
    cases r with
    | nil => simp at hl
    | cons m r => exact ⟨m, hw.2.1, hw.1, r, by simpa using hl, hw.2.2⟩
  · rintro ⟨m, h1, h2, r, hl, hw⟩
    exact ⟨m :: r, by simp [hl], h2, h1, hw⟩
/-- d is the least number of edges, one at least, from v to T. -/
def Dst (E : Nat → Nat → Bool) (n T v d : Nat) : Prop := 1 ≤ d ∧ Rk E n T d v ∧ ∀ j, 1 ≤ j → Rk E n T j v → d ≤ j
theorem Dst.uniq {E : Nat → Nat → Bool} {n T v d d' : Nat} (h : Dst E n T v d) (h' : Dst E n T v d') : d = d' :=
  Nat.le_antisymm (h.2.2 d' h'.1 h'.2.1) (h'.2.2 d h.1 h.2.1)
/-- What is known ahead of round d. -/
structure Lay (E : Nat → Nat → Bool) (n T d : Nat) (dv : Nat → Nat) (Ly : List Nat) : Prop where
  pos : 1 ≤ d
  right : ∀ v, v < n → dv v ≠ 0 → Dst E n T v (dv v) ∧ dv v < d
  all : ∀ v, v < n → ∀ j, 1 ≤ j → j < d → Rk E n T j v → dv v ≠ 0
  layer : ∀ m, m ∈ Ly ↔ (d = 1 ∧ m = T) ∨ (1 < d ∧ m < n ∧ dv m = d - 1)
theorem Lay.first (E : Nat → Nat → Bool) (n T : Nat) : Lay E n T 1 (fun _ => 0) [T] :=
  ⟨Nat.le_refl _, fun _ _ h => absurd rfl h, fun _ _ j h1 h2 => by omega, fun m => by simp⟩
theorem Lay.round {E : Nat → Nat → Bool} {n T d : Nat} {dv dv' : Nat → Nat} {Ly Ly' : List Nat} (h : Lay E n T d dv Ly) (hT : T < n)
    (hd : ∀ v, v < n → dv' v = if dv v = 0 ∧ (∃ m ∈ Ly, E v m = true) then d else dv v) (hl : ∀ v, v ∈ Ly' ↔ v < n ∧ dv v = 0 ∧ ∃ m ∈ Ly, E v m = true) : Lay E n T (d + 1) dv' Ly' := by
  have hp := h.pos
  have hlay : ∀ m, m ∈ Ly → m < n ∧ Rk E n T (d - 1) m := by
    intro m hm
    rcases (h.layer m).1 hm with ⟨rfl, rfl⟩ | ⟨h1, h2, h3⟩
    · exact ⟨hT, Rk_zero.2 rfl⟩
    · refine ⟨h2, ?_⟩
      have := (h.right m h2 (by omega)).1.2.1
      rw [h3] at this
      exact this
  have hhit : ∀ v, v < n → dv v = 0 → ((∃ m ∈ Ly, E v m = true) ↔ Rk E n T d v) := by
    intro v hv h0
    obtain ⟨e, rfl⟩ : ∃ e, d = e + 1 := ⟨d - 1, by omega⟩
    rw [Rk_succ]
    constructor
    · rintro ⟨m, hm, he⟩
      obtain ⟨h1, h2⟩ := hlay m hm
      exact ⟨m, h1, he, h2⟩
    · rintro ⟨m, h1, he, h2⟩
      refine ⟨m, (h.layer m).2 ?_, he⟩
      by_cases e0 : e = 0
      · subst e0
        exact .inl ⟨rfl, Rk_zero.1 h2⟩
      · refine .inr ⟨by omega, h1, ?_⟩
        have k1 := h.all m h1 e (by omega) (by omega) h2
        obtain ⟨k2, k3⟩ := h.right m h1 k1
        have k4 := k2.2.2 e (by omega) h2
        by_cases k5 : dv m = e
        · omega
        · exact absurd h0 (h.all v hv (dv m + 1) (by omega) (by omega) (Rk_succ.2 ⟨m, h1, he, k2.2.1⟩))
  refine ⟨by omega, fun v hv hn => ?_, fun v hv j h1 h2 hr => ?_, fun m => ?_⟩
  · rw [hd v hv] at hn ⊢
    by_cases hc : dv v = 0 ∧ ∃ m ∈ Ly, E v m = true
    · rw [if_pos hc]
      refine ⟨⟨hp, (hhit v hv hc.1).1 hc.2, fun j k1 k2 => ?_⟩, by omega⟩
      by_cases hj : j < d
      · exact absurd hc.1 (h.all v hv j k1 hj k2)
      · omega
    · rw [if_neg hc] at hn ⊢
      obtain ⟨k1, k2⟩ := h.right v hv hn
      exact ⟨k1, by omega⟩
  · rw [hd v hv]
    by_cases hj : j < d
    · have := h.all v hv j h1 hj hr
      rw [if_neg (by rintro ⟨h0, _⟩; exact this h0)]
      exact this
    · obtain rfl : j = d := by omega
      by_cases h0 : dv v = 0
      · rw [if_pos ⟨h0, (hhit v hv h0).2 hr⟩]
        omega
      · rw [if_neg (by rintro ⟨h1, _⟩; exact h0 h1)]
        exact h0
  · rw [hl]
    constructor
    · rintro ⟨h1, h2⟩
      refine .inr ⟨by omega, h1, ?_⟩
      rw [hd m h1, if_pos h2]
      omega
    · rintro (⟨h1, _⟩ | ⟨h1, h2, h3⟩)
      · omega
      · refine ⟨h2, ?_⟩
        rw [hd m h2] at h3
        by_cases hc : dv m = 0 ∧ ∃ x ∈ Ly, E m x = true
        · exact hc
        · rw [if_neg hc] at h3
          have := (h.right m h2 (by omega)).2
          omega
theorem Lay.ends {E : Nat → Nat → Bool} {n T d : Nat} {dv : Nat → Nat} (h : Lay E n T d dv []) : ∀ j, ∀ v, v < n → 1 ≤ j → Rk E n T j v → dv v ≠ 0 := by
  have hp := h.pos
  have hd : 2 ≤ d := by
    rcases Nat.lt_or_eq_of_le hp with h1 | h1
    · exact h1
    · have := (h.layer T).2 (.inl ⟨h1.symm, rfl⟩)
      cases this
  intro j
  induction j with
  | zero => intro v _ h1; omega
  | succ j ih =>
    intro v hv h1 hr
    by_cases hj : j + 1 < d
    · exact h.all v hv (j + 1) h1 hj hr
    · obtain ⟨m, m1, m2, m3⟩ := Rk_succ.1 hr
      have k1 := ih m m1 (by omega) m3
      obtain ⟨k2, k3⟩ := h.right m m1 k1
      have k4 : dv m ≠ d - 1 := by
        intro e
        have := (h.layer m).2 (.inr ⟨by omega, m1, e⟩)
        cases this
      exact h.all v hv (dv m + 1) (by omega) (by omega) (Rk_succ.2 ⟨m, m1, m2, k2.2.1⟩)
/-- What dv tells in the end. -/
def Dists (E : Nat → Nat → Bool) (n T : Nat) (dv : Nat → Nat) : Prop := ∀ v, v < n → (dv v ≠ 0 → Dst E n T v (dv v)) ∧ (dv v = 0 → ∀ j, 1 ≤ j → ¬ Rk E n T j v)
theorem Lay.dists {E : Nat → Nat → Bool} {n T d : Nat} {dv : Nat → Nat} (h : Lay E n T d dv []) : Dists E n T dv :=
  fun v hv => ⟨fun h0 => (h.right v hv h0).1, fun h0 j h1 hr => h.ends j v hv h1 hr h0⟩
theorem Dists.at {E : Nat → Nat → Bool} {n T v d : Nat} {dv : Nat → Nat} (h : Dists E n T dv) (hv : v < n) (hd : Dst E n T v d) : dv v = d := by
  by_cases h0 : dv v = 0
  · exact absurd hd.2.1 ((h v hv).2 h0 d hd.1)
  · exact ((h v hv).1 h0).uniq hd

theorem Wl.det {E : Nat → Nat → Bool} {n : Nat} : ∀ {r : List Nat} {s t t' : Nat}, Wl E n s r t → Wl E n s r t' → t = t' := by
  intro r
  induction r with
  | nil => intro s t t' h h'; exact h.symm.trans h'
  | cons m r ih => intro s t t' h h'; exact ih h.2.2 h'.2.2
theorem Wl.append {E : Nat → Nat → Bool} {n t : Nat} : ∀ {r q : List Nat} {s : Nat}, Wl E n s (r ++ q) t ↔ ∃ u, Wl E n s r u ∧ Wl E n u q t := by
  intro r
  induction r with
  | nil =>
    intro q s
    constructor
    · intro h; exact ⟨s, rfl, h⟩
    · rintro ⟨u, h0, h⟩; cases h0; exact h
  | cons m r ih =>
    intro q s
    constructor
    · rintro ⟨h1, h2, h3⟩
      obtain ⟨u, k1, k2⟩ := ih.1 h3
      exact ⟨u, ⟨h1, h2, k1⟩, k2⟩
    · rintro ⟨u, ⟨h1, h2, k1⟩, k2⟩
      exact ⟨h1, h2, ih.2 ⟨u, k1, k2⟩⟩

/-- A walk to u, d edges from T, with a number no greater than any beginning of a walk of D edges. -/
structure Gre (E : Nat → Nat → Bool) (n s T D : Nat) (p : List Nat) (u d : Nat) : Prop where
  hs : s < n
  walk : Wl E n s p u
  hu : u < n
  len : p.length + d = D
  rest : d = 0 → u = T
  dist : d ≠ 0 → Dst E n T u d
  low : ∀ r, r.length = D → Wl E n s r T → cod n (s + 1) p ≤ cod n (s + 1) (r.take p.length)
theorem Gre.first {E : Nat → Nat → Bool} {n s T D : Nat} (hs : s < n) (hD : Dst E n T s D) : Gre E n s T D [] s D :=
  ⟨hs, rfl, hs, by simp, fun h => by have := hD.1; omega, fun _ => hD, fun r _ _ => by simp⟩
/-- Which node may be next. -/
def Fits (T : Nat) (dv : Nat → Nat) (d m : Nat) : Prop := (d = 1 ∧ m = T) ∨ (1 < d ∧ dv m = d - 1)
theorem Gre.some' {E : Nat → Nat → Bool} {n s T D : Nat} {p : List Nat} {u d : Nat} {dv : Nat → Nat} (h : Gre E n s T D p u (d + 1)) (hv : Dists E n T dv) {m : Nat} (hm : m < n) (he : E u m = true) (hr : Rk E n T d m) : Fits T dv (d + 1) m := by
  have hd := h.dist (by omega)
  by_cases h0 : d = 0
  · subst h0
    exact .inl ⟨rfl, Rk_zero.1 hr⟩
  · refine .inr ⟨by omega, ?_⟩
    refine hv.at hm ⟨by omega, hr, fun j hj hk => ?_⟩
    have := hd.2.2 (j + 1) (by omega) (Rk_succ.2 ⟨m, hm, he, hk⟩)
    omega
theorem Gre.fits {E : Nat → Nat → Bool} {n s T D : Nat} {p : List Nat} {u d : Nat} {dv : Nat → Nat} (h : Gre E n s T D p u (d + 1)) (hv : Dists E n T dv) : ∃ m, m < n ∧ E u m = true ∧ Fits T dv (d + 1) m := by
  obtain ⟨m, h1, h2, h3⟩ := Rk_succ.1 (h.dist (by omega)).2.1
  exact ⟨m, h1, h2, h.some' hv h1 h2 h3⟩
theorem Gre.step {E : Nat → Nat → Bool} {n s T D : Nat} {p : List Nat} {u d : Nat} {dv : Nat → Nat} (h : Gre E n s T D p u (d + 1)) (hv : Dists E n T dv) {m : Nat} (hm : m < n) (he : E u m = true) (hf : Fits T dv (d + 1) m) (hmin : ∀ x, x < m → E u x = true → ¬ Fits T dv (d + 1) x) : Gre E n s T D (p ++ [m]) m d := by
  refine ⟨h.hs, Wl.snoc.2 ⟨u, h.walk, he, hm, rfl⟩, hm, by have := h.len; simp; omega, fun h0 => ?_, fun h0 => ?_, fun r hl hw => ?_⟩
  · subst h0
    rcases hf with ⟨_, h1⟩ | ⟨h1, _⟩
    · exact h1
    · omega
  · rcases hf with ⟨h1, _⟩ | ⟨h1, h2⟩
    · omega
    · have k := ((hv m hm).1 (by omega))
      rw [h2] at k
      exact k
  · have hlen := h.len
    have hlt : p.length < r.length := by omega
    have e : r.take (p.length + 1) = r.take p.length ++ [r[p.length]] := by rw [List.take_succ_eq_append_getElem hlt]
    rw [List.length_append, List.length_singleton, e, cod_snoc, cod_snoc]
    have hle := h.low r hl hw
    have hspl : r = r.take p.length ++ (r[p.length] :: r.drop (p.length + 1)) := by rw [← List.drop_eq_getElem_cons hlt, List.take_append_drop]
    have hw2 := hw
    rw [hspl] at hw2
    obtain ⟨y, w1, w2, w3, w4⟩ := Wl.append.1 hw2
    rcases Nat.lt_or_eq_of_le hle with hq | hq
    · have := Nat.mul_le_mul_right (n + 1) (show cod n (s + 1) p + 1 ≤ cod n (s + 1) (r.take p.length) from hq)
      rw [Nat.add_mul, Nat.one_mul] at this
      omega
    · have hs := h.hs
      have hp : p = r.take p.length := cod_inj n (s + 1) (by omega) (by omega) _ _ h.walk.digits w1.digits hq
      have hy : u = y := by
        have := h.walk
        rw [hp] at this
        exact this.det w1
      subst hy
      have hx : m ≤ r[p.length] := by
        refine Nat.le_of_not_lt fun hlt' => hmin _ hlt' w2 (h.some' hv w3 w2 ⟨_, ?_, w4⟩)
        rw [List.length_drop]
        omega
      rw [← hq]
      omega
/-- The first of the shortest walks. -/
def Best (E : Nat → Nat → Bool) (n s T : Nat) (r : List Nat) : Prop := r ≠ [] ∧ Wl E n s r T ∧ ∀ q, q ≠ [] → Wl E n s q T → cod n (s + 1) r ≤ cod n (s + 1) q
theorem Best.uniq {E : Nat → Nat → Bool} {n s T : Nat} {r q : List Nat} (hs : s < n) (h : Best E n s T r) (h' : Best E n s T q) : r = q :=
  cod_inj n (s + 1) (by omega) (by omega) _ _ h.2.1.digits h'.2.1.digits (Nat.le_antisymm (h.2.2 q h'.1 h'.2.1) (h'.2.2 r h.1 h.2.1))
theorem Gre.best {E : Nat → Nat → Bool} {n s T D : Nat} {p : List Nat} {u : Nat} (h : Gre E n s T D p u 0) (hD : Dst E n T s D) : Best E n s T p := by
  have hl := h.len
  have hs := h.hs
  have e := h.rest rfl
  subst e
  have hD1 := hD.1
  refine ⟨by rintro rfl; simp at hl; omega, h.walk, fun q hq hw => ?_⟩
  have hk : D ≤ q.length := hD.2.2 _ (List.length_pos_iff.2 hq) ⟨q, rfl, hw⟩
  rcases Nat.lt_or_eq_of_le hk with hk | hk
  · exact Nat.le_of_lt (cod_longer n (s + 1) (by omega) (by omega) p q h.walk.digits (by omega))
  · have := h.low q hk.symm hw
    rw [List.take_of_length_le (by omega)] at this
    exact this
theorem Best.dst {E : Nat → Nat → Bool} {n s T : Nat} {r : List Nat} (hs : s < n) (h : Best E n s T r) : Dst E n T s r.length := by
  refine ⟨List.length_pos_iff.2 h.1, ⟨r, rfl, h.2.1⟩, ?_⟩
  rintro j hj ⟨q, rfl, hw⟩
  refine Nat.le_of_not_lt fun hlt => ?_
  have h1 := cod_longer n (s + 1) (by omega) (by omega) q r hw.digits hlt
  have h2 := h.2.2 q (by rintro rfl; simp at hj) hw
  omega
end Go.Proofs.YtjgmkigfpjmlaabDoor

/-
  The queue of the search: put and take.
-/
namespace Go.Proofs.YtjgmkigfpjmlaabDoor
set_option linter.unusedVariables false
set_option linter.unusedSimpArgs false
open Go.RowKit

/-- w' is w but for blocks of P and new ones. -/
structure Gro (P : Nat → Prop) (w w' : World) : Prop where
  os : w'.os = w.os
  tape : w'.tape = w.tape
  output : w'.output = w.output
  size : w.heap.size ≤ w'.heap.size
  block : ∀ k, k < w.heap.size → ¬ P k → w'.heap[k]? = w.heap[k]?
theorem Gro.refl (P : Nat → Prop) (w : World) : Gro P w w := ⟨rfl, rfl, rfl, Nat.le_refl _, fun _ _ _ => rfl⟩
theorem Gro.trans {P : Nat → Prop} {w w1 w2 : World} (h : Gro P w w1) (h2 : Gro P w1 w2) : Gro P w w2 :=
  ⟨h2.os.trans h.os, h2.tape.trans h.tape, h2.output.trans h.output, Nat.le_trans h.size h2.size, fun k hk hn => (h2.block k (Nat.lt_of_lt_of_le hk h.size) hn).trans (h.block k hk hn)⟩
theorem Gro.at {P : Nat → Prop} {w w' : World} (h : Gro P w w') {x : Nat} {cs : Array Value} {t : TypeId} {fr : Nat × Nat} (hx : w.heap[x]? = some (.cells cs t fr)) (hn : ¬ P x) : w'.heap[x]? = some (.cells cs t fr) :=
  (h.block x (blt hx) hn).trans hx
theorem Gro.below {P : Nat → Prop} {w w' : World} (h : Gro P w w') (H : Nat) (hH : ∀ k, P k → H ≤ k) (hs : H ≤ w.heap.size) : Below H w w' :=
  ⟨h.os, h.tape, h.output, h.size, fun k hk => h.block k (by omega) (fun hp => by have := hH k hp; omega)⟩
theorem Gro.of_below {P : Nat → Prop} {w w' : World} (h : Below w.heap.size w w') : Gro P w w' := ⟨h.os, h.tape, h.output, h.size, fun k hk _ => h.block k hk⟩

/-- A slice of numbers, not from its block's beginning on, in a block of P. -/
def Part (P : Nat → Prop) (w : World) (v : Value) (l : List Int) : Prop :=
  (v = .slice none 0 0 ∧ l = []) ∨ ∃ g off cap cur, v = .slice (some ⟨g, off, none⟩) l.length cap ∧ P g ∧ w.heap[g]? = some (.cells cur 3) ∧ l.length ≤ cap ∧ cap ≤ maxLen ∧ off + cap ≤ cur.size ∧ ∀ j, j < l.length → cur[off + j]? = some (.int .i64 (l.getD j 0))
structure Que (P : Nat → Prop) (w : World) (qb : Nat) (l : List Int) : Prop where
  ex : ∃ v, w.heap[qb]? = some (.cells #[v] 108) ∧ Part P w v l
theorem Part.gro {P Q : Nat → Prop} {w w' : World} {v : Value} {l : List Int} (h : Part P w v l) (hg : Gro Q w w') (hn : ∀ k, P k → ¬ Q k) : Part P w' v l := by
  rcases h with h | ⟨g, off, cap, cur, h1, h2, h3, h4⟩
  · exact .inl h
  · exact .inr ⟨g, off, cap, cur, h1, h2, hg.at h3 (hn g h2), h4⟩
theorem Que.gro {P Q : Nat → Prop} {w w' : World} {qb : Nat} {l : List Int} (h : Que P w qb l) (hg : Gro Q w w') (hn : ∀ k, P k → ¬ Q k) (hq : ¬ Q qb) : Que P w' qb l := by
  obtain ⟨v, h1, h2⟩ := h.ex
  exact ⟨v, hg.at h1 hq, h2.gro hg hn⟩
theorem Que.later {P : Nat → Prop} {w w' : World} {qb : Nat} {l : List Int} (h : Que P w qb l) (hb : Below w.heap.size w w') : Que P w' qb l :=
  h.gro (Gro.of_below (P := fun _ => False) hb) (fun _ _ h => h) (fun h => h)
theorem Que.mono {P Q : Nat → Prop} {w : World} {qb : Nat} {l : List Int} (h : Que P w qb l) (hn : ∀ k, k < w.heap.size → P k → Q k) : Que Q w qb l := by
  obtain ⟨v, h1, h2⟩ := h.ex
  refine ⟨v, h1, ?_⟩
  rcases h2 with h | ⟨g, off, cap, cur, h1, h2, h3, h4⟩
  · exact .inl h
  · exact .inr ⟨g, off, cap, cur, h1, hn g (blt h3) h2, h3, h4⟩

theorem Tryd.info3i : (Tryd.prog.info? 3).map (fun i => (i.zero, i.size, i.bytes)) = some (some (.int .i64 0), 1, 8) := by kernel_rfl

theorem take_none (P : Nat → Prop) (qb : Nat) (w : World) (h : Que P w qb []) : Calls Tryd.prog 66 #[.pointer (some ⟨qb, 0, none⟩)] w fun e w' => e = .returned (.tuple #[.int .i64 0, .bool false]) ∧ w = w' := by
  obtain ⟨v, h1, h2⟩ := h.ex
  obtain ⟨ao, cap, rfl⟩ : ∃ ao cap, v = .slice ao 0 cap := by
    rcases h2 with ⟨rfl, -⟩ | ⟨g, off, cap, cur, rfl, -⟩
    · exact ⟨none, 0, rfl⟩
    · exact ⟨_, cap, rfl⟩
  have c0 : w.cell? ⟨qb, 0, none⟩ = some (.slice ao 0 cap) := Lib.cell_of_heap h1 0
  clear h h1 h2
  go_enter Tryd.func66, Tryd.ntmps66
  go_wp2
  refine bodyPost_ret (v := .tuple #[.int .i64 0, .bool false]) (by simp [results, go_sem]) rfl ⟨rfl, rfl⟩
end Go.Proofs.YtjgmkigfpjmlaabDoor

/-
  The queue of the search: put and take.
-/
namespace Go.Proofs.YtjgmkigfpjmlaabDoor
set_option linter.unusedVariables false
set_option linter.unusedSimpArgs false
open Go.RowKit

theorem gro_set (w : World) (p : Addr) (v : Value) : Gro (fun k => k = p.block) w (w.setCell p v) :=
  ⟨rfl, rfl, rfl, by simp, fun k _ hn => Below.heap_setCell w p v k hn⟩
theorem Que.box {P : Nat → Prop} {w : World} {qb : Nat} {v0 v : Value} {l : List Int} (h : w.heap[qb]? = some (.cells #[v0] 108)) (hq : ¬ P qb) (hv : Part P w v l) : Que P (w.setCell ⟨qb, 0, none⟩ v) qb l := by
  refine ⟨v, (Go.Joins.block_setCell h v).trans (by simp), hv.gro (gro_set w ⟨qb, 0, none⟩ v) ?_⟩
  rintro k hk rfl
  exact hq hk

theorem take_some (P : Nat → Prop) (qb : Nat) (x : Int) (l : List Int) (w : World) (hq : ¬ P qb) (h : Que P w qb (x :: l)) (hl : l.length < 10000) : Calls Tryd.prog 66 #[.pointer (some ⟨qb, 0, none⟩)] w fun e w' => e = .returned (.tuple #[.int .i64 x, .bool true]) ∧ Que P w' qb l ∧ Gro (fun k => k = qb) w w' ∧ w'.heap.size = w.heap.size := by
  obtain ⟨v, h1, h2⟩ := h.ex
  rcases h2 with ⟨-, h2⟩ | ⟨g, off, cap, cur, rfl, hP, hg, hc1, hc2, hsz, hat⟩
  · cases h2
  have c0 : w.cell? ⟨qb, 0, none⟩ = some (.slice (some ⟨g, off, none⟩) (x :: l).length cap) := Lib.cell_of_heap h1 0
  have f0 : w.frozen? ⟨qb, 0, none⟩ = false := Lib.frozen_of_heap h1 0
  have c1 : w.cell? ⟨g, off, none⟩ = some (.int .i64 x) := (Lib.cell_of_heap hg off).trans (hat 0 (by simp))
  have HB : Hid (∀ v, Part P w v l → Que P (w.setCell ⟨qb, 0, none⟩ v) qb l) := fun v hv => Que.box h1 hq hv
  have HA : Hid (∀ v, v = .slice (some ⟨g, off + 1, none⟩) l.length (cap - 1) → Part P w v l) := fun v hv => .inr ⟨g, off + 1, cap - 1, cur, hv, hP, hg, by simp at hc1; omega, by omega, by simp at hc1; omega, fun j hj => by
    have := hat (j + 1) (by simp; omega)
    rw [show off + (j + 1) = off + 1 + j from by omega] at this
    simpa using this⟩
  have HA0 : Hid (∀ v, cap = 1 → v = .slice (some ⟨g, off, none⟩) l.length 0 → Part P w v l) := fun v hc hv => by
    have hl0 : l.length = 0 := by simp at hc1; omega
    exact .inr ⟨g, off, 0, cur, hv, hP, hg, by omega, by simp [maxLen], by omega, fun j hj => by omega⟩
  rw [List.length_cons] at c0 hc1
  have hi : (0 : Int) < (l.length : Int) + 1 := by omega
  have hi2 : ¬ ((l.length : Int) + 1 = 0) := by omega
  unfold maxLen at hc2
  have hcap : (cap : Int) ≤ 9223372036854775807 := by omega
  have hcl : (l.length : Int) + 1 ≤ cap := by omega
  clear h hat hg hP h1
  go_enter Tryd.func66, Tryd.ntmps66
  go_wp2
  · refine bodyPost_ret (v := .tuple #[.int .i64 x, .bool true]) (by simp [results, go_sem]) rfl ⟨rfl, HB.out _ (HA0.out _ (by assumption) rfl), gro_set w ⟨qb, 0, none⟩ _, by simp⟩
  · refine bodyPost_ret (v := .tuple #[.int .i64 x, .bool true]) (by simp [results, go_sem]) rfl ⟨rfl, HB.out _ (HA.out _ rfl), gro_set w ⟨qb, 0, none⟩ _, by simp⟩

/-- An append of one number. -/
theorem wpList_append_part {ops : Array Oper} {rest : List Oper} {o : Oper} {a : Act} {Q : Exit → Act → World → Prop} (w : World)
    (hg : o.guard = none) (s x : Operand) (hop : o.op = Op.call { callee := Callee.builtin Builtin.append, args := #[s, x], argTypes := #[28, 28] })
    (P : Nat → Prop) (hP : ∀ g, w.heap.size ≤ g → P g) (v : Value) (l : List Int) (hs : a.eval s = v) (hv : Part P w v l)
    (ab : Nat) (y : Int) (c : Nat) (hx : a.eval x = .slice (some ⟨ab, 0, none⟩) 1 c) (hc : w.cell? ⟨ab, 0, none⟩ = some (.int .i64 y)) (hl : l.length < 10000)
    (h : ∀ v' w', Part P w' v' (l ++ [y]) → Gro P w w' → wpList Tryd.prog ops Q rest (a.put o.dst v') w') : wpList Tryd.prog ops Q (o :: rest) a w := by
  obtain ⟨i0, hi, hz'⟩ := Option.map_eq_some_iff.1 Tryd.info3i
  simp only [Prod.mk.injEq] at hz'
  obtain ⟨hz0, hz1, hz2⟩ := hz'
  have hnews : ∀ j u, ([.int .i64 y] : List Value)[j]? = some u → w.cell? ((⟨ab, 0, none⟩ : Addr).add j) = some u := by
    intro j u hj
    cases j with
    | zero => rw [Addr.add_lit]; simp at hj; subst hj; exact hc
    | succ j => simp at hj
  have grown : ∀ (olds : List Value) (v' : Value) (w' : World), olds.length = l.length → (∀ j, j < l.length → olds[j]? = some (.int .i64 (l.getD j 0))) → w'.ownsRow w.heap.size 3 1 v' (l.length + 1) (olds ++ [.int .i64 y]) → w.grownBy w' none → Part P w' v' (l ++ [y]) ∧ Gro P w w' := by
    intro olds v' w' ho ho2 hown hgr
    refine ⟨?_, ⟨hgr.os, hgr.tape, hgr.output, hgr.size, fun k hk _ => hgr.block k hk (by simp)⟩⟩
    rcases hown.2 with ⟨_, h0⟩ | ⟨g, cap, cur, hv', hb, hgg, hcap1, hcap2, hcs, htk⟩
    · omega
    · refine .inr ⟨g, 0, cap, cur, by rw [List.length_append, List.length_singleton]; exact hv', hP g hb, hgg, by rw [List.length_append, List.length_singleton]; exact hcap1, hcap2, by omega, fun j hj => ?_⟩
      rw [List.length_append, List.length_singleton] at hj
      have e1 : cur[0 + j]? = cur.toList[j]? := by simp
      have e2 : cur.toList[j]? = (cur.toList.take ((l.length + 1) * 1))[j]? := by rw [List.getElem?_take, if_pos (by omega)]
      rw [e1, e2, htk]
      by_cases hjl : j < l.length
      · rw [List.getElem?_append_left (by omega), ho2 j hjl]
        simp [List.getD, List.getElem?_append_left hjl]
      · obtain rfl : j = l.length := by omega
        rw [List.getElem?_append_right (by omega), ho]
        simp [List.getD]
  rcases hv with ⟨rfl, rfl⟩ | ⟨g, off, cap, cur, rfl, hPg, hgg, hc1, hc2, hsz, hat⟩
  · refine wpList_append_grows w hg s x 28 hop 3 i0 (.int .i64 0) 1 8 Tryd.underlying28 hi hz0 hz1 hz2 rfl (by decide) none 0 0 [] hs (fun _ => ⟨rfl, rfl⟩) rfl (fun b hb => by cases hb) ⟨ab, 0, none⟩ 1 c [.int .i64 y] hx rfl hnews (by simp [Value.oneCell']) (by omega) (by simp [maxLen]) (by omega) (fun v' w' hown hgr => ?_)
    obtain ⟨k1, k2⟩ := grown [] v' w' rfl (fun j hj => by simp at hj) hown hgr
    exact h v' w' k1 k2
  · refine wpList_append_arg w hg s x 28 hop 3 i0 (.int .i64 0) 1 8 Tryd.underlying28 hi hz0 hz1 hz2 rfl (by decide) g off l.length cap (l.map fun z : Int => Value.int .i64 z) hs (by simp) (fun j u hj => ?_) ⟨ab, 0, none⟩ 1 c [.int .i64 y] hx rfl hnews (by simp [Value.oneCell']) (fun hr j hj => ?_) (by simp [maxLen]; omega) (by omega) (fun hr => ?_) (fun hr v' w' hown hgr => ?_)
    · have hjl : j < l.length := by
        have := List.getElem?_eq_some_iff.1 hj
        simpa using this.1
      rw [Lib.cell_of_heap hgg, hat j hjl]
      simp [List.getElem?_map, hjl] at hj
      simp [List.getD, hjl, hj]
    · obtain rfl : j = 0 := by simpa using hj
      refine ⟨?_, Lib.frozen_of_heap hgg _⟩
      rw [Lib.cell_of_heap hgg]
      simp
      omega
    · have hne : g < w.heap.size := blt hgg
      refine h _ _ (.inr ⟨g, off, cap, cur.setIfInBounds (off + l.length) (.int .i64 y), by simp, hPg, ?_, by simpa using hr, hc2, by simpa using hsz, fun j hj => ?_⟩) ⟨rfl, rfl, rfl, by simp [World.setCells], fun k hk hn => ?_⟩
      · show (w.setCell ⟨g, off + l.length * 1, none⟩ (.int .i64 y)).heap[g]? = _
        rw [Nat.mul_one]
        exact Go.Joins.block_setCell hgg _
      · rw [List.length_append, List.length_singleton] at hj
        by_cases hjl : j < l.length
        · rw [Array.getElem?_setIfInBounds_ne (by omega), hat j hjl]
          simp [List.getD, List.getElem?_append_left hjl]
        · obtain rfl : j = l.length := by omega
          rw [Array.getElem?_setIfInBounds_self_of_lt (by omega)]
          simp [List.getD]
      · refine Below.heap_setCell w ⟨g, off + l.length * 1, none⟩ (.int .i64 y) k ?_
        rintro rfl
        exact hn hPg
    · obtain ⟨k1, k2⟩ := grown _ v' w' (by simp) (fun j hj => by simp [List.getElem?_map, List.getD, hj]) hown hgr
      exact h v' w' k1 k2

theorem Part.form {P : Nat → Prop} {w : World} {v : Value} {l : List Int} (h : Part P w v l) : ∃ ao c, v = .slice ao l.length c := by
  rcases h with ⟨rfl, rfl⟩ | ⟨g, off, cap, cur, rfl, -⟩
  · exact ⟨none, 0, rfl⟩
  · exact ⟨_, cap, rfl⟩
theorem put_is (P : Nat → Prop) (qb : Nat) (l : List Int) (ab : Nat) (y : Int) (w : World) (hq : ¬ P qb) (hP : ∀ g, w.heap.size ≤ g → P g) (h : Que P w qb l) (hc : w.cell? ⟨ab, 0, none⟩ = some (.int .i64 y)) (hl : l.length < 10000) :
    Calls Tryd.prog 65 #[.pointer (some ⟨qb, 0, none⟩), .slice (some ⟨ab, 0, none⟩) 1 1] w fun e w' => e = .returned (.tuple #[]) ∧ Que P w' qb (l ++ [y]) ∧ Gro (fun k => k = qb ∨ P k) w w' := by
  obtain ⟨v, h1, h2⟩ := h.ex
  obtain ⟨ao, cp, rfl⟩ := h2.form
  have c0 : w.cell? ⟨qb, 0, none⟩ = some (.slice ao l.length cp) := Lib.cell_of_heap h1 0
  have H1 := hid h1
  have H2 := hid h2
  have HP := hid hP
  have HQ := hid hq
  clear h h1 h2 hP hq
  go_enter Tryd.func65, Tryd.ntmps65
  go_wp2_with (at_builtin; refine wpList_append_part _ rfl _ _ rfl P HP.out _ l rfl H2.out ab y 1 rfl hc hl ?_; intro v' w' k1 k2; obtain ⟨ao', cp', rfl⟩ := k1.form; have K1 := hid k1; have K2 := hid k2; have KB := hid (k2.at H1.out HQ.out); have c1 : w'.cell? ⟨qb, 0, none⟩ = some (.slice ao l.length cp) := Lib.cell_of_heap KB.out 0; have f1 : w'.frozen? ⟨qb, 0, none⟩ = false := Lib.frozen_of_heap KB.out 0; clear k1 k2)
  refine bodyPost_end (results_none rfl _ _ _) rfl ⟨rfl, Que.box KB.out HQ.out (by have := K1.out; simpa using this), ?_⟩
  exact (show Gro (fun k => k = qb ∨ P k) w w' from ⟨K2.out.os, K2.out.tape, K2.out.output, K2.out.size, fun k hk hn => K2.out.block k hk (fun hp => hn (.inr hp))⟩).trans ⟨rfl, rfl, rfl, by simp, fun k hk hn => Below.heap_setCell _ _ _ k (fun e => hn (.inl e))⟩
end Go.Proofs.YtjgmkigfpjmlaabDoor

/-
  What the search holds in memory.
-/
namespace Go.Proofs.YtjgmkigfpjmlaabDoor
set_option linter.unusedVariables false
set_option linter.unusedSimpArgs false
open Go.RowKit

theorem first_hit (f : Nat → Bool) (t : Nat) : ∀ d, (∃ m, t ≤ m ∧ m < t + d ∧ f m = true ∧ ∀ k, t ≤ k → k < m → f k = false) ∨ (∀ k, t ≤ k → k < t + d → f k = false) := by
  intro d
  induction d with
  | zero => exact .inr fun k h1 h2 => by omega
  | succ d ih =>
    rcases ih with ⟨m, h1, h2, h3⟩ | h
    · exact .inl ⟨m, h1, by omega, h3⟩
    · cases hf : f (t + d) with
      | true => exact .inl ⟨t + d, by omega, by omega, hf, h⟩
      | false =>
        refine .inr fun k h1 h2 => ?_
        by_cases e : k = t + d
        · rw [e]; exact hf
        · exact h k h1 (by omega)
theorem lst_next (f : Nat → Bool) (n t j : Nat) (ht : t ≤ n) (h : lst f t = (lst f n).take j) (hj : j < (lst f n).length) :
    t ≤ (lst f n).getD j 0 ∧ (lst f n).getD j 0 < n ∧ f ((lst f n).getD j 0) = true ∧ (∀ k, t ≤ k → k < (lst f n).getD j 0 → f k = false) ∧ lst f ((lst f n).getD j 0 + 1) = (lst f n).take (j + 1) := by
  have hlen : (lst f t).length = j := by rw [h, List.length_take]; omega
  rcases first_hit f t (n - t) with ⟨m, h1, h2, h3, h4⟩ | h0
  · have hm : m < n := by omega
    have e1 := lst_step f t m h1 h3 h4
    obtain ⟨r, e2⟩ := lst_prefix f (m + 1) n (by omega)
    rw [e1] at e2
    have e3 : (lst f n).getD j 0 = m := by
      rw [e2, List.append_assoc]
      simp [List.getD, ← hlen]
    rw [e3]
    refine ⟨h1, hm, h3, h4, ?_⟩
    rw [e1, e2, List.append_assoc, ← hlen, List.take_length_add_append]
    simp
  · have := lst_gap f t n ht (fun k k1 k2 => h0 k k1 (by omega))
    rw [this] at hj
    omega
theorem lst_end (f : Nat → Bool) (n t j : Nat) (ht : t ≤ n) (h : lst f t = (lst f n).take j) (hj : ¬ j < (lst f n).length) : ∀ k, t ≤ k → k < n → f k = false := by
  rcases first_hit f t (n - t) with ⟨m, h1, h2, h3, h4⟩ | h0
  · exfalso
    have e1 := lst_step f t m h1 h3 h4
    obtain ⟨r, e2⟩ := lst_prefix f (m + 1) n (by omega)
    rw [List.take_of_length_le (by omega)] at h
    rw [e1, ← h] at e2
    have := congrArg List.length e2
    simp at this
  · exact fun k k1 k2 => h0 k k1 (by omega)

/-- The blocks of the queue: behind HQ, but not o. -/
def QP (HQ o : Nat) : Nat → Prop := fun g => HQ ≤ g ∧ g ≠ o
/-- The search: what was reached, from where, and the queue. -/
structure Fol (HQ o : Nat) (w : World) (n rb sb cb nb tb qb : Nat) (cd bf : Nat → Nat) (l : List Int) : Prop where
  set : Is w sb n cb (fun v => decide (cd v ≠ 0))
  bef : ∃ cur : Array Value, w.heap[nb]? = some (.cells cur 3) ∧ cur.size = n ∧ ∀ v, v < n → cur[v]? = some (.int .i64 (bf v))
  box : w.heap[tb]? = some (.cells #[.pointer (some ⟨sb, 0, none⟩), .slice (some ⟨nb, 0, none⟩) n n] 85)
  que : Que (QP HQ o) w qb l
  res : w.heap[rb]? = some (.cells #[.pointer none, .slice none 0 0] 85)
  lo : sb < HQ ∧ cb < HQ ∧ nb < HQ ∧ tb < HQ ∧ qb < HQ ∧ rb < HQ
  here : HQ ≤ w.heap.size
theorem Fol.later {HQ o : Nat} {w w' : World} {n rb sb cb nb tb qb : Nat} {cd bf : Nat → Nat} {l : List Int} (h : Fol HQ o w n rb sb cb nb tb qb cd bf l) (hb : Below w.heap.size w w') : Fol HQ o w' n rb sb cb nb tb qb cd bf l := by
  obtain ⟨cur, h1, h2⟩ := h.bef
  exact ⟨h.set.later hb, ⟨cur, (hb.block nb (blt h1)).trans h1, h2⟩, (hb.block tb (blt h.box)).trans h.box, h.que.later hb, (hb.block rb (blt h.res)).trans h.res, h.lo, Nat.le_trans h.here hb.size⟩
/-- Another list may lie where the queue has no block. -/
theorem Fol.other {HQ o o' : Nat} {w : World} {n rb sb cb nb tb qb : Nat} {cd bf : Nat → Nat} {l : List Int} (h : Fol HQ o w n rb sb cb nb tb qb cd bf l) (ho : w.heap.size ≤ o' ∨ o' < HQ) : Fol HQ o' w n rb sb cb nb tb qb cd bf l :=
  { h with que := h.que.mono fun k hk hp => ⟨hp.1, by have := hp.1; omega⟩ }
theorem Fol.reach {HQ o : Nat} {w w1 : World} {n rb sb cb nb tb qb : Nat} {cd bf : Nat → Nat} {l : List Int} (h : Fol HQ o w n rb sb cb nb tb qb cd bf l) (m u c : Nat) (hm : m < n) (hc : c ≠ 0)
    (hs : Is w1 sb n cb (fun k => k == m || decide (cd k ≠ 0))) (hb : Beside cb w w1) : Fol HQ o (w1.setCell ⟨nb, m, none⟩ (.int .i64 u)) n rb sb cb nb tb qb (fun v => if v = m then c else cd v) (fun v => if v = m then u else bf v) l := by
  obtain ⟨cur, h1, h2, h3⟩ := h.bef
  obtain ⟨ws, s1, s2⟩ := h.set.ex
  obtain ⟨ws1, t1, t2⟩ := hs.ex
  have n1 : w1.heap[nb]? = some (.cells cur 3) := (hb.block nb (blt h1) (tags h1 s1.row (by decide))).trans h1
  have b1 : w1.heap[tb]? = some (.cells #[.pointer (some ⟨sb, 0, none⟩), .slice (some ⟨nb, 0, none⟩) n n] 85) := (hb.block tb (blt h.box) (tags h.box s1.row (by decide))).trans h.box
  have r1 : w1.heap[rb]? = some (.cells #[.pointer none, .slice none 0 0] 85) := (hb.block rb (blt h.res) (tags h.res s1.row (by decide))).trans h.res
  obtain ⟨a1, a2, a3, a4, a5, a6⟩ := h.lo
  have q1 : Que (QP HQ o) w1 qb l := h.que.gro (Q := fun k => k = cb) ⟨hb.os, hb.tape, hb.output, hb.size, hb.block⟩ (fun k hk e => by have := hk.1; omega) (by
    rintro e
    obtain ⟨v, q, _⟩ := h.que.ex
    exact tags q s1.row (by decide) e)
  have hg : Gro (fun k => k = nb) w1 (w1.setCell ⟨nb, m, none⟩ (.int .i64 u)) := gro_set w1 ⟨nb, m, none⟩ _
  refine ⟨?_, ⟨cur.setIfInBounds m (.int .i64 u), Go.Joins.block_setCell n1 _, by simpa using h2, fun v hv => ?_⟩, hg.at b1 (tags b1 n1 (by decide)), q1.gro hg (fun k hk e => by have := hk.1; omega) ?_, hg.at r1 (tags r1 n1 (by decide)), h.lo, ?_⟩
  · have hs2 : Is (w1.setCell ⟨nb, m, none⟩ (.int .i64 u)) sb n cb (fun k => k == m || decide (cd k ≠ 0)) := ⟨⟨ws1, ⟨hg.at t1.box (tags t1.box n1 (by decide)), hg.at t1.row (tags t1.row n1 (by decide)), t1.len, t1.small, t1.bound⟩, t2⟩, hs.top⟩
    refine hs2.congr (fun v => ?_)
    by_cases e : v = m
    · simp [e, hc]
    · simp [e]
  · by_cases e : v = m
    · subst e
      rw [Array.getElem?_setIfInBounds_self_of_lt (by omega), if_pos rfl]
    · rw [Array.getElem?_setIfInBounds_ne (fun e' => e e'.symm), h3 v hv, if_neg e]
  · rintro e
    obtain ⟨v, q, _⟩ := q1.ex
    exact tags q n1 (by decide) e
  · show HQ ≤ (w1.setCell ⟨nb, m, none⟩ (.int .i64 u)).heap.size
    rw [World.size_setCell]
    exact Nat.le_trans h.here hb.size
theorem Fol.put {HQ o : Nat} {w w1 : World} {n rb sb cb nb tb qb : Nat} {cd bf : Nat → Nat} {l l' : List Int} (h : Fol HQ o w n rb sb cb nb tb qb cd bf l) (hq : Que (QP HQ o) w1 qb l') (hg : Gro (fun k => k = qb ∨ QP HQ o k) w w1) : Fol HQ o w1 n rb sb cb nb tb qb cd bf l' := by
  obtain ⟨cur, h1, h2, h3⟩ := h.bef
  obtain ⟨ws, s1, s2⟩ := h.set.ex
  obtain ⟨a1, a2, a3, a4, a5, a6⟩ := h.lo
  obtain ⟨v, q, _⟩ := h.que.ex
  have far : ∀ {x : Nat} {cs : Array Value} {t : TypeId}, w.heap[x]? = some (.cells cs t) → x < HQ → t ≠ 108 → w1.heap[x]? = some (.cells cs t) := fun hx hl ht => hg.at hx (by
    rintro (e | e)
    · exact tags hx q ht e
    · have := e.1; omega)
  exact ⟨⟨⟨ws, ⟨far s1.box a1 (by decide), far s1.row a2 (by decide), s1.len, s1.small, s1.bound⟩, s2⟩, h.set.top⟩, ⟨cur, far h1 a3 (by decide), h2, h3⟩, far h.box a4 (by decide), hq, far h.res a6 (by decide), h.lo, Nat.le_trans h.here hg.size⟩

/-- A list of ints that was handed out, in block o. -/
def RowO (HQ : Nat) (w : World) (ao : Option Addr) (o : Nat) (l : List Nat) : Prop := ∀ j, j < l.length → ao = some ⟨o, 0, none⟩ ∧ HQ ≤ o ∧ ∃ cur, w.heap[o]? = some (.cells cur 3) ∧ cur[j]? = some (.int .i64 (l.getD j 0))
theorem RowO.keep {HQ : Nat} {w w' : World} {ao : Option Addr} {o : Nat} {l : List Nat} (h : RowO HQ w ao o l) (hk : HQ ≤ o → ∀ cs, w.heap[o]? = some (.cells cs 3) → w'.heap[o]? = some (.cells cs 3)) : RowO HQ w' ao o l := by
  intro j hj
  obtain ⟨h1, h2, cur, h3, h4⟩ := h j hj
  exact ⟨h1, h2, cur, hk h2 cur h3, h4⟩
theorem Ints.rowO {B HQ : Nat} {w : World} {v : Value} {l : List Nat} (h : Ints B w v l) (hB : HQ ≤ B) : ∃ ao cap o, v = .slice ao l.length cap ∧ RowO HQ w ao o l ∧ (B ≤ o ∨ o = 0) := by
  rcases h.2 with ⟨rfl, hn⟩ | ⟨g, cap, cur, hv, hb, hg, h1, h2, h3, h4⟩
  · exact ⟨none, 0, 0, by rw [hn], fun j hj => by omega, .inr rfl⟩
  · refine ⟨_, cap, g, hv, fun j hj => ⟨rfl, by omega, cur, hg, ?_⟩, .inl hb⟩
    have e : cur.toList[j]? = (cur.toList.take (l.length * 1))[j]? := by rw [List.getElem?_take, if_pos (by omega)]
    rw [← Array.getElem?_toList, e, h4]
    simp [intsV, List.getElem?_map, List.getD, hj]
theorem cnt_put (cd : Nat → Nat) (m c : Nat) (hc : c ≠ 0) (h0 : cd m = 0) : ∀ n, Pop.cnt (fun v => decide ((if v = m then c else cd v) = 0)) n + (if m < n then 1 else 0) = Pop.cnt (fun v => decide (cd v = 0)) n := by
  intro n
  induction n with
  | zero => simp [Pop.cnt]
  | succ n ih =>
    simp only [Pop.cnt]
    by_cases e : n = m
    · subst e
      rw [if_neg (by omega)] at ih
      rw [← ih]
      simp [hc, h0]
    · rw [if_neg e]
      by_cases hm : m < n
      · rw [if_pos hm] at ih
        rw [if_pos (by omega), ← ih]
        omega
      · rw [if_neg hm] at ih
        rw [if_neg (by omega), ← ih]
        omega
theorem fol_start (w1 : World) (n rb sb cb : Nat) (s : Int) (hS : Is w1 sb n cb (fun _ => false)) (hr : w1.heap[rb]? = some (.cells #[.pointer none, .slice none 0 0] 85)) :
    Fol (w1.heap.size + 3) 0 ((((w1.alloc (.cells (Array.replicate n (.int .i64 0)) 3)).alloc (.cells #[.pointer (some ⟨sb, 0, none⟩), .slice (some ⟨w1.heap.size, 0, none⟩) n n] 85)).alloc (.cells #[.slice none 0 0] 108)).alloc (.cells #[.int .i64 s] 3)) n rb sb cb w1.heap.size (w1.heap.size + 1) (w1.heap.size + 1 + 1) (fun _ => 0) (fun _ => 0) [] := by
  obtain ⟨ws, s1, s2⟩ := hS.ex
  have l1 := blt s1.box
  have l2 := blt s1.row
  have l3 := blt hr
  have b1 : Below w1.heap.size w1 ((((w1.alloc (.cells (Array.replicate n (.int .i64 0)) 3)).alloc (.cells #[.pointer (some ⟨sb, 0, none⟩), .slice (some ⟨w1.heap.size, 0, none⟩) n n] 85)).alloc (.cells #[.slice none 0 0] 108)).alloc (.cells #[.int .i64 s] 3)) :=
    ((((Below.refl _ _).alloc (Nat.le_refl _) _).alloc (by simp) _).alloc (by simp; omega) _).alloc (by simp; omega) _
  have st : ∀ (W : World) (x : Nat) (o : Obj) (cs : Array Value) (t : TypeId), W.heap[x]? = some (.cells cs t) → (W.alloc o).heap[x]? = some (.cells cs t) := fun W x o cs t hx => ((below_box W o).block x (blt hx)).trans hx
  refine ⟨(hS.later b1).congr (fun _ => by simp), ⟨_, st _ _ _ _ _ (st _ _ _ _ _ (st _ _ _ _ _ (heap_alloc_new w1 _))), by simp, fun v hv => by simp [hv]⟩, st _ _ _ _ _ (st _ _ _ _ _ ?_), ⟨_, st _ _ _ _ _ ?_, .inl ⟨rfl, rfl⟩⟩, (b1.block rb l3).trans hr, by omega, by simp⟩
  · have := heap_alloc_new (w1.alloc (.cells (Array.replicate n (.int .i64 0)) 3)) (.cells #[.pointer (some ⟨sb, 0, none⟩), .slice (some ⟨w1.heap.size, 0, none⟩) n n] 85)
    rw [World.size_alloc] at this
    exact this
  · have := heap_alloc_new ((w1.alloc (.cells (Array.replicate n (.int .i64 0)) 3)).alloc (.cells #[.pointer (some ⟨sb, 0, none⟩), .slice (some ⟨w1.heap.size, 0, none⟩) n n] 85)) (.cells #[.slice none 0 0] 108)
    rw [World.size_alloc, World.size_alloc] at this
    exact this
end Go.Proofs.YtjgmkigfpjmlaabDoor
