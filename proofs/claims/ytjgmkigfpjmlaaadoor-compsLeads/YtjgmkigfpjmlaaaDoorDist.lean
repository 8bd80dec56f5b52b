/-
  Plain: how far it is to a node, layer by layer, and the first of the shortest walks.
-/
import Derived.Test.YtjgmkigfpjmlaaaDoorWays
namespace Go.Proofs.YtjgmkigfpjmlaaaDoor

def Rk (E : Nat → Nat → Bool) (n T k v : Nat) : Prop := ∃ r, r.length = k ∧ Wl E n v r T
theorem Rk_zero {E : Nat → Nat → Bool} {n T v : Nat} : Rk E n T 0 v ↔ v = T := by
  constructor
  · rintro ⟨r, hl, hw⟩
    rw [List.length_eq_zero_iff.1 hl] at hw
    exact hw
  · rintro rfl
    exact ⟨[], rfl, rfl⟩
theorem Rk_succ {E : Nat → Nat → Bool} {n T k v : Nat} : Rk E n T (k + 1) v ↔ ∃ m, m < n ∧ E v m = true ∧ Rk E n T k m := by
  constructor
  · rintro ⟨r, hl, hw⟩
    cases r with
    | nil => simp at hl
    | cons m r => exact ⟨m, hw.2.1, hw.1, r, by simpa using hl, hw.2.2⟩
  · rintro ⟨m, h1, h2, r, hl, hw⟩
    exact ⟨m :: r, by simp [hl], h2, h1, hw⟩
/-- d is the least number of edges, one at least, from v to T. -/
def Dst (E : Nat → Nat → Bool) (n T v d : Nat) : Prop := 1 ≤ d ∧ Rk E n T d v ∧ ∀ j, 1 ≤ j → Rk E n T j v → d ≤ j
theorem Dst.uniq {E : Nat → Nat → Bool} {n T v d d' : Nat} (h : Dst E n T v d) (h' : Dst E n T v d') : d = d' :=
  Nat.le_antisymm (h.2.2 d' h'.1 h'.2.1) (h'.2.2 d h.1 h.2.1)
/-- What is known ahead of round d. -/
structure Lay (E : Nat → Nat → Bool) (n T d : Nat) (dv : Nat → Nat) (Ly : List Nat) : Prop where
  pos : 1 ≤ d
  right : ∀ v, v < n → dv v ≠ 0 → Dst E n T v (dv v) ∧ dv v < d
  all : ∀ v, v < n → ∀ j, 1 ≤ j → j < d → Rk E n T j v → dv v ≠ 0
  layer : ∀ m, m ∈ Ly ↔ (d = 1 ∧ m = T) ∨ (1 < d ∧ m < n ∧ dv m = d - 1)
theorem Lay.first (E : Nat → Nat → Bool) (n T : Nat) : Lay E n T 1 (fun _ => 0) [T] :=
  ⟨Nat.le_refl _, fun _ _ h => absurd rfl h, fun _ _ j h1 h2 => by omega, fun m => by simp⟩
theorem Lay.round {E : Nat → Nat → Bool} {n T d : Nat} {dv dv' : Nat → Nat} {Ly Ly' : List Nat} (h : Lay E n T d dv Ly) (hT : T < n)
    (hd : ∀ v, v < n → dv' v = if dv v = 0 ∧ (∃ m ∈ Ly, E v m = true) then d else dv v) (hl : ∀ v, v ∈ Ly' ↔ v < n ∧ dv v = 0 ∧ ∃ m ∈ Ly, E v m = true) : Lay E n T (d + 1) dv' Ly' := by
  have hp := h.pos
  have hlay : ∀ m, m ∈ Ly → m < n ∧ Rk E n T (d - 1) m := by
    intro m hm
    rcases (h.layer m).1 hm with ⟨rfl, rfl⟩ | ⟨h1, h2, h3⟩
    · exact ⟨hT, Rk_zero.2 rfl⟩
    · refine ⟨h2, ?_⟩
      have := (h.right m h2 (by omega)).1.2.1
      rw [h3] at this
      exact this
  have hhit : ∀ v, v < n → dv v = 0 → ((∃ m ∈ Ly, E v m = true) ↔ Rk E n T d v) := by
    intro v hv h0
    obtain ⟨e, rfl⟩ : ∃ e, d = e + 1 := ⟨d - 1, by omega⟩
    rw [Rk_succ]
    constructor
    · rintro ⟨m, hm, he⟩
      obtain ⟨h1, h2⟩ := hlay m hm
      exact ⟨m, h1, he, h2⟩
    · rintro ⟨m, h1, he, h2⟩
      refine ⟨m, (h.layer m).2 ?_, he⟩
      by_cases e0 : e = 0
      · subst e0
        exact .inl ⟨rfl, Rk_zero.1 h2⟩
      · refine .inr ⟨by omega, h1, ?_⟩
        have k1 := h.all m h1 e (by omega) (by omega) h2
        obtain ⟨k2, k3⟩ := h.right m h1 k1
        have k4 := k2.2.2 e (by omega) h2
        by_cases k5 : dv m = e
        · omega
        · exact absurd h0 (h.all v hv (dv m + 1) (by omega) (by omega) (Rk_succ.2 ⟨m, h1, he, k2.2.1⟩))
  refine ⟨by omega, fun v hv hn => ?_, fun v hv j h1 h2 hr => ?_, fun m => ?_⟩
  · rw [hd v hv] at hn ⊢
    by_cases hc : dv v = 0 ∧ ∃ m ∈ Ly, E v m = true
    · rw [if_pos hc]
      refine ⟨⟨hp, (hhit v hv hc.1).1 hc.2, fun j k1 k2 => ?_⟩, by omega⟩
      by_cases hj : j < d
      · exact absurd hc.1 (h.all v hv j k1 hj k2)
      · omega
    · rw [if_neg hc] at hn ⊢
      obtain ⟨k1, k2⟩ := h.right v hv hn
      exact ⟨k1, by omega⟩
  · rw [hd v hv]
    by_cases hj : j < d
    · have := h.all v hv j h1 hj hr
      rw [if_neg (by rintro ⟨h0, _⟩; exact this h0)]
      exact this
    · obtain rfl : j = d := by omega
      by_cases h0 : dv v = 0
      · rw [if_pos ⟨h0, (hhit v hv h0).2 hr⟩]
        omega
      · rw [if_neg (by rintro ⟨h1, _⟩; exact h0 h1)]
        exact h0
  · rw [hl]
    constructor
    · rintro ⟨h1, h2⟩
      refine .inr ⟨by omega, h1, ?_⟩
      rw [hd m h1, if_pos h2]
      omega
    · rintro (⟨h1, _⟩ | ⟨h1, h2, h3⟩)
      · omega
      · refine ⟨h2, ?_⟩
        rw [hd m h2] at h3
        by_cases hc : dv m = 0 ∧ ∃ x ∈ Ly, E m x = true
        · exact hc
        · rw [if_neg hc] at h3
          have := (h.right m h2 (by omega)).2
          omega
theorem Lay.ends {E : Nat → Nat → Bool} {n T d : Nat} {dv : Nat → Nat} (h : Lay E n T d dv []) : ∀ j, ∀ v, v < n → 1 ≤ j → Rk E n T j v → dv v ≠ 0 := by
  have hp := h.pos
  have hd : 2 ≤ d := by
    rcases Nat.lt_or_eq_of_le hp with h1 | h1
    · exact h1
    · have := (h.layer T).2 (.inl ⟨h1.symm, rfl⟩)
      cases this
  intro j
  induction j with
  | zero => intro v _ h1; omega
  | succ j ih =>
    intro v hv h1 hr
    by_cases hj : j + 1 < d
    · exact h.all v hv (j + 1) h1 hj hr
    · obtain ⟨m, m1, m2, m3⟩ := Rk_succ.1 hr
      have k1 := ih m m1 (by omega) m3
      obtain ⟨k2, k3⟩ := h.right m m1 k1
      have k4 : dv m ≠ d - 1 := by
        intro e
        have := (h.layer m).2 (.inr ⟨by omega, m1, e⟩)
        cases this
      exact h.all v hv (dv m + 1) (by omega) (by omega) (Rk_succ.2 ⟨m, m1, m2, k2.2.1⟩)
/-- What dv tells in the end. -/
def Dists (E : Nat → Nat → Bool) (n T : Nat) (dv : Nat → Nat) : Prop := ∀ v, v < n → (dv v ≠ 0 → Dst E n T v (dv v)) ∧ (dv v = 0 → ∀ j, 1 ≤ j → ¬ Rk E n T j v)
theorem Lay.dists {E : Nat → Nat → Bool} {n T d : Nat} {dv : Nat → Nat} (h : Lay E n T d dv []) : Dists E n T dv :=
  fun v hv => ⟨fun h0 => (h.right v hv h0).1, fun h0 j h1 hr => h.ends j v hv h1 hr h0⟩
theorem Dists.at {E : Nat → Nat → Bool} {n T v d : Nat} {dv : Nat → Nat} (h : Dists E n T dv) (hv : v < n) (hd : Dst E n T v d) : dv v = d := by
  by_cases h0 : dv v = 0
  · exact absurd hd.2.1 ((h v hv).2 h0 d hd.1)
  · exact ((h v hv).1 h0).uniq hd

theorem Wl.det {E : Nat → Nat → Bool} {n : Nat} : ∀ {r : List Nat} {s t t' : Nat}, Wl E n s r t → Wl E n s r t' → t = t' := by
  intro r
  induction r with
  | nil => intro s t t' h h'; exact h.symm.trans h'
  | cons m r ih => intro s t t' h h'; exact ih h.2.2 h'.2.2
theorem Wl.append {E : Nat → Nat → Bool} {n t : Nat} : ∀ {r q : List Nat} {s : Nat}, Wl E n s (r ++ q) t ↔ ∃ u, Wl E n s r u ∧ Wl E n u q t := by
  intro r
  induction r with
  | nil =>
    intro q s
    constructor
    · intro h; exact ⟨s, rfl, h⟩
    · rintro ⟨u, h0, h⟩; cases h0; exact h
  | cons m r ih =>
    intro q s
    constructor
    · rintro ⟨h1, h2, h3⟩
      obtain ⟨u, k1, k2⟩ := ih.1 h3
      exact ⟨u, ⟨h1, h2, k1⟩, k2⟩
    · rintro ⟨u, ⟨h1, h2, k1⟩, k2⟩
      exact ⟨h1, h2, ih.2 ⟨u, k1, k2⟩⟩

/-- A walk to u, d edges from T, with a number no greater than any beginning of a walk of D edges. -/
structure Gre (E : Nat → Nat → Bool) (n s T D : Nat) (p : List Nat) (u d : Nat) : Prop where
  hs : s < n
  walk : Wl E n s p u
  hu : u < n
  len : p.length + d = D
  rest : d = 0 → u = T
  dist : d ≠ 0 → Dst E n T u d
  low : ∀ r, r.length = D → Wl E n s r T → cod n (s + 1) p ≤ cod n (s + 1) (r.take p.length)
theorem Gre.first {E : Nat → Nat → Bool} {n s T D : Nat} (hs : s < n) (hD : Dst E n T s D) : Gre E n s T D [] s D :=
  ⟨hs, rfl, hs, by simp, fun h => by have := hD.1; omega, fun _ => hD, fun r _ _ => by simp⟩
/-- Which node may be next. -/
def Fits (T : Nat) (dv : Nat → Nat) (d m : Nat) : Prop := (d = 1 ∧ m = T) ∨ (1 < d ∧ dv m = d - 1)
theorem Gre.some' {E : Nat → Nat → Bool} {n s T D : Nat} {p : List Nat} {u d : Nat} {dv : Nat → Nat} (h : Gre E n s T D p u (d + 1)) (hv : Dists E n T dv) {m : Nat} (hm : m < n) (he : E u m = true) (hr : Rk E n T d m) : Fits T dv (d + 1) m := by
  have hd := h.dist (by omega)
  by_cases h0 : d = 0
  · subst h0
    exact .inl ⟨rfl, Rk_zero.1 hr⟩
  · refine .inr ⟨by omega, ?_⟩
    refine hv.at hm ⟨by omega, hr, fun j hj hk => ?_⟩
    have := hd.2.2 (j + 1) (by omega) (Rk_succ.2 ⟨m, hm, he, hk⟩)
    omega
theorem Gre.fits {E : Nat → Nat → Bool} {n s T D : Nat} {p : List Nat} {u d : Nat} {dv : Nat → Nat} (h : Gre E n s T D p u (d + 1)) (hv : Dists E n T dv) : ∃ m, m < n ∧ E u m = true ∧ Fits T dv (d + 1) m := by
  obtain ⟨m, h1, h2, h3⟩ := Rk_succ.1 (h.dist (by omega)).2.1
  exact ⟨m, h1, h2, h.some' hv h1 h2 h3⟩
theorem Gre.step {E : Nat → Nat → Bool} {n s T D : Nat} {p : List Nat} {u d : Nat} {dv : Nat → Nat} (h : Gre E n s T D p u (d + 1)) (hv : Dists E n T dv) {m : Nat} (hm : m < n) (he : E u m = true) (hf : Fits T dv (d + 1) m) (hmin : ∀ x, x < m → E u x = true → ¬ Fits T dv (d + 1) x) : Gre E n s T D (p ++ [m]) m d := by
  refine ⟨h.hs, Wl.snoc.2 ⟨u, h.walk, he, hm, rfl⟩, hm, by have := h.len; simp; omega, fun h0 => ?_, fun h0 => ?_, fun r hl hw => ?_⟩
  · subst h0
    rcases hf with ⟨_, h1⟩ | ⟨h1, _⟩
    · exact h1
    · omega
  · rcases hf with ⟨h1, _⟩ | ⟨h1, h2⟩
    · omega
    · have k := ((hv m hm).1 (by omega))
      rw [h2] at k
      exact k
  · have hlen := h.len
    have hlt : p.length < r.length := by omega
    have e : r.take (p.length + 1) = r.take p.length ++ [r[p.length]] := by rw [List.take_succ_eq_append_getElem hlt]
    rw [List.length_append, List.length_singleton, e, cod_snoc, cod_snoc]
    have hle := h.low r hl hw
    have hspl : r = r.take p.length ++ (r[p.length] :: r.drop (p.length + 1)) := by rw [← List.drop_eq_getElem_cons hlt, List.take_append_drop]
    have hw2 := hw
    rw [hspl] at hw2
    obtain ⟨y, w1, w2, w3, w4⟩ := Wl.append.1 hw2
    rcases Nat.lt_or_eq_of_le hle with hq | hq
    · have := Nat.mul_le_mul_right (n + 1) (show cod n (s + 1) p + 1 ≤ cod n (s + 1) (r.take p.length) from hq)
      rw [Nat.add_mul, Nat.one_mul] at this
      omega
    · have hs := h.hs
      have hp : p = r.take p.length := cod_inj n (s + 1) (by omega) (by omega) _ _ h.walk.digits w1.digits hq
      have hy : u = y := by
        have := h.walk
        rw [hp] at this
        exact this.det w1
      subst hy
      have hx : m ≤ r[p.length] := by
        refine Nat.le_of_not_lt fun hlt' => hmin _ hlt' w2 (h.some' hv w3 w2 ⟨_, ?_, w4⟩)
        rw [List.length_drop]
        omega
      rw [← hq]
      omega
/-- The first of the shortest walks. -/
def Best (E : Nat → Nat → Bool) (n s T : Nat) (r : List Nat) : Prop := r ≠ [] ∧ Wl E n s r T ∧ ∀ q, q ≠ [] → Wl E n s q T → cod n (s + 1) r ≤ cod n (s + 1) q
theorem Best.uniq {E : Nat → Nat → Bool} {n s T : Nat} {r q : List Nat} (hs : s < n) (h : Best E n s T r) (h' : Best E n s T q) : r = q :=
  cod_inj n (s + 1) (by omega) (by omega) _ _ h.2.1.digits h'.2.1.digits (Nat.le_antisymm (h.2.2 q h'.1 h'.2.1) (h'.2.2 r h.1 h.2.1))
theorem Gre.best {E : Nat → Nat → Bool} {n s T D : Nat} {p : List Nat} {u : Nat} (h : Gre E n s T D p u 0) (hD : Dst E n T s D) : Best E n s T p := by
  have hl := h.len
  have hs := h.hs
  have e := h.rest rfl
  subst e
  have hD1 := hD.1
  refine ⟨by rintro rfl; simp at hl; omega, h.walk, fun q hq hw => ?_⟩
  have hk : D ≤ q.length := hD.2.2 _ (List.length_pos_iff.2 hq) ⟨q, rfl, hw⟩
  rcases Nat.lt_or_eq_of_le hk with hk | hk
  · exact Nat.le_of_lt (cod_longer n (s + 1) (by omega) (by omega) p q h.walk.digits (by omega))
  · have := h.low q hk.symm hw
    rw [List.take_of_length_le (by omega)] at this
    exact this
theorem Best.dst {E : Nat → Nat → Bool} {n s T : Nat} {r : List Nat} (hs : s < n) (h : Best E n s T r) : Dst E n T s r.length := by
  refine ⟨List.length_pos_iff.2 h.1, ⟨r, rfl, h.2.1⟩, ?_⟩
  rintro j hj ⟨q, rfl, hw⟩
  refine Nat.le_of_not_lt fun hlt => ?_
  have h1 := cod_longer n (s + 1) (by omega) (by omega) q r hw.digits hlt
  have h2 := h.2.2 q (by rintro rfl; simp at hj) hw
  omega
end Go.Proofs.YtjgmkigfpjmlaaaDoor
