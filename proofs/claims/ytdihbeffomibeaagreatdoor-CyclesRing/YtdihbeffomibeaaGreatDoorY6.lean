/-
  Plain: how far it is to a node, layer by layer, and the first of the shortest walks.
  The queue of the search: put and take.
  The queue of the search: put and take.
  What the search holds in memory.
-/
import Derived.Test.YtdihbeffomibeaaGreatDoorY5
import Derived.ArgAppend
import Derived.Lib.Walk
namespace Go.Proofs.YtdihbeffomibeaaGreatDoor

def Rk (E : Nat → Nat → Bool) (n T k v : Nat) : Prop := ∃ r, r.length = k ∧ Wl E n v r T
theorem Rk_zero {E : Nat → Nat → Bool} {n T v : Nat} : Rk E n T 0 v ↔ v = T := by
  constructor
  · rintro ⟨r, hl, hw⟩
    rw [List.length_eq_zero_iff.1 hl] at hw
    exact hw
  · rintro rfl
    exact ⟨[], rfl, rfl⟩
theorem Rk_succ {E : Nat → Nat → Bool} {n T k v : Nat} : Rk E n T (k + 1) v ↔ ∃ m, m < n ∧ E v m = true ∧ Rk E n T k m := by
  constructor
  · rintro ⟨r, hl, hw⟩
    cases r with
    | nil => simp at hl
    | cons m r => exact ⟨m, hw.2.1, hw.1, r, by simpa using hl, hw.2.2⟩
  · rintro ⟨m, h1, h2, r, hl, hw⟩
    exact ⟨m :: r, by simp [hl], h2, h1, hw⟩
/-- d is the least number of edges, one at least, from v to T. -/
def Dst (E : Nat → Nat → Bool) (n T v d : Nat) : Prop := 1 ≤ d ∧ Rk E n T d v ∧ ∀ j, 1 ≤ j → Rk E n T j v → d ≤ j
theorem Dst.uniq {E : Nat → Nat → Bool} {n T v d d' : Nat} (h : Dst E n T v d) (h' : Dst E n T v d') : d = d' :=
  Nat.le_antisymm (h.2.2 d' h'.1 h'.2.1) (h'.2.2 d h.1 h.2.1)
/-- What is known ahead of round d. -/
structure Lay (E : Nat → Nat → Bool) (n T d : Nat) (dv : Nat → Nat) (Ly : List Nat) : Prop where
  pos : 1 ≤ d
  right : ∀ v, v < n → dv v ≠ 0 → Dst E n T v (dv v) ∧ dv v < d
  all : ∀ v, v < n → ∀ j, 1 ≤ j → j < d → Rk E n T j v → dv v ≠ 0
  layer : ∀ m, m ∈ Ly ↔ (d = 1 ∧ m = T) ∨ (1 < d ∧ m < n ∧ dv m = d - 1)
theorem Lay.first (E : Nat → Nat → Bool) (n T : Nat) : Lay E n T 1 (fun _ => 0) [T] :=
  ⟨Nat.le_refl _, fun _ _ h => absurd rfl h, fun _ _ j h1 h2 => by omega, fun m => by simp⟩
theorem Lay.round {E : Nat → Nat → Bool} {n T d : Nat} {dv dv' : Nat → Nat} {Ly Ly' : List Nat} (h : Lay E n T d dv Ly) (hT : T < n)
    (hd : ∀ v, v < n → dv' v = if dv v = 0 ∧ (∃ m ∈ Ly, E v m = true) then d else dv v) (hl : ∀ v, v ∈ Ly' ↔ v < n ∧ dv v = 0 ∧ ∃ m ∈ Ly, E v m = true) : Lay E n T (d + 1) dv' Ly' := by
  have hp := h.pos
  have hlay : ∀ m, m ∈ Ly → m < n ∧ Rk E n T (d - 1) m := by
    intro m hm
    rcases (h.layer m).1 hm with ⟨rfl, rfl⟩ | ⟨h1, h2, h3⟩
    · exact ⟨hT, Rk_zero.2 rfl⟩
    · refine ⟨h2, ?_⟩
      have := (h.right m h2 (by omega)).1.2.1
      rw [h3] at this
      exact this
  have hhit : ∀ v, v < n → dv v = 0 → ((∃ m ∈ Ly, E v m = true) ↔ Rk E n T d v) := by
    intro v hv h0
    obtain ⟨e, rfl⟩ : ∃ e, d = e + 1 := ⟨d - 1, by omega⟩
    rw [Rk_succ]
    constructor
    · rintro ⟨m, hm, he⟩
      obtain ⟨h1, h2⟩ := hlay m hm
      exact ⟨m, h1, he, h2⟩
    · rintro ⟨m, h1, he, h2⟩
      refine ⟨m, (h.layer m).2 ?_, he⟩
      by_cases e0 : e = 0
      · subst e0
        exact .inl ⟨rfl, Rk_zero.1 h2⟩
      · refine .inr ⟨by omega, h1, ?_⟩
        have k1 := h.all m h1 e (by omega) (by omega) h2
        obtain ⟨k2, k3⟩ := h.right m h1 k1
        have k4 := k2.2.2 e (by omega) h2
        by_cases k5 : dv m = e
        · omega
        · exact absurd h0 (h.all v hv (dv m + 1) (by omega) (by omega) (Rk_succ.2 ⟨m, h1, he, k2.2.1⟩))
  refine ⟨by omega, fun v hv hn => ?_, fun v hv j h1 h2 hr => ?_, fun m => ?_⟩
  · rw [hd v hv] at hn ⊢
    by_cases hc : dv v = 0 ∧ ∃ m ∈ Ly, E v m = true
    · rw [if_pos hc]
      refine ⟨⟨hp, (hhit v hv hc.1).1 hc.2, fun j k1 k2 => ?_⟩, by omega⟩
      by_cases hj : j < d
      · exact absurd hc.1 (h.all v hv j k1 hj k2)
      · omega
    · rw [if_neg hc] at hn ⊢
      obtain ⟨k1, k2⟩ := h.right v hv hn
      exact ⟨k1, by omega⟩
  · rw [hd v hv]
    by_cases hj : j < d
    · have := h.all v hv j h1 hj hr
      rw [if_neg (by rintro ⟨h0, _⟩; exact this h0)]
      exact this
    · obtain rfl : j = d := by omega
      by_cases h0 : dv v = 0
      · rw [if_pos ⟨h0, (hhit v hv h0).2 hr⟩]
        omega
      · rw [if_neg (by rintro ⟨h1, _⟩; exact h0 h1)]
        exact h0
  · rw [hl]
    constructor
    · rintro ⟨h1, h2⟩
      refine .inr ⟨by omega, h1, ?_⟩
      rw [hd m h1, if_pos h2]
      omega
    · rintro (⟨h1, _⟩ | ⟨h1, h2, h3⟩)
      · omega
      · refine ⟨h2, ?_⟩
        rw [hd m h2] at h3
        by_cases hc : dv m = 0 ∧ ∃ x ∈ Ly, E m x = true
        · exact hc
        · rw [if_neg hc] at h3
          have := (h.right m h2 (by omega)).2
          omega
theorem Lay.ends {E : Nat → Nat → Bool} {n T d : Nat} {dv : Nat → Nat} (h : Lay E n T d dv []) : ∀ j, ∀ v, v < n → 1 ≤ j → Rk E n T j v → dv v ≠ 0 := by
  have hp := h.pos
  have hd : 2 ≤ d := by
    rcases Nat.lt_or_eq_of_le hp with h1 | h1
    · exact h1
    · have := (h.layer T).2 (.inl ⟨h1.symm, rfl⟩)
      cases this
  intro j
  induction j with
  | zero => intro v _ h1; omega
  | succ j ih =>
    intro v hv h1 hr
    by_cases hj : j + 1 < d
    · exact h.all v hv (j + 1) h1 hj hr
    · obtain ⟨m, m1, m2, m3⟩ := Rk_succ.1 hr
      have k1 := ih m m1 (by omega) m3
      obtain ⟨k2, k3⟩ := h.right m m1 k1
      have k4 : dv m ≠ d - 1 := by
        intro e
        have := (h.layer m).2 (.inr ⟨by omega, m1, e⟩)
        cases this
      exact h.all v hv (dv m + 1) (by omega) (by omega) (Rk_succ.2 ⟨m, m1, m2, k2.2.1⟩)
/-- What dv tells in the end. -/
def Dists (E : Nat → Nat → Bool) (n T : Nat) (dv : Nat → Nat) : Prop := ∀ v, v < n → (dv v ≠ 0 → Dst E n T v (dv v)) ∧ (dv v = 0 → ∀ j, 1 ≤ j → ¬ Rk E n T j v)
theorem Lay.dists {E : Nat → Nat → Bool} {n T d : Nat} {dv : Nat → Nat} (h : Lay E n T d dv []) : Dists E n T dv :=
  fun v hv => ⟨fun h0 => (h.right v hv h0).1, fun h0 j h1 hr => h.ends j v hv h1 hr h0⟩
theorem Dists.at {E : Nat → Nat → Bool} {n T v d : Nat} {dv : Nat → Nat} (h : Dists E n T dv) (hv : v < n) (hd : Dst E n T v d) : dv v = d := by
  by_cases h0 : dv v = 0
  · exact absurd hd.2.1 ((h v hv).2 h0 d hd.1)
  · exact ((h v hv).1 h0).uniq hd

theorem Wl.det {E : Nat → Nat → Bool} {n : Nat} : ∀ {r : List Nat} {s t t' : Nat}, Wl E n s r t → Wl E n s r t' → t = t' := by
  intro r
  induction r with
  | nil => intro s t t' h h'; exact h.symm.trans h'
  | cons m r ih => intro s t t' h h'; exact ih h.2.2 h'.2.2
theorem Wl.append {E : Nat → Nat → Bool} {n t : Nat} : ∀ {r q : List Nat} {s : Nat}, Wl E n s (r ++ q) t ↔ ∃ u, Wl E n s r u ∧ Wl E n u q t := by
  intro r
  induction r with
  | nil =>
    intro q s
    constructor
    · intro h; exact ⟨s, rfl, h⟩
    · rintro ⟨u, h0, h⟩; cases h0; exact h
  | cons m r ih =>
    intro q s
    constructor
    · rintro ⟨h1, h2, h3⟩
      obtain ⟨u, k1, k2⟩ := ih.1 h3
      exact ⟨u, ⟨h1, h2, k1⟩, k2⟩
    · rintro ⟨u, ⟨h1, h2, k1⟩, k2⟩
      exact ⟨h1, h2, ih.2 ⟨u, k1, k2⟩⟩

/-- A walk to u, d edges from T, with a number no greater than any beginning of a walk of D edges. -/
structure Gre (E : Nat → Nat → Bool) (n s T D : Nat) (p : List Nat) (u d : Nat) : Prop where
  hs : s < n
  walk : Wl E n s p u
  hu : u < n
  len : p.length + d = D
  rest : d = 0 → u = T
  dist : d ≠ 0 → Dst E n T u d
  low : ∀ r, r.length = D → Wl E n s r T → cod n (s + 1) p ≤ cod n (s + 1) (r.take p.length)
theorem Gre.first {E : Nat → Nat → Bool} {n s T D : Nat} (hs : s < n) (hD : Dst E n T s D) : Gre E n s T D [] s D :=
  ⟨hs, rfl, hs, by simp, fun h => by have := hD.1; omega, fun _ => hD, fun r _ _ => by simp⟩
/-- Which node may be next. -/
def Fits (T : Nat) (dv : Nat → Nat) (d m : Nat) : Prop := (d = 1 ∧ m = T) ∨ (1 < d ∧ dv m = d - 1)
theorem Gre.some' {E : Nat → Nat → Bool} {n s T D : Nat} {p : List Nat} {u d : Nat} {dv : Nat → Nat} (h : Gre E n s T D p u (d + 1)) (hv : Dists E n T dv) {m : Nat} (hm : m < n) (he : E u m = true) (hr : Rk E n T d m) : Fits T dv (d + 1) m := by
  have hd := h.dist (by omega)
  by_cases h0 : d = 0
  · subst h0
    exact .inl ⟨rfl, Rk_zero.1 hr⟩
  · refine .inr ⟨by omega, ?_⟩
    refine hv.at hm ⟨by omega, hr, fun j hj hk => ?_⟩
    have := hd.2.2 (j + 1) (by omega) (Rk_succ.2 ⟨m, hm, he, hk⟩)
    omega
theorem Gre.fits {E : Nat → Nat → Bool} {n s T D : Nat} {p : List Nat} {u d : Nat} {dv : Nat → Nat} (h : Gre E n s T D p u (d + 1)) (hv : Dists E n T dv) : ∃ m, m < n ∧ E u m = true ∧ Fits T dv (d + 1) m := by
  obtain ⟨m, h1, h2, h3⟩ := Rk_succ.1 (h.dist (by omega)).2.1
  exact ⟨m, h1, h2, h.some' hv h1 h2 h3⟩
theorem Gre.step {E : Nat → Nat → Bool} {n s T D : Nat} {p : List Nat} {u d : Nat} {dv : Nat → Nat} (h : Gre E n s T D p u (d + 1)) (hv : Dists E n T dv) {m : Nat} (hm : m < n) (he : E u m = true) (hf : Fits T dv (d + 1) m) (hmin : ∀ x, x < m → E u x = true → ¬ Fits T dv (d + 1) x) : Gre E n s T D (p ++ [m]) m d := by
  refine ⟨h.hs, Wl.snoc.2 ⟨u, h.walk, he, hm, rfl⟩, hm, by have := h.len; simp; omega, fun h0 => ?_, fun h0 => ?_, fun r hl hw => ?_⟩
  · subst h0
    rcases hf with ⟨_, h1⟩ | ⟨h1, _⟩
    · exact h1
    · omega
  · rcases hf with ⟨h1, _⟩ | ⟨h1, h2⟩
    · omega
    · have k := ((hv m hm).1 (by omega))
      rw [h2] at k
      exact k
  · have hlen := h.len
    have hlt : p.length < r.length := by omega
    have e : r.take (p.length + 1) = r.take p.length ++ [r[p.length]] := by rw [List.take_succ_eq_append_getElem hlt]
    rw [List.length_append, List.length_singleton, e, cod_snoc, cod_snoc]
    have hle := h.low r hl hw
    have hspl : r = r.take p.length ++ (r[p.length] :: r.drop (p.length + 1)) := by rw [← List.drop_eq_getElem_cons hlt, List.take_append_drop]
    have hw2 := hw
    rw [hspl] at hw2
    obtain ⟨y, w1, w2, w3, w4⟩ := Wl.append.1 hw2
    rcases Nat.lt_or_eq_of_le hle with hq | hq
    · have := Nat.mul_le_mul_right (n + 1) (show cod n (s + 1) p + 1 ≤ cod n (s + 1) (r.take p.length) from hq)
      rw [Nat.add_mul, Nat.one_mul] at this
      omega
    · have hs := h.hs
      have hp : p = r.take p.length := cod_inj n (s + 1) (by omega) (by omega) _ _ h.walk.digits w1.digits hq
      have hy : u = y := by
        have := h.walk
        rw [hp] at this
        exact this.det w1
      subst hy
      have hx : m ≤ r[p.length] := by
        refine Nat.le_of_not_lt fun hlt' => hmin _ hlt' w2 (h.some' hv w3 w2 ⟨_, ?_, w4⟩)
        rw [List.length_drop]
        omega
      rw [← hq]
      omega
/-- The first of the shortest walks. -/
def Best (E : Nat → Nat → Bool) (n s T : Nat) (r : List Nat) : Prop := r ≠ [] ∧ Wl E n s r T ∧ ∀ q, q ≠ [] → Wl E n s q T → cod n (s + 1) r ≤ cod n (s + 1) q
theorem Best.uniq {E : Nat → Nat → Bool} {n s T : Nat} {r q : List Nat} (hs : s < n) (h : Best E n s T r) (h' : Best E n s T q) : r = q :=
  cod_inj n (s + 1) (by omega) (by omega) _ _ h.2.1.digits h'.2.1.digits (Nat.le_antisymm (h.2.2 q h'.1 h'.2.1) (h'.2.2 r h.1 h.2.1))
theorem Gre.best {E : Nat → Nat → Bool} {n s T D : Nat} {p : List Nat} {u : Nat} (h : Gre E n s T D p u 0) (hD : Dst E n T s D) : Best E n s T p := by
  have hl := h.len
  have hs := h.hs
  have e := h.rest rfl
  subst e
  have hD1 := hD.1
  refine ⟨by rintro rfl; simp at hl; omega, h.walk, fun q hq hw => ?_⟩
  have hk : D ≤ q.length := hD.2.2 _ (List.length_pos_iff.2 hq) ⟨q, rfl, hw⟩
  rcases Nat.lt_or_eq_of_le hk with hk | hk
  · exact Nat.le_of_lt (cod_longer n (s + 1) (by omega) (by omega) p q h.walk.digits (by omega))
  · have := h.low q hk.symm hw
    rw [List.take_of_length_le (by omega)] at this
    exact this
theorem Best.dst {E : Nat → Nat → Bool} {n s T : Nat} {r : List Nat} (hs : s < n) (h : Best E n s T r) : Dst E n T s r.length := by
  refine ⟨List.length_pos_iff.2 h.1, ⟨r, rfl, h.2.1⟩, ?_⟩
  rintro j hj ⟨q, rfl, hw⟩
  refine Nat.le_of_not_lt fun hlt => ?_
  have h1 := cod_longer n (s + 1) (by omega) (by omega) q r hw.digits hlt
  have h2 := h.2.2 q (by rintro rfl; simp at hj) hw
  omega
end Go.Proofs.YtdihbeffomibeaaGreatDoor
namespace Go.Proofs.YtdihbeffomibeaaGreatDoor
set_option linter.unusedVariables false
set_option linter.unusedSimpArgs false
open Go.RowKit

/-- w' is w but for blocks of P and new ones. -/
structure Gro (P : Nat → Prop) (w w' : World) : Prop where
  os : w'.os = w.os
  tape : w'.tape = w.tape
  output : w'.output = w.output
  size : w.heap.size ≤ w'.heap.size
  block : ∀ k, k < w.heap.size → ¬ P k → w'.heap[k]? = w.heap[k]?
theorem Gro.refl (P : Nat → Prop) (w : World) : Gro P w w := ⟨rfl, rfl, rfl, Nat.le_refl _, fun _ _ _ => rfl⟩
theorem Gro.trans {P : Nat → Prop} {w w1 w2 : World} (h : Gro P w w1) (h2 : Gro P w1 w2) : Gro P w w2 :=
  ⟨h2.os.trans h.os, h2.tape.trans h.tape, h2.output.trans h.output, Nat.le_trans h.size h2.size, fun k hk hn => (h2.block k (Nat.lt_of_lt_of_le hk h.size) hn).trans (h.block k hk hn)⟩
theorem Gro.at {P : Nat → Prop} {w w' : World} (h : Gro P w w') {x : Nat} {cs : Array Value} {t : TypeId} {fr : Nat × Nat} (hx : w.heap[x]? = some (.cells cs t fr)) (hn : ¬ P x) : w'.heap[x]? = some (.cells cs t fr) :=
  (h.block x (blt hx) hn).trans hx
theorem Gro.below {P : Nat → Prop} {w w' : World} (h : Gro P w w') (H : Nat) (hH : ∀ k, P k → H ≤ k) (hs : H ≤ w.heap.size) : Below H w w' :=
  ⟨h.os, h.tape, h.output, h.size, fun k hk => h.block k (by omega) (fun hp => by have := hH k hp; omega)⟩
theorem Gro.of_below {P : Nat → Prop} {w w' : World} (h : Below w.heap.size w w') : Gro P w w' := ⟨h.os, h.tape, h.output, h.size, fun k hk _ => h.block k hk⟩

/-- A slice of numbers, not from its block's beginning on, in a block of P. -/
def Part (P : Nat → Prop) (w : World) (v : Value) (l : List Int) : Prop :=
  (v = .slice none 0 0 ∧ l = []) ∨ ∃ g off cap cur, v = .slice (some ⟨g, off, none⟩) l.length cap ∧ P g ∧ w.heap[g]? = some (.cells cur 3) ∧ l.length ≤ cap ∧ cap ≤ maxLen ∧ off + cap ≤ cur.size ∧ ∀ j, j < l.length → cur[off + j]? = some (.int .i64 (l.getD j 0))
structure Que (P : Nat → Prop) (w : World) (qb : Nat) (l : List Int) : Prop where
  ex : ∃ v, w.heap[qb]? = some (.cells #[v] 124) ∧ Part P w v l
theorem Part.gro {P Q : Nat → Prop} {w w' : World} {v : Value} {l : List Int} (h : Part P w v l) (hg : Gro Q w w') (hn : ∀ k, P k → ¬ Q k) : Part P w' v l := by
  rcases h with h | ⟨g, off, cap, cur, h1, h2, h3, h4⟩
  · exact .inl h
  · exact .inr ⟨g, off, cap, cur, h1, h2, hg.at h3 (hn g h2), h4⟩
theorem Que.gro {P Q : Nat → Prop} {w w' : World} {qb : Nat} {l : List Int} (h : Que P w qb l) (hg : Gro Q w w') (hn : ∀ k, P k → ¬ Q k) (hq : ¬ Q qb) : Que P w' qb l := by
  obtain ⟨v, h1, h2⟩ := h.ex
  exact ⟨v, hg.at h1 hq, h2.gro hg hn⟩
theorem Que.later {P : Nat → Prop} {w w' : World} {qb : Nat} {l : List Int} (h : Que P w qb l) (hb : Below w.heap.size w w') : Que P w' qb l :=
  h.gro (Gro.of_below (P := fun _ => False) hb) (fun _ _ h => h) (fun h => h)
theorem Que.mono {P Q : Nat → Prop} {w : World} {qb : Nat} {l : List Int} (h : Que P w qb l) (hn : ∀ k, k < w.heap.size → P k → Q k) : Que Q w qb l := by
  obtain ⟨v, h1, h2⟩ := h.ex
  refine ⟨v, h1, ?_⟩
  rcases h2 with h | ⟨g, off, cap, cur, h1, h2, h3, h4⟩
  · exact .inl h
  · exact .inr ⟨g, off, cap, cur, h1, hn g (blt h3) h2, h3, h4⟩

theorem Tryz.info3i : (Tryz.prog.info? 3).map (fun i => (i.zero, i.size, i.bytes)) = some (some (.int .i64 0), 1, 8) := by kernel_rfl

theorem take_none (P : Nat → Prop) (qb : Nat) (w : World) (h : Que P w qb []) : Calls Tryz.prog 79 #[.pointer (some ⟨qb, 0, none⟩)] w fun e w' => e = .returned (.tuple #[.int .i64 0, .bool false]) ∧ w = w' := by
  obtain ⟨v, h1, h2⟩ := h.ex
  obtain ⟨ao, cap, rfl⟩ : ∃ ao cap, v = .slice ao 0 cap := by
    rcases h2 with ⟨rfl, -⟩ | ⟨g, off, cap, cur, rfl, -⟩
    · exact ⟨none, 0, rfl⟩
    · exact ⟨_, cap, rfl⟩
  have c0 : w.cell? ⟨qb, 0, none⟩ = some (.slice ao 0 cap) := Lib.cell_of_heap h1 0
  clear h h1 h2
  go_enter Tryz.func79, Tryz.ntmps79
  go_wp2
  refine bodyPost_ret (v := .tuple #[.int .i64 0, .bool false]) (by simp [results, go_sem]) rfl ⟨rfl, rfl⟩
end Go.Proofs.YtdihbeffomibeaaGreatDoor
namespace Go.Proofs.YtdihbeffomibeaaGreatDoor
set_option linter.unusedVariables false
set_option linter.unusedSimpArgs false
open Go.RowKit

theorem gro_set (w : World) (p : Addr) (v : Value) : Gro (fun k => k = p.block) w (w.setCell p v) :=
  ⟨rfl, rfl, rfl, by simp, fun k _ hn => Below.heap_setCell w p v k hn⟩
theorem Que.box {P : Nat → Prop} {w : World} {qb : Nat} {v0 v : Value} {l : List Int} (h : w.heap[qb]? = some (.cells #[v0] 124)) (hq : ¬ P qb) (hv : Part P w v l) : Que P (w.setCell ⟨qb, 0, none⟩ v) qb l := by
  refine ⟨v, (Go.Joins.block_setCell h v).trans (by simp), hv.gro (gro_set w ⟨qb, 0, none⟩ v) ?_⟩
  rintro k hk rfl
  exact hq hk

theorem take_some (P : Nat → Prop) (qb : Nat) (x : Int) (l : List Int) (w : World) (hq : ¬ P qb) (h : Que P w qb (x :: l)) (hl : l.length < 10000) : Calls Tryz.prog 79 #[.pointer (some ⟨qb, 0, none⟩)] w fun e w' => e = .returned (.tuple #[.int .i64 x, .bool true]) ∧ Que P w' qb l ∧ Gro (fun k => k = qb) w w' ∧ w'.heap.size = w.heap.size := by
  obtain ⟨v, h1, h2⟩ := h.ex
  rcases h2 with ⟨-, h2⟩ | ⟨g, off, cap, cur, rfl, hP, hg, hc1, hc2, hsz, hat⟩
  · cases h2
  have c0 : w.cell? ⟨qb, 0, none⟩ = some (.slice (some ⟨g, off, none⟩) (x :: l).length cap) := Lib.cell_of_heap h1 0
  have f0 : w.frozen? ⟨qb, 0, none⟩ = false := Lib.frozen_of_heap h1 0
  have c1 : w.cell? ⟨g, off, none⟩ = some (.int .i64 x) := (Lib.cell_of_heap hg off).trans (hat 0 (by simp))
  have HB : Hid (∀ v, Part P w v l → Que P (w.setCell ⟨qb, 0, none⟩ v) qb l) := fun v hv => Que.box h1 hq hv
  have HA : Hid (∀ v, v = .slice (some ⟨g, off + 1, none⟩) l.length (cap - 1) → Part P w v l) := fun v hv => .inr ⟨g, off + 1, cap - 1, cur, hv, hP, hg, by simp at hc1; omega, by omega, by simp at hc1; omega, fun j hj => by
    have := hat (j + 1) (by simp; omega)
    rw [show off + (j + 1) = off + 1 + j from by omega] at this
    simpa using this⟩
  have HA0 : Hid (∀ v, cap = 1 → v = .slice (some ⟨g, off, none⟩) l.length 0 → Part P w v l) := fun v hc hv => by
    have hl0 : l.length = 0 := by simp at hc1; omega
    exact .inr ⟨g, off, 0, cur, hv, hP, hg, by omega, by simp [maxLen], by omega, fun j hj => by omega⟩
  rw [List.length_cons] at c0 hc1
  have hi : (0 : Int) < (l.length : Int) + 1 := by omega
  have hi2 : ¬ ((l.length : Int) + 1 = 0) := by omega
  unfold maxLen at hc2
  have hcap : (cap : Int) ≤ 9223372036854775807 := by omega
  have hcl : (l.length : Int) + 1 ≤ cap := by omega
  clear h hat hg hP h1
  go_enter Tryz.func79, Tryz.ntmps79
  go_wp2
  · refine bodyPost_ret (v := .tuple #[.int .i64 x, .bool true]) (by simp [results, go_sem]) rfl ⟨rfl, HB.out _ (HA0.out _ (by assumption) rfl), gro_set w ⟨qb, 0, none⟩ _, by simp⟩
  · refine bodyPost_ret (v := .tuple #[.int .i64 x, .bool true]) (by simp [results, go_sem]) rfl ⟨rfl, HB.out _ (HA.out _ rfl), gro_set w ⟨qb, 0, none⟩ _, by simp⟩

/-- An append of one number. -/
theorem wpList_append_part {ops : Array Oper} {rest : List Oper} {o : Oper} {a : Act} {Q : Exit → Act → World → Prop} (w : World)
    (hg : o.guard = none) (s x : Operand) (hop : o.op = Op.call { callee := Callee.builtin Builtin.append, args := #[s, x], argTypes := #[40, 40] })
    (P : Nat → Prop) (hP : ∀ g, w.heap.size ≤ g → P g) (v : Value) (l : List Int) (hs : a.eval s = v) (hv : Part P w v l)
    (ab : Nat) (y : Int) (c : Nat) (hx : a.eval x = .slice (some ⟨ab, 0, none⟩) 1 c) (hc : w.cell? ⟨ab, 0, none⟩ = some (.int .i64 y)) (hl : l.length < 10000)
    (h : ∀ v' w', Part P w' v' (l ++ [y]) → Gro P w w' → wpList Tryz.prog ops Q rest (a.put o.dst v') w') : wpList Tryz.prog ops Q (o :: rest) a w := by
  obtain ⟨i0, hi, hz'⟩ := Option.map_eq_some_iff.1 Tryz.info3i
  simp only [Prod.mk.injEq] at hz'
  obtain ⟨hz0, hz1, hz2⟩ := hz'
  have hnews : ∀ j u, ([.int .i64 y] : List Value)[j]? = some u → w.cell? ((⟨ab, 0, none⟩ : Addr).add j) = some u := by
    intro j u hj
    cases j with
    | zero => rw [Addr.add_lit]; simp at hj; subst hj; exact hc
    | succ j => simp at hj
  have grown : ∀ (olds : List Value) (v' : Value) (w' : World), olds.length = l.length → (∀ j, j < l.length → olds[j]? = some (.int .i64 (l.getD j 0))) → w'.ownsRow w.heap.size 3 1 v' (l.length + 1) (olds ++ [.int .i64 y]) → w.grownBy w' none → Part P w' v' (l ++ [y]) ∧ Gro P w w' := by
    intro olds v' w' ho ho2 hown hgr
    refine ⟨?_, ⟨hgr.os, hgr.tape, hgr.output, hgr.size, fun k hk _ => hgr.block k hk (by simp)⟩⟩
    rcases hown.2 with ⟨_, h0⟩ | ⟨g, cap, cur, hv', hb, hgg, hcap1, hcap2, hcs, htk⟩
    · omega
    · refine .inr ⟨g, 0, cap, cur, by rw [List.length_append, List.length_singleton]; exact hv', hP g hb, hgg, by rw [List.length_append, List.length_singleton]; exact hcap1, hcap2, by omega, fun j hj => ?_⟩
      rw [List.length_append, List.length_singleton] at hj
      have e1 : cur[0 + j]? = cur.toList[j]? := by simp
      have e2 : cur.toList[j]? = (cur.toList.take ((l.length + 1) * 1))[j]? := by rw [List.getElem?_take, if_pos (by omega)]
      rw [e1, e2, htk]
      by_cases hjl : j < l.length
      · rw [List.getElem?_append_left (by omega), ho2 j hjl]
        simp [List.getD, List.getElem?_append_left hjl]
      · obtain rfl : j = l.length := by omega
        rw [List.getElem?_append_right (by omega), ho]
        simp [List.getD]
  rcases hv with ⟨rfl, rfl⟩ | ⟨g, off, cap, cur, rfl, hPg, hgg, hc1, hc2, hsz, hat⟩
  · refine wpList_append_grows w hg s x 40 hop 3 i0 (.int .i64 0) 1 8 Tryz.underlying40 hi hz0 hz1 hz2 rfl (by decide) none 0 0 [] hs (fun _ => ⟨rfl, rfl⟩) rfl (fun b hb => by cases hb) ⟨ab, 0, none⟩ 1 c [.int .i64 y] hx rfl hnews (by simp [Value.oneCell']) (by omega) (by simp [maxLen]) (by omega) (fun v' w' hown hgr => ?_)
    obtain ⟨k1, k2⟩ := grown [] v' w' rfl (fun j hj => by simp at hj) hown hgr
    exact h v' w' k1 k2
  · refine wpList_append_arg w hg s x 40 hop 3 i0 (.int .i64 0) 1 8 Tryz.underlying40 hi hz0 hz1 hz2 rfl (by decide) g off l.length cap (l.map fun z : Int => Value.int .i64 z) hs (by simp) (fun j u hj => ?_) ⟨ab, 0, none⟩ 1 c [.int .i64 y] hx rfl hnews (by simp [Value.oneCell']) (fun hr j hj => ?_) (by simp [maxLen]; omega) (by omega) (fun hr => ?_) (fun hr v' w' hown hgr => ?_)
    · have hjl : j < l.length := by
        have := List.getElem?_eq_some_iff.1 hj
        simpa using this.1
      rw [Lib.cell_of_heap hgg, hat j hjl]
      simp [List.getElem?_map, hjl] at hj
      simp [List.getD, hjl, hj]
    · obtain rfl : j = 0 := by simpa using hj
      refine ⟨?_, Lib.frozen_of_heap hgg _⟩
      rw [Lib.cell_of_heap hgg]
      simp
      omega
    · have hne : g < w.heap.size := blt hgg
      refine h _ _ (.inr ⟨g, off, cap, cur.setIfInBounds (off + l.length) (.int .i64 y), by simp, hPg, ?_, by simpa using hr, hc2, by simpa using hsz, fun j hj => ?_⟩) ⟨rfl, rfl, rfl, by simp [World.setCells], fun k hk hn => ?_⟩
      · show (w.setCell ⟨g, off + l.length * 1, none⟩ (.int .i64 y)).heap[g]? = _
        rw [Nat.mul_one]
        exact Go.Joins.block_setCell hgg _
      · rw [List.length_append, List.length_singleton] at hj
        by_cases hjl : j < l.length
        · rw [Array.getElem?_setIfInBounds_ne (by omega), hat j hjl]
          simp [List.getD, List.getElem?_append_left hjl]
        · obtain rfl : j = l.length := by omega
          rw [Array.getElem?_setIfInBounds_self_of_lt (by omega)]
          simp [List.getD]
      · refine Below.heap_setCell w ⟨g, off + l.length * 1, none⟩ (.int .i64 y) k ?_
        rintro rfl
        exact hn hPg
    · obtain ⟨k1, k2⟩ := grown _ v' w' (by simp) (fun j hj => by simp [List.getElem?_map, List.getD, hj]) hown hgr
      exact h v' w' k1 k2

theorem Part.form {P : Nat → Prop} {w : World} {v : Value} {l : List Int} (h : Part P w v l) : ∃ ao c, v = .slice ao l.length c := by
  rcases h with ⟨rfl, rfl⟩ | ⟨g, off, cap, cur, rfl, -⟩
  · exact ⟨none, 0, rfl⟩
  · exact ⟨_, cap, rfl⟩
theorem put_is (P : Nat → Prop) (qb : Nat) (l : List Int) (ab : Nat) (y : Int) (w : World) (hq : ¬ P qb) (hP : ∀ g, w.heap.size ≤ g → P g) (h : Que P w qb l) (hc : w.cell? ⟨ab, 0, none⟩ = some (.int .i64 y)) (hl : l.length < 10000) :
    Calls Tryz.prog 78 #[.pointer (some ⟨qb, 0, none⟩), .slice (some ⟨ab, 0, none⟩) 1 1] w fun e w' => e = .returned (.tuple #[]) ∧ Que P w' qb (l ++ [y]) ∧ Gro (fun k => k = qb ∨ P k) w w' := by
  obtain ⟨v, h1, h2⟩ := h.ex
  obtain ⟨ao, cp, rfl⟩ := h2.form
  have c0 : w.cell? ⟨qb, 0, none⟩ = some (.slice ao l.length cp) := Lib.cell_of_heap h1 0
  have H1 := hid h1
  have H2 := hid h2
  have HP := hid hP
  have HQ := hid hq
  clear h h1 h2 hP hq
  go_enter Tryz.func78, Tryz.ntmps78
  go_wp2_with (at_builtin; refine wpList_append_part _ rfl _ _ rfl P HP.out _ l rfl H2.out ab y 1 rfl hc hl ?_; intro v' w' k1 k2; obtain ⟨ao', cp', rfl⟩ := k1.form; have K1 := hid k1; have K2 := hid k2; have KB := hid (k2.at H1.out HQ.out); have c1 : w'.cell? ⟨qb, 0, none⟩ = some (.slice ao l.length cp) := Lib.cell_of_heap KB.out 0; have f1 : w'.frozen? ⟨qb, 0, none⟩ = false := Lib.frozen_of_heap KB.out 0; clear k1 k2)
  refine bodyPost_end (results_none rfl _ _ _) rfl ⟨rfl, Que.box KB.out HQ.out (by have := K1.out; simpa using this), ?_⟩
  exact (show Gro (fun k => k = qb ∨ P k) w w' from ⟨K2.out.os, K2.out.tape, K2.out.output, K2.out.size, fun k hk hn => K2.out.block k hk (fun hp => hn (.inr hp))⟩).trans ⟨rfl, rfl, rfl, by simp, fun k hk hn => Below.heap_setCell _ _ _ k (fun e => hn (.inl e))⟩
end Go.Proofs.YtdihbeffomibeaaGreatDoor
namespace Go.Proofs.YtdihbeffomibeaaGreatDoor
set_option linter.unusedVariables false
set_option linter.unusedSimpArgs false
open Go.RowKit

theorem first_hit (f : Nat → Bool) (t : Nat) : ∀ d, (∃ m, t ≤ m ∧ m < t + d ∧ f m = true ∧ ∀ k, t ≤ k → k < m → f k = false) ∨ (∀ k, t ≤ k → k < t + d → f k = false) := by
  intro d
  induction d with
  | zero => exact .inr fun k h1 h2 => by omega
  | succ d ih =>
    rcases ih with ⟨m, h1, h2, h3⟩ | h
    · exact .inl ⟨m, h1, by omega, h3⟩
    · cases hf : f (t + d) with
      | true => exact .inl ⟨t + d, by omega, by omega, hf, h⟩
      | false =>
        refine .inr fun k h1 h2 => ?_
        by_cases e : k = t + d
        · rw [e]; exact hf
        · exact h k h1 (by omega)
theorem lst_next (f : Nat → Bool) (n t j : Nat) (ht : t ≤ n) (h : lst f t = (lst f n).take j) (hj : j < (lst f n).length) :
    t ≤ (lst f n).getD j 0 ∧ (lst f n).getD j 0 < n ∧ f ((lst f n).getD j 0) = true ∧ (∀ k, t ≤ k → k < (lst f n).getD j 0 → f k = false) ∧ lst f ((lst f n).getD j 0 + 1) = (lst f n).take (j + 1) := by
  have hlen : (lst f t).length = j := by rw [h, List.length_take]; omega
  rcases first_hit f t (n - t) with ⟨m, h1, h2, h3, h4⟩ | h0
  · have hm : m < n := by omega
    have e1 := lst_step f t m h1 h3 h4
    obtain ⟨r, e2⟩ := lst_prefix f (m + 1) n (by omega)
    rw [e1] at e2
    have e3 : (lst f n).getD j 0 = m := by
      rw [e2, List.append_assoc]
      simp [List.getD, ← hlen]
    rw [e3]
    refine ⟨h1, hm, h3, h4, ?_⟩
    rw [e1, e2, List.append_assoc, ← hlen, List.take_length_add_append]
    simp
  · have := lst_gap f t n ht (fun k k1 k2 => h0 k k1 (by omega))
    rw [this] at hj
    omega
theorem lst_end (f : Nat → Bool) (n t j : Nat) (ht : t ≤ n) (h : lst f t = (lst f n).take j) (hj : ¬ j < (lst f n).length) : ∀ k, t ≤ k → k < n → f k = false := by
  rcases first_hit f t (n - t) with ⟨m, h1, h2, h3, h4⟩ | h0
  · exfalso
    have e1 := lst_step f t m h1 h3 h4
    obtain ⟨r, e2⟩ := lst_prefix f (m + 1) n (by omega)
    rw [List.take_of_length_le (by omega)] at h
    rw [e1, ← h] at e2
    have := congrArg List.length e2
    simp at this
  · exact fun k k1 k2 => h0 k k1 (by omega)

/-- The blocks of the queue: behind HQ, but not o. -/
def QP (HQ o : Nat) : Nat → Prop := fun g => HQ ≤ g ∧ g ≠ o
/-- The search: what was reached, from where, and the queue. -/
structure Fol (HQ o : Nat) (w : World) (n rb sb cb nb tb qb : Nat) (cd bf : Nat → Nat) (l : List Int) : Prop where
  set : Is w sb n cb (fun v => decide (cd v ≠ 0))
  bef : ∃ cur : Array Value, w.heap[nb]? = some (.cells cur 3) ∧ cur.size = n ∧ ∀ v, v < n → cur[v]? = some (.int .i64 (bf v))
  box : w.heap[tb]? = some (.cells #[.pointer (some ⟨sb, 0, none⟩), .slice (some ⟨nb, 0, none⟩) n n] 102)
  que : Que (QP HQ o) w qb l
  res : w.heap[rb]? = some (.cells #[.pointer none, .slice none 0 0] 102)
  lo : sb < HQ ∧ cb < HQ ∧ nb < HQ ∧ tb < HQ ∧ qb < HQ ∧ rb < HQ
  here : HQ ≤ w.heap.size
theorem Fol.later {HQ o : Nat} {w w' : World} {n rb sb cb nb tb qb : Nat} {cd bf : Nat → Nat} {l : List Int} (h : Fol HQ o w n rb sb cb nb tb qb cd bf l) (hb : Below w.heap.size w w') : Fol HQ o w' n rb sb cb nb tb qb cd bf l := by
  obtain ⟨cur, h1, h2⟩ := h.bef
  exact ⟨h.set.later hb, ⟨cur, (hb.block nb (blt h1)).trans h1, h2⟩, (hb.block tb (blt h.box)).trans h.box, h.que.later hb, (hb.block rb (blt h.res)).trans h.res, h.lo, Nat.le_trans h.here hb.size⟩
/-- Another list may lie where the queue has no block. -/
theorem Fol.other {HQ o o' : Nat} {w : World} {n rb sb cb nb tb qb : Nat} {cd bf : Nat → Nat} {l : List Int} (h : Fol HQ o w n rb sb cb nb tb qb cd bf l) (ho : w.heap.size ≤ o' ∨ o' < HQ) : Fol HQ o' w n rb sb cb nb tb qb cd bf l :=
  { h with que := h.que.mono fun k hk hp => ⟨hp.1, by have := hp.1; omega⟩ }
theorem Fol.reach {HQ o : Nat} {w w1 : World} {n rb sb cb nb tb qb : Nat} {cd bf : Nat → Nat} {l : List Int} (h : Fol HQ o w n rb sb cb nb tb qb cd bf l) (m u c : Nat) (hm : m < n) (hc : c ≠ 0)
    (hs : Is w1 sb n cb (fun k => k == m || decide (cd k ≠ 0))) (hb : Beside cb w w1) : Fol HQ o (w1.setCell ⟨nb, m, none⟩ (.int .i64 u)) n rb sb cb nb tb qb (fun v => if v = m then c else cd v) (fun v => if v = m then u else bf v) l := by
  obtain ⟨cur, h1, h2, h3⟩ := h.bef
  obtain ⟨ws, s1, s2⟩ := h.set.ex
  obtain ⟨ws1, t1, t2⟩ := hs.ex
  have n1 : w1.heap[nb]? = some (.cells cur 3) := (hb.block nb (blt h1) (tags h1 s1.row (by decide))).trans h1
  have b1 : w1.heap[tb]? = some (.cells #[.pointer (some ⟨sb, 0, none⟩), .slice (some ⟨nb, 0, none⟩) n n] 102) := (hb.block tb (blt h.box) (tags h.box s1.row (by decide))).trans h.box
  have r1 : w1.heap[rb]? = some (.cells #[.pointer none, .slice none 0 0] 102) := (hb.block rb (blt h.res) (tags h.res s1.row (by decide))).trans h.res
  obtain ⟨a1, a2, a3, a4, a5, a6⟩ := h.lo
  have q1 : Que (QP HQ o) w1 qb l := h.que.gro (Q := fun k => k = cb) ⟨hb.os, hb.tape, hb.output, hb.size, hb.block⟩ (fun k hk e => by have := hk.1; omega) (by
    rintro e
    obtain ⟨v, q, _⟩ := h.que.ex
    exact tags q s1.row (by decide) e)
  have hg : Gro (fun k => k = nb) w1 (w1.setCell ⟨nb, m, none⟩ (.int .i64 u)) := gro_set w1 ⟨nb, m, none⟩ _
  refine ⟨?_, ⟨cur.setIfInBounds m (.int .i64 u), Go.Joins.block_setCell n1 _, by simpa using h2, fun v hv => ?_⟩, hg.at b1 (tags b1 n1 (by decide)), q1.gro hg (fun k hk e => by have := hk.1; omega) ?_, hg.at r1 (tags r1 n1 (by decide)), h.lo, ?_⟩
  · have hs2 : Is (w1.setCell ⟨nb, m, none⟩ (.int .i64 u)) sb n cb (fun k => k == m || decide (cd k ≠ 0)) := ⟨⟨ws1, ⟨hg.at t1.box (tags t1.box n1 (by decide)), hg.at t1.row (tags t1.row n1 (by decide)), t1.len, t1.small, t1.bound⟩, t2⟩, hs.top⟩
    refine hs2.congr (fun v => ?_)
    by_cases e : v = m
    · simp [e, hc]
    · simp [e]
  · by_cases e : v = m
    · subst e
      rw [Array.getElem?_setIfInBounds_self_of_lt (by omega), if_pos rfl]
    · rw [Array.getElem?_setIfInBounds_ne (fun e' => e e'.symm), h3 v hv, if_neg e]
  · rintro e
    obtain ⟨v, q, _⟩ := q1.ex
    exact tags q n1 (by decide) e
  · show HQ ≤ (w1.setCell ⟨nb, m, none⟩ (.int .i64 u)).heap.size
    rw [World.size_setCell]
    exact Nat.le_trans h.here hb.size
theorem Fol.put {HQ o : Nat} {w w1 : World} {n rb sb cb nb tb qb : Nat} {cd bf : Nat → Nat} {l l' : List Int} (h : Fol HQ o w n rb sb cb nb tb qb cd bf l) (hq : Que (QP HQ o) w1 qb l') (hg : Gro (fun k => k = qb ∨ QP HQ o k) w w1) : Fol HQ o w1 n rb sb cb nb tb qb cd bf l' := by
  obtain ⟨cur, h1, h2, h3⟩ := h.bef
  obtain ⟨ws, s1, s2⟩ := h.set.ex
  obtain ⟨a1, a2, a3, a4, a5, a6⟩ := h.lo
  obtain ⟨v, q, _⟩ := h.que.ex
  have far : ∀ {x : Nat} {cs : Array Value} {t : TypeId}, w.heap[x]? = some (.cells cs t) → x < HQ → t ≠ 124 → w1.heap[x]? = some (.cells cs t) := fun hx hl ht => hg.at hx (by
    rintro (e | e)
    · exact tags hx q ht e
    · have := e.1; omega)
  exact ⟨⟨⟨ws, ⟨far s1.box a1 (by decide), far s1.row a2 (by decide), s1.len, s1.small, s1.bound⟩, s2⟩, h.set.top⟩, ⟨cur, far h1 a3 (by decide), h2, h3⟩, far h.box a4 (by decide), hq, far h.res a6 (by decide), h.lo, Nat.le_trans h.here hg.size⟩

/-- A list of ints that was handed out, in block o. -/
def RowO (HQ : Nat) (w : World) (ao : Option Addr) (o : Nat) (l : List Nat) : Prop := ∀ j, j < l.length → ao = some ⟨o, 0, none⟩ ∧ HQ ≤ o ∧ ∃ cur, w.heap[o]? = some (.cells cur 3) ∧ cur[j]? = some (.int .i64 (l.getD j 0))
theorem RowO.keep {HQ : Nat} {w w' : World} {ao : Option Addr} {o : Nat} {l : List Nat} (h : RowO HQ w ao o l) (hk : HQ ≤ o → ∀ cs, w.heap[o]? = some (.cells cs 3) → w'.heap[o]? = some (.cells cs 3)) : RowO HQ w' ao o l := by
  intro j hj
  obtain ⟨h1, h2, cur, h3, h4⟩ := h j hj
  exact ⟨h1, h2, cur, hk h2 cur h3, h4⟩
theorem Ints.rowO {B HQ : Nat} {w : World} {v : Value} {l : List Nat} (h : Ints B w v l) (hB : HQ ≤ B) : ∃ ao cap o, v = .slice ao l.length cap ∧ RowO HQ w ao o l ∧ (B ≤ o ∨ o = 0) := by
  rcases h.2 with ⟨rfl, hn⟩ | ⟨g, cap, cur, hv, hb, hg, h1, h2, h3, h4⟩
  · exact ⟨none, 0, 0, by rw [hn], fun j hj => by omega, .inr rfl⟩
  · refine ⟨_, cap, g, hv, fun j hj => ⟨rfl, by omega, cur, hg, ?_⟩, .inl hb⟩
    have e : cur.toList[j]? = (cur.toList.take (l.length * 1))[j]? := by rw [List.getElem?_take, if_pos (by omega)]
    rw [← Array.getElem?_toList, e, h4]
    simp [intsV, List.getElem?_map, List.getD, hj]
theorem cnt_put (cd : Nat → Nat) (m c : Nat) (hc : c ≠ 0) (h0 : cd m = 0) : ∀ n, Pop.cnt (fun v => decide ((if v = m then c else cd v) = 0)) n + (if m < n then 1 else 0) = Pop.cnt (fun v => decide (cd v = 0)) n := by
  intro n
  induction n with
  | zero => simp [Pop.cnt]
  | succ n ih =>
    simp only [Pop.cnt]
    by_cases e : n = m
    · subst e
      rw [if_neg (by omega)] at ih
      rw [← ih]
      simp [hc, h0]
    · rw [if_neg e]
      by_cases hm : m < n
      · rw [if_pos hm] at ih
        rw [if_pos (by omega), ← ih]
        omega
      · rw [if_neg hm] at ih
        rw [if_neg (by omega), ← ih]
        omega
theorem fol_start (w1 : World) (n rb sb cb : Nat) (s : Int) (hS : Is w1 sb n cb (fun _ => false)) (hr : w1.heap[rb]? = some (.cells #[.pointer none, .slice none 0 0] 102)) :
    Fol (w1.heap.size + 3) 0 ((((w1.alloc (.cells (Array.replicate n (.int .i64 0)) 3)).alloc (.cells #[.pointer (some ⟨sb, 0, none⟩), .slice (some ⟨w1.heap.size, 0, none⟩) n n] 102)).alloc (.cells #[.slice none 0 0] 124)).alloc (.cells #[.int .i64 s] 3)) n rb sb cb w1.heap.size (w1.heap.size + 1) (w1.heap.size + 1 + 1) (fun _ => 0) (fun _ => 0) [] := by
  obtain ⟨ws, s1, s2⟩ := hS.ex
  have l1 := blt s1.box
  have l2 := blt s1.row
  have l3 := blt hr
  have b1 : Below w1.heap.size w1 ((((w1.alloc (.cells (Array.replicate n (.int .i64 0)) 3)).alloc (.cells #[.pointer (some ⟨sb, 0, none⟩), .slice (some ⟨w1.heap.size, 0, none⟩) n n] 102)).alloc (.cells #[.slice none 0 0] 124)).alloc (.cells #[.int .i64 s] 3)) :=
    ((((Below.refl _ _).alloc (Nat.le_refl _) _).alloc (by simp) _).alloc (by simp; omega) _).alloc (by simp; omega) _
  have st : ∀ (W : World) (x : Nat) (o : Obj) (cs : Array Value) (t : TypeId), W.heap[x]? = some (.cells cs t) → (W.alloc o).heap[x]? = some (.cells cs t) := fun W x o cs t hx => ((below_box W o).block x (blt hx)).trans hx
  refine ⟨(hS.later b1).congr (fun _ => by simp), ⟨_, st _ _ _ _ _ (st _ _ _ _ _ (st _ _ _ _ _ (heap_alloc_new w1 _))), by simp, fun v hv => by simp [hv]⟩, st _ _ _ _ _ (st _ _ _ _ _ ?_), ⟨_, st _ _ _ _ _ ?_, .inl ⟨rfl, rfl⟩⟩, (b1.block rb l3).trans hr, by omega, by simp⟩
  · have := heap_alloc_new (w1.alloc (.cells (Array.replicate n (.int .i64 0)) 3)) (.cells #[.pointer (some ⟨sb, 0, none⟩), .slice (some ⟨w1.heap.size, 0, none⟩) n n] 102)
    rw [World.size_alloc] at this
    exact this
  · have := heap_alloc_new ((w1.alloc (.cells (Array.replicate n (.int .i64 0)) 3)).alloc (.cells #[.pointer (some ⟨sb, 0, none⟩), .slice (some ⟨w1.heap.size, 0, none⟩) n n] 102)) (.cells #[.slice none 0 0] 124)
    rw [World.size_alloc, World.size_alloc] at this
    exact this
end Go.Proofs.YtdihbeffomibeaaGreatDoor
