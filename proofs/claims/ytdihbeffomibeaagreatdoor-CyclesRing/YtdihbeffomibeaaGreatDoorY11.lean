/-
  Plain: the search for strong components (Tarjan's), what it knows while it goes, and that what it finds are the components.
  Plain: how many stops, open nodes and components there can be; where an open node stands.
-/
import Derived.Test.YtdihbeffomibeaaGreatDoorY10
namespace Go.Proofs.YtdihbeffomibeaaGreatDoor
set_option linter.unusedVariables false
set_option linter.unusedSimpArgs false

/-- v is reached from u, by no edge or more. -/
def Rs (E : Nat → Nat → Bool) (n u v : Nat) : Prop := ∃ r, Wl E n u r v
theorem Rs.refl (E : Nat → Nat → Bool) (n u : Nat) : Rs E n u u := ⟨[], rfl⟩
theorem Wl.join {E : Nat → Nat → Bool} {n v t : Nat} {q : List Nat} (h2 : Wl E n v q t) : ∀ {r : List Nat} {s : Nat}, Wl E n s r v → Wl E n s (r ++ q) t
  | [], s, h => by cases h; exact h2
  | m :: r, s, h => ⟨h.1, h.2.1, Wl.join h2 h.2.2⟩
theorem Rs.trans {E : Nat → Nat → Bool} {n u v t : Nat} (h1 : Rs E n u v) (h2 : Rs E n v t) : Rs E n u t := by
  obtain ⟨r, hr⟩ := h1
  obtain ⟨q, hq⟩ := h2
  exact ⟨r ++ q, hq.join hr⟩
theorem Rs.edge {E : Nat → Nat → Bool} {n u v : Nat} (h : E u v = true) (hv : v < n) : Rs E n u v := ⟨[v], h, hv, rfl⟩
/-- What is closed under edges is not left. -/
theorem Rs.stay {E : Nat → Nat → Bool} {n : Nat} {Q : Nat → Prop} (hQ : ∀ x y, Q x → y < n → E x y = true → Q y) {u v : Nat} (h : Rs E n u v) (hu : Q u) : Q v := by
  obtain ⟨r, hr⟩ := h
  induction r generalizing u with
  | nil => cases hr; exact hu
  | cons m r ih => exact ih (hQ u m hu hr.2.1 hr.1) hr.2.2

/-- The number of a node whose component is known. -/
def KK : Nat := 9223372036854775807
/-- A component: its nodes, rising. -/
def IsComp (E : Nat → Nat → Bool) (n : Nat) (c : List Nat) : Prop := c.Pairwise (· < ·) ∧ ∃ u, u < n ∧ ∀ v, v ∈ c ↔ v < n ∧ Rs E n u v ∧ Rs E n v u

/-- What the search knows. -/
structure Tj (E : Nat → Nat → Bool) (n come : Nat) (num low : Nat → Nat) (way : List (Nat × List Nat)) (opn : List Nat) (fnd : List (List Nat)) : Prop where
  small : n < KK
  cnt : come + Pop.cnt (fun v => num v == 0) n = n
  cases : ∀ v, v < n → (num v = 0 ∧ low v = 0 ∧ v ∉ opn) ∨ (v ∈ opn ∧ 1 ≤ low v ∧ low v ≤ num v ∧ num v ≤ come) ∨ (num v = KK ∧ low v = KK ∧ v ∉ opn)
  lt : ∀ v ∈ opn, v < n
  sorted : opn.Pairwise (fun a b => num a < num b)
  wayIn : ∀ p ∈ way, p.1 ∈ opn
  waySorted : way.Pairwise (fun a b => num a.1 < num b.1)
  first : ∀ x ∈ opn, ∃ p ∈ way, num p.1 ≤ num x
  link : ∀ A a b B, way = A ++ a :: b :: B → a.2.head? = some b.1
  rest : ∀ p ∈ way, ∃ q, lst (E p.1) n = q ++ p.2 ∧ ∀ y ∈ q, num y = KK ∨ (y ∈ opn ∧ low p.1 ≤ num y)
  lowTo : ∀ x ∈ opn, ∃ y ∈ opn, num y = low x ∧ Rs E n x y
  off : ∀ x ∈ opn, (∀ p ∈ way, p.1 ≠ x) → low x < num x ∧ ∀ y, y < n → E x y = true → num y = KK ∨ (y ∈ opn ∧ low x ≤ num y)
  tree : ∀ p ∈ way, ∀ x ∈ opn, num p.1 ≤ num x → Rs E n p.1 x
  sub : ∀ x ∈ opn, (∀ p ∈ way, p.1 ≠ x) → ∀ p ∈ way, num p.1 < num x → (∀ q ∈ way, num q.1 < num x → num q.1 ≤ num p.1) → low p.1 ≤ low x ∨ ∃ h, p.2.head? = some h ∧ h ∈ opn ∧ num h ≤ num x ∧ low h ≤ low x
  clo : ∀ v y, v < n → y < n → num v = KK → E v y = true → num y = KK
  comp : ∀ c ∈ fnd, IsComp E n c
  has : ∀ v, v < n → (num v = KK ↔ ∃ c ∈ fnd, v ∈ c)
  dis : fnd.Pairwise (fun c d => ∀ x ∈ c, x ∉ d)

/-- A function with one value anew. -/
def updN (f : Nat → Nat) (v x : Nat) (k : Nat) : Nat := if k = v then x else f k
theorem updN_self (f : Nat → Nat) (v x : Nat) : updN f v x v = x := if_pos rfl
theorem updN_ne (f : Nat → Nat) (v x k : Nat) (h : k ≠ v) : updN f v x k = f k := if_neg h
theorem cnt_updN (num : Nat → Nat) (v x : Nat) (hx : x ≠ 0) : ∀ n, Pop.cnt (fun k => updN num v x k == 0) n + (if v < n ∧ num v = 0 then 1 else 0) = Pop.cnt (fun k => num k == 0) n
  | 0 => by simp [Pop.cnt]
  | n + 1 => by
    have ih := cnt_updN num v x hx n
    simp only [Pop.cnt]
    by_cases e : n = v
    · subst e
      rw [if_neg (by omega)] at ih
      rw [updN_self, show (x == 0) = false by simpa using hx]
      by_cases h0 : num n = 0
      · rw [if_pos ⟨by omega, h0⟩, h0]
        simp
        omega
      · rw [if_neg (fun c => h0 c.2), show (num n == 0) = false by simpa using h0]
        simp
        omega
    · rw [updN_ne num v x n e]
      by_cases h1 : v < n ∧ num v = 0
      · rw [if_pos h1] at ih
        rw [if_pos ⟨by omega, h1.2⟩]
        omega
      · rw [if_neg h1] at ih
        rw [if_neg (fun c => h1 ⟨by omega, c.2⟩)]
        omega

section
variable {E : Nat → Nat → Bool} {n come : Nat} {num low : Nat → Nat} {way A : List (Nat × List Nat)} {opn : List Nat} {fnd : List (List Nat)}

theorem Tj.start (E : Nat → Nat → Bool) (n : Nat) (hn : n < KK) : Tj E n 0 (fun _ => 0) (fun _ => 0) [] [] [] := by
  have hc : ∀ m, Pop.cnt (fun v => (fun _ : Nat => 0) v == 0) m = m := fun m => by
    induction m with
    | zero => rfl
    | succ m ih => simp only [Pop.cnt] at ih ⊢; rw [ih]; rfl
  refine ⟨hn, by rw [hc]; omega, fun v _ => .inl ⟨rfl, rfl, by simp⟩, by simp, by simp, by simp, by simp, by simp, ?_, by simp, by simp, by simp, by simp, by simp, ?_, by simp, ?_, by simp⟩
  · intro A a b B h
    cases A <;> cases h
  · intro v y _ _ h
    exact absurd h (by unfold KK; omega)
  · intro v hv
    simp [KK]

theorem Tj.known (h : Tj E n come num low way opn fnd) {v : Nat} (hv : v ∈ opn) : 1 ≤ low v ∧ low v ≤ num v ∧ num v ≤ come := by
  rcases h.cases v (h.lt v hv) with h1 | h1 | h1
  · exact absurd hv h1.2.2
  · exact h1.2
  · exact absurd hv h1.2.2
theorem Tj.come_le (h : Tj E n come num low way opn fnd) : come ≤ n := by have := h.cnt; omega
theorem Tj.come_lt (h : Tj E n come num low way opn fnd) {v : Nat} (hv : v < n) (h0 : num v = 0) : come < n := by
  have h1 := h.cnt
  have h2 := cnt_updN num v 1 (by omega) n
  rw [if_pos ⟨hv, h0⟩] at h2
  omega
theorem Tj.openNe (h : Tj E n come num low way opn fnd) {v : Nat} (hv : v ∈ opn) : num v ≠ KK := by
  have h1 := h.known hv
  have h2 := h.come_le
  have h3 := h.small
  omega
/-- Two that are open and have one number are one. -/
theorem pair_inj {α : Type} {f : α → Nat} : ∀ {l : List α}, l.Pairwise (fun a b => f a < f b) → ∀ {x y : α}, x ∈ l → y ∈ l → f x = f y → x = y
  | [], _, x, y, hx, _, _ => by cases hx
  | a :: l, h, x, y, hx, hy, e => by
    obtain ⟨h1, h2⟩ := List.pairwise_cons.1 h
    rcases List.mem_cons.1 hx with e1 | hx1 <;> rcases List.mem_cons.1 hy with e2 | hy1
    · rw [e1, e2]
    · have := h1 y hy1; rw [e1] at e; omega
    · have := h1 x hx1; rw [e2] at e; omega
    · exact pair_inj h2 hx1 hy1 e
theorem Tj.inj (h : Tj E n come num low way opn fnd) {x y : Nat} (hx : x ∈ opn) (hy : y ∈ opn) (e : num x = num y) : x = y := pair_inj h.sorted hx hy e

/-- A new node is come to. -/
theorem Tj.enter (h : Tj E n come num low way opn fnd) {v : Nat} (hv : v < n) (h0 : num v = 0) (hw : way = [] ∨ ∃ A u t, way = A ++ [(u, v :: t)]) :
    Tj E n (come + 1) (updN num v (come + 1)) (updN low v (come + 1)) (way ++ [(v, lst (E v) n)]) (opn ++ [v]) fnd := by
  have hlt := h.come_lt hv h0
  have hs := h.small
  have hno : v ∉ opn := fun c => by have := h.known c; omega
  have hne : ∀ x, x ∈ opn → x ≠ v := fun x hx e => hno (e ▸ hx)
  have hnv : ∀ x, x ∈ opn → updN num v (come + 1) x = num x ∧ updN low v (come + 1) x = low x := fun x hx => ⟨updN_ne _ _ _ _ (hne x hx), updN_ne _ _ _ _ (hne x hx)⟩
  have hkn : ∀ y, num y = KK → updN num v (come + 1) y = KK := fun y hy => by rw [updN_ne _ _ _ _ (fun e => by rw [e, h0] at hy; unfold KK at hy; omega)]; exact hy
  have hKI : ∀ y, y < n → updN num v (come + 1) y = KK → num y = KK := fun y hy e => by
    by_cases c : y = v
    · rw [c, updN_self] at e; omega
    · rwa [updN_ne _ _ _ _ c] at e
  have hwn : ∀ p ∈ way, p.1 ≠ v := fun p hp => hne _ (h.wayIn p hp)
  have hce : ∀ x, x ∈ opn → num x ≤ come := fun x hx => (h.known hx).2.2
  refine ⟨hs, ?_, ?_, ?_, ?_, ?_, ?_, ?_, ?_, ?_, ?_, ?_, ?_, ?_, ?_, h.comp, ?_, h.dis⟩
  · have h1 := h.cnt
    have h2 := cnt_updN num v (come + 1) (by omega) n
    rw [if_pos ⟨hv, h0⟩] at h2
    omega
  · intro x hx
    by_cases e : x = v
    · subst e
      rw [updN_self, updN_self]
      exact .inr (.inl ⟨by simp, by omega, by omega, by omega⟩)
    · rw [updN_ne _ _ _ _ e, updN_ne _ _ _ _ e]
      rcases h.cases x hx with h1 | h1 | h1
      · exact .inl ⟨h1.1, h1.2.1, by simp [h1.2.2, e]⟩
      · exact .inr (.inl ⟨by simp [h1.1], h1.2.1, h1.2.2.1, by omega⟩)
      · exact .inr (.inr ⟨h1.1, h1.2.1, by simp [h1.2.2, e]⟩)
  · intro x hx
    rcases List.mem_append.1 hx with hx | hx
    · exact h.lt x hx
    · obtain rfl : x = v := by simpa using hx
      exact hv
  · rw [List.pairwise_append]
    refine ⟨?_, by simp, ?_⟩
    · exact h.sorted.imp_of_mem (fun {a b} ha hb hab => by rw [(hnv a ha).1, (hnv b hb).1]; exact hab)
    · intro a ha b hb
      obtain rfl : b = v := by simpa using hb
      rw [(hnv a ha).1, updN_self]
      have := hce a ha
      omega
  · intro p hp
    rcases List.mem_append.1 hp with hp | hp
    · exact List.mem_append_left _ (h.wayIn p hp)
    · obtain rfl : p = (v, lst (E v) n) := by simpa using hp
      simp
  · rw [List.pairwise_append]
    refine ⟨?_, by simp, ?_⟩
    · exact h.waySorted.imp_of_mem (fun {a b} ha hb hab => by rw [(hnv _ (h.wayIn a ha)).1, (hnv _ (h.wayIn b hb)).1]; exact hab)
    · intro a ha b hb
      obtain rfl : b = (v, lst (E v) n) := by simpa using hb
      rw [(hnv _ (h.wayIn a ha)).1, updN_self]
      have := hce _ (h.wayIn a ha)
      omega
  · intro x hx
    rcases List.mem_append.1 hx with hx | hx
    · obtain ⟨p, hp, hpx⟩ := h.first x hx
      exact ⟨p, List.mem_append_left _ hp, by rw [(hnv _ (h.wayIn p hp)).1, (hnv x hx).1]; exact hpx⟩
    · obtain rfl : x = v := by simpa using hx
      exact ⟨(x, lst (E x) n), by simp, Nat.le_refl _⟩
  · intro A a b B e
    rcases List.eq_nil_or_concat B with rfl | ⟨B', z, rfl⟩
    · have e' : way ++ [(v, lst (E v) n)] = (A ++ [a]) ++ [b] := by rw [e]; simp
      obtain ⟨e1, e2⟩ := List.append_inj' e' rfl
      obtain rfl : (v, lst (E v) n) = b := by simpa using e2
      rcases hw with rfl | ⟨A2, u, t, rfl⟩
      · cases A <;> cases e1
      · obtain ⟨_, e4⟩ := List.append_inj' e1 rfl
        obtain rfl : (u, v :: t) = a := by simpa using e4
        rfl
    · have e' : way ++ [(v, lst (E v) n)] = (A ++ a :: b :: B') ++ [z] := by rw [e]; simp
      exact h.link A a b B' (List.append_inj' e' rfl).1
  · intro p hp
    rcases List.mem_append.1 hp with hp | hp
    · obtain ⟨q, hq, hy⟩ := h.rest p hp
      refine ⟨q, hq, fun y hyq => ?_⟩
      rcases hy y hyq with h1 | h1
      · exact .inl (hkn y h1)
      · exact .inr ⟨List.mem_append_left _ h1.1, by rw [(hnv _ (h.wayIn p hp)).2, (hnv y h1.1).1]; exact h1.2⟩
    · obtain rfl : p = (v, lst (E v) n) := by simpa using hp
      exact ⟨[], rfl, fun y hy => by cases hy⟩
  · intro x hx
    rcases List.mem_append.1 hx with hx | hx
    · obtain ⟨y, hy, h1, h2⟩ := h.lowTo x hx
      exact ⟨y, List.mem_append_left _ hy, by rw [(hnv y hy).1, (hnv x hx).2]; exact h1, h2⟩
    · obtain rfl : x = v := by simpa using hx
      exact ⟨x, by simp, by rw [updN_self, updN_self], Rs.refl _ _ _⟩
  · intro x hx hoff
    rcases List.mem_append.1 hx with hx | hx
    · obtain ⟨h1, h2⟩ := h.off x hx (fun p hp => hoff p (List.mem_append_left _ hp))
      refine ⟨by rw [(hnv x hx).1, (hnv x hx).2]; exact h1, fun y hy he => ?_⟩
      rcases h2 y hy he with h3 | h3
      · exact .inl (hkn y h3)
      · exact .inr ⟨List.mem_append_left _ h3.1, by rw [(hnv y h3.1).1, (hnv x hx).2]; exact h3.2⟩
    · obtain rfl : x = v := by simpa using hx
      exact absurd rfl (hoff (x, lst (E x) n) (by simp))
  · intro p hp0 x hx hle
    rcases List.mem_append.1 hp0 with hp | hp
    · rcases List.mem_append.1 hx with hx | hx
      · rw [(hnv _ (h.wayIn p hp)).1, (hnv x hx).1] at hle
        exact h.tree p hp x hx hle
      · obtain rfl : x = v := by simpa using hx
        rcases hw with hw | ⟨A2, u, t, rfl⟩
        · rw [hw] at hp
          exact absurd hp (by simp)
        · have hu : (u, x :: t) ∈ A2 ++ [(u, x :: t)] := by simp
          obtain ⟨q, hq, _⟩ := h.rest _ hu
          have hxm : x ∈ lst (E u) n := by rw [hq]; simp
          have hpu : num p.1 ≤ num u := by
            rcases List.mem_append.1 hp with hp2 | hp2
            · have := (List.pairwise_append.1 h.waySorted).2.2 p hp2 (u, x :: t) (by simp)
              exact Nat.le_of_lt this
            · obtain rfl : p = (u, x :: t) := by simpa using hp2
              exact Nat.le_refl _
          exact (h.tree p hp u (h.wayIn _ hu) hpu).trans (Rs.edge (mem_lst.1 hxm).2 hv)
    · obtain rfl : p = (v, lst (E v) n) := by simpa using hp
      rcases List.mem_append.1 hx with hx | hx
      · rw [(hnv x hx).1, updN_self] at hle
        have := hce x hx
        omega
      · obtain rfl : x = v := by simpa using hx
        exact Rs.refl _ _ _
  · intro x hx hoff p hp hlt' hmax
    rcases List.mem_append.1 hx with hx | hx
    · rcases List.mem_append.1 hp with hp | hp
      · rw [(hnv _ (h.wayIn p hp)).1, (hnv x hx).1] at hlt'
        have := h.sub x hx (fun p hp => hoff p (List.mem_append_left _ hp)) p hp hlt' (fun q hq hql => by
          have := hmax q (List.mem_append_left _ hq) (by rw [(hnv _ (h.wayIn q hq)).1, (hnv x hx).1]; exact hql)
          rwa [(hnv _ (h.wayIn q hq)).1, (hnv _ (h.wayIn p hp)).1] at this)
        rw [(hnv _ (h.wayIn p hp)).2, (hnv x hx).2, (hnv x hx).1]
        rcases this with h1 | ⟨g, g1, g2, g3, g4⟩
        · exact .inl h1
        · exact .inr ⟨g, g1, List.mem_append_left _ g2, by rw [(hnv g g2).1]; exact g3, by rw [(hnv g g2).2]; exact g4⟩
      · obtain rfl : p = (v, lst (E v) n) := by simpa using hp
        rw [(hnv x hx).1, updN_self] at hlt'
        have := hce x hx
        omega
    · obtain rfl : x = v := by simpa using hx
      exact absurd rfl (hoff (x, lst (E x) n) (by simp))
  · intro x y hx hy hxk he
    exact hkn y (h.clo x y hx hy (hKI x hx hxk) he)
  · intro x hx
    rw [← h.has x hx]
    exact ⟨hKI x hx, hkn x⟩

/-- An edge of the last node leads to one that is known. -/
theorem Tj.lower {u to' : Nat} {t : List Nat} (h : Tj E n come num low (A ++ [(u, to' :: t)]) opn fnd) (hk : num to' ≠ 0) :
    Tj E n come num (updN low u (min (low u) (low to'))) (A ++ [(u, t)]) opn fnd := by
  have hum : (u, to' :: t) ∈ A ++ [(u, to' :: t)] := by simp
  have huo : u ∈ opn := h.wayIn _ hum
  obtain ⟨q, hq, hqy⟩ : ∃ q, lst (E u) n = q ++ (to' :: t) ∧ ∀ y ∈ q, num y = KK ∨ (y ∈ opn ∧ low u ≤ num y) := h.rest _ hum
  have hto : to' ∈ lst (E u) n := by rw [hq]; simp
  have htn := (mem_lst.1 hto).1
  have hte := (mem_lst.1 hto).2
  have hku := h.known huo
  have hcl := h.come_le
  have hsm := h.small
  have hA : ∀ p ∈ A, num p.1 < num u := fun p hp => (List.pairwise_append.1 h.waySorted).2.2 p hp (u, to' :: t) (by simp)
  have hAu : ∀ p ∈ A, p.1 ≠ u := fun p hp e => by have := hA p hp; rw [e] at this; omega
  have hle : ∀ x, updN low u (min (low u) (low to')) x ≤ low x := fun x => by
    by_cases e : x = u
    · rw [e, updN_self]; exact Nat.min_le_left _ _
    · rw [updN_ne _ _ _ _ e]; exact Nat.le_refl _
  have hin : ∀ p, p ∈ A ++ [(u, t)] → p ∈ A ∨ p = (u, t) := fun p hp => by simpa using hp
  have hway : ∀ x, (∀ p ∈ A ++ [(u, t)], p.1 ≠ x) → ∀ p ∈ A ++ [(u, to' :: t)], p.1 ≠ x := fun x hx p hp => by
    rcases List.mem_append.1 hp with hp | hp
    · exact hx p (List.mem_append_left _ hp)
    · obtain rfl : p = (u, to' :: t) := by simpa using hp
      exact hx (u, t) (by simp)
  have hcase : (num to' = KK ∧ low to' = KK) ∨ (to' ∈ opn ∧ 1 ≤ low to' ∧ low to' ≤ num to' ∧ num to' ≤ come) := by
    rcases h.cases to' htn with h1 | h1 | h1
    · exact absurd h1.1 hk
    · exact .inr h1
    · exact .inl ⟨h1.1, h1.2.1⟩
  refine ⟨hsm, h.cnt, ?_, h.lt, h.sorted, ?_, ?_, ?_, ?_, ?_, ?_, ?_, ?_, ?_, h.clo, h.comp, h.has, h.dis⟩
  · intro x hx
    by_cases e : x = u
    · subst e
      rw [updN_self]
      refine .inr (.inl ⟨huo, ?_, Nat.le_trans (Nat.min_le_left _ _) hku.2.1, hku.2.2⟩)
      rcases hcase with h1 | h1
      · rw [h1.2]; omega
      · omega
    · rw [updN_ne _ _ _ _ e]
      exact h.cases x hx
  · intro p hp
    rcases hin p hp with hp | rfl
    · exact h.wayIn p (List.mem_append_left _ hp)
    · exact huo
  · have h1 := List.pairwise_append.1 h.waySorted
    rw [List.pairwise_append]
    refine ⟨h1.1, by simp, fun a ha b hb => ?_⟩
    obtain rfl : b = (u, t) := by simpa using hb
    exact hA a ha
  · intro x hx
    obtain ⟨p, hp, hpx⟩ := h.first x hx
    rcases List.mem_append.1 hp with hp | hp
    · exact ⟨p, List.mem_append_left _ hp, hpx⟩
    · obtain rfl : p = (u, to' :: t) := by simpa using hp
      exact ⟨(u, t), by simp, hpx⟩
  · intro A' a b B e
    rcases List.eq_nil_or_concat B with rfl | ⟨B', z, rfl⟩
    · have e' : A ++ [(u, t)] = (A' ++ [a]) ++ [b] := by rw [e]; simp
      obtain ⟨e1, e2⟩ := List.append_inj' e' rfl
      obtain rfl : (u, t) = b := by simpa using e2
      exact h.link A' a (u, to' :: t) [] (by rw [e1]; simp)
    · have e' : A ++ [(u, t)] = (A' ++ a :: b :: B') ++ [z] := by rw [e]; simp
      obtain ⟨e1, e2⟩ := List.append_inj' e' rfl
      exact h.link A' a b (B' ++ [(u, to' :: t)]) (by rw [e1]; simp)
  · intro p hp
    rcases hin p hp with hp | rfl
    · obtain ⟨q2, hq2, hy⟩ := h.rest p (List.mem_append_left _ hp)
      refine ⟨q2, hq2, fun y hyq => ?_⟩
      rcases hy y hyq with h1 | h1
      · exact .inl h1
      · exact .inr ⟨h1.1, Nat.le_trans (hle _) h1.2⟩
    · refine ⟨q ++ [to'], by rw [hq]; simp, fun y hy => ?_⟩
      rcases List.mem_append.1 hy with hy | hy
      · rcases hqy y hy with h1 | h1
        · exact .inl h1
        · exact .inr ⟨h1.1, Nat.le_trans (hle _) h1.2⟩
      · obtain rfl : y = to' := by simpa using hy
        rcases hcase with h1 | h1
        · exact .inl h1.1
        · refine .inr ⟨h1.1, ?_⟩
          show updN low u _ u ≤ _
          rw [updN_self]
          omega
  · intro x hx
    by_cases e : x = u
    · subst e
      rw [updN_self]
      rcases hcase with h1 | h1
      · have e : min (low x) (low to') = low x := by rw [h1.2]; omega
        rw [e]
        exact h.lowTo x hx
      · by_cases c : low x ≤ low to'
        · rw [Nat.min_eq_left c]
          exact h.lowTo x hx
        · rw [Nat.min_eq_right (by omega)]
          obtain ⟨y, hy, y1, y2⟩ := h.lowTo to' h1.1
          exact ⟨y, hy, y1, (Rs.edge hte htn).trans y2⟩
    · rw [updN_ne _ _ _ _ e]
      exact h.lowTo x hx
  · intro x hx hoff
    have hxu : x ≠ u := fun e => hoff (u, t) (by simp) e.symm
    rw [updN_ne _ _ _ _ hxu]
    exact h.off x hx (hway x hoff)
  · intro p hp x hx hle'
    rcases hin p hp with hp | rfl
    · exact h.tree p (List.mem_append_left _ hp) x hx hle'
    · exact h.tree (u, to' :: t) hum x hx hle'
  · intro x hx hoff p hp hlt hmax
    have hxu : x ≠ u := fun e => hoff (u, t) (by simp) e.symm
    have hmax' : ∀ q ∈ A ++ [(u, to' :: t)], num q.1 < num x → num q.1 ≤ num p.1 := fun q hq hql => by
      rcases List.mem_append.1 hq with hq | hq
      · exact hmax q (List.mem_append_left _ hq) hql
      · obtain rfl : q = (u, to' :: t) := by simpa using hq
        exact hmax (u, t) (by simp) hql
    rw [updN_ne _ _ _ _ hxu]
    rcases hin p hp with hp | rfl
    · rcases h.sub x hx (hway x hoff) p (List.mem_append_left _ hp) hlt hmax' with h1 | ⟨g, g1, g2, g3, g4⟩
      · exact .inl (Nat.le_trans (hle _) h1)
      · exact .inr ⟨g, g1, g2, g3, Nat.le_trans (hle _) g4⟩
    · refine .inl ?_
      show updN low u _ u ≤ _
      rw [updN_self]
      rcases h.sub x hx (hway x hoff) (u, to' :: t) hum hlt hmax' with h1 | ⟨g, g1, g2, g3, g4⟩
      · exact Nat.le_trans (Nat.min_le_left _ _) h1
      · obtain rfl : to' = g := by simpa using g1
        exact Nat.le_trans (Nat.min_le_right _ _) g4

/-- Where the last node of the way stands among the way. -/
theorem Tj.waysLt {u : Nat} {t : List Nat} (h : Tj E n come num low (A ++ [(u, t)]) opn fnd) : ∀ p ∈ A, num p.1 < num u := fun p hp => (List.pairwise_append.1 h.waySorted).2.2 p hp (u, t) (by simp)

/-- The last node is left, and stays open. -/
theorem Tj.leave {u : Nat} (h : Tj E n come num low (A ++ [(u, [])]) opn fnd) (hl : low u < num u) : Tj E n come num low A opn fnd := by
  have hum : (u, ([] : List Nat)) ∈ A ++ [(u, [])] := by simp
  have huo : u ∈ opn := h.wayIn _ hum
  have hA := h.waysLt
  have hAm : ∀ p ∈ A, p ∈ A ++ [(u, ([] : List Nat))] := fun p hp => List.mem_append_left _ hp
  have hmem : ∀ p, p ∈ A ++ [(u, ([] : List Nat))] → p ∈ A ∨ p = (u, []) := fun p hp => by simpa using hp
  have hold : ∀ x, x ≠ u → (∀ p ∈ A, p.1 ≠ x) → ∀ p ∈ A ++ [(u, ([] : List Nat))], p.1 ≠ x := fun x hx hp p hpm => by
    rcases hmem p hpm with h1 | rfl
    · exact hp p h1
    · exact fun e => hx e.symm
  refine ⟨h.small, h.cnt, h.cases, h.lt, h.sorted, fun p hp => h.wayIn p (hAm p hp), (List.pairwise_append.1 h.waySorted).1, ?_, ?_, fun p hp => h.rest p (hAm p hp), h.lowTo, ?_, fun p hp => h.tree p (hAm p hp), ?_, h.clo, h.comp, h.has, h.dis⟩
  · intro x hx
    obtain ⟨p, hp, hpx⟩ := h.first x hx
    rcases hmem p hp with h1 | rfl
    · exact ⟨p, h1, hpx⟩
    · obtain ⟨y, hy, y1, _⟩ := h.lowTo u huo
      obtain ⟨p2, hp2, hpy⟩ := h.first y hy
      rcases hmem p2 hp2 with h2 | rfl
      · have hpx' : num u ≤ num x := hpx
        exact ⟨p2, h2, by omega⟩
      · have hpy' : num u ≤ num y := hpy
        omega
  · intro A' a b B e
    exact h.link A' a b (B ++ [(u, [])]) (by rw [e]; simp)
  · intro x hx hoff
    by_cases e : x = u
    · subst e
      refine ⟨hl, fun y hy he => ?_⟩
      obtain ⟨q, hq, hqy⟩ : ∃ q, lst (E x) n = q ++ [] ∧ ∀ y ∈ q, num y = KK ∨ (y ∈ opn ∧ low x ≤ num y) := h.rest _ hum
      rw [List.append_nil] at hq
      exact hqy y (by rw [← hq]; exact mem_lst.2 ⟨hy, he⟩)
    · exact h.off x hx (hold x e hoff)
  · intro x hx hoff p hp hlt hmax
    -- where u lies below x, the last of A leads to it
    have hlast : num u ≤ num x → p.2.head? = some u := fun hux => by
      obtain ⟨A1, A2, e⟩ := List.append_of_mem hp
      cases A2 with
      | nil => exact h.link A1 p (u, []) [] (by rw [e]; simp)
      | cons b A2 =>
        have hb : b ∈ A := by rw [e]; simp
        have h1 := hmax b hb (by have := hA b hb; omega)
        have h2 : num p.1 < num b.1 := by
          have := (List.pairwise_append.1 h.waySorted).1
          rw [e] at this
          exact (List.pairwise_cons.1 (List.pairwise_append.1 this).2.1).1 b (by simp)
        omega
    by_cases e : x = u
    · subst e
      exact .inr ⟨x, hlast (Nat.le_refl _), huo, Nat.le_refl _, Nat.le_refl _⟩
    · have ho := hold x e hoff
      by_cases hux : num u ≤ num x
      · have hux' : num u < num x := by
          rcases Nat.lt_or_ge (num u) (num x) with c | c
          · exact c
          · exact absurd (h.inj hx huo (by omega)) e
        have hs := h.sub x hx ho (u, []) hum hux' (fun q hq _ => by
          rcases hmem q hq with h1 | rfl
          · exact Nat.le_of_lt (hA q h1)
          · exact Nat.le_refl _)
        rcases hs with h1 | ⟨g, g1, _⟩
        · exact .inr ⟨u, hlast hux, huo, hux, h1⟩
        · cases g1
      · exact h.sub x hx ho p (hAm p hp) hlt (fun q hq hql => by
          rcases hmem q hq with h1 | rfl
          · exact hmax q h1 hql
          · have : num u < num x := hql
            omega)

/-- A function with a value at all of some. -/
def putN (f : Nat → Nat) (S : List Nat) (x : Nat) (k : Nat) : Nat := if k ∈ S then x else f k
theorem putN_in (f : Nat → Nat) {S : List Nat} (x : Nat) {k : Nat} (h : k ∈ S) : putN f S x k = x := if_pos h
theorem putN_out (f : Nat → Nat) {S : List Nat} (x : Nat) {k : Nat} (h : k ∉ S) : putN f S x k = f k := if_neg h

/-- The last node is left, and what was come to since is its component. -/
theorem Tj.close {u : Nat} {O1 O2 c : List Nat} (h : Tj E n come num low (A ++ [(u, [])]) (O1 ++ u :: O2) fnd) (hl : ¬ low u < num u) (hc1 : c.Pairwise (· < ·)) (hc2 : ∀ v, v ∈ c ↔ v ∈ u :: O2) :
    Tj E n come (putN num (u :: O2) KK) (putN low (u :: O2) KK) A O1 (fnd ++ [c]) := by
  have hum : (u, ([] : List Nat)) ∈ A ++ [(u, [])] := by simp
  have huo : u ∈ O1 ++ u :: O2 := h.wayIn _ hum
  have hA := h.waysLt
  have hku := h.known huo
  have hcl := h.come_le
  have hsm := h.small
  have hAm : ∀ p ∈ A, p ∈ A ++ [(u, ([] : List Nat))] := fun p hp => List.mem_append_left _ hp
  have hmem : ∀ p, p ∈ A ++ [(u, ([] : List Nat))] → p ∈ A ∨ p = (u, []) := fun p hp => by simpa using hp
  have hso := List.pairwise_append.1 h.sorted
  have h1lt : ∀ x ∈ O1, num x < num u := fun x hx => hso.2.2 x hx u (by simp)
  have h2le : ∀ x ∈ u :: O2, num u ≤ num x := fun x hx => by
    rcases List.mem_cons.1 hx with rfl | hx
    · exact Nat.le_refl _
    · exact Nat.le_of_lt ((List.pairwise_cons.1 hso.2.1).1 x hx)
  have hO1 : ∀ x ∈ O1, x ∈ O1 ++ u :: O2 := fun x hx => List.mem_append_left _ hx
  have hS : ∀ x ∈ u :: O2, x ∈ O1 ++ u :: O2 := fun x hx => List.mem_append_right _ hx
  have hin1 : ∀ x, x ∈ O1 ++ u :: O2 → num x < num u → x ∈ O1 := fun x hx hlt => by
    rcases List.mem_append.1 hx with h1 | h1
    · exact h1
    · have := h2le x h1; omega
  have hinS : ∀ x, x ∈ O1 ++ u :: O2 → num u ≤ num x → x ∈ u :: O2 := fun x hx hle => by
    rcases List.mem_append.1 hx with h1 | h1
    · have := h1lt x h1; omega
    · exact h1
  have hout : ∀ x ∈ O1, x ∉ u :: O2 := fun x hx hc => by have := h1lt x hx; have := h2le x hc; omega
  have hoffS : ∀ x ∈ u :: O2, x ≠ u → ∀ p ∈ A ++ [(u, ([] : List Nat))], p.1 ≠ x := fun x hx hxu p hp e => by
    rcases hmem p hp with h1 | rfl
    · have := hA p h1; have := h2le x hx; rw [e] at *; omega
    · exact hxu e.symm
  have hlow : ∀ x ∈ u :: O2, num u ≤ low x := fun x hx => by
    by_cases e : x = u
    · rw [e]; omega
    · have hux : num u < num x := by
        have h1 := h2le x hx
        rcases Nat.lt_or_ge (num u) (num x) with c | c
        · exact c
        · exact absurd (h.inj (hS x hx) huo (by omega)) e
      rcases h.sub x (hS x hx) (hoffS x hx e) (u, []) hum hux (fun q hq _ => by
          rcases hmem q hq with h1 | rfl
          · exact Nat.le_of_lt (hA q h1)
          · exact Nat.le_refl _) with h1 | ⟨g, g1, _⟩
      · have h1' : low u ≤ low x := h1
        omega
      · cases g1
  have hback : ∀ k x, x ∈ u :: O2 → num x ≤ k → Rs E n x u := by
    intro k
    induction k with
    | zero => intro x hx hk; have := h2le x hx; have := h.known huo; omega
    | succ k ih =>
      intro x hx hk
      by_cases e : x = u
      · rw [e]; exact Rs.refl _ _ _
      · obtain ⟨y, hy, y1, y2⟩ := h.lowTo x (hS x hx)
        have h1 := (h.off x (hS x hx) (hoffS x hx e)).1
        have h2 := hlow x hx
        exact y2.trans (ih y (hinS y hy (by omega)) (by omega))
  have hedge : ∀ x ∈ u :: O2, ∀ y, y < n → E x y = true → num y = KK ∨ y ∈ u :: O2 := by
    intro x hx y hy he
    have key : num y = KK ∨ (y ∈ O1 ++ u :: O2 ∧ low x ≤ num y) := by
      by_cases e : x = u
      · subst e
        obtain ⟨q, hq, hqy⟩ : ∃ q, lst (E x) n = q ++ [] ∧ ∀ y ∈ q, num y = KK ∨ (y ∈ O1 ++ x :: O2 ∧ low x ≤ num y) := h.rest _ hum
        rw [List.append_nil] at hq
        exact hqy y (by rw [← hq]; exact mem_lst.2 ⟨hy, he⟩)
      · exact (h.off x (hS x hx) (hoffS x hx e)).2 y hy he
    rcases key with h1 | h1
    · exact .inl h1
    · have := hlow x hx
      exact .inr (hinS y h1.1 (by omega))
  have hcomp : IsComp E n c := by
    refine ⟨hc1, u, h.lt u huo, fun v => ?_⟩
    rw [hc2]
    constructor
    · intro hv
      exact ⟨h.lt v (hS v hv), h.tree (u, []) hum v (hS v hv) (h2le v hv), hback (num v) v hv (Nat.le_refl _)⟩
    · rintro ⟨hv, r1, r2⟩
      have h1 : v < n ∧ (num v = KK ∨ v ∈ u :: O2) := Rs.stay (Q := fun x => x < n ∧ (num x = KK ∨ x ∈ u :: O2)) (fun x y hx hy he => ⟨hy, by
        rcases hx.2 with h1 | h1
        · exact .inl (h.clo x y hx.1 hy h1 he)
        · exact hedge x h1 y hy he⟩) r1 ⟨h.lt u huo, .inr (by simp)⟩
      rcases h1.2 with h2 | h2
      · have h3 : u < n ∧ num u = KK := Rs.stay (Q := fun x => x < n ∧ num x = KK) (fun x y hx hy he => ⟨hy, h.clo x y hx.1 hy hx.2 he⟩) r2 ⟨hv, h2⟩
        exact absurd h3.2 (h.openNe huo)
      · exact h2
  have hnK : ∀ y, num y = KK → putN num (u :: O2) KK y = KK := fun y hy => by
    by_cases e : y ∈ u :: O2
    · exact putN_in _ _ e
    · rw [putN_out _ _ e]; exact hy
  have hKn : ∀ y, putN num (u :: O2) KK y = KK → num y = KK ∨ y ∈ u :: O2 := fun y hy => by
    by_cases e : y ∈ u :: O2
    · exact .inr e
    · rw [putN_out _ _ e] at hy; exact .inl hy
  have hn1 : ∀ x ∈ O1, putN num (u :: O2) KK x = num x ∧ putN low (u :: O2) KK x = low x := fun x hx => ⟨putN_out _ _ (hout x hx), putN_out _ _ (hout x hx)⟩
  have hAo : ∀ p ∈ A, p.1 ∈ O1 := fun p hp => hin1 _ (h.wayIn p (hAm p hp)) (hA p hp)
  have hyk : ∀ y a, num y = KK ∨ (y ∈ O1 ++ u :: O2 ∧ a ≤ num y) → putN num (u :: O2) KK y = KK ∨ (y ∈ O1 ∧ a ≤ putN num (u :: O2) KK y) := fun y a hy => by
    rcases hy with h1 | h1
    · exact .inl (hnK y h1)
    · rcases List.mem_append.1 h1.1 with h2 | h2
      · exact .inr ⟨h2, by rw [(hn1 y h2).1]; exact h1.2⟩
      · exact .inl (putN_in _ _ h2)
  have hold : ∀ x ∈ O1, (∀ p ∈ A, p.1 ≠ x) → ∀ p ∈ A ++ [(u, ([] : List Nat))], p.1 ≠ x := fun x hx hp p hpm => by
    rcases hmem p hpm with h1 | rfl
    · exact hp p h1
    · intro e
      have e' : u = x := e
      have := h1lt x hx
      rw [e'] at this
      omega
  refine ⟨hsm, ?_, ?_, fun v hv => h.lt v (hO1 v hv), ?_, hAo, ?_, ?_, ?_, ?_, ?_, ?_, ?_, ?_, ?_, ?_, ?_, ?_⟩
  · have h9 := h.cnt
    rw [← Pop.cnt_congr (fun v => putN num (u :: O2) KK v == 0) (fun v => num v == 0) n ?_] at h9
    · exact h9
    intro i hi
    show (putN num (u :: O2) KK i == 0) = (num i == 0)
    by_cases e : i ∈ u :: O2
    · have h1 := h.known (hS i e)
      rw [putN_in _ _ e]
      have h2 : (num i == 0) = false := by simp; omega
      rw [h2]
      rfl
    · rw [putN_out _ _ e]
  · intro v hv
    by_cases e : v ∈ u :: O2
    · exact .inr (.inr ⟨putN_in _ _ e, putN_in _ _ e, fun hc => hout v hc e⟩)
    · rw [putN_out _ _ e, putN_out _ _ e]
      rcases h.cases v hv with h1 | h1 | h1
      · exact .inl ⟨h1.1, h1.2.1, fun hc => h1.2.2 (hO1 v hc)⟩
      · rcases List.mem_append.1 h1.1 with h2 | h2
        · exact .inr (.inl ⟨h2, h1.2⟩)
        · exact absurd h2 e
      · exact .inr (.inr ⟨h1.1, h1.2.1, fun hc => h1.2.2 (hO1 v hc)⟩)
  · exact hso.1.imp_of_mem (fun {a b} ha hb hab => by rw [(hn1 a ha).1, (hn1 b hb).1]; exact hab)
  · exact (List.pairwise_append.1 h.waySorted).1.imp_of_mem (fun {a b} ha hb hab => by rw [(hn1 _ (hAo a ha)).1, (hn1 _ (hAo b hb)).1]; exact hab)
  · intro x hx
    obtain ⟨p, hp, hpx⟩ := h.first x (hO1 x hx)
    rcases hmem p hp with h1 | rfl
    · exact ⟨p, h1, by rw [(hn1 _ (hAo p h1)).1, (hn1 x hx).1]; exact hpx⟩
    · have h2 : num u ≤ num x := hpx
      have := h1lt x hx
      omega
  · intro A' a b B e
    exact h.link A' a b (B ++ [(u, [])]) (by rw [e]; simp)
  · intro p hp
    obtain ⟨q, hq, hy⟩ := h.rest p (hAm p hp)
    exact ⟨q, hq, fun y hyq => by rw [(hn1 _ (hAo p hp)).2]; exact hyk y _ (hy y hyq)⟩
  · intro x hx
    obtain ⟨y, hy, y1, y2⟩ := h.lowTo x (hO1 x hx)
    have h1 := h.known (hO1 x hx)
    have h2 := h1lt x hx
    have hy1 := hin1 y hy (by omega)
    exact ⟨y, hy1, by rw [(hn1 y hy1).1, (hn1 x hx).2]; exact y1, y2⟩
  · intro x hx hoff
    obtain ⟨h1, h2⟩ := h.off x (hO1 x hx) (hold x hx hoff)
    exact ⟨by rw [(hn1 x hx).1, (hn1 x hx).2]; exact h1, fun y hy he => by rw [(hn1 x hx).2]; exact hyk y _ (h2 y hy he)⟩
  · intro p hp x hx hle
    rw [(hn1 _ (hAo p hp)).1, (hn1 x hx).1] at hle
    exact h.tree p (hAm p hp) x (hO1 x hx) hle
  · intro x hx hoff p hp hlt hmax
    rw [(hn1 _ (hAo p hp)).1, (hn1 x hx).1] at hlt
    rw [(hn1 _ (hAo p hp)).2, (hn1 x hx).2, (hn1 x hx).1]
    have := h.sub x (hO1 x hx) (hold x hx hoff) p (hAm p hp) hlt (fun q hq hql => by
      rcases hmem q hq with h1 | rfl
      · have := hmax q h1 (by rw [(hn1 _ (hAo q h1)).1, (hn1 x hx).1]; exact hql)
        rwa [(hn1 _ (hAo q h1)).1, (hn1 _ (hAo p hp)).1] at this
      · have h2 : num u < num x := hql
        have := h1lt x hx
        omega)
    rcases this with h1 | ⟨g, g1, g2, g3, g4⟩
    · exact .inl h1
    · have h2 := h1lt x hx
      have hg := hin1 g g2 (by omega)
      exact .inr ⟨g, g1, hg, by rw [(hn1 g hg).1]; exact g3, by rw [(hn1 g hg).2]; exact g4⟩
  · intro v y hv hy hvk he
    rcases hKn v hvk with h1 | h1
    · exact hnK y (h.clo v y hv hy h1 he)
    · rcases hedge v h1 y hy he with h2 | h2
      · exact hnK y h2
      · exact putN_in _ _ h2
  · intro d hd
    rcases List.mem_append.1 hd with hd | hd
    · exact h.comp d hd
    · obtain rfl : d = c := by simpa using hd
      exact hcomp
  · intro v hv
    constructor
    · intro hk
      rcases hKn v hk with h1 | h1
      · obtain ⟨d, hd, hvd⟩ := (h.has v hv).1 h1
        exact ⟨d, List.mem_append_left _ hd, hvd⟩
      · exact ⟨c, by simp, (hc2 v).2 h1⟩
    · rintro ⟨d, hd, hvd⟩
      rcases List.mem_append.1 hd with hd | hd
      · exact hnK v ((h.has v hv).2 ⟨d, hd, hvd⟩)
      · obtain rfl : d = c := by simpa using hd
        exact putN_in _ _ ((hc2 v).1 hvd)
  · rw [List.pairwise_append]
    refine ⟨h.dis, by simp, fun d hd b hb x hx hxb => ?_⟩
    obtain rfl : b = c := by simpa using hb
    have h1 := (hc2 x).1 hxb
    have h2 := (h.has x (h.lt x (hS x h1))).2 ⟨d, hd, hx⟩
    exact h.openNe (hS x h1) h2

/-- Where no way is left all that was come to is in components. -/
theorem Tj.closed (h : Tj E n come num low [] opn fnd) : opn = [] := by
  cases opn with
  | nil => rfl
  | cons x l =>
    obtain ⟨p, hp, _⟩ := h.first x (by simp)
    cases hp
/-- How much is left to do. -/
def todo (n : Nat) (num : Nat → Nat) (way : List (Nat × List Nat)) : Nat := Pop.cnt (fun v => num v == 0) n * (n + 2) + (way.map fun p => p.2.length + 1).sum
theorem todo_enter (n come v : Nat) (num : Nat → Nat) (way : List (Nat × List Nat)) (l : List Nat) (hv : v < n) (h0 : num v = 0) (hl : l.length ≤ n) : todo n (updN num v (come + 1)) (way ++ [(v, l)]) + 1 ≤ todo n num way := by
  unfold todo
  have h2 := cnt_updN num v (come + 1) (by omega) n
  rw [if_pos ⟨hv, h0⟩] at h2
  rw [← h2, Nat.add_mul]
  simp
  omega
theorem todo_lower (n : Nat) (num : Nat → Nat) (u to' : Nat) (t : List Nat) : todo n num (A ++ [(u, t)]) + 1 = todo n num (A ++ [(u, to' :: t)]) := by
  unfold todo
  simp
  omega
theorem todo_leave (n : Nat) (num : Nat → Nat) (u : Nat) : todo n num A + 1 = todo n num (A ++ [(u, [])]) := by
  unfold todo
  simp
  omega
theorem todo_le (h : Tj E n come num low way opn fnd) : way.length ≤ todo n num way := by
  unfold todo
  have : ∀ l : List (Nat × List Nat), l.length ≤ (l.map fun p => p.2.length + 1).sum := fun l => by
    induction l with
    | nil => simp
    | cons a l ih => simp; omega
  have := this way
  omega
/-- All components, by their first nodes. -/
def IsComps (E : Nat → Nat → Bool) (n : Nat) (cs : List (List Nat)) : Prop := (∀ c ∈ cs, IsComp E n c) ∧ (∀ v, v < n → ∃ c ∈ cs, v ∈ c) ∧ cs.Pairwise (fun c d => c.headD 0 < d.headD 0)
theorem IsComp.ne {c : List Nat} (h : IsComp E n c) : c ≠ [] := by
  obtain ⟨_, u, hu, h1⟩ := h
  have := (h1 u).2 ⟨hu, Rs.refl _ _ _, Rs.refl _ _ _⟩
  intro e
  rw [e] at this
  cases this
theorem IsComp.head {c : List Nat} (h : IsComp E n c) : c.headD 0 ∈ c := by
  cases c with
  | nil => exact absurd rfl h.ne
  | cons a c => simp
/-- Sorted lists with the same members are the same. -/
theorem sorted_ext : ∀ {a b : List Nat}, a.Pairwise (· < ·) → b.Pairwise (· < ·) → (∀ v, v ∈ a ↔ v ∈ b) → a = b
  | [], [], _, _, _ => rfl
  | [], y :: b, _, _, h => by have := (h y).2 (by simp); cases this
  | x :: a, [], _, _, h => by have := (h x).1 (by simp); cases this
  | x :: a, y :: b, ha, hb, h => by
    obtain ⟨a1, a2⟩ := List.pairwise_cons.1 ha
    obtain ⟨b1, b2⟩ := List.pairwise_cons.1 hb
    have e : x = y := by
      rcases List.mem_cons.1 ((h x).1 (by simp)) with e | h1
      · exact e
      · rcases List.mem_cons.1 ((h y).2 (by simp)) with e | h2
        · exact e.symm
        · have := b1 x h1; have := a1 y h2; omega
    subst e
    rw [sorted_ext a2 b2 (fun v => ?_)]
    constructor
    · intro hv
      rcases List.mem_cons.1 ((h v).1 (List.mem_cons_of_mem _ hv)) with e | h1
      · have := a1 v hv; omega
      · exact h1
    · intro hv
      rcases List.mem_cons.1 ((h v).2 (List.mem_cons_of_mem _ hv)) with e | h1
      · have := b1 v hv; omega
      · exact h1
/-- Two components with a common node are one. -/
theorem IsComp.uniq {c d : List Nat} (h : IsComp E n c) (h' : IsComp E n d) {x : Nat} (hx : x ∈ c) (hy : x ∈ d) : c = d := by
  obtain ⟨s1, u, hu, h1⟩ := h
  obtain ⟨s2, v, hv, h2⟩ := h'
  have a := (h1 x).1 hx
  have b := (h2 x).1 hy
  refine sorted_ext s1 s2 fun y => ?_
  rw [h1, h2]
  constructor
  · rintro ⟨c1, c2, c3⟩
    exact ⟨c1, (b.2.1.trans a.2.2).trans c2, (c3.trans a.2.1).trans b.2.2⟩
  · rintro ⟨c1, c2, c3⟩
    exact ⟨c1, (a.2.1.trans b.2.2).trans c2, (c3.trans b.2.1).trans a.2.2⟩
theorem by_heads {P : List Nat → Prop} : ∀ {a b : List (List Nat)}, a.Pairwise (fun c d => c.headD 0 < d.headD 0) → b.Pairwise (fun c d => c.headD 0 < d.headD 0) → (∀ v, v ∈ a ↔ v ∈ b) → a = b
  | [], [], _, _, _ => rfl
  | [], y :: b, _, _, h => by have := (h y).2 (by simp); cases this
  | x :: a, [], _, _, h => by have := (h x).1 (by simp); cases this
  | x :: a, y :: b, ha, hb, h => by
    obtain ⟨a1, a2⟩ := List.pairwise_cons.1 ha
    obtain ⟨b1, b2⟩ := List.pairwise_cons.1 hb
    have e : x = y := by
      rcases List.mem_cons.1 ((h x).1 (by simp)) with e | h1
      · exact e
      · rcases List.mem_cons.1 ((h y).2 (by simp)) with e | h2
        · exact e.symm
        · have := b1 x h1; have := a1 y h2; omega
    subst e
    rw [by_heads (P := P) a2 b2 (fun v => ?_)]
    constructor
    · intro hv
      rcases List.mem_cons.1 ((h v).1 (List.mem_cons_of_mem _ hv)) with e | h1
      · have := a1 v hv; rw [e] at this; omega
      · exact h1
    · intro hv
      rcases List.mem_cons.1 ((h v).2 (List.mem_cons_of_mem _ hv)) with e | h1
      · have := b1 v hv; rw [e] at this; omega
      · exact h1
theorem IsComps.uniq {a b : List (List Nat)} (h : IsComps E n a) (h' : IsComps E n b) : a = b := by
  refine by_heads (P := fun _ => True) h.2.2 h'.2.2 fun c => ⟨fun hc => ?_, fun hc => ?_⟩
  · have h1 := h.1 c hc
    have hx := h1.head
    obtain ⟨_, u, hu, h2⟩ := id h1
    obtain ⟨d, hd, hxd⟩ := h'.2.1 _ ((h2 _).1 hx).1
    rw [h1.uniq (h'.1 d hd) hx hxd]
    exact hd
  · have h1 := h'.1 c hc
    have hx := h1.head
    obtain ⟨_, u, hu, h2⟩ := id h1
    obtain ⟨d, hd, hxd⟩ := h.2.1 _ ((h2 _).1 hx).1
    rw [h1.uniq (h.1 d hd) hx hxd]
    exact hd
end
end Go.Proofs.YtdihbeffomibeaaGreatDoor
namespace Go.Proofs.YtdihbeffomibeaaGreatDoor
set_option linter.unusedVariables false
set_option linter.unusedSimpArgs false

section
variable {E : Nat → Nat → Bool} {n come : Nat} {num low : Nat → Nat} {way : List (Nat × List Nat)} {opn : List Nat} {fnd : List (List Nat)}
theorem nodup_of_num {f : Nat → Nat} {l : List Nat} (h : l.Pairwise (fun a b => f a < f b)) : l.Nodup := h.imp (fun {a b} hab e => by rw [e] at hab; omega)
theorem len_of_sub {l : List Nat} (h : l.Nodup) (hs : ∀ v ∈ l, v < n) : l.length ≤ n := by
  have hsub : l ⊆ List.range n := fun v hv => List.mem_range.2 (hs v hv)
  have := h.length_le_of_subset hsub
  simpa using this
theorem Tj.opnLen (h : Tj E n come num low way opn fnd) : opn.length ≤ n := len_of_sub (nodup_of_num h.sorted) h.lt
theorem Tj.wayLen (h : Tj E n come num low way opn fnd) : way.length ≤ n := by
  have h1 : (way.map Prod.fst).Pairwise (fun a b => num a < num b) := List.pairwise_map.2 h.waySorted
  have := len_of_sub (n := n) (nodup_of_num h1) (fun v hv => by
    obtain ⟨p, hp, rfl⟩ := List.mem_map.1 hv
    exact h.lt _ (h.wayIn p hp))
  simpa using this
theorem Tj.fndLen (h : Tj E n come num low way opn fnd) : fnd.length ≤ n := by
  have h1 : (fnd.map fun c => c.headD 0).Nodup := by
    rw [List.nodup_iff_pairwise_ne, List.pairwise_map]
    refine h.dis.imp_of_mem (fun {c d} hc hd hcd e => ?_)
    have q1 := (h.comp c hc).head
    have q2 := (h.comp d hd).head
    rw [← e] at q2
    exact hcd _ q1 q2
  have := len_of_sub (n := n) h1 (fun v hv => by
    obtain ⟨c, hc, rfl⟩ := List.mem_map.1 hv
    obtain ⟨_, u, _, h2⟩ := h.comp c hc
    exact ((h2 _).1 (h.comp c hc).head).1)
  simpa using this
/-- An open node parts the open ones. -/
theorem Tj.split (h : Tj E n come num low way opn fnd) {u : Nat} (hu : u ∈ opn) : ∃ O1 O2, opn = O1 ++ u :: O2 ∧ u ∉ O1 ∧ (u :: O2).Nodup ∧ ∀ v ∈ u :: O2, v < n := by
  obtain ⟨O1, O2, e⟩ := List.append_of_mem hu
  have hn := nodup_of_num h.sorted
  rw [e] at hn
  have h2 := List.nodup_append.1 hn
  refine ⟨O1, O2, e, fun hc => h2.2.2 u hc u (by simp) rfl, h2.2.1, fun v hv => h.lt v (by rw [e]; exact List.mem_append_right _ hv)⟩
theorem Tj.knownGo (h : Tj E n come num low way opn fnd) {v : Nat} (hv : v < n) (h0 : num v = 0) : low v = 0 := by
  rcases h.cases v hv with h1 | h1 | h1
  · exact h1.2.1
  · omega
  · unfold KK at h1; omega
theorem Tj.edgeIn {A : List (Nat × List Nat)} {u x : Nat} {t : List Nat} (h : Tj E n come num low (A ++ [(u, x :: t)]) opn fnd) : x < n := by
  obtain ⟨q, hq, _⟩ := h.rest (u, x :: t) (by simp)
  have : x ∈ lst (E u) n := by rw [hq]; simp
  exact (mem_lst.1 this).1
theorem Tj.topIn {A : List (Nat × List Nat)} {p : Nat × List Nat} (h : Tj E n come num low (A ++ [p]) opn fnd) : p.1 ∈ opn ∧ p.1 < n := ⟨h.wayIn p (by simp), h.lt _ (h.wayIn p (by simp))⟩
theorem put_keeps {f : Nat → Nat} {S : List Nat} {x : Nat} (h : f x ≠ 0) : putN f S KK x ≠ 0 := by
  unfold putN
  split
  · unfold KK; omega
  · exact h
theorem upd_keeps {f : Nat → Nat} {v y x : Nat} (h : f x ≠ 0) (hy : y ≠ 0) : updN f v y x ≠ 0 := by
  unfold updN
  split
  · exact hy
  · exact h
theorem cnt_putN (num : Nat → Nat) (S : List Nat) (hS : ∀ v ∈ S, num v ≠ 0) (n : Nat) : Pop.cnt (fun v => putN num S KK v == 0) n = Pop.cnt (fun v => num v == 0) n := by
  apply Pop.cnt_congr
  intro i hi
  by_cases e : i ∈ S
  · rw [putN_in _ _ e]
    have : (num i == 0) = false := by simpa using hS i e
    rw [this]
    rfl
  · rw [putN_out _ _ e]
theorem todo_put (num : Nat → Nat) (S : List Nat) (hS : ∀ v ∈ S, num v ≠ 0) (n : Nat) (A : List (Nat × List Nat)) : todo n (putN num S KK) A = todo n num A := by
  unfold todo
  rw [cnt_putN num S hS n]
end
end Go.Proofs.YtdihbeffomibeaaGreatDoor
