/-
  Plain: a ring of dependencies of one label.
-/
import Derived.Test.YtdihbeffomibeaaGreatDoorY22
import Derived.Test.YtdihbeffomibeaaGreatDoorY23
import Derived.Test.YtdihbeffomibeaaGreatDoorY24
namespace Go.Proofs.YtdihbeffomibeaaGreatDoor
set_option linter.unusedVariables false
set_option linter.unusedSimpArgs false
open Go.RowKit Go.Lib Go.Maps

def nxt (n u : Nat) : Nat := if u + 1 < n then u + 1 else 0
theorem nxt_mod {n u : Nat} (h : u < n) : (u + 1) % n = nxt n u := by
  unfold nxt
  split
  · exact Nat.mod_eq_of_lt (by assumption)
  · rw [show u + 1 = n by omega, Nat.mod_self]
def ringF (n X : Nat) (j : Nat) : MW := ((j : Int), (nxt n j : Int), (X : Int), ⟨#[]⟩, 0, 0, false, false)
/-- The labels where all dependencies have one. -/
theorem gL_one {f : Nat → MW} {m X : Nat} (hX : X < 16) (hlab : ∀ j, j < m → (f j).lab = (X : Nat)) (u v : Nat) :
    ((∃ j, j < m ∧ (f j).src.toNat = u ∧ (f j).dst.toNat = v) → gL f m u v = X) ∧ ((¬ ∃ j, j < m ∧ (f j).src.toNat = u ∧ (f j).dst.toNat = v) → gL f m u v = 0) := by
  have h16 := gL_16 f (fun _ => .inr trivial) m u v
  have big : ∀ x, x < 16 → ∀ i, 4 ≤ i → x.testBit i = false := fun x hx i hi => Nat.testBit_lt_two_pow (Nat.lt_of_lt_of_le hx (Nat.pow_le_pow_right (n := 2) (by decide) hi))
  constructor
  · rintro ⟨j, hj, h1, h2⟩
    apply Nat.eq_of_testBit_eq
    intro i
    by_cases hi : i < 4
    · rw [Bool.eq_iff_iff, gL_bit f u v i hi m]
      constructor
      · rintro ⟨j', hj', _, _, hb⟩
        rwa [hlab j' hj', Int.toNat_natCast] at hb
      · intro hb
        exact ⟨j, hj, h1, h2, by rwa [hlab j hj, Int.toNat_natCast]⟩
    · rw [big _ h16 i (by omega), big _ hX i (by omega)]
  · intro hn
    apply Nat.eq_of_testBit_eq
    intro i
    rw [Nat.zero_testBit]
    by_cases hi : i < 4
    · cases hb : (gL f m u v).testBit i with
      | false => rfl
      | true =>
        obtain ⟨j', hj', h1, h2, _⟩ := (gL_bit f u v i hi m).1 hb
        exact absurd ⟨j', hj', h1, h2⟩ hn
    · exact big _ h16 i (by omega)
theorem edge_one {f : Nat → MW} {m X : Nat} (hX : X < 16) (hlab : ∀ j, j < m → (f j).lab = (X : Nat)) (o : Nat) (ho : o < 16) (u v : Nat) :
    edge (gL f m) (o : Int) u v = true ↔ X &&& o ≠ 0 ∧ ∃ j, j < m ∧ (f j).src.toNat = u ∧ (f j).dst.toNat = v := by
  have h16 := gL_16 f (fun _ => .inr trivial) m u v
  obtain ⟨h1, h2⟩ := gL_one hX hlab u v
  rw [edge_iff _ o ho u v h16]
  by_cases he : ∃ j, j < m ∧ (f j).src.toNat = u ∧ (f j).dst.toNat = v
  · rw [h1 he]
    exact ⟨fun h => ⟨h, he⟩, fun h => h.1⟩
  · rw [h2 he]
    constructor
    · intro h; simp at h
    · intro h; exact absurd h.2 he
/-- The way on round a ring to its first node. -/
theorem ring_way {E : Nat → Nat → Bool} {n : Nat} (hE : ∀ u, u < n → E u (nxt n u) = true) : ∀ d s, s + d + 1 = n → ∃ r, r ≠ [] ∧ Wl E n s r 0
  | 0, s, h => ⟨[0], by simp, by have := hE s (by omega); unfold nxt at this; rw [if_neg (by omega)] at this; exact this, by omega, rfl⟩
  | d + 1, s, h => by
    obtain ⟨r, _, hr⟩ := ring_way hE d (s + 1) (by omega)
    refine ⟨(s + 1) :: r, by simp, ?_, by omega, hr⟩
    have := hE s (by omega)
    unfold nxt at this
    rwa [if_pos (by omega)] at this
/-- What is told of a ring begins at its first node and goes round it once. -/
theorem ring_told {E1 E2 : Nat → Nat → Bool} {n F T : Nat} {q : List Nat} (hn : 2 ≤ n) (h1 : ∀ u v, E1 u v = true ↔ u < n ∧ v = nxt n u) (h2 : ∀ u v, E2 u v = true ↔ u < n ∧ v = nxt n u)
    (hF : FstC E1 E2 n F T) (hB : Best E2 n T F q) : F = 0 ∧ T = 1 ∧ q.length + 1 = n ∧ ∀ i, i < n → ndC F T q i = i := by
  have e01 : E1 0 1 = true := (h1 0 1).2 ⟨by omega, by unfold nxt; rw [if_pos (by omega)]⟩
  obtain ⟨r, hr, hw⟩ := ring_way (fun u hu => (h2 u _).2 ⟨hu, rfl⟩) (n - 2) 1 (by omega)
  have hF0 : F = 0 := by
    by_cases h : 0 < F
    · exact absurd hw (hF.first 0 1 (by omega) (by omega) (.inl h) e01 r hr)
    · omega
  subst hF0
  have hT : T = 1 := by
    have := ((h1 0 T).1 hF.e).2
    unfold nxt at this
    rwa [if_pos (by omega)] at this
  subst hT
  have inj := ndC_inj hF.t (by decide : (0 : Nat) ≠ 1) hB
  have last : ndC 0 1 q (q.length + 1) = 0 := by
    have hl := (Wl.along q 1 hF.t hB.2.1).2
    have : (0 :: 1 :: q).getD (q.length + 1) 0 = (1 :: q).getD q.length 0 := by simp
    show (0 :: 1 :: q).getD (q.length + 1) 0 = 0
    rw [this]
    simpa using hl
  have step : ∀ i, i < q.length + 1 → ndC 0 1 q (i + 1) = nxt n (ndC 0 1 q i) := by
    intro i hi
    match i, hi with
    | 0, _ => show 1 = nxt n 0; unfold nxt; rw [if_pos (by omega)]
    | i + 1, hi =>
      have al := ((Wl.along q 1 hF.t hB.2.1).1 i (by omega)).1
      have := ((h2 _ _).1 al).2
      have e1 : ndC 0 1 q (i + 1) = (1 :: q).getD i 0 := by simp [ndC]
      have e2 : ndC 0 1 q (i + 1 + 1) = q.getD i 0 := by simp [ndC]
      rw [e1, e2, this]
  have low : ∀ i, i < n → i ≤ q.length + 1 → ndC 0 1 q i = i := by
    intro i
    induction i with
    | zero => intro _ _; rfl
    | succ i ih =>
      intro ha hb
      rw [step i (by omega), ih (by omega) (by omega)]
      unfold nxt
      rw [if_pos ha]
  have len : q.length + 1 = n := by
    rcases Nat.lt_trichotomy (q.length + 1) n with h | h | h
    · have := low (q.length + 1) h (Nat.le_refl _)
      omega
    · exact h
    · have a := step (n - 1) (by omega)
      rw [low (n - 1) (by omega) (by omega)] at a
      unfold nxt at a
      rw [if_neg (by omega), show n - 1 + 1 = n by omega] at a
      exact absurd (show ndC 0 1 q 0 = ndC 0 1 q n by rw [a]; rfl) (inj 0 n (by omega) h)
  exact ⟨rfl, rfl, len, fun i hi => low i hi (by omega)⟩
/-- How far behind the cut a node lies. -/
def rkC (n cut u : Nat) : Nat := if cut < u then u - cut - 1 else u + n - cut - 1
theorem rkC_step {n cut u : Nat} (hc : cut < n) (hu : u < n) (hne : u ≠ cut) : rkC n cut (nxt n u) = rkC n cut u + 1 := by
  unfold rkC nxt
  split <;> split <;> split <;> omega
theorem cut_up {E : Nat → Nat → Bool} {n cut : Nat} (hc : cut < n) (hE : ∀ u v, E u v = true → u < n ∧ u ≠ cut ∧ v = nxt n u) {t : Nat} : ∀ (r : List Nat) (s : Nat), Wl E n s r t → rkC n cut s ≤ rkC n cut t
  | [], s, h => by cases h; exact Nat.le_refl _
  | a :: r, s, ⟨h1, h2, h3⟩ => by
    obtain ⟨a1, a2, rfl⟩ := hE _ _ h1
    have := cut_up hc hE r _ h3
    rw [rkC_step hc a1 a2] at this
    omega
/-- Without one of a ring's dependencies there is no cycle. -/
theorem cut_no {E1 E2 : Nat → Nat → Bool} {n cut : Nat} (hc : cut < n) (h1 : ∀ u v, E1 u v = true → u < n ∧ u ≠ cut ∧ v = nxt n u) (h2 : ∀ u v, E2 u v = true → u < n ∧ u ≠ cut ∧ v = nxt n u) : NoC E1 E2 n := by
  intro F T hF hT he r hr hw
  obtain ⟨a1, a2, rfl⟩ := h1 _ _ he
  have := cut_up hc h2 r _ hw
  rw [rkC_step hc a1 a2] at this
  omega
end Go.Proofs.YtdihbeffomibeaaGreatDoor
