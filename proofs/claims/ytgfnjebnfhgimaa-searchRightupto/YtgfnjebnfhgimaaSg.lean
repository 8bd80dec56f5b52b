/-
  Plain: the program's way and the document's of telling whether an order is right.
-/
import Derived.Test.YtgfnjebnfhgimaaKt
namespace Go.Proofs.Ytgfnjebnfhgimaa
set_option linter.unusedVariables false
set_option linter.unusedSimpArgs false
open Go.RowKit Go.Lib Go.Maps
open Tx (MTxn TxnsIn TxnRow)

/-- How many of the first n are ok and stand among the first k of the order. -/
def okC (l : List MTxn) (ord : List Int) (k : Nat) : Nat → Nat
  | 0 => 0
  | n + 1 => okC l ord k n + if (l.getD n default).state = 1 ∧ doneB ord k n = true then 1 else 0
theorem okC_zero (l : List MTxn) (ord : List Int) : ∀ n, okC l ord 0 n = 0
  | 0 => rfl
  | n + 1 => by
    unfold okC
    rw [okC_zero l ord n, if_neg]
    rintro ⟨_, h⟩
    obtain ⟨i, hi, _⟩ := (done_true ord 0 n).1 h
    omega
theorem done_step {ord : List Int} {k p n : Nat} (hp : ord.getD k 0 = (p : Int)) : doneB ord (k + 1) n = true ↔ doneB ord k n = true ∨ n = p := by
  rw [done_true, done_true]
  constructor
  · rintro ⟨i, hi, he⟩
    by_cases e : i = k
    · subst e
      rw [hp] at he
      exact .inr (by omega)
    · exact .inl ⟨i, by omega, he⟩
  · rintro (⟨i, hi, he⟩ | h)
    · exact ⟨i, by omega, he⟩
    · subst h; exact ⟨k, by omega, hp⟩
theorem okC_step {l : List MTxn} {ord : List Int} {k p : Nat} (hp : ord.getD k 0 = (p : Int)) (hd : doneB ord k p = false) : ∀ n, okC l ord (k + 1) n = okC l ord k n + if p < n ∧ (l.getD p default).state = 1 then 1 else 0
  | 0 => by simp [okC]
  | n + 1 => by
    unfold okC
    rw [okC_step hp hd n]
    have hs := done_step (n := n) hp
    by_cases e : n = p
    · subst e
      have h1 : doneB ord (k + 1) n = true := hs.2 (.inr rfl)
      rw [h1, hd]
      by_cases h : (l.getD n default).state = 1
      · simp only [h]; simp
      · simp only [h]; simp
    · have h1 : doneB ord (k + 1) n = doneB ord k n := by
        cases hx : doneB ord k n with
        | true => exact hs.2 (.inl hx)
        | false =>
          cases hy : doneB ord (k + 1) n with
          | false => rfl
          | true => rcases hs.1 hy with c | c
                    · rw [hx] at c; cases c
                    · exact absurd c e
      rw [h1]
      have h2 : (p < n + 1 ∧ (l.getD p default).state = 1) ↔ (p < n ∧ (l.getD p default).state = 1) := ⟨fun h => ⟨by omega, h.2⟩, fun h => ⟨by omega, h.2⟩⟩
      simp only [h2]
      omega
theorem okC_okO {l : List MTxn} {ord : List Int} (h : okR l ord) : ∀ k, k ≤ ord.length → okC l ord k l.length = okO l ord k
  | 0, _ => okC_zero l ord _
  | k + 1, hk => by
    obtain ⟨p1, p2, p3, _⟩ := h k (by omega)
    obtain ⟨p, hp⟩ : ∃ p : Nat, ord.getD k 0 = p := ⟨(ord.getD k 0).toNat, by omega⟩
    have hd : doneB ord k p = false := by
      cases hx : doneB ord k p with
      | false => rfl
      | true =>
        obtain ⟨i, hi, he⟩ := (done_true ord k p).1 hx
        exact absurd (he.trans hp.symm) (p3 i hi)
    have hx : txO l (ord.getD k 0) = l.getD p default := by unfold txO; rw [hp]; rfl
    rw [okC_step hp hd, okC_okO h k (by omega)]
    show _ = okO l ord k + if (txO l (ord.getD k 0)).state = 1 then 1 else 0
    rw [hx]
    have hpl : p < l.length := by omega
    simp only [hpl, true_and]
theorem okC_le (l : List MTxn) (ord : List Int) (k : Nat) : ∀ n, okC l ord k n ≤ okN l n
  | 0 => Nat.le_refl _
  | n + 1 => by
    have := okC_le l ord k n
    unfold okC okN
    by_cases h : (l.getD n default).state = 1
    · rw [if_pos h]; split <;> omega
    · rw [if_neg h, if_neg (fun c => h c.1)]; exact this
theorem okC_eq (l : List MTxn) (ord : List Int) (k : Nat) : ∀ n, okN l n = okC l ord k n ↔ ∀ j, j < n → (l.getD j default).state = 1 → doneB ord k j = true
  | 0 => ⟨fun _ j hj => absurd hj (Nat.not_lt_zero _), fun _ => rfl⟩
  | n + 1 => by
    have hle := okC_le l ord k n
    have ih := okC_eq l ord k n
    unfold okC okN
    by_cases h : (l.getD n default).state = 1
    · by_cases hd : doneB ord k n = true
      · rw [if_pos h, if_pos ⟨h, hd⟩]
        constructor
        · intro he j hj hs
          by_cases e : j = n
          · rw [e]; exact hd
          · exact ih.1 (by omega) j (by omega) hs
        · intro ha
          have := ih.2 (fun j hj => ha j (by omega))
          omega
      · rw [if_pos h, if_neg (fun c => hd c.2)]
        constructor
        · intro he; omega
        · intro ha; exact absurd (ha n (by omega) h) hd
    · rw [if_neg h, if_neg (fun c => h c.1)]
      constructor
      · intro he j hj hs
        by_cases e : j = n
        · rw [e] at hs; exact absurd hs h
        · exact ih.1 (by omega) j (by omega) hs
      · intro ha
        have := ih.2 (fun j hj => ha j (by omega))
        omega
theorem right_iff {l : List MTxn} {ord : List Int} (h : okR l ord) : (((∀ k, k < ord.length → (txO l (ord.getD k 0)).state = 1 ∨ (txO l (ord.getD k 0)).state = 3) ∧ okN l l.length = okO l ord ord.length) ∧ noA l ord ord.length) ↔ rightR l ord := by
  rw [← okC_okO h ord.length (Nat.le_refl _), okC_eq]
  constructor
  · rintro ⟨⟨h1, h2⟩, h3⟩
    exact ⟨fun k hk => ⟨h1 k hk, fun i hi => h3 k i (by omega) hi hk⟩, fun j hj hs => (done_true ord ord.length j).1 (h2 j hj hs)⟩
  · rintro ⟨h1, h2⟩
    exact ⟨⟨fun k hk => (h1 k hk).1, fun j hj hs => (done_true ord ord.length j).2 (h2 j hj hs)⟩, fun q i _ hi hq => (h1 q hq).2 i hi⟩
end Go.Proofs.Ytgfnjebnfhgimaa
