/-
  What a transaction does with each thing, plain; its final writes.
-/
import Derived.Test.YtadlnkaphkbfdaaIn1
namespace Go.Proofs.Ytadlnkaphkbfdaa
set_option linter.unusedVariables false
set_option linter.unusedSimpArgs false

/-- Of each thing: the read that comes first, the last write; -1 where there is none. -/
abbrev Us := Int → ByteArray → Option (Int × Int)
def Us.put (U : Us) (t : Int) (s : ByteArray) (u : Int × Int) : Us := fun t' s' => if t' = t ∧ s' = s then some u else U t' s'
theorem Us.put_same (U : Us) (t : Int) (s : ByteArray) (u : Int × Int) : U.put t s u t s = some u := by unfold Us.put; simp
theorem Us.put_other (U : Us) (t : Int) (s : ByteArray) (u : Int × Int) (t' : Int) (s' : ByteArray) (h : ¬ (t' = t ∧ s' = s)) : U.put t s u t' s' = U t' s' := by unfold Us.put; rw [if_neg h]
def useOf (U : Us) (o : MOp) (i : Nat) : Int × Int :=
  (if (U (thg o.kind) o.key).isSome = false ∧ wrt o = false then (i : Int) else ((U (thg o.kind) o.key).getD (-1, -1)).1,
   if wrt o = true then (i : Int) else ((U (thg o.kind) o.key).getD (-1, -1)).2)
def Us.on (U : Us) (o : MOp) (i : Nat) : Us := if wrt o = true ∨ rds o = true then U.put (thg o.kind) o.key (useOf U o i) else U
def usAt (l : List MOp) : Nat → Us
  | 0 => fun _ _ => none
  | k + 1 => (usAt l k).on (l.getD k default) k

abbrev opAt (l : List MOp) (i : Nat) : MOp := l.getD i default
/-- Whether an operation is of a thing. -/
def OfT (o : MOp) (t : Int) (s : ByteArray) : Prop := thg o.kind = t ∧ o.key = s
/-- Among the first n operations i is the last write of its thing. -/
def Fin (l : List MOp) (n i : Nat) : Prop := i < n ∧ wrt (opAt l i) = true ∧ ∀ j, i < j → j < n → wrt (opAt l j) = true → ¬ OfT (opAt l j) (thg (opAt l i).kind) (opAt l i).key

/-- What the uses say of the writes. -/
theorem us_fin (l : List MOp) : ∀ (k : Nat) (t : Int) (s : ByteArray),
    (∀ x f, usAt l k t s = some (x, f) → (f = -1 ∧ ∀ j, j < k → wrt (opAt l j) = true → ¬ OfT (opAt l j) t s) ∨ ∃ i : Nat, f = i ∧ Fin l k i ∧ OfT (opAt l i) t s) ∧
    (usAt l k t s = none → ∀ j, j < k → wrt (opAt l j) = true → ¬ OfT (opAt l j) t s)
  | 0, t, s => ⟨fun x f h => by simp [usAt] at h, fun _ j hj => by omega⟩
  | k + 1, t, s => by
    have ih := us_fin l k t s
    have e : usAt l (k + 1) = (usAt l k).on (opAt l k) k := rfl
    rw [e]
    -- what holds where operation k is no write of the thing
    have keep : (wrt (opAt l k) = true → ¬ OfT (opAt l k) t s) → ∀ i, Fin l k i → OfT (opAt l i) t s → Fin l (k + 1) i := by
      intro hn i hf ho
      refine ⟨by have := hf.1; omega, hf.2.1, fun j h1 h2 hw hc => ?_⟩
      by_cases ej : j = k
      · subst ej
        exact hn hw (by obtain ⟨a, b⟩ := hc; obtain ⟨c, d⟩ := ho; exact ⟨a.trans c, b.trans d⟩)
      · exact hf.2.2 j h1 (by omega) hw hc
    have keepN : (wrt (opAt l k) = true → ¬ OfT (opAt l k) t s) → (∀ j, j < k → wrt (opAt l j) = true → ¬ OfT (opAt l j) t s) → ∀ j, j < k + 1 → wrt (opAt l j) = true → ¬ OfT (opAt l j) t s := by
      intro hn h j hj hw
      by_cases ej : j = k
      · subst ej; exact hn hw
      · exact h j (by omega) hw
    unfold Us.on
    by_cases hu : wrt (opAt l k) = true ∨ rds (opAt l k) = true
    · rw [if_pos hu]
      by_cases ht : OfT (opAt l k) t s
      · obtain ⟨rfl, rfl⟩ := ht
        rw [Us.put_same]
        refine ⟨fun x f h => ?_, fun h => by cases h⟩
        unfold useOf at h
        simp only [Option.some.injEq, Prod.mk.injEq] at h
        obtain ⟨_, hf⟩ := h
        by_cases hw : wrt (opAt l k) = true
        · rw [if_pos hw] at hf
          refine .inr ⟨k, hf.symm, ⟨by omega, hw, fun j h1 h2 => by omega⟩, rfl, rfl⟩
        · rw [if_neg hw] at hf
          cases hU : usAt l k (thg (opAt l k).kind) (opAt l k).key with
          | none =>
            rw [hU] at hf
            simp only [Option.getD_none] at hf
            exact .inl ⟨hf.symm, keepN (fun h => absurd h hw) (ih.2 hU)⟩
          | some u =>
            obtain ⟨x', f'⟩ := u
            rw [hU] at hf
            simp only [Option.getD_some] at hf
            subst hf
            rcases ih.1 x' f' hU with ⟨h1, h2⟩ | ⟨i, h1, h2, h3⟩
            · exact .inl ⟨h1, keepN (fun h => absurd h hw) h2⟩
            · exact .inr ⟨i, h1, keep (fun h => absurd h hw) i h2 h3, h3⟩
      · rw [Us.put_other _ _ _ _ _ _ (fun c => ht ⟨c.1.symm, c.2.symm⟩)]
        refine ⟨fun x f h => ?_, fun h => keepN (fun _ => ht) (ih.2 h)⟩
        rcases ih.1 x f h with ⟨h1, h2⟩ | ⟨i, h1, h2, h3⟩
        · exact .inl ⟨h1, keepN (fun _ => ht) h2⟩
        · exact .inr ⟨i, h1, keep (fun _ => ht) i h2 h3, h3⟩
    · rw [if_neg hu]
      have hw : ¬ wrt (opAt l k) = true := fun h => hu (.inl h)
      refine ⟨fun x f h => ?_, fun h => keepN (fun h => absurd h hw) (ih.2 h)⟩
      rcases ih.1 x f h with ⟨h1, h2⟩ | ⟨i, h1, h2, h3⟩
      · exact .inl ⟨h1, keepN (fun h => absurd h hw) h2⟩
      · exact .inr ⟨i, h1, keep (fun h => absurd h hw) i h2 h3, h3⟩

theorem fin_uniq {l : List MOp} {n i j : Nat} {t : Int} {s : ByteArray} (hi : Fin l n i) (hj : Fin l n j) (oi : OfT (opAt l i) t s) (oj : OfT (opAt l j) t s) : i = j := by
  rcases Nat.lt_trichotomy i j with h | h | h
  · exact absurd ⟨oj.1.trans oi.1.symm, oj.2.trans oi.2.symm⟩ (hi.2.2 j h hj.1 hj.2.1)
  · exact h
  · exact absurd ⟨oi.1.trans oj.1.symm, oi.2.trans oj.2.symm⟩ (hj.2.2 i h hi.1 hi.2.1)
/-- A final write is what its thing's use tells. -/
theorem us_of_fin {l : List MOp} {n i : Nat} (h : Fin l n i) : ∃ x, usAt l n (thg (opAt l i).kind) (opAt l i).key = some (x, (i : Int)) := by
  have hu := us_fin l n (thg (opAt l i).kind) (opAt l i).key
  cases hU : usAt l n (thg (opAt l i).kind) (opAt l i).key with
  | none => exact absurd ⟨rfl, rfl⟩ (hu.2 hU i h.1 h.2.1)
  | some u =>
    obtain ⟨x, f⟩ := u
    rcases hu.1 x f hU with ⟨_, h2⟩ | ⟨j, h1, h2, h3⟩
    · exact absurd ⟨rfl, rfl⟩ (h2 i h.1 h.2.1)
    · have : j = i := fin_uniq h2 h h3 ⟨rfl, rfl⟩
      subst this
      exact ⟨x, by rw [h1]⟩

/-- Whether a write is final. -/
def finB (l : List MOp) (i : Nat) : Bool :=
  decide (i < l.length) && (wrt (opAt l i) && (List.range l.length).all (fun j => !(decide (i < j) && (wrt (opAt l j) && (decide (thg (opAt l j).kind = thg (opAt l i).kind) && decide ((opAt l j).key = (opAt l i).key))))))
theorem finB_iff {l : List MOp} {i : Nat} : finB l i = true ↔ Fin l l.length i := by
  unfold finB Fin OfT
  simp only [Bool.and_eq_true, decide_eq_true_eq, List.all_eq_true, List.mem_range, Bool.not_eq_true', Bool.and_eq_false_iff, decide_eq_false_iff_not]
  constructor
  · rintro ⟨h1, h2, h3⟩
    refine ⟨h1, h2, fun j h4 h5 h6 h7 => ?_⟩
    rcases h3 j h5 with h | h | h | h
    · exact h h4
    · rw [h6] at h; cases h
    · exact h h7.1
    · exact h h7.2
  · rintro ⟨h1, h2, h3⟩
    refine ⟨h1, h2, fun j h5 => ?_⟩
    by_cases h4 : i < j
    · cases h6 : wrt (opAt l j) with
      | false => exact .inr (.inl rfl)
      | true =>
        by_cases h7 : thg (opAt l j).kind = thg (opAt l i).kind
        · exact .inr (.inr (.inr (fun c => h3 j h4 h5 h6 ⟨h7, c⟩)))
        · exact .inr (.inr (.inl h7))
    · exact .inl h4
/-- The places of the final writes, rising. -/
def finsL (l : List MOp) : List Int := ((List.range l.length).filter (finB l)).map fun i : Nat => (i : Int)
theorem mem_fins {l : List MOp} {x : Int} : x ∈ finsL l ↔ ∃ i : Nat, x = i ∧ Fin l l.length i := by
  unfold finsL
  simp only [List.mem_map, List.mem_filter, List.mem_range, finB_iff]
  constructor
  · rintro ⟨i, ⟨_, h⟩, rfl⟩; exact ⟨i, rfl, h⟩
  · rintro ⟨i, rfl, h⟩; exact ⟨i, ⟨h.1, h⟩, rfl⟩
theorem fins_rise (l : List MOp) : (finsL l).Pairwise (· < ·) := by
  unfold finsL
  rw [List.pairwise_map]
  refine List.Pairwise.imp (R := (· < ·)) (fun {a b} h => by omega) ?_
  exact List.Pairwise.filter _ List.pairwise_lt_range
/-- Whatever list has just them, each once, comes to them when it is sorted. -/
theorem fins_of {l : List MOp} {p : List Int} (hn : p.Nodup) (hm : ∀ x, x ∈ p ↔ ∃ i : Nat, x = i ∧ Fin l l.length i) : (p.mergeSort fun x y => decide (x ≤ y)) = finsL l := by
  have h1 : (p.mergeSort fun x y => decide (x ≤ y)).Pairwise (fun a b => decide (a ≤ b) = true) := List.pairwise_mergeSort (fun a b c h1 h2 => by simp at *; omega) (fun a b => by simp; omega) p
  have h2 : (p.mergeSort fun x y => decide (x ≤ y)).Perm p := List.mergeSort_perm p _
  have h3 : p.Perm (finsL l) := (List.perm_ext_iff_of_nodup hn ((fins_rise l).imp (fun {a b} h => by omega))).2 (fun x => by rw [hm, mem_fins])
  refine List.Perm.eq_of_pairwise (le := fun a b : Int => a ≤ b) (fun a b _ _ h h' => by omega) (h1.imp (fun {a b} h => by simpa using h)) ((fins_rise l).imp (fun {a b} h => by omega)) (h2.trans h3)
end Go.Proofs.Ytadlnkaphkbfdaa
