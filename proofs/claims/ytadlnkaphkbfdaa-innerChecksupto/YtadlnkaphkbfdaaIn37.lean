/-
  The reads that come first, plain; the document's words for both.
-/
import Derived.Test.YtadlnkaphkbfdaaIn30
namespace Go.Proofs.Ytadlnkaphkbfdaa
set_option linter.unusedVariables false
set_option linter.unusedSimpArgs false

def UseP (o : MOp) : Prop := wrt o = true ∨ rds o = true
/-- Among the first n operations i is a read ahead of which its thing is not used. -/
def Out (l : List MOp) (n i : Nat) : Prop := i < n ∧ rds (opAt l i) = true ∧ ∀ j, j < i → UseP (opAt l j) → ¬ OfT (opAt l j) (thg (opAt l i).kind) (opAt l i).key
theorem us_out (l : List MOp) : ∀ (k : Nat) (t : Int) (s : ByteArray),
    (usAt l k t s = none → ∀ j, j < k → UseP (opAt l j) → ¬ OfT (opAt l j) t s) ∧
    (∀ x f, usAt l k t s = some (x, f) → (x = -1 ∧ ∃ j, j < k ∧ wrt (opAt l j) = true ∧ OfT (opAt l j) t s ∧ ∀ i, i < j → UseP (opAt l i) → ¬ OfT (opAt l i) t s) ∨ ∃ i : Nat, x = i ∧ Out l k i ∧ OfT (opAt l i) t s)
  | 0, t, s => ⟨fun _ j hj => by omega, fun x f h => by simp [usAt] at h⟩
  | k + 1, t, s => by
    have ih := us_out l k t s
    have e : usAt l (k + 1) = (usAt l k).on (opAt l k) k := rfl
    rw [e]
    have keep : ∀ x : Int, ((x = -1 ∧ ∃ j, j < k ∧ wrt (opAt l j) = true ∧ OfT (opAt l j) t s ∧ ∀ i, i < j → UseP (opAt l i) → ¬ OfT (opAt l i) t s) ∨ ∃ i : Nat, x = i ∧ Out l k i ∧ OfT (opAt l i) t s) →
        ((x = -1 ∧ ∃ j, j < k + 1 ∧ wrt (opAt l j) = true ∧ OfT (opAt l j) t s ∧ ∀ i, i < j → UseP (opAt l i) → ¬ OfT (opAt l i) t s) ∨ ∃ i : Nat, x = i ∧ Out l (k + 1) i ∧ OfT (opAt l i) t s) := by
      rintro x (⟨h1, j, h2, h3⟩ | ⟨i, h1, h2, h3⟩)
      · exact .inl ⟨h1, j, by omega, h3⟩
      · exact .inr ⟨i, h1, ⟨by have := h2.1; omega, h2.2⟩, h3⟩
    have keepN : (UseP (opAt l k) → ¬ OfT (opAt l k) t s) → (∀ j, j < k → UseP (opAt l j) → ¬ OfT (opAt l j) t s) → ∀ j, j < k + 1 → UseP (opAt l j) → ¬ OfT (opAt l j) t s := by
      intro hn h j hj hw
      by_cases ej : j = k
      · subst ej; exact hn hw
      · exact h j (by omega) hw
    unfold Us.on
    by_cases hu : wrt (opAt l k) = true ∨ rds (opAt l k) = true
    · rw [if_pos hu]
      by_cases ht : OfT (opAt l k) t s
      · obtain ⟨rfl, rfl⟩ := ht
        rw [Us.put_same]
        refine ⟨fun h => (by cases h), fun x f h => ?_⟩
        unfold useOf at h
        simp only [Option.some.injEq, Prod.mk.injEq] at h
        obtain ⟨hx, _⟩ := h
        cases hU : usAt l k (thg (opAt l k).kind) (opAt l k).key with
        | none =>
          rw [hU] at hx
          have hN := ih.1 hU
          by_cases hw : wrt (opAt l k) = true
          · rw [if_neg (fun c => by rw [hw] at c; cases c.2)] at hx
            simp only [Option.getD_none] at hx
            exact .inl ⟨hx.symm, k, by omega, hw, ⟨rfl, rfl⟩, hN⟩
          · rw [if_pos ⟨rfl, by simpa using hw⟩] at hx
            exact .inr ⟨k, hx.symm, ⟨by omega, hu.resolve_left hw, hN⟩, rfl, rfl⟩
        | some u =>
          obtain ⟨x', f'⟩ := u
          rw [hU] at hx
          rw [if_neg (fun c => by cases c.1)] at hx
          simp only [Option.getD_some] at hx
          subst hx
          exact keep _ (ih.2 _ _ hU)
      · rw [Us.put_other _ _ _ _ _ _ (fun c => ht ⟨c.1.symm, c.2.symm⟩)]
        exact ⟨fun h => keepN (fun _ => ht) (ih.1 h), fun x f h => keep x (ih.2 x f h)⟩
    · rw [if_neg hu]
      exact ⟨fun h => keepN (fun h => absurd h hu) (ih.1 h), fun x f h => keep x (ih.2 x f h)⟩

theorem rds_wrt {o : MOp} (h : rds o = true) (hw : wrt o = true) : False := by
  unfold rds at h
  unfold wrt at hw
  simp only [Bool.and_eq_true, Bool.or_eq_true, beq_iff_eq] at h hw
  omega
theorem out_uniq {l : List MOp} {n i j : Nat} {t : Int} {s : ByteArray} (hi : Out l n i) (hj : Out l n j) (oi : OfT (opAt l i) t s) (oj : OfT (opAt l j) t s) : i = j := by
  rcases Nat.lt_trichotomy i j with h | h | h
  · exact absurd ⟨oi.1.trans oj.1.symm, oi.2.trans oj.2.symm⟩ (hj.2.2 i h (.inr hi.2.1))
  · exact h
  · exact absurd ⟨oj.1.trans oi.1.symm, oj.2.trans oi.2.symm⟩ (hi.2.2 j h (.inr hj.2.1))
theorem us_of_out {l : List MOp} {n i : Nat} (h : Out l n i) : ∃ f, usAt l n (thg (opAt l i).kind) (opAt l i).key = some ((i : Int), f) := by
  have hu := us_out l n (thg (opAt l i).kind) (opAt l i).key
  cases hU : usAt l n (thg (opAt l i).kind) (opAt l i).key with
  | none => exact absurd ⟨rfl, rfl⟩ (hu.1 hU i h.1 (.inr h.2.1))
  | some u =>
    obtain ⟨x, f⟩ := u
    rcases hu.2 x f hU with ⟨_, j, h1, h2, h3, h4⟩ | ⟨j, h1, h2, h3⟩
    · rcases Nat.lt_trichotomy i j with h5 | h5 | h5
      · exact absurd ⟨rfl, rfl⟩ (h4 i h5 (.inr h.2.1))
      · subst h5; exact (rds_wrt h.2.1 h2).elim
      · exact absurd h3 (h.2.2 j h5 (.inl h2))
    · have : j = i := out_uniq h2 h h3 ⟨rfl, rfl⟩
      subst this
      exact ⟨f, by rw [h1]⟩
theorem use_out {l : List MOp} {t : Int} {s : ByteArray} {u : Int × Int} (h : usAt l l.length t s = some u) (h0 : 0 ≤ u.1) : ∃ i : Nat, u.1 = i ∧ Out l l.length i ∧ OfT (opAt l i) t s := by
  obtain ⟨x, f⟩ := u
  rcases (us_out l l.length t s).2 x f h with ⟨h1, _⟩ | h1
  · simp only at h0; omega
  · exact h1

/-- Whether an operation uses what another one is of. -/
def hits (p o : MOp) : Bool := (wrt p || rds p) && (decide (thg p.kind = thg o.kind) && decide (p.key = o.key))
theorem hits_iff {p o : MOp} : hits p o = true ↔ UseP p ∧ OfT p (thg o.kind) o.key := by
  unfold hits UseP OfT
  simp only [Bool.and_eq_true, Bool.or_eq_true, decide_eq_true_eq]
def outB (l : List MOp) (i : Nat) : Bool := decide (i < l.length) && (rds (opAt l i) && (List.range i).all (fun j => !hits (opAt l j) (opAt l i)))
theorem outB_iff {l : List MOp} {i : Nat} : outB l i = true ↔ Out l l.length i := by
  unfold outB Out
  simp only [Bool.and_eq_true, decide_eq_true_eq, List.all_eq_true, List.mem_range, Bool.not_eq_true', Bool.eq_false_iff, ne_eq, hits_iff, not_and]
def outsL (l : List MOp) : List Int := ((List.range l.length).filter (outB l)).map fun i : Nat => (i : Int)
theorem mem_outs {l : List MOp} {x : Int} : x ∈ outsL l ↔ ∃ i : Nat, x = i ∧ Out l l.length i := by
  unfold outsL
  simp only [List.mem_map, List.mem_filter, List.mem_range, outB_iff]
  constructor
  · rintro ⟨i, ⟨_, h⟩, rfl⟩; exact ⟨i, rfl, h⟩
  · rintro ⟨i, rfl, h⟩; exact ⟨i, ⟨h.1, h⟩, rfl⟩
theorem sorted_of {P : Nat → Bool} {n : Nat} {p : List Int} (hn : p.Nodup) (hm : ∀ x, x ∈ p ↔ ∃ i : Nat, x = i ∧ i < n ∧ P i = true) : (p.mergeSort fun x y => decide (x ≤ y)) = ((List.range n).filter P).map fun i : Nat => (i : Int) := by
  have hr : (((List.range n).filter P).map fun i : Nat => (i : Int)).Pairwise (· < ·) := by
    rw [List.pairwise_map]
    refine List.Pairwise.imp (R := (· < ·)) (fun {a b} h => by omega) ?_
    exact List.Pairwise.filter _ List.pairwise_lt_range
  have h1 : (p.mergeSort fun x y => decide (x ≤ y)).Pairwise (fun a b => decide (a ≤ b) = true) := List.pairwise_mergeSort (fun a b c h1 h2 => by simp at *; omega) (fun a b => by simp; omega) p
  have h2 : (p.mergeSort fun x y => decide (x ≤ y)).Perm p := List.mergeSort_perm p _
  have h3 : p.Perm (((List.range n).filter P).map fun i : Nat => (i : Int)) := (List.perm_ext_iff_of_nodup hn (hr.imp (fun {a b} h => by omega))).2 (fun x => by
    rw [hm]
    simp only [List.mem_map, List.mem_filter, List.mem_range]
    constructor
    · rintro ⟨i, rfl, h⟩; exact ⟨i, h, rfl⟩
    · rintro ⟨i, h, rfl⟩; exact ⟨i, rfl, h⟩)
  refine List.Perm.eq_of_pairwise (le := fun a b : Int => a ≤ b) (fun a b _ _ h h' => by omega) (h1.imp (fun {a b} h => by simpa using h)) (hr.imp (fun {a b} h => by omega)) (h2.trans h3)
/-- A place more. -/
theorem range_snoc (P : Nat → Bool) (n : Nat) : ((List.range (n + 1)).filter P).map (fun i : Nat => (i : Int)) = ((List.range n).filter P).map (fun i : Nat => (i : Int)) ++ (if P n = true then [(n : Int)] else []) := by
  rw [List.range_succ, List.filter_append, List.map_append]
  congr 1
  by_cases h : P n = true
  · simp [h]
  · simp [h]

theorem isL_thg {p o : MOp} (hp : p.kind = 1 ∨ p.kind = 2 ∨ p.kind = 3 ∨ p.kind = 4) (ho : o.kind = 1 ∨ o.kind = 2 ∨ o.kind = 3 ∨ o.kind = 4) : (isL p == isL o) = decide (thg p.kind = thg o.kind) := by
  unfold isL thg
  rcases hp with h | h | h | h <;> rcases ho with h' | h' | h' | h' <;> rw [h, h'] <;> rfl
theorem rds_kind {o : MOp} (h : rds o = true) : o.kind = 2 ∨ o.kind = 4 := by
  unfold rds at h
  simp only [Bool.and_eq_true, Bool.or_eq_true, beq_iff_eq] at h
  exact h.2
theorem wrt_kind {o : MOp} (h : wrt o = true) : o.kind = 1 ∨ o.kind = 3 := by
  unfold wrt at h
  simp only [Bool.or_eq_true, beq_iff_eq] at h
  exact h
theorem lik_hits {p o : MOp} (ho : rds o = true) : (lik p o && (wrt p || p.has)) = hits p o := by
  have hk := rds_kind ho
  unfold lik hits
  by_cases hp : p.kind = 1 ∨ p.kind = 2 ∨ p.kind = 3 ∨ p.kind = 4
  · rw [isL_thg hp (by rcases hk with h | h <;> simp [h])]
    unfold wrt rds
    rcases hp with h | h | h | h <;> rcases hk with h' | h' <;> rw [h, h'] <;> cases p.has <;> simp [Bool.and_comm]
  · have h1 : wrt p = false := by unfold wrt; simp; omega
    have h2 : rds p = false := by unfold rds; simp; intro _; omega
    have h3 : (p.kind == 2) = false := by simp; omega
    have h4 : (p.kind == 4) = false := by simp; omega
    rw [h1, h2, h3, h4]
    simp
theorem lik_writes {p o : MOp} (hp : wrt p = true) (ho : wrt o = true) : lik p o = true ↔ OfT p (thg o.kind) o.key := by
  have h1 := wrt_kind hp
  have h2 := wrt_kind ho
  unfold lik OfT
  rw [hp, ho, isL_thg (by rcases h1 with h | h <;> simp [h]) (by rcases h2 with h | h <;> simp [h])]
  simp only [Bool.true_or, Bool.true_and, Bool.and_eq_true, decide_eq_true_eq]
  exact ⟨fun h => ⟨h.2, h.1⟩, fun h => ⟨h.2, h.1⟩⟩
end Go.Proofs.Ytadlnkaphkbfdaa
