/-
  Plain: what a transaction knows of lists and registers, the first read that is wrong, and the document's words for it.
-/
import Derived.Test.YtadlnkaphkbfdaaData
namespace Go.Proofs.Ytadlnkaphkbfdaa
set_option linter.unusedVariables false
set_option linter.unusedSimpArgs false
open Go.RowKit

/-- What is known of a thing. -/
structure Kn where
  whole : Bool
  list : List Int
  none : Bool
  value : Int
def Kn.zero : Kn := ⟨false, [], false, 0⟩
def thg (k : Int) : Int := if k = 1 ∨ k = 2 then 1 else if k = 3 ∨ k = 4 then 3 else 0
def rds (o : MOp) : Bool := o.has && (o.kind == 2 || o.kind == 4)
def Kn.fits (k : Kn) (o : MOp) : Bool :=
  if o.kind = 2 then (if k.whole then decide (o.list = k.list) else decide (k.list.length ≤ o.list.length) && decide (o.list.drop (o.list.length - k.list.length) = k.list))
  else if k.whole then o.nl == k.none && (o.nl || o.value == k.value) else true
def Kn.wit (k : Kn) (o : MOp) : Kn :=
  if o.kind = 1 then ⟨k.whole, k.list ++ [o.value], k.none, k.value⟩
  else if o.kind = 3 then ⟨true, [], false, o.value⟩
  else if rds o then (if o.kind = 2 then ⟨true, o.list, false, 0⟩ else ⟨true, [], o.nl, o.value⟩)
  else k
abbrev St := Int → ByteArray → Kn
def St.put (K : St) (t : Int) (s : ByteArray) (k : Kn) : St := fun t' s' => if t' = t ∧ s' = s then k else K t' s'
def St.on (K : St) (o : MOp) : St := K.put (thg o.kind) o.key ((K (thg o.kind) o.key).wit o)
theorem St.put_same (K : St) (t : Int) (s : ByteArray) (k : Kn) : K.put t s k t s = k := by unfold St.put; simp
theorem St.put_other (K : St) (t : Int) (s : ByteArray) (k : Kn) (t' : Int) (s' : ByteArray) (h : ¬ (t' = t ∧ s' = s)) : K.put t s k t' s' = K t' s' := by unfold St.put; rw [if_neg h]
/-- What is known ahead of place i. -/
def stAt (l : List MOp) : Nat → St
  | 0 => fun _ _ => Kn.zero
  | i + 1 => (stAt l i).on (l.getD i default)
def bad (l : List MOp) (i : Nat) : Bool := rds (l.getD i default) && !((stAt l i) (thg (l.getD i default).kind) (l.getD i default).key).fits (l.getD i default)
/-- r is the first place below n at which p holds; -1: none. -/
def IsFirst (p : Nat → Bool) (n : Nat) (r : Int) : Prop := (r = -1 ∧ ∀ i, i < n → p i = false) ∨ ∃ i : Nat, i < n ∧ r = i ∧ p i = true ∧ ∀ j, j < i → p j = false
theorem IsFirst.uniq {p : Nat → Bool} {n : Nat} {r r' : Int} (h : IsFirst p n r) (h' : IsFirst p n r') : r = r' := by
  rcases h with ⟨rfl, h⟩ | ⟨i, hi, rfl, h1, h2⟩
  · rcases h' with ⟨rfl, _⟩ | ⟨j, hj, _, k1, _⟩
    · rfl
    · rw [h j hj] at k1; cases k1
  · rcases h' with ⟨_, h'⟩ | ⟨j, hj, rfl, k1, k2⟩
    · rw [h' i hi] at h1; cases h1
    · have : i = j := by
        rcases Nat.lt_trichotomy i j with h | h | h
        · rw [k2 i h] at h1; cases h1
        · exact h
        · rw [h2 j h] at k1; cases k1
      rw [this]
theorem IsFirst.congr {p p' : Nat → Bool} {n : Nat} {r : Int} (h : IsFirst p n r) (e : ∀ i, i < n → p i = p' i) : IsFirst p' n r := by
  rcases h with ⟨rfl, h⟩ | ⟨i, hi, rfl, h1, h2⟩
  · exact .inl ⟨rfl, fun i hi => by rw [← e i hi]; exact h i hi⟩
  · exact .inr ⟨i, hi, rfl, by rw [← e i hi]; exact h1, fun j hj => by rw [← e j (by omega)]; exact h2 j hj⟩
theorem stAt_take (l : List MOp) (n i : Nat) (h : i ≤ n) : stAt (l.take n) i = stAt l i := by
  induction i with
  | zero => rfl
  | succ i ih =>
    have e : (l.take n).getD i default = l.getD i default := by simp [List.getD, List.getElem?_take, show i < n by omega]
    show (stAt (l.take n) i).on _ = (stAt l i).on _
    rw [ih (by omega), e]
theorem bad_take (l : List MOp) (n i : Nat) (h : i < n) : bad (l.take n) i = bad l i := by
  have e : (l.take n).getD i default = l.getD i default := by simp [List.getD, List.getElem?_take, h]
  unfold bad
  rw [stAt_take l n i (by omega), e]

/-! The document's words. -/
def isL (o : MOp) : Bool := o.kind == 1 || o.kind == 2
def wrt (o : MOp) : Bool := o.kind == 1 || o.kind == 3
def lik (a b : MOp) : Bool := (wrt a || a.kind == 2 || a.kind == 4) && (wrt b || b.kind == 2 || b.kind == 4) && decide (a.key = b.key) && (isL a == isL b)
/-- What is known of the list of o, and how much, ahead of place i. -/
def rvw (l : List MOp) (o : MOp) : Nat → Bool × List Int
  | 0 => (false, [])
  | i + 1 => if lik (l.getD i default) o then (if (l.getD i default).kind = 1 then ((rvw l o i).1, (rvw l o i).2 ++ [(l.getD i default).value]) else if (l.getD i default).has then (true, (l.getD i default).list) else rvw l o i) else rvw l o i
def rightL (l : List MOp) (o : MOp) (i : Nat) : Bool :=
  if o.list.length < (rvw l o i).2.length ∨ ((rvw l o i).1 = true ∧ o.list.length ≠ (rvw l o i).2.length) then false else decide (o.list.drop (o.list.length - (rvw l o i).2.length) = (rvw l o i).2)
/-- Whether an operation tells nothing of the register of o. -/
def skp (p o : MOp) : Bool := !lik p o || (p.kind == 4 && !p.has)
def says (p o : MOp) : Bool := if p.kind = 3 then !o.nl && p.value == o.value else p.nl == o.nl && (p.nl || p.value == o.value)
def rreg (l : List MOp) (o : MOp) : Nat → Bool
  | 0 => true
  | i + 1 => if skp (l.getD i default) o then rreg l o i else says (l.getD i default) o
def rbad (l : List MOp) (i : Nat) : Bool :=
  rds (l.getD i default) && (((l.getD i default).kind == 2 && !rightL l (l.getD i default) i) || ((l.getD i default).kind == 4 && !rreg l (l.getD i default) i))

theorem St.on_other (K : St) (p : MOp) (t : Int) (s : ByteArray) (h : ¬ (thg p.kind = t ∧ p.key = s)) : K.on p t s = K t s := by
  unfold St.on
  exact St.put_other _ _ _ _ _ _ (fun c => h ⟨c.1.symm, c.2.symm⟩)
theorem St.on_same (K : St) (p : MOp) (t : Int) (s : ByteArray) (h1 : thg p.kind = t) (h2 : p.key = s) : K.on p t s = (K t s).wit p := by
  subst h1 h2
  unfold St.on
  exact St.put_same _ _ _ _
theorem rvw_st (l : List MOp) (o : MOp) (ho : o.kind = 2) (i : Nat) : (stAt l i 1 o.key).whole = (rvw l o i).1 ∧ (stAt l i 1 o.key).list = (rvw l o i).2 := by
  induction i with
  | zero => exact ⟨rfl, rfl⟩
  | succ i ih =>
    have eS : stAt l (i + 1) = (stAt l i).on (l.getD i default) := rfl
    have eR : rvw l o (i + 1) = if lik (l.getD i default) o then (if (l.getD i default).kind = 1 then ((rvw l o i).1, (rvw l o i).2 ++ [(l.getD i default).value]) else if (l.getD i default).has then (true, (l.getD i default).list) else rvw l o i) else rvw l o i := rfl
    rw [eS, eR]
    generalize l.getD i default = p at *
    by_cases hl : lik p o = true
    · rw [if_pos hl]
      have hk : (p.kind = 1 ∨ p.kind = 2) ∧ p.key = o.key := by
        simp only [lik, isL, wrt, Bool.and_eq_true, Bool.or_eq_true, beq_iff_eq, decide_eq_true_eq, ho] at hl
        refine ⟨?_, hl.1.2⟩
        have h4 := hl.2
        simp at h4
        exact h4
      rw [St.on_same _ p 1 o.key (by unfold thg; rw [if_pos hk.1]) hk.2]
      rcases hk.1 with e | e
      · rw [if_pos e]
        unfold Kn.wit
        rw [if_pos e]
        exact ⟨ih.1, by simp only; rw [ih.2]⟩
      · rw [if_neg (by rw [e]; decide)]
        unfold Kn.wit rds
        rw [if_neg (by rw [e]; decide), if_neg (by rw [e]; decide)]
        by_cases hh : p.has = true
        · rw [if_pos hh, if_pos (by simp [hh, e]), if_pos e]
          exact ⟨rfl, rfl⟩
        · rw [if_neg hh, if_neg (by simp [hh])]
          exact ih
    · rw [if_neg hl, St.on_other]
      · exact ih
      · rintro ⟨h1, h2⟩
        apply hl
        have hk : p.kind = 1 ∨ p.kind = 2 := by
          unfold thg at h1
          split at h1
          · assumption
          · split at h1 <;> omega
        rcases hk with e | e <;> simp [lik, isL, wrt, e, ho, h2]
theorem rreg_st (l : List MOp) (o : MOp) (ho : o.kind = 4) (i : Nat) : (stAt l i 3 o.key).fits o = rreg l o i := by
  induction i with
  | zero => simp [stAt, Kn.fits, Kn.zero, rreg, ho]
  | succ i ih =>
    have eS : stAt l (i + 1) = (stAt l i).on (l.getD i default) := rfl
    have eR : rreg l o (i + 1) = if skp (l.getD i default) o then rreg l o i else says (l.getD i default) o := rfl
    rw [eS, eR]
    generalize l.getD i default = p at *
    by_cases hl : lik p o = true
    · have hk : (p.kind = 3 ∨ p.kind = 4) ∧ p.key = o.key := by
        simp only [lik, isL, wrt, Bool.and_eq_true, Bool.or_eq_true, beq_iff_eq, decide_eq_true_eq, ho] at hl
        refine ⟨?_, hl.1.2⟩
        have h4 := hl.2
        have h5 := hl.1.1.1
        simp at h4
        omega
      rw [St.on_same _ p 3 o.key (by unfold thg; rw [if_neg (by omega), if_pos hk.1]) hk.2]
      rcases hk.1 with e | e
      · have : skp p o = false := by simp [skp, hl, e]
        rw [this]
        simp [Kn.wit, Kn.fits, says, e, ho]
        cases o.nl <;> simp
        exact beq_sw _ _
      · by_cases hh : p.has = true
        · have : skp p o = false := by simp [skp, hl, hh]
          rw [this]
          simp [Kn.wit, Kn.fits, says, rds, e, ho, hh]
          cases o.nl <;> cases p.nl <;> simp
          exact beq_sw _ _
        · have : skp p o = true := by simp [skp, hl, hh, e]
          rw [this]
          have e2 : (stAt l i 3 o.key).wit p = stAt l i 3 o.key := by simp [Kn.wit, rds, e, hh]
          rw [e2]
          simpa using ih
    · have : skp p o = true := by simp [skp, hl]
      rw [this, St.on_other]
      · simpa using ih
      · rintro ⟨h1, h2⟩
        apply hl
        have hk : p.kind = 3 ∨ p.kind = 4 := by
          unfold thg at h1
          split at h1
          · omega
          · split at h1
            · assumption
            · omega
        rcases hk with e | e <;> simp [lik, isL, wrt, e, ho, h2]
theorem bad_rbad (l : List MOp) (i : Nat) : bad l i = rbad l i := by
  unfold bad rbad
  generalize ho : l.getD i default = o
  cases hr : rds o with
  | false => rfl
  | true =>
    simp only [Bool.true_and]
    have hk : o.kind = 2 ∨ o.kind = 4 := by
      simp [rds] at hr
      exact hr.2
    rcases hk with e | e
    · obtain ⟨h1, h2⟩ := rvw_st l o e i
      have et : thg o.kind = 1 := by unfold thg; rw [if_pos (.inr e)]
      rw [et]
      have ef : (stAt l i 1 o.key).fits o = rightL l o i := by
        unfold Kn.fits rightL
        rw [if_pos e, h1, h2]
        generalize (rvw l o i).1 = kn
        generalize (rvw l o i).2 = v
        cases kn
        · simp
          by_cases hlt : o.list.length < v.length
          · rw [decide_eq_false (by omega)]
            simp [hlt]
          · rw [decide_eq_true (by omega)]
            simp [hlt]
        · simp
          by_cases hne : o.list.length = v.length
          · simp [hne]
          · have hn : ¬ o.list = v := fun c => hne (by rw [c])
            simp [hne, hn]
      rw [ef]
      simp [e]
    · have et : thg o.kind = 3 := by unfold thg; rw [if_neg (by omega), if_pos (.inr e)]
      rw [et, rreg_st l o e i]
      simp [e]
end Go.Proofs.Ytadlnkaphkbfdaa
