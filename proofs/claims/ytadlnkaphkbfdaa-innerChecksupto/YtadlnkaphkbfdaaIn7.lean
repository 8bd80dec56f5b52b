/-
  Plain: without writes all reads of a thing must be alike.
-/
import Derived.Test.YtadlnkaphkbfdaaIn6
namespace Go.Proofs.Ytadlnkaphkbfdaa
set_option linter.unusedVariables false
set_option linter.unusedSimpArgs false
open Go.RowKit Go.Lib

def sam (o p : MOp) : Bool := if o.kind = 4 then o.nl == p.nl && (o.nl || o.value == p.value) else decide (o.list = p.list)
/-- Two reads of one thing that are not alike. -/
def dif (o p : MOp) : Bool := o.has && (p.has && (o.kind == p.kind && (decide (o.key = p.key) && !sam o p)))
def qb (R : List MOp) (i : Nat) : Bool := (List.range i).any fun j => dif (R.getD i default) (R.getD j default)
theorem dif_iff (o p : MOp) : dif o p = true ↔ o.has = true ∧ p.has = true ∧ o.kind = p.kind ∧ o.key = p.key ∧ sam o p = false := by
  unfold dif
  simp
theorem fits_sam (k : Kn) (o p : MOp) (hk : o.kind = 2 ∨ o.kind = 4) (hkk : p.kind = o.kind) (hw : k.whole = true) (h : k.fits o = true) : k.fits p = sam p o := by
  obtain ⟨kw, kl, kn, kv⟩ := k
  simp only at hw
  subst hw
  rcases hk with e | e
  · rw [e] at hkk
    simp [Kn.fits, e] at h
    simp [Kn.fits, sam, hkk, h]
  · rw [e] at hkk
    simp [Kn.fits, e] at h
    simp [Kn.fits, sam, hkk]
    obtain ⟨h1, h2⟩ := h
    rw [h1]
    cases hp : p.nl <;> cases hn : kn <;> simp
    rw [h1, hn] at h2
    simp at h2
    rw [h2]
theorem sam_self (o : MOp) : sam o o = true := by
  unfold sam
  split <;> simp
/-- What is known ahead of place i, while all are alike. -/
def Alk (R : List MOp) (i : Nat) (c : Int) (s : ByteArray) : Prop :=
  ((stAt R i (thg c) s).whole = false ∧ (stAt R i (thg c) s).list = [] ∧ ∀ j, j < i → (R.getD j default).has = true → (R.getD j default).kind = c → (R.getD j default).key = s → False) ∨
  ((stAt R i (thg c) s).whole = true ∧ (∃ j, j < i ∧ (R.getD j default).has = true ∧ (R.getD j default).kind = c ∧ (R.getD j default).key = s) ∧ ∀ j, j < i → (R.getD j default).has = true → (R.getD j default).kind = c → (R.getD j default).key = s → (stAt R i (thg c) s).fits (R.getD j default) = true)
theorem wit_read (k : Kn) (o p : MOp) (hk : o.kind = 2 ∨ o.kind = 4) (hh : o.has = true) (hp : p.kind = o.kind) : (k.wit o).whole = true ∧ (k.wit o).fits p = sam p o := by
  rcases hk with e | e
  · rw [e] at hp
    simp [Kn.wit, rds, e, hh, Kn.fits, sam, hp]
  · rw [e] at hp
    simp [Kn.wit, rds, e, hh, Kn.fits, sam, hp]
theorem wit_not (k : Kn) (o : MOp) (hk : o.kind = 2 ∨ o.kind = 4) (hh : o.has = false) : k.wit o = k := by
  rcases hk with e | e <;> simp [Kn.wit, rds, e, hh]
theorem thg_kind {a b : Int} (ha : a = 2 ∨ a = 4) (hb : b = 2 ∨ b = 4) (h : thg a = thg b) : a = b := by
  rcases ha with rfl | rfl <;> rcases hb with rfl | rfl <;> first | rfl | (simp [thg] at h)
theorem alk_bad (R : List MOp) (i : Nat) (hR : (R.getD i default).kind = 2 ∨ (R.getD i default).kind = 4) (h : Alk R i (R.getD i default).kind (R.getD i default).key) : bad R i = qb R i := by
  have hb : bad R i = (rds (R.getD i default) && !((stAt R i) (thg (R.getD i default).kind) (R.getD i default).key).fits (R.getD i default)) := rfl
  have hq : qb R i = (List.range i).any fun j => dif (R.getD i default) (R.getD j default) := rfl
  rw [hb, hq]
  unfold Alk at h
  generalize R.getD i default = o at *
  generalize stAt R i (thg o.kind) o.key = k at *
  have hr : rds o = o.has := by rcases hR with e | e <;> simp [rds, e]
  rw [hr]
  cases hh : o.has with
  | false =>
    symm
    simp only [Bool.false_and]
    rw [List.any_eq_false]
    intro j _ c
    have := (dif_iff _ _).1 c
    rw [hh] at this
    cases this.1
  | true =>
    simp only [Bool.true_and]
    rcases h with ⟨h1, h2, h3⟩ | ⟨h1, ⟨j0, hj0, a1, a2, a3⟩, h3⟩
    · have hf : k.fits o = true := by
        rcases hR with e | e <;> simp [Kn.fits, e, h1, h2]
      rw [hf]
      symm
      show _ = false
      rw [List.any_eq_false]
      intro j hj c
      obtain ⟨_, c2, c3, c4, _⟩ := (dif_iff _ _).1 c
      exact h3 j (List.mem_range.1 hj) c2 c3.symm c4.symm
    · have key : ∀ j, j < i → (R.getD j default).has = true → (R.getD j default).kind = o.kind → (R.getD j default).key = o.key → k.fits o = sam o (R.getD j default) := fun j hj b1 b2 b3 => fits_sam k _ o (by rw [b2]; exact hR) b2.symm h1 (h3 j hj b1 b2 b3)
      cases hf : k.fits o with
      | true =>
        symm
        show _ = false
        rw [List.any_eq_false]
        intro j hj c
        obtain ⟨_, c2, c3, c4, c5⟩ := (dif_iff _ _).1 c
        have := key j (List.mem_range.1 hj) c2 c3.symm c4.symm
        rw [hf, c5] at this
        cases this
      | false =>
        symm
        show _ = true
        rw [List.any_eq_true]
        refine ⟨j0, List.mem_range.2 hj0, (dif_iff _ _).2 ⟨hh, a1, a2.symm, a3.symm, ?_⟩⟩
        rw [← key j0 hj0 a1 a2 a3, hf]
theorem alk_all (R : List MOp) (n : Nat) (hR : ∀ i, i < n → (R.getD i default).kind = 2 ∨ (R.getD i default).kind = 4) : ∀ i, i ≤ n → (∀ j, j < i → bad R j = false) → ∀ c s, (c = 2 ∨ c = 4) → Alk R i c s := by
  intro i
  induction i with
  | zero => intro _ _ c s _; exact .inl ⟨rfl, rfl, fun j hj => by omega⟩
  | succ i ih =>
    intro hi hb c s hc
    have IH := ih (by omega) (fun j hj => hb j (by omega)) c s hc
    have hbi := hb i (by omega)
    have hRi := hR i (by omega)
    have eS : stAt R (i + 1) (thg c) s = (stAt R i).on (R.getD i default) (thg c) s := rfl
    have hb2 : bad R i = (rds (R.getD i default) && !((stAt R i) (thg (R.getD i default).kind) (R.getD i default).key).fits (R.getD i default)) := rfl
    unfold Alk at *
    rw [eS]
    by_cases e : thg (R.getD i default).kind = thg c ∧ (R.getD i default).key = s
    · have ek : (R.getD i default).kind = c := thg_kind hRi hc e.1
      rw [St.on_same _ _ _ _ e.1 e.2]
      cases hh : (R.getD i default).has with
      | false =>
        rw [wit_not _ _ hRi hh]
        rcases IH with ⟨h1, h2, h3⟩ | ⟨h1, ⟨j0, hj0, a⟩, h3⟩
        · refine .inl ⟨h1, h2, fun j hj b1 b2 b3 => ?_⟩
          by_cases ej : j = i
          · rw [ej, hh] at b1; cases b1
          · exact h3 j (by omega) b1 b2 b3
        · refine .inr ⟨h1, ⟨j0, by omega, a⟩, fun j hj b1 b2 b3 => ?_⟩
          by_cases ej : j = i
          · rw [ej, hh] at b1; cases b1
          · exact h3 j (by omega) b1 b2 b3
      | true =>
        have hr : rds (R.getD i default) = true := by unfold rds; rw [hh]; rcases hRi with e | e <;> rw [e] <;> rfl
        rw [hb2, hr, e.1, e.2] at hbi
        simp at hbi
        refine .inr ⟨(wit_read _ _ (R.getD i default) hRi hh rfl).1, ⟨i, by omega, hh, ek, e.2⟩, fun j hj b1 b2 b3 => ?_⟩
        rw [(wit_read _ _ (R.getD j default) hRi hh (by rw [b2, ek])).2]
        by_cases ej : j = i
        · rw [ej]; exact sam_self _
        · rcases IH with ⟨h1, h2, h3⟩ | ⟨h1, _, h3⟩
          · exact (h3 j (by omega) b1 b2 b3).elim
          · rw [← fits_sam _ _ _ hRi (by rw [b2, ek]) h1 hbi]
            exact h3 j (by omega) b1 b2 b3
    · rw [St.on_other _ _ _ _ e]
      have no : ∀ j, j = i → (R.getD j default).kind = c → (R.getD j default).key = s → False := fun j ej b2 b3 => by
        subst ej
        exact e ⟨by rw [b2], b3⟩
      rcases IH with ⟨h1, h2, h3⟩ | ⟨h1, ⟨j0, hj0, a⟩, h3⟩
      · refine .inl ⟨h1, h2, fun j hj b1 b2 b3 => ?_⟩
        by_cases ej : j = i
        · exact no j ej b2 b3
        · exact h3 j (by omega) b1 b2 b3
      · refine .inr ⟨h1, ⟨j0, by omega, a⟩, fun j hj b1 b2 b3 => ?_⟩
        by_cases ej : j = i
        · exact (no j ej b2 b3).elim
        · exact h3 j (by omega) b1 b2 b3
theorem alike_eq (R : List MOp) (n : Nat) (hR : ∀ i, i < n → (R.getD i default).kind = 2 ∨ (R.getD i default).kind = 4) (r w : Int) (h : IsFirst (bad R) n r) (h' : IsFirst (qb R) n w) : r = w := by
  have key : ∀ i, i < n → (∀ j, j < i → bad R j = false) → bad R i = qb R i := fun i hi hb => alk_bad R i (hR i hi) (alk_all R n hR i (by omega) hb _ _ (hR i hi))
  refine IsFirst.uniq (p := qb R) (n := n) ?_ h'
  rcases h with ⟨rfl, h⟩ | ⟨i, hi, rfl, h1, h2⟩
  · exact .inl ⟨rfl, fun i hi => by rw [← key i hi (fun j hj => h j (by omega))]; exact h i hi⟩
  · exact .inr ⟨i, hi, rfl, by rw [← key i hi h2]; exact h1, fun j hj => by rw [← key j (by omega) (fun j' hj' => h2 j' (by omega))]; exact h2 j hj⟩
theorem st_bound (R : List MOp) (B : Nat) (h : ∀ i, (R.getD i default).list.length * 8 ≤ B) (h1 : ∀ i, (R.getD i default).kind ≠ 1) (i : Nat) (t : Int) (s : ByteArray) : (stAt R i t s).list.length * 8 ≤ B := by
  induction i generalizing t s with
  | zero => simp [stAt, Kn.zero]
  | succ i ih =>
    show ((stAt R i).on (R.getD i default) t s).list.length * 8 ≤ _
    by_cases e : thg (R.getD i default).kind = t ∧ (R.getD i default).key = s
    · rw [St.on_same _ _ _ _ e.1 e.2]
      unfold Kn.wit
      rw [if_neg (h1 i)]
      split
      · simp
      · split
        · split
          · exact h i
          · simp
        · exact ih t s
    · rw [St.on_other _ _ _ _ e]
      exact ih t s
/-- The first place, told one place further. -/
theorem IsFirst.next {p : Nat → Bool} {i : Nat} {x : Int} (h : IsFirst p i x) : IsFirst p (i + 1) (if x < 0 ∧ p i = true then (i : Int) else x) := by
  rcases h with ⟨rfl, h⟩ | ⟨j, hj, rfl, h1, h2⟩
  · cases hp : p i with
    | true => rw [if_pos ⟨by omega, rfl⟩]; exact .inr ⟨i, by omega, rfl, hp, h⟩
    | false => rw [if_neg (by simp)]; exact .inl ⟨rfl, fun j hj => by by_cases e : j = i; (· rw [e]; exact hp); (· exact h j (by omega))⟩
  · rw [if_neg (by omega)]
    exact .inr ⟨j, by omega, rfl, h1, h2⟩
theorem IsFirst.low {p : Nat → Bool} {i : Nat} {x : Int} (h : IsFirst p i x) : -1 ≤ x ∧ x < (i : Int) + 1 := by
  rcases h with ⟨rfl, h⟩ | ⟨j, hj, rfl, h1, h2⟩ <;> omega
end Go.Proofs.Ytadlnkaphkbfdaa
