/-
  What a look holds of a table's transactions, plain.
-/
import Derived.Test.YtnfbcmnlloipiaaLg12
import Derived.Test.YtnfbcmnlloipiaaTb12
namespace Go.Proofs.Ytnfbcmnlloipiaa
set_option linter.unusedVariables false
set_option linter.unusedSimpArgs false
open Go.RowKit Go.Lib Go.Maps
open Tx (MTxn)

/-- A read of the list s that counts. -/
def isRd (s : ByteArray) (st : Int) (o : MOp) : Bool := decide (o.key = s) && (o.kind == 2) && o.has && (st == 1)
def rdB (l : List MTxn) (s : ByteArray) (x : MN) : Bool := isRd s (l.getD x.1 default).state x.2.2
def rdsN (l : List MTxn) (s : ByteArray) (N : List MN) : List MRx := (N.filter (rdB l s)).map fun x => (x.1, x.2.1, x.2.2.list)
theorem rds_snoc (l : List MTxn) (s : ByteArray) (N : List MN) (x : MN) : rdsN l s (N ++ [x]) = rdsN l s N ++ (if isRd s (l.getD x.1 default).state x.2.2 then [(x.1, x.2.1, x.2.2.list)] else []) := by
  unfold rdsN
  rw [List.filter_append, List.map_append]
  congr 1
  by_cases h : rdB l s x = true
  · rw [List.filter_cons_of_pos h]
    unfold rdB at h
    rw [if_pos h]
    rfl
  · rw [List.filter_cons_of_neg h]
    unfold rdB at h
    rw [if_neg h]
    rfl
theorem rds_len (l : List MTxn) (s : ByteArray) (N : List MN) : (rdsN l s N).length ≤ N.length := by
  unfold rdsN
  rw [List.length_map]
  exact List.length_filter_le _ _
theorem rds_mem {l : List MTxn} {s : ByteArray} {N : List MN} {r : MRx} (h : r ∈ rdsN l s N) : ∃ x ∈ N, r = (x.1, x.2.1, x.2.2.list) := by
  unfold rdsN at h
  obtain ⟨x, hx, rfl⟩ := List.mem_map.1 h
  exact ⟨x, (List.mem_filter.1 hx).1, rfl⟩
/-- A write, and what became of it. -/
def failB (st : Int) : Bool := (st != 1) && (st != 3)
def finB (T : List MOp) (i : Nat) : Bool := decide (i < T.length) && (isW (T.getD i default).kind && (List.range T.length).all fun j => decide (j ≤ i) || !(isW (T.getD j default).kind && decide ((T.getD j default).key = (T.getD i default).key)))
theorem finB_is (T : List MOp) (i : Nat) : finB T i = true ↔ finT T i := by
  unfold finB finT
  rw [Bool.and_eq_true, Bool.and_eq_true, decide_eq_true_eq, List.all_eq_true]
  refine and_congr_right fun h1 => and_congr_right fun h2 => ⟨fun h j hj hl c => ?_, fun h j hj => ?_⟩
  · have := h j (List.mem_range.2 hl)
    rw [c.1, c.2, Bool.or_eq_true, decide_eq_true_eq] at this
    rcases this with h3 | h3
    · omega
    · rw [decide_eq_true rfl] at h3
      exact absurd h3 (by decide)
  · by_cases hji : j ≤ i
    · simp [hji]
    · have := h j (by omega) (List.mem_range.1 hj)
      simp only [Bool.or_eq_true, decide_eq_true_eq, Bool.not_eq_true', Bool.and_eq_false_iff, decide_eq_false_iff_not]
      refine .inr ?_
      by_cases hw : isW (T.getD j default).kind = true
      · exact .inr fun c => this ⟨hw, c⟩
      · exact .inl (by simpa using hw)
def srcOf (l : List MTxn) (x : MN) : MSrc := (x.1, x.2.1, failB (l.getD x.1 default).state, finB (l.getD x.1 default).ops x.2.1)
def srcN (l : List MTxn) (s : ByteArray) (N : List MN) (v : Int) : Option MSrc := ((N.filter (hitW s v)).getLast?).map (srcOf l)
theorem src_snoc (l : List MTxn) (s : ByteArray) (N : List MN) (x : MN) (v : Int) : srcN l s (N ++ [x]) v = if hitW s v x then some (srcOf l x) else srcN l s N v := by
  unfold srcN
  by_cases h : hitW s v x = true <;> simp [h]
theorem src_mem {l : List MTxn} {s : ByteArray} {N : List MN} {v : Int} {y : MSrc} (h : srcN l s N v = some y) : ∃ x ∈ N, hitW s v x = true ∧ y = srcOf l x := by
  unfold srcN at h
  obtain ⟨x, hx, rfl⟩ := Option.map_eq_some_iff.1 h
  have := List.mem_filter.1 (List.mem_of_getLast? hx)
  exact ⟨x, this.1, this.2, rfl⟩
/-- The first of the longest. -/
def longS (t r : MRx) : MRx := if t.2.2.length < r.2.2.length then r else t
def longR (R : List MRx) : MRx := R.foldl longS (0, 0, [])
theorem long_snoc (R : List MRx) (r : MRx) : longR (R ++ [r]) = longS (longR R) r := by
  unfold longR
  rw [List.foldl_append]
  rfl
theorem long_ge (R : List MRx) : ∀ t, t.2.2.length ≤ (R.foldl longS t).2.2.length ∧ ∀ r ∈ R, r.2.2.length ≤ (R.foldl longS t).2.2.length := by
  induction R with
  | nil => intro t; exact ⟨Nat.le_refl _, fun r hr => by simp at hr⟩
  | cons a R ih =>
    intro t
    rw [List.foldl_cons]
    obtain ⟨h1, h2⟩ := ih (longS t a)
    have h3 : t.2.2.length ≤ (longS t a).2.2.length ∧ a.2.2.length ≤ (longS t a).2.2.length := by
      unfold longS
      split <;> omega
    refine ⟨by omega, fun r hr => ?_⟩
    rcases List.mem_cons.1 hr with rfl | hr
    · omega
    · exact h2 r hr
theorem long_max {R : List MRx} {r : MRx} (h : r ∈ R) : r.2.2.length ≤ (longR R).2.2.length := (long_ge R _).2 r h
theorem long_mem (R : List MRx) : ∀ t, R.foldl longS t = t ∨ R.foldl longS t ∈ R := by
  induction R with
  | nil => intro t; exact .inl rfl
  | cons a R ih =>
    intro t
    rw [List.foldl_cons]
    rcases ih (longS t a) with h | h
    · rw [h]
      unfold longS
      split
      · exact .inr (by simp)
      · exact .inl rfl
    · exact .inr (List.mem_cons_of_mem _ h)
theorem long_in (R : List MRx) : longR R = (0, 0, []) ∨ longR R ∈ R := long_mem R _
/-- What a look knows. -/
def knwN (l : List MTxn) (s : ByteArray) (N : List MN) : Knw := ⟨srcN l s N, (longR (rdsN l s N)).1, (longR (rdsN l s N)).2.2⟩
end Go.Proofs.Ytnfbcmnlloipiaa
