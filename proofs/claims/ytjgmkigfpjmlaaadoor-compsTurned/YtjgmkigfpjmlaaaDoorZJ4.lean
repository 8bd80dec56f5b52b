/-
  Plain: the labels of a graph that is drawn edge by edge.
-/
import Derived.Test.YtjgmkigfpjmlaaaDoorZQ5
namespace Go.Proofs.YtjgmkigfpjmlaaaDoor
set_option linter.unusedVariables false
set_option linter.unusedSimpArgs false
open Go.RowKit

set_option maxHeartbeats 2000000 in
set_option maxRecDepth 100000 in
theorem turnC (f t x : Int) (w : World) :
    Calls Tryd.prog 39 #[.agg #[.int .i64 f, .int .i64 t, .int .i64 x]] w fun e w' => e = .returned (.agg #[.int .i64 t, .int .i64 f, .int .i64 x]) ∧ Below w.heap.size w w' := by
  go_enter Tryd.func39, Tryd.ntmps39
  go_wp2_with fail
  refine bodyPost_ret (v := .agg #[.int .i64 t, .int .i64 f, .int .i64 x]) (by simp [results, Tryd.results40, go_sem]) rfl ⟨rfl, ?_⟩
  exact (below_box w _).alloc (by simp) _

/-- An edge is added, or refused. -/
def stepE (n : Nat) (L : Nat → Nat → Nat) (e : Nat × Nat × Nat) : Nat → Nat → Nat := if addWhy n e.1 e.2.1 e.2.2 = 0 then addL L e.1 e.2.1 e.2.2 4 else L
theorem step_bit (n : Nat) (L : Nat → Nat → Nat) (e : Nat × Nat × Nat) (f t i : Nat) :
    (stepE n L e f t).testBit i = true ↔ (L f t).testBit i = true ∨ (addWhy n e.1 e.2.1 e.2.2 = 0 ∧ e.1 = f ∧ e.2.1 = t ∧ i < 4 ∧ e.2.2.testBit i = true) := by
  unfold stepE
  by_cases h : addWhy n e.1 e.2.1 e.2.2 = 0
  · rw [if_pos h, addL_bit]
    simp only [h, true_and, Bool.or_eq_true, Bool.and_eq_true, decide_eq_true_eq]
    constructor
    · rintro (a | ⟨⟨b, c, d⟩, x⟩)
      · exact .inl a
      · exact .inr ⟨b.symm, c.symm, d, x⟩
    · rintro (a | ⟨b, c, d, x⟩)
      · exact .inl a
      · exact .inr ⟨⟨b.symm, c.symm, d⟩, x⟩
  · rw [if_neg h]
    simp [h]
theorem fold_bit (n : Nat) (l : List (Nat × Nat × Nat)) (L : Nat → Nat → Nat) (f t i : Nat) :
    ((l.foldl (stepE n) L) f t).testBit i = true ↔ (L f t).testBit i = true ∨ ∃ e, e ∈ l ∧ addWhy n e.1 e.2.1 e.2.2 = 0 ∧ e.1 = f ∧ e.2.1 = t ∧ i < 4 ∧ e.2.2.testBit i = true := by
  induction l generalizing L with
  | nil => simp
  | cons e l ih =>
    rw [List.foldl_cons, ih, step_bit]
    constructor
    · rintro ((a | b) | ⟨e', m, b⟩)
      · exact .inl a
      · exact .inr ⟨e, List.mem_cons_self .., b⟩
      · exact .inr ⟨e', List.mem_cons_of_mem _ m, b⟩
    · rintro (a | ⟨e', m, b⟩)
      · exact .inl (.inl a)
      · rcases List.mem_cons.1 m with rfl | m
        · exact .inl (.inr b)
        · exact .inr ⟨e', m, b⟩
/-- What a list says of the labels does not hang on its order, nor on how often an edge stands in it. -/
theorem fold_same (n : Nat) (l l' : List (Nat × Nat × Nat)) (L : Nat → Nat → Nat) (h : ∀ e, e ∈ l ↔ e ∈ l') : l.foldl (stepE n) L = l'.foldl (stepE n) L := by
  funext f t
  apply Nat.eq_of_testBit_eq
  intro i
  rw [Bool.eq_iff_iff, fold_bit, fold_bit]
  simp only [h]
set_option maxRecDepth 100000 in
theorem mem_allE (L : Nat → Nat → Nat) (n : Nat) (h : ∀ f t, L f t < 16) (e : Nat × Nat × Nat) : e ∈ allE L n n ↔ ∃ f t, f < n ∧ t < n ∧ L f t ≠ 0 ∧ e = (f, t, L f t) := by
  unfold allE rowE lst
  simp only [List.mem_flatMap, List.mem_range, List.mem_map, List.mem_filter]
  have hE : ∀ f t, endsF L f 15 4 t = true ↔ L f t ≠ 0 := fun f t => by
    have := ends_15 L f t (h f t)
    cases hb : endsF L f 15 4 t
    · rw [hb] at this
      simp at this
      simp [this]
    · rw [hb] at this
      simp at this
      simp [this]
  constructor
  · rintro ⟨f, hf, t, ⟨ht, he⟩, rfl⟩
    exact ⟨f, t, hf, ht, (hE f t).1 he, rfl⟩
  · rintro ⟨f, t, hf, ht, he, rfl⟩
    exact ⟨f, hf, t, ⟨ht, (hE f t).2 he⟩, rfl⟩
theorem why_0 (n f t x : Nat) (hf : f < n) (ht : t < n) (hx : x < 16) (h0 : x ≠ 0) (hne : f ≠ t) : addWhy n (f : Int) (t : Int) (x : Int) = 0 := by
  unfold addWhy
  rw [if_neg (by omega), if_neg (by omega)]
/-- The edges drawn the other way round. -/
theorem fold_turn (L : Nat → Nat → Nat) (n : Nat) (h : ∀ f t, L f t < 16) (hd : ∀ f, L f f = 0) (f t : Nat) (hf : f < n) (ht : t < n) :
    (((allE L n n).map fun e => (e.2.1, e.1, e.2.2)).foldl (stepE n) (fun _ _ => 0)) f t = L t f := by
  apply Nat.eq_of_testBit_eq
  intro i
  rw [Bool.eq_iff_iff, fold_bit]
  constructor
  · rintro (a | ⟨e, m, _, rfl, rfl, hi, hb⟩)
    · simp at a
    · obtain ⟨e', m', rfl⟩ := List.mem_map.1 m
      obtain ⟨f', t', _, _, _, rfl⟩ := (mem_allE L n h e').1 m'
      exact hb
  · intro hb
    have h0 : L t f ≠ 0 := by intro e; rw [e] at hb; simp at hb
    have hne : f ≠ t := by rintro rfl; exact h0 (hd f)
    refine .inr ⟨(f, t, L t f), List.mem_map.2 ⟨(t, f, L t f), (mem_allE L n h _).2 ⟨t, f, ht, hf, h0, rfl⟩, rfl⟩, why_0 n f t _ hf ht (h t f) h0 hne, rfl, rfl, ?_, hb⟩
    by_cases hi : i < 4
    · exact hi
    · have := Nat.testBit_lt_two_pow (Nat.lt_of_lt_of_le (h t f) (Nat.pow_le_pow_right (n := 2) (i := 4) (by decide) (show 4 ≤ i by omega)))
      rw [this] at hb
      cases hb
/-- The edges of some labels alone. -/
theorem fold_only (L : Nat → Nat → Nat) (n m : Nat) (h : ∀ f t, L f t < 16) (hd : ∀ f, L f f = 0) (f t : Nat) (hf : f < n) (ht : t < n) :
    (((allE L n n).map fun e => (e.1, e.2.1, e.2.2 &&& m)).foldl (stepE n) (fun _ _ => 0)) f t = L f t &&& m := by
  apply Nat.eq_of_testBit_eq
  intro i
  rw [Bool.eq_iff_iff, fold_bit]
  constructor
  · rintro (a | ⟨e, mm, _, rfl, rfl, hi, hb⟩)
    · simp at a
    · obtain ⟨e', m', rfl⟩ := List.mem_map.1 mm
      obtain ⟨f', t', _, _, _, rfl⟩ := (mem_allE L n h e').1 m'
      exact hb
  · intro hb
    have h0 : L f t &&& m ≠ 0 := by intro e; rw [e] at hb; simp at hb
    have h1 : L f t ≠ 0 := by intro e; rw [e] at h0; simp at h0
    have hne : f ≠ t := by rintro rfl; exact h1 (hd f)
    have h16 : L f t &&& m < 16 := Nat.lt_of_le_of_lt Nat.and_le_left (h f t)
    refine .inr ⟨(f, t, L f t &&& m), List.mem_map.2 ⟨(f, t, L f t), (mem_allE L n h _).2 ⟨f, t, hf, ht, h1, rfl⟩, rfl⟩, why_0 n f t _ hf ht h16 h0 hne, rfl, rfl, ?_, hb⟩
    by_cases hi : i < 4
    · exact hi
    · have := Nat.testBit_lt_two_pow (Nat.lt_of_lt_of_le h16 (Nat.pow_le_pow_right (n := 2) (i := 4) (by decide) (show 4 ≤ i by omega)))
      rw [this] at hb
      cases hb
end Go.Proofs.YtjgmkigfpjmlaaaDoor
