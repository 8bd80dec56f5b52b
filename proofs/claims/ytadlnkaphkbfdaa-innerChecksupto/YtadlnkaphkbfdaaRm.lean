/-
  A range over a map, by what the map holds, whatever its keys are.
-/
import Derived.Test.YtadlnkaphkbfdaaMv
import Derived.Maps.RangeWalk
namespace Go.Proofs.Ytadlnkaphkbfdaa
set_option linter.unusedVariables false
set_option linter.unusedSimpArgs false
open Go.RowKit Go.Maps

/-- A range over block b, its iterator in block r; 'left' tells which keys are still to come. -/
def RangeG (w : World) (P : Program) (k : TypeId) (b r n : Nat) (f : Value → Option Value) (left : Value → Prop) (cnt : Nat) : Prop :=
  ∃ (D : DataW Value) (lf : Lit → Bool), w.ranges P k rawR b r n D lf cnt ∧ (∀ key kl, keyOf P k key = some kl → ∀ zd, D.atKey kl zd = ((f key).map DataW.held).getD zd) ∧ ∀ key kl, keyOf P k key = some kl → (lf kl = true ↔ left key)
theorem RangeG.lt {w : World} {P : Program} {k : TypeId} {b r n : Nat} {f : Value → Option Value} {left : Value → Prop} {cnt : Nat} (h : RangeG w P k b r n f left cnt) : r < w.heap.size := by
  obtain ⟨D, lf, h1, _⟩ := h
  exact h1.lt
theorem RangeG.owns {w : World} {P : Program} {k : TypeId} {b r n : Nat} {f : Value → Option Value} {left : Value → Prop} {cnt : Nat} (h : RangeG w P k b r n f left cnt) : MapV w P k b n f := by
  obtain ⟨D, lf, h1, h2, _⟩ := h
  exact ⟨D, h1.owns, h2⟩
theorem RangeG.same {w w' : World} {P : Program} {k : TypeId} {b r n : Nat} {f : Value → Option Value} {left : Value → Prop} {cnt : Nat} (h : RangeG w P k b r n f left cnt) (hb : w'.heap[b]? = w.heap[b]?) (hr : w'.heap[r]? = w.heap[r]?) : RangeG w' P k b r n f left cnt := by
  obtain ⟨D, lf, ⟨es, ck, since, seen, c0, q1, q2, q3, q4, q5, q6⟩, h2, h3⟩ := h
  exact ⟨D, lf, ⟨es, ck, since, seen, c0, hb.trans q1, q2, q3, q4, hr.trans q5, q6⟩, h2, h3⟩
theorem size_leG {w : World} {P : Program} {k : TypeId} {b n : Nat} {D : DataW Value} (h : w.ownsMap P k rawR b n D) : Maps.size D ≤ n := by
  obtain ⟨es, ck, _, _, h2, rfl⟩ := h
  rw [Maps.size_eq, length_sorted]
  simpa using h2
/-- range m, in a walk. -/
theorem wpList_rangeG {P : Program} {ops : Array Oper} {rest : List Oper} {o : Oper} {a : Act} {Q : Exit → Act → World → Prop} (w : World) (hg : o.guard = none) (m : Operand) (t k e : TypeId) (hop : o.op = Op.range t m) (K : Keyed P k) (ht : P.underlying t = some (.map k e)) (b n : Nat) (f : Value → Option Value)
    (hm : a.eval m = .map (some b)) (hown : MapV w P k b n f)
    (hK : ∀ w' cnt, RangeG w' P k b w.heap.size n f (fun key => (f key).isSome = true) cnt → cnt ≤ n → w.grownBy w' none → w'.heap.size = w.heap.size + 1 → wpList P ops Q rest (a.put o.dst (.pointer (some ⟨w.heap.size, 0, none⟩))) w') :
    wpList P ops Q (o :: rest) a w := by
  obtain ⟨D, h1, h2⟩ := hown
  refine wpList_range_own w hg m t hop k e K ht rawR b n D hm h1 (fun w' r1 r2 r3 => ?_)
  refine hK w' (Maps.size D) ⟨D, _, r1, h2, fun key kl hk => ?_⟩ (size_leG h1) r2 r3
  have hat := h2 _ _ hk
  cases hf : f key with
  | none =>
    rw [hf] at hat
    rw [Maps.has_false_of_atKey hat]
    simp [hf]
  | some v =>
    rw [hf] at hat
    rw [Maps.has_true_of_atKey (y := .held v) hat]
    simp [hf]
/-- The next entry, in a walk. -/
theorem wpList_nextG {P : Program} {ops : Array Oper} {rest : List Oper} {o : Oper} {a : Act} {Q : Exit → Act → World → Prop} (w : World) (hg : o.guard = none) (it : Operand) (hop : o.op = Op.next it false) (k : TypeId) (K : Keyed P k) (b r n : Nat) (f : Value → Option Value) (left : Value → Prop) (cnt : Nat)
    (hit : a.eval it = .pointer (some ⟨r, 0, none⟩)) (h : RangeG w P k b r n f left cnt)
    (hDone : (∀ key kl, keyOf P k key = some kl → ¬ left key) → wpList P ops Q rest (a.put o.dst (.tuple #[.bool false])) w)
    (hMore : ∀ (key v : Value) (kl : Lit) (w' : World) (cnt' : Nat), keyOf P k key = some kl → left key → f key = some v → RangeG w' P k b r n f (fun z => left z ∧ z ≠ key) cnt' → cnt' < cnt →
      w.grownBy w' (some r) → w'.heap.size = w.heap.size → (Instr.entry (.pointer (some ⟨r, 0, none⟩))).run P w' = .ok (.tuple #[key, v]) w' → wpList P ops Q rest (a.put o.dst (.tuple #[.bool true, key, v])) w') :
    wpList P ops Q (o :: rest) a w := by
  obtain ⟨D, lf, h1, h2, h3⟩ := h
  refine wpList_next_ranges w hg it hop k K rawR (fun v : Value => v) (fun v : Value => v) (fun key kl hk => ⟨key, rfl⟩) (fun v y hv => ⟨v, rfl⟩) b r n D lf cnt hit h1 (fun _ hl => hDone (fun key kl hk hl2 => by have := (h3 key kl hk).2 hl2; rw [hl] at this; cases this)) (fun key v kl y w' cnt' hk hlk hv hat hrg hlt hgr hsz hen => ?_)
  have hy : y.1 = .held v := by
    unfold rawR at hv
    injection hv with hv
    rw [← hv]
  have hf : f key = some v := by
    have q := h2 _ _ hk .nil
    rw [hat, hy] at q
    cases hf : f key with
    | none => rw [hf] at q; cases q
    | some u =>
      rw [hf] at q
      injection q with q
      rw [q]
  refine hMore key v kl w' cnt' hk ((h3 key kl hk).1 hlk) hf ⟨D, _, hrg, h2, fun z kz hz => ?_⟩ hlt hgr hsz hen
  show (lf kz && !kz.sameKey kl) = true ↔ left z ∧ z ≠ key
  rw [← h3 z kz hz]
  by_cases e : z = key
  · subst e
    rw [hk] at hz
    cases hz
    have : kl.sameKey kl = true := WideAt.sameKey_self (K.key hk)
    rw [this]
    simp
  · have hne : kz ≠ kl := fun c => e (K.inj (by rw [hz, c]) hk)
    rw [Maps.sameKey_ne hne]
    simp [e]
end Go.Proofs.Ytadlnkaphkbfdaa
