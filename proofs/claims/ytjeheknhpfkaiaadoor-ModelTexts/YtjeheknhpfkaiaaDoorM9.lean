/-
  A range over a map whose keys are strings, by what the map holds; maps.Copy of registers.
-/
import Derived.Test.YtjeheknhpfkaiaaDoorM8
import Derived.Maps.RangeWalk
namespace Go.Proofs.YtjeheknhpfkaiaaDoor
set_option linter.unusedVariables false
set_option linter.unusedSimpArgs false
open Go.RowKit Go.Lib Go.Maps

/-- A key as a literal. -/
def kl (s : ByteArray) : Lit := .string s.data.toList
theorem kl_inj {s t : ByteArray} (h : kl s = kl t) : s = t := by
  unfold kl at h
  injection h with h
  exact WideShapes.bytes_inj h
/-- A range over block b, its iterator in block r; 'left' tells which keys are still to come. -/
def RangeV (w : World) (P : Program) (b r n : Nat) (f : Value → Option Value) (left : ByteArray → Bool) (cnt : Nat) : Prop :=
  ∃ (D : DataW Value) (lf : Lit → Bool), w.ranges P 9 rawR b r n D lf cnt ∧ (∀ key k, keyOf P 9 key = some k → ∀ zd, D.atKey k zd = ((f key).map DataW.held).getD zd) ∧ ∀ s, lf (kl s) = left s
theorem RangeV.lt {w : World} {P : Program} {b r n : Nat} {f : Value → Option Value} {left : ByteArray → Bool} {cnt : Nat} (h : RangeV w P b r n f left cnt) : r < w.heap.size := by
  obtain ⟨D, lf, h1, _⟩ := h
  exact h1.lt
theorem RangeV.owns {w : World} {P : Program} {b r n : Nat} {f : Value → Option Value} {left : ByteArray → Bool} {cnt : Nat} (h : RangeV w P b r n f left cnt) : MapV w P 9 b n f := by
  obtain ⟨D, lf, h1, h2, _⟩ := h
  exact ⟨D, h1.owns, h2⟩
theorem RangeV.same {w w' : World} {P : Program} {b r n : Nat} {f : Value → Option Value} {left : ByteArray → Bool} {cnt : Nat} (h : RangeV w P b r n f left cnt) (hb : w'.heap[b]? = w.heap[b]?) (hr : w'.heap[r]? = w.heap[r]?) : RangeV w' P b r n f left cnt := by
  obtain ⟨D, lf, ⟨es, ck, since, seen, c0, q1, q2, q3, q4, q5, q6⟩, h2, h3⟩ := h
  exact ⟨D, lf, ⟨es, ck, since, seen, c0, hb.trans q1, q2, q3, q4, hr.trans q5, q6⟩, h2, h3⟩
theorem size_le {w : World} {P : Program} {b n : Nat} {D : DataW Value} (h : w.ownsMap P 9 rawR b n D) : Maps.size D ≤ n := by
  obtain ⟨es, ck, _, _, h2, rfl⟩ := h
  rw [Maps.size_eq, length_sorted]
  simpa using h2
/-- range m, in a walk. -/
theorem wpList_rangeV {P : Program} {ops : Array Oper} {rest : List Oper} {o : Oper} {a : Act} {Q : Exit → Act → World → Prop} (w : World) (hg : o.guard = none) (m : Operand) (t e : TypeId) (hop : o.op = Op.range t m) (h9 : P.underlying 9 = some .string) (K : Keyed P 9) (ht : P.underlying t = some (.map 9 e)) (b n : Nat) (f : Value → Option Value)
    (hm : a.eval m = .map (some b)) (hown : MapV w P 9 b n f)
    (hK : ∀ w' left cnt, RangeV w' P b w.heap.size n f left cnt → cnt ≤ n → (∀ s : ByteArray, s.size ≤ maxLen → left s = (f (.string s)).isSome) → w.grownBy w' none → w'.heap.size = w.heap.size + 1 → wpList P ops Q rest (a.put o.dst (.pointer (some ⟨w.heap.size, 0, none⟩))) w') :
    wpList P ops Q (o :: rest) a w := by
  obtain ⟨D, h1, h2⟩ := hown
  refine wpList_range_own w hg m t hop 9 e K ht rawR b n D hm h1 (fun w' r1 r2 r3 => ?_)
  refine hK w' (fun s => Maps.has D (kl s)) (Maps.size D) ⟨D, _, r1, h2, fun s => rfl⟩ (size_le h1) (fun s hs => ?_) r2 r3
  have hk : keyOf P 9 (.string s) = some (kl s) := Go.WideMaps.keyOf_string_mk h9 hs
  have hat := h2 _ _ hk
  cases hf : f (.string s) with
  | none =>
    rw [hf] at hat
    exact Maps.has_false_of_atKey hat
  | some v =>
    rw [hf] at hat
    exact Maps.has_true_of_atKey (y := .held v) hat
/-- The next entry, in a walk. -/
theorem wpList_nextV {P : Program} {ops : Array Oper} {rest : List Oper} {o : Oper} {a : Act} {Q : Exit → Act → World → Prop} (w : World) (hg : o.guard = none) (it : Operand) (hop : o.op = Op.next it false) (h9 : P.underlying 9 = some .string) (K : Keyed P 9) (b r n : Nat) (f : Value → Option Value) (left : ByteArray → Bool) (cnt : Nat)
    (hit : a.eval it = .pointer (some ⟨r, 0, none⟩)) (h : RangeV w P b r n f left cnt)
    (hDone : (∀ s, left s = false) → wpList P ops Q rest (a.put o.dst (.tuple #[.bool false])) w)
    (hMore : ∀ (s : ByteArray) (v : Value) (w' : World) (cnt' : Nat), s.size ≤ maxLen → left s = true → f (.string s) = some v → RangeV w' P b r n f (fun z => left z && !decide (z = s)) cnt' → cnt' < cnt →
      w.grownBy w' (some r) → w'.heap.size = w.heap.size → (Instr.entry (.pointer (some ⟨r, 0, none⟩))).run P w' = .ok (.tuple #[.string s, v]) w' → wpList P ops Q rest (a.put o.dst (.tuple #[.bool true, .string s, v])) w') :
    wpList P ops Q (o :: rest) a w := by
  obtain ⟨D, lf, h1, h2, h3⟩ := h
  refine wpList_next_ranges w hg it hop 9 K rawR Value.string (fun v : Value => v) (fun key k hk => ?_) (fun v y hv => ⟨v, rfl⟩) b r n D lf cnt hit h1 (fun _ hl => hDone (fun s => by rw [← h3]; exact hl _)) (fun s v k y w' cnt' hk hlk hv hat hrg hlt hgr hsz hen => ?_)
  · obtain ⟨s, rfl, _, _⟩ := Go.WideMaps.string_of_keyOf h9 hk
    exact ⟨s, rfl⟩
  · obtain ⟨s', e1, e2, e3⟩ := Go.WideMaps.string_of_keyOf h9 hk
    injection e1 with e1
    subst e1
    have hks : k = kl s := e2
    subst hks
    have hy : y.1 = .held v := by
      unfold rawR at hv
      injection hv with hv
      rw [← hv]
    have hf : f (.string s) = some v := by
      have q := h2 _ _ hk .nil
      rw [hat, hy] at q
      cases hf : f (.string s) with
      | none => rw [hf] at q; cases q
      | some u =>
        rw [hf] at q
        injection q with q
        rw [q]
    refine hMore s v w' cnt' e3 (by rw [← h3]; exact hlk) hf ⟨D, _, hrg, h2, fun z => ?_⟩ hlt hgr hsz hen
    show (lf (kl z) && !(kl z).sameKey (kl s)) = _
    rw [h3]
    by_cases e : z = s
    · subst e
      have : (kl z).sameKey (kl z) = true := WideAt.sameKey_self (K.key hk)
      rw [this]
      simp
    · have : (kl z).sameKey (kl s) = false := Maps.sameKey_ne (fun c => e (kl_inj c))
      rw [this]
      simp [e]
end Go.Proofs.YtjeheknhpfkaiaaDoor
