/-
  A map by what it holds: whatever its elements are.
-/
import Derived.ProofKit
import Derived.Maps.Own
import Derived.Maps.OwnSet
import Derived.Maps.Views
namespace Go.Proofs.Ytnfbcmnlloipiaa
set_option linter.unusedVariables false
set_option linter.unusedSimpArgs false
open Go.RowKit Go.Maps

/-- A value reads as itself. -/
def rawR (v : Value) : Option (DataW Value × List MemPlace) := some (.held v, [])
/-- Block b is a map of at most n entries that holds f. -/
def MapV (w : World) (P : Program) (k : TypeId) (b n : Nat) (f : Value → Option Value) : Prop :=
  ∃ D : DataW Value, w.ownsMap P k rawR b n D ∧ ∀ key kl, keyOf P k key = some kl → ∀ zd, D.atKey kl zd = ((f key).map DataW.held).getD zd
theorem MapV.made (w : World) (P : Program) (k : TypeId) : MapV (w.alloc (.map #[] 0)) P k w.heap.size 0 (fun _ => none) :=
  ⟨_, World.ownsMap_made _ _ _ _, fun _ _ _ _ => rfl⟩
theorem MapV.lt {w : World} {P : Program} {k : TypeId} {b n : Nat} {f : Value → Option Value} (h : MapV w P k b n f) : b < w.heap.size := by
  obtain ⟨D, h1, _⟩ := h
  exact h1.lt
theorem MapV.same {w w' : World} {P : Program} {k : TypeId} {b n : Nat} {f : Value → Option Value} (h : MapV w P k b n f) (hb : w'.heap[b]? = w.heap[b]?) : MapV w' P k b n f := by
  obtain ⟨D, ⟨es, clock, h1, h2, h3, h4⟩, h5⟩ := h
  exact ⟨D, ⟨es, clock, hb.trans h1, h2, h3, h4⟩, h5⟩
theorem MapV.mono {w : World} {P : Program} {k : TypeId} {b n n' : Nat} {f : Value → Option Value} (h : MapV w P k b n f) (hn : n ≤ n') : MapV w P k b n' f := by
  obtain ⟨D, h1, h2⟩ := h
  exact ⟨D, h1.mono hn, h2⟩
theorem MapV.block {w : World} {P : Program} {k : TypeId} {b n : Nat} {f : Value → Option Value} (h : MapV w P k b n f) : ∃ es clock, w.heap[b]? = some (.map es clock) := by
  obtain ⟨D, ⟨es, clock, h1, h2, h3, h4⟩, h5⟩ := h
  exact ⟨es, clock, h1⟩
theorem MapV.find {w : World} {P : Program} {k t e : TypeId} {b n : Nat} {f : Value → Option Value} (h : MapV w P k b n f) (K : Keyed P k) (ht : P.underlying t = some (.map k e)) {z : Value} (hz : (zeroValue e).run P w = .ok z w)
    {key : Value} {kl : Lit} (hkey : keyOf P k key = some kl) (c : Bool) : (Instr.lookup t (.map (some b)) key c).run P w = .ok (if c then .tuple #[(f key).getD z, .bool (f key).isSome] else (f key).getD z) w := by
  obtain ⟨D, ⟨es, clock, hb, F, _, rfl⟩, h5⟩ := h
  have hat5 := h5 key kl hkey
  rcases fit_look c K ht hz hb F hkey with ⟨hrun, _, hat⟩ | ⟨e0, y, _, _, hrun, hRv, hat, _⟩
  · have e : f key = none := by
      cases hf : f key with
      | none => rfl
      | some v =>
        have h1 := hat5 .nil
        rw [hat, hf] at h1
        cases h1
    rw [hrun, e]
    rfl
  · have hy : y.1 = .held e0.val := by
      unfold rawR at hRv
      injection hRv with hRv
      rw [← hRv]
    have e : f key = some e0.val := by
      have h1 := hat5 .nil
      rw [hat, hy] at h1
      cases hf : f key with
      | none => rw [hf] at h1; cases h1
      | some v =>
        rw [hf] at h1
        injection h1 with h1
        rw [h1]
    rw [hrun, e]
    rfl
theorem MapV.look {w : World} {P : Program} {k t e : TypeId} {b n : Nat} {f : Value → Option Value} (h : MapV w P k b n f) (K : Keyed P k) (ht : P.underlying t = some (.map k e)) {z : Value} (hz : (zeroValue e).run P w = .ok z w)
    {key : Value} {kl : Lit} (hkey : keyOf P k key = some kl) : (Instr.lookup t (.map (some b)) key false).run P w = .ok ((f key).getD z) w := h.find K ht hz hkey false
theorem MapV.look_ok {w : World} {P : Program} {k t e : TypeId} {b n : Nat} {f : Value → Option Value} (h : MapV w P k b n f) (K : Keyed P k) (ht : P.underlying t = some (.map k e)) {z : Value} (hz : (zeroValue e).run P w = .ok z w)
    {key : Value} {kl : Lit} (hkey : keyOf P k key = some kl) : (Instr.lookup t (.map (some b)) key true).run P w = .ok (.tuple #[(f key).getD z, .bool (f key).isSome]) w := h.find K ht hz hkey true
/-- g is what is held behind a store. -/
def IsPut (f : Value → Option Value) (key val : Value) (g : Value → Option Value) : Prop := g key = some val ∧ ∀ x, x ≠ key → g x = f x
theorem put_ex (f : Value → Option Value) (key val : Value) : ∃ g, IsPut f key val g := by
  classical
  exact ⟨fun x => if x = key then some val else f x, by simp, fun x h => by simp [h]⟩
theorem MapV.put {w : World} {P : Program} {k t e : TypeId} {b n : Nat} {f : Value → Option Value} (h : MapV w P k b n f) (K : Keyed P k) (ht : P.underlying t = some (.map k e)) (hn : n < maxLen) {key : Value} (val : Value) {kl : Lit} (hkey : keyOf P k key = some kl) :
    ∃ w' g, (Instr.mapUpdate t (.map (some b)) key val).run P w = .ok () w' ∧ IsPut f key val g ∧ MapV w' P k b (n + 1) g ∧ w.grownBy w' (some b) := by
  obtain ⟨D, h1, h5⟩ := h
  obtain ⟨w', r1, r2, r3⟩ := h1.update K ht hn hkey (val := val) (d := .held val) (ps := []) rfl
  obtain ⟨g, hp⟩ := put_ex f key val
  refine ⟨w', g, r1, hp, ⟨_, r2, fun key' kl' hk' zd => ?_⟩, r3⟩
  by_cases ek : key' = key
  · subst ek
    rw [hkey] at hk'
    cases hk'
    rw [atKey_put_same h1.isMap (K.key hkey), hp.1]
    rfl
  · have hne : kl' ≠ kl := fun c => ek (K.inj (by rw [hk', c]) hkey)
    rw [atKey_put_other hne, h5 key' kl' hk', hp.2 _ ek]
/-- m[key] = val, in a walk. -/
theorem wpList_mapV {P : Program} {ops : Array Oper} {rest : List Oper} {o : Oper} {a : Act} {Q : Exit → Act → World → Prop} (w : World) (hg : o.guard = none) (m x v : Operand) (t : TypeId) (hop : o.op = Op.mapUpdate t m x v)
    (k e : TypeId) (K : Keyed P k) (ht : P.underlying t = some (.map k e)) (b n : Nat) (f : Value → Option Value) (hm : a.eval m = .map (some b)) (h : MapV w P k b n f) (hn : n < maxLen) (key val : Value) (kl : Lit) (hx : a.eval x = key) (hv : a.eval v = val) (hkey : keyOf P k key = some kl)
    (hK : ∀ w' g, IsPut f key val g → MapV w' P k b (n + 1) g → w.grownBy w' (some b) → wpList P ops Q rest (a.put o.dst undef) w') : wpList P ops Q (o :: rest) a w := by
  refine wpList_plain hg fun K' hK' => ?_
  obtain ⟨w', g, hrun, hp, r1, r2⟩ := h.put K ht hn val hkey
  unfold Oper.wp
  simp [execOp, hop, hm, hx, hv, hrun, Result.andThen]
  exact hK' _ _ (hK w' g hp r1 r2)
end Go.Proofs.Ytnfbcmnlloipiaa
