/-
  A key struck out of a map; what a state's lists and registers are behind a store; setList, setRegister.
-/
import Derived.Test.YtjeheknhpfkaiaaDoorM1
namespace Go.Proofs.YtjeheknhpfkaiaaDoor
set_option linter.unusedVariables false
set_option linter.unusedSimpArgs false
open Go.RowKit Go.Lib Go.Maps

/-- g is what is held behind a delete. -/
def IsDrop (f : Value → Option Value) (key : Value) (g : Value → Option Value) : Prop := g key = none ∧ ∀ x, x ≠ key → g x = f x
theorem drop_ex (f : Value → Option Value) (key : Value) : ∃ g, IsDrop f key g := by
  classical
  exact ⟨fun x => if x = key then none else f x, by simp, fun x h => by simp [h]⟩
theorem MapV.drop {w : World} {P : Program} {k t e : TypeId} {b n : Nat} {f : Value → Option Value} (h : MapV w P k b n f) (K : Keyed P k) (ht : P.underlying t = some (.map k e)) {key : Value} {kl : Lit} (hkey : keyOf P k key = some kl) (ty : TypeId) :
    ∃ w' g, (Builtin.delete_ #[t, k] ty #[.map (some b), key]).run P w = .ok (.tuple #[]) w' ∧ IsDrop f key g ∧ MapV w' P k b n g ∧ w.grownBy w' (some b) := by
  obtain ⟨D, h1, h5⟩ := h
  obtain ⟨w', r1, r2, r3⟩ := h1.drop K ht hkey ty
  obtain ⟨g, hp⟩ := drop_ex f key
  refine ⟨w', g, r1, hp, ⟨_, r2, fun key' kl' hk' zd => ?_⟩, r3.grown⟩
  by_cases ek : key' = key
  · subst ek
    rw [hkey] at hk'
    cases hk'
    rw [atKey_del_same, hp.1]
    rfl
  · have hne : kl' ≠ kl := fun c => ek (K.inj (by rw [hk', c]) hkey)
    rw [atKey_del_other hne, h5 key' kl' hk', hp.2 _ ek]
/-- delete(m, key), in a walk. -/
theorem wpList_dropV {P : Program} {ops : Array Oper} {rest : List Oper} {o : Oper} {a : Act} {Q : Exit → Act → World → Prop} (w : World) (hg : o.guard = none) (m x : Operand) (t k : TypeId) (hop : o.op = Op.call { callee := Callee.builtin Builtin.delete, args := #[m, x], argTypes := #[t, k] })
    (e : TypeId) (K : Keyed P k) (ht : P.underlying t = some (.map k e)) (b n : Nat) (f : Value → Option Value) (hm : a.eval m = .map (some b)) (h : MapV w P k b n f) (key : Value) (kl : Lit) (hx : a.eval x = key) (hkey : keyOf P k key = some kl)
    (hK : ∀ w' g, IsDrop f key g → MapV w' P k b n g → w.grownBy w' (some b) → wpList P ops Q rest (a.put o.dst (.tuple #[])) w') : wpList P ops Q (o :: rest) a w := by
  refine wpList_plain hg fun K' hK' => ?_
  obtain ⟨w', g, hrun, hp, r1, r2⟩ := h.drop K ht hkey o.type
  unfold Oper.wp
  simp [execOp, hop, resolve, invoke, builtin, hm, hx, hrun, Result.andThen]
  exact hK' _ _ (hK w' g hp r1 r2)

/-- The lists of a state, but for one of them. -/
structure LsX (B : Nat) (w : World) (lb : Nat) (F : Nat → Prop) (n : Nat) (key : ByteArray) (L : ByteArray → List Int) (S : ByteArray → Value) : Prop where
  map : ∃ f, MapV w Tryd.prog 9 lb n f ∧ ∀ s, s ≠ key → f (.string s) = if L s = [] then none else some (S s)
  nil : ∀ s, s ≠ key → L s = [] → S s = .slice none 0 0
  own : ∀ s, s ≠ key → w.ownsRow B 3 1 (S s) (L s).length ((L s).map (Value.int .i64))
  foot : ∀ s g, s ≠ key → (S s).ownBlock = some g → F g
  apart : ∀ s s' g, s ≠ key → s' ≠ key → (S s).ownBlock = some g → (S s').ownBlock = some g → s = s'
theorem Ls.less {B : Nat} {w : World} {lb : Nat} {F : Nat → Prop} {n : Nat} {L : ByteArray → List Int} {S : ByteArray → Value} (h : Ls B w lb F n L S) (key : ByteArray) : LsX B w lb F n key L S := by
  obtain ⟨f, h1, h2⟩ := h.map
  exact ⟨⟨f, h1, fun s _ => h2 s⟩, fun s _ => h.nil s, fun s _ => h.own s, fun s g _ => h.foot s g, fun s s' g _ _ => h.apart s s' g⟩
theorem LsX.keep {B : Nat} {w w' : World} {lb : Nat} {F F' : Nat → Prop} {n : Nat} {key : ByteArray} {L : ByteArray → List Int} {S : ByteArray → Value} (h : LsX B w lb F n key L S) (hl : w'.heap[lb]? = w.heap[lb]?) (hk : ∀ s g, s ≠ key → (S s).ownBlock = some g → w'.heap[g]? = w.heap[g]?) (hF : ∀ b, F b → F' b) : LsX B w' lb F' n key L S := by
  obtain ⟨f, h1, h2⟩ := h.map
  exact ⟨⟨f, h1.same hl, h2⟩, h.nil, fun s hs => own_same (h.own s hs) (fun g hg => hk s g hs hg), fun s g hs hg => hF g (h.foot s g hs hg), h.apart⟩
theorem map_ne {w : World} {B z n lb m g : Nat} {v : Value} {xs : List Value} {f : Value → Option Value} (h : w.ownsRow B 3 z v n xs) (hm : MapV w Tryd.prog 9 lb m f) : v.ownBlock ≠ some lb := fun e => by
  obtain ⟨_, _, cs, hc⟩ := own_block h e
  obtain ⟨es, ck, he⟩ := hm.block
  rw [hc] at he
  cases he
/-- One list is another. -/
def upd (L : ByteArray → List Int) (key : ByteArray) (xs : List Int) : ByteArray → List Int := fun s => if s = key then xs else L s
theorem LsX.put {B : Nat} {w w2 : World} {lb : Nat} {F : Nat → Prop} {n : Nat} {key : ByteArray} {L : ByteArray → List Int} {S : ByteArray → Value} (h : LsX B w lb F n key L S) {v : Value} {xs : List Int} (hv : w.ownsRow B 3 1 v xs.length (xs.map (Value.int .i64))) (hx : xs ≠ [])
    (hf : ∀ g, v.ownBlock = some g → F g) (ha : ∀ s g, s ≠ key → v.ownBlock = some g → (S s).ownBlock ≠ some g)
    (f g : Value → Option Value) (hm0 : ∀ s, s ≠ key → f (.string s) = if L s = [] then none else some (S s)) (hf0 : MapV w Tryd.prog 9 lb n f) (hp : IsPut f (.string key) v g) (hm : MapV w2 Tryd.prog 9 lb (n + 1) g) (hg : w.grownBy w2 (some lb)) :
    ∃ S', Ls B w2 lb F (n + 1) (upd L key xs) S' := by
  have hrow : ∀ {u : Value} {k : Nat} {ys : List Value}, w.ownsRow B 3 1 u k ys → w2.ownsRow B 3 1 u k ys := fun {u k ys} hu => own_same hu (fun q hq => hg.block q (own_block hu hq).2.1 (fun e => map_ne (g := 0) hu hf0 (by rw [hq, e])))
  refine ⟨fun s => if s = key then v else S s, ⟨g, hm, fun s => ?_⟩, fun s hs => ?_, fun s => ?_, fun s q hq => ?_, fun s s' q e1 e2 => ?_⟩
  · by_cases e : s = key
    · subst e
      simp only [upd, if_true]
      rw [if_neg hx]
      exact hp.1
    · simp only [upd, if_neg e]
      rw [hp.2 _ (fun c => e (by injection c))]
      exact hm0 s e
  · by_cases e : s = key
    · subst e
      simp only [upd, if_true] at hs
      exact absurd hs hx
    · simp only [upd, if_neg e] at hs ⊢
      exact h.nil s e hs
  · by_cases e : s = key
    · subst e
      simp only [upd, if_true]
      exact hrow hv
    · simp only [upd, if_neg e]
      exact hrow (h.own s e)
  · by_cases e : s = key
    · subst e
      simp only [if_true] at hq
      exact hf q hq
    · simp only [if_neg e] at hq
      exact h.foot s q e hq
  · by_cases c1 : s = key
    · by_cases c2 : s' = key
      · rw [c1, c2]
      · simp only [c1, if_true] at e1
        simp only [if_neg c2] at e2
        exact absurd e2 (ha s' q c2 e1)
    · by_cases c2 : s' = key
      · simp only [c2, if_true] at e2
        simp only [if_neg c1] at e1
        exact absurd e1 (ha s q c1 e2)
      · simp only [if_neg c1] at e1
        simp only [if_neg c2] at e2
        exact h.apart s s' q c1 c2 e1 e2
theorem LsX.gone {B : Nat} {w w2 : World} {lb : Nat} {F : Nat → Prop} {n : Nat} {key : ByteArray} {L : ByteArray → List Int} {S : ByteArray → Value} (h : LsX B w lb F n key L S)
    (f g : Value → Option Value) (hm0 : ∀ s, s ≠ key → f (.string s) = if L s = [] then none else some (S s)) (hf0 : MapV w Tryd.prog 9 lb n f) (hp : IsDrop f (.string key) g) (hm : MapV w2 Tryd.prog 9 lb n g) (hg : w.grownBy w2 (some lb)) :
    ∃ S', Ls B w2 lb F (n + 1) (upd L key []) S' := by
  have hrow : ∀ {u : Value} {k : Nat} {ys : List Value}, w.ownsRow B 3 1 u k ys → w2.ownsRow B 3 1 u k ys := fun {u k ys} hu => own_same hu (fun q hq => hg.block q (own_block hu hq).2.1 (fun e => map_ne (g := 0) hu hf0 (by rw [hq, e])))
  refine ⟨fun s => if s = key then .slice none 0 0 else S s, ⟨g, hm.mono (Nat.le_succ _), fun s => ?_⟩, fun s hs => ?_, fun s => ?_, fun s q hq => ?_, fun s s' q e1 e2 => ?_⟩
  · by_cases e : s = key
    · subst e
      simp only [upd, if_true]
      exact hp.1
    · simp only [upd, if_neg e]
      rw [hp.2 _ (fun c => e (by injection c))]
      exact hm0 s e
  · by_cases e : s = key
    · subst e
      simp only [if_true]
    · simp only [upd, if_neg e] at hs ⊢
      exact h.nil s e hs
  · by_cases e : s = key
    · subst e
      simp only [upd, if_true]
      exact World.ownsRow_nil _ _ _ _
    · simp only [upd, if_neg e]
      exact hrow (h.own s e)
  · by_cases e : s = key
    · subst e
      simp [Value.ownBlock] at hq
    · simp only [if_neg e] at hq
      exact h.foot s q e hq
  · by_cases c1 : s = key
    · simp [c1, Value.ownBlock] at e1
    · by_cases c2 : s' = key
      · simp [c2, Value.ownBlock] at e2
      · simp only [if_neg c1] at e1
        simp only [if_neg c2] at e2
        exact h.apart s s' q c1 c2 e1 e2
/-- One register is another. -/
def updR (R : ByteArray → Option Int) (key : ByteArray) (r : Option Int) : ByteArray → Option Int := fun s => if s = key then r else R s
theorem Rs.put {w2 : World} {rb n : Nat} {R : ByteArray → Option Int} {key : ByteArray} {v : Int} (f g : Value → Option Value) (hm0 : ∀ s, f (.string s) = (R s).map (fun v => .agg #[.int .i64 v, .bool true])) (hp : IsPut f (.string key) (.agg #[.int .i64 v, .bool true]) g) (hm : MapV w2 Tryd.prog 9 rb (n + 1) g) : Rs w2 rb (n + 1) (updR R key (some v)) := by
  refine ⟨g, hm, fun s => ?_⟩
  by_cases e : s = key
  · subst e
    simp only [updR, if_true]
    exact hp.1
  · simp only [updR, if_neg e]
    rw [hp.2 _ (fun c => e (by injection c))]
    exact hm0 s
theorem Rs.gone {w2 : World} {rb n : Nat} {R : ByteArray → Option Int} {key : ByteArray} (f g : Value → Option Value) (hm0 : ∀ s, f (.string s) = (R s).map (fun v => .agg #[.int .i64 v, .bool true])) (hp : IsDrop f (.string key) g) (hm : MapV w2 Tryd.prog 9 rb n g) : Rs w2 rb (n + 1) (updR R key none) := by
  refine ⟨g, hm.mono (Nat.le_succ _), fun s => ?_⟩
  by_cases e : s = key
  · subst e
    simp only [updR, if_true]
    exact hp.1
  · simp only [updR, if_neg e]
    rw [hp.2 _ (fun c => e (by injection c))]
    exact hm0 s
end Go.Proofs.YtjeheknhpfkaiaaDoor
