/-
  Shortest walks are simple; sets of numbers as maps.
-/
import Derived.Test.YtjgmkigfpjmlaabDoorS3
import Derived.Maps.Own
import Derived.Maps.OwnSet
import Derived.Maps.Views
namespace Go.Proofs.YtjgmkigfpjmlaabDoor
set_option linter.unusedVariables false
set_option linter.unusedSimpArgs false
open Go.RowKit Go.Maps

theorem Wl.cut {E : Nat → Nat → Bool} {n T : Nat} : ∀ (q : List Nat) (s : Nat), Wl E n s q T → ∀ i, i < q.length → Wl E n s (q.take (i + 1)) (q.getD i 0) ∧ Wl E n (q.getD i 0) (q.drop (i + 1)) T := by
  intro q
  induction q with
  | nil => intro s _ i hi; simp at hi
  | cons m r ih =>
    rintro s ⟨h1, h2, h3⟩ i hi
    cases i with
    | zero => exact ⟨⟨h1, h2, rfl⟩, h3⟩
    | succ i =>
      obtain ⟨k1, k2⟩ := ih m h3 i (by simpa using hi)
      have e : (m :: r).getD (i + 1) 0 = r.getD i 0 := by simp [List.getD]
      rw [e]
      exact ⟨⟨h1, h2, k1⟩, k2⟩
theorem Wl.along {E : Nat → Nat → Bool} {n T : Nat} : ∀ (q : List Nat) (s : Nat), s < n → Wl E n s q T → (∀ i, i < q.length → E ((s :: q).getD i 0) (q.getD i 0) = true ∧ q.getD i 0 < n ∧ (s :: q).getD i 0 < n) ∧ (s :: q).getD q.length 0 = T := by
  intro q
  induction q with
  | nil => intro s hs h; exact ⟨fun i hi => by simp at hi, h⟩
  | cons m r ih =>
    rintro s hs ⟨h1, h2, h3⟩
    obtain ⟨k1, k2⟩ := ih m h2 h3
    have e : ∀ i, (s :: m :: r).getD (i + 1) 0 = (m :: r).getD i 0 := fun i => by simp [List.getD]
    constructor
    · intro i hi
      cases i with
      | zero => exact ⟨h1, h2, hs⟩
      | succ i =>
        have e2 : (m :: r).getD (i + 1) 0 = r.getD i 0 := by simp [List.getD]
        rw [e, e2]
        exact k1 i (by simpa using hi)
    · rw [List.length_cons, e]
      exact k2
theorem Best.simple {E : Nat → Nat → Bool} {n s T : Nat} {q : List Nat} (hs : s < n) (h : Best E n s T q) : (∀ i j, i < j → j < q.length → q.getD i 0 ≠ q.getD j 0) ∧ (s ≠ T → ∀ j, j < q.length → q.getD j 0 ≠ s) := by
  have hd := h.dst hs
  constructor
  · intro i j hij hj e
    obtain ⟨a1, _⟩ := Wl.cut q s h.2.1 i (by omega)
    obtain ⟨_, b2⟩ := Wl.cut q s h.2.1 j hj
    rw [← e] at b2
    have hw : Wl E n s (q.take (i + 1) ++ q.drop (j + 1)) T := Wl.append.2 ⟨_, a1, b2⟩
    have hl : (q.take (i + 1) ++ q.drop (j + 1)).length = i + 1 + (q.length - (j + 1)) := by simp; omega
    have := hd.2.2 (i + 1 + (q.length - (j + 1))) (by omega) ⟨_, hl, hw⟩
    omega
  · intro hne j hj e
    obtain ⟨_, b2⟩ := Wl.cut q s h.2.1 j hj
    rw [e] at b2
    have hl : (q.drop (j + 1)).length = q.length - (j + 1) := by simp
    by_cases h0 : q.length - (j + 1) = 0
    · have e0 : q.drop (j + 1) = [] := List.length_eq_zero_iff.1 (by omega)
      rw [e0] at b2
      exact hne b2
    · have := hd.2.2 (q.length - (j + 1)) (by omega) ⟨_, hl, b2⟩
      omega

theorem keys3 : Keyed Tryd.prog 3 := int_keyed Tryd.underlying3
theorem zero4 (w : World) : (zeroValue 4).run Tryd.prog w = .ok (.bool false) w := by kernel_rfl
/-- A map of numbers: which are in it. -/
def MB (w : World) (mb k : Nat) (S : Int → Bool) : Prop := ∃ D : DataW Unit, w.ownsMap Tryd.prog 3 (plainElem Tryd.prog 4) mb k D ∧ ∀ x : Int, D.atKey (.int .i64 x) (.lit (.bool false)) = .lit (.bool (S x))
set_option maxRecDepth 100000 in
theorem plain_bool (x : Bool) : plainElem (H := Unit) Tryd.prog 4 (.bool x) = some (.lit (.bool x), []) := by
  unfold plainElem
  rw [Tryd.underlying4]
set_option maxRecDepth 100000 in
theorem plain_bool_inv {v : Value} {d : DataW Unit} {ps : List MemPlace} (h : plainElem Tryd.prog 4 v = some (d, ps)) : ∃ x, v = .bool x ∧ d = .lit (.bool x) := by
  unfold plainElem at h
  rw [Tryd.underlying4] at h
  cases v <;> simp at h
  exact ⟨_, rfl, h.1.symm⟩
set_option maxRecDepth 100000 in
theorem MB.look {w : World} {mb k : Nat} {S : Int → Bool} (h : MB w mb k S) (x : Int) (hx : (Lit.int .i64 x).wf = true) : (Instr.lookup 55 (.map (some mb)) (.int .i64 x) false).run Tryd.prog w = .ok (.bool (S x)) w := by
  obtain ⟨D, h1, h2⟩ := h
  obtain ⟨v, ps, hrun, hv⟩ := h1.lookup keys3 Tryd.underlying55 (zero4 w) (plain_bool false) (keyOf_int_mk Tryd.underlying3 hx)
  obtain ⟨y, rfl, hy⟩ := plain_bool_inv hv
  rw [h2] at hy
  injection hy with hy
  injection hy with hy
  rw [hrun, hy]
theorem MB.made (w : World) : MB (w.alloc (.map #[] 0)) w.heap.size 0 (fun _ => false) := ⟨_, World.ownsMap_made _ _ _ _, fun x => rfl⟩
theorem MB.later {w w' : World} {mb k : Nat} {S : Int → Bool} (h : MB w mb k S) (hb : Below w.heap.size w w') : MB w' mb k S := by
  obtain ⟨D, ⟨es, clock, h1, h2, h3, h4⟩, h5⟩ := h
  exact ⟨D, ⟨es, clock, (hb.block mb (blt h1)).trans h1, h2, h3, h4⟩, h5⟩
theorem wf_small (x : Nat) (hx : x ≤ 300) : (Lit.int .i64 (x : Int)).wf = true := by
  simp [Lit.wf, IntKind.min, IntKind.max, IntKind.signed, IntKind.bits]
  omega
/-- A number is put in. -/
theorem wpList_mb {ops : Array Oper} {rest : List Oper} {o : Oper} {a : Act} {Q : Exit → Act → World → Prop} (w : World) (hg : o.guard = none) (m x v : Operand) (hop : o.op = Op.mapUpdate 55 m x v)
    (mb k : Nat) (S : Int → Bool) (hm : a.eval m = .map (some mb)) (h : MB w mb k S) (hn : k < 10000) (y : Int) (hx : a.eval x = .int .i64 y) (hv : a.eval v = .bool true) (hy : (Lit.int .i64 y).wf = true)
    (hK : ∀ w', MB w' mb (k + 1) (fun z => z == y || S z) → Gro (fun b => b = mb) w w' → wpList Tryd.prog ops Q rest (a.put o.dst undef) w') : wpList Tryd.prog ops Q (o :: rest) a w := by
  obtain ⟨D, h1, h2⟩ := h
  refine wpList_mapUpdate_own w hg m x v 55 hop 3 4 keys3 Tryd.underlying55 _ mb k D hm h1 (by unfold maxLen; omega) _ _ (.int .i64 y) hx hv (keyOf_int_mk Tryd.underlying3 hy) (.lit (.bool true)) [] (plain_bool true) (fun w' r1 r2 => hK w' ⟨_, r1, fun z => ?_⟩ ⟨r2.os, r2.tape, r2.output, r2.size, fun b hb hn => r2.block b hb (fun e => hn (by injection e))⟩)
  by_cases e : z = y
  · subst e
    rw [atKey_put_same h1.isMap (by first | trivial | exact ⟨⟩ | simp [WideAt.IsKeyLit])]
    simp
  · rw [atKey_put_other (by intro c; injection c with c1 c2; exact e c2), h2]
    simp [e]
end Go.Proofs.YtjgmkigfpjmlaabDoor
