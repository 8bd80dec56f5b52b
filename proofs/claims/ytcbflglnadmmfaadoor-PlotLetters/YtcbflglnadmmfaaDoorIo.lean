/-
  A region that draws its order, of which one operation alone turns the world, and each yields a known value.
-/
import Derived.Test.YtcbflglnadmmfaaDoorIv
namespace Go.Proofs.YtcbflglnadmmfaaDoor
set_option linter.unusedVariables false
set_option linter.unusedSimpArgs false
open Go.RowKit

/-- Operation j waits for operation i. -/
def waitsB (ops : Array Oper) (i j : Nat) : Bool := match ops[j]? with
  | none => false
  | some o => o.after.any fun e => Region.binds .any e && e.on == i
/-- What is asked of one operation: k0 leads from w0 to w1, all others leave both. -/
def OpAskO (P : Program) (ops : Array Oper) (val0 : Nat → Value) (k0 : Nat) (w0 w1 : World) (frame : (Nat → Value) → Act) (V : Nat → Value) (i : Nat) (o : Oper) : Prop :=
  o.guard = none ∧ (∀ val v, (frame val).put o.dst v = frame (upV val i v)) ∧ ∀ val, (∀ e ∈ o.after.toList, Region.binds .any e = true → val e.on = V e.on) → (∀ j, waitsB ops i j = true → val j = val0 j) →
    if i = k0 then (execOp (frame val).eval o).run P w0 = .ok (.value (V i)) w1 else ∀ W, W = w0 ∨ W = w1 → (execOp (frame val).eval o).run P W = .ok (.value (V i)) W
theorem wp_region_one {P : Program} {ops : Array Oper} {Q : Exit → Act → World → Prop} {id : Nat} {a0 : Act} {w0 w1 : World} (hm : P.follows .mixedOrders = true) (hah : aheadB ops = true)
    (k0 : Nat) (hk0 : k0 < ops.size) (frame : (Nat → Value) → Act) (V : Nat → Value) (val0 : Nat → Value) (h0 : a0 = frame val0)
    (l : List Oper) (hl : ops.toList = l) (hop : allOps (OpAskO P ops val0 k0 w0.drew w1 frame V) 0 l)
    (hend : ∀ val, (∀ i, i < ops.size → val i = V i) → Q .normal (frame val) w1) : (Code.region id ops true).wp P Q a0 w0 := by
  refine wp_region_any hm ?_
  refine wpAny_inv (fun listed a w => listed.size = ops.size ∧ (∀ i o, ops[i]? = some o → listed.getD i false = true → ∀ e ∈ o.after, Region.binds .any e = true → listed.getD e.on false = true) ∧ ∃ val, a = frame val ∧ w = (if listed.getD k0 false = true then w1 else w0.drew) ∧ (∀ i, i < ops.size → listed.getD i false = true → val i = V i) ∧ ∀ i, listed.getD i false = false → val i = val0 i) ?_ ?_ _ _ _ _ ?_ ?_
  · rintro listed a w ⟨hs, hdep, val, rfl, hw, hR, hU⟩ i hi
    rw [mem_ready] at hi
    obtain ⟨h1, o, ho, h2⟩ := hi
    have hio : i < ops.size := (Array.getElem?_eq_some_iff.1 ho).1
    have hil : i < listed.size := by omega
    have hif : listed.getD i false = false := by
      rw [Array.getD_eq_getD_getElem?, Array.getElem?_eq_getElem hil] at h1 ⊢
      exact h1
    obtain ⟨g1, g2, g3⟩ := allOps_at l 0 i o hop (by rw [← hl]; simpa using ho)
    rw [Nat.zero_add] at g2 g3
    have q := g3 val (fun e he hb => by
      have hea : e ∈ o.after := by simpa using he
      have hlt := ahead_of hah ho e hea hb
      exact hR e.on (by omega) (h2 e hea hb)) (fun j hj => by
      unfold waitsB at hj
      cases hoj : ops[j]? with
      | none => rw [hoj] at hj; cases hj
      | some oj =>
        rw [hoj] at hj
        simp only [Array.any_eq_true] at hj
        obtain ⟨x, hx, hy⟩ := hj
        simp only [Bool.and_eq_true, beq_iff_eq] at hy
        refine hU j ?_
        cases hlj : listed.getD j false with
        | false => rfl
        | true =>
          have := hdep j oj hoj hlj oj.after[x] (by simp) hy.1
          rw [hy.2, hif] at this
          cases this)
    unfold wpOp
    rw [ho]
    simp only
    rw [if_pos (by simp [Region.wanted, g1])]
    have key : ∀ W, W = (if (listed.setIfInBounds i true).getD k0 false = true then w1 else w0.drew) → ((listed.setIfInBounds i true).size = ops.size ∧ (∀ j oj, ops[j]? = some oj → (listed.setIfInBounds i true).getD j false = true → ∀ e ∈ oj.after, Region.binds .any e = true → (listed.setIfInBounds i true).getD e.on false = true) ∧ ∃ val', (frame val).put o.dst (V i) = frame val' ∧ W = (if (listed.setIfInBounds i true).getD k0 false = true then w1 else w0.drew) ∧ (∀ j, j < ops.size → (listed.setIfInBounds i true).getD j false = true → val' j = V j) ∧ ∀ j, (listed.setIfInBounds i true).getD j false = false → val' j = val0 j) := fun W hW => by
      refine ⟨by simpa using hs, fun j oj hoj hl2 e he hb => ?_, upV val i (V i), g2 _ _, hW, fun j hj hl2 => ?_, fun j hj => ?_⟩
      · by_cases eji : e.on = i
        · rw [eji, Array.getD_eq_getD_getElem?, Array.getElem?_setIfInBounds_self_of_lt hil]
          rfl
        · rw [getD_set_ne false (fun c => eji c.symm)]
          by_cases ji : j = i
          · subst ji
            rw [ho] at hoj
            injection hoj with hoj
            subst hoj
            exact h2 e he hb
          · rw [getD_set_ne false (fun c => ji c.symm)] at hl2
            exact hdep j oj hoj hl2 e he hb
      rotate_left
      · by_cases e : j = i
        · subst e
          rw [Array.getD_eq_getD_getElem?, Array.getElem?_setIfInBounds_self_of_lt hil] at hj
          cases hj
        · rw [upV_ne _ _ _ _ e]
          rw [getD_set_ne false (fun c => e c.symm)] at hj
          exact hU j hj
      by_cases e : j = i
      · subst e
        exact upV_self _ _ _
      · rw [upV_ne _ _ _ _ e]
        rw [getD_set_ne false (fun c => e c.symm)] at hl2
        exact hR j hj hl2
    refine .inl ?_
    unfold Oper.wp
    by_cases hik : i = k0
    · subst hik
      rw [if_pos rfl] at q
      rw [hif] at hw
      have hw2 : w = w0.drew := hw
      subst hw2
      rw [q]
      exact key w1 (by rw [Array.getD_eq_getD_getElem?, Array.getElem?_setIfInBounds_self_of_lt hil]; rfl)
    · rw [if_neg hik] at q
      have hwc : w = w0.drew ∨ w = w1 := by
        rw [hw]
        split
        · exact .inr rfl
        · exact .inl rfl
      rw [q w hwc]
      refine key w ?_
      rw [getD_set_ne false hik]
      exact hw
  · rintro listed a w ⟨hs, hdep, val, rfl, hw, hR, hU⟩ hr
    have hall := all_listed hah hs hr
    rw [hall k0 hk0] at hw
    have hw2 : w = w1 := hw
    subst hw2
    exact hend val (fun i hi => hR i hi (hall i hi))
  · unfold leftN
    exact Nat.le_trans (List.length_filter_le _ _) (by simp)
  · refine ⟨by simp, fun i o ho hl2 => ?_, val0, h0, ?_, fun i hi hl2 => ?_, fun _ _ => rfl⟩
    · have hi := (Array.getElem?_eq_some_iff.1 ho).1
      simp [Array.getD_eq_getD_getElem?, hi] at hl2
    · simp [Array.getD_eq_getD_getElem?, hk0]
    · simp [Array.getD_eq_getD_getElem?, hi] at hl2
theorem dep_get {V val : Nat → Value} {l : List Edge} (h : ∀ e ∈ l, Region.binds .any e = true → val e.on = V e.on) (j : Nat) (hj : (l.any fun e => Region.binds .any e && e.on == j) = true) : val j = V j := by
  rw [List.any_eq_true] at hj
  obtain ⟨e, he, hb⟩ := hj
  simp only [Bool.and_eq_true, beq_iff_eq] at hb
  obtain ⟨h1, rfl⟩ := hb
  exact h e he h1
end Go.Proofs.YtcbflglnadmmfaaDoor
