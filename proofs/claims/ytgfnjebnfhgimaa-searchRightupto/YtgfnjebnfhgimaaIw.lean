/-
  A region that draws its order, in a round of a range over a function.
-/
import Derived.Test.YtgfnjebnfhgimaaIv
import Derived.Test.YtgfnjebnfhgimaaRf
namespace Go.Proofs.Ytgfnjebnfhgimaa
set_option linter.unusedVariables false
set_option linter.unusedSimpArgs false
open Go.RowKit Go.Shelf

theorem Oper.wpIn_of_wp {n : Nat} {P : Program} {o : Oper} {a : Act} {w : World} {K : Act → World → Prop} {Q : Exit → Act → World → Prop} (hd : ∀ c, o.op ≠ .defer c) (l : Nat) (h : o.wp P a w K Q) : o.wpIn (Fence.wide.inRound l) n P a w K Q := by
  refine ⟨fun f _ => trivial, ?_⟩
  rw [Oper.semAt_eq _ _ _ hd]
  unfold Oper.wp at h
  generalize (execOp a.eval o).run P w = r at h ⊢
  cases r with
  | ok x w' =>
    cases x with
    | value v => exact h
    | skip => exact h
    | defer d => exact h
    | enter f args => exact ⟨(fun c => by cases c), CallsIn.inRound l (callsIn_wide.2 h)⟩
    | row r args => exact ⟨(fun c => by cases c), fun c cs _ => by obtain ⟨v, w2, r2, s⟩ := h c cs; exact ⟨v, w2, r2, stepsIn_wide.2 s⟩⟩
    | _ => exact (h : False).elim
  | halt x w' => cases x <;> exact h
section
variable {F : Fence} {n : Nat} {P : Program} {ops : Array Oper} {Q : Exit → Act → World → Prop} {md : Region.Mode}
/-- By a statement that each operation which may come carries on. -/
theorem wpAnyIn_inv (J : Array Bool → Act → World → Prop)
    (hstep : ∀ listed a w, J listed a w → ∀ i, i ∈ Region.ready md ops listed → wpOpIn F n P ops Q i (J (listed.setIfInBounds i true)) a w)
    (hend : ∀ listed a w, J listed a w → Region.ready md ops listed = [] → Q .normal a w) :
    ∀ (fuel : Nat) (listed : Array Bool) (a : Act) (w : World), leftN ops listed ≤ fuel → J listed a w → wpAnyIn F n P md ops Q fuel listed a w := by
  intro fuel
  induction fuel with
  | zero =>
    intro listed a w hf hJ
    have hr : Region.ready md ops listed = [] := by
      cases hr : Region.ready md ops listed with
      | nil => rfl
      | cons x xs =>
        have hx : x ∈ Region.ready md ops listed := by rw [hr]; simp
        rw [mem_ready] at hx
        obtain ⟨h1, o, ho, h2⟩ := hx
        have := leftN_set (ops := ops) (Array.getElem?_eq_some_iff.1 ho).1 h1
        omega
    exact ⟨hr, hend listed a w hJ hr⟩
  | succ fuel ih =>
    intro listed a w hf hJ
    refine ⟨fun hr => hend listed a w hJ hr, fun i hi => ?_⟩
    have hi' := hi
    rw [mem_ready] at hi'
    obtain ⟨h1, o, ho, h2⟩ := hi'
    have hl := leftN_set (ops := ops) (Array.getElem?_eq_some_iff.1 ho).1 h1
    exact wpOpIn_mono (fun a' w' hJ' => ih _ a' w' (by omega) hJ') (hstep listed a w hJ i hi)
end
/-- A region that draws its order: R i v w: v is what operation i has yielded, seen from the world w; nothing that lay there turns. -/
theorem wpIn_region_inv {n : Nat} {P : Program} (l : Nat) {ops : Array Oper} {Q : Exit → Act → World → Prop} {id : Nat} {a0 : Act} {w0 : World} (hm : P.follows .mixedOrders = true) (hah : aheadB ops = true) (hnd : noDefer ops = true)
    (frame : (Nat → Value) → Act) (R : Nat → Value → World → Prop) (val0 : Nat → Value) (h0 : a0 = frame val0)
    (hstab : ∀ i v w w', R i v w → Below w.heap.size w w' → R i v w')
    (hop : ∀ i o, ops[i]? = some o → ∀ val w, Below w0.heap.size w0 w → (∀ e ∈ o.after, Region.binds .any e = true → R e.on (val e.on) w) →
      if Region.wanted o (yielded ops (frame val).tmps) then o.wp P (frame val) w (fun a' w' => ∃ v, a' = frame (upV val i v) ∧ R i v w' ∧ Below w.heap.size w w') Q
      else (frame val).put o.dst undef = frame (upV val i undef) ∧ R i undef w)
    (hend : ∀ val w, Below w0.heap.size w0 w → (∀ i, i < ops.size → R i (val i) w) → Q .normal (frame val) w) : (Code.region id ops true).wpIn (Fence.wide.inRound l) n P Q a0 w0 := by
  refine wpIn_region_any hm ?_
  refine wpAnyIn_inv (fun listed a w => listed.size = ops.size ∧ ∃ val, a = frame val ∧ Below w0.heap.size w0 w ∧ ∀ i, i < ops.size → listed.getD i false = true → R i (val i) w) ?_ ?_ _ _ _ _ ?_ ?_
  · rintro listed a w ⟨hs, val, rfl, hb, hR⟩ i hi
    rw [mem_ready] at hi
    obtain ⟨h1, o, ho, h2⟩ := hi
    have hio : i < ops.size := (Array.getElem?_eq_some_iff.1 ho).1
    have key : ∀ v w', R i v w' → Below w.heap.size w w' → ((listed.setIfInBounds i true).size = ops.size ∧ ∃ val', frame (upV val i v) = frame val' ∧ Below w0.heap.size w0 w' ∧ ∀ j, j < ops.size → (listed.setIfInBounds i true).getD j false = true → R j (val' j) w') := fun v w' hv hw => by
      refine ⟨by simpa using hs, upV val i v, rfl, hb.trans (hw.mono hb.size), fun j hj hl => ?_⟩
      by_cases e : j = i
      · subst e
        rw [upV_self]
        exact hv
      · rw [upV_ne _ _ _ _ e]
        rw [getD_set_ne false (fun c => e c.symm)] at hl
        exact hstab _ _ _ _ (hR j hj hl) hw
    have hk := hop i o ho val w hb (fun e he hbd => hR e.on (by have := ahead_of hah ho e he hbd; omega) (h2 e he hbd))
    unfold wpOpIn
    rw [ho]
    simp only
    by_cases hw : Region.wanted o (yielded ops (frame val).tmps) = true
    · rw [if_pos hw] at hk ⊢
      refine Oper.wpIn_of_wp (noDefer_at hnd ho) l (Oper.wp_mono (fun a' w' ⟨v, e, hv, hbv⟩ => by rw [e]; exact key v w' hv hbv) hk)
    · rw [if_neg hw] at hk ⊢
      rw [hk.1]
      exact ⟨fun _ _ => trivial, key undef w hk.2 (Below.refl _ _)⟩
  · rintro listed a w ⟨hs, val, rfl, hb, hR⟩ hr
    exact hend val w hb (fun i hi => hR i hi (all_listed hah hs hr i hi))
  · unfold leftN
    exact Nat.le_trans (List.length_filter_le _ _) (by simp)
  · refine ⟨by simp, val0, h0, ⟨rfl, rfl, rfl, Nat.le_refl _, fun _ _ => rfl⟩, fun i hi hl => ?_⟩
    simp [Array.getD_eq_getD_getElem?, hi] at hl
/-- A region that draws its order, operation by operation. -/
theorem wpIn_region_ask {n : Nat} {P : Program} (ln : Nat) {ops : Array Oper} {Q : Exit → Act → World → Prop} {id : Nat} {a0 : Act} {w0 : World} (hm : P.follows .mixedOrders = true) (hah : aheadB ops = true) (hnd : noDefer ops = true)
    (frame : (Nat → Value) → Act) (R : Nat → Value → World → Prop) (val0 : Nat → Value) (h0 : a0 = frame val0)
    (hstab : ∀ i v w w', R i v w → Below w.heap.size w w' → R i v w')
    (l : List Oper) (hl : ops.toList = l) (hop : allOps (OpAsk P ops Q w0 frame R) 0 l)
    (hend : ∀ val w, Below w0.heap.size w0 w → (∀ i, i < ops.size → R i (val i) w) → Q .normal (frame val) w) : (Code.region id ops true).wpIn (Fence.wide.inRound ln) n P Q a0 w0 := by
  refine wpIn_region_inv ln hm hah hnd frame R val0 h0 hstab (fun i o ho val w hb hd => ?_) hend
  have h1 := allOps_at l 0 i o hop (by rw [← hl]; simpa using ho)
  rw [Nat.zero_add] at h1
  exact h1 val w hb (depsAll_of _ (fun e he => hd e (by simpa using he)))
end Go.Proofs.Ytgfnjebnfhgimaa
