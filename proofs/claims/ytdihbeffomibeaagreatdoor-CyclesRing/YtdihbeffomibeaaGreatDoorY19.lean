/-
  A region that draws its order, by what is known of the value of each of its operations: whatever the order, each operation comes once, behind those that it waits for.
  A region that draws its order, by a statement on what has been done: any operation may turn the world.
  A region that draws its order, by a statement on what has been done: as Ig, but what is kept is asked of the operations' own values alone.
-/
import Derived.WalkKit
import Derived.Orders
import Derived.RowKit
import Derived.Deep.Draws
import Derived.Test.YtdihbeffomibeaaGreatDoorProg
namespace Go.Proofs.YtdihbeffomibeaaGreatDoor
set_option linter.unusedVariables false
set_option linter.unusedSimpArgs false
open Go.RowKit

section
variable {P : Program} {ops : Array Oper} {Q : Exit → Act → World → Prop} {md : Region.Mode}
/-- How many operations are still to come. -/
def leftN (ops : Array Oper) (listed : Array Bool) : Nat := ((List.range ops.size).filter fun i => !listed.getD i true).length
theorem filter_lt {α : Type} (p q : α → Bool) : ∀ (l : List α), (∀ x ∈ l, q x = true → p x = true) → (∃ x ∈ l, p x = true ∧ q x = false) → (l.filter q).length < (l.filter p).length
  | [], _, h => by obtain ⟨x, hx, _⟩ := h; cases hx
  | a :: l, h1, h2 => by
    have hle : (l.filter q).length ≤ (l.filter p).length := by
      clear h2
      induction l with
      | nil => simp
      | cons b l ih =>
        have := ih (fun x hx => h1 x (by simp at hx ⊢; rcases hx with rfl | hx <;> simp_all))
        have hb := h1 b (by simp)
        simp only [List.filter_cons]
        cases hq : q b <;> cases hp : p b <;> simp_all <;> omega
    by_cases ha : p a = true ∧ q a = false
    · simp only [List.filter_cons, ha.1, ha.2]
      simp
      omega
    · have : ∃ x ∈ l, p x = true ∧ q x = false := by
        obtain ⟨x, hx, hp⟩ := h2
        simp at hx
        rcases hx with rfl | hx
        · exact absurd hp ha
        · exact ⟨x, hx, hp⟩
      have ih := filter_lt p q l (fun x hx => h1 x (by simp [hx])) this
      simp only [List.filter_cons]
      have ha1 := h1 a (by simp)
      cases hq : q a <;> cases hp : p a <;> simp_all
theorem leftN_set {listed : Array Bool} {i : Nat} (hi : i < ops.size) (h : listed.getD i true = false) : leftN ops (listed.setIfInBounds i true) < leftN ops listed := by
  unfold leftN
  have hl : i < listed.size := by
    rcases Nat.lt_or_ge i listed.size with c | c
    · exact c
    · rw [Array.getD_eq_getD_getElem?, Array.getElem?_eq_none c] at h; cases h
  refine filter_lt _ _ _ (fun x _ hx => ?_) ⟨i, by simpa using hi, by simp [h], ?_⟩
  · simp only [Bool.not_eq_true'] at hx ⊢
    by_cases e : i = x
    · subst e
      rw [Array.getD_eq_getD_getElem?, Array.getElem?_setIfInBounds_self_of_lt hl] at hx
      cases hx
    · rwa [getD_set_ne true e] at hx
  · rw [Array.getD_eq_getD_getElem?, Array.getElem?_setIfInBounds_self_of_lt hl]
    rfl
/-- By a statement that each operation which may come carries on. -/
theorem wpAny_inv (J : Array Bool → Act → World → Prop)
    (hstep : ∀ listed a w, J listed a w → ∀ i, i ∈ Region.ready md ops listed → wpOp P ops Q i (J (listed.setIfInBounds i true)) a w)
    (hend : ∀ listed a w, J listed a w → Region.ready md ops listed = [] → Q .normal a w) :
    ∀ (fuel : Nat) (listed : Array Bool) (a : Act) (w : World), leftN ops listed ≤ fuel → J listed a w → wpAny P md ops Q fuel listed a w := by
  intro fuel
  induction fuel with
  | zero =>
    intro listed a w hf hJ
    have hr : Region.ready md ops listed = [] := by
      cases hr : Region.ready md ops listed with
      | nil => rfl
      | cons x xs =>
        have hx : x ∈ Region.ready md ops listed := by rw [hr]; simp
        rw [mem_ready] at hx
        obtain ⟨h1, o, ho, h2⟩ := hx
        have := leftN_set (ops := ops) (Array.getElem?_eq_some_iff.1 ho).1 h1
        omega
    exact ⟨hr, hend listed a w hJ hr⟩
  | succ fuel ih =>
    intro listed a w hf hJ
    refine ⟨fun hr => hend listed a w hJ hr, fun i hi => ?_⟩
    have hi' := hi
    rw [mem_ready] at hi'
    obtain ⟨h1, o, ho, h2⟩ := hi'
    have hl := leftN_set (ops := ops) (Array.getElem?_eq_some_iff.1 ho).1 h1
    exact wpOp_mono (fun a' w' hJ' => ih _ a' w' (by omega) hJ') (hstep listed a w hJ i hi)
end
/-- One value put in. -/
def upV (val : Nat → Value) (i : Nat) (v : Value) : Nat → Value := fun j => if j = i then v else val j
theorem upV_self (val : Nat → Value) (i : Nat) (v : Value) : upV val i v i = v := by simp [upV]
theorem upV_ne (val : Nat → Value) (i j : Nat) (v : Value) (h : j ≠ i) : upV val i v j = val j := by simp [upV, h]
/-- What each operation waits for stands ahead of it. -/
def aheadB (ops : Array Oper) : Bool := (List.range ops.size).all fun i => match ops[i]? with
  | none => true
  | some o => o.after.all fun e => !Region.binds .any e || decide (e.on < i)
theorem ahead_of {ops : Array Oper} (h : aheadB ops = true) {i : Nat} {o : Oper} (ho : ops[i]? = some o) (e : Edge) (he : e ∈ o.after) (hb : Region.binds .any e = true) : e.on < i := by
  unfold aheadB at h
  rw [List.all_eq_true] at h
  have h1 := h i (List.mem_range.2 (Array.getElem?_eq_some_iff.1 ho).1)
  rw [ho] at h1
  simp only [Array.all_eq_true_iff_forall_mem, Bool.or_eq_true, Bool.not_eq_true', decide_eq_true_eq] at h1
  rcases h1 e he with c | c
  · rw [hb] at c; cases c
  · exact c
theorem all_listed {ops : Array Oper} (h : aheadB ops = true) {listed : Array Bool} (hs : listed.size = ops.size) (hr : Region.ready .any ops listed = []) : ∀ i, i < ops.size → listed.getD i false = true := by
  intro i
  induction i using Nat.strongRecOn with
  | ind i ih =>
    intro hi
    cases hg : listed.getD i false with
    | true => rfl
    | false =>
      exfalso
      have ho : ops[i]? = some ops[i] := Array.getElem?_eq_getElem hi
      have hm : i ∈ Region.ready .any ops listed := by
        rw [mem_ready]
        refine ⟨?_, _, ho, fun e he hb => ?_⟩
        · have hl : i < listed.size := by omega
          rw [Array.getD_eq_getD_getElem?, Array.getElem?_eq_getElem hl] at hg ⊢
          exact hg
        · have hlt := ahead_of h ho e he hb
          exact ih e.on hlt (by omega)
      rw [hr] at hm
      cases hm
/-- A region that draws its order: R i v w: v is what operation i has yielded, seen from the world w; nothing that lay there turns. -/
theorem wp_region_inv {P : Program} {ops : Array Oper} {Q : Exit → Act → World → Prop} {id : Nat} {a0 : Act} {w0 : World} (hm : P.follows .mixedOrders = true) (hah : aheadB ops = true)
    (frame : (Nat → Value) → Act) (R : Nat → Value → World → Prop) (val0 : Nat → Value) (h0 : a0 = frame val0)
    (hstab : ∀ i v w w', R i v w → Below w.heap.size w w' → R i v w')
    (hop : ∀ i o, ops[i]? = some o → ∀ val w, Below w0.heap.size w0 w → (∀ e ∈ o.after, Region.binds .any e = true → R e.on (val e.on) w) →
      if Region.wanted o (yielded ops (frame val).tmps) then o.wp P (frame val) w (fun a' w' => ∃ v, a' = frame (upV val i v) ∧ R i v w' ∧ Below w.heap.size w w') Q
      else (frame val).put o.dst undef = frame (upV val i undef) ∧ R i undef w)
    (hend : ∀ val w, Below w0.heap.size w0 w → (∀ i, i < ops.size → R i (val i) w) → Q .normal (frame val) w) : (Code.region id ops true).wp P Q a0 w0 := by
  refine wp_region_any hm ?_
  refine wpAny_inv (fun listed a w => listed.size = ops.size ∧ ∃ val, a = frame val ∧ Below w0.heap.size w0 w ∧ ∀ i, i < ops.size → listed.getD i false = true → R i (val i) w) ?_ ?_ _ _ _ _ ?_ ?_
  · rintro listed a w ⟨hs, val, rfl, hb, hR⟩ i hi
    rw [mem_ready] at hi
    obtain ⟨h1, o, ho, h2⟩ := hi
    have hio : i < ops.size := (Array.getElem?_eq_some_iff.1 ho).1
    have key : ∀ v w', R i v w' → Below w.heap.size w w' → ((listed.setIfInBounds i true).size = ops.size ∧ ∃ val', frame (upV val i v) = frame val' ∧ Below w0.heap.size w0 w' ∧ ∀ j, j < ops.size → (listed.setIfInBounds i true).getD j false = true → R j (val' j) w') := fun v w' hv hw => by
      refine ⟨by simpa using hs, upV val i v, rfl, hb.trans (hw.mono hb.size), fun j hj hl => ?_⟩
      by_cases e : j = i
      · subst e
        rw [upV_self]
        exact hv
      · rw [upV_ne _ _ _ _ e]
        rw [getD_set_ne false (fun c => e c.symm)] at hl
        exact hstab _ _ _ _ (hR j hj hl) hw
    have hk := hop i o ho val w hb (fun e he hbd => hR e.on (by have := ahead_of hah ho e he hbd; omega) (h2 e he hbd))
    unfold wpOp
    rw [ho]
    simp only
    by_cases hw : Region.wanted o (yielded ops (frame val).tmps) = true
    · rw [if_pos hw] at hk ⊢
      exact .inl (Oper.wp_mono (fun a' w' ⟨v, e, hv, hbv⟩ => by rw [e]; exact key v w' hv hbv) hk)
    · rw [if_neg hw] at hk ⊢
      rw [hk.1]
      exact key undef w hk.2 (Below.refl _ _)
  · rintro listed a w ⟨hs, val, rfl, hb, hR⟩ hr
    exact hend val w hb (fun i hi => hR i hi (all_listed hah hs hr i hi))
  · unfold leftN
    exact Nat.le_trans (List.length_filter_le _ _) (by simp)
  · refine ⟨by simp, val0, h0, ⟨rfl, rfl, rfl, Nat.le_refl _, fun _ _ => rfl⟩, fun i hi hl => ?_⟩
    simp [Array.getD_eq_getD_getElem?, hi] at hl
/-- Each operation of a list, with its number. -/
def allOps (F : Nat → Oper → Prop) : Nat → List Oper → Prop
  | _, [] => True
  | k, o :: l => F k o ∧ allOps F (k + 1) l
theorem allOps_at {F : Nat → Oper → Prop} : ∀ (l : List Oper) (k j : Nat) (o : Oper), allOps F k l → l[j]? = some o → F (k + j) o
  | [], _, _, _, _, h => by simp at h
  | a :: l, k, 0, o, h, he => by simp at he; subst he; exact h.1
  | a :: l, k, j + 1, o, h, he => by
    have := allOps_at l (k + 1) j o h.2 (by simpa using he)
    have e : k + 1 + j = k + (j + 1) := by omega
    rwa [e] at this
/-- What is known of those that an operation waits for. -/
def depsAll (R : Nat → Value → World → Prop) (val : Nat → Value) (w : World) : List Edge → Prop
  | [] => True
  | e :: l => (Region.binds .any e = true → R e.on (val e.on) w) ∧ depsAll R val w l
theorem depsAll_of {R : Nat → Value → World → Prop} {val : Nat → Value} {w : World} : ∀ (l : List Edge), (∀ e ∈ l, Region.binds .any e = true → R e.on (val e.on) w) → depsAll R val w l
  | [], _ => trivial
  | e :: l, h => ⟨h e (by simp), depsAll_of l (fun x hx => h x (by simp [hx]))⟩
theorem depsAll_get {R : Nat → Value → World → Prop} {val : Nat → Value} {w : World} : ∀ {l : List Edge}, depsAll R val w l → ∀ j, (l.any fun e => Region.binds .any e && e.on == j) = true → R j (val j) w
  | [], _, j, h => by cases h
  | e :: l, hd, j, h => by
    simp only [List.any_cons, Bool.or_eq_true, Bool.and_eq_true, beq_iff_eq] at h
    rcases h with ⟨hb, rfl⟩ | h
    · exact hd.1 hb
    · exact depsAll_get hd.2 j (by simpa using h)
/-- What is asked of one operation. -/
def OpAsk (P : Program) (ops : Array Oper) (Q : Exit → Act → World → Prop) (w0 : World) (frame : (Nat → Value) → Act) (R : Nat → Value → World → Prop) (i : Nat) (o : Oper) : Prop :=
  ∀ val w, Below w0.heap.size w0 w → depsAll R val w o.after.toList →
      if Region.wanted o (yielded ops (frame val).tmps) then o.wp P (frame val) w (fun a' w' => ∃ v, a' = frame (upV val i v) ∧ R i v w' ∧ Below w.heap.size w w') Q
      else (frame val).put o.dst undef = frame (upV val i undef) ∧ R i undef w
/-- A region that draws its order, operation by operation. -/
theorem wp_region_ask {P : Program} {ops : Array Oper} {Q : Exit → Act → World → Prop} {id : Nat} {a0 : Act} {w0 : World} (hm : P.follows .mixedOrders = true) (hah : aheadB ops = true)
    (frame : (Nat → Value) → Act) (R : Nat → Value → World → Prop) (val0 : Nat → Value) (h0 : a0 = frame val0)
    (hstab : ∀ i v w w', R i v w → Below w.heap.size w w' → R i v w')
    (l : List Oper) (hl : ops.toList = l) (hop : allOps (OpAsk P ops Q w0 frame R) 0 l)
    (hend : ∀ val w, Below w0.heap.size w0 w → (∀ i, i < ops.size → R i (val i) w) → Q .normal (frame val) w) : (Code.region id ops true).wp P Q a0 w0 := by
  refine wp_region_inv hm hah frame R val0 h0 hstab (fun i o ho val w hb hd => ?_) hend
  have h1 := allOps_at l 0 i o hop (by rw [← hl]; simpa using ho)
  rw [Nat.zero_add] at h1
  exact h1 val w hb (depsAll_of _ (fun e he => hd e (by simpa using he)))
section
variable {P : Program} {ops : Array Oper} {Q : Exit → Act → World → Prop} {w0 : World} {frame : (Nat → Value) → Act} {R : Nat → Value → World → Prop} {i : Nat} {o : Oper}
/-- What an operation must come to. -/
def OpDoes (P : Program) (Q : Exit → Act → World → Prop) (R : Nat → Value → World → Prop) (i : Nat) (o : Oper) (A : Act) (w : World) : Prop :=
  ∀ K : Act → World → Prop, (∀ v w', R i v w' → Below w.heap.size w w' → K (A.put o.dst v) w') → o.wp P A w K Q
theorem ask_plain (hg : o.guard = none) (hput : ∀ val v, (frame val).put o.dst v = frame (upV val i v)) (h : ∀ val w, Below w0.heap.size w0 w → depsAll R val w o.after.toList → OpDoes P Q R i o (frame val) w) : OpAsk P ops Q w0 frame R i o := by
  intro val w hb hd
  rw [if_pos (by simp [Region.wanted, hg])]
  exact h val w hb hd _ (fun v w' hv hw => ⟨v, hput val v, hv, hw⟩)
theorem ask_yes (j : Nat) (b : Bool) (hg : o.guard = some (j, b)) (hput : ∀ val v, (frame val).put o.dst v = frame (upV val i v)) (hy : ∀ val w, depsAll R val w o.after.toList → yielded ops (frame val).tmps j = some b) (h : ∀ val w, Below w0.heap.size w0 w → depsAll R val w o.after.toList → OpDoes P Q R i o (frame val) w) : OpAsk P ops Q w0 frame R i o := by
  intro val w hb hd
  rw [if_pos (by simp [Region.wanted, hg, hy val w hd])]
  exact h val w hb hd _ (fun v w' hv hw => ⟨v, hput val v, hv, hw⟩)
theorem ask_no (j : Nat) (b c : Bool) (hg : o.guard = some (j, b)) (hbc : b ≠ c) (hput : ∀ val v, (frame val).put o.dst v = frame (upV val i v)) (hy : ∀ val w, depsAll R val w o.after.toList → yielded ops (frame val).tmps j = some c) (h : ∀ w, R i undef w) : OpAsk P ops Q w0 frame R i o := by
  intro val w hb hd
  rw [if_neg (by simp [Region.wanted, hg, hy val w hd]; exact fun e => hbc e.symm)]
  exact ⟨hput val undef, h w⟩
/-- One that yields a value and leaves the world. -/
theorem does_value {A : Act} {w : World} {v : Value} (h : (execOp A.eval o).run P w = .ok (.value v) w) (hR : R i v w) : OpDoes P Q R i o A w := by
  intro K hK
  unfold Oper.wp
  rw [h]
  exact hK v w hR (Below.refl _ _)
/-- One that yields a value in a world that has grown. -/
theorem does_grown {A : Act} {w w' : World} {v : Value} (h : (execOp A.eval o).run P w = .ok (.value v) w') (hR : R i v w') (hb : Below w.heap.size w w') : OpDoes P Q R i o A w := by
  intro K hK
  unfold Oper.wp
  rw [h]
  exact hK v w' hR hb
/-- A call. -/
theorem does_call {A : Act} {w : World} {f : FuncId} {args : Array Value} {C : Ending → World → Prop} (h : (execOp A.eval o).run P w = .ok (.enter f args) w) (hc : Calls P f args w C) (hR : ∀ e w', C e w' → ∃ v, e = .returned v ∧ R i v w' ∧ Below w.heap.size w w') : OpDoes P Q R i o A w := by
  intro K hK
  unfold Oper.wp
  rw [h]
  refine Calls.mono hc (fun e w' he => ?_)
  obtain ⟨v, rfl, hv, hb⟩ := hR e w' he
  exact hK v w' hv hb
end
end Go.Proofs.YtdihbeffomibeaaGreatDoor
namespace Go.Proofs.YtdihbeffomibeaaGreatDoor
set_option linter.unusedVariables false
set_option linter.unusedSimpArgs false
open Go.RowKit

/-- One more is done. -/
def upB (L : Nat → Bool) (i : Nat) : Nat → Bool := fun j => if j = i then true else L j
theorem upB_self (L : Nat → Bool) (i : Nat) : upB L i i = true := by simp [upB]
theorem upB_ne (L : Nat → Bool) (i j : Nat) (h : j ≠ i) : upB L i j = L j := by simp [upB, h]
/-- What is done, its sources are. -/
def CloB (ops : Array Oper) (L : Nat → Bool) : Prop := ∀ j o, ops[j]? = some o → L j = true → ∀ e ∈ o.after, Region.binds .any e = true → L e.on = true
/-- Operation j wants operation i, straight or by way of others. -/
def wantsB (ops : Array Oper) : Nat → Nat → Nat → Bool
  | 0, _, _ => false
  | f + 1, j, i => match ops[j]? with
    | none => false
    | some o => o.after.any fun e => Region.binds .any e && (e.on == i || wantsB ops f e.on i)
theorem wants_done {ops : Array Oper} {L : Nat → Bool} (hc : CloB ops L) : ∀ (f j i : Nat), wantsB ops f j i = true → L j = true → L i = true
  | 0, _, _, h, _ => by cases h
  | f + 1, j, i, h, hj => by
    unfold wantsB at h
    cases ho : ops[j]? with
    | none => rw [ho] at h; cases h
    | some o =>
      rw [ho] at h
      simp only at h
      rw [← Array.any_toList, List.any_eq_true] at h
      obtain ⟨e, he, h4⟩ := h
      rw [Bool.and_eq_true, Bool.or_eq_true, beq_iff_eq] at h4
      have hl := hc j o ho hj e (by simpa using he) h4.1
      rcases h4.2 with c | c
      · rw [← c]; exact hl
      · exact wants_done hc f e.on i c hl
/-- One that is not done keeps those back that want it. -/
theorem wants_back {ops : Array Oper} {L : Nat → Bool} (hc : CloB ops L) (f j i : Nat) (h : wantsB ops f j i = true) (hi : L i = false) : L j = false := by
  cases hj : L j with
  | false => rfl
  | true => rw [wants_done hc f j i h hj] at hi; cases hi
/-- What is known of those that an operation waits for. -/
def depsG (L : Nat → Bool) (R : (Nat → Bool) → Nat → Value → World → Prop) (val : Nat → Value) (w : World) : List Edge → Prop
  | [] => True
  | e :: l => (Region.binds .any e = true → L e.on = true ∧ R L e.on (val e.on) w) ∧ depsG L R val w l
theorem depsG_of {L : Nat → Bool} {R : (Nat → Bool) → Nat → Value → World → Prop} {val : Nat → Value} {w : World} : ∀ (l : List Edge), (∀ e ∈ l, Region.binds .any e = true → L e.on = true ∧ R L e.on (val e.on) w) → depsG L R val w l
  | [], _ => trivial
  | e :: l, h => ⟨h e (by simp), depsG_of l (fun x hx => h x (by simp [hx]))⟩
theorem depsG_get {L : Nat → Bool} {R : (Nat → Bool) → Nat → Value → World → Prop} {val : Nat → Value} {w : World} : ∀ {l : List Edge}, depsG L R val w l → ∀ j, (l.any fun e => Region.binds .any e && e.on == j) = true → R L j (val j) w
  | [], _, j, h => by cases h
  | e :: l, hd, j, h => by
    simp only [List.any_cons, Bool.or_eq_true, Bool.and_eq_true, beq_iff_eq] at h
    rcases h with ⟨hb, rfl⟩ | h
    · exact (hd.1 hb).2
    · exact depsG_get hd.2 j (by simpa using h)
theorem depsG_on {L : Nat → Bool} {R : (Nat → Bool) → Nat → Value → World → Prop} {val : Nat → Value} {w : World} : ∀ {l : List Edge}, depsG L R val w l → ∀ j, (l.any fun e => Region.binds .any e && e.on == j) = true → L j = true
  | [], _, j, h => by cases h
  | e :: l, hd, j, h => by
    simp only [List.any_cons, Bool.or_eq_true, Bool.and_eq_true, beq_iff_eq] at h
    rcases h with ⟨hb, rfl⟩ | h
    · exact (hd.1 hb).1
    · exact depsG_on hd.2 j (by simpa using h)
/-- What is asked of one operation. -/
def OpGen (P : Program) (ops : Array Oper) (Q : Exit → Act → World → Prop) (frame : (Nat → Value) → Act) (val0 : Nat → Value) (G : (Nat → Bool) → World → Prop) (R : (Nat → Bool) → Nat → Value → World → Prop) (i : Nat) (o : Oper) : Prop :=
  ∀ L val w, CloB ops L → L i = false → (∀ j, L j = false → val j = val0 j) → G L w → depsG L R val w o.after.toList →
      if Region.wanted o (yielded ops (frame val).tmps) then o.wp P (frame val) w (fun a' w' => ∃ v, a' = frame (upV val i v) ∧ R (upB L i) i v w' ∧ G (upB L i) w' ∧ ∀ j u, L j = true → R L j u w → R (upB L i) j u w') Q
      else (frame val).put o.dst undef = frame (upV val i undef) ∧ R (upB L i) i undef w ∧ G (upB L i) w ∧ ∀ j u, L j = true → R L j u w → R (upB L i) j u w
theorem wp_region_gen {P : Program} {ops : Array Oper} {Q : Exit → Act → World → Prop} {id : Nat} {a0 : Act} {w0 : World} (hm : P.follows .mixedOrders = true) (hah : aheadB ops = true)
    (frame : (Nat → Value) → Act) (val0 : Nat → Value) (h0 : a0 = frame val0) (G : (Nat → Bool) → World → Prop) (R : (Nat → Bool) → Nat → Value → World → Prop)
    (hG0 : G (fun _ => false) w0.drew) (l : List Oper) (hl : ops.toList = l) (hop : allOps (OpGen P ops Q frame val0 G R) 0 l)
    (hend : ∀ L val w, (∀ i, i < ops.size → L i = true) → G L w → (∀ i, i < ops.size → R L i (val i) w) → Q .normal (frame val) w) : (Code.region id ops true).wp P Q a0 w0 := by
  refine wp_region_any hm ?_
  refine wpAny_inv (fun listed a w => listed.size = ops.size ∧ CloB ops (fun i => listed.getD i false) ∧ ∃ val, a = frame val ∧ (∀ j, listed.getD j false = false → val j = val0 j) ∧ G (fun i => listed.getD i false) w ∧ ∀ i, i < ops.size → listed.getD i false = true → R (fun i => listed.getD i false) i (val i) w) ?_ ?_ _ _ _ _ ?_ ?_
  · rintro listed a w ⟨hs, hclo, val, rfl, hv, hG, hR⟩ i hi
    rw [mem_ready] at hi
    obtain ⟨h1, o, ho, h2⟩ := hi
    have hio : i < ops.size := (Array.getElem?_eq_some_iff.1 ho).1
    have hil : i < listed.size := by omega
    have hif : listed.getD i false = false := by
      rw [Array.getD_eq_getD_getElem?, Array.getElem?_eq_getElem hil] at h1 ⊢
      exact h1
    have eL : (fun j => (listed.setIfInBounds i true).getD j false) = upB (fun j => listed.getD j false) i := by
      funext j
      by_cases e : j = i
      · subst e
        rw [upB_self, Array.getD_eq_getD_getElem?, Array.getElem?_setIfInBounds_self_of_lt hil]
        rfl
      · rw [upB_ne _ _ _ e, getD_set_ne false (fun c => e c.symm)]
    have hclo2 : CloB ops (upB (fun j => listed.getD j false) i) := by
      intro j oj hoj hj e he hb
      by_cases ej : j = i
      · subst ej
        rw [ho] at hoj
        injection hoj with hoj
        subst hoj
        by_cases ee : e.on = j
        · rw [ee]; exact upB_self _ _
        · rw [upB_ne _ _ _ ee]; exact h2 e he hb
      · rw [upB_ne _ _ _ ej] at hj
        by_cases ee : e.on = i
        · rw [ee]; exact upB_self _ _
        · rw [upB_ne _ _ _ ee]; exact hclo j oj hoj hj e he hb
    have key : ∀ v w', R (upB (fun j => listed.getD j false) i) i v w' → G (upB (fun j => listed.getD j false) i) w' → (∀ j u, listed.getD j false = true → R (fun j => listed.getD j false) j u w → R (upB (fun j => listed.getD j false) i) j u w') →
        ((listed.setIfInBounds i true).size = ops.size ∧ CloB ops (fun j => (listed.setIfInBounds i true).getD j false) ∧ ∃ val', frame (upV val i v) = frame val' ∧ (∀ j, (listed.setIfInBounds i true).getD j false = false → val' j = val0 j) ∧ G (fun j => (listed.setIfInBounds i true).getD j false) w' ∧ ∀ j, j < ops.size → (listed.setIfInBounds i true).getD j false = true → R (fun j => (listed.setIfInBounds i true).getD j false) j (val' j) w') := fun v w' q1 q2 q3 => by
      have eL' : ∀ j, (listed.setIfInBounds i true).getD j false = upB (fun j => listed.getD j false) i j := fun j => congrFun eL j
      rw [eL]
      refine ⟨by simpa using hs, hclo2, upV val i v, rfl, fun j hj => ?_, q2, fun j hj hl2 => ?_⟩
      · rw [eL'] at hj
        by_cases e : j = i
        · subst e; rw [upB_self] at hj; cases hj
        · rw [upB_ne _ _ _ e] at hj
          rw [upV_ne _ _ _ _ e]
          exact hv j hj
      · rw [eL'] at hl2
        by_cases e : j = i
        · subst e
          rw [upV_self]
          exact q1
        · rw [upB_ne _ _ _ e] at hl2
          rw [upV_ne _ _ _ _ e]
          exact q3 j _ hl2 (hR j hj hl2)
    have hk := allOps_at l 0 i o hop (by rw [← hl]; simpa using ho)
    rw [Nat.zero_add] at hk
    have hk2 := hk (fun j => listed.getD j false) val w hclo hif hv hG (depsG_of _ (fun e he hb => by
      have hea : e ∈ o.after := by simpa using he
      have hlt := ahead_of hah ho e hea hb
      exact ⟨h2 e hea hb, hR e.on (by omega) (h2 e hea hb)⟩))
    unfold wpOp
    rw [ho]
    simp only
    by_cases hw : Region.wanted o (yielded ops (frame val).tmps) = true
    · rw [if_pos hw] at hk2 ⊢
      exact .inl (Oper.wp_mono (fun a' w' ⟨v, e, q1, q2, q3⟩ => by rw [e]; exact key v w' q1 q2 q3) hk2)
    · rw [if_neg hw] at hk2 ⊢
      rw [hk2.1]
      exact key undef w hk2.2.1 hk2.2.2.1 hk2.2.2.2
  · rintro listed a w ⟨hs, hclo, val, rfl, hv, hG, hR⟩ hr
    have hall := all_listed hah hs hr
    exact hend _ val w hall hG (fun i hi => hR i hi (hall i hi))
  · unfold leftN
    exact Nat.le_trans (List.length_filter_le _ _) (by simp)
  · have e : ∀ j, (Array.replicate ops.size false).getD j false = false := fun j => by
      rw [Array.getD_eq_getD_getElem?, Array.getElem?_replicate]
      split <;> rfl
    have eF : (fun j => (Array.replicate ops.size false).getD j false) = fun _ => false := funext e
    refine ⟨by simp, fun j o ho hj => ?_, val0, h0, fun _ _ => rfl, ?_, fun i hi hl2 => ?_⟩
    · simp only [e] at hj
      cases hj
    · rw [eF]; exact hG0
    · rw [e] at hl2
      cases hl2
section
variable {P : Program} {ops : Array Oper} {Q : Exit → Act → World → Prop} {frame : (Nat → Value) → Act} {val0 : Nat → Value} {G : (Nat → Bool) → World → Prop} {R : (Nat → Bool) → Nat → Value → World → Prop} {i : Nat} {o : Oper}
/-- What an operation must come to. -/
def GDoes (P : Program) (Q : Exit → Act → World → Prop) (G : (Nat → Bool) → World → Prop) (R : (Nat → Bool) → Nat → Value → World → Prop) (L : Nat → Bool) (i : Nat) (o : Oper) (A : Act) (w : World) : Prop :=
  ∀ K : Act → World → Prop, (∀ v w', R (upB L i) i v w' → G (upB L i) w' → (∀ j u, L j = true → R L j u w → R (upB L i) j u w') → K (A.put o.dst v) w') → o.wp P A w K Q
theorem gen_plain (hg : o.guard = none) (hput : ∀ val v, (frame val).put o.dst v = frame (upV val i v)) (h : ∀ L val w, CloB ops L → L i = false → (∀ j, L j = false → val j = val0 j) → G L w → depsG L R val w o.after.toList → GDoes P Q G R L i o (frame val) w) : OpGen P ops Q frame val0 G R i o := by
  intro L val w h1 h2 h3 h4 h5
  rw [if_pos (by simp [Region.wanted, hg])]
  exact h L val w h1 h2 h3 h4 h5 _ (fun v w' q1 q2 q3 => ⟨v, hput val v, q1, q2, q3⟩)
theorem gen_yes (j : Nat) (b : Bool) (hg : o.guard = some (j, b)) (hput : ∀ val v, (frame val).put o.dst v = frame (upV val i v)) (hy : ∀ L val w, depsG L R val w o.after.toList → yielded ops (frame val).tmps j = some b) (h : ∀ L val w, CloB ops L → L i = false → (∀ j, L j = false → val j = val0 j) → G L w → depsG L R val w o.after.toList → GDoes P Q G R L i o (frame val) w) : OpGen P ops Q frame val0 G R i o := by
  intro L val w h1 h2 h3 h4 h5
  rw [if_pos (by simp [Region.wanted, hg, hy L val w h5])]
  exact h L val w h1 h2 h3 h4 h5 _ (fun v w' q1 q2 q3 => ⟨v, hput val v, q1, q2, q3⟩)
/-- One that yields a value and leaves the world. -/
theorem gdoes_value {L : Nat → Bool} {A : Act} {w : World} {v : Value} (h : (execOp A.eval o).run P w = .ok (.value v) w) (hR : R (upB L i) i v w) (hG : G (upB L i) w) (hp : ∀ j u, L j = true → R L j u w → R (upB L i) j u w) : GDoes P Q G R L i o A w := by
  intro K hK
  unfold Oper.wp
  rw [h]
  exact hK v w hR hG hp
/-- One that yields a value in another world. -/
theorem gdoes_turn {L : Nat → Bool} {A : Act} {w w' : World} {v : Value} (h : (execOp A.eval o).run P w = .ok (.value v) w') (hR : R (upB L i) i v w') (hG : G (upB L i) w') (hp : ∀ j u, L j = true → R L j u w → R (upB L i) j u w') : GDoes P Q G R L i o A w := by
  intro K hK
  unfold Oper.wp
  rw [h]
  exact hK v w' hR hG hp
theorem gdoes_skip {L : Nat → Bool} {A : Act} {w w' : World} (h : (execOp A.eval o).run P w = .ok .skip w') (hR : R (upB L i) i undef w') (hG : G (upB L i) w') (hp : ∀ j u, L j = true → R L j u w → R (upB L i) j u w') : GDoes P Q G R L i o A w := by
  intro K hK
  unfold Oper.wp
  rw [h]
  exact hK undef w' hR hG hp
/-- A call. -/
theorem gdoes_call {L : Nat → Bool} {A : Act} {w : World} {f : FuncId} {args : Array Value} {C : Ending → World → Prop} (h : (execOp A.eval o).run P w = .ok (.enter f args) w) (hc : Calls P f args w C) (hR : ∀ e w', C e w' → ∃ v, e = .returned v ∧ R (upB L i) i v w' ∧ G (upB L i) w' ∧ ∀ j u, L j = true → R L j u w → R (upB L i) j u w') : GDoes P Q G R L i o A w := by
  intro K hK
  unfold Oper.wp
  rw [h]
  refine Calls.mono hc (fun e w' he => ?_)
  obtain ⟨v, rfl, q1, q2, q3⟩ := hR e w' he
  exact hK v w' q1 q2 q3
end
end Go.Proofs.YtdihbeffomibeaaGreatDoor
namespace Go.Proofs.YtdihbeffomibeaaGreatDoor
set_option linter.unusedVariables false
set_option linter.unusedSimpArgs false
open Go.RowKit

/-- What is asked of one operation. -/
def OpGen2 (P : Program) (ops : Array Oper) (Q : Exit → Act → World → Prop) (frame : (Nat → Value) → Act) (val0 : Nat → Value) (G : (Nat → Bool) → World → Prop) (R : (Nat → Bool) → Nat → Value → World → Prop) (i : Nat) (o : Oper) : Prop :=
  ∀ L val w, CloB ops L → L i = false → (∀ j, L j = false → val j = val0 j) → G L w → depsG L R val w o.after.toList →
      if Region.wanted o (yielded ops (frame val).tmps) then o.wp P (frame val) w (fun a' w' => ∃ v, a' = frame (upV val i v) ∧ R (upB L i) i v w' ∧ G (upB L i) w' ∧ ∀ j, L j = true → R L j (val j) w → R (upB L i) j (val j) w') Q
      else (frame val).put o.dst undef = frame (upV val i undef) ∧ R (upB L i) i undef w ∧ G (upB L i) w ∧ ∀ j, L j = true → R L j (val j) w → R (upB L i) j (val j) w
theorem wp_region_gen2 {P : Program} {ops : Array Oper} {Q : Exit → Act → World → Prop} {id : Nat} {a0 : Act} {w0 : World} (hm : P.follows .mixedOrders = true) (hah : aheadB ops = true)
    (frame : (Nat → Value) → Act) (val0 : Nat → Value) (h0 : a0 = frame val0) (G : (Nat → Bool) → World → Prop) (R : (Nat → Bool) → Nat → Value → World → Prop)
    (hG0 : G (fun _ => false) w0.drew) (l : List Oper) (hl : ops.toList = l) (hop : allOps (OpGen2 P ops Q frame val0 G R) 0 l)
    (hend : ∀ L val w, (∀ i, i < ops.size → L i = true) → G L w → (∀ i, i < ops.size → R L i (val i) w) → Q .normal (frame val) w) : (Code.region id ops true).wp P Q a0 w0 := by
  refine wp_region_any hm ?_
  refine wpAny_inv (fun listed a w => listed.size = ops.size ∧ CloB ops (fun i => listed.getD i false) ∧ ∃ val, a = frame val ∧ (∀ j, listed.getD j false = false → val j = val0 j) ∧ G (fun i => listed.getD i false) w ∧ ∀ i, i < ops.size → listed.getD i false = true → R (fun i => listed.getD i false) i (val i) w) ?_ ?_ _ _ _ _ ?_ ?_
  · rintro listed a w ⟨hs, hclo, val, rfl, hv, hG, hR⟩ i hi
    rw [mem_ready] at hi
    obtain ⟨h1, o, ho, h2⟩ := hi
    have hio : i < ops.size := (Array.getElem?_eq_some_iff.1 ho).1
    have hil : i < listed.size := by omega
    have hif : listed.getD i false = false := by
      rw [Array.getD_eq_getD_getElem?, Array.getElem?_eq_getElem hil] at h1 ⊢
      exact h1
    have eL : (fun j => (listed.setIfInBounds i true).getD j false) = upB (fun j => listed.getD j false) i := by
      funext j
      by_cases e : j = i
      · subst e
        rw [upB_self, Array.getD_eq_getD_getElem?, Array.getElem?_setIfInBounds_self_of_lt hil]
        rfl
      · rw [upB_ne _ _ _ e, getD_set_ne false (fun c => e c.symm)]
    have hclo2 : CloB ops (upB (fun j => listed.getD j false) i) := by
      intro j oj hoj hj e he hb
      by_cases ej : j = i
      · subst ej
        rw [ho] at hoj
        injection hoj with hoj
        subst hoj
        by_cases ee : e.on = j
        · rw [ee]; exact upB_self _ _
        · rw [upB_ne _ _ _ ee]; exact h2 e he hb
      · rw [upB_ne _ _ _ ej] at hj
        by_cases ee : e.on = i
        · rw [ee]; exact upB_self _ _
        · rw [upB_ne _ _ _ ee]; exact hclo j oj hoj hj e he hb
    have key : ∀ v w', R (upB (fun j => listed.getD j false) i) i v w' → G (upB (fun j => listed.getD j false) i) w' → (∀ j, listed.getD j false = true → R (fun j => listed.getD j false) j (val j) w → R (upB (fun j => listed.getD j false) i) j (val j) w') →
        ((listed.setIfInBounds i true).size = ops.size ∧ CloB ops (fun j => (listed.setIfInBounds i true).getD j false) ∧ ∃ val', frame (upV val i v) = frame val' ∧ (∀ j, (listed.setIfInBounds i true).getD j false = false → val' j = val0 j) ∧ G (fun j => (listed.setIfInBounds i true).getD j false) w' ∧ ∀ j, j < ops.size → (listed.setIfInBounds i true).getD j false = true → R (fun j => (listed.setIfInBounds i true).getD j false) j (val' j) w') := fun v w' q1 q2 q3 => by
      have eL' : ∀ j, (listed.setIfInBounds i true).getD j false = upB (fun j => listed.getD j false) i j := fun j => congrFun eL j
      rw [eL]
      refine ⟨by simpa using hs, hclo2, upV val i v, rfl, fun j hj => ?_, q2, fun j hj hl2 => ?_⟩
      · rw [eL'] at hj
        by_cases e : j = i
        · subst e; rw [upB_self] at hj; cases hj
        · rw [upB_ne _ _ _ e] at hj
          rw [upV_ne _ _ _ _ e]
          exact hv j hj
      · rw [eL'] at hl2
        by_cases e : j = i
        · subst e
          rw [upV_self]
          exact q1
        · rw [upB_ne _ _ _ e] at hl2
          rw [upV_ne _ _ _ _ e]
          exact q3 j hl2 (hR j hj hl2)
    have hk := allOps_at l 0 i o hop (by rw [← hl]; simpa using ho)
    rw [Nat.zero_add] at hk
    have hk2 := hk (fun j => listed.getD j false) val w hclo hif hv hG (depsG_of _ (fun e he hb => by
      have hea : e ∈ o.after := by simpa using he
      have hlt := ahead_of hah ho e hea hb
      exact ⟨h2 e hea hb, hR e.on (by omega) (h2 e hea hb)⟩))
    unfold wpOp
    rw [ho]
    simp only
    by_cases hw : Region.wanted o (yielded ops (frame val).tmps) = true
    · rw [if_pos hw] at hk2 ⊢
      exact .inl (Oper.wp_mono (fun a' w' ⟨v, e, q1, q2, q3⟩ => by rw [e]; exact key v w' q1 q2 q3) hk2)
    · rw [if_neg hw] at hk2 ⊢
      rw [hk2.1]
      exact key undef w hk2.2.1 hk2.2.2.1 hk2.2.2.2
  · rintro listed a w ⟨hs, hclo, val, rfl, hv, hG, hR⟩ hr
    have hall := all_listed hah hs hr
    exact hend _ val w hall hG (fun i hi => hR i hi (hall i hi))
  · unfold leftN
    exact Nat.le_trans (List.length_filter_le _ _) (by simp)
  · have e : ∀ j, (Array.replicate ops.size false).getD j false = false := fun j => by
      rw [Array.getD_eq_getD_getElem?, Array.getElem?_replicate]
      split <;> rfl
    have eF : (fun j => (Array.replicate ops.size false).getD j false) = fun _ => false := funext e
    refine ⟨by simp, fun j o ho hj => ?_, val0, h0, fun _ _ => rfl, ?_, fun i hi hl2 => ?_⟩
    · simp only [e] at hj
      cases hj
    · rw [eF]; exact hG0
    · rw [e] at hl2
      cases hl2
section
variable {P : Program} {ops : Array Oper} {Q : Exit → Act → World → Prop} {frame : (Nat → Value) → Act} {val0 : Nat → Value} {G : (Nat → Bool) → World → Prop} {R : (Nat → Bool) → Nat → Value → World → Prop} {i : Nat} {o : Oper}
/-- What an operation must come to. -/
def GDoes2 (P : Program) (Q : Exit → Act → World → Prop) (G : (Nat → Bool) → World → Prop) (R : (Nat → Bool) → Nat → Value → World → Prop) (val : Nat → Value) (L : Nat → Bool) (i : Nat) (o : Oper) (A : Act) (w : World) : Prop :=
  ∀ K : Act → World → Prop, (∀ v w', R (upB L i) i v w' → G (upB L i) w' → (∀ j, L j = true → R L j (val j) w → R (upB L i) j (val j) w') → K (A.put o.dst v) w') → o.wp P A w K Q
theorem gen_plain2 (hg : o.guard = none) (hput : ∀ val v, (frame val).put o.dst v = frame (upV val i v)) (h : ∀ L val w, CloB ops L → L i = false → (∀ j, L j = false → val j = val0 j) → G L w → depsG L R val w o.after.toList → GDoes2 P Q G R val L i o (frame val) w) : OpGen2 P ops Q frame val0 G R i o := by
  intro L val w h1 h2 h3 h4 h5
  rw [if_pos (by simp [Region.wanted, hg])]
  exact h L val w h1 h2 h3 h4 h5 _ (fun v w' q1 q2 q3 => ⟨v, hput val v, q1, q2, q3⟩)
theorem gen_yes2 (j : Nat) (b : Bool) (hg : o.guard = some (j, b)) (hput : ∀ val v, (frame val).put o.dst v = frame (upV val i v)) (hy : ∀ L val w, depsG L R val w o.after.toList → yielded ops (frame val).tmps j = some b) (h : ∀ L val w, CloB ops L → L i = false → (∀ j, L j = false → val j = val0 j) → G L w → depsG L R val w o.after.toList → GDoes2 P Q G R val L i o (frame val) w) : OpGen2 P ops Q frame val0 G R i o := by
  intro L val w h1 h2 h3 h4 h5
  rw [if_pos (by simp [Region.wanted, hg, hy L val w h5])]
  exact h L val w h1 h2 h3 h4 h5 _ (fun v w' q1 q2 q3 => ⟨v, hput val v, q1, q2, q3⟩)
/-- One that yields a value and leaves the world. -/
theorem gdoes2_value {val : Nat → Value} {L : Nat → Bool} {A : Act} {w : World} {v : Value} (h : (execOp A.eval o).run P w = .ok (.value v) w) (hR : R (upB L i) i v w) (hG : G (upB L i) w) (hp : ∀ j, L j = true → R L j (val j) w → R (upB L i) j (val j) w) : GDoes2 P Q G R val L i o A w := by
  intro K hK
  unfold Oper.wp
  rw [h]
  exact hK v w hR hG hp
/-- One that yields a value in another world. -/
theorem gdoes2_turn {val : Nat → Value} {L : Nat → Bool} {A : Act} {w w' : World} {v : Value} (h : (execOp A.eval o).run P w = .ok (.value v) w') (hR : R (upB L i) i v w') (hG : G (upB L i) w') (hp : ∀ j, L j = true → R L j (val j) w → R (upB L i) j (val j) w') : GDoes2 P Q G R val L i o A w := by
  intro K hK
  unfold Oper.wp
  rw [h]
  exact hK v w' hR hG hp
theorem gdoes2_skip {val : Nat → Value} {L : Nat → Bool} {A : Act} {w w' : World} (h : (execOp A.eval o).run P w = .ok .skip w') (hR : R (upB L i) i undef w') (hG : G (upB L i) w') (hp : ∀ j, L j = true → R L j (val j) w → R (upB L i) j (val j) w') : GDoes2 P Q G R val L i o A w := by
  intro K hK
  unfold Oper.wp
  rw [h]
  exact hK undef w' hR hG hp
/-- A call. -/
theorem gdoes2_call {val : Nat → Value} {L : Nat → Bool} {A : Act} {w : World} {f : FuncId} {args : Array Value} {C : Ending → World → Prop} (h : (execOp A.eval o).run P w = .ok (.enter f args) w) (hc : Calls P f args w C) (hR : ∀ e w', C e w' → ∃ v, e = .returned v ∧ R (upB L i) i v w' ∧ G (upB L i) w' ∧ ∀ j, L j = true → R L j (val j) w → R (upB L i) j (val j) w') : GDoes2 P Q G R val L i o A w := by
  intro K hK
  unfold Oper.wp
  rw [h]
  refine Calls.mono hc (fun e w' he => ?_)
  obtain ⟨v, rfl, q1, q2, q3⟩ := hR e w' he
  exact hK v w' q1 q2 q3
end
end Go.Proofs.YtdihbeffomibeaaGreatDoor
