/-
  A region that draws its order and whose operations write into what it has made itself: what is known of an operation's value holds until the operation that uses it up.
  A region that draws its order, reads, and has two operations that change the memory: what the memory is like is told by which of the two have come.
-/
import Derived.Test.YtnfbcmnlloipiaaK12
namespace Go.Proofs.Ytnfbcmnlloipiaa
set_option linter.unusedVariables false
set_option linter.unusedSimpArgs false
open Go.RowKit

/-- Operation j has come, and what is known of it is not used up, when operation i comes. -/
def liveB (ops : Array Oper) (til : Nat → Option Nat) (i j : Nat) : Bool :=
  decide (j ≠ i) &&
  (match til j with
   | none => true
   | some k => decide (k ≠ i) && (match ops[i]? with | none => true | some o => o.after.all fun e => !Region.binds .any e || decide (e.on ≠ k))) &&
  (match ops[j]? with | none => true | some o => o.after.all fun e => !Region.binds .any e || decide (e.on ≠ i))
/-- What an operation must come to. -/
def OpDoesT (P : Program) (ops : Array Oper) (Q : Exit → Act → World → Prop) (til : Nat → Option Nat) (G : World → Prop) (R : Nat → Value → World → Prop) (i : Nat) (o : Oper) (A : Act) (w : World) : Prop :=
  ∀ K : Act → World → Prop, (∀ v w', R i v w' → G w' → (∀ j u, j < ops.size → liveB ops til i j = true → R j u w → R j u w') → K (A.put o.dst v) w') → o.wp P A w K Q
/-- What is known of those that an operation waits for. -/
def depsT (R : Nat → Value → World → Prop) (til : Nat → Option Nat) (i : Nat) (val : Nat → Value) (w : World) (l : List Edge) : Prop :=
  ∀ e ∈ l, Region.binds .any e = true → (til e.on = none ∨ til e.on = some i) → R e.on (val e.on) w
theorem depsT_get {R : Nat → Value → World → Prop} {til : Nat → Option Nat} {i : Nat} {val : Nat → Value} {w : World} {l : List Edge} (h : depsT R til i val w l) (j : Nat) (hj : (l.any fun e => Region.binds .any e && e.on == j) = true) (ht : til j = none ∨ til j = some i) : R j (val j) w := by
  rw [List.any_eq_true] at hj
  obtain ⟨e, he, hb⟩ := hj
  simp only [Bool.and_eq_true, beq_iff_eq] at hb
  obtain ⟨h1, rfl⟩ := hb
  exact h e he h1 ht
def OpAskT (P : Program) (ops : Array Oper) (Q : Exit → Act → World → Prop) (til : Nat → Option Nat) (G : World → Prop) (frame : (Nat → Value) → Act) (R : Nat → Value → World → Prop) (i : Nat) (o : Oper) : Prop :=
  o.guard = none ∧ (∀ val v, (frame val).put o.dst v = frame (upV val i v)) ∧ ∀ val w, G w → depsT R til i val w o.after.toList → OpDoesT P ops Q til G R i o (frame val) w
theorem wp_region_til {P : Program} {ops : Array Oper} {Q : Exit → Act → World → Prop} {id : Nat} {a0 : Act} {w0 : World} (hm : P.follows .mixedOrders = true) (hah : aheadB ops = true)
    (til : Nat → Option Nat) (G : World → Prop) (hG : G w0.drew) (frame : (Nat → Value) → Act) (R : Nat → Value → World → Prop) (val0 : Nat → Value) (h0 : a0 = frame val0)
    (l : List Oper) (hl : ops.toList = l) (hop : allOps (OpAskT P ops Q til G frame R) 0 l)
    (hend : ∀ val w, G w → (∀ i, i < ops.size → til i = none → R i (val i) w) → Q .normal (frame val) w) : (Code.region id ops true).wp P Q a0 w0 := by
  refine wp_region_any hm ?_
  refine wpAny_inv (fun listed a w => listed.size = ops.size ∧ (∀ i o, ops[i]? = some o → listed.getD i false = true → ∀ e ∈ o.after, Region.binds .any e = true → listed.getD e.on false = true) ∧ ∃ val, a = frame val ∧ G w ∧ ∀ i, i < ops.size → listed.getD i false = true → (∀ k, til i = some k → listed.getD k false = false) → R i (val i) w) ?_ ?_ _ _ _ _ ?_ ?_
  · rintro listed a w ⟨hs, hdep, val, rfl, hg, hR⟩ i hi
    rw [mem_ready] at hi
    obtain ⟨h1, o, ho, h2⟩ := hi
    have hio : i < ops.size := (Array.getElem?_eq_some_iff.1 ho).1
    have hil : i < listed.size := by omega
    have hif : listed.getD i false = false := by
      rw [Array.getD_eq_getD_getElem?, Array.getElem?_eq_getElem hil] at h1 ⊢
      exact h1
    obtain ⟨g1, g2, g3⟩ := allOps_at l 0 i o hop (by rw [← hl]; simpa using ho)
    rw [Nat.zero_add] at g2 g3
    unfold wpOp
    rw [ho]
    simp only
    rw [if_pos (by simp [Region.wanted, g1])]
    have dep : depsT R til i val w o.after.toList := fun e he hb ht => by
      have hea : e ∈ o.after := by simpa using he
      have hlt := ahead_of hah ho e hea hb
      refine hR e.on (by omega) (h2 e hea hb) (fun k hk => ?_)
      rcases ht with q | q
      · rw [q] at hk; cases hk
      · rw [q] at hk
        injection hk with hk
        rw [← hk]
        exact hif
    refine .inl (g3 val w hg dep _ (fun v w' hv hg' hpres => ?_))
    rw [g2]
    refine ⟨by simpa using hs, fun j oj hoj hl2 e he hb => ?_, upV val i v, rfl, hg', fun j hj hl2 ht => ?_⟩
    · by_cases eji : e.on = i
      · rw [eji, Array.getD_eq_getD_getElem?, Array.getElem?_setIfInBounds_self_of_lt hil]
        rfl
      · rw [getD_set_ne false (fun c => eji c.symm)]
        by_cases ji : j = i
        · subst ji
          rw [ho] at hoj
          injection hoj with hoj
          subst hoj
          exact h2 e he hb
        · rw [getD_set_ne false (fun c => ji c.symm)] at hl2
          exact hdep j oj hoj hl2 e he hb
    · by_cases e : j = i
      · subst e
        rw [upV_self]
        exact hv
      · rw [upV_ne _ _ _ _ e]
        rw [getD_set_ne false (fun c => e c.symm)] at hl2
        refine hpres j _ hj ?_ (hR j hj hl2 (fun k hk => ?_))
        · unfold liveB
          simp only [Bool.and_eq_true, decide_eq_true_eq]
          refine ⟨⟨e, ?_⟩, ?_⟩
          · cases hk : til j with
            | none => rfl
            | some k =>
              have hkf := ht k hk
              rw [ho]
              simp only [Bool.and_eq_true, decide_eq_true_eq, Array.all_eq_true_iff_forall_mem, Bool.or_eq_true, Bool.not_eq_true']
              have hki : k ≠ i := fun c => by
                subst c
                rw [Array.getD_eq_getD_getElem?, Array.getElem?_setIfInBounds_self_of_lt hil] at hkf
                cases hkf
              refine ⟨hki, fun x hx => ?_⟩
              cases hb : Region.binds .any x with
              | false => exact .inl rfl
              | true =>
                refine .inr (fun c => ?_)
                have := h2 x hx hb
                rw [c] at this
                rw [getD_set_ne false (fun c => hki c.symm)] at hkf
                rw [this] at hkf
                cases hkf
          · have hoj : ops[j]? = some ops[j] := Array.getElem?_eq_getElem hj
            rw [hoj]
            simp only [Array.all_eq_true_iff_forall_mem, Bool.or_eq_true, Bool.not_eq_true', decide_eq_true_eq]
            intro x hx
            cases hb : Region.binds .any x with
            | false => exact .inl rfl
            | true =>
              refine .inr (fun c => ?_)
              have := hdep j _ hoj hl2 x hx hb
              rw [c, hif] at this
              cases this
        · have hkf := ht k hk
          by_cases ki : k = i
          · subst ki; exact hif
          · rw [getD_set_ne false (fun c => ki c.symm)] at hkf
            exact hkf
  · rintro listed a w ⟨hs, hdep, val, rfl, hg, hR⟩ hr
    exact hend val w hg (fun i hi ht => hR i hi (all_listed hah hs hr i hi) (fun k hk => by rw [ht] at hk; cases hk))
  · unfold leftN
    exact Nat.le_trans (List.length_filter_le _ _) (by simp)
  · refine ⟨by simp, fun i o ho hl2 => ?_, val0, h0, hG, fun i hi hl2 => ?_⟩
    · have hi := (Array.getElem?_eq_some_iff.1 ho).1
      simp [Array.getD_eq_getD_getElem?, hi] at hl2
    · simp [Array.getD_eq_getD_getElem?, hi] at hl2
section
variable {P : Program} {ops : Array Oper} {Q : Exit → Act → World → Prop} {til : Nat → Option Nat} {G : World → Prop} {R : Nat → Value → World → Prop} {i : Nat} {o : Oper}
theorem doesT_value {A : Act} {w : World} {v : Value} (hG : G w) (h : (execOp A.eval o).run P w = .ok (.value v) w) (hR : R i v w) : OpDoesT P ops Q til G R i o A w := by
  intro K hK
  unfold Oper.wp
  rw [h]
  exact hK v w hR hG (fun _ _ _ _ x => x)
theorem doesT_grown {A : Act} {w w' : World} {v : Value} (h : (execOp A.eval o).run P w = .ok (.value v) w') (hR : R i v w') (hG : G w') (hp : ∀ j u, j < ops.size → liveB ops til i j = true → R j u w → R j u w') : OpDoesT P ops Q til G R i o A w := by
  intro K hK
  unfold Oper.wp
  rw [h]
  exact hK v w' hR hG hp
end
end Go.Proofs.Ytnfbcmnlloipiaa
namespace Go.Proofs.Ytnfbcmnlloipiaa
set_option linter.unusedVariables false
set_option linter.unusedSimpArgs false
open Go.RowKit

/-- Operation m waits for operation i, maybe by way of others. -/
def needB (ops : Array Oper) : Nat → Nat → Nat → Bool
  | 0, _, _ => false
  | f + 1, m, i => match ops[m]? with
    | none => false
    | some o => o.after.toList.any fun e => Region.binds .any e && (e.on == i || needB ops f e.on i)
theorem need_listed {ops : Array Oper} {listed : Array Bool} (hc : ∀ i o, ops[i]? = some o → listed.getD i false = true → ∀ e ∈ o.after, Region.binds .any e = true → listed.getD e.on false = true) : ∀ f m i, needB ops f m i = true → listed.getD m false = true → listed.getD i false = true
  | 0, m, i, h, _ => by cases h
  | f + 1, m, i, h, hl => by
    unfold needB at h
    cases ho : ops[m]? with
    | none => rw [ho] at h; cases h
    | some o =>
      rw [ho] at h
      simp only [List.any_eq_true, Bool.and_eq_true, Bool.or_eq_true, beq_iff_eq] at h
      obtain ⟨e, he, hb, h2⟩ := h
      have q := hc m o ho hl e (by simpa using he) hb
      rcases h2 with rfl | h2
      · exact q
      · exact need_listed hc f e.on i h2 q
section
variable (P : Program) (ops : Array Oper) (Q : Exit → Act → World → Prop) (f m1 m2 : Nat) (G : Bool → Bool → World → Prop) (frame : (Nat → Value) → Act) (R : Nat → Value → World → Prop) (val0 : Nat → Value)
/-- What an operation must come to. -/
def OpDoes2 (b1 b2 : Bool) (i : Nat) (o : Oper) (A : Act) (w : World) : Prop :=
  ∀ K : Act → World → Prop, (∀ v w', R i v w' → G (b1 || decide (i = m1)) (b2 || decide (i = m2)) w' → (∀ j u, j < ops.size → j ≠ i → needB ops f j i = false → R j u w → R j u w') → K (A.put o.dst v) w') → o.wp P A w K Q
def OpAsk2 (i : Nat) (o : Oper) : Prop :=
  o.guard = none ∧ (∀ val v, (frame val).put o.dst v = frame (upV val i v)) ∧ ∀ val w b1 b2, G b1 b2 w → ((decide (i = m1) || needB ops f m1 i) = true → b1 = false) → ((decide (i = m2) || needB ops f m2 i) = true → b2 = false) → (needB ops f i m1 = true → b1 = true) → (∀ j, needB ops f j i = true → val j = val0 j) → depsAll R val w o.after.toList → OpDoes2 P ops Q f m1 m2 G R b1 b2 i o (frame val) w
end
theorem wp_region_two {P : Program} {ops : Array Oper} {Q : Exit → Act → World → Prop} {id : Nat} {a0 : Act} {w0 : World} (hm : P.follows .mixedOrders = true) (hah : aheadB ops = true)
    (f m1 m2 : Nat) (hm1 : m1 < ops.size) (hm2 : m2 < ops.size) (G : Bool → Bool → World → Prop) (hG : G false false w0.drew) (frame : (Nat → Value) → Act) (R : Nat → Value → World → Prop) (val0 : Nat → Value) (h0 : a0 = frame val0)
    (l : List Oper) (hl : ops.toList = l) (hop : allOps (OpAsk2 P ops Q f m1 m2 G frame R val0) 0 l)
    (hend : ∀ val w, G true true w → (∀ i, i < ops.size → R i (val i) w) → Q .normal (frame val) w) : (Code.region id ops true).wp P Q a0 w0 := by
  refine wp_region_any hm ?_
  refine wpAny_inv (fun listed a w => listed.size = ops.size ∧ (∀ i o, ops[i]? = some o → listed.getD i false = true → ∀ e ∈ o.after, Region.binds .any e = true → listed.getD e.on false = true) ∧ ∃ val, a = frame val ∧ (∀ j, listed.getD j false = false → val j = val0 j) ∧ G (listed.getD m1 false) (listed.getD m2 false) w ∧ ∀ i, i < ops.size → listed.getD i false = true → R i (val i) w) ?_ ?_ _ _ _ _ ?_ ?_
  · rintro listed a w ⟨hs, hdep, val, rfl, hv0, hg, hR⟩ i hi
    rw [mem_ready] at hi
    obtain ⟨h1, o, ho, h2⟩ := hi
    have hio : i < ops.size := (Array.getElem?_eq_some_iff.1 ho).1
    have hil : i < listed.size := by omega
    have hif : listed.getD i false = false := by
      rw [Array.getD_eq_getD_getElem?, Array.getElem?_eq_getElem hil] at h1 ⊢
      exact h1
    obtain ⟨g1, g2, g3⟩ := allOps_at l 0 i o hop (by rw [← hl]; simpa using ho)
    rw [Nat.zero_add] at g2 g3
    unfold wpOp
    rw [ho]
    simp only
    rw [if_pos (by simp [Region.wanted, g1])]
    have notYet : ∀ m, (decide (i = m) || needB ops f m i) = true → listed.getD m false = false := fun m hx => by
      simp only [Bool.or_eq_true, decide_eq_true_eq] at hx
      rcases hx with rfl | hx
      · exact hif
      · cases hc : listed.getD m false with
        | false => rfl
        | true =>
          have := need_listed hdep f m i hx hc
          rw [hif] at this
          cases this
    have already : needB ops f i m1 = true → listed.getD m1 false = true := fun hx => by
      cases f with
      | zero => cases hx
      | succ f =>
        unfold needB at hx
        rw [ho] at hx
        simp only [List.any_eq_true, Bool.and_eq_true, Bool.or_eq_true, beq_iff_eq] at hx
        obtain ⟨e, he, hb, hx2⟩ := hx
        have q := h2 e (by simpa using he) hb
        rcases hx2 with hx2 | hx2
        · rw [← hx2]; exact q
        · exact need_listed hdep f e.on m1 hx2 q
    refine .inl (g3 val w _ _ hg (notYet m1) (notYet m2) already (fun j hj => hv0 j (notYet j (by rw [hj, Bool.or_true]))) (depsAll_of _ fun e he hb => hR e.on (by have := ahead_of hah ho e (by simpa using he) hb; omega) (h2 e (by simpa using he) hb)) _ (fun v w' hv hg' hpres => ?_))
    rw [g2]
    have flag : ∀ m, m < ops.size → (listed.setIfInBounds i true).getD m false = (listed.getD m false || decide (i = m)) := fun m hmm => by
      by_cases e : i = m
      · subst e
        rw [Array.getD_eq_getD_getElem?, Array.getElem?_setIfInBounds_self_of_lt hil]
        simp
      · rw [getD_set_ne false e]
        simp [e]
    refine ⟨by simpa using hs, fun j oj hoj hl2 e he hb => ?_, upV val i v, rfl, fun j hj => ?_, (by rw [flag m1 hm1, flag m2 hm2]; exact hg'), fun j hj hl2 => ?_⟩
    · by_cases eji : e.on = i
      · rw [eji, Array.getD_eq_getD_getElem?, Array.getElem?_setIfInBounds_self_of_lt hil]
        rfl
      · rw [getD_set_ne false (fun c => eji c.symm)]
        by_cases ji : j = i
        · subst ji
          rw [ho] at hoj
          injection hoj with hoj
          subst hoj
          exact h2 e he hb
        · rw [getD_set_ne false (fun c => ji c.symm)] at hl2
          exact hdep j oj hoj hl2 e he hb
    · by_cases e : j = i
      · subst e
        rw [Array.getD_eq_getD_getElem?, Array.getElem?_setIfInBounds_self_of_lt hil] at hj
        cases hj
      · rw [upV_ne _ _ _ _ e]
        rw [getD_set_ne false (fun c => e c.symm)] at hj
        exact hv0 j hj
    · by_cases e : j = i
      · subst e
        rw [upV_self]
        exact hv
      · rw [upV_ne _ _ _ _ e]
        rw [getD_set_ne false (fun c => e c.symm)] at hl2
        refine hpres j _ hj e ?_ (hR j hj hl2)
        cases hc : needB ops f j i with
        | false => rfl
        | true =>
          have := need_listed hdep f j i hc hl2
          rw [hif] at this
          cases this
  · rintro listed a w ⟨hs, hdep, val, rfl, hv0, hg, hR⟩ hr
    rw [all_listed hah hs hr m1 hm1, all_listed hah hs hr m2 hm2] at hg
    exact hend val w hg (fun i hi => hR i hi (all_listed hah hs hr i hi))
  · unfold leftN
    exact Nat.le_trans (List.length_filter_le _ _) (by simp)
  · refine ⟨by simp, fun i o ho hl2 => ?_, val0, h0, fun _ _ => rfl, ?_, fun i hi hl2 => ?_⟩
    · have hi := (Array.getElem?_eq_some_iff.1 ho).1
      simp [Array.getD_eq_getD_getElem?, hi] at hl2
    · have e : ∀ m, m < ops.size → (Array.replicate ops.size false).getD m false = false := fun m hmm => by simp [Array.getD_eq_getD_getElem?, hmm]
      rw [e m1 hm1, e m2 hm2]
      exact hG
    · simp [Array.getD_eq_getD_getElem?, hi] at hl2
section
variable {P : Program} {ops : Array Oper} {Q : Exit → Act → World → Prop} {f m1 m2 : Nat} {G : Bool → Bool → World → Prop} {R : Nat → Value → World → Prop} {i : Nat} {o : Oper} {b1 b2 : Bool}
theorem does2_value {A : Act} {w : World} {v : Value} (hG : G b1 b2 w) (n1 : decide (i = m1) = false) (n2 : decide (i = m2) = false) (h : (execOp A.eval o).run P w = .ok (.value v) w) (hR : R i v w) : OpDoes2 P ops Q f m1 m2 G R b1 b2 i o A w := by
  intro K hK
  unfold Oper.wp
  rw [h]
  exact hK v w hR (by rw [n1, n2, Bool.or_false, Bool.or_false]; exact hG) (fun _ _ _ _ _ x => x)
theorem does2_grown {A : Act} {w w' : World} {v : Value} (h : (execOp A.eval o).run P w = .ok (.value v) w') (hR : R i v w') (hG : G (b1 || decide (i = m1)) (b2 || decide (i = m2)) w') (hp : ∀ j u, j < ops.size → j ≠ i → needB ops f j i = false → R j u w → R j u w') : OpDoes2 P ops Q f m1 m2 G R b1 b2 i o A w := by
  intro K hK
  unfold Oper.wp
  rw [h]
  exact hK v w' hR hG hp
theorem does2_skip {A : Act} {w w' : World} (h : (execOp A.eval o).run P w = .ok .skip w') (hR : R i undef w') (hG : G (b1 || decide (i = m1)) (b2 || decide (i = m2)) w') (hp : ∀ j u, j < ops.size → j ≠ i → needB ops f j i = false → R j u w → R j u w') : OpDoes2 P ops Q f m1 m2 G R b1 b2 i o A w := by
  intro K hK
  unfold Oper.wp
  rw [h]
  exact hK undef w' hR hG hp
end
end Go.Proofs.Ytnfbcmnlloipiaa
