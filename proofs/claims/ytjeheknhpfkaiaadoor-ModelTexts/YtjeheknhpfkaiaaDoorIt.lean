/-
  A region that draws its order and whose operations write into what it has made itself: what is known of an operation's value holds until the operation that uses it up.
-/
import Derived.Test.YtjeheknhpfkaiaaDoorIv
namespace Go.Proofs.YtjeheknhpfkaiaaDoor
set_option linter.unusedVariables false
set_option linter.unusedSimpArgs false
open Go.RowKit

/-- Operation j has come, and what is known of it is not used up, when operation i comes. -/
def liveB (ops : Array Oper) (til : Nat → Option Nat) (i j : Nat) : Bool :=
  decide (j ≠ i) &&
  (match til j with
   | none => true
   | some k => decide (k ≠ i) && (match ops[i]? with | none => true | some o => o.after.all fun e => !Region.binds .any e || decide (e.on ≠ k))) &&
  (match ops[j]? with | none => true | some o => o.after.all fun e => !Region.binds .any e || decide (e.on ≠ i))
/-- What an operation must come to. -/
def OpDoesT (P : Program) (ops : Array Oper) (Q : Exit → Act → World → Prop) (til : Nat → Option Nat) (G : World → Prop) (R : Nat → Value → World → Prop) (i : Nat) (o : Oper) (A : Act) (w : World) : Prop :=
  ∀ K : Act → World → Prop, (∀ v w', R i v w' → G w' → (∀ j u, j < ops.size → liveB ops til i j = true → R j u w → R j u w') → K (A.put o.dst v) w') → o.wp P A w K Q
/-- What is known of those that an operation waits for. -/
def depsT (R : Nat → Value → World → Prop) (til : Nat → Option Nat) (i : Nat) (val : Nat → Value) (w : World) (l : List Edge) : Prop :=
  ∀ e ∈ l, Region.binds .any e = true → (til e.on = none ∨ til e.on = some i) → R e.on (val e.on) w
theorem depsT_get {R : Nat → Value → World → Prop} {til : Nat → Option Nat} {i : Nat} {val : Nat → Value} {w : World} {l : List Edge} (h : depsT R til i val w l) (j : Nat) (hj : (l.any fun e => Region.binds .any e && e.on == j) = true) (ht : til j = none ∨ til j = some i) : R j (val j) w := by
  rw [List.any_eq_true] at hj
  obtain ⟨e, he, hb⟩ := hj
  simp only [Bool.and_eq_true, beq_iff_eq] at hb
  obtain ⟨h1, rfl⟩ := hb
  exact h e he h1 ht
def OpAskT (P : Program) (ops : Array Oper) (Q : Exit → Act → World → Prop) (til : Nat → Option Nat) (G : World → Prop) (frame : (Nat → Value) → Act) (R : Nat → Value → World → Prop) (i : Nat) (o : Oper) : Prop :=
  o.guard = none ∧ (∀ val v, (frame val).put o.dst v = frame (upV val i v)) ∧ ∀ val w, G w → depsT R til i val w o.after.toList → OpDoesT P ops Q til G R i o (frame val) w
theorem wp_region_til {P : Program} {ops : Array Oper} {Q : Exit → Act → World → Prop} {id : Nat} {a0 : Act} {w0 : World} (hm : P.follows .mixedOrders = true) (hah : aheadB ops = true)
    (til : Nat → Option Nat) (G : World → Prop) (hG : G w0.drew) (frame : (Nat → Value) → Act) (R : Nat → Value → World → Prop) (val0 : Nat → Value) (h0 : a0 = frame val0)
    (l : List Oper) (hl : ops.toList = l) (hop : allOps (OpAskT P ops Q til G frame R) 0 l)
    (hend : ∀ val w, G w → (∀ i, i < ops.size → til i = none → R i (val i) w) → Q .normal (frame val) w) : (Code.region id ops true).wp P Q a0 w0 := by
  refine wp_region_any hm ?_
  refine wpAny_inv (fun listed a w => listed.size = ops.size ∧ (∀ i o, ops[i]? = some o → listed.getD i false = true → ∀ e ∈ o.after, Region.binds .any e = true → listed.getD e.on false = true) ∧ ∃ val, a = frame val ∧ G w ∧ ∀ i, i < ops.size → listed.getD i false = true → (∀ k, til i = some k → listed.getD k false = false) → R i (val i) w) ?_ ?_ _ _ _ _ ?_ ?_
  · rintro listed a w ⟨hs, hdep, val, rfl, hg, hR⟩ i hi
    rw [mem_ready] at hi
    obtain ⟨h1, o, ho, h2⟩ := hi
    have hio : i < ops.size := (Array.getElem?_eq_some_iff.1 ho).1
    have hil : i < listed.size := by omega
    have hif : listed.getD i false = false := by
      rw [Array.getD_eq_getD_getElem?, Array.getElem?_eq_getElem hil] at h1 ⊢
      exact h1
    obtain ⟨g1, g2, g3⟩ := allOps_at l 0 i o hop (by rw [← hl]; simpa using ho)
    rw [Nat.zero_add] at g2 g3
    unfold wpOp
    rw [ho]
    simp only
    rw [if_pos (by simp [Region.wanted, g1])]
    have dep : depsT R til i val w o.after.toList := fun e he hb ht => by
      have hea : e ∈ o.after := by simpa using he
      have hlt := ahead_of hah ho e hea hb
      refine hR e.on (by omega) (h2 e hea hb) (fun k hk => ?_)
      rcases ht with q | q
      · rw [q] at hk; cases hk
      · rw [q] at hk
        injection hk with hk
        rw [← hk]
        exact hif
    refine .inl (g3 val w hg dep _ (fun v w' hv hg' hpres => ?_))
    rw [g2]
    refine ⟨by simpa using hs, fun j oj hoj hl2 e he hb => ?_, upV val i v, rfl, hg', fun j hj hl2 ht => ?_⟩
    · by_cases eji : e.on = i
      · rw [eji, Array.getD_eq_getD_getElem?, Array.getElem?_setIfInBounds_self_of_lt hil]
        rfl
      · rw [getD_set_ne false (fun c => eji c.symm)]
        by_cases ji : j = i
        · subst ji
          rw [ho] at hoj
          injection hoj with hoj
          subst hoj
          exact h2 e he hb
        · rw [getD_set_ne false (fun c => ji c.symm)] at hl2
          exact hdep j oj hoj hl2 e he hb
    · by_cases e : j = i
      · subst e
        rw [upV_self]
        exact hv
      · rw [upV_ne _ _ _ _ e]
        rw [getD_set_ne false (fun c => e c.symm)] at hl2
        refine hpres j _ hj ?_ (hR j hj hl2 (fun k hk => ?_))
        · unfold liveB
          simp only [Bool.and_eq_true, decide_eq_true_eq]
          refine ⟨⟨e, ?_⟩, ?_⟩
          · cases hk : til j with
            | none => rfl
            | some k =>
              have hkf := ht k hk
              rw [ho]
              simp only [Bool.and_eq_true, decide_eq_true_eq, Array.all_eq_true_iff_forall_mem, Bool.or_eq_true, Bool.not_eq_true']
              have hki : k ≠ i := fun c => by
                subst c
                rw [Array.getD_eq_getD_getElem?, Array.getElem?_setIfInBounds_self_of_lt hil] at hkf
                cases hkf
              refine ⟨hki, fun x hx => ?_⟩
              cases hb : Region.binds .any x with
              | false => exact .inl rfl
              | true =>
                refine .inr (fun c => ?_)
                have := h2 x hx hb
                rw [c] at this
                rw [getD_set_ne false (fun c => hki c.symm)] at hkf
                rw [this] at hkf
                cases hkf
          · have hoj : ops[j]? = some ops[j] := Array.getElem?_eq_getElem hj
            rw [hoj]
            simp only [Array.all_eq_true_iff_forall_mem, Bool.or_eq_true, Bool.not_eq_true', decide_eq_true_eq]
            intro x hx
            cases hb : Region.binds .any x with
            | false => exact .inl rfl
            | true =>
              refine .inr (fun c => ?_)
              have := hdep j _ hoj hl2 x hx hb
              rw [c, hif] at this
              cases this
        · have hkf := ht k hk
          by_cases ki : k = i
          · subst ki; exact hif
          · rw [getD_set_ne false (fun c => ki c.symm)] at hkf
            exact hkf
  · rintro listed a w ⟨hs, hdep, val, rfl, hg, hR⟩ hr
    exact hend val w hg (fun i hi ht => hR i hi (all_listed hah hs hr i hi) (fun k hk => by rw [ht] at hk; cases hk))
  · unfold leftN
    exact Nat.le_trans (List.length_filter_le _ _) (by simp)
  · refine ⟨by simp, fun i o ho hl2 => ?_, val0, h0, hG, fun i hi hl2 => ?_⟩
    · have hi := (Array.getElem?_eq_some_iff.1 ho).1
      simp [Array.getD_eq_getD_getElem?, hi] at hl2
    · simp [Array.getD_eq_getD_getElem?, hi] at hl2
section
variable {P : Program} {ops : Array Oper} {Q : Exit → Act → World → Prop} {til : Nat → Option Nat} {G : World → Prop} {R : Nat → Value → World → Prop} {i : Nat} {o : Oper}
theorem doesT_value {A : Act} {w : World} {v : Value} (hG : G w) (h : (execOp A.eval o).run P w = .ok (.value v) w) (hR : R i v w) : OpDoesT P ops Q til G R i o A w := by
  intro K hK
  unfold Oper.wp
  rw [h]
  exact hK v w hR hG (fun _ _ _ _ x => x)
theorem doesT_grown {A : Act} {w w' : World} {v : Value} (h : (execOp A.eval o).run P w = .ok (.value v) w') (hR : R i v w') (hG : G w') (hp : ∀ j u, j < ops.size → liveB ops til i j = true → R j u w → R j u w') : OpDoesT P ops Q til G R i o A w := by
  intro K hK
  unfold Oper.wp
  rw [h]
  exact hK v w' hR hG hp
end
end Go.Proofs.YtjeheknhpfkaiaaDoor
