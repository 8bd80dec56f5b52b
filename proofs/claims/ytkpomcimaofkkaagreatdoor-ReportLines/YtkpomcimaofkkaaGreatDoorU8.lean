/-
  A region that draws its order, by a statement on what has been done: any operation may turn the world.
  x.f = append(x.f, call()) as a region that draws its order: one behind the other, whatever the order.
  The code's reader of a report's text: how many tokens each part takes; a list of dependencies, of anomalies, of numbers, appended to.
  The code's reader of a report's text: a box's field to which what a call told is appended.
-/
import Derived.Test.YtkpomcimaofkkaaGreatDoorU7
import Derived.BigQuiet
import Derived.Shelf.SlSortCmp.QuietGrown
import Derived.OwnWalk
namespace Go.Proofs.YtkpomcimaofkkaaGreatDoor
set_option linter.unusedVariables false
set_option linter.unusedSimpArgs false
open Go.RowKit

/-- One more is done. -/
def upB (L : Nat → Bool) (i : Nat) : Nat → Bool := fun j => if j = i then true else L j
theorem upB_self (L : Nat → Bool) (i : Nat) : upB L i i = true := by simp [upB]
theorem upB_ne (L : Nat → Bool) (i j : Nat) (h : j ≠ i) : upB L i j = L j := by simp [upB, h]
/-- What is done, its sources are. -/
def CloB (ops : Array Oper) (L : Nat → Bool) : Prop := ∀ j o, ops[j]? = some o → L j = true → ∀ e ∈ o.after, Region.binds .any e = true → L e.on = true
/-- Operation j wants operation i, straight or by way of others. -/
def wantsB (ops : Array Oper) : Nat → Nat → Nat → Bool
  | 0, _, _ => false
  | f + 1, j, i => match ops[j]? with
    | none => false
    | some o => o.after.any fun e => Region.binds .any e && (e.on == i || wantsB ops f e.on i)
theorem wants_done {ops : Array Oper} {L : Nat → Bool} (hc : CloB ops L) : ∀ (f j i : Nat), wantsB ops f j i = true → L j = true → L i = true
  | 0, _, _, h, _ => by cases h
  | f + 1, j, i, h, hj => by
    unfold wantsB at h
    cases ho : ops[j]? with
    | none => rw [ho] at h; cases h
    | some o =>
      rw [ho] at h
      simp only at h
      rw [← Array.any_toList, List.any_eq_true] at h
      obtain ⟨e, he, h4⟩ := h
      rw [Bool.and_eq_true, Bool.or_eq_true, beq_iff_eq] at h4
      have hl := hc j o ho hj e (by simpa using he) h4.1
      rcases h4.2 with c | c
      · rw [← c]; exact hl
      · exact wants_done hc f e.on i c hl
/-- One that is not done keeps those back that want it. -/
theorem wants_back {ops : Array Oper} {L : Nat → Bool} (hc : CloB ops L) (f j i : Nat) (h : wantsB ops f j i = true) (hi : L i = false) : L j = false := by
  cases hj : L j with
  | false => rfl
  | true => rw [wants_done hc f j i h hj] at hi; cases hi
/-- What is known of those that an operation waits for. -/
def depsG (L : Nat → Bool) (R : (Nat → Bool) → Nat → Value → World → Prop) (val : Nat → Value) (w : World) : List Edge → Prop
  | [] => True
  | e :: l => (Region.binds .any e = true → L e.on = true ∧ R L e.on (val e.on) w) ∧ depsG L R val w l
theorem depsG_of {L : Nat → Bool} {R : (Nat → Bool) → Nat → Value → World → Prop} {val : Nat → Value} {w : World} : ∀ (l : List Edge), (∀ e ∈ l, Region.binds .any e = true → L e.on = true ∧ R L e.on (val e.on) w) → depsG L R val w l
  | [], _ => trivial
  | e :: l, h => ⟨h e (by simp), depsG_of l (fun x hx => h x (by simp [hx]))⟩
theorem depsG_get {L : Nat → Bool} {R : (Nat → Bool) → Nat → Value → World → Prop} {val : Nat → Value} {w : World} : ∀ {l : List Edge}, depsG L R val w l → ∀ j, (l.any fun e => Region.binds .any e && e.on == j) = true → R L j (val j) w
  | [], _, j, h => by cases h
  | e :: l, hd, j, h => by
    simp only [List.any_cons, Bool.or_eq_true, Bool.and_eq_true, beq_iff_eq] at h
    rcases h with ⟨hb, rfl⟩ | h
    · exact (hd.1 hb).2
    · exact depsG_get hd.2 j (by simpa using h)
theorem depsG_on {L : Nat → Bool} {R : (Nat → Bool) → Nat → Value → World → Prop} {val : Nat → Value} {w : World} : ∀ {l : List Edge}, depsG L R val w l → ∀ j, (l.any fun e => Region.binds .any e && e.on == j) = true → L j = true
  | [], _, j, h => by cases h
  | e :: l, hd, j, h => by
    simp only [List.any_cons, Bool.or_eq_true, Bool.and_eq_true, beq_iff_eq] at h
    rcases h with ⟨hb, rfl⟩ | h
    · exact (hd.1 hb).1
    · exact depsG_on hd.2 j (by simpa using h)
/-- What is asked of one operation. -/
def OpGen (P : Program) (ops : Array Oper) (Q : Exit → Act → World → Prop) (frame : (Nat → Value) → Act) (val0 : Nat → Value) (G : (Nat → Bool) → World → Prop) (R : (Nat → Bool) → Nat → Value → World → Prop) (i : Nat) (o : Oper) : Prop :=
  ∀ L val w, CloB ops L → L i = false → (∀ j, L j = false → val j = val0 j) → G L w → depsG L R val w o.after.toList →
      if Region.wanted o (yielded ops (frame val).tmps) then o.wp P (frame val) w (fun a' w' => ∃ v, a' = frame (upV val i v) ∧ R (upB L i) i v w' ∧ G (upB L i) w' ∧ ∀ j u, L j = true → R L j u w → R (upB L i) j u w') Q
      else (frame val).put o.dst undef = frame (upV val i undef) ∧ R (upB L i) i undef w ∧ G (upB L i) w ∧ ∀ j u, L j = true → R L j u w → R (upB L i) j u w
theorem wp_region_gen {P : Program} {ops : Array Oper} {Q : Exit → Act → World → Prop} {id : Nat} {a0 : Act} {w0 : World} (hm : P.follows .mixedOrders = true) (hah : aheadB ops = true)
    (frame : (Nat → Value) → Act) (val0 : Nat → Value) (h0 : a0 = frame val0) (G : (Nat → Bool) → World → Prop) (R : (Nat → Bool) → Nat → Value → World → Prop)
    (hG0 : G (fun _ => false) w0.drew) (l : List Oper) (hl : ops.toList = l) (hop : allOps (OpGen P ops Q frame val0 G R) 0 l)
    (hend : ∀ L val w, (∀ i, i < ops.size → L i = true) → G L w → (∀ i, i < ops.size → R L i (val i) w) → Q .normal (frame val) w) : (Code.region id ops true).wp P Q a0 w0 := by
  refine wp_region_any hm ?_
  refine wpAny_inv (fun listed a w => listed.size = ops.size ∧ CloB ops (fun i => listed.getD i false) ∧ ∃ val, a = frame val ∧ (∀ j, listed.getD j false = false → val j = val0 j) ∧ G (fun i => listed.getD i false) w ∧ ∀ i, i < ops.size → listed.getD i false = true → R (fun i => listed.getD i false) i (val i) w) ?_ ?_ _ _ _ _ ?_ ?_
  · rintro listed a w ⟨hs, hclo, val, rfl, hv, hG, hR⟩ i hi
    rw [mem_ready] at hi
    obtain ⟨h1, o, ho, h2⟩ := hi
    have hio : i < ops.size := (Array.getElem?_eq_some_iff.1 ho).1
    have hil : i < listed.size := by omega
    have hif : listed.getD i false = false := by
      rw [Array.getD_eq_getD_getElem?, Array.getElem?_eq_getElem hil] at h1 ⊢
      exact h1
    have eL : (fun j => (listed.setIfInBounds i true).getD j false) = upB (fun j => listed.getD j false) i := by
      funext j
      by_cases e : j = i
      · subst e
        rw [upB_self, Array.getD_eq_getD_getElem?, Array.getElem?_setIfInBounds_self_of_lt hil]
        rfl
      · rw [upB_ne _ _ _ e, getD_set_ne false (fun c => e c.symm)]
    have hclo2 : CloB ops (upB (fun j => listed.getD j false) i) := by
      intro j oj hoj hj e he hb
      by_cases ej : j = i
      · subst ej
        rw [ho] at hoj
        injection hoj with hoj
        subst hoj
        by_cases ee : e.on = j
        · rw [ee]; exact upB_self _ _
        · rw [upB_ne _ _ _ ee]; exact h2 e he hb
      · rw [upB_ne _ _ _ ej] at hj
        by_cases ee : e.on = i
        · rw [ee]; exact upB_self _ _
        · rw [upB_ne _ _ _ ee]; exact hclo j oj hoj hj e he hb
    have key : ∀ v w', R (upB (fun j => listed.getD j false) i) i v w' → G (upB (fun j => listed.getD j false) i) w' → (∀ j u, listed.getD j false = true → R (fun j => listed.getD j false) j u w → R (upB (fun j => listed.getD j false) i) j u w') →
        ((listed.setIfInBounds i true).size = ops.size ∧ CloB ops (fun j => (listed.setIfInBounds i true).getD j false) ∧ ∃ val', frame (upV val i v) = frame val' ∧ (∀ j, (listed.setIfInBounds i true).getD j false = false → val' j = val0 j) ∧ G (fun j => (listed.setIfInBounds i true).getD j false) w' ∧ ∀ j, j < ops.size → (listed.setIfInBounds i true).getD j false = true → R (fun j => (listed.setIfInBounds i true).getD j false) j (val' j) w') := fun v w' q1 q2 q3 => by
      have eL' : ∀ j, (listed.setIfInBounds i true).getD j false = upB (fun j => listed.getD j false) i j := fun j => congrFun eL j
      rw [eL]
      refine ⟨by simpa using hs, hclo2, upV val i v, rfl, fun j hj => ?_, q2, fun j hj hl2 => ?_⟩
      · rw [eL'] at hj
        by_cases e : j = i
        · subst e; rw [upB_self] at hj; cases hj
        · rw [upB_ne _ _ _ e] at hj
          rw [upV_ne _ _ _ _ e]
          exact hv j hj
      · rw [eL'] at hl2
        by_cases e : j = i
        · subst e
          rw [upV_self]
          exact q1
        · rw [upB_ne _ _ _ e] at hl2
          rw [upV_ne _ _ _ _ e]
          exact q3 j _ hl2 (hR j hj hl2)
    have hk := allOps_at l 0 i o hop (by rw [← hl]; simpa using ho)
    rw [Nat.zero_add] at hk
    have hk2 := hk (fun j => listed.getD j false) val w hclo hif hv hG (depsG_of _ (fun e he hb => by
      have hea : e ∈ o.after := by simpa using he
      have hlt := ahead_of hah ho e hea hb
      exact ⟨h2 e hea hb, hR e.on (by omega) (h2 e hea hb)⟩))
    unfold wpOp
    rw [ho]
    simp only
    by_cases hw : Region.wanted o (yielded ops (frame val).tmps) = true
    · rw [if_pos hw] at hk2 ⊢
      exact .inl (Oper.wp_mono (fun a' w' ⟨v, e, q1, q2, q3⟩ => by rw [e]; exact key v w' q1 q2 q3) hk2)
    · rw [if_neg hw] at hk2 ⊢
      rw [hk2.1]
      exact key undef w hk2.2.1 hk2.2.2.1 hk2.2.2.2
  · rintro listed a w ⟨hs, hclo, val, rfl, hv, hG, hR⟩ hr
    have hall := all_listed hah hs hr
    exact hend _ val w hall hG (fun i hi => hR i hi (hall i hi))
  · unfold leftN
    exact Nat.le_trans (List.length_filter_le _ _) (by simp)
  · have e : ∀ j, (Array.replicate ops.size false).getD j false = false := fun j => by
      rw [Array.getD_eq_getD_getElem?, Array.getElem?_replicate]
      split <;> rfl
    have eF : (fun j => (Array.replicate ops.size false).getD j false) = fun _ => false := funext e
    refine ⟨by simp, fun j o ho hj => ?_, val0, h0, fun _ _ => rfl, ?_, fun i hi hl2 => ?_⟩
    · simp only [e] at hj
      cases hj
    · rw [eF]; exact hG0
    · rw [e] at hl2
      cases hl2
section
variable {P : Program} {ops : Array Oper} {Q : Exit → Act → World → Prop} {frame : (Nat → Value) → Act} {val0 : Nat → Value} {G : (Nat → Bool) → World → Prop} {R : (Nat → Bool) → Nat → Value → World → Prop} {i : Nat} {o : Oper}
/-- What an operation must come to. -/
def GDoes (P : Program) (Q : Exit → Act → World → Prop) (G : (Nat → Bool) → World → Prop) (R : (Nat → Bool) → Nat → Value → World → Prop) (L : Nat → Bool) (i : Nat) (o : Oper) (A : Act) (w : World) : Prop :=
  ∀ K : Act → World → Prop, (∀ v w', R (upB L i) i v w' → G (upB L i) w' → (∀ j u, L j = true → R L j u w → R (upB L i) j u w') → K (A.put o.dst v) w') → o.wp P A w K Q
theorem gen_plain (hg : o.guard = none) (hput : ∀ val v, (frame val).put o.dst v = frame (upV val i v)) (h : ∀ L val w, CloB ops L → L i = false → (∀ j, L j = false → val j = val0 j) → G L w → depsG L R val w o.after.toList → GDoes P Q G R L i o (frame val) w) : OpGen P ops Q frame val0 G R i o := by
  intro L val w h1 h2 h3 h4 h5
  rw [if_pos (by simp [Region.wanted, hg])]
  exact h L val w h1 h2 h3 h4 h5 _ (fun v w' q1 q2 q3 => ⟨v, hput val v, q1, q2, q3⟩)
theorem gen_yes (j : Nat) (b : Bool) (hg : o.guard = some (j, b)) (hput : ∀ val v, (frame val).put o.dst v = frame (upV val i v)) (hy : ∀ L val w, depsG L R val w o.after.toList → yielded ops (frame val).tmps j = some b) (h : ∀ L val w, CloB ops L → L i = false → (∀ j, L j = false → val j = val0 j) → G L w → depsG L R val w o.after.toList → GDoes P Q G R L i o (frame val) w) : OpGen P ops Q frame val0 G R i o := by
  intro L val w h1 h2 h3 h4 h5
  rw [if_pos (by simp [Region.wanted, hg, hy L val w h5])]
  exact h L val w h1 h2 h3 h4 h5 _ (fun v w' q1 q2 q3 => ⟨v, hput val v, q1, q2, q3⟩)
/-- One that yields a value and leaves the world. -/
theorem gdoes_value {L : Nat → Bool} {A : Act} {w : World} {v : Value} (h : (execOp A.eval o).run P w = .ok (.value v) w) (hR : R (upB L i) i v w) (hG : G (upB L i) w) (hp : ∀ j u, L j = true → R L j u w → R (upB L i) j u w) : GDoes P Q G R L i o A w := by
  intro K hK
  unfold Oper.wp
  rw [h]
  exact hK v w hR hG hp
/-- One that yields a value in another world. -/
theorem gdoes_turn {L : Nat → Bool} {A : Act} {w w' : World} {v : Value} (h : (execOp A.eval o).run P w = .ok (.value v) w') (hR : R (upB L i) i v w') (hG : G (upB L i) w') (hp : ∀ j u, L j = true → R L j u w → R (upB L i) j u w') : GDoes P Q G R L i o A w := by
  intro K hK
  unfold Oper.wp
  rw [h]
  exact hK v w' hR hG hp
theorem gdoes_skip {L : Nat → Bool} {A : Act} {w w' : World} (h : (execOp A.eval o).run P w = .ok .skip w') (hR : R (upB L i) i undef w') (hG : G (upB L i) w') (hp : ∀ j u, L j = true → R L j u w → R (upB L i) j u w') : GDoes P Q G R L i o A w := by
  intro K hK
  unfold Oper.wp
  rw [h]
  exact hK undef w' hR hG hp
/-- A call. -/
theorem gdoes_call {L : Nat → Bool} {A : Act} {w : World} {f : FuncId} {args : Array Value} {C : Ending → World → Prop} (h : (execOp A.eval o).run P w = .ok (.enter f args) w) (hc : Calls P f args w C) (hR : ∀ e w', C e w' → ∃ v, e = .returned v ∧ R (upB L i) i v w' ∧ G (upB L i) w' ∧ ∀ j u, L j = true → R L j u w → R (upB L i) j u w') : GDoes P Q G R L i o A w := by
  intro K hK
  unfold Oper.wp
  rw [h]
  refine Calls.mono hc (fun e w' he => ?_)
  obtain ⟨v, rfl, q1, q2, q3⟩ := hR e w' he
  exact hK v w' q1 q2 q3
end
end Go.Proofs.YtkpomcimaofkkaaGreatDoor
namespace Go.Proofs.YtkpomcimaofkkaaGreatDoor
set_option linter.unusedVariables false
set_option linter.unusedSimpArgs false
open Go.RowKit

theorem ap_later {w w' : World} {a : Addr} {v : Value} (hb : Below w.heap.size w w') (h : w.cell? a = some v) : w'.cell? a = some v := (hb.cell (p := a) (World.block_lt_of_cell? _ _ h)).trans h
/-- The eight operations. -/
abbrev apOps (pos : String) (t f st et fn b x tx s0 s1 s2 s3 s4 s5 s6 : Nat) : Array Oper := #[
  { dst := some s0, op := .fieldAddr t (.tmp b) f, type := 0, pos := pos, after := #[], guard := none },
  { dst := some s1, op := .load st (.tmp s0), type := st, pos := pos, after := #[{ on := 0, ground := .data }], guard := none },
  { dst := some s2, op := .move (.tmp x), type := tx, pos := pos, after := #[], guard := none },
  { dst := some s3, op := .call { callee := .value (.func fn), args := #[.tmp s2], argTypes := #[tx] }, type := et, pos := pos, after := #[{ on := 2, ground := .data }], guard := none },
  { dst := some s4, op := .buildSlice st 1 #[(0, .tmp s3)], type := st, pos := pos, after := #[{ on := 3, ground := .data }], guard := none },
  { dst := some s5, op := .call { callee := .builtin .append, args := #[.tmp s1, .tmp s4], argTypes := #[st, st] }, type := st, pos := pos, after := #[{ on := 1, ground := .data }, { on := 4, ground := .data }, { on := 3, ground := .chain }], guard := none },
  { dst := some s6, op := .fieldAddr t (.tmp b) f, type := 0, pos := pos, after := #[{ on := 0, ground := .phase }, { on := 1, ground := .phase }, { on := 2, ground := .phase }, { on := 3, ground := .phase }, { on := 4, ground := .phase }, { on := 5, ground := .phase }], guard := none },
  { dst := none, op := .store st (.tmp s6) (.tmp s5), type := 0, pos := pos, after := #[{ on := 6, ground := .data }, { on := 5, ground := .data }, { on := 5, ground := .chain }, { on := 0, ground := .phase }, { on := 1, ground := .phase }, { on := 2, ground := .phase }, { on := 3, ground := .phase }, { on := 4, ground := .phase }, { on := 5, ground := .phase }], guard := none }]
set_option maxHeartbeats 2000000 in
theorem wp_region_ap {P : Program} {Q : Exit → Act → World → Prop} {a0 : Act} {w0 : World} {rid : Nat} {pos : String} {t f st et fn b x tx s0 s1 s2 s3 s4 s5 s6 : Nat} (hm : P.follows .mixedOrders = true)
    (frame : (Nat → Value) → Act) (val0 : Nat → Value) (h0 : a0 = frame val0) (o k : Nat) (X v0 : Value) (cs : Value → Array Value) (ct : TypeId) (C3 : Value → World → Prop) (C5 : Value → World → Prop)
    (p0 : ∀ val v, (frame val).put (some s0) v = frame (upV val 0 v)) (p1 : ∀ val v, (frame val).put (some s1) v = frame (upV val 1 v)) (p2 : ∀ val v, (frame val).put (some s2) v = frame (upV val 2 v)) (p3 : ∀ val v, (frame val).put (some s3) v = frame (upV val 3 v)) (p4 : ∀ val v, (frame val).put (some s4) v = frame (upV val 4 v)) (p5 : ∀ val v, (frame val).put (some s5) v = frame (upV val 5 v)) (p6 : ∀ val v, (frame val).put (some s6) v = frame (upV val 6 v)) (p7 : ∀ val v, (frame val).put none v = frame (upV val 7 v))
    (hf : ∀ val W, (execOp (frame val).eval { dst := some s0, op := .fieldAddr t (.tmp b) f, type := 0, pos := pos, after := #[], guard := none }).run P W = .ok (.value (.pointer (some ⟨o, k, none⟩))) W)
    (hmv : ∀ val W, (execOp (frame val).eval { dst := some s2, op := .move (.tmp x), type := tx, pos := pos, after := #[], guard := none }).run P W = .ok (.value X) W)
    (hcr : ∀ val W, val 2 = X → (execOp (frame val).eval { dst := some s3, op := .call { callee := .value (.func fn), args := #[.tmp s2], argTypes := #[tx] }, type := et, pos := pos, after := #[{ on := 2, ground := .data }], guard := none }).run P W = .ok (.enter fn #[X]) W)
    (hf6 : ∀ val W, (execOp (frame val).eval { dst := some s6, op := .fieldAddr t (.tmp b) f, type := 0, pos := pos, after := #[{ on := 0, ground := .phase }, { on := 1, ground := .phase }, { on := 2, ground := .phase }, { on := 3, ground := .phase }, { on := 4, ground := .phase }, { on := 5, ground := .phase }], guard := none }).run P W = .ok (.value (.pointer (some ⟨o, k, none⟩))) W)
    (hl : ∀ val W, val 0 = .pointer (some ⟨o, k, none⟩) → W.cell? ⟨o, k, none⟩ = some v0 → (execOp (frame val).eval { dst := some s1, op := .load st (.tmp s0), type := st, pos := pos, after := #[{ on := 0, ground := .data }], guard := none }).run P W = .ok (.value v0) W)
    (hb : ∀ val W, C3 (val 3) W → (execOp (frame val).eval { dst := some s4, op := .buildSlice st 1 #[(0, .tmp s3)], type := st, pos := pos, after := #[{ on := 3, ground := .data }], guard := none }).run P W = .ok (.value (.slice (some ⟨W.heap.size, 0, none⟩) 1 1)) (W.alloc (.cells (cs (val 3)) ct)))
    (hs : ∀ val W, C5 (val 5) W → val 6 = .pointer (some ⟨o, k, none⟩) → (execOp (frame val).eval { dst := none, op := .store st (.tmp s6) (.tmp s5), type := 0, pos := pos, after := #[{ on := 6, ground := .data }, { on := 5, ground := .data }, { on := 5, ground := .chain }, { on := 0, ground := .phase }, { on := 1, ground := .phase }, { on := 2, ground := .phase }, { on := 3, ground := .phase }, { on := 4, ground := .phase }, { on := 5, ground := .phase }], guard := none }).run P W = .ok .skip (W.setCell ⟨o, k, none⟩ (val 5)))
    (hc : Calls P fn #[X] w0.drew (fun e V => (∃ ch, e = .panicked ch ∧ ∀ val, Q (.panic ch) (frame val) V) ∨ ∃ y, e = .returned y ∧ C3 y V))
    (c0 : w0.drew.cell? ⟨o, k, none⟩ = some v0) (c3 : ∀ y V, C3 y V → V.cell? ⟨o, k, none⟩ = some v0) (c5 : ∀ z V, C5 z V → V.cell? ⟨o, k, none⟩ = some v0)
    (ha : ∀ val (K : Act → World → Prop) y V, C3 y V → val 1 = v0 → val 4 = .slice (some ⟨V.heap.size, 0, none⟩) 1 1 → (∀ z V5, C5 z V5 → K ((frame val).put (some s5) z) V5) → Oper.wp P { dst := some s5, op := .call { callee := .builtin .append, args := #[.tmp s1, .tmp s4], argTypes := #[st, st] }, type := st, pos := pos, after := #[{ on := 1, ground := .data }, { on := 4, ground := .data }, { on := 3, ground := .chain }], guard := none } (frame val) (V.alloc (.cells (cs y) ct)) K Q)
    (hend : ∀ val z V, C5 z V → Q .normal (frame val) (V.setCell ⟨o, k, none⟩ z)) : (Code.region rid (apOps pos t f st et fn b x tx s0 s1 s2 s3 s4 s5 s6) true).wp P Q a0 w0 := by
  have B10 : ∀ {L : Nat → Bool}, CloB (apOps pos t f st et fn b x tx s0 s1 s2 s3 s4 s5 s6) L → ∀ j i, wantsB (apOps pos t f st et fn b x tx s0 s1 s2 s3 s4 s5 s6) 10 j i = true → L i = false → L j = false := fun hc j i => wants_back hc 10 j i
  refine wp_region_gen hm (by kernel_rfl) frame val0 h0 (fun L V => (L 3 = false → V = w0.drew) ∧ (L 7 = false → V.cell? ⟨o, k, none⟩ = some v0) ∧ (L 7 = true → ∃ z V5, C5 z V5 ∧ V = V5.setCell ⟨o, k, none⟩ z))
    (fun L i y V => match i with | 0 => y = .pointer (some ⟨o, k, none⟩) | 1 => y = v0 | 2 => y = X | 3 => L 4 = false → C3 y V | 4 => L 5 = false → ∃ y3 V3, C3 y3 V3 ∧ V = V3.alloc (.cells (cs y3) ct) ∧ y = .slice (some ⟨V3.heap.size, 0, none⟩) 1 1 | 5 => L 7 = false → C5 y V | 6 => y = .pointer (some ⟨o, k, none⟩) | _ => True)
    ⟨fun _ => rfl, fun _ => c0, fun c => (by cases c)⟩ _ rfl ⟨?_, ?_, ?_, ?_, ?_, ?_, ?_, ?_, trivial⟩ ?_
  · refine gen_plain rfl (fun val v => p0 val v) (fun L val V hC hi hu hg hd => ?_)
    exact gdoes_value (hf val V) rfl hg (fun j u hj hr => hr)
  · refine gen_plain rfl (fun val v => p1 val v) (fun L val V hC hi hu hg hd => ?_)
    have h7 : L 7 = false := B10 hC 7 1 (by kernel_rfl) hi
    have q0 : val 0 = .pointer (some ⟨o, k, none⟩) := depsG_get hd 0 (by kernel_rfl)
    exact gdoes_value (hl val V q0 (hg.2.1 h7)) rfl hg (fun j u hj hr => hr)
  · refine gen_plain rfl (fun val v => p2 val v) (fun L val V hC hi hu hg hd => ?_)
    exact gdoes_value (hmv val V) rfl hg (fun j u hj hr => hr)
  · refine gen_plain rfl (fun val v => p3 val v) (fun L val V hC hi hu hg hd => ?_)
    have q2 : val 2 = X := depsG_get hd 2 (by kernel_rfl)
    have h4 : L 4 = false := B10 hC 4 3 (by kernel_rfl) hi
    have h5 : L 5 = false := B10 hC 5 3 (by kernel_rfl) hi
    have h7 : L 7 = false := B10 hC 7 3 (by kernel_rfl) hi
    obtain rfl := hg.1 hi
    intro K hK
    unfold Oper.wp
    rw [hcr val _ q2]
    refine Calls.mono hc (fun e w' he => ?_)
    rcases he with ⟨ch, rfl, hq⟩ | ⟨y, rfl, h3⟩
    · exact hq _
    · refine hK y w' (fun _ => h3) ⟨fun c => (by rw [upB_self] at c; cases c), fun _ => c3 _ _ h3, fun c => (by rw [show upB L 3 7 = L 7 from rfl, h7] at c; cases c)⟩ ?_
      intro j u hj hr
      match j, hj, hr with
      | 0, _, hr => exact hr
      | 1, _, hr => exact hr
      | 2, _, hr => exact hr
      | 3, hj, _ => rw [hi] at hj; cases hj
      | 4, hj, _ => rw [h4] at hj; cases hj
      | 5, hj, _ => rw [h5] at hj; cases hj
      | 6, _, hr => exact hr
      | _ + 7, _, _ => trivial
  · refine gen_plain rfl (fun val v => p4 val v) (fun L val V hC hi hu hg hd => ?_)
    have h3 : C3 (val 3) V := (depsG_get hd 3 (by kernel_rfl) : L 4 = false → C3 (val 3) V) hi
    have o3 := depsG_on hd 3 (by kernel_rfl)
    have h5 : L 5 = false := B10 hC 5 4 (by kernel_rfl) hi
    have h7 : L 7 = false := B10 hC 7 4 (by kernel_rfl) hi
    refine gdoes_turn (hb val V h3) (fun _ => ⟨_, _, h3, rfl, rfl⟩) ⟨fun c => (by rw [show upB L 4 3 = L 3 from rfl, o3] at c; cases c), fun _ => ap_later ((Below.refl _ _).alloc (Nat.le_refl _) _) (hg.2.1 h7), fun c => (by rw [show upB L 4 7 = L 7 from rfl, h7] at c; cases c)⟩ ?_
    intro j u hj hr
    match j, hj, hr with
    | 0, _, hr => exact hr
    | 1, _, hr => exact hr
    | 2, _, hr => exact hr
    | 3, hj, _ => exact fun c => (by rw [upB_self] at c; cases c)
    | 4, hj, _ => rw [hi] at hj; cases hj
    | 5, hj, _ => rw [h5] at hj; cases hj
    | 6, _, hr => exact hr
    | _ + 7, _, _ => trivial
  · refine gen_plain rfl (fun val v => p5 val v) (fun L val V hC hi hu hg hd => ?_)
    obtain ⟨y3, V3, h3, rfl, q4⟩ := (depsG_get hd 4 (by kernel_rfl) : L 5 = false → ∃ y3 V3, C3 y3 V3 ∧ V = V3.alloc (.cells (cs y3) ct) ∧ val 4 = .slice (some ⟨V3.heap.size, 0, none⟩) 1 1) hi
    have q1 : val 1 = v0 := depsG_get hd 1 (by kernel_rfl)
    have o4 := depsG_on hd 4 (by kernel_rfl)
    have o3 := wants_done hC 10 4 3 (by kernel_rfl) o4
    have h7 : L 7 = false := B10 hC 7 5 (by kernel_rfl) hi
    intro K hK
    refine ha val K y3 V3 h3 q1 q4 (fun z V5 h5 => ?_)
    refine hK z V5 (fun _ => h5) ⟨fun c => (by rw [show upB L 5 3 = L 3 from rfl, o3] at c; cases c), fun _ => c5 _ _ h5, fun c => (by rw [show upB L 5 7 = L 7 from rfl, h7] at c; cases c)⟩ ?_
    intro j u hj hr
    match j, hj, hr with
    | 0, _, hr => exact hr
    | 1, _, hr => exact hr
    | 2, _, hr => exact hr
    | 3, hj, _ => exact fun c => (by rw [show upB L 5 4 = L 4 from rfl, o4] at c; cases c)
    | 4, hj, _ => exact fun c => (by rw [upB_self] at c; cases c)
    | 5, hj, _ => rw [hi] at hj; cases hj
    | 6, _, hr => exact hr
    | _ + 7, _, _ => trivial
  · refine gen_plain rfl (fun val v => p6 val v) (fun L val V hC hi hu hg hd => ?_)
    exact gdoes_value (hf6 val V) rfl hg (fun j u hj hr => hr)
  · refine gen_plain rfl (fun val v => p7 val v) (fun L val V hC hi hu hg hd => ?_)
    have q6 : val 6 = .pointer (some ⟨o, k, none⟩) := depsG_get hd 6 (by kernel_rfl)
    have h5 : C5 (val 5) V := (depsG_get hd 5 (by kernel_rfl) : L 7 = false → C5 (val 5) V) hi
    have o5 := depsG_on hd 5 (by kernel_rfl)
    have o4 := wants_done hC 10 5 4 (by kernel_rfl) o5
    have o3 := wants_done hC 10 5 3 (by kernel_rfl) o5
    refine gdoes_skip (hs val V h5 q6) trivial ⟨fun c => (by rw [show upB L 7 3 = L 3 from rfl, o3] at c; cases c), fun c => (by rw [upB_self] at c; cases c), fun _ => ⟨_, _, h5, rfl⟩⟩ ?_
    intro j u hj hr
    match j, hj, hr with
    | 0, _, hr => exact hr
    | 1, _, hr => exact hr
    | 2, _, hr => exact hr
    | 3, hj, _ => exact fun c => (by rw [show upB L 7 4 = L 4 from rfl, o4] at c; cases c)
    | 4, hj, _ => exact fun c => (by rw [show upB L 7 5 = L 5 from rfl, o5] at c; cases c)
    | 5, hj, _ => exact fun c => (by rw [upB_self] at c; cases c)
    | 6, _, hr => exact hr
    | _ + 7, _, _ => trivial
  · intro L val V hL hg hR
    obtain ⟨z, V5, h5, rfl⟩ := hg.2.2 (hL 7 (by show 7 < 8; decide))
    exact hend val z V5 h5
end Go.Proofs.YtkpomcimaofkkaaGreatDoor
namespace Go.Proofs.YtkpomcimaofkkaaGreatDoor.Rp
set_option linter.unusedVariables false
set_option linter.unusedSimpArgs false
open Go.RowKit Go.Lib

/-- What is left is no longer than that. -/
def LeQ {α : Type} (n : Nat) (p : Qs α) : Prop := ∀ x r, p = some (x, r) → r.length ≤ n
def LtQ {α : Type} (n : Nat) (p : Qs α) : Prop := ∀ x r, p = some (x, r) → r.length < n
theorem LeQ.bind {α β : Type} {n : Nat} {p : Qs α} {f : α → List MTok → Qs β} (h : LeQ n p) (hf : ∀ x r, LeQ r.length (f x r)) : LeQ n (andQ p f) := by
  intro y s e
  cases p with
  | none => cases e
  | some z => exact Nat.le_trans (hf z.1 z.2 y s e) (h z.1 z.2 rfl)
theorem LtQ.bind {α β : Type} {n : Nat} {p : Qs α} {f : α → List MTok → Qs β} (h : LtQ n p) (hf : ∀ x r, LeQ r.length (f x r)) : LtQ n (andQ p f) := by
  intro y s e
  cases p with
  | none => cases e
  | some z => exact Nat.lt_of_le_of_lt (hf z.1 z.2 y s e) (h z.1 z.2 rfl)
theorem LtQ.le {α : Type} {n : Nat} {p : Qs α} (h : LtQ n p) : LeQ n p := fun x r e => Nat.le_of_lt (h x r e)
theorem LeQ.done {α : Type} (x : α) (l : List MTok) : LeQ l.length (some (x, l) : Qs α) := by
  intro y r e; cases e; exact Nat.le_refl _
theorem take_lt (k : Int) (l : List MTok) : LtQ l.length (qTake k l) := by
  intro x r e
  cases l with
  | nil => cases e
  | cons t l =>
    by_cases h : t.1 = k
    · rw [show qTake k (t :: l) = some (t, l) from if_pos h] at e; cases e; simp
    · rw [show qTake k (t :: l) = none from if_neg h] at e; cases e
theorem text_lt (x : ByteArray) (l : List MTok) : LtQ l.length (qText x l) := by
  intro y r e
  cases l with
  | nil => cases e
  | cons t l =>
    unfold qText at e
    split at e
    · cases e; simp
    · cases e
theorem num_lt (l : List MTok) : LtQ l.length (qNum l) := LtQ.bind (take_lt 2 l) (fun t r => LeQ.done _ r)
theorem one_lt (ws : List ByteArray) (l : List MTok) : LtQ l.length (qOne ws l) := LtQ.bind (take_lt 1 l) (fun t r => by
  intro y s e
  cases h : idxB t.2.2.1 ws 0 with
  | none => rw [h] at e; cases e
  | some n => rw [h] at e; cases e; exact Nat.le_refl _)
theorem either_lt (y n : ByteArray) (l : List MTok) : LtQ l.length (qEither y n l) := by
  unfold qEither
  split
  · exact LtQ.bind (text_lt y l) (fun _ r => LeQ.done _ r)
  · exact LtQ.bind (text_lt n l) (fun _ r => LeQ.done _ r)
theorem lines_le (l : List MTok) : (qLines l).length ≤ l.length := (lines_suf l).length_le
theorem lineEnd_lt (l : List MTok) : LtQ l.length (qLineEnd l) := LtQ.bind (take_lt 4 l) (fun t r => by
  intro y s e; cases e; exact lines_le r)
theorem key_lt (l : List MTok) : LtQ l.length (qKey l) := LtQ.bind (text_lt mOpen l) (fun _ r => by
  split
  · exact LeQ.bind (text_lt mClose r).le (fun _ r => LeQ.done _ r)
  · exact LeQ.bind (take_lt 1 r).le (fun _ r => LeQ.bind (text_lt mClose r).le (fun _ r => LeQ.done _ r)))
theorem dep_lt (l : List MTok) : LtQ l.length (qDep l) :=
  LtQ.bind (text_lt _ l) fun _ l => LeQ.bind (num_lt l).le fun _ l => LeQ.bind (one_lt _ l).le fun _ l => LeQ.bind (num_lt l).le fun _ l => LeQ.bind (key_lt l).le fun _ l =>
  LeQ.bind (num_lt l).le fun _ l => LeQ.bind (num_lt l).le fun _ l => LeQ.bind (either_lt _ _ l).le fun _ l => LeQ.bind (either_lt _ _ l).le fun _ l => LeQ.bind (text_lt _ l).le fun _ l => LeQ.done _ l
theorem deps_le : ∀ (f : Nat) (l : List MTok) (acc : List MW), LeQ l.length (qDeps f l acc)
  | 0, l, acc => LeQ.done acc l
  | f + 1, l, acc => by
    unfold qDeps
    split
    · exact LeQ.bind (dep_lt l).le (fun x r => deps_le f r _)
    · exact LeQ.done acc l
theorem an_lt (l : List MTok) : LtQ l.length (qAn l) :=
  LtQ.bind (text_lt _ l) fun _ l => LeQ.bind (one_lt _ l).le fun _ l => LeQ.bind (num_lt l).le fun _ l => LeQ.bind (num_lt l).le fun _ l => LeQ.bind (num_lt l).le fun _ l => LeQ.bind (key_lt l).le fun _ l =>
  LeQ.bind (num_lt l).le fun _ l => LeQ.bind (either_lt _ _ l).le fun _ l => LeQ.bind (one_lt _ l).le fun _ l => LeQ.bind (deps_le _ l _) fun _ l => LeQ.done _ l
/-- A list of dependencies within blocks of S. -/
abbrev WhyRow (_ : Nat → Prop) (_ : World) (cs : List Value) (x : MW) : Prop := cs = encW x
theorem whyRow_keep (S T : Nat → Prop) (w w' : World) (cs : List Value) (x : MW) (h : WhyRow S w cs x) (_ : KeepsIn S w w') (_ : ∀ b, b < w.heap.size → S b → T b) : WhyRow T w' cs x := h
abbrev WhysS (S : Nat → Prop) (w : World) (v : Value) (l : List MW) : Prop := RowsIn 8 64 (fun cs x => cs = encW x) S w v l
/-- An anomaly's cells, its cycle within blocks of S. -/
def AnS (S : Nat → Prop) (w : World) (cs : List Value) (a : MA) : Prop := ∃ cv, cs = encA a cv ∧ WhysS S w cv a.cyc
theorem anS_keep (S T : Nat → Prop) (w w' : World) (cs : List Value) (x : MA) (h : AnS S w cs x) (hk : KeepsIn S w w') (hT : ∀ b, b < w.heap.size → S b → T b) : AnS T w' cs x := by
  obtain ⟨cv, h1, h2⟩ := h
  exact ⟨cv, h1, RowsIn.keep h2 (by omega) (fun _ _ h => h) hk hT⟩
theorem OutInv.rowsR {α : Type} [Inhabited α] {e size : Nat} {R : (Nat → Prop) → World → List Value → α → Prop} {B : Nat} {wr : World} {v : Value} {n : Nat} {rows : List (List Value)} {l : List α} {bytes : Nat} (hkeep : ∀ (S T : Nat → Prop) w w' cs x, R S w cs x → KeepsIn S w w' → (∀ b, b < w.heap.size → S b → T b) → R T w' cs x)
    (h : OutInv e size R B wr v n rows l) (hbytes : n * bytes ≤ 140737488355328) : RowsIn size bytes (R (fun b => B ≤ b) wr) (fun b => B ≤ b) wr v l :=
  Tx.OutInv.rows_in hkeep ⟨h.rn, h.ln, h.own, h.sizes, h.each⟩ hbytes
theorem info_parts {P : Program} {t : TypeId} {z : Option Value} {s b : Nat} (h : (P.info? t).map (fun i => (i.zero, i.size, i.bytes)) = some (z, s, b)) : ∃ i, P.info? t = some i ∧ i.zero = z ∧ i.size = s ∧ i.bytes = b := by
  cases hi : P.info? t with
  | none => rw [hi] at h; cases h
  | some i => rw [hi] at h; simp at h; exact ⟨i, rfl, h.1, h.2.1, h.2.2⟩
theorem Tryz.infoWhy : (Tryz.prog.info? 108).map (fun i => (i.zero, i.size, i.bytes)) = some (some (.agg #[.int .i64 0, .int .i64 0, .int .i64 0, .string ByteArray.empty, .int .i64 0, .int .i64 0, .bool false, .bool false]), 8, 64) := by kernel_rfl
theorem Tryz.infoAn : (Tryz.prog.info? 68).map (fun i => (i.zero, i.size, i.bytes)) = some (some (.agg #[.int .i64 0, .int .i64 0, .int .i64 0, .int .i64 0, .string ByteArray.empty, .int .i64 0, .slice none 0 0, .bool false, .int .i64 0]), 9, 96) := by kernel_rfl
theorem Tryz.infoInt : (Tryz.prog.info? 3).map (fun i => (i.zero, i.size, i.bytes)) = some (some (.int .i64 0), 1, 8) := by kernel_rfl
theorem wp_appendW {o : Oper} {A : Act} {K : Act → World → Prop} {Q : Exit → Act → World → Prop} (base : Nat) (V : World) (s x : Operand)
    (ho : o.op = .call { callee := .builtin .append, args := #[s, x], argTypes := #[66, 66] }) (out : Value) (n : Nat) (xs : List Value) (y : MW) (hs : A.eval s = out) (nb : Nat) (hx : A.eval x = .slice (some ⟨nb, 0, none⟩) 1 1) (hblk : V.heap[nb]? = some (.cells (encW y).toArray 108))
    (h1 : V.ownsRow base 108 8 out n xs) (hb : base ≤ V.heap.size) (hl : n ≤ 400000)
    (hK : ∀ g cap V', V'.ownsRow base 108 8 (.slice (some ⟨g, 0, none⟩) (n + 1) cap) (n + 1) (xs ++ encW y) → V.grownBy V' out.ownBlock → (out.ownBlock = some g ∨ g = V.heap.size) → K (A.put o.dst (.slice (some ⟨g, 0, none⟩) (n + 1) cap)) V') : o.wp Tryz.prog A V K Q := by
  obtain ⟨i0, hi0, hz0, hz1, hz2⟩ := info_parts Tryz.infoWhy
  refine wp_append_lies V s x 66 ho base 108 i0 _ 8 64 Tryz.underlying66 hi0 hz0 hz1 hz2 rfl (by decide) out n xs hs h1 ⟨nb, 0, none⟩ 1 1 (encW y) hx rfl (World.news_of_block (cs := (encW y).toArray) (t := 108) (fr := (0, 0)) hblk) ?_ (by decide) (by unfold maxLen; omega) (by omega) (by omega) V.heap.size rfl ?_
  · intro u hu
    simp only [encW, List.mem_cons, List.not_mem_nil, or_false] at hu
    rcases hu with rfl | rfl | rfl | rfl | rfl | rfl | rfl | rfl <;> rfl
  · intro g cap V' q1 q2 q3 _
    exact hK g cap V' q1 q2 q3
theorem wp_appendA {o : Oper} {A : Act} {K : Act → World → Prop} {Q : Exit → Act → World → Prop} (base : Nat) (V : World) (s x : Operand)
    (ho : o.op = .call { callee := .builtin .append, args := #[s, x], argTypes := #[22, 22] }) (out : Value) (n : Nat) (xs : List Value) (y : MA) (ca : Option Addr) (cl cc : Nat) (hs : A.eval s = out) (nb : Nat) (hx : A.eval x = .slice (some ⟨nb, 0, none⟩) 1 1) (hblk : V.heap[nb]? = some (.cells (encA y (.slice ca cl cc)).toArray 68))
    (h1 : V.ownsRow base 68 9 out n xs) (hb : base ≤ V.heap.size) (hl : n ≤ 400000)
    (hK : ∀ g cap V', V'.ownsRow base 68 9 (.slice (some ⟨g, 0, none⟩) (n + 1) cap) (n + 1) (xs ++ encA y (.slice ca cl cc)) → V.grownBy V' out.ownBlock → (out.ownBlock = some g ∨ g = V.heap.size) → K (A.put o.dst (.slice (some ⟨g, 0, none⟩) (n + 1) cap)) V') : o.wp Tryz.prog A V K Q := by
  obtain ⟨i0, hi0, hz0, hz1, hz2⟩ := info_parts Tryz.infoAn
  refine wp_append_lies V s x 22 ho base 68 i0 _ 9 96 Tryz.underlying22 hi0 hz0 hz1 hz2 rfl (by decide) out n xs hs h1 ⟨nb, 0, none⟩ 1 1 (encA y (.slice ca cl cc)) hx rfl (World.news_of_block (cs := (encA y (.slice ca cl cc)).toArray) (t := 68) (fr := (0, 0)) hblk) ?_ (by decide) (by unfold maxLen; omega) (by omega) (by omega) V.heap.size rfl ?_
  · intro u hu
    simp only [encA, List.mem_cons, List.not_mem_nil, or_false] at hu
    rcases hu with rfl | rfl | rfl | rfl | rfl | rfl | rfl | rfl | rfl <;> rfl
  · intro g cap V' q1 q2 q3 _
    exact hK g cap V' q1 q2 q3
end Go.Proofs.YtkpomcimaofkkaaGreatDoor.Rp
namespace Go.Proofs.YtkpomcimaofkkaaGreatDoor.Rp
set_option linter.unusedVariables false
set_option linter.unusedSimpArgs false
open Go.RowKit Go.Lib

/-- What lies below B but for the reader's box is as it was. -/
structure NearB (bx B : Nat) (W V : World) : Prop where
  os : V.os = W.os
  tape : V.tape = W.tape
  output : V.output = W.output
  size : W.heap.size ≤ V.heap.size
  block : ∀ b, b < B → b ≠ bx → V.heap[b]? = W.heap[b]?
theorem NearB.box {bx B o : Nat} {W V : World} {t : TypeId} {cs : Array Value} (h : NearB bx B W V) (ho : BoxW W o t cs) (hB : o < B) (hn : o ≠ bx) : BoxW V o t cs := (h.block o hB hn).trans ho
theorem NearB.beside {bx B : Nat} {w W V : World} (h : NearB bx B W V) (hw : Beside bx w W) (hB : w.heap.size ≤ B) : Beside bx w V :=
  ⟨h.os.trans hw.os, h.tape.trans hw.tape, h.output.trans hw.output, Nat.le_trans hw.size h.size, fun k hk hn => (h.block k (by omega) hn).trans (hw.block k hk hn)⟩
theorem be_drew {bx : Nat} {w W : World} (h : Beside bx w W) : Beside bx w W.drew := ⟨h.os, h.tape, h.output, h.size, h.block⟩
theorem below_drew1 {B : Nat} {w W : World} (h : Below B w W) : Below B w W.drew := ⟨h.os, h.tape, h.output, h.size, h.block⟩
/-- A list of dependencies as it grows in the field of a box: the reader's box, the box o, the answer's box rv, the list. -/
structure GrowW (bx B : Nat) (w : World) (T : List MTok) (xs : List MW) (v : Value) (rows : List (List Value)) (V : World) : Prop where
  pq : PQ bx T V
  be : Beside bx w V
  out : OutInv 108 8 WhyRow B V v xs.length rows xs
  size : B ≤ V.heap.size
theorem Tryz.mixedOrders : Tryz.prog.follows .mixedOrders = true := by kernel_rfl
end Go.Proofs.YtkpomcimaofkkaaGreatDoor.Rp
