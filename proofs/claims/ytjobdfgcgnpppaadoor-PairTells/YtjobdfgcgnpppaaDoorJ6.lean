/-
  A region that draws its order, by a statement on what has been done: any operation may turn the world.
  Drawn regions over the worlds behind a world.
  wrong: what is wrong with an event behind those so far.
-/
import Derived.Test.YtjobdfgcgnpppaaDoorJ5
import Derived.BigQuiet
import Derived.Shelf.SlSortCmp.QuietGrown
namespace Go.Proofs.YtjobdfgcgnpppaaDoor
set_option linter.unusedVariables false
set_option linter.unusedSimpArgs false
open Go.RowKit

/-- One more is done. -/
def upB (L : Nat → Bool) (i : Nat) : Nat → Bool := fun j => if j = i then true else L j
theorem upB_self (L : Nat → Bool) (i : Nat) : upB L i i = true := by simp [upB]
theorem upB_ne (L : Nat → Bool) (i j : Nat) (h : j ≠ i) : upB L i j = L j := by simp [upB, h]
/-- What is done, its sources are. -/
def CloB (ops : Array Oper) (L : Nat → Bool) : Prop := ∀ j o, ops[j]? = some o → L j = true → ∀ e ∈ o.after, Region.binds .any e = true → L e.on = true
/-- Operation j wants operation i, straight or by way of others. -/
def wantsB (ops : Array Oper) : Nat → Nat → Nat → Bool
  | 0, _, _ => false
  | f + 1, j, i => match ops[j]? with
    | none => false
    | some o => o.after.any fun e => Region.binds .any e && (e.on == i || wantsB ops f e.on i)
theorem wants_done {ops : Array Oper} {L : Nat → Bool} (hc : CloB ops L) : ∀ (f j i : Nat), wantsB ops f j i = true → L j = true → L i = true
  | 0, _, _, h, _ => by cases h
  | f + 1, j, i, h, hj => by
    unfold wantsB at h
    cases ho : ops[j]? with
    | none => rw [ho] at h; cases h
    | some o =>
      rw [ho] at h
      simp only at h
      rw [← Array.any_toList, List.any_eq_true] at h
      obtain ⟨e, he, h4⟩ := h
      rw [Bool.and_eq_true, Bool.or_eq_true, beq_iff_eq] at h4
      have hl := hc j o ho hj e (by simpa using he) h4.1
      rcases h4.2 with c | c
      · rw [← c]; exact hl
      · exact wants_done hc f e.on i c hl
/-- One that is not done keeps those back that want it. -/
theorem wants_back {ops : Array Oper} {L : Nat → Bool} (hc : CloB ops L) (f j i : Nat) (h : wantsB ops f j i = true) (hi : L i = false) : L j = false := by
  cases hj : L j with
  | false => rfl
  | true => rw [wants_done hc f j i h hj] at hi; cases hi
/-- What is known of those that an operation waits for. -/
def depsG (L : Nat → Bool) (R : (Nat → Bool) → Nat → Value → World → Prop) (val : Nat → Value) (w : World) : List Edge → Prop
  | [] => True
  | e :: l => (Region.binds .any e = true → L e.on = true ∧ R L e.on (val e.on) w) ∧ depsG L R val w l
theorem depsG_of {L : Nat → Bool} {R : (Nat → Bool) → Nat → Value → World → Prop} {val : Nat → Value} {w : World} : ∀ (l : List Edge), (∀ e ∈ l, Region.binds .any e = true → L e.on = true ∧ R L e.on (val e.on) w) → depsG L R val w l
  | [], _ => trivial
  | e :: l, h => ⟨h e (by simp), depsG_of l (fun x hx => h x (by simp [hx]))⟩
theorem depsG_get {L : Nat → Bool} {R : (Nat → Bool) → Nat → Value → World → Prop} {val : Nat → Value} {w : World} : ∀ {l : List Edge}, depsG L R val w l → ∀ j, (l.any fun e => Region.binds .any e && e.on == j) = true → R L j (val j) w
  | [], _, j, h => by cases h
  | e :: l, hd, j, h => by
    simp only [List.any_cons, Bool.or_eq_true, Bool.and_eq_true, beq_iff_eq] at h
    rcases h with ⟨hb, rfl⟩ | h
    · exact (hd.1 hb).2
    · exact depsG_get hd.2 j (by simpa using h)
theorem depsG_on {L : Nat → Bool} {R : (Nat → Bool) → Nat → Value → World → Prop} {val : Nat → Value} {w : World} : ∀ {l : List Edge}, depsG L R val w l → ∀ j, (l.any fun e => Region.binds .any e && e.on == j) = true → L j = true
  | [], _, j, h => by cases h
  | e :: l, hd, j, h => by
    simp only [List.any_cons, Bool.or_eq_true, Bool.and_eq_true, beq_iff_eq] at h
    rcases h with ⟨hb, rfl⟩ | h
    · exact (hd.1 hb).1
    · exact depsG_on hd.2 j (by simpa using h)
/-- What is asked of one operation. -/
def OpGen (P : Program) (ops : Array Oper) (Q : Exit → Act → World → Prop) (frame : (Nat → Value) → Act) (val0 : Nat → Value) (G : (Nat → Bool) → World → Prop) (R : (Nat → Bool) → Nat → Value → World → Prop) (i : Nat) (o : Oper) : Prop :=
  ∀ L val w, CloB ops L → L i = false → (∀ j, L j = false → val j = val0 j) → G L w → depsG L R val w o.after.toList →
      if Region.wanted o (yielded ops (frame val).tmps) then o.wp P (frame val) w (fun a' w' => ∃ v, a' = frame (upV val i v) ∧ R (upB L i) i v w' ∧ G (upB L i) w' ∧ ∀ j u, L j = true → R L j u w → R (upB L i) j u w') Q
      else (frame val).put o.dst undef = frame (upV val i undef) ∧ R (upB L i) i undef w ∧ G (upB L i) w ∧ ∀ j u, L j = true → R L j u w → R (upB L i) j u w
theorem wp_region_gen {P : Program} {ops : Array Oper} {Q : Exit → Act → World → Prop} {id : Nat} {a0 : Act} {w0 : World} (hm : P.follows .mixedOrders = true) (hah : aheadB ops = true)
    (frame : (Nat → Value) → Act) (val0 : Nat → Value) (h0 : a0 = frame val0) (G : (Nat → Bool) → World → Prop) (R : (Nat → Bool) → Nat → Value → World → Prop)
    (hG0 : G (fun _ => false) w0.drew) (l : List Oper) (hl : ops.toList = l) (hop : allOps (OpGen P ops Q frame val0 G R) 0 l)
    (hend : ∀ L val w, (∀ i, i < ops.size → L i = true) → G L w → (∀ i, i < ops.size → R L i (val i) w) → Q .normal (frame val) w) : (Code.region id ops true).wp P Q a0 w0 := by
  refine wp_region_any hm ?_
  refine wpAny_inv (fun listed a w => listed.size = ops.size ∧ CloB ops (fun i => listed.getD i false) ∧ ∃ val, a = frame val ∧ (∀ j, listed.getD j false = false → val j = val0 j) ∧ G (fun i => listed.getD i false) w ∧ ∀ i, i < ops.size → listed.getD i false = true → R (fun i => listed.getD i false) i (val i) w) ?_ ?_ _ _ _ _ ?_ ?_
  · rintro listed a w ⟨hs, hclo, val, rfl, hv, hG, hR⟩ i hi
    rw [mem_ready] at hi
    obtain ⟨h1, o, ho, h2⟩ := hi
    have hio : i < ops.size := (Array.getElem?_eq_some_iff.1 ho).1
    have hil : i < listed.size := by omega
    have hif : listed.getD i false = false := by
      rw [Array.getD_eq_getD_getElem?, Array.getElem?_eq_getElem hil] at h1 ⊢
      exact h1
    have eL : (fun j => (listed.setIfInBounds i true).getD j false) = upB (fun j => listed.getD j false) i := by
      funext j
      by_cases e : j = i
      · subst e
        rw [upB_self, Array.getD_eq_getD_getElem?, Array.getElem?_setIfInBounds_self_of_lt hil]
        rfl
      · rw [upB_ne _ _ _ e, getD_set_ne false (fun c => e c.symm)]
    have hclo2 : CloB ops (upB (fun j => listed.getD j false) i) := by
      intro j oj hoj hj e he hb
      by_cases ej : j = i
      · subst ej
        rw [ho] at hoj
        injection hoj with hoj
        subst hoj
        by_cases ee : e.on = j
        · rw [ee]; exact upB_self _ _
        · rw [upB_ne _ _ _ ee]; exact h2 e he hb
      · rw [upB_ne _ _ _ ej] at hj
        by_cases ee : e.on = i
        · rw [ee]; exact upB_self _ _
        · rw [upB_ne _ _ _ ee]; exact hclo j oj hoj hj e he hb
    have key : ∀ v w', R (upB (fun j => listed.getD j false) i) i v w' → G (upB (fun j => listed.getD j false) i) w' → (∀ j u, listed.getD j false = true → R (fun j => listed.getD j false) j u w → R (upB (fun j => listed.getD j false) i) j u w') →
        ((listed.setIfInBounds i true).size = ops.size ∧ CloB ops (fun j => (listed.setIfInBounds i true).getD j false) ∧ ∃ val', frame (upV val i v) = frame val' ∧ (∀ j, (listed.setIfInBounds i true).getD j false = false → val' j = val0 j) ∧ G (fun j => (listed.setIfInBounds i true).getD j false) w' ∧ ∀ j, j < ops.size → (listed.setIfInBounds i true).getD j false = true → R (fun j => (listed.setIfInBounds i true).getD j false) j (val' j) w') := fun v w' q1 q2 q3 => by
      have eL' : ∀ j, (listed.setIfInBounds i true).getD j false = upB (fun j => listed.getD j false) i j := fun j => congrFun eL j
      rw [eL]
      refine ⟨by simpa using hs, hclo2, upV val i v, rfl, fun j hj => ?_, q2, fun j hj hl2 => ?_⟩
      · rw [eL'] at hj
        by_cases e : j = i
        · subst e; rw [upB_self] at hj; cases hj
        · rw [upB_ne _ _ _ e] at hj
          rw [upV_ne _ _ _ _ e]
          exact hv j hj
      · rw [eL'] at hl2
        by_cases e : j = i
        · subst e
          rw [upV_self]
          exact q1
        · rw [upB_ne _ _ _ e] at hl2
          rw [upV_ne _ _ _ _ e]
          exact q3 j _ hl2 (hR j hj hl2)
    have hk := allOps_at l 0 i o hop (by rw [← hl]; simpa using ho)
    rw [Nat.zero_add] at hk
    have hk2 := hk (fun j => listed.getD j false) val w hclo hif hv hG (depsG_of _ (fun e he hb => by
      have hea : e ∈ o.after := by simpa using he
      have hlt := ahead_of hah ho e hea hb
      exact ⟨h2 e hea hb, hR e.on (by omega) (h2 e hea hb)⟩))
    unfold wpOp
    rw [ho]
    simp only
    by_cases hw : Region.wanted o (yielded ops (frame val).tmps) = true
    · rw [if_pos hw] at hk2 ⊢
      exact .inl (Oper.wp_mono (fun a' w' ⟨v, e, q1, q2, q3⟩ => by rw [e]; exact key v w' q1 q2 q3) hk2)
    · rw [if_neg hw] at hk2 ⊢
      rw [hk2.1]
      exact key undef w hk2.2.1 hk2.2.2.1 hk2.2.2.2
  · rintro listed a w ⟨hs, hclo, val, rfl, hv, hG, hR⟩ hr
    have hall := all_listed hah hs hr
    exact hend _ val w hall hG (fun i hi => hR i hi (hall i hi))
  · unfold leftN
    exact Nat.le_trans (List.length_filter_le _ _) (by simp)
  · have e : ∀ j, (Array.replicate ops.size false).getD j false = false := fun j => by
      rw [Array.getD_eq_getD_getElem?, Array.getElem?_replicate]
      split <;> rfl
    have eF : (fun j => (Array.replicate ops.size false).getD j false) = fun _ => false := funext e
    refine ⟨by simp, fun j o ho hj => ?_, val0, h0, fun _ _ => rfl, ?_, fun i hi hl2 => ?_⟩
    · simp only [e] at hj
      cases hj
    · rw [eF]; exact hG0
    · rw [e] at hl2
      cases hl2
section
variable {P : Program} {ops : Array Oper} {Q : Exit → Act → World → Prop} {frame : (Nat → Value) → Act} {val0 : Nat → Value} {G : (Nat → Bool) → World → Prop} {R : (Nat → Bool) → Nat → Value → World → Prop} {i : Nat} {o : Oper}
/-- What an operation must come to. -/
def GDoes (P : Program) (Q : Exit → Act → World → Prop) (G : (Nat → Bool) → World → Prop) (R : (Nat → Bool) → Nat → Value → World → Prop) (L : Nat → Bool) (i : Nat) (o : Oper) (A : Act) (w : World) : Prop :=
  ∀ K : Act → World → Prop, (∀ v w', R (upB L i) i v w' → G (upB L i) w' → (∀ j u, L j = true → R L j u w → R (upB L i) j u w') → K (A.put o.dst v) w') → o.wp P A w K Q
theorem gen_plain (hg : o.guard = none) (hput : ∀ val v, (frame val).put o.dst v = frame (upV val i v)) (h : ∀ L val w, CloB ops L → L i = false → (∀ j, L j = false → val j = val0 j) → G L w → depsG L R val w o.after.toList → GDoes P Q G R L i o (frame val) w) : OpGen P ops Q frame val0 G R i o := by
  intro L val w h1 h2 h3 h4 h5
  rw [if_pos (by simp [Region.wanted, hg])]
  exact h L val w h1 h2 h3 h4 h5 _ (fun v w' q1 q2 q3 => ⟨v, hput val v, q1, q2, q3⟩)
theorem gen_yes (j : Nat) (b : Bool) (hg : o.guard = some (j, b)) (hput : ∀ val v, (frame val).put o.dst v = frame (upV val i v)) (hy : ∀ L val w, depsG L R val w o.after.toList → yielded ops (frame val).tmps j = some b) (h : ∀ L val w, CloB ops L → L i = false → (∀ j, L j = false → val j = val0 j) → G L w → depsG L R val w o.after.toList → GDoes P Q G R L i o (frame val) w) : OpGen P ops Q frame val0 G R i o := by
  intro L val w h1 h2 h3 h4 h5
  rw [if_pos (by simp [Region.wanted, hg, hy L val w h5])]
  exact h L val w h1 h2 h3 h4 h5 _ (fun v w' q1 q2 q3 => ⟨v, hput val v, q1, q2, q3⟩)
/-- One that yields a value and leaves the world. -/
theorem gdoes_value {L : Nat → Bool} {A : Act} {w : World} {v : Value} (h : (execOp A.eval o).run P w = .ok (.value v) w) (hR : R (upB L i) i v w) (hG : G (upB L i) w) (hp : ∀ j u, L j = true → R L j u w → R (upB L i) j u w) : GDoes P Q G R L i o A w := by
  intro K hK
  unfold Oper.wp
  rw [h]
  exact hK v w hR hG hp
/-- One that yields a value in another world. -/
theorem gdoes_turn {L : Nat → Bool} {A : Act} {w w' : World} {v : Value} (h : (execOp A.eval o).run P w = .ok (.value v) w') (hR : R (upB L i) i v w') (hG : G (upB L i) w') (hp : ∀ j u, L j = true → R L j u w → R (upB L i) j u w') : GDoes P Q G R L i o A w := by
  intro K hK
  unfold Oper.wp
  rw [h]
  exact hK v w' hR hG hp
theorem gdoes_skip {L : Nat → Bool} {A : Act} {w w' : World} (h : (execOp A.eval o).run P w = .ok .skip w') (hR : R (upB L i) i undef w') (hG : G (upB L i) w') (hp : ∀ j u, L j = true → R L j u w → R (upB L i) j u w') : GDoes P Q G R L i o A w := by
  intro K hK
  unfold Oper.wp
  rw [h]
  exact hK undef w' hR hG hp
/-- A call. -/
theorem gdoes_call {L : Nat → Bool} {A : Act} {w : World} {f : FuncId} {args : Array Value} {C : Ending → World → Prop} (h : (execOp A.eval o).run P w = .ok (.enter f args) w) (hc : Calls P f args w C) (hR : ∀ e w', C e w' → ∃ v, e = .returned v ∧ R (upB L i) i v w' ∧ G (upB L i) w' ∧ ∀ j u, L j = true → R L j u w → R (upB L i) j u w') : GDoes P Q G R L i o A w := by
  intro K hK
  unfold Oper.wp
  rw [h]
  refine Calls.mono hc (fun e w' he => ?_)
  obtain ⟨v, rfl, q1, q2, q3⟩ := hR e w' he
  exact hK v w' q1 q2 q3
end
end Go.Proofs.YtjobdfgcgnpppaaDoor
namespace Go.Proofs.YtjobdfgcgnpppaaDoor
set_option linter.unusedVariables false
set_option linter.unusedSimpArgs false
open Go.RowKit Go.Lib Go.Maps

theorem Tryd.mixedOrders : Tryd.prog.follows .mixedOrders = true := by kernel_rfl
/-- The worlds behind w in which nothing of it has changed. -/
def BW (w : World) : Type := {W : World // Below w.heap.size w W}
theorem bwSome (w : World) : Nonempty (BW w) := ⟨⟨w, Below.refl _ _⟩⟩
theorem wp_region_quiet_below {P : Program} {id : Nat} {Q : Exit → Act → World → Prop} {a : Act} {w : World} {l : List Oper} (hm : P.follows .mixedOrders = true) (hB : Region.lexB .any l.toArray = true)
    (h : wpQuiet P l.toArray (fun w' => ∃ p : BW w, w' = p.val) (fun a' => ∀ w', (∃ p : BW w, w' = p.val) → Q .normal a' w') l a) : (Code.region id l.toArray true).wp P Q a w :=
  wp_region_quiet (C := fun w' => ∃ p : BW w, w' = p.val) hm hB ⟨⟨{ w with drawn := w.drawn + 1 }, ⟨rfl, rfl, rfl, Nat.le_refl _, fun _ _ => rfl⟩⟩, rfl⟩ (by simpa using h)
theorem cell_later {w w' : World} {a : Addr} {v : Value} (hb : Below w.heap.size w w') (h : w.cell? a = some v) : w'.cell? a = some v := (hb.cell (p := a) (World.block_lt_of_cell? _ _ h)).trans h
theorem bcell {w : World} {a : Addr} {v : Value} (h : w.cell? a = some v) : ∀ p : BW w, p.val.cell? a = some v := fun p => cell_later p.2 h
theorem below_drew {B : Nat} {w W : World} (h : Below B w W) : Below B w W.drew := ⟨h.os, h.tape, h.output, h.size, h.block⟩
theorem bstep {w W W' : World} (k : Below W.heap.size W W') (h : Below w.heap.size w W) : Below w.heap.size w W' := h.trans (k.mono h.size)
end Go.Proofs.YtjobdfgcgnpppaaDoor
namespace Go.Proofs.YtjobdfgcgnpppaaDoor
set_option linter.unusedVariables false
set_option linter.unusedSimpArgs false
open Go.RowKit Go.Lib Go.Maps

theorem ButB.of_below {hb : Nat} {w w' : World} (h : Below w.heap.size w w') : ButB hb w w' := (ButB.refl hb w).below h
theorem ButB.trans {hb : Nat} {w w1 w2 : World} (h : ButB hb w w1) (h2 : ButB hb w1 w2) : ButB hb w w2 := ⟨h2.1.trans h.1, h2.2.1.trans h.2.1, h2.2.2.1.trans h.2.2.1, Nat.le_trans h.2.2.2.1 h2.2.2.2.1, fun b hl hn => (h2.2.2.2.2 b (Nat.lt_of_lt_of_le hl h.2.2.2.1) hn).trans (h.2.2.2.2 b hl hn)⟩
def wrR (inv b gn ask fit nb : Bool) : Int :=
  if inv then (if b || gn then 30 else if !fit then 32 else if !nb then 33 else 0)
  else (if !b then 31 else if !ask then 32 else if !fit then 32 else if !nb then 33 else 0)
set_option maxHeartbeats 4000000 in
set_option maxRecDepth 100000 in
theorem wrong_walk {S S' : Nat → Prop} (w : World) (pb ob hb m : Nat) (A O X : List MOp) (ek : Int) (p T : Nat) (v tv ov : Value) (inv b gn ask fit nb : Bool)
    (hi : (ek == (1 : Int)) = inv) (hp : p < 100) (hfit : fitB (ek, (p : Int), O) = fit) (hnb : noteB A O = nb)
    (c1 : w.cell? ⟨pb, 1, none⟩ = some (.map (some ob))) (c2 : w.cell? ⟨pb, 102, none⟩ = some (.map (some hb))) (cg : w.cell? ⟨pb, 2 + p, none⟩ = some (.bool gn)) (c0 : w.cell? ⟨pb, 0, none⟩ = some tv)
    (hlk : ∀ V : World, V.heap[ob]? = w.heap[ob]? → (Instr.lookup 63 (.map (some ob)) (.int .i64 (p : Int)) true).run Tryd.prog V = .ok (.tuple #[.int .i64 (T : Int), .bool b]) V) (hobl : ob < w.heap.size)
    (hx : inv = false → b = true → ∃ g N c, tv = .slice (some ⟨g, 0, none⟩) N c ∧ T < N ∧ N ≤ 1000000 ∧ w.cell? ⟨g, T * 5 + 4, none⟩ = some ov ∧ OpsIn S' w ov X ∧ allEq askB X O = ask)
    (hv : OpsIn S w v O) (hS : ∀ b, S b → b ≠ hb) (ht : TH w hb m A) (hok : ∀ o ∈ O, okK o) (hks : ∀ o ∈ O, o.key.size ≤ maxLen) (hm : m + O.length < maxLen) :
    Calls Tryd.prog 44 #[.pointer (some ⟨pb, 0, none⟩), .agg #[.int .i64 ek, .int .i64 (p : Int), v]] w fun e w' => e = .returned (.int .i64 (wrR inv b gn ask fit nb)) ∧ ButB hb w w' ∧ (wrR inv b gn ask fit nb = 0 → TH w' hb (m + O.length) (A ++ O)) := by
  have hpi : (p : Int) < 100 := by omega
  have hpb : pb < w.heap.size := World.block_lt_of_cell? _ _ c1
  obtain ⟨W, hW⟩ : ∃ W, w.alloc (.cells #[.int .i64 ek, .int .i64 (p : Int), v] 42) = W := ⟨_, rfl⟩
  have BW1 : Hid (Below w.heap.size w W) := by rw [← hW]; exact below_box w _
  obtain ⟨xb, hxb⟩ : ∃ xb, w.heap.size = xb := ⟨_, rfl⟩
  have x0 : W.cell? ⟨xb, 0, none⟩ = some (.int .i64 ek) := by rw [← hW, ← hxb]; exact new_cells w _ 42 0
  have x1 : W.cell? ⟨xb, 1, none⟩ = some (.int .i64 (p : Int)) := by rw [← hW, ← hxb]; exact new_cells w _ 42 1
  have x2 : W.cell? ⟨xb, 2, none⟩ = some v := by rw [← hW, ← hxb]; exact new_cells w _ 42 2
  have k1 := cell_later BW1.out c1
  have k2 := cell_later BW1.out c2
  have kg := cell_later BW1.out cg
  have k0 := cell_later BW1.out c0
  have lk : ∀ n, (Instr.lookup 63 (.map (some ob)) (.int .i64 (p : Int)) true).run Tryd.prog (W.drewN n) = .ok (.tuple #[.int .i64 (T : Int), .bool b]) (W.drewN n) := fun n => hlk _ (BW1.out.block ob hobl)
  have FT : Hid (∀ V, Below W.heap.size W V → Calls Tryd.prog 54 #[.agg #[.int .i64 ek, .int .i64 (p : Int), v]] V fun e w' => e = .returned (.bool fit) ∧ Below W.heap.size W w') := fun V hV => by
    have q := fit_is ek (p : Int) v O V (hv.keep (S := S) (T := Any) (keeps_below (bstep hV BW1.out)) (fun _ _ _ => trivial))
    rw [hfit] at q
    exact q.mono fun e w' ⟨h1, h2⟩ => ⟨h1, bstep h2 hV⟩
  cases inv with
  | true =>
    cases b with
    | true =>
        go_enter Tryd.func44, Tryd.ntmps44
        go_wp2_with fail
        clear hW
        go_quiet (fail)
        go_wp2_with fail
        go_quiet (fail)
        go_wp2_with fail
        go_ret
        exact ⟨by cases gn <;> rfl, ButB.of_below (by repeat (first | exact BW1.out | refine below_drewN ?_ _)), fun c => by cases gn <;> simp [wrR] at c⟩
    | false =>
      cases gn with
      | true =>
        go_enter Tryd.func44, Tryd.ntmps44
        go_wp2_with fail
        clear hW
        go_quiet (fail)
        go_wp2_with fail
        go_quiet (fail)
        go_wp2_with fail
        go_ret
        exact ⟨rfl, ButB.of_below (by repeat (first | exact BW1.out | refine below_drewN ?_ _)), fun c => by simp [wrR] at c⟩
      | false =>
        go_enter Tryd.func44, Tryd.ntmps44
        go_wp2_with fail
        clear hW
        go_quiet (fail)
        go_wp2_with fail
        go_quiet (fail)
        go_wp2_with fail
        go_quiet (fail)
        cases fit with
        | false =>
          go_wp2_with (go_at_call 54; refine (FT.out _ (by repeat (first | exact Below.refl _ _ | refine below_drewN ?_ _))).mono ?_; rintro e w2 ⟨rfl, b2⟩; have B2W : Hid (Below W.heap.size W w2.drew) := below_drew b2; have B2 : Hid (Below w.heap.size w w2.drew) := below_drew (bstep b2 BW1.out); clear b2)
          go_ret
          exact ⟨rfl, ButB.of_below ⟨B2.out.os, B2.out.tape, B2.out.output, B2.out.size, B2.out.block⟩, fun c => by simp [wrR] at c⟩
        | true =>
          go_wp2_with (go_at_call 54; refine (FT.out _ (by repeat (first | exact Below.refl _ _ | refine below_drewN ?_ _))).mono ?_; rintro e w2 ⟨rfl, b2⟩; have B2W : Hid (Below W.heap.size W w2.drew) := below_drew b2; have B2 : Hid (Below w.heap.size w w2.drew) := below_drew (bstep b2 BW1.out); clear b2)
          have E2 : Hid (w2.drew.cell? ⟨pb, 102, none⟩ = some (.map (some hb))) := cell_later B2.out c2
          have EX : Hid (w2.drew.cell? ⟨xb, 2, none⟩ = some v) := cell_later B2W.out x2
          have NT : Hid (Calls Tryd.prog 55 #[.map (some hb), v] w2.drew fun e w' => e = .returned (.bool nb) ∧ ButB hb w2.drew w' ∧ (nb = true → TH w' hb (m + O.length) (A ++ O))) := by
            have q := note_is (S := fun b => S b ∧ b < w.heap.size) v A O w2.drew hb m (hv.keep (keeps_below B2.out) (fun b hb hs => ⟨hs, hb⟩)) (fun b hs => hS b hs.1) (ht.same (B2.out.block hb ht.lt)) hok hks hm
            unfold NotePost at q
            rw [hnb] at q
            exact q
          have B2B : Hid (∀ w', ButB hb w2.drew w' → ButB hb w w') := fun w' q => ButB.trans (ButB.of_below B2.out) q
          refine wp_region_gen Tryd.mixedOrders (by kernel_rfl) (fun val => { tmps := #[_, _, _, _, _, _, _, _, _, _, _, _, _, _, _, _, _, _, _, _, _, _, _, _, _, _, _, _, _, _, _, _, _, _, _, _, _, _, _, _, _, _, _, _, _, _, _, _, _, _, _, _, _, _, _, _, _, _, _, _, _, _, _, val 8, val 0, val 1, val 2, val 3, val 4, val 5, val 6, val 7], defers := [] }) (fun i => match i with | 0 => undef | 1 => undef | 2 => undef | 3 => undef | 4 => undef | 5 => undef | 6 => undef | 7 => undef | 8 => undef | _ => undef) rfl (fun L V => if L 6 = true then ButB hb w V ∧ (nb = true → TH V hb (m + O.length) (A ++ O)) else V = w2.drew) (fun L i y V => match i with | 0 => y = .pointer (some ⟨pb, 0, none⟩) | 1 => y = .pointer (some ⟨pb, 0, none⟩) | 2 => y = .pointer (some ⟨pb, 102, none⟩) | 3 => y = .map (some hb) | 4 => y = .pointer (some ⟨xb, 2, none⟩) | 5 => y = v | 6 => y = .bool nb | 7 => y = .bool (!nb) | 8 => y = .bool (!nb) | _ => True) rfl _ rfl ⟨?_, ?_, ?_, ?_, ?_, ?_, ?_, ?_, ?_, trivial⟩ ?_
          · refine gen_plain rfl (fun _ _ => rfl) (fun L val V hc hi hu hg hd => ?_)
            refine gdoes_value (v := .pointer (some ⟨pb, 0, none⟩)) ?_ rfl hg (fun j u hj hr => hr)
            simp [execOp, Act.eval, go_sem]
          · refine gen_plain rfl (fun _ _ => rfl) (fun L val V hc hi hu hg hd => ?_)
            have h0 : val 0 = .pointer (some ⟨pb, 0, none⟩) := depsG_get hd 0 (by kernel_rfl)
            refine gdoes_value (v := .pointer (some ⟨pb, 0, none⟩)) ?_ rfl hg (fun j u hj hr => hr)
            simp [execOp, Act.eval, go_sem, h0]
          · refine gen_plain rfl (fun _ _ => rfl) (fun L val V hc hi hu hg hd => ?_)
            have h1 : val 1 = .pointer (some ⟨pb, 0, none⟩) := depsG_get hd 1 (by kernel_rfl)
            refine gdoes_value (v := .pointer (some ⟨pb, 102, none⟩)) ?_ rfl hg (fun j u hj hr => hr)
            simp [execOp, Act.eval, go_sem, h1]
          · refine gen_plain rfl (fun _ _ => rfl) (fun L val V hc hi hu hg hd => ?_)
            have h2 : val 2 = .pointer (some ⟨pb, 102, none⟩) := depsG_get hd 2 (by kernel_rfl)
            have hV : V = w2.drew := by have q : L 6 = false := wants_back hc 9 6 3 (by kernel_rfl) hi; simpa [q] using hg
            have e2 : V.cell? ⟨pb, 102, none⟩ = some (.map (some hb)) := by rw [hV]; exact E2.out
            refine gdoes_value (v := .map (some hb)) ?_ rfl hg (fun j u hj hr => hr)
            simp [execOp, Act.eval, go_sem, h2, e2]
          · refine gen_plain rfl (fun _ _ => rfl) (fun L val V hc hi hu hg hd => ?_)
            refine gdoes_value (v := .pointer (some ⟨xb, 2, none⟩)) ?_ rfl hg (fun j u hj hr => hr)
            simp [execOp, Act.eval, go_sem]
          · refine gen_plain rfl (fun _ _ => rfl) (fun L val V hc hi hu hg hd => ?_)
            have h4 : val 4 = .pointer (some ⟨xb, 2, none⟩) := depsG_get hd 4 (by kernel_rfl)
            have hV : V = w2.drew := by have q : L 6 = false := wants_back hc 9 6 5 (by kernel_rfl) hi; simpa [q] using hg
            have e2 : V.cell? ⟨xb, 2, none⟩ = some v := by rw [hV]; exact EX.out
            refine gdoes_value (v := v) ?_ rfl hg (fun j u hj hr => hr)
            simp [execOp, Act.eval, go_sem, h4, e2]
          · refine gen_plain rfl (fun _ _ => rfl) (fun L val V hc hi hu hg hd => ?_)
            have h3 : val 3 = .map (some hb) := depsG_get hd 3 (by kernel_rfl)
            have h5 : val 5 = v := depsG_get hd 5 (by kernel_rfl)
            have hV : V = w2.drew := by simpa [hi] using hg
            refine gdoes_call (f := 55) (args := #[.map (some hb), v]) ?_ (by rw [hV]; exact NT.out) ?_
            · simp [execOp, Act.eval, go_sem, resolve, invoke, h3, h5]
            · rintro e w' ⟨q1, q2, q3⟩
              exact ⟨_, q1, rfl, (by rw [if_pos (upB_self L 6)]; exact ⟨B2B.out _ q2, q3⟩), fun j u hj hr => hr⟩
          · refine gen_plain rfl (fun _ _ => rfl) (fun L val V hc hi hu hg hd => ?_)
            have h6 : val 6 = .bool nb := depsG_get hd 6 (by kernel_rfl)
            refine gdoes_value (v := .bool (!nb)) ?_ rfl hg (fun j u hj hr => hr)
            simp [execOp, Act.eval, go_sem, h6]
          · refine gen_plain rfl (fun _ _ => rfl) (fun L val V hc hi hu hg hd => ?_)
            have h7 : val 7 = .bool (!nb) := depsG_get hd 7 (by kernel_rfl)
            refine gdoes_value (v := .bool (!nb)) ?_ rfl hg (fun j u hj hr => hr)
            simp [execOp, Act.eval, go_sem, h7]
          intro L val V hL hg hR
          have h8 : val 8 = .bool (!nb) := hR 8 (by decide)
          rw [if_pos (hL 6 (by decide))] at hg
          have HG := hid hg
          clear hg hR hL
          obtain ⟨v8, hv8⟩ : ∃ v8, val 8 = v8 := ⟨_, rfl⟩
          rw [h8] at hv8
          simp only [h8]
          cases nb with
          | true =>
            go_wp2_with fail
            go_ret
            exact ⟨rfl, HG.out.1, fun _ => HG.out.2 (by trivial)⟩
          | false =>
            go_wp2_with fail
            go_ret
            exact ⟨rfl, HG.out.1, fun c => by simp [wrR] at c⟩
  | false =>
    cases b with
    | false =>
        go_enter Tryd.func44, Tryd.ntmps44
        go_wp2_with fail
        clear hW
        go_quiet (fail)
        go_wp2_with fail
        go_quiet (fail)
        go_wp2_with fail
        go_ret
        exact ⟨rfl, ButB.of_below (by repeat (first | exact BW1.out | refine below_drewN ?_ _)), fun c => by simp [wrR] at c⟩
    | true =>
        obtain ⟨g, N, c, rfl, hT, hN, cx, hX, hask⟩ := hx rfl rfl
        have hTi : (T : Int) < (N : Int) := by omega
        go_enter Tryd.func44, Tryd.ntmps44
        go_wp2_with fail
        clear hW
        go_quiet (fail)
        rename Nat => n1
        go_wp2_with fail
        go_quiet (fail)
        rename Nat => n2
        go_wp2_with fail
        generalize hV3 : W.drewN (n1 + n2) = V3
        have BV3 : Hid (Below W.heap.size W V3) := by rw [← hV3]; exact (by repeat (first | exact Below.refl _ _ | refine below_drewN ?_ _))
        have BV3w := hid (bstep BV3.out BW1.out)
        have v0 := bcell (cell_later BV3.out k0)
        have v1 := bcell (cell_later BV3.out x2)
        have v2 := bcell (cell_later BV3w.out cx)
        have ST : Hid (∀ p : BW V3, Calls Tryd.prog 36 #[ov, v, .func (.func 53) #[] #[]] p.val fun e w'' => e = .returned (.bool ask) ∧ ∃ p' : BW V3, w'' = p'.val) := fun p => by
          have q := asks_any ov v X O p.val (hX.keep (T := Any) (keeps_below (bstep p.2 BV3w.out)) (fun _ _ _ => trivial)) (hv.keep (T := Any) (keeps_below (bstep p.2 BV3w.out)) (fun _ _ _ => trivial))
          rw [hask] at q
          exact q.mono fun e w' ⟨h1, h2⟩ => ⟨h1, ⟨w', bstep h2 p.2⟩, rfl⟩
        have bwS : Nonempty (BW V3) := bwSome V3
        clear hV3
        refine wp_region_quiet_below Tryd.mixedOrders (by kernel_rfl) ?_
        repeat (go_big_quiet_step ((go_at_call 36; exact ST.out _)))
        refine wpQuiet_nil ?_
        intro w7 hw7
        obtain ⟨⟨V7, hb7⟩, hw8⟩ := hw7
        have hw9 : w7 = V7 := hw8
        subst hw9
        clear hw8 v0 v1 v2 ST bwS
        have BV7 := hid (bstep hb7 BV3.out)
        have y0 := cell_later BV7.out x0
        have y1 := cell_later BV7.out x1
        have y2 := cell_later BV7.out x2
        clear hb7
        cases ask with
        | false =>
          go_wp2_with fail
          go_ret
          exact ⟨rfl, ButB.of_below (bstep BV7.out BW1.out), fun c => by simp [wrR] at c⟩
        | true =>
          cases fit with
          | false =>
            go_wp2_with (go_at_call 54; refine (FT.out _ (BV7.out)).mono ?_; rintro e w2 ⟨rfl, b2⟩; have B2W : Hid (Below W.heap.size W w2.drew) := below_drew b2; have B2 : Hid (Below w.heap.size w w2.drew) := below_drew (bstep b2 BW1.out); clear b2)
            go_ret
            exact ⟨rfl, ButB.of_below ⟨B2.out.os, B2.out.tape, B2.out.output, B2.out.size, B2.out.block⟩, fun c => by simp [wrR] at c⟩
          | true =>
            go_wp2_with (go_at_call 54; refine (FT.out _ (BV7.out)).mono ?_; rintro e w2 ⟨rfl, b2⟩; have B2W : Hid (Below W.heap.size W w2.drew) := below_drew b2; have B2 : Hid (Below w.heap.size w w2.drew) := below_drew (bstep b2 BW1.out); clear b2)
            have E2 : Hid (w2.drew.cell? ⟨pb, 102, none⟩ = some (.map (some hb))) := cell_later B2.out c2
            have EX : Hid (w2.drew.cell? ⟨xb, 2, none⟩ = some v) := cell_later B2W.out x2
            have NT : Hid (Calls Tryd.prog 55 #[.map (some hb), v] w2.drew fun e w' => e = .returned (.bool nb) ∧ ButB hb w2.drew w' ∧ (nb = true → TH w' hb (m + O.length) (A ++ O))) := by
              have q := note_is (S := fun b => S b ∧ b < w.heap.size) v A O w2.drew hb m (hv.keep (keeps_below B2.out) (fun b hb hs => ⟨hs, hb⟩)) (fun b hs => hS b hs.1) (ht.same (B2.out.block hb ht.lt)) hok hks hm
              unfold NotePost at q
              rw [hnb] at q
              exact q
            have B2B : Hid (∀ w', ButB hb w2.drew w' → ButB hb w w') := fun w' q => ButB.trans (ButB.of_below B2.out) q
            refine wp_region_gen Tryd.mixedOrders (by kernel_rfl) (fun val => { tmps := #[_, _, _, _, _, _, _, _, _, _, _, _, _, _, _, _, _, _, _, _, _, _, _, _, _, _, _, _, _, _, _, _, _, _, _, _, _, _, _, _, _, _, _, _, _, _, _, _, _, _, _, _, _, _, _, _, _, _, _, _, _, _, _, val 8, val 0, val 1, val 2, val 3, val 4, val 5, val 6, val 7], defers := [] }) (fun i => match i with | 0 => undef | 1 => undef | 2 => undef | 3 => undef | 4 => undef | 5 => undef | 6 => undef | 7 => undef | 8 => undef | _ => undef) rfl (fun L V => if L 6 = true then ButB hb w V ∧ (nb = true → TH V hb (m + O.length) (A ++ O)) else V = w2.drew) (fun L i y V => match i with | 0 => y = .pointer (some ⟨pb, 0, none⟩) | 1 => y = .pointer (some ⟨pb, 0, none⟩) | 2 => y = .pointer (some ⟨pb, 102, none⟩) | 3 => y = .map (some hb) | 4 => y = .pointer (some ⟨xb, 2, none⟩) | 5 => y = v | 6 => y = .bool nb | 7 => y = .bool (!nb) | 8 => y = .bool (!nb) | _ => True) rfl _ rfl ⟨?_, ?_, ?_, ?_, ?_, ?_, ?_, ?_, ?_, trivial⟩ ?_
            · refine gen_plain rfl (fun _ _ => rfl) (fun L val V hc hi hu hg hd => ?_)
              refine gdoes_value (v := .pointer (some ⟨pb, 0, none⟩)) ?_ rfl hg (fun j u hj hr => hr)
              simp [execOp, Act.eval, go_sem]
            · refine gen_plain rfl (fun _ _ => rfl) (fun L val V hc hi hu hg hd => ?_)
              have h0 : val 0 = .pointer (some ⟨pb, 0, none⟩) := depsG_get hd 0 (by kernel_rfl)
              refine gdoes_value (v := .pointer (some ⟨pb, 0, none⟩)) ?_ rfl hg (fun j u hj hr => hr)
              simp [execOp, Act.eval, go_sem, h0]
            · refine gen_plain rfl (fun _ _ => rfl) (fun L val V hc hi hu hg hd => ?_)
              have h1 : val 1 = .pointer (some ⟨pb, 0, none⟩) := depsG_get hd 1 (by kernel_rfl)
              refine gdoes_value (v := .pointer (some ⟨pb, 102, none⟩)) ?_ rfl hg (fun j u hj hr => hr)
              simp [execOp, Act.eval, go_sem, h1]
            · refine gen_plain rfl (fun _ _ => rfl) (fun L val V hc hi hu hg hd => ?_)
              have h2 : val 2 = .pointer (some ⟨pb, 102, none⟩) := depsG_get hd 2 (by kernel_rfl)
              have hV : V = w2.drew := by have q : L 6 = false := wants_back hc 9 6 3 (by kernel_rfl) hi; simpa [q] using hg
              have e2 : V.cell? ⟨pb, 102, none⟩ = some (.map (some hb)) := by rw [hV]; exact E2.out
              refine gdoes_value (v := .map (some hb)) ?_ rfl hg (fun j u hj hr => hr)
              simp [execOp, Act.eval, go_sem, h2, e2]
            · refine gen_plain rfl (fun _ _ => rfl) (fun L val V hc hi hu hg hd => ?_)
              refine gdoes_value (v := .pointer (some ⟨xb, 2, none⟩)) ?_ rfl hg (fun j u hj hr => hr)
              simp [execOp, Act.eval, go_sem]
            · refine gen_plain rfl (fun _ _ => rfl) (fun L val V hc hi hu hg hd => ?_)
              have h4 : val 4 = .pointer (some ⟨xb, 2, none⟩) := depsG_get hd 4 (by kernel_rfl)
              have hV : V = w2.drew := by have q : L 6 = false := wants_back hc 9 6 5 (by kernel_rfl) hi; simpa [q] using hg
              have e2 : V.cell? ⟨xb, 2, none⟩ = some v := by rw [hV]; exact EX.out
              refine gdoes_value (v := v) ?_ rfl hg (fun j u hj hr => hr)
              simp [execOp, Act.eval, go_sem, h4, e2]
            · refine gen_plain rfl (fun _ _ => rfl) (fun L val V hc hi hu hg hd => ?_)
              have h3 : val 3 = .map (some hb) := depsG_get hd 3 (by kernel_rfl)
              have h5 : val 5 = v := depsG_get hd 5 (by kernel_rfl)
              have hV : V = w2.drew := by simpa [hi] using hg
              refine gdoes_call (f := 55) (args := #[.map (some hb), v]) ?_ (by rw [hV]; exact NT.out) ?_
              · simp [execOp, Act.eval, go_sem, resolve, invoke, h3, h5]
              · rintro e w' ⟨q1, q2, q3⟩
                exact ⟨_, q1, rfl, (by rw [if_pos (upB_self L 6)]; exact ⟨B2B.out _ q2, q3⟩), fun j u hj hr => hr⟩
            · refine gen_plain rfl (fun _ _ => rfl) (fun L val V hc hi hu hg hd => ?_)
              have h6 : val 6 = .bool nb := depsG_get hd 6 (by kernel_rfl)
              refine gdoes_value (v := .bool (!nb)) ?_ rfl hg (fun j u hj hr => hr)
              simp [execOp, Act.eval, go_sem, h6]
            · refine gen_plain rfl (fun _ _ => rfl) (fun L val V hc hi hu hg hd => ?_)
              have h7 : val 7 = .bool (!nb) := depsG_get hd 7 (by kernel_rfl)
              refine gdoes_value (v := .bool (!nb)) ?_ rfl hg (fun j u hj hr => hr)
              simp [execOp, Act.eval, go_sem, h7]
            intro L val V hL hg hR
            have h8 : val 8 = .bool (!nb) := hR 8 (by decide)
            rw [if_pos (hL 6 (by decide))] at hg
            have HG := hid hg
            clear hg hR hL
            obtain ⟨v8, hv8⟩ : ∃ v8, val 8 = v8 := ⟨_, rfl⟩
            rw [h8] at hv8
            simp only [h8]
            cases nb with
            | true =>
              go_wp2_with fail
              go_ret
              exact ⟨rfl, HG.out.1, fun _ => HG.out.2 (by trivial)⟩
            | false =>
              go_wp2_with fail
              go_ret
              exact ⟨rfl, HG.out.1, fun c => by simp [wrR] at c⟩
end Go.Proofs.YtjobdfgcgnpppaaDoor
