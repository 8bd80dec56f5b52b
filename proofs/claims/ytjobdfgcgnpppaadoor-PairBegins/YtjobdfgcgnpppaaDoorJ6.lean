/-
  A region that draws its order, by a statement on what has been done: any operation may turn the world.
  Drawn regions over the worlds behind a world.
  The document's isList and filled; assayerplain's Why and Is.
  The document's Mixed.
  The document's filled.
  The document's completes.
-/
import Derived.Test.YtjobdfgcgnpppaaDoorJ5
import Derived.BigQuiet
import Derived.Shelf.SlSortCmp.QuietGrown
import Derived.OwnWalk
namespace Go.Proofs.YtjobdfgcgnpppaaDoor
set_option linter.unusedVariables false
set_option linter.unusedSimpArgs false
open Go.RowKit

/-- One more is done. -/
def upB (L : Nat → Bool) (i : Nat) : Nat → Bool := fun j => if j = i then true else L j
theorem upB_self (L : Nat → Bool) (i : Nat) : upB L i i = true := by simp [upB]
theorem upB_ne (L : Nat → Bool) (i j : Nat) (h : j ≠ i) : upB L i j = L j := by simp [upB, h]
/-- What is done, its sources are. -/
def CloB (ops : Array Oper) (L : Nat → Bool) : Prop := ∀ j o, ops[j]? = some o → L j = true → ∀ e ∈ o.after, Region.binds .any e = true → L e.on = true
/-- Operation j wants operation i, straight or by way of others. -/
def wantsB (ops : Array Oper) : Nat → Nat → Nat → Bool
  | 0, _, _ => false
  | f + 1, j, i => match ops[j]? with
    | none => false
    | some o => o.after.any fun e => Region.binds .any e && (e.on == i || wantsB ops f e.on i)
theorem wants_done {ops : Array Oper} {L : Nat → Bool} (hc : CloB ops L) : ∀ (f j i : Nat), wantsB ops f j i = true → L j = true → L i = true
  | 0, _, _, h, _ => by cases h
  | f + 1, j, i, h, hj => by
    unfold wantsB at h
    cases ho : ops[j]? with
    | none => rw [ho] at h; cases h
    | some o =>
      rw [ho] at h
      simp only at h
      rw [← Array.any_toList, List.any_eq_true] at h
      obtain ⟨e, he, h4⟩ := h
      rw [Bool.and_eq_true, Bool.or_eq_true, beq_iff_eq] at h4
      have hl := hc j o ho hj e (by simpa using he) h4.1
      rcases h4.2 with c | c
      · rw [← c]; exact hl
      · exact wants_done hc f e.on i c hl
/-- One that is not done keeps those back that want it. -/
theorem wants_back {ops : Array Oper} {L : Nat → Bool} (hc : CloB ops L) (f j i : Nat) (h : wantsB ops f j i = true) (hi : L i = false) : L j = false := by
  cases hj : L j with
  | false => rfl
  | true => rw [wants_done hc f j i h hj] at hi; cases hi
/-- What is known of those that an operation waits for. -/
def depsG (L : Nat → Bool) (R : (Nat → Bool) → Nat → Value → World → Prop) (val : Nat → Value) (w : World) : List Edge → Prop
  | [] => True
  | e :: l => (Region.binds .any e = true → L e.on = true ∧ R L e.on (val e.on) w) ∧ depsG L R val w l
theorem depsG_of {L : Nat → Bool} {R : (Nat → Bool) → Nat → Value → World → Prop} {val : Nat → Value} {w : World} : ∀ (l : List Edge), (∀ e ∈ l, Region.binds .any e = true → L e.on = true ∧ R L e.on (val e.on) w) → depsG L R val w l
  | [], _ => trivial
  | e :: l, h => ⟨h e (by simp), depsG_of l (fun x hx => h x (by simp [hx]))⟩
theorem depsG_get {L : Nat → Bool} {R : (Nat → Bool) → Nat → Value → World → Prop} {val : Nat → Value} {w : World} : ∀ {l : List Edge}, depsG L R val w l → ∀ j, (l.any fun e => Region.binds .any e && e.on == j) = true → R L j (val j) w
  | [], _, j, h => by cases h
  | e :: l, hd, j, h => by
    simp only [List.any_cons, Bool.or_eq_true, Bool.and_eq_true, beq_iff_eq] at h
    rcases h with ⟨hb, rfl⟩ | h
    · exact (hd.1 hb).2
    · exact depsG_get hd.2 j (by simpa using h)
theorem depsG_on {L : Nat → Bool} {R : (Nat → Bool) → Nat → Value → World → Prop} {val : Nat → Value} {w : World} : ∀ {l : List Edge}, depsG L R val w l → ∀ j, (l.any fun e => Region.binds .any e && e.on == j) = true → L j = true
  | [], _, j, h => by cases h
  | e :: l, hd, j, h => by
    simp only [List.any_cons, Bool.or_eq_true, Bool.and_eq_true, beq_iff_eq] at h
    rcases h with ⟨hb, rfl⟩ | h
    · exact (hd.1 hb).1
    · exact depsG_on hd.2 j (by simpa using h)
/-- What is asked of one operation. -/
def OpGen (P : Program) (ops : Array Oper) (Q : Exit → Act → World → Prop) (frame : (Nat → Value) → Act) (val0 : Nat → Value) (G : (Nat → Bool) → World → Prop) (R : (Nat → Bool) → Nat → Value → World → Prop) (i : Nat) (o : Oper) : Prop :=
  ∀ L val w, CloB ops L → L i = false → (∀ j, L j = false → val j = val0 j) → G L w → depsG L R val w o.after.toList →
      if Region.wanted o (yielded ops (frame val).tmps) then o.wp P (frame val) w (fun a' w' => ∃ v, a' = frame (upV val i v) ∧ R (upB L i) i v w' ∧ G (upB L i) w' ∧ ∀ j u, L j = true → R L j u w → R (upB L i) j u w') Q
      else (frame val).put o.dst undef = frame (upV val i undef) ∧ R (upB L i) i undef w ∧ G (upB L i) w ∧ ∀ j u, L j = true → R L j u w → R (upB L i) j u w
theorem wp_region_gen {P : Program} {ops : Array Oper} {Q : Exit → Act → World → Prop} {id : Nat} {a0 : Act} {w0 : World} (hm : P.follows .mixedOrders = true) (hah : aheadB ops = true)
    (frame : (Nat → Value) → Act) (val0 : Nat → Value) (h0 : a0 = frame val0) (G : (Nat → Bool) → World → Prop) (R : (Nat → Bool) → Nat → Value → World → Prop)
    (hG0 : G (fun _ => false) w0.drew) (l : List Oper) (hl : ops.toList = l) (hop : allOps (OpGen P ops Q frame val0 G R) 0 l)
    (hend : ∀ L val w, (∀ i, i < ops.size → L i = true) → G L w → (∀ i, i < ops.size → R L i (val i) w) → Q .normal (frame val) w) : (Code.region id ops true).wp P Q a0 w0 := by
  refine wp_region_any hm ?_
  refine wpAny_inv (fun listed a w => listed.size = ops.size ∧ CloB ops (fun i => listed.getD i false) ∧ ∃ val, a = frame val ∧ (∀ j, listed.getD j false = false → val j = val0 j) ∧ G (fun i => listed.getD i false) w ∧ ∀ i, i < ops.size → listed.getD i false = true → R (fun i => listed.getD i false) i (val i) w) ?_ ?_ _ _ _ _ ?_ ?_
  · rintro listed a w ⟨hs, hclo, val, rfl, hv, hG, hR⟩ i hi
    rw [mem_ready] at hi
    obtain ⟨h1, o, ho, h2⟩ := hi
    have hio : i < ops.size := (Array.getElem?_eq_some_iff.1 ho).1
    have hil : i < listed.size := by omega
    have hif : listed.getD i false = false := by
      rw [Array.getD_eq_getD_getElem?, Array.getElem?_eq_getElem hil] at h1 ⊢
      exact h1
    have eL : (fun j => (listed.setIfInBounds i true).getD j false) = upB (fun j => listed.getD j false) i := by
      funext j
      by_cases e : j = i
      · subst e
        rw [upB_self, Array.getD_eq_getD_getElem?, Array.getElem?_setIfInBounds_self_of_lt hil]
        rfl
      · rw [upB_ne _ _ _ e, getD_set_ne false (fun c => e c.symm)]
    have hclo2 : CloB ops (upB (fun j => listed.getD j false) i) := by
      intro j oj hoj hj e he hb
      by_cases ej : j = i
      · subst ej
        rw [ho] at hoj
        injection hoj with hoj
        subst hoj
        by_cases ee : e.on = j
        · rw [ee]; exact upB_self _ _
        · rw [upB_ne _ _ _ ee]; exact h2 e he hb
      · rw [upB_ne _ _ _ ej] at hj
        by_cases ee : e.on = i
        · rw [ee]; exact upB_self _ _
        · rw [upB_ne _ _ _ ee]; exact hclo j oj hoj hj e he hb
    have key : ∀ v w', R (upB (fun j => listed.getD j false) i) i v w' → G (upB (fun j => listed.getD j false) i) w' → (∀ j u, listed.getD j false = true → R (fun j => listed.getD j false) j u w → R (upB (fun j => listed.getD j false) i) j u w') →
        ((listed.setIfInBounds i true).size = ops.size ∧ CloB ops (fun j => (listed.setIfInBounds i true).getD j false) ∧ ∃ val', frame (upV val i v) = frame val' ∧ (∀ j, (listed.setIfInBounds i true).getD j false = false → val' j = val0 j) ∧ G (fun j => (listed.setIfInBounds i true).getD j false) w' ∧ ∀ j, j < ops.size → (listed.setIfInBounds i true).getD j false = true → R (fun j => (listed.setIfInBounds i true).getD j false) j (val' j) w') := fun v w' q1 q2 q3 => by
      have eL' : ∀ j, (listed.setIfInBounds i true).getD j false = upB (fun j => listed.getD j false) i j := fun j => congrFun eL j
      rw [eL]
      refine ⟨by simpa using hs, hclo2, upV val i v, rfl, fun j hj => ?_, q2, fun j hj hl2 => ?_⟩
      · rw [eL'] at hj
        by_cases e : j = i
        · subst e; rw [upB_self] at hj; cases hj
        · rw [upB_ne _ _ _ e] at hj
          rw [upV_ne _ _ _ _ e]
          exact hv j hj
      · rw [eL'] at hl2
        by_cases e : j = i
        · subst e
          rw [upV_self]
          exact q1
        · rw [upB_ne _ _ _ e] at hl2
          rw [upV_ne _ _ _ _ e]
          exact q3 j _ hl2 (hR j hj hl2)
    have hk := allOps_at l 0 i o hop (by rw [← hl]; simpa using ho)
    rw [Nat.zero_add] at hk
    have hk2 := hk (fun j => listed.getD j false) val w hclo hif hv hG (depsG_of _ (fun e he hb => by
      have hea : e ∈ o.after := by simpa using he
      have hlt := ahead_of hah ho e hea hb
      exact ⟨h2 e hea hb, hR e.on (by omega) (h2 e hea hb)⟩))
    unfold wpOp
    rw [ho]
    simp only
    by_cases hw : Region.wanted o (yielded ops (frame val).tmps) = true
    · rw [if_pos hw] at hk2 ⊢
      exact .inl (Oper.wp_mono (fun a' w' ⟨v, e, q1, q2, q3⟩ => by rw [e]; exact key v w' q1 q2 q3) hk2)
    · rw [if_neg hw] at hk2 ⊢
      rw [hk2.1]
      exact key undef w hk2.2.1 hk2.2.2.1 hk2.2.2.2
  · rintro listed a w ⟨hs, hclo, val, rfl, hv, hG, hR⟩ hr
    have hall := all_listed hah hs hr
    exact hend _ val w hall hG (fun i hi => hR i hi (hall i hi))
  · unfold leftN
    exact Nat.le_trans (List.length_filter_le _ _) (by simp)
  · have e : ∀ j, (Array.replicate ops.size false).getD j false = false := fun j => by
      rw [Array.getD_eq_getD_getElem?, Array.getElem?_replicate]
      split <;> rfl
    have eF : (fun j => (Array.replicate ops.size false).getD j false) = fun _ => false := funext e
    refine ⟨by simp, fun j o ho hj => ?_, val0, h0, fun _ _ => rfl, ?_, fun i hi hl2 => ?_⟩
    · simp only [e] at hj
      cases hj
    · rw [eF]; exact hG0
    · rw [e] at hl2
      cases hl2
section
variable {P : Program} {ops : Array Oper} {Q : Exit → Act → World → Prop} {frame : (Nat → Value) → Act} {val0 : Nat → Value} {G : (Nat → Bool) → World → Prop} {R : (Nat → Bool) → Nat → Value → World → Prop} {i : Nat} {o : Oper}
/-- What an operation must come to. -/
def GDoes (P : Program) (Q : Exit → Act → World → Prop) (G : (Nat → Bool) → World → Prop) (R : (Nat → Bool) → Nat → Value → World → Prop) (L : Nat → Bool) (i : Nat) (o : Oper) (A : Act) (w : World) : Prop :=
  ∀ K : Act → World → Prop, (∀ v w', R (upB L i) i v w' → G (upB L i) w' → (∀ j u, L j = true → R L j u w → R (upB L i) j u w') → K (A.put o.dst v) w') → o.wp P A w K Q
theorem gen_plain (hg : o.guard = none) (hput : ∀ val v, (frame val).put o.dst v = frame (upV val i v)) (h : ∀ L val w, CloB ops L → L i = false → (∀ j, L j = false → val j = val0 j) → G L w → depsG L R val w o.after.toList → GDoes P Q G R L i o (frame val) w) : OpGen P ops Q frame val0 G R i o := by
  intro L val w h1 h2 h3 h4 h5
  rw [if_pos (by simp [Region.wanted, hg])]
  exact h L val w h1 h2 h3 h4 h5 _ (fun v w' q1 q2 q3 => ⟨v, hput val v, q1, q2, q3⟩)
theorem gen_yes (j : Nat) (b : Bool) (hg : o.guard = some (j, b)) (hput : ∀ val v, (frame val).put o.dst v = frame (upV val i v)) (hy : ∀ L val w, depsG L R val w o.after.toList → yielded ops (frame val).tmps j = some b) (h : ∀ L val w, CloB ops L → L i = false → (∀ j, L j = false → val j = val0 j) → G L w → depsG L R val w o.after.toList → GDoes P Q G R L i o (frame val) w) : OpGen P ops Q frame val0 G R i o := by
  intro L val w h1 h2 h3 h4 h5
  rw [if_pos (by simp [Region.wanted, hg, hy L val w h5])]
  exact h L val w h1 h2 h3 h4 h5 _ (fun v w' q1 q2 q3 => ⟨v, hput val v, q1, q2, q3⟩)
/-- One that yields a value and leaves the world. -/
theorem gdoes_value {L : Nat → Bool} {A : Act} {w : World} {v : Value} (h : (execOp A.eval o).run P w = .ok (.value v) w) (hR : R (upB L i) i v w) (hG : G (upB L i) w) (hp : ∀ j u, L j = true → R L j u w → R (upB L i) j u w) : GDoes P Q G R L i o A w := by
  intro K hK
  unfold Oper.wp
  rw [h]
  exact hK v w hR hG hp
/-- One that yields a value in another world. -/
theorem gdoes_turn {L : Nat → Bool} {A : Act} {w w' : World} {v : Value} (h : (execOp A.eval o).run P w = .ok (.value v) w') (hR : R (upB L i) i v w') (hG : G (upB L i) w') (hp : ∀ j u, L j = true → R L j u w → R (upB L i) j u w') : GDoes P Q G R L i o A w := by
  intro K hK
  unfold Oper.wp
  rw [h]
  exact hK v w' hR hG hp
theorem gdoes_skip {L : Nat → Bool} {A : Act} {w w' : World} (h : (execOp A.eval o).run P w = .ok .skip w') (hR : R (upB L i) i undef w') (hG : G (upB L i) w') (hp : ∀ j u, L j = true → R L j u w → R (upB L i) j u w') : GDoes P Q G R L i o A w := by
  intro K hK
  unfold Oper.wp
  rw [h]
  exact hK undef w' hR hG hp
/-- A call. -/
theorem gdoes_call {L : Nat → Bool} {A : Act} {w : World} {f : FuncId} {args : Array Value} {C : Ending → World → Prop} (h : (execOp A.eval o).run P w = .ok (.enter f args) w) (hc : Calls P f args w C) (hR : ∀ e w', C e w' → ∃ v, e = .returned v ∧ R (upB L i) i v w' ∧ G (upB L i) w' ∧ ∀ j u, L j = true → R L j u w → R (upB L i) j u w') : GDoes P Q G R L i o A w := by
  intro K hK
  unfold Oper.wp
  rw [h]
  refine Calls.mono hc (fun e w' he => ?_)
  obtain ⟨v, rfl, q1, q2, q3⟩ := hR e w' he
  exact hK v w' q1 q2 q3
end
end Go.Proofs.YtjobdfgcgnpppaaDoor
namespace Go.Proofs.YtjobdfgcgnpppaaDoor
set_option linter.unusedVariables false
set_option linter.unusedSimpArgs false
open Go.RowKit Go.Lib Go.Maps

theorem Tryd.mixedOrders : Tryd.prog.follows .mixedOrders = true := by kernel_rfl
/-- The worlds behind w in which nothing of it has changed. -/
def BW (w : World) : Type := {W : World // Below w.heap.size w W}
theorem bwSome (w : World) : Nonempty (BW w) := ⟨⟨w, Below.refl _ _⟩⟩
theorem wp_region_quiet_below {P : Program} {id : Nat} {Q : Exit → Act → World → Prop} {a : Act} {w : World} {l : List Oper} (hm : P.follows .mixedOrders = true) (hB : Region.lexB .any l.toArray = true)
    (h : wpQuiet P l.toArray (fun w' => ∃ p : BW w, w' = p.val) (fun a' => ∀ w', (∃ p : BW w, w' = p.val) → Q .normal a' w') l a) : (Code.region id l.toArray true).wp P Q a w :=
  wp_region_quiet (C := fun w' => ∃ p : BW w, w' = p.val) hm hB ⟨⟨{ w with drawn := w.drawn + 1 }, ⟨rfl, rfl, rfl, Nat.le_refl _, fun _ _ => rfl⟩⟩, rfl⟩ (by simpa using h)
theorem cell_later {w w' : World} {a : Addr} {v : Value} (hb : Below w.heap.size w w') (h : w.cell? a = some v) : w'.cell? a = some v := (hb.cell (p := a) (World.block_lt_of_cell? _ _ h)).trans h
theorem bcell {w : World} {a : Addr} {v : Value} (h : w.cell? a = some v) : ∀ p : BW w, p.val.cell? a = some v := fun p => cell_later p.2 h
theorem below_drew {B : Nat} {w W : World} (h : Below B w W) : Below B w W.drew := ⟨h.os, h.tape, h.output, h.size, h.block⟩
theorem bstep {w W W' : World} (k : Below W.heap.size W W') (h : Below w.heap.size w W) : Below w.heap.size w W' := h.trans (k.mono h.size)
end Go.Proofs.YtjobdfgcgnpppaaDoor
namespace Go.Proofs.YtjobdfgcgnpppaaDoor
set_option linter.unusedVariables false
set_option linter.unusedSimpArgs false
open Go.RowKit

theorem why_nil (w : World) : Calls Tryd.prog 22 #[.nilIface] w fun e w' => e = .returned (.tuple #[.int .i64 0, .int .i64 0]) ∧ w' = w := by
  go_enter Tryd.func22, Tryd.ntmps22
  go_wp2
  go_ret2
  exact ⟨rfl, rfl⟩
theorem assertFault (a y : Int) (w : World) : (Instr.typeAssert (.iface 62 (.agg #[.int .i64 a, .int .i64 y])) 25 62 true).run Tryd.prog w = .ok (.tuple #[.agg #[.int .i64 a, .int .i64 y], .bool true]) w := by kernel_rfl
set_option maxHeartbeats 2000000 in
set_option maxRecDepth 100000 in
theorem why_fault (x y : Int) (w : World) : Calls Tryd.prog 22 #[.iface 62 (.agg #[.int .i64 x, .int .i64 y])] w fun e w' => e = .returned (.tuple #[.int .i64 y, .int .i64 x]) ∧ Below w.heap.size w w' := by
  have hta := assertFault x y
  have p0 := new_cells w #[.int .i64 x, .int .i64 y] 62 0
  have p1 := new_cells w #[.int .i64 x, .int .i64 y] 62 1
  have B1 : Hid (Below w.heap.size w (w.alloc (.cells #[.int .i64 x, .int .i64 y] 62))) := (Below.refl _ w).alloc (Nat.le_refl _) _
  simp only [List.getElem?_toArray, List.getElem?_cons_zero, List.getElem?_cons_succ] at p0 p1
  go_enter Tryd.func22, Tryd.ntmps22
  go_wp2_with fail
  go_quiet (fail)
  go_wp2_with fail
  go_ret2
  exact ⟨rfl, ⟨B1.out.os, B1.out.tape, B1.out.output, B1.out.size, B1.out.block⟩⟩
/-- An error, as pair tells it: none, or a Fault with its place. -/
def errV (at' why : Int) : Value := if why = 0 then .nilIface else .iface 62 (.agg #[.int .i64 at', .int .i64 why])
theorem is_is (a y a' y' : Int) (ha : y = 0 → a = 0) (w : World) : Calls Tryd.prog 12 #[errV a y, .int .i64 a', .int .i64 y'] w fun e w' => e = .returned (.bool (y == y' && a == a')) ∧ Below w.heap.size w w' := by
  unfold errV
  by_cases h0 : y = 0
  · have h1 := ha h0
    subst h0
    subst h1
    rw [if_pos rfl]
    have WH := hid (why_nil w)
    cases q1 : ((0 : Int) == y') <;> cases q2 : ((0 : Int) == a') <;>
    · go_enter Tryd.func12, Tryd.ntmps12
      go_wp2_with (go_at_call 22; refine WH.out.mono ?_; rintro e w2 ⟨rfl, rfl⟩)
      go_ret
      exact ⟨rfl, Below.refl _ _⟩
  · rw [if_neg h0]
    have WH := hid (why_fault a y w)
    cases q1 : (y == y') <;> cases q2 : (a == a') <;>
    · go_enter Tryd.func12, Tryd.ntmps12
      go_wp2_with (go_at_call 22; refine WH.out.mono ?_; rintro e w2 ⟨rfl, b2⟩; have B2 := hid b2; clear b2)
      go_ret
      exact ⟨rfl, B2.out⟩
set_option maxHeartbeats 2000000 in
theorem isList_is (x : MOp) (a : Option Addr) (n c : Nat) (w : World) : Calls Tryd.prog 35 #[opW x a n c] w fun e w' => e = .returned (.bool (lst x.kind)) ∧ Below w.heap.size w w' := by
  unfold lst
  obtain ⟨k, s, v, l, h, nl⟩ := x
  simp only [MOp.kind, MOp.key, MOp.value, opW] at *
  have B1 : ∀ o, Hid (Below w.heap.size w (w.alloc o)) := fun o => (Below.refl _ w).alloc (Nat.le_refl _) _
  cases q1 : (k == (1 : Int)) <;> cases q2 : (k == (2 : Int)) <;>
  · go_enter Tryd.func35, Tryd.ntmps35
    go_wp2_with fail
    go_ret
    exact ⟨rfl, (B1 _).out⟩
end Go.Proofs.YtjobdfgcgnpppaaDoor
namespace Go.Proofs.YtjobdfgcgnpppaaDoor
set_option linter.unusedVariables false
set_option linter.unusedSimpArgs false
open Go.RowKit Go.Lib Go.Maps

theorem Tryd.infoS : (Tryd.prog.info? 40).map (fun i => (i.zero, i.size, i.bytes)) = some (some (.slice none 0 0), 1, 24) := by kernel_rfl
/-- append([][]T{}, l...), l a row of one's own. -/
theorem wpList_copyV {ops : Array Oper} {rest : List Oper} {o : Oper} {a : Act} {Q : Exit → Act → World → Prop} (B Ba : Nat) (w : World) (hgd : o.guard = none) (s x : Operand)
    (ho : o.op = .call { callee := .builtin .append, args := #[s, x], argTypes := #[52, 52] }) (g0 : Nat) (hs : a.eval s = .slice (some ⟨g0, 0, none⟩) 0 0) (hg0 : w.heap[g0]? = some (.cells #[] 40 (0, 0))) (hB : B ≤ g0)
    (av : Value) (hx : a.eval x = av) (n : Nat) (vals : List Value) (hn : n ≤ 1000) (hi : w.ownsRow Ba 40 1 av n vals) (hone : ∀ u ∈ vals, u.oneCell' = true)
    (hK : ∀ v' w', w'.ownsRow B 40 1 v' n vals → Below g0 w w' → wpList Tryd.prog ops Q rest (a.put o.dst v') w') : wpList Tryd.prog ops Q (o :: rest) a w := by
  obtain ⟨i0, hi0, hz0, hz1, hz2⟩ := info_parts Tryd.infoS
  have hlt : g0 < w.heap.size := (Array.getElem?_eq_some_iff.1 hg0).1
  have row0 : w.ownsRow B 40 1 (.slice (some ⟨g0, 0, none⟩) 0 0) 0 [] := ⟨rfl, .inr ⟨g0, 0, #[], rfl, hB, hg0, Nat.le_refl _, by unfold maxLen; omega, rfl, rfl⟩⟩
  obtain ⟨la, lc, rfl⟩ := own_slice hi
  have hvl : vals.length = n := by have := hi.1; omega
  by_cases hn0 : n = 0
  · subst hn0
    have hxs : vals = [] := List.length_eq_zero_iff.1 hvl
    subst hxs
    refine wpList_plain hgd fun K hK' => ?_
    have hrun : (Builtin.append_ #[52, 52] o.type #[.slice (some ⟨g0, 0, none⟩) 0 0, .slice la 0 lc]).run Tryd.prog w = .ok (.slice (some ⟨g0, 0, none⟩) 0 0) w := by
      cases la <;> simp [Builtin.append_, run_underlying Tryd.underlying52, sizeOf, typeInfo, hi0, Builtin.lenOf, Builtin.firstCells, storeCells, loadCells, loadCellsFrom, Result.andThen]
    unfold Oper.wp
    simp [execOp, ho, resolve, invoke, builtin, hs, hx, hrun, Result.andThen]
    exact hK' _ _ (hK _ _ row0 (Below.refl _ _))
  · obtain ⟨b, rfl⟩ : ∃ b, la = some ⟨b, 0, none⟩ := by
      rcases hi.2 with ⟨hv, c⟩ | ⟨g, cap, cur, hv, _⟩
      · exact absurd c hn0
      · injection hv with a1
        exact ⟨g, a1⟩
    refine wpList_append_lies _ hgd s x 52 ho B 40 i0 (.slice none 0 0) 1 24 Tryd.underlying52 hi0 hz0 hz1 hz2 rfl (by decide) _ 0 [] hs row0 ⟨b, 0, none⟩ n lc vals hx (by omega) (fun j u hj => ?_) hone (by omega) (by unfold maxLen; omega) (by omega) (by omega) w.heap.size rfl ?_
    · exact hi.cells (g := b) rfl j u hj
    · intro g cap w4 hown hgrow hat hglt
      rw [Nat.zero_add] at hown ⊢
      exact hK _ w4 hown ⟨hgrow.os, hgrow.tape, hgrow.output, hgrow.size, fun k hk => hgrow.block k (by omega) (fun e => by
        have e' : k = g0 := by injection e
        omega)⟩
/-- Two operations of one key and two kinds. -/
def mx (o p : MOp) : Bool := (p.key.toList == o.key.toList) && (lst p.kind != lst o.kind)
theorem mx_is (o p : MOp) : mx o p = (decide (p.key = o.key) && (lst p.kind != lst o.kind)) := by
  unfold mx
  congr 1
  rw [Bool.eq_iff_iff, beq_iff_eq, decide_eq_true_eq, ByteArray.toList_eq, ByteArray.toList_eq]
  exact ⟨fun h => ByteArray.ext (Array.ext' h), fun h => by rw [h]⟩
theorem mix_form (X : List (List MOp)) (O : List MOp) : mixB X.flatten O = O.any fun o => (X ++ [O]).any fun x => x.any fun p => mx o p := by
  unfold mixB
  congr 1
  funext o
  rw [show X.flatten ++ O = (X ++ [O]).flatten by simp, List.any_flatten]
  congr 1
  funext x
  congr 1
  funext p
  exact (mx_is o p).symm
theorem any_hit {α : Type} [Inhabited α] {f : α → Bool} {l : List α} {i : Nat} (h : i < l.length) (hf : f (l.getD i default) = true) : l.any f = true := List.any_eq_true.2 ⟨l.getD i default, by simp [List.getD, List.getElem?_eq_getElem h], hf⟩
theorem any_miss {α : Type} [Inhabited α] {f : α → Bool} {l : List α} (h : ∀ i, i < l.length → f (l.getD i default) = false) : l.any f = false := by
  rw [List.any_eq_false]
  intro x hx
  obtain ⟨i, hi, rfl⟩ := List.mem_iff_getElem.1 hx
  have := h i hi
  rw [List.getD, List.getElem?_eq_getElem hi] at this
  simpa using this
/-- The rows ahead, and the last one. -/
def AllR (w : World) (vals : List Value) (X : List (List MOp)) : Prop := vals.length = X.length ∧ ∀ j, j < X.length → OpsIn Any w (vals.getD j undef) (X.getD j default)
theorem AllR.below {w w' : World} {vals : List Value} {X : List (List MOp)} (h : AllR w vals X) (hb : Below w.heap.size w w') : AllR w' vals X := ⟨h.1, fun j hj => (h.2 j hj).below hb⟩
theorem AllR.snoc {w : World} {vals : List Value} {X : List (List MOp)} {v : Value} {O : List MOp} (h : AllR w vals X) (hv : OpsIn Any w v O) : AllR w (vals ++ [v]) (X ++ [O]) := by
  refine ⟨by simp [h.1], fun j hj => ?_⟩
  simp at hj
  by_cases e : j < X.length
  · rw [getD_snoc_old e]
    have e2 : (vals ++ [v]).getD j undef = vals.getD j undef := by simp [List.getD, List.getElem?_append_left (show j < vals.length by rw [h.1]; exact e)]
    rw [e2]
    exact h.2 j e
  · have ej : j = X.length := by omega
    rw [getD_snoc_new ej]
    have e2 : (vals ++ [v]).getD j undef = v := by
      rw [ej, ← h.1]
      simp [List.getD]
    rw [e2]
    exact hv
theorem AllR.one {w : World} {vals : List Value} {X : List (List MOp)} (h : AllR w vals X) : ∀ u ∈ vals, u.oneCell' = true := fun u hu => by
  obtain ⟨i, hi, rfl⟩ := List.mem_iff_getElem.1 hu
  have := h.2 i (by rw [← h.1]; exact hi)
  rw [List.getD, List.getElem?_eq_getElem hi] at this
  obtain ⟨a, c, e, _⟩ := this
  simp only [Option.getD_some] at e
  rw [e]
  rfl
set_option maxHeartbeats 8000000 in
set_option maxRecDepth 100000 in
theorem mixed_is (w : World) (Ba n : Nat) (av v : Value) (vals : List Value) (X : List (List MOp)) (O : List MOp) (ha : w.ownsRow Ba 40 1 av n vals) (hX : AllR w vals X) (hXn : X.length = n) (hn : n ≤ 500) (hv : OpsIn Any w v O) :
    Calls Tryd.prog 21 #[av, v] w fun e w' => e = .returned (.bool (mixB X.flatten O)) ∧ Below w.heap.size w w' := by
  obtain ⟨i0, hi0, hz0, hz1, hz2⟩ := info_parts Tryd.infoS
  obtain ⟨la, lc, rfl⟩ := own_slice ha
  obtain ⟨oa, oc, rfl, hob, _⟩ := id hv
  have HO := hid hv
  have HX := hid hX
  have HA := hid ha
  have MF := hid (mix_form X O)
  have HI0 := hid hi0
  have HZ0 := hid hz0
  have HZ1 := hid hz1
  have HZ2 := hid hz2
  clear ha hX hv hi0 hz0 hz1 hz2
  obtain ⟨M, hM⟩ : ∃ M, mixB X.flatten O = M := ⟨_, rfl⟩
  rw [hM] at MF
  rw [hM]
  clear hM
  go_enter Tryd.func21, Tryd.ntmps21
  go_wp2_with (first
    | (at_builtin; refine wpList_copyV w.heap.size Ba _ rfl _ _ rfl w.heap.size rfl (heap_alloc_new w _) (Nat.le_refl _) (.slice la n lc) rfl n vals (by omega) (owns_keep HA.out (fun g hg => (below_box w _).block g (HA.out.lt g hg).2)) HX.out.one ?_; intro v1 w1 hown1 b1; have O1 := hid hown1; have B1 : Hid (Below w.heap.size w w1) := (below_box w (.cells #[] 40)).trans b1; clear hown1 b1)
    | (at_builtin; refine wpList_append_lies _ rfl _ _ 52 rfl w.heap.size 40 i0 (.slice none 0 0) 1 24 Tryd.underlying52 HI0.out HZ0.out HZ1.out HZ2.out rfl (by decide) v1 n vals rfl (owns_keep O1.out (fun g hg => (below_box w1 _).block g (O1.out.lt g hg).2)) ⟨w1.heap.size, 0, none⟩ 1 1 [.slice oa O.length oc] rfl rfl (World.news_of_block (cs := #[.slice oa O.length oc]) (t := 40) (fr := (0, 0)) (heap_alloc_new w1 _)) ?qa (by decide) (by unfold maxLen; omega) (by omega) (by have := B1.out.size; simp; omega) _ rfl ?_))
  case qa =>
    intro u hu
    rw [List.mem_singleton] at hu
    rw [hu]
    rfl
  intro g cap W hown hgrow hat hglt
  have BW1 : Hid (Below w.heap.size w W) := by
    have q : Below w.heap.size w (w1.alloc (.cells #[.slice oa O.length oc] 40)) := bstep (below_box _ _) B1.out
    refine ⟨hgrow.os.trans q.os, hgrow.tape.trans q.tape, hgrow.output.trans q.output, Nat.le_trans q.size hgrow.size, fun b hb => (hgrow.block b (Nat.lt_of_lt_of_le hb q.size) (fun e => ?_)).trans (q.block b hb)⟩
    have := (O1.out.lt b e.symm).1
    omega
  have AW : Hid (AllR W (vals ++ [.slice oa O.length oc]) (X ++ [O])) := (HX.out.below BW1.out).snoc (HO.out.below BW1.out)
  have OW : Hid (OpsIn Any W (.slice oa O.length oc) O) := HO.out.below BW1.out
  have CE : Hid (∀ j u, (vals ++ [Value.slice oa O.length oc])[j]? = some u → W.cell? ⟨g, j, none⟩ = some u) := fun j u hj => by
    have := hown.cells (g := g) rfl j u hj
    rw [Addr.add_lit] at this
    simpa using this
  have hcap : n + 1 ≤ cap := by
    rcases hown.2 with ⟨hv, _⟩ | ⟨g', cap', cur, hv, _, _, hc, _⟩
    · cases hv
    · injection hv with _ _ a3
      omega
  have XL : Hid ((X ++ [O]).length = n + 1) := by show _ = _; simp [hXn]
  clear hown hgrow hat HX HA HO O1 B1
  obtain ⟨Y, hY⟩ : ∃ Y, X ++ [O] = Y := ⟨_, rfl⟩
  obtain ⟨vs, hvs⟩ : ∃ vs, vals ++ [Value.slice oa O.length oc] = vs := ⟨_, rfl⟩
  rw [hY] at AW XL MF
  rw [hvs] at AW CE
  clear hY hvs
  have hOl : (O.length : Int) ≤ 9223372036854775807 := by omega
  have hni : (n : Int) ≤ 500 := by omega
  go_wp2_with fail
  go_loopg [7, 9, 11, 20] O.length (fun gg _ _ _ i wr => ∃ k : Nat, k ≤ O.length ∧ O.length - k ≤ gg ∧ i = .int .i64 k ∧ Aside (Below W.heap.size W wr) ∧ Aside (∀ a, a < k → (Y.any fun x => x.any fun p => mx (O.getD a default) p) = false))
  case atStart => exact ⟨0, Nat.zero_le _, by omega, rfl, Below.refl _ _, fun a ha => absurd ha (Nat.not_lt_zero _)⟩
  case round =>
    obtain ⟨k, hk, hgk, rfl, BR, AR⟩ := hrel
    by_cases hlt : k < O.length
    · have hlti : (k : Int) < (O.length : Int) := by omega
      obtain ⟨_, _, e0, _, hc0⟩ := RowsIn.cells OW.out (by decide)
      injection e0 with e1 _ e3
      clear e3
      subst e1
      obtain ⟨b1, o1, cs, rfl, hb1, _, ⟨lv, rfl, i1⟩, q1⟩ := hc0 k hlt
      obtain ⟨pa, pc, rfl, -⟩ := id i1
      have d0 : wr.cell? ⟨b1, o1 + k * 6, none⟩ = _ := cell_later BR.out (q1 0 _ rfl)
      have d1 := cell_later BR.out (q1 1 _ rfl)
      have d2 := cell_later BR.out (q1 2 _ rfl)
      have d3 := cell_later BR.out (q1 3 _ rfl)
      have d4 := cell_later BR.out (q1 4 _ rfl)
      have d5 := cell_later BR.out (q1 5 _ rfl)
      have HIT : Hid ((Y.any fun x => x.any fun p => mx (O.getD k default) p) = true → M = true) := fun h => by
        have q := any_hit (f := fun o => Y.any fun x => x.any fun p => mx o p) hlt h
        exact MF.out.trans q
      have NXT : Hid ((Y.any fun x => x.any fun p => mx (O.getD k default) p) = false → ∀ a, a < k + 1 → (Y.any fun x => x.any fun p => mx (O.getD a default) p) = false) := fun h a ha => by
        by_cases e : a = k
        · rw [e]; exact h
        · exact AR.out a (by omega)
      generalize O.getD k default = Z at *
      obtain ⟨W2, hW2⟩ : ∃ W2, wr.alloc (.cells #[.int .i64 Z.kind, .string Z.key, .int .i64 Z.value, .slice pa Z.list.length pc, .bool Z.has, .bool Z.nl] 76) = W2 := ⟨_, rfl⟩
      have BR2 : Hid (Below W.heap.size W W2) := by rw [← hW2]; exact bstep (below_box _ _) BR.out
      obtain ⟨zb, hzb⟩ : ∃ zb, wr.heap.size = zb := ⟨_, rfl⟩
      have zc : Hid (∀ i, W2.cell? ⟨zb, i, none⟩ = (#[.int .i64 Z.kind, .string Z.key, .int .i64 Z.value, .slice pa Z.list.length pc, .bool Z.has, .bool Z.nl] : Array Value)[i]?) := fun i => by
        rw [← hW2, ← hzb]
        exact new_cells wr _ 76 i
      clear q1 hc0 i1
      go_wp2_with fail
      clear hW2 hzb d0 d1 d2 d3 d4 d5 BR AR
      go_loopg [9, 11, 26] (n + 1) (fun gg _ _ i wr => ∃ j : Nat, j ≤ n + 1 ∧ n + 1 - j ≤ gg ∧ i = .int .i64 j ∧ Aside (Below W2.heap.size W2 wr) ∧ Aside (∀ a, a < j → ((Y.getD a default).any fun p => mx Z p) = false))
      case atStart => exact ⟨0, Nat.zero_le _, by omega, rfl, Below.refl _ _, fun a ha => absurd ha (Nat.not_lt_zero _)⟩
      case round =>
        obtain ⟨j, hj, hgj, rfl, BJ, AJ⟩ := hrel
        by_cases hltj : j < n + 1
        · have hltji : (j : Int) < (n : Int) + 1 := by omega
          have hjY : j < Y.length := by rw [XL.out]; exact hltj
          have hvj : vs[j]? = some (vs.getD j undef) := by
            have : j < vs.length := by rw [AW.out.1]; exact hjY
            simp [List.getD, List.getElem?_eq_getElem this]
          have cj := cell_later (bstep BJ.out BR2.out) (CE.out j _ hvj)
          have oj := (AW.out.2 j hjY).below (bstep BJ.out BR2.out)
          have HITJ : Hid (((Y.getD j default).any fun p => mx Z p) = true → M = true) := fun h => HIT.out (any_hit hjY h)
          have NXTJ : Hid (((Y.getD j default).any fun p => mx Z p) = false → ∀ a, a < j + 1 → ((Y.getD a default).any fun p => mx Z p) = false) := fun h a ha => by
            by_cases e : a = j
            · rw [e]; exact h
            · exact AJ.out a (by omega)
          generalize Y.getD j default = P at *
          obtain ⟨xa, xc, hxe, hxb, _⟩ := id oj
          rw [hxe] at cj oj
          clear hxe hvj
          have OJ := hid oj
          clear oj
          have hPl : (P.length : Int) ≤ 9223372036854775807 := by omega
          have zj : Hid (∀ i u, (#[.int .i64 Z.kind, .string Z.key, .int .i64 Z.value, .slice pa Z.list.length pc, .bool Z.has, .bool Z.nl] : Array Value)[i]? = some u → wr.cell? ⟨zb, i, none⟩ = some u) := fun i u hu => cell_later BJ.out ((zc.out i).trans hu)
          have BJ2 : Hid (Below W.heap.size W wr) := bstep BJ.out BR2.out
          go_wp2_with fail
          obtain ⟨W3, hW3⟩ : ∃ W3, wr = W3 := ⟨_, rfl⟩
          subst hW3
          go_loopg [11, 32] P.length (fun gg _ i wr' => ∃ t : Nat, t ≤ P.length ∧ P.length - t ≤ gg ∧ i = .int .i64 t ∧ Aside (Below wr.heap.size wr wr') ∧ Aside (∀ a, a < t → mx Z (P.getD a default) = false))
          case atStart => exact ⟨0, Nat.zero_le _, by omega, rfl, Below.refl _ _, fun a ha => absurd ha (Nat.not_lt_zero _)⟩
          case round =>
            rename World => wt
            obtain ⟨t, ht, hgt, rfl, BT, AT⟩ := hrel
            by_cases hltt : t < P.length
            · have hltti : (t : Int) < (P.length : Int) := by omega
              obtain ⟨_, _, e0, _, hc0⟩ := RowsIn.cells OJ.out (by decide)
              injection e0 with e1 _ e3
              clear e3
              subst e1
              obtain ⟨b2, o2, cs, rfl, hb2, _, ⟨lv, rfl, i1⟩, q1⟩ := hc0 t hltt
              obtain ⟨ya, yc, rfl, -⟩ := id i1
              have d0 : wt.cell? ⟨b2, o2 + t * 6, none⟩ = _ := cell_later BT.out (q1 0 _ rfl)
              have d1 := cell_later BT.out (q1 1 _ rfl)
              have d2 := cell_later BT.out (q1 2 _ rfl)
              have d3 := cell_later BT.out (q1 3 _ rfl)
              have d4 := cell_later BT.out (q1 4 _ rfl)
              have d5 := cell_later BT.out (q1 5 _ rfl)
              have HITT : Hid (mx Z (P.getD t default) = true → M = true) := fun h => HITJ.out (any_hit hltt h)
              have NXTT : Hid (mx Z (P.getD t default) = false → ∀ a, a < t + 1 → mx Z (P.getD a default) = false) := fun h a ha => by
                by_cases e : a = t
                · rw [e]; exact h
                · exact AT.out a (by omega)
              generalize P.getD t default = U at *
              obtain ⟨W4, hW4⟩ : ∃ W4, wt.alloc (.cells #[.int .i64 U.kind, .string U.key, .int .i64 U.value, .slice ya U.list.length yc, .bool U.has, .bool U.nl] 76) = W4 := ⟨_, rfl⟩
              have BR4 : Hid (Below wr.heap.size wr W4) := by rw [← hW4]; exact bstep (below_box _ _) BT.out
              obtain ⟨yb, hyb⟩ : ∃ yb, wt.heap.size = yb := ⟨_, rfl⟩
              have yc' : ∀ i, W4.cell? ⟨yb, i, none⟩ = (#[.int .i64 U.kind, .string U.key, .int .i64 U.value, .slice ya U.list.length yc, .bool U.has, .bool U.nl] : Array Value)[i]? := fun i => by
                rw [← hW4, ← hyb]
                exact new_cells wt _ 76 i
              have y0 := yc' 0
              have y1 := yc' 1
              have y2 := yc' 2
              have y3 := yc' 3
              have y4 := yc' 4
              have y5 := yc' 5
              simp only [List.getElem?_toArray, List.getElem?_cons_zero, List.getElem?_cons_succ] at y0 y1 y2 y3 y4 y5
              have x0 := cell_later BR4.out (zj.out 0 _ rfl)
              have x1 := cell_later BR4.out (zj.out 1 _ rfl)
              have x2 := cell_later BR4.out (zj.out 2 _ rfl)
              have x3 := cell_later BR4.out (zj.out 3 _ rfl)
              have x4 := cell_later BR4.out (zj.out 4 _ rfl)
              have x5 := cell_later BR4.out (zj.out 5 _ rfl)
              have MXE : Hid (mx Z U = ((U.key.toList == Z.key.toList) && (lst U.kind != lst Z.kind))) := rfl
              clear q1 hc0 i1 yc'
              cases hkq : (U.key.toList == Z.key.toList) with
              | false =>
                rw [hkq] at MXE
                have N2 := hid (NXTT.out MXE.out)
                clear NXTT HITT MXE
                go_wp2_with fail
                clear hW4 hyb d0 d1 d2 d3 d4 d5
                go_quiet (fail)
                go_wp2_with fail
                go_roundg (P.length - (t + 1))
                case measure => omega
                case rel => exact ⟨t + 1, by omega, by omega, by go_num, below_drewN BR4.out _, N2.out⟩
              | true =>
                rw [hkq, Bool.true_and] at MXE
                have ILS : Hid (∀ (k : Int) (s : ByteArray) (vv : Int) (a : Option Addr) (n c : Nat) (h nl : Bool) (p : BW W4), Calls Tryd.prog 35 #[.agg #[.int .i64 k, .string s, .int .i64 vv, .slice a n c, .bool h, .bool nl]] p.val fun e w'' => e = .returned (.bool (lst k)) ∧ ∃ p' : BW W4, w'' = p'.val) := fun k s vv a n c h nl p =>
                  (isList_is (k, s, vv, [], h, nl) a n c p.val).mono fun e w' ⟨h1, h2⟩ => ⟨h1, ⟨w', bstep h2 p.2⟩, rfl⟩
                have v0 := bcell y0
                have v1 := bcell y1
                have v2 := bcell y2
                have v3 := bcell y3
                have v4 := bcell y4
                have v5 := bcell y5
                have r0 := bcell x0
                have r1 := bcell x1
                have r2 := bcell x2
                have r3 := bcell x3
                have r4 := bcell x4
                have r5 := bcell x5
                have bwS : Nonempty (BW W4) := bwSome W4
                cases hl1 : lst U.kind <;> cases hl2 : lst Z.kind <;> rw [hl1, hl2] at MXE
                · have N2 := hid (NXTT.out MXE.out)
                  clear NXTT HITT MXE
                  go_wp2_with fail
                  clear hW4 hyb d0 d1 d2 d3 d4 d5
                  refine wp_region_quiet_below Tryd.mixedOrders (by kernel_rfl) ?_
                  repeat (go_big_quiet_step ((go_at_call 35; exact ILS.out _ _ _ _ _ _ _ _ _)))
                  refine wpQuiet_nil ?_
                  intro w7 hw7
                  obtain ⟨⟨V7, hb7⟩, hw8⟩ := hw7
                  have hw9 : w7 = V7 := hw8
                  subst hw9
                  have B7 := hid (bstep hb7 BR4.out)
                  clear hw8 v0 v1 v2 v3 v4 v5 r0 r1 r2 r3 r4 r5 ILS bwS hb7
                  go_wp2_with fail
                  go_roundg (P.length - (t + 1))
                  case measure => omega
                  case rel => exact ⟨t + 1, by omega, by omega, by go_num, B7.out, N2.out⟩
                · have N2 := hid (HITT.out MXE.out)
                  clear NXTT HITT MXE
                  go_wp2_with fail
                  clear hW4 hyb d0 d1 d2 d3 d4 d5
                  refine wp_region_quiet_below Tryd.mixedOrders (by kernel_rfl) ?_
                  repeat (go_big_quiet_step ((go_at_call 35; exact ILS.out _ _ _ _ _ _ _ _ _)))
                  refine wpQuiet_nil ?_
                  intro w7 hw7
                  obtain ⟨⟨V7, hb7⟩, hw8⟩ := hw7
                  have hw9 : w7 = V7 := hw8
                  subst hw9
                  have B7 := hid (bstep hb7 BR4.out)
                  clear hw8 v0 v1 v2 v3 v4 v5 r0 r1 r2 r3 r4 r5 ILS bwS hb7
                  go_wp2_with fail
                  go_ret
                  exact ⟨ret_bool N2.out.symm, bstep (bstep B7.out BJ2.out) BW1.out⟩
                · have N2 := hid (HITT.out MXE.out)
                  clear NXTT HITT MXE
                  go_wp2_with fail
                  clear hW4 hyb d0 d1 d2 d3 d4 d5
                  refine wp_region_quiet_below Tryd.mixedOrders (by kernel_rfl) ?_
                  repeat (go_big_quiet_step ((go_at_call 35; exact ILS.out _ _ _ _ _ _ _ _ _)))
                  refine wpQuiet_nil ?_
                  intro w7 hw7
                  obtain ⟨⟨V7, hb7⟩, hw8⟩ := hw7
                  have hw9 : w7 = V7 := hw8
                  subst hw9
                  have B7 := hid (bstep hb7 BR4.out)
                  clear hw8 v0 v1 v2 v3 v4 v5 r0 r1 r2 r3 r4 r5 ILS bwS hb7
                  go_wp2_with fail
                  go_ret
                  exact ⟨ret_bool N2.out.symm, bstep (bstep B7.out BJ2.out) BW1.out⟩
                · have N2 := hid (NXTT.out MXE.out)
                  clear NXTT HITT MXE
                  go_wp2_with fail
                  clear hW4 hyb d0 d1 d2 d3 d4 d5
                  refine wp_region_quiet_below Tryd.mixedOrders (by kernel_rfl) ?_
                  repeat (go_big_quiet_step ((go_at_call 35; exact ILS.out _ _ _ _ _ _ _ _ _)))
                  refine wpQuiet_nil ?_
                  intro w7 hw7
                  obtain ⟨⟨V7, hb7⟩, hw8⟩ := hw7
                  have hw9 : w7 = V7 := hw8
                  subst hw9
                  have B7 := hid (bstep hb7 BR4.out)
                  clear hw8 v0 v1 v2 v3 v4 v5 r0 r1 r2 r3 r4 r5 ILS bwS hb7
                  go_wp2_with fail
                  go_roundg (P.length - (t + 1))
                  case measure => omega
                  case rel => exact ⟨t + 1, by omega, by omega, by go_num, B7.out, N2.out⟩
            · have hltti : ¬ ((t : Int) < (P.length : Int)) := by omega
              have N2 := hid (NXTJ.out (any_miss (fun i hi => AT.out i (by omega))))
              have BN : Hid (Below W2.heap.size W2 wt) := bstep BT.out BJ.out
              clear AT
              go_wp2_with fail
              go_roundg (n + 1 - (j + 1))
              case measure => omega
              case rel => exact ⟨j + 1, by omega, by omega, by go_num, BN.out, N2.out⟩
        · have hltji : ¬ ((j : Int) < (n : Int) + 1) := by omega
          have N2 := hid (NXT.out (any_miss (fun i hi => AJ.out i (by rw [XL.out] at hi; omega))))
          have BN : Hid (Below W.heap.size W wr) := bstep BJ.out BR2.out
          clear AJ
          go_wp2_with fail
          go_roundg (O.length - (k + 1))
          case measure => omega
          case rel => exact ⟨k + 1, by omega, by omega, by go_num, BN.out, N2.out⟩
    · have hlti : ¬ ((k : Int) < (O.length : Int)) := by omega
      have N2 : Hid (M = false) := MF.out.trans (any_miss (fun i hi => AR.out i (by omega)))
      clear AR
      go_wp2_with fail
      go_ret
      exact ⟨ret_bool N2.out.symm, bstep BR.out BW1.out⟩
end Go.Proofs.YtjobdfgcgnpppaaDoor
namespace Go.Proofs.YtjobdfgcgnpppaaDoor
set_option linter.unusedVariables false
set_option linter.unusedSimpArgs false
open Go.RowKit

def rdK (k : Int) : Bool := k == 2 || k == 4
def filB (O : List MOp) (want : Bool) : Bool := O.all fun o => !rdK o.kind || (o.has == want)
theorem fil_fit {e : MEv} (h : ∀ o ∈ e.ops, okK o) : filB e.ops (e.kind == 2) = fitB e := by
  unfold filB fitB
  rw [Bool.eq_iff_iff, List.all_eq_true, List.all_eq_true]
  refine forall_congr' fun o => imp_congr_right fun ho => ?_
  have h1 := (h o ho).1
  have h2 := (h o ho).2
  have hk : o.kind = 1 ∨ o.kind = 2 ∨ o.kind = 3 ∨ o.kind = 4 := by omega
  have e2 : (!rdK o.kind) = wrt o.kind := by
    rcases hk with q | q | q | q <;> rw [q] <;> rfl
  rw [e2]
set_option maxHeartbeats 2000000 in
theorem filled_is {S : Nat → Prop} (v : Value) (O : List MOp) (want : Bool) (w : World) (h : OpsIn S w v O) : Calls Tryd.prog 33 #[v, .bool want] w fun e w' => e = .returned (.bool (filB O want)) ∧ Below w.heap.size w w' := by
  obtain ⟨a1, c1, rfl, l1, k1⟩ := RowsIn.cells h (by omega)
  have HC := hid k1
  have hOl : (O.length : Int) ≤ 9223372036854775807 := by omega
  clear h k1
  go_enter Tryd.func33, Tryd.ntmps33
  go_wp2_with fail
  go_loopg [6, 9] O.length (fun g _ i wr => ∃ k : Nat, k ≤ O.length ∧ O.length - k ≤ g ∧ i = .int .i64 k ∧ Aside (Below w.heap.size w wr) ∧ Aside (∀ j, j < k → (!rdK (O.getD j default).kind || ((O.getD j default).has == want)) = true))
  case atStart => exact ⟨0, Nat.zero_le _, by omega, rfl, Below.refl _ _, fun j hj => absurd hj (Nat.not_lt_zero _)⟩
  case round =>
    obtain ⟨k, hk, hg, rfl, BW, A⟩ := hrel
    by_cases hlt : k < O.length
    · have hlti : (k : Int) < (O.length : Int) := by omega
      obtain ⟨b1, o1, cs1, rfl, hb1, _, ⟨lv, rfl, i1⟩, q1⟩ := HC.out k hlt
      obtain ⟨la, lc, rfl, -⟩ := id i1
      have d0 : wr.cell? ⟨b1, o1 + k * 6, none⟩ = _ := (BW.out.cell (p := ⟨b1, o1 + k * 6, none⟩) hb1).trans (q1 0 _ rfl)
      have d1 := (BW.out.cell (p := ⟨b1, o1 + k * 6 + 1, none⟩) hb1).trans (q1 1 _ rfl)
      have d2 := (BW.out.cell (p := ⟨b1, o1 + k * 6 + 2, none⟩) hb1).trans (q1 2 _ rfl)
      have d3 := (BW.out.cell (p := ⟨b1, o1 + k * 6 + 3, none⟩) hb1).trans (q1 3 _ rfl)
      have d4 := (BW.out.cell (p := ⟨b1, o1 + k * 6 + 4, none⟩) hb1).trans (q1 4 _ rfl)
      have d5 := (BW.out.cell (p := ⟨b1, o1 + k * 6 + 5, none⟩) hb1).trans (q1 5 _ rfl)
      have BN : ∀ o, Hid (Below w.heap.size w (wr.alloc o)) := fun o => BW.out.trans (((Below.refl _ wr).alloc (Nat.le_refl _) _).mono BW.out.size)
      have NX : Hid ((!rdK (O.getD k default).kind || ((O.getD k default).has == want)) = true → ∀ j, j < k + 1 → (!rdK (O.getD j default).kind || ((O.getD j default).has == want)) = true) := fun h j hj => by
        by_cases e : j = k
        · rw [e]; exact h
        · exact A.out j (by omega)
      have ML : Hid ((!rdK (O.getD k default).kind || ((O.getD k default).has == want)) = false → filB O want = false) := fun h => all_miss (l := O) hlt h
      generalize O.getD k default = X at *
      obtain ⟨xk, xs, xv, xl, xh, xn⟩ := X
      simp only [MOp.kind, MOp.has, MOp.key, MOp.value, MOp.list, MOp.nl] at *
      clear q1 i1
      have RK : Hid (rdK xk = ((xk == (2 : Int)) || (xk == (4 : Int)))) := rfl
      cases h2 : (xk == (2 : Int)) <;> cases h4 : (xk == (4 : Int)) <;> rw [h2, h4] at RK <;> rw [show rdK xk = _ from RK.out] at NX ML
      · have N2 := hid (NX.out rfl)
        clear NX ML RK
        go_wp2_with fail
        go_roundg (O.length - (k + 1))
        case measure => omega
        case rel => exact ⟨k + 1, by omega, by omega, by go_num, (BN _).out, N2.out⟩
      all_goals
        cases xh <;> cases want <;>
        first
        | (have N2 := hid (NX.out rfl); clear NX ML RK; go_wp2_with fail; go_roundg (O.length - (k + 1)); (case measure => omega); (case rel => exact ⟨k + 1, by omega, by omega, by go_num, (BN _).out, N2.out⟩))
        | (have M2 := hid (ML.out rfl); clear NX ML RK; go_wp2_with fail; go_ret; exact ⟨ret_bool M2.out.symm, (BN _).out⟩)
    · have hlti : ¬ (k : Int) < (O.length : Int) := by omega
      have HA : Hid (filB O want = true) := by
        show filB O want = true
        unfold filB
        rw [List.all_eq_true]
        intro o ho
        obtain ⟨m, hm, rfl⟩ := List.mem_iff_getElem.1 ho
        have := A.out m (by omega)
        rw [List.getD, List.getElem?_eq_getElem hm] at this
        exact this
      go_wp2_with fail
      go_ret
      exact ⟨ret_bool HA.out.symm, BW.out⟩
end Go.Proofs.YtjobdfgcgnpppaaDoor
namespace Go.Proofs.YtjobdfgcgnpppaaDoor
set_option linter.unusedVariables false
set_option linter.unusedSimpArgs false
open Go.RowKit

set_option maxHeartbeats 8000000 in
set_option maxRecDepth 100000 in
theorem comp_walk {S T : Nat → Prop} (a1 a2 : Option Addr) (c1 c2 n : Nat) (xs ys : List MOp) (w : World) (hx : xs.length = n) (hy : ys.length = n) (hbig : n ≤ 9223372036854775807)
    (h1 : RowCells 6 (OpRow S w) w a1 xs n) (h2 : RowCells 6 (OpRow T w) w a2 ys n) : Calls Tryd.prog 34 #[.slice a1 n c1, .slice a2 n c2] w fun e w' => e = .returned (.bool (allEq askB xs ys)) ∧ Below w.heap.size w w' := by
  have HX : Hid (xs.length = n) := hx
  have HY : Hid (ys.length = n) := hy
  have H1 := hid h1
  have H2 := hid h2
  clear hx hy h1 h2
  go_enter Tryd.func34, Tryd.ntmps34
  go_wp2_with fail
  go_loopg [5, 6, 14] n (fun g _ _ i wr => ∃ k : Nat, k ≤ n ∧ n - k ≤ g ∧ i = .int .i64 k ∧ Aside (∃ q, wr = w.drewN q) ∧ Aside (∀ j, j < k → askB (xs.getD j default) (ys.getD j default) = true))
  case atStart => exact ⟨0, Nat.zero_le _, by omega, rfl, ⟨0, rfl⟩, fun j hj => absurd hj (Nat.not_lt_zero _)⟩
  case round =>
    obtain ⟨k, hk, hg, rfl, QX, A⟩ := hrel
    obtain ⟨q, rfl⟩ := QX.out
    have BQ : ∀ q', Hid (Below w.heap.size w ((w.drewN q).drewN q')) := fun q' => ⟨rfl, rfl, rfl, Nat.le_refl _, fun _ _ => rfl⟩
    by_cases hlt : k < n
    · have hlti : (k : Int) < (n : Int) := by omega
      obtain ⟨b1, o1, cs1, rfl, hb1, _, ⟨l1, rfl, i1⟩, k1⟩ := H1.out k hlt
      obtain ⟨b2, o2, cs2, rfl, hb2, _, ⟨l2, rfl, i2⟩, k2⟩ := H2.out k hlt
      have d0 : w.cell? ⟨b1, o1 + k * 6, none⟩ = _ := k1 0 _ rfl
      have d1 : w.cell? ⟨b1, o1 + k * 6 + 1, none⟩ = _ := k1 1 _ rfl
      have d2 : w.cell? ⟨b1, o1 + k * 6 + 2, none⟩ = _ := k1 2 _ rfl
      have e0 : w.cell? ⟨b2, o2 + k * 6, none⟩ = _ := k2 0 _ rfl
      have e1 : w.cell? ⟨b2, o2 + k * 6 + 1, none⟩ = _ := k2 1 _ rfl
      have e2 : w.cell? ⟨b2, o2 + k * 6 + 2, none⟩ = _ := k2 2 _ rfl
      have NX : Hid (askB (xs.getD k default) (ys.getD k default) = true → ∀ j, j < k + 1 → askB (xs.getD j default) (ys.getD j default) = true) := fun h j hj => by
        by_cases e : j = k
        · rw [e]; exact h
        · exact A.out j (by omega)
      have ML : Hid (askB (xs.getD k default) (ys.getD k default) = false → allEq askB xs ys = false) := fun h => allEq_miss _ xs ys k (by rw [HX.out]; exact hlt) h
      clear k1 k2 i1 i2
      generalize xs.getD k default = X at *
      generalize ys.getD k default = Y at *
      obtain ⟨xk, xs', xv, xl, xh, xn⟩ := X
      obtain ⟨yk, ys', yv, yl, yh, yn⟩ := Y
      simp only [MOp.kind, MOp.key, MOp.value] at d0 d1 d2 e0 e1 e2
      have AS : Hid (askB (xk, xs', xv, xl, xh, xn) (yk, ys', yv, yl, yh, yn) = ((xk == yk) && ((xs'.toList == ys'.toList) && (!((xk == (1 : Int)) || (xk == (3 : Int))) || (xv == yv))))) := rfl
      have n0 : (xk != yk) = !(xk == yk) := rfl
      have n2 : (xs'.toList != ys'.toList) = !(xs'.toList == ys'.toList) := rfl
      have n5 : (xv != yv) = !(xv == yv) := rfl
      cases q0 : (xk == yk) <;> cases q2 : (xs'.toList == ys'.toList) <;> cases q3 : (xk == (1 : Int)) <;> cases q4 : (xk == (3 : Int)) <;> cases q5 : (xv == yv) <;> rw [q0, q2, q3, q4, q5] at AS <;> rw [q0] at n0 <;> rw [q2] at n2 <;> rw [q5] at n5 <;> simp only [Bool.not_true, Bool.not_false] at n0 n2 n5 <;> rw [show askB _ _ = _ from AS.out] at NX ML <;>
      first
      | (have N2 := hid (NX.out rfl); clear NX ML AS; go_wp2_with fail; go_quiet (fail); go_wp2_with fail; go_roundg (n - (k + 1)); (case measure => omega); (case rel => exact ⟨k + 1, by omega, by omega, by go_num, ⟨_, rfl⟩, N2.out⟩))
      | (have M2 := hid (ML.out rfl); clear NX ML AS; go_wp2_with fail; go_quiet (fail); go_wp2_with fail; go_ret; exact ⟨ret_bool M2.out.symm, (BQ _).out⟩)
    · have hlti : ¬ (k : Int) < (n : Int) := by omega
      have HA : Hid (allEq askB xs ys = true) := allEq_hit _ xs ys (by rw [HX.out, HY.out]) (fun j hj => A.out j (by rw [HX.out] at hj; omega))
      go_wp2_with fail
      go_ret
      exact ⟨ret_bool HA.out.symm, ⟨rfl, rfl, rfl, Nat.le_refl _, fun _ _ => rfl⟩⟩
theorem comp_lens (a1 a2 : Option Addr) (c1 c2 n m : Nat) (w : World) (hnm : n ≠ m) : Calls Tryd.prog 34 #[.slice a1 n c1, .slice a2 m c2] w fun e w' => e = .returned (.bool false) ∧ Below w.heap.size w w' := by
  have hne : ((n : Int) != (m : Int)) = true := by rw [bne_iff_ne]; omega
  have hne2 : ((n : Int) == (m : Int)) = false := by rw [beq_eq_false_iff_ne]; omega
  go_enter Tryd.func34, Tryd.ntmps34
  go_wp2
  go_ret
  exact ⟨rfl, Below.refl _ _⟩
/-- The document's completes tells whether what is asked is the same. -/
theorem comp_is {S T : Nat → Prop} (v1 v2 : Value) (xs ys : List MOp) (w : World) (h1 : OpsIn S w v1 xs) (h2 : OpsIn T w v2 ys) : Calls Tryd.prog 34 #[v1, v2] w fun e w' => e = .returned (.bool (allEq askB xs ys)) ∧ Below w.heap.size w w' := by
  obtain ⟨a1, c1, rfl, l1, k1⟩ := RowsIn.cells h1 (by omega)
  obtain ⟨a2, c2, rfl, l2, k2⟩ := RowsIn.cells h2 (by omega)
  by_cases h : xs.length = ys.length
  · rw [← h] at k2 ⊢
    exact comp_walk a1 a2 c1 c2 xs.length xs ys w rfl h.symm (by omega) k1 k2
  · rw [show allEq askB xs ys = false from allEq_len _ xs ys h]
    exact comp_lens a1 a2 c1 c2 _ _ w h
end Go.Proofs.YtjobdfgcgnpppaaDoor
