/-
  A region that draws its order, by a statement on what has been done: any operation may turn the world.
  The code's reader of a report's text: how many tokens each part takes; a list of dependencies, of anomalies, of numbers, appended to.
  The code's reader of a report's text: a box's field to which what a call told is appended.
  The code's reader of a report's text: the report.
  Regions that draw their order, with guards that need not be decided ahead.
  Walks of the smallest functions of the scanner and of its reference.
  Walk of the reference's number.
  What a key is: the plain part; walks of the code's isKey and of the reference's IsWord and IsKey.
-/
import Derived.Test.YtkpomcimaofkkaaDoorV1
import Derived.BigQuiet
import Derived.Shelf.SlSortCmp.QuietGrown
import Derived.OwnWalk
import Derived.Shelf.Strconv.Clone
import Derived.Shelf.LaysM
import Derived.Shelf.LaysC
import Derived.Shelf.Strconv.AtoiAll
import Derived.Test.YtkpomcimaofkkaaDoorProg
import Derived.WalkKit
import Derived.ProofKit
import Derived.Deep.LoopGhost
import Derived.Deep.Draws
import Derived.Outline
import Derived.Lib.AtoiErrMem
import Derived.Lib.SliceRun
import Derived.Deep.AppendLies
import Derived.WalkMore
import Derived.Deep.QuietTactic
import Derived.Deep.RegionHeld3
import Derived.Lib.ConvBytes
namespace Go.Proofs.YtkpomcimaofkkaaDoor
set_option linter.unusedVariables false
set_option linter.unusedSimpArgs false
open Go.RowKit

/-- One more is done. -/
def upB (L : Nat → Bool) (i : Nat) : Nat → Bool := fun j => if j = i then true else L j
theorem upB_self (L : Nat → Bool) (i : Nat) : upB L i i = true := by simp [upB]
theorem upB_ne (L : Nat → Bool) (i j : Nat) (h : j ≠ i) : upB L i j = L j := by simp [upB, h]
/-- What is done, its sources are. -/
def CloB (ops : Array Oper) (L : Nat → Bool) : Prop := ∀ j o, ops[j]? = some o → L j = true → ∀ e ∈ o.after, Region.binds .any e = true → L e.on = true
/-- Operation j wants operation i, straight or by way of others. -/
def wantsB (ops : Array Oper) : Nat → Nat → Nat → Bool
  | 0, _, _ => false
  | f + 1, j, i => match ops[j]? with
    | none => false
    | some o => o.after.any fun e => Region.binds .any e && (e.on == i || wantsB ops f e.on i)
theorem wants_done {ops : Array Oper} {L : Nat → Bool} (hc : CloB ops L) : ∀ (f j i : Nat), wantsB ops f j i = true → L j = true → L i = true
  | 0, _, _, h, _ => by cases h
  | f + 1, j, i, h, hj => by
    unfold wantsB at h
    cases ho : ops[j]? with
    | none => rw [ho] at h; cases h
    | some o =>
      rw [ho] at h
      simp only at h
      rw [← Array.any_toList, List.any_eq_true] at h
      obtain ⟨e, he, h4⟩ := h
      rw [Bool.and_eq_true, Bool.or_eq_true, beq_iff_eq] at h4
      have hl := hc j o ho hj e (by simpa using he) h4.1
      rcases h4.2 with c | c
      · rw [← c]; exact hl
      · exact wants_done hc f e.on i c hl
/-- One that is not done keeps those back that want it. -/
theorem wants_back {ops : Array Oper} {L : Nat → Bool} (hc : CloB ops L) (f j i : Nat) (h : wantsB ops f j i = true) (hi : L i = false) : L j = false := by
  cases hj : L j with
  | false => rfl
  | true => rw [wants_done hc f j i h hj] at hi; cases hi
/-- What is known of those that an operation waits for. -/
def depsG (L : Nat → Bool) (R : (Nat → Bool) → Nat → Value → World → Prop) (val : Nat → Value) (w : World) : List Edge → Prop
  | [] => True
  | e :: l => (Region.binds .any e = true → L e.on = true ∧ R L e.on (val e.on) w) ∧ depsG L R val w l
theorem depsG_of {L : Nat → Bool} {R : (Nat → Bool) → Nat → Value → World → Prop} {val : Nat → Value} {w : World} : ∀ (l : List Edge), (∀ e ∈ l, Region.binds .any e = true → L e.on = true ∧ R L e.on (val e.on) w) → depsG L R val w l
  | [], _ => trivial
  | e :: l, h => ⟨h e (by simp), depsG_of l (fun x hx => h x (by simp [hx]))⟩
theorem depsG_get {L : Nat → Bool} {R : (Nat → Bool) → Nat → Value → World → Prop} {val : Nat → Value} {w : World} : ∀ {l : List Edge}, depsG L R val w l → ∀ j, (l.any fun e => Region.binds .any e && e.on == j) = true → R L j (val j) w
  | [], _, j, h => by cases h
  | e :: l, hd, j, h => by
    simp only [List.any_cons, Bool.or_eq_true, Bool.and_eq_true, beq_iff_eq] at h
    rcases h with ⟨hb, rfl⟩ | h
    · exact (hd.1 hb).2
    · exact depsG_get hd.2 j (by simpa using h)
theorem depsG_on {L : Nat → Bool} {R : (Nat → Bool) → Nat → Value → World → Prop} {val : Nat → Value} {w : World} : ∀ {l : List Edge}, depsG L R val w l → ∀ j, (l.any fun e => Region.binds .any e && e.on == j) = true → L j = true
  | [], _, j, h => by cases h
  | e :: l, hd, j, h => by
    simp only [List.any_cons, Bool.or_eq_true, Bool.and_eq_true, beq_iff_eq] at h
    rcases h with ⟨hb, rfl⟩ | h
    · exact (hd.1 hb).1
    · exact depsG_on hd.2 j (by simpa using h)
/-- What is asked of one operation. -/
def OpGen (P : Program) (ops : Array Oper) (Q : Exit → Act → World → Prop) (frame : (Nat → Value) → Act) (val0 : Nat → Value) (G : (Nat → Bool) → World → Prop) (R : (Nat → Bool) → Nat → Value → World → Prop) (i : Nat) (o : Oper) : Prop :=
  ∀ L val w, CloB ops L → L i = false → (∀ j, L j = false → val j = val0 j) → G L w → depsG L R val w o.after.toList →
      if Region.wanted o (yielded ops (frame val).tmps) then o.wp P (frame val) w (fun a' w' => ∃ v, a' = frame (upV val i v) ∧ R (upB L i) i v w' ∧ G (upB L i) w' ∧ ∀ j u, L j = true → R L j u w → R (upB L i) j u w') Q
      else (frame val).put o.dst undef = frame (upV val i undef) ∧ R (upB L i) i undef w ∧ G (upB L i) w ∧ ∀ j u, L j = true → R L j u w → R (upB L i) j u w
theorem wp_region_gen {P : Program} {ops : Array Oper} {Q : Exit → Act → World → Prop} {id : Nat} {a0 : Act} {w0 : World} (hm : P.follows .mixedOrders = true) (hah : aheadB ops = true)
    (frame : (Nat → Value) → Act) (val0 : Nat → Value) (h0 : a0 = frame val0) (G : (Nat → Bool) → World → Prop) (R : (Nat → Bool) → Nat → Value → World → Prop)
    (hG0 : G (fun _ => false) w0.drew) (l : List Oper) (hl : ops.toList = l) (hop : allOps (OpGen P ops Q frame val0 G R) 0 l)
    (hend : ∀ L val w, (∀ i, i < ops.size → L i = true) → G L w → (∀ i, i < ops.size → R L i (val i) w) → Q .normal (frame val) w) : (Code.region id ops true).wp P Q a0 w0 := by
  refine wp_region_any hm ?_
  refine wpAny_inv (fun listed a w => listed.size = ops.size ∧ CloB ops (fun i => listed.getD i false) ∧ ∃ val, a = frame val ∧ (∀ j, listed.getD j false = false → val j = val0 j) ∧ G (fun i => listed.getD i false) w ∧ ∀ i, i < ops.size → listed.getD i false = true → R (fun i => listed.getD i false) i (val i) w) ?_ ?_ _ _ _ _ ?_ ?_
  · rintro listed a w ⟨hs, hclo, val, rfl, hv, hG, hR⟩ i hi
    rw [mem_ready] at hi
    obtain ⟨h1, o, ho, h2⟩ := hi
    have hio : i < ops.size := (Array.getElem?_eq_some_iff.1 ho).1
    have hil : i < listed.size := by omega
    have hif : listed.getD i false = false := by
      rw [Array.getD_eq_getD_getElem?, Array.getElem?_eq_getElem hil] at h1 ⊢
      exact h1
    have eL : (fun j => (listed.setIfInBounds i true).getD j false) = upB (fun j => listed.getD j false) i := by
      funext j
      by_cases e : j = i
      · subst e
        rw [upB_self, Array.getD_eq_getD_getElem?, Array.getElem?_setIfInBounds_self_of_lt hil]
        rfl
      · rw [upB_ne _ _ _ e, getD_set_ne false (fun c => e c.symm)]
    have hclo2 : CloB ops (upB (fun j => listed.getD j false) i) := by
      intro j oj hoj hj e he hb
      by_cases ej : j = i
      · subst ej
        rw [ho] at hoj
        injection hoj with hoj
        subst hoj
        by_cases ee : e.on = j
        · rw [ee]; exact upB_self _ _
        · rw [upB_ne _ _ _ ee]; exact h2 e he hb
      · rw [upB_ne _ _ _ ej] at hj
        by_cases ee : e.on = i
        · rw [ee]; exact upB_self _ _
        · rw [upB_ne _ _ _ ee]; exact hclo j oj hoj hj e he hb
    have key : ∀ v w', R (upB (fun j => listed.getD j false) i) i v w' → G (upB (fun j => listed.getD j false) i) w' → (∀ j u, listed.getD j false = true → R (fun j => listed.getD j false) j u w → R (upB (fun j => listed.getD j false) i) j u w') →
        ((listed.setIfInBounds i true).size = ops.size ∧ CloB ops (fun j => (listed.setIfInBounds i true).getD j false) ∧ ∃ val', frame (upV val i v) = frame val' ∧ (∀ j, (listed.setIfInBounds i true).getD j false = false → val' j = val0 j) ∧ G (fun j => (listed.setIfInBounds i true).getD j false) w' ∧ ∀ j, j < ops.size → (listed.setIfInBounds i true).getD j false = true → R (fun j => (listed.setIfInBounds i true).getD j false) j (val' j) w') := fun v w' q1 q2 q3 => by
      have eL' : ∀ j, (listed.setIfInBounds i true).getD j false = upB (fun j => listed.getD j false) i j := fun j => congrFun eL j
      rw [eL]
      refine ⟨by simpa using hs, hclo2, upV val i v, rfl, fun j hj => ?_, q2, fun j hj hl2 => ?_⟩
      · rw [eL'] at hj
        by_cases e : j = i
        · subst e; rw [upB_self] at hj; cases hj
        · rw [upB_ne _ _ _ e] at hj
          rw [upV_ne _ _ _ _ e]
          exact hv j hj
      · rw [eL'] at hl2
        by_cases e : j = i
        · subst e
          rw [upV_self]
          exact q1
        · rw [upB_ne _ _ _ e] at hl2
          rw [upV_ne _ _ _ _ e]
          exact q3 j _ hl2 (hR j hj hl2)
    have hk := allOps_at l 0 i o hop (by rw [← hl]; simpa using ho)
    rw [Nat.zero_add] at hk
    have hk2 := hk (fun j => listed.getD j false) val w hclo hif hv hG (depsG_of _ (fun e he hb => by
      have hea : e ∈ o.after := by simpa using he
      have hlt := ahead_of hah ho e hea hb
      exact ⟨h2 e hea hb, hR e.on (by omega) (h2 e hea hb)⟩))
    unfold wpOp
    rw [ho]
    simp only
    by_cases hw : Region.wanted o (yielded ops (frame val).tmps) = true
    · rw [if_pos hw] at hk2 ⊢
      exact .inl (Oper.wp_mono (fun a' w' ⟨v, e, q1, q2, q3⟩ => by rw [e]; exact key v w' q1 q2 q3) hk2)
    · rw [if_neg hw] at hk2 ⊢
      rw [hk2.1]
      exact key undef w hk2.2.1 hk2.2.2.1 hk2.2.2.2
  · rintro listed a w ⟨hs, hclo, val, rfl, hv, hG, hR⟩ hr
    have hall := all_listed hah hs hr
    exact hend _ val w hall hG (fun i hi => hR i hi (hall i hi))
  · unfold leftN
    exact Nat.le_trans (List.length_filter_le _ _) (by simp)
  · have e : ∀ j, (Array.replicate ops.size false).getD j false = false := fun j => by
      rw [Array.getD_eq_getD_getElem?, Array.getElem?_replicate]
      split <;> rfl
    have eF : (fun j => (Array.replicate ops.size false).getD j false) = fun _ => false := funext e
    refine ⟨by simp, fun j o ho hj => ?_, val0, h0, fun _ _ => rfl, ?_, fun i hi hl2 => ?_⟩
    · simp only [e] at hj
      cases hj
    · rw [eF]; exact hG0
    · rw [e] at hl2
      cases hl2
section
variable {P : Program} {ops : Array Oper} {Q : Exit → Act → World → Prop} {frame : (Nat → Value) → Act} {val0 : Nat → Value} {G : (Nat → Bool) → World → Prop} {R : (Nat → Bool) → Nat → Value → World → Prop} {i : Nat} {o : Oper}
/-- What an operation must come to. -/
def GDoes (P : Program) (Q : Exit → Act → World → Prop) (G : (Nat → Bool) → World → Prop) (R : (Nat → Bool) → Nat → Value → World → Prop) (L : Nat → Bool) (i : Nat) (o : Oper) (A : Act) (w : World) : Prop :=
  ∀ K : Act → World → Prop, (∀ v w', R (upB L i) i v w' → G (upB L i) w' → (∀ j u, L j = true → R L j u w → R (upB L i) j u w') → K (A.put o.dst v) w') → o.wp P A w K Q
theorem gen_plain (hg : o.guard = none) (hput : ∀ val v, (frame val).put o.dst v = frame (upV val i v)) (h : ∀ L val w, CloB ops L → L i = false → (∀ j, L j = false → val j = val0 j) → G L w → depsG L R val w o.after.toList → GDoes P Q G R L i o (frame val) w) : OpGen P ops Q frame val0 G R i o := by
  intro L val w h1 h2 h3 h4 h5
  rw [if_pos (by simp [Region.wanted, hg])]
  exact h L val w h1 h2 h3 h4 h5 _ (fun v w' q1 q2 q3 => ⟨v, hput val v, q1, q2, q3⟩)
/-- One that yields a value and leaves the world. -/
theorem gdoes_value {L : Nat → Bool} {A : Act} {w : World} {v : Value} (h : (execOp A.eval o).run P w = .ok (.value v) w) (hR : R (upB L i) i v w) (hG : G (upB L i) w) (hp : ∀ j u, L j = true → R L j u w → R (upB L i) j u w) : GDoes P Q G R L i o A w := by
  intro K hK
  unfold Oper.wp
  rw [h]
  exact hK v w hR hG hp
end
end Go.Proofs.YtkpomcimaofkkaaDoor
namespace Go.Proofs.YtkpomcimaofkkaaDoor.Rp
set_option linter.unusedVariables false
set_option linter.unusedSimpArgs false
open Go.RowKit Go.Lib

abbrev WhysS (S : Nat → Prop) (w : World) (v : Value) (l : List MW) : Prop := RowsIn 8 64 (fun cs x => cs = encW x) S w v l
/-- An anomaly's cells, its cycle within blocks of S. -/
def AnS (S : Nat → Prop) (w : World) (cs : List Value) (a : MA) : Prop := ∃ cv, cs = encA a cv ∧ WhysS S w cv a.cyc
theorem anS_keep (S T : Nat → Prop) (w w' : World) (cs : List Value) (x : MA) (h : AnS S w cs x) (hk : KeepsIn S w w') (hT : ∀ b, b < w.heap.size → S b → T b) : AnS T w' cs x := by
  obtain ⟨cv, h1, h2⟩ := h
  exact ⟨cv, h1, RowsIn.keep h2 (by omega) (fun _ _ h => h) hk hT⟩
theorem info_parts {P : Program} {t : TypeId} {z : Option Value} {s b : Nat} (h : (P.info? t).map (fun i => (i.zero, i.size, i.bytes)) = some (z, s, b)) : ∃ i, P.info? t = some i ∧ i.zero = z ∧ i.size = s ∧ i.bytes = b := by
  cases hi : P.info? t with
  | none => rw [hi] at h; cases h
  | some i => rw [hi] at h; simp at h; exact ⟨i, rfl, h.1, h.2.1, h.2.2⟩
end Go.Proofs.YtkpomcimaofkkaaDoor.Rp
namespace Go.Proofs.YtkpomcimaofkkaaDoor.Rp
set_option linter.unusedVariables false
set_option linter.unusedSimpArgs false
open Go.RowKit Go.Lib

theorem Tryd.mixedOrders : Tryd.prog.follows .mixedOrders = true := by kernel_rfl
end Go.Proofs.YtkpomcimaofkkaaDoor.Rp
namespace Go.Proofs.YtkpomcimaofkkaaDoor.Rp
set_option linter.unusedVariables false
set_option linter.unusedSimpArgs false
open Go.RowKit Go.Lib

/-- Anomalies within blocks of S. -/
abbrev AnsS (S : Nat → Prop) (w : World) (v : Value) (l : List MA) : Prop := RowsIn 9 96 (AnS S w) S w v l
theorem AnsS.keep {S T : Nat → Prop} {w w' : World} {v : Value} {l : List MA} (h : AnsS S w v l) (hk : KeepsIn S w w') (hT : ∀ b, b < w.heap.size → S b → T b) : AnsS T w' v l :=
  RowsIn.keep h (by omega) (fun _ _ hr => anS_keep _ _ _ _ _ _ hr hk hT) hk hT
/-- A report as a value. -/
def RepV (S : Nat → Prop) (w : World) (v : Value) (r : MR) : Prop := ∃ aa ac oa oc, v = .agg (encR r (.slice aa r.2.2.1.length ac) (.slice oa r.2.2.2.2.2.length oc)) ∧ AnsS S w (.slice aa r.2.2.1.length ac) r.2.2.1 ∧ IntsIn S w (.slice oa r.2.2.2.2.2.length oc) r.2.2.2.2.2
section
variable {B bx o : Nat} {wr V V' : World} {rv : Nat} {t : TypeId} {cs : Array Value}
end
end Go.Proofs.YtkpomcimaofkkaaDoor.Rp
namespace Go.Proofs.YtkpomcimaofkkaaDoor
set_option linter.unusedVariables false
set_option linter.unusedSimpArgs false
open Go.RowKit

theorem rx_later {w w' : World} {a : Addr} {v : Value} (hb : Below w.heap.size w w') (h : w.cell? a = some v) : w'.cell? a = some v := (hb.cell (p := a) (World.block_lt_of_cell? _ _ h)).trans h
section
variable {P : Program} {ops : Array Oper} {Q : Exit → Act → World → Prop} {w0 : World} {frame : (Nat → Value) → Act} {R : Nat → Value → World → Prop} {i : Nat} {o : Oper}
/-- An operation with a guard that is c. -/
theorem ask_if (c : Bool) (hput : ∀ val v, (frame val).put o.dst v = frame (upV val i v)) (hy : ∀ val w, depsAll R val w o.after.toList → Region.wanted o (yielded ops (frame val).tmps) = c)
    (h : c = true → ∀ val w, Below w0.heap.size w0 w → depsAll R val w o.after.toList → OpDoes P Q R i o (frame val) w) (hn : c = false → ∀ w, R i undef w) : OpAsk P ops Q w0 frame R i o := by
  intro val w hb hd
  have hw := hy val w hd
  cases c with
  | true =>
    rw [if_pos hw]
    exact h rfl val w hb hd _ (fun v w' hv hw => ⟨v, hput val v, hv, hw⟩)
  | false =>
    rw [if_neg (by rw [hw]; simp)]
    exact ⟨hput val undef, hn rfl w⟩
theorem pick_and {ρ : Operand → Value} {w : World} {c a b : Operand} {p q r : Bool} (ho : o.op = .pick c a b) (hb : ρ b = .bool false) (hc : ρ c = .bool p) (ha : p = true → ρ a = .bool q) (e : (p && q) = r) : (execOp ρ o).run P w = .ok (.value (.bool r)) w := by
  cases p with
  | true =>
    have e' : q = r := by simpa using e
    simp [execOp, ho, hc, ha rfl, e', go_sem]
  | false =>
    have e' : false = r := by simpa using e
    simp [execOp, ho, hc, hb, ← e', go_sem]
theorem pick_or {ρ : Operand → Value} {w : World} {c a b : Operand} {p q r : Bool} (ho : o.op = .pick c a b) (ha : ρ a = .bool true) (hc : ρ c = .bool p) (hb : p = false → ρ b = .bool q) (e : (p || q) = r) : (execOp ρ o).run P w = .ok (.value (.bool r)) w := by
  cases p with
  | true =>
    have e' : true = r := by simpa using e
    simp [execOp, ho, hc, ha, ← e', go_sem]
  | false =>
    have e' : q = r := by simpa using e
    simp [execOp, ho, hc, hb rfl, e', go_sem]
end
end Go.Proofs.YtkpomcimaofkkaaDoor
namespace Go.Proofs.YtkpomcimaofkkaaDoor
set_option linter.unusedVariables false
set_option linter.unusedSimpArgs false
open Go.RowKit

theorem hid {p : Prop} (h : p) : Hid p := h


theorem refLetter_any (c : Nat) (w : World) : Calls Tryd.prog 65 #[.int .u8 c] w fun e w' => e = .returned (.bool (isSm c)) ∧ w' = w := by
  by_cases h1 : (97 : Int) ≤ (c : Int)
  · by_cases h2 : (c : Int) ≤ 122
    · have r := hid (show isSm c = true from isSm_iff.2 (by omega))
      go_enter Tryd.func65, Tryd.ntmps65
      go_wp2
      go_ret
      exact ⟨by rw [r.out]; rfl, rfl⟩
    · have r : isSm c = false := isSm_no.2 (by omega)
      go_enter Tryd.func65, Tryd.ntmps65
      go_wp2
      go_ret
      exact ⟨rfl, rfl⟩
  · have r : isSm c = false := isSm_no.2 (by omega)
    go_enter Tryd.func65, Tryd.ntmps65
    go_wp2
    go_ret
    exact ⟨rfl, rfl⟩

theorem refDigit_any (c : Nat) (w : World) : Calls Tryd.prog 66 #[.int .u8 c] w fun e w' => e = .returned (.bool (isDg c)) ∧ w' = w := by
  by_cases h1 : (48 : Int) ≤ (c : Int)
  · by_cases h2 : (c : Int) ≤ 57
    · have r := hid (show isDg c = true from isDg_iff.2 (by omega))
      go_enter Tryd.func66, Tryd.ntmps66
      go_wp2
      go_ret
      exact ⟨by rw [r.out]; rfl, rfl⟩
    · have r : isDg c = false := isDg_no.2 (by omega)
      go_enter Tryd.func66, Tryd.ntmps66
      go_wp2
      go_ret
      exact ⟨rfl, rfl⟩
  · have r : isDg c = false := isDg_no.2 (by omega)
    go_enter Tryd.func66, Tryd.ntmps66
    go_wp2
    go_ret
    exact ⟨rfl, rfl⟩

end Go.Proofs.YtkpomcimaofkkaaDoor
namespace Go.Proofs.YtkpomcimaofkkaaDoor
set_option linter.unusedVariables false
set_option linter.unusedSimpArgs false
open Go.RowKit

theorem dg_c (c : Nat) (w : World) : Calls Tryd.prog 66 #[.int .u8 c] w fun e w' => e = .returned (.bool (isDg c)) ∧ w = w' := (refDigit_any c w).mono fun _ _ h => ⟨h.1, h.2.symm⟩
theorem lt_c (c : Nat) (w : World) : Calls Tryd.prog 65 #[.int .u8 c] w fun e w' => e = .returned (.bool (isSm c)) ∧ w = w' := (refLetter_any c w).mono fun _ _ h => ⟨h.1, h.2.symm⟩

end Go.Proofs.YtkpomcimaofkkaaDoor
namespace Go.Proofs.YtkpomcimaofkkaaDoor
set_option linter.unusedVariables false
set_option linter.unusedSimpArgs false
open Go.RowKit

theorem ret_b {b c : Bool} (h : c = b) : Ending.returned (.bool b) = .returned (.bool c) := by rw [h]

/-- A word, by its bytes. -/
def isWordL : List UInt8 → Bool
  | [] => false
  | b :: r => isSm b.toNat && r.all (fun x => isWd x.toNat)
def isWordB (s : ByteArray) : Bool := isWordL s.data.toList
def keyOk (s : ByteArray) : Bool := isWordB s && decide (s.size ≤ 6)

theorem all_bl (s : ByteArray) : s.data.toList = bl s 0 s.size := by
  have := extract_bl s 0 s.size (Nat.le_refl _)
  rwa [extract_all] at this

theorem word_form {s : ByteArray} (h : isWordB s = true) : ∃ b r, s.data.toList = b :: r ∧ isSm b.toNat = true ∧ ∀ x ∈ r, isWd x.toNat = true := by
  unfold isWordB at h
  cases hl : s.data.toList with
  | nil => rw [hl] at h; cases h
  | cons b r =>
    rw [hl] at h
    simp only [isWordL, Bool.and_eq_true, List.all_eq_true] at h
    exact ⟨b, r, rfl, h.1, h.2⟩
theorem word_of {s : ByteArray} {b : UInt8} {r : List UInt8} (h : s.data.toList = b :: r) (hb : isSm b.toNat = true) (hr : ∀ x ∈ r, isWd x.toNat = true) : isWordB s = true := by
  unfold isWordB; rw [h]
  simp only [isWordL, Bool.and_eq_true, List.all_eq_true]
  exact ⟨hb, hr⟩

theorem key_long {s : ByteArray} (h6 : 6 < s.size) : keyOk s = false := by
  unfold keyOk
  have : decide (s.size ≤ 6) = false := by simpa using h6
  rw [this, Bool.and_false]

theorem bl_zero {s : ByteArray} (h : 0 < s.size) : ∃ n, s.size = n + 1 ∧ s.data.toList = UInt8.ofNat (bt s 0) :: bl s 1 n := by
  obtain ⟨n, hn⟩ : ∃ n, s.size = n + 1 := ⟨s.size - 1, by omega⟩
  refine ⟨n, hn, ?_⟩
  rw [all_bl, hn]; rfl
theorem wordB_none {s : ByteArray} (h : ¬ 0 < s.size) : isWordB s = false := by
  unfold isWordB
  have : s.data.toList = [] := List.length_eq_zero_iff.1 (by rw [Array.length_toList]; show s.size = 0; omega)
  rw [this]; rfl
theorem wordB_first {s : ByteArray} (h : 0 < s.size) (h0 : isSm (bt s 0) = false) : isWordB s = false := by
  obtain ⟨n, _, e⟩ := bl_zero h
  unfold isWordB; rw [e]
  show (isSm (UInt8.ofNat (bt s 0)).toNat && _) = false
  rw [toNat_bt, h0]; rfl
theorem wordB_miss {s : ByteArray} {j : Nat} (h : j < s.size) (h0 : isWd (bt s j) = false) : isWordB s = false := by
  cases hw : isWordB s with
  | false => rfl
  | true =>
    obtain ⟨b, r, e, hb, hr⟩ := word_form hw
    have hj : s.data.toList[j]? = some (s.data.toList[j]'(by simpa using h)) := List.getElem?_eq_getElem _
    have hbt := bt_list hj
    have hm : s.data.toList[j]'(by simpa using h) ∈ b :: r := by rw [← e]; exact List.getElem_mem _
    rw [hbt] at h0
    rcases List.mem_cons.1 hm with e1 | e1
    · rw [e1] at h0; simp [isWd, hb] at h0
    · rw [hr _ e1] at h0; cases h0
theorem wordB_all {s : ByteArray} (h : 0 < s.size) (h0 : isSm (bt s 0) = true) (ha : ∀ j, j < s.size → isWd (bt s j) = true) : isWordB s = true := by
  obtain ⟨n, hn, e⟩ := bl_zero h
  refine word_of e (by rw [toNat_bt]; exact h0) (fun x hx => ?_)
  obtain ⟨j, hj, ex⟩ := mem_bl hx
  rw [ex]; exact ha _ (by omega)

set_option maxHeartbeats 1000000 in
set_option maxRecDepth 100000 in
/-- The reference's IsWord. -/
theorem isWord_any (s : ByteArray) (w : World) (hs : s.size ≤ 9223372036854775806) :
    Calls Tryd.prog 59 #[.string s] w fun e w' => e = .returned (.bool (isWordB s)) ∧ w' = w := by
  by_cases h0 : 0 < s.size
  · have hne : (s.toList == []) = false := by
      rw [ByteArray.toList_eq]
      cases h : s.data.toList with
      | nil =>
        have h1 : s.data.toList.length = 0 := by rw [h]; rfl
        rw [Array.length_toList] at h1
        have e : s.data.size = s.size := rfl
        omega
      | cons _ _ => rfl
    have hne2 : ¬ s.toList = [] := by intro h; rw [h] at hne; cases hne
    have hne3 : s.toList.isEmpty = false := by simpa using hne2
    have h0i : (0 : Int) < (s.size : Int) := by omega
    have HB0 := hid (bt_get h0)
    cases q0 : isSm (s[0]'h0).toNat with
    | false =>
      have HK := hid (wordB_first h0 (by rw [← HB0.out]; exact q0))
      go_enter Tryd.func59, Tryd.ntmps59
      go_wp2_with (go_at_call 65; refine (lt_c _ _).mono ?_; rintro e w' ⟨rfl, rfl⟩)
      go_ret
      exact ⟨ret_b HK.out, rfl⟩
    | true =>
      have HK0 : Hid (isSm (bt s 0) = true) := by show isSm (bt s 0) = true; rw [← HB0.out]; exact q0
      go_enter Tryd.func59, Tryd.ntmps59
      go_wp2_with (go_at_call 65; refine (lt_c _ _).mono ?_; rintro e w' ⟨rfl, rfl⟩)
      go_loopg [3] s.size (fun g t wr => ∃ k : Nat, k ≤ s.size ∧ s.size - k ≤ g ∧ t = .int .i64 k ∧ wr = w ∧ Aside (∀ j, j < k → isWd (bt s j) = true))
      case atStart => exact ⟨0, Nat.zero_le _, by omega, rfl, rfl, fun j h => by omega⟩
      case round =>
        obtain ⟨k, hk, hg, rfl, rfl, A⟩ := hrel
        by_cases hlt : k < s.size
        · have hlti : (k : Int) < (s.size : Int) := by omega
          have HB := hid (bt_get hlt)
          cases q1 : isSm (s[k]'hlt).toNat with
          | true =>
            go_wp2_with (go_at_call 65; refine (lt_c _ _).mono ?_; rintro e w' ⟨rfl, rfl⟩)
            go_roundg (s.size - (k + 1))
            case measure => omega
            case rel =>
              refine ⟨k + 1, by omega, by omega, by go_num, rfl, (show Aside _ from fun j h2 => ?_)⟩
              by_cases e : j = k
              · subst e; rw [← HB.out]; simp [isWd, q1]
              · exact A.out j (by omega)
          | false =>
            cases q2 : isDg (s[k]'hlt).toNat with
            | true =>
              go_wp2_with (first | (go_at_call 65; refine (lt_c _ _).mono ?_; rintro e w' ⟨rfl, rfl⟩) | (go_at_call 66; refine (dg_c _ _).mono ?_; rintro e w' ⟨rfl, rfl⟩))
              go_roundg (s.size - (k + 1))
              case measure => omega
              case rel =>
                refine ⟨k + 1, by omega, by omega, by go_num, rfl, (show Aside _ from fun j h2 => ?_)⟩
                by_cases e : j = k
                · subst e; rw [← HB.out]; simp [isWd, q1, q2]
                · exact A.out j (by omega)
            | false =>
              have HK := hid (wordB_miss hlt (by rw [← HB.out]; simp [isWd, q1, q2]))
              go_wp2_with (first | (go_at_call 65; refine (lt_c _ _).mono ?_; rintro e w' ⟨rfl, rfl⟩) | (go_at_call 66; refine (dg_c _ _).mono ?_; rintro e w' ⟨rfl, rfl⟩))
              go_ret
              exact ⟨ret_b HK.out, rfl⟩
        · have hlti : ¬ (k : Int) < (s.size : Int) := by omega
          have HK := hid (wordB_all h0 HK0.out (fun j hj => A.out j (by omega)))
          go_wp2_with fail
          go_ret
          exact ⟨ret_b HK.out, rfl⟩
  · have HK := hid (wordB_none h0)
    have hz : s.toList = [] := by rw [ByteArray.toList_eq]; exact List.length_eq_zero_iff.1 (by rw [Array.length_toList]; show s.size = 0; omega)
    have he : s.toList.isEmpty = true := by rw [hz]; rfl
    go_enter Tryd.func59, Tryd.ntmps59
    go_wp2_with fail
    go_ret
    exact ⟨ret_b HK.out, rfl⟩

/-- The reference's IsKey. -/
theorem refKey_any (s : ByteArray) (w : World) (hs : s.size ≤ 9223372036854775806) :
    Calls Tryd.prog 51 #[.string s] w fun e w' => e = .returned (.bool (keyOk s)) ∧ w' = w := by
  have H := hid (isWord_any s w hs)
  unfold keyOk
  cases hw : isWordB s with
  | false =>
    rw [hw] at H
    go_enter Tryd.func51, Tryd.ntmps51
    go_wp2_with fail
    refine H.out.mono ?_
    rintro e w1 ⟨rfl, rfl⟩
    go_wp2_with fail
    go_ret
    exact ⟨rfl, rfl⟩
  | true =>
    rw [hw] at H
    by_cases h6 : s.size ≤ 6
    · have h6i : (s.size : Int) ≤ 6 := by omega
      have e6 : decide (s.size ≤ 6) = true := by simpa using h6
      go_enter Tryd.func51, Tryd.ntmps51
      go_wp2_with fail
      refine H.out.mono ?_
      rintro e w1 ⟨rfl, rfl⟩
      go_wp2_with fail
      go_ret
      exact ⟨ret_b (by rw [e6]; rfl), rfl⟩
    · have h6i : ¬ (s.size : Int) ≤ 6 := by omega
      have e6 : decide (s.size ≤ 6) = false := by simpa using h6
      go_enter Tryd.func51, Tryd.ntmps51
      go_wp2_with fail
      refine H.out.mono ?_
      rintro e w1 ⟨rfl, rfl⟩
      go_wp2_with fail
      go_ret
      exact ⟨ret_b (by rw [e6]; symm; simpa using h6i), rfl⟩
theorem kSmall_any (c : Nat) (w : World) : Calls Tryd.prog 58 #[.int .u8 c] w fun e w' => e = .returned (.bool (isSm c)) ∧ w = w' := by
  by_cases h1 : (97 : Int) ≤ (c : Int)
  · by_cases h2 : (c : Int) ≤ 122
    · have r := hid (show isSm c = true from isSm_iff.2 (by omega))
      go_enter Tryd.func58, Tryd.ntmps58
      go_wp2
      go_ret
      exact ⟨by rw [r.out]; rfl, rfl⟩
    · have r : isSm c = false := isSm_no.2 (by omega)
      go_enter Tryd.func58, Tryd.ntmps58
      go_wp2
      go_ret
      exact ⟨rfl, rfl⟩
  · have r : isSm c = false := isSm_no.2 (by omega)
    go_enter Tryd.func58, Tryd.ntmps58
    go_wp2
    go_ret
    exact ⟨rfl, rfl⟩
theorem kDigit_any (c : Nat) (w : World) : Calls Tryd.prog 57 #[.int .u8 c] w fun e w' => e = .returned (.bool (isDg c)) ∧ w = w' := by
  by_cases h1 : (48 : Int) ≤ (c : Int)
  · by_cases h2 : (c : Int) ≤ 57
    · have r := hid (show isDg c = true from isDg_iff.2 (by omega))
      go_enter Tryd.func57, Tryd.ntmps57
      go_wp2
      go_ret
      exact ⟨by rw [r.out]; rfl, rfl⟩
    · have r : isDg c = false := isDg_no.2 (by omega)
      go_enter Tryd.func57, Tryd.ntmps57
      go_wp2
      go_ret
      exact ⟨rfl, rfl⟩
  · have r : isDg c = false := isDg_no.2 (by omega)
    go_enter Tryd.func57, Tryd.ntmps57
    go_wp2
    go_ret
    exact ⟨rfl, rfl⟩
theorem key_word {s : ByteArray} (h : isWordB s = false) : keyOk s = false := by unfold keyOk; rw [h]; rfl
theorem below_bytes (w : World) (e : TypeId) (s : ByteArray) : Below w.heap.size w (Lib.bytesWorld w e s) :=
  ⟨rfl, rfl, rfl, by rw [Lib.bytesWorld_size]; omega, fun b hb => Lib.bytesWorld_at_old w e s b hb⟩

set_option maxHeartbeats 2000000 in
set_option maxRecDepth 100000 in
/-- The code's keys.Is. -/
theorem isKey_all (s : ByteArray) (w : World) :
    Calls Tryd.prog 49 #[.string s] w fun e w' => e = .returned (.bool (keyOk s)) ∧ Below w.heap.size w w' := by
  by_cases h0 : 0 < s.size
  · have hne : (s.toList == []) = false := by
      rw [ByteArray.toList_eq]
      cases h : s.data.toList with
      | nil =>
        have h1 : s.data.toList.length = 0 := by rw [h]; rfl
        rw [Array.length_toList] at h1
        have e : s.data.size = s.size := rfl
        omega
      | cons _ _ => rfl
    have hne2 : ¬ s.toList = [] := by intro h; rw [h] at hne; cases hne
    have hne3 : s.toList.isEmpty = false := by simpa using hne2
    have h0i : (0 : Int) < (s.size : Int) := by omega
    by_cases h6 : 6 < s.size
    · have h6i : (6 : Int) < (s.size : Int) := by omega
      have HK := hid (key_long h6)
      go_enter Tryd.func49, Tryd.ntmps49
      go_wp2_with fail
      go_ret
      exact ⟨ret_b HK.out, Below.refl _ _⟩
    · have h6i : ¬ (6 : Int) < (s.size : Int) := by omega
      have HB0 := hid (bt_get h0)
      cases q0 : isDg (s[0]'h0).toNat with
      | true =>
        have HK := hid (key_word (wordB_first h0 (by rw [← HB0.out]; rw [isDg_iff] at q0; exact isSm_no.2 (by omega))))
        go_enter Tryd.func49, Tryd.ntmps49
        go_wp2_with (go_at_call 57; refine (kDigit_any _ _).mono ?_; rintro e w' ⟨rfl, rfl⟩)
        go_ret
        exact ⟨ret_b HK.out, Below.refl _ _⟩
      | false =>
        have hcv := Lib.run_convert_string_bytes w 9 31 5 s Tryd.underlying9 Tryd.underlying31 Tryd.underlying5
        generalize grownCap w s.size 0 5 = gc at hcv
        have HD0 : Hid (isDg (bt s 0) = false) := by show isDg (bt s 0) = false; rw [← HB0.out]; exact q0
        have HCB : Hid (∀ k (hk : k < s.size), (Lib.bytesWorld w 5 s).cell? ⟨w.heap.size, k, none⟩ = some (.int .u8 (((s[k]'hk).toNat : Nat) : Int))) := fun k hk => by
          rw [Lib.bytesWorld_cell w 5 s k hk]
          have e : s.data.toList.getD k 0 = s[k]'hk := by
            simp [List.getD, hk]
            rfl
          rw [e]
        have HBB := hid (below_bytes w 5 s)
        generalize Lib.bytesWorld w 5 s = wb at *
        go_enter Tryd.func49, Tryd.ntmps49
        go_wp2_with (go_at_call 57; refine (kDigit_any _ _).mono ?_; rintro e w' ⟨rfl, rfl⟩)
        go_loopg [4, 20] s.size (fun g _ t wr => ∃ k : Nat, k ≤ s.size ∧ s.size - k ≤ g ∧ t = .int .i64 k ∧ wr = wb ∧ Aside (∀ j, j < k → isWd (bt s j) = true))
        case atStart => exact ⟨0, Nat.zero_le _, by omega, rfl, rfl, fun j h => by omega⟩
        case round =>
          obtain ⟨k, hk, hg, rfl, rfl, A⟩ := hrel
          by_cases hlt : k < s.size
          · have hlti : (k : Int) < (s.size : Int) := by omega
            have hcell := HCB.out k hlt
            have HB := hid (bt_get hlt)
            cases q1 : isSm (s[k]'hlt).toNat with
            | true =>
              go_wp2_with (go_at_call 58; refine (kSmall_any _ _).mono ?_; rintro e w' ⟨rfl, rfl⟩)
              go_roundg (s.size - (k + 1))
              case measure => omega
              case rel =>
                refine ⟨k + 1, by omega, by omega, by go_num, rfl, (show Aside _ from fun j h2 => ?_)⟩
                by_cases e : j = k
                · subst e; rw [← HB.out]; simp [isWd, q1]
                · exact A.out j (by omega)
            | false =>
              cases q2 : isDg (s[k]'hlt).toNat with
              | true =>
                go_wp2_with (first | (go_at_call 58; refine (kSmall_any _ _).mono ?_; rintro e w' ⟨rfl, rfl⟩) | (go_at_call 57; refine (kDigit_any _ _).mono ?_; rintro e w' ⟨rfl, rfl⟩))
                go_roundg (s.size - (k + 1))
                case measure => omega
                case rel =>
                  refine ⟨k + 1, by omega, by omega, by go_num, rfl, (show Aside _ from fun j h2 => ?_)⟩
                  by_cases e : j = k
                  · subst e; rw [← HB.out]; simp [isWd, q1, q2]
                  · exact A.out j (by omega)
              | false =>
                have HK := hid (key_word (wordB_miss hlt (by rw [← HB.out]; simp [isWd, q1, q2])))
                go_wp2_with (first | (go_at_call 58; refine (kSmall_any _ _).mono ?_; rintro e w' ⟨rfl, rfl⟩) | (go_at_call 57; refine (kDigit_any _ _).mono ?_; rintro e w' ⟨rfl, rfl⟩))
                go_ret
                exact ⟨ret_b HK.out, HBB.out⟩
          · have hnlt : ¬ (k : Int) < (s.size : Int) := by omega
            have HK : Hid (keyOk s = true) := by
              have h1 : isWordB s = true := wordB_all h0 (by
                have := A.out 0 (by omega)
                unfold isWd at this
                rw [HD0.out, Bool.or_false] at this
                exact this) (fun j hj => A.out j (by omega))
              show keyOk s = true
              unfold keyOk
              rw [h1, decide_eq_true (show s.size ≤ 6 by omega)]
              rfl
            go_wp2_with fail
            go_ret
            exact ⟨ret_b HK.out, HBB.out⟩
  · have HK := hid (key_word (wordB_none h0))
    have hz : s.toList = [] := by rw [ByteArray.toList_eq]; exact List.length_eq_zero_iff.1 (by rw [Array.length_toList]; show s.size = 0; omega)
    have he : s.toList.isEmpty = true := by rw [hz]; rfl
    have hzz : (s.toList == []) = true := by rw [hz]; rfl
    go_enter Tryd.func49, Tryd.ntmps49
    go_wp2_with fail
    go_ret
    exact ⟨ret_b HK.out, Below.refl _ _⟩


end Go.Proofs.YtkpomcimaofkkaaDoor
