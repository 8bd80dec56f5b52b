/-
  A report's text, plain: dependencies, anomalies and orders: the code's reader and the document's answer alike.
  A report's text, plain: the code's reader and the document's answer alike.
  A report's text, plain: the code's reader and the document's answer alike over a whole text.
-/
import Derived.Test.YtkpomcimaofkkaaGreatDoorU3
namespace Go.Proofs.YtkpomcimaofkkaaGreatDoor.Rp
set_option linter.unusedVariables false
set_option linter.unusedSimpArgs false
open Go.RowKit

theorem tok_text {t : MTok} (h : TokOk t) : ¬ (t.2.2.1.toList == (⟨#[]⟩ : ByteArray).toList) = true := by
  intro e
  have e1 := (Lib.bytes_beq_iff _ _).1 e
  have e2 : tx t = [] := by show t.2.2.1.data.toList = _; rw [e1]
  rcases h with ⟨_, _, b, r, h, _⟩ | ⟨_, _, _, h⟩ | ⟨_, _, b, h, _⟩ | ⟨_, _, h⟩
  · rw [e2] at h; cases h
  · rw [e2] at h
    unfold decimal at h
    split at h
    · have hl := dec_len (v := t.2.2.2.toNat) (by omega)
      rw [← h] at hl
      simp at hl
    · cases h
  · rw [e2] at h; cases h
  · rw [e2] at h; cases h
def rqKind (r : Qr) : Int × Qr := (1 + (rqOne rkindWs 0 r).1, (rqOne rkindWs 0 r).2)
def labN (n : Int) : Int := if n = 0 then 1 else if n = 1 then 2 else if n = 2 then 4 else 8
def rqLabel (r : Qr) : Int × Qr := (labN (rqOne rlabelWs 0 r).1, (rqOne rlabelWs 0 r).2)
theorem qOne_map {ws rws : List ByteArray} {f : Int → Int} {l : List MTok} (hl : Toks l)
    (h : ∀ x : ByteArray, ¬ (x.toList == (⟨#[]⟩ : ByteArray).toList) = true → (idxB x ws 0).map (fun n => (n : Int)) = (idxB x rws 0).map fun n => f n) : qOne ws l = andQ (qOne rws l) fun n r => some (f n, r) := by
  cases l with
  | nil => rfl
  | cons t r =>
    by_cases h1 : t.1 = 1
    · have e : qTake 1 (t :: r) = some (t, r) := if_pos h1
      unfold qOne
      rw [e]
      have hx := h t.2.2.1 (tok_text (hl t (List.mem_cons_self ..)))
      show (match idxB t.2.2.1 ws 0 with
        | some n => some ((n : Int), r)
        | none => none) = andQ (match idxB t.2.2.1 rws 0 with
        | some n => some ((n : Int), r)
        | none => none) fun n r => some (f n, r)
      cases ha : idxB t.2.2.1 ws 0 <;> cases hb : idxB t.2.2.1 rws 0 <;> rw [ha, hb] at hx <;> simp at hx
      · rfl
      · show some ((_ : Int), r) = some (f _, r)
        rw [hx]
    · have e : qTake 1 (t :: r) = none := if_neg h1
      unfold qOne
      rw [e]; rfl
theorem kind_sim {l : List MTok} (hl : Toks l) : SimQ l (qOne kindWs l) (rqKind (l, false)) := by
  rw [qOne_map (rws := rkindWs) (f := fun n => 1 + n) hl (fun x hx => ?_)]
  · exact SimQ.bind (fun n r => some (1 + n, r)) (fun n r => (1 + n, r)) (one_sim (by decide) l) (fun _ _ _ => ⟨rfl, List.suffix_refl _⟩) (fun _ _ => rfl)
  · have e : idxB x kindWs 0 = idxB x rkindWs 1 := by
      show idxB x (⟨#[]⟩ :: rkindWs) 0 = _
      conv => lhs; unfold idxB
      rw [if_neg hx]
    rw [e, idxB_shift]
    cases idxB x rkindWs 0 with
    | none => rfl
    | some n => show some (((n + 1 : Nat) : Int)) = some (1 + (n : Int)); congr 1; omega
theorem label_sim {l : List MTok} (hl : Toks l) : SimQ l (qOne labelWs l) (rqLabel (l, false)) := by
  rw [qOne_map (rws := rlabelWs) (f := labN) hl (fun x hx => ?_)]
  · exact SimQ.bind (fun n r => some (labN n, r)) (fun n r => (labN n, r)) (one_sim (by decide) l) (fun _ _ _ => ⟨rfl, List.suffix_refl _⟩) (fun _ _ => rfl)
  · have e : labelWs = [⟨#[]⟩, ⟨#[119, 119]⟩, ⟨#[119, 114]⟩, ⟨#[]⟩, ⟨#[114, 119]⟩, ⟨#[]⟩, ⟨#[]⟩, ⟨#[]⟩, ⟨#[114, 116]⟩] := rfl
    have e' : rlabelWs = [⟨#[119, 119]⟩, ⟨#[119, 114]⟩, ⟨#[114, 119]⟩, ⟨#[114, 116]⟩] := rfl
    rw [e, e']
    have hx' : (x.toList == (⟨#[]⟩ : ByteArray).toList) = false := by simpa using hx
    simp only [idxB, hx']
    generalize (x.toList == (⟨#[119, 119]⟩ : ByteArray).toList) = b1
    generalize (x.toList == (⟨#[119, 114]⟩ : ByteArray).toList) = b2
    generalize (x.toList == (⟨#[114, 119]⟩ : ByteArray).toList) = b3
    generalize (x.toList == (⟨#[114, 116]⟩ : ByteArray).toList) = b4
    cases b1 <;> cases b2 <;> cases b3 <;> cases b4 <;> rfl
def rqDep (r : Qr) : MW × Qr :=
  let r1 := (rqTake r 3 mFrom).2
  let r2 := (rqNum r1).2
  let r3 := (rqLabel r2).2
  let r4 := (rqNum r3).2
  let r5 := (rqKey r4).2
  let r6 := (rqNum r5).2
  let r7 := (rqNum r6).2
  let r8 := (rqEither wNil wValue r7).2
  let r9 := (rqEither wCond wSure r8).2
  (((rqNum r1).1, (rqNum r3).1, (rqLabel r2).1, (rqKey r4).1, (rqNum r5).1, (rqNum r6).1, (rqEither wNil wValue r7).1, (rqEither wCond wSure r8).1), (rqTake r9 3 mTo).2)
theorem rqLabel_bad (l : List MTok) : rqLabel (l, true) = (1, (l, true)) := by unfold rqLabel; rw [rqOne_bad]; rfl
theorem rqKind_bad (l : List MTok) : rqKind (l, true) = (1, (l, true)) := by unfold rqKind; rw [rqOne_bad]; rfl
theorem rqEither_bad (y n : ByteArray) (l : List MTok) : rqEither y n (l, true) = (true, (l, true)) := by unfold rqEither; rw [rqOne_bad]; rfl
def rqDep_8 (f b t : Int) (k : ByteArray) (x y : Int) (n : Bool) (r : Qr) : MW × Qr := let r9 := (rqEither wCond wSure r).2
  ((f, t, b, k, x, y, n, (rqEither wCond wSure r).1), (rqTake r9 3 mTo).2)
def rqDep_7 (f b t : Int) (k : ByteArray) (x y : Int) (r : Qr) : MW × Qr := rqDep_8 f b t k x y (rqEither wNil wValue r).1 (rqEither wNil wValue r).2
def rqDep_6 (f b t : Int) (k : ByteArray) (x : Int) (r : Qr) : MW × Qr := rqDep_7 f b t k x (rqNum r).1 (rqNum r).2
def rqDep_5 (f b t : Int) (k : ByteArray) (r : Qr) : MW × Qr := rqDep_6 f b t k (rqNum r).1 (rqNum r).2
def rqDep_4 (f b t : Int) (r : Qr) : MW × Qr := rqDep_5 f b t (rqKey r).1 (rqKey r).2
def rqDep_3 (f b : Int) (r : Qr) : MW × Qr := rqDep_4 f b (rqNum r).1 (rqNum r).2
def rqDep_2 (f : Int) (r : Qr) : MW × Qr := rqDep_3 f (rqLabel r).1 (rqLabel r).2
def rqDep_1  (r : Qr) : MW × Qr := rqDep_2 (rqNum r).1 (rqNum r).2
theorem rqDep_8_bad (f b t : Int) (k : ByteArray) (x y : Int) (n : Bool) (l : List MTok) : (rqDep_8 f b t k x y n (l, true)).2.2 = true := by unfold rqDep_8; rw [rqEither_bad]; rfl
theorem rqDep_7_bad (f b t : Int) (k : ByteArray) (x y : Int) (l : List MTok) : (rqDep_7 f b t k x y (l, true)).2.2 = true := by unfold rqDep_7; rw [rqEither_bad]; exact rqDep_8_bad f b t k x y _ _
theorem rqDep_6_bad (f b t : Int) (k : ByteArray) (x : Int) (l : List MTok) : (rqDep_6 f b t k x (l, true)).2.2 = true := by unfold rqDep_6; rw [rqNum_bad]; exact rqDep_7_bad f b t k x _ _
theorem rqDep_5_bad (f b t : Int) (k : ByteArray) (l : List MTok) : (rqDep_5 f b t k (l, true)).2.2 = true := by unfold rqDep_5; rw [rqNum_bad]; exact rqDep_6_bad f b t k _ _
theorem rqDep_4_bad (f b t : Int) (l : List MTok) : (rqDep_4 f b t (l, true)).2.2 = true := by unfold rqDep_4; rw [rqKey_bad]; exact rqDep_5_bad f b t _ _
theorem rqDep_3_bad (f b : Int) (l : List MTok) : (rqDep_3 f b (l, true)).2.2 = true := by unfold rqDep_3; rw [rqNum_bad]; exact rqDep_4_bad f b _ _
theorem rqDep_2_bad (f : Int) (l : List MTok) : (rqDep_2 f (l, true)).2.2 = true := by unfold rqDep_2; rw [rqLabel_bad]; exact rqDep_3_bad f _ _
theorem rqDep_1_bad  (l : List MTok) : (rqDep_1  (l, true)).2.2 = true := by unfold rqDep_1; rw [rqNum_bad]; exact rqDep_2_bad  _ _
theorem dep_sim {l : List MTok} (hl : Toks l) : SimQ l (qDep l) (rqDep (l, false)) := by
  refine SimQ.bind (q := rqText (l, false) 3 mFrom) _ (fun _ r1 => (rqDep_1 r1)) (text_sim k_from (by decide) hl) (fun _ l1 s1 => ?_) (fun _ l => rqDep_1_bad l)
  have h1 := hl.suf s1
  refine SimQ.bind (q := rqNum (l1, false)) _ (fun f r => rqDep_2 f r) (num_sim l1) (fun f l2 s2 => ?_) (fun _ l => rqDep_2_bad _ l)
  have h2 := h1.suf s2
  refine SimQ.bind (q := rqLabel (l2, false)) _ (fun b r => rqDep_3 f b r) (label_sim h2) (fun b l3 s3 => ?_) (fun _ l => rqDep_3_bad _ _ l)
  have h3 := h2.suf s3
  refine SimQ.bind (q := rqNum (l3, false)) _ (fun t r => rqDep_4 f b t r) (num_sim l3) (fun t l4 s4 => ?_) (fun _ l => rqDep_4_bad _ _ _ l)
  have h4 := h3.suf s4
  refine SimQ.bind (q := rqKey (l4, false)) _ (fun k r => rqDep_5 f b t k r) (key_sim h4) (fun k l5 s5 => ?_) (fun _ l => rqDep_5_bad _ _ _ _ l)
  have h5 := h4.suf s5
  refine SimQ.bind (q := rqNum (l5, false)) _ (fun x r => rqDep_6 f b t k x r) (num_sim l5) (fun x l6 s6 => ?_) (fun _ l => rqDep_6_bad _ _ _ _ _ l)
  have h6 := h5.suf s6
  refine SimQ.bind (q := rqNum (l6, false)) _ (fun y r => rqDep_7 f b t k x y r) (num_sim l6) (fun y l7 s7 => ?_) (fun _ l => rqDep_7_bad _ _ _ _ _ _ l)
  have h7 := h6.suf s7
  refine SimQ.bind (q := rqEither wNil wValue (l7, false)) _ (fun n r => rqDep_8 f b t k x y n r) (either_sim k_nil k_value (by decide) (by decide) h7) (fun n l8 s8 => ?_) (fun _ l => rqDep_8_bad _ _ _ _ _ _ _ l)
  have h8 := h7.suf s8
  refine SimQ.bind (q := rqEither wCond wSure (l8, false)) _ (fun c r => ((f, t, b, k, x, y, n, c), (rqTake r 3 mTo).2)) (either_sim k_cond k_sure (by decide) (by decide) h8) (fun c l9 s9 => ?_) (fun _ l => rfl)
  exact SimQ.bind (q := rqText (l9, false) 3 mTo) _ (fun _ r => ((f, t, b, k, x, y, n, c), r)) (text_sim k_to (by decide) (h8.suf s9)) (fun _ _ _ => ⟨rfl, List.suffix_refl _⟩) (fun _ _ => rfl)
end Go.Proofs.YtkpomcimaofkkaaGreatDoor.Rp
namespace Go.Proofs.YtkpomcimaofkkaaGreatDoor.Rp
set_option linter.unusedVariables false
set_option linter.unusedSimpArgs false
open Go.RowKit

def rqDeps : Nat → Qr → List MW → List MW × Qr
  | 0, r, acc => (acc, r)
  | f + 1, r, acc => if rqIs r 3 mFrom then rqDeps f (rqDep r).2 (acc ++ [(rqDep r).1]) else (acc, r)
theorem rqDeps_bad (l : List MTok) : ∀ (f : Nat) (acc : List MW), rqDeps f (l, true) acc = (acc, (l, true))
  | 0, acc => rfl
  | f + 1, acc => if_neg (by rw [rqIs_bad]; simp)
theorem deps_sim : ∀ (f : Nat) {l : List MTok} (hl : Toks l) (acc : List MW), SimQ l (qDeps f l acc) (rqDeps f (l, false) acc)
  | 0, l, hl, acc => ⟨rfl, List.suffix_refl _⟩
  | f + 1, l, hl, acc => by
    unfold qDeps rqDeps
    rw [sees_is k_from (by decide) hl]
    split
    · exact SimQ.bind (fun x r => qDeps f r (acc ++ [x])) (fun x r => rqDeps f r (acc ++ [x])) (dep_sim hl) (fun x l1 s1 => deps_sim f (hl.suf s1) _) (fun x l1 => by rw [rqDeps_bad])
    · exact ⟨rfl, List.suffix_refl _⟩
def rqAn_9 (k : Int) (t : Int) (o : Int) (p : Int) (s : ByteArray) (v : Int) (e : Bool) (m : Int) (r : Qr) : MA × Qr :=
  let z := rqDeps (r.1.length + 1) r []
  ((k, t, o, p, s, v, z.1, e, m), z.2)
def rqAn_8 (k : Int) (t : Int) (o : Int) (p : Int) (s : ByteArray) (v : Int) (e : Bool) (r : Qr) : MA × Qr :=
  let z := rqOne levelWs 0 r
  rqAn_9 k t o p s v e z.1 z.2
def rqAn_7 (k : Int) (t : Int) (o : Int) (p : Int) (s : ByteArray) (v : Int) (r : Qr) : MA × Qr :=
  let z := rqEither wReal wPlain r
  rqAn_8 k t o p s v z.1 z.2
def rqAn_6 (k : Int) (t : Int) (o : Int) (p : Int) (s : ByteArray) (r : Qr) : MA × Qr :=
  let z := rqNum r
  rqAn_7 k t o p s z.1 z.2
def rqAn_5 (k : Int) (t : Int) (o : Int) (p : Int) (r : Qr) : MA × Qr :=
  let z := rqKey r
  rqAn_6 k t o p z.1 z.2
def rqAn_4 (k : Int) (t : Int) (o : Int) (r : Qr) : MA × Qr :=
  let z := rqNum r
  rqAn_5 k t o z.1 z.2
def rqAn_3 (k : Int) (t : Int) (r : Qr) : MA × Qr :=
  let z := rqNum r
  rqAn_4 k t z.1 z.2
def rqAn_2 (k : Int) (r : Qr) : MA × Qr :=
  let z := rqNum r
  rqAn_3 k z.1 z.2
def rqAn_1  (r : Qr) : MA × Qr :=
  let z := rqKind r
  rqAn_2  z.1 z.2
theorem rqAn_9_bad (k : Int) (t : Int) (o : Int) (p : Int) (s : ByteArray) (v : Int) (e : Bool) (m : Int) (l : List MTok) : (rqAn_9 k t o p s v e m (l, true)).2.2 = true := by unfold rqAn_9; rw [rqDeps_bad]
theorem rqAn_8_bad (k : Int) (t : Int) (o : Int) (p : Int) (s : ByteArray) (v : Int) (e : Bool) (l : List MTok) : (rqAn_8 k t o p s v e (l, true)).2.2 = true := by unfold rqAn_8; rw [rqOne_bad]; exact rqAn_9_bad k t o p s v e _ _
theorem rqAn_7_bad (k : Int) (t : Int) (o : Int) (p : Int) (s : ByteArray) (v : Int) (l : List MTok) : (rqAn_7 k t o p s v (l, true)).2.2 = true := by unfold rqAn_7; rw [rqEither_bad]; exact rqAn_8_bad k t o p s v _ _
theorem rqAn_6_bad (k : Int) (t : Int) (o : Int) (p : Int) (s : ByteArray) (l : List MTok) : (rqAn_6 k t o p s (l, true)).2.2 = true := by unfold rqAn_6; rw [rqNum_bad]; exact rqAn_7_bad k t o p s _ _
theorem rqAn_5_bad (k : Int) (t : Int) (o : Int) (p : Int) (l : List MTok) : (rqAn_5 k t o p (l, true)).2.2 = true := by unfold rqAn_5; rw [rqKey_bad]; exact rqAn_6_bad k t o p _ _
theorem rqAn_4_bad (k : Int) (t : Int) (o : Int) (l : List MTok) : (rqAn_4 k t o (l, true)).2.2 = true := by unfold rqAn_4; rw [rqNum_bad]; exact rqAn_5_bad k t o _ _
theorem rqAn_3_bad (k : Int) (t : Int) (l : List MTok) : (rqAn_3 k t (l, true)).2.2 = true := by unfold rqAn_3; rw [rqNum_bad]; exact rqAn_4_bad k t _ _
theorem rqAn_2_bad (k : Int) (l : List MTok) : (rqAn_2 k (l, true)).2.2 = true := by unfold rqAn_2; rw [rqNum_bad]; exact rqAn_3_bad k _ _
theorem rqAn_1_bad  (l : List MTok) : (rqAn_1  (l, true)).2.2 = true := by unfold rqAn_1; rw [rqKind_bad]; exact rqAn_2_bad  _ _
def rqAn (r : Qr) : MA × Qr := rqAn_1 (rqTake r 1 wAnomaly).2
theorem rqAn_bad (l : List MTok) : (rqAn (l, true)).2.2 = true := rqAn_1_bad l
theorem an_sim {l : List MTok} (hl : Toks l) : SimQ l (qAn l) (rqAn (l, false)) := by
  refine SimQ.bind (q := rqText (l, false) 1 wAnomaly) _ (fun _ r => rqAn_1 r) (text_sim k_anomaly (by decide) hl) (fun _ l0 s0 => ?_) (fun _ l => rqAn_1_bad l)
  have h0 := hl.suf s0
  refine SimQ.bind (q := rqKind (l0, false)) _ (fun k r => rqAn_2 k r) (kind_sim h0) (fun k l1 s1 => ?_) (fun _ l => rqAn_2_bad _ l)
  have h1 := h0.suf s1
  refine SimQ.bind (q := rqNum (l1, false)) _ (fun t r => rqAn_3 k t r) (num_sim l1) (fun t l2 s2 => ?_) (fun _ l => rqAn_3_bad _ _ l)
  have h2 := h1.suf s2
  refine SimQ.bind (q := rqNum (l2, false)) _ (fun o r => rqAn_4 k t o r) (num_sim l2) (fun o l3 s3 => ?_) (fun _ l => rqAn_4_bad _ _ _ l)
  have h3 := h2.suf s3
  refine SimQ.bind (q := rqNum (l3, false)) _ (fun p r => rqAn_5 k t o p r) (num_sim l3) (fun p l4 s4 => ?_) (fun _ l => rqAn_5_bad _ _ _ _ l)
  have h4 := h3.suf s4
  refine SimQ.bind (q := rqKey (l4, false)) _ (fun s r => rqAn_6 k t o p s r) (key_sim h4) (fun s l5 s5 => ?_) (fun _ l => rqAn_6_bad _ _ _ _ _ l)
  have h5 := h4.suf s5
  refine SimQ.bind (q := rqNum (l5, false)) _ (fun v r => rqAn_7 k t o p s v r) (num_sim l5) (fun v l6 s6 => ?_) (fun _ l => rqAn_7_bad _ _ _ _ _ _ l)
  have h6 := h5.suf s6
  refine SimQ.bind (q := rqEither wReal wPlain (l6, false)) _ (fun e r => rqAn_8 k t o p s v e r) (either_sim k_real k_plain (by decide) (by decide) h6) (fun e l7 s7 => ?_) (fun _ l => rqAn_8_bad _ _ _ _ _ _ _ l)
  have h7 := h6.suf s7
  refine SimQ.bind (q := rqOne levelWs 0 (l7, false)) _ (fun m r => rqAn_9 k t o p s v e m r) (one_sim (by decide) l7) (fun m l8 s8 => ?_) (fun _ l => rqAn_9_bad _ _ _ _ _ _ _ _ l)
  have h8 := h7.suf s8
  exact SimQ.bind (q := rqDeps (l8.length + 1) (l8, false) []) _ (fun c r => ((k, t, o, p, s, v, c, e, m), r)) (deps_sim _ h8 []) (fun _ _ _ => ⟨rfl, List.suffix_refl _⟩) (fun _ _ => rfl)
/-! Lines. -/
def rqLines (r : Qr) : Qr := if r.2 then r else (qLines r.1, false)
def rqLine (r : Qr) : Unit × Qr := ((), rqLines (if r.1 = [] then r else (rqTake r 4 ⟨#[]⟩).2))
/-- Nothing can be read any more. -/
def Lost (r : Qr) : Prop := r.2 = true ∨ r = ([], false)
def SimW {α : Type} (l : List MTok) (p : Qs α) (q : α × Qr) : Prop := match p with
  | some z => q = (z.1, (z.2, false)) ∧ z.2 <:+ l
  | none => Lost q.2
theorem SimQ.weak {α : Type} {l : List MTok} {p : Qs α} {q : α × Qr} (h : SimQ l p q) : SimW l p q := by
  cases p with
  | none => exact .inl h
  | some z => exact h
theorem SimW.bind {α β : Type} {l : List MTok} {p : Qs α} {q : α × Qr} (f : α → List MTok → Qs β) (g : α → Qr → β × Qr) (h : SimW l p q) (hf : ∀ x l', l' <:+ l → SimW l' (f x l') (g x (l', false)))
    (hg : ∀ x r, Lost r → Lost (g x r).2) : SimW l (andQ p f) (g q.1 q.2) := by
  cases p with
  | none => exact hg _ _ h
  | some z =>
    obtain ⟨h1, h2⟩ := h
    subst h1
    have h3 := hf z.1 z.2 h2
    show SimW l (f z.1 z.2) (g z.1 (z.2, false))
    cases e : f z.1 z.2 with
    | none => rw [e] at h3; exact h3
    | some y => rw [e] at h3; exact ⟨h3.1, h3.2.trans h2⟩
theorem SimW.strong {α β : Type} {l : List MTok} {p : Qs α} {q : α × Qr} (f : α → List MTok → Qs β) (g : α → Qr → β × Qr) (h : SimW l p q) (hf : ∀ x l', l' <:+ l → SimQ l' (f x l') (g x (l', false)))
    (hg : ∀ x r, Lost r → (g x r).2.2 = true) : SimQ l (andQ p f) (g q.1 q.2) := by
  cases p with
  | none => exact hg _ _ h
  | some z =>
    obtain ⟨h1, h2⟩ := h
    subst h1
    have h3 := hf z.1 z.2 h2
    show SimQ l (f z.1 z.2) (g z.1 (z.2, false))
    cases e : f z.1 z.2 with
    | none => rw [e] at h3; exact h3
    | some y => rw [e] at h3; exact ⟨h3.1, h3.2.trans h2⟩
theorem lost_text {r : Qr} (h : Lost r) (k : Int) (x : ByteArray) : (rqTake r k x).2.2 = true := by
  rcases h with h | h
  · obtain ⟨l, b⟩ := r
    have h' : b = true := h
    subst h'
    rfl
  · subst h; rfl
theorem lost_is {r : Qr} (h : Lost r) (k : Int) (x : ByteArray) : rqIs r k x = false := by
  rcases h with h | h
  · obtain ⟨l, b⟩ := r
    have h' : b = true := h
    subst h'
    rfl
  · subst h; rfl
theorem lost_line {r : Qr} (h : Lost r) : Lost (rqLine r).2 := by
  rcases h with h | h
  · obtain ⟨l, b⟩ := r
    have h' : b = true := h
    subst h'
    unfold rqLine
    by_cases e : l = []
    · rw [if_pos e]; exact .inl rfl
    · rw [if_neg e]; exact .inl rfl
  · subst h; exact .inr rfl
theorem lines_suf : ∀ (l : List MTok), qLines l <:+ l
  | [] => List.suffix_refl _
  | t :: r => by
    unfold qLines
    split
    · exact (lines_suf r).trans (List.suffix_cons _ _)
    · exact List.suffix_refl _
theorem lineEnd_sim (l : List MTok) : SimW l (qLineEnd l) (rqLine (l, false)) := by
  cases l with
  | nil => exact .inr rfl
  | cons t r =>
    have ht := take_sim (t :: r) 4
    unfold qLineEnd rqLine
    rw [if_neg (by simp)]
    by_cases h : t.1 = 4
    · have e : qTake 4 (t :: r) = some (t, r) := if_pos h
      rw [e] at ht ⊢
      rw [ht.1]
      exact ⟨rfl, (lines_suf r).trans (List.suffix_cons _ _)⟩
    · have e : qTake 4 (t :: r) = none := if_neg h
      rw [e] at ht ⊢
      have h2 : (rqTake (t :: r, false) 4 ⟨#[]⟩).2.2 = true := ht
      refine .inl ?_
      show (rqLines (rqTake (t :: r, false) 4 ⟨#[]⟩).2).2 = true
      unfold rqLines
      rw [if_pos h2]; exact h2
def rqAns : Nat → Qr → List MA → List MA × Qr
  | 0, r, acc => (acc, r)
  | f + 1, r, acc => if rqIs r 1 wAnomaly then rqAns f (rqLine (rqAn r).2).2 (acc ++ [(rqAn r).1]) else (acc, r)
theorem rqAns_lost {r : Qr} (h : Lost r) : ∀ (f : Nat) (acc : List MA), rqAns f r acc = (acc, r)
  | 0, acc => rfl
  | f + 1, acc => if_neg (by rw [lost_is h]; simp)
theorem ans_sim : ∀ (f : Nat) {l : List MTok} (hl : Toks l) (acc : List MA), SimW l (qAns f l acc) (rqAns f (l, false) acc)
  | 0, l, hl, acc => ⟨rfl, List.suffix_refl _⟩
  | f + 1, l, hl, acc => by
    unfold qAns rqAns
    rw [sees_is k_anomaly (by decide) hl]
    split
    · refine SimW.bind (q := rqAn (l, false)) (fun x r => andQ (qLineEnd r) fun _ r => qAns f r (acc ++ [x])) (fun x r => rqAns f (rqLine r).2 (acc ++ [x])) (an_sim hl).weak (fun x l1 s1 => ?_) (fun x r h => by rw [rqAns_lost (lost_line h)]; exact lost_line h)
      exact SimW.bind (q := rqLine (l1, false)) (fun _ r => qAns f r (acc ++ [x])) (fun _ r => rqAns f r (acc ++ [x])) (lineEnd_sim l1) (fun _ l2 s2 => ans_sim f ((hl.suf s1).suf s2) _) (fun _ r h => by rw [rqAns_lost h]; exact h)
    · exact ⟨rfl, List.suffix_refl _⟩
/-! An order. -/
def rqNums : Nat → Qr → List Int → List Int × Qr
  | 0, r, acc => (acc, r)
  | f + 1, r, acc => if rqIs r 2 ⟨#[]⟩ then rqNums f (rqNum r).2 (acc ++ [(rqNum r).1]) else (acc, r)
theorem rqNums_bad (l : List MTok) : ∀ (f : Nat) (acc : List Int), rqNums f (l, true) acc = (acc, (l, true))
  | 0, acc => rfl
  | f + 1, acc => if_neg (by rw [rqIs_bad]; simp)
def rqNumsTo (f : Nat) (r : Qr) (acc : List Int) : List Int × Qr := ((rqNums f r acc).1, (rqTake (rqNums f r acc).2 3 mClose).2)
theorem nums_sim : ∀ (f : Nat) {l : List MTok} (hl : Toks l) (acc : List Int), l.length < f →
    SimQ l (andQ (qNums f l acc) fun xs l => andQ (qText mClose l) fun _ l => some (xs, l)) (rqNumsTo f (l, false) acc)
  | 0, l, hl, acc, hf => absurd hf (by omega)
  | f + 1, l, hl, acc, hf => by
    have hc := sees_is k_close (by decide) hl
    cases hs : qSees l mClose with
    | true =>
      rw [hs] at hc
      have hn : rqIs (l, false) 2 ⟨#[]⟩ = false := by
        cases l with
        | nil => rfl
        | cons t r =>
          have h3 : (true && (t.1 == 3 && _)) = true := hc
          rw [is_any]
          simp at h3
          simp [h3.1]
      unfold qNums rqNumsTo rqNums
      rw [hs, if_pos rfl, if_neg (by rw [hn]; simp)]
      exact SimQ.bind (q := rqText (l, false) 3 mClose) (fun _ r => some (acc, r)) (fun _ r => (acc, r)) (text_sim k_close (by decide) hl) (fun _ _ _ => ⟨rfl, List.suffix_refl _⟩) (fun _ _ => rfl)
    | false =>
      rw [hs] at hc
      have hN := num_sim l
      by_cases hn : rqIs (l, false) 2 ⟨#[]⟩ = true
      · unfold qNums
        rw [hs, if_neg (by simp)]
        have e : rqNumsTo (f + 1) (l, false) acc = rqNumsTo f (rqNum (l, false)).2 (acc ++ [(rqNum (l, false)).1]) := by
          unfold rqNumsTo
          rw [show rqNums (f + 1) (l, false) acc = rqNums f (rqNum (l, false)).2 (acc ++ [(rqNum (l, false)).1]) from if_pos hn]
        rw [e]
        have e2 : (andQ (andQ (qNum l) fun x r => qNums f r (acc ++ [x])) fun xs l => andQ (qText mClose l) fun _ l => some (xs, l)) = andQ (qNum l) fun x r => andQ (qNums f r (acc ++ [x])) fun xs l => andQ (qText mClose l) fun _ l => some (xs, l) := by
          cases qNum l <;> rfl
        rw [e2]
        have hlt : ∀ z, qNum l = some z → z.2.length < l.length := by
          intro z hz
          cases l with
          | nil => cases hz
          | cons t r =>
            rw [is_any] at hn
            have h2 : t.1 = 2 := by simpa using hn
            have e3 : qTake 2 (t :: r) = some (t, r) := if_pos h2
            unfold qNum at hz
            rw [e3] at hz
            cases hz
            simp
        cases hq : qNum l with
        | none =>
          rw [hq] at hN
          have h2 : (rqNum (l, false)).2.2 = true := hN
          generalize rqNum (l, false) = w at h2 ⊢
          obtain ⟨a, b, c⟩ := w
          have : c = true := h2
          subst this
          show (rqNumsTo f (b, true) _).2.2 = true
          unfold rqNumsTo
          rw [rqNums_bad]; rfl
        | some z =>
          rw [hq] at hN
          rw [hN.1]
          have h3 := nums_sim f (hl.suf hN.2) (acc ++ [z.1]) (by have := hlt z hq; omega)
          show SimQ l (andQ (qNums f z.2 (acc ++ [z.1])) fun xs l => andQ (qText mClose l) fun _ l => some (xs, l)) (rqNumsTo f (z.2, false) (acc ++ [z.1]))
          cases e4 : (andQ (qNums f z.2 (acc ++ [z.1])) fun xs l => andQ (qText mClose l) fun _ l => some (xs, l)) with
          | none => rw [e4] at h3; exact h3
          | some y => rw [e4] at h3; exact ⟨h3.1, h3.2.trans hN.2⟩
      · have hn' : rqIs (l, false) 2 ⟨#[]⟩ = false := by simpa using hn
        have hq : qNum l = none := by
          cases l with
          | nil => rfl
          | cons t r =>
            rw [is_any] at hn'
            have e3 : qTake 2 (t :: r) = none := if_neg (by simpa using hn')
            unfold qNum
            rw [e3]; rfl
        unfold qNums rqNumsTo rqNums
        rw [hs, if_neg (by simp), if_neg hn, hq]
        show (rqTake (l, false) 3 mClose).2.2 = true
        rw [rqTake_no hc]
end Go.Proofs.YtkpomcimaofkkaaGreatDoor.Rp
namespace Go.Proofs.YtkpomcimaofkkaaGreatDoor.Rp
set_option linter.unusedVariables false
set_option linter.unusedSimpArgs false
open Go.RowKit

theorem rqLine_bad (l : List MTok) : rqLine (l, true) = ((), (l, true)) := by
  unfold rqLine
  by_cases e : l = []
  · rw [if_pos e]; rfl
  · rw [if_neg e]; rfl
theorem rqTake_badS {r : Qr} {k : Int} {x : ByteArray} (h : (rqTake r k x).2.2 = true) : ∃ l, (rqTake r k x).2 = (l, true) := ⟨(rqTake r k x).2.1, by rw [← h]⟩
def rqOrder (r : Qr) : List Int × Qr := let z := (rqTake r 3 mOpen).2; rqNumsTo (z.1.length + 1) z []
theorem rqOrder_bad (l : List MTok) : (rqOrder (l, true)).2.2 = true := by
  show (rqNumsTo (l.length + 1) (l, true) []).2.2 = true
  unfold rqNumsTo
  rw [rqNums_bad]; rfl
theorem order_sim {l : List MTok} (hl : Toks l) : SimQ l (qOrder l) (rqOrder (l, false)) :=
  SimQ.bind (q := rqText (l, false) 3 mOpen) _ (fun _ r => rqNumsTo (r.1.length + 1) r []) (text_sim k_open (by decide) hl) (fun _ l1 s1 => nums_sim (l1.length + 1) (hl.suf s1) [] (by omega)) (fun _ l => by unfold rqNumsTo; rw [rqNums_bad]; rfl)
/-- The whole: what is answered, and that nothing is left; or something is wrong, or left. -/
def SimE (p : Qs MR) (q : MR × Qr) : Prop := match p with
  | some z => q = (z.1, ([], false))
  | none => q.2.2 = true ∨ ¬ q.2.1 = []
theorem SimQ.whole {α : Type} {l : List MTok} {p : Qs α} {q : α × Qr} (f : α → List MTok → Qs MR) (g : α → Qr → MR × Qr) (h : SimQ l p q) (hf : ∀ x l', l' <:+ l → SimE (f x l') (g x (l', false)))
    (hg : ∀ x l', (g x (l', true)).2.2 = true) : SimE (andQ p f) (g q.1 q.2) := by
  cases p with
  | none =>
    obtain ⟨q1, q2, q3⟩ := q
    have h' : q3 = true := h
    subst h'
    exact .inl (hg q1 q2)
  | some z =>
    obtain ⟨h1, h2⟩ := h
    subst h1
    exact hf z.1 z.2 h2
theorem SimW.whole {α : Type} {l : List MTok} {p : Qs α} {q : α × Qr} (f : α → List MTok → Qs MR) (g : α → Qr → MR × Qr) (h : SimW l p q) (hf : ∀ x l', l' <:+ l → SimE (f x l') (g x (l', false)))
    (hg : ∀ x r, Lost r → (g x r).2.2 = true) : SimE (andQ p f) (g q.1 q.2) := by
  cases p with
  | none => exact .inl (hg _ _ h)
  | some z =>
    obtain ⟨h1, h2⟩ := h
    subst h1
    exact hf z.1 z.2 h2
theorem end_sim (x : MR) (l : List MTok) : SimE (qEnd x l) (x, (rqLine (l, false)).2) := by
  cases l with
  | nil => exact rfl
  | cons t r =>
    have ht := take_sim (t :: r) 4
    have hR : rqLine (t :: r, false) = ((), rqLines (rqTake (t :: r, false) 4 ⟨#[]⟩).2) := by unfold rqLine; rw [if_neg (by simp)]
    rw [hR]
    unfold qEnd
    by_cases h : t.1 = 4
    · have e : qTake 4 (t :: r) = some (t, r) := if_pos h
      rw [e] at ht
      rw [ht.1]
      have hq : qLines (t :: r) = qLines r := if_pos h
      rw [hq]
      by_cases e2 : qLines r = []
      · rw [if_pos e2]
        show (x, (qLines r, false)) = _
        rw [e2]
      · rw [if_neg e2]
        exact .inr e2
    · have e : qTake 4 (t :: r) = none := if_neg h
      rw [e] at ht
      have h2 : (rqTake (t :: r, false) 4 ⟨#[]⟩).2.2 = true := ht
      have hq : qLines (t :: r) = t :: r := if_neg h
      rw [hq, if_neg (by simp)]
      refine .inl ?_
      show (rqLines (rqTake (t :: r, false) 4 ⟨#[]⟩).2).2 = true
      unfold rqLines
      rw [if_pos h2]; exact h2
def rqR12 (n : Int) (u : Bool) (a : List MA) (e : Int) (w : Int) (r : Qr) : MR × Qr := if w = 1 then ((n, u, a, e, w, (rqOrder r).1), (rqLine (rqOrder r).2).2) else ((n, u, a, e, w, []), (rqLine r).2)
def rqR11 (n : Int) (u : Bool) (a : List MA) (e : Int) (r : Qr) : MR × Qr := let z := rqOne answerWs 0 r; rqR12 n u a e z.1 z.2
def rqR10 (n : Int) (u : Bool) (a : List MA) (e : Int) (r : Qr) : MR × Qr := rqR11 n u a e (rqTake r 1 wAnswer).2
def rqR9 (n : Int) (u : Bool) (a : List MA) (e : Int) (r : Qr) : MR × Qr := rqR10 n u a e (rqLine r).2
def rqR8 (n : Int) (u : Bool) (a : List MA) (r : Qr) : MR × Qr := let z := rqOne levelWs 0 r; rqR9 n u a z.1 z.2
def rqR7 (n : Int) (u : Bool) (a : List MA) (r : Qr) : MR × Qr := rqR8 n u a (rqTake r 1 wLevel).2
def rqR6 (n : Int) (u : Bool) (r : Qr) : MR × Qr := let z := rqAns (r.1.length + 1) r []; rqR7 n u z.1 z.2
def rqR5 (n : Int) (u : Bool) (r : Qr) : MR × Qr := rqR6 n u (rqLine r).2
def rqR4 (n : Int) (r : Qr) : MR × Qr := let z := rqEither wYes wNo r; rqR5 n z.1 z.2
def rqR3 (n : Int) (r : Qr) : MR × Qr := rqR4 n (rqTake r 1 wUnique).2
def rqR2 (n : Int) (r : Qr) : MR × Qr := rqR3 n (rqLine r).2
def rqR1  (r : Qr) : MR × Qr := let z := rqNum r; rqR2  z.1 z.2
def rqRep (r : Qr) : MR × Qr := rqR1 (rqTake (rqLines r) 1 wTxns).2
theorem rqR12_bad (n : Int) (u : Bool) (a : List MA) (e : Int) (w : Int) (l : List MTok) : (rqR12 n u a e w (l, true)).2.2 = true := by
  unfold rqR12
  split
  · have h := rqOrder_bad l
    generalize rqOrder (l, true) = z at h ⊢
    obtain ⟨a1, b1, c1⟩ := z
    have : c1 = true := h
    subst this
    show (rqLine (b1, true)).2.2 = true
    rw [rqLine_bad]
  · rw [rqLine_bad]
theorem rqR11_bad (n : Int) (u : Bool) (a : List MA) (e : Int) (l : List MTok) : (rqR11 n u a e (l, true)).2.2 = true := by unfold rqR11; rw [rqOne_bad]; exact rqR12_bad n u a e _ _
theorem rqR10_bad (n : Int) (u : Bool) (a : List MA) (e : Int) (l : List MTok) : (rqR10 n u a e (l, true)).2.2 = true := by unfold rqR10; rw [rqTake_bad]; exact rqR11_bad n u a e _
theorem rqR9_bad (n : Int) (u : Bool) (a : List MA) (e : Int) (l : List MTok) : (rqR9 n u a e (l, true)).2.2 = true := by unfold rqR9; rw [rqLine_bad]; exact rqR10_bad n u a e _
theorem rqR8_bad (n : Int) (u : Bool) (a : List MA) (l : List MTok) : (rqR8 n u a (l, true)).2.2 = true := by unfold rqR8; rw [rqOne_bad]; exact rqR9_bad n u a _ _
theorem rqR7_bad (n : Int) (u : Bool) (a : List MA) (l : List MTok) : (rqR7 n u a (l, true)).2.2 = true := by unfold rqR7; rw [rqTake_bad]; exact rqR8_bad n u a _
theorem rqR6_bad (n : Int) (u : Bool) (l : List MTok) : (rqR6 n u (l, true)).2.2 = true := by unfold rqR6; rw [rqAns_lost (.inl rfl)]; exact rqR7_bad n u _ _
theorem rqR5_bad (n : Int) (u : Bool) (l : List MTok) : (rqR5 n u (l, true)).2.2 = true := by unfold rqR5; rw [rqLine_bad]; exact rqR6_bad n u _
theorem rqR4_bad (n : Int) (l : List MTok) : (rqR4 n (l, true)).2.2 = true := by unfold rqR4; rw [rqEither_bad]; exact rqR5_bad n _ _
theorem rqR3_bad (n : Int) (l : List MTok) : (rqR3 n (l, true)).2.2 = true := by unfold rqR3; rw [rqTake_bad]; exact rqR4_bad n _
theorem rqR2_bad (n : Int) (l : List MTok) : (rqR2 n (l, true)).2.2 = true := by unfold rqR2; rw [rqLine_bad]; exact rqR3_bad n _
theorem rqR1_bad  (l : List MTok) : (rqR1  (l, true)).2.2 = true := by unfold rqR1; rw [rqNum_bad]; exact rqR2_bad  _ _
theorem rqR10_lost (n : Int) (u : Bool) (a : List MA) (e : Int) {r : Qr} (h : Lost r) : (rqR10 n u a e r).2.2 = true := by
  obtain ⟨l, hl⟩ := rqTake_badS (lost_text h 1 wAnswer)
  unfold rqR10
  rw [hl]
  exact rqR11_bad n u a e l
theorem rqR7_lost (n : Int) (u : Bool) (a : List MA) {r : Qr} (h : Lost r) : (rqR7 n u a r).2.2 = true := by
  obtain ⟨l, hl⟩ := rqTake_badS (lost_text h 1 wLevel)
  unfold rqR7
  rw [hl]
  exact rqR8_bad n u a l
theorem rqR3_lost (n : Int) {r : Qr} (h : Lost r) : (rqR3 n r).2.2 = true := by
  obtain ⟨l, hl⟩ := rqTake_badS (lost_text h 1 wUnique)
  unfold rqR3
  rw [hl]
  exact rqR4_bad n l
theorem rqR6_lost (n : Int) (u : Bool) {r : Qr} (h : Lost r) : (rqR6 n u r).2.2 = true := by
  unfold rqR6
  rw [rqAns_lost h]
  exact rqR7_lost n u [] h
/-- Over a whole text both readers answer alike. -/
theorem rep_sim {l : List MTok} (hl : Toks l) : SimE (qRep l) (rqRep (l, false)) := by
  have h0 := hl.suf (lines_suf l)
  refine SimQ.whole (q := rqText (qLines l, false) 1 wTxns) _ (fun _ r => rqR1 r) (text_sim k_txns (by decide) h0) (fun _ l1 s1 => ?_) (fun _ l => rqR1_bad l)
  have h1 := h0.suf s1
  refine SimQ.whole (q := rqNum (l1, false)) _ (fun n r => rqR2 n r) (num_sim l1) (fun n l2 s2 => ?_) (fun _ l => rqR2_bad _ l)
  have h2 := h1.suf s2
  refine SimW.whole (q := rqLine (l2, false)) _ (fun _ r => rqR3 n r) (lineEnd_sim l2) (fun _ l3 s3 => ?_) (fun _ r h => rqR3_lost _ h)
  have h3 := h2.suf s3
  refine SimQ.whole (q := rqText (l3, false) 1 wUnique) _ (fun _ r => rqR4 n r) (text_sim k_unique (by decide) h3) (fun _ l4 s4 => ?_) (fun _ l => rqR4_bad _ l)
  have h4 := h3.suf s4
  refine SimQ.whole (q := rqEither wYes wNo (l4, false)) _ (fun u r => rqR5 n u r) (either_sim k_yes k_no (by decide) (by decide) h4) (fun u l5 s5 => ?_) (fun _ l => rqR5_bad _ _ l)
  have h5 := h4.suf s5
  refine SimW.whole (q := rqLine (l5, false)) _ (fun _ r => rqR6 n u r) (lineEnd_sim l5) (fun _ l6 s6 => ?_) (fun _ r h => rqR6_lost _ _ h)
  have h6 := h5.suf s6
  refine SimW.whole (q := rqAns (l6.length + 1) (l6, false) []) _ (fun a r => rqR7 n u a r) (ans_sim _ h6 []) (fun a l7 s7 => ?_) (fun _ r h => rqR7_lost _ _ _ h)
  have h7 := h6.suf s7
  refine SimQ.whole (q := rqText (l7, false) 1 wLevel) _ (fun _ r => rqR8 n u a r) (text_sim k_level (by decide) h7) (fun _ l8 s8 => ?_) (fun _ l => rqR8_bad _ _ _ l)
  have h8 := h7.suf s8
  refine SimQ.whole (q := rqOne levelWs 0 (l8, false)) _ (fun e r => rqR9 n u a e r) (one_sim (by decide) l8) (fun e l9 s9 => ?_) (fun _ l => rqR9_bad _ _ _ _ l)
  have h9 := h8.suf s9
  refine SimW.whole (q := rqLine (l9, false)) _ (fun _ r => rqR10 n u a e r) (lineEnd_sim l9) (fun _ l10 s10 => ?_) (fun _ r h => rqR10_lost _ _ _ _ h)
  have h10 := h9.suf s10
  refine SimQ.whole (q := rqText (l10, false) 1 wAnswer) _ (fun _ r => rqR11 n u a e r) (text_sim k_answer (by decide) h10) (fun _ l11 s11 => ?_) (fun _ l => rqR11_bad _ _ _ _ l)
  have h11 := h10.suf s11
  refine SimQ.whole (q := rqOne answerWs 0 (l11, false)) _ (fun w r => rqR12 n u a e w r) (one_sim (by decide) l11) (fun w l12 s12 => ?_) (fun _ l => rqR12_bad _ _ _ _ _ l)
  have h12 := h11.suf s12
  by_cases hw : w = 1
  · rw [if_pos hw]
    have he : rqR12 n u a e w (l12, false) = ((n, u, a, e, w, (rqOrder (l12, false)).1), (rqLine (rqOrder (l12, false)).2).2) := if_pos hw
    rw [he]
    refine SimQ.whole (q := rqOrder (l12, false)) _ (fun xs r => ((n, u, a, e, w, xs), (rqLine r).2)) (order_sim h12) (fun xs l13 s13 => end_sim _ _) (fun _ l => by rw [rqLine_bad])
  · rw [if_neg hw]
    have he : rqR12 n u a e w (l12, false) = ((n, u, a, e, w, []), (rqLine (l12, false)).2) := if_neg hw
    rw [he]
    exact end_sim _ _
end Go.Proofs.YtkpomcimaofkkaaGreatDoor.Rp
