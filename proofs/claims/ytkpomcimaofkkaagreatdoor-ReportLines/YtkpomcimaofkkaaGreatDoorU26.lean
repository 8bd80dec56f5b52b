/-
  What is read has small keys; whether a report may be, by the document's words.
  A report that is read and may be: its ints are of 64 bits, its keys are short, it is not long.
-/
import Derived.Test.YtkpomcimaofkkaaGreatDoorU25
import Derived.Test.YtkpomcimaofkkaaGreatDoorU20
namespace Go.Proofs.YtkpomcimaofkkaaGreatDoor.Rp
set_option linter.unusedVariables false
set_option linter.unusedSimpArgs false
open Go.RowKit Go.Lib

/-- Tokens of few bytes each. -/
def Sm (l : List MTok) : Prop := ∀ t ∈ l, t.2.2.1.size ≤ 20000
theorem Sm.suf {l l' : List MTok} (h : Sm l) (hs : l' <:+ l) : Sm l' := fun t ht => h t (hs.subset ht)
theorem tokM_sm {s : ByteArray} {i k : Nat} {t : MTok} (h : tokM s i = .ok (t, k)) (hs : s.size ≤ 20000) : t.2.2.1.size ≤ 20000 := by
  have he : ∀ a b : Nat, (s.extract a b).size ≤ 20000 := fun a b => by rw [ByteArray.size_extract]; omega
  unfold tokM at h
  split at h
  · cases h; exact he _ _
  · split at h
    · split at h
      · cases h
      · cases h; exact he _ _
    · split at h
      · cases h; exact he _ _
      · split at h
        · cases h; exact he _ _
        · cases h
theorem scanFrom_sm {s : ByteArray} (hs : s.size ≤ 20000) : ∀ (f i : Nat) (acc l : List MTok), Sm acc → scanFrom s f i acc = .ok l → Sm l
  | 0, i, acc, l, ha, h => by cases h; exact ha
  | f + 1, i, acc, l, ha, h => by
    unfold scanFrom at h
    split at h
    · split at h
      · exact scanFrom_sm hs f _ _ _ ha h
      · split at h
        · cases h
        · rename_i t k ht
          refine scanFrom_sm hs f _ _ _ (fun u hu => ?_) h
          rcases List.mem_append.1 hu with q | q
          · exact ha u q
          · simp at q; subst q; exact tokM_sm ht hs
    · cases h; exact ha
theorem scanM_sm {s : ByteArray} {l : List MTok} (h : scanM s = .ok l) : Sm l := by
  have hs := (scanM_few h).2
  unfold scanM at h
  rw [if_neg (by omega)] at h
  exact scanFrom_sm hs _ _ _ _ (fun t ht => by cases ht) h
/-- What is read has a property, and what is left is of few bytes each. -/
def AllS {α : Type} (P : α → Prop) (p : Qs α) : Prop := ∀ x r, p = some (x, r) → P x ∧ Sm r
theorem AllS.bind {α β : Type} {Q : α → Prop} {P : β → Prop} {p : Qs α} {f : α → List MTok → Qs β} (h : AllS Q p) (hf : ∀ x r, Q x → Sm r → AllS P (f x r)) : AllS P (andQ p f) := by
  intro y s e
  cases p with
  | none => cases e
  | some z => exact hf z.1 z.2 (h z.1 z.2 rfl).1 (h z.1 z.2 rfl).2 y s e
theorem AllS.done {α : Type} {P : α → Prop} {x : α} {l : List MTok} (h : P x) (hl : Sm l) : AllS P (some (x, l) : Qs α) := by
  intro y r e; cases e; exact ⟨h, hl⟩
abbrev anyP {α : Type} : α → Prop := fun _ => True
theorem take_sm {l : List MTok} (h : Sm l) (k : Int) : AllS (fun t : MTok => t.2.2.1.size ≤ 20000) (qTake k l) := by
  intro x r e
  cases l with
  | nil => cases e
  | cons t l =>
    by_cases c : t.1 = k
    · rw [show qTake k (t :: l) = some (t, l) from if_pos c] at e; cases e; exact ⟨h _ (by simp), h.suf (List.suffix_cons _ _)⟩
    · rw [show qTake k (t :: l) = none from if_neg c] at e; cases e
theorem text_sm {l : List MTok} (h : Sm l) (x : ByteArray) : AllS (anyP (α := Unit)) (qText x l) := by
  intro y r e
  unfold qText at e
  split at e
  · cases e; exact ⟨trivial, h.suf (List.tail_suffix l)⟩
  · cases e
theorem num_sm {l : List MTok} (h : Sm l) : AllS (anyP (α := Int)) (qNum l) := AllS.bind (take_sm h 2) fun t r _ hr => AllS.done trivial hr
theorem one_sm {l : List MTok} (h : Sm l) (ws : List ByteArray) : AllS (anyP (α := Int)) (qOne ws l) := AllS.bind (take_sm h 1) fun t r _ hr => by
  intro y s e
  cases h : idxB t.2.2.1 ws 0 with
  | none => rw [h] at e; cases e
  | some n => rw [h] at e; cases e; exact ⟨trivial, hr⟩
theorem either_sm {l : List MTok} (h : Sm l) (y n : ByteArray) : AllS (anyP (α := Bool)) (qEither y n l) := by
  unfold qEither
  split
  · exact AllS.bind (text_sm h y) fun _ r _ hr => AllS.done trivial hr
  · exact AllS.bind (text_sm h n) fun _ r _ hr => AllS.done trivial hr
theorem lineEnd_sm {l : List MTok} (h : Sm l) : AllS (anyP (α := Unit)) (qLineEnd l) := AllS.bind (take_sm h 4) fun t r _ hr => AllS.done trivial (hr.suf (lines_suf r))
theorem key_sm {l : List MTok} (h : Sm l) : AllS (fun s : ByteArray => s.size ≤ 20000) (qKey l) := AllS.bind (text_sm h mOpen) fun _ r _ hr => by
  split
  · exact AllS.bind (text_sm hr mClose) fun _ r _ hr => AllS.done (by show (⟨#[]⟩ : ByteArray).size ≤ 20000; decide) hr
  · exact AllS.bind (take_sm hr 1) fun t r ht hr => AllS.bind (text_sm hr mClose) fun _ r _ hr => AllS.done ht hr
/-- Small keys. -/
abbrev SmW (x : MW) : Prop := x.2.2.2.1.size ≤ 140737488355328
def SmA (a : MA) : Prop := a.2.2.2.2.1.size ≤ 140737488355328 ∧ ∀ x ∈ a.cyc, SmW x
def SmR (r : MR) : Prop := ∀ a ∈ r.2.2.1, SmA a
theorem dep_sm {l : List MTok} (h : Sm l) : AllS SmW (qDep l) :=
  AllS.bind (text_sm h _) fun _ l _ h => AllS.bind (num_sm h) fun _ l _ h => AllS.bind (one_sm h _) fun _ l _ h => AllS.bind (num_sm h) fun _ l _ h => AllS.bind (key_sm h) fun _ l hk h =>
  AllS.bind (num_sm h) fun _ l _ h => AllS.bind (num_sm h) fun _ l _ h => AllS.bind (either_sm h _ _) fun _ l _ h => AllS.bind (either_sm h _ _) fun _ l _ h => AllS.bind (text_sm h _) fun _ l _ h => AllS.done (Nat.le_trans hk (by decide)) h
theorem deps_sm : ∀ (f : Nat) {l : List MTok} (h : Sm l) (acc : List MW), (∀ x ∈ acc, SmW x) → AllS (fun xs : List MW => ∀ x ∈ xs, SmW x) (qDeps f l acc)
  | 0, l, h, acc, ha => AllS.done ha h
  | f + 1, l, h, acc, ha => by
    cases hs : qSees l mFrom with
    | false => rw [deps_end hs]; exact AllS.done ha h
    | true =>
      rw [deps_more hs]
      refine AllS.bind (dep_sm h) fun x r hx hr => deps_sm f hr _ fun y hy => ?_
      rcases List.mem_append.1 hy with q | q
      · exact ha y q
      · simp at q; subst q; exact hx
theorem an_sm {l : List MTok} (h : Sm l) : AllS SmA (qAn l) :=
  AllS.bind (text_sm h _) fun _ l _ h => AllS.bind (one_sm h _) fun _ l _ h => AllS.bind (num_sm h) fun _ l _ h => AllS.bind (num_sm h) fun _ l _ h => AllS.bind (num_sm h) fun _ l _ h => AllS.bind (key_sm h) fun _ l hk h =>
  AllS.bind (num_sm h) fun _ l _ h => AllS.bind (either_sm h _ _) fun _ l _ h => AllS.bind (one_sm h _) fun _ l _ h => AllS.bind (deps_sm _ h [] (fun x hx => by cases hx)) fun _ l hc h => AllS.done ⟨Nat.le_trans hk (by decide), hc⟩ h
theorem ans_sm : ∀ (f : Nat) {l : List MTok} (h : Sm l) (acc : List MA), (∀ a ∈ acc, SmA a) → AllS (fun xs : List MA => ∀ a ∈ xs, SmA a) (qAns f l acc)
  | 0, l, h, acc, ha => AllS.done ha h
  | f + 1, l, h, acc, ha => by
    cases hs : qSees l wAnomaly with
    | false => rw [ans_end hs]; exact AllS.done ha h
    | true =>
      rw [ans_more hs]
      refine AllS.bind (an_sm h) fun x r hx hr => AllS.bind (lineEnd_sm hr) fun _ r _ hr => ans_sm f hr _ fun y hy => ?_
      rcases List.mem_append.1 hy with q | q
      · exact ha y q
      · simp at q; subst q; exact hx
theorem rep_sm {T : List MTok} (h : Sm T) {x : MR} {r : List MTok} (e : qRep T = some (x, r)) : SmR x := by
  have hq : AllS SmR (qRep T) := by
    refine AllS.bind (text_sm (h.suf (lines_suf T)) _) fun _ l _ h => AllS.bind (num_sm h) fun _ l _ h => AllS.bind (lineEnd_sm h) fun _ l _ h => AllS.bind (text_sm h _) fun _ l _ h => AllS.bind (either_sm h _ _) fun _ l _ h => AllS.bind (lineEnd_sm h) fun _ l _ h => ?_
    refine AllS.bind (ans_sm _ h [] (fun x hx => by cases hx)) fun al l ha h => ?_
    refine AllS.bind (text_sm h _) fun _ l _ h => AllS.bind (one_sm h _) fun _ l _ h => AllS.bind (lineEnd_sm h) fun _ l _ h => AllS.bind (text_sm h _) fun _ l _ h => AllS.bind (one_sm h _) fun _ l _ h => ?_
    have hend : ∀ (r : MR) (l : List MTok), SmR r → AllS SmR (qEnd r l) := by
      intro r l hr x s e
      unfold qEnd at e
      split at e
      · cases e; exact ⟨hr, fun t ht => by cases ht⟩
      · cases e
    split
    · intro x s e
      cases ho : qOrder l with
      | none => rw [ho] at e; cases e
      | some z =>
        rw [ho] at e
        refine hend _ z.2 ?_ x s e
        exact ha
    · refine hend _ l ?_
      exact ha
  exact (hq x r e).1
/-! Words of places. -/
theorem kind_word_is (k : Int) : ((wordN kindWs k).toList == (⟨#[]⟩ : ByteArray).toList) = (decide (k < 1) || decide (11 < k)) := by
  by_cases h : 1 ≤ k ∧ k ≤ 11
  · obtain ⟨n, rfl⟩ : ∃ n : Nat, k = n := ⟨k.toNat, by omega⟩
    have hr : (decide ((n : Int) < 1) || decide (11 < (n : Int))) = false := by simp; omega
    rw [hr]
    unfold wordN
    rw [if_pos ⟨by omega, by show (n : Int) < 12; omega⟩, ByteArray.toList_eq, ByteArray.toList_eq]
    rcases (by omega : n = 1 ∨ n = 2 ∨ n = 3 ∨ n = 4 ∨ n = 5 ∨ n = 6 ∨ n = 7 ∨ n = 8 ∨ n = 9 ∨ n = 10 ∨ n = 11) with rfl | rfl | rfl | rfl | rfl | rfl | rfl | rfl | rfl | rfl | rfl <;> rfl
  · have hr : (decide (k < 1) || decide (11 < k)) = true := by simp; omega
    rw [hr]
    unfold wordN
    by_cases h2 : 0 ≤ k ∧ k < (kindWs.length : Nat)
    · have h3 : k < 12 := h2.2
      have h0 : k = 0 := by omega
      subst h0
      rw [if_pos h2, ByteArray.toList_eq, ByteArray.toList_eq]
      rfl
    · rw [if_neg h2]; simp
theorem label_word_is (k : Int) : ((wordN labelWs k).toList == (⟨#[]⟩ : ByteArray).toList) = !((k == 1) || ((k == 2) || ((k == 4) || (k == 8)))) := by
  by_cases h2 : 0 ≤ k ∧ k < (labelWs.length : Nat)
  · have h3 : k < 9 := h2.2
    unfold wordN
    rw [if_pos h2, ByteArray.toList_eq, ByteArray.toList_eq]
    rcases (by omega : k = 0 ∨ k = 1 ∨ k = 2 ∨ k = 3 ∨ k = 4 ∨ k = 5 ∨ k = 6 ∨ k = 7 ∨ k = 8) with rfl | rfl | rfl | rfl | rfl | rfl | rfl | rfl | rfl <;> rfl
  · unfold wordN
    rw [if_neg h2]
    have h3 : ¬ (0 ≤ k ∧ k < 9) := h2
    have e1 : (k == 1) = false := by simpa using (by omega : ¬ k = 1)
    have e2 : (k == 2) = false := by simpa using (by omega : ¬ k = 2)
    have e4 : (k == 4) = false := by simpa using (by omega : ¬ k = 4)
    have e8 : (k == 8) = false := by simpa using (by omega : ¬ k = 8)
    rw [e1, e2, e4, e8]; simp
theorem answer_word_is (k : Int) : ((wordN answerWs k).toList == (⟨#[]⟩ : ByteArray).toList) = (decide (k < 0) || decide (3 < k)) := by
  by_cases h2 : 0 ≤ k ∧ k < (answerWs.length : Nat)
  · have h3 : k < 4 := h2.2
    have hr : (decide (k < 0) || decide (3 < k)) = false := by simp; omega
    rw [hr]
    unfold wordN
    rw [if_pos h2, ByteArray.toList_eq, ByteArray.toList_eq]
    rcases (by omega : k = 0 ∨ k = 1 ∨ k = 2 ∨ k = 3) with rfl | rfl | rfl | rfl <;> rfl
  · have h3 : ¬ (0 ≤ k ∧ k < 4) := h2
    have hr : (decide (k < 0) || decide (3 < k)) = true := by simp; omega
    rw [hr]
    unfold wordN
    rw [if_neg h2]; simp
end Go.Proofs.YtkpomcimaofkkaaGreatDoor.Rp
namespace Go.Proofs.YtkpomcimaofkkaaGreatDoor.Rp
set_option linter.unusedVariables false
set_option linter.unusedSimpArgs false
open Go.RowKit Go.Lib

/-- What is read has a property, and what is left are tokens. -/
def AllT {α : Type} (P : α → Prop) (p : Qs α) : Prop := ∀ x r, p = some (x, r) → P x ∧ Toks r
theorem AllT.bind {α β : Type} {Q : α → Prop} {P : β → Prop} {p : Qs α} {f : α → List MTok → Qs β} (h : AllT Q p) (hf : ∀ x r, Q x → Toks r → AllT P (f x r)) : AllT P (andQ p f) := by
  intro y s e
  cases p with
  | none => cases e
  | some z => exact hf z.1 z.2 (h z.1 z.2 rfl).1 (h z.1 z.2 rfl).2 y s e
theorem AllT.done {α : Type} {P : α → Prop} {x : α} {l : List MTok} (h : P x) (hl : Toks l) : AllT P (some (x, l) : Qs α) := by
  intro y r e; cases e; exact ⟨h, hl⟩
theorem take_rt {l : List MTok} (h : Toks l) (k : Int) : AllT (fun t : MTok => TokOk t ∧ t.1 = k) (qTake k l) := by
  intro x r e
  cases l with
  | nil => cases e
  | cons t l =>
    by_cases c : t.1 = k
    · rw [show qTake k (t :: l) = some (t, l) from if_pos c] at e; cases e; exact ⟨⟨h _ (by simp), c⟩, h.suf (List.suffix_cons _ _)⟩
    · rw [show qTake k (t :: l) = none from if_neg c] at e; cases e
theorem text_rt {l : List MTok} (h : Toks l) (x : ByteArray) : AllT (anyP (α := Unit)) (qText x l) := by
  intro y r e
  unfold qText at e
  split at e
  · cases e; exact ⟨trivial, h.suf (List.tail_suffix l)⟩
  · cases e
theorem num_rt {l : List MTok} (h : Toks l) : AllT i64R (qNum l) := AllT.bind (take_rt h 2) fun t r ht hr => AllT.done (by
  obtain ⟨hk, h2⟩ := ht
  rcases hk with ⟨e, _⟩ | ⟨_, q1, q2, _⟩ | ⟨e, _⟩ | ⟨e, _⟩
  · omega
  · exact ⟨q1, q2⟩
  · omega
  · omega) hr
theorem one_rt {l : List MTok} (h : Toks l) (ws : List ByteArray) : AllT (anyP (α := Int)) (qOne ws l) := AllT.bind (take_rt h 1) fun t r _ hr => by
  intro y s e
  cases h : idxB t.2.2.1 ws 0 with
  | none => rw [h] at e; cases e
  | some n => rw [h] at e; cases e; exact ⟨trivial, hr⟩
theorem either_rt {l : List MTok} (h : Toks l) (y n : ByteArray) : AllT (anyP (α := Bool)) (qEither y n l) := by
  unfold qEither
  split
  · exact AllT.bind (text_rt h y) fun _ r _ hr => AllT.done trivial hr
  · exact AllT.bind (text_rt h n) fun _ r _ hr => AllT.done trivial hr
theorem lineEnd_rt {l : List MTok} (h : Toks l) : AllT (anyP (α := Unit)) (qLineEnd l) := AllT.bind (take_rt h 4) fun t r _ hr => AllT.done trivial (hr.suf (lines_suf r))
theorem key_rt {l : List MTok} (h : Toks l) : AllT (anyP (α := ByteArray)) (qKey l) := AllT.bind (text_rt h mOpen) fun _ r _ hr => by
  split
  · exact AllT.bind (text_rt hr mClose) fun _ r _ hr => AllT.done trivial hr
  · exact AllT.bind (take_rt hr 1) fun t r ht hr => AllT.bind (text_rt hr mClose) fun _ r _ hr => AllT.done trivial hr
abbrev InW (x : MW) : Prop := i64R x.1 ∧ i64R x.2.1 ∧ i64R x.2.2.2.2.1 ∧ i64R x.2.2.2.2.2.1
def InA (a : MA) : Prop := i64R a.2.1 ∧ i64R a.2.2.1 ∧ i64R a.2.2.2.1 ∧ i64R a.2.2.2.2.2.1 ∧ ∀ x ∈ a.cyc, InW x
def InR (r : MR) : Prop := i64R r.1 ∧ (∀ a ∈ r.2.2.1, InA a) ∧ ∀ n ∈ r.2.2.2.2.2, i64R n
theorem dep_rt {l : List MTok} (h : Toks l) : AllT InW (qDep l) :=
  AllT.bind (text_rt h _) fun _ l _ h => AllT.bind (num_rt h) fun _ l n1 h => AllT.bind (one_rt h _) fun _ l _ h => AllT.bind (num_rt h) fun _ l n2 h => AllT.bind (key_rt h) fun _ l hk h =>
  AllT.bind (num_rt h) fun _ l n3 h => AllT.bind (num_rt h) fun _ l n4 h => AllT.bind (either_rt h _ _) fun _ l _ h => AllT.bind (either_rt h _ _) fun _ l _ h => AllT.bind (text_rt h _) fun _ l _ h => AllT.done ⟨n1, n2, n3, n4⟩ h
theorem deps_rt : ∀ (f : Nat) {l : List MTok} (h : Toks l) (acc : List MW), (∀ x ∈ acc, InW x) → AllT (fun xs : List MW => ∀ x ∈ xs, InW x) (qDeps f l acc)
  | 0, l, h, acc, ha => AllT.done ha h
  | f + 1, l, h, acc, ha => by
    cases hs : qSees l mFrom with
    | false => rw [deps_end hs]; exact AllT.done ha h
    | true =>
      rw [deps_more hs]
      refine AllT.bind (dep_rt h) fun x r hx hr => deps_rt f hr _ fun y hy => ?_
      rcases List.mem_append.1 hy with q | q
      · exact ha y q
      · simp at q; subst q; exact hx
theorem an_rt {l : List MTok} (h : Toks l) : AllT InA (qAn l) :=
  AllT.bind (text_rt h _) fun _ l _ h => AllT.bind (one_rt h _) fun _ l _ h => AllT.bind (num_rt h) fun _ l n1 h => AllT.bind (num_rt h) fun _ l n2 h => AllT.bind (num_rt h) fun _ l n3 h => AllT.bind (key_rt h) fun _ l hk h =>
  AllT.bind (num_rt h) fun _ l n4 h => AllT.bind (either_rt h _ _) fun _ l _ h => AllT.bind (one_rt h _) fun _ l _ h => AllT.bind (deps_rt _ h [] (fun x hx => by cases hx)) fun _ l hc h => AllT.done ⟨n1, n2, n3, n4, hc⟩ h
theorem ans_rt : ∀ (f : Nat) {l : List MTok} (h : Toks l) (acc : List MA), (∀ a ∈ acc, InA a) → AllT (fun xs : List MA => ∀ a ∈ xs, InA a) (qAns f l acc)
  | 0, l, h, acc, ha => AllT.done ha h
  | f + 1, l, h, acc, ha => by
    cases hs : qSees l wAnomaly with
    | false => rw [ans_end hs]; exact AllT.done ha h
    | true =>
      rw [ans_more hs]
      refine AllT.bind (an_rt h) fun x r hx hr => AllT.bind (lineEnd_rt hr) fun _ r _ hr => ans_rt f hr _ fun y hy => ?_
      rcases List.mem_append.1 hy with q | q
      · exact ha y q
      · simp at q; subst q; exact hx
theorem nums_rt : ∀ (f : Nat) {l : List MTok} (h : Toks l) (acc : List Int), (∀ a ∈ acc, i64R a) → AllT (fun xs : List Int => ∀ a ∈ xs, i64R a) (qNums f l acc)
  | 0, l, h, acc, ha => AllT.done ha h
  | f + 1, l, h, acc, ha => by
    unfold qNums
    split
    · exact AllT.done ha h
    · refine AllT.bind (num_rt h) fun x r hx hr => nums_rt f hr _ fun y hy => ?_
      rcases List.mem_append.1 hy with q | q
      · exact ha y q
      · simp at q; subst q; exact hx
theorem order_rt {l : List MTok} (h : Toks l) : AllT (fun xs : List Int => ∀ a ∈ xs, i64R a) (qOrder l) :=
  AllT.bind (text_rt h _) fun _ l _ h => AllT.bind (nums_rt _ h [] (fun x hx => by cases hx)) fun xs l hx h => AllT.bind (text_rt h _) fun _ l _ h => AllT.done hx h
theorem rep_rt {T : List MTok} (h : Toks T) {x : MR} {r : List MTok} (e : qRep T = some (x, r)) : InR x := by
  have hq : AllT InR (qRep T) := by
    refine AllT.bind (text_rt (h.suf (lines_suf T)) _) fun _ l _ h => AllT.bind (num_rt h) fun n l hn h => AllT.bind (lineEnd_rt h) fun _ l _ h => AllT.bind (text_rt h _) fun _ l _ h => AllT.bind (either_rt h _ _) fun _ l _ h => AllT.bind (lineEnd_rt h) fun _ l _ h => ?_
    refine AllT.bind (ans_rt _ h [] (fun x hx => by cases hx)) fun al l ha h => ?_
    refine AllT.bind (text_rt h _) fun _ l _ h => AllT.bind (one_rt h _) fun _ l _ h => AllT.bind (lineEnd_rt h) fun _ l _ h => AllT.bind (text_rt h _) fun _ l _ h => AllT.bind (one_rt h _) fun _ l _ h => ?_
    have hend : ∀ (r : MR) (l : List MTok), InR r → AllT InR (qEnd r l) := by
      intro r l hr x s e
      unfold qEnd at e
      split at e
      · cases e; exact ⟨hr, fun t ht => by cases ht⟩
      · cases e
    split
    · exact AllT.bind (order_rt h) fun xs l hx h => hend _ _ ⟨hn, ha, hx⟩
    · exact hend _ _ ⟨hn, ha, fun n hn => by cases hn⟩
  exact (hq x r e).1
/-- What a dependency, an anomaly, a report that may be are like. -/
theorem wrongD_no {x : MW} (h : wrongD x = false) : (wordN labelWs x.2.2.1).toList ≠ [] ∧ keyN x.2.2.2.1 = true := by
  unfold wrongD at h
  rw [Bool.or_eq_false_iff] at h
  obtain ⟨h1, h2⟩ := h
  rw [list_nil] at h1
  exact ⟨by simpa using h1, by simpa using h2⟩
theorem wrongA_no {a : MA} (h : wrongA a = false) : (wordN kindWs a.1).toList ≠ [] ∧ keyN a.2.2.2.2.1 = true ∧ levelN a.2.2.2.2.2.2.2.2 = true ∧ a.cyc.length ≤ 300 ∧ ∀ x ∈ a.cyc, wrongD x = false := by
  unfold wrongA at h
  simp only [Bool.or_eq_false_iff] at h
  obtain ⟨⟨⟨⟨h1, h2⟩, h3⟩, h4⟩, h5⟩ := h
  rw [list_nil] at h1
  have h4' : (a.cyc.length : Int) ≤ 300 := by simpa using h4
  refine ⟨by simpa using h1, by simpa using h2, by simpa using h3, by omega, fun x hx => ?_⟩
  have := List.any_eq_false.1 h5 x hx
  simpa using this
theorem canR_yes {r : MR} (h : canR r = true) : r.2.2.1.length ≤ 1000 ∧ (∀ a ∈ r.2.2.1, wrongA a = false) ∧ levelN r.2.2.2.1 = true ∧ (wordN answerWs r.2.2.2.2.1).toList ≠ [] ∧ r.2.2.2.2.2.length ≤ 300 ∧ (r.2.2.2.2.1 = 1 ∨ r.2.2.2.2.2 = []) := by
  unfold canR at h
  simp only [Bool.and_eq_true] at h
  obtain ⟨⟨⟨⟨⟨⟨h1, h2⟩, h3⟩, h4⟩, h5⟩, h6⟩, h7⟩ := h
  rw [list_nil] at h5
  simp only [decide_eq_true_eq] at h2 h6
  refine ⟨by omega, fun a ha => ?_, h4, by simpa using h5, by omega, ?_⟩
  · have h3' : r.2.2.1.any wrongA = false := by simpa using h3
    have := List.any_eq_false.1 h3' a ha
    simpa using this
  · rw [Bool.or_eq_true] at h7
    rcases h7 with q | q
    · exact .inl (by simpa using q)
    · exact .inr (List.length_eq_zero_iff.1 (by have : ((r.2.2.2.2.2.length : Nat) : Int) = 0 := by simpa using q
                                                omega))
theorem keyN_yes {s : ByteArray} (h : keyN s = true) : s.toList = [] ∨ (isWordB s = true ∧ s.size ≤ 6) := by
  unfold keyN at h
  rw [Bool.or_eq_true] at h
  rcases h with q | q
  · exact .inl (by simpa using q)
  · unfold keyOk at q
    rw [Bool.and_eq_true] at q
    exact .inr ⟨q.1, by simpa using q.2⟩
theorem keyN_size {s : ByteArray} (h : keyN s = true) : s.size ≤ 1000 := by
  rcases keyN_yes h with q | q
  · rw [ByteArray.toList_eq] at q
    have : s.size = 0 := by show s.data.size = 0; rw [← Array.length_toList, q]; rfl
    omega
  · omega
theorem rng_of {r : MR} (h : canR r = true) (hi : InR r) : RngR r := by
  obtain ⟨h1, h2, h3, h4, h5, h6⟩ := canR_yes h
  refine ⟨hi.1, h1, fun a ha => ?_, h5, hi.2.2⟩
  obtain ⟨q1, q2, q3, q4, q5⟩ := wrongA_no (h2 a ha)
  obtain ⟨i1, i2, i3, i4, i5⟩ := hi.2.1 a ha
  refine ⟨i1, i2, i3, i4, keyN_size q2, q4, fun x hx => ?_⟩
  obtain ⟨d1, d2⟩ := wrongD_no (q5 x hx)
  obtain ⟨j1, j2, j3, j4⟩ := i5 x hx
  exact ⟨j1, j2, j3, j4, keyN_size d2⟩
end Go.Proofs.YtkpomcimaofkkaaGreatDoor.Rp
