/-
  What is read has small keys; whether a report may be, by the document's words.
  A report that is read and may be: its ints are of 64 bits, its keys are short, it is not long.
  What is printed of a report that may be is read back as it.
-/
import Derived.Test.YtkpomcimaofkkaaGreatDoorZ24
import Derived.Test.YtkpomcimaofkkaaGreatDoorZ20
import Derived.Test.YtkpomcimaofkkaaGreatDoorZ22
namespace Go.Proofs.YtkpomcimaofkkaaGreatDoor.Rp
set_option linter.unusedVariables false
set_option linter.unusedSimpArgs false
open Go.RowKit Go.Lib

/-- Tokens of few bytes each. -/
def Sm (l : List MTok) : Prop := ∀ t ∈ l, t.2.2.1.size ≤ 20000
theorem Sm.suf {l l' : List MTok} (h : Sm l) (hs : l' <:+ l) : Sm l' := fun t ht => h t (hs.subset ht)
theorem tokM_sm {s : ByteArray} {i k : Nat} {t : MTok} (h : tokM s i = .ok (t, k)) (hs : s.size ≤ 20000) : t.2.2.1.size ≤ 20000 := by
  have he : ∀ a b : Nat, (s.extract a b).size ≤ 20000 := fun a b => by rw [ByteArray.size_extract]; omega
  unfold tokM at h
  split at h
  · cases h; exact he _ _
  · split at h
    · split at h
      · cases h
      · cases h; exact he _ _
    · split at h
      · cases h; exact he _ _
      · split at h
        · cases h; exact he _ _
        · cases h
theorem scanFrom_sm {s : ByteArray} (hs : s.size ≤ 20000) : ∀ (f i : Nat) (acc l : List MTok), Sm acc → scanFrom s f i acc = .ok l → Sm l
  | 0, i, acc, l, ha, h => by cases h; exact ha
  | f + 1, i, acc, l, ha, h => by
    unfold scanFrom at h
    split at h
    · split at h
      · exact scanFrom_sm hs f _ _ _ ha h
      · split at h
        · cases h
        · rename_i t k ht
          refine scanFrom_sm hs f _ _ _ (fun u hu => ?_) h
          rcases List.mem_append.1 hu with q | q
          · exact ha u q
          · simp at q; subst q; exact tokM_sm ht hs
    · cases h; exact ha
theorem scanM_sm {s : ByteArray} {l : List MTok} (h : scanM s = .ok l) : Sm l := by
  have hs := (scanM_few h).2
  unfold scanM at h
  rw [if_neg (by omega)] at h
  exact scanFrom_sm hs _ _ _ _ (fun t ht => by cases ht) h
/-- What is read has a property, and what is left is of few bytes each. -/
def AllS {α : Type} (P : α → Prop) (p : Qs α) : Prop := ∀ x r, p = some (x, r) → P x ∧ Sm r
theorem AllS.bind {α β : Type} {Q : α → Prop} {P : β → Prop} {p : Qs α} {f : α → List MTok → Qs β} (h : AllS Q p) (hf : ∀ x r, Q x → Sm r → AllS P (f x r)) : AllS P (andQ p f) := by
  intro y s e
  cases p with
  | none => cases e
  | some z => exact hf z.1 z.2 (h z.1 z.2 rfl).1 (h z.1 z.2 rfl).2 y s e
theorem AllS.done {α : Type} {P : α → Prop} {x : α} {l : List MTok} (h : P x) (hl : Sm l) : AllS P (some (x, l) : Qs α) := by
  intro y r e; cases e; exact ⟨h, hl⟩
abbrev anyP {α : Type} : α → Prop := fun _ => True
theorem take_sm {l : List MTok} (h : Sm l) (k : Int) : AllS (fun t : MTok => t.2.2.1.size ≤ 20000) (qTake k l) := by
  intro x r e
  cases l with
  | nil => cases e
  | cons t l =>
    by_cases c : t.1 = k
    · rw [show qTake k (t :: l) = some (t, l) from if_pos c] at e; cases e; exact ⟨h _ (by simp), h.suf (List.suffix_cons _ _)⟩
    · rw [show qTake k (t :: l) = none from if_neg c] at e; cases e
theorem text_sm {l : List MTok} (h : Sm l) (x : ByteArray) : AllS (anyP (α := Unit)) (qText x l) := by
  intro y r e
  unfold qText at e
  split at e
  · cases e; exact ⟨trivial, h.suf (List.tail_suffix l)⟩
  · cases e
theorem num_sm {l : List MTok} (h : Sm l) : AllS (anyP (α := Int)) (qNum l) := AllS.bind (take_sm h 2) fun t r _ hr => AllS.done trivial hr
theorem one_sm {l : List MTok} (h : Sm l) (ws : List ByteArray) : AllS (anyP (α := Int)) (qOne ws l) := AllS.bind (take_sm h 1) fun t r _ hr => by
  intro y s e
  cases h : idxB t.2.2.1 ws 0 with
  | none => rw [h] at e; cases e
  | some n => rw [h] at e; cases e; exact ⟨trivial, hr⟩
theorem either_sm {l : List MTok} (h : Sm l) (y n : ByteArray) : AllS (anyP (α := Bool)) (qEither y n l) := by
  unfold qEither
  split
  · exact AllS.bind (text_sm h y) fun _ r _ hr => AllS.done trivial hr
  · exact AllS.bind (text_sm h n) fun _ r _ hr => AllS.done trivial hr
theorem lineEnd_sm {l : List MTok} (h : Sm l) : AllS (anyP (α := Unit)) (qLineEnd l) := AllS.bind (take_sm h 4) fun t r _ hr => AllS.done trivial (hr.suf (lines_suf r))
theorem key_sm {l : List MTok} (h : Sm l) : AllS (fun s : ByteArray => s.size ≤ 20000) (qKey l) := AllS.bind (text_sm h mOpen) fun _ r _ hr => by
  split
  · exact AllS.bind (text_sm hr mClose) fun _ r _ hr => AllS.done (by show (⟨#[]⟩ : ByteArray).size ≤ 20000; decide) hr
  · exact AllS.bind (take_sm hr 1) fun t r ht hr => AllS.bind (text_sm hr mClose) fun _ r _ hr => AllS.done ht hr
/-- Small keys. -/
abbrev SmW (x : MW) : Prop := x.2.2.2.1.size ≤ 20000
def SmA (a : MA) : Prop := a.2.2.2.2.1.size ≤ 20000 ∧ ∀ x ∈ a.cyc, SmW x
def SmR (r : MR) : Prop := ∀ a ∈ r.2.2.1, SmA a
theorem dep_sm {l : List MTok} (h : Sm l) : AllS SmW (qDep l) :=
  AllS.bind (text_sm h _) fun _ l _ h => AllS.bind (num_sm h) fun _ l _ h => AllS.bind (one_sm h _) fun _ l _ h => AllS.bind (num_sm h) fun _ l _ h => AllS.bind (key_sm h) fun _ l hk h =>
  AllS.bind (num_sm h) fun _ l _ h => AllS.bind (num_sm h) fun _ l _ h => AllS.bind (either_sm h _ _) fun _ l _ h => AllS.bind (either_sm h _ _) fun _ l _ h => AllS.bind (text_sm h _) fun _ l _ h => AllS.done hk h
theorem deps_sm : ∀ (f : Nat) {l : List MTok} (h : Sm l) (acc : List MW), (∀ x ∈ acc, SmW x) → AllS (fun xs : List MW => ∀ x ∈ xs, SmW x) (qDeps f l acc)
  | 0, l, h, acc, ha => AllS.done ha h
  | f + 1, l, h, acc, ha => by
    cases hs : qSees l mFrom with
    | false => rw [deps_end hs]; exact AllS.done ha h
    | true =>
      rw [deps_more hs]
      refine AllS.bind (dep_sm h) fun x r hx hr => deps_sm f hr _ fun y hy => ?_
      rcases List.mem_append.1 hy with q | q
      · exact ha y q
      · simp at q; subst q; exact hx
theorem an_sm {l : List MTok} (h : Sm l) : AllS SmA (qAn l) :=
  AllS.bind (text_sm h _) fun _ l _ h => AllS.bind (one_sm h _) fun _ l _ h => AllS.bind (num_sm h) fun _ l _ h => AllS.bind (num_sm h) fun _ l _ h => AllS.bind (num_sm h) fun _ l _ h => AllS.bind (key_sm h) fun _ l hk h =>
  AllS.bind (num_sm h) fun _ l _ h => AllS.bind (either_sm h _ _) fun _ l _ h => AllS.bind (one_sm h _) fun _ l _ h => AllS.bind (deps_sm _ h [] (fun x hx => by cases hx)) fun _ l hc h => AllS.done ⟨hk, hc⟩ h
theorem ans_sm : ∀ (f : Nat) {l : List MTok} (h : Sm l) (acc : List MA), (∀ a ∈ acc, SmA a) → AllS (fun xs : List MA => ∀ a ∈ xs, SmA a) (qAns f l acc)
  | 0, l, h, acc, ha => AllS.done ha h
  | f + 1, l, h, acc, ha => by
    cases hs : qSees l wAnomaly with
    | false => rw [ans_end hs]; exact AllS.done ha h
    | true =>
      rw [ans_more hs]
      refine AllS.bind (an_sm h) fun x r hx hr => AllS.bind (lineEnd_sm hr) fun _ r _ hr => ans_sm f hr _ fun y hy => ?_
      rcases List.mem_append.1 hy with q | q
      · exact ha y q
      · simp at q; subst q; exact hx
theorem rep_sm {T : List MTok} (h : Sm T) {x : MR} {r : List MTok} (e : qRep T = some (x, r)) : SmR x := by
  have hq : AllS SmR (qRep T) := by
    refine AllS.bind (text_sm (h.suf (lines_suf T)) _) fun _ l _ h => AllS.bind (num_sm h) fun _ l _ h => AllS.bind (lineEnd_sm h) fun _ l _ h => AllS.bind (text_sm h _) fun _ l _ h => AllS.bind (either_sm h _ _) fun _ l _ h => AllS.bind (lineEnd_sm h) fun _ l _ h => ?_
    refine AllS.bind (ans_sm _ h [] (fun x hx => by cases hx)) fun al l ha h => ?_
    refine AllS.bind (text_sm h _) fun _ l _ h => AllS.bind (one_sm h _) fun _ l _ h => AllS.bind (lineEnd_sm h) fun _ l _ h => AllS.bind (text_sm h _) fun _ l _ h => AllS.bind (one_sm h _) fun _ l _ h => ?_
    have hend : ∀ (r : MR) (l : List MTok), SmR r → AllS SmR (qEnd r l) := by
      intro r l hr x s e
      unfold qEnd at e
      split at e
      · cases e; exact ⟨hr, fun t ht => by cases ht⟩
      · cases e
    split
    · intro x s e
      cases ho : qOrder l with
      | none => rw [ho] at e; cases e
      | some z =>
        rw [ho] at e
        refine hend _ z.2 ?_ x s e
        exact ha
    · refine hend _ l ?_
      exact ha
  exact (hq x r e).1
/-! Words of places. -/
theorem kind_word_is (k : Int) : ((wordN kindWs k).toList == (⟨#[]⟩ : ByteArray).toList) = (decide (k < 1) || decide (11 < k)) := by
  by_cases h : 1 ≤ k ∧ k ≤ 11
  · obtain ⟨n, rfl⟩ : ∃ n : Nat, k = n := ⟨k.toNat, by omega⟩
    have hr : (decide ((n : Int) < 1) || decide (11 < (n : Int))) = false := by simp; omega
    rw [hr]
    unfold wordN
    rw [if_pos ⟨by omega, by show (n : Int) < 12; omega⟩, ByteArray.toList_eq, ByteArray.toList_eq]
    rcases (by omega : n = 1 ∨ n = 2 ∨ n = 3 ∨ n = 4 ∨ n = 5 ∨ n = 6 ∨ n = 7 ∨ n = 8 ∨ n = 9 ∨ n = 10 ∨ n = 11) with rfl | rfl | rfl | rfl | rfl | rfl | rfl | rfl | rfl | rfl | rfl <;> rfl
  · have hr : (decide (k < 1) || decide (11 < k)) = true := by simp; omega
    rw [hr]
    unfold wordN
    by_cases h2 : 0 ≤ k ∧ k < (kindWs.length : Nat)
    · have h3 : k < 12 := h2.2
      have h0 : k = 0 := by omega
      subst h0
      rw [if_pos h2, ByteArray.toList_eq, ByteArray.toList_eq]
      rfl
    · rw [if_neg h2]; simp
theorem label_word_is (k : Int) : ((wordN labelWs k).toList == (⟨#[]⟩ : ByteArray).toList) = !((k == 1) || ((k == 2) || ((k == 4) || (k == 8)))) := by
  by_cases h2 : 0 ≤ k ∧ k < (labelWs.length : Nat)
  · have h3 : k < 9 := h2.2
    unfold wordN
    rw [if_pos h2, ByteArray.toList_eq, ByteArray.toList_eq]
    rcases (by omega : k = 0 ∨ k = 1 ∨ k = 2 ∨ k = 3 ∨ k = 4 ∨ k = 5 ∨ k = 6 ∨ k = 7 ∨ k = 8) with rfl | rfl | rfl | rfl | rfl | rfl | rfl | rfl | rfl <;> rfl
  · unfold wordN
    rw [if_neg h2]
    have h3 : ¬ (0 ≤ k ∧ k < 9) := h2
    have e1 : (k == 1) = false := by simpa using (by omega : ¬ k = 1)
    have e2 : (k == 2) = false := by simpa using (by omega : ¬ k = 2)
    have e4 : (k == 4) = false := by simpa using (by omega : ¬ k = 4)
    have e8 : (k == 8) = false := by simpa using (by omega : ¬ k = 8)
    rw [e1, e2, e4, e8]; simp
theorem answer_word_is (k : Int) : ((wordN answerWs k).toList == (⟨#[]⟩ : ByteArray).toList) = (decide (k < 0) || decide (3 < k)) := by
  by_cases h2 : 0 ≤ k ∧ k < (answerWs.length : Nat)
  · have h3 : k < 4 := h2.2
    have hr : (decide (k < 0) || decide (3 < k)) = false := by simp; omega
    rw [hr]
    unfold wordN
    rw [if_pos h2, ByteArray.toList_eq, ByteArray.toList_eq]
    rcases (by omega : k = 0 ∨ k = 1 ∨ k = 2 ∨ k = 3) with rfl | rfl | rfl | rfl <;> rfl
  · have h3 : ¬ (0 ≤ k ∧ k < 4) := h2
    have hr : (decide (k < 0) || decide (3 < k)) = true := by simp; omega
    rw [hr]
    unfold wordN
    rw [if_neg h2]; simp
end Go.Proofs.YtkpomcimaofkkaaGreatDoor.Rp
namespace Go.Proofs.YtkpomcimaofkkaaGreatDoor.Rp
set_option linter.unusedVariables false
set_option linter.unusedSimpArgs false
open Go.RowKit Go.Lib

/-- What is read has a property, and what is left are tokens. -/
def AllT {α : Type} (P : α → Prop) (p : Qs α) : Prop := ∀ x r, p = some (x, r) → P x ∧ Toks r
theorem AllT.bind {α β : Type} {Q : α → Prop} {P : β → Prop} {p : Qs α} {f : α → List MTok → Qs β} (h : AllT Q p) (hf : ∀ x r, Q x → Toks r → AllT P (f x r)) : AllT P (andQ p f) := by
  intro y s e
  cases p with
  | none => cases e
  | some z => exact hf z.1 z.2 (h z.1 z.2 rfl).1 (h z.1 z.2 rfl).2 y s e
theorem AllT.done {α : Type} {P : α → Prop} {x : α} {l : List MTok} (h : P x) (hl : Toks l) : AllT P (some (x, l) : Qs α) := by
  intro y r e; cases e; exact ⟨h, hl⟩
theorem take_rt {l : List MTok} (h : Toks l) (k : Int) : AllT (fun t : MTok => TokOk t ∧ t.1 = k) (qTake k l) := by
  intro x r e
  cases l with
  | nil => cases e
  | cons t l =>
    by_cases c : t.1 = k
    · rw [show qTake k (t :: l) = some (t, l) from if_pos c] at e; cases e; exact ⟨⟨h _ (by simp), c⟩, h.suf (List.suffix_cons _ _)⟩
    · rw [show qTake k (t :: l) = none from if_neg c] at e; cases e
theorem text_rt {l : List MTok} (h : Toks l) (x : ByteArray) : AllT (anyP (α := Unit)) (qText x l) := by
  intro y r e
  unfold qText at e
  split at e
  · cases e; exact ⟨trivial, h.suf (List.tail_suffix l)⟩
  · cases e
theorem num_rt {l : List MTok} (h : Toks l) : AllT i64R (qNum l) := AllT.bind (take_rt h 2) fun t r ht hr => AllT.done (by
  obtain ⟨hk, h2⟩ := ht
  rcases hk with ⟨e, _⟩ | ⟨_, q1, q2, _⟩ | ⟨e, _⟩ | ⟨e, _⟩
  · omega
  · exact ⟨q1, q2⟩
  · omega
  · omega) hr
theorem one_rt {l : List MTok} (h : Toks l) (ws : List ByteArray) : AllT (anyP (α := Int)) (qOne ws l) := AllT.bind (take_rt h 1) fun t r _ hr => by
  intro y s e
  cases h : idxB t.2.2.1 ws 0 with
  | none => rw [h] at e; cases e
  | some n => rw [h] at e; cases e; exact ⟨trivial, hr⟩
theorem either_rt {l : List MTok} (h : Toks l) (y n : ByteArray) : AllT (anyP (α := Bool)) (qEither y n l) := by
  unfold qEither
  split
  · exact AllT.bind (text_rt h y) fun _ r _ hr => AllT.done trivial hr
  · exact AllT.bind (text_rt h n) fun _ r _ hr => AllT.done trivial hr
theorem lineEnd_rt {l : List MTok} (h : Toks l) : AllT (anyP (α := Unit)) (qLineEnd l) := AllT.bind (take_rt h 4) fun t r _ hr => AllT.done trivial (hr.suf (lines_suf r))
theorem key_rt {l : List MTok} (h : Toks l) : AllT (anyP (α := ByteArray)) (qKey l) := AllT.bind (text_rt h mOpen) fun _ r _ hr => by
  split
  · exact AllT.bind (text_rt hr mClose) fun _ r _ hr => AllT.done trivial hr
  · exact AllT.bind (take_rt hr 1) fun t r ht hr => AllT.bind (text_rt hr mClose) fun _ r _ hr => AllT.done trivial hr
abbrev InW (x : MW) : Prop := i64R x.1 ∧ i64R x.2.1 ∧ i64R x.2.2.2.2.1 ∧ i64R x.2.2.2.2.2.1
def InA (a : MA) : Prop := i64R a.2.1 ∧ i64R a.2.2.1 ∧ i64R a.2.2.2.1 ∧ i64R a.2.2.2.2.2.1 ∧ ∀ x ∈ a.cyc, InW x
def InR (r : MR) : Prop := i64R r.1 ∧ (∀ a ∈ r.2.2.1, InA a) ∧ ∀ n ∈ r.2.2.2.2.2, i64R n
theorem dep_rt {l : List MTok} (h : Toks l) : AllT InW (qDep l) :=
  AllT.bind (text_rt h _) fun _ l _ h => AllT.bind (num_rt h) fun _ l n1 h => AllT.bind (one_rt h _) fun _ l _ h => AllT.bind (num_rt h) fun _ l n2 h => AllT.bind (key_rt h) fun _ l hk h =>
  AllT.bind (num_rt h) fun _ l n3 h => AllT.bind (num_rt h) fun _ l n4 h => AllT.bind (either_rt h _ _) fun _ l _ h => AllT.bind (either_rt h _ _) fun _ l _ h => AllT.bind (text_rt h _) fun _ l _ h => AllT.done ⟨n1, n2, n3, n4⟩ h
theorem deps_rt : ∀ (f : Nat) {l : List MTok} (h : Toks l) (acc : List MW), (∀ x ∈ acc, InW x) → AllT (fun xs : List MW => ∀ x ∈ xs, InW x) (qDeps f l acc)
  | 0, l, h, acc, ha => AllT.done ha h
  | f + 1, l, h, acc, ha => by
    cases hs : qSees l mFrom with
    | false => rw [deps_end hs]; exact AllT.done ha h
    | true =>
      rw [deps_more hs]
      refine AllT.bind (dep_rt h) fun x r hx hr => deps_rt f hr _ fun y hy => ?_
      rcases List.mem_append.1 hy with q | q
      · exact ha y q
      · simp at q; subst q; exact hx
theorem an_rt {l : List MTok} (h : Toks l) : AllT InA (qAn l) :=
  AllT.bind (text_rt h _) fun _ l _ h => AllT.bind (one_rt h _) fun _ l _ h => AllT.bind (num_rt h) fun _ l n1 h => AllT.bind (num_rt h) fun _ l n2 h => AllT.bind (num_rt h) fun _ l n3 h => AllT.bind (key_rt h) fun _ l hk h =>
  AllT.bind (num_rt h) fun _ l n4 h => AllT.bind (either_rt h _ _) fun _ l _ h => AllT.bind (one_rt h _) fun _ l _ h => AllT.bind (deps_rt _ h [] (fun x hx => by cases hx)) fun _ l hc h => AllT.done ⟨n1, n2, n3, n4, hc⟩ h
theorem ans_rt : ∀ (f : Nat) {l : List MTok} (h : Toks l) (acc : List MA), (∀ a ∈ acc, InA a) → AllT (fun xs : List MA => ∀ a ∈ xs, InA a) (qAns f l acc)
  | 0, l, h, acc, ha => AllT.done ha h
  | f + 1, l, h, acc, ha => by
    cases hs : qSees l wAnomaly with
    | false => rw [ans_end hs]; exact AllT.done ha h
    | true =>
      rw [ans_more hs]
      refine AllT.bind (an_rt h) fun x r hx hr => AllT.bind (lineEnd_rt hr) fun _ r _ hr => ans_rt f hr _ fun y hy => ?_
      rcases List.mem_append.1 hy with q | q
      · exact ha y q
      · simp at q; subst q; exact hx
theorem nums_rt : ∀ (f : Nat) {l : List MTok} (h : Toks l) (acc : List Int), (∀ a ∈ acc, i64R a) → AllT (fun xs : List Int => ∀ a ∈ xs, i64R a) (qNums f l acc)
  | 0, l, h, acc, ha => AllT.done ha h
  | f + 1, l, h, acc, ha => by
    unfold qNums
    split
    · exact AllT.done ha h
    · refine AllT.bind (num_rt h) fun x r hx hr => nums_rt f hr _ fun y hy => ?_
      rcases List.mem_append.1 hy with q | q
      · exact ha y q
      · simp at q; subst q; exact hx
theorem order_rt {l : List MTok} (h : Toks l) : AllT (fun xs : List Int => ∀ a ∈ xs, i64R a) (qOrder l) :=
  AllT.bind (text_rt h _) fun _ l _ h => AllT.bind (nums_rt _ h [] (fun x hx => by cases hx)) fun xs l hx h => AllT.bind (text_rt h _) fun _ l _ h => AllT.done hx h
theorem rep_rt {T : List MTok} (h : Toks T) {x : MR} {r : List MTok} (e : qRep T = some (x, r)) : InR x := by
  have hq : AllT InR (qRep T) := by
    refine AllT.bind (text_rt (h.suf (lines_suf T)) _) fun _ l _ h => AllT.bind (num_rt h) fun n l hn h => AllT.bind (lineEnd_rt h) fun _ l _ h => AllT.bind (text_rt h _) fun _ l _ h => AllT.bind (either_rt h _ _) fun _ l _ h => AllT.bind (lineEnd_rt h) fun _ l _ h => ?_
    refine AllT.bind (ans_rt _ h [] (fun x hx => by cases hx)) fun al l ha h => ?_
    refine AllT.bind (text_rt h _) fun _ l _ h => AllT.bind (one_rt h _) fun _ l _ h => AllT.bind (lineEnd_rt h) fun _ l _ h => AllT.bind (text_rt h _) fun _ l _ h => AllT.bind (one_rt h _) fun _ l _ h => ?_
    have hend : ∀ (r : MR) (l : List MTok), InR r → AllT InR (qEnd r l) := by
      intro r l hr x s e
      unfold qEnd at e
      split at e
      · cases e; exact ⟨hr, fun t ht => by cases ht⟩
      · cases e
    split
    · exact AllT.bind (order_rt h) fun xs l hx h => hend _ _ ⟨hn, ha, hx⟩
    · exact hend _ _ ⟨hn, ha, fun n hn => by cases hn⟩
  exact (hq x r e).1
/-- What a dependency, an anomaly, a report that may be are like. -/
theorem wrongD_no {x : MW} (h : wrongD x = false) : (wordN labelWs x.2.2.1).toList ≠ [] ∧ keyN x.2.2.2.1 = true := by
  unfold wrongD at h
  rw [Bool.or_eq_false_iff] at h
  obtain ⟨h1, h2⟩ := h
  rw [list_nil] at h1
  exact ⟨by simpa using h1, by simpa using h2⟩
theorem wrongA_no {a : MA} (h : wrongA a = false) : (wordN kindWs a.1).toList ≠ [] ∧ keyN a.2.2.2.2.1 = true ∧ levelN a.2.2.2.2.2.2.2.2 = true ∧ a.cyc.length ≤ 300 ∧ ∀ x ∈ a.cyc, wrongD x = false := by
  unfold wrongA at h
  simp only [Bool.or_eq_false_iff] at h
  obtain ⟨⟨⟨⟨h1, h2⟩, h3⟩, h4⟩, h5⟩ := h
  rw [list_nil] at h1
  have h4' : (a.cyc.length : Int) ≤ 300 := by simpa using h4
  refine ⟨by simpa using h1, by simpa using h2, by simpa using h3, by omega, fun x hx => ?_⟩
  have := List.any_eq_false.1 h5 x hx
  simpa using this
theorem canR_yes {r : MR} (h : canR r = true) : r.2.2.1.length ≤ 1000 ∧ (∀ a ∈ r.2.2.1, wrongA a = false) ∧ levelN r.2.2.2.1 = true ∧ (wordN answerWs r.2.2.2.2.1).toList ≠ [] ∧ r.2.2.2.2.2.length ≤ 300 ∧ (r.2.2.2.2.1 = 1 ∨ r.2.2.2.2.2 = []) := by
  unfold canR at h
  simp only [Bool.and_eq_true] at h
  obtain ⟨⟨⟨⟨⟨⟨h1, h2⟩, h3⟩, h4⟩, h5⟩, h6⟩, h7⟩ := h
  rw [list_nil] at h5
  simp only [decide_eq_true_eq] at h2 h6
  refine ⟨by omega, fun a ha => ?_, h4, by simpa using h5, by omega, ?_⟩
  · have h3' : r.2.2.1.any wrongA = false := by simpa using h3
    have := List.any_eq_false.1 h3' a ha
    simpa using this
  · rw [Bool.or_eq_true] at h7
    rcases h7 with q | q
    · exact .inl (by simpa using q)
    · exact .inr (List.length_eq_zero_iff.1 (by have : ((r.2.2.2.2.2.length : Nat) : Int) = 0 := by simpa using q
                                                omega))
theorem keyN_yes {s : ByteArray} (h : keyN s = true) : s.toList = [] ∨ (isWordB s = true ∧ s.size ≤ 6) := by
  unfold keyN at h
  rw [Bool.or_eq_true] at h
  rcases h with q | q
  · exact .inl (by simpa using q)
  · unfold keyOk at q
    rw [Bool.and_eq_true] at q
    exact .inr ⟨q.1, by simpa using q.2⟩
theorem keyN_size {s : ByteArray} (h : keyN s = true) : s.size ≤ 1000 := by
  rcases keyN_yes h with q | q
  · rw [ByteArray.toList_eq] at q
    have : s.size = 0 := by show s.data.size = 0; rw [← Array.length_toList, q]; rfl
    omega
  · omega
theorem rng_of {r : MR} (h : canR r = true) (hi : InR r) : RngR r := by
  obtain ⟨h1, h2, h3, h4, h5, h6⟩ := canR_yes h
  refine ⟨hi.1, h1, fun a ha => ?_, h5, hi.2.2⟩
  obtain ⟨q1, q2, q3, q4, q5⟩ := wrongA_no (h2 a ha)
  obtain ⟨i1, i2, i3, i4, i5⟩ := hi.2.1 a ha
  refine ⟨i1, i2, i3, i4, keyN_size q2, q4, fun x hx => ?_⟩
  obtain ⟨d1, d2⟩ := wrongD_no (q5 x hx)
  obtain ⟨j1, j2, j3, j4⟩ := i5 x hx
  exact ⟨j1, j2, j3, j4, keyN_size d2⟩
end Go.Proofs.YtkpomcimaofkkaaGreatDoor.Rp
namespace Go.Proofs.YtkpomcimaofkkaaGreatDoor.Rp
set_option linter.unusedVariables false
set_option linter.unusedSimpArgs false
open Go.RowKit Go.Lib

def tw (x : ByteArray) : MTok := (1, 0, x, 0)
def tn (n : Int) : MTok := (2, 0, decB n, n)
def tm (x : ByteArray) : MTok := (3, 0, x, 0)
def tl : MTok := (4, 0, ⟨#[10]⟩, 0)
def kT (k : ByteArray) : List MTok := if k.toList = [] then [tm mOpen, tm mClose] else [tm mOpen, tw k, tm mClose]
def wG (x : MW) : List (List MTok) := [[tm mFrom], [tn x.1], [tw (wordN labelWs x.2.2.1)], [tn x.2.1], kT x.2.2.2.1, [tn x.2.2.2.2.1], [tn x.2.2.2.2.2.1], [tw (eiB x.2.2.2.2.2.2.1 wNil wValue)], [tw (eiB x.2.2.2.2.2.2.2 wCond wSure)], [tm mTo]]
def aG (a : MA) : List (List MTok) := [[tw wAnomaly], [tw (wordN kindWs a.1)], [tn a.2.1], [tn a.2.2.1], [tn a.2.2.2.1], kT a.2.2.2.2.1, [tn a.2.2.2.2.2.1], [tw (eiB a.2.2.2.2.2.2.2.1 wReal wPlain)], [tw (nameN a.2.2.2.2.2.2.2.2)]] ++ a.cyc.flatMap wG
def ansG (x : Int) (os : List Int) : List (List MTok) := [[tw wAnswer], [tw (wordN answerWs x)]] ++ (if x = 1 then [tm mOpen] :: (os.map (fun n => [tn n]) ++ [[tm mClose]]) else [])
/-- A report's tokens. -/
def rT (r : MR) : List MTok := ([[tw wTxns], [tn r.1]] : List (List MTok)).flatten ++ tl :: (([[tw wUnique], [tw (eiB r.2.1 wYes wNo)]] : List (List MTok)).flatten ++ tl :: (r.2.2.1.flatMap (fun a => (aG a).flatten ++ [tl]) ++ (([[tw wLevel], [tw (nameN r.2.2.2.1)]] : List (List MTok)).flatten ++ tl :: ((ansG r.2.2.2.2.1 r.2.2.2.2.2).flatten ++ [tl]))))
/-- A group's text. -/
def gX (g : List MTok) : Bs := Lib.join (g.map tx) [32]
theorem joinTail_app (a b : List Bs) : Lib.joinTail [32] (a ++ b) = Lib.joinTail [32] a ++ Lib.joinTail [32] b := by simp [Lib.joinTail]
theorem joinTail_sep (x : Bs) (r : List Bs) : 32 :: Lib.join (x :: r) [32] = Lib.joinTail [32] (x :: r) := by
  rw [Lib.join_cons]
  simp [Lib.joinTail]
theorem group_text : ∀ (gs : List (List MTok)), (∀ g ∈ gs, g ≠ []) → Lib.joinTail [32] (gs.map gX) = Lib.joinTail [32] (gs.flatten.map tx)
  | [], _ => rfl
  | g :: gs, h => by
    have ih := group_text gs (fun x hx => h x (by simp [hx]))
    rw [List.flatten_cons, List.map_append, joinTail_app, ← ih]
    cases g with
    | nil => exact absurd rfl (h [] (by simp))
    | cons t g =>
      have e : Lib.joinTail [32] ((gX (t :: g)) :: gs.map gX) = (32 :: gX (t :: g)) ++ Lib.joinTail [32] (gs.map gX) := by simp [Lib.joinTail]
      rw [List.map_cons, e]
      unfold gX
      rw [List.map_cons, joinTail_sep]
theorem join_group {gs : List (List MTok)} (h0 : gs ≠ []) (h : ∀ g ∈ gs, g ≠ []) : Lib.join (gs.map gX) [32] = Lib.join (gs.flatten.map tx) [32] := by
  have e := group_text gs h
  cases gs with
  | nil => exact absurd rfl h0
  | cons g gs =>
    cases g with
    | nil => exact absurd rfl (h [] (by simp))
    | cons t g =>
      rw [List.map_cons, ← joinTail_sep, List.flatten_cons, List.cons_append, List.map_cons, ← joinTail_sep] at e
      rw [List.map_cons, List.flatten_cons, List.cons_append, List.map_cons]
      exact List.cons.inj e |>.2
/-- A token that is no line's end. -/
def NoL (t : MTok) : Prop := TokOk t ∧ t.1 ≠ 4
theorem print_more : ∀ (ts : List MTok) (rest : List MTok), (∀ t ∈ ts, NoL t) → printL true (ts ++ tl :: rest) = Lib.joinTail [32] (ts.map tx) ++ 10 :: printL false rest
  | [], rest, _ => by
    show printL true (tl :: rest) = 10 :: printL false rest
    rw [printL, if_neg (by show ¬ ((4 : Int) = 1 ∨ (4 : Int) = 3); decide), if_neg (by show ¬ ((4 : Int) = 2); decide), if_pos (show tl.1 = 4 from rfl)]
  | t :: ts, rest, h => by
    have ht := h t (by simp)
    rw [List.cons_append, printL_word ht.1 ht.2, print_more ts rest (fun x hx => h x (by simp [hx]))]
    simp [sep, Lib.joinTail]
theorem print_line {gs : List (List MTok)} {ps : List ByteArray} (hp : ps.map (·.data.toList) = gs.map gX) (h0 : gs ≠ []) (h : ∀ g ∈ gs, g ≠ []) (hk : ∀ t ∈ gs.flatten, NoL t) (rest : List MTok) : printL false (gs.flatten ++ tl :: rest) = lineB ps ++ printL false rest := by
  unfold lineB
  rw [hp, join_group h0 h]
  cases hg : gs.flatten with
  | nil =>
    exfalso
    cases gs with
    | nil => exact h0 rfl
    | cons g gs =>
      have : g = [] := (List.append_eq_nil_iff.1 (by rw [← List.flatten_cons]; exact hg)).1
      exact h g (by simp) this
  | cons t ts =>
    rw [hg] at hk
    have ht := hk t (by simp)
    rw [List.cons_append, printL_word ht.1 ht.2, print_more ts rest (fun x hx => hk x (by simp [hx])), List.map_cons, Lib.join_cons]
    simp [sep]
/-! The tokens are as scanning makes them. -/
theorem ok_word {x : ByteArray} (h : isWordB x = true) : NoL (tw x) := by
  obtain ⟨b, r, h1, h2, h3⟩ := word_form h
  exact ⟨.inl ⟨rfl, rfl, b, r, h1, h2, h3⟩, by show (1 : Int) ≠ 4; decide⟩
theorem ok_num {n : Int} (h : i64R n) : NoL (tn n) := ⟨.inr (.inl ⟨rfl, h.1, h.2, rfl⟩), by show (2 : Int) ≠ 4; decide⟩
theorem ok_mark {x : ByteArray} {b : UInt8} (hx : x.data.toList = [b]) (hb : b.toNat = 40 ∨ b.toNat = 41 ∨ b.toNat = 91 ∨ b.toNat = 93) : NoL (tm x) := ⟨.inr (.inr (.inl ⟨rfl, rfl, b, hx, hb⟩)), by show (3 : Int) ≠ 4; decide⟩
theorem ok_open : NoL (tm mOpen) := ok_mark rfl (by decide)
theorem ok_close : NoL (tm mClose) := ok_mark rfl (by decide)
theorem ok_from : NoL (tm mFrom) := ok_mark rfl (by decide)
theorem ok_to : NoL (tm mTo) := ok_mark rfl (by decide)
theorem ok_line : TokOk tl := .inr (.inr (.inr ⟨rfl, rfl, rfl⟩))
theorem wordN_ok {ws : List ByteArray} (hw : ∀ x ∈ ws, x.data.toList = [] ∨ isWordB x = true) {k : Int} (h : (wordN ws k).toList ≠ []) : isWordB (wordN ws k) = true ∧ 0 ≤ k ∧ k < ws.length ∧ wordN ws k = ws.getD k.toNat default := by
  by_cases hk : 0 ≤ k ∧ k < ws.length
  · have e : wordN ws k = ws.getD k.toNat default := if_pos hk
    have hlt : k.toNat < ws.length := by omega
    have e2 : ws.getD k.toNat default = ws[k.toNat] := by simp [List.getD, List.getElem?_eq_getElem hlt]
    refine ⟨?_, hk.1, hk.2, e⟩
    rw [e, e2] at h ⊢
    rcases hw _ (List.getElem_mem hlt) with q | q
    · rw [ByteArray.toList_eq] at h; exact absurd q h
    · exact q
  · exact absurd (by rw [show wordN ws k = ⟨#[]⟩ from if_neg hk, ByteArray.toList_eq]) h
theorem nameN_ok {k : Int} (h : levelN k = true) : isWordB (nameN k) = true ∧ 0 ≤ k ∧ k < 6 ∧ nameN k = levelWs.getD k.toNat default := by
  have hk : 0 ≤ k ∧ k < 6 := by simpa [levelN] using h
  have e : nameN k = levelWs.getD k.toNat default := if_pos h
  refine ⟨?_, hk.1, hk.2, e⟩
  rw [e]
  have hl : levelWs.length = 6 := rfl
  have hlt : k.toNat < levelWs.length := by omega
  have e2 : levelWs.getD k.toNat default = levelWs[k.toNat] := by simp [List.getD, List.getElem?_eq_getElem hlt]
  rw [e2]
  exact (by decide : ∀ x ∈ levelWs, isWordB x = true) _ (List.getElem_mem hlt)
theorem eiB_ok (b : Bool) {y n : ByteArray} (hy : isWordB y = true) (hn : isWordB n = true) : isWordB (eiB b y n) = true := by unfold eiB; split <;> assumption
theorem kT_ok {k : ByteArray} (h : keyN k = true) : ∀ t ∈ kT k, NoL t := by
  intro t ht
  unfold kT at ht
  rcases keyN_yes h with q | q
  · rw [if_pos q] at ht
    simp only [List.mem_cons, List.not_mem_nil, or_false] at ht
    rcases ht with rfl | rfl
    · exact ok_open
    · exact ok_close
  · split at ht
    · simp only [List.mem_cons, List.not_mem_nil, or_false] at ht
      rcases ht with rfl | rfl
      · exact ok_open
      · exact ok_close
    · simp only [List.mem_cons, List.not_mem_nil, or_false] at ht
      rcases ht with rfl | rfl | rfl
      · exact ok_open
      · exact ok_word q.1
      · exact ok_close
theorem kT_text (k : ByteArray) : (brB k).data.toList = gX (kT k) := by
  unfold brB kT
  split
  · rfl
  · unfold gX
    simp [tm, tw, tx, Lib.join, List.intercalate, ByteArray.data_append, mOpen, mClose]
theorem kT_ne (k : ByteArray) : kT k ≠ [] := by unfold kT; split <;> simp
theorem labels_ok : ∀ x ∈ labelWs, x.data.toList = [] ∨ isWordB x = true := by decide
theorem kinds_ok : ∀ x ∈ kindWs, x.data.toList = [] ∨ isWordB x = true := by decide
theorem answers_ok : ∀ x ∈ answerWs, x.data.toList = [] ∨ isWordB x = true := by decide
theorem gX_one (t : MTok) : gX [t] = tx t := Lib.join_one _ _
theorem wG_text (x : MW) : (wParts x).map (·.data.toList) = (wG x).map gX := by
  simp only [wParts, wG, List.map_cons, List.map_nil, gX_one, kT_text]
  rfl
theorem wG_ok {x : MW} (h : wrongD x = false) (hr : RngW x) : ∀ g ∈ wG x, g ≠ [] ∧ ∀ t ∈ g, NoL t := by
  obtain ⟨h1, h2⟩ := wrongD_no h
  obtain ⟨r1, r2, r3, r4, _⟩ := hr
  have one : ∀ {t : MTok}, NoL t → ([t] : List MTok) ≠ [] ∧ ∀ u ∈ [t], NoL u := fun {t} ht => ⟨by simp, fun u hu => by simp at hu; subst hu; exact ht⟩
  intro g hg
  simp only [wG, List.mem_cons, List.not_mem_nil, or_false] at hg
  rcases hg with rfl | rfl | rfl | rfl | rfl | rfl | rfl | rfl | rfl | rfl
  · exact one ok_from
  · exact one (ok_num r1)
  · exact one (ok_word (wordN_ok labels_ok h1).1)
  · exact one (ok_num r2)
  · exact ⟨kT_ne _, kT_ok h2⟩
  · exact one (ok_num r3)
  · exact one (ok_num r4)
  · exact one (ok_word (eiB_ok _ (by decide) (by decide)))
  · exact one (ok_word (eiB_ok _ (by decide) (by decide)))
  · exact one ok_to
theorem aG_text (a : MA) : (aParts a).map (·.data.toList) = (aG a).map gX := by
  unfold aParts aG
  rw [List.map_append, List.map_append]
  congr 1
  · simp only [aHead, List.map_cons, List.map_nil, gX_one, kT_text]
    rfl
  · generalize a.cyc = l
    induction l with
    | nil => rfl
    | cons x l ih => rw [List.flatMap_cons, List.flatMap_cons, List.map_append, List.map_append, wG_text, ih]
theorem aG_ok {a : MA} (h : wrongA a = false) (hr : RngA a) : ∀ g ∈ aG a, g ≠ [] ∧ ∀ t ∈ g, NoL t := by
  obtain ⟨h1, h2, h3, h4, h5⟩ := wrongA_no h
  obtain ⟨r1, r2, r3, r4, _, _, r7⟩ := hr
  have one : ∀ {t : MTok}, NoL t → ([t] : List MTok) ≠ [] ∧ ∀ u ∈ [t], NoL u := fun {t} ht => ⟨by simp, fun u hu => by simp at hu; subst hu; exact ht⟩
  intro g hg
  unfold aG at hg
  rcases List.mem_append.1 hg with hg | hg
  · simp only [List.mem_cons, List.not_mem_nil, or_false] at hg
    rcases hg with rfl | rfl | rfl | rfl | rfl | rfl | rfl | rfl | rfl
    · exact one (ok_word (by decide))
    · exact one (ok_word (wordN_ok kinds_ok h1).1)
    · exact one (ok_num r1)
    · exact one (ok_num r2)
    · exact one (ok_num r3)
    · exact ⟨kT_ne _, kT_ok h2⟩
    · exact one (ok_num r4)
    · exact one (ok_word (eiB_ok _ (by decide) (by decide)))
    · exact one (ok_word (nameN_ok h3).1)
  · obtain ⟨x, hx, hg⟩ := List.mem_flatMap.1 hg
    exact wG_ok (h5 x hx) (r7 x hx) g hg
theorem ansG_text (x : Int) (os : List Int) : (ansParts x os).map (·.data.toList) = (ansG x os).map gX := by
  unfold ansParts ansG
  rw [List.map_append, List.map_append]
  congr 1
  · simp only [List.map_cons, List.map_nil, gX_one]
    rfl
  · split
    · simp only [List.map_cons, List.map_append, List.map_map, List.map_nil, gX_one]
      congr 1
      congr 1
      apply List.map_congr_left
      intro n _
      show (decB n).data.toList = gX [tn n]
      rw [gX_one]
      rfl
    · rfl
theorem ansG_ok {x : Int} {os : List Int} (h : (wordN answerWs x).toList ≠ []) (hr : ∀ n ∈ os, i64R n) : ∀ g ∈ ansG x os, g ≠ [] ∧ ∀ t ∈ g, NoL t := by
  have one : ∀ {t : MTok}, NoL t → ([t] : List MTok) ≠ [] ∧ ∀ u ∈ [t], NoL u := fun {t} ht => ⟨by simp, fun u hu => by simp at hu; subst hu; exact ht⟩
  intro g hg
  unfold ansG at hg
  rcases List.mem_append.1 hg with hg | hg
  · simp only [List.mem_cons, List.not_mem_nil, or_false] at hg
    rcases hg with rfl | rfl
    · exact one (ok_word (by decide))
    · exact one (ok_word (wordN_ok answers_ok h).1)
  · split at hg
    · simp only [List.mem_cons, List.mem_append, List.mem_map, List.not_mem_nil, or_false] at hg
      rcases hg with rfl | ⟨n, hn, rfl⟩ | rfl
      · exact one ok_open
      · exact one (ok_num (hr n hn))
      · exact one ok_close
    · cases hg
theorem flat_ok {gs : List (List MTok)} (h : ∀ g ∈ gs, g ≠ [] ∧ ∀ t ∈ g, NoL t) : ∀ t ∈ gs.flatten, NoL t := fun t ht => by
  obtain ⟨g, hg, hgt⟩ := List.mem_flatten.1 ht
  exact (h g hg).2 t hgt
theorem two_ok {a b : MTok} (ha : NoL a) (hb : NoL b) : ∀ g ∈ ([[a], [b]] : List (List MTok)), g ≠ [] ∧ ∀ t ∈ g, NoL t := by
  intro g hg
  simp only [List.mem_cons, List.not_mem_nil, or_false] at hg
  rcases hg with rfl | rfl
  · exact ⟨by simp, fun u hu => by simp at hu; subst hu; exact ha⟩
  · exact ⟨by simp, fun u hu => by simp at hu; subst hu; exact hb⟩
theorem print_lines : ∀ (al : List MA) (rest : List MTok), (∀ a ∈ al, wrongA a = false ∧ RngA a) → printL false (al.flatMap (fun a => (aG a).flatten ++ [tl]) ++ rest) = al.flatMap (fun a => lineB (aParts a)) ++ printL false rest
  | [], rest, _ => rfl
  | a :: al, rest, h => by
    have ha := h a (by simp)
    have ok := aG_ok ha.1 ha.2
    rw [List.flatMap_cons, List.flatMap_cons, List.append_assoc, List.append_assoc, List.append_assoc, List.singleton_append, print_line (aG_text a) (by unfold aG; simp) (fun g hg => (ok g hg).1) (flat_ok ok), print_lines al rest (fun x hx => h x (by simp [hx]))]
/-- The text is the tokens', printed. -/
theorem print_toks {r : MR} (h : canR r = true) (hr : RngR r) : printB r = printL false (rT r) := by
  obtain ⟨h1, h2, h3, h4, h5, h6⟩ := canR_yes h
  obtain ⟨q1, q2, q3, q4, q5⟩ := hr
  have o1 := two_ok (a := tw wTxns) (b := tn r.1) (ok_word (by decide)) (ok_num q1)
  have o2 := two_ok (a := tw wUnique) (b := tw (eiB r.2.1 wYes wNo)) (ok_word (by decide)) (ok_word (eiB_ok _ (by decide) (by decide)))
  have o3 := two_ok (a := tw wLevel) (b := tw (nameN r.2.2.2.1)) (ok_word (by decide)) (ok_word (nameN_ok h3).1)
  have o4 := ansG_ok h4 q5
  unfold rT printB
  rw [print_line (ps := [wTxns, decB r.1]) (by simp only [List.map_cons, List.map_nil, gX_one]; rfl) (by simp) (fun g hg => (o1 g hg).1) (flat_ok o1),
    print_line (ps := [wUnique, eiB r.2.1 wYes wNo]) (by simp only [List.map_cons, List.map_nil, gX_one]; rfl) (by simp) (fun g hg => (o2 g hg).1) (flat_ok o2),
    print_lines _ _ (fun a ha => ⟨h2 a ha, q3 a ha⟩),
    print_line (ps := [wLevel, nameN r.2.2.2.1]) (by simp only [List.map_cons, List.map_nil, gX_one]; rfl) (by simp) (fun g hg => (o3 g hg).1) (flat_ok o3),
    print_line (ansG_text _ _) (by unfold ansG; simp) (fun g hg => (o4 g hg).1) (flat_ok o4)]
  show _ = _ ++ (_ ++ (_ ++ (_ ++ (_ ++ printL false []))))
  simp [printL]
theorem rT_ok {r : MR} (h : canR r = true) (hr : RngR r) : ∀ t ∈ rT r, TokOk t := by
  obtain ⟨h1, h2, h3, h4, h5, h6⟩ := canR_yes h
  obtain ⟨q1, q2, q3, q4, q5⟩ := hr
  have o1 := flat_ok (two_ok (a := tw wTxns) (b := tn r.1) (ok_word (by decide)) (ok_num q1))
  have o2 := flat_ok (two_ok (a := tw wUnique) (b := tw (eiB r.2.1 wYes wNo)) (ok_word (by decide)) (ok_word (eiB_ok _ (by decide) (by decide))))
  have o3 := flat_ok (two_ok (a := tw wLevel) (b := tw (nameN r.2.2.2.1)) (ok_word (by decide)) (ok_word (nameN_ok h3).1))
  have o4 := flat_ok (ansG_ok h4 q5)
  intro t ht
  unfold rT at ht
  simp only [List.mem_append, List.mem_cons, List.not_mem_nil, or_false] at ht
  have hl := ok_line
  rcases ht with ht | ht | ht | ht | ht | ht | ht | ht | ht
  · exact (o1 t (by simpa using ht)).1
  · subst ht; exact hl
  · exact (o2 t (by simpa using ht)).1
  · subst ht; exact hl
  · obtain ⟨a, ha, ht⟩ := List.mem_flatMap.1 ht
    rcases List.mem_append.1 ht with ht | ht
    · exact (flat_ok (aG_ok (h2 a ha) (q3 a ha)) t ht).1
    · simp at ht; subst ht; exact hl
  · exact (o3 t (by simpa using ht)).1
  · subst ht; exact hl
  · exact (o4 t ht).1
  · subst ht; exact hl
theorem scan_print {r : MR} (h : canR r = true) (hr : RngR r) {s : ByteArray} (hs : s.data.toList = printB r) (hz : s.size ≤ 20000) : ∃ l, scanM s = .ok l ∧ l.map bareT = (rT r).map bareT := by
  rw [scanM_left hz]
  obtain ⟨l', e1, e2⟩ := left_again (s := s) (rT r) false 0 [] (rT_ok h hr) (by rw [List.drop_zero, hs]; exact print_toks h hr)
  exact ⟨l', by simpa using e1, e2⟩
end Go.Proofs.YtkpomcimaofkkaaGreatDoor.Rp
