/-
  A text with lines without tokens put in is scanned alike: the same tokens with line ends put in, or a fault of the same number.
  The parser of a history's text, plain: an event is read from its own line alone.
  The code's parser of a history's text: its box; the next token; giving up, which is a panic.
  The code's parser of a history's text: giving up, a panic with the fault; whether a token stands there.
-/
import Derived.Test.YtegeiojcdjnmjaaGreatDoorL9
import Derived.Test.YtegeiojcdjnmjaaGreatDoorL6
import Derived.Test.YtegeiojcdjnmjaaGreatDoorL8
import Derived.Test.YtegeiojcdjnmjaaGreatDoorL7
import Derived.Test.YtegeiojcdjnmjaaGreatDoorL3
import Derived.Recover
import Derived.RegionTactic
import Derived.ChangeAlike
import Derived.Deep.QuietTactic
import Derived.BigQuiet
import Derived.WalkKit
import Derived.WalkLawsBesides
namespace Go.Proofs.YtegeiojcdjnmjaaGreatDoor
set_option linter.unusedVariables false
set_option linter.unusedSimpArgs false

/-- Bytes with more behind each line's end. -/
def gP (pad L : List UInt8) : List UInt8 := L.flatMap fun b => if b = 10 then 10 :: pad else [b]
/-- How many bytes stand ahead of the first line's end. -/
def nlen : List UInt8 → Nat
  | [] => 0
  | b :: r => if b = 10 then 0 else nlen r + 1
theorem gP_cons {pad : List UInt8} {b : UInt8} {r : List UInt8} (h : ¬ b = 10) : gP pad (b :: r) = b :: gP pad r := by
  show (if b = 10 then 10 :: pad else [b]) ++ gP pad r = _
  rw [if_neg h]; rfl
theorem gP_line {pad : List UInt8} {r : List UInt8} : gP pad (10 :: r) = 10 :: (pad ++ gP pad r) := rfl
theorem gP_get (pad : List UInt8) : ∀ (L : List UInt8) (j : Nat), j ≤ nlen L → (gP pad L)[j]? = L[j]?
  | [], j, _ => rfl
  | b :: r, j, h => by
    by_cases hb : b = 10
    · have hn : nlen (b :: r) = 0 := by show (if b = 10 then 0 else nlen r + 1) = _; rw [if_pos hb]
      have hj : j = 0 := by omega
      subst hj hb
      rfl
    · have hn : nlen (b :: r) = nlen r + 1 := by show (if b = 10 then 0 else nlen r + 1) = _; rw [if_neg hb]
      rw [gP_cons hb]
      cases j with
      | zero => rfl
      | succ j => simpa using gP_get pad r j (by omega)
theorem gP_drop (pad : List UInt8) : ∀ (L : List UInt8) (k : Nat), k ≤ nlen L → (gP pad L).drop k = gP pad (L.drop k)
  | [], k, _ => by simp [gP]
  | b :: r, k, h => by
    by_cases hb : b = 10
    · have hn : nlen (b :: r) = 0 := by show (if b = 10 then 0 else nlen r + 1) = _; rw [if_pos hb]
      have hk : k = 0 := by omega
      subst hk
      rfl
    · have hn : nlen (b :: r) = nlen r + 1 := by show (if b = 10 then 0 else nlen r + 1) = _; rw [if_neg hb]
      cases k with
      | zero => rfl
      | succ k =>
        rw [gP_cons hb]
        simpa using gP_drop pad r k (by omega)
theorem nlen_stop : ∀ (L : List UInt8), L[nlen L]? = some 10 ∨ L[nlen L]? = none
  | [] => .inr rfl
  | b :: r => by
    by_cases hb : b = 10
    · have hn : nlen (b :: r) = 0 := by show (if b = 10 then 0 else nlen r + 1) = _; rw [if_pos hb]
      rw [hn, hb]; exact .inl rfl
    · have hn : nlen (b :: r) = nlen r + 1 := by show (if b = 10 then 0 else nlen r + 1) = _; rw [if_neg hb]
      rw [hn]
      simpa using nlen_stop r
theorem bt_list2 (s : ByteArray) (k : Nat) : bt s k = (s.data.toList[k]?.map UInt8.toNat).getD 0 := by
  unfold bt
  split
  · rename_i h
    have : s.data.toList[k]? = some s[k] := by
      rw [Array.getElem?_toList, Array.getElem?_eq_getElem (by exact h)]
      rfl
    rw [this]; rfl
  · rename_i h
    have : s.data.toList[k]? = none := by
      rw [Array.getElem?_toList, Array.getElem?_eq_none (by exact Nat.le_of_not_lt h)]
    rw [this]; rfl
theorem bt_drop (s : ByteArray) (i j : Nat) : bt s (i + j) = (((s.data.toList.drop i)[j]?).map UInt8.toNat).getD 0 := by
  rw [bt_list2, List.getElem?_drop]
section
variable {pad : List UInt8} {s t : ByteArray}
theorem alk_of {i p : Nat} (h : t.data.toList.drop p = gP pad (s.data.toList.drop i)) : Alk s t i p (nlen (s.data.toList.drop i)) := by
  refine ⟨fun j hj => ?_, ?_⟩
  · rw [bt_drop, bt_drop, h, gP_get pad _ _ hj]
  · rw [bt_drop]
    rcases nlen_stop (s.data.toList.drop i) with e | e
    · rw [e]; exact .inl rfl
    · rw [e]; exact .inr rfl
theorem step_of {i p k : Nat} (h : t.data.toList.drop p = gP pad (s.data.toList.drop i)) (hk : k ≤ nlen (s.data.toList.drop i)) : t.data.toList.drop (p + k) = gP pad (s.data.toList.drop (i + k)) := by
  rw [← List.drop_drop, h, gP_drop pad _ _ hk, List.drop_drop]
abbrev lineS : MTok := (4, 0, ByteArray.empty, 0)
/-- Tokens with m line ends more behind each. -/
def expd (m : Nat) (L : List MTok) : List MTok := L.flatMap fun t => if t.1 = 4 then t :: List.replicate m lineS else [t]
/-- Blanks and line ends alone. -/
theorem pad_scan : ∀ (q : List UInt8) (r : List UInt8) (k : Nat) (acc : List MTok), (∀ b ∈ q, b = 32 ∨ b = 10) → t.data.toList.drop k = q ++ r →
    ∃ P, left t k acc = left t (k + q.length) (acc ++ P) ∧ P.map skel = List.replicate (q.count 10) lineS
  | [], r, k, acc, _, _ => ⟨[], by simp, rfl⟩
  | b :: q, r, k, acc, hq, h => by
    have hb := hq b (List.mem_cons_self ..)
    have hk : bt t k = b.toNat := by
      have := bt_drop t k 0
      rw [Nat.add_zero, h] at this
      simpa using this
    have hlt : k < t.size := in_of_bt (by rw [hk]; rcases hb with e | e <;> (rw [e]; decide))
    have hd : t.data.toList.drop (k + 1) = q ++ r := by rw [← List.drop_drop, h]; rfl
    rcases hb with e | e
    · obtain ⟨P, p1, p2⟩ := pad_scan q r (k + 1) acc (fun x hx => hq x (List.mem_cons_of_mem _ hx)) hd
      refine ⟨P, ?_, ?_⟩
      · rw [left_blank acc hlt (by rw [hk, e]; rfl), p1, List.length_cons, show k + 1 + q.length = k + (q.length + 1) by omega]
      · rw [p2, e]; rfl
    · have h10 : bt t k = 10 := by rw [hk, e]; rfl
      obtain ⟨P, p1, p2⟩ := pad_scan q r (k + 1) (acc ++ [(4, (k : Int), t.extract k (k + 1), 0)]) (fun x hx => hq x (List.mem_cons_of_mem _ hx)) hd
      refine ⟨(4, (k : Int), t.extract k (k + 1), 0) :: P, ?_, ?_⟩
      · rw [left_tok acc hlt (by rw [h10]; decide) (tok_line10 h10), p1, List.length_cons, show k + 1 + q.length = k + (q.length + 1) by omega]
        simp
      · rw [List.map_cons, p2, e]
        simp [List.replicate_succ, skel]
/-- From a place on, both alike. -/
theorem scan_exp (hpad : ∀ b ∈ pad, b = 32 ∨ b = 10) : ∀ (n i p : Nat) (acc acc' : List MTok), s.size - i ≤ n → t.data.toList.drop p = gP pad (s.data.toList.drop i) →
    (∃ e e', left s i acc = .error e ∧ left t p acc' = .error e' ∧ e.2 = e'.2) ∨ (∃ U U', left s i acc = .ok (acc ++ U) ∧ left t p acc' = .ok (acc' ++ U') ∧ U'.map skel = expd (pad.count 10) (U.map skel)) := by
  intro n
  induction n with
  | zero =>
    intro i p acc acc' hn h
    have hs : s.data.toList.drop i = [] := List.drop_eq_nil_of_le (by simp; omega)
    rw [hs] at h
    have hp : ¬ p < t.size := by
      have : (t.data.toList.drop p).length = 0 := by rw [h]; rfl
      simp at this
      omega
    refine .inr ⟨[], [], ?_, ?_, rfl⟩
    · rw [left_end acc (by omega), List.append_nil]
    · rw [left_end acc' hp, List.append_nil]
  | succ n ih =>
    intro i p acc acc' hn h
    by_cases hi : i < s.size
    · obtain ⟨b, r, hbr⟩ : ∃ b r, s.data.toList.drop i = b :: r := by
        cases hd : s.data.toList.drop i with
        | nil =>
          have : (s.data.toList.drop i).length = 0 := by rw [hd]; rfl
          simp at this
          omega
        | cons b r => exact ⟨b, r, rfl⟩
      have hbt : bt s i = b.toNat := by
        have := bt_drop s i 0
        rw [Nat.add_zero, hbr] at this
        simpa using this
      have hA := alk_of h
      have e0 := hA.same 0 (Nat.zero_le _)
      rw [Nat.add_zero, Nat.add_zero] at e0
      have hp : p < t.size := by
        have hl : 0 < (t.data.toList.drop p).length := by
          rw [h, hbr]
          by_cases hb : b = 10
          · rw [hb, gP_line]; simp
          · rw [gP_cons hb]; simp
        simp at hl
        omega
      by_cases h10 : bt s i = 10
      · have hb : b = 10 := by
          have : b.toNat = (10 : UInt8).toNat := by rw [← hbt, h10]; rfl
          exact UInt8.toNat_inj.1 this
        subst hb
        have hd : t.data.toList.drop (p + 1) = pad ++ gP pad r := by rw [← List.drop_drop, h, hbr, gP_line]; rfl
        obtain ⟨P, p1, p2⟩ := pad_scan pad (gP pad r) (p + 1) (acc' ++ [(4, (p : Int), t.extract p (p + 1), 0)]) hpad hd
        have hr : s.data.toList.drop (i + 1) = r := by rw [← List.drop_drop, hbr]; rfl
        have hd2 : t.data.toList.drop (p + 1 + pad.length) = gP pad (s.data.toList.drop (i + 1)) := by rw [← List.drop_drop, hd, hr, List.drop_left]
        have h10t : bt t p = 10 := by rw [e0]; exact h10
        have l1 : left s i acc = left s (i + 1) (acc ++ [(4, (i : Int), s.extract i (i + 1), 0)]) := left_tok acc hi (by rw [h10]; decide) (tok_line10 h10)
        have l2 : left t p acc' = left t (p + 1 + pad.length) (acc' ++ [(4, (p : Int), t.extract p (p + 1), 0)] ++ P) := by rw [left_tok acc' hp (by rw [h10t]; decide) (tok_line10 h10t), p1]
        rcases ih (i + 1) (p + 1 + pad.length) (acc ++ [(4, (i : Int), s.extract i (i + 1), 0)]) (acc' ++ [(4, (p : Int), t.extract p (p + 1), 0)] ++ P) (by omega) hd2 with ⟨e, e', q1, q2, q3⟩ | ⟨U, U', q1, q2, q3⟩
        · exact .inl ⟨e, e', l1.trans q1, l2.trans q2, q3⟩
        · refine .inr ⟨(4, (i : Int), s.extract i (i + 1), 0) :: U, (4, (p : Int), t.extract p (p + 1), 0) :: (P ++ U'), ?_, ?_, ?_⟩
          · rw [l1, q1]; simp
          · rw [l2, q2]; simp
          · rw [List.map_cons, List.map_append, p2, q3, List.map_cons]
            simp [expd, skel]
      · have hb : ¬ b = 10 := fun c => h10 (by rw [hbt, c]; rfl)
        have hnl : 1 ≤ nlen (s.data.toList.drop i) := by rw [hbr]; show 1 ≤ (if b = 10 then 0 else nlen r + 1); rw [if_neg hb]; omega
        by_cases h32 : bt s i = 32
        · have h32t : bt t p = 32 := by rw [e0]; exact h32
          rcases ih (i + 1) (p + 1) acc acc' (by omega) (step_of h hnl) with ⟨e, e', q1, q2, q3⟩ | ⟨U, U', q1, q2, q3⟩
          · exact .inl ⟨e, e', (left_blank acc hi h32).trans q1, (left_blank acc' hp h32t).trans q2, q3⟩
          · exact .inr ⟨U, U', (left_blank acc hi h32).trans q1, (left_blank acc' hp h32t).trans q2, q3⟩
        · have h32t : ¬ bt t p = 32 := by rw [e0]; exact h32
          rcases hA.tok hi hp h10 with ⟨a, a', y, t1, t2⟩ | ⟨τ, τ', v, v1, v2, t1, t2, t3, t4⟩
          · exact .inl ⟨(a, y), (a', y), left_bad acc hi h32 t1, left_bad acc' hp h32t t2, rfl⟩
          · have l1 := left_tok acc hi h32 t1
            have l2 := left_tok acc' hp h32t t2
            rcases ih (i + v) (p + v) (acc ++ [τ]) (acc' ++ [τ']) (by omega) (step_of h v2) with ⟨e, e', q1, q2, q3⟩ | ⟨U, U', q1, q2, q3⟩
            · exact .inl ⟨e, e', l1.trans q1, l2.trans q2, q3⟩
            · refine .inr ⟨τ :: U, τ' :: U', ?_, ?_, ?_⟩
              · rw [l1, q1]; simp
              · rw [l2, q2]; simp
              · rw [List.map_cons, t3, q3, List.map_cons]
                have hk : ¬ (skel τ).1 = 4 := t4
                show skel τ :: expd (pad.count 10) (U.map skel) = (if (skel τ).1 = 4 then skel τ :: List.replicate (pad.count 10) lineS else [skel τ]) ++ expd (pad.count 10) (U.map skel)
                rw [if_neg hk]; rfl
    · have hs : s.data.toList.drop i = [] := List.drop_eq_nil_of_le (by simp; omega)
      rw [hs] at h
      have hp : ¬ p < t.size := by
        have : (t.data.toList.drop p).length = 0 := by rw [h]; rfl
        simp at this
        omega
      refine .inr ⟨[], [], ?_, ?_, rfl⟩
      · rw [left_end acc hi, List.append_nil]
      · rw [left_end acc' hp, List.append_nil]
end
/-- The whole. -/
theorem scan_padded {pad : List UInt8} {s t : ByteArray} (hpad : ∀ b ∈ pad, b = 32 ∨ b = 10) (ht : t.data.toList = pad ++ gP pad s.data.toList) (h1 : s.size ≤ 20000) (h2 : t.size ≤ 20000) :
    (∃ e e', scanM s = .error e ∧ scanM t = .error e' ∧ e.2 = e'.2) ∨ (∃ T T', scanM s = .ok T ∧ scanM t = .ok T' ∧ T'.map skel = List.replicate (pad.count 10) lineS ++ expd (pad.count 10) (T.map skel)) := by
  rw [scanM_left h1, scanM_left h2]
  obtain ⟨P, p1, p2⟩ := pad_scan (t := t) pad (gP pad s.data.toList) 0 [] hpad (by rw [List.drop_zero]; exact ht)
  have hd : t.data.toList.drop (0 + pad.length) = gP pad (s.data.toList.drop 0) := by rw [ht, Nat.zero_add, List.drop_left, List.drop_zero]
  rcases scan_exp (pad := pad) hpad s.size 0 (0 + pad.length) [] ([] ++ P) (by omega) hd with ⟨e, e', q1, q2, q3⟩ | ⟨U, U', q1, q2, q3⟩
  · exact .inl ⟨e, e', q1, p1.trans q2, q3⟩
  · refine .inr ⟨U, P ++ U', by simpa using q1, ?_, ?_⟩
    · rw [p1, q2]; simp
    · rw [List.map_append, p2, q3]
end Go.Proofs.YtegeiojcdjnmjaaGreatDoor
namespace Go.Proofs.YtegeiojcdjnmjaaGreatDoor
set_option linter.unusedVariables false
set_option linter.unusedSimpArgs false
open Go.RowKit

/-- Alike up to the first line's end; R of what stands behind it. -/
def Lk (R : List MTok → List MTok → Prop) : List MTok → List MTok → Prop
  | [], [] => True
  | t :: l, t' :: l' => skel t = skel t' ∧ (t.1 = 4 → R l l') ∧ (¬ t.1 = 4 → Lk R l l')
  | [], _ :: _ => False
  | _ :: _, [] => False
section
variable {R : List MTok → List MTok → Prop}
theorem lk_nil {l' : List MTok} (h : Lk R [] l') : l' = [] := by
  cases l' with
  | nil => rfl
  | cons t r => exact h.elim
theorem lk_cons {t : MTok} {r l' : List MTok} (h : Lk R (t :: r) l') : ∃ t' r', l' = t' :: r' ∧ skel t = skel t' ∧ (t.1 = 4 → R r r') ∧ (¬ t.1 = 4 → Lk R r r') := by
  cases l' with
  | nil => exact h.elim
  | cons t' r' => exact ⟨t', r', rfl, h.1, h.2.1, h.2.2⟩
/-- Both take the same and leave alike; or both give up for the same reason. -/
def Sl (R : List MTok → List MTok → Prop) {α : Type} (p q : Ps α) : Prop := match p, q with
  | .ok z, .ok z' => z.1 = z'.1 ∧ Lk R z.2 z'.2
  | .error e, .error e' => e.2 = e'.2
  | _, _ => False
theorem Sl.bind {α β : Type} {p q : Ps α} {f g : α → List MTok → Ps β} (h : Sl R p q) (hf : ∀ x l l', Lk R l l' → Sl R (f x l) (g x l')) : Sl R (andP p f) (andP q g) := by
  cases p with
  | error e =>
    cases q with
    | error e' => exact h
    | ok z => exact h.elim
  | ok z =>
    cases q with
    | error e' => exact h.elim
    | ok z' =>
      obtain ⟨x, l⟩ := z
      obtain ⟨x', l'⟩ := z'
      obtain ⟨h1, h2⟩ := h
      have h1' : x = x' := h1
      subst h1'
      exact hf x l l' h2
theorem sl_fail {α : Type} (en en' why : Int) (l l' : List MTok) : Sl R (pFail en why l : Ps α) (pFail en' why l') := rfl
theorem sl_ok {α : Type} (x : α) {l l' : List MTok} (h : Lk R l l') : Sl R (.ok (x, l) : Ps α) (.ok (x, l')) := ⟨rfl, h⟩
theorem sees_lk {l l' : List MTok} {k : Int} {x : ByteArray} (hk : k = 1 ∨ k = 3) (h : Lk R l l') : seesP l k x = seesP l' k x := by
  cases l with
  | nil => rw [lk_nil h]
  | cons t r =>
    obtain ⟨t', r', rfl, h1, h2, h3⟩ := lk_cons h
    show (t.1 == k && t.2.2.1.toList == x.toList) = (t'.1 == k && t'.2.2.1.toList == x.toList)
    rw [← skel_kind h1]
    by_cases e : t.1 = k
    · rw [skel_text h1 (by rw [e]; exact hk)]
    · have : (t.1 == k) = false := by simpa using e
      rw [this, Bool.false_and, Bool.false_and]
/-- What a token that is seen leaves. -/
theorem lk_took {l l' : List MTok} {k : Int} {x : ByteArray} (hk : k = 1 ∨ k = 3) (h : Lk R l l') (hs : seesP l k x = true) : Lk R l.tail l'.tail := by
  cases l with
  | nil => cases hs
  | cons t r =>
    obtain ⟨t', r', rfl, h1, h2, h3⟩ := lk_cons h
    have hs2 : (t.1 == k && t.2.2.1.toList == x.toList) = true := hs
    rw [Bool.and_eq_true, beq_iff_eq] at hs2
    exact h3 (by omega)
variable {en en' : Int}
theorem sl_mark (x : ByteArray) {l l' : List MTok} (h : Lk R l l') : Sl R (pMark en x l) (pMark en' x l') := by
  unfold pMark
  rw [← sees_lk (.inr rfl) h]
  split
  · rename_i hs; exact sl_ok () (lk_took (.inr rfl) h hs)
  · exact sl_fail _ _ _ _ _
theorem sl_num {l l' : List MTok} (h : Lk R l l') : Sl R (pNum en l) (pNum en' l') := by
  cases l with
  | nil => rw [lk_nil h]; exact sl_fail _ _ _ _ _
  | cons t r =>
    obtain ⟨t', r', rfl, h1, h2, h3⟩ := lk_cons h
    unfold pNum
    dsimp only
    rw [← skel_kind h1]
    split
    · rename_i e
      rw [skel_num h1 e]
      exact sl_ok _ (h3 (by omega))
    · exact sl_fail _ _ _ _ _
theorem sl_proc {l l' : List MTok} (h : Lk R l l') : Sl R (pProc en l) (pProc en' l') := by
  cases l with
  | nil => rw [lk_nil h]; exact sl_fail _ _ _ _ _
  | cons t r =>
    obtain ⟨t', r', rfl, h1, h2, h3⟩ := lk_cons h
    unfold pProc
    dsimp only
    rw [← skel_kind h1]
    by_cases e : t.1 = 2
    · rw [skel_num h1 e]
      split
      · exact sl_ok _ (h3 (by omega))
      · exact sl_fail _ _ _ _ _
    · rw [if_neg (fun c => e c.1), if_neg (fun c => e c.1)]
      exact sl_fail _ _ _ _ _
theorem sl_key {l l' : List MTok} (h : Lk R l l') : Sl R (pKey en l) (pKey en' l') := by
  cases l with
  | nil => rw [lk_nil h]; exact sl_fail _ _ _ _ _
  | cons t r =>
    obtain ⟨t', r', rfl, h1, h2, h3⟩ := lk_cons h
    unfold pKey
    dsimp only
    rw [← skel_kind h1]
    by_cases e : t.1 = 1
    · rw [skel_text h1 (.inl e)]
      split
      · exact sl_ok _ (h3 (by omega))
      · exact sl_fail _ _ _ _ _
    · rw [if_neg (fun c => e c.1), if_neg (fun c => e c.1)]
      exact sl_fail _ _ _ _ _
theorem sl_kind {l l' : List MTok} (h : Lk R l l') : ∀ (ws : List ByteArray) (k : Nat), Sl R (pKind en l k ws) (pKind en' l' k ws)
  | [], k => sl_fail _ _ _ _ _
  | x :: xs, k => by
    unfold pKind
    rw [← sees_lk (.inl rfl) h]
    split
    · rename_i hs; exact sl_ok _ (lk_took (.inl rfl) h hs)
    · exact sl_kind h xs (k + 1)
theorem sl_nums : ∀ {l l' : List MTok} (acc : List Int), Lk R l l' → Sl R (pNums en l acc) (pNums en' l' acc)
  | [], l', acc, h => by rw [lk_nil h]; exact sl_ok _ trivial
  | t :: r, l', acc, h => by
    obtain ⟨t', r', rfl, h1, h2, h3⟩ := lk_cons h
    unfold pNums
    rw [← skel_kind h1]
    by_cases e : t.1 = 2
    · rw [if_pos e, if_pos e, skel_num h1 e]
      split
      · exact sl_fail _ _ _ _ _
      · exact sl_nums _ (h3 (by omega))
    · rw [if_neg e, if_neg e]
      exact sl_ok _ h
theorem sl_list {l l' : List MTok} (h : Lk R l l') : Sl R (pList en l) (pList en' l') :=
  (sl_mark _ h).bind fun _ _ _ h1 => (sl_nums [] h1).bind fun xs _ _ h2 => (sl_mark _ h2).bind fun _ _ _ h3 => sl_ok xs h3
theorem sl_mid (k : Int) (s : ByteArray) {l l' : List MTok} (h : Lk R l l') : Sl R (pMid en k s l) (pMid en' k s l') := by
  unfold pMid
  split
  · exact (sl_num h).bind fun x _ _ h1 => sl_ok _ h1
  · split
    · rw [← sees_lk (.inl rfl) h]
      split
      · rename_i hs; exact sl_ok _ (lk_took (.inl rfl) h hs)
      · cases l with
        | nil => rw [lk_nil h]; exact sl_ok _ trivial
        | cons t r =>
          obtain ⟨t', r', rfl, h1, h2, h3⟩ := lk_cons h
          simp only
          rw [← skel_kind h1]
          by_cases e : t.1 = 2
          · rw [if_pos e, if_pos e, skel_num h1 e]
            exact sl_ok _ (h3 (by omega))
          · rw [if_neg e, if_neg e]
            exact sl_ok _ h
    · split
      · rw [← sees_lk (.inr rfl) h]
        split
        · exact (sl_list h).bind fun xs _ _ h1 => sl_ok _ h1
        · exact sl_ok _ h
      · exact sl_ok _ h
theorem sl_op {l l' : List MTok} (h : Lk R l l') : Sl R (pOp en l) (pOp en' l') :=
  (sl_mark _ h).bind fun _ _ _ h1 => (sl_kind h1 _ _).bind fun k _ _ h2 => (sl_key h2).bind fun s _ _ h3 => (sl_mid k s h3).bind fun o _ _ h4 => (sl_mark _ h4).bind fun _ _ _ h5 => sl_ok o h5
theorem sl_ops : ∀ (f : Nat) {l l' : List MTok} (acc : List MOp), Lk R l l' → Sl R (pOps en f l acc) (pOps en' f l' acc)
  | 0, l, l', acc, h => sl_ok _ h
  | f + 1, l, l', acc, h => by
    unfold pOps
    rw [← sees_lk (.inr rfl) h]
    split
    · split
      · exact sl_fail _ _ _ _ _
      · exact (sl_op h).bind fun o _ _ h1 => sl_ops f _ h1
    · exact sl_ok _ h
theorem sl_evA {l l' : List MTok} (h : Lk R l l') : Sl R (pEvA en l) (pEvA en' l') := by
  have hb : ∀ k m m', Lk R m m' → Sl R (pEvB en k m) (pEvB en' k m') := fun k m m' hm =>
    (sl_proc hm).bind fun p _ _ h2 => (sl_op h2).bind fun o _ _ h3 => (sl_ops 10 [o] h3).bind fun os _ _ h4 => sl_ok _ h4
  exact (sl_kind h _ _).bind fun k _ _ h1 => hb k _ _ h1
/-- An event, and what is left of its line: nothing, or its end. -/
theorem sl_ev {l l' : List MTok} (h : Lk R l l') : match pEv en l, pEv en' l' with
    | .ok z, .ok z' => z.1 = z'.1 ∧ ((z.2 = [] ∧ z'.2 = []) ∨ ∃ t r t' r', z.2 = t :: r ∧ z'.2 = t' :: r' ∧ t.1 = 4 ∧ t'.1 = 4 ∧ R r r')
    | .error e, .error e' => e.2 = e'.2
    | _, _ => False := by
  have hA := sl_evA (en := en) (en' := en') h
  unfold pEv
  cases hp : pEvA en l with
  | error e =>
    cases hq : pEvA en' l' with
    | error e' => rw [hp, hq] at hA; exact hA
    | ok z' => rw [hp, hq] at hA; exact hA.elim
  | ok z =>
    cases hq : pEvA en' l' with
    | error e' => rw [hp, hq] at hA; exact hA.elim
    | ok z' =>
      rw [hp, hq] at hA
      obtain ⟨x, m⟩ := z
      obtain ⟨x', m'⟩ := z'
      obtain ⟨e1, e2⟩ := hA
      have e1' : x = x' := e1
      subst e1'
      have e2' : Lk R m m' := e2
      show match (andP (pEnd en m) fun _ l5 => (.ok (x, l5) : Ps MEv)), (andP (pEnd en' m') fun _ l5 => (.ok (x, l5) : Ps MEv)) with
        | .ok z, .ok z' => z.1 = z'.1 ∧ ((z.2 = [] ∧ z'.2 = []) ∨ ∃ t r t' r', z.2 = t :: r ∧ z'.2 = t' :: r' ∧ t.1 = 4 ∧ t'.1 = 4 ∧ R r r')
        | .error e, .error e' => e.2 = e'.2
        | _, _ => False
      cases m with
      | nil =>
        rw [lk_nil e2']
        exact ⟨rfl, .inl ⟨rfl, rfl⟩⟩
      | cons t r =>
        obtain ⟨t', r', rfl, h1, h2, h3⟩ := lk_cons e2'
        have hk := skel_kind h1
        by_cases h4 : t.1 = 4
        · have p1 : pEnd en (t :: r) = .ok ((), t :: r) := if_pos h4
          have p2 : pEnd en' (t' :: r') = .ok ((), t' :: r') := if_pos (by rw [← hk]; exact h4)
          rw [p1, p2]
          exact ⟨rfl, .inr ⟨t, r, t', r', rfl, rfl, h4, by rw [← hk]; exact h4, h2 h4⟩⟩
        · have p1 : pEnd en (t :: r) = .error (t.2.1, 20) := if_neg h4
          have p2 : pEnd en' (t' :: r') = .error (t'.2.1, 20) := if_neg (by rw [← hk]; exact h4)
          rw [p1, p2]
          exact rfl
end
/-- Tokens with line ends put in: k ahead, m behind each. -/
def Bd (m : Nat) (T T' : List MTok) : Prop := ∃ k, T'.map skel = List.replicate k lineS ++ expd m (T.map skel)
theorem kind_of {t : MTok} {x : MTok} (h : skel t = x) : t.1 = x.1 := by rw [← h]; rfl
theorem bd_lk {m : Nat} : ∀ (T T' : List MTok), T'.map skel = expd m (T.map skel) → Lk (Bd m) T T'
  | [], T', h => by
    have : T' = [] := by simpa [expd] using h
    rw [this]; trivial
  | t :: r, T', h => by
    cases T' with
    | nil =>
      exfalso
      have h' : ([] : List MTok) = (if (skel t).1 = 4 then skel t :: List.replicate m lineS else [skel t]) ++ expd m (r.map skel) := h
      split at h' <;> simp at h'
    | cons t' r' =>
      have h' : skel t' :: r'.map skel = (if (skel t).1 = 4 then skel t :: List.replicate m lineS else [skel t]) ++ expd m (r.map skel) := h
      by_cases h4 : t.1 = 4
      · rw [if_pos (show (skel t).1 = 4 from h4)] at h'
        simp only [List.cons_append, List.cons.injEq] at h'
        exact ⟨h'.1.symm, fun _ => ⟨m, h'.2⟩, fun c => absurd h4 c⟩
      · rw [if_neg (show ¬ (skel t).1 = 4 from h4)] at h'
        simp only [List.cons_append, List.nil_append, List.cons.injEq] at h'
        exact ⟨h'.1.symm, fun c => absurd c h4, fun _ => bd_lk r r' h'.2⟩
/-- Lines without tokens play no part. -/
theorem hist_lines {m : Nat} {en en' : Int} : ∀ (n : Nat) (T T' : List MTok) (f f' : Nat) (out : List MEv), T'.length ≤ n → T.length < f → T'.length < f' → Bd m T T' → Wds T → Wds T' → SmH (pHist en f T out) (pHist en' f' T' out) := by
  intro n
  induction n with
  | zero =>
    intro T T' f f' out hn hf hf' hb hw hw'
    have hT' : T' = [] := List.eq_nil_of_length_eq_zero (by omega)
    subst hT'
    obtain ⟨k, hk⟩ := hb
    obtain ⟨f, rfl⟩ := Nat.exists_eq_succ_of_ne_zero (n := f) (by omega)
    obtain ⟨f', rfl⟩ := Nat.exists_eq_succ_of_ne_zero (n := f') (by omega)
    cases T with
    | nil => rw [pHist_nil, pHist_nil]; exact rfl
    | cons t r =>
      exfalso
      have h' : ([] : List MTok) = List.replicate k lineS ++ ((if (skel t).1 = 4 then skel t :: List.replicate m lineS else [skel t]) ++ expd m (r.map skel)) := hk
      split at h' <;> simp at h'
  | succ n ih =>
    intro T T' f f' out hn hf hf' hb hw hw'
    obtain ⟨k, hk⟩ := hb
    obtain ⟨f', rfl⟩ := Nat.exists_eq_succ_of_ne_zero (n := f') (by omega)
    cases k with
    | succ k =>
      cases T' with
      | nil => simp [List.replicate_succ] at hk
      | cons t' r' =>
        rw [List.replicate_succ, List.cons_append, List.map_cons, List.cons.injEq] at hk
        have h4 : t'.1 = 4 := kind_of hk.1
        rw [pHist_line _ _ _ _ h4]
        simp only [List.length_cons] at hn hf'
        exact ih T r' f f' out (by omega) hf (by omega) ⟨k, hk.2⟩ hw (fun x hx => hw' x (List.mem_cons_of_mem _ hx))
    | zero =>
      have hk' : T'.map skel = expd m (T.map skel) := by simpa using hk
      obtain ⟨f, rfl⟩ := Nat.exists_eq_succ_of_ne_zero (n := f) (by omega)
      have hL := bd_lk T T' hk'
      cases T with
      | nil => rw [lk_nil hL, pHist_nil, pHist_nil]; exact rfl
      | cons t r =>
        obtain ⟨t', r', rfl, h1, h2, h3⟩ := lk_cons hL
        have hkk := skel_kind h1
        simp only [List.length_cons] at hn hf hf'
        by_cases h4 : t.1 = 4
        · have h4' : t'.1 = 4 := by rw [← hkk]; exact h4
          rw [pHist_line _ _ _ _ h4, pHist_line _ _ _ _ h4']
          exact ih r r' f f' out (by omega) (by omega) (by omega) (h2 h4) (fun x hx => hw x (List.mem_cons_of_mem _ hx)) (fun x hx => hw' x (List.mem_cons_of_mem _ hx))
        · have h4' : ¬ t'.1 = 4 := by rw [← hkk]; exact h4
          by_cases h3' : out.length = 300
          · rw [pHist_full _ _ _ _ h4 h3', pHist_full _ _ _ _ h4' h3']
            exact rfl
          · have he := sl_ev (R := Bd m) (en := en) (en' := en') hL
            have hs := sim_ev (en := en) hw
            have hs' := sim_ev (en := en') hw'
            cases hp : pEv en (t :: r) with
            | error e =>
              cases hq : pEv en' (t' :: r') with
              | error e' =>
                rw [hp, hq] at he
                rw [pHist_bad _ _ _ _ e h4 h3' hp, pHist_bad _ _ _ _ e' h4' h3' hq]
                exact he
              | ok z => rw [hp, hq] at he; exact he.elim
            | ok z =>
              cases hq : pEv en' (t' :: r') with
              | error e' => rw [hp, hq] at he; exact he.elim
              | ok z' =>
                rw [hp, hq] at he
                rw [hp] at hs
                rw [hq] at hs'
                obtain ⟨l2, s1, s2, s3, s4⟩ := hs
                obtain ⟨l2', s1', s2', s3', s4'⟩ := hs'
                have w2 : Wds z.2 := hw.suf s3
                have w2' : Wds z'.2 := hw'.suf s3'
                rw [pHist_more _ _ _ _ z h4 h3' hp, pHist_more _ _ _ _ z' h4' h3' hq]
                obtain ⟨e1, e2⟩ := he
                rw [e1]
                simp only [List.length_cons] at s4 s4'
                rcases e2 with ⟨n1, n2⟩ | ⟨a, b, a', b', n1, n2, k1, k2, hR⟩
                · rw [n1, n2]
                  exact ih [] [] f f' _ (by simp) (by simp; omega) (by simp; omega) ⟨0, rfl⟩ (fun _ h => by cases h) (fun _ h => by cases h)
                · rw [n1] at s4 w2 ⊢
                  rw [n2] at s4' w2' ⊢
                  simp only [List.length_cons] at s4 s4'
                  obtain ⟨f, rfl⟩ := Nat.exists_eq_succ_of_ne_zero (n := f) (by omega)
                  obtain ⟨f', rfl⟩ := Nat.exists_eq_succ_of_ne_zero (n := f') (by omega)
                  rw [pHist_line _ _ _ _ k1, pHist_line _ _ _ _ k2]
                  exact ih b b' f f' _ (by omega) (by omega) (by omega) hR (fun x hx => w2 x (List.mem_cons_of_mem _ hx)) (fun x hx => w2' x (List.mem_cons_of_mem _ hx))
end Go.Proofs.YtegeiojcdjnmjaaGreatDoor
namespace Go.Proofs.YtegeiojcdjnmjaaGreatDoor
set_option linter.unusedVariables false
set_option linter.unusedSimpArgs false
open Go.RowKit

/-- A token's cells. -/
def tkC (t : MTok) : List Value := [.int .i64 t.1, .int .i64 t.2.1, .string t.2.2.1, .int .i64 t.2.2.2]
/-- Tokens in memory, below bx. -/
def LeftP (bx : Nat) (w : World) (v : Value) (l : List MTok) : Prop :=
  ∃ ao c, v = .slice ao l.length c ∧ (0 < l.length → ∃ b off, ao = some ⟨b, off, none⟩ ∧ b < bx ∧ ∀ j, j < l.length → ∀ i u, (tkC (l.getD j default))[i]? = some u → w.cell? ⟨b, off + j * 4 + i, none⟩ = some u)
theorem LeftP.keep {bx : Nat} {w w' : World} {v : Value} {l : List MTok} (h : LeftP bx w v l) (hb : Below bx w w') : LeftP bx w' v l := by
  obtain ⟨ao, c, hv, hj⟩ := h
  refine ⟨ao, c, hv, fun h0 => ?_⟩
  obtain ⟨b, off, ha, hlt, hcs⟩ := hj h0
  exact ⟨b, off, ha, hlt, fun j hjl i u hi => (hb.cell (p := ⟨b, off + j * 4 + i, none⟩) hlt).trans (hcs j hjl i u hi)⟩
/-- The parser in its box: all tokens, the first that is not taken yet, the text's end. -/
structure PB (bx : Nat) (en : Int) (T : List MTok) (n : Nat) (w : World) : Prop where
  left : ∃ v, w.cell? ⟨bx, 0, none⟩ = some v ∧ LeftP bx w v T
  c1 : w.cell? ⟨bx, 1, none⟩ = some (.int .i64 n)
  c2 : w.cell? ⟨bx, 2, none⟩ = some (.int .i64 en)
  z1 : w.frozen? ⟨bx, 1, none⟩ = false
  le : n ≤ T.length
  few : T.length ≤ 20000
theorem PB.lt {bx n : Nat} {en : Int} {T : List MTok} {w : World} (h : PB bx en T n w) : bx < w.heap.size := World.block_lt_of_cell? _ _ h.c1
theorem PB.keep {bx n : Nat} {en : Int} {T : List MTok} {w w' : World} (h : PB bx en T n w) (hb : Below (bx + 1) w w') : PB bx en T n w' := by
  obtain ⟨v, h0, hl⟩ := h.left
  exact ⟨⟨v, (hb.cell (p := ⟨bx, 0, none⟩) (Nat.lt_succ_self _)).trans h0, hl.keep (hb.mono (Nat.le_succ _))⟩, (hb.cell (p := ⟨bx, 1, none⟩) (Nat.lt_succ_self _)).trans h.c1, (hb.cell (p := ⟨bx, 2, none⟩) (Nat.lt_succ_self _)).trans h.c2, (hb.frozen (p := ⟨bx, 1, none⟩) (Nat.lt_succ_self _)).trans h.z1, h.le, h.few⟩
theorem PB.take {bx n : Nat} {en : Int} {T : List MTok} {w : World} (h : PB bx en T n w) (hn : n < T.length) : PB bx en T (n + 1) (w.setCell ⟨bx, 1, none⟩ (.int .i64 ((n : Int) + 1))) := by
  obtain ⟨v, h0, hl⟩ := h.left
  refine ⟨⟨v, (World.cell?_setCell_other _ _ _ _ (by simp)).trans h0, hl.keep ((Below.refl _ _).setCell (p := ⟨bx, 1, none⟩) (Nat.le_refl _) _)⟩, ?_, (World.cell?_setCell_other _ _ _ _ (by simp)).trans h.c2, ?_, hn, h.few⟩
  · have := World.cell?_setCell_same w ⟨bx, 1, none⟩ (.int .i64 ((n : Int) + 1)) h.c1
    rw [this]; simp
  · exact (World.frozen?_setCell ..).trans h.z1
/-- The next token, or one of no kind at the text's end. -/
def lookT (en : Int) (T : List MTok) (n : Nat) : MTok := (T.drop n).headD (0, en, ByteArray.empty, 0)
abbrev tokV (t : MTok) : Value := .agg #[.int .i64 t.1, .int .i64 t.2.1, .string t.2.2.1, .int .i64 t.2.2.2]
theorem look_in {en : Int} {T : List MTok} {n : Nat} (h : n < T.length) : lookT en T n = T.getD n default := by
  unfold lookT
  rw [List.drop_eq_getElem_cons h]
  simp [List.getD, h]
theorem look_out {en : Int} {T : List MTok} {n : Nat} (h : ¬ n < T.length) : lookT en T n = (0, en, ByteArray.empty, 0) := by
  unfold lookT
  rw [List.drop_eq_nil_of_le (by omega)]
  rfl
theorem below_drewH {B : Nat} {w w' : World} (h : Below B w w') (k : Nat) : Below B w (w'.drewN k) := ⟨h.os, h.tape, h.output, h.size, h.block⟩
theorem below_four {B g : Nat} {w w' : World} (h : Below B w w') (hg : B ≤ g) (a0 a1 a2 a3 : Value) : Below B w ((((w'.setCell ⟨g, 0, none⟩ a0).setCell ⟨g, 1, none⟩ a1).setCell ⟨g, 2, none⟩ a2).setCell ⟨g, 3, none⟩ a3) :=
  (((h.setCell (p := ⟨g, 0, none⟩) hg _).setCell (p := ⟨g, 1, none⟩) hg _).setCell (p := ⟨g, 2, none⟩) hg _).setCell (p := ⟨g, 3, none⟩) hg _
set_option maxHeartbeats 2000000 in
set_option maxRecDepth 100000 in
theorem look_is (bx n : Nat) (en : Int) (T : List MTok) (w : World) (h : PB bx en T n w) :
    Calls Tryz.prog 39 #[.pointer (some ⟨bx, 0, none⟩)] w fun e w' => e = .returned (tokV (lookT en T n)) ∧ Below w.heap.size w w' := by
  obtain ⟨⟨v, c0, ao, c, rfl, hj⟩, c1, c2, z1, hle, hfew⟩ := h
  have hlt : bx < w.heap.size := World.block_lt_of_cell? _ _ c1
  have B1 : ∀ o, Below w.heap.size w (w.alloc o) := fun o => (Below.refl _ _).alloc (Nat.le_refl _) _
  by_cases hn : n < T.length
  · obtain ⟨b, off, rfl, hbb, hcs⟩ := hj (by omega)
    rw [look_in hn]
    have d0 : w.cell? ⟨b, off + n * 4, none⟩ = some (.int .i64 (T.getD n default).1) := hcs n hn 0 _ rfl
    have d1 : w.cell? ⟨b, off + n * 4 + 1, none⟩ = some (.int .i64 (T.getD n default).2.1) := hcs n hn 1 _ rfl
    have d2 : w.cell? ⟨b, off + n * 4 + 2, none⟩ = some (.string (T.getD n default).2.2.1) := hcs n hn 2 _ rfl
    have d3 : w.cell? ⟨b, off + n * 4 + 3, none⟩ = some (.int .i64 (T.getD n default).2.2.2) := hcs n hn 3 _ rfl
    generalize T.getD n default = t at d0 d1 d2 d3 ⊢
    have hn2 : (n : Int) < (T.length : Int) := by omega
    have hbw : b < w.heap.size := by omega
    clear hcs hj
    go_enter Tryz.func39, Tryz.ntmps39
    go_wp2_with fail
    go_quiet (fail)
    go_wp2_with fail
    go_region
    go_wp2_with fail
    refine bodyPost_ret (v := tokV t) (by simp [results, Tryz.results39, go_sem]) rfl ⟨rfl, ?_⟩
    exact below_four (below_drewH (B1 _) _) (Nat.le_refl _) _ _ _ _
  · rw [look_out hn]
    have hn2 : ¬ (n : Int) < (T.length : Int) := by omega
    clear hj
    go_enter Tryz.func39, Tryz.ntmps39
    go_wp2_with fail
    go_quiet (fail)
    go_wp2_with fail
    refine bodyPost_ret (v := tokV (0, en, ByteArray.empty, 0)) (by simp [results, Tryz.results39, go_sem]; rfl) rfl ⟨rfl, ?_⟩
    exact below_four (below_drewH (B1 _) _) (Nat.le_refl _) _ _ _ _
end Go.Proofs.YtegeiojcdjnmjaaGreatDoor
namespace Go.Proofs.YtegeiojcdjnmjaaGreatDoor
set_option linter.unusedVariables false
set_option linter.unusedSimpArgs false
open Go.RowKit

theorem look_at {en : Int} {T : List MTok} {n : Nat} : (lookT en T n).2.1 = nextAt en (T.drop n) := by
  unfold lookT
  cases T.drop n <;> rfl
theorem tokf1 (a b : Int) (c : ByteArray) (d : Int) (W : World) : (Instr.field 57 (.agg #[.int .i64 a, .int .i64 b, .string c, .int .i64 d]) 1).run Tryz.prog W = .ok (.int .i64 b) W := by kernel_rfl
/-- The ending of one who gave up. -/
abbrev gaveUp (a y : Int) : Ending := .panicked [{ v := .iface 44 (.agg #[.int .i64 a, .int .i64 y]), recovered := false }]
set_option maxHeartbeats 2000000 in
set_option maxRecDepth 100000 in
theorem giveUp_is (bx n : Nat) (en why : Int) (T : List MTok) (w : World) (h : PB bx en T n w) :
    Calls Tryz.prog 40 #[.pointer (some ⟨bx, 0, none⟩), .int .i64 why] w fun e w' => e = gaveUp (nextAt en (T.drop n)) why ∧ Below w.heap.size w w' := by
  have L := hid (look_is bx n en T w h)
  rw [← look_at]
  generalize lookT en T n = t at L ⊢
  clear h
  have tf := tokf1 t.1 t.2.1 t.2.2.1 t.2.2.2
  go_enter Tryz.func40, Tryz.ntmps40
  go_wp2_with (go_at_call 39; refine L.out.mono ?_; rintro e w2 ⟨rfl, b2⟩)
  exact ⟨rfl, rfl, by assumption⟩
end Go.Proofs.YtegeiojcdjnmjaaGreatDoor
