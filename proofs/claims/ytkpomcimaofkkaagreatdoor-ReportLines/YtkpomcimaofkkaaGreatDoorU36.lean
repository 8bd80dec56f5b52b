/-
  A text with lines without tokens put in is scanned alike: the same tokens with line ends put in, or a fault of the same number.
  A report's text with lines without tokens put in, or without its last line's end, is read as the report.
  The shelf's contracts of strings.ReplaceAll and strings.TrimSuffix, laid at this program.
-/
import Derived.Test.YtkpomcimaofkkaaGreatDoorU35
import Derived.Test.YtkpomcimaofkkaaGreatDoorU2
import Derived.Test.YtkpomcimaofkkaaGreatDoorU30
import Derived.Shelf.Lay
import Derived.Shelf.LaySoft
import Derived.Shelf.Strings.Replace
import Derived.Shelf.Strings.Prefix
import Derived.Test.YtkpomcimaofkkaaGreatDoorProg
namespace Go.Proofs.YtkpomcimaofkkaaGreatDoor
set_option linter.unusedVariables false
set_option linter.unusedSimpArgs false

/-- Bytes with more behind each line's end. -/
def gP (pad L : List UInt8) : List UInt8 := L.flatMap fun b => if b = 10 then 10 :: pad else [b]
/-- How many bytes stand ahead of the first line's end. -/
def nlen : List UInt8 → Nat
  | [] => 0
  | b :: r => if b = 10 then 0 else nlen r + 1
theorem gP_cons {pad : List UInt8} {b : UInt8} {r : List UInt8} (h : ¬ b = 10) : gP pad (b :: r) = b :: gP pad r := by
  show (if b = 10 then 10 :: pad else [b]) ++ gP pad r = _
  rw [if_neg h]; rfl
theorem gP_line {pad : List UInt8} {r : List UInt8} : gP pad (10 :: r) = 10 :: (pad ++ gP pad r) := rfl
theorem gP_get (pad : List UInt8) : ∀ (L : List UInt8) (j : Nat), j ≤ nlen L → (gP pad L)[j]? = L[j]?
  | [], j, _ => rfl
  | b :: r, j, h => by
    by_cases hb : b = 10
    · have hn : nlen (b :: r) = 0 := by show (if b = 10 then 0 else nlen r + 1) = _; rw [if_pos hb]
      have hj : j = 0 := by omega
      subst hj hb
      rfl
    · have hn : nlen (b :: r) = nlen r + 1 := by show (if b = 10 then 0 else nlen r + 1) = _; rw [if_neg hb]
      rw [gP_cons hb]
      cases j with
      | zero => rfl
      | succ j => simpa using gP_get pad r j (by omega)
theorem gP_drop (pad : List UInt8) : ∀ (L : List UInt8) (k : Nat), k ≤ nlen L → (gP pad L).drop k = gP pad (L.drop k)
  | [], k, _ => by simp [gP]
  | b :: r, k, h => by
    by_cases hb : b = 10
    · have hn : nlen (b :: r) = 0 := by show (if b = 10 then 0 else nlen r + 1) = _; rw [if_pos hb]
      have hk : k = 0 := by omega
      subst hk
      rfl
    · have hn : nlen (b :: r) = nlen r + 1 := by show (if b = 10 then 0 else nlen r + 1) = _; rw [if_neg hb]
      cases k with
      | zero => rfl
      | succ k =>
        rw [gP_cons hb]
        simpa using gP_drop pad r k (by omega)
theorem nlen_stop : ∀ (L : List UInt8), L[nlen L]? = some 10 ∨ L[nlen L]? = none
  | [] => .inr rfl
  | b :: r => by
    by_cases hb : b = 10
    · have hn : nlen (b :: r) = 0 := by show (if b = 10 then 0 else nlen r + 1) = _; rw [if_pos hb]
      rw [hn, hb]; exact .inl rfl
    · have hn : nlen (b :: r) = nlen r + 1 := by show (if b = 10 then 0 else nlen r + 1) = _; rw [if_neg hb]
      rw [hn]
      simpa using nlen_stop r
theorem bt_list2 (s : ByteArray) (k : Nat) : bt s k = (s.data.toList[k]?.map UInt8.toNat).getD 0 := by
  unfold bt
  split
  · rename_i h
    have : s.data.toList[k]? = some s[k] := by
      rw [Array.getElem?_toList, Array.getElem?_eq_getElem (by exact h)]
      rfl
    rw [this]; rfl
  · rename_i h
    have : s.data.toList[k]? = none := by
      rw [Array.getElem?_toList, Array.getElem?_eq_none (by exact Nat.le_of_not_lt h)]
    rw [this]; rfl
theorem bt_drop (s : ByteArray) (i j : Nat) : bt s (i + j) = (((s.data.toList.drop i)[j]?).map UInt8.toNat).getD 0 := by
  rw [bt_list2, List.getElem?_drop]
section
variable {pad : List UInt8} {s t : ByteArray}
theorem alk_of {i p : Nat} (h : t.data.toList.drop p = gP pad (s.data.toList.drop i)) : Alk s t i p (nlen (s.data.toList.drop i)) := by
  refine ⟨fun j hj => ?_, ?_⟩
  · rw [bt_drop, bt_drop, h, gP_get pad _ _ hj]
  · rw [bt_drop]
    rcases nlen_stop (s.data.toList.drop i) with e | e
    · rw [e]; exact .inl rfl
    · rw [e]; exact .inr rfl
theorem step_of {i p k : Nat} (h : t.data.toList.drop p = gP pad (s.data.toList.drop i)) (hk : k ≤ nlen (s.data.toList.drop i)) : t.data.toList.drop (p + k) = gP pad (s.data.toList.drop (i + k)) := by
  rw [← List.drop_drop, h, gP_drop pad _ _ hk, List.drop_drop]
abbrev lineS : MTok := (4, 0, ⟨#[10]⟩, 0)
/-- Tokens with m line ends more behind each. -/
def expd (m : Nat) (L : List MTok) : List MTok := L.flatMap fun t => if t.1 = 4 then t :: List.replicate m lineS else [t]
/-- Blanks and line ends alone. -/
theorem pad_scan : ∀ (q : List UInt8) (r : List UInt8) (k : Nat) (acc : List MTok), (∀ b ∈ q, b = 32 ∨ b = 10) → t.data.toList.drop k = q ++ r →
    ∃ P, left t k acc = left t (k + q.length) (acc ++ P) ∧ P.map bareT = List.replicate (q.count 10) lineS
  | [], r, k, acc, _, _ => ⟨[], by simp, rfl⟩
  | b :: q, r, k, acc, hq, h => by
    have hb := hq b (List.mem_cons_self ..)
    have hk : bt t k = b.toNat := by
      have := bt_drop t k 0
      rw [Nat.add_zero, h] at this
      simpa using this
    have hlt : k < t.size := in_of_bt (by rw [hk]; rcases hb with e | e <;> (rw [e]; decide))
    have hd : t.data.toList.drop (k + 1) = q ++ r := by rw [← List.drop_drop, h]; rfl
    rcases hb with e | e
    · obtain ⟨P, p1, p2⟩ := pad_scan q r (k + 1) acc (fun x hx => hq x (List.mem_cons_of_mem _ hx)) hd
      refine ⟨P, ?_, ?_⟩
      · rw [left_blank acc hlt (by rw [hk, e]; rfl), p1, List.length_cons, show k + 1 + q.length = k + (q.length + 1) by omega]
      · rw [p2, e]; rfl
    · have h10 : bt t k = 10 := by rw [hk, e]; rfl
      obtain ⟨P, p1, p2⟩ := pad_scan q r (k + 1) (acc ++ [(4, (k : Int), t.extract k (k + 1), 0)]) (fun x hx => hq x (List.mem_cons_of_mem _ hx)) hd
      refine ⟨(4, (k : Int), t.extract k (k + 1), 0) :: P, ?_, ?_⟩
      · rw [left_tok acc hlt (by rw [h10]; decide) (tok_line10 h10), p1, List.length_cons, show k + 1 + q.length = k + (q.length + 1) by omega]
        simp
      · rw [List.map_cons, p2, e]
        simp [List.replicate_succ, bareT, line_text h10]
/-- From a place on, both alike. -/
theorem scan_exp (hpad : ∀ b ∈ pad, b = 32 ∨ b = 10) : ∀ (n i p : Nat) (acc acc' : List MTok), s.size - i ≤ n → t.data.toList.drop p = gP pad (s.data.toList.drop i) →
    (∃ e e', left s i acc = .error e ∧ left t p acc' = .error e' ∧ e.2 = e'.2) ∨ (∃ U U', left s i acc = .ok (acc ++ U) ∧ left t p acc' = .ok (acc' ++ U') ∧ U'.map bareT = expd (pad.count 10) (U.map bareT)) := by
  intro n
  induction n with
  | zero =>
    intro i p acc acc' hn h
    have hs : s.data.toList.drop i = [] := List.drop_eq_nil_of_le (by simp; omega)
    rw [hs] at h
    have hp : ¬ p < t.size := by
      have : (t.data.toList.drop p).length = 0 := by rw [h]; rfl
      simp at this
      omega
    refine .inr ⟨[], [], ?_, ?_, rfl⟩
    · rw [left_end acc (by omega), List.append_nil]
    · rw [left_end acc' hp, List.append_nil]
  | succ n ih =>
    intro i p acc acc' hn h
    by_cases hi : i < s.size
    · obtain ⟨b, r, hbr⟩ : ∃ b r, s.data.toList.drop i = b :: r := by
        cases hd : s.data.toList.drop i with
        | nil =>
          have : (s.data.toList.drop i).length = 0 := by rw [hd]; rfl
          simp at this
          omega
        | cons b r => exact ⟨b, r, rfl⟩
      have hbt : bt s i = b.toNat := by
        have := bt_drop s i 0
        rw [Nat.add_zero, hbr] at this
        simpa using this
      have hA := alk_of h
      have e0 := hA.same 0 (Nat.zero_le _)
      rw [Nat.add_zero, Nat.add_zero] at e0
      have hp : p < t.size := by
        have hl : 0 < (t.data.toList.drop p).length := by
          rw [h, hbr]
          by_cases hb : b = 10
          · rw [hb, gP_line]; simp
          · rw [gP_cons hb]; simp
        simp at hl
        omega
      by_cases h10 : bt s i = 10
      · have hb : b = 10 := by
          have : b.toNat = (10 : UInt8).toNat := by rw [← hbt, h10]; rfl
          exact UInt8.toNat_inj.1 this
        subst hb
        have hd : t.data.toList.drop (p + 1) = pad ++ gP pad r := by rw [← List.drop_drop, h, hbr, gP_line]; rfl
        obtain ⟨P, p1, p2⟩ := pad_scan pad (gP pad r) (p + 1) (acc' ++ [(4, (p : Int), t.extract p (p + 1), 0)]) hpad hd
        have hr : s.data.toList.drop (i + 1) = r := by rw [← List.drop_drop, hbr]; rfl
        have hd2 : t.data.toList.drop (p + 1 + pad.length) = gP pad (s.data.toList.drop (i + 1)) := by rw [← List.drop_drop, hd, hr, List.drop_left]
        have h10t : bt t p = 10 := by rw [e0]; exact h10
        have l1 : left s i acc = left s (i + 1) (acc ++ [(4, (i : Int), s.extract i (i + 1), 0)]) := left_tok acc hi (by rw [h10]; decide) (tok_line10 h10)
        have l2 : left t p acc' = left t (p + 1 + pad.length) (acc' ++ [(4, (p : Int), t.extract p (p + 1), 0)] ++ P) := by rw [left_tok acc' hp (by rw [h10t]; decide) (tok_line10 h10t), p1]
        rcases ih (i + 1) (p + 1 + pad.length) (acc ++ [(4, (i : Int), s.extract i (i + 1), 0)]) (acc' ++ [(4, (p : Int), t.extract p (p + 1), 0)] ++ P) (by omega) hd2 with ⟨e, e', q1, q2, q3⟩ | ⟨U, U', q1, q2, q3⟩
        · exact .inl ⟨e, e', l1.trans q1, l2.trans q2, q3⟩
        · refine .inr ⟨(4, (i : Int), s.extract i (i + 1), 0) :: U, (4, (p : Int), t.extract p (p + 1), 0) :: (P ++ U'), ?_, ?_, ?_⟩
          · rw [l1, q1]; simp
          · rw [l2, q2]; simp
          · rw [List.map_cons, List.map_append, p2, q3, List.map_cons]
            simp [expd, bareT, line_text h10, line_text h10t]
      · have hb : ¬ b = 10 := fun c => h10 (by rw [hbt, c]; rfl)
        have hnl : 1 ≤ nlen (s.data.toList.drop i) := by rw [hbr]; show 1 ≤ (if b = 10 then 0 else nlen r + 1); rw [if_neg hb]; omega
        by_cases h32 : bt s i = 32
        · have h32t : bt t p = 32 := by rw [e0]; exact h32
          rcases ih (i + 1) (p + 1) acc acc' (by omega) (step_of h hnl) with ⟨e, e', q1, q2, q3⟩ | ⟨U, U', q1, q2, q3⟩
          · exact .inl ⟨e, e', (left_blank acc hi h32).trans q1, (left_blank acc' hp h32t).trans q2, q3⟩
          · exact .inr ⟨U, U', (left_blank acc hi h32).trans q1, (left_blank acc' hp h32t).trans q2, q3⟩
        · have h32t : ¬ bt t p = 32 := by rw [e0]; exact h32
          rcases hA.tok hi hp h10 with ⟨a, a', y, t1, t2⟩ | ⟨τ, τ', v, v1, v2, t1, t2, t3, t4⟩
          · exact .inl ⟨(a, y), (a', y), left_bad acc hi h32 t1, left_bad acc' hp h32t t2, rfl⟩
          · have l1 := left_tok acc hi h32 t1
            have l2 := left_tok acc' hp h32t t2
            rcases ih (i + v) (p + v) (acc ++ [τ]) (acc' ++ [τ']) (by omega) (step_of h v2) with ⟨e, e', q1, q2, q3⟩ | ⟨U, U', q1, q2, q3⟩
            · exact .inl ⟨e, e', l1.trans q1, l2.trans q2, q3⟩
            · refine .inr ⟨τ :: U, τ' :: U', ?_, ?_, ?_⟩
              · rw [l1, q1]; simp
              · rw [l2, q2]; simp
              · rw [List.map_cons, t3, q3, List.map_cons]
                have hk : ¬ (bareT τ).1 = 4 := t4
                show bareT τ :: expd (pad.count 10) (U.map bareT) = (if (bareT τ).1 = 4 then bareT τ :: List.replicate (pad.count 10) lineS else [bareT τ]) ++ expd (pad.count 10) (U.map bareT)
                rw [if_neg hk]; rfl
    · have hs : s.data.toList.drop i = [] := List.drop_eq_nil_of_le (by simp; omega)
      rw [hs] at h
      have hp : ¬ p < t.size := by
        have : (t.data.toList.drop p).length = 0 := by rw [h]; rfl
        simp at this
        omega
      refine .inr ⟨[], [], ?_, ?_, rfl⟩
      · rw [left_end acc hi, List.append_nil]
      · rw [left_end acc' hp, List.append_nil]
end
/-- The whole. -/
theorem scan_padded {pad : List UInt8} {s t : ByteArray} (hpad : ∀ b ∈ pad, b = 32 ∨ b = 10) (ht : t.data.toList = pad ++ gP pad s.data.toList) (h1 : s.size ≤ 20000) (h2 : t.size ≤ 20000) :
    (∃ e e', scanM s = .error e ∧ scanM t = .error e' ∧ e.2 = e'.2) ∨ (∃ T T', scanM s = .ok T ∧ scanM t = .ok T' ∧ T'.map bareT = List.replicate (pad.count 10) lineS ++ expd (pad.count 10) (T.map bareT)) := by
  rw [scanM_left h1, scanM_left h2]
  obtain ⟨P, p1, p2⟩ := pad_scan (t := t) pad (gP pad s.data.toList) 0 [] hpad (by rw [List.drop_zero]; exact ht)
  have hd : t.data.toList.drop (0 + pad.length) = gP pad (s.data.toList.drop 0) := by rw [ht, Nat.zero_add, List.drop_left, List.drop_zero]
  rcases scan_exp (pad := pad) hpad s.size 0 (0 + pad.length) [] ([] ++ P) (by omega) hd with ⟨e, e', q1, q2, q3⟩ | ⟨U, U', q1, q2, q3⟩
  · exact .inl ⟨e, e', q1, p1.trans q2, q3⟩
  · refine .inr ⟨U, P ++ U', by simpa using q1, ?_, ?_⟩
    · rw [p1, q2]; simp
    · rw [List.map_append, p2, q3]
end Go.Proofs.YtkpomcimaofkkaaGreatDoor
namespace Go.Proofs.YtkpomcimaofkkaaGreatDoor.Rp
set_option linter.unusedVariables false
set_option linter.unusedSimpArgs false
open Go.RowKit Go.Lib

/-- A line's end, and m more. -/
def xl (m : Nat) : List MTok := tl :: List.replicate m tl
/-- A report's tokens, with m line ends more behind each line but the last, whose end is E. -/
def rTx (m : Nat) (E : List MTok) (r : MR) : List MTok := ([[tw wTxns], [tn r.1]] : List (List MTok)).flatten ++ (xl m ++ (([[tw wUnique], [tw (eiB r.2.1 wYes wNo)]] : List (List MTok)).flatten ++ (xl m ++ (r.2.2.1.flatMap (fun a => (aG a).flatten ++ xl m) ++ (([[tw wLevel], [tw (nameN r.2.2.2.1)]] : List (List MTok)).flatten ++ (xl m ++ ((ansG r.2.2.2.2.1 r.2.2.2.2.2).flatten ++ E)))))))
theorem xl_zero : xl 0 = [tl] := rfl
theorem rTx_zero (r : MR) : rT r = rTx 0 [] r ++ [tl] := by
  unfold rT rTx
  simp only [xl_zero, List.append_assoc, List.singleton_append, List.append_nil, List.cons_append, List.nil_append]
theorem expd_app (m : Nat) (a b : List MTok) : expd m (a ++ b) = expd m a ++ expd m b := List.flatMap_append
theorem expd_none {m : Nat} : ∀ {a : List MTok}, (∀ t ∈ a, t.1 ≠ 4) → expd m a = a
  | [], _ => rfl
  | t :: a, h => by
    show (if t.1 = 4 then t :: List.replicate m lineS else [t]) ++ expd m a = _
    rw [if_neg (h t (by simp)), expd_none (fun u hu => h u (by simp [hu]))]
    rfl
theorem expd_line (m : Nat) (a : List MTok) : expd m (tl :: a) = xl m ++ expd m a := rfl
theorem expd_rT {r : MR} (h : canR r = true) (hr : RngR r) (m : Nat) : expd m (rT r) = rTx m (xl m) r := by
  obtain ⟨h1, h2, h3, h4, h5, h6⟩ := canR_yes h
  obtain ⟨q1, q2, q3, q4, q5⟩ := hr
  have o1 := flat_ok (two_ok (a := tw wTxns) (b := tn r.1) (ok_word (by decide)) (ok_num q1))
  have o2 := flat_ok (two_ok (a := tw wUnique) (b := tw (eiB r.2.1 wYes wNo)) (ok_word (by decide)) (ok_word (eiB_ok _ (by decide) (by decide))))
  have o3 := flat_ok (two_ok (a := tw wLevel) (b := tw (nameN r.2.2.2.1)) (ok_word (by decide)) (ok_word (nameN_ok h3).1))
  have o4 := flat_ok (ansG_ok h4 q5)
  have ha : ∀ al : List MA, (∀ a ∈ al, wrongA a = false ∧ RngA a) → expd m (al.flatMap (fun a => (aG a).flatten ++ [tl])) = al.flatMap (fun a => (aG a).flatten ++ xl m) := by
    intro al
    induction al with
    | nil => intro _; rfl
    | cons a al ih =>
      intro hal
      have hh := hal a (by simp)
      rw [List.flatMap_cons, List.flatMap_cons, expd_app, expd_app, ih (fun x hx => hal x (by simp [hx])), expd_none (fun t ht => (flat_ok (aG_ok hh.1 hh.2) t ht).2), expd_line]
      simp [expd]
  unfold rT rTx
  rw [expd_app, expd_none (fun t ht => (o1 t ht).2), expd_line, expd_app, expd_none (fun t ht => (o2 t ht).2), expd_line, expd_app, ha _ (fun a ha => ⟨h2 a ha, q3 a ha⟩), expd_app, expd_none (fun t ht => (o3 t ht).2), expd_line, expd_app, expd_none (fun t ht => (o4 t ht).2), expd_line]
  simp [expd]
theorem lines_many : ∀ (m : Nat) {l rest : List MTok}, NoNL rest → l.map bareT = List.replicate m tl ++ rest → (qLines l).map bareT = rest
  | 0, l, rest, hC, h => by
    rw [List.replicate_zero, List.nil_append] at h
    rw [lines_no hC h]
    exact h
  | m + 1, l, rest, hC, h => by
    rw [List.replicate_succ, List.cons_append] at h
    obtain ⟨u, l2, rfl, h1, _, _, h4⟩ := rd_head h
    have : qLines (u :: l2) = qLines l2 := if_pos (by rw [h1]; rfl)
    rw [this]
    exact lines_many m hC h4
theorem lines_all : ∀ (l : List MTok), (∀ t ∈ l.map bareT, t.1 = 4) → qLines l = []
  | [], _ => rfl
  | u :: l, h => by
    have hu : u.1 = 4 := h (bareT u) (by simp)
    have : qLines (u :: l) = qLines l := if_pos hu
    rw [this]
    exact lines_all l (fun t ht => h t (by rw [List.map_cons]; exact List.mem_cons_of_mem _ ht))
theorem rd_lineEndx {m : Nat} {l rest : List MTok} (hC : NoNL rest) (h : l.map bareT = xl m ++ rest) : ∃ l2, qLineEnd l = some ((), l2) ∧ l2.map bareT = rest := by
  obtain ⟨u, l2, e, _, _, h4⟩ := rd_take (k := 4) rfl (show l.map bareT = tl :: (List.replicate m tl ++ rest) from h)
  refine ⟨qLines l2, ?_, lines_many m hC h4⟩
  unfold qLineEnd
  rw [e]
  rfl
theorem rd_ansx {m : Nat} : ∀ (al acc : List MA) (f : Nat) (l rest : List MTok), (∀ a ∈ al, wrongA a = false) → NoX wAnomaly rest → NoNL rest → al.length < f → l.map bareT = al.flatMap (fun a => (aG a).flatten ++ xl m) ++ rest → ∃ l2, qAns f l acc = some (acc ++ al, l2) ∧ l2.map bareT = rest
  | al, acc, 0, l, rest, _, _, _, hf, _ => by omega
  | [], acc, f + 1, l, rest, _, hC, _, hf, h => by
    rw [ans_end (sees_rest hC h)]
    exact ⟨l, by rw [List.append_nil], h⟩
  | a :: al, acc, f + 1, l, rest, ha, hC, hN, hf, h => by
    rw [List.flatMap_cons, List.append_assoc, List.append_assoc] at h
    have hs : qSees l wAnomaly = true := by
      have e : (aG a).flatten ++ (xl m ++ (al.flatMap (fun a => (aG a).flatten ++ xl m) ++ rest)) = tw wAnomaly :: (((aG a).flatten).tail ++ (xl m ++ (al.flatMap (fun a => (aG a).flatten ++ xl m) ++ rest))) := by simp [aG]
      rw [e] at h
      exact sees_yes h rfl
    rw [ans_more hs]
    refine rdb (rd_an (ha a (by simp)) (by
      intro t r e
      have := (List.cons.inj (show tl :: (List.replicate m tl ++ _) = t :: r from e)).1
      rw [← this]
      show (⟨#[10]⟩ : ByteArray).toList ≠ mFrom.toList
      rw [ByteArray.toList_eq, ByteArray.toList_eq]
      decide) h) fun l h => ?_
    refine rdb (rd_lineEndx (by
      cases al with
      | nil => exact hN
      | cons b al =>
        intro t r e
        rw [List.flatMap_cons] at e
        have e2 : ((aG b).flatten ++ xl m ++ al.flatMap (fun a => (aG a).flatten ++ xl m)) ++ rest = tw wAnomaly :: ((((aG b).flatten).tail ++ xl m ++ al.flatMap (fun a => (aG a).flatten ++ xl m)) ++ rest) := by simp [aG]
        rw [e2] at e
        have := (List.cons.inj e).1
        rw [← this]
        show (1 : Int) ≠ 4
        decide) h) fun l h => ?_
    obtain ⟨l2, e, h2⟩ := rd_ansx al (acc ++ [a]) f l rest (fun y hy => ha y (by simp [hy])) hC hN (by simp at hf; omega) h
    exact ⟨l2, by rw [e]; simp, h2⟩
theorem ansx_few (m : Nat) (al : List MA) : al.length ≤ (al.flatMap (fun a => (aG a).flatten ++ xl m)).length := by
  induction al with
  | nil => simp
  | cons x l ih =>
    rw [List.flatMap_cons, List.length_append, List.length_cons, List.length_append]
    have : 1 ≤ (xl m).length := by simp [xl]
    omega
theorem rd_endx (r : MR) {l E : List MTok} (hE : ∀ t ∈ E, t.1 = 4) (h : l.map bareT = E) : qEnd r l = some (r, []) := by
  unfold qEnd
  rw [if_pos (lines_all l (by rw [h]; exact hE))]
theorem rdb_end {α : Type} {p : Qs α} {x : α} (h : ∃ l2, p = some (x, l2) ∧ l2.map bareT = []) : p = some (x, []) := by
  obtain ⟨l2, e1, e2⟩ := h
  have : l2 = [] := by simpa using e2
  rw [e1, this]
/-- What is printed is read back, with lines put in. -/
theorem rd_repx {r : MR} {l : List MTok} (i m : Nat) (E : List MTok) (hE : ∀ t ∈ E, t.1 = 4) (hr : canR r = true) (h : l.map bareT = List.replicate i tl ++ rTx m E r) : qRep l = some (r, []) := by
  obtain ⟨h1, h2, h3, h4, h5, h6⟩ := canR_yes hr
  obtain ⟨t, u, al, e, x, os⟩ := r
  simp only at h1 h2 h3 h4 h5 h6
  have i2 := level_ix h3
  have i3 := word_ix answers_ix answers_ok h4
  have eT : rTx m E (t, u, al, e, x, os) = tw wTxns :: tn t :: (xl m ++ (tw wUnique :: tw (eiB u wYes wNo) :: (xl m ++ (al.flatMap (fun a => (aG a).flatten ++ xl m) ++ (tw wLevel :: tw (nameN e) :: (xl m ++ ((ansG x os).flatten ++ E))))))) := by
    unfold rTx
    simp
  rw [eT] at h
  have hq := lines_many i (by intro a b e; have := (List.cons.inj e).1; rw [← this]; show (1 : Int) ≠ 4; decide) h
  clear h
  unfold qRep
  refine rdb_end ?_
  refine rdb (rd_text rfl hq) fun l h => ?_
  refine rdb (rd_num h) fun l h => ?_
  refine rdb (rd_lineEndx (by intro a b e; have := (List.cons.inj e).1; rw [← this]; show (1 : Int) ≠ 4; decide) h) fun l h => ?_
  refine rdb (rd_text rfl h) fun l h => ?_
  refine rdb (rd_either _ ne_yes h) fun l h => ?_
  refine rdb (rd_lineEndx (by
    intro a b e2
    cases al with
    | nil => have := (List.cons.inj e2).1; rw [← this]; show (1 : Int) ≠ 4; decide
    | cons c al =>
      rw [List.flatMap_cons] at e2
      have e3 : ((aG c).flatten ++ xl m ++ al.flatMap (fun a => (aG a).flatten ++ xl m)) ++ (tw wLevel :: tw (nameN e) :: (xl m ++ ((ansG x os).flatten ++ E))) = tw wAnomaly :: ((((aG c).flatten).tail ++ xl m ++ al.flatMap (fun a => (aG a).flatten ++ xl m)) ++ (tw wLevel :: tw (nameN e) :: (xl m ++ ((ansG x os).flatten ++ E)))) := by simp [aG]
      rw [e3] at e2
      have := (List.cons.inj e2).1
      rw [← this]
      show (1 : Int) ≠ 4
      decide) h) fun l h => ?_
  refine rdb (rd_ansx al [] (l.length + 1) l _ h2 (by
    intro a b e2
    have := (List.cons.inj e2).1
    rw [← this]
    show wLevel.toList ≠ wAnomaly.toList
    rw [ByteArray.toList_eq, ByteArray.toList_eq]
    decide) (by intro a b e2; have := (List.cons.inj e2).1; rw [← this]; show (1 : Int) ≠ 4; decide) (by
    have h6 := congrArg List.length h
    rw [List.length_map, List.length_append] at h6
    have := ansx_few m al
    omega) h) fun l h => ?_
  refine rdb (rd_text rfl h) fun l h => ?_
  refine rdb (rd_one i2.1 i2.2 h) fun l h => ?_
  refine rdb (rd_lineEndx (by
    intro a b e2
    have e3 : (ansG x os).flatten ++ E = tw wAnswer :: (((ansG x os).flatten).tail ++ E) := by simp [ansG]
    rw [e3] at e2
    have := (List.cons.inj e2).1
    rw [← this]
    show (1 : Int) ≠ 4
    decide) h) fun l h => ?_
  rw [ans_flat, List.cons_append, List.cons_append] at h
  refine rdb (rd_text rfl h) fun l h => ?_
  refine rdb (rd_one i3.1 i3.2 h) fun l h => ?_
  by_cases hx : x = 1
  · rw [if_pos hx] at h ⊢
    refine rdb (rd_order (rest := E) (by rw [h, List.cons_append, List.append_assoc]; rfl)) fun l h => ?_
    exact ⟨[], rd_endx _ hE h, rfl⟩
  · rw [if_neg hx] at h ⊢
    rcases h6 with q | q
    · exact absurd q hx
    · rw [q]
      exact ⟨[], rd_endx _ hE h, rfl⟩
theorem all_lines (m : Nat) : ∀ t ∈ xl m, t.1 = 4 := by
  intro t ht
  unfold xl at ht
  rcases List.mem_cons.1 ht with rfl | ht
  · rfl
  · rw [(List.mem_replicate.1 ht).2]; rfl
/-- With lines put in. -/
theorem parse_pad {r : MR} (h : canR r = true) (hr : RngR r) {s t : ByteArray} {pad : Bs} (hs : s.data.toList = printB r) (hz : s.size ≤ 20000) (hp : ∀ b ∈ pad, b = 32 ∨ b = 10) (ht : t.data.toList = pad ++ gP pad s.data.toList) (hz2 : t.size ≤ 20000) : parseQ t = .ok r := by
  obtain ⟨l, e1, e2⟩ := scan_print h hr hs hz
  rw [bare_self] at e2
  rcases scan_padded hp ht hz hz2 with ⟨e, e', q1, _, _⟩ | ⟨T, T', q1, q2, q3⟩
  · rw [e1] at q1; cases q1
  · rw [e1] at q1
    cases q1
    rw [e2, expd_rT h hr] at q3
    exact parseQ_yes (z := (r, [])) q2 (rd_repx _ _ _ (all_lines _) h q3) h
theorem print_snoc : ∀ (X : List MTok) (il : Bool), printL il (X ++ [tl]) = printL il X ++ [10]
  | [], il => by cases il <;> rfl
  | t :: X, il => by
    rw [List.cons_append]
    by_cases h1 : t.1 = 1 ∨ t.1 = 3
    · rw [printL, if_pos h1, printL, if_pos h1, print_snoc X true]; simp
    · by_cases h2 : t.1 = 2
      · rw [printL, if_neg h1, if_pos h2, printL, if_neg h1, if_pos h2, print_snoc X true]; simp
      · by_cases h4 : t.1 = 4
        · rw [printL, if_neg h1, if_neg h2, if_pos h4, printL, if_neg h1, if_neg h2, if_pos h4, print_snoc X false]; simp
        · rw [printL, if_neg h1, if_neg h2, if_neg h4, printL, if_neg h1, if_neg h2, if_neg h4, print_snoc X il]
/-- Without the last line's end. -/
theorem parse_trim {r : MR} (h : canR r = true) (hr : RngR r) {s : ByteArray} (hs : s.data.toList ++ [10] = printB r) (hz : s.size ≤ 20000) : parseQ s = .ok r := by
  have h1 : s.data.toList = printL false (rTx 0 [] r) := by
    rw [print_toks h hr, rTx_zero, print_snoc] at hs
    exact List.append_cancel_right hs
  have ok : ∀ t ∈ rTx 0 [] r, TokOk t := fun t ht => rT_ok h hr t (by rw [rTx_zero]; exact List.mem_append_left _ ht)
  have hb : (rTx 0 [] r).map bareT = rTx 0 [] r := by
    have e := bare_self (r := r)
    rw [rTx_zero, List.map_append] at e
    exact List.append_cancel_right (show (rTx 0 [] r).map bareT ++ [tl] = _ from e)
  obtain ⟨l', e1, e2⟩ := left_again (s := s) (rTx 0 [] r) false 0 [] ok (by rw [List.drop_zero]; exact h1)
  rw [hb] at e2
  have e3 : scanM s = .ok l' := by rw [scanM_left hz]; simpa using e1
  exact parseQ_yes (z := (r, [])) e3 (rd_repx 0 0 [] (fun t ht => by cases ht) h (by rw [e2]; rfl)) h
end Go.Proofs.YtkpomcimaofkkaaGreatDoor.Rp
namespace Go.Proofs
open Go.Shelf
shelf_try shelf_lay Lays.n155 Nm 155 at Tryz as Tryz.lays155
shelf_try theorem Tryz.Builder_Extra_155 : Builder.Extra Tryz.prog Tryz.lays155_ren where
  sizeBuilder := by kernel_rfl
  liesBuilder := by kernel_rfl
  t5 := Tryz.underlying5
  a5 := Tryz.isAgg5
  z5 := Tryz.sizeOf5
  v5 := Tryz.zeroValue5
  infoByte := by kernel_rfl
  cellsByte := by kernel_rfl
  sizeByte := by kernel_rfl
  neB5 := by decide
shelf_try open Go.RowKit in
/-- strings.ReplaceAll, at an old that is not empty. -/
theorem Tryz.strings_ReplaceAll (s old new : ByteArray) (m : Int) (w : World) (hs : s.size < 4294967281) (hm : w.cell? ⟨1, 0, none⟩ = some (.int .i64 m)) (h1 : 1 ≤ old.size) (hlen : s.size + Lib.countB s old * new.size ≤ 140737488355328) :
    Calls Tryz.prog 14 #[.string s, .string old, .string new] w fun e w' => e = .returned (.string ⟨(Lib.replaceAll s.data.toList old.data.toList new.data.toList).toArray⟩) ∧ Below w.heap.size w w' := Any.strings_ReplaceAll Tryz.lays155 Tryz.Builder_Extra_155 s old new m w hs hm h1 hlen
shelf_try shelf_lay Lays.n102 Nm 102 at Tryz as Tryz.lays102
shelf_try open Go.RowKit in
/-- strings.TrimSuffix. -/
theorem Tryz.strings_TrimSuffix (s p : ByteArray) (w : World) (hs : s.size ≤ 9223372036854775807) :
    Calls Tryz.prog 15 #[.string s, .string p] w fun e w' => e = .returned (.string ⟨(Lib.trimSuffix s.data.toList p.data.toList).toArray⟩) ∧ w' = w := Any.strings_TrimSuffix Tryz.lays102 s p w hs
shelf_tried
end Go.Proofs
