/-
  What is scanned, printed, and scanned again: the plain part.
  A map by what it holds: whatever its elements are.
  Plain data of histories (operations and events), when two are the same, and how they lie in memory.
-/
import Derived.Test.YtkpomcimaofkkaaGreatDoorU1
import Derived.ProofKit
import Derived.Maps.Own
import Derived.Maps.OwnSet
import Derived.Maps.Views
import Derived.WalkKit
import Derived.Deep.LoopGhost
import Derived.Deep.Draws
namespace Go.Proofs.YtkpomcimaofkkaaGreatDoor
set_option linter.unusedVariables false
set_option linter.unusedSimpArgs false

/-- A token's bytes. -/
abbrev tx (t : MTok) : List UInt8 := t.2.2.1.data.toList

/-- A token as scanning makes it. -/
def TokOk (t : MTok) : Prop :=
  (t.1 = 1 ∧ t.2.2.2 = 0 ∧ ∃ b r, tx t = b :: r ∧ isSm b.toNat = true ∧ ∀ x ∈ r, isWd x.toNat = true) ∨
  (t.1 = 2 ∧ -9223372036854775808 ≤ t.2.2.2 ∧ t.2.2.2 ≤ 9223372036854775807 ∧ tx t = decimal t.2.2.2) ∨
  (t.1 = 3 ∧ t.2.2.2 = 0 ∧ ∃ b, tx t = [b] ∧ (b.toNat = 40 ∨ b.toNat = 41 ∨ b.toNat = 91 ∨ b.toNat = 93)) ∨
  (t.1 = 4 ∧ t.2.2.2 = 0 ∧ tx t = [10])

/-- Digits without a nought ahead are those of what they spell. -/
theorem decAcc_back : ∀ (n f : Nat) (ds acc : List UInt8), ds.length = n → n ≤ f → (∀ b ∈ ds, isDg b.toNat = true) → (∃ b r, ds = b :: r ∧ 49 ≤ b.toNat) → decAcc f (val ds) acc = ds ++ acc
  | 0, f, ds, acc, hn, hf, hd, ⟨b, r, e, hb⟩ => by subst e; simp at hn
  | n + 1, f, ds, acc, hn, hf, hd, ⟨b, r, e, hb⟩ => by
    cases f with
    | zero => omega
    | succ f =>
      have hne : ds ≠ [] := by rw [e]; simp
      obtain ⟨ini, z, rfl⟩ : ∃ ini z, ds = ini ++ [z] := ⟨ds.dropLast, ds.getLast hne, (List.dropLast_concat_getLast hne).symm⟩
      have hz := isDg_iff.1 (hd z (by simp))
      have hdg : dg (val ini * 10 + (z.toNat - 48)) = z := by
        apply UInt8.toNat_inj.1
        rw [dg_toNat]; omega
      have hdiv : (val ini * 10 + (z.toNat - 48)) / 10 = val ini := by omega
      have hini : ini.length = n := by simpa using hn
      cases ini with
      | nil =>
        simp at e
        obtain ⟨rfl, rfl⟩ := e
        rw [val_snoc]
        unfold decAcc
        rw [if_neg (by simp [val]; omega), hdiv, hdg]
        simp only [val, List.foldl_nil, List.nil_append, List.singleton_append]
        exact decAcc_end f (by simp)
      | cons c ini =>
        simp only [List.cons_append, List.cons.injEq] at e
        obtain ⟨rfl, rfl⟩ := e
        have hpos : 0 < val (c :: ini) := by
          rw [val_cons]
          have : 0 < 10 ^ ini.length := Nat.pow_pos (by omega)
          have h1 : 1 ≤ c.toNat - 48 := by omega
          have := Nat.mul_le_mul h1 (Nat.le_refl (10 ^ ini.length))
          omega
        rw [val_snoc]
        unfold decAcc
        rw [if_neg (by omega), hdiv, hdg, decAcc_back n f (c :: ini) (z :: acc) hini (by omega) (fun b hb => hd b (by simp at hb ⊢; rcases hb with h | h <;> simp [h])) ⟨c, ini, rfl, hb⟩]
        simp

theorem dec_back {ds : List UInt8} (hd : ∀ b ∈ ds, isDg b.toNat = true) (hh : ∃ b r, ds = b :: r ∧ (49 ≤ b.toNat ∨ r = [])) (hv : val ds < 10 ^ 20) : dec (val ds) = ds := by
  obtain ⟨b, r, rfl, h⟩ := hh
  have hb := isDg_iff.1 (hd b (by simp))
  by_cases h49 : 49 ≤ b.toNat
  · have hlen : (b :: r).length ≤ 20 := by
      rw [val_cons] at hv
      by_cases hc : (b :: r).length ≤ 20
      · exact hc
      · have h20 : 20 ≤ r.length := by simp at hc; omega
        have : 10 ^ 20 ≤ 10 ^ r.length := Nat.pow_le_pow_right (by omega) h20
        have h1 : 1 ≤ b.toNat - 48 := by omega
        have := Nat.mul_le_mul h1 (Nat.le_refl (10 ^ r.length))
        omega
    unfold dec
    rw [decAcc_back _ 20 (b :: r) [] rfl hlen hd ⟨b, r, rfl, h49⟩]
    simp
  · have hr : r = [] := by rcases h with h | h
                           · omega
                           · exact h
    subst hr
    have : b = 48 := UInt8.toNat_inj.1 (by show b.toNat = 48; omega)
    subst this
    decide

/-- The bytes from a place on, by the list. -/
theorem mem_bl {s : ByteArray} {i n : Nat} {b : UInt8} (h : b ∈ bl s i n) : ∃ j, j < n ∧ b.toNat = bt s (i + j) := by
  obtain ⟨j, hj⟩ := List.mem_iff_getElem?.1 h
  have hlt : j < n := by have := (List.getElem?_eq_some_iff.1 hj).1; rwa [bl_len] at this
  rw [bl_get s n i j hlt] at hj
  exact ⟨j, hlt, by rw [← Option.some.inj hj, toNat_bt]⟩

theorem num_text {s : ByteArray} {i : Nat} (hi : i < s.size) (hs : bt s i = 45 ∨ isDg (bt s i) = true) (h1 : ¬ nBad s i) (h2 : ¬ nBig s i) :
    -9223372036854775808 ≤ nN s i ∧ nN s i ≤ 9223372036854775807 ∧ (s.extract i (nE s i)).data.toList = decimal (nN s i) := by
  obtain ⟨g1, g2, g3, g4⟩ := nE_gt h1 hi
  have hdig := nE_digits h1 hs
  have hE : ∀ b ∈ bl s (nF s i) (nE s i - nF s i), isDg b.toNat = true := fun b hb => by
    obtain ⟨j, hj, e⟩ := mem_bl hb
    rw [e]; exact hdig _ (by omega) (by omega)
  have hval : nV s i = val (bl s (nF s i) (nE s i - nF s i)) := by
    have := dv_val s (nF s i) (bl s (nF s i) (nE s i - nF s i)) (fun j b hj => by
      have hlt : j < nE s i - nF s i := by have := (List.getElem?_eq_some_iff.1 hj).1; rwa [bl_len] at this
      rw [bl_get s _ _ _ hlt] at hj
      rw [← Option.some.inj hj, toNat_bt]) (nE s i - nF s i) (by rw [bl_len]; omega)
    unfold nV
    rw [this, List.take_of_length_le (by rw [bl_len]; omega)]
  have hlt20 : nV s i < 10 ^ 20 := by unfold nBig at h2; omega
  have hhead : ∃ b r, bl s (nF s i) (nE s i - nF s i) = b :: r ∧ (49 ≤ b.toNat ∨ r = []) := by
    obtain ⟨n, hn⟩ : ∃ n, nE s i - nF s i = n + 1 := ⟨nE s i - nF s i - 1, by omega⟩
    rw [hn]
    refine ⟨_, _, rfl, ?_⟩
    rw [toNat_bt]
    have h0 := isDg_iff.1 (hdig (nF s i) (Nat.le_refl _) g2)
    by_cases h48 : bt s (nF s i) = 48
    · right
      have : nE s i = nF s i + 1 := by unfold nE; rw [if_pos h48]
      have : n = 0 := by omega
      subst this; rfl
    · left; omega
  have hdec : dec (nV s i) = bl s (nF s i) (nE s i - nF s i) := by rw [hval]; exact dec_back hE hhead (by rw [← hval]; exact hlt20)
  rw [extract_bl s i (nE s i) g3]
  by_cases h45 : bt s i = 45
  · have hF : nF s i = i + 1 := by unfold nF; rw [if_pos h45]
    have hn : nN s i = -(nV s i : Int) := by unfold nN; rw [if_pos h45]
    have hpos : nV s i ≠ 0 := by
      intro h0
      rw [h0, dec_zero] at hdec
      obtain ⟨n, hn⟩ : ∃ n, nE s i - nF s i = n + 1 := ⟨nE s i - nF s i - 1, by omega⟩
      rw [hn] at hdec
      have e : (48 : UInt8) = UInt8.ofNat (bt s (nF s i)) := (List.cons.inj hdec).1
      have : (48 : UInt8).toNat = bt s (nF s i) := by rw [e, toNat_bt]
      have h48 : bt s (nF s i) = 48 := by rw [← this]; rfl
      unfold nBad at h1
      omega
    have hbig : nV s i ≤ 9223372036854775808 := by unfold nBig at h2; omega
    refine ⟨by omega, by omega, ?_⟩
    unfold decimal
    rw [if_neg (by omega), hn, Int.neg_neg, Int.toNat_natCast, hdec]
    obtain ⟨n, hm⟩ : ∃ n, nE s i - i = n + 1 := ⟨nE s i - i - 1, by omega⟩
    rw [hm, show nE s i - nF s i = n by omega, hF]
    show UInt8.ofNat (bt s i) :: _ = _
    rw [h45]
    rfl
  · have hF : nF s i = i := by unfold nF; rw [if_neg h45]
    have hn : nN s i = (nV s i : Int) := by unfold nN; rw [if_neg h45]
    have hbig : nV s i < 9223372036854775808 := by unfold nBig at h2; omega
    refine ⟨by omega, by omega, ?_⟩
    unfold decimal
    rw [if_pos (by omega), hn, Int.toNat_natCast, hdec, hF]

theorem one_bl {s : ByteArray} {i : Nat} (hi : i < s.size) : (s.extract i (i + 1)).data.toList = [UInt8.ofNat (bt s i)] := by
  rw [extract_bl s i (i + 1) (by omega), show i + 1 - i = 1 by omega]; rfl

theorem tokM_form {s : ByteArray} {i k : Nat} {t : MTok} (hi : i < s.size) (h : tokM s i = .ok (t, k)) : TokOk t := by
  have hk := tokM_gt h hi
  unfold tokM at h
  split at h
  · rename_i hs
    cases h
    refine .inl ⟨rfl, rfl, ?_⟩
    have hr := wEnd_is s i
    obtain ⟨n, hn⟩ : ∃ n, wEnd s i - i = n + 1 := ⟨wEnd s i - i - 1, by omega⟩
    refine ⟨UInt8.ofNat (bt s i), bl s (i + 1) n, ?_, ?_, ?_⟩
    · show (s.extract i (wEnd s i)).data.toList = _
      rw [extract_bl s i _ hk.2, hn]; rfl
    · rw [toNat_bt]; exact hs
    · intro x hx
      obtain ⟨j, hj, e⟩ := mem_bl hx
      rw [e]; exact hr.2.1 _ (by omega) (by omega)
  · split at h
    · rename_i hs2
      split at h
      · cases h
      · rename_i n e hn
        cases h
        unfold numM at hn
        split at hn
        · cases hn
        · rename_i h1
          split at hn
          · cases hn
          · rename_i h2
            split at hn
            · cases hn
            · cases hn
              obtain ⟨a, b, c⟩ := num_text hi hs2 h1 h2
              exact .inr (.inl ⟨rfl, a, b, c⟩)
    · split at h
      · rename_i h3
        cases h
        exact .inr (.inr (.inl ⟨rfl, rfl, _, one_bl hi, by rw [toNat_bt]; exact h3⟩))
      · split at h
        · rename_i h4
          cases h
          exact .inr (.inr (.inr ⟨rfl, rfl, by show (s.extract i (i + 1)).data.toList = _; rw [one_bl hi, h4]; rfl⟩))
        · cases h

theorem left_form (s : ByteArray) : ∀ (n i : Nat) (acc l : List MTok), s.size - i ≤ n → (∀ t ∈ acc, TokOk t) → left s i acc = .ok l → ∀ t ∈ l, TokOk t
  | n, i, acc, l, hn, ha, h => by
    by_cases hlt : i < s.size
    · cases n with
      | zero => omega
      | succ n =>
        by_cases h32 : bt s i = 32
        · rw [left_blank acc hlt h32] at h
          exact left_form s n (i + 1) acc l (by omega) ha h
        · cases ht : tokM s i with
          | error q => rw [left_bad acc hlt h32 ht] at h; cases h
          | ok q =>
            obtain ⟨t, k⟩ := q
            rw [left_tok acc hlt h32 ht] at h
            have := tokM_gt ht hlt
            exact left_form s n k (acc ++ [t]) l (by omega) (fun x hx => by
              rcases List.mem_append.1 hx with hx | hx
              · exact ha x hx
              · rw [List.mem_singleton.1 hx]; exact tokM_form hlt ht) h
    · rw [left_end acc hlt] at h
      cases h
      exact ha

theorem scanM_form {s : ByteArray} {l : List MTok} (h : scanM s = .ok l) : ∀ t ∈ l, TokOk t := by
  have hs : s.size ≤ 20000 := by
    unfold scanM at h
    split at h
    · cases h
    · omega
  rw [scanM_left hs] at h
  exact left_form s s.size 0 [] l (by omega) (fun t ht => by cases ht) h

/-- What stands ahead of a token. -/
def sep (il : Bool) : List UInt8 := if il then [32] else []

/-- Tokens as a text, from a place on: whether the line has one already. -/
def printL : Bool → List MTok → List UInt8
  | _, [] => []
  | il, t :: l =>
    if t.1 = 1 ∨ t.1 = 3 then sep il ++ (tx t ++ printL true l)
    else if t.1 = 2 then sep il ++ (decimal t.2.2.2 ++ printL true l)
    else if t.1 = 4 then 10 :: printL false l
    else printL il l

/-- Nothing of a word begins what follows. -/
def Stop (r : List UInt8) : Prop := r = [] ∨ ∃ b q, r = b :: q ∧ (b = 32 ∨ b = 10)

theorem stop_print {l : List MTok} (h : ∀ t ∈ l, TokOk t) : Stop (printL true l) := by
  cases l with
  | nil => exact .inl rfl
  | cons t l =>
    rcases h t (by simp) with ⟨e, _⟩ | ⟨e, _⟩ | ⟨e, _⟩ | ⟨e, _⟩
    · right; exact ⟨32, _, by unfold printL; rw [if_pos (.inl e)]; rfl, .inl rfl⟩
    · right; exact ⟨32, _, by unfold printL; rw [if_neg (by omega), if_pos e]; rfl, .inl rfl⟩
    · right; exact ⟨32, _, by unfold printL; rw [if_pos (.inr e)]; rfl, .inl rfl⟩
    · right; exact ⟨10, _, by unfold printL; rw [if_neg (by omega), if_neg (by omega), if_pos e], .inr rfl⟩

theorem printL_word {il : Bool} {t : MTok} {l : List MTok} (h : TokOk t) (h4 : t.1 ≠ 4) : printL il (t :: l) = sep il ++ (tx t ++ printL true l) := by
  rw [printL]
  rcases h with ⟨e, _⟩ | ⟨e, _, _, ht⟩ | ⟨e, _⟩ | ⟨e, _⟩
  · rw [if_pos (.inl e)]
  · rw [if_neg (by omega), if_pos e, ht]
  · rw [if_pos (.inr e)]
  · exact absurd e h4

section
variable {s : ByteArray} {i : Nat}

theorem drop_bt {l : List UInt8} (h : s.data.toList.drop i = l) {j : Nat} {b : UInt8} (hj : l[j]? = some b) : bt s (i + j) = b.toNat := by
  refine bt_list ?_
  rw [← h, List.getElem?_drop] at hj
  exact hj

theorem drop_len {l : List UInt8} (h : s.data.toList.drop i = l) : s.size - i = l.length := by
  rw [← h, List.length_drop]; simp

theorem stop_bt {x r : List UInt8} (h : s.data.toList.drop i = x ++ r) (hr : Stop r) : isWd (bt s (i + x.length)) = false := by
  rcases hr with rfl | ⟨b, q, rfl, hb⟩
  · rw [bt_out (by have := drop_len h; simp at this; omega)]; rfl
  · rw [drop_bt h (j := x.length) (b := b) (by simp)]
    rcases hb with rfl | rfl <;> rfl

theorem take_text {x r : List UInt8} {T : ByteArray} (h : s.data.toList.drop i = x ++ r) (hT : T.data.toList = x) : s.extract i (i + x.length) = T := by
  rw [ByteArray.ext_iff, ← Array.toList_inj, hT, Lib.extract_data, h, show i + x.length - i = x.length by omega]
  simp

/-- A token that stands in a text is scanned as it. -/
theorem tok_again {t : MTok} {r : List UInt8} (ht : TokOk t) (h : s.data.toList.drop i = tx t ++ r) (hr : t.1 = 3 ∨ t.1 = 4 ∨ Stop r) :
    (tx t ≠ []) ∧ bt s i ≠ 32 ∧ tokM s i = .ok ((t.1, (i : Int), t.2.2.1, t.2.2.2), i + (tx t).length) := by
  obtain ⟨t1, t2, T, n⟩ := t
  rcases ht with ⟨e, e0, b, q, hx, hb, hq⟩ | ⟨e, e0, e1, hx⟩ | ⟨e, e0, b, hx, hb⟩ | ⟨e, e0, hx⟩
  · simp only at e e0 hr
    subst e e0
    have hr : Stop r := by rcases hr with hr | hr | hr
                           · omega
                           · omega
                           · exact hr
    have hT := take_text h rfl
    have hstop := stop_bt h hr
    generalize hX : tx ((1 : Int), t2, T, (0 : Int)) = X at *
    have h0 : bt s i = b.toNat := by have := drop_bt h (j := 0) (b := b) (by rw [hx]; rfl); simpa using this
    have hsm : isSm (bt s i) = true := by rw [h0]; exact hb
    have hW : wEnd s i = i + X.length := (wEnd_is s i).uniq ⟨by omega, fun j h1 h2 => by
        have hj : (X ++ r)[j - i]? = some (X[j - i]'(by omega)) := by rw [List.getElem?_append_left (by omega), List.getElem?_eq_getElem]
        have := drop_bt h hj
        rw [show i + (j - i) = j by omega] at this
        rw [this]
        have hm : X[j - i]'(by omega) ∈ b :: q := by rw [← hx]; exact List.getElem_mem _
        rcases List.mem_cons.1 hm with e | e
        · rw [e]; simp [isWd, hb]
        · exact hq _ e, hstop⟩
    refine ⟨by rw [hx]; simp, by have := isSm_iff.1 hsm; omega, ?_⟩
    unfold tokM
    rw [if_pos hsm, hW, hT]
  · simp only at e e0 e1 hr hx
    subst e
    have hr : Stop r := by rcases hr with hr | hr | hr
                           · omega
                           · omega
                           · exact hr
    have hT := take_text h rfl
    have hstop := stop_bt h hr
    generalize hX : tx ((2 : Int), t2, T, n) = X at *
    by_cases hn : 0 ≤ n
    · have ed : decimal n = dec n.toNat := by unfold decimal; rw [if_pos hn]
      rw [ed] at hx
      have hv : n.toNat < 10 ^ 20 := by omega
      have hlen := dec_len hv
      have hl : ∀ j b, (dec n.toNat)[j]? = some b → bt s (i + j) = b.toNat := fun j b hj => drop_bt h (by rw [hx, List.getElem?_append_left (List.getElem?_eq_some_iff.1 hj).1]; exact hj)
      have hd0 : isDg (bt s i) = true := by
        have := hl 0 (dec n.toNat)[0] (List.getElem?_eq_getElem (by omega))
        rw [Nat.add_zero] at this
        rw [this]
        exact dec_digits _ _ (List.getElem_mem _)
      have hdv := isDg_iff.1 hd0
      have h45 : ¬ bt s i = 45 := by omega
      have hp : nF s i = i := by unfold nF; rw [if_neg h45]
      have hnd : isDg (bt s (i + (dec n.toNat).length)) = false := by
        rw [hx] at hstop
        cases hc : isDg (bt s (i + (dec n.toNat).length)) with
        | false => rfl
        | true => simp [isWd, hc] at hstop
      obtain ⟨hE, hV⟩ := num_at hv hp hl hnd
      have hnum : numM s i = .ok (n, i + X.length) := by
        rw [numM_ok (fun h => h45 h.1) (by unfold nBig; rw [hV]; omega) (by rw [hE, ← hx]; exact hstop), hE, hx]
        congr 2
        unfold nN; rw [if_neg h45, hV]; omega
      refine ⟨by rw [hx]; intro h0; rw [h0] at hlen; simp at hlen, by omega, ?_⟩
      unfold tokM
      rw [if_neg (by simp [isSm]; omega), if_pos (.inr hd0), hnum]
      simp only [hT]
    · have ed : decimal n = 45 :: dec (-n).toNat := by unfold decimal; rw [if_neg hn]
      rw [ed] at hx
      have hv : (-n).toNat < 10 ^ 20 := by omega
      have hlen := dec_len hv
      have hb0 : bt s i = 45 := by have := drop_bt h (j := 0) (b := 45) (by rw [hx]; rfl); simpa using this
      have hl : ∀ j b, (dec (-n).toNat)[j]? = some b → bt s (i + 1 + j) = b.toNat := fun j b hj => by
        have := drop_bt h (j := j + 1) (b := b) (by rw [hx, List.cons_append, List.getElem?_cons_succ, List.getElem?_append_left (List.getElem?_eq_some_iff.1 hj).1]; exact hj)
        rw [show i + 1 + j = i + (j + 1) by omega]; exact this
      have hp : nF s i = i + 1 := by unfold nF; rw [if_pos hb0]
      obtain ⟨b, q, eb, hb⟩ := dec_head (show (-n).toNat ≠ 0 by omega) hv
      have h1b : bt s (i + 1) = b.toNat := by have := hl 0 b (by simp [eb]); simpa using this
      have hdb := isDg_iff.1 (dec_digits (-n).toNat b (by rw [eb]; simp))
      have hnb : ¬ nBad s i := by unfold nBad; rw [hp]; omega
      have hXl : X.length = 1 + (dec (-n).toNat).length := by rw [hx]; simp; omega
      have hnd : isDg (bt s (i + 1 + (dec (-n).toNat).length)) = false := by
        rw [hXl, ← Nat.add_assoc] at hstop
        cases hc : isDg (bt s (i + 1 + (dec (-n).toNat).length)) with
        | false => rfl
        | true => simp [isWd, hc] at hstop
      obtain ⟨hE, hV⟩ := num_at hv hp hl hnd
      have hE2 : nE s i = i + X.length := by omega
      have hnum : numM s i = .ok (n, i + X.length) := by
        rw [numM_ok hnb (by unfold nBig; rw [hV]; omega) (by rw [hE2]; exact hstop), hE2]
        congr 2
        unfold nN; rw [if_pos hb0, hV]; omega
      refine ⟨by rw [hx]; simp, by omega, ?_⟩
      unfold tokM
      rw [if_neg (by rw [hb0]; decide), if_pos (.inl hb0), hnum]
      simp only [hT]
  · simp only at e e0
    subst e e0
    have hT := take_text h rfl
    generalize hX : tx ((3 : Int), t2, T, (0 : Int)) = X at *
    have h0 : bt s i = b.toNat := by have := drop_bt h (j := 0) (b := b) (by rw [hx]; rfl); simpa using this
    rw [← h0] at hb
    have hl : X.length = 1 := by rw [hx]; rfl
    rw [hl] at hT
    refine ⟨by rw [hx]; simp, by omega, ?_⟩
    unfold tokM
    rw [if_neg (by simp [isSm]; omega), if_neg (by simp [isDg]; omega), if_pos hb, hT, hl]
  · simp only at e e0
    subst e e0
    have hT := take_text h rfl
    generalize hX : tx ((4 : Int), t2, T, (0 : Int)) = X at *
    have h0 : bt s i = 10 := by have := drop_bt h (j := 0) (b := 10) (by rw [hx]; rfl); simpa using this
    have hl : X.length = 1 := by rw [hx]; rfl
    rw [hl] at hT
    refine ⟨by rw [hx]; simp, by omega, ?_⟩
    unfold tokM
    rw [if_neg (by simp [isSm]; omega), if_neg (by simp [isDg]; omega), if_neg (by omega), if_pos h0, hT, hl]
end

theorem left_again {s : ByteArray} : ∀ (l : List MTok) (il : Bool) (i : Nat) (acc : List MTok), (∀ t ∈ l, TokOk t) → s.data.toList.drop i = printL il l →
    ∃ l', left s i acc = .ok (acc ++ l') ∧ l'.map bareT = l.map bareT
  | [], il, i, acc, _, h => ⟨[], by
      have := drop_len h
      simp [printL] at this
      rw [left_end acc (by omega)]; simp, rfl⟩
  | t :: l, il, i, acc, hok, h => by
    have htk := hok t (by simp)
    have hl : ∀ t ∈ l, TokOk t := fun x hx => hok x (by simp [hx])
    have step : ∀ (i : Nat) (il' : Bool), (t.1 = 3 ∨ t.1 = 4 ∨ Stop (printL il' l)) → s.data.toList.drop i = tx t ++ printL il' l → ∃ l', left s i acc = .ok (acc ++ l') ∧ l'.map bareT = (t :: l).map bareT := by
      intro i il' hst h
      obtain ⟨hne, h32, htok⟩ := tok_again htk h hst
      have hlen := drop_len h
      have hpos : 0 < (tx t).length := List.length_pos_iff.2 hne
      rw [List.length_append] at hlen
      obtain ⟨l', e1, e2⟩ := left_again l il' (i + (tx t).length) (acc ++ [(t.1, (i : Int), t.2.2.1, t.2.2.2)]) hl (by
        rw [← List.drop_drop, h, List.drop_left])
      refine ⟨(t.1, (i : Int), t.2.2.1, t.2.2.2) :: l', ?_, ?_⟩
      · rw [left_tok acc (by omega) h32 htok, e1]; simp
      · rw [List.map_cons, List.map_cons, e2]; rfl
    by_cases h4 : t.1 = 4
    · have e : printL il (t :: l) = tx t ++ printL false l := by
        rw [printL, if_neg (by omega), if_neg (by omega), if_pos h4]
        rcases htk with ⟨e, _⟩ | ⟨e, _⟩ | ⟨e, _⟩ | ⟨_, _, e⟩
        · omega
        · omega
        · omega
        · rw [e]; rfl
      rw [e] at h
      exact step i false (.inr (.inl h4)) h
    · rw [printL_word htk h4] at h
      cases il with
      | false => exact step i true (.inr (.inr (stop_print hl))) (by simpa [sep] using h)
      | true =>
        have hb : bt s i = 32 := by have := drop_bt h (j := 0) (b := 32) (by rfl); simpa using this
        have hlen := drop_len h
        simp [sep] at hlen
        rw [left_blank acc (by omega) hb]
        exact step (i + 1) true (.inr (.inr (stop_print hl))) (by
          rw [← List.drop_drop, h]; rfl)

/-- What is scanned, printed, and scanned again. -/
theorem scan_again {s p : ByteArray} {l : List MTok} (h : scanM s = .ok l) (hp : p.data.toList = printL false l) (hsz : p.size ≤ 20000) :
    ∃ l', scanM p = .ok l' ∧ l'.map bareT = l.map bareT := by
  rw [scanM_left hsz]
  obtain ⟨l', e1, e2⟩ := left_again l false 0 [] (scanM_form h) (by rw [List.drop_zero]; exact hp)
  exact ⟨l', by simpa using e1, e2⟩
end Go.Proofs.YtkpomcimaofkkaaGreatDoor
namespace Go.Proofs.YtkpomcimaofkkaaGreatDoor.Rp
set_option linter.unusedVariables false
set_option linter.unusedSimpArgs false
open Go.RowKit Go.Maps

/-- A value reads as itself. -/
def rawR (v : Value) : Option (DataW Value × List MemPlace) := some (.held v, [])
/-- Block b is a map of at most n entries that holds f. -/
def MapV (w : World) (P : Program) (k : TypeId) (b n : Nat) (f : Value → Option Value) : Prop :=
  ∃ D : DataW Value, w.ownsMap P k rawR b n D ∧ ∀ key kl, keyOf P k key = some kl → ∀ zd, D.atKey kl zd = ((f key).map DataW.held).getD zd
theorem MapV.made (w : World) (P : Program) (k : TypeId) : MapV (w.alloc (.map #[] 0)) P k w.heap.size 0 (fun _ => none) :=
  ⟨_, World.ownsMap_made _ _ _ _, fun _ _ _ _ => rfl⟩
theorem MapV.lt {w : World} {P : Program} {k : TypeId} {b n : Nat} {f : Value → Option Value} (h : MapV w P k b n f) : b < w.heap.size := by
  obtain ⟨D, h1, _⟩ := h
  exact h1.lt
theorem MapV.same {w w' : World} {P : Program} {k : TypeId} {b n : Nat} {f : Value → Option Value} (h : MapV w P k b n f) (hb : w'.heap[b]? = w.heap[b]?) : MapV w' P k b n f := by
  obtain ⟨D, ⟨es, clock, h1, h2, h3, h4⟩, h5⟩ := h
  exact ⟨D, ⟨es, clock, hb.trans h1, h2, h3, h4⟩, h5⟩
theorem MapV.mono {w : World} {P : Program} {k : TypeId} {b n n' : Nat} {f : Value → Option Value} (h : MapV w P k b n f) (hn : n ≤ n') : MapV w P k b n' f := by
  obtain ⟨D, h1, h2⟩ := h
  exact ⟨D, h1.mono hn, h2⟩
theorem MapV.block {w : World} {P : Program} {k : TypeId} {b n : Nat} {f : Value → Option Value} (h : MapV w P k b n f) : ∃ es clock, w.heap[b]? = some (.map es clock) := by
  obtain ⟨D, ⟨es, clock, h1, h2, h3, h4⟩, h5⟩ := h
  exact ⟨es, clock, h1⟩
theorem MapV.find {w : World} {P : Program} {k t e : TypeId} {b n : Nat} {f : Value → Option Value} (h : MapV w P k b n f) (K : Keyed P k) (ht : P.underlying t = some (.map k e)) {z : Value} (hz : (zeroValue e).run P w = .ok z w)
    {key : Value} {kl : Lit} (hkey : keyOf P k key = some kl) (c : Bool) : (Instr.lookup t (.map (some b)) key c).run P w = .ok (if c then .tuple #[(f key).getD z, .bool (f key).isSome] else (f key).getD z) w := by
  obtain ⟨D, ⟨es, clock, hb, F, _, rfl⟩, h5⟩ := h
  have hat5 := h5 key kl hkey
  rcases fit_look c K ht hz hb F hkey with ⟨hrun, _, hat⟩ | ⟨e0, y, _, _, hrun, hRv, hat, _⟩
  · have e : f key = none := by
      cases hf : f key with
      | none => rfl
      | some v =>
        have h1 := hat5 .nil
        rw [hat, hf] at h1
        cases h1
    rw [hrun, e]
    rfl
  · have hy : y.1 = .held e0.val := by
      unfold rawR at hRv
      injection hRv with hRv
      rw [← hRv]
    have e : f key = some e0.val := by
      have h1 := hat5 .nil
      rw [hat, hy] at h1
      cases hf : f key with
      | none => rw [hf] at h1; cases h1
      | some v =>
        rw [hf] at h1
        injection h1 with h1
        rw [h1]
    rw [hrun, e]
    rfl
theorem MapV.look {w : World} {P : Program} {k t e : TypeId} {b n : Nat} {f : Value → Option Value} (h : MapV w P k b n f) (K : Keyed P k) (ht : P.underlying t = some (.map k e)) {z : Value} (hz : (zeroValue e).run P w = .ok z w)
    {key : Value} {kl : Lit} (hkey : keyOf P k key = some kl) : (Instr.lookup t (.map (some b)) key false).run P w = .ok ((f key).getD z) w := h.find K ht hz hkey false
theorem MapV.look_ok {w : World} {P : Program} {k t e : TypeId} {b n : Nat} {f : Value → Option Value} (h : MapV w P k b n f) (K : Keyed P k) (ht : P.underlying t = some (.map k e)) {z : Value} (hz : (zeroValue e).run P w = .ok z w)
    {key : Value} {kl : Lit} (hkey : keyOf P k key = some kl) : (Instr.lookup t (.map (some b)) key true).run P w = .ok (.tuple #[(f key).getD z, .bool (f key).isSome]) w := h.find K ht hz hkey true
/-- g is what is held behind a store. -/
def IsPut (f : Value → Option Value) (key val : Value) (g : Value → Option Value) : Prop := g key = some val ∧ ∀ x, x ≠ key → g x = f x
theorem put_ex (f : Value → Option Value) (key val : Value) : ∃ g, IsPut f key val g := by
  classical
  exact ⟨fun x => if x = key then some val else f x, by simp, fun x h => by simp [h]⟩
theorem MapV.put {w : World} {P : Program} {k t e : TypeId} {b n : Nat} {f : Value → Option Value} (h : MapV w P k b n f) (K : Keyed P k) (ht : P.underlying t = some (.map k e)) (hn : n < maxLen) {key : Value} (val : Value) {kl : Lit} (hkey : keyOf P k key = some kl) :
    ∃ w' g, (Instr.mapUpdate t (.map (some b)) key val).run P w = .ok () w' ∧ IsPut f key val g ∧ MapV w' P k b (n + 1) g ∧ w.grownBy w' (some b) := by
  obtain ⟨D, h1, h5⟩ := h
  obtain ⟨w', r1, r2, r3⟩ := h1.update K ht hn hkey (val := val) (d := .held val) (ps := []) rfl
  obtain ⟨g, hp⟩ := put_ex f key val
  refine ⟨w', g, r1, hp, ⟨_, r2, fun key' kl' hk' zd => ?_⟩, r3⟩
  by_cases ek : key' = key
  · subst ek
    rw [hkey] at hk'
    cases hk'
    rw [atKey_put_same h1.isMap (K.key hkey), hp.1]
    rfl
  · have hne : kl' ≠ kl := fun c => ek (K.inj (by rw [hk', c]) hkey)
    rw [atKey_put_other hne, h5 key' kl' hk', hp.2 _ ek]
/-- m[key] = val, in a walk. -/
theorem wpList_mapV {P : Program} {ops : Array Oper} {rest : List Oper} {o : Oper} {a : Act} {Q : Exit → Act → World → Prop} (w : World) (hg : o.guard = none) (m x v : Operand) (t : TypeId) (hop : o.op = Op.mapUpdate t m x v)
    (k e : TypeId) (K : Keyed P k) (ht : P.underlying t = some (.map k e)) (b n : Nat) (f : Value → Option Value) (hm : a.eval m = .map (some b)) (h : MapV w P k b n f) (hn : n < maxLen) (key val : Value) (kl : Lit) (hx : a.eval x = key) (hv : a.eval v = val) (hkey : keyOf P k key = some kl)
    (hK : ∀ w' g, IsPut f key val g → MapV w' P k b (n + 1) g → w.grownBy w' (some b) → wpList P ops Q rest (a.put o.dst undef) w') : wpList P ops Q (o :: rest) a w := by
  refine wpList_plain hg fun K' hK' => ?_
  obtain ⟨w', g, hrun, hp, r1, r2⟩ := h.put K ht hn val hkey
  unfold Oper.wp
  simp [execOp, hop, hm, hx, hv, hrun, Result.andThen]
  exact hK' _ _ (hK w' g hp r1 r2)
end Go.Proofs.YtkpomcimaofkkaaGreatDoor.Rp
namespace Go.Proofs.YtkpomcimaofkkaaGreatDoor.Rp
open Go.RowKit

theorem hid {p : Prop} (h : p) : Hid p := h

/-- An operation, plain: its kind, key, value, list, and whether it has one, whether that is nil. -/
abbrev MOp := Int × ByteArray × Int × List Int × Bool × Bool
abbrev MOp.kind (o : MOp) : Int := o.1
abbrev MOp.key (o : MOp) : ByteArray := o.2.1
abbrev MOp.value (o : MOp) : Int := o.2.2.1
abbrev MOp.list (o : MOp) : List Int := o.2.2.2.1
abbrev MOp.has (o : MOp) : Bool := o.2.2.2.2.1
abbrev MOp.nl (o : MOp) : Bool := o.2.2.2.2.2

/-- An event, plain: its kind, process and operations. -/
abbrev MEv := Int × Int × List MOp
abbrev MEv.kind (e : MEv) : Int := e.1
abbrev MEv.proc (e : MEv) : Int := e.2.1
abbrev MEv.ops (e : MEv) : List MOp := e.2.2

/-- Two lists, element by element. -/
def allEq {α : Type} (eq : α → α → Bool) : List α → List α → Bool
  | [], [] => true
  | x :: xs, y :: ys => eq x y && allEq eq xs ys
  | _, _ => false

theorem allEq_len {α : Type} (eq : α → α → Bool) : ∀ (xs ys : List α), xs.length ≠ ys.length → allEq eq xs ys = false
  | [], [], h => absurd rfl h
  | [], _ :: _, _ => rfl
  | _ :: _, [], _ => rfl
  | x :: xs, y :: ys, h => by
    have := allEq_len eq xs ys (fun e => h (by simp [e]))
    simp [allEq, this]

theorem allEq_hit {α : Type} [Inhabited α] (eq : α → α → Bool) : ∀ (xs ys : List α), xs.length = ys.length → (∀ j, j < xs.length → eq (xs.getD j default) (ys.getD j default) = true) → allEq eq xs ys = true
  | [], [], _, _ => rfl
  | [], _ :: _, h, _ => by simp at h
  | _ :: _, [], h, _ => by simp at h
  | x :: xs, y :: ys, h, hj => by
    have h0 := hj 0 (by simp)
    have := allEq_hit eq xs ys (by simpa using h) (fun j hl => by simpa using hj (j + 1) (by simpa using hl))
    simp at h0
    simp [allEq, this, h0]

theorem allEq_miss {α : Type} [Inhabited α] (eq : α → α → Bool) : ∀ (xs ys : List α) (j : Nat), j < xs.length → eq (xs.getD j default) (ys.getD j default) = false → allEq eq xs ys = false
  | [], _, j, h, _ => by simp at h
  | _ :: _, [], j, _, _ => rfl
  | x :: xs, y :: ys, 0, _, hj => by simp at hj; simp [allEq, hj]
  | x :: xs, y :: ys, j + 1, h, hj => by
    have := allEq_miss eq xs ys j (by simpa using h) (by simpa using hj)
    simp [allEq, this]

theorem allEq_refl {α : Type} (eq : α → α → Bool) (h : ∀ x, eq x x = true) : ∀ xs, allEq eq xs xs = true
  | [] => rfl
  | x :: xs => by simp [allEq, h x, allEq_refl eq h xs]

theorem allEq_symm {α : Type} (eq : α → α → Bool) (h : ∀ x y, eq x y = eq y x) : ∀ xs ys, allEq eq xs ys = allEq eq ys xs
  | [], [] => rfl
  | [], _ :: _ => rfl
  | _ :: _, [] => rfl
  | x :: xs, y :: ys => by simp [allEq, h x y, allEq_symm eq h xs ys]

def intsEq (xs ys : List Int) : Bool := allEq (fun x y => x == y) xs ys
def opEq (x y : MOp) : Bool := x.kind == y.kind && (x.key.toList == y.key.toList && (x.value == y.value && (x.has == y.has && (x.nl == y.nl && intsEq x.list y.list))))
def opsEq (xs ys : List MOp) : Bool := allEq opEq xs ys
def evEq (x y : MEv) : Bool := x.kind == y.kind && (x.proc == y.proc && opsEq x.ops y.ops)
def evsEq (xs ys : List MEv) : Bool := allEq evEq xs ys

theorem intsEq_refl (xs : List Int) : intsEq xs xs = true := allEq_refl _ (by simp) xs
theorem intsEq_symm (xs ys : List Int) : intsEq xs ys = intsEq ys xs := allEq_symm _ (fun x y => by rw [Bool.eq_iff_iff, beq_iff_eq, beq_iff_eq]; exact eq_comm) xs ys
theorem opEq_refl (x : MOp) : opEq x x = true := by simp [opEq, intsEq_refl]
theorem beq_sw {α : Type} [BEq α] [LawfulBEq α] (a b : α) : (a == b) = (b == a) := by rw [Bool.eq_iff_iff, beq_iff_eq, beq_iff_eq]; exact eq_comm
theorem opEq_symm (x y : MOp) : opEq x y = opEq y x := by
  unfold opEq; rw [beq_sw x.kind, beq_sw x.key.toList, beq_sw x.value, beq_sw x.has, beq_sw x.nl, intsEq_symm]
theorem evEq_refl (x : MEv) : evEq x x = true := by simp [evEq, opsEq, allEq_refl _ opEq_refl]
theorem evEq_symm (x y : MEv) : evEq x y = evEq y x := by
  unfold evEq opsEq; rw [beq_sw x.kind, beq_sw x.proc, allEq_symm _ opEq_symm]

/-- A slice of ints in memory, all of it in blocks of S. -/
def IntsIn (S : Nat → Prop) (w : World) (v : Value) (l : List Int) : Prop :=
  ∃ ao c, v = .slice ao l.length c ∧ (l.length * 8 ≤ 140737488355328 ∧ l.length ≤ c) ∧ (0 < l.length → ∃ b off, ao = some ⟨b, off, none⟩ ∧ S b ∧ ∀ j, j < l.length → w.cell? ⟨b, off + j, none⟩ = some (.int .i64 (l.getD j default)))

/-- The six cells of an operation. -/
def OpRow (S : Nat → Prop) (w : World) (cs : List Value) (o : MOp) : Prop :=
  ∃ lv, cs = [.int .i64 o.kind, .string o.key, .int .i64 o.value, lv, .bool o.has, .bool o.nl] ∧ IntsIn S w lv o.list

/-- A slice of elements of k cells, each with a property of its cells. -/
def RowsIn {α : Type} [Inhabited α] (k bytes : Nat) (R : List Value → α → Prop) (S : Nat → Prop) (w : World) (v : Value) (l : List α) : Prop :=
  ∃ ao c, v = .slice ao l.length c ∧ (l.length * bytes ≤ 140737488355328 ∧ l.length ≤ c) ∧ (0 < l.length → ∃ b off, ao = some ⟨b, off, none⟩ ∧ S b ∧ ∀ j, j < l.length → ∃ cs, cs.length = k ∧ R cs (l.getD j default) ∧ ∀ i u, cs[i]? = some u → w.cell? ⟨b, off + j * k + i, none⟩ = some u)

def OpsIn (S : Nat → Prop) (w : World) (v : Value) (l : List MOp) : Prop := RowsIn 6 64 (OpRow S w) S w v l
def EvRow (S : Nat → Prop) (w : World) (cs : List Value) (e : MEv) : Prop :=
  ∃ ov, cs = [.int .i64 e.kind, .int .i64 e.proc, ov] ∧ OpsIn S w ov e.ops
def EvsIn (S : Nat → Prop) (w : World) (v : Value) (l : List MEv) : Prop := RowsIn 3 40 (EvRow S w) S w v l

/-- w' holds what w held in the blocks of S. -/
def KeepsIn (S : Nat → Prop) (w w' : World) : Prop := ∀ b, S b → b < w.heap.size → w'.heap[b]? = w.heap[b]?

theorem KeepsIn.cell {S : Nat → Prop} {w w' : World} (h : KeepsIn S w w') {p : Addr} {u : Value} (hS : S p.block) (hc : w.cell? p = some u) : w'.cell? p = some u :=
  (World.cell?_of_block (w := w) (h p.block hS (World.block_lt_of_cell? _ _ hc))).trans hc

theorem IntsIn.keep {S T : Nat → Prop} {w w' : World} {v : Value} {l : List Int} (h : IntsIn S w v l) (hk : KeepsIn S w w') (hT : ∀ b, b < w.heap.size → S b → T b) : IntsIn T w' v l := by
  obtain ⟨ao, c, hv, hl, hc⟩ := h
  refine ⟨ao, c, hv, hl, fun h0 => ?_⟩
  obtain ⟨b, off, ha, hS, hj⟩ := hc h0
  exact ⟨b, off, ha, hT b (World.block_lt_of_cell? _ _ (hj 0 h0)) hS, fun j h => hk.cell (p := ⟨b, off + j, none⟩) hS (hj j h)⟩

theorem RowsIn.keep {α : Type} [Inhabited α] {k bytes : Nat} {R R' : List Value → α → Prop} {S T : Nat → Prop} {w w' : World} {v : Value} {l : List α} (h : RowsIn k bytes R S w v l) (hk0 : 0 < k) (hR : ∀ cs x, R cs x → R' cs x) (hk : KeepsIn S w w') (hT : ∀ b, b < w.heap.size → S b → T b) : RowsIn k bytes R' T w' v l := by
  obtain ⟨ao, c, hv, hl, hc⟩ := h
  refine ⟨ao, c, hv, hl, fun h0 => ?_⟩
  obtain ⟨b, off, ha, hS, hj⟩ := hc h0
  refine ⟨b, off, ha, hT b ?_ hS, fun j h => ?_⟩
  · obtain ⟨cs, hlen, _, hcs⟩ := hj 0 h0
    exact World.block_lt_of_cell? _ _ (hcs 0 cs[0] (List.getElem?_eq_getElem (by omega)))
  · obtain ⟨cs, hlen, hr, hcs⟩ := hj j h
    exact ⟨cs, hlen, hR _ _ hr, fun i u hi => hk.cell (p := ⟨b, off + j * k + i, none⟩) hS (hcs i u hi)⟩

theorem OpRow.keep {S T : Nat → Prop} {w w' : World} {cs : List Value} {o : MOp} (h : OpRow S w cs o) (hk : KeepsIn S w w') (hT : ∀ b, b < w.heap.size → S b → T b) : OpRow T w' cs o := by
  obtain ⟨lv, hcs, hl⟩ := h
  exact ⟨lv, hcs, hl.keep hk hT⟩

theorem OpsIn.keep {S T : Nat → Prop} {w w' : World} {v : Value} {l : List MOp} (h : OpsIn S w v l) (hk : KeepsIn S w w') (hT : ∀ b, b < w.heap.size → S b → T b) : OpsIn T w' v l :=
  RowsIn.keep h (by omega) (fun _ _ hr => OpRow.keep hr hk hT) hk hT

theorem EvRow.keep {S T : Nat → Prop} {w w' : World} {cs : List Value} {o : MEv} (h : EvRow S w cs o) (hk : KeepsIn S w w') (hT : ∀ b, b < w.heap.size → S b → T b) : EvRow T w' cs o := by
  obtain ⟨lv, hcs, hl⟩ := h
  exact ⟨lv, hcs, hl.keep hk hT⟩

theorem EvsIn.keep {S T : Nat → Prop} {w w' : World} {v : Value} {l : List MEv} (h : EvsIn S w v l) (hk : KeepsIn S w w') (hT : ∀ b, b < w.heap.size → S b → T b) : EvsIn T w' v l :=
  RowsIn.keep h (by omega) (fun _ _ hr => EvRow.keep hr hk hT) hk hT

/-- Anywhere. -/
def Any (_ : Nat) : Prop := True
theorem keeps_below {S : Nat → Prop} {w w' : World} (h : Below w.heap.size w w') : KeepsIn S w w' := fun b _ hb => h.block b hb
theorem IntsIn.below {w w' : World} {v : Value} {l : List Int} (h : IntsIn Any w v l) (hb : Below w.heap.size w w') : IntsIn Any w' v l := h.keep (keeps_below hb) (fun _ _ _ => trivial)
theorem OpsIn.below {w w' : World} {v : Value} {l : List MOp} (h : OpsIn Any w v l) (hb : Below w.heap.size w w') : OpsIn Any w' v l := h.keep (keeps_below hb) (fun _ _ _ => trivial)
theorem EvsIn.below {w w' : World} {v : Value} {l : List MEv} (h : EvsIn Any w v l) (hb : Below w.heap.size w w') : EvsIn Any w' v l := h.keep (keeps_below hb) (fun _ _ _ => trivial)

end Go.Proofs.YtkpomcimaofkkaaGreatDoor.Rp
