/-
  A number's decimal digits, and what they are scanned as.
  Blanks ahead of a text change nothing but places.
  What is scanned, printed, and scanned again: the plain part.
  Walk of the reference's number.
-/
import Derived.Test.YtfgbjghfkdmcjaaGreatDoorF1
namespace Go.Proofs.YtfgbjghfkdmcjaaGreatDoor
set_option linter.unusedVariables false
set_option linter.unusedSimpArgs false

/-- The last digit. -/
def dg (v : Nat) : UInt8 := UInt8.ofNat (48 + v % 10)
theorem dg_toNat (v : Nat) : (dg v).toNat = 48 + v % 10 := by
  unfold dg; rw [UInt8.toNat_ofNat']; omega

/-- Digits ahead of those that there are. -/
def decAcc : Nat → Nat → List UInt8 → List UInt8
  | 0, _, acc => acc
  | f + 1, v, acc => if v = 0 ∧ acc ≠ [] then acc else decAcc f (v / 10) (dg v :: acc)
def dec (v : Nat) : List UInt8 := decAcc 20 v []

theorem decAcc_end (f : Nat) {acc : List UInt8} (h : acc ≠ []) : decAcc f 0 acc = acc := by
  cases f with
  | zero => rfl
  | succ f => simp [decAcc, h]

/-- What digits spell. -/
def val (l : List UInt8) : Nat := l.foldl (fun a b => a * 10 + (b.toNat - 48)) 0
theorem foldl_val (l : List UInt8) : ∀ a, l.foldl (fun a b => a * 10 + (b.toNat - 48)) a = a * 10 ^ l.length + val l := by
  induction l with
  | nil => intro a; simp [val]
  | cons b l ih =>
    intro a
    have e : val (b :: l) = (b.toNat - 48) * 10 ^ l.length + val l := by
      unfold val; rw [List.foldl_cons, ih]; simp [val]
    rw [List.foldl_cons, ih, e, List.length_cons, Nat.pow_succ, Nat.add_mul, Nat.mul_assoc, Nat.mul_comm 10 (10 ^ l.length)]
    omega
theorem val_cons (b : UInt8) (l : List UInt8) : val (b :: l) = (b.toNat - 48) * 10 ^ l.length + val l := by
  show List.foldl _ 0 (b :: l) = _
  rw [List.foldl_cons, foldl_val]; simp
theorem val_snoc (l : List UInt8) (b : UInt8) : val (l ++ [b]) = val l * 10 + (b.toNat - 48) := by simp [val, List.foldl_append]

theorem decAcc_val : ∀ (f v : Nat) (acc : List UInt8), v < 10 ^ f → val (decAcc f v acc) = v * 10 ^ acc.length + val acc
  | 0, v, acc, h => by simp at h; subst h; simp [decAcc]
  | f + 1, v, acc, h => by
    unfold decAcc
    by_cases hc : v = 0 ∧ acc ≠ []
    · rw [if_pos hc, hc.1]; simp
    · rw [if_neg hc, decAcc_val f (v / 10) _ (by rw [Nat.pow_succ] at h; omega), val_cons, dg_toNat, List.length_cons, Nat.pow_succ]
      have e : v / 10 * (10 ^ acc.length * 10) + (48 + v % 10 - 48) * 10 ^ acc.length = v * 10 ^ acc.length := by
        rw [show 48 + v % 10 - 48 = v % 10 by omega, Nat.mul_comm (10 ^ acc.length) 10, ← Nat.mul_assoc, ← Nat.add_mul]
        congr 1; omega
      omega

theorem decAcc_digits : ∀ (f v : Nat) (acc : List UInt8), (∀ b ∈ acc, isDg b.toNat = true) → ∀ b ∈ decAcc f v acc, isDg b.toNat = true
  | 0, _, _, h => h
  | f + 1, v, acc, h => by
    unfold decAcc
    split
    · exact h
    · exact decAcc_digits f _ _ (fun b hb => by
        rcases List.mem_cons.1 hb with rfl | hb
        · rw [isDg_iff, dg_toNat]; omega
        · exact h b hb)

theorem decAcc_len : ∀ (f v : Nat) (acc : List UInt8), v < 10 ^ f → acc.length ≤ (decAcc f v acc).length ∧ (decAcc f v acc).length ≤ acc.length + f
  | 0, _, acc, _ => by simp [decAcc]
  | f + 1, v, acc, h => by
    unfold decAcc
    split
    · omega
    · have := decAcc_len f (v / 10) (dg v :: acc) (by rw [Nat.pow_succ] at h; omega)
      simp at this
      omega

/-- The first digit of a number that is not 0 is none. -/
theorem decAcc_head : ∀ (f v : Nat) (acc : List UInt8), v ≠ 0 → v < 10 ^ f → ∃ b r, decAcc f v acc = b :: r ∧ 49 ≤ b.toNat
  | 0, v, acc, h0, h => by simp at h; omega
  | f + 1, v, acc, h0, h => by
    unfold decAcc
    rw [if_neg (by simp [h0])]
    by_cases hd : v / 10 = 0
    · rw [hd, decAcc_end f (by simp)]
      exact ⟨_, _, rfl, by rw [dg_toNat]; omega⟩
    · exact decAcc_head f (v / 10) _ hd (by rw [Nat.pow_succ] at h; omega)

theorem dec_zero : dec 0 = [48] := by decide
theorem dec_val {v : Nat} (h : v < 10 ^ 20) : val (dec v) = v := by unfold dec; rw [decAcc_val 20 v [] h]; simp [val]
theorem dec_digits (v : Nat) : ∀ b ∈ dec v, isDg b.toNat = true := decAcc_digits 20 v [] (by simp)
theorem dec_head {v : Nat} (h0 : v ≠ 0) (h : v < 10 ^ 20) : ∃ b r, dec v = b :: r ∧ 49 ≤ b.toNat := decAcc_head 20 v [] h0 h
theorem dec_len {v : Nat} (h : v < 10 ^ 20) : 1 ≤ (dec v).length ∧ (dec v).length ≤ 20 := by
  have h1 := decAcc_len 20 v [] h
  by_cases h0 : v = 0
  · subst h0; simp [dec_zero]
  · obtain ⟨b, r, e, _⟩ := dec_head h0 h
    refine ⟨by rw [e]; simp, ?_⟩
    have : (dec v).length = (decAcc 20 v []).length := rfl
    simp at h1
    omega

/-- Bytes of a text by its list. -/
theorem bt_list {s : ByteArray} {i : Nat} {b : UInt8} (h : s.data.toList[i]? = some b) : bt s i = b.toNat := by
  have hi : i < s.data.toList.length := (List.getElem?_eq_some_iff.1 h).1
  have hi' : i < s.size := by simpa using hi
  rw [← bt_get hi']
  have : s.data.toList[i] = b := (List.getElem?_eq_some_iff.1 h).2
  rw [← this]; rfl

theorem dv_val (s : ByteArray) (f : Nat) (l : List UInt8) (h : ∀ j b, l[j]? = some b → bt s (f + j) = b.toNat) : ∀ k, k ≤ l.length → dv s f k = val (l.take k)
  | 0, _ => by simp [dv, val]
  | k + 1, hk => by
    have ih := dv_val s f l h k (by omega)
    have hb := h k l[k] (List.getElem?_eq_getElem (by omega))
    rw [List.take_succ_eq_append_getElem (by omega), val_snoc, ← ih, ← hb]
    rfl

/-- A text whose bytes from a place on are a number's digits, and behind them nothing of a word. -/
theorem num_at {s : ByteArray} {i p v : Nat} (hv : v < 10 ^ 20) (hp : nF s i = p) (hl : ∀ j b, (dec v)[j]? = some b → bt s (p + j) = b.toNat) (he : isDg (bt s (p + (dec v).length)) = false) :
    nE s i = p + (dec v).length ∧ nV s i = v := by
  have hlen := dec_len hv
  have hdig : ∀ j, j < (dec v).length → isDg (bt s (p + j)) = true := fun j hj => by
    rw [hl j (dec v)[j] (List.getElem?_eq_getElem hj)]
    exact dec_digits v _ (List.getElem_mem hj)
  have hE : nE s i = p + (dec v).length := by
    unfold nE
    rw [hp]
    by_cases h0 : v = 0
    · subst h0
      have := hl 0 48 (by simp [dec_zero])
      rw [Nat.add_zero] at this
      rw [if_pos (by rw [this]; rfl)]
      simp [dec_zero]
    · obtain ⟨b, r, e, hb⟩ := dec_head h0 hv
      have := hl 0 b (by simp [e])
      rw [Nat.add_zero] at this
      rw [if_neg (by omega)]
      refine (dEnd_is s (p + 1)).uniq ⟨by omega, fun j h1 h2 => ?_, he⟩
      have := hdig (j - p) (by omega)
      rwa [show p + (j - p) = j by omega] at this
  refine ⟨hE, ?_⟩
  unfold nV
  rw [hE, hp, show p + (dec v).length - p = (dec v).length by omega, dv_val s p (dec v) hl _ (Nat.le_refl _), List.take_length, dec_val hv]

/-- A number's text: a minus, if it is below 0, and its digits. -/
def decimal (n : Int) : List UInt8 := if 0 ≤ n then dec n.toNat else 45 :: dec (-n).toNat

theorem extract_all (s : ByteArray) : s.extract 0 s.size = s := by
  have e := Lib.extract_data s 0 s.size
  rw [ByteArray.ext_iff, ← Array.toList_inj, e, Nat.sub_zero, List.drop_zero, List.take_of_length_le (by simp)]

theorem scan_decimal {s : ByteArray} {n : Int} (h0 : -9223372036854775808 ≤ n) (h1 : n ≤ 9223372036854775807) (hs : s.data.toList = decimal n) : scanM s = .ok [((2 : Int), (0 : Int), s, n)] := by
  have hsz : s.size = (decimal n).length := by rw [← hs]; simp
  have hend : ∀ k, s.size ≤ k → bt s k = 0 := fun k hk => bt_out (by omega)
  by_cases hn : 0 ≤ n
  · have e : decimal n = dec n.toNat := by unfold decimal; rw [if_pos hn]
    have hv : n.toNat < 10 ^ 20 := by omega
    have hlen := dec_len hv
    rw [e] at hs hsz
    have hl : ∀ j b, (dec n.toNat)[j]? = some b → bt s (0 + j) = b.toNat := fun j b hj => by rw [Nat.zero_add]; exact bt_list (by rw [hs]; exact hj)
    have hd0 : isDg (bt s 0) = true := by
      rw [← Nat.zero_add 0, hl 0 (dec n.toNat)[0] (List.getElem?_eq_getElem (by omega))]
      exact dec_digits _ _ (List.getElem_mem _)
    have hdv := isDg_iff.1 hd0
    have h45 : ¬ bt s 0 = 45 := by omega
    have hp : nF s 0 = 0 := by unfold nF; rw [if_neg h45]
    obtain ⟨hE, hV⟩ := num_at hv hp hl (by rw [hend _ (by omega)]; rfl)
    rw [Nat.zero_add, ← hsz] at hE
    have hnum : numM s 0 = .ok (n, s.size) := by
      rw [numM_ok (fun h => h45 h.1) (by unfold nBig; rw [hV]; omega) (by rw [hE, hend _ (Nat.le_refl _)]; rfl), hE]
      congr 2
      unfold nN; rw [if_neg h45, hV]; omega
    have htok : tokM s 0 = .ok (((2 : Int), ((0 : Nat) : Int), s.extract 0 s.size, n), s.size) := by
      unfold tokM; rw [if_neg (by simp [isSm]; omega), if_pos (.inr hd0), hnum]
    rw [scanM_left (by omega), left_tok [] (by omega) (by omega) htok, left_end _ (by omega), extract_all]
    rfl
  · have e : decimal n = 45 :: dec (-n).toNat := by unfold decimal; rw [if_neg hn]
    have hv : (-n).toNat < 10 ^ 20 := by omega
    have hlen := dec_len hv
    rw [e] at hs hsz
    rw [List.length_cons] at hsz
    have hb0 : bt s 0 = 45 := bt_list (b := 45) (by rw [hs]; rfl)
    have hl : ∀ j b, (dec (-n).toNat)[j]? = some b → bt s (1 + j) = b.toNat := fun j b hj => bt_list (by rw [hs, Nat.add_comm, List.getElem?_cons_succ]; exact hj)
    have hp : nF s 0 = 1 := by unfold nF; rw [if_pos hb0]
    obtain ⟨b, r, eb, hb⟩ := dec_head (show (-n).toNat ≠ 0 by omega) hv
    have h1b : bt s 1 = b.toNat := by have := hl 0 b (by simp [eb]); simpa using this
    have hdb := isDg_iff.1 (dec_digits (-n).toNat b (by rw [eb]; simp))
    have hnb : ¬ nBad s 0 := by unfold nBad; rw [hp]; omega
    obtain ⟨hE, hV⟩ := num_at hv hp hl (by rw [hend _ (by omega)]; rfl)
    rw [show 1 + (dec (-n).toNat).length = s.size by omega] at hE
    have hnum : numM s 0 = .ok (n, s.size) := by
      rw [numM_ok hnb (by unfold nBig; rw [hV]; omega) (by rw [hE, hend _ (Nat.le_refl _)]; rfl), hE]
      congr 2
      unfold nN; rw [if_pos hb0, hV]; omega
    have htok : tokM s 0 = .ok (((2 : Int), ((0 : Nat) : Int), s.extract 0 s.size, n), s.size) := by
      unfold tokM; rw [if_neg (by rw [hb0]; decide), if_pos (.inl hb0), hnum]
    rw [scanM_left (by omega), left_tok [] (by omega) (by omega) htok, left_end _ (by omega), extract_all]
    rfl

theorem dec_big : dec 9223372036854775808 = [57, 50, 50, 51, 51, 55, 50, 48, 51, 54, 56, 53, 52, 55, 55, 53, 56, 48, 56] := by decide

/-- One more than the greatest number. -/
theorem scan_big {s : ByteArray} {r : List UInt8} (hs : s.data.toList = dec 9223372036854775808 ++ 32 :: r) (hr : r.length ≤ 1000) : scanM s = .error (0, 11) := by
  have hlen : (dec 9223372036854775808).length = 19 := by rw [dec_big]; rfl
  have hsz : s.size = 20 + r.length := by
    have : s.size = s.data.toList.length := by simp
    rw [this, hs]; simp [hlen]; omega
  have hl : ∀ j b, (dec 9223372036854775808)[j]? = some b → bt s (0 + j) = b.toNat := fun j b hj => by
    rw [Nat.zero_add]
    refine bt_list ?_
    rw [hs, List.getElem?_append_left (List.getElem?_eq_some_iff.1 hj).1]
    exact hj
  have hb0 : bt s 0 = 57 := by have := hl 0 57 (by rw [dec_big]; rfl); simpa using this
  have hb19 : bt s 19 = 32 := bt_list (b := 32) (by rw [hs, List.getElem?_append_right (by omega), hlen]; rfl)
  have hp : nF s 0 = 0 := by unfold nF; rw [if_neg (by omega)]
  obtain ⟨hE, hV⟩ := num_at (v := 9223372036854775808) (by decide) hp hl (by rw [hlen, Nat.zero_add, hb19]; rfl)
  have hnum : numM s 0 = .error (0, 11) := numM_big (fun h => by have := h.1; omega) (by unfold nBig; rw [hV]; omega)
  have htok : tokM s 0 = .error (0, 11) := by
    unfold tokM; rw [if_neg (by rw [hb0]; decide), if_pos (.inr (by rw [hb0]; decide)), hnum]
  rw [scanM_left (by omega), left_bad [] (by omega) (by omega) htok]
end Go.Proofs.YtfgbjghfkdmcjaaGreatDoor
namespace Go.Proofs.YtfgbjghfkdmcjaaGreatDoor
set_option linter.unusedVariables false
set_option linter.unusedSimpArgs false

section
variable {p s : ByteArray}

theorem bt_app (i : Nat) : bt (p ++ s) (p.size + i) = bt s i := by
  have hsz : (p ++ s).size = p.size + s.size := ByteArray.size_append
  by_cases h : i < s.size
  · have h2 : p.size + i < (p ++ s).size := by omega
    rw [← bt_get h, ← bt_get h2]
    congr 1
    rw [ByteArray.getElem_append_right (by omega)]
    congr 1
    omega
  · rw [bt_out h, bt_out (by omega)]

theorem bt_pre (i : Nat) (h : i < p.size) : bt (p ++ s) i = bt p i := by
  have hsz : (p ++ s).size = p.size + s.size := ByteArray.size_append
  have h2 : i < (p ++ s).size := by omega
  rw [← bt_get h, ← bt_get h2]
  congr 1
  rw [ByteArray.getElem_append_left h]

theorem RunEnd.app {q : Nat → Bool} {i e : Nat} (h : RunEnd q s i e) : RunEnd q (p ++ s) (p.size + i) (p.size + e) := by
  refine ⟨by have := h.1; omega, fun j h1 h2 => ?_, by rw [bt_app]; exact h.2.2⟩
  have := h.2.1 (j - p.size) (by omega) (by omega)
  rw [← bt_app (p := p), show p.size + (j - p.size) = j by omega] at this
  exact this

theorem wEnd_app (i : Nat) : wEnd (p ++ s) (p.size + i) = p.size + wEnd s i := (wEnd_is _ _).uniq (wEnd_is s i).app
theorem dEnd_app (i : Nat) : dEnd (p ++ s) (p.size + i) = p.size + dEnd s i := (dEnd_is _ _).uniq (dEnd_is s i).app
theorem dv_app (f : Nat) : ∀ k, dv (p ++ s) (p.size + f) k = dv s f k
  | 0 => rfl
  | k + 1 => by simp only [dv]; rw [dv_app f k, Nat.add_assoc, bt_app]
theorem nF_app (i : Nat) : nF (p ++ s) (p.size + i) = p.size + nF s i := by
  unfold nF; rw [bt_app]; split <;> omega
theorem nE_app (i : Nat) : nE (p ++ s) (p.size + i) = p.size + nE s i := by
  unfold nE; rw [nF_app, bt_app]
  split
  · omega
  · rw [Nat.add_assoc, dEnd_app]
theorem nV_app (i : Nat) : nV (p ++ s) (p.size + i) = nV s i := by
  unfold nV; rw [nF_app, nE_app, dv_app]; congr 1; omega
theorem nBad_app (i : Nat) : nBad (p ++ s) (p.size + i) ↔ nBad s i := by unfold nBad; rw [nF_app, bt_app, bt_app]
theorem nBig_app (i : Nat) : nBig (p ++ s) (p.size + i) ↔ nBig s i := by unfold nBig; rw [nV_app, bt_app]
theorem nN_app (i : Nat) : nN (p ++ s) (p.size + i) = nN s i := by unfold nN; rw [nV_app, bt_app]

theorem numM_app (i : Nat) : numM (p ++ s) (p.size + i) = (match numM s i with | .ok (n, e) => .ok (n, p.size + e) | .error (a, y) => .error (p.size + a, y)) := by
  by_cases h1 : nBad s i
  · rw [numM_bad h1, numM_bad (nBad_app i |>.2 h1)]
  · have h1' : ¬ nBad (p ++ s) (p.size + i) := fun h => h1 ((nBad_app i).1 h)
    by_cases h2 : nBig s i
    · rw [numM_big h1 h2, numM_big h1' ((nBig_app i).2 h2)]
    · have h2' : ¬ nBig (p ++ s) (p.size + i) := fun h => h2 ((nBig_app i).1 h)
      cases h3 : isWd (bt s (nE s i)) with
      | true => rw [numM_wd h1 h2 h3, numM_wd h1' h2' (by rw [nE_app, bt_app]; exact h3), nE_app]
      | false => rw [numM_ok h1 h2 h3, numM_ok h1' h2' (by rw [nE_app, bt_app]; exact h3), nE_app, nN_app]

theorem extract_app (i e : Nat) (h : e ≤ s.size) : (p ++ s).extract (p.size + i) (p.size + e) = s.extract i e := by
  have hsz : (p ++ s).size = p.size + s.size := ByteArray.size_append
  rw [ByteArray.ext_iff, ← Array.toList_inj, extract_bl _ _ _ (by omega), extract_bl _ _ _ h, show p.size + e - (p.size + i) = e - i by omega]
  have : ∀ n i, bl (p ++ s) (p.size + i) n = bl s i n := fun n => by
    induction n with
    | zero => intro i; rfl
    | succ n ih => intro i; simp only [bl]; rw [bt_app, Nat.add_assoc, ih]
  exact this _ _

/-- A token so many places on. -/
def shT (k : Nat) (t : MTok) : MTok := (t.1, t.2.1 + k, t.2.2.1, t.2.2.2)
def shR (k : Nat) : Except (Nat × Nat) (List MTok) → Except (Nat × Nat) (List MTok)
  | .ok l => .ok (l.map (shT k))
  | .error (a, y) => .error (k + a, y)

theorem tokM_app (i : Nat) (hi : i < s.size) : tokM (p ++ s) (p.size + i) = (match tokM s i with | .ok (t, k) => .ok (shT p.size t, p.size + k) | .error (a, y) => .error (p.size + a, y)) := by
  unfold tokM
  rw [bt_app]
  by_cases h1 : isSm (bt s i) = true
  · rw [if_pos h1, if_pos h1, wEnd_app, extract_app _ _ ((wEnd_is s i).le_size rfl (by omega))]
    simp [shT, Int.add_comm]
  · rw [if_neg h1, if_neg h1]
    by_cases h2 : bt s i = 45 ∨ isDg (bt s i) = true
    · rw [if_pos h2, if_pos h2, numM_app]
      cases hn : numM s i with
      | error q => rfl
      | ok q =>
        obtain ⟨n, e⟩ := q
        have := numM_gt hn hi
        simp only [shT]
        rw [extract_app _ _ this.2]
        simp [Int.add_comm]
    · rw [if_neg h2, if_neg h2]
      by_cases h3 : bt s i = 40 ∨ bt s i = 41 ∨ bt s i = 91 ∨ bt s i = 93
      · rw [if_pos h3, if_pos h3, Nat.add_assoc, extract_app _ _ (by omega)]
        simp [shT, Int.add_comm]
      · rw [if_neg h3, if_neg h3]
        by_cases h4 : bt s i = 10
        · rw [if_pos h4, if_pos h4, Nat.add_assoc, extract_app _ _ (by omega)]
          simp [shT, Int.add_comm]
        · rw [if_neg h4, if_neg h4]

theorem left_app : ∀ (n i : Nat) (acc : List MTok), s.size - i ≤ n → left (p ++ s) (p.size + i) (acc.map (shT p.size)) = shR p.size (left s i acc)
  | n, i, acc, h => by
    have hsz : (p ++ s).size = p.size + s.size := ByteArray.size_append
    by_cases hi : i < s.size
    · cases n with
      | zero => omega
      | succ n =>
        have hi' : p.size + i < (p ++ s).size := by omega
        by_cases hb : bt s i = 32
        · rw [left_blank acc hi hb, left_blank _ hi' (by rw [bt_app]; exact hb), Nat.add_assoc, left_app n (i + 1) acc (by omega)]
        · have hb' : ¬ bt (p ++ s) (p.size + i) = 32 := by rw [bt_app]; exact hb
          cases ht : tokM s i with
          | error q =>
            obtain ⟨a, y⟩ := q
            have ht' := tokM_app (p := p) i hi
            rw [ht] at ht'
            rw [left_bad acc hi hb ht, left_bad _ hi' hb' ht']
            rfl
          | ok q =>
            obtain ⟨t, k⟩ := q
            have ht' := tokM_app (p := p) i hi
            rw [ht] at ht'
            have hk := tokM_gt ht hi
            rw [left_tok acc hi hb ht, left_tok _ hi' hb' ht', ← left_app n k (acc ++ [t]) (by omega)]
            simp
    · rw [left_end acc hi, left_end _ (by omega)]
      rfl

theorem left_blanks (hp : ∀ i, i < p.size → bt p i = 32) : ∀ j, j ≤ p.size → left (p ++ s) 0 [] = left (p ++ s) j []
  | 0, _ => rfl
  | j + 1, h => by
    have hsz : (p ++ s).size = p.size + s.size := ByteArray.size_append
    rw [left_blanks hp j (by omega), left_blank [] (by omega) (by rw [bt_pre j (by omega)]; exact hp j (by omega))]

/-- Blanks ahead of a text. -/
theorem scanM_blanks (hp : ∀ i, i < p.size → bt p i = 32) (h : p.size + s.size ≤ 20000) : scanM (p ++ s) = shR p.size (scanM s) := by
  have hsz : (p ++ s).size = p.size + s.size := ByteArray.size_append
  rw [scanM_left (by omega), scanM_left (by omega), left_blanks hp p.size (Nat.le_refl _)]
  have := left_app (p := p) (s := s) s.size 0 [] (by omega)
  simpa using this
end

/-- A token without its place. -/
def bareT (t : MTok) : MTok := (t.1, 0, t.2.2.1, t.2.2.2)
theorem bare_shift (k : Nat) (l : List MTok) : (l.map (shT k)).map bareT = l.map bareT := by
  rw [List.map_map]; rfl
end Go.Proofs.YtfgbjghfkdmcjaaGreatDoor
namespace Go.Proofs.YtfgbjghfkdmcjaaGreatDoor
set_option linter.unusedVariables false
set_option linter.unusedSimpArgs false

/-- A token's bytes. -/
abbrev tx (t : MTok) : List UInt8 := t.2.2.1.data.toList

/-- A token as scanning makes it. -/
def TokOk (t : MTok) : Prop :=
  (t.1 = 1 ∧ t.2.2.2 = 0 ∧ ∃ b r, tx t = b :: r ∧ isSm b.toNat = true ∧ ∀ x ∈ r, isWd x.toNat = true) ∨
  (t.1 = 2 ∧ -9223372036854775808 ≤ t.2.2.2 ∧ t.2.2.2 ≤ 9223372036854775807 ∧ tx t = decimal t.2.2.2) ∨
  (t.1 = 3 ∧ t.2.2.2 = 0 ∧ ∃ b, tx t = [b] ∧ (b.toNat = 40 ∨ b.toNat = 41 ∨ b.toNat = 91 ∨ b.toNat = 93)) ∨
  (t.1 = 4 ∧ t.2.2.2 = 0 ∧ tx t = [10])

/-- Digits without a nought ahead are those of what they spell. -/
theorem decAcc_back : ∀ (n f : Nat) (ds acc : List UInt8), ds.length = n → n ≤ f → (∀ b ∈ ds, isDg b.toNat = true) → (∃ b r, ds = b :: r ∧ 49 ≤ b.toNat) → decAcc f (val ds) acc = ds ++ acc
  | 0, f, ds, acc, hn, hf, hd, ⟨b, r, e, hb⟩ => by subst e; simp at hn
  | n + 1, f, ds, acc, hn, hf, hd, ⟨b, r, e, hb⟩ => by
    cases f with
    | zero => omega
    | succ f =>
      have hne : ds ≠ [] := by rw [e]; simp
      obtain ⟨ini, z, rfl⟩ : ∃ ini z, ds = ini ++ [z] := ⟨ds.dropLast, ds.getLast hne, (List.dropLast_concat_getLast hne).symm⟩
      have hz := isDg_iff.1 (hd z (by simp))
      have hdg : dg (val ini * 10 + (z.toNat - 48)) = z := by
        apply UInt8.toNat_inj.1
        rw [dg_toNat]; omega
      have hdiv : (val ini * 10 + (z.toNat - 48)) / 10 = val ini := by omega
      have hini : ini.length = n := by simpa using hn
      cases ini with
      | nil =>
        simp at e
        obtain ⟨rfl, rfl⟩ := e
        rw [val_snoc]
        unfold decAcc
        rw [if_neg (by simp [val]; omega), hdiv, hdg]
        simp only [val, List.foldl_nil, List.nil_append, List.singleton_append]
        exact decAcc_end f (by simp)
      | cons c ini =>
        simp only [List.cons_append, List.cons.injEq] at e
        obtain ⟨rfl, rfl⟩ := e
        have hpos : 0 < val (c :: ini) := by
          rw [val_cons]
          have : 0 < 10 ^ ini.length := Nat.pow_pos (by omega)
          have h1 : 1 ≤ c.toNat - 48 := by omega
          have := Nat.mul_le_mul h1 (Nat.le_refl (10 ^ ini.length))
          omega
        rw [val_snoc]
        unfold decAcc
        rw [if_neg (by omega), hdiv, hdg, decAcc_back n f (c :: ini) (z :: acc) hini (by omega) (fun b hb => hd b (by simp at hb ⊢; rcases hb with h | h <;> simp [h])) ⟨c, ini, rfl, hb⟩]
        simp

theorem dec_back {ds : List UInt8} (hd : ∀ b ∈ ds, isDg b.toNat = true) (hh : ∃ b r, ds = b :: r ∧ (49 ≤ b.toNat ∨ r = [])) (hv : val ds < 10 ^ 20) : dec (val ds) = ds := by
  obtain ⟨b, r, rfl, h⟩ := hh
  have hb := isDg_iff.1 (hd b (by simp))
  by_cases h49 : 49 ≤ b.toNat
  · have hlen : (b :: r).length ≤ 20 := by
      rw [val_cons] at hv
      by_cases hc : (b :: r).length ≤ 20
      · exact hc
      · have h20 : 20 ≤ r.length := by simp at hc; omega
        have : 10 ^ 20 ≤ 10 ^ r.length := Nat.pow_le_pow_right (by omega) h20
        have h1 : 1 ≤ b.toNat - 48 := by omega
        have := Nat.mul_le_mul h1 (Nat.le_refl (10 ^ r.length))
        omega
    unfold dec
    rw [decAcc_back _ 20 (b :: r) [] rfl hlen hd ⟨b, r, rfl, h49⟩]
    simp
  · have hr : r = [] := by rcases h with h | h
                           · omega
                           · exact h
    subst hr
    have : b = 48 := UInt8.toNat_inj.1 (by show b.toNat = 48; omega)
    subst this
    decide

/-- The bytes from a place on, by the list. -/
theorem mem_bl {s : ByteArray} {i n : Nat} {b : UInt8} (h : b ∈ bl s i n) : ∃ j, j < n ∧ b.toNat = bt s (i + j) := by
  obtain ⟨j, hj⟩ := List.mem_iff_getElem?.1 h
  have hlt : j < n := by have := (List.getElem?_eq_some_iff.1 hj).1; rwa [bl_len] at this
  rw [bl_get s n i j hlt] at hj
  exact ⟨j, hlt, by rw [← Option.some.inj hj, toNat_bt]⟩

theorem num_text {s : ByteArray} {i : Nat} (hi : i < s.size) (hs : bt s i = 45 ∨ isDg (bt s i) = true) (h1 : ¬ nBad s i) (h2 : ¬ nBig s i) :
    -9223372036854775808 ≤ nN s i ∧ nN s i ≤ 9223372036854775807 ∧ (s.extract i (nE s i)).data.toList = decimal (nN s i) := by
  obtain ⟨g1, g2, g3, g4⟩ := nE_gt h1 hi
  have hdig := nE_digits h1 hs
  have hE : ∀ b ∈ bl s (nF s i) (nE s i - nF s i), isDg b.toNat = true := fun b hb => by
    obtain ⟨j, hj, e⟩ := mem_bl hb
    rw [e]; exact hdig _ (by omega) (by omega)
  have hval : nV s i = val (bl s (nF s i) (nE s i - nF s i)) := by
    have := dv_val s (nF s i) (bl s (nF s i) (nE s i - nF s i)) (fun j b hj => by
      have hlt : j < nE s i - nF s i := by have := (List.getElem?_eq_some_iff.1 hj).1; rwa [bl_len] at this
      rw [bl_get s _ _ _ hlt] at hj
      rw [← Option.some.inj hj, toNat_bt]) (nE s i - nF s i) (by rw [bl_len]; omega)
    unfold nV
    rw [this, List.take_of_length_le (by rw [bl_len]; omega)]
  have hlt20 : nV s i < 10 ^ 20 := by unfold nBig at h2; omega
  have hhead : ∃ b r, bl s (nF s i) (nE s i - nF s i) = b :: r ∧ (49 ≤ b.toNat ∨ r = []) := by
    obtain ⟨n, hn⟩ : ∃ n, nE s i - nF s i = n + 1 := ⟨nE s i - nF s i - 1, by omega⟩
    rw [hn]
    refine ⟨_, _, rfl, ?_⟩
    rw [toNat_bt]
    have h0 := isDg_iff.1 (hdig (nF s i) (Nat.le_refl _) g2)
    by_cases h48 : bt s (nF s i) = 48
    · right
      have : nE s i = nF s i + 1 := by unfold nE; rw [if_pos h48]
      have : n = 0 := by omega
      subst this; rfl
    · left; omega
  have hdec : dec (nV s i) = bl s (nF s i) (nE s i - nF s i) := by rw [hval]; exact dec_back hE hhead (by rw [← hval]; exact hlt20)
  rw [extract_bl s i (nE s i) g3]
  by_cases h45 : bt s i = 45
  · have hF : nF s i = i + 1 := by unfold nF; rw [if_pos h45]
    have hn : nN s i = -(nV s i : Int) := by unfold nN; rw [if_pos h45]
    have hpos : nV s i ≠ 0 := by
      intro h0
      rw [h0, dec_zero] at hdec
      obtain ⟨n, hn⟩ : ∃ n, nE s i - nF s i = n + 1 := ⟨nE s i - nF s i - 1, by omega⟩
      rw [hn] at hdec
      have e : (48 : UInt8) = UInt8.ofNat (bt s (nF s i)) := (List.cons.inj hdec).1
      have : (48 : UInt8).toNat = bt s (nF s i) := by rw [e, toNat_bt]
      have h48 : bt s (nF s i) = 48 := by rw [← this]; rfl
      unfold nBad at h1
      omega
    have hbig : nV s i ≤ 9223372036854775808 := by unfold nBig at h2; omega
    refine ⟨by omega, by omega, ?_⟩
    unfold decimal
    rw [if_neg (by omega), hn, Int.neg_neg, Int.toNat_natCast, hdec]
    obtain ⟨n, hm⟩ : ∃ n, nE s i - i = n + 1 := ⟨nE s i - i - 1, by omega⟩
    rw [hm, show nE s i - nF s i = n by omega, hF]
    show UInt8.ofNat (bt s i) :: _ = _
    rw [h45]
    rfl
  · have hF : nF s i = i := by unfold nF; rw [if_neg h45]
    have hn : nN s i = (nV s i : Int) := by unfold nN; rw [if_neg h45]
    have hbig : nV s i < 9223372036854775808 := by unfold nBig at h2; omega
    refine ⟨by omega, by omega, ?_⟩
    unfold decimal
    rw [if_pos (by omega), hn, Int.toNat_natCast, hdec, hF]

theorem one_bl {s : ByteArray} {i : Nat} (hi : i < s.size) : (s.extract i (i + 1)).data.toList = [UInt8.ofNat (bt s i)] := by
  rw [extract_bl s i (i + 1) (by omega), show i + 1 - i = 1 by omega]; rfl

theorem tokM_form {s : ByteArray} {i k : Nat} {t : MTok} (hi : i < s.size) (h : tokM s i = .ok (t, k)) : TokOk t := by
  have hk := tokM_gt h hi
  unfold tokM at h
  split at h
  · rename_i hs
    cases h
    refine .inl ⟨rfl, rfl, ?_⟩
    have hr := wEnd_is s i
    obtain ⟨n, hn⟩ : ∃ n, wEnd s i - i = n + 1 := ⟨wEnd s i - i - 1, by omega⟩
    refine ⟨UInt8.ofNat (bt s i), bl s (i + 1) n, ?_, ?_, ?_⟩
    · show (s.extract i (wEnd s i)).data.toList = _
      rw [extract_bl s i _ hk.2, hn]; rfl
    · rw [toNat_bt]; exact hs
    · intro x hx
      obtain ⟨j, hj, e⟩ := mem_bl hx
      rw [e]; exact hr.2.1 _ (by omega) (by omega)
  · split at h
    · rename_i hs2
      split at h
      · cases h
      · rename_i n e hn
        cases h
        unfold numM at hn
        split at hn
        · cases hn
        · rename_i h1
          split at hn
          · cases hn
          · rename_i h2
            split at hn
            · cases hn
            · cases hn
              obtain ⟨a, b, c⟩ := num_text hi hs2 h1 h2
              exact .inr (.inl ⟨rfl, a, b, c⟩)
    · split at h
      · rename_i h3
        cases h
        exact .inr (.inr (.inl ⟨rfl, rfl, _, one_bl hi, by rw [toNat_bt]; exact h3⟩))
      · split at h
        · rename_i h4
          cases h
          exact .inr (.inr (.inr ⟨rfl, rfl, by show (s.extract i (i + 1)).data.toList = _; rw [one_bl hi, h4]; rfl⟩))
        · cases h

theorem left_form (s : ByteArray) : ∀ (n i : Nat) (acc l : List MTok), s.size - i ≤ n → (∀ t ∈ acc, TokOk t) → left s i acc = .ok l → ∀ t ∈ l, TokOk t
  | n, i, acc, l, hn, ha, h => by
    by_cases hlt : i < s.size
    · cases n with
      | zero => omega
      | succ n =>
        by_cases h32 : bt s i = 32
        · rw [left_blank acc hlt h32] at h
          exact left_form s n (i + 1) acc l (by omega) ha h
        · cases ht : tokM s i with
          | error q => rw [left_bad acc hlt h32 ht] at h; cases h
          | ok q =>
            obtain ⟨t, k⟩ := q
            rw [left_tok acc hlt h32 ht] at h
            have := tokM_gt ht hlt
            exact left_form s n k (acc ++ [t]) l (by omega) (fun x hx => by
              rcases List.mem_append.1 hx with hx | hx
              · exact ha x hx
              · rw [List.mem_singleton.1 hx]; exact tokM_form hlt ht) h
    · rw [left_end acc hlt] at h
      cases h
      exact ha

theorem scanM_form {s : ByteArray} {l : List MTok} (h : scanM s = .ok l) : ∀ t ∈ l, TokOk t := by
  have hs : s.size ≤ 20000 := by
    unfold scanM at h
    split at h
    · cases h
    · omega
  rw [scanM_left hs] at h
  exact left_form s s.size 0 [] l (by omega) (fun t ht => by cases ht) h

/-- What stands ahead of a token. -/
def sep (il : Bool) : List UInt8 := if il then [32] else []

/-- Tokens as a text, from a place on: whether the line has one already. -/
def printL : Bool → List MTok → List UInt8
  | _, [] => []
  | il, t :: l =>
    if t.1 = 1 ∨ t.1 = 3 then sep il ++ (tx t ++ printL true l)
    else if t.1 = 2 then sep il ++ (decimal t.2.2.2 ++ printL true l)
    else if t.1 = 4 then 10 :: printL false l
    else printL il l

/-- Nothing of a word begins what follows. -/
def Stop (r : List UInt8) : Prop := r = [] ∨ ∃ b q, r = b :: q ∧ (b = 32 ∨ b = 10)

theorem stop_print {l : List MTok} (h : ∀ t ∈ l, TokOk t) : Stop (printL true l) := by
  cases l with
  | nil => exact .inl rfl
  | cons t l =>
    rcases h t (by simp) with ⟨e, _⟩ | ⟨e, _⟩ | ⟨e, _⟩ | ⟨e, _⟩
    · right; exact ⟨32, _, by unfold printL; rw [if_pos (.inl e)]; rfl, .inl rfl⟩
    · right; exact ⟨32, _, by unfold printL; rw [if_neg (by omega), if_pos e]; rfl, .inl rfl⟩
    · right; exact ⟨32, _, by unfold printL; rw [if_pos (.inr e)]; rfl, .inl rfl⟩
    · right; exact ⟨10, _, by unfold printL; rw [if_neg (by omega), if_neg (by omega), if_pos e], .inr rfl⟩

theorem printL_word {il : Bool} {t : MTok} {l : List MTok} (h : TokOk t) (h4 : t.1 ≠ 4) : printL il (t :: l) = sep il ++ (tx t ++ printL true l) := by
  rw [printL]
  rcases h with ⟨e, _⟩ | ⟨e, _, _, ht⟩ | ⟨e, _⟩ | ⟨e, _⟩
  · rw [if_pos (.inl e)]
  · rw [if_neg (by omega), if_pos e, ht]
  · rw [if_pos (.inr e)]
  · exact absurd e h4

section
variable {s : ByteArray} {i : Nat}

theorem drop_bt {l : List UInt8} (h : s.data.toList.drop i = l) {j : Nat} {b : UInt8} (hj : l[j]? = some b) : bt s (i + j) = b.toNat := by
  refine bt_list ?_
  rw [← h, List.getElem?_drop] at hj
  exact hj

theorem drop_len {l : List UInt8} (h : s.data.toList.drop i = l) : s.size - i = l.length := by
  rw [← h, List.length_drop]; simp

theorem stop_bt {x r : List UInt8} (h : s.data.toList.drop i = x ++ r) (hr : Stop r) : isWd (bt s (i + x.length)) = false := by
  rcases hr with rfl | ⟨b, q, rfl, hb⟩
  · rw [bt_out (by have := drop_len h; simp at this; omega)]; rfl
  · rw [drop_bt h (j := x.length) (b := b) (by simp)]
    rcases hb with rfl | rfl <;> rfl

theorem take_text {x r : List UInt8} {T : ByteArray} (h : s.data.toList.drop i = x ++ r) (hT : T.data.toList = x) : s.extract i (i + x.length) = T := by
  rw [ByteArray.ext_iff, ← Array.toList_inj, hT, Lib.extract_data, h, show i + x.length - i = x.length by omega]
  simp

/-- A token that stands in a text is scanned as it. -/
theorem tok_again {t : MTok} {r : List UInt8} (ht : TokOk t) (h : s.data.toList.drop i = tx t ++ r) (hr : t.1 = 3 ∨ t.1 = 4 ∨ Stop r) :
    (tx t ≠ []) ∧ bt s i ≠ 32 ∧ tokM s i = .ok ((t.1, (i : Int), t.2.2.1, t.2.2.2), i + (tx t).length) := by
  obtain ⟨t1, t2, T, n⟩ := t
  rcases ht with ⟨e, e0, b, q, hx, hb, hq⟩ | ⟨e, e0, e1, hx⟩ | ⟨e, e0, b, hx, hb⟩ | ⟨e, e0, hx⟩
  · simp only at e e0 hr
    subst e e0
    have hr : Stop r := by rcases hr with hr | hr | hr
                           · omega
                           · omega
                           · exact hr
    have hT := take_text h rfl
    have hstop := stop_bt h hr
    generalize hX : tx ((1 : Int), t2, T, (0 : Int)) = X at *
    have h0 : bt s i = b.toNat := by have := drop_bt h (j := 0) (b := b) (by rw [hx]; rfl); simpa using this
    have hsm : isSm (bt s i) = true := by rw [h0]; exact hb
    have hW : wEnd s i = i + X.length := (wEnd_is s i).uniq ⟨by omega, fun j h1 h2 => by
        have hj : (X ++ r)[j - i]? = some (X[j - i]'(by omega)) := by rw [List.getElem?_append_left (by omega), List.getElem?_eq_getElem]
        have := drop_bt h hj
        rw [show i + (j - i) = j by omega] at this
        rw [this]
        have hm : X[j - i]'(by omega) ∈ b :: q := by rw [← hx]; exact List.getElem_mem _
        rcases List.mem_cons.1 hm with e | e
        · rw [e]; simp [isWd, hb]
        · exact hq _ e, hstop⟩
    refine ⟨by rw [hx]; simp, by have := isSm_iff.1 hsm; omega, ?_⟩
    unfold tokM
    rw [if_pos hsm, hW, hT]
  · simp only at e e0 e1 hr hx
    subst e
    have hr : Stop r := by rcases hr with hr | hr | hr
                           · omega
                           · omega
                           · exact hr
    have hT := take_text h rfl
    have hstop := stop_bt h hr
    generalize hX : tx ((2 : Int), t2, T, n) = X at *
    by_cases hn : 0 ≤ n
    · have ed : decimal n = dec n.toNat := by unfold decimal; rw [if_pos hn]
      rw [ed] at hx
      have hv : n.toNat < 10 ^ 20 := by omega
      have hlen := dec_len hv
      have hl : ∀ j b, (dec n.toNat)[j]? = some b → bt s (i + j) = b.toNat := fun j b hj => drop_bt h (by rw [hx, List.getElem?_append_left (List.getElem?_eq_some_iff.1 hj).1]; exact hj)
      have hd0 : isDg (bt s i) = true := by
        have := hl 0 (dec n.toNat)[0] (List.getElem?_eq_getElem (by omega))
        rw [Nat.add_zero] at this
        rw [this]
        exact dec_digits _ _ (List.getElem_mem _)
      have hdv := isDg_iff.1 hd0
      have h45 : ¬ bt s i = 45 := by omega
      have hp : nF s i = i := by unfold nF; rw [if_neg h45]
      have hnd : isDg (bt s (i + (dec n.toNat).length)) = false := by
        rw [hx] at hstop
        cases hc : isDg (bt s (i + (dec n.toNat).length)) with
        | false => rfl
        | true => simp [isWd, hc] at hstop
      obtain ⟨hE, hV⟩ := num_at hv hp hl hnd
      have hnum : numM s i = .ok (n, i + X.length) := by
        rw [numM_ok (fun h => h45 h.1) (by unfold nBig; rw [hV]; omega) (by rw [hE, ← hx]; exact hstop), hE, hx]
        congr 2
        unfold nN; rw [if_neg h45, hV]; omega
      refine ⟨by rw [hx]; intro h0; rw [h0] at hlen; simp at hlen, by omega, ?_⟩
      unfold tokM
      rw [if_neg (by simp [isSm]; omega), if_pos (.inr hd0), hnum]
      simp only [hT]
    · have ed : decimal n = 45 :: dec (-n).toNat := by unfold decimal; rw [if_neg hn]
      rw [ed] at hx
      have hv : (-n).toNat < 10 ^ 20 := by omega
      have hlen := dec_len hv
      have hb0 : bt s i = 45 := by have := drop_bt h (j := 0) (b := 45) (by rw [hx]; rfl); simpa using this
      have hl : ∀ j b, (dec (-n).toNat)[j]? = some b → bt s (i + 1 + j) = b.toNat := fun j b hj => by
        have := drop_bt h (j := j + 1) (b := b) (by rw [hx, List.cons_append, List.getElem?_cons_succ, List.getElem?_append_left (List.getElem?_eq_some_iff.1 hj).1]; exact hj)
        rw [show i + 1 + j = i + (j + 1) by omega]; exact this
      have hp : nF s i = i + 1 := by unfold nF; rw [if_pos hb0]
      obtain ⟨b, q, eb, hb⟩ := dec_head (show (-n).toNat ≠ 0 by omega) hv
      have h1b : bt s (i + 1) = b.toNat := by have := hl 0 b (by simp [eb]); simpa using this
      have hdb := isDg_iff.1 (dec_digits (-n).toNat b (by rw [eb]; simp))
      have hnb : ¬ nBad s i := by unfold nBad; rw [hp]; omega
      have hXl : X.length = 1 + (dec (-n).toNat).length := by rw [hx]; simp; omega
      have hnd : isDg (bt s (i + 1 + (dec (-n).toNat).length)) = false := by
        rw [hXl, ← Nat.add_assoc] at hstop
        cases hc : isDg (bt s (i + 1 + (dec (-n).toNat).length)) with
        | false => rfl
        | true => simp [isWd, hc] at hstop
      obtain ⟨hE, hV⟩ := num_at hv hp hl hnd
      have hE2 : nE s i = i + X.length := by omega
      have hnum : numM s i = .ok (n, i + X.length) := by
        rw [numM_ok hnb (by unfold nBig; rw [hV]; omega) (by rw [hE2]; exact hstop), hE2]
        congr 2
        unfold nN; rw [if_pos hb0, hV]; omega
      refine ⟨by rw [hx]; simp, by omega, ?_⟩
      unfold tokM
      rw [if_neg (by rw [hb0]; decide), if_pos (.inl hb0), hnum]
      simp only [hT]
  · simp only at e e0
    subst e e0
    have hT := take_text h rfl
    generalize hX : tx ((3 : Int), t2, T, (0 : Int)) = X at *
    have h0 : bt s i = b.toNat := by have := drop_bt h (j := 0) (b := b) (by rw [hx]; rfl); simpa using this
    rw [← h0] at hb
    have hl : X.length = 1 := by rw [hx]; rfl
    rw [hl] at hT
    refine ⟨by rw [hx]; simp, by omega, ?_⟩
    unfold tokM
    rw [if_neg (by simp [isSm]; omega), if_neg (by simp [isDg]; omega), if_pos hb, hT, hl]
  · simp only at e e0
    subst e e0
    have hT := take_text h rfl
    generalize hX : tx ((4 : Int), t2, T, (0 : Int)) = X at *
    have h0 : bt s i = 10 := by have := drop_bt h (j := 0) (b := 10) (by rw [hx]; rfl); simpa using this
    have hl : X.length = 1 := by rw [hx]; rfl
    rw [hl] at hT
    refine ⟨by rw [hx]; simp, by omega, ?_⟩
    unfold tokM
    rw [if_neg (by simp [isSm]; omega), if_neg (by simp [isDg]; omega), if_neg (by omega), if_pos h0, hT, hl]
end

theorem left_again {s : ByteArray} : ∀ (l : List MTok) (il : Bool) (i : Nat) (acc : List MTok), (∀ t ∈ l, TokOk t) → s.data.toList.drop i = printL il l →
    ∃ l', left s i acc = .ok (acc ++ l') ∧ l'.map bareT = l.map bareT
  | [], il, i, acc, _, h => ⟨[], by
      have := drop_len h
      simp [printL] at this
      rw [left_end acc (by omega)]; simp, rfl⟩
  | t :: l, il, i, acc, hok, h => by
    have htk := hok t (by simp)
    have hl : ∀ t ∈ l, TokOk t := fun x hx => hok x (by simp [hx])
    have step : ∀ (i : Nat) (il' : Bool), (t.1 = 3 ∨ t.1 = 4 ∨ Stop (printL il' l)) → s.data.toList.drop i = tx t ++ printL il' l → ∃ l', left s i acc = .ok (acc ++ l') ∧ l'.map bareT = (t :: l).map bareT := by
      intro i il' hst h
      obtain ⟨hne, h32, htok⟩ := tok_again htk h hst
      have hlen := drop_len h
      have hpos : 0 < (tx t).length := List.length_pos_iff.2 hne
      rw [List.length_append] at hlen
      obtain ⟨l', e1, e2⟩ := left_again l il' (i + (tx t).length) (acc ++ [(t.1, (i : Int), t.2.2.1, t.2.2.2)]) hl (by
        rw [← List.drop_drop, h, List.drop_left])
      refine ⟨(t.1, (i : Int), t.2.2.1, t.2.2.2) :: l', ?_, ?_⟩
      · rw [left_tok acc (by omega) h32 htok, e1]; simp
      · rw [List.map_cons, List.map_cons, e2]; rfl
    by_cases h4 : t.1 = 4
    · have e : printL il (t :: l) = tx t ++ printL false l := by
        rw [printL, if_neg (by omega), if_neg (by omega), if_pos h4]
        rcases htk with ⟨e, _⟩ | ⟨e, _⟩ | ⟨e, _⟩ | ⟨_, _, e⟩
        · omega
        · omega
        · omega
        · rw [e]; rfl
      rw [e] at h
      exact step i false (.inr (.inl h4)) h
    · rw [printL_word htk h4] at h
      cases il with
      | false => exact step i true (.inr (.inr (stop_print hl))) (by simpa [sep] using h)
      | true =>
        have hb : bt s i = 32 := by have := drop_bt h (j := 0) (b := 32) (by rfl); simpa using this
        have hlen := drop_len h
        simp [sep] at hlen
        rw [left_blank acc (by omega) hb]
        exact step (i + 1) true (.inr (.inr (stop_print hl))) (by
          rw [← List.drop_drop, h]; rfl)

/-- What is scanned, printed, and scanned again. -/
theorem scan_again {s p : ByteArray} {l : List MTok} (h : scanM s = .ok l) (hp : p.data.toList = printL false l) (hsz : p.size ≤ 20000) :
    ∃ l', scanM p = .ok l' ∧ l'.map bareT = l.map bareT := by
  rw [scanM_left hsz]
  obtain ⟨l', e1, e2⟩ := left_again l false 0 [] (scanM_form h) (by rw [List.drop_zero]; exact hp)
  exact ⟨l', by simpa using e1, e2⟩
end Go.Proofs.YtfgbjghfkdmcjaaGreatDoor
namespace Go.Proofs.YtfgbjghfkdmcjaaGreatDoor
set_option linter.unusedVariables false
set_option linter.unusedSimpArgs false
open Go.RowKit

/-- What the reference's number answers. -/
def refNumVal : Except (Nat × Nat) (Int × Nat) → Value
  | .ok (n, k) => .tuple #[.int .i64 n, .int .i64 k, .int .i64 0, .int .i64 0]
  | .error (a, y) => .tuple #[.int .i64 0, .int .i64 0, .int .i64 a, .int .i64 y]

theorem tdiv_lo (d : Int) (_h0 : 0 ≤ d) (h9 : d ≤ 9) : (-9223372036854775808 + d).tdiv 10 = -((9223372036854775808 - d) / 10) := by
  rw [show (-9223372036854775808 + d : Int) = -(9223372036854775808 - d) by omega, Int.neg_tdiv, Int.tdiv_eq_ediv_of_nonneg (by omega)]

theorem over_iff (v d : Int) (h0 : 0 ≤ d) (h9 : d ≤ 9) : -v < (-9223372036854775808 + d).tdiv 10 ↔ 9223372036854775808 < v * 10 + d := by
  rw [tdiv_lo d h0 h9]; omega

theorem wr64 (x : Int) (h : -9223372036854775808 ≤ x ∧ x ≤ 9223372036854775807) : wrap64 x = x := by
  unfold wrap64; omega

theorem at_c (s : ByteArray) (i : Nat) (w : World) (hs : s.size ≤ 9223372036854775807) : Calls Tryz.prog 61 #[.string s, .int .i64 i] w fun e w' => e = .returned (.int .u8 (bt s i : Nat)) ∧ w = w' := (refAt_any s i w hs).mono fun _ _ h => ⟨h.1, h.2.symm⟩
theorem dg_c (c : Nat) (w : World) : Calls Tryz.prog 62 #[.int .u8 c] w fun e w' => e = .returned (.bool (isDg c)) ∧ w = w' := (refDigit_any c w).mono fun _ _ h => ⟨h.1, h.2.symm⟩
theorem lt_c (c : Nat) (w : World) : Calls Tryz.prog 60 #[.int .u8 c] w fun e w' => e = .returned (.bool (isSm c)) ∧ w = w' := (refLetter_any c w).mono fun _ _ h => ⟨h.1, h.2.symm⟩

/-- A run of k + 1 digits lies ahead of a number's end. -/
theorem digits_lt {s : ByteArray} {i k : Nat} (hz : ¬ bt s (nF s i) = 48) (h : ∀ j, j ≤ k → isDg (bt s (nF s i + j)) = true) : nF s i + k < nE s i := by
  unfold nE
  rw [if_neg hz]
  have hr := dEnd_is s (nF s i + 1)
  rcases Nat.lt_or_ge (nF s i + k) (dEnd s (nF s i + 1)) with h1 | h1
  · exact h1
  · have := h (dEnd s (nF s i + 1) - nF s i) (by omega)
    rw [show nF s i + (dEnd s (nF s i + 1) - nF s i) = dEnd s (nF s i + 1) by have := hr.1; omega, hr.2.2] at this
    cases this

theorem big_of {s : ByteArray} {i k : Nat} (hz : ¬ bt s (nF s i) = 48) (h : ∀ j, j ≤ k → isDg (bt s (nF s i + j)) = true) (hv : 9223372036854775808 < dv s (nF s i) (k + 1)) : nBig s i := by
  have h1 := digits_lt hz h
  have hm := dv_mono s (nF s i) (nE s i - nF s i - (k + 1)) (k + 1)
  have : nV s i = dv s (nF s i) (k + 1 + (nE s i - nF s i - (k + 1))) := by unfold nV; congr 1; omega
  unfold nBig
  omega

theorem end_at {s : ByteArray} {i k : Nat} (hz : ¬ bt s (nF s i) = 48) (hk : 1 ≤ k) (h : ∀ j, j < k → isDg (bt s (nF s i + j)) = true) (hq : isDg (bt s (nF s i + k)) = false) : nE s i = nF s i + k := by
  unfold nE
  rw [if_neg hz]
  refine (dEnd_is s (nF s i + 1)).uniq ⟨by omega, fun j h1 h2 => ?_, hq⟩
  have := h (j - nF s i) (by omega)
  rwa [show nF s i + (j - nF s i) = j by omega] at this

set_option maxRecDepth 100000 in
set_option maxHeartbeats 2000000 in
theorem refNumber_pos (s : ByteArray) (i : Nat) (w : World) (hs : s.size ≤ 20000) (hi : i < s.size) (h45 : ¬ bt s i = 45) (hd : isDg (bt s i) = true) :
    Calls Tryz.prog 63 #[.string s, .int .i64 i] w fun e w' => e = .returned (refNumVal (numM s i)) ∧ w' = w := by
  have hii : (i : Int) < (s.size : Int) := by omega
  have hf : nF s i = i := by unfold nF; rw [if_neg h45]
  have q45 : ((((s[i]'hi).toNat : Nat) : Int) == 45) = false := beq_eq_false_iff_ne.2 (by rw [bt_get hi]; omega)
  have HN := hid (show ¬ nBad s i from fun h => h45 h.1)
  by_cases hz : bt s (i) = 48
  · have hb48 : (((bt s i : Nat) : Int) == 48) = true := by rw [hz]; rfl
    have HE : Hid (nE s i = i + 1) := by show nE s i = _; unfold nE; rw [hf, if_pos hz]
    have HV : Hid (nV s i = 0) := by show nV s i = 0; unfold nV; rw [HE.out, hf, show i + 1 - i = 1 by omega]; simp [dv, hz]
    have HB : Hid (¬ nBig s i) := by show ¬ nBig s i; unfold nBig; rw [HV.out]; omega
    have HNN : Hid (nN s i = 0) := by show nN s i = 0; unfold nN; rw [if_neg h45, HV.out]; rfl
    clear hz h45 hd hf
    cases q1 : isDg (bt s (i + 1)) with
    | true =>
      go_enter Tryz.func63, Tryz.ntmps63
      go_wp2_with (first | (go_at_call 61; refine (at_c _ _ _ (by omega)).mono ?_; rintro e w' ⟨rfl, rfl⟩) | (go_at_call 62; refine (dg_c _ _).mono ?_; rintro e w' ⟨rfl, rfl⟩) | (go_at_call 60; refine (lt_c _ _).mono ?_; rintro e w' ⟨rfl, rfl⟩))
      rw [numM_wd HN.out HB.out (by rw [HE.out]; simp [isWd, q1]), HE.out]
      exact bodyPost_ret (v := .tuple #[.int .i64 0, .int .i64 0, .int .i64 ((i + 1 : Nat) : Int), .int .i64 10]) (by simp [results, Tryz.results44, go_sem]) rfl ⟨rfl, rfl⟩
    | false =>
      cases q2 : isSm (bt s (i + 1)) with
      | true =>
        go_enter Tryz.func63, Tryz.ntmps63
        go_wp2_with (first | (go_at_call 61; refine (at_c _ _ _ (by omega)).mono ?_; rintro e w' ⟨rfl, rfl⟩) | (go_at_call 62; refine (dg_c _ _).mono ?_; rintro e w' ⟨rfl, rfl⟩) | (go_at_call 60; refine (lt_c _ _).mono ?_; rintro e w' ⟨rfl, rfl⟩))
        rw [numM_wd HN.out HB.out (by rw [HE.out]; simp [isWd, q2]), HE.out]
        exact bodyPost_ret (v := .tuple #[.int .i64 0, .int .i64 0, .int .i64 ((i + 1 : Nat) : Int), .int .i64 10]) (by simp [results, Tryz.results44, go_sem]) rfl ⟨rfl, rfl⟩
      | false =>
        go_enter Tryz.func63, Tryz.ntmps63
        go_wp2_with (first | (go_at_call 61; refine (at_c _ _ _ (by omega)).mono ?_; rintro e w' ⟨rfl, rfl⟩) | (go_at_call 62; refine (dg_c _ _).mono ?_; rintro e w' ⟨rfl, rfl⟩) | (go_at_call 60; refine (lt_c _ _).mono ?_; rintro e w' ⟨rfl, rfl⟩))
        rw [numM_ok HN.out HB.out (by rw [HE.out]; simp [isWd, q1, q2]), HE.out, HNN.out]
        exact bodyPost_ret (v := .tuple #[.int .i64 0, .int .i64 ((i + 1 : Nat) : Int), .int .i64 0, .int .i64 0]) (by simp [results, Tryz.results44, go_sem]) rfl ⟨rfl, rfl⟩
  · have hb48 : (((bt s (i) : Nat) : Int) == 48) = false := beq_eq_false_iff_ne.2 (by omega)
    have HZ : Hid (¬ bt s (nF s i) = 48) := by show ¬ bt s (nF s i) = 48; rw [hf]; exact hz
    have HF := hid hf
    have HD := hid hd
    have H45 := hid h45
    clear hz h45 hd hf
    go_enter Tryz.func63, Tryz.ntmps63
    go_wp2_with (first | (go_at_call 61; refine (at_c _ _ _ (by omega)).mono ?_; rintro e w' ⟨rfl, rfl⟩) | (go_at_call 62; refine (dg_c _ _).mono ?_; rintro e w' ⟨rfl, rfl⟩) | (go_at_call 60; refine (lt_c _ _).mono ?_; rintro e w' ⟨rfl, rfl⟩))
    go_loopg [8, 10, 11] (s.size - (i)) (fun g t n _ wr => ∃ k : Nat, k ≤ s.size - (i) ∧ s.size - (i) - k ≤ g ∧ t = .int .i64 (((i) + k : Nat)) ∧ n = .int .i64 (-(dv s (i) k : Int)) ∧ wr = w ∧ dv s (i) k ≤ 9223372036854775808 ∧ Aside (∀ j, j < k → isDg (bt s ((i) + j)) = true))
    case atStart => exact ⟨0, Nat.zero_le _, Nat.le_refl _, by go_num, by simp [dv], rfl, by simp [dv], fun j hj => by omega⟩
    case round =>
      obtain ⟨k, hk, hg, rfl, rfl, rfl, hv, A⟩ := hrel
      cases q : isDg (bt s ((i) + k)) with
      | true =>
        have hlt : ((i) + k) < s.size := by
          by_cases hc : ((i) + k) < s.size
          · exact hc
          · rw [bt_out hc] at q; cases q
        have hlti : ((((i) + k) : Nat) : Int) < (s.size : Int) := by omega
        have qv := isDg_iff.1 q
        have hb := hid (bt_get hlt)
        have b1 : (48 : Int) ≤ (((s[((i) + k)]'hlt).toNat : Nat) : Int) := by rw [hb.out]; omega
        have b2 : (((s[((i) + k)]'hlt).toNat : Nat) : Int) ≤ 57 := by rw [hb.out]; omega
        have AA : Hid (∀ j, j ≤ k → isDg (bt s ((i) + j)) = true) := fun j hj => by
          by_cases e : j = k
          · rw [e]; exact q
          · exact A.out j (by omega)
        have HDV : Hid (dv s (i) (k + 1) = dv s (i) k * 10 + (bt s ((i) + k) - 48)) := rfl
        have HOV := hid (over_iff (dv s (i) k : Int) ((((s[((i) + k)]'hlt).toNat : Nat) : Int) - 48) (by omega) (by omega))
        generalize hdk : dv s (i) k = V at *
        go_wp2_with (first | (go_at_call 61; refine (at_c _ _ _ (by omega)).mono ?_; rintro e w' ⟨rfl, rfl⟩) | (go_at_call 62; refine (dg_c _ _).mono ?_; rintro e w' ⟨rfl, rfl⟩) | (go_at_call 60; refine (lt_c _ _).mono ?_; rintro e w' ⟨rfl, rfl⟩))
        · have hov : -(V : Int) < (-9223372036854775808 + ((((s[((i) + k)]'hlt).toNat : Nat) : Int) - 48)).tdiv 10 := by assumption
          have h2 := HOV.out.1 hov
          rw [hb.out] at h2
          rw [numM_big HN.out (big_of (k := k) HZ.out (by rw [HF.out]; exact AA.out) (by rw [HF.out, HDV.out]; omega))]
          exact bodyPost_ret (v := .tuple #[.int .i64 0, .int .i64 0, .int .i64 ((i : Nat) : Int), .int .i64 11]) (by simp [results, Tryz.results44, go_sem]) rfl ⟨rfl, rfl⟩
        · have hov : ¬ -(V : Int) < (-9223372036854775808 + ((((s[((i) + k)]'hlt).toNat : Nat) : Int) - 48)).tdiv 10 := by omega
          have h2 : ¬ 9223372036854775808 < (V : Int) * 10 + ((((s[((i) + k)]'hlt).toNat : Nat) : Int) - 48) := fun h => hov (HOV.out.2 h)
          have e1 : wrap64 (wrap64 (-(V : Int) * 10) - ((((s[((i) + k)]'hlt).toNat : Nat) : Int) - 48)) = -((V * 10 + (bt s ((i) + k) - 48) : Nat) : Int) := by
            have hb2 := hb.out
            rw [wr64 (-(V : Int) * 10) (by omega), wr64 _ (by omega)]
            omega
          have HE1 := hid e1
          have HH2 := hid h2
          clear e1 h2 hov
          go_roundg (s.size - (i) - (k + 1))
          case measure => omega
          case rel => exact ⟨k + 1, by omega, by omega, by go_num, by rw [HE1.out, HDV.out], rfl, by rw [HDV.out]; have := HH2.out; have := hb.out; omega, (show Aside _ from fun j hj => AA.out j (by omega))⟩
      | false =>
        have hk1 : 1 ≤ k := by
          rcases Nat.eq_zero_or_pos k with h0 | h0
          · subst h0; have := HD.out; rw [Nat.add_zero, this] at q; cases q
          · exact h0
        have HE2 : Hid (nE s i = ((i) + k)) := by show nE s i = _; rw [end_at (k := k) HZ.out hk1 (by rw [HF.out]; exact A.out) (by rw [HF.out]; exact q), HF.out]
        have HV2 : Hid (nV s i = dv s (i) k) := by show nV s i = _; unfold nV; rw [HE2.out, HF.out]; congr 1; omega
        go_wp2_with (first | (go_at_call 61; refine (at_c _ _ _ (by omega)).mono ?_; rintro e w' ⟨rfl, rfl⟩) | (go_at_call 62; refine (dg_c _ _).mono ?_; rintro e w' ⟨rfl, rfl⟩) | (go_at_call 60; refine (lt_c _ _).mono ?_; rintro e w' ⟨rfl, rfl⟩))
        all_goals first
          | (have hx : (-((dv s (i) k : Nat) : Int) == -9223372036854775808) = true := by assumption
             have hbg : nBig s i := by
               have h1 := beq_iff_eq.1 hx
               unfold nBig; rw [HV2.out]; have := H45.out; omega
             rw [numM_big HN.out hbg]
             exact bodyPost_ret (v := .tuple #[.int .i64 0, .int .i64 0, .int .i64 ((i : Nat) : Int), .int .i64 11]) (by simp [results, Tryz.results44, go_sem]) rfl ⟨rfl, rfl⟩)
          | skip
        · have hbf : (-((dv s (i) k : Nat) : Int) == -9223372036854775808) = false := by assumption
          have hsm : isSm (bt s (i + k)) = true := by assumption
          have HBG : ¬ nBig s i := by
            have h1 := beq_eq_false_iff_ne.1 hbf
            unfold nBig; rw [HV2.out]; have := H45.out; omega
          rw [numM_wd HN.out HBG (by rw [HE2.out]; simp [isWd, hsm]), HE2.out]
          exact bodyPost_ret (v := .tuple #[.int .i64 0, .int .i64 0, .int .i64 ((i + k : Nat) : Int), .int .i64 10]) (by simp [results, Tryz.results44, go_sem]) rfl ⟨rfl, rfl⟩
        · have hbf : (-((dv s (i) k : Nat) : Int) == -9223372036854775808) = false := by assumption
          have hsm : isSm (bt s (i + k)) = false := by assumption
          have h1 := beq_eq_false_iff_ne.1 hbf
          have HBG : ¬ nBig s i := by unfold nBig; rw [HV2.out]; have := H45.out; omega
          rw [numM_ok HN.out HBG (by rw [HE2.out]; simp [isWd, hsm, q]), HE2.out, show nN s i = ((dv s (i) k : Nat) : Int) by unfold nN; rw [if_neg H45.out, HV2.out], wr64 ((dv s (i) k : Nat) : Int) (by omega)]
          exact bodyPost_ret (v := .tuple #[.int .i64 ((dv s (i) k : Nat) : Int), .int .i64 ((i + k : Nat) : Int), .int .i64 0, .int .i64 0]) (by simp [results, Tryz.results44, go_sem]) rfl ⟨rfl, rfl⟩

set_option maxRecDepth 100000 in
set_option maxHeartbeats 2000000 in
theorem refNumber_neg (s : ByteArray) (i : Nat) (w : World) (hs : s.size ≤ 20000) (hi : i < s.size) (h45 : bt s i = 45) (hfl : i + 1 < s.size) (hd : isDg (bt s (i + 1)) = true) :
    Calls Tryz.prog 63 #[.string s, .int .i64 i] w fun e w' => e = .returned (refNumVal (numM s i)) ∧ w' = w := by
  have hii : (i : Int) < (s.size : Int) := by omega
  have hf : nF s i = i + 1 := by unfold nF; rw [if_pos h45]
  have q45 : ((((s[i]'hi).toNat : Nat) : Int) == 45) = true := by rw [bt_get hi, h45]; rfl
  by_cases hz : bt s (i + 1) = 48
  · have hb48 : (((bt s (i + 1) : Nat) : Int) == 48) = true := by rw [hz]; rfl
    have HNB : Hid (nBad s i) := by show nBad s i; exact ⟨h45, by rw [hf, hz]; omega⟩
    clear hz h45 hd hf
    go_enter Tryz.func63, Tryz.ntmps63
    go_wp2_with (first | (go_at_call 61; refine (at_c _ _ _ (by omega)).mono ?_; rintro e w' ⟨rfl, rfl⟩) | (go_at_call 62; refine (dg_c _ _).mono ?_; rintro e w' ⟨rfl, rfl⟩) | (go_at_call 60; refine (lt_c _ _).mono ?_; rintro e w' ⟨rfl, rfl⟩))
    rw [numM_bad HNB.out]
    exact bodyPost_ret (v := .tuple #[.int .i64 0, .int .i64 0, .int .i64 ((i : Nat) : Int), .int .i64 10]) (by simp [results, Tryz.results44, go_sem]) rfl ⟨rfl, rfl⟩
  · have hb48 : (((bt s (i + 1) : Nat) : Int) == 48) = false := beq_eq_false_iff_ne.2 (by omega)
    have HN : Hid (¬ nBad s i) := by
      show ¬ nBad s i
      have := isDg_iff.1 hd
      intro h; unfold nBad at h; rw [hf] at h; omega
    have HZ : Hid (¬ bt s (nF s i) = 48) := by show ¬ bt s (nF s i) = 48; rw [hf]; exact hz
    have HF := hid hf
    have HD := hid hd
    have H45 := hid h45
    clear hz h45 hd hf
    go_enter Tryz.func63, Tryz.ntmps63
    go_wp2_with (first | (go_at_call 61; refine (at_c _ _ _ (by omega)).mono ?_; rintro e w' ⟨rfl, rfl⟩) | (go_at_call 62; refine (dg_c _ _).mono ?_; rintro e w' ⟨rfl, rfl⟩) | (go_at_call 60; refine (lt_c _ _).mono ?_; rintro e w' ⟨rfl, rfl⟩))
    go_loopg [8, 10, 11] (s.size - (i + 1)) (fun g t n _ wr => ∃ k : Nat, k ≤ s.size - (i + 1) ∧ s.size - (i + 1) - k ≤ g ∧ t = .int .i64 (((i + 1) + k : Nat)) ∧ n = .int .i64 (-(dv s (i + 1) k : Int)) ∧ wr = w ∧ dv s (i + 1) k ≤ 9223372036854775808 ∧ Aside (∀ j, j < k → isDg (bt s ((i + 1) + j)) = true))
    case atStart => exact ⟨0, Nat.zero_le _, Nat.le_refl _, by go_num, by simp [dv], rfl, by simp [dv], fun j hj => by omega⟩
    case round =>
      obtain ⟨k, hk, hg, rfl, rfl, rfl, hv, A⟩ := hrel
      cases q : isDg (bt s ((i + 1) + k)) with
      | true =>
        have hlt : ((i + 1) + k) < s.size := by
          by_cases hc : ((i + 1) + k) < s.size
          · exact hc
          · rw [bt_out hc] at q; cases q
        have hlti : ((((i + 1) + k) : Nat) : Int) < (s.size : Int) := by omega
        have qv := isDg_iff.1 q
        have hb := hid (bt_get hlt)
        have b1 : (48 : Int) ≤ (((s[((i + 1) + k)]'hlt).toNat : Nat) : Int) := by rw [hb.out]; omega
        have b2 : (((s[((i + 1) + k)]'hlt).toNat : Nat) : Int) ≤ 57 := by rw [hb.out]; omega
        have AA : Hid (∀ j, j ≤ k → isDg (bt s ((i + 1) + j)) = true) := fun j hj => by
          by_cases e : j = k
          · rw [e]; exact q
          · exact A.out j (by omega)
        have HDV : Hid (dv s (i + 1) (k + 1) = dv s (i + 1) k * 10 + (bt s ((i + 1) + k) - 48)) := rfl
        have HOV := hid (over_iff (dv s (i + 1) k : Int) ((((s[((i + 1) + k)]'hlt).toNat : Nat) : Int) - 48) (by omega) (by omega))
        generalize hdk : dv s (i + 1) k = V at *
        go_wp2_with (first | (go_at_call 61; refine (at_c _ _ _ (by omega)).mono ?_; rintro e w' ⟨rfl, rfl⟩) | (go_at_call 62; refine (dg_c _ _).mono ?_; rintro e w' ⟨rfl, rfl⟩) | (go_at_call 60; refine (lt_c _ _).mono ?_; rintro e w' ⟨rfl, rfl⟩))
        · have hov : -(V : Int) < (-9223372036854775808 + ((((s[((i + 1) + k)]'hlt).toNat : Nat) : Int) - 48)).tdiv 10 := by assumption
          have h2 := HOV.out.1 hov
          rw [hb.out] at h2
          rw [numM_big HN.out (big_of (k := k) HZ.out (by rw [HF.out]; exact AA.out) (by rw [HF.out, HDV.out]; omega))]
          exact bodyPost_ret (v := .tuple #[.int .i64 0, .int .i64 0, .int .i64 ((i : Nat) : Int), .int .i64 11]) (by simp [results, Tryz.results44, go_sem]) rfl ⟨rfl, rfl⟩
        · have hov : ¬ -(V : Int) < (-9223372036854775808 + ((((s[((i + 1) + k)]'hlt).toNat : Nat) : Int) - 48)).tdiv 10 := by omega
          have h2 : ¬ 9223372036854775808 < (V : Int) * 10 + ((((s[((i + 1) + k)]'hlt).toNat : Nat) : Int) - 48) := fun h => hov (HOV.out.2 h)
          have e1 : wrap64 (wrap64 (-(V : Int) * 10) - ((((s[((i + 1) + k)]'hlt).toNat : Nat) : Int) - 48)) = -((V * 10 + (bt s ((i + 1) + k) - 48) : Nat) : Int) := by
            have hb2 := hb.out
            rw [wr64 (-(V : Int) * 10) (by omega), wr64 _ (by omega)]
            omega
          have HE1 := hid e1
          have HH2 := hid h2
          clear e1 h2 hov
          go_roundg (s.size - (i + 1) - (k + 1))
          case measure => omega
          case rel => exact ⟨k + 1, by omega, by omega, by go_num, by rw [HE1.out, HDV.out], rfl, by rw [HDV.out]; have := HH2.out; have := hb.out; omega, (show Aside _ from fun j hj => AA.out j (by omega))⟩
      | false =>
        have hk1 : 1 ≤ k := by
          rcases Nat.eq_zero_or_pos k with h0 | h0
          · subst h0; have := HD.out; rw [Nat.add_zero, this] at q; cases q
          · exact h0
        have HE2 : Hid (nE s i = ((i + 1) + k)) := by show nE s i = _; rw [end_at (k := k) HZ.out hk1 (by rw [HF.out]; exact A.out) (by rw [HF.out]; exact q), HF.out]
        have HV2 : Hid (nV s i = dv s (i + 1) k) := by show nV s i = _; unfold nV; rw [HE2.out, HF.out]; congr 1; omega
        go_wp2_with (first | (go_at_call 61; refine (at_c _ _ _ (by omega)).mono ?_; rintro e w' ⟨rfl, rfl⟩) | (go_at_call 62; refine (dg_c _ _).mono ?_; rintro e w' ⟨rfl, rfl⟩) | (go_at_call 60; refine (lt_c _ _).mono ?_; rintro e w' ⟨rfl, rfl⟩))
        · have hsm : isSm (bt s (i + 1 + k)) = true := by assumption
          have HBG : ¬ nBig s i := by unfold nBig; rw [HV2.out]; have := H45.out; omega
          rw [numM_wd HN.out HBG (by rw [HE2.out]; simp [isWd, hsm]), HE2.out]
          exact bodyPost_ret (v := .tuple #[.int .i64 0, .int .i64 0, .int .i64 ((i + 1 + k : Nat) : Int), .int .i64 10]) (by simp [results, Tryz.results44, go_sem]) rfl ⟨rfl, rfl⟩
        · have hsm : isSm (bt s (i + 1 + k)) = false := by assumption
          have HBG : ¬ nBig s i := by unfold nBig; rw [HV2.out]; have := H45.out; omega
          rw [numM_ok HN.out HBG (by rw [HE2.out]; simp [isWd, hsm, q]), HE2.out, show nN s i = -((dv s (i + 1) k : Nat) : Int) by unfold nN; rw [if_pos H45.out, HV2.out]]
          exact bodyPost_ret (v := .tuple #[.int .i64 (-((dv s (i + 1) k : Nat) : Int)), .int .i64 ((i + 1 + k : Nat) : Int), .int .i64 0, .int .i64 0]) (by simp [results, Tryz.results44, go_sem]) rfl ⟨rfl, rfl⟩
end Go.Proofs.YtfgbjghfkdmcjaaGreatDoor
