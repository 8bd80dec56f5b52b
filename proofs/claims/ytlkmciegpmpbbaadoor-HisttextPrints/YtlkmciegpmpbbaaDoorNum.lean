/-
  What strconv.Atoi comes to at a number's bytes.
-/
import Derived.Test.YtlkmciegpmpbbaaDoorLex
import Derived.Lib.Strings
namespace Go.Proofs.YtlkmciegpmpbbaaDoor
set_option linter.unusedVariables false
set_option linter.unusedSimpArgs false

/-- The bytes of a text from a place on. -/
def bl (s : ByteArray) : Nat → Nat → List UInt8
  | _, 0 => []
  | i, n + 1 => UInt8.ofNat (bt s i) :: bl s (i + 1) n

theorem bl_len (s : ByteArray) : ∀ n i, (bl s i n).length = n
  | 0, _ => rfl
  | n + 1, i => by simp [bl, bl_len s n (i + 1)]

theorem bl_get (s : ByteArray) : ∀ n i j, j < n → (bl s i n)[j]? = some (UInt8.ofNat (bt s (i + j)))
  | 0, _, _, h => by omega
  | n + 1, i, 0, _ => by simp [bl]
  | n + 1, i, j + 1, h => by
    have := bl_get s n (i + 1) j (by omega)
    simp only [bl, List.getElem?_cons_succ]
    rw [this, show i + 1 + j = i + (j + 1) by omega]

theorem extract_bl (s : ByteArray) (i e : Nat) (he : e ≤ s.size) : (s.extract i e).data.toList = bl s i (e - i) := by
  rw [Lib.extract_data]
  have hsz : s.data.toList.length = s.size := by simp
  apply List.ext_getElem?
  intro j
  by_cases hj : j < e - i
  · rw [bl_get s _ _ _ hj, List.getElem?_take, if_pos hj, List.getElem?_drop]
    have hlt : i + j < s.size := by omega
    have hl2 : i + j < s.data.toList.length := by omega
    rw [List.getElem?_eq_getElem hl2]
    congr 1
    have : bt s (i + j) = (s.data.toList[i + j]).toNat := by rw [← bt_get hlt]; rfl
    rw [this]
    simp
  · rw [List.getElem?_take, if_neg hj, List.getElem?_eq_none (by rw [bl_len]; omega)]

theorem toNat_bt (s : ByteArray) (i : Nat) : (UInt8.ofNat (bt s i)).toNat = bt s i := by
  have := bt_le s i
  rw [UInt8.toNat_ofNat']
  omega

theorem dv_mono (s : ByteArray) (f : Nat) : ∀ m k, dv s f k ≤ dv s f (k + m)
  | 0, k => Nat.le_refl _
  | m + 1, k => by
    have := dv_mono s f m k
    show dv s f k ≤ dv s f (k + m) * 10 + _
    omega

theorem parse_run (s : ByteArray) (f : Nat) : ∀ (n k : Nat), (∀ j, k ≤ j → j < k + n → isDg (bt s (f + j)) = true) → dv s f k < 18446744073709551616 →
    Lib.parseUint10 (dv s f k) (bl s (f + k) n) = if dv s f (k + n) < 18446744073709551616 then .ok (dv s f (k + n)) else .range
  | 0, k, _, hk => by simp only [bl, Lib.parseUint10, Nat.add_zero]; rw [if_pos hk]
  | n + 1, k, hd, hk => by
    have h0 := isDg_iff.1 (hd k (Nat.le_refl _) (by omega))
    have hm := dv_mono s f n (k + 1)
    have e1 : dv s f (k + 1) = dv s f k * 10 + (bt s (f + k) - 48) := rfl
    have e2 : k + (n + 1) = k + 1 + n := by omega
    simp only [bl, Lib.parseUint10]
    rw [toNat_bt, if_pos h0, e2]
    by_cases hb : 1844674407370955162 ≤ dv s f k
    · rw [if_pos hb, if_neg (by omega)]
    · rw [if_neg hb]
      by_cases hc : 18446744073709551616 ≤ dv s f k * 10 + (bt s (f + k) - 48)
      · rw [if_pos hc, if_neg (by omega)]
      · rw [if_neg hc, ← e1]
        have := parse_run s f n (k + 1) (fun j h1 h2 => hd j (by omega) (by omega)) (by omega)
        rw [← Nat.add_assoc] at this
        exact this

/-- All bytes from a number's first digit to its end are digits. -/
theorem nE_digits {s : ByteArray} {i : Nat} (h : ¬ nBad s i) (hs : bt s i = 45 ∨ isDg (bt s i) = true) : ∀ j, nF s i ≤ j → j < nE s i → isDg (bt s j) = true := by
  intro j h1 h2
  have hf : isDg (bt s (nF s i)) = true := by
    rw [isDg_iff]
    by_cases h45 : bt s i = 45
    · unfold nBad at h; omega
    · have e : nF s i = i := by unfold nF; rw [if_neg h45]
      rw [e]
      rcases hs with hs | hs
      · exact absurd hs h45
      · exact isDg_iff.1 hs
  by_cases hj : j = nF s i
  · rw [hj]; exact hf
  · unfold nE at h2
    by_cases h48 : bt s (nF s i) = 48
    · rw [if_pos h48] at h2; omega
    · rw [if_neg h48] at h2
      exact (dEnd_is s (nF s i + 1)).2.1 j (by omega) h2

theorem atoi_num {s : ByteArray} {i : Nat} (hi : i < s.size) (h : ¬ nBad s i) (hs : bt s i = 45 ∨ isDg (bt s i) = true) :
    Lib.atoiAll (s.extract i (nE s i)).data.toList = if nBig s i then .range else .ok (nN s i) := by
  obtain ⟨g1, g2, g3, g4⟩ := nE_gt h hi
  have hd := nE_digits h hs
  rw [extract_bl s i _ g3]
  obtain ⟨m, hm⟩ : ∃ m, nE s i - i = m + 1 := ⟨nE s i - i - 1, by omega⟩
  have hpar : Lib.parseMag (bl s (nF s i) (nE s i - nF s i)) = if nV s i < 18446744073709551616 then .ok (nV s i) else .range := by
    unfold Lib.parseMag
    rw [if_neg (by intro e; have := congrArg List.length e; rw [bl_len] at this; simp at this; omega)]
    have := parse_run s (nF s i) (nE s i - nF s i) 0 (fun j h1 h2 => hd (nF s i + j) (by omega) (by omega)) (by simp [dv])
    rw [Nat.zero_add, Nat.add_zero] at this
    exact this
  rw [hm]
  simp only [bl, Lib.atoiAll]
  rw [toNat_bt]
  by_cases h45 : bt s i = 45
  · have e : nF s i = i + 1 := by unfold nF; rw [if_pos h45]
    have e2 : nE s i - nF s i = m := by omega
    rw [e2, e] at hpar
    rw [if_pos (Or.inr h45), hpar]
    by_cases hv : nV s i < 18446744073709551616
    · rw [if_pos hv]
      simp only [h45, not_true, false_and, if_false, true_and, nBig, nN, if_true, or_false]
    · rw [if_neg hv, if_pos (by unfold nBig; omega)]
  · have e : nF s i = i := by unfold nF; rw [if_neg h45]
    have hdi : isDg (bt s i) = true := by rcases hs with hs | hs; exact absurd hs h45; exact hs
    have h43 : ¬ bt s i = 43 := by have := isDg_iff.1 hdi; omega
    rw [e, hm] at hpar
    simp only [bl] at hpar
    rw [if_neg (by omega), hpar]
    by_cases hv : nV s i < 18446744073709551616
    · rw [if_pos hv]
      simp only [h45, not_false_iff, true_and, false_and, if_false, nBig, nN, false_or]
    · rw [if_neg hv, if_pos (by unfold nBig; omega)]
end Go.Proofs.YtlkmciegpmpbbaaDoor
