/-
  A text's tokens, plain: runs of bytes, numbers, tokens, and what a whole text comes to.
  What strconv.Atoi comes to at a number's bytes.
  A number's decimal digits, and what they are scanned as.
  Blanks ahead of a text change nothing but places.
-/
import Derived.Lib.AtoiAll
import Derived.Lib.Strings
namespace Go.Proofs.YtkpomcimaofkkaaGreatDoor
set_option linter.unusedVariables false
set_option linter.unusedSimpArgs false

/-- The byte at a place of a text, 0 behind its end. -/
def bt (s : ByteArray) (i : Nat) : Nat := if h : i < s.size then (s[i]'h).toNat else 0
theorem bt_get {s : ByteArray} {i : Nat} (h : i < s.size) : (s[i]'h).toNat = bt s i := by simp [bt, h]
theorem bt_out {s : ByteArray} {i : Nat} (h : ¬ i < s.size) : bt s i = 0 := by simp [bt, h]
theorem bt_le (s : ByteArray) (i : Nat) : bt s i ≤ 255 := by
  unfold bt; split
  · rename_i h; have := (s[i]'h).toNat_lt; omega
  · omega

def isSm (c : Nat) : Bool := decide (97 ≤ c) && decide (c ≤ 122)
def isDg (c : Nat) : Bool := decide (48 ≤ c) && decide (c ≤ 57)
def isWd (c : Nat) : Bool := isSm c || isDg c
theorem isSm_iff {c : Nat} : isSm c = true ↔ 97 ≤ c ∧ c ≤ 122 := by simp [isSm]
theorem isDg_iff {c : Nat} : isDg c = true ↔ 48 ≤ c ∧ c ≤ 57 := by simp [isDg]
theorem isSm_no {c : Nat} : isSm c = false ↔ ¬ (97 ≤ c ∧ c ≤ 122) := by rw [← isSm_iff]; simp
theorem isDg_no {c : Nat} : isDg c = false ↔ ¬ (48 ≤ c ∧ c ≤ 57) := by rw [← isDg_iff]; simp

/-- e is where a run of bytes from i on ends. -/
def RunEnd (p : Nat → Bool) (s : ByteArray) (i e : Nat) : Prop := i ≤ e ∧ (∀ j, i ≤ j → j < e → p (bt s j) = true) ∧ p (bt s e) = false

theorem RunEnd.uniq {p : Nat → Bool} {s : ByteArray} {i e e' : Nat} (h : RunEnd p s i e) (h' : RunEnd p s i e') : e = e' := by
  rcases Nat.lt_trichotomy e e' with hl | hl | hl
  · have := h'.2.1 e h.1 hl; rw [h.2.2] at this; cases this
  · exact hl
  · have := h.2.1 e' h'.1 hl; rw [h'.2.2] at this; cases this

/-- Where a run ends. -/
def runEnd (p : Nat → Bool) (s : ByteArray) : Nat → Nat → Nat
  | 0, i => i
  | f + 1, i => if p (bt s i) then runEnd p s f (i + 1) else i

theorem runEnd_is (p : Nat → Bool) (s : ByteArray) (hp : p 0 = false) : ∀ (f i : Nat), s.size ≤ f + i → RunEnd p s i (runEnd p s f i)
  | 0, i, h => ⟨Nat.le_refl _, fun j h1 h2 => by simp only [runEnd] at h2; omega, by simp only [runEnd]; rw [bt_out (by omega)]; exact hp⟩
  | f + 1, i, h => by
    unfold runEnd
    by_cases hc : p (bt s i) = true
    · rw [if_pos hc]
      have ih := runEnd_is p s hp f (i + 1) (by omega)
      refine ⟨by have := ih.1; omega, fun j h1 h2 => ?_, ih.2.2⟩
      by_cases e : j = i
      · rw [e]; exact hc
      · exact ih.2.1 j (by omega) h2
    · rw [if_neg hc]
      exact ⟨Nat.le_refl _, fun j h1 h2 => by omega, by simpa using hc⟩

def wEnd (s : ByteArray) (i : Nat) : Nat := runEnd isWd s s.size i
def dEnd (s : ByteArray) (i : Nat) : Nat := runEnd isDg s s.size i
theorem wEnd_is (s : ByteArray) (i : Nat) : RunEnd isWd s i (wEnd s i) := runEnd_is isWd s rfl _ _ (by omega)
theorem dEnd_is (s : ByteArray) (i : Nat) : RunEnd isDg s i (dEnd s i) := runEnd_is isDg s rfl _ _ (by omega)
theorem RunEnd.le_size {p : Nat → Bool} {s : ByteArray} {i e : Nat} (h : RunEnd p s i e) (hp : p 0 = false) (hi : i ≤ s.size) : e ≤ s.size := by
  by_cases hc : e ≤ s.size
  · exact hc
  · have := h.2.1 s.size hi (by omega)
    rw [bt_out (by omega), hp] at this
    cases this

/-- The number that digits from f on spell. -/
def dv (s : ByteArray) (f : Nat) : Nat → Nat
  | 0 => 0
  | k + 1 => dv s f k * 10 + (bt s (f + k) - 48)

/-- Of a number at a place: where its digits begin, where they end, what they spell, whether that is too great. -/
def nF (s : ByteArray) (i : Nat) : Nat := if bt s i = 45 then i + 1 else i
def nE (s : ByteArray) (i : Nat) : Nat := if bt s (nF s i) = 48 then nF s i + 1 else dEnd s (nF s i + 1)
def nV (s : ByteArray) (i : Nat) : Nat := dv s (nF s i) (nE s i - nF s i)
abbrev nBig (s : ByteArray) (i : Nat) : Prop := (bt s i = 45 ∧ 9223372036854775808 < nV s i) ∨ (¬ bt s i = 45 ∧ 9223372036854775808 ≤ nV s i)
abbrev nBad (s : ByteArray) (i : Nat) : Prop := bt s i = 45 ∧ ¬ (49 ≤ bt s (nF s i) ∧ bt s (nF s i) ≤ 57)
def nN (s : ByteArray) (i : Nat) : Int := if bt s i = 45 then -(nV s i : Int) else nV s i


/-- A number at a place: where and why it is wrong, or it and the place behind it. -/
def numM (s : ByteArray) (i : Nat) : Except (Nat × Nat) (Int × Nat) :=
  if nBad s i then .error (i, 10)
  else if nBig s i then .error (i, 11)
  else if isWd (bt s (nE s i)) then .error (nE s i, 10)
  else .ok (nN s i, nE s i)

theorem numM_bad {s : ByteArray} {i : Nat} (h : nBad s i) : numM s i = .error (i, 10) := by unfold numM; rw [if_pos h]
theorem numM_big {s : ByteArray} {i : Nat} (h : ¬ nBad s i) (hb : nBig s i) : numM s i = .error (i, 11) := by unfold numM; rw [if_neg h, if_pos hb]
theorem numM_wd {s : ByteArray} {i : Nat} (h : ¬ nBad s i) (hb : ¬ nBig s i) (hw : isWd (bt s (nE s i)) = true) : numM s i = .error (nE s i, 10) := by unfold numM; rw [if_neg h, if_neg hb, if_pos hw]
theorem numM_ok {s : ByteArray} {i : Nat} (h : ¬ nBad s i) (hb : ¬ nBig s i) (hw : isWd (bt s (nE s i)) = false) : numM s i = .ok (nN s i, nE s i) := by unfold numM; rw [if_neg h, if_neg hb, if_neg (by simp [hw])]

/-- Where a number's digits are. -/
theorem nE_gt {s : ByteArray} {i : Nat} (h : ¬ nBad s i) (hi : i < s.size) : i ≤ nF s i ∧ nF s i < nE s i ∧ nE s i ≤ s.size ∧ nF s i < s.size := by
  unfold nBad at h
  have hlt : nF s i < s.size := by
    by_cases h45 : bt s i = 45
    · by_cases hc : nF s i < s.size
      · exact hc
      · rw [bt_out hc] at h; omega
    · unfold nF; rw [if_neg h45]; exact hi
  have hge : i ≤ nF s i := by unfold nF; split <;> omega
  unfold nE
  by_cases h48 : bt s (nF s i) = 48
  · rw [if_pos h48]; omega
  · rw [if_neg h48]
    have hr := dEnd_is s (nF s i + 1)
    exact ⟨hge, by have := hr.1; omega, hr.le_size rfl (by omega), hlt⟩

/-- A token, plain: its kind, place, text and number. -/
abbrev MTok := Int × Int × ByteArray × Int

/-- A token at a place that is no blank. -/
def tokM (s : ByteArray) (i : Nat) : Except (Nat × Nat) (MTok × Nat) :=
  if isSm (bt s i) then .ok ((1, i, s.extract i (wEnd s i), 0), wEnd s i)
  else if bt s i = 45 ∨ isDg (bt s i) = true then
    match numM s i with
    | .error e => .error e
    | .ok (n, e) => .ok ((2, i, s.extract i e, n), e)
  else if bt s i = 40 ∨ bt s i = 41 ∨ bt s i = 91 ∨ bt s i = 93 then .ok ((3, i, s.extract i (i + 1), 0), i + 1)
  else if bt s i = 10 then .ok ((4, i, s.extract i (i + 1), 0), i + 1)
  else .error (i, 10)

/-- A text from a place on, behind the tokens that there are. -/
def scanFrom (s : ByteArray) : Nat → Nat → List MTok → Except (Nat × Nat) (List MTok)
  | 0, _, acc => .ok acc
  | f + 1, i, acc =>
    if i < s.size then
      if bt s i = 32 then scanFrom s f (i + 1) acc
      else match tokM s i with
        | .error e => .error e
        | .ok (t, k) => scanFrom s f k (acc ++ [t])
    else .ok acc

/-- A whole text. -/
def scanM (s : ByteArray) : Except (Nat × Nat) (List MTok) := if 20000 < s.size then .error (0, 4) else scanFrom s s.size 0 []

theorem numM_gt {s : ByteArray} {i : Nat} {n : Int} {e : Nat} (h : numM s i = .ok (n, e)) (hi : i < s.size) : i < e ∧ e ≤ s.size := by
  unfold numM at h
  split at h
  · cases h
  · rename_i h1
    split at h
    · cases h
    · split at h
      · cases h
      · simp only [Except.ok.injEq, Prod.mk.injEq] at h
        have := nE_gt h1 hi
        omega

theorem tokM_gt {s : ByteArray} {i : Nat} {t : MTok} {k : Nat} (h : tokM s i = .ok (t, k)) (hi : i < s.size) : i < k ∧ k ≤ s.size := by
  unfold tokM at h
  split at h
  · rename_i hs
    simp only [Except.ok.injEq, Prod.mk.injEq] at h
    obtain ⟨_, rfl⟩ := h
    have hr := wEnd_is s i
    refine ⟨?_, hr.le_size rfl (by omega)⟩
    rcases Nat.lt_or_ge i (wEnd s i) with h | h
    · exact h
    · have e : wEnd s i = i := by have := hr.1; omega
      have := hr.2.2
      rw [e] at this
      simp [isWd, hs] at this
  · split at h
    · split at h
      · cases h
      · rename_i n e hn
        simp only [Except.ok.injEq, Prod.mk.injEq] at h
        obtain ⟨_, rfl⟩ := h
        exact numM_gt hn hi
    · split at h
      · simp only [Except.ok.injEq, Prod.mk.injEq] at h; omega
      · split at h
        · simp only [Except.ok.injEq, Prod.mk.injEq] at h; omega
        · cases h

/-- More fuel changes nothing. -/
theorem scanFrom_fuel (s : ByteArray) : ∀ (f g i : Nat) (acc : List MTok), s.size ≤ f + i → s.size ≤ g + i → scanFrom s f i acc = scanFrom s g i acc
  | 0, 0, _, _, _, _ => rfl
  | 0, g + 1, i, acc, hf, _ => by simp only [scanFrom]; rw [if_neg (by omega)]
  | f + 1, 0, i, acc, _, hg => by simp only [scanFrom]; rw [if_neg (by omega)]
  | f + 1, g + 1, i, acc, hf, hg => by
    simp only [scanFrom]
    by_cases hi : i < s.size
    · rw [if_pos hi, if_pos hi]
      by_cases hb : bt s i = 32
      · rw [if_pos hb, if_pos hb]
        exact scanFrom_fuel s f g (i + 1) acc (by omega) (by omega)
      · rw [if_neg hb, if_neg hb]
        cases ht : tokM s i with
        | error e => rfl
        | ok q =>
          obtain ⟨t, k⟩ := q
          have := tokM_gt ht hi
          exact scanFrom_fuel s f g k _ (by omega) (by omega)
    · rw [if_neg hi, if_neg hi]

/-- What is left from a place on. -/
def left (s : ByteArray) (i : Nat) (acc : List MTok) : Except (Nat × Nat) (List MTok) := scanFrom s (s.size - i) i acc
theorem left_end {s : ByteArray} {i : Nat} (acc : List MTok) (h : ¬ i < s.size) : left s i acc = .ok acc := by
  unfold left; rw [show s.size - i = 0 by omega]; rfl
theorem left_blank {s : ByteArray} {i : Nat} (acc : List MTok) (h : i < s.size) (hb : bt s i = 32) : left s i acc = left s (i + 1) acc := by
  unfold left; rw [show s.size - i = (s.size - (i + 1)) + 1 by omega]; simp only [scanFrom]; rw [if_pos h, if_pos hb]
theorem left_bad {s : ByteArray} {i : Nat} (acc : List MTok) {e : Nat × Nat} (h : i < s.size) (hb : ¬ bt s i = 32) (ht : tokM s i = .error e) : left s i acc = .error e := by
  unfold left; rw [show s.size - i = (s.size - (i + 1)) + 1 by omega]; simp only [scanFrom]; rw [if_pos h, if_neg hb, ht]
theorem left_tok {s : ByteArray} {i : Nat} (acc : List MTok) {t : MTok} {k : Nat} (h : i < s.size) (hb : ¬ bt s i = 32) (ht : tokM s i = .ok (t, k)) : left s i acc = left s k (acc ++ [t]) := by
  have hk := tokM_gt ht h
  unfold left; rw [show s.size - i = (s.size - (i + 1)) + 1 by omega]; simp only [scanFrom]; rw [if_pos h, if_neg hb, ht]
  exact scanFrom_fuel s _ _ k _ (by omega) (by omega)
theorem scanM_left {s : ByteArray} (h : s.size ≤ 20000) : scanM s = left s 0 [] := by unfold scanM left; rw [if_neg (by omega)]; rfl
end Go.Proofs.YtkpomcimaofkkaaGreatDoor
namespace Go.Proofs.YtkpomcimaofkkaaGreatDoor
set_option linter.unusedVariables false
set_option linter.unusedSimpArgs false

/-- The bytes of a text from a place on. -/
def bl (s : ByteArray) : Nat → Nat → List UInt8
  | _, 0 => []
  | i, n + 1 => UInt8.ofNat (bt s i) :: bl s (i + 1) n

theorem bl_len (s : ByteArray) : ∀ n i, (bl s i n).length = n
  | 0, _ => rfl
  | n + 1, i => by simp [bl, bl_len s n (i + 1)]

theorem bl_get (s : ByteArray) : ∀ n i j, j < n → (bl s i n)[j]? = some (UInt8.ofNat (bt s (i + j)))
  | 0, _, _, h => by omega
  | n + 1, i, 0, _ => by simp [bl]
  | n + 1, i, j + 1, h => by
    have := bl_get s n (i + 1) j (by omega)
    simp only [bl, List.getElem?_cons_succ]
    rw [this, show i + 1 + j = i + (j + 1) by omega]

theorem extract_bl (s : ByteArray) (i e : Nat) (he : e ≤ s.size) : (s.extract i e).data.toList = bl s i (e - i) := by
  rw [Lib.extract_data]
  have hsz : s.data.toList.length = s.size := by simp
  apply List.ext_getElem?
  intro j
  by_cases hj : j < e - i
  · rw [bl_get s _ _ _ hj, List.getElem?_take, if_pos hj, List.getElem?_drop]
    have hlt : i + j < s.size := by omega
    have hl2 : i + j < s.data.toList.length := by omega
    rw [List.getElem?_eq_getElem hl2]
    congr 1
    have : bt s (i + j) = (s.data.toList[i + j]).toNat := by rw [← bt_get hlt]; rfl
    rw [this]
    simp
  · rw [List.getElem?_take, if_neg hj, List.getElem?_eq_none (by rw [bl_len]; omega)]

theorem toNat_bt (s : ByteArray) (i : Nat) : (UInt8.ofNat (bt s i)).toNat = bt s i := by
  have := bt_le s i
  rw [UInt8.toNat_ofNat']
  omega

theorem dv_mono (s : ByteArray) (f : Nat) : ∀ m k, dv s f k ≤ dv s f (k + m)
  | 0, k => Nat.le_refl _
  | m + 1, k => by
    have := dv_mono s f m k
    show dv s f k ≤ dv s f (k + m) * 10 + _
    omega

theorem parse_run (s : ByteArray) (f : Nat) : ∀ (n k : Nat), (∀ j, k ≤ j → j < k + n → isDg (bt s (f + j)) = true) → dv s f k < 18446744073709551616 →
    Lib.parseUint10 (dv s f k) (bl s (f + k) n) = if dv s f (k + n) < 18446744073709551616 then .ok (dv s f (k + n)) else .range
  | 0, k, _, hk => by simp only [bl, Lib.parseUint10, Nat.add_zero]; rw [if_pos hk]
  | n + 1, k, hd, hk => by
    have h0 := isDg_iff.1 (hd k (Nat.le_refl _) (by omega))
    have hm := dv_mono s f n (k + 1)
    have e1 : dv s f (k + 1) = dv s f k * 10 + (bt s (f + k) - 48) := rfl
    have e2 : k + (n + 1) = k + 1 + n := by omega
    simp only [bl, Lib.parseUint10]
    rw [toNat_bt, if_pos h0, e2]
    by_cases hb : 1844674407370955162 ≤ dv s f k
    · rw [if_pos hb, if_neg (by omega)]
    · rw [if_neg hb]
      by_cases hc : 18446744073709551616 ≤ dv s f k * 10 + (bt s (f + k) - 48)
      · rw [if_pos hc, if_neg (by omega)]
      · rw [if_neg hc, ← e1]
        have := parse_run s f n (k + 1) (fun j h1 h2 => hd j (by omega) (by omega)) (by omega)
        rw [← Nat.add_assoc] at this
        exact this

/-- All bytes from a number's first digit to its end are digits. -/
theorem nE_digits {s : ByteArray} {i : Nat} (h : ¬ nBad s i) (hs : bt s i = 45 ∨ isDg (bt s i) = true) : ∀ j, nF s i ≤ j → j < nE s i → isDg (bt s j) = true := by
  intro j h1 h2
  have hf : isDg (bt s (nF s i)) = true := by
    rw [isDg_iff]
    by_cases h45 : bt s i = 45
    · unfold nBad at h; omega
    · have e : nF s i = i := by unfold nF; rw [if_neg h45]
      rw [e]
      rcases hs with hs | hs
      · exact absurd hs h45
      · exact isDg_iff.1 hs
  by_cases hj : j = nF s i
  · rw [hj]; exact hf
  · unfold nE at h2
    by_cases h48 : bt s (nF s i) = 48
    · rw [if_pos h48] at h2; omega
    · rw [if_neg h48] at h2
      exact (dEnd_is s (nF s i + 1)).2.1 j (by omega) h2

theorem atoi_num {s : ByteArray} {i : Nat} (hi : i < s.size) (h : ¬ nBad s i) (hs : bt s i = 45 ∨ isDg (bt s i) = true) :
    Lib.atoiAll (s.extract i (nE s i)).data.toList = if nBig s i then .range else .ok (nN s i) := by
  obtain ⟨g1, g2, g3, g4⟩ := nE_gt h hi
  have hd := nE_digits h hs
  rw [extract_bl s i _ g3]
  obtain ⟨m, hm⟩ : ∃ m, nE s i - i = m + 1 := ⟨nE s i - i - 1, by omega⟩
  have hpar : Lib.parseMag (bl s (nF s i) (nE s i - nF s i)) = if nV s i < 18446744073709551616 then .ok (nV s i) else .range := by
    unfold Lib.parseMag
    rw [if_neg (by intro e; have := congrArg List.length e; rw [bl_len] at this; simp at this; omega)]
    have := parse_run s (nF s i) (nE s i - nF s i) 0 (fun j h1 h2 => hd (nF s i + j) (by omega) (by omega)) (by simp [dv])
    rw [Nat.zero_add, Nat.add_zero] at this
    exact this
  rw [hm]
  simp only [bl, Lib.atoiAll]
  rw [toNat_bt]
  by_cases h45 : bt s i = 45
  · have e : nF s i = i + 1 := by unfold nF; rw [if_pos h45]
    have e2 : nE s i - nF s i = m := by omega
    rw [e2, e] at hpar
    rw [if_pos (Or.inr h45), hpar]
    by_cases hv : nV s i < 18446744073709551616
    · rw [if_pos hv]
      simp only [h45, not_true, false_and, if_false, true_and, nBig, nN, if_true, or_false]
    · rw [if_neg hv, if_pos (by unfold nBig; omega)]
  · have e : nF s i = i := by unfold nF; rw [if_neg h45]
    have hdi : isDg (bt s i) = true := by rcases hs with hs | hs; exact absurd hs h45; exact hs
    have h43 : ¬ bt s i = 43 := by have := isDg_iff.1 hdi; omega
    rw [e, hm] at hpar
    simp only [bl] at hpar
    rw [if_neg (by omega), hpar]
    by_cases hv : nV s i < 18446744073709551616
    · rw [if_pos hv]
      simp only [h45, not_false_iff, true_and, false_and, if_false, nBig, nN, false_or]
    · rw [if_neg hv, if_pos (by unfold nBig; omega)]
end Go.Proofs.YtkpomcimaofkkaaGreatDoor
namespace Go.Proofs.YtkpomcimaofkkaaGreatDoor
set_option linter.unusedVariables false
set_option linter.unusedSimpArgs false

/-- The last digit. -/
def dg (v : Nat) : UInt8 := UInt8.ofNat (48 + v % 10)
theorem dg_toNat (v : Nat) : (dg v).toNat = 48 + v % 10 := by
  unfold dg; rw [UInt8.toNat_ofNat']; omega

/-- Digits ahead of those that there are. -/
def decAcc : Nat → Nat → List UInt8 → List UInt8
  | 0, _, acc => acc
  | f + 1, v, acc => if v = 0 ∧ acc ≠ [] then acc else decAcc f (v / 10) (dg v :: acc)
def dec (v : Nat) : List UInt8 := decAcc 20 v []

theorem decAcc_end (f : Nat) {acc : List UInt8} (h : acc ≠ []) : decAcc f 0 acc = acc := by
  cases f with
  | zero => rfl
  | succ f => simp [decAcc, h]

/-- What digits spell. -/
def val (l : List UInt8) : Nat := l.foldl (fun a b => a * 10 + (b.toNat - 48)) 0
theorem foldl_val (l : List UInt8) : ∀ a, l.foldl (fun a b => a * 10 + (b.toNat - 48)) a = a * 10 ^ l.length + val l := by
  induction l with
  | nil => intro a; simp [val]
  | cons b l ih =>
    intro a
    have e : val (b :: l) = (b.toNat - 48) * 10 ^ l.length + val l := by
      unfold val; rw [List.foldl_cons, ih]; simp [val]
    rw [List.foldl_cons, ih, e, List.length_cons, Nat.pow_succ, Nat.add_mul, Nat.mul_assoc, Nat.mul_comm 10 (10 ^ l.length)]
    omega
theorem val_cons (b : UInt8) (l : List UInt8) : val (b :: l) = (b.toNat - 48) * 10 ^ l.length + val l := by
  show List.foldl _ 0 (b :: l) = _
  rw [List.foldl_cons, foldl_val]; simp
theorem val_snoc (l : List UInt8) (b : UInt8) : val (l ++ [b]) = val l * 10 + (b.toNat - 48) := by simp [val, List.foldl_append]

theorem decAcc_val : ∀ (f v : Nat) (acc : List UInt8), v < 10 ^ f → val (decAcc f v acc) = v * 10 ^ acc.length + val acc
  | 0, v, acc, h => by simp at h; subst h; simp [decAcc]
  | f + 1, v, acc, h => by
    unfold decAcc
    by_cases hc : v = 0 ∧ acc ≠ []
    · rw [if_pos hc, hc.1]; simp
    · rw [if_neg hc, decAcc_val f (v / 10) _ (by rw [Nat.pow_succ] at h; omega), val_cons, dg_toNat, List.length_cons, Nat.pow_succ]
      have e : v / 10 * (10 ^ acc.length * 10) + (48 + v % 10 - 48) * 10 ^ acc.length = v * 10 ^ acc.length := by
        rw [show 48 + v % 10 - 48 = v % 10 by omega, Nat.mul_comm (10 ^ acc.length) 10, ← Nat.mul_assoc, ← Nat.add_mul]
        congr 1; omega
      omega

theorem decAcc_digits : ∀ (f v : Nat) (acc : List UInt8), (∀ b ∈ acc, isDg b.toNat = true) → ∀ b ∈ decAcc f v acc, isDg b.toNat = true
  | 0, _, _, h => h
  | f + 1, v, acc, h => by
    unfold decAcc
    split
    · exact h
    · exact decAcc_digits f _ _ (fun b hb => by
        rcases List.mem_cons.1 hb with rfl | hb
        · rw [isDg_iff, dg_toNat]; omega
        · exact h b hb)

theorem decAcc_len : ∀ (f v : Nat) (acc : List UInt8), v < 10 ^ f → acc.length ≤ (decAcc f v acc).length ∧ (decAcc f v acc).length ≤ acc.length + f
  | 0, _, acc, _ => by simp [decAcc]
  | f + 1, v, acc, h => by
    unfold decAcc
    split
    · omega
    · have := decAcc_len f (v / 10) (dg v :: acc) (by rw [Nat.pow_succ] at h; omega)
      simp at this
      omega

/-- The first digit of a number that is not 0 is none. -/
theorem decAcc_head : ∀ (f v : Nat) (acc : List UInt8), v ≠ 0 → v < 10 ^ f → ∃ b r, decAcc f v acc = b :: r ∧ 49 ≤ b.toNat
  | 0, v, acc, h0, h => by simp at h; omega
  | f + 1, v, acc, h0, h => by
    unfold decAcc
    rw [if_neg (by simp [h0])]
    by_cases hd : v / 10 = 0
    · rw [hd, decAcc_end f (by simp)]
      exact ⟨_, _, rfl, by rw [dg_toNat]; omega⟩
    · exact decAcc_head f (v / 10) _ hd (by rw [Nat.pow_succ] at h; omega)

theorem dec_zero : dec 0 = [48] := by decide
theorem dec_val {v : Nat} (h : v < 10 ^ 20) : val (dec v) = v := by unfold dec; rw [decAcc_val 20 v [] h]; simp [val]
theorem dec_digits (v : Nat) : ∀ b ∈ dec v, isDg b.toNat = true := decAcc_digits 20 v [] (by simp)
theorem dec_head {v : Nat} (h0 : v ≠ 0) (h : v < 10 ^ 20) : ∃ b r, dec v = b :: r ∧ 49 ≤ b.toNat := decAcc_head 20 v [] h0 h
theorem dec_len {v : Nat} (h : v < 10 ^ 20) : 1 ≤ (dec v).length ∧ (dec v).length ≤ 20 := by
  have h1 := decAcc_len 20 v [] h
  by_cases h0 : v = 0
  · subst h0; simp [dec_zero]
  · obtain ⟨b, r, e, _⟩ := dec_head h0 h
    refine ⟨by rw [e]; simp, ?_⟩
    have : (dec v).length = (decAcc 20 v []).length := rfl
    simp at h1
    omega

/-- Bytes of a text by its list. -/
theorem bt_list {s : ByteArray} {i : Nat} {b : UInt8} (h : s.data.toList[i]? = some b) : bt s i = b.toNat := by
  have hi : i < s.data.toList.length := (List.getElem?_eq_some_iff.1 h).1
  have hi' : i < s.size := by simpa using hi
  rw [← bt_get hi']
  have : s.data.toList[i] = b := (List.getElem?_eq_some_iff.1 h).2
  rw [← this]; rfl

theorem dv_val (s : ByteArray) (f : Nat) (l : List UInt8) (h : ∀ j b, l[j]? = some b → bt s (f + j) = b.toNat) : ∀ k, k ≤ l.length → dv s f k = val (l.take k)
  | 0, _ => by simp [dv, val]
  | k + 1, hk => by
    have ih := dv_val s f l h k (by omega)
    have hb := h k l[k] (List.getElem?_eq_getElem (by omega))
    rw [List.take_succ_eq_append_getElem (by omega), val_snoc, ← ih, ← hb]
    rfl

/-- A text whose bytes from a place on are a number's digits, and behind them nothing of a word. -/
theorem num_at {s : ByteArray} {i p v : Nat} (hv : v < 10 ^ 20) (hp : nF s i = p) (hl : ∀ j b, (dec v)[j]? = some b → bt s (p + j) = b.toNat) (he : isDg (bt s (p + (dec v).length)) = false) :
    nE s i = p + (dec v).length ∧ nV s i = v := by
  have hlen := dec_len hv
  have hdig : ∀ j, j < (dec v).length → isDg (bt s (p + j)) = true := fun j hj => by
    rw [hl j (dec v)[j] (List.getElem?_eq_getElem hj)]
    exact dec_digits v _ (List.getElem_mem hj)
  have hE : nE s i = p + (dec v).length := by
    unfold nE
    rw [hp]
    by_cases h0 : v = 0
    · subst h0
      have := hl 0 48 (by simp [dec_zero])
      rw [Nat.add_zero] at this
      rw [if_pos (by rw [this]; rfl)]
      simp [dec_zero]
    · obtain ⟨b, r, e, hb⟩ := dec_head h0 hv
      have := hl 0 b (by simp [e])
      rw [Nat.add_zero] at this
      rw [if_neg (by omega)]
      refine (dEnd_is s (p + 1)).uniq ⟨by omega, fun j h1 h2 => ?_, he⟩
      have := hdig (j - p) (by omega)
      rwa [show p + (j - p) = j by omega] at this
  refine ⟨hE, ?_⟩
  unfold nV
  rw [hE, hp, show p + (dec v).length - p = (dec v).length by omega, dv_val s p (dec v) hl _ (Nat.le_refl _), List.take_length, dec_val hv]

/-- A number's text: a minus, if it is below 0, and its digits. -/
def decimal (n : Int) : List UInt8 := if 0 ≤ n then dec n.toNat else 45 :: dec (-n).toNat

theorem extract_all (s : ByteArray) : s.extract 0 s.size = s := by
  have e := Lib.extract_data s 0 s.size
  rw [ByteArray.ext_iff, ← Array.toList_inj, e, Nat.sub_zero, List.drop_zero, List.take_of_length_le (by simp)]

theorem scan_decimal {s : ByteArray} {n : Int} (h0 : -9223372036854775808 ≤ n) (h1 : n ≤ 9223372036854775807) (hs : s.data.toList = decimal n) : scanM s = .ok [((2 : Int), (0 : Int), s, n)] := by
  have hsz : s.size = (decimal n).length := by rw [← hs]; simp
  have hend : ∀ k, s.size ≤ k → bt s k = 0 := fun k hk => bt_out (by omega)
  by_cases hn : 0 ≤ n
  · have e : decimal n = dec n.toNat := by unfold decimal; rw [if_pos hn]
    have hv : n.toNat < 10 ^ 20 := by omega
    have hlen := dec_len hv
    rw [e] at hs hsz
    have hl : ∀ j b, (dec n.toNat)[j]? = some b → bt s (0 + j) = b.toNat := fun j b hj => by rw [Nat.zero_add]; exact bt_list (by rw [hs]; exact hj)
    have hd0 : isDg (bt s 0) = true := by
      rw [← Nat.zero_add 0, hl 0 (dec n.toNat)[0] (List.getElem?_eq_getElem (by omega))]
      exact dec_digits _ _ (List.getElem_mem _)
    have hdv := isDg_iff.1 hd0
    have h45 : ¬ bt s 0 = 45 := by omega
    have hp : nF s 0 = 0 := by unfold nF; rw [if_neg h45]
    obtain ⟨hE, hV⟩ := num_at hv hp hl (by rw [hend _ (by omega)]; rfl)
    rw [Nat.zero_add, ← hsz] at hE
    have hnum : numM s 0 = .ok (n, s.size) := by
      rw [numM_ok (fun h => h45 h.1) (by unfold nBig; rw [hV]; omega) (by rw [hE, hend _ (Nat.le_refl _)]; rfl), hE]
      congr 2
      unfold nN; rw [if_neg h45, hV]; omega
    have htok : tokM s 0 = .ok (((2 : Int), ((0 : Nat) : Int), s.extract 0 s.size, n), s.size) := by
      unfold tokM; rw [if_neg (by simp [isSm]; omega), if_pos (.inr hd0), hnum]
    rw [scanM_left (by omega), left_tok [] (by omega) (by omega) htok, left_end _ (by omega), extract_all]
    rfl
  · have e : decimal n = 45 :: dec (-n).toNat := by unfold decimal; rw [if_neg hn]
    have hv : (-n).toNat < 10 ^ 20 := by omega
    have hlen := dec_len hv
    rw [e] at hs hsz
    rw [List.length_cons] at hsz
    have hb0 : bt s 0 = 45 := bt_list (b := 45) (by rw [hs]; rfl)
    have hl : ∀ j b, (dec (-n).toNat)[j]? = some b → bt s (1 + j) = b.toNat := fun j b hj => bt_list (by rw [hs, Nat.add_comm, List.getElem?_cons_succ]; exact hj)
    have hp : nF s 0 = 1 := by unfold nF; rw [if_pos hb0]
    obtain ⟨b, r, eb, hb⟩ := dec_head (show (-n).toNat ≠ 0 by omega) hv
    have h1b : bt s 1 = b.toNat := by have := hl 0 b (by simp [eb]); simpa using this
    have hdb := isDg_iff.1 (dec_digits (-n).toNat b (by rw [eb]; simp))
    have hnb : ¬ nBad s 0 := by unfold nBad; rw [hp]; omega
    obtain ⟨hE, hV⟩ := num_at hv hp hl (by rw [hend _ (by omega)]; rfl)
    rw [show 1 + (dec (-n).toNat).length = s.size by omega] at hE
    have hnum : numM s 0 = .ok (n, s.size) := by
      rw [numM_ok hnb (by unfold nBig; rw [hV]; omega) (by rw [hE, hend _ (Nat.le_refl _)]; rfl), hE]
      congr 2
      unfold nN; rw [if_pos hb0, hV]; omega
    have htok : tokM s 0 = .ok (((2 : Int), ((0 : Nat) : Int), s.extract 0 s.size, n), s.size) := by
      unfold tokM; rw [if_neg (by rw [hb0]; decide), if_pos (.inl hb0), hnum]
    rw [scanM_left (by omega), left_tok [] (by omega) (by omega) htok, left_end _ (by omega), extract_all]
    rfl

theorem dec_big : dec 9223372036854775808 = [57, 50, 50, 51, 51, 55, 50, 48, 51, 54, 56, 53, 52, 55, 55, 53, 56, 48, 56] := by decide

/-- One more than the greatest number. -/
theorem scan_big {s : ByteArray} {r : List UInt8} (hs : s.data.toList = dec 9223372036854775808 ++ 32 :: r) (hr : r.length ≤ 1000) : scanM s = .error (0, 11) := by
  have hlen : (dec 9223372036854775808).length = 19 := by rw [dec_big]; rfl
  have hsz : s.size = 20 + r.length := by
    have : s.size = s.data.toList.length := by simp
    rw [this, hs]; simp [hlen]; omega
  have hl : ∀ j b, (dec 9223372036854775808)[j]? = some b → bt s (0 + j) = b.toNat := fun j b hj => by
    rw [Nat.zero_add]
    refine bt_list ?_
    rw [hs, List.getElem?_append_left (List.getElem?_eq_some_iff.1 hj).1]
    exact hj
  have hb0 : bt s 0 = 57 := by have := hl 0 57 (by rw [dec_big]; rfl); simpa using this
  have hb19 : bt s 19 = 32 := bt_list (b := 32) (by rw [hs, List.getElem?_append_right (by omega), hlen]; rfl)
  have hp : nF s 0 = 0 := by unfold nF; rw [if_neg (by omega)]
  obtain ⟨hE, hV⟩ := num_at (v := 9223372036854775808) (by decide) hp hl (by rw [hlen, Nat.zero_add, hb19]; rfl)
  have hnum : numM s 0 = .error (0, 11) := numM_big (fun h => by have := h.1; omega) (by unfold nBig; rw [hV]; omega)
  have htok : tokM s 0 = .error (0, 11) := by
    unfold tokM; rw [if_neg (by rw [hb0]; decide), if_pos (.inr (by rw [hb0]; decide)), hnum]
  rw [scanM_left (by omega), left_bad [] (by omega) (by omega) htok]
end Go.Proofs.YtkpomcimaofkkaaGreatDoor
namespace Go.Proofs.YtkpomcimaofkkaaGreatDoor
set_option linter.unusedVariables false
set_option linter.unusedSimpArgs false

section
variable {p s : ByteArray}

theorem bt_app (i : Nat) : bt (p ++ s) (p.size + i) = bt s i := by
  have hsz : (p ++ s).size = p.size + s.size := ByteArray.size_append
  by_cases h : i < s.size
  · have h2 : p.size + i < (p ++ s).size := by omega
    rw [← bt_get h, ← bt_get h2]
    congr 1
    rw [ByteArray.getElem_append_right (by omega)]
    congr 1
    omega
  · rw [bt_out h, bt_out (by omega)]

theorem bt_pre (i : Nat) (h : i < p.size) : bt (p ++ s) i = bt p i := by
  have hsz : (p ++ s).size = p.size + s.size := ByteArray.size_append
  have h2 : i < (p ++ s).size := by omega
  rw [← bt_get h, ← bt_get h2]
  congr 1
  rw [ByteArray.getElem_append_left h]

theorem RunEnd.app {q : Nat → Bool} {i e : Nat} (h : RunEnd q s i e) : RunEnd q (p ++ s) (p.size + i) (p.size + e) := by
  refine ⟨by have := h.1; omega, fun j h1 h2 => ?_, by rw [bt_app]; exact h.2.2⟩
  have := h.2.1 (j - p.size) (by omega) (by omega)
  rw [← bt_app (p := p), show p.size + (j - p.size) = j by omega] at this
  exact this

theorem wEnd_app (i : Nat) : wEnd (p ++ s) (p.size + i) = p.size + wEnd s i := (wEnd_is _ _).uniq (wEnd_is s i).app
theorem dEnd_app (i : Nat) : dEnd (p ++ s) (p.size + i) = p.size + dEnd s i := (dEnd_is _ _).uniq (dEnd_is s i).app
theorem dv_app (f : Nat) : ∀ k, dv (p ++ s) (p.size + f) k = dv s f k
  | 0 => rfl
  | k + 1 => by simp only [dv]; rw [dv_app f k, Nat.add_assoc, bt_app]
theorem nF_app (i : Nat) : nF (p ++ s) (p.size + i) = p.size + nF s i := by
  unfold nF; rw [bt_app]; split <;> omega
theorem nE_app (i : Nat) : nE (p ++ s) (p.size + i) = p.size + nE s i := by
  unfold nE; rw [nF_app, bt_app]
  split
  · omega
  · rw [Nat.add_assoc, dEnd_app]
theorem nV_app (i : Nat) : nV (p ++ s) (p.size + i) = nV s i := by
  unfold nV; rw [nF_app, nE_app, dv_app]; congr 1; omega
theorem nBad_app (i : Nat) : nBad (p ++ s) (p.size + i) ↔ nBad s i := by unfold nBad; rw [nF_app, bt_app, bt_app]
theorem nBig_app (i : Nat) : nBig (p ++ s) (p.size + i) ↔ nBig s i := by unfold nBig; rw [nV_app, bt_app]
theorem nN_app (i : Nat) : nN (p ++ s) (p.size + i) = nN s i := by unfold nN; rw [nV_app, bt_app]

theorem numM_app (i : Nat) : numM (p ++ s) (p.size + i) = (match numM s i with | .ok (n, e) => .ok (n, p.size + e) | .error (a, y) => .error (p.size + a, y)) := by
  by_cases h1 : nBad s i
  · rw [numM_bad h1, numM_bad (nBad_app i |>.2 h1)]
  · have h1' : ¬ nBad (p ++ s) (p.size + i) := fun h => h1 ((nBad_app i).1 h)
    by_cases h2 : nBig s i
    · rw [numM_big h1 h2, numM_big h1' ((nBig_app i).2 h2)]
    · have h2' : ¬ nBig (p ++ s) (p.size + i) := fun h => h2 ((nBig_app i).1 h)
      cases h3 : isWd (bt s (nE s i)) with
      | true => rw [numM_wd h1 h2 h3, numM_wd h1' h2' (by rw [nE_app, bt_app]; exact h3), nE_app]
      | false => rw [numM_ok h1 h2 h3, numM_ok h1' h2' (by rw [nE_app, bt_app]; exact h3), nE_app, nN_app]

theorem extract_app (i e : Nat) (h : e ≤ s.size) : (p ++ s).extract (p.size + i) (p.size + e) = s.extract i e := by
  have hsz : (p ++ s).size = p.size + s.size := ByteArray.size_append
  rw [ByteArray.ext_iff, ← Array.toList_inj, extract_bl _ _ _ (by omega), extract_bl _ _ _ h, show p.size + e - (p.size + i) = e - i by omega]
  have : ∀ n i, bl (p ++ s) (p.size + i) n = bl s i n := fun n => by
    induction n with
    | zero => intro i; rfl
    | succ n ih => intro i; simp only [bl]; rw [bt_app, Nat.add_assoc, ih]
  exact this _ _

/-- A token so many places on. -/
def shT (k : Nat) (t : MTok) : MTok := (t.1, t.2.1 + k, t.2.2.1, t.2.2.2)
def shR (k : Nat) : Except (Nat × Nat) (List MTok) → Except (Nat × Nat) (List MTok)
  | .ok l => .ok (l.map (shT k))
  | .error (a, y) => .error (k + a, y)

theorem tokM_app (i : Nat) (hi : i < s.size) : tokM (p ++ s) (p.size + i) = (match tokM s i with | .ok (t, k) => .ok (shT p.size t, p.size + k) | .error (a, y) => .error (p.size + a, y)) := by
  unfold tokM
  rw [bt_app]
  by_cases h1 : isSm (bt s i) = true
  · rw [if_pos h1, if_pos h1, wEnd_app, extract_app _ _ ((wEnd_is s i).le_size rfl (by omega))]
    simp [shT, Int.add_comm]
  · rw [if_neg h1, if_neg h1]
    by_cases h2 : bt s i = 45 ∨ isDg (bt s i) = true
    · rw [if_pos h2, if_pos h2, numM_app]
      cases hn : numM s i with
      | error q => rfl
      | ok q =>
        obtain ⟨n, e⟩ := q
        have := numM_gt hn hi
        simp only [shT]
        rw [extract_app _ _ this.2]
        simp [Int.add_comm]
    · rw [if_neg h2, if_neg h2]
      by_cases h3 : bt s i = 40 ∨ bt s i = 41 ∨ bt s i = 91 ∨ bt s i = 93
      · rw [if_pos h3, if_pos h3, Nat.add_assoc, extract_app _ _ (by omega)]
        simp [shT, Int.add_comm]
      · rw [if_neg h3, if_neg h3]
        by_cases h4 : bt s i = 10
        · rw [if_pos h4, if_pos h4, Nat.add_assoc, extract_app _ _ (by omega)]
          simp [shT, Int.add_comm]
        · rw [if_neg h4, if_neg h4]

theorem left_app : ∀ (n i : Nat) (acc : List MTok), s.size - i ≤ n → left (p ++ s) (p.size + i) (acc.map (shT p.size)) = shR p.size (left s i acc)
  | n, i, acc, h => by
    have hsz : (p ++ s).size = p.size + s.size := ByteArray.size_append
    by_cases hi : i < s.size
    · cases n with
      | zero => omega
      | succ n =>
        have hi' : p.size + i < (p ++ s).size := by omega
        by_cases hb : bt s i = 32
        · rw [left_blank acc hi hb, left_blank _ hi' (by rw [bt_app]; exact hb), Nat.add_assoc, left_app n (i + 1) acc (by omega)]
        · have hb' : ¬ bt (p ++ s) (p.size + i) = 32 := by rw [bt_app]; exact hb
          cases ht : tokM s i with
          | error q =>
            obtain ⟨a, y⟩ := q
            have ht' := tokM_app (p := p) i hi
            rw [ht] at ht'
            rw [left_bad acc hi hb ht, left_bad _ hi' hb' ht']
            rfl
          | ok q =>
            obtain ⟨t, k⟩ := q
            have ht' := tokM_app (p := p) i hi
            rw [ht] at ht'
            have hk := tokM_gt ht hi
            rw [left_tok acc hi hb ht, left_tok _ hi' hb' ht', ← left_app n k (acc ++ [t]) (by omega)]
            simp
    · rw [left_end acc hi, left_end _ (by omega)]
      rfl

theorem left_blanks (hp : ∀ i, i < p.size → bt p i = 32) : ∀ j, j ≤ p.size → left (p ++ s) 0 [] = left (p ++ s) j []
  | 0, _ => rfl
  | j + 1, h => by
    have hsz : (p ++ s).size = p.size + s.size := ByteArray.size_append
    rw [left_blanks hp j (by omega), left_blank [] (by omega) (by rw [bt_pre j (by omega)]; exact hp j (by omega))]

/-- Blanks ahead of a text. -/
theorem scanM_blanks (hp : ∀ i, i < p.size → bt p i = 32) (h : p.size + s.size ≤ 20000) : scanM (p ++ s) = shR p.size (scanM s) := by
  have hsz : (p ++ s).size = p.size + s.size := ByteArray.size_append
  rw [scanM_left (by omega), scanM_left (by omega), left_blanks hp p.size (Nat.le_refl _)]
  have := left_app (p := p) (s := s) s.size 0 [] (by omega)
  simpa using this
end

/-- A token without its place. -/
def bareT (t : MTok) : MTok := (t.1, 0, t.2.2.1, t.2.2.2)
theorem bare_shift (k : Nat) (l : List MTok) : (l.map (shT k)).map bareT = l.map bareT := by
  rw [List.map_map]; rfl
end Go.Proofs.YtkpomcimaofkkaaGreatDoor
