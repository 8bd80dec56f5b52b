/-
  A text's tokens, plain: runs of bytes, numbers, tokens, and what a whole text comes to.
-/
import Derived.Lib.AtoiAll
namespace Go.Proofs.YtlkmciegpmpbbaaDoor
set_option linter.unusedVariables false
set_option linter.unusedSimpArgs false

/-- The byte at a place of a text, 0 behind its end. -/
def bt (s : ByteArray) (i : Nat) : Nat := if h : i < s.size then (s[i]'h).toNat else 0
theorem bt_get {s : ByteArray} {i : Nat} (h : i < s.size) : (s[i]'h).toNat = bt s i := by simp [bt, h]
theorem bt_out {s : ByteArray} {i : Nat} (h : ¬ i < s.size) : bt s i = 0 := by simp [bt, h]
theorem bt_le (s : ByteArray) (i : Nat) : bt s i ≤ 255 := by
  unfold bt; split
  · rename_i h; have := (s[i]'h).toNat_lt; omega
  · omega

def isSm (c : Nat) : Bool := decide (97 ≤ c) && decide (c ≤ 122)
def isDg (c : Nat) : Bool := decide (48 ≤ c) && decide (c ≤ 57)
def isWd (c : Nat) : Bool := isSm c || isDg c
theorem isSm_iff {c : Nat} : isSm c = true ↔ 97 ≤ c ∧ c ≤ 122 := by simp [isSm]
theorem isDg_iff {c : Nat} : isDg c = true ↔ 48 ≤ c ∧ c ≤ 57 := by simp [isDg]
theorem isSm_no {c : Nat} : isSm c = false ↔ ¬ (97 ≤ c ∧ c ≤ 122) := by rw [← isSm_iff]; simp
theorem isDg_no {c : Nat} : isDg c = false ↔ ¬ (48 ≤ c ∧ c ≤ 57) := by rw [← isDg_iff]; simp

/-- e is where a run of bytes from i on ends. -/
def RunEnd (p : Nat → Bool) (s : ByteArray) (i e : Nat) : Prop := i ≤ e ∧ (∀ j, i ≤ j → j < e → p (bt s j) = true) ∧ p (bt s e) = false

theorem RunEnd.uniq {p : Nat → Bool} {s : ByteArray} {i e e' : Nat} (h : RunEnd p s i e) (h' : RunEnd p s i e') : e = e' := by
  rcases Nat.lt_trichotomy e e' with hl | hl | hl
  · have := h'.2.1 e h.1 hl; rw [h.2.2] at this; cases this
  · exact hl
  · have := h.2.1 e' h'.1 hl; rw [h'.2.2] at this; cases this

/-- Where a run ends. -/
def runEnd (p : Nat → Bool) (s : ByteArray) : Nat → Nat → Nat
  | 0, i => i
  | f + 1, i => if p (bt s i) then runEnd p s f (i + 1) else i

theorem runEnd_is (p : Nat → Bool) (s : ByteArray) (hp : p 0 = false) : ∀ (f i : Nat), s.size ≤ f + i → RunEnd p s i (runEnd p s f i)
  | 0, i, h => ⟨Nat.le_refl _, fun j h1 h2 => by simp only [runEnd] at h2; omega, by simp only [runEnd]; rw [bt_out (by omega)]; exact hp⟩
  | f + 1, i, h => by
    unfold runEnd
    by_cases hc : p (bt s i) = true
    · rw [if_pos hc]
      have ih := runEnd_is p s hp f (i + 1) (by omega)
      refine ⟨by have := ih.1; omega, fun j h1 h2 => ?_, ih.2.2⟩
      by_cases e : j = i
      · rw [e]; exact hc
      · exact ih.2.1 j (by omega) h2
    · rw [if_neg hc]
      exact ⟨Nat.le_refl _, fun j h1 h2 => by omega, by simpa using hc⟩

def wEnd (s : ByteArray) (i : Nat) : Nat := runEnd isWd s s.size i
def dEnd (s : ByteArray) (i : Nat) : Nat := runEnd isDg s s.size i
theorem wEnd_is (s : ByteArray) (i : Nat) : RunEnd isWd s i (wEnd s i) := runEnd_is isWd s rfl _ _ (by omega)
theorem dEnd_is (s : ByteArray) (i : Nat) : RunEnd isDg s i (dEnd s i) := runEnd_is isDg s rfl _ _ (by omega)
theorem RunEnd.le_size {p : Nat → Bool} {s : ByteArray} {i e : Nat} (h : RunEnd p s i e) (hp : p 0 = false) (hi : i ≤ s.size) : e ≤ s.size := by
  by_cases hc : e ≤ s.size
  · exact hc
  · have := h.2.1 s.size hi (by omega)
    rw [bt_out (by omega), hp] at this
    cases this

/-- The number that digits from f on spell. -/
def dv (s : ByteArray) (f : Nat) : Nat → Nat
  | 0 => 0
  | k + 1 => dv s f k * 10 + (bt s (f + k) - 48)

/-- Of a number at a place: where its digits begin, where they end, what they spell, whether that is too great. -/
def nF (s : ByteArray) (i : Nat) : Nat := if bt s i = 45 then i + 1 else i
def nE (s : ByteArray) (i : Nat) : Nat := if bt s (nF s i) = 48 then nF s i + 1 else dEnd s (nF s i + 1)
def nV (s : ByteArray) (i : Nat) : Nat := dv s (nF s i) (nE s i - nF s i)
abbrev nBig (s : ByteArray) (i : Nat) : Prop := (bt s i = 45 ∧ 9223372036854775808 < nV s i) ∨ (¬ bt s i = 45 ∧ 9223372036854775808 ≤ nV s i)
abbrev nBad (s : ByteArray) (i : Nat) : Prop := bt s i = 45 ∧ ¬ (49 ≤ bt s (nF s i) ∧ bt s (nF s i) ≤ 57)
def nN (s : ByteArray) (i : Nat) : Int := if bt s i = 45 then -(nV s i : Int) else nV s i


/-- A number at a place: where and why it is wrong, or it and the place behind it. -/
def numM (s : ByteArray) (i : Nat) : Except (Nat × Nat) (Int × Nat) :=
  if nBad s i then .error (i, 10)
  else if nBig s i then .error (i, 11)
  else if isWd (bt s (nE s i)) then .error (nE s i, 10)
  else .ok (nN s i, nE s i)

theorem numM_bad {s : ByteArray} {i : Nat} (h : nBad s i) : numM s i = .error (i, 10) := by unfold numM; rw [if_pos h]
theorem numM_big {s : ByteArray} {i : Nat} (h : ¬ nBad s i) (hb : nBig s i) : numM s i = .error (i, 11) := by unfold numM; rw [if_neg h, if_pos hb]
theorem numM_wd {s : ByteArray} {i : Nat} (h : ¬ nBad s i) (hb : ¬ nBig s i) (hw : isWd (bt s (nE s i)) = true) : numM s i = .error (nE s i, 10) := by unfold numM; rw [if_neg h, if_neg hb, if_pos hw]
theorem numM_ok {s : ByteArray} {i : Nat} (h : ¬ nBad s i) (hb : ¬ nBig s i) (hw : isWd (bt s (nE s i)) = false) : numM s i = .ok (nN s i, nE s i) := by unfold numM; rw [if_neg h, if_neg hb, if_neg (by simp [hw])]

/-- Where a number's digits are. -/
theorem nE_gt {s : ByteArray} {i : Nat} (h : ¬ nBad s i) (hi : i < s.size) : i ≤ nF s i ∧ nF s i < nE s i ∧ nE s i ≤ s.size ∧ nF s i < s.size := by
  unfold nBad at h
  have hlt : nF s i < s.size := by
    by_cases h45 : bt s i = 45
    · by_cases hc : nF s i < s.size
      · exact hc
      · rw [bt_out hc] at h; omega
    · unfold nF; rw [if_neg h45]; exact hi
  have hge : i ≤ nF s i := by unfold nF; split <;> omega
  unfold nE
  by_cases h48 : bt s (nF s i) = 48
  · rw [if_pos h48]; omega
  · rw [if_neg h48]
    have hr := dEnd_is s (nF s i + 1)
    exact ⟨hge, by have := hr.1; omega, hr.le_size rfl (by omega), hlt⟩

/-- A token, plain: its kind, place, text and number. -/
abbrev MTok := Int × Int × ByteArray × Int

/-- A token at a place that is no blank. -/
def tokM (s : ByteArray) (i : Nat) : Except (Nat × Nat) (MTok × Nat) :=
  if isSm (bt s i) then .ok ((1, i, s.extract i (wEnd s i), 0), wEnd s i)
  else if bt s i = 45 ∨ isDg (bt s i) = true then
    match numM s i with
    | .error e => .error e
    | .ok (n, e) => .ok ((2, i, s.extract i e, n), e)
  else if bt s i = 40 ∨ bt s i = 41 ∨ bt s i = 91 ∨ bt s i = 93 then .ok ((3, i, s.extract i (i + 1), 0), i + 1)
  else if bt s i = 10 then .ok ((4, i, s.extract i (i + 1), 0), i + 1)
  else .error (i, 10)

/-- A text from a place on, behind the tokens that there are. -/
def scanFrom (s : ByteArray) : Nat → Nat → List MTok → Except (Nat × Nat) (List MTok)
  | 0, _, acc => .ok acc
  | f + 1, i, acc =>
    if i < s.size then
      if bt s i = 32 then scanFrom s f (i + 1) acc
      else match tokM s i with
        | .error e => .error e
        | .ok (t, k) => scanFrom s f k (acc ++ [t])
    else .ok acc

/-- A whole text. -/
def scanM (s : ByteArray) : Except (Nat × Nat) (List MTok) := if 20000 < s.size then .error (0, 4) else scanFrom s s.size 0 []

theorem numM_gt {s : ByteArray} {i : Nat} {n : Int} {e : Nat} (h : numM s i = .ok (n, e)) (hi : i < s.size) : i < e ∧ e ≤ s.size := by
  unfold numM at h
  split at h
  · cases h
  · rename_i h1
    split at h
    · cases h
    · split at h
      · cases h
      · simp only [Except.ok.injEq, Prod.mk.injEq] at h
        have := nE_gt h1 hi
        omega

theorem tokM_gt {s : ByteArray} {i : Nat} {t : MTok} {k : Nat} (h : tokM s i = .ok (t, k)) (hi : i < s.size) : i < k ∧ k ≤ s.size := by
  unfold tokM at h
  split at h
  · rename_i hs
    simp only [Except.ok.injEq, Prod.mk.injEq] at h
    obtain ⟨_, rfl⟩ := h
    have hr := wEnd_is s i
    refine ⟨?_, hr.le_size rfl (by omega)⟩
    rcases Nat.lt_or_ge i (wEnd s i) with h | h
    · exact h
    · have e : wEnd s i = i := by have := hr.1; omega
      have := hr.2.2
      rw [e] at this
      simp [isWd, hs] at this
  · split at h
    · split at h
      · cases h
      · rename_i n e hn
        simp only [Except.ok.injEq, Prod.mk.injEq] at h
        obtain ⟨_, rfl⟩ := h
        exact numM_gt hn hi
    · split at h
      · simp only [Except.ok.injEq, Prod.mk.injEq] at h; omega
      · split at h
        · simp only [Except.ok.injEq, Prod.mk.injEq] at h; omega
        · cases h

/-- More fuel changes nothing. -/
theorem scanFrom_fuel (s : ByteArray) : ∀ (f g i : Nat) (acc : List MTok), s.size ≤ f + i → s.size ≤ g + i → scanFrom s f i acc = scanFrom s g i acc
  | 0, 0, _, _, _, _ => rfl
  | 0, g + 1, i, acc, hf, _ => by simp only [scanFrom]; rw [if_neg (by omega)]
  | f + 1, 0, i, acc, _, hg => by simp only [scanFrom]; rw [if_neg (by omega)]
  | f + 1, g + 1, i, acc, hf, hg => by
    simp only [scanFrom]
    by_cases hi : i < s.size
    · rw [if_pos hi, if_pos hi]
      by_cases hb : bt s i = 32
      · rw [if_pos hb, if_pos hb]
        exact scanFrom_fuel s f g (i + 1) acc (by omega) (by omega)
      · rw [if_neg hb, if_neg hb]
        cases ht : tokM s i with
        | error e => rfl
        | ok q =>
          obtain ⟨t, k⟩ := q
          have := tokM_gt ht hi
          exact scanFrom_fuel s f g k _ (by omega) (by omega)
    · rw [if_neg hi, if_neg hi]

/-- What is left from a place on. -/
def left (s : ByteArray) (i : Nat) (acc : List MTok) : Except (Nat × Nat) (List MTok) := scanFrom s (s.size - i) i acc
theorem left_end {s : ByteArray} {i : Nat} (acc : List MTok) (h : ¬ i < s.size) : left s i acc = .ok acc := by
  unfold left; rw [show s.size - i = 0 by omega]; rfl
theorem left_blank {s : ByteArray} {i : Nat} (acc : List MTok) (h : i < s.size) (hb : bt s i = 32) : left s i acc = left s (i + 1) acc := by
  unfold left; rw [show s.size - i = (s.size - (i + 1)) + 1 by omega]; simp only [scanFrom]; rw [if_pos h, if_pos hb]
theorem left_bad {s : ByteArray} {i : Nat} (acc : List MTok) {e : Nat × Nat} (h : i < s.size) (hb : ¬ bt s i = 32) (ht : tokM s i = .error e) : left s i acc = .error e := by
  unfold left; rw [show s.size - i = (s.size - (i + 1)) + 1 by omega]; simp only [scanFrom]; rw [if_pos h, if_neg hb, ht]
theorem left_tok {s : ByteArray} {i : Nat} (acc : List MTok) {t : MTok} {k : Nat} (h : i < s.size) (hb : ¬ bt s i = 32) (ht : tokM s i = .ok (t, k)) : left s i acc = left s k (acc ++ [t]) := by
  have hk := tokM_gt ht h
  unfold left; rw [show s.size - i = (s.size - (i + 1)) + 1 by omega]; simp only [scanFrom]; rw [if_pos h, if_neg hb, ht]
  exact scanFrom_fuel s _ _ k _ (by omega) (by omega)
theorem scanM_left {s : ByteArray} (h : s.size ≤ 20000) : scanM s = left s 0 [] := by unfold scanM left; rw [if_neg (by omega)]; rfl
end Go.Proofs.YtlkmciegpmpbbaaDoor
