/-
  A text's tokens, plain: runs of bytes, numbers, tokens, and what a whole text comes to.
  What strconv.Atoi comes to at a number's bytes.
  Walks of the smallest functions of the scanner and of its reference.
  Lists in memory: slices of elements of some cells, lists that a loop fills by append.
  Plain data of histories, when two are the same, and how they lie in memory.
  Walks of assayerplain's SameEvents and of what it calls.
-/
import Derived.Lib.AtoiAll
import Derived.Lib.Strings
import Derived.Test.YtjobdfgcgnpppaaDoorRows
import Derived.WalkKit
import Derived.ProofKit
import Derived.Deep.LoopGhost
import Derived.Deep.Draws
import Derived.Outline
import Derived.Deep.AppendLies
import Derived.Deep.QuietTactic
import Derived.BigQuiet
namespace Go.Proofs.YtjobdfgcgnpppaaDoor
set_option linter.unusedVariables false
set_option linter.unusedSimpArgs false

/-- The byte at a place of a text, 0 behind its end. -/
def bt (s : ByteArray) (i : Nat) : Nat := if h : i < s.size then (s[i]'h).toNat else 0
theorem bt_get {s : ByteArray} {i : Nat} (h : i < s.size) : (s[i]'h).toNat = bt s i := by simp [bt, h]
theorem bt_out {s : ByteArray} {i : Nat} (h : ¬ i < s.size) : bt s i = 0 := by simp [bt, h]
theorem bt_le (s : ByteArray) (i : Nat) : bt s i ≤ 255 := by
  unfold bt; split
  · rename_i h; have := (s[i]'h).toNat_lt; omega
  · omega

def isSm (c : Nat) : Bool := decide (97 ≤ c) && decide (c ≤ 122)
def isDg (c : Nat) : Bool := decide (48 ≤ c) && decide (c ≤ 57)
def isWd (c : Nat) : Bool := isSm c || isDg c
theorem isSm_iff {c : Nat} : isSm c = true ↔ 97 ≤ c ∧ c ≤ 122 := by simp [isSm]
theorem isDg_iff {c : Nat} : isDg c = true ↔ 48 ≤ c ∧ c ≤ 57 := by simp [isDg]
theorem isSm_no {c : Nat} : isSm c = false ↔ ¬ (97 ≤ c ∧ c ≤ 122) := by rw [← isSm_iff]; simp
theorem isDg_no {c : Nat} : isDg c = false ↔ ¬ (48 ≤ c ∧ c ≤ 57) := by rw [← isDg_iff]; simp

/-- e is where a run of bytes from i on ends. -/
def RunEnd (p : Nat → Bool) (s : ByteArray) (i e : Nat) : Prop := i ≤ e ∧ (∀ j, i ≤ j → j < e → p (bt s j) = true) ∧ p (bt s e) = false

theorem RunEnd.uniq {p : Nat → Bool} {s : ByteArray} {i e e' : Nat} (h : RunEnd p s i e) (h' : RunEnd p s i e') : e = e' := by
  rcases Nat.lt_trichotomy e e' with hl | hl | hl
  · have := h'.2.1 e h.1 hl; rw [h.2.2] at this; cases this
  · exact hl
  · have := h.2.1 e' h'.1 hl; rw [h'.2.2] at this; cases this

/-- Where a run ends. -/
def runEnd (p : Nat → Bool) (s : ByteArray) : Nat → Nat → Nat
  | 0, i => i
  | f + 1, i => if p (bt s i) then runEnd p s f (i + 1) else i

theorem runEnd_is (p : Nat → Bool) (s : ByteArray) (hp : p 0 = false) : ∀ (f i : Nat), s.size ≤ f + i → RunEnd p s i (runEnd p s f i)
  | 0, i, h => ⟨Nat.le_refl _, fun j h1 h2 => by simp only [runEnd] at h2; omega, by simp only [runEnd]; rw [bt_out (by omega)]; exact hp⟩
  | f + 1, i, h => by
    unfold runEnd
    by_cases hc : p (bt s i) = true
    · rw [if_pos hc]
      have ih := runEnd_is p s hp f (i + 1) (by omega)
      refine ⟨by have := ih.1; omega, fun j h1 h2 => ?_, ih.2.2⟩
      by_cases e : j = i
      · rw [e]; exact hc
      · exact ih.2.1 j (by omega) h2
    · rw [if_neg hc]
      exact ⟨Nat.le_refl _, fun j h1 h2 => by omega, by simpa using hc⟩

def wEnd (s : ByteArray) (i : Nat) : Nat := runEnd isWd s s.size i
def dEnd (s : ByteArray) (i : Nat) : Nat := runEnd isDg s s.size i
theorem wEnd_is (s : ByteArray) (i : Nat) : RunEnd isWd s i (wEnd s i) := runEnd_is isWd s rfl _ _ (by omega)
theorem dEnd_is (s : ByteArray) (i : Nat) : RunEnd isDg s i (dEnd s i) := runEnd_is isDg s rfl _ _ (by omega)
theorem RunEnd.le_size {p : Nat → Bool} {s : ByteArray} {i e : Nat} (h : RunEnd p s i e) (hp : p 0 = false) (hi : i ≤ s.size) : e ≤ s.size := by
  by_cases hc : e ≤ s.size
  · exact hc
  · have := h.2.1 s.size hi (by omega)
    rw [bt_out (by omega), hp] at this
    cases this

/-- The number that digits from f on spell. -/
def dv (s : ByteArray) (f : Nat) : Nat → Nat
  | 0 => 0
  | k + 1 => dv s f k * 10 + (bt s (f + k) - 48)

/-- Of a number at a place: where its digits begin, where they end, what they spell, whether that is too great. -/
def nF (s : ByteArray) (i : Nat) : Nat := if bt s i = 45 then i + 1 else i
def nE (s : ByteArray) (i : Nat) : Nat := if bt s (nF s i) = 48 then nF s i + 1 else dEnd s (nF s i + 1)
def nV (s : ByteArray) (i : Nat) : Nat := dv s (nF s i) (nE s i - nF s i)
abbrev nBig (s : ByteArray) (i : Nat) : Prop := (bt s i = 45 ∧ 9223372036854775808 < nV s i) ∨ (¬ bt s i = 45 ∧ 9223372036854775808 ≤ nV s i)
abbrev nBad (s : ByteArray) (i : Nat) : Prop := bt s i = 45 ∧ ¬ (49 ≤ bt s (nF s i) ∧ bt s (nF s i) ≤ 57)
def nN (s : ByteArray) (i : Nat) : Int := if bt s i = 45 then -(nV s i : Int) else nV s i


/-- A number at a place: where and why it is wrong, or it and the place behind it. -/
def numM (s : ByteArray) (i : Nat) : Except (Nat × Nat) (Int × Nat) :=
  if nBad s i then .error (i, 10)
  else if nBig s i then .error (i, 11)
  else if isWd (bt s (nE s i)) then .error (nE s i, 10)
  else .ok (nN s i, nE s i)

theorem numM_bad {s : ByteArray} {i : Nat} (h : nBad s i) : numM s i = .error (i, 10) := by unfold numM; rw [if_pos h]
theorem numM_big {s : ByteArray} {i : Nat} (h : ¬ nBad s i) (hb : nBig s i) : numM s i = .error (i, 11) := by unfold numM; rw [if_neg h, if_pos hb]
theorem numM_wd {s : ByteArray} {i : Nat} (h : ¬ nBad s i) (hb : ¬ nBig s i) (hw : isWd (bt s (nE s i)) = true) : numM s i = .error (nE s i, 10) := by unfold numM; rw [if_neg h, if_neg hb, if_pos hw]
theorem numM_ok {s : ByteArray} {i : Nat} (h : ¬ nBad s i) (hb : ¬ nBig s i) (hw : isWd (bt s (nE s i)) = false) : numM s i = .ok (nN s i, nE s i) := by unfold numM; rw [if_neg h, if_neg hb, if_neg (by simp [hw])]

/-- Where a number's digits are. -/
theorem nE_gt {s : ByteArray} {i : Nat} (h : ¬ nBad s i) (hi : i < s.size) : i ≤ nF s i ∧ nF s i < nE s i ∧ nE s i ≤ s.size ∧ nF s i < s.size := by
  unfold nBad at h
  have hlt : nF s i < s.size := by
    by_cases h45 : bt s i = 45
    · by_cases hc : nF s i < s.size
      · exact hc
      · rw [bt_out hc] at h; omega
    · unfold nF; rw [if_neg h45]; exact hi
  have hge : i ≤ nF s i := by unfold nF; split <;> omega
  unfold nE
  by_cases h48 : bt s (nF s i) = 48
  · rw [if_pos h48]; omega
  · rw [if_neg h48]
    have hr := dEnd_is s (nF s i + 1)
    exact ⟨hge, by have := hr.1; omega, hr.le_size rfl (by omega), hlt⟩

/-- A token, plain: its kind, place, text and number. -/
abbrev MTok := Int × Int × ByteArray × Int

/-- A token at a place that is no blank. -/
def tokM (s : ByteArray) (i : Nat) : Except (Nat × Nat) (MTok × Nat) :=
  if isSm (bt s i) then .ok ((1, i, s.extract i (wEnd s i), 0), wEnd s i)
  else if bt s i = 45 ∨ isDg (bt s i) = true then
    match numM s i with
    | .error e => .error e
    | .ok (n, e) => .ok ((2, i, s.extract i e, n), e)
  else if bt s i = 40 ∨ bt s i = 41 ∨ bt s i = 91 ∨ bt s i = 93 then .ok ((3, i, s.extract i (i + 1), 0), i + 1)
  else if bt s i = 10 then .ok ((4, i, s.extract i (i + 1), 0), i + 1)
  else .error (i, 10)

/-- A text from a place on, behind the tokens that there are. -/
def scanFrom (s : ByteArray) : Nat → Nat → List MTok → Except (Nat × Nat) (List MTok)
  | 0, _, acc => .ok acc
  | f + 1, i, acc =>
    if i < s.size then
      if bt s i = 32 then scanFrom s f (i + 1) acc
      else match tokM s i with
        | .error e => .error e
        | .ok (t, k) => scanFrom s f k (acc ++ [t])
    else .ok acc

/-- A whole text. -/
def scanM (s : ByteArray) : Except (Nat × Nat) (List MTok) := if 20000 < s.size then .error (0, 4) else scanFrom s s.size 0 []

theorem numM_gt {s : ByteArray} {i : Nat} {n : Int} {e : Nat} (h : numM s i = .ok (n, e)) (hi : i < s.size) : i < e ∧ e ≤ s.size := by
  unfold numM at h
  split at h
  · cases h
  · rename_i h1
    split at h
    · cases h
    · split at h
      · cases h
      · simp only [Except.ok.injEq, Prod.mk.injEq] at h
        have := nE_gt h1 hi
        omega

theorem tokM_gt {s : ByteArray} {i : Nat} {t : MTok} {k : Nat} (h : tokM s i = .ok (t, k)) (hi : i < s.size) : i < k ∧ k ≤ s.size := by
  unfold tokM at h
  split at h
  · rename_i hs
    simp only [Except.ok.injEq, Prod.mk.injEq] at h
    obtain ⟨_, rfl⟩ := h
    have hr := wEnd_is s i
    refine ⟨?_, hr.le_size rfl (by omega)⟩
    rcases Nat.lt_or_ge i (wEnd s i) with h | h
    · exact h
    · have e : wEnd s i = i := by have := hr.1; omega
      have := hr.2.2
      rw [e] at this
      simp [isWd, hs] at this
  · split at h
    · split at h
      · cases h
      · rename_i n e hn
        simp only [Except.ok.injEq, Prod.mk.injEq] at h
        obtain ⟨_, rfl⟩ := h
        exact numM_gt hn hi
    · split at h
      · simp only [Except.ok.injEq, Prod.mk.injEq] at h; omega
      · split at h
        · simp only [Except.ok.injEq, Prod.mk.injEq] at h; omega
        · cases h

/-- More fuel changes nothing. -/
theorem scanFrom_fuel (s : ByteArray) : ∀ (f g i : Nat) (acc : List MTok), s.size ≤ f + i → s.size ≤ g + i → scanFrom s f i acc = scanFrom s g i acc
  | 0, 0, _, _, _, _ => rfl
  | 0, g + 1, i, acc, hf, _ => by simp only [scanFrom]; rw [if_neg (by omega)]
  | f + 1, 0, i, acc, _, hg => by simp only [scanFrom]; rw [if_neg (by omega)]
  | f + 1, g + 1, i, acc, hf, hg => by
    simp only [scanFrom]
    by_cases hi : i < s.size
    · rw [if_pos hi, if_pos hi]
      by_cases hb : bt s i = 32
      · rw [if_pos hb, if_pos hb]
        exact scanFrom_fuel s f g (i + 1) acc (by omega) (by omega)
      · rw [if_neg hb, if_neg hb]
        cases ht : tokM s i with
        | error e => rfl
        | ok q =>
          obtain ⟨t, k⟩ := q
          have := tokM_gt ht hi
          exact scanFrom_fuel s f g k _ (by omega) (by omega)
    · rw [if_neg hi, if_neg hi]

/-- What is left from a place on. -/
def left (s : ByteArray) (i : Nat) (acc : List MTok) : Except (Nat × Nat) (List MTok) := scanFrom s (s.size - i) i acc
theorem left_end {s : ByteArray} {i : Nat} (acc : List MTok) (h : ¬ i < s.size) : left s i acc = .ok acc := by
  unfold left; rw [show s.size - i = 0 by omega]; rfl
theorem left_blank {s : ByteArray} {i : Nat} (acc : List MTok) (h : i < s.size) (hb : bt s i = 32) : left s i acc = left s (i + 1) acc := by
  unfold left; rw [show s.size - i = (s.size - (i + 1)) + 1 by omega]; simp only [scanFrom]; rw [if_pos h, if_pos hb]
theorem left_bad {s : ByteArray} {i : Nat} (acc : List MTok) {e : Nat × Nat} (h : i < s.size) (hb : ¬ bt s i = 32) (ht : tokM s i = .error e) : left s i acc = .error e := by
  unfold left; rw [show s.size - i = (s.size - (i + 1)) + 1 by omega]; simp only [scanFrom]; rw [if_pos h, if_neg hb, ht]
theorem left_tok {s : ByteArray} {i : Nat} (acc : List MTok) {t : MTok} {k : Nat} (h : i < s.size) (hb : ¬ bt s i = 32) (ht : tokM s i = .ok (t, k)) : left s i acc = left s k (acc ++ [t]) := by
  have hk := tokM_gt ht h
  unfold left; rw [show s.size - i = (s.size - (i + 1)) + 1 by omega]; simp only [scanFrom]; rw [if_pos h, if_neg hb, ht]
  exact scanFrom_fuel s _ _ k _ (by omega) (by omega)
theorem scanM_left {s : ByteArray} (h : s.size ≤ 20000) : scanM s = left s 0 [] := by unfold scanM left; rw [if_neg (by omega)]; rfl
end Go.Proofs.YtjobdfgcgnpppaaDoor
namespace Go.Proofs.YtjobdfgcgnpppaaDoor
set_option linter.unusedVariables false
set_option linter.unusedSimpArgs false

/-- The bytes of a text from a place on. -/
def bl (s : ByteArray) : Nat → Nat → List UInt8
  | _, 0 => []
  | i, n + 1 => UInt8.ofNat (bt s i) :: bl s (i + 1) n

theorem bl_len (s : ByteArray) : ∀ n i, (bl s i n).length = n
  | 0, _ => rfl
  | n + 1, i => by simp [bl, bl_len s n (i + 1)]

theorem bl_get (s : ByteArray) : ∀ n i j, j < n → (bl s i n)[j]? = some (UInt8.ofNat (bt s (i + j)))
  | 0, _, _, h => by omega
  | n + 1, i, 0, _ => by simp [bl]
  | n + 1, i, j + 1, h => by
    have := bl_get s n (i + 1) j (by omega)
    simp only [bl, List.getElem?_cons_succ]
    rw [this, show i + 1 + j = i + (j + 1) by omega]

theorem extract_bl (s : ByteArray) (i e : Nat) (he : e ≤ s.size) : (s.extract i e).data.toList = bl s i (e - i) := by
  rw [Lib.extract_data]
  have hsz : s.data.toList.length = s.size := by simp
  apply List.ext_getElem?
  intro j
  by_cases hj : j < e - i
  · rw [bl_get s _ _ _ hj, List.getElem?_take, if_pos hj, List.getElem?_drop]
    have hlt : i + j < s.size := by omega
    have hl2 : i + j < s.data.toList.length := by omega
    rw [List.getElem?_eq_getElem hl2]
    congr 1
    have : bt s (i + j) = (s.data.toList[i + j]).toNat := by rw [← bt_get hlt]; rfl
    rw [this]
    simp
  · rw [List.getElem?_take, if_neg hj, List.getElem?_eq_none (by rw [bl_len]; omega)]

theorem toNat_bt (s : ByteArray) (i : Nat) : (UInt8.ofNat (bt s i)).toNat = bt s i := by
  have := bt_le s i
  rw [UInt8.toNat_ofNat']
  omega

theorem dv_mono (s : ByteArray) (f : Nat) : ∀ m k, dv s f k ≤ dv s f (k + m)
  | 0, k => Nat.le_refl _
  | m + 1, k => by
    have := dv_mono s f m k
    show dv s f k ≤ dv s f (k + m) * 10 + _
    omega

theorem parse_run (s : ByteArray) (f : Nat) : ∀ (n k : Nat), (∀ j, k ≤ j → j < k + n → isDg (bt s (f + j)) = true) → dv s f k < 18446744073709551616 →
    Lib.parseUint10 (dv s f k) (bl s (f + k) n) = if dv s f (k + n) < 18446744073709551616 then .ok (dv s f (k + n)) else .range
  | 0, k, _, hk => by simp only [bl, Lib.parseUint10, Nat.add_zero]; rw [if_pos hk]
  | n + 1, k, hd, hk => by
    have h0 := isDg_iff.1 (hd k (Nat.le_refl _) (by omega))
    have hm := dv_mono s f n (k + 1)
    have e1 : dv s f (k + 1) = dv s f k * 10 + (bt s (f + k) - 48) := rfl
    have e2 : k + (n + 1) = k + 1 + n := by omega
    simp only [bl, Lib.parseUint10]
    rw [toNat_bt, if_pos h0, e2]
    by_cases hb : 1844674407370955162 ≤ dv s f k
    · rw [if_pos hb, if_neg (by omega)]
    · rw [if_neg hb]
      by_cases hc : 18446744073709551616 ≤ dv s f k * 10 + (bt s (f + k) - 48)
      · rw [if_pos hc, if_neg (by omega)]
      · rw [if_neg hc, ← e1]
        have := parse_run s f n (k + 1) (fun j h1 h2 => hd j (by omega) (by omega)) (by omega)
        rw [← Nat.add_assoc] at this
        exact this

/-- All bytes from a number's first digit to its end are digits. -/
theorem nE_digits {s : ByteArray} {i : Nat} (h : ¬ nBad s i) (hs : bt s i = 45 ∨ isDg (bt s i) = true) : ∀ j, nF s i ≤ j → j < nE s i → isDg (bt s j) = true := by
  intro j h1 h2
  have hf : isDg (bt s (nF s i)) = true := by
    rw [isDg_iff]
    by_cases h45 : bt s i = 45
    · unfold nBad at h; omega
    · have e : nF s i = i := by unfold nF; rw [if_neg h45]
      rw [e]
      rcases hs with hs | hs
      · exact absurd hs h45
      · exact isDg_iff.1 hs
  by_cases hj : j = nF s i
  · rw [hj]; exact hf
  · unfold nE at h2
    by_cases h48 : bt s (nF s i) = 48
    · rw [if_pos h48] at h2; omega
    · rw [if_neg h48] at h2
      exact (dEnd_is s (nF s i + 1)).2.1 j (by omega) h2

theorem atoi_num {s : ByteArray} {i : Nat} (hi : i < s.size) (h : ¬ nBad s i) (hs : bt s i = 45 ∨ isDg (bt s i) = true) :
    Lib.atoiAll (s.extract i (nE s i)).data.toList = if nBig s i then .range else .ok (nN s i) := by
  obtain ⟨g1, g2, g3, g4⟩ := nE_gt h hi
  have hd := nE_digits h hs
  rw [extract_bl s i _ g3]
  obtain ⟨m, hm⟩ : ∃ m, nE s i - i = m + 1 := ⟨nE s i - i - 1, by omega⟩
  have hpar : Lib.parseMag (bl s (nF s i) (nE s i - nF s i)) = if nV s i < 18446744073709551616 then .ok (nV s i) else .range := by
    unfold Lib.parseMag
    rw [if_neg (by intro e; have := congrArg List.length e; rw [bl_len] at this; simp at this; omega)]
    have := parse_run s (nF s i) (nE s i - nF s i) 0 (fun j h1 h2 => hd (nF s i + j) (by omega) (by omega)) (by simp [dv])
    rw [Nat.zero_add, Nat.add_zero] at this
    exact this
  rw [hm]
  simp only [bl, Lib.atoiAll]
  rw [toNat_bt]
  by_cases h45 : bt s i = 45
  · have e : nF s i = i + 1 := by unfold nF; rw [if_pos h45]
    have e2 : nE s i - nF s i = m := by omega
    rw [e2, e] at hpar
    rw [if_pos (Or.inr h45), hpar]
    by_cases hv : nV s i < 18446744073709551616
    · rw [if_pos hv]
      simp only [h45, not_true, false_and, if_false, true_and, nBig, nN, if_true, or_false]
    · rw [if_neg hv, if_pos (by unfold nBig; omega)]
  · have e : nF s i = i := by unfold nF; rw [if_neg h45]
    have hdi : isDg (bt s i) = true := by rcases hs with hs | hs; exact absurd hs h45; exact hs
    have h43 : ¬ bt s i = 43 := by have := isDg_iff.1 hdi; omega
    rw [e, hm] at hpar
    simp only [bl] at hpar
    rw [if_neg (by omega), hpar]
    by_cases hv : nV s i < 18446744073709551616
    · rw [if_pos hv]
      simp only [h45, not_false_iff, true_and, false_and, if_false, nBig, nN, false_or]
    · rw [if_neg hv, if_pos (by unfold nBig; omega)]
end Go.Proofs.YtjobdfgcgnpppaaDoor
namespace Go.Proofs.YtjobdfgcgnpppaaDoor
set_option linter.unusedVariables false
set_option linter.unusedSimpArgs false
open Go.RowKit

theorem hid {p : Prop} (h : p) : Hid p := h


theorem refLetter_any (c : Nat) (w : World) : Calls Tryd.prog 65 #[.int .u8 c] w fun e w' => e = .returned (.bool (isSm c)) ∧ w' = w := by
  by_cases h1 : (97 : Int) ≤ (c : Int)
  · by_cases h2 : (c : Int) ≤ 122
    · have r := hid (show isSm c = true from isSm_iff.2 (by omega))
      go_enter Tryd.func65, Tryd.ntmps65
      go_wp2
      go_ret
      exact ⟨by rw [r.out]; rfl, rfl⟩
    · have r : isSm c = false := isSm_no.2 (by omega)
      go_enter Tryd.func65, Tryd.ntmps65
      go_wp2
      go_ret
      exact ⟨rfl, rfl⟩
  · have r : isSm c = false := isSm_no.2 (by omega)
    go_enter Tryd.func65, Tryd.ntmps65
    go_wp2
    go_ret
    exact ⟨rfl, rfl⟩

theorem refDigit_any (c : Nat) (w : World) : Calls Tryd.prog 66 #[.int .u8 c] w fun e w' => e = .returned (.bool (isDg c)) ∧ w' = w := by
  by_cases h1 : (48 : Int) ≤ (c : Int)
  · by_cases h2 : (c : Int) ≤ 57
    · have r := hid (show isDg c = true from isDg_iff.2 (by omega))
      go_enter Tryd.func66, Tryd.ntmps66
      go_wp2
      go_ret
      exact ⟨by rw [r.out]; rfl, rfl⟩
    · have r : isDg c = false := isDg_no.2 (by omega)
      go_enter Tryd.func66, Tryd.ntmps66
      go_wp2
      go_ret
      exact ⟨rfl, rfl⟩
  · have r : isDg c = false := isDg_no.2 (by omega)
    go_enter Tryd.func66, Tryd.ntmps66
    go_wp2
    go_ret
    exact ⟨rfl, rfl⟩

end Go.Proofs.YtjobdfgcgnpppaaDoor
namespace Go.Proofs.YtjobdfgcgnpppaaDoor
set_option linter.unusedVariables false
set_option linter.unusedSimpArgs false
open Go.RowKit

/-- Two lists, element by element. -/
def allEq {α : Type} (eq : α → α → Bool) : List α → List α → Bool
  | [], [] => true
  | x :: xs, y :: ys => eq x y && allEq eq xs ys
  | _, _ => false

theorem allEq_len {α : Type} (eq : α → α → Bool) : ∀ (xs ys : List α), xs.length ≠ ys.length → allEq eq xs ys = false
  | [], [], h => absurd rfl h
  | [], _ :: _, _ => rfl
  | _ :: _, [], _ => rfl
  | x :: xs, y :: ys, h => by
    have := allEq_len eq xs ys (fun e => h (by simp [e]))
    simp [allEq, this]

theorem allEq_hit {α : Type} [Inhabited α] (eq : α → α → Bool) : ∀ (xs ys : List α), xs.length = ys.length → (∀ j, j < xs.length → eq (xs.getD j default) (ys.getD j default) = true) → allEq eq xs ys = true
  | [], [], _, _ => rfl
  | [], _ :: _, h, _ => by simp at h
  | _ :: _, [], h, _ => by simp at h
  | x :: xs, y :: ys, h, hj => by
    have h0 := hj 0 (by simp)
    have := allEq_hit eq xs ys (by simpa using h) (fun j hl => by simpa using hj (j + 1) (by simpa using hl))
    simp at h0
    simp [allEq, this, h0]

theorem allEq_miss {α : Type} [Inhabited α] (eq : α → α → Bool) : ∀ (xs ys : List α) (j : Nat), j < xs.length → eq (xs.getD j default) (ys.getD j default) = false → allEq eq xs ys = false
  | [], _, j, h, _ => by simp at h
  | _ :: _, [], j, _, _ => rfl
  | x :: xs, y :: ys, 0, _, hj => by simp at hj; simp [allEq, hj]
  | x :: xs, y :: ys, j + 1, h, hj => by
    have := allEq_miss eq xs ys j (by simpa using h) (by simpa using hj)
    simp [allEq, this]

theorem allEq_refl {α : Type} (eq : α → α → Bool) (h : ∀ x, eq x x = true) : ∀ xs, allEq eq xs xs = true
  | [] => rfl
  | x :: xs => by simp [allEq, h x, allEq_refl eq h xs]

theorem allEq_symm {α : Type} (eq : α → α → Bool) (h : ∀ x y, eq x y = eq y x) : ∀ xs ys, allEq eq xs ys = allEq eq ys xs
  | [], [] => rfl
  | [], _ :: _ => rfl
  | _ :: _, [] => rfl
  | x :: xs, y :: ys => by simp [allEq, h x y, allEq_symm eq h xs ys]

/-- A slice of elements of k cells, each with a property of its cells. -/
def RowsIn {α : Type} [Inhabited α] (k bytes : Nat) (R : List Value → α → Prop) (S : Nat → Prop) (w : World) (v : Value) (l : List α) : Prop :=
  ∃ ao c, v = .slice ao l.length c ∧ l.length * bytes ≤ 140737488355328 ∧ (0 < l.length → ∃ b off, ao = some ⟨b, off, none⟩ ∧ S b ∧ ∀ j, j < l.length → ∃ cs, cs.length = k ∧ R cs (l.getD j default) ∧ ∀ i u, cs[i]? = some u → w.cell? ⟨b, off + j * k + i, none⟩ = some u)

/-- w' holds what w held in the blocks of S. -/
def KeepsIn (S : Nat → Prop) (w w' : World) : Prop := ∀ b, S b → b < w.heap.size → w'.heap[b]? = w.heap[b]?

theorem KeepsIn.cell {S : Nat → Prop} {w w' : World} (h : KeepsIn S w w') {p : Addr} {u : Value} (hS : S p.block) (hc : w.cell? p = some u) : w'.cell? p = some u :=
  (World.cell?_of_block (w := w) (h p.block hS (World.block_lt_of_cell? _ _ hc))).trans hc

theorem RowsIn.keep {α : Type} [Inhabited α] {k bytes : Nat} {R R' : List Value → α → Prop} {S T : Nat → Prop} {w w' : World} {v : Value} {l : List α} (h : RowsIn k bytes R S w v l) (hk0 : 0 < k) (hR : ∀ cs x, R cs x → R' cs x) (hk : KeepsIn S w w') (hT : ∀ b, b < w.heap.size → S b → T b) : RowsIn k bytes R' T w' v l := by
  obtain ⟨ao, c, hv, hl, hc⟩ := h
  refine ⟨ao, c, hv, hl, fun h0 => ?_⟩
  obtain ⟨b, off, ha, hS, hj⟩ := hc h0
  refine ⟨b, off, ha, hT b ?_ hS, fun j h => ?_⟩
  · obtain ⟨cs, hlen, _, hcs⟩ := hj 0 h0
    exact World.block_lt_of_cell? _ _ (hcs 0 cs[0] (List.getElem?_eq_getElem (by omega)))
  · obtain ⟨cs, hlen, hr, hcs⟩ := hj j h
    exact ⟨cs, hlen, hR _ _ hr, fun i u hi => hk.cell (p := ⟨b, off + j * k + i, none⟩) hS (hcs i u hi)⟩

/-- Anywhere. -/
def Any (_ : Nat) : Prop := True
theorem keeps_below {S : Nat → Prop} {w w' : World} (h : Below w.heap.size w w') : KeepsIn S w w' := fun b _ hb => h.block b hb

/-- The cells of each element of a slice of length n. -/
def RowCells {α : Type} [Inhabited α] (k : Nat) (R : List Value → α → Prop) (w : World) (ao : Option Addr) (xs : List α) (n : Nat) : Prop :=
  ∀ j, j < n → ∃ b o cs, ao = some ⟨b, o, none⟩ ∧ b < w.heap.size ∧ cs.length = k ∧ R cs (xs.getD j default) ∧ ∀ i u, cs[i]? = some u → w.cell? ⟨b, o + j * k + i, none⟩ = some u

theorem RowsIn.cells {α : Type} [Inhabited α] {k bytes : Nat} {R : List Value → α → Prop} {S : Nat → Prop} {w : World} {v : Value} {l : List α} (h : RowsIn k bytes R S w v l) (hk : 0 < k) :
    ∃ ao c, v = .slice ao l.length c ∧ l.length * bytes ≤ 140737488355328 ∧ RowCells k R w ao l l.length := by
  obtain ⟨ao, c, hv, hl, hc⟩ := h
  refine ⟨ao, c, hv, hl, fun j hj => ?_⟩
  obtain ⟨b, off, ha, _, hcc⟩ := hc (by omega)
  obtain ⟨cs, h1, h2, h3⟩ := hcc j hj
  exact ⟨b, off, cs, ha, World.block_lt_of_cell? _ _ (h3 0 cs[0] (List.getElem?_eq_getElem (by omega))), h1, h2, h3⟩

theorem flatten_len {α : Type} (k : Nat) : ∀ (rows : List (List α)), (∀ r ∈ rows, r.length = k) → rows.flatten.length = rows.length * k
  | [], _ => by simp
  | r :: rows, h => by
    have := flatten_len k rows (fun x hx => h x (by simp [hx]))
    simp only [List.flatten_cons, List.length_append, List.length_cons, this, h r (by simp)]
    rw [Nat.add_mul]; omega

theorem flatten_get {α : Type} (k : Nat) : ∀ (rows : List (List α)) (j i : Nat), (∀ r ∈ rows, r.length = k) → j < rows.length → i < k → rows.flatten[j * k + i]? = (rows.getD j [])[i]?
  | [], j, i, _, h, _ => by simp at h
  | r :: rows, 0, i, h, _, hi => by
    have hr := h r (by simp)
    simp only [List.flatten_cons, Nat.zero_mul, Nat.zero_add]
    rw [List.getElem?_append_left (by omega)]
    simp
  | r :: rows, j + 1, i, h, hj, hi => by
    have hr := h r (by simp)
    have ih := flatten_get k rows j i (fun x hx => h x (by simp [hx])) (by simpa using hj) hi
    simp only [List.flatten_cons]
    rw [List.getElem?_append_right (by rw [hr, Nat.add_mul]; omega), hr, show (j + 1) * k + i - k = j * k + i by rw [Nat.add_mul]; omega, ih]
    simp

theorem owns_keep {w w' : World} {base e size n : Nat} {v : Value} {xs : List Value} (h : w.ownsRow base e size v n xs) (hk : ∀ g, v.ownBlock = some g → w'.heap[g]? = w.heap[g]?) : w'.ownsRow base e size v n xs := by
  refine ⟨h.1, ?_⟩
  rcases h.2 with hn | ⟨g, cap, cur, rfl, hb, hgg, rest⟩
  · exact .inl hn
  · exact .inr ⟨g, cap, cur, rfl, hb, (hk g rfl).trans hgg, rest⟩

/-- What a loop has gathered: n rows of 'size' cells in a block of its own, what they lead to elsewhere from B on. -/
structure OutInv {α : Type} [Inhabited α] (e size : Nat) (R : (Nat → Prop) → World → List Value → α → Prop) (B : Nat) (wr : World) (v : Value) (n : Nat) (rows : List (List Value)) (l : List α) : Prop where
  rn : rows.length = n
  ln : l.length = n
  own : wr.ownsRow B e size v n rows.flatten
  sizes : ∀ r ∈ rows, r.length = size
  each : ∀ j, j < n → R (fun b => B ≤ b ∧ v.ownBlock ≠ some b) wr (rows.getD j []) (l.getD j default)

theorem OutInv.nil {α : Type} [Inhabited α] (e size : Nat) (R : (Nat → Prop) → World → List Value → α → Prop) (B : Nat) (wr : World) : OutInv e size R B wr (.slice none 0 0) 0 [] [] :=
  ⟨rfl, rfl, World.ownsRow_nil _ _ _ _, fun _ h => by simp at h, fun j h => by omega⟩

section
variable {α : Type} [Inhabited α] {e size : Nat} {R : (Nat → Prop) → World → List Value → α → Prop} {B : Nat} {wr w3 w4 : World} {v : Value} {n : Nat} {rows : List (List Value)} {l : List α}

/-- In a world in which all older blocks are as they were, the row is as it was. -/
theorem OutInv.own3 (h : OutInv e size R B wr v n rows l) (h3 : Below wr.heap.size wr w3) : w3.ownsRow B e size v n rows.flatten :=
  owns_keep h.own (fun g hg => h3.block g (h.own.lt g hg).2)

/-- In a world in which all older blocks are as they were, all is as it was. -/
theorem OutInv.later (hkeep : ∀ (S T : Nat → Prop) w w' cs x, R S w cs x → KeepsIn S w w' → (∀ b, b < w.heap.size → S b → T b) → R T w' cs x) (h : OutInv e size R B wr v n rows l) (h3 : Below wr.heap.size wr w3) : OutInv e size R B w3 v n rows l :=
  ⟨h.rn, h.ln, h.own3 h3, h.sizes, fun j hj => hkeep _ _ _ _ _ _ (h.each j hj) (keeps_below h3) (fun _ _ h => h)⟩

/-- One element more. -/
theorem OutInv.step (hkeep : ∀ (S T : Nat → Prop) w w' cs x, R S w cs x → KeepsIn S w w' → (∀ b, b < w.heap.size → S b → T b) → R T w' cs x)
    (h : OutInv e size R B wr v n rows l) (hB : B ≤ wr.heap.size) (h3 : Below wr.heap.size wr w3) {row : List Value} {x : α} (hrow : R (fun b => wr.heap.size < b) w3 row x) (hlen : row.length = size)
    {g cap : Nat} (hown : w4.ownsRow B e size (.slice (some ⟨g, 0, none⟩) (n + 1) cap) (n + 1) (rows.flatten ++ row)) (hgrow : w3.grownBy w4 v.ownBlock) (hat : v.ownBlock = some g ∨ g = w3.heap.size) :
    OutInv e size R B w4 (.slice (some ⟨g, 0, none⟩) (n + 1) cap) (n + 1) (rows ++ [row]) (l ++ [x]) := by
  have hsz := h3.size
  have hlt : ∀ k, v.ownBlock = some k → k < wr.heap.size := fun k hk => (h.own.lt k hk).2
  refine ⟨by simp [h.rn], by simp [h.ln], by simpa using hown, ?_, fun j hj => ?_⟩
  · intro r hr
    rcases List.mem_append.1 hr with hr | hr
    · exact h.sizes r hr
    · simp at hr; rw [hr]; exact hlen
  · by_cases hjn : j < n
    · have e1 : (rows ++ [row]).getD j [] = rows.getD j [] := by simp [List.getD, List.getElem?_append_left (show j < rows.length by rw [h.rn]; exact hjn)]
      have e2 : (l ++ [x]).getD j default = l.getD j default := by simp [List.getD, List.getElem?_append_left (show j < l.length by rw [h.ln]; exact hjn)]
      rw [e1, e2]
      refine hkeep _ _ wr w4 _ _ (h.each j hjn) (fun b hb hbl => ?_) (fun b hbl hb => ⟨hb.1, ?_⟩)
      · exact (hgrow.block b (by omega) (fun e => hb.2 e.symm)).trans (h3.block b hbl)
      · simp only [Value.ownBlock]
        intro e
        cases e
        rcases hat with h' | h'
        · exact hb.2 h'
        · omega
    · have hjn' : j = n := by omega
      subst hjn'
      have e1 : (rows ++ [row]).getD j [] = row := by simp [List.getD, ← h.rn]
      have e2 : (l ++ [x]).getD j default = x := by simp [List.getD, ← h.ln]
      rw [e1, e2]
      refine hkeep _ _ w3 w4 _ _ hrow (fun b hb hbl => ?_) (fun b hbl hb => ⟨by omega, ?_⟩)
      · exact hgrow.block b hbl (fun e => by have := hlt b e.symm; omega)
      · simp only [Value.ownBlock]
        intro e
        cases e
        rcases hat with h' | h'
        · have := hlt _ h'; omega
        · omega

/-- At the end: the list lies in memory from B on. -/
theorem OutInv.rows_in {bytes : Nat} (hkeep : ∀ (S T : Nat → Prop) w w' cs x, R S w cs x → KeepsIn S w w' → (∀ b, b < w.heap.size → S b → T b) → R T w' cs x)
    (h : OutInv e size R B wr v n rows l) (hbytes : n * bytes ≤ 140737488355328) : RowsIn size bytes (R (fun b => B ≤ b) wr) (fun b => B ≤ b) wr v l := by
  have hl := h.ln
  subst hl
  rcases h.own.2 with ⟨hv, hn⟩ | ⟨g, cap, cur, hv, hg, _⟩
  · exact ⟨none, 0, by rw [hv, hn], hbytes, fun h0 => by omega⟩
  · refine ⟨some ⟨g, 0, none⟩, cap, hv, hbytes, fun _ => ⟨g, 0, rfl, hg, fun j hj => ?_⟩⟩
    have hjr : j < rows.length := by rw [h.rn]; exact hj
    have hmem : rows.getD j [] ∈ rows := by simp [List.getD, List.getElem?_eq_getElem hjr]
    refine ⟨rows.getD j [], h.sizes _ hmem, hkeep _ _ wr wr _ _ (h.each j hj) (fun _ _ _ => rfl) (fun b _ hb => hb.1), fun i u hi => ?_⟩
    have hil : i < size := by rw [← h.sizes _ hmem]; exact (List.getElem?_eq_some_iff.1 hi).1
    have := h.own.cells (g := g) (by rw [hv]; rfl) (j * size + i) u (by rw [flatten_get size rows j i h.sizes hjr hil]; exact hi)
    rw [Addr.add_lit] at this
    simpa [Nat.add_assoc] using this
end

/-- To store what is there changes nothing. -/
theorem setCell_self {w : World} {a : Addr} {v : Value} (h : w.cell? a = some v) : w.setCell a v = w := by
  have hh : (w.setCell a v).heap = w.heap := by
    apply Array.ext_getElem?
    intro k
    by_cases hk : k = a.block
    · subst hk
      simp only [World.setCell, Array.getElem?_modify, if_true]
      unfold World.cell? at h
      split at h
      · rename_i c t f hc
        split at h
        · cases h
        · rename_i hs
          rw [hc]
          have hlt : a.off < c.size := (Array.getElem?_eq_some_iff.1 h).1
          have hv : c[a.off] = v := (Array.getElem?_eq_some_iff.1 h).2
          simp only [← hv, Option.map_some, Option.some.injEq, Obj.cells.injEq, and_true]
          rw [if_neg hs]
          apply Array.ext_getElem?
          intro j
          rw [Array.getElem?_setIfInBounds]
          by_cases hj : a.off = j
          · subst hj; simp [hlt]
          · simp [hj]
      · cases h
    · exact Below.heap_setCell _ _ _ _ hk
  cases w
  simp only [World.setCell] at hh ⊢
  simp [hh]
end Go.Proofs.YtjobdfgcgnpppaaDoor
namespace Go.Proofs.YtjobdfgcgnpppaaDoor
set_option linter.unusedVariables false
set_option linter.unusedSimpArgs false
open Go.RowKit


/-- An operation, plain: its kind, key, value, list, and whether it has one, whether that is nil. -/
abbrev MOp := Int × ByteArray × Int × List Int × Bool × Bool
abbrev MOp.kind (o : MOp) : Int := o.1
abbrev MOp.key (o : MOp) : ByteArray := o.2.1
abbrev MOp.value (o : MOp) : Int := o.2.2.1
abbrev MOp.list (o : MOp) : List Int := o.2.2.2.1
abbrev MOp.has (o : MOp) : Bool := o.2.2.2.2.1
abbrev MOp.nl (o : MOp) : Bool := o.2.2.2.2.2

/-- An event, plain: its kind, process and operations. -/
abbrev MEv := Int × Int × List MOp
abbrev MEv.kind (e : MEv) : Int := e.1
abbrev MEv.proc (e : MEv) : Int := e.2.1
abbrev MEv.ops (e : MEv) : List MOp := e.2.2

def intsEq (xs ys : List Int) : Bool := allEq (fun x y => x == y) xs ys
def opEq (x y : MOp) : Bool := x.kind == y.kind && (x.key.toList == y.key.toList && (x.value == y.value && (x.has == y.has && (x.nl == y.nl && intsEq x.list y.list))))
def opsEq (xs ys : List MOp) : Bool := allEq opEq xs ys
def evEq (x y : MEv) : Bool := x.kind == y.kind && (x.proc == y.proc && opsEq x.ops y.ops)
def evsEq (xs ys : List MEv) : Bool := allEq evEq xs ys

theorem intsEq_refl (xs : List Int) : intsEq xs xs = true := allEq_refl _ (by simp) xs
theorem intsEq_symm (xs ys : List Int) : intsEq xs ys = intsEq ys xs := allEq_symm _ (fun x y => by rw [Bool.eq_iff_iff, beq_iff_eq, beq_iff_eq]; exact eq_comm) xs ys
theorem opEq_refl (x : MOp) : opEq x x = true := by simp [opEq, intsEq_refl]
theorem beq_sw {α : Type} [BEq α] [LawfulBEq α] (a b : α) : (a == b) = (b == a) := by rw [Bool.eq_iff_iff, beq_iff_eq, beq_iff_eq]; exact eq_comm
theorem opEq_symm (x y : MOp) : opEq x y = opEq y x := by
  unfold opEq; rw [beq_sw x.kind, beq_sw x.key.toList, beq_sw x.value, beq_sw x.has, beq_sw x.nl, intsEq_symm]
theorem evEq_refl (x : MEv) : evEq x x = true := by simp [evEq, opsEq, allEq_refl _ opEq_refl]
theorem evEq_symm (x y : MEv) : evEq x y = evEq y x := by
  unfold evEq opsEq; rw [beq_sw x.kind, beq_sw x.proc, allEq_symm _ opEq_symm]

/-- A slice of ints in memory, all of it in blocks of S. -/
def IntsIn (S : Nat → Prop) (w : World) (v : Value) (l : List Int) : Prop :=
  ∃ ao c, v = .slice ao l.length c ∧ l.length * 8 ≤ 140737488355328 ∧ (0 < l.length → ∃ b off, ao = some ⟨b, off, none⟩ ∧ S b ∧ ∀ j, j < l.length → w.cell? ⟨b, off + j, none⟩ = some (.int .i64 (l.getD j default)))

/-- The six cells of an operation. -/
def OpRow (S : Nat → Prop) (w : World) (cs : List Value) (o : MOp) : Prop :=
  ∃ lv, cs = [.int .i64 o.kind, .string o.key, .int .i64 o.value, lv, .bool o.has, .bool o.nl] ∧ IntsIn S w lv o.list

def OpsIn (S : Nat → Prop) (w : World) (v : Value) (l : List MOp) : Prop := RowsIn 6 64 (OpRow S w) S w v l
def EvRow (S : Nat → Prop) (w : World) (cs : List Value) (e : MEv) : Prop :=
  ∃ ov, cs = [.int .i64 e.kind, .int .i64 e.proc, ov] ∧ OpsIn S w ov e.ops
def EvsIn (S : Nat → Prop) (w : World) (v : Value) (l : List MEv) : Prop := RowsIn 3 40 (EvRow S w) S w v l

theorem IntsIn.keep {S T : Nat → Prop} {w w' : World} {v : Value} {l : List Int} (h : IntsIn S w v l) (hk : KeepsIn S w w') (hT : ∀ b, b < w.heap.size → S b → T b) : IntsIn T w' v l := by
  obtain ⟨ao, c, hv, hl, hc⟩ := h
  refine ⟨ao, c, hv, hl, fun h0 => ?_⟩
  obtain ⟨b, off, ha, hS, hj⟩ := hc h0
  exact ⟨b, off, ha, hT b (World.block_lt_of_cell? _ _ (hj 0 h0)) hS, fun j h => hk.cell (p := ⟨b, off + j, none⟩) hS (hj j h)⟩

theorem OpRow.keep {S T : Nat → Prop} {w w' : World} {cs : List Value} {o : MOp} (h : OpRow S w cs o) (hk : KeepsIn S w w') (hT : ∀ b, b < w.heap.size → S b → T b) : OpRow T w' cs o := by
  obtain ⟨lv, hcs, hl⟩ := h
  exact ⟨lv, hcs, hl.keep hk hT⟩

theorem OpsIn.keep {S T : Nat → Prop} {w w' : World} {v : Value} {l : List MOp} (h : OpsIn S w v l) (hk : KeepsIn S w w') (hT : ∀ b, b < w.heap.size → S b → T b) : OpsIn T w' v l :=
  RowsIn.keep h (by omega) (fun _ _ hr => OpRow.keep hr hk hT) hk hT

theorem EvRow.keep {S T : Nat → Prop} {w w' : World} {cs : List Value} {o : MEv} (h : EvRow S w cs o) (hk : KeepsIn S w w') (hT : ∀ b, b < w.heap.size → S b → T b) : EvRow T w' cs o := by
  obtain ⟨lv, hcs, hl⟩ := h
  exact ⟨lv, hcs, hl.keep hk hT⟩

theorem EvsIn.keep {S T : Nat → Prop} {w w' : World} {v : Value} {l : List MEv} (h : EvsIn S w v l) (hk : KeepsIn S w w') (hT : ∀ b, b < w.heap.size → S b → T b) : EvsIn T w' v l :=
  RowsIn.keep h (by omega) (fun _ _ hr => EvRow.keep hr hk hT) hk hT

theorem IntsIn.below {w w' : World} {v : Value} {l : List Int} (h : IntsIn Any w v l) (hb : Below w.heap.size w w') : IntsIn Any w' v l := h.keep (keeps_below hb) (fun _ _ _ => trivial)
theorem OpsIn.below {w w' : World} {v : Value} {l : List MOp} (h : OpsIn Any w v l) (hb : Below w.heap.size w w') : OpsIn Any w' v l := h.keep (keeps_below hb) (fun _ _ _ => trivial)
theorem EvsIn.below {w w' : World} {v : Value} {l : List MEv} (h : EvsIn Any w v l) (hb : Below w.heap.size w w') : EvsIn Any w' v l := h.keep (keeps_below hb) (fun _ _ _ => trivial)

end Go.Proofs.YtjobdfgcgnpppaaDoor
namespace Go.Proofs.YtjobdfgcgnpppaaDoor
set_option linter.unusedVariables false
set_option linter.unusedSimpArgs false
open Go.RowKit

/-- The int at each place of a slice of length n. -/
def IntCells (w : World) (ao : Option Addr) (xs : List Int) (n : Nat) : Prop := ∀ j, j < n → ∃ b o, ao = some ⟨b, o, none⟩ ∧ w.cell? ⟨b, o + j, none⟩ = some (.int .i64 (xs.getD j default))

theorem IntsIn.cells {S : Nat → Prop} {w : World} {v : Value} {l : List Int} (h : IntsIn S w v l) : ∃ ao c, v = .slice ao l.length c ∧ l.length * 8 ≤ 140737488355328 ∧ IntCells w ao l l.length := by
  obtain ⟨ao, c, hv, hl, hc⟩ := h
  refine ⟨ao, c, hv, hl, fun j hj => ?_⟩
  obtain ⟨b, off, ha, _, hcc⟩ := hc (by omega)
  exact ⟨b, off, ha, hcc j hj⟩

set_option maxHeartbeats 400000 in
theorem slicesEqual_walk (a1 a2 : Option Addr) (c1 c2 n : Nat) (xs ys : List Int) (w : World) (hx : xs.length = n) (hy : ys.length = n) (_hbig : n ≤ 9223372036854775807)
    (h1 : IntCells w a1 xs n) (h2 : IntCells w a2 ys n) :
    Calls Tryd.prog 38 #[.slice a1 n c1, .slice a2 n c2] w fun e w' => e = .returned (.bool (intsEq xs ys)) ∧ Below w.heap.size w w' := by
  have HX : Hid (xs.length = n) := hx
  have HY : Hid (ys.length = n) := hy
  clear hx hy
  go_enter Tryd.func38, Tryd.ntmps38
  go_wp2
  go_loopg [5, 13] n (fun g _ i wr => ∃ k : Nat, k ≤ n ∧ n - k ≤ g ∧ i = .int .i64 k ∧ Aside (∃ q, wr = w.drewN q) ∧ Aside (∀ j, j < k → (xs.getD j default == ys.getD j default) = true))
  case atStart => exact ⟨0, Nat.zero_le _, by omega, rfl, ⟨0, rfl⟩, fun j hj => absurd hj (Nat.not_lt_zero _)⟩
  case round =>
    obtain ⟨k, hk, hg, rfl, ⟨q, rfl⟩, A⟩ := hrel
    by_cases hlt : k < n
    · have hlti : (k : Int) < (n : Int) := by omega
      obtain ⟨b1, o1, rfl, k1⟩ := h1 k hlt
      obtain ⟨b2, o2, rfl, k2⟩ := h2 k hlt
      clear h1 h2
      generalize hX : xs.getD k default = X at k1
      generalize hY : ys.getD k default = Y at k2
      have HX' : Hid (xs.getD k default = X) := hX
      have HY' : Hid (ys.getD k default = Y) := hY
      clear hX hY
      cases hq : (X == Y) with
      | true =>
        have hne : (X != Y) = false := by simp [bne, hq]
        have HQ : Hid ((X == Y) = true) := hq
        clear hq
        go_wp2
        go_quiet (fail)
        go_wp2
        go_roundg (n - (k + 1))
        case measure => omega
        case rel =>
          refine ⟨k + 1, by omega, by omega, by go_num, ⟨_, rfl⟩, (show Aside _ from fun j hj => ?_)⟩
          by_cases e : j = k
          · subst e; rw [HX'.out, HY'.out]; exact HQ.out
          · exact A.out j (by omega)
      | false =>
        have hne : (X != Y) = true := by simp [bne, hq]
        have HQ : Hid ((X == Y) = false) := hq
        clear hq
        go_wp2
        go_quiet (fail)
        go_wp2
        go_ret
        refine ⟨?_, ⟨rfl, rfl, rfl, Nat.le_refl _, fun _ _ => rfl⟩⟩
        rw [show intsEq xs ys = false from allEq_miss _ xs ys k (by rw [HX.out]; exact hlt) (by rw [HX'.out, HY'.out]; exact HQ.out)]
        rfl
    · go_wp2
      go_ret
      refine ⟨?_, ⟨rfl, rfl, rfl, Nat.le_refl _, fun _ _ => rfl⟩⟩
      rw [show intsEq xs ys = true from allEq_hit _ xs ys (by rw [HX.out, HY.out]) (fun j hj => A.out j (by rw [HX.out] at hj; omega))]
      rfl

theorem slicesEqual_lens (a1 a2 : Option Addr) (c1 c2 n m : Nat) (w : World) (hnm : n ≠ m) :
    Calls Tryd.prog 38 #[.slice a1 n c1, .slice a2 m c2] w fun e w' => e = .returned (.bool false) ∧ Below w.heap.size w w' := by
  have hne : ((n : Int) != (m : Int)) = true := by rw [bne_iff_ne]; omega
  go_enter Tryd.func38, Tryd.ntmps38
  go_wp2
  go_ret
  exact ⟨rfl, Below.refl _ _⟩

/-- slices.Equal tells whether two lists of ints are the same. -/
theorem slicesEqual_any {S T : Nat → Prop} (v1 v2 : Value) (xs ys : List Int) (w : World) (h1 : IntsIn S w v1 xs) (h2 : IntsIn T w v2 ys) :
    Calls Tryd.prog 38 #[v1, v2] w fun e w' => e = .returned (.bool (intsEq xs ys)) ∧ Below w.heap.size w w' := by
  obtain ⟨a1, c1, rfl, l1, k1⟩ := h1.cells
  obtain ⟨a2, c2, rfl, l2, k2⟩ := h2.cells
  by_cases h : xs.length = ys.length
  · rw [← h] at k2 ⊢
    exact slicesEqual_walk a1 a2 c1 c2 xs.length xs ys w rfl h.symm (by omega) k1 k2
  · rw [show intsEq xs ys = false from allEq_len _ xs ys h]
    exact slicesEqual_lens a1 a2 c1 c2 _ _ w h


theorem ret_bool {a b : Bool} (h : a = b) : Ending.returned (.bool a) = .returned (.bool b) := by rw [h]

set_option maxHeartbeats 1000000 in
theorem sameOp_any {S T : Nat → Prop} (x y : MOp) (l1 l2 : Value) (w : World) (h1 : IntsIn S w l1 x.list) (h2 : IntsIn T w l2 y.list) :
    Calls Tryd.prog 37 #[.agg #[.int .i64 x.kind, .string x.key, .int .i64 x.value, l1, .bool x.has, .bool x.nl], .agg #[.int .i64 y.kind, .string y.key, .int .i64 y.value, l2, .bool y.has, .bool y.nl]] w
      fun e w' => e = .returned (.bool (opEq x y)) ∧ Below w.heap.size w w' := by
  obtain ⟨xk, xs, xv, xl, xh, xn⟩ := x
  obtain ⟨yk, ys, yv, yl, yh, yn⟩ := y
  obtain ⟨a1, c1, rfl, -⟩ := id h1
  obtain ⟨a2, c2, rfl, -⟩ := id h2
  simp only [opEq, MOp.kind, MOp.key, MOp.value, MOp.list, MOp.has, MOp.nl] at *
  generalize hw2 : (w.alloc (.cells #[.int .i64 xk, .string xs, .int .i64 xv, .slice a1 xl.length c1, .bool xh, .bool xn] 76)).alloc (.cells #[.int .i64 yk, .string ys, .int .i64 yv, .slice a2 yl.length c2, .bool yh, .bool yn] 76) = w2
  have B0 : Below w.heap.size w w2 := by rw [← hw2]; exact ((Below.refl _ w).alloc (Nat.le_refl _) _).alloc (by simp) _
  have hs : w.heap.size ≤ w2.heap.size := B0.size
  have H := hid (slicesEqual_any _ _ xl yl w2 (h1.keep (keeps_below B0) (fun _ _ h => h)) (h2.keep (keeps_below B0) (fun _ _ h => h)))
  rw [← hw2] at H B0 hs
  have HB := hid B0
  have HS := hid hs
  clear h1 h2 B0 hs hw2
  generalize intsEq xl yl = r at *
  cases q1 : (xk == yk)
  · go_enter Tryd.func37, Tryd.ntmps37
    go_wp2_with fail
    go_ret
    exact ⟨rfl, HB.out⟩
  cases q2 : (xs.toList == ys.toList)
  · go_enter Tryd.func37, Tryd.ntmps37
    go_wp2_with fail
    go_ret
    exact ⟨rfl, HB.out⟩
  cases q3 : (xv == yv)
  · go_enter Tryd.func37, Tryd.ntmps37
    go_wp2_with fail
    go_ret
    exact ⟨rfl, HB.out⟩
  cases q4 : (xh == yh)
  · go_enter Tryd.func37, Tryd.ntmps37
    go_wp2_with fail
    go_ret
    exact ⟨rfl, HB.out⟩
  cases q5 : (xn == yn)
  · go_enter Tryd.func37, Tryd.ntmps37
    go_wp2_with fail
    go_ret
    exact ⟨rfl, HB.out⟩
  · go_enter Tryd.func37, Tryd.ntmps37
    go_wp2_with (go_at_call 38; refine H.out.mono ?_; rintro e w' ⟨rfl, hb⟩)
    go_ret
    exact ⟨rfl, HB.out.trans (hb.mono HS.out)⟩

set_option maxHeartbeats 1000000 in
theorem equalOps_walk {S T : Nat → Prop} (a1 a2 : Option Addr) (c1 c2 n : Nat) (xs ys : List MOp) (w : World) (hx : xs.length = n) (hy : ys.length = n) (_hbig : n ≤ 9223372036854775807)
    (h1 : RowCells 6 (OpRow S w) w a1 xs n) (h2 : RowCells 6 (OpRow T w) w a2 ys n) :
    Calls Tryd.prog 36 #[.slice a1 n c1, .slice a2 n c2, .func (.func 37) #[] #[]] w fun e w' => e = .returned (.bool (opsEq xs ys)) ∧ Below w.heap.size w w' := by
  have HX : Hid (xs.length = n) := hx
  have HY : Hid (ys.length = n) := hy
  clear hx hy
  go_enter Tryd.func36, Tryd.ntmps36
  go_wp2
  go_loopg [7, 8, 9, 17] n (fun g _ _ _ i wr => ∃ k : Nat, k ≤ n ∧ n - k ≤ g ∧ i = .int .i64 k ∧ Aside (Below w.heap.size w wr) ∧ Aside (∀ j, j < k → opEq (xs.getD j default) (ys.getD j default) = true))
  case atStart => exact ⟨0, Nat.zero_le _, by omega, rfl, Below.refl _ _, fun j hj => absurd hj (Nat.not_lt_zero _)⟩
  case round =>
    obtain ⟨k, hk, hg, rfl, BW, A⟩ := hrel
    by_cases hlt : k < n
    · have hlti : (k : Int) < (n : Int) := by omega
      obtain ⟨b1, o1, cs1, rfl, hb1, _, ⟨l1, rfl, i1⟩, k1⟩ := h1 k hlt
      obtain ⟨b2, o2, cs2, rfl, hb2, _, ⟨l2, rfl, i2⟩, k2⟩ := h2 k hlt
      clear h1 h2
      have d0 : wr.cell? ⟨b1, o1 + k * 6, none⟩ = _ := (BW.out.cell (p := ⟨b1, o1 + k * 6, none⟩) hb1).trans (k1 0 _ rfl)
      have d1 := (BW.out.cell (p := ⟨b1, o1 + k * 6 + 1, none⟩) hb1).trans (k1 1 _ rfl)
      have d2 := (BW.out.cell (p := ⟨b1, o1 + k * 6 + 2, none⟩) hb1).trans (k1 2 _ rfl)
      have d3 := (BW.out.cell (p := ⟨b1, o1 + k * 6 + 3, none⟩) hb1).trans (k1 3 _ rfl)
      have d4 := (BW.out.cell (p := ⟨b1, o1 + k * 6 + 4, none⟩) hb1).trans (k1 4 _ rfl)
      have d5 := (BW.out.cell (p := ⟨b1, o1 + k * 6 + 5, none⟩) hb1).trans (k1 5 _ rfl)
      have e0 : wr.cell? ⟨b2, o2 + k * 6, none⟩ = _ := (BW.out.cell (p := ⟨b2, o2 + k * 6, none⟩) hb2).trans (k2 0 _ rfl)
      have e1 := (BW.out.cell (p := ⟨b2, o2 + k * 6 + 1, none⟩) hb2).trans (k2 1 _ rfl)
      have e2 := (BW.out.cell (p := ⟨b2, o2 + k * 6 + 2, none⟩) hb2).trans (k2 2 _ rfl)
      have e3 := (BW.out.cell (p := ⟨b2, o2 + k * 6 + 3, none⟩) hb2).trans (k2 3 _ rfl)
      have e4 := (BW.out.cell (p := ⟨b2, o2 + k * 6 + 4, none⟩) hb2).trans (k2 4 _ rfl)
      have e5 := (BW.out.cell (p := ⟨b2, o2 + k * 6 + 5, none⟩) hb2).trans (k2 5 _ rfl)
      clear k1 k2
      have hsz := BW.out.size
      have hb2r : b2 < wr.heap.size := Nat.lt_of_lt_of_le hb2 hsz
      have hne2 : b2 ≠ wr.heap.size := by omega
      have j1 := i1.keep (keeps_below BW.out) (fun _ _ h => h)
      have j2 := i2.keep (keeps_below BW.out) (fun _ _ h => h)
      clear i1 i2
      have HA : Hid (∀ b, b = opEq (xs.getD k default) (ys.getD k default) → b = opEq (xs.getD k default) (ys.getD k default)) := fun _ h => h
      generalize hX : xs.getD k default = X at *
      generalize hY : ys.getD k default = Y at *
      have HX' := hid hX
      have HY' := hid hY
      clear hX hY HA
      obtain ⟨al1, cl1, rfl, -⟩ := id j1
      obtain ⟨al2, cl2, rfl, -⟩ := id j2
      go_wp2_with fail
      refine (sameOp_any (S := S) (T := T) X Y _ _ _ (j1.keep (keeps_below (((Below.refl _ wr).alloc (Nat.le_refl _) _).alloc (by simp) _)) (fun _ _ h => h)) (j2.keep (keeps_below (((Below.refl _ wr).alloc (Nat.le_refl _) _).alloc (by simp) _)) (fun _ _ h => h))).mono ?_
      rintro e w' ⟨rfl, hb⟩
      have hbw : Below w.heap.size w w' := (BW.out.trans ((((Below.refl _ wr).alloc (Nat.le_refl _) _).alloc (by simp) _).mono hsz)).trans (hb.mono (by simp; omega))
      have HB := hid hbw
      clear hb hbw j1 j2 d0 d1 d2 d3 d4 d5 e0 e1 e2 e3 e4 e5
      generalize hq : opEq X Y = r
      have HQ := hid hq
      clear hq
      cases r with
      | false =>
        go_wp2
        go_ret
        refine ⟨?_, HB.out⟩
        rw [show opsEq xs ys = false from allEq_miss _ xs ys k (by rw [HX.out]; exact hlt) (by rw [HX'.out, HY'.out]; exact HQ.out)]
        rfl
      | true =>
        go_wp2
        go_roundg (n - (k + 1))
        case measure => omega
        case rel =>
          refine ⟨k + 1, by omega, by omega, by go_num, HB.out, (show Aside _ from fun j hj => ?_)⟩
          by_cases e : j = k
          · subst e; rw [HX'.out, HY'.out]; exact HQ.out
          · exact A.out j (by omega)
    · go_wp2
      go_ret
      refine ⟨?_, BW.out⟩
      rw [show opsEq xs ys = true from allEq_hit _ xs ys (by rw [HX.out, HY.out]) (fun j hj => A.out j (by rw [HX.out] at hj; omega))]
      rfl
theorem equalOps_lens (a1 a2 : Option Addr) (c1 c2 n m : Nat) (fv : Value) (w : World) (hnm : n ≠ m) :
    Calls Tryd.prog 36 #[.slice a1 n c1, .slice a2 m c2, fv] w fun e w' => e = .returned (.bool false) ∧ Below w.heap.size w w' := by
  have hne : ((n : Int) != (m : Int)) = true := by rw [bne_iff_ne]; omega
  go_enter Tryd.func36, Tryd.ntmps36
  go_wp2
  go_ret
  exact ⟨rfl, Below.refl _ _⟩

/-- slices.EqualFunc with sameOp tells whether two lists of operations are the same. -/
theorem equalOps_any {S T : Nat → Prop} (v1 v2 : Value) (xs ys : List MOp) (w : World) (h1 : OpsIn S w v1 xs) (h2 : OpsIn T w v2 ys) :
    Calls Tryd.prog 36 #[v1, v2, .func (.func 37) #[] #[]] w fun e w' => e = .returned (.bool (opsEq xs ys)) ∧ Below w.heap.size w w' := by
  obtain ⟨a1, c1, rfl, l1, k1⟩ := RowsIn.cells h1 (by omega)
  obtain ⟨a2, c2, rfl, l2, k2⟩ := RowsIn.cells h2 (by omega)
  by_cases h : xs.length = ys.length
  · rw [← h] at k2 ⊢
    exact equalOps_walk a1 a2 c1 c2 xs.length xs ys w rfl h.symm (by omega) k1 k2
  · rw [show opsEq xs ys = false from allEq_len _ xs ys h]
    exact equalOps_lens a1 a2 c1 c2 _ _ _ w h

/-- SameOps tells whether two lists of operations are the same. -/
theorem sameOps_any {S T : Nat → Prop} (v1 v2 : Value) (xs ys : List MOp) (w : World) (h1 : OpsIn S w v1 xs) (h2 : OpsIn T w v2 ys) :
    Calls Tryd.prog 25 #[v1, v2] w fun e w' => e = .returned (.bool (opsEq xs ys)) ∧ Below w.heap.size w w' := by
  have H := hid (equalOps_any v1 v2 xs ys w h1 h2)
  obtain ⟨a1, c1, rfl, -⟩ := id h1
  obtain ⟨a2, c2, rfl, -⟩ := id h2
  clear h1 h2
  go_enter Tryd.func25, Tryd.ntmps25
  go_wp2_with (go_at_call 36; refine H.out.mono ?_; rintro e w' ⟨rfl, hb⟩)
  go_ret
  exact ⟨rfl, hb⟩

set_option maxHeartbeats 1000000 in
/-- sameEvent tells whether two events are the same. -/
theorem sameEvent_any {S T : Nat → Prop} (x y : MEv) (l1 l2 : Value) (w : World) (h1 : OpsIn S w l1 x.ops) (h2 : OpsIn T w l2 y.ops) :
    Calls Tryd.prog 24 #[.agg #[.int .i64 x.kind, .int .i64 x.proc, l1], .agg #[.int .i64 y.kind, .int .i64 y.proc, l2]] w
      fun e w' => e = .returned (.bool (evEq x y)) ∧ Below w.heap.size w w' := by
  obtain ⟨xk, xp, xl⟩ := x
  obtain ⟨yk, yp, yl⟩ := y
  obtain ⟨a1, c1, rfl, -⟩ := id h1
  obtain ⟨a2, c2, rfl, -⟩ := id h2
  simp only [evEq, MEv.kind, MEv.proc, MEv.ops] at *
  generalize hw2 : (w.alloc (.cells #[.int .i64 xk, .int .i64 xp, .slice a1 xl.length c1] 42)).alloc (.cells #[.int .i64 yk, .int .i64 yp, .slice a2 yl.length c2] 42) = w2
  have B0 : Below w.heap.size w w2 := by rw [← hw2]; exact ((Below.refl _ w).alloc (Nat.le_refl _) _).alloc (by simp) _
  have hs : w.heap.size ≤ w2.heap.size := B0.size
  have H := hid (sameOps_any _ _ xl yl w2 (h1.keep (keeps_below B0) (fun _ _ h => h)) (h2.keep (keeps_below B0) (fun _ _ h => h)))
  rw [← hw2] at H B0 hs
  have HB := hid B0
  have HS := hid hs
  clear h1 h2 B0 hs hw2
  generalize opsEq xl yl = r at *
  cases q1 : (xk == yk)
  · go_enter Tryd.func24, Tryd.ntmps24
    go_wp2_with fail
    go_ret
    exact ⟨rfl, HB.out⟩
  cases q2 : (xp == yp)
  · go_enter Tryd.func24, Tryd.ntmps24
    go_wp2_with fail
    go_ret
    exact ⟨rfl, HB.out⟩
  · go_enter Tryd.func24, Tryd.ntmps24
    go_wp2_with (go_at_call 25; refine H.out.mono ?_; rintro e w' ⟨rfl, hb⟩)
    go_ret
    exact ⟨rfl, HB.out.trans (hb.mono HS.out)⟩

set_option maxHeartbeats 1000000 in
theorem equalEvs_walk {S T : Nat → Prop} (a1 a2 : Option Addr) (c1 c2 n : Nat) (xs ys : List MEv) (w : World) (hx : xs.length = n) (hy : ys.length = n) (_hbig : n ≤ 9223372036854775807)
    (h1 : RowCells 3 (EvRow S w) w a1 xs n) (h2 : RowCells 3 (EvRow T w) w a2 ys n) :
    Calls Tryd.prog 23 #[.slice a1 n c1, .slice a2 n c2, .func (.func 24) #[] #[]] w fun e w' => e = .returned (.bool (evsEq xs ys)) ∧ Below w.heap.size w w' := by
  have HX : Hid (xs.length = n) := hx
  have HY : Hid (ys.length = n) := hy
  clear hx hy
  go_enter Tryd.func23, Tryd.ntmps23
  go_wp2
  go_loopg [7, 8, 9, 17] n (fun g _ _ _ i wr => ∃ k : Nat, k ≤ n ∧ n - k ≤ g ∧ i = .int .i64 k ∧ Aside (Below w.heap.size w wr) ∧ Aside (∀ j, j < k → evEq (xs.getD j default) (ys.getD j default) = true))
  case atStart => exact ⟨0, Nat.zero_le _, by omega, rfl, Below.refl _ _, fun j hj => absurd hj (Nat.not_lt_zero _)⟩
  case round =>
    obtain ⟨k, hk, hg, rfl, BW, A⟩ := hrel
    by_cases hlt : k < n
    · have hlti : (k : Int) < (n : Int) := by omega
      obtain ⟨b1, o1, cs1, rfl, hb1, _, ⟨l1, rfl, i1⟩, k1⟩ := h1 k hlt
      obtain ⟨b2, o2, cs2, rfl, hb2, _, ⟨l2, rfl, i2⟩, k2⟩ := h2 k hlt
      clear h1 h2
      have d0 : wr.cell? ⟨b1, o1 + k * 3, none⟩ = _ := (BW.out.cell (p := ⟨b1, o1 + k * 3, none⟩) hb1).trans (k1 0 _ rfl)
      have d1 := (BW.out.cell (p := ⟨b1, o1 + k * 3 + 1, none⟩) hb1).trans (k1 1 _ rfl)
      have d2 := (BW.out.cell (p := ⟨b1, o1 + k * 3 + 2, none⟩) hb1).trans (k1 2 _ rfl)
      have e0 : wr.cell? ⟨b2, o2 + k * 3, none⟩ = _ := (BW.out.cell (p := ⟨b2, o2 + k * 3, none⟩) hb2).trans (k2 0 _ rfl)
      have e1 := (BW.out.cell (p := ⟨b2, o2 + k * 3 + 1, none⟩) hb2).trans (k2 1 _ rfl)
      have e2 := (BW.out.cell (p := ⟨b2, o2 + k * 3 + 2, none⟩) hb2).trans (k2 2 _ rfl)
      clear k1 k2
      have hsz := BW.out.size
      have hb2r : b2 < wr.heap.size := Nat.lt_of_lt_of_le hb2 hsz
      have hne2 : b2 ≠ wr.heap.size := by omega
      have j1 := i1.keep (keeps_below BW.out) (fun _ _ h => h)
      have j2 := i2.keep (keeps_below BW.out) (fun _ _ h => h)
      clear i1 i2
      generalize hX : xs.getD k default = X at *
      generalize hY : ys.getD k default = Y at *
      have HX' := hid hX
      have HY' := hid hY
      clear hX hY
      obtain ⟨al1, cl1, rfl, -⟩ := id j1
      obtain ⟨al2, cl2, rfl, -⟩ := id j2
      go_wp2_with fail
      refine (sameEvent_any (S := S) (T := T) X Y _ _ _ (j1.keep (keeps_below (((Below.refl _ wr).alloc (Nat.le_refl _) _).alloc (by simp) _)) (fun _ _ h => h)) (j2.keep (keeps_below (((Below.refl _ wr).alloc (Nat.le_refl _) _).alloc (by simp) _)) (fun _ _ h => h))).mono ?_
      rintro e w' ⟨rfl, hb⟩
      have hbw : Below w.heap.size w w' := (BW.out.trans ((((Below.refl _ wr).alloc (Nat.le_refl _) _).alloc (by simp) _).mono hsz)).trans (hb.mono (by simp; omega))
      have HB := hid hbw
      clear hb hbw j1 j2 d0 d1 d2 e0 e1 e2
      generalize hq : evEq X Y = r
      have HQ := hid hq
      clear hq
      cases r with
      | false =>
        go_wp2
        go_ret
        refine ⟨?_, HB.out⟩
        rw [show evsEq xs ys = false from allEq_miss _ xs ys k (by rw [HX.out]; exact hlt) (by rw [HX'.out, HY'.out]; exact HQ.out)]
        rfl
      | true =>
        go_wp2
        go_roundg (n - (k + 1))
        case measure => omega
        case rel =>
          refine ⟨k + 1, by omega, by omega, by go_num, HB.out, (show Aside _ from fun j hj => ?_)⟩
          by_cases e : j = k
          · subst e; rw [HX'.out, HY'.out]; exact HQ.out
          · exact A.out j (by omega)
    · go_wp2
      go_ret
      refine ⟨?_, BW.out⟩
      rw [show evsEq xs ys = true from allEq_hit _ xs ys (by rw [HX.out, HY.out]) (fun j hj => A.out j (by rw [HX.out] at hj; omega))]
      rfl

theorem equalEvs_lens (a1 a2 : Option Addr) (c1 c2 n m : Nat) (fv : Value) (w : World) (hnm : n ≠ m) :
    Calls Tryd.prog 23 #[.slice a1 n c1, .slice a2 m c2, fv] w fun e w' => e = .returned (.bool false) ∧ Below w.heap.size w w' := by
  have hne : ((n : Int) != (m : Int)) = true := by rw [bne_iff_ne]; omega
  go_enter Tryd.func23, Tryd.ntmps23
  go_wp2
  go_ret
  exact ⟨rfl, Below.refl _ _⟩

/-- slices.EqualFunc with sameEvent tells whether two histories are the same. -/
theorem equalEvs_any {S T : Nat → Prop} (v1 v2 : Value) (xs ys : List MEv) (w : World) (h1 : EvsIn S w v1 xs) (h2 : EvsIn T w v2 ys) :
    Calls Tryd.prog 23 #[v1, v2, .func (.func 24) #[] #[]] w fun e w' => e = .returned (.bool (evsEq xs ys)) ∧ Below w.heap.size w w' := by
  obtain ⟨a1, c1, rfl, l1, k1⟩ := RowsIn.cells h1 (by omega)
  obtain ⟨a2, c2, rfl, l2, k2⟩ := RowsIn.cells h2 (by omega)
  by_cases h : xs.length = ys.length
  · rw [← h] at k2 ⊢
    exact equalEvs_walk a1 a2 c1 c2 xs.length xs ys w rfl h.symm (by omega) k1 k2
  · rw [show evsEq xs ys = false from allEq_len _ xs ys h]
    exact equalEvs_lens a1 a2 c1 c2 _ _ _ w h

/-- histtext.Same tells whether two histories are the same. -/
theorem same_any {S T : Nat → Prop} (v1 v2 : Value) (xs ys : List MEv) (w : World) (h1 : EvsIn S w v1 xs) (h2 : EvsIn T w v2 ys) :
    Calls Tryd.prog 13 #[v1, v2] w fun e w' => e = .returned (.bool (evsEq xs ys)) ∧ Below w.heap.size w w' := by
  have H := hid (equalEvs_any v1 v2 xs ys w h1 h2)
  obtain ⟨a1, c1, rfl, -⟩ := id h1
  obtain ⟨a2, c2, rfl, -⟩ := id h2
  clear h1 h2
  go_enter Tryd.func13, Tryd.ntmps13
  go_wp2_with (go_at_call 23; refine H.out.mono ?_; rintro e w' ⟨rfl, hb⟩)
  go_ret
  exact ⟨rfl, hb⟩
end Go.Proofs.YtjobdfgcgnpppaaDoor
