/-
  A text's tokens, plain: runs of bytes, numbers, tokens, and what a whole text comes to.
  What strconv.Atoi comes to at a number's bytes.
  The library's contracts for strconv.Atoi and for what strings.Clone calls, at this program: each is one application of the library's theorem.
  Walks of the smallest functions of the scanner and of its reference.
-/
import Derived.Lib.AtoiAll
import Derived.Lib.Strings
import Derived.Shelf.Strconv.Clone
import Derived.Shelf.LaysM
import Derived.Shelf.LaysC
import Derived.Shelf.Strconv.AtoiAll
import Derived.Test.YtegeiojcdjnmjaaGreatDoorProg
import Derived.Test.YtegeiojcdjnmjaaGreatDoorRows
import Derived.WalkKit
import Derived.ProofKit
import Derived.Deep.LoopGhost
import Derived.Deep.Draws
import Derived.Outline
namespace Go.Proofs.YtegeiojcdjnmjaaGreatDoor
set_option linter.unusedVariables false
set_option linter.unusedSimpArgs false

/-- The byte at a place of a text, 0 behind its end. -/
def bt (s : ByteArray) (i : Nat) : Nat := if h : i < s.size then (s[i]'h).toNat else 0
theorem bt_get {s : ByteArray} {i : Nat} (h : i < s.size) : (s[i]'h).toNat = bt s i := by simp [bt, h]
theorem bt_out {s : ByteArray} {i : Nat} (h : ¬ i < s.size) : bt s i = 0 := by simp [bt, h]
theorem bt_le (s : ByteArray) (i : Nat) : bt s i ≤ 255 := by
  unfold bt; split
  · rename_i h; have := (s[i]'h).toNat_lt; omega
  · omega

def isSm (c : Nat) : Bool := decide (97 ≤ c) && decide (c ≤ 122)
def isDg (c : Nat) : Bool := decide (48 ≤ c) && decide (c ≤ 57)
def isWd (c : Nat) : Bool := isSm c || isDg c
theorem isSm_iff {c : Nat} : isSm c = true ↔ 97 ≤ c ∧ c ≤ 122 := by simp [isSm]
theorem isDg_iff {c : Nat} : isDg c = true ↔ 48 ≤ c ∧ c ≤ 57 := by simp [isDg]
theorem isSm_no {c : Nat} : isSm c = false ↔ ¬ (97 ≤ c ∧ c ≤ 122) := by rw [← isSm_iff]; simp
theorem isDg_no {c : Nat} : isDg c = false ↔ ¬ (48 ≤ c ∧ c ≤ 57) := by rw [← isDg_iff]; simp

/-- e is where a run of bytes from i on ends. -/
def RunEnd (p : Nat → Bool) (s : ByteArray) (i e : Nat) : Prop := i ≤ e ∧ (∀ j, i ≤ j → j < e → p (bt s j) = true) ∧ p (bt s e) = false

theorem RunEnd.uniq {p : Nat → Bool} {s : ByteArray} {i e e' : Nat} (h : RunEnd p s i e) (h' : RunEnd p s i e') : e = e' := by
  rcases Nat.lt_trichotomy e e' with hl | hl | hl
  · have := h'.2.1 e h.1 hl; rw [h.2.2] at this; cases this
  · exact hl
  · have := h.2.1 e' h'.1 hl; rw [h'.2.2] at this; cases this

/-- Where a run ends. -/
def runEnd (p : Nat → Bool) (s : ByteArray) : Nat → Nat → Nat
  | 0, i => i
  | f + 1, i => if p (bt s i) then runEnd p s f (i + 1) else i

theorem runEnd_is (p : Nat → Bool) (s : ByteArray) (hp : p 0 = false) : ∀ (f i : Nat), s.size ≤ f + i → RunEnd p s i (runEnd p s f i)
  | 0, i, h => ⟨Nat.le_refl _, fun j h1 h2 => by simp only [runEnd] at h2; omega, by simp only [runEnd]; rw [bt_out (by omega)]; exact hp⟩
  | f + 1, i, h => by
    unfold runEnd
    by_cases hc : p (bt s i) = true
    · rw [if_pos hc]
      have ih := runEnd_is p s hp f (i + 1) (by omega)
      refine ⟨by have := ih.1; omega, fun j h1 h2 => ?_, ih.2.2⟩
      by_cases e : j = i
      · rw [e]; exact hc
      · exact ih.2.1 j (by omega) h2
    · rw [if_neg hc]
      exact ⟨Nat.le_refl _, fun j h1 h2 => by omega, by simpa using hc⟩

def wEnd (s : ByteArray) (i : Nat) : Nat := runEnd isWd s s.size i
def dEnd (s : ByteArray) (i : Nat) : Nat := runEnd isDg s s.size i
theorem wEnd_is (s : ByteArray) (i : Nat) : RunEnd isWd s i (wEnd s i) := runEnd_is isWd s rfl _ _ (by omega)
theorem dEnd_is (s : ByteArray) (i : Nat) : RunEnd isDg s i (dEnd s i) := runEnd_is isDg s rfl _ _ (by omega)
theorem RunEnd.le_size {p : Nat → Bool} {s : ByteArray} {i e : Nat} (h : RunEnd p s i e) (hp : p 0 = false) (hi : i ≤ s.size) : e ≤ s.size := by
  by_cases hc : e ≤ s.size
  · exact hc
  · have := h.2.1 s.size hi (by omega)
    rw [bt_out (by omega), hp] at this
    cases this

/-- The number that digits from f on spell. -/
def dv (s : ByteArray) (f : Nat) : Nat → Nat
  | 0 => 0
  | k + 1 => dv s f k * 10 + (bt s (f + k) - 48)

/-- Of a number at a place: where its digits begin, where they end, what they spell, whether that is too great. -/
def nF (s : ByteArray) (i : Nat) : Nat := if bt s i = 45 then i + 1 else i
def nE (s : ByteArray) (i : Nat) : Nat := if bt s (nF s i) = 48 then nF s i + 1 else dEnd s (nF s i + 1)
def nV (s : ByteArray) (i : Nat) : Nat := dv s (nF s i) (nE s i - nF s i)
abbrev nBig (s : ByteArray) (i : Nat) : Prop := (bt s i = 45 ∧ 9223372036854775808 < nV s i) ∨ (¬ bt s i = 45 ∧ 9223372036854775808 ≤ nV s i)
abbrev nBad (s : ByteArray) (i : Nat) : Prop := bt s i = 45 ∧ ¬ (49 ≤ bt s (nF s i) ∧ bt s (nF s i) ≤ 57)
def nN (s : ByteArray) (i : Nat) : Int := if bt s i = 45 then -(nV s i : Int) else nV s i


/-- A number at a place: where and why it is wrong, or it and the place behind it. -/
def numM (s : ByteArray) (i : Nat) : Except (Nat × Nat) (Int × Nat) :=
  if nBad s i then .error (i, 10)
  else if nBig s i then .error (i, 11)
  else if isWd (bt s (nE s i)) then .error (nE s i, 10)
  else .ok (nN s i, nE s i)

theorem numM_bad {s : ByteArray} {i : Nat} (h : nBad s i) : numM s i = .error (i, 10) := by unfold numM; rw [if_pos h]
theorem numM_big {s : ByteArray} {i : Nat} (h : ¬ nBad s i) (hb : nBig s i) : numM s i = .error (i, 11) := by unfold numM; rw [if_neg h, if_pos hb]
theorem numM_wd {s : ByteArray} {i : Nat} (h : ¬ nBad s i) (hb : ¬ nBig s i) (hw : isWd (bt s (nE s i)) = true) : numM s i = .error (nE s i, 10) := by unfold numM; rw [if_neg h, if_neg hb, if_pos hw]
theorem numM_ok {s : ByteArray} {i : Nat} (h : ¬ nBad s i) (hb : ¬ nBig s i) (hw : isWd (bt s (nE s i)) = false) : numM s i = .ok (nN s i, nE s i) := by unfold numM; rw [if_neg h, if_neg hb, if_neg (by simp [hw])]

/-- Where a number's digits are. -/
theorem nE_gt {s : ByteArray} {i : Nat} (h : ¬ nBad s i) (hi : i < s.size) : i ≤ nF s i ∧ nF s i < nE s i ∧ nE s i ≤ s.size ∧ nF s i < s.size := by
  unfold nBad at h
  have hlt : nF s i < s.size := by
    by_cases h45 : bt s i = 45
    · by_cases hc : nF s i < s.size
      · exact hc
      · rw [bt_out hc] at h; omega
    · unfold nF; rw [if_neg h45]; exact hi
  have hge : i ≤ nF s i := by unfold nF; split <;> omega
  unfold nE
  by_cases h48 : bt s (nF s i) = 48
  · rw [if_pos h48]; omega
  · rw [if_neg h48]
    have hr := dEnd_is s (nF s i + 1)
    exact ⟨hge, by have := hr.1; omega, hr.le_size rfl (by omega), hlt⟩

/-- A token, plain: its kind, place, text and number. -/
abbrev MTok := Int × Int × ByteArray × Int

/-- A token at a place that is no blank. -/
def tokM (s : ByteArray) (i : Nat) : Except (Nat × Nat) (MTok × Nat) :=
  if isSm (bt s i) then .ok ((1, i, s.extract i (wEnd s i), 0), wEnd s i)
  else if bt s i = 45 ∨ isDg (bt s i) = true then
    match numM s i with
    | .error e => .error e
    | .ok (n, e) => .ok ((2, i, s.extract i e, n), e)
  else if bt s i = 40 ∨ bt s i = 41 ∨ bt s i = 91 ∨ bt s i = 93 then .ok ((3, i, s.extract i (i + 1), 0), i + 1)
  else if bt s i = 10 then .ok ((4, i, s.extract i (i + 1), 0), i + 1)
  else .error (i, 10)

/-- A text from a place on, behind the tokens that there are. -/
def scanFrom (s : ByteArray) : Nat → Nat → List MTok → Except (Nat × Nat) (List MTok)
  | 0, _, acc => .ok acc
  | f + 1, i, acc =>
    if i < s.size then
      if bt s i = 32 then scanFrom s f (i + 1) acc
      else match tokM s i with
        | .error e => .error e
        | .ok (t, k) => scanFrom s f k (acc ++ [t])
    else .ok acc

/-- A whole text. -/
def scanM (s : ByteArray) : Except (Nat × Nat) (List MTok) := if 20000 < s.size then .error (0, 4) else scanFrom s s.size 0 []

theorem numM_gt {s : ByteArray} {i : Nat} {n : Int} {e : Nat} (h : numM s i = .ok (n, e)) (hi : i < s.size) : i < e ∧ e ≤ s.size := by
  unfold numM at h
  split at h
  · cases h
  · rename_i h1
    split at h
    · cases h
    · split at h
      · cases h
      · simp only [Except.ok.injEq, Prod.mk.injEq] at h
        have := nE_gt h1 hi
        omega

theorem tokM_gt {s : ByteArray} {i : Nat} {t : MTok} {k : Nat} (h : tokM s i = .ok (t, k)) (hi : i < s.size) : i < k ∧ k ≤ s.size := by
  unfold tokM at h
  split at h
  · rename_i hs
    simp only [Except.ok.injEq, Prod.mk.injEq] at h
    obtain ⟨_, rfl⟩ := h
    have hr := wEnd_is s i
    refine ⟨?_, hr.le_size rfl (by omega)⟩
    rcases Nat.lt_or_ge i (wEnd s i) with h | h
    · exact h
    · have e : wEnd s i = i := by have := hr.1; omega
      have := hr.2.2
      rw [e] at this
      simp [isWd, hs] at this
  · split at h
    · split at h
      · cases h
      · rename_i n e hn
        simp only [Except.ok.injEq, Prod.mk.injEq] at h
        obtain ⟨_, rfl⟩ := h
        exact numM_gt hn hi
    · split at h
      · simp only [Except.ok.injEq, Prod.mk.injEq] at h; omega
      · split at h
        · simp only [Except.ok.injEq, Prod.mk.injEq] at h; omega
        · cases h

/-- More fuel changes nothing. -/
theorem scanFrom_fuel (s : ByteArray) : ∀ (f g i : Nat) (acc : List MTok), s.size ≤ f + i → s.size ≤ g + i → scanFrom s f i acc = scanFrom s g i acc
  | 0, 0, _, _, _, _ => rfl
  | 0, g + 1, i, acc, hf, _ => by simp only [scanFrom]; rw [if_neg (by omega)]
  | f + 1, 0, i, acc, _, hg => by simp only [scanFrom]; rw [if_neg (by omega)]
  | f + 1, g + 1, i, acc, hf, hg => by
    simp only [scanFrom]
    by_cases hi : i < s.size
    · rw [if_pos hi, if_pos hi]
      by_cases hb : bt s i = 32
      · rw [if_pos hb, if_pos hb]
        exact scanFrom_fuel s f g (i + 1) acc (by omega) (by omega)
      · rw [if_neg hb, if_neg hb]
        cases ht : tokM s i with
        | error e => rfl
        | ok q =>
          obtain ⟨t, k⟩ := q
          have := tokM_gt ht hi
          exact scanFrom_fuel s f g k _ (by omega) (by omega)
    · rw [if_neg hi, if_neg hi]

/-- What is left from a place on. -/
def left (s : ByteArray) (i : Nat) (acc : List MTok) : Except (Nat × Nat) (List MTok) := scanFrom s (s.size - i) i acc
theorem left_end {s : ByteArray} {i : Nat} (acc : List MTok) (h : ¬ i < s.size) : left s i acc = .ok acc := by
  unfold left; rw [show s.size - i = 0 by omega]; rfl
theorem left_blank {s : ByteArray} {i : Nat} (acc : List MTok) (h : i < s.size) (hb : bt s i = 32) : left s i acc = left s (i + 1) acc := by
  unfold left; rw [show s.size - i = (s.size - (i + 1)) + 1 by omega]; simp only [scanFrom]; rw [if_pos h, if_pos hb]
theorem left_bad {s : ByteArray} {i : Nat} (acc : List MTok) {e : Nat × Nat} (h : i < s.size) (hb : ¬ bt s i = 32) (ht : tokM s i = .error e) : left s i acc = .error e := by
  unfold left; rw [show s.size - i = (s.size - (i + 1)) + 1 by omega]; simp only [scanFrom]; rw [if_pos h, if_neg hb, ht]
theorem left_tok {s : ByteArray} {i : Nat} (acc : List MTok) {t : MTok} {k : Nat} (h : i < s.size) (hb : ¬ bt s i = 32) (ht : tokM s i = .ok (t, k)) : left s i acc = left s k (acc ++ [t]) := by
  have hk := tokM_gt ht h
  unfold left; rw [show s.size - i = (s.size - (i + 1)) + 1 by omega]; simp only [scanFrom]; rw [if_pos h, if_neg hb, ht]
  exact scanFrom_fuel s _ _ k _ (by omega) (by omega)
theorem scanM_left {s : ByteArray} (h : s.size ≤ 20000) : scanM s = left s 0 [] := by unfold scanM left; rw [if_neg (by omega)]; rfl
end Go.Proofs.YtegeiojcdjnmjaaGreatDoor
namespace Go.Proofs.YtegeiojcdjnmjaaGreatDoor
set_option linter.unusedVariables false
set_option linter.unusedSimpArgs false

/-- The bytes of a text from a place on. -/
def bl (s : ByteArray) : Nat → Nat → List UInt8
  | _, 0 => []
  | i, n + 1 => UInt8.ofNat (bt s i) :: bl s (i + 1) n

theorem bl_len (s : ByteArray) : ∀ n i, (bl s i n).length = n
  | 0, _ => rfl
  | n + 1, i => by simp [bl, bl_len s n (i + 1)]

theorem bl_get (s : ByteArray) : ∀ n i j, j < n → (bl s i n)[j]? = some (UInt8.ofNat (bt s (i + j)))
  | 0, _, _, h => by omega
  | n + 1, i, 0, _ => by simp [bl]
  | n + 1, i, j + 1, h => by
    have := bl_get s n (i + 1) j (by omega)
    simp only [bl, List.getElem?_cons_succ]
    rw [this, show i + 1 + j = i + (j + 1) by omega]

theorem extract_bl (s : ByteArray) (i e : Nat) (he : e ≤ s.size) : (s.extract i e).data.toList = bl s i (e - i) := by
  rw [Lib.extract_data]
  have hsz : s.data.toList.length = s.size := by simp
  apply List.ext_getElem?
  intro j
  by_cases hj : j < e - i
  · rw [bl_get s _ _ _ hj, List.getElem?_take, if_pos hj, List.getElem?_drop]
    have hlt : i + j < s.size := by omega
    have hl2 : i + j < s.data.toList.length := by omega
    rw [List.getElem?_eq_getElem hl2]
    congr 1
    have : bt s (i + j) = (s.data.toList[i + j]).toNat := by rw [← bt_get hlt]; rfl
    rw [this]
    simp
  · rw [List.getElem?_take, if_neg hj, List.getElem?_eq_none (by rw [bl_len]; omega)]

theorem toNat_bt (s : ByteArray) (i : Nat) : (UInt8.ofNat (bt s i)).toNat = bt s i := by
  have := bt_le s i
  rw [UInt8.toNat_ofNat']
  omega

theorem dv_mono (s : ByteArray) (f : Nat) : ∀ m k, dv s f k ≤ dv s f (k + m)
  | 0, k => Nat.le_refl _
  | m + 1, k => by
    have := dv_mono s f m k
    show dv s f k ≤ dv s f (k + m) * 10 + _
    omega

theorem parse_run (s : ByteArray) (f : Nat) : ∀ (n k : Nat), (∀ j, k ≤ j → j < k + n → isDg (bt s (f + j)) = true) → dv s f k < 18446744073709551616 →
    Lib.parseUint10 (dv s f k) (bl s (f + k) n) = if dv s f (k + n) < 18446744073709551616 then .ok (dv s f (k + n)) else .range
  | 0, k, _, hk => by simp only [bl, Lib.parseUint10, Nat.add_zero]; rw [if_pos hk]
  | n + 1, k, hd, hk => by
    have h0 := isDg_iff.1 (hd k (Nat.le_refl _) (by omega))
    have hm := dv_mono s f n (k + 1)
    have e1 : dv s f (k + 1) = dv s f k * 10 + (bt s (f + k) - 48) := rfl
    have e2 : k + (n + 1) = k + 1 + n := by omega
    simp only [bl, Lib.parseUint10]
    rw [toNat_bt, if_pos h0, e2]
    by_cases hb : 1844674407370955162 ≤ dv s f k
    · rw [if_pos hb, if_neg (by omega)]
    · rw [if_neg hb]
      by_cases hc : 18446744073709551616 ≤ dv s f k * 10 + (bt s (f + k) - 48)
      · rw [if_pos hc, if_neg (by omega)]
      · rw [if_neg hc, ← e1]
        have := parse_run s f n (k + 1) (fun j h1 h2 => hd j (by omega) (by omega)) (by omega)
        rw [← Nat.add_assoc] at this
        exact this

/-- All bytes from a number's first digit to its end are digits. -/
theorem nE_digits {s : ByteArray} {i : Nat} (h : ¬ nBad s i) (hs : bt s i = 45 ∨ isDg (bt s i) = true) : ∀ j, nF s i ≤ j → j < nE s i → isDg (bt s j) = true := by
  intro j h1 h2
  have hf : isDg (bt s (nF s i)) = true := by
    rw [isDg_iff]
    by_cases h45 : bt s i = 45
    · unfold nBad at h; omega
    · have e : nF s i = i := by unfold nF; rw [if_neg h45]
      rw [e]
      rcases hs with hs | hs
      · exact absurd hs h45
      · exact isDg_iff.1 hs
  by_cases hj : j = nF s i
  · rw [hj]; exact hf
  · unfold nE at h2
    by_cases h48 : bt s (nF s i) = 48
    · rw [if_pos h48] at h2; omega
    · rw [if_neg h48] at h2
      exact (dEnd_is s (nF s i + 1)).2.1 j (by omega) h2

theorem atoi_num {s : ByteArray} {i : Nat} (hi : i < s.size) (h : ¬ nBad s i) (hs : bt s i = 45 ∨ isDg (bt s i) = true) :
    Lib.atoiAll (s.extract i (nE s i)).data.toList = if nBig s i then .range else .ok (nN s i) := by
  obtain ⟨g1, g2, g3, g4⟩ := nE_gt h hi
  have hd := nE_digits h hs
  rw [extract_bl s i _ g3]
  obtain ⟨m, hm⟩ : ∃ m, nE s i - i = m + 1 := ⟨nE s i - i - 1, by omega⟩
  have hpar : Lib.parseMag (bl s (nF s i) (nE s i - nF s i)) = if nV s i < 18446744073709551616 then .ok (nV s i) else .range := by
    unfold Lib.parseMag
    rw [if_neg (by intro e; have := congrArg List.length e; rw [bl_len] at this; simp at this; omega)]
    have := parse_run s (nF s i) (nE s i - nF s i) 0 (fun j h1 h2 => hd (nF s i + j) (by omega) (by omega)) (by simp [dv])
    rw [Nat.zero_add, Nat.add_zero] at this
    exact this
  rw [hm]
  simp only [bl, Lib.atoiAll]
  rw [toNat_bt]
  by_cases h45 : bt s i = 45
  · have e : nF s i = i + 1 := by unfold nF; rw [if_pos h45]
    have e2 : nE s i - nF s i = m := by omega
    rw [e2, e] at hpar
    rw [if_pos (Or.inr h45), hpar]
    by_cases hv : nV s i < 18446744073709551616
    · rw [if_pos hv]
      simp only [h45, not_true, false_and, if_false, true_and, nBig, nN, if_true, or_false]
    · rw [if_neg hv, if_pos (by unfold nBig; omega)]
  · have e : nF s i = i := by unfold nF; rw [if_neg h45]
    have hdi : isDg (bt s i) = true := by rcases hs with hs | hs; exact absurd hs h45; exact hs
    have h43 : ¬ bt s i = 43 := by have := isDg_iff.1 hdi; omega
    rw [e, hm] at hpar
    simp only [bl] at hpar
    rw [if_neg (by omega), hpar]
    by_cases hv : nV s i < 18446744073709551616
    · rw [if_pos hv]
      simp only [h45, not_false_iff, true_and, false_and, if_false, nBig, nN, false_or]
    · rw [if_neg hv, if_pos (by unfold nBig; omega)]
end Go.Proofs.YtegeiojcdjnmjaaGreatDoor
namespace Go.Proofs
open Go.Shelf
def Tryz.laysM316_ren : Go.Shelf.Ren := ⟨fun | 316 => 62 | n => n, fun | 9 => 9 | 3 => 3 | 4 => 4 | 37 => 95 | 0 => 0 | 127 => 113 | 5 => 5 | n => n, fun | n => n⟩
theorem Tryz.laysM316 : Go.Proofs.LaysM.n316 Tryz.prog Tryz.laysM316_ren := {
  mixed := by kernel_rfl
  f316 := Tryz.func62.trans (congrArg some (by kernel_rfl))
  t0 := Tryz.underlying0
  a0 := Tryz.isAgg0
  z0 := Tryz.sizeOf0
  v0 := Tryz.zeroValue0
  t3 := Tryz.underlying3
  a3 := Tryz.isAgg3
  z3 := Tryz.sizeOf3
  v3 := Tryz.zeroValue3
  t4 := Tryz.underlying4
  a4 := Tryz.isAgg4
  z4 := Tryz.sizeOf4
  v4 := Tryz.zeroValue4
  t9 := Tryz.underlying9
  a9 := Tryz.isAgg9
  z9 := Tryz.sizeOf9
  v9 := Tryz.zeroValue9
  t37 := Tryz.underlying95
  a37 := Tryz.isAgg95
  z37 := Tryz.sizeOf95
  v37 := Tryz.zeroValue95
  t127 := Tryz.underlying113
  a127 := Tryz.isAgg113
  z127 := Tryz.sizeOf113
  v127 := Tryz.zeroValue113
  t5 := Tryz.underlying5
  a5 := Tryz.isAgg5
  z5 := Tryz.sizeOf5
  v5 := Tryz.zeroValue5
  i0 := by kernel_rfl
  i3 := by kernel_rfl
  i4 := by kernel_rfl
  i5 := by kernel_rfl
  i9 := by kernel_rfl
  i37 := by kernel_rfl
  i127 := by kernel_rfl }
open Go.RowKit in
/-- internal/stringslite.Clone (what strings.Clone calls): "Clone returns a fresh copy of s.": THE SAME BYTES. Of what was there nothing has turned (a new row is laid, and frozen, where s is not empty). (LAID: no walk: one application.) -/
theorem Tryz.stringslite_Clone (s : ByteArray) (w : World) (hlim : s.size ≤ 281474976710656) :
    Calls Tryz.prog 62 #[.string s] w fun e w' => e = .returned (.string s) ∧ Below w.heap.size w w' := Any.stringslite_Clone Tryz.laysM316 s w hlim
def Tryz.laysC172_ren : Go.Shelf.Ren := ⟨fun | 172 => 61 | 244 => 82 | 245 => 83 | 247 => 98 | 279 => 99 | 280 => 100 | 281 => 101 | 282 => 102 | 287 => 111 | 316 => 62 | 171 => 51 | 205 => 112 | 321 => 118 | 322 => 119 | 243 => 74 | 246 => 90 | 283 => 105 | 284 => 106 | 285 => 107 | 286 => 108 | 129 => 114 | 317 => 113 | 318 => 115 | 319 => 116 | 320 => 117 | 337 => 120 | 338 => 121 | n => n, fun | 9 => 9 | 3 => 3 | 75 => 24 | 76 => 99 | 4 => 4 | 5 => 5 | 167 => 128 | 37 => 95 | 0 => 0 | 85 => 129 | 2 => 2 | 168 => 131 | 53 => 135 | 175 => 143 | 46 => 35 | 210 => 146 | 127 => 113 | 145 => 155 | 143 => 153 | 21 => 21 | 171 => 134 | 173 => 138 | 212 => 149 | 51 => 140 | 20 => 20 | 213 => 150 | 232 => 157 | 233 => 158 | 80 => 101 | n => n, fun | 15 => 3 | 16 => 4 | 17 => 5 | 18 => 6 | 19 => 7 | n => n⟩
theorem Tryz.laysC172 : Go.Proofs.LaysC.n172 Tryz.prog Tryz.laysC172_ren := {
  mixed := by kernel_rfl
  f129 := Tryz.func114.trans (congrArg some (by kernel_rfl))
  f171 := Tryz.func51.trans (congrArg some (by kernel_rfl))
  f172 := Tryz.func61.trans (congrArg some (by kernel_rfl))
  f205 := Tryz.func112.trans (congrArg some (by kernel_rfl))
  f243 := Tryz.func74.trans (congrArg some (by kernel_rfl))
  f244 := Tryz.func82.trans (congrArg some (by kernel_rfl))
  f245 := Tryz.func83.trans (congrArg some (by kernel_rfl))
  f246 := Tryz.func90.trans (congrArg some (by kernel_rfl))
  f247 := Tryz.func98.trans (congrArg some (by kernel_rfl))
  f279 := Tryz.func99.trans (congrArg some (by kernel_rfl))
  f280 := Tryz.func100.trans (congrArg some (by kernel_rfl))
  f281 := Tryz.func101.trans (congrArg some (by kernel_rfl))
  f282 := Tryz.func102.trans (congrArg some (by kernel_rfl))
  f283 := Tryz.func105.trans (congrArg some (by kernel_rfl))
  f284 := Tryz.func106.trans (congrArg some (by kernel_rfl))
  f285 := Tryz.func107.trans (congrArg some (by kernel_rfl))
  f286 := Tryz.func108.trans (congrArg some (by kernel_rfl))
  f287 := Tryz.func111.trans (congrArg some (by kernel_rfl))
  f316 := Tryz.func62.trans (congrArg some (by kernel_rfl))
  f317 := Tryz.func113.trans (congrArg some (by kernel_rfl))
  f318 := Tryz.func115.trans (congrArg some (by kernel_rfl))
  f319 := Tryz.func116.trans (congrArg some (by kernel_rfl))
  f320 := Tryz.func117.trans (congrArg some (by kernel_rfl))
  f321 := Tryz.func118.trans (congrArg some (by kernel_rfl))
  f322 := Tryz.func119.trans (congrArg some (by kernel_rfl))
  f337 := Tryz.func120.trans (congrArg some (by kernel_rfl))
  f338 := Tryz.func121.trans (congrArg some (by kernel_rfl))
  t0 := Tryz.underlying0
  a0 := Tryz.isAgg0
  z0 := Tryz.sizeOf0
  v0 := Tryz.zeroValue0
  t2 := Tryz.underlying2
  a2 := Tryz.isAgg2
  z2 := Tryz.sizeOf2
  v2 := Tryz.zeroValue2
  t3 := Tryz.underlying3
  a3 := Tryz.isAgg3
  z3 := Tryz.sizeOf3
  v3 := Tryz.zeroValue3
  t4 := Tryz.underlying4
  a4 := Tryz.isAgg4
  z4 := Tryz.sizeOf4
  v4 := Tryz.zeroValue4
  t5 := Tryz.underlying5
  a5 := Tryz.isAgg5
  z5 := Tryz.sizeOf5
  v5 := Tryz.zeroValue5
  t9 := Tryz.underlying9
  a9 := Tryz.isAgg9
  z9 := Tryz.sizeOf9
  v9 := Tryz.zeroValue9
  t20 := Tryz.underlying20
  a20 := Tryz.isAgg20
  z20 := Tryz.sizeOf20
  v20 := Tryz.zeroValue20
  t21 := Tryz.underlying21
  a21 := Tryz.isAgg21
  z21 := Tryz.sizeOf21
  v21 := Tryz.zeroValue21
  t37 := Tryz.underlying95
  a37 := Tryz.isAgg95
  z37 := Tryz.sizeOf95
  v37 := Tryz.zeroValue95
  t46 := Tryz.underlying35
  a46 := Tryz.isAgg35
  z46 := Tryz.sizeOf35
  v46 := Tryz.zeroValue35
  t51 := Tryz.underlying140
  a51 := Tryz.isAgg140
  z51 := Tryz.sizeOf140
  v51 := Tryz.zeroValue140
  t53 := Tryz.underlying135
  a53 := Tryz.isAgg135
  z53 := Tryz.sizeOf135
  v53 := Tryz.zeroValue135
  t75 := Tryz.underlying24
  a75 := Tryz.isAgg24
  z75 := Tryz.sizeOf24
  v75 := Tryz.zeroValue24
  t76 := Tryz.underlying99
  a76 := Tryz.isAgg99
  z76 := Tryz.sizeOf99
  v76 := Tryz.zeroValue99
  t85 := Tryz.underlying129
  a85 := Tryz.isAgg129
  z85 := Tryz.sizeOf129
  v85 := Tryz.zeroValue129
  t127 := Tryz.underlying113
  a127 := Tryz.isAgg113
  z127 := Tryz.sizeOf113
  v127 := Tryz.zeroValue113
  t143 := Tryz.underlying153
  a143 := Tryz.isAgg153
  z143 := Tryz.sizeOf153
  v143 := Tryz.zeroValue153
  t145 := Tryz.underlying155
  a145 := Tryz.isAgg155
  z145 := Tryz.sizeOf155
  v145 := Tryz.zeroValue155
  t167 := Tryz.underlying128
  a167 := Tryz.isAgg128
  z167 := Tryz.sizeOf128
  v167 := Tryz.zeroValue128
  t168 := Tryz.underlying131
  a168 := Tryz.isAgg131
  z168 := Tryz.sizeOf131
  v168 := Tryz.zeroValue131
  t171 := Tryz.underlying134
  a171 := Tryz.isAgg134
  z171 := Tryz.sizeOf134
  v171 := Tryz.zeroValue134
  t173 := Tryz.underlying138
  a173 := Tryz.isAgg138
  z173 := Tryz.sizeOf138
  v173 := Tryz.zeroValue138
  t175 := Tryz.underlying143
  a175 := Tryz.isAgg143
  z175 := Tryz.sizeOf143
  v175 := Tryz.zeroValue143
  t210 := Tryz.underlying146
  a210 := Tryz.isAgg146
  z210 := Tryz.sizeOf146
  v210 := Tryz.zeroValue146
  t212 := Tryz.underlying149
  a212 := Tryz.isAgg149
  z212 := Tryz.sizeOf149
  v212 := Tryz.zeroValue149
  t213 := Tryz.underlying150
  a213 := Tryz.isAgg150
  z213 := Tryz.sizeOf150
  t232 := Tryz.underlying157
  a232 := Tryz.isAgg157
  z232 := Tryz.sizeOf157
  v232 := Tryz.zeroValue157
  t233 := Tryz.underlying158
  a233 := Tryz.isAgg158
  z233 := Tryz.sizeOf158
  v233 := Tryz.zeroValue158
  g15 := by kernel_rfl
  g16 := by kernel_rfl
  g17 := by kernel_rfl
  g18 := by kernel_rfl
  g19 := by kernel_rfl
  t80 := Tryz.underlying101
  a80 := Tryz.isAgg101
  z80 := Tryz.sizeOf101
  v80 := Tryz.zeroValue101
  i0 := by kernel_rfl
  i2 := by kernel_rfl
  i3 := by kernel_rfl
  i4 := by kernel_rfl
  i5 := by kernel_rfl
  i9 := by kernel_rfl
  i20 := by kernel_rfl
  i21 := by kernel_rfl
  i37 := by kernel_rfl
  i46 := by kernel_rfl
  i51 := by kernel_rfl
  i53 := by kernel_rfl
  i75 := by kernel_rfl
  i76 := by kernel_rfl
  i80 := by kernel_rfl
  i85 := by kernel_rfl
  i127 := by kernel_rfl
  i143 := by kernel_rfl
  i145 := by kernel_rfl
  i167 := by kernel_rfl
  i168 := by kernel_rfl
  i171 := by kernel_rfl
  i173 := by kernel_rfl
  i175 := by kernel_rfl
  i210 := by kernel_rfl
  i212 := by kernel_rfl
  i232 := by kernel_rfl
  i233 := by kernel_rfl
  m15 := by kernel_rfl
  m16 := by kernel_rfl
  m17 := by kernel_rfl
  m18 := by kernel_rfl
  m19 := by kernel_rfl
  c0 := by kernel_rfl
  c2 := by kernel_rfl
  c3 := by kernel_rfl
  c4 := by kernel_rfl
  c5 := by kernel_rfl
  c9 := by kernel_rfl
  c20 := by kernel_rfl
  c21 := by kernel_rfl
  c37 := by kernel_rfl
  c46 := by kernel_rfl
  c51 := by kernel_rfl
  c53 := by kernel_rfl
  c75 := by kernel_rfl
  c76 := by kernel_rfl
  c80 := by kernel_rfl
  c85 := by kernel_rfl
  c127 := by kernel_rfl
  c143 := by kernel_rfl
  c145 := by kernel_rfl
  c167 := by kernel_rfl
  c168 := by kernel_rfl
  c171 := by kernel_rfl
  c173 := by kernel_rfl
  c175 := by kernel_rfl
  c210 := by kernel_rfl
  c212 := by kernel_rfl
  c213 := by kernel_rfl
  c232 := by kernel_rfl
  c233 := by kernel_rfl }
open Go.RowKit in
/-- strconv.Atoi, AT EVERY STRING THAT SPELLS AN int ('Lib.atoiAll .. = .ok v'; of whatever length: leading zeros count): v, AND NO ERROR. The world: as it was, or with the one new row that '[]byte(..)' lays. (LAID: no walk: one application.) -/
theorem Tryz.strconv_Atoi_ok (s : ByteArray) (hmax : s.size ≤ 9223372036854775806) (v : Int) (h : Lib.atoiAll s.data.toList = .ok v) (w : World) :
    Calls Tryz.prog 61 #[.string s] w fun e w' => e = .returned (.tuple #[.int .i64 v, .nilIface]) ∧ (w' = w ∨ ∃ t, w' = Lib.bytesWorld w 5 t) := Any.strconv_Atoi_ok Tryz.laysC172 s hmax v h w
open Go.RowKit in
/-- strconv.Atoi, AT EVERY NUMERAL THAT NO int HOLDS ('.range'): THE GREATEST OR THE LEAST int, BY THE SIGN ('Lib.atoiSat'), AND AN ERROR THAT IS NOT nil: a *NumError in a new block N: {Func: "Atoi", Num: s's bytes, Err: what the variable ErrRange holds}. Of what was there nothing has turned. (LAID: no walk: one application.) -/
theorem Tryz.strconv_Atoi_range (s : ByteArray) (hlim : s.size ≤ 281474976710656) (h : Lib.atoiAll s.data.toList = .range) (ev : Value) (w : World) (hv : w.cell? ⟨4, 0, none⟩ = some ev) (hev : ev = .nilIface ∨ ∃ te pe, ev = .iface te pe) :
    Calls Tryz.prog 61 #[.string s] w fun e w' => ∃ N, e = .returned (.tuple #[.int .i64 (Lib.atoiSat s.data.toList), .iface 131 (.pointer (some ⟨N, 0, none⟩))]) ∧ w.heap.size ≤ N ∧ w'.heap[N]? = some (.cells #[.string ⟨#[65, 116, 111, 105]⟩, .string s, ev] 146 (0, 0)) ∧ Below w.heap.size w w' := Any.strconv_Atoi_range Tryz.laysC172 s hlim h ev w hv hev
end Go.Proofs
namespace Go.Proofs.YtegeiojcdjnmjaaGreatDoor
set_option linter.unusedVariables false
set_option linter.unusedSimpArgs false
open Go.RowKit

theorem hid {p : Prop} (h : p) : Hid p := h


theorem isSmall_any (c : Nat) (w : World) : Calls Tryz.prog 34 #[.int .u8 c] w fun e w' => e = .returned (.bool (isSm c)) ∧ w' = w := by
  by_cases h1 : (97 : Int) ≤ (c : Int)
  · by_cases h2 : (c : Int) ≤ 122
    · have r := hid (show isSm c = true from isSm_iff.2 (by omega))
      go_enter Tryz.func34, Tryz.ntmps34
      go_wp2
      go_ret
      exact ⟨by rw [r.out]; rfl, rfl⟩
    · have r : isSm c = false := isSm_no.2 (by omega)
      go_enter Tryz.func34, Tryz.ntmps34
      go_wp2
      go_ret
      exact ⟨rfl, rfl⟩
  · have r : isSm c = false := isSm_no.2 (by omega)
    go_enter Tryz.func34, Tryz.ntmps34
    go_wp2
    go_ret
    exact ⟨rfl, rfl⟩

theorem isDigit_any (c : Nat) (w : World) : Calls Tryz.prog 36 #[.int .u8 c] w fun e w' => e = .returned (.bool (isDg c)) ∧ w' = w := by
  by_cases h1 : (48 : Int) ≤ (c : Int)
  · by_cases h2 : (c : Int) ≤ 57
    · have r := hid (show isDg c = true from isDg_iff.2 (by omega))
      go_enter Tryz.func36, Tryz.ntmps36
      go_wp2
      go_ret
      exact ⟨by rw [r.out]; rfl, rfl⟩
    · have r : isDg c = false := isDg_no.2 (by omega)
      go_enter Tryz.func36, Tryz.ntmps36
      go_wp2
      go_ret
      exact ⟨rfl, rfl⟩
  · have r : isDg c = false := isDg_no.2 (by omega)
    go_enter Tryz.func36, Tryz.ntmps36
    go_wp2
    go_ret
    exact ⟨rfl, rfl⟩

theorem refLetter_any (c : Nat) (w : World) : Calls Tryz.prog 67 #[.int .u8 c] w fun e w' => e = .returned (.bool (isSm c)) ∧ w' = w := by
  by_cases h1 : (97 : Int) ≤ (c : Int)
  · by_cases h2 : (c : Int) ≤ 122
    · have r := hid (show isSm c = true from isSm_iff.2 (by omega))
      go_enter Tryz.func67, Tryz.ntmps67
      go_wp2
      go_ret
      exact ⟨by rw [r.out]; rfl, rfl⟩
    · have r : isSm c = false := isSm_no.2 (by omega)
      go_enter Tryz.func67, Tryz.ntmps67
      go_wp2
      go_ret
      exact ⟨rfl, rfl⟩
  · have r : isSm c = false := isSm_no.2 (by omega)
    go_enter Tryz.func67, Tryz.ntmps67
    go_wp2
    go_ret
    exact ⟨rfl, rfl⟩

theorem refDigit_any (c : Nat) (w : World) : Calls Tryz.prog 69 #[.int .u8 c] w fun e w' => e = .returned (.bool (isDg c)) ∧ w' = w := by
  by_cases h1 : (48 : Int) ≤ (c : Int)
  · by_cases h2 : (c : Int) ≤ 57
    · have r := hid (show isDg c = true from isDg_iff.2 (by omega))
      go_enter Tryz.func69, Tryz.ntmps69
      go_wp2
      go_ret
      exact ⟨by rw [r.out]; rfl, rfl⟩
    · have r : isDg c = false := isDg_no.2 (by omega)
      go_enter Tryz.func69, Tryz.ntmps69
      go_wp2
      go_ret
      exact ⟨rfl, rfl⟩
  · have r : isDg c = false := isDg_no.2 (by omega)
    go_enter Tryz.func69, Tryz.ntmps69
    go_wp2
    go_ret
    exact ⟨rfl, rfl⟩

/-- The reference's byte at a place, 0 behind the end. -/
theorem refAt_any (s : ByteArray) (i : Nat) (w : World) (hs : s.size ≤ 9223372036854775807) : Calls Tryz.prog 68 #[.string s, .int .i64 i] w fun e w' => e = .returned (.int .u8 (bt s i : Nat)) ∧ w' = w := by
  by_cases h : i < s.size
  · have hi : (i : Int) < (s.size : Int) := by omega
    have hb : Hid ((s[i]'h).toNat = bt s i) := bt_get h
    go_enter Tryz.func68, Tryz.ntmps68
    go_wp2
    go_ret
    refine ⟨?_, rfl⟩
    rw [← hb.out]; rfl
  · have hb : Hid (bt s i = 0) := bt_out h
    have hi : ¬ (i : Int) < (s.size : Int) := by omega
    go_enter Tryz.func68, Tryz.ntmps68
    go_wp2
    go_ret
    refine ⟨?_, rfl⟩
    rw [hb.out]; rfl

set_option maxHeartbeats 1000000 in
/-- The place behind a word. -/
theorem wordEnd_any (s : ByteArray) (i : Nat) (w : World) (hs : s.size ≤ 9223372036854775806) : Calls Tryz.prog 35 #[.string s, .int .i64 i] w fun e w' => e = .returned (.int .i64 (wEnd s i : Nat)) ∧ w' = w := by
  have W := hid (wEnd_is s i)
  go_enter Tryz.func35, Tryz.ntmps35
  go_wp2
  go_loopg [1] (s.size - i) (fun g t wr => ∃ k : Nat, i ≤ k ∧ s.size - k ≤ g ∧ t = .int .i64 k ∧ wr = w ∧ Aside (∀ j, i ≤ j → j < k → isWd (bt s j) = true))
  case atStart => exact ⟨i, Nat.le_refl _, Nat.le_refl _, rfl, rfl, fun j h1 h2 => by omega⟩
  case round =>
    obtain ⟨k, hk, hg, rfl, rfl, A⟩ := hrel
    by_cases hlt : k < s.size
    · have hlti : (k : Int) < (s.size : Int) := by omega
      have HB := hid (bt_get hlt)
      cases q1 : isSm (s[k]'hlt).toNat with
      | true =>
        go_wp2_with (go_at_call 34; refine (isSmall_any _ _).mono ?_; rintro e w' ⟨rfl, rfl⟩)
        go_roundg (s.size - (k + 1))
        case measure => omega
        case rel =>
          refine ⟨k + 1, by omega, by omega, by go_num, rfl, (show Aside _ from fun j h1 h2 => ?_)⟩
          by_cases e : j = k
          · subst e; rw [← HB.out]; simp [isWd, q1]
          · exact A.out j h1 (by omega)
      | false =>
        cases q2 : isDg (s[k]'hlt).toNat with
        | true =>
          go_wp2_with (first | (go_at_call 34; refine (isSmall_any _ _).mono ?_; rintro e w' ⟨rfl, rfl⟩) | (go_at_call 36; refine (isDigit_any _ _).mono ?_; rintro e w' ⟨rfl, rfl⟩))
          go_roundg (s.size - (k + 1))
          case measure => omega
          case rel =>
            refine ⟨k + 1, by omega, by omega, by go_num, rfl, (show Aside _ from fun j h1 h2 => ?_)⟩
            by_cases e : j = k
            · subst e; rw [← HB.out]; simp [isWd, q1, q2]
            · exact A.out j h1 (by omega)
        | false =>
          go_wp2_with (first | (go_at_call 34; refine (isSmall_any _ _).mono ?_; rintro e w' ⟨rfl, rfl⟩) | (go_at_call 36; refine (isDigit_any _ _).mono ?_; rintro e w' ⟨rfl, rfl⟩))
          go_ret
          refine ⟨?_, rfl⟩
          rw [W.out.uniq ⟨hk, A.out, by rw [← HB.out]; simp [isWd, q1, q2]⟩]
          rfl
    · have hlti : ¬ (k : Int) < (s.size : Int) := by omega
      go_wp2_with fail
      go_ret
      refine ⟨?_, rfl⟩
      rw [W.out.uniq ⟨hk, A.out, by rw [bt_out hlt]; rfl⟩]
      rfl

/-- strings.Clone: the same text. -/
theorem clone_any (s : ByteArray) (w : World) (hs : s.size ≤ 281474976710656) : Calls Tryz.prog 38 #[.string s] w fun e w' => e = .returned (.string s) ∧ Below w.heap.size w w' := by
  go_enter Tryz.func38, Tryz.ntmps38
  go_wp2_with (go_at_call 62; refine (Tryz.stringslite_Clone _ _ hs).mono ?_; rintro e w' ⟨rfl, hb⟩)
  go_ret
  exact ⟨rfl, hb⟩
end Go.Proofs.YtegeiojcdjnmjaaGreatDoor
