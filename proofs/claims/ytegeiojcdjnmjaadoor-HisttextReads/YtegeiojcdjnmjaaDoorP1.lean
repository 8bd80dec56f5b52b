/-
  A start that fits the rows: the listed package variables hold what the library's text lays; and what the list gives of strconv.ErrRange.
  A text's tokens, plain: runs of bytes, numbers, tokens, and what a whole text comes to.
  What strconv.Atoi comes to at a number's bytes.
  The library's contracts for strconv.Atoi and for what strings.Clone calls, at this program: each is one application of the library's theorem.
  Walks of the smallest functions of the scanner and of its reference.
  Lists in memory: slices of elements of some cells, lists that a loop fills by append.
  Plain data of histories, when two are the same, and how they lie in memory.
-/
import Derived.Test.YtegeiojcdjnmjaaDoorRows
import Derived.ProofKit
import Derived.LaidLaws
import Derived.Stop.LaidErr
import Derived.Deep.DeepHandedRow
import Derived.Deep.DeepWitnessRowRef
import Derived.Lib.AtoiAll
import Derived.Lib.Strings
import Derived.Shelf.Strconv.Clone
import Derived.Shelf.LaysM
import Derived.Shelf.LaysC
import Derived.Shelf.Strconv.AtoiAll
import Derived.Test.YtegeiojcdjnmjaaDoorProg
import Derived.WalkKit
import Derived.Deep.LoopGhost
import Derived.Deep.Draws
import Derived.Outline
import Derived.Deep.AppendLies
namespace Go.Proofs.YtegeiojcdjnmjaaDoor
set_option linter.unusedVariables false
set_option linter.unusedSimpArgs false
open Go.ChangeShapes Go.WideShapes Go.ChangeAt Go.RowKit

theorem Tryd.own : ownKnob Tryd.prog.godebug = none := by kernel_rfl

/-- A block's cells laid anew. -/
def put (h : Array Obj) (g : Nat) (cs : Array Value) : Array Obj := h.modify g fun
  | .cells _ t frozen => .cells cs t frozen
  | o => o

/-- There is a world that holds what the listed variables are laid as. -/
theorem start_ex (os : Os) : ∃ w0 : World, w0.os = os ∧
    (w0.forCall (fun _ _ => 0) ⟨#[], #[.string ⟨#[]⟩], []⟩).variablesRefB Tryd.prog = true ∧
    ((w0.forCall (fun _ _ => 0) ⟨#[], #[.string ⟨#[]⟩], []⟩).heap.toList.drop Tryd.prog.globals.size).take ((begin Tryd.prog (fun _ _ => 0) default).world.heap.size - Tryd.prog.globals.size) =
      (begin Tryd.prog (fun _ _ => 0) default).world.heap.toList.drop Tryd.prog.globals.size ∧
    Input.okWideB Tryd.prog (w0.forCall (fun _ _ => 0) ⟨#[], #[.string ⟨#[]⟩], []⟩) 3 ⟨#[], #[.string ⟨#[]⟩], []⟩ = true ∧
    laidMet Tryd.prog Rows.histtextReadsRow.laid (w0.forCall (fun _ _ => 0) ⟨#[], #[.string ⟨#[]⟩], []⟩).memory ∧
    (∀ (H : Type) (enc : TypeId × Value → H), ∃ places, DataW.whole enc Tryd.prog (w0.forCall (fun _ _ => 0) ⟨#[], #[.string ⟨#[]⟩], []⟩).memory Tryd.f3.params.toList Rows.histtextReadsSpec.vars false #[Value.string ⟨#[]⟩].toList 8 = some ([.lit (.string [])], [], places)) ∧
    (∀ (H : Type) (enc : TypeId × Value → H), (OpenSpec.ofChange Rows.histtextReadsSpec).bare.sizedB enc Tryd.prog Tryd.f3 false (w0.forCall (fun _ _ => 0) ⟨#[], #[.string ⟨#[]⟩], []⟩).memory #[.string ⟨#[]⟩] 8 = true) :=
  ⟨{ World.holding Tryd.prog os ⟨#[.cells #[.string ⟨#[105, 110, 118, 97, 108, 105, 100, 32, 115, 121, 110, 116, 97, 120]⟩] 139, .cells #[.string ⟨#[118, 97, 108, 117, 101, 32, 111, 117, 116, 32, 111, 102, 32, 114, 97, 110, 103, 101]⟩] 139], #[], []⟩ with heap := put (put (put (put (put (World.holding Tryd.prog os ⟨#[.cells #[.string ⟨#[105, 110, 118, 97, 108, 105, 100, 32, 115, 121, 110, 116, 97, 120]⟩] 139, .cells #[.string ⟨#[118, 97, 108, 117, 101, 32, 111, 117, 116, 32, 111, 102, 32, 114, 97, 110, 103, 101]⟩] 139], #[], []⟩).heap 0 #[.iface 137 (.pointer (some ⟨(World.holding Tryd.prog default ⟨#[], #[], []⟩).heap.size, 0, none⟩))]) 1 #[.iface 137 (.pointer (some ⟨(World.holding Tryd.prog default ⟨#[], #[], []⟩).heap.size + 1, 0, none⟩))]) 2 (([1, 10, 100, 1000, 10000, 100000, 1000000, 10000000, 100000000, 1000000000, 10000000000, 100000000000, 1000000000000, 10000000000000, 100000000000000, 1000000000000000, 10000000000000000, 100000000000000000, 1000000000000000000, 10000000000000000000] : List Int).map (Value.int .u64)).toArray) 3 (([0, 1, 28, 2, 29, 14, 24, 3, 30, 22, 20, 15, 25, 17, 4, 8, 31, 27, 13, 23, 21, 19, 16, 7, 26, 12, 18, 6, 11, 5, 10, 9] : List Int).map (Value.int .u8)).toArray) 4 (([0, 1, 56, 2, 57, 49, 28, 3, 61, 58, 42, 50, 38, 29, 17, 4, 62, 47, 59, 36, 45, 43, 51, 22, 53, 39, 33, 30, 24, 18, 12, 5, 63, 55, 48, 27, 60, 41, 37, 16, 46, 35, 44, 21, 52, 32, 23, 11, 54, 26, 40, 15, 34, 20, 31, 10, 25, 14, 19, 9, 13, 8, 7, 6] : List Int).map (Value.int .u8)).toArray },
    rfl, by kernel_rfl, by kernel_rfl, by kernel_rfl, laidMet_of_run' 8 (by kernel_rfl) (by kernel_rfl), fun H enc => ⟨[], by kernel_rfl⟩, fun H enc => by kernel_rfl⟩

/-- What the list gives of strconv.ErrRange: an interface value that is not nil. -/
theorem errRange_cell {W : World} (h : laidMet Tryd.prog Rows.histtextReadsRow.laid W) : ∃ te pe, W.cell? ⟨1, 0, none⟩ = some (.iface te pe) := by
  obtain ⟨ps, ⟨g0, t0, cs0, f0, p0, q0, hg0, ht0, hv0, hd0, _, e0⟩, _, hrows⟩ := h.tail.tail.tail
  have hg : g0 = 1 := Option.some.inj (hg0.symm.trans (by kernel_rfl))
  subst hg
  have ht : t0 = 24 := Option.some.inj (ht0.symm.trans (by kernel_rfl))
  subst ht
  obtain ⟨f1, u, v, hcs, _, _⟩ := iface_of_trod Tryd.underlying24 hd0
  refine ⟨u, v, ?_⟩
  have := World.var?_cell hg0 hv0 0
  rw [show cs0 = #[.iface u v] from by rw [← Array.toList_inj]; simpa using hcs] at this
  simpa using this
end Go.Proofs.YtegeiojcdjnmjaaDoor
namespace Go.Proofs.YtegeiojcdjnmjaaDoor
set_option linter.unusedVariables false
set_option linter.unusedSimpArgs false

/-- The byte at a place of a text, 0 behind its end. -/
def bt (s : ByteArray) (i : Nat) : Nat := if h : i < s.size then (s[i]'h).toNat else 0
theorem bt_get {s : ByteArray} {i : Nat} (h : i < s.size) : (s[i]'h).toNat = bt s i := by simp [bt, h]
theorem bt_out {s : ByteArray} {i : Nat} (h : ¬ i < s.size) : bt s i = 0 := by simp [bt, h]
theorem bt_le (s : ByteArray) (i : Nat) : bt s i ≤ 255 := by
  unfold bt; split
  · rename_i h; have := (s[i]'h).toNat_lt; omega
  · omega

def isSm (c : Nat) : Bool := decide (97 ≤ c) && decide (c ≤ 122)
def isDg (c : Nat) : Bool := decide (48 ≤ c) && decide (c ≤ 57)
def isWd (c : Nat) : Bool := isSm c || isDg c
theorem isSm_iff {c : Nat} : isSm c = true ↔ 97 ≤ c ∧ c ≤ 122 := by simp [isSm]
theorem isDg_iff {c : Nat} : isDg c = true ↔ 48 ≤ c ∧ c ≤ 57 := by simp [isDg]
theorem isSm_no {c : Nat} : isSm c = false ↔ ¬ (97 ≤ c ∧ c ≤ 122) := by rw [← isSm_iff]; simp
theorem isDg_no {c : Nat} : isDg c = false ↔ ¬ (48 ≤ c ∧ c ≤ 57) := by rw [← isDg_iff]; simp

/-- e is where a run of bytes from i on ends. -/
def RunEnd (p : Nat → Bool) (s : ByteArray) (i e : Nat) : Prop := i ≤ e ∧ (∀ j, i ≤ j → j < e → p (bt s j) = true) ∧ p (bt s e) = false

theorem RunEnd.uniq {p : Nat → Bool} {s : ByteArray} {i e e' : Nat} (h : RunEnd p s i e) (h' : RunEnd p s i e') : e = e' := by
  rcases Nat.lt_trichotomy e e' with hl | hl | hl
  · have := h'.2.1 e h.1 hl; rw [h.2.2] at this; cases this
  · exact hl
  · have := h.2.1 e' h'.1 hl; rw [h'.2.2] at this; cases this

/-- Where a run ends. -/
def runEnd (p : Nat → Bool) (s : ByteArray) : Nat → Nat → Nat
  | 0, i => i
  | f + 1, i => if p (bt s i) then runEnd p s f (i + 1) else i

theorem runEnd_is (p : Nat → Bool) (s : ByteArray) (hp : p 0 = false) : ∀ (f i : Nat), s.size ≤ f + i → RunEnd p s i (runEnd p s f i)
  | 0, i, h => ⟨Nat.le_refl _, fun j h1 h2 => by simp only [runEnd] at h2; omega, by simp only [runEnd]; rw [bt_out (by omega)]; exact hp⟩
  | f + 1, i, h => by
    unfold runEnd
    by_cases hc : p (bt s i) = true
    · rw [if_pos hc]
      have ih := runEnd_is p s hp f (i + 1) (by omega)
      refine ⟨by have := ih.1; omega, fun j h1 h2 => ?_, ih.2.2⟩
      by_cases e : j = i
      · rw [e]; exact hc
      · exact ih.2.1 j (by omega) h2
    · rw [if_neg hc]
      exact ⟨Nat.le_refl _, fun j h1 h2 => by omega, by simpa using hc⟩

def wEnd (s : ByteArray) (i : Nat) : Nat := runEnd isWd s s.size i
def dEnd (s : ByteArray) (i : Nat) : Nat := runEnd isDg s s.size i
theorem wEnd_is (s : ByteArray) (i : Nat) : RunEnd isWd s i (wEnd s i) := runEnd_is isWd s rfl _ _ (by omega)
theorem dEnd_is (s : ByteArray) (i : Nat) : RunEnd isDg s i (dEnd s i) := runEnd_is isDg s rfl _ _ (by omega)
theorem RunEnd.le_size {p : Nat → Bool} {s : ByteArray} {i e : Nat} (h : RunEnd p s i e) (hp : p 0 = false) (hi : i ≤ s.size) : e ≤ s.size := by
  by_cases hc : e ≤ s.size
  · exact hc
  · have := h.2.1 s.size hi (by omega)
    rw [bt_out (by omega), hp] at this
    cases this

/-- The number that digits from f on spell. -/
def dv (s : ByteArray) (f : Nat) : Nat → Nat
  | 0 => 0
  | k + 1 => dv s f k * 10 + (bt s (f + k) - 48)

/-- Of a number at a place: where its digits begin, where they end, what they spell, whether that is too great. -/
def nF (s : ByteArray) (i : Nat) : Nat := if bt s i = 45 then i + 1 else i
def nE (s : ByteArray) (i : Nat) : Nat := if bt s (nF s i) = 48 then nF s i + 1 else dEnd s (nF s i + 1)
def nV (s : ByteArray) (i : Nat) : Nat := dv s (nF s i) (nE s i - nF s i)
abbrev nBig (s : ByteArray) (i : Nat) : Prop := (bt s i = 45 ∧ 9223372036854775808 < nV s i) ∨ (¬ bt s i = 45 ∧ 9223372036854775808 ≤ nV s i)
abbrev nBad (s : ByteArray) (i : Nat) : Prop := bt s i = 45 ∧ ¬ (49 ≤ bt s (nF s i) ∧ bt s (nF s i) ≤ 57)
def nN (s : ByteArray) (i : Nat) : Int := if bt s i = 45 then -(nV s i : Int) else nV s i


/-- A number at a place: where and why it is wrong, or it and the place behind it. -/
def numM (s : ByteArray) (i : Nat) : Except (Nat × Nat) (Int × Nat) :=
  if nBad s i then .error (i, 10)
  else if nBig s i then .error (i, 11)
  else if isWd (bt s (nE s i)) then .error (nE s i, 10)
  else .ok (nN s i, nE s i)

theorem numM_bad {s : ByteArray} {i : Nat} (h : nBad s i) : numM s i = .error (i, 10) := by unfold numM; rw [if_pos h]
theorem numM_big {s : ByteArray} {i : Nat} (h : ¬ nBad s i) (hb : nBig s i) : numM s i = .error (i, 11) := by unfold numM; rw [if_neg h, if_pos hb]
theorem numM_wd {s : ByteArray} {i : Nat} (h : ¬ nBad s i) (hb : ¬ nBig s i) (hw : isWd (bt s (nE s i)) = true) : numM s i = .error (nE s i, 10) := by unfold numM; rw [if_neg h, if_neg hb, if_pos hw]
theorem numM_ok {s : ByteArray} {i : Nat} (h : ¬ nBad s i) (hb : ¬ nBig s i) (hw : isWd (bt s (nE s i)) = false) : numM s i = .ok (nN s i, nE s i) := by unfold numM; rw [if_neg h, if_neg hb, if_neg (by simp [hw])]

/-- Where a number's digits are. -/
theorem nE_gt {s : ByteArray} {i : Nat} (h : ¬ nBad s i) (hi : i < s.size) : i ≤ nF s i ∧ nF s i < nE s i ∧ nE s i ≤ s.size ∧ nF s i < s.size := by
  unfold nBad at h
  have hlt : nF s i < s.size := by
    by_cases h45 : bt s i = 45
    · by_cases hc : nF s i < s.size
      · exact hc
      · rw [bt_out hc] at h; omega
    · unfold nF; rw [if_neg h45]; exact hi
  have hge : i ≤ nF s i := by unfold nF; split <;> omega
  unfold nE
  by_cases h48 : bt s (nF s i) = 48
  · rw [if_pos h48]; omega
  · rw [if_neg h48]
    have hr := dEnd_is s (nF s i + 1)
    exact ⟨hge, by have := hr.1; omega, hr.le_size rfl (by omega), hlt⟩

/-- A token, plain: its kind, place, text and number. -/
abbrev MTok := Int × Int × ByteArray × Int

/-- A token at a place that is no blank. -/
def tokM (s : ByteArray) (i : Nat) : Except (Nat × Nat) (MTok × Nat) :=
  if isSm (bt s i) then .ok ((1, i, s.extract i (wEnd s i), 0), wEnd s i)
  else if bt s i = 45 ∨ isDg (bt s i) = true then
    match numM s i with
    | .error e => .error e
    | .ok (n, e) => .ok ((2, i, s.extract i e, n), e)
  else if bt s i = 40 ∨ bt s i = 41 ∨ bt s i = 91 ∨ bt s i = 93 then .ok ((3, i, s.extract i (i + 1), 0), i + 1)
  else if bt s i = 10 then .ok ((4, i, s.extract i (i + 1), 0), i + 1)
  else .error (i, 10)

/-- A text from a place on, behind the tokens that there are. -/
def scanFrom (s : ByteArray) : Nat → Nat → List MTok → Except (Nat × Nat) (List MTok)
  | 0, _, acc => .ok acc
  | f + 1, i, acc =>
    if i < s.size then
      if bt s i = 32 then scanFrom s f (i + 1) acc
      else match tokM s i with
        | .error e => .error e
        | .ok (t, k) => scanFrom s f k (acc ++ [t])
    else .ok acc

/-- A whole text. -/
def scanM (s : ByteArray) : Except (Nat × Nat) (List MTok) := if 20000 < s.size then .error (0, 4) else scanFrom s s.size 0 []

theorem numM_gt {s : ByteArray} {i : Nat} {n : Int} {e : Nat} (h : numM s i = .ok (n, e)) (hi : i < s.size) : i < e ∧ e ≤ s.size := by
  unfold numM at h
  split at h
  · cases h
  · rename_i h1
    split at h
    · cases h
    · split at h
      · cases h
      · simp only [Except.ok.injEq, Prod.mk.injEq] at h
        have := nE_gt h1 hi
        omega

theorem tokM_gt {s : ByteArray} {i : Nat} {t : MTok} {k : Nat} (h : tokM s i = .ok (t, k)) (hi : i < s.size) : i < k ∧ k ≤ s.size := by
  unfold tokM at h
  split at h
  · rename_i hs
    simp only [Except.ok.injEq, Prod.mk.injEq] at h
    obtain ⟨_, rfl⟩ := h
    have hr := wEnd_is s i
    refine ⟨?_, hr.le_size rfl (by omega)⟩
    rcases Nat.lt_or_ge i (wEnd s i) with h | h
    · exact h
    · have e : wEnd s i = i := by have := hr.1; omega
      have := hr.2.2
      rw [e] at this
      simp [isWd, hs] at this
  · split at h
    · split at h
      · cases h
      · rename_i n e hn
        simp only [Except.ok.injEq, Prod.mk.injEq] at h
        obtain ⟨_, rfl⟩ := h
        exact numM_gt hn hi
    · split at h
      · simp only [Except.ok.injEq, Prod.mk.injEq] at h; omega
      · split at h
        · simp only [Except.ok.injEq, Prod.mk.injEq] at h; omega
        · cases h

/-- More fuel changes nothing. -/
theorem scanFrom_fuel (s : ByteArray) : ∀ (f g i : Nat) (acc : List MTok), s.size ≤ f + i → s.size ≤ g + i → scanFrom s f i acc = scanFrom s g i acc
  | 0, 0, _, _, _, _ => rfl
  | 0, g + 1, i, acc, hf, _ => by simp only [scanFrom]; rw [if_neg (by omega)]
  | f + 1, 0, i, acc, _, hg => by simp only [scanFrom]; rw [if_neg (by omega)]
  | f + 1, g + 1, i, acc, hf, hg => by
    simp only [scanFrom]
    by_cases hi : i < s.size
    · rw [if_pos hi, if_pos hi]
      by_cases hb : bt s i = 32
      · rw [if_pos hb, if_pos hb]
        exact scanFrom_fuel s f g (i + 1) acc (by omega) (by omega)
      · rw [if_neg hb, if_neg hb]
        cases ht : tokM s i with
        | error e => rfl
        | ok q =>
          obtain ⟨t, k⟩ := q
          have := tokM_gt ht hi
          exact scanFrom_fuel s f g k _ (by omega) (by omega)
    · rw [if_neg hi, if_neg hi]

/-- What is left from a place on. -/
def left (s : ByteArray) (i : Nat) (acc : List MTok) : Except (Nat × Nat) (List MTok) := scanFrom s (s.size - i) i acc
theorem left_end {s : ByteArray} {i : Nat} (acc : List MTok) (h : ¬ i < s.size) : left s i acc = .ok acc := by
  unfold left; rw [show s.size - i = 0 by omega]; rfl
theorem left_blank {s : ByteArray} {i : Nat} (acc : List MTok) (h : i < s.size) (hb : bt s i = 32) : left s i acc = left s (i + 1) acc := by
  unfold left; rw [show s.size - i = (s.size - (i + 1)) + 1 by omega]; simp only [scanFrom]; rw [if_pos h, if_pos hb]
theorem left_bad {s : ByteArray} {i : Nat} (acc : List MTok) {e : Nat × Nat} (h : i < s.size) (hb : ¬ bt s i = 32) (ht : tokM s i = .error e) : left s i acc = .error e := by
  unfold left; rw [show s.size - i = (s.size - (i + 1)) + 1 by omega]; simp only [scanFrom]; rw [if_pos h, if_neg hb, ht]
theorem left_tok {s : ByteArray} {i : Nat} (acc : List MTok) {t : MTok} {k : Nat} (h : i < s.size) (hb : ¬ bt s i = 32) (ht : tokM s i = .ok (t, k)) : left s i acc = left s k (acc ++ [t]) := by
  have hk := tokM_gt ht h
  unfold left; rw [show s.size - i = (s.size - (i + 1)) + 1 by omega]; simp only [scanFrom]; rw [if_pos h, if_neg hb, ht]
  exact scanFrom_fuel s _ _ k _ (by omega) (by omega)
theorem scanM_left {s : ByteArray} (h : s.size ≤ 20000) : scanM s = left s 0 [] := by unfold scanM left; rw [if_neg (by omega)]; rfl
end Go.Proofs.YtegeiojcdjnmjaaDoor
namespace Go.Proofs.YtegeiojcdjnmjaaDoor
set_option linter.unusedVariables false
set_option linter.unusedSimpArgs false

/-- The bytes of a text from a place on. -/
def bl (s : ByteArray) : Nat → Nat → List UInt8
  | _, 0 => []
  | i, n + 1 => UInt8.ofNat (bt s i) :: bl s (i + 1) n

theorem bl_len (s : ByteArray) : ∀ n i, (bl s i n).length = n
  | 0, _ => rfl
  | n + 1, i => by simp [bl, bl_len s n (i + 1)]

theorem bl_get (s : ByteArray) : ∀ n i j, j < n → (bl s i n)[j]? = some (UInt8.ofNat (bt s (i + j)))
  | 0, _, _, h => by omega
  | n + 1, i, 0, _ => by simp [bl]
  | n + 1, i, j + 1, h => by
    have := bl_get s n (i + 1) j (by omega)
    simp only [bl, List.getElem?_cons_succ]
    rw [this, show i + 1 + j = i + (j + 1) by omega]

theorem extract_bl (s : ByteArray) (i e : Nat) (he : e ≤ s.size) : (s.extract i e).data.toList = bl s i (e - i) := by
  rw [Lib.extract_data]
  have hsz : s.data.toList.length = s.size := by simp
  apply List.ext_getElem?
  intro j
  by_cases hj : j < e - i
  · rw [bl_get s _ _ _ hj, List.getElem?_take, if_pos hj, List.getElem?_drop]
    have hlt : i + j < s.size := by omega
    have hl2 : i + j < s.data.toList.length := by omega
    rw [List.getElem?_eq_getElem hl2]
    congr 1
    have : bt s (i + j) = (s.data.toList[i + j]).toNat := by rw [← bt_get hlt]; rfl
    rw [this]
    simp
  · rw [List.getElem?_take, if_neg hj, List.getElem?_eq_none (by rw [bl_len]; omega)]

theorem toNat_bt (s : ByteArray) (i : Nat) : (UInt8.ofNat (bt s i)).toNat = bt s i := by
  have := bt_le s i
  rw [UInt8.toNat_ofNat']
  omega

theorem dv_mono (s : ByteArray) (f : Nat) : ∀ m k, dv s f k ≤ dv s f (k + m)
  | 0, k => Nat.le_refl _
  | m + 1, k => by
    have := dv_mono s f m k
    show dv s f k ≤ dv s f (k + m) * 10 + _
    omega

theorem parse_run (s : ByteArray) (f : Nat) : ∀ (n k : Nat), (∀ j, k ≤ j → j < k + n → isDg (bt s (f + j)) = true) → dv s f k < 18446744073709551616 →
    Lib.parseUint10 (dv s f k) (bl s (f + k) n) = if dv s f (k + n) < 18446744073709551616 then .ok (dv s f (k + n)) else .range
  | 0, k, _, hk => by simp only [bl, Lib.parseUint10, Nat.add_zero]; rw [if_pos hk]
  | n + 1, k, hd, hk => by
    have h0 := isDg_iff.1 (hd k (Nat.le_refl _) (by omega))
    have hm := dv_mono s f n (k + 1)
    have e1 : dv s f (k + 1) = dv s f k * 10 + (bt s (f + k) - 48) := rfl
    have e2 : k + (n + 1) = k + 1 + n := by omega
    simp only [bl, Lib.parseUint10]
    rw [toNat_bt, if_pos h0, e2]
    by_cases hb : 1844674407370955162 ≤ dv s f k
    · rw [if_pos hb, if_neg (by omega)]
    · rw [if_neg hb]
      by_cases hc : 18446744073709551616 ≤ dv s f k * 10 + (bt s (f + k) - 48)
      · rw [if_pos hc, if_neg (by omega)]
      · rw [if_neg hc, ← e1]
        have := parse_run s f n (k + 1) (fun j h1 h2 => hd j (by omega) (by omega)) (by omega)
        rw [← Nat.add_assoc] at this
        exact this

/-- All bytes from a number's first digit to its end are digits. -/
theorem nE_digits {s : ByteArray} {i : Nat} (h : ¬ nBad s i) (hs : bt s i = 45 ∨ isDg (bt s i) = true) : ∀ j, nF s i ≤ j → j < nE s i → isDg (bt s j) = true := by
  intro j h1 h2
  have hf : isDg (bt s (nF s i)) = true := by
    rw [isDg_iff]
    by_cases h45 : bt s i = 45
    · unfold nBad at h; omega
    · have e : nF s i = i := by unfold nF; rw [if_neg h45]
      rw [e]
      rcases hs with hs | hs
      · exact absurd hs h45
      · exact isDg_iff.1 hs
  by_cases hj : j = nF s i
  · rw [hj]; exact hf
  · unfold nE at h2
    by_cases h48 : bt s (nF s i) = 48
    · rw [if_pos h48] at h2; omega
    · rw [if_neg h48] at h2
      exact (dEnd_is s (nF s i + 1)).2.1 j (by omega) h2

theorem atoi_num {s : ByteArray} {i : Nat} (hi : i < s.size) (h : ¬ nBad s i) (hs : bt s i = 45 ∨ isDg (bt s i) = true) :
    Lib.atoiAll (s.extract i (nE s i)).data.toList = if nBig s i then .range else .ok (nN s i) := by
  obtain ⟨g1, g2, g3, g4⟩ := nE_gt h hi
  have hd := nE_digits h hs
  rw [extract_bl s i _ g3]
  obtain ⟨m, hm⟩ : ∃ m, nE s i - i = m + 1 := ⟨nE s i - i - 1, by omega⟩
  have hpar : Lib.parseMag (bl s (nF s i) (nE s i - nF s i)) = if nV s i < 18446744073709551616 then .ok (nV s i) else .range := by
    unfold Lib.parseMag
    rw [if_neg (by intro e; have := congrArg List.length e; rw [bl_len] at this; simp at this; omega)]
    have := parse_run s (nF s i) (nE s i - nF s i) 0 (fun j h1 h2 => hd (nF s i + j) (by omega) (by omega)) (by simp [dv])
    rw [Nat.zero_add, Nat.add_zero] at this
    exact this
  rw [hm]
  simp only [bl, Lib.atoiAll]
  rw [toNat_bt]
  by_cases h45 : bt s i = 45
  · have e : nF s i = i + 1 := by unfold nF; rw [if_pos h45]
    have e2 : nE s i - nF s i = m := by omega
    rw [e2, e] at hpar
    rw [if_pos (Or.inr h45), hpar]
    by_cases hv : nV s i < 18446744073709551616
    · rw [if_pos hv]
      simp only [h45, not_true, false_and, if_false, true_and, nBig, nN, if_true, or_false]
    · rw [if_neg hv, if_pos (by unfold nBig; omega)]
  · have e : nF s i = i := by unfold nF; rw [if_neg h45]
    have hdi : isDg (bt s i) = true := by rcases hs with hs | hs; exact absurd hs h45; exact hs
    have h43 : ¬ bt s i = 43 := by have := isDg_iff.1 hdi; omega
    rw [e, hm] at hpar
    simp only [bl] at hpar
    rw [if_neg (by omega), hpar]
    by_cases hv : nV s i < 18446744073709551616
    · rw [if_pos hv]
      simp only [h45, not_false_iff, true_and, false_and, if_false, nBig, nN, false_or]
    · rw [if_neg hv, if_pos (by unfold nBig; omega)]
end Go.Proofs.YtegeiojcdjnmjaaDoor
namespace Go.Proofs
open Go.Shelf
def Tryd.laysM316_ren : Go.Shelf.Ren := ⟨fun | 316 => 62 | n => n, fun | 9 => 9 | 3 => 3 | 4 => 4 | 37 => 92 | 0 => 0 | 127 => 105 | 5 => 5 | n => n, fun | n => n⟩
theorem Tryd.laysM316 : Go.Proofs.LaysM.n316 Tryd.prog Tryd.laysM316_ren := {
  mixed := by kernel_rfl
  f316 := Tryd.func62.trans (congrArg some (by kernel_rfl))
  t0 := Tryd.underlying0
  a0 := Tryd.isAgg0
  z0 := Tryd.sizeOf0
  v0 := Tryd.zeroValue0
  t3 := Tryd.underlying3
  a3 := Tryd.isAgg3
  z3 := Tryd.sizeOf3
  v3 := Tryd.zeroValue3
  t4 := Tryd.underlying4
  a4 := Tryd.isAgg4
  z4 := Tryd.sizeOf4
  v4 := Tryd.zeroValue4
  t9 := Tryd.underlying9
  a9 := Tryd.isAgg9
  z9 := Tryd.sizeOf9
  v9 := Tryd.zeroValue9
  t37 := Tryd.underlying92
  a37 := Tryd.isAgg92
  z37 := Tryd.sizeOf92
  v37 := Tryd.zeroValue92
  t127 := Tryd.underlying105
  a127 := Tryd.isAgg105
  z127 := Tryd.sizeOf105
  v127 := Tryd.zeroValue105
  t5 := Tryd.underlying5
  a5 := Tryd.isAgg5
  z5 := Tryd.sizeOf5
  v5 := Tryd.zeroValue5
  i0 := by kernel_rfl
  i3 := by kernel_rfl
  i4 := by kernel_rfl
  i5 := by kernel_rfl
  i9 := by kernel_rfl
  i37 := by kernel_rfl
  i127 := by kernel_rfl }
open Go.RowKit in
/-- internal/stringslite.Clone (what strings.Clone calls): "Clone returns a fresh copy of s.": THE SAME BYTES. Of what was there nothing has turned (a new row is laid, and frozen, where s is not empty). (LAID: no walk: one application.) -/
theorem Tryd.stringslite_Clone (s : ByteArray) (w : World) (hlim : s.size ≤ 281474976710656) :
    Calls Tryd.prog 62 #[.string s] w fun e w' => e = .returned (.string s) ∧ Below w.heap.size w w' := Any.stringslite_Clone Tryd.laysM316 s w hlim
def Tryd.laysC172_ren : Go.Shelf.Ren := ⟨fun | 172 => 61 | 244 => 77 | 245 => 78 | 247 => 87 | 279 => 88 | 280 => 89 | 281 => 90 | 282 => 91 | 287 => 96 | 316 => 62 | 171 => 52 | 205 => 97 | 321 => 103 | 322 => 104 | 243 => 72 | 246 => 83 | 283 => 92 | 284 => 93 | 285 => 94 | 286 => 95 | 129 => 99 | 317 => 98 | 318 => 100 | 319 => 101 | 320 => 102 | 337 => 105 | 338 => 106 | n => n, fun | 9 => 9 | 3 => 3 | 75 => 24 | 76 => 96 | 4 => 4 | 5 => 5 | 167 => 112 | 37 => 92 | 0 => 0 | 85 => 113 | 2 => 2 | 168 => 115 | 53 => 119 | 175 => 124 | 46 => 126 | 210 => 128 | 127 => 105 | 145 => 139 | 143 => 137 | 21 => 21 | 171 => 118 | 173 => 122 | 212 => 132 | 51 => 133 | 20 => 20 | 213 => 134 | 232 => 141 | 233 => 142 | 80 => 98 | n => n, fun | 15 => 0 | 16 => 1 | 17 => 2 | 18 => 3 | 19 => 4 | n => n⟩
theorem Tryd.laysC172 : Go.Proofs.LaysC.n172 Tryd.prog Tryd.laysC172_ren := {
  mixed := by kernel_rfl
  f129 := Tryd.func99.trans (congrArg some (by kernel_rfl))
  f171 := Tryd.func52.trans (congrArg some (by kernel_rfl))
  f172 := Tryd.func61.trans (congrArg some (by kernel_rfl))
  f205 := Tryd.func97.trans (congrArg some (by kernel_rfl))
  f243 := Tryd.func72.trans (congrArg some (by kernel_rfl))
  f244 := Tryd.func77.trans (congrArg some (by kernel_rfl))
  f245 := Tryd.func78.trans (congrArg some (by kernel_rfl))
  f246 := Tryd.func83.trans (congrArg some (by kernel_rfl))
  f247 := Tryd.func87.trans (congrArg some (by kernel_rfl))
  f279 := Tryd.func88.trans (congrArg some (by kernel_rfl))
  f280 := Tryd.func89.trans (congrArg some (by kernel_rfl))
  f281 := Tryd.func90.trans (congrArg some (by kernel_rfl))
  f282 := Tryd.func91.trans (congrArg some (by kernel_rfl))
  f283 := Tryd.func92.trans (congrArg some (by kernel_rfl))
  f284 := Tryd.func93.trans (congrArg some (by kernel_rfl))
  f285 := Tryd.func94.trans (congrArg some (by kernel_rfl))
  f286 := Tryd.func95.trans (congrArg some (by kernel_rfl))
  f287 := Tryd.func96.trans (congrArg some (by kernel_rfl))
  f316 := Tryd.func62.trans (congrArg some (by kernel_rfl))
  f317 := Tryd.func98.trans (congrArg some (by kernel_rfl))
  f318 := Tryd.func100.trans (congrArg some (by kernel_rfl))
  f319 := Tryd.func101.trans (congrArg some (by kernel_rfl))
  f320 := Tryd.func102.trans (congrArg some (by kernel_rfl))
  f321 := Tryd.func103.trans (congrArg some (by kernel_rfl))
  f322 := Tryd.func104.trans (congrArg some (by kernel_rfl))
  f337 := Tryd.func105.trans (congrArg some (by kernel_rfl))
  f338 := Tryd.func106.trans (congrArg some (by kernel_rfl))
  t0 := Tryd.underlying0
  a0 := Tryd.isAgg0
  z0 := Tryd.sizeOf0
  v0 := Tryd.zeroValue0
  t2 := Tryd.underlying2
  a2 := Tryd.isAgg2
  z2 := Tryd.sizeOf2
  v2 := Tryd.zeroValue2
  t3 := Tryd.underlying3
  a3 := Tryd.isAgg3
  z3 := Tryd.sizeOf3
  v3 := Tryd.zeroValue3
  t4 := Tryd.underlying4
  a4 := Tryd.isAgg4
  z4 := Tryd.sizeOf4
  v4 := Tryd.zeroValue4
  t5 := Tryd.underlying5
  a5 := Tryd.isAgg5
  z5 := Tryd.sizeOf5
  v5 := Tryd.zeroValue5
  t9 := Tryd.underlying9
  a9 := Tryd.isAgg9
  z9 := Tryd.sizeOf9
  v9 := Tryd.zeroValue9
  t20 := Tryd.underlying20
  a20 := Tryd.isAgg20
  z20 := Tryd.sizeOf20
  v20 := Tryd.zeroValue20
  t21 := Tryd.underlying21
  a21 := Tryd.isAgg21
  z21 := Tryd.sizeOf21
  v21 := Tryd.zeroValue21
  t37 := Tryd.underlying92
  a37 := Tryd.isAgg92
  z37 := Tryd.sizeOf92
  v37 := Tryd.zeroValue92
  t46 := Tryd.underlying126
  a46 := Tryd.isAgg126
  z46 := Tryd.sizeOf126
  v46 := Tryd.zeroValue126
  t51 := Tryd.underlying133
  a51 := Tryd.isAgg133
  z51 := Tryd.sizeOf133
  v51 := Tryd.zeroValue133
  t53 := Tryd.underlying119
  a53 := Tryd.isAgg119
  z53 := Tryd.sizeOf119
  v53 := Tryd.zeroValue119
  t75 := Tryd.underlying24
  a75 := Tryd.isAgg24
  z75 := Tryd.sizeOf24
  v75 := Tryd.zeroValue24
  t76 := Tryd.underlying96
  a76 := Tryd.isAgg96
  z76 := Tryd.sizeOf96
  v76 := Tryd.zeroValue96
  t85 := Tryd.underlying113
  a85 := Tryd.isAgg113
  z85 := Tryd.sizeOf113
  v85 := Tryd.zeroValue113
  t127 := Tryd.underlying105
  a127 := Tryd.isAgg105
  z127 := Tryd.sizeOf105
  v127 := Tryd.zeroValue105
  t143 := Tryd.underlying137
  a143 := Tryd.isAgg137
  z143 := Tryd.sizeOf137
  v143 := Tryd.zeroValue137
  t145 := Tryd.underlying139
  a145 := Tryd.isAgg139
  z145 := Tryd.sizeOf139
  v145 := Tryd.zeroValue139
  t167 := Tryd.underlying112
  a167 := Tryd.isAgg112
  z167 := Tryd.sizeOf112
  v167 := Tryd.zeroValue112
  t168 := Tryd.underlying115
  a168 := Tryd.isAgg115
  z168 := Tryd.sizeOf115
  v168 := Tryd.zeroValue115
  t171 := Tryd.underlying118
  a171 := Tryd.isAgg118
  z171 := Tryd.sizeOf118
  v171 := Tryd.zeroValue118
  t173 := Tryd.underlying122
  a173 := Tryd.isAgg122
  z173 := Tryd.sizeOf122
  v173 := Tryd.zeroValue122
  t175 := Tryd.underlying124
  a175 := Tryd.isAgg124
  z175 := Tryd.sizeOf124
  v175 := Tryd.zeroValue124
  t210 := Tryd.underlying128
  a210 := Tryd.isAgg128
  z210 := Tryd.sizeOf128
  v210 := Tryd.zeroValue128
  t212 := Tryd.underlying132
  a212 := Tryd.isAgg132
  z212 := Tryd.sizeOf132
  v212 := Tryd.zeroValue132
  t213 := Tryd.underlying134
  a213 := Tryd.isAgg134
  z213 := Tryd.sizeOf134
  t232 := Tryd.underlying141
  a232 := Tryd.isAgg141
  z232 := Tryd.sizeOf141
  v232 := Tryd.zeroValue141
  t233 := Tryd.underlying142
  a233 := Tryd.isAgg142
  z233 := Tryd.sizeOf142
  v233 := Tryd.zeroValue142
  g15 := by kernel_rfl
  g16 := by kernel_rfl
  g17 := by kernel_rfl
  g18 := by kernel_rfl
  g19 := by kernel_rfl
  t80 := Tryd.underlying98
  a80 := Tryd.isAgg98
  z80 := Tryd.sizeOf98
  v80 := Tryd.zeroValue98
  i0 := by kernel_rfl
  i2 := by kernel_rfl
  i3 := by kernel_rfl
  i4 := by kernel_rfl
  i5 := by kernel_rfl
  i9 := by kernel_rfl
  i20 := by kernel_rfl
  i21 := by kernel_rfl
  i37 := by kernel_rfl
  i46 := by kernel_rfl
  i51 := by kernel_rfl
  i53 := by kernel_rfl
  i75 := by kernel_rfl
  i76 := by kernel_rfl
  i80 := by kernel_rfl
  i85 := by kernel_rfl
  i127 := by kernel_rfl
  i143 := by kernel_rfl
  i145 := by kernel_rfl
  i167 := by kernel_rfl
  i168 := by kernel_rfl
  i171 := by kernel_rfl
  i173 := by kernel_rfl
  i175 := by kernel_rfl
  i210 := by kernel_rfl
  i212 := by kernel_rfl
  i232 := by kernel_rfl
  i233 := by kernel_rfl
  m15 := by kernel_rfl
  m16 := by kernel_rfl
  m17 := by kernel_rfl
  m18 := by kernel_rfl
  m19 := by kernel_rfl
  c0 := by kernel_rfl
  c2 := by kernel_rfl
  c3 := by kernel_rfl
  c4 := by kernel_rfl
  c5 := by kernel_rfl
  c9 := by kernel_rfl
  c20 := by kernel_rfl
  c21 := by kernel_rfl
  c37 := by kernel_rfl
  c46 := by kernel_rfl
  c51 := by kernel_rfl
  c53 := by kernel_rfl
  c75 := by kernel_rfl
  c76 := by kernel_rfl
  c80 := by kernel_rfl
  c85 := by kernel_rfl
  c127 := by kernel_rfl
  c143 := by kernel_rfl
  c145 := by kernel_rfl
  c167 := by kernel_rfl
  c168 := by kernel_rfl
  c171 := by kernel_rfl
  c173 := by kernel_rfl
  c175 := by kernel_rfl
  c210 := by kernel_rfl
  c212 := by kernel_rfl
  c213 := by kernel_rfl
  c232 := by kernel_rfl
  c233 := by kernel_rfl }
open Go.RowKit in
/-- strconv.Atoi, AT EVERY STRING THAT SPELLS AN int ('Lib.atoiAll .. = .ok v'; of whatever length: leading zeros count): v, AND NO ERROR. The world: as it was, or with the one new row that '[]byte(..)' lays. (LAID: no walk: one application.) -/
theorem Tryd.strconv_Atoi_ok (s : ByteArray) (hmax : s.size ≤ 9223372036854775806) (v : Int) (h : Lib.atoiAll s.data.toList = .ok v) (w : World) :
    Calls Tryd.prog 61 #[.string s] w fun e w' => e = .returned (.tuple #[.int .i64 v, .nilIface]) ∧ (w' = w ∨ ∃ t, w' = Lib.bytesWorld w 5 t) := Any.strconv_Atoi_ok Tryd.laysC172 s hmax v h w
open Go.RowKit in
/-- strconv.Atoi, AT EVERY NUMERAL THAT NO int HOLDS ('.range'): THE GREATEST OR THE LEAST int, BY THE SIGN ('Lib.atoiSat'), AND AN ERROR THAT IS NOT nil: a *NumError in a new block N: {Func: "Atoi", Num: s's bytes, Err: what the variable ErrRange holds}. Of what was there nothing has turned. (LAID: no walk: one application.) -/
theorem Tryd.strconv_Atoi_range (s : ByteArray) (hlim : s.size ≤ 281474976710656) (h : Lib.atoiAll s.data.toList = .range) (ev : Value) (w : World) (hv : w.cell? ⟨1, 0, none⟩ = some ev) (hev : ev = .nilIface ∨ ∃ te pe, ev = .iface te pe) :
    Calls Tryd.prog 61 #[.string s] w fun e w' => ∃ N, e = .returned (.tuple #[.int .i64 (Lib.atoiSat s.data.toList), .iface 115 (.pointer (some ⟨N, 0, none⟩))]) ∧ w.heap.size ≤ N ∧ w'.heap[N]? = some (.cells #[.string ⟨#[65, 116, 111, 105]⟩, .string s, ev] 128 (0, 0)) ∧ Below w.heap.size w w' := Any.strconv_Atoi_range Tryd.laysC172 s hlim h ev w hv hev
end Go.Proofs
namespace Go.Proofs.YtegeiojcdjnmjaaDoor
set_option linter.unusedVariables false
set_option linter.unusedSimpArgs false
open Go.RowKit

theorem hid {p : Prop} (h : p) : Hid p := h


theorem isSmall_any (c : Nat) (w : World) : Calls Tryd.prog 36 #[.int .u8 c] w fun e w' => e = .returned (.bool (isSm c)) ∧ w' = w := by
  by_cases h1 : (97 : Int) ≤ (c : Int)
  · by_cases h2 : (c : Int) ≤ 122
    · have r := hid (show isSm c = true from isSm_iff.2 (by omega))
      go_enter Tryd.func36, Tryd.ntmps36
      go_wp2
      go_ret
      exact ⟨by rw [r.out]; rfl, rfl⟩
    · have r : isSm c = false := isSm_no.2 (by omega)
      go_enter Tryd.func36, Tryd.ntmps36
      go_wp2
      go_ret
      exact ⟨rfl, rfl⟩
  · have r : isSm c = false := isSm_no.2 (by omega)
    go_enter Tryd.func36, Tryd.ntmps36
    go_wp2
    go_ret
    exact ⟨rfl, rfl⟩

theorem isDigit_any (c : Nat) (w : World) : Calls Tryd.prog 38 #[.int .u8 c] w fun e w' => e = .returned (.bool (isDg c)) ∧ w' = w := by
  by_cases h1 : (48 : Int) ≤ (c : Int)
  · by_cases h2 : (c : Int) ≤ 57
    · have r := hid (show isDg c = true from isDg_iff.2 (by omega))
      go_enter Tryd.func38, Tryd.ntmps38
      go_wp2
      go_ret
      exact ⟨by rw [r.out]; rfl, rfl⟩
    · have r : isDg c = false := isDg_no.2 (by omega)
      go_enter Tryd.func38, Tryd.ntmps38
      go_wp2
      go_ret
      exact ⟨rfl, rfl⟩
  · have r : isDg c = false := isDg_no.2 (by omega)
    go_enter Tryd.func38, Tryd.ntmps38
    go_wp2
    go_ret
    exact ⟨rfl, rfl⟩

theorem refLetter_any (c : Nat) (w : World) : Calls Tryd.prog 67 #[.int .u8 c] w fun e w' => e = .returned (.bool (isSm c)) ∧ w' = w := by
  by_cases h1 : (97 : Int) ≤ (c : Int)
  · by_cases h2 : (c : Int) ≤ 122
    · have r := hid (show isSm c = true from isSm_iff.2 (by omega))
      go_enter Tryd.func67, Tryd.ntmps67
      go_wp2
      go_ret
      exact ⟨by rw [r.out]; rfl, rfl⟩
    · have r : isSm c = false := isSm_no.2 (by omega)
      go_enter Tryd.func67, Tryd.ntmps67
      go_wp2
      go_ret
      exact ⟨rfl, rfl⟩
  · have r : isSm c = false := isSm_no.2 (by omega)
    go_enter Tryd.func67, Tryd.ntmps67
    go_wp2
    go_ret
    exact ⟨rfl, rfl⟩

theorem refDigit_any (c : Nat) (w : World) : Calls Tryd.prog 69 #[.int .u8 c] w fun e w' => e = .returned (.bool (isDg c)) ∧ w' = w := by
  by_cases h1 : (48 : Int) ≤ (c : Int)
  · by_cases h2 : (c : Int) ≤ 57
    · have r := hid (show isDg c = true from isDg_iff.2 (by omega))
      go_enter Tryd.func69, Tryd.ntmps69
      go_wp2
      go_ret
      exact ⟨by rw [r.out]; rfl, rfl⟩
    · have r : isDg c = false := isDg_no.2 (by omega)
      go_enter Tryd.func69, Tryd.ntmps69
      go_wp2
      go_ret
      exact ⟨rfl, rfl⟩
  · have r : isDg c = false := isDg_no.2 (by omega)
    go_enter Tryd.func69, Tryd.ntmps69
    go_wp2
    go_ret
    exact ⟨rfl, rfl⟩

/-- The reference's byte at a place, 0 behind the end. -/
theorem refAt_any (s : ByteArray) (i : Nat) (w : World) (hs : s.size ≤ 9223372036854775807) : Calls Tryd.prog 68 #[.string s, .int .i64 i] w fun e w' => e = .returned (.int .u8 (bt s i : Nat)) ∧ w' = w := by
  by_cases h : i < s.size
  · have hi : (i : Int) < (s.size : Int) := by omega
    have hb : Hid ((s[i]'h).toNat = bt s i) := bt_get h
    go_enter Tryd.func68, Tryd.ntmps68
    go_wp2
    go_ret
    refine ⟨?_, rfl⟩
    rw [← hb.out]; rfl
  · have hb : Hid (bt s i = 0) := bt_out h
    have hi : ¬ (i : Int) < (s.size : Int) := by omega
    go_enter Tryd.func68, Tryd.ntmps68
    go_wp2
    go_ret
    refine ⟨?_, rfl⟩
    rw [hb.out]; rfl

set_option maxHeartbeats 1000000 in
/-- The place behind a word. -/
theorem wordEnd_any (s : ByteArray) (i : Nat) (w : World) (hs : s.size ≤ 9223372036854775806) : Calls Tryd.prog 37 #[.string s, .int .i64 i] w fun e w' => e = .returned (.int .i64 (wEnd s i : Nat)) ∧ w' = w := by
  have W := hid (wEnd_is s i)
  go_enter Tryd.func37, Tryd.ntmps37
  go_wp2
  go_loopg [1] (s.size - i) (fun g t wr => ∃ k : Nat, i ≤ k ∧ s.size - k ≤ g ∧ t = .int .i64 k ∧ wr = w ∧ Aside (∀ j, i ≤ j → j < k → isWd (bt s j) = true))
  case atStart => exact ⟨i, Nat.le_refl _, Nat.le_refl _, rfl, rfl, fun j h1 h2 => by omega⟩
  case round =>
    obtain ⟨k, hk, hg, rfl, rfl, A⟩ := hrel
    by_cases hlt : k < s.size
    · have hlti : (k : Int) < (s.size : Int) := by omega
      have HB := hid (bt_get hlt)
      cases q1 : isSm (s[k]'hlt).toNat with
      | true =>
        go_wp2_with (go_at_call 36; refine (isSmall_any _ _).mono ?_; rintro e w' ⟨rfl, rfl⟩)
        go_roundg (s.size - (k + 1))
        case measure => omega
        case rel =>
          refine ⟨k + 1, by omega, by omega, by go_num, rfl, (show Aside _ from fun j h1 h2 => ?_)⟩
          by_cases e : j = k
          · subst e; rw [← HB.out]; simp [isWd, q1]
          · exact A.out j h1 (by omega)
      | false =>
        cases q2 : isDg (s[k]'hlt).toNat with
        | true =>
          go_wp2_with (first | (go_at_call 36; refine (isSmall_any _ _).mono ?_; rintro e w' ⟨rfl, rfl⟩) | (go_at_call 38; refine (isDigit_any _ _).mono ?_; rintro e w' ⟨rfl, rfl⟩))
          go_roundg (s.size - (k + 1))
          case measure => omega
          case rel =>
            refine ⟨k + 1, by omega, by omega, by go_num, rfl, (show Aside _ from fun j h1 h2 => ?_)⟩
            by_cases e : j = k
            · subst e; rw [← HB.out]; simp [isWd, q1, q2]
            · exact A.out j h1 (by omega)
        | false =>
          go_wp2_with (first | (go_at_call 36; refine (isSmall_any _ _).mono ?_; rintro e w' ⟨rfl, rfl⟩) | (go_at_call 38; refine (isDigit_any _ _).mono ?_; rintro e w' ⟨rfl, rfl⟩))
          go_ret
          refine ⟨?_, rfl⟩
          rw [W.out.uniq ⟨hk, A.out, by rw [← HB.out]; simp [isWd, q1, q2]⟩]
          rfl
    · have hlti : ¬ (k : Int) < (s.size : Int) := by omega
      go_wp2_with fail
      go_ret
      refine ⟨?_, rfl⟩
      rw [W.out.uniq ⟨hk, A.out, by rw [bt_out hlt]; rfl⟩]
      rfl

/-- strings.Clone: the same text. -/
theorem clone_any (s : ByteArray) (w : World) (hs : s.size ≤ 281474976710656) : Calls Tryd.prog 40 #[.string s] w fun e w' => e = .returned (.string s) ∧ Below w.heap.size w w' := by
  go_enter Tryd.func40, Tryd.ntmps40
  go_wp2_with (go_at_call 62; refine (Tryd.stringslite_Clone _ _ hs).mono ?_; rintro e w' ⟨rfl, hb⟩)
  go_ret
  exact ⟨rfl, hb⟩
end Go.Proofs.YtegeiojcdjnmjaaDoor
namespace Go.Proofs.YtegeiojcdjnmjaaDoor
set_option linter.unusedVariables false
set_option linter.unusedSimpArgs false
open Go.RowKit

/-- Two lists, element by element. -/
def allEq {α : Type} (eq : α → α → Bool) : List α → List α → Bool
  | [], [] => true
  | x :: xs, y :: ys => eq x y && allEq eq xs ys
  | _, _ => false

theorem allEq_len {α : Type} (eq : α → α → Bool) : ∀ (xs ys : List α), xs.length ≠ ys.length → allEq eq xs ys = false
  | [], [], h => absurd rfl h
  | [], _ :: _, _ => rfl
  | _ :: _, [], _ => rfl
  | x :: xs, y :: ys, h => by
    have := allEq_len eq xs ys (fun e => h (by simp [e]))
    simp [allEq, this]

theorem allEq_hit {α : Type} [Inhabited α] (eq : α → α → Bool) : ∀ (xs ys : List α), xs.length = ys.length → (∀ j, j < xs.length → eq (xs.getD j default) (ys.getD j default) = true) → allEq eq xs ys = true
  | [], [], _, _ => rfl
  | [], _ :: _, h, _ => by simp at h
  | _ :: _, [], h, _ => by simp at h
  | x :: xs, y :: ys, h, hj => by
    have h0 := hj 0 (by simp)
    have := allEq_hit eq xs ys (by simpa using h) (fun j hl => by simpa using hj (j + 1) (by simpa using hl))
    simp at h0
    simp [allEq, this, h0]

theorem allEq_miss {α : Type} [Inhabited α] (eq : α → α → Bool) : ∀ (xs ys : List α) (j : Nat), j < xs.length → eq (xs.getD j default) (ys.getD j default) = false → allEq eq xs ys = false
  | [], _, j, h, _ => by simp at h
  | _ :: _, [], j, _, _ => rfl
  | x :: xs, y :: ys, 0, _, hj => by simp at hj; simp [allEq, hj]
  | x :: xs, y :: ys, j + 1, h, hj => by
    have := allEq_miss eq xs ys j (by simpa using h) (by simpa using hj)
    simp [allEq, this]

theorem allEq_refl {α : Type} (eq : α → α → Bool) (h : ∀ x, eq x x = true) : ∀ xs, allEq eq xs xs = true
  | [] => rfl
  | x :: xs => by simp [allEq, h x, allEq_refl eq h xs]

theorem allEq_symm {α : Type} (eq : α → α → Bool) (h : ∀ x y, eq x y = eq y x) : ∀ xs ys, allEq eq xs ys = allEq eq ys xs
  | [], [] => rfl
  | [], _ :: _ => rfl
  | _ :: _, [] => rfl
  | x :: xs, y :: ys => by simp [allEq, h x y, allEq_symm eq h xs ys]

/-- A slice of elements of k cells, each with a property of its cells. -/
def RowsIn {α : Type} [Inhabited α] (k bytes : Nat) (R : List Value → α → Prop) (S : Nat → Prop) (w : World) (v : Value) (l : List α) : Prop :=
  ∃ ao c, v = .slice ao l.length c ∧ l.length * bytes ≤ 140737488355328 ∧ (0 < l.length → ∃ b off, ao = some ⟨b, off, none⟩ ∧ S b ∧ ∀ j, j < l.length → ∃ cs, cs.length = k ∧ R cs (l.getD j default) ∧ ∀ i u, cs[i]? = some u → w.cell? ⟨b, off + j * k + i, none⟩ = some u)

/-- w' holds what w held in the blocks of S. -/
def KeepsIn (S : Nat → Prop) (w w' : World) : Prop := ∀ b, S b → b < w.heap.size → w'.heap[b]? = w.heap[b]?

theorem KeepsIn.cell {S : Nat → Prop} {w w' : World} (h : KeepsIn S w w') {p : Addr} {u : Value} (hS : S p.block) (hc : w.cell? p = some u) : w'.cell? p = some u :=
  (World.cell?_of_block (w := w) (h p.block hS (World.block_lt_of_cell? _ _ hc))).trans hc

theorem RowsIn.keep {α : Type} [Inhabited α] {k bytes : Nat} {R R' : List Value → α → Prop} {S T : Nat → Prop} {w w' : World} {v : Value} {l : List α} (h : RowsIn k bytes R S w v l) (hk0 : 0 < k) (hR : ∀ cs x, R cs x → R' cs x) (hk : KeepsIn S w w') (hT : ∀ b, b < w.heap.size → S b → T b) : RowsIn k bytes R' T w' v l := by
  obtain ⟨ao, c, hv, hl, hc⟩ := h
  refine ⟨ao, c, hv, hl, fun h0 => ?_⟩
  obtain ⟨b, off, ha, hS, hj⟩ := hc h0
  refine ⟨b, off, ha, hT b ?_ hS, fun j h => ?_⟩
  · obtain ⟨cs, hlen, _, hcs⟩ := hj 0 h0
    exact World.block_lt_of_cell? _ _ (hcs 0 cs[0] (List.getElem?_eq_getElem (by omega)))
  · obtain ⟨cs, hlen, hr, hcs⟩ := hj j h
    exact ⟨cs, hlen, hR _ _ hr, fun i u hi => hk.cell (p := ⟨b, off + j * k + i, none⟩) hS (hcs i u hi)⟩

/-- Anywhere. -/
def Any (_ : Nat) : Prop := True
theorem keeps_below {S : Nat → Prop} {w w' : World} (h : Below w.heap.size w w') : KeepsIn S w w' := fun b _ hb => h.block b hb

/-- The cells of each element of a slice of length n. -/
def RowCells {α : Type} [Inhabited α] (k : Nat) (R : List Value → α → Prop) (w : World) (ao : Option Addr) (xs : List α) (n : Nat) : Prop :=
  ∀ j, j < n → ∃ b o cs, ao = some ⟨b, o, none⟩ ∧ b < w.heap.size ∧ cs.length = k ∧ R cs (xs.getD j default) ∧ ∀ i u, cs[i]? = some u → w.cell? ⟨b, o + j * k + i, none⟩ = some u

theorem RowsIn.cells {α : Type} [Inhabited α] {k bytes : Nat} {R : List Value → α → Prop} {S : Nat → Prop} {w : World} {v : Value} {l : List α} (h : RowsIn k bytes R S w v l) (hk : 0 < k) :
    ∃ ao c, v = .slice ao l.length c ∧ l.length * bytes ≤ 140737488355328 ∧ RowCells k R w ao l l.length := by
  obtain ⟨ao, c, hv, hl, hc⟩ := h
  refine ⟨ao, c, hv, hl, fun j hj => ?_⟩
  obtain ⟨b, off, ha, _, hcc⟩ := hc (by omega)
  obtain ⟨cs, h1, h2, h3⟩ := hcc j hj
  exact ⟨b, off, cs, ha, World.block_lt_of_cell? _ _ (h3 0 cs[0] (List.getElem?_eq_getElem (by omega))), h1, h2, h3⟩

theorem flatten_len {α : Type} (k : Nat) : ∀ (rows : List (List α)), (∀ r ∈ rows, r.length = k) → rows.flatten.length = rows.length * k
  | [], _ => by simp
  | r :: rows, h => by
    have := flatten_len k rows (fun x hx => h x (by simp [hx]))
    simp only [List.flatten_cons, List.length_append, List.length_cons, this, h r (by simp)]
    rw [Nat.add_mul]; omega

theorem flatten_get {α : Type} (k : Nat) : ∀ (rows : List (List α)) (j i : Nat), (∀ r ∈ rows, r.length = k) → j < rows.length → i < k → rows.flatten[j * k + i]? = (rows.getD j [])[i]?
  | [], j, i, _, h, _ => by simp at h
  | r :: rows, 0, i, h, _, hi => by
    have hr := h r (by simp)
    simp only [List.flatten_cons, Nat.zero_mul, Nat.zero_add]
    rw [List.getElem?_append_left (by omega)]
    simp
  | r :: rows, j + 1, i, h, hj, hi => by
    have hr := h r (by simp)
    have ih := flatten_get k rows j i (fun x hx => h x (by simp [hx])) (by simpa using hj) hi
    simp only [List.flatten_cons]
    rw [List.getElem?_append_right (by rw [hr, Nat.add_mul]; omega), hr, show (j + 1) * k + i - k = j * k + i by rw [Nat.add_mul]; omega, ih]
    simp

theorem owns_keep {w w' : World} {base e size n : Nat} {v : Value} {xs : List Value} (h : w.ownsRow base e size v n xs) (hk : ∀ g, v.ownBlock = some g → w'.heap[g]? = w.heap[g]?) : w'.ownsRow base e size v n xs := by
  refine ⟨h.1, ?_⟩
  rcases h.2 with hn | ⟨g, cap, cur, rfl, hb, hgg, rest⟩
  · exact .inl hn
  · exact .inr ⟨g, cap, cur, rfl, hb, (hk g rfl).trans hgg, rest⟩

/-- What a loop has gathered: n rows of 'size' cells in a block of its own, what they lead to elsewhere from B on. -/
structure OutInv {α : Type} [Inhabited α] (e size : Nat) (R : (Nat → Prop) → World → List Value → α → Prop) (B : Nat) (wr : World) (v : Value) (n : Nat) (rows : List (List Value)) (l : List α) : Prop where
  rn : rows.length = n
  ln : l.length = n
  own : wr.ownsRow B e size v n rows.flatten
  sizes : ∀ r ∈ rows, r.length = size
  each : ∀ j, j < n → R (fun b => B ≤ b ∧ v.ownBlock ≠ some b) wr (rows.getD j []) (l.getD j default)

theorem OutInv.nil {α : Type} [Inhabited α] (e size : Nat) (R : (Nat → Prop) → World → List Value → α → Prop) (B : Nat) (wr : World) : OutInv e size R B wr (.slice none 0 0) 0 [] [] :=
  ⟨rfl, rfl, World.ownsRow_nil _ _ _ _, fun _ h => by simp at h, fun j h => by omega⟩

section
variable {α : Type} [Inhabited α] {e size : Nat} {R : (Nat → Prop) → World → List Value → α → Prop} {B : Nat} {wr w3 w4 : World} {v : Value} {n : Nat} {rows : List (List Value)} {l : List α}

/-- In a world in which all older blocks are as they were, the row is as it was. -/
theorem OutInv.own3 (h : OutInv e size R B wr v n rows l) (h3 : Below wr.heap.size wr w3) : w3.ownsRow B e size v n rows.flatten :=
  owns_keep h.own (fun g hg => h3.block g (h.own.lt g hg).2)

/-- In a world in which all older blocks are as they were, all is as it was. -/
theorem OutInv.later (hkeep : ∀ (S T : Nat → Prop) w w' cs x, R S w cs x → KeepsIn S w w' → (∀ b, b < w.heap.size → S b → T b) → R T w' cs x) (h : OutInv e size R B wr v n rows l) (h3 : Below wr.heap.size wr w3) : OutInv e size R B w3 v n rows l :=
  ⟨h.rn, h.ln, h.own3 h3, h.sizes, fun j hj => hkeep _ _ _ _ _ _ (h.each j hj) (keeps_below h3) (fun _ _ h => h)⟩

/-- One element more. -/
theorem OutInv.step (hkeep : ∀ (S T : Nat → Prop) w w' cs x, R S w cs x → KeepsIn S w w' → (∀ b, b < w.heap.size → S b → T b) → R T w' cs x)
    (h : OutInv e size R B wr v n rows l) (hB : B ≤ wr.heap.size) (h3 : Below wr.heap.size wr w3) {row : List Value} {x : α} (hrow : R (fun b => wr.heap.size < b) w3 row x) (hlen : row.length = size)
    {g cap : Nat} (hown : w4.ownsRow B e size (.slice (some ⟨g, 0, none⟩) (n + 1) cap) (n + 1) (rows.flatten ++ row)) (hgrow : w3.grownBy w4 v.ownBlock) (hat : v.ownBlock = some g ∨ g = w3.heap.size) :
    OutInv e size R B w4 (.slice (some ⟨g, 0, none⟩) (n + 1) cap) (n + 1) (rows ++ [row]) (l ++ [x]) := by
  have hsz := h3.size
  have hlt : ∀ k, v.ownBlock = some k → k < wr.heap.size := fun k hk => (h.own.lt k hk).2
  refine ⟨by simp [h.rn], by simp [h.ln], by simpa using hown, ?_, fun j hj => ?_⟩
  · intro r hr
    rcases List.mem_append.1 hr with hr | hr
    · exact h.sizes r hr
    · simp at hr; rw [hr]; exact hlen
  · by_cases hjn : j < n
    · have e1 : (rows ++ [row]).getD j [] = rows.getD j [] := by simp [List.getD, List.getElem?_append_left (show j < rows.length by rw [h.rn]; exact hjn)]
      have e2 : (l ++ [x]).getD j default = l.getD j default := by simp [List.getD, List.getElem?_append_left (show j < l.length by rw [h.ln]; exact hjn)]
      rw [e1, e2]
      refine hkeep _ _ wr w4 _ _ (h.each j hjn) (fun b hb hbl => ?_) (fun b hbl hb => ⟨hb.1, ?_⟩)
      · exact (hgrow.block b (by omega) (fun e => hb.2 e.symm)).trans (h3.block b hbl)
      · simp only [Value.ownBlock]
        intro e
        cases e
        rcases hat with h' | h'
        · exact hb.2 h'
        · omega
    · have hjn' : j = n := by omega
      subst hjn'
      have e1 : (rows ++ [row]).getD j [] = row := by simp [List.getD, ← h.rn]
      have e2 : (l ++ [x]).getD j default = x := by simp [List.getD, ← h.ln]
      rw [e1, e2]
      refine hkeep _ _ w3 w4 _ _ hrow (fun b hb hbl => ?_) (fun b hbl hb => ⟨by omega, ?_⟩)
      · exact hgrow.block b hbl (fun e => by have := hlt b e.symm; omega)
      · simp only [Value.ownBlock]
        intro e
        cases e
        rcases hat with h' | h'
        · have := hlt _ h'; omega
        · omega

/-- At the end: the list lies in memory from B on. -/
theorem OutInv.rows_in {bytes : Nat} (hkeep : ∀ (S T : Nat → Prop) w w' cs x, R S w cs x → KeepsIn S w w' → (∀ b, b < w.heap.size → S b → T b) → R T w' cs x)
    (h : OutInv e size R B wr v n rows l) (hbytes : n * bytes ≤ 140737488355328) : RowsIn size bytes (R (fun b => B ≤ b) wr) (fun b => B ≤ b) wr v l := by
  have hl := h.ln
  subst hl
  rcases h.own.2 with ⟨hv, hn⟩ | ⟨g, cap, cur, hv, hg, _⟩
  · exact ⟨none, 0, by rw [hv, hn], hbytes, fun h0 => by omega⟩
  · refine ⟨some ⟨g, 0, none⟩, cap, hv, hbytes, fun _ => ⟨g, 0, rfl, hg, fun j hj => ?_⟩⟩
    have hjr : j < rows.length := by rw [h.rn]; exact hj
    have hmem : rows.getD j [] ∈ rows := by simp [List.getD, List.getElem?_eq_getElem hjr]
    refine ⟨rows.getD j [], h.sizes _ hmem, hkeep _ _ wr wr _ _ (h.each j hj) (fun _ _ _ => rfl) (fun b _ hb => hb.1), fun i u hi => ?_⟩
    have hil : i < size := by rw [← h.sizes _ hmem]; exact (List.getElem?_eq_some_iff.1 hi).1
    have := h.own.cells (g := g) (by rw [hv]; rfl) (j * size + i) u (by rw [flatten_get size rows j i h.sizes hjr hil]; exact hi)
    rw [Addr.add_lit] at this
    simpa [Nat.add_assoc] using this
end

/-- To store what is there changes nothing. -/
theorem setCell_self {w : World} {a : Addr} {v : Value} (h : w.cell? a = some v) : w.setCell a v = w := by
  have hh : (w.setCell a v).heap = w.heap := by
    apply Array.ext_getElem?
    intro k
    by_cases hk : k = a.block
    · subst hk
      simp only [World.setCell, Array.getElem?_modify, if_true]
      unfold World.cell? at h
      split at h
      · rename_i c t f hc
        split at h
        · cases h
        · rename_i hs
          rw [hc]
          have hlt : a.off < c.size := (Array.getElem?_eq_some_iff.1 h).1
          have hv : c[a.off] = v := (Array.getElem?_eq_some_iff.1 h).2
          simp only [← hv, Option.map_some, Option.some.injEq, Obj.cells.injEq, and_true]
          rw [if_neg hs]
          apply Array.ext_getElem?
          intro j
          rw [Array.getElem?_setIfInBounds]
          by_cases hj : a.off = j
          · subst hj; simp [hlt]
          · simp [hj]
      · cases h
    · exact Below.heap_setCell _ _ _ _ hk
  cases w
  simp only [World.setCell] at hh ⊢
  simp [hh]
end Go.Proofs.YtegeiojcdjnmjaaDoor
namespace Go.Proofs.YtegeiojcdjnmjaaDoor
set_option linter.unusedVariables false
set_option linter.unusedSimpArgs false
open Go.RowKit


/-- An operation, plain: its kind, key, value, list, and whether it has one, whether that is nil. -/
abbrev MOp := Int × ByteArray × Int × List Int × Bool × Bool
abbrev MOp.kind (o : MOp) : Int := o.1
abbrev MOp.key (o : MOp) : ByteArray := o.2.1
abbrev MOp.value (o : MOp) : Int := o.2.2.1
abbrev MOp.list (o : MOp) : List Int := o.2.2.2.1
abbrev MOp.has (o : MOp) : Bool := o.2.2.2.2.1
abbrev MOp.nl (o : MOp) : Bool := o.2.2.2.2.2

/-- An event, plain: its kind, process and operations. -/
abbrev MEv := Int × Int × List MOp
abbrev MEv.kind (e : MEv) : Int := e.1
abbrev MEv.proc (e : MEv) : Int := e.2.1
abbrev MEv.ops (e : MEv) : List MOp := e.2.2

def intsEq (xs ys : List Int) : Bool := allEq (fun x y => x == y) xs ys
def opEq (x y : MOp) : Bool := x.kind == y.kind && (x.key.toList == y.key.toList && (x.value == y.value && (x.has == y.has && (x.nl == y.nl && intsEq x.list y.list))))
def opsEq (xs ys : List MOp) : Bool := allEq opEq xs ys
def evEq (x y : MEv) : Bool := x.kind == y.kind && (x.proc == y.proc && opsEq x.ops y.ops)
def evsEq (xs ys : List MEv) : Bool := allEq evEq xs ys

theorem intsEq_refl (xs : List Int) : intsEq xs xs = true := allEq_refl _ (by simp) xs
theorem intsEq_symm (xs ys : List Int) : intsEq xs ys = intsEq ys xs := allEq_symm _ (fun x y => by rw [Bool.eq_iff_iff, beq_iff_eq, beq_iff_eq]; exact eq_comm) xs ys
theorem opEq_refl (x : MOp) : opEq x x = true := by simp [opEq, intsEq_refl]
theorem beq_sw {α : Type} [BEq α] [LawfulBEq α] (a b : α) : (a == b) = (b == a) := by rw [Bool.eq_iff_iff, beq_iff_eq, beq_iff_eq]; exact eq_comm
theorem opEq_symm (x y : MOp) : opEq x y = opEq y x := by
  unfold opEq; rw [beq_sw x.kind, beq_sw x.key.toList, beq_sw x.value, beq_sw x.has, beq_sw x.nl, intsEq_symm]
theorem evEq_refl (x : MEv) : evEq x x = true := by simp [evEq, opsEq, allEq_refl _ opEq_refl]
theorem evEq_symm (x y : MEv) : evEq x y = evEq y x := by
  unfold evEq opsEq; rw [beq_sw x.kind, beq_sw x.proc, allEq_symm _ opEq_symm]

/-- A slice of ints in memory, all of it in blocks of S. -/
def IntsIn (S : Nat → Prop) (w : World) (v : Value) (l : List Int) : Prop :=
  ∃ ao c, v = .slice ao l.length c ∧ l.length * 8 ≤ 140737488355328 ∧ (0 < l.length → ∃ b off, ao = some ⟨b, off, none⟩ ∧ S b ∧ ∀ j, j < l.length → w.cell? ⟨b, off + j, none⟩ = some (.int .i64 (l.getD j default)))

/-- The six cells of an operation. -/
def OpRow (S : Nat → Prop) (w : World) (cs : List Value) (o : MOp) : Prop :=
  ∃ lv, cs = [.int .i64 o.kind, .string o.key, .int .i64 o.value, lv, .bool o.has, .bool o.nl] ∧ IntsIn S w lv o.list

def OpsIn (S : Nat → Prop) (w : World) (v : Value) (l : List MOp) : Prop := RowsIn 6 64 (OpRow S w) S w v l
def EvRow (S : Nat → Prop) (w : World) (cs : List Value) (e : MEv) : Prop :=
  ∃ ov, cs = [.int .i64 e.kind, .int .i64 e.proc, ov] ∧ OpsIn S w ov e.ops
def EvsIn (S : Nat → Prop) (w : World) (v : Value) (l : List MEv) : Prop := RowsIn 3 40 (EvRow S w) S w v l

theorem IntsIn.keep {S T : Nat → Prop} {w w' : World} {v : Value} {l : List Int} (h : IntsIn S w v l) (hk : KeepsIn S w w') (hT : ∀ b, b < w.heap.size → S b → T b) : IntsIn T w' v l := by
  obtain ⟨ao, c, hv, hl, hc⟩ := h
  refine ⟨ao, c, hv, hl, fun h0 => ?_⟩
  obtain ⟨b, off, ha, hS, hj⟩ := hc h0
  exact ⟨b, off, ha, hT b (World.block_lt_of_cell? _ _ (hj 0 h0)) hS, fun j h => hk.cell (p := ⟨b, off + j, none⟩) hS (hj j h)⟩

theorem OpRow.keep {S T : Nat → Prop} {w w' : World} {cs : List Value} {o : MOp} (h : OpRow S w cs o) (hk : KeepsIn S w w') (hT : ∀ b, b < w.heap.size → S b → T b) : OpRow T w' cs o := by
  obtain ⟨lv, hcs, hl⟩ := h
  exact ⟨lv, hcs, hl.keep hk hT⟩

theorem OpsIn.keep {S T : Nat → Prop} {w w' : World} {v : Value} {l : List MOp} (h : OpsIn S w v l) (hk : KeepsIn S w w') (hT : ∀ b, b < w.heap.size → S b → T b) : OpsIn T w' v l :=
  RowsIn.keep h (by omega) (fun _ _ hr => OpRow.keep hr hk hT) hk hT

theorem EvRow.keep {S T : Nat → Prop} {w w' : World} {cs : List Value} {o : MEv} (h : EvRow S w cs o) (hk : KeepsIn S w w') (hT : ∀ b, b < w.heap.size → S b → T b) : EvRow T w' cs o := by
  obtain ⟨lv, hcs, hl⟩ := h
  exact ⟨lv, hcs, hl.keep hk hT⟩

theorem EvsIn.keep {S T : Nat → Prop} {w w' : World} {v : Value} {l : List MEv} (h : EvsIn S w v l) (hk : KeepsIn S w w') (hT : ∀ b, b < w.heap.size → S b → T b) : EvsIn T w' v l :=
  RowsIn.keep h (by omega) (fun _ _ hr => EvRow.keep hr hk hT) hk hT

theorem IntsIn.below {w w' : World} {v : Value} {l : List Int} (h : IntsIn Any w v l) (hb : Below w.heap.size w w') : IntsIn Any w' v l := h.keep (keeps_below hb) (fun _ _ _ => trivial)
theorem OpsIn.below {w w' : World} {v : Value} {l : List MOp} (h : OpsIn Any w v l) (hb : Below w.heap.size w w') : OpsIn Any w' v l := h.keep (keeps_below hb) (fun _ _ _ => trivial)
theorem EvsIn.below {w w' : World} {v : Value} {l : List MEv} (h : EvsIn Any w v l) (hb : Below w.heap.size w w') : EvsIn Any w' v l := h.keep (keeps_below hb) (fun _ _ _ => trivial)

end Go.Proofs.YtegeiojcdjnmjaaDoor
