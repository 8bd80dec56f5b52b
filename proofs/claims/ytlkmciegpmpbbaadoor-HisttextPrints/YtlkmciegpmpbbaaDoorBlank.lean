/-
  Blanks ahead of a text change nothing but places.
-/
import Derived.Test.YtlkmciegpmpbbaaDoorNum
namespace Go.Proofs.YtlkmciegpmpbbaaDoor
set_option linter.unusedVariables false
set_option linter.unusedSimpArgs false

section
variable {p s : ByteArray}

theorem bt_app (i : Nat) : bt (p ++ s) (p.size + i) = bt s i := by
  have hsz : (p ++ s).size = p.size + s.size := ByteArray.size_append
  by_cases h : i < s.size
  · have h2 : p.size + i < (p ++ s).size := by omega
    rw [← bt_get h, ← bt_get h2]
    congr 1
    rw [ByteArray.getElem_append_right (by omega)]
    congr 1
    omega
  · rw [bt_out h, bt_out (by omega)]

theorem bt_pre (i : Nat) (h : i < p.size) : bt (p ++ s) i = bt p i := by
  have hsz : (p ++ s).size = p.size + s.size := ByteArray.size_append
  have h2 : i < (p ++ s).size := by omega
  rw [← bt_get h, ← bt_get h2]
  congr 1
  rw [ByteArray.getElem_append_left h]

theorem RunEnd.app {q : Nat → Bool} {i e : Nat} (h : RunEnd q s i e) : RunEnd q (p ++ s) (p.size + i) (p.size + e) := by
  refine ⟨by have := h.1; omega, fun j h1 h2 => ?_, by rw [bt_app]; exact h.2.2⟩
  have := h.2.1 (j - p.size) (by omega) (by omega)
  rw [← bt_app (p := p), show p.size + (j - p.size) = j by omega] at this
  exact this

theorem wEnd_app (i : Nat) : wEnd (p ++ s) (p.size + i) = p.size + wEnd s i := (wEnd_is _ _).uniq (wEnd_is s i).app
theorem dEnd_app (i : Nat) : dEnd (p ++ s) (p.size + i) = p.size + dEnd s i := (dEnd_is _ _).uniq (dEnd_is s i).app
theorem dv_app (f : Nat) : ∀ k, dv (p ++ s) (p.size + f) k = dv s f k
  | 0 => rfl
  | k + 1 => by simp only [dv]; rw [dv_app f k, Nat.add_assoc, bt_app]
theorem nF_app (i : Nat) : nF (p ++ s) (p.size + i) = p.size + nF s i := by
  unfold nF; rw [bt_app]; split <;> omega
theorem nE_app (i : Nat) : nE (p ++ s) (p.size + i) = p.size + nE s i := by
  unfold nE; rw [nF_app, bt_app]
  split
  · omega
  · rw [Nat.add_assoc, dEnd_app]
theorem nV_app (i : Nat) : nV (p ++ s) (p.size + i) = nV s i := by
  unfold nV; rw [nF_app, nE_app, dv_app]; congr 1; omega
theorem nBad_app (i : Nat) : nBad (p ++ s) (p.size + i) ↔ nBad s i := by unfold nBad; rw [nF_app, bt_app, bt_app]
theorem nBig_app (i : Nat) : nBig (p ++ s) (p.size + i) ↔ nBig s i := by unfold nBig; rw [nV_app, bt_app]
theorem nN_app (i : Nat) : nN (p ++ s) (p.size + i) = nN s i := by unfold nN; rw [nV_app, bt_app]

theorem numM_app (i : Nat) : numM (p ++ s) (p.size + i) = (match numM s i with | .ok (n, e) => .ok (n, p.size + e) | .error (a, y) => .error (p.size + a, y)) := by
  by_cases h1 : nBad s i
  · rw [numM_bad h1, numM_bad (nBad_app i |>.2 h1)]
  · have h1' : ¬ nBad (p ++ s) (p.size + i) := fun h => h1 ((nBad_app i).1 h)
    by_cases h2 : nBig s i
    · rw [numM_big h1 h2, numM_big h1' ((nBig_app i).2 h2)]
    · have h2' : ¬ nBig (p ++ s) (p.size + i) := fun h => h2 ((nBig_app i).1 h)
      cases h3 : isWd (bt s (nE s i)) with
      | true => rw [numM_wd h1 h2 h3, numM_wd h1' h2' (by rw [nE_app, bt_app]; exact h3), nE_app]
      | false => rw [numM_ok h1 h2 h3, numM_ok h1' h2' (by rw [nE_app, bt_app]; exact h3), nE_app, nN_app]

theorem extract_app (i e : Nat) (h : e ≤ s.size) : (p ++ s).extract (p.size + i) (p.size + e) = s.extract i e := by
  have hsz : (p ++ s).size = p.size + s.size := ByteArray.size_append
  rw [ByteArray.ext_iff, ← Array.toList_inj, extract_bl _ _ _ (by omega), extract_bl _ _ _ h, show p.size + e - (p.size + i) = e - i by omega]
  have : ∀ n i, bl (p ++ s) (p.size + i) n = bl s i n := fun n => by
    induction n with
    | zero => intro i; rfl
    | succ n ih => intro i; simp only [bl]; rw [bt_app, Nat.add_assoc, ih]
  exact this _ _

/-- A token so many places on. -/
def shT (k : Nat) (t : MTok) : MTok := (t.1, t.2.1 + k, t.2.2.1, t.2.2.2)
def shR (k : Nat) : Except (Nat × Nat) (List MTok) → Except (Nat × Nat) (List MTok)
  | .ok l => .ok (l.map (shT k))
  | .error (a, y) => .error (k + a, y)

theorem tokM_app (i : Nat) (hi : i < s.size) : tokM (p ++ s) (p.size + i) = (match tokM s i with | .ok (t, k) => .ok (shT p.size t, p.size + k) | .error (a, y) => .error (p.size + a, y)) := by
  unfold tokM
  rw [bt_app]
  by_cases h1 : isSm (bt s i) = true
  · rw [if_pos h1, if_pos h1, wEnd_app, extract_app _ _ ((wEnd_is s i).le_size rfl (by omega))]
    simp [shT, Int.add_comm]
  · rw [if_neg h1, if_neg h1]
    by_cases h2 : bt s i = 45 ∨ isDg (bt s i) = true
    · rw [if_pos h2, if_pos h2, numM_app]
      cases hn : numM s i with
      | error q => rfl
      | ok q =>
        obtain ⟨n, e⟩ := q
        have := numM_gt hn hi
        simp only [shT]
        rw [extract_app _ _ this.2]
        simp [Int.add_comm]
    · rw [if_neg h2, if_neg h2]
      by_cases h3 : bt s i = 40 ∨ bt s i = 41 ∨ bt s i = 91 ∨ bt s i = 93
      · rw [if_pos h3, if_pos h3, Nat.add_assoc, extract_app _ _ (by omega)]
        simp [shT, Int.add_comm]
      · rw [if_neg h3, if_neg h3]
        by_cases h4 : bt s i = 10
        · rw [if_pos h4, if_pos h4, Nat.add_assoc, extract_app _ _ (by omega)]
          simp [shT, Int.add_comm]
        · rw [if_neg h4, if_neg h4]

theorem left_app : ∀ (n i : Nat) (acc : List MTok), s.size - i ≤ n → left (p ++ s) (p.size + i) (acc.map (shT p.size)) = shR p.size (left s i acc)
  | n, i, acc, h => by
    have hsz : (p ++ s).size = p.size + s.size := ByteArray.size_append
    by_cases hi : i < s.size
    · cases n with
      | zero => omega
      | succ n =>
        have hi' : p.size + i < (p ++ s).size := by omega
        by_cases hb : bt s i = 32
        · rw [left_blank acc hi hb, left_blank _ hi' (by rw [bt_app]; exact hb), Nat.add_assoc, left_app n (i + 1) acc (by omega)]
        · have hb' : ¬ bt (p ++ s) (p.size + i) = 32 := by rw [bt_app]; exact hb
          cases ht : tokM s i with
          | error q =>
            obtain ⟨a, y⟩ := q
            have ht' := tokM_app (p := p) i hi
            rw [ht] at ht'
            rw [left_bad acc hi hb ht, left_bad _ hi' hb' ht']
            rfl
          | ok q =>
            obtain ⟨t, k⟩ := q
            have ht' := tokM_app (p := p) i hi
            rw [ht] at ht'
            have hk := tokM_gt ht hi
            rw [left_tok acc hi hb ht, left_tok _ hi' hb' ht', ← left_app n k (acc ++ [t]) (by omega)]
            simp
    · rw [left_end acc hi, left_end _ (by omega)]
      rfl

theorem left_blanks (hp : ∀ i, i < p.size → bt p i = 32) : ∀ j, j ≤ p.size → left (p ++ s) 0 [] = left (p ++ s) j []
  | 0, _ => rfl
  | j + 1, h => by
    have hsz : (p ++ s).size = p.size + s.size := ByteArray.size_append
    rw [left_blanks hp j (by omega), left_blank [] (by omega) (by rw [bt_pre j (by omega)]; exact hp j (by omega))]

/-- Blanks ahead of a text. -/
theorem scanM_blanks (hp : ∀ i, i < p.size → bt p i = 32) (h : p.size + s.size ≤ 20000) : scanM (p ++ s) = shR p.size (scanM s) := by
  have hsz : (p ++ s).size = p.size + s.size := ByteArray.size_append
  rw [scanM_left (by omega), scanM_left (by omega), left_blanks hp p.size (Nat.le_refl _)]
  have := left_app (p := p) (s := s) s.size 0 [] (by omega)
  simpa using this
end

/-- A token without its place. -/
def bareT (t : MTok) : MTok := (t.1, 0, t.2.2.1, t.2.2.2)
theorem bare_shift (k : Nat) (l : List MTok) : (l.map (shT k)).map bareT = l.map bareT := by
  rw [List.map_map]; rfl
end Go.Proofs.YtlkmciegpmpbbaaDoor
