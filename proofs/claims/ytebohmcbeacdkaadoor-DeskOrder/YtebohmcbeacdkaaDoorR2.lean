/-
  Walk of the reference's token.
-/
import Derived.Test.YtebohmcbeacdkaaDoorR1
import Derived.Test.YtebohmcbeacdkaaDoorS3
namespace Go.Proofs.YtebohmcbeacdkaaDoor
set_option linter.unusedVariables false
set_option linter.unusedSimpArgs false
open Go.RowKit

/-- What the reference's token answers. -/
def refTokVal : Except (Nat × Nat) (MTok × Nat) → Value
  | .ok (t, k) => .tuple #[.agg #[.int .i64 t.1, .int .i64 t.2.1, .string t.2.2.1, .int .i64 t.2.2.2], .int .i64 k, .int .i64 0, .int .i64 0]
  | .error (a, y) => .tuple #[.agg #[.int .i64 0, .int .i64 0, .string ByteArray.empty, .int .i64 0], .int .i64 0, .int .i64 a, .int .i64 y]

theorem extract_one {s : ByteArray} {i c : Nat} (hi : i < s.size) (h : bt s i = c) : s.extract i (i + 1) = ⟨#[UInt8.ofNat c]⟩ := by
  have e := extract_bl s i (i + 1) (by omega)
  rw [show i + 1 - i = 1 by omega] at e
  simp only [bl, h] at e
  rw [ByteArray.ext_iff, ← Array.toList_inj, e]

theorem wEnd_from {s : ByteArray} {i k : Nat} (hs : isSm (bt s i) = true) (h : RunEnd isWd s (i + 1) k) : wEnd s i = k := by
  refine (wEnd_is s i).uniq ⟨by have := h.1; omega, fun j h1 h2 => ?_, h.2.2⟩
  by_cases e : j = i
  · rw [e]; simp [isWd, hs]
  · exact h.2.1 j (by omega) h2

theorem refNumber_any (s : ByteArray) (i : Nat) (w : World) (hs : s.size ≤ 20000) (hi : i < s.size) (h : isDg (bt s i) = true ∨ (bt s i = 45 ∧ isDg (bt s (i + 1)) = true)) :
    Calls Tryd.prog 29 #[.string s, .int .i64 i] w fun e w' => e = .returned (refNumVal (numM s i)) ∧ w = w' := by
  by_cases h45 : bt s i = 45
  · have hd : isDg (bt s (i + 1)) = true := by
      rcases h with h | h
      · rw [h45] at h; cases h
      · exact h.2
    have hfl : i + 1 < s.size := by
      by_cases hc : i + 1 < s.size
      · exact hc
      · rw [bt_out hc] at hd; cases hd
    exact (refNumber_neg s i w hs hi h45 hfl hd).mono fun _ _ h => ⟨h.1, h.2.symm⟩
  · have hd : isDg (bt s i) = true := by
      rcases h with h | h
      · exact h
      · exact absurd h.1 h45
    exact (refNumber_pos s i w hs hi h45 hd).mono fun _ _ h => ⟨h.1, h.2.symm⟩

set_option maxRecDepth 100000 in
set_option maxHeartbeats 4000000 in
/-- The reference's token. -/
theorem refToken_any (s : ByteArray) (i : Nat) (w : World) (hs : s.size ≤ 20000) (hi : i < s.size) :
    Calls Tryd.prog 21 #[.string s, .int .i64 i] w fun e w' => e = .returned (refTokVal (tokM s i)) ∧ Below w.heap.size w w' := by
  have hii : (i : Int) < (s.size : Int) := by omega
  by_cases hk : bt s i = 10
  · skip
    have HTK : Hid (tokM s i = .ok (((4 : Int), (i : Int), ⟨#[10]⟩, (0 : Int)), i + 1)) := by
      show tokM s i = _
      unfold tokM; rw [if_neg (by simp [hk, isSm]), if_neg (by simp [hk, isDg]), if_neg (by omega), if_pos hk, extract_one hi hk]; rfl
    have q10 : ((((s[i]'hi).toNat : Nat) : Int) == 10) = true := beq_iff_eq.2 (by rw [bt_get hi, hk]; rfl)
    clear hk
    go_enter Tryd.func21, Tryd.ntmps21
    go_wp2_with (first | (go_at_call 27; refine (at_c _ _ _ (by omega)).mono ?_; rintro e w' ⟨rfl, rfl⟩) | (go_at_call 28; refine (dg_c _ _).mono ?_; rintro e w' ⟨rfl, rfl⟩) | (go_at_call 26; refine (lt_c _ _).mono ?_; rintro e w' ⟨rfl, rfl⟩))
    rw [HTK.out]
    exact bodyPost_ret (v := .tuple #[.agg #[.int .i64 4, .int .i64 i, .string ⟨#[10]⟩, .int .i64 0], .int .i64 ((i + 1 : Nat) : Int), .int .i64 0, .int .i64 0]) (by simp [results, Tryd.results26, go_sem] <;> rfl) rfl ⟨rfl, (Below.refl _ w).alloc (Nat.le_refl _) _⟩
  have h10 := hk
  cases hsm : isSm (bt s i) with
  | true =>
    have hsmv := isSm_iff.1 hsm
    have q10 : ((((s[i]'hi).toNat : Nat) : Int) == 10) = false := beq_eq_false_iff_ne.2 (by rw [bt_get hi]; omega)
    have r0 : isSm (s[i]'hi).toNat = true := by rw [bt_get hi]; exact hsm
    go_enter Tryd.func21, Tryd.ntmps21
    go_wp2_with (first | (go_at_call 27; refine (at_c _ _ _ (by omega)).mono ?_; rintro e w' ⟨rfl, rfl⟩) | (go_at_call 28; refine (dg_c _ _).mono ?_; rintro e w' ⟨rfl, rfl⟩) | (go_at_call 26; refine (lt_c _ _).mono ?_; rintro e w' ⟨rfl, rfl⟩))
    go_loopg [9] (s.size - i) (fun g t wr => ∃ k : Nat, i + 1 ≤ k ∧ k ≤ s.size ∧ s.size - k ≤ g ∧ t = .int .i64 k ∧ wr = w.alloc (.cells #[.int .i64 0, .int .i64 0, .string ByteArray.empty, .int .i64 0] 43) ∧ Aside (∀ j, i + 1 ≤ j → j < k → isWd (bt s j) = true))
    case atStart => exact ⟨i + 1, Nat.le_refl _, by omega, by omega, by go_num, rfl, fun j h1 h2 => by omega⟩
    case round =>
      obtain ⟨k, hk1, hk2, hg, rfl, rfl, A⟩ := hrel
      have hlt_of : ∀ p : Nat → Bool, p 0 = false → p (bt s k) = true → k < s.size := fun p hp h => by
        by_cases hc : k < s.size
        · exact hc
        · rw [bt_out hc, hp] at h; cases h
      cases q1 : isSm (bt s k) with
      | true =>
        have hlt := hlt_of isSm rfl q1
        clear hlt_of
        go_wp2_with (first | (go_at_call 27; refine (at_c _ _ _ (by omega)).mono ?_; rintro e w' ⟨rfl, rfl⟩) | (go_at_call 28; refine (dg_c _ _).mono ?_; rintro e w' ⟨rfl, rfl⟩) | (go_at_call 26; refine (lt_c _ _).mono ?_; rintro e w' ⟨rfl, rfl⟩))
        go_roundg (s.size - (k + 1))
        case measure => omega
        case rel =>
          refine ⟨k + 1, by omega, by omega, by omega, by go_num, rfl, (show Aside _ from fun j h1 h2 => ?_)⟩
          by_cases e : j = k
          · subst e; simp [isWd, q1]
          · exact A.out j h1 (by omega)
      | false =>
        cases q2 : isDg (bt s k) with
        | true =>
          have hlt := hlt_of isDg rfl q2
          clear hlt_of
          go_wp2_with (first | (go_at_call 27; refine (at_c _ _ _ (by omega)).mono ?_; rintro e w' ⟨rfl, rfl⟩) | (go_at_call 28; refine (dg_c _ _).mono ?_; rintro e w' ⟨rfl, rfl⟩) | (go_at_call 26; refine (lt_c _ _).mono ?_; rintro e w' ⟨rfl, rfl⟩))
          go_roundg (s.size - (k + 1))
          case measure => omega
          case rel =>
            refine ⟨k + 1, by omega, by omega, by omega, by go_num, rfl, (show Aside _ from fun j h1 h2 => ?_)⟩
            by_cases e : j = k
            · subst e; simp [isWd, q2]
            · exact A.out j h1 (by omega)
        | false =>
          have HW : Hid (wEnd s i = k) := wEnd_from hsm ⟨hk1, A.out, by simp [isWd, q1, q2]⟩
          have HTK : Hid (tokM s i = .ok (((1 : Int), (i : Int), s.extract i k, (0 : Int)), k)) := by
            show tokM s i = _
            unfold tokM; rw [if_pos hsm, HW.out]
          have hE1 : (i : Int) ≤ (k : Int) := by omega
          have hE2 : (k : Int) ≤ (s.size : Int) := by omega
          clear hlt_of
          go_wp2_with (first | (go_at_call 27; refine (at_c _ _ _ (by omega)).mono ?_; rintro e w' ⟨rfl, rfl⟩) | (go_at_call 28; refine (dg_c _ _).mono ?_; rintro e w' ⟨rfl, rfl⟩) | (go_at_call 26; refine (lt_c _ _).mono ?_; rintro e w' ⟨rfl, rfl⟩))
          rw [HTK.out]
          exact bodyPost_ret (v := .tuple #[.agg #[.int .i64 1, .int .i64 i, .string (s.extract i k), .int .i64 0], .int .i64 ((k : Nat) : Int), .int .i64 0, .int .i64 0]) (by simp [results, Tryd.results26, go_sem] <;> rfl) rfl ⟨rfl, (Below.refl _ w).alloc (Nat.le_refl _) _⟩
  | false =>
    have hsmv := isSm_no.1 hsm
    cases hdg : isDg (bt s i) with
    | true =>
      have hdgv := isDg_iff.1 hdg
      have q10 : ((((s[i]'hi).toNat : Nat) : Int) == 10) = false := beq_eq_false_iff_ne.2 (by rw [bt_get hi]; omega)
      have r0 : isSm (s[i]'hi).toNat = false := by rw [bt_get hi]; exact hsm
      have r1 : isDg (s[i]'hi).toNat = true := by rw [bt_get hi]; exact hdg
      have hnum : bt s i = 45 ∨ isDg (bt s i) = true := .inr hdg
      have hpre : isDg (bt s i) = true ∨ (bt s i = 45 ∧ isDg (bt s (i + 1)) = true) := .inl hdg
      have hnc := refNumber_any s i (w.alloc (.cells #[.int .i64 0, .int .i64 0, .string ByteArray.empty, .int .i64 0] 43)) hs hi hpre
      cases hN : numM s i with
      | ok q =>
        obtain ⟨n, e⟩ := q
        have HTK : Hid (tokM s i = .ok (((2 : Int), (i : Int), s.extract i e, n), e)) := by
          show tokM s i = _
          unfold tokM; rw [if_neg (by simp [hsm]), if_pos hnum, hN]
        have hE := numM_gt hN hi
        have hE1 : (i : Int) ≤ (e : Int) := by omega
        have hE2 : (e : Int) ≤ (s.size : Int) := by omega
        rw [hN] at hnc
        simp only [refNumVal] at hnc
        have HC := hid hnc
        clear hN hnc
        go_enter Tryd.func21, Tryd.ntmps21
        go_wp2_with (first | (go_at_call 27; refine (at_c _ _ _ (by omega)).mono ?_; rintro e w' ⟨rfl, rfl⟩) | (go_at_call 28; refine (dg_c _ _).mono ?_; rintro e w' ⟨rfl, rfl⟩) | (go_at_call 26; refine (lt_c _ _).mono ?_; rintro e w' ⟨rfl, rfl⟩) | (go_at_call 29; refine HC.out.mono ?_; rintro e w' ⟨rfl, rfl⟩))
        rw [HTK.out]
        exact bodyPost_ret (v := .tuple #[.agg #[.int .i64 2, .int .i64 i, .string (s.extract i e), .int .i64 n], .int .i64 ((e : Nat) : Int), .int .i64 0, .int .i64 0]) (by simp [results, Tryd.results26, go_sem] <;> rfl) rfl ⟨rfl, (Below.refl _ w).alloc (Nat.le_refl _) _⟩
      | error q =>
        obtain ⟨a, y⟩ := q
        have HTK : Hid (tokM s i = .error (a, y)) := by
          show tokM s i = _
          unfold tokM; rw [if_neg (by simp [hsm]), if_pos hnum, hN]
        have hy := numM_err hN
        rw [hN] at hnc
        simp only [refNumVal] at hnc
        have HC := hid hnc
        clear hN hnc
        go_enter Tryd.func21, Tryd.ntmps21
        go_wp2_with (first | (go_at_call 27; refine (at_c _ _ _ (by omega)).mono ?_; rintro e w' ⟨rfl, rfl⟩) | (go_at_call 28; refine (dg_c _ _).mono ?_; rintro e w' ⟨rfl, rfl⟩) | (go_at_call 26; refine (lt_c _ _).mono ?_; rintro e w' ⟨rfl, rfl⟩) | (go_at_call 29; refine HC.out.mono ?_; rintro e w' ⟨rfl, rfl⟩))
        rw [HTK.out]
        exact bodyPost_ret (v := .tuple #[.agg #[.int .i64 0, .int .i64 0, .string ByteArray.empty, .int .i64 0], .int .i64 0, .int .i64 ((a : Nat) : Int), .int .i64 ((y : Nat) : Int)]) (by simp [results, Tryd.results26, go_sem] <;> rfl) rfl ⟨rfl, (Below.refl _ w).alloc (Nat.le_refl _) _⟩
    | false =>
      have hdgv := isDg_no.1 hdg
      by_cases h45 : bt s i = 45
      · cases hd1 : isDg (bt s (i + 1)) with
        | true =>
          have q10 : ((((s[i]'hi).toNat : Nat) : Int) == 10) = false := beq_eq_false_iff_ne.2 (by rw [bt_get hi]; omega)
          have r0 : isSm (s[i]'hi).toNat = false := by rw [bt_get hi]; exact hsm
          have r1 : isDg (s[i]'hi).toNat = false := by rw [bt_get hi]; exact hdg
          have q45 : ((((s[i]'hi).toNat : Nat) : Int) == 45) = true := beq_iff_eq.2 (by rw [bt_get hi, h45]; rfl)
          have hnum : bt s i = 45 ∨ isDg (bt s i) = true := .inl h45
          have hpre : isDg (bt s i) = true ∨ (bt s i = 45 ∧ isDg (bt s (i + 1)) = true) := .inr ⟨h45, hd1⟩
          have hnc := refNumber_any s i (w.alloc (.cells #[.int .i64 0, .int .i64 0, .string ByteArray.empty, .int .i64 0] 43)) hs hi hpre
          cases hN : numM s i with
          | ok q =>
            obtain ⟨n, e⟩ := q
            have HTK : Hid (tokM s i = .ok (((2 : Int), (i : Int), s.extract i e, n), e)) := by
              show tokM s i = _
              unfold tokM; rw [if_neg (by simp [hsm]), if_pos hnum, hN]
            have hE := numM_gt hN hi
            have hE1 : (i : Int) ≤ (e : Int) := by omega
            have hE2 : (e : Int) ≤ (s.size : Int) := by omega
            rw [hN] at hnc
            simp only [refNumVal] at hnc
            have HC := hid hnc
            clear hN hnc
            go_enter Tryd.func21, Tryd.ntmps21
            go_wp2_with (first | (go_at_call 27; refine (at_c _ _ _ (by omega)).mono ?_; rintro e w' ⟨rfl, rfl⟩) | (go_at_call 28; refine (dg_c _ _).mono ?_; rintro e w' ⟨rfl, rfl⟩) | (go_at_call 26; refine (lt_c _ _).mono ?_; rintro e w' ⟨rfl, rfl⟩) | (go_at_call 29; refine HC.out.mono ?_; rintro e w' ⟨rfl, rfl⟩))
            rw [HTK.out]
            exact bodyPost_ret (v := .tuple #[.agg #[.int .i64 2, .int .i64 i, .string (s.extract i e), .int .i64 n], .int .i64 ((e : Nat) : Int), .int .i64 0, .int .i64 0]) (by simp [results, Tryd.results26, go_sem] <;> rfl) rfl ⟨rfl, (Below.refl _ w).alloc (Nat.le_refl _) _⟩
          | error q =>
            obtain ⟨a, y⟩ := q
            have HTK : Hid (tokM s i = .error (a, y)) := by
              show tokM s i = _
              unfold tokM; rw [if_neg (by simp [hsm]), if_pos hnum, hN]
            have hy := numM_err hN
            rw [hN] at hnc
            simp only [refNumVal] at hnc
            have HC := hid hnc
            clear hN hnc
            go_enter Tryd.func21, Tryd.ntmps21
            go_wp2_with (first | (go_at_call 27; refine (at_c _ _ _ (by omega)).mono ?_; rintro e w' ⟨rfl, rfl⟩) | (go_at_call 28; refine (dg_c _ _).mono ?_; rintro e w' ⟨rfl, rfl⟩) | (go_at_call 26; refine (lt_c _ _).mono ?_; rintro e w' ⟨rfl, rfl⟩) | (go_at_call 29; refine HC.out.mono ?_; rintro e w' ⟨rfl, rfl⟩))
            rw [HTK.out]
            exact bodyPost_ret (v := .tuple #[.agg #[.int .i64 0, .int .i64 0, .string ByteArray.empty, .int .i64 0], .int .i64 0, .int .i64 ((a : Nat) : Int), .int .i64 ((y : Nat) : Int)]) (by simp [results, Tryd.results26, go_sem] <;> rfl) rfl ⟨rfl, (Below.refl _ w).alloc (Nat.le_refl _) _⟩
        | false =>
          have HTK : Hid (tokM s i = .error (i, 10)) := by
            show tokM s i = _
            unfold tokM; rw [if_neg (by simp [hsm]), if_pos (.inl h45), numM_bad ⟨h45, by
              have := isDg_no.1 hd1
              have hf : nF s i = i + 1 := by unfold nF; rw [if_pos h45]
              rw [hf]; omega⟩]
          have q10 : ((((s[i]'hi).toNat : Nat) : Int) == 10) = false := beq_eq_false_iff_ne.2 (by rw [bt_get hi]; omega)
          have r0 : isSm (s[i]'hi).toNat = false := by rw [bt_get hi]; exact hsm
          have r1 : isDg (s[i]'hi).toNat = false := by rw [bt_get hi]; exact hdg
          have q45 : ((((s[i]'hi).toNat : Nat) : Int) == 45) = true := beq_iff_eq.2 (by rw [bt_get hi, h45]; rfl)
          have q40 : ((((s[i]'hi).toNat : Nat) : Int) == 40) = false := beq_eq_false_iff_ne.2 (by rw [bt_get hi]; omega)
          have q41 : ((((s[i]'hi).toNat : Nat) : Int) == 41) = false := beq_eq_false_iff_ne.2 (by rw [bt_get hi]; omega)
          have q91 : ((((s[i]'hi).toNat : Nat) : Int) == 91) = false := beq_eq_false_iff_ne.2 (by rw [bt_get hi]; omega)
          have q93 : ((((s[i]'hi).toNat : Nat) : Int) == 93) = false := beq_eq_false_iff_ne.2 (by rw [bt_get hi]; omega)
          go_enter Tryd.func21, Tryd.ntmps21
          go_wp2_with (first | (go_at_call 27; refine (at_c _ _ _ (by omega)).mono ?_; rintro e w' ⟨rfl, rfl⟩) | (go_at_call 28; refine (dg_c _ _).mono ?_; rintro e w' ⟨rfl, rfl⟩) | (go_at_call 26; refine (lt_c _ _).mono ?_; rintro e w' ⟨rfl, rfl⟩))
          rw [HTK.out]
          exact bodyPost_ret (v := .tuple #[.agg #[.int .i64 0, .int .i64 0, .string ByteArray.empty, .int .i64 0], .int .i64 0, .int .i64 ((i : Nat) : Int), .int .i64 (10)]) (by simp [results, Tryd.results26, go_sem] <;> rfl) rfl ⟨rfl, (Below.refl _ w).alloc (Nat.le_refl _) _⟩
      by_cases hk : bt s i = 40
      · skip
        have HTK : Hid (tokM s i = .ok (((3 : Int), (i : Int), s.extract i (i + 1), (0 : Int)), i + 1)) := by
          show tokM s i = _
          unfold tokM; rw [if_neg (by simp [hsm]), if_neg (by simp [hdg]; omega), if_pos (by omega)]
        have q10 : ((((s[i]'hi).toNat : Nat) : Int) == 10) = false := beq_eq_false_iff_ne.2 (by rw [bt_get hi]; omega)
        have r0 : isSm (s[i]'hi).toNat = false := by rw [bt_get hi]; exact hsm
        have r1 : isDg (s[i]'hi).toNat = false := by rw [bt_get hi]; exact hdg
        have q45 : ((((s[i]'hi).toNat : Nat) : Int) == 45) = false := beq_eq_false_iff_ne.2 (by rw [bt_get hi]; omega)
        have q40 : ((((s[i]'hi).toNat : Nat) : Int) == 40) = true := beq_iff_eq.2 (by rw [bt_get hi, hk]; rfl)
        have hE1 : (i : Int) ≤ (i : Int) + 1 := by omega
        have hE2 : (i : Int) + 1 ≤ (s.size : Int) := by omega
        go_enter Tryd.func21, Tryd.ntmps21
        go_wp2_with (first | (go_at_call 27; refine (at_c _ _ _ (by omega)).mono ?_; rintro e w' ⟨rfl, rfl⟩) | (go_at_call 28; refine (dg_c _ _).mono ?_; rintro e w' ⟨rfl, rfl⟩) | (go_at_call 26; refine (lt_c _ _).mono ?_; rintro e w' ⟨rfl, rfl⟩))
        rw [HTK.out]
        exact bodyPost_ret (v := .tuple #[.agg #[.int .i64 3, .int .i64 i, .string (s.extract i (i + 1)), .int .i64 0], .int .i64 ((i + 1 : Nat) : Int), .int .i64 0, .int .i64 0]) (by simp [results, Tryd.results26, go_sem] <;> rfl) rfl ⟨rfl, (Below.refl _ w).alloc (Nat.le_refl _) _⟩
      by_cases hk : bt s i = 41
      · skip
        have HTK : Hid (tokM s i = .ok (((3 : Int), (i : Int), s.extract i (i + 1), (0 : Int)), i + 1)) := by
          show tokM s i = _
          unfold tokM; rw [if_neg (by simp [hsm]), if_neg (by simp [hdg]; omega), if_pos (by omega)]
        have q10 : ((((s[i]'hi).toNat : Nat) : Int) == 10) = false := beq_eq_false_iff_ne.2 (by rw [bt_get hi]; omega)
        have r0 : isSm (s[i]'hi).toNat = false := by rw [bt_get hi]; exact hsm
        have r1 : isDg (s[i]'hi).toNat = false := by rw [bt_get hi]; exact hdg
        have q45 : ((((s[i]'hi).toNat : Nat) : Int) == 45) = false := beq_eq_false_iff_ne.2 (by rw [bt_get hi]; omega)
        have q40 : ((((s[i]'hi).toNat : Nat) : Int) == 40) = false := beq_eq_false_iff_ne.2 (by rw [bt_get hi]; omega)
        have q41 : ((((s[i]'hi).toNat : Nat) : Int) == 41) = true := beq_iff_eq.2 (by rw [bt_get hi, hk]; rfl)
        have hE1 : (i : Int) ≤ (i : Int) + 1 := by omega
        have hE2 : (i : Int) + 1 ≤ (s.size : Int) := by omega
        go_enter Tryd.func21, Tryd.ntmps21
        go_wp2_with (first | (go_at_call 27; refine (at_c _ _ _ (by omega)).mono ?_; rintro e w' ⟨rfl, rfl⟩) | (go_at_call 28; refine (dg_c _ _).mono ?_; rintro e w' ⟨rfl, rfl⟩) | (go_at_call 26; refine (lt_c _ _).mono ?_; rintro e w' ⟨rfl, rfl⟩))
        rw [HTK.out]
        exact bodyPost_ret (v := .tuple #[.agg #[.int .i64 3, .int .i64 i, .string (s.extract i (i + 1)), .int .i64 0], .int .i64 ((i + 1 : Nat) : Int), .int .i64 0, .int .i64 0]) (by simp [results, Tryd.results26, go_sem] <;> rfl) rfl ⟨rfl, (Below.refl _ w).alloc (Nat.le_refl _) _⟩
      by_cases hk : bt s i = 91
      · skip
        have HTK : Hid (tokM s i = .ok (((3 : Int), (i : Int), s.extract i (i + 1), (0 : Int)), i + 1)) := by
          show tokM s i = _
          unfold tokM; rw [if_neg (by simp [hsm]), if_neg (by simp [hdg]; omega), if_pos (by omega)]
        have q10 : ((((s[i]'hi).toNat : Nat) : Int) == 10) = false := beq_eq_false_iff_ne.2 (by rw [bt_get hi]; omega)
        have r0 : isSm (s[i]'hi).toNat = false := by rw [bt_get hi]; exact hsm
        have r1 : isDg (s[i]'hi).toNat = false := by rw [bt_get hi]; exact hdg
        have q45 : ((((s[i]'hi).toNat : Nat) : Int) == 45) = false := beq_eq_false_iff_ne.2 (by rw [bt_get hi]; omega)
        have q40 : ((((s[i]'hi).toNat : Nat) : Int) == 40) = false := beq_eq_false_iff_ne.2 (by rw [bt_get hi]; omega)
        have q41 : ((((s[i]'hi).toNat : Nat) : Int) == 41) = false := beq_eq_false_iff_ne.2 (by rw [bt_get hi]; omega)
        have q91 : ((((s[i]'hi).toNat : Nat) : Int) == 91) = true := beq_iff_eq.2 (by rw [bt_get hi, hk]; rfl)
        have hE1 : (i : Int) ≤ (i : Int) + 1 := by omega
        have hE2 : (i : Int) + 1 ≤ (s.size : Int) := by omega
        go_enter Tryd.func21, Tryd.ntmps21
        go_wp2_with (first | (go_at_call 27; refine (at_c _ _ _ (by omega)).mono ?_; rintro e w' ⟨rfl, rfl⟩) | (go_at_call 28; refine (dg_c _ _).mono ?_; rintro e w' ⟨rfl, rfl⟩) | (go_at_call 26; refine (lt_c _ _).mono ?_; rintro e w' ⟨rfl, rfl⟩))
        rw [HTK.out]
        exact bodyPost_ret (v := .tuple #[.agg #[.int .i64 3, .int .i64 i, .string (s.extract i (i + 1)), .int .i64 0], .int .i64 ((i + 1 : Nat) : Int), .int .i64 0, .int .i64 0]) (by simp [results, Tryd.results26, go_sem] <;> rfl) rfl ⟨rfl, (Below.refl _ w).alloc (Nat.le_refl _) _⟩
      by_cases hk : bt s i = 93
      · skip
        have HTK : Hid (tokM s i = .ok (((3 : Int), (i : Int), s.extract i (i + 1), (0 : Int)), i + 1)) := by
          show tokM s i = _
          unfold tokM; rw [if_neg (by simp [hsm]), if_neg (by simp [hdg]; omega), if_pos (by omega)]
        have q10 : ((((s[i]'hi).toNat : Nat) : Int) == 10) = false := beq_eq_false_iff_ne.2 (by rw [bt_get hi]; omega)
        have r0 : isSm (s[i]'hi).toNat = false := by rw [bt_get hi]; exact hsm
        have r1 : isDg (s[i]'hi).toNat = false := by rw [bt_get hi]; exact hdg
        have q45 : ((((s[i]'hi).toNat : Nat) : Int) == 45) = false := beq_eq_false_iff_ne.2 (by rw [bt_get hi]; omega)
        have q40 : ((((s[i]'hi).toNat : Nat) : Int) == 40) = false := beq_eq_false_iff_ne.2 (by rw [bt_get hi]; omega)
        have q41 : ((((s[i]'hi).toNat : Nat) : Int) == 41) = false := beq_eq_false_iff_ne.2 (by rw [bt_get hi]; omega)
        have q91 : ((((s[i]'hi).toNat : Nat) : Int) == 91) = false := beq_eq_false_iff_ne.2 (by rw [bt_get hi]; omega)
        have q93 : ((((s[i]'hi).toNat : Nat) : Int) == 93) = true := beq_iff_eq.2 (by rw [bt_get hi, hk]; rfl)
        have hE1 : (i : Int) ≤ (i : Int) + 1 := by omega
        have hE2 : (i : Int) + 1 ≤ (s.size : Int) := by omega
        go_enter Tryd.func21, Tryd.ntmps21
        go_wp2_with (first | (go_at_call 27; refine (at_c _ _ _ (by omega)).mono ?_; rintro e w' ⟨rfl, rfl⟩) | (go_at_call 28; refine (dg_c _ _).mono ?_; rintro e w' ⟨rfl, rfl⟩) | (go_at_call 26; refine (lt_c _ _).mono ?_; rintro e w' ⟨rfl, rfl⟩))
        rw [HTK.out]
        exact bodyPost_ret (v := .tuple #[.agg #[.int .i64 3, .int .i64 i, .string (s.extract i (i + 1)), .int .i64 0], .int .i64 ((i + 1 : Nat) : Int), .int .i64 0, .int .i64 0]) (by simp [results, Tryd.results26, go_sem] <;> rfl) rfl ⟨rfl, (Below.refl _ w).alloc (Nat.le_refl _) _⟩
      · skip
        have HTK : Hid (tokM s i = .error (i, 10)) := by
          show tokM s i = _
          unfold tokM; rw [if_neg (by simp [hsm]), if_neg (by simp [hdg]; omega), if_neg (by omega), if_neg h10]
        have q10 : ((((s[i]'hi).toNat : Nat) : Int) == 10) = false := beq_eq_false_iff_ne.2 (by rw [bt_get hi]; omega)
        have r0 : isSm (s[i]'hi).toNat = false := by rw [bt_get hi]; exact hsm
        have r1 : isDg (s[i]'hi).toNat = false := by rw [bt_get hi]; exact hdg
        have q45 : ((((s[i]'hi).toNat : Nat) : Int) == 45) = false := beq_eq_false_iff_ne.2 (by rw [bt_get hi]; omega)
        have q40 : ((((s[i]'hi).toNat : Nat) : Int) == 40) = false := beq_eq_false_iff_ne.2 (by rw [bt_get hi]; omega)
        have q41 : ((((s[i]'hi).toNat : Nat) : Int) == 41) = false := beq_eq_false_iff_ne.2 (by rw [bt_get hi]; omega)
        have q91 : ((((s[i]'hi).toNat : Nat) : Int) == 91) = false := beq_eq_false_iff_ne.2 (by rw [bt_get hi]; omega)
        have q93 : ((((s[i]'hi).toNat : Nat) : Int) == 93) = false := beq_eq_false_iff_ne.2 (by rw [bt_get hi]; omega)
        go_enter Tryd.func21, Tryd.ntmps21
        go_wp2_with (first | (go_at_call 27; refine (at_c _ _ _ (by omega)).mono ?_; rintro e w' ⟨rfl, rfl⟩) | (go_at_call 28; refine (dg_c _ _).mono ?_; rintro e w' ⟨rfl, rfl⟩) | (go_at_call 26; refine (lt_c _ _).mono ?_; rintro e w' ⟨rfl, rfl⟩))
        rw [HTK.out]
        exact bodyPost_ret (v := .tuple #[.agg #[.int .i64 0, .int .i64 0, .string ByteArray.empty, .int .i64 0], .int .i64 0, .int .i64 ((i : Nat) : Int), .int .i64 (10)]) (by simp [results, Tryd.results26, go_sem] <;> rfl) rfl ⟨rfl, (Below.refl _ w).alloc (Nat.le_refl _) _⟩
end Go.Proofs.YtebohmcbeacdkaaDoor
