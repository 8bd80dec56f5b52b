/-
  Walk of the reference's token.
  Walk of the reference's Scan.
  Walks of what holds errors and lists of tokens against one another.
-/
import Derived.Test.YtkpomcimaofkkaaGreatDoorZ14
import Derived.Test.YtkpomcimaofkkaaGreatDoorZ13
import Derived.Laws.StructEq
namespace Go.Proofs.YtkpomcimaofkkaaGreatDoor
set_option linter.unusedVariables false
set_option linter.unusedSimpArgs false
open Go.RowKit

/-- What the reference's token answers. -/
def refTokVal : Except (Nat × Nat) (MTok × Nat) → Value
  | .ok (t, k) => .tuple #[.agg #[.int .i64 t.1, .int .i64 t.2.1, .string t.2.2.1, .int .i64 t.2.2.2], .int .i64 k, .int .i64 0, .int .i64 0]
  | .error (a, y) => .tuple #[.agg #[.int .i64 0, .int .i64 0, .string ByteArray.empty, .int .i64 0], .int .i64 0, .int .i64 a, .int .i64 y]

theorem extract_one {s : ByteArray} {i c : Nat} (hi : i < s.size) (h : bt s i = c) : s.extract i (i + 1) = ⟨#[UInt8.ofNat c]⟩ := by
  have e := extract_bl s i (i + 1) (by omega)
  rw [show i + 1 - i = 1 by omega] at e
  simp only [bl, h] at e
  rw [ByteArray.ext_iff, ← Array.toList_inj, e]

theorem wEnd_from {s : ByteArray} {i k : Nat} (hs : isSm (bt s i) = true) (h : RunEnd isWd s (i + 1) k) : wEnd s i = k := by
  refine (wEnd_is s i).uniq ⟨by have := h.1; omega, fun j h1 h2 => ?_, h.2.2⟩
  by_cases e : j = i
  · rw [e]; simp [isWd, hs]
  · exact h.2.1 j (by omega) h2

theorem refNumber_any (s : ByteArray) (i : Nat) (w : World) (hs : s.size ≤ 20000) (hi : i < s.size) (h : isDg (bt s i) = true ∨ (bt s i = 45 ∧ isDg (bt s (i + 1)) = true)) :
    Calls Tryz.prog 107 #[.string s, .int .i64 i] w fun e w' => e = .returned (refNumVal (numM s i)) ∧ w = w' := by
  by_cases h45 : bt s i = 45
  · have hd : isDg (bt s (i + 1)) = true := by
      rcases h with h | h
      · rw [h45] at h; cases h
      · exact h.2
    have hfl : i + 1 < s.size := by
      by_cases hc : i + 1 < s.size
      · exact hc
      · rw [bt_out hc] at hd; cases hd
    exact (refNumber_neg s i w hs hi h45 hfl hd).mono fun _ _ h => ⟨h.1, h.2.symm⟩
  · have hd : isDg (bt s i) = true := by
      rcases h with h | h
      · exact h
      · exact absurd h.1 h45
    exact (refNumber_pos s i w hs hi h45 hd).mono fun _ _ h => ⟨h.1, h.2.symm⟩

set_option maxRecDepth 100000 in
set_option maxHeartbeats 4000000 in
/-- The reference's token. -/
theorem refToken_any (s : ByteArray) (i : Nat) (w : World) (hs : s.size ≤ 20000) (hi : i < s.size) :
    Calls Tryz.prog 72 #[.string s, .int .i64 i] w fun e w' => e = .returned (refTokVal (tokM s i)) ∧ Below w.heap.size w w' := by
  have hii : (i : Int) < (s.size : Int) := by omega
  by_cases hk : bt s i = 10
  · skip
    have HTK : Hid (tokM s i = .ok (((4 : Int), (i : Int), ⟨#[10]⟩, (0 : Int)), i + 1)) := by
      show tokM s i = _
      unfold tokM; rw [if_neg (by simp [hk, isSm]), if_neg (by simp [hk, isDg]), if_neg (by omega), if_pos hk, extract_one hi hk]; rfl
    have q10 : ((((s[i]'hi).toNat : Nat) : Int) == 10) = true := beq_iff_eq.2 (by rw [bt_get hi, hk]; rfl)
    clear hk
    go_enter Tryz.func72, Tryz.ntmps72
    go_wp2_with (first | (go_at_call 105; refine (at_c _ _ _ (by omega)).mono ?_; rintro e w' ⟨rfl, rfl⟩) | (go_at_call 106; refine (dg_c _ _).mono ?_; rintro e w' ⟨rfl, rfl⟩) | (go_at_call 104; refine (lt_c _ _).mono ?_; rintro e w' ⟨rfl, rfl⟩))
    rw [HTK.out]
    exact bodyPost_ret (v := .tuple #[.agg #[.int .i64 4, .int .i64 i, .string ⟨#[10]⟩, .int .i64 0], .int .i64 ((i + 1 : Nat) : Int), .int .i64 0, .int .i64 0]) (by simp [results, Tryz.results72, go_sem] <;> rfl) rfl ⟨rfl, (Below.refl _ w).alloc (Nat.le_refl _) _⟩
  have h10 := hk
  cases hsm : isSm (bt s i) with
  | true =>
    have hsmv := isSm_iff.1 hsm
    have q10 : ((((s[i]'hi).toNat : Nat) : Int) == 10) = false := beq_eq_false_iff_ne.2 (by rw [bt_get hi]; omega)
    have r0 : isSm (s[i]'hi).toNat = true := by rw [bt_get hi]; exact hsm
    go_enter Tryz.func72, Tryz.ntmps72
    go_wp2_with (first | (go_at_call 105; refine (at_c _ _ _ (by omega)).mono ?_; rintro e w' ⟨rfl, rfl⟩) | (go_at_call 106; refine (dg_c _ _).mono ?_; rintro e w' ⟨rfl, rfl⟩) | (go_at_call 104; refine (lt_c _ _).mono ?_; rintro e w' ⟨rfl, rfl⟩))
    go_loopg [9] (s.size - i) (fun g t wr => ∃ k : Nat, i + 1 ≤ k ∧ k ≤ s.size ∧ s.size - k ≤ g ∧ t = .int .i64 k ∧ wr = w.alloc (.cells #[.int .i64 0, .int .i64 0, .string ByteArray.empty, .int .i64 0] 61) ∧ Aside (∀ j, i + 1 ≤ j → j < k → isWd (bt s j) = true))
    case atStart => exact ⟨i + 1, Nat.le_refl _, by omega, by omega, by go_num, rfl, fun j h1 h2 => by omega⟩
    case round =>
      obtain ⟨k, hk1, hk2, hg, rfl, rfl, A⟩ := hrel
      have hlt_of : ∀ p : Nat → Bool, p 0 = false → p (bt s k) = true → k < s.size := fun p hp h => by
        by_cases hc : k < s.size
        · exact hc
        · rw [bt_out hc, hp] at h; cases h
      cases q1 : isSm (bt s k) with
      | true =>
        have hlt := hlt_of isSm rfl q1
        clear hlt_of
        go_wp2_with (first | (go_at_call 105; refine (at_c _ _ _ (by omega)).mono ?_; rintro e w' ⟨rfl, rfl⟩) | (go_at_call 106; refine (dg_c _ _).mono ?_; rintro e w' ⟨rfl, rfl⟩) | (go_at_call 104; refine (lt_c _ _).mono ?_; rintro e w' ⟨rfl, rfl⟩))
        go_roundg (s.size - (k + 1))
        case measure => omega
        case rel =>
          refine ⟨k + 1, by omega, by omega, by omega, by go_num, rfl, (show Aside _ from fun j h1 h2 => ?_)⟩
          by_cases e : j = k
          · subst e; simp [isWd, q1]
          · exact A.out j h1 (by omega)
      | false =>
        cases q2 : isDg (bt s k) with
        | true =>
          have hlt := hlt_of isDg rfl q2
          clear hlt_of
          go_wp2_with (first | (go_at_call 105; refine (at_c _ _ _ (by omega)).mono ?_; rintro e w' ⟨rfl, rfl⟩) | (go_at_call 106; refine (dg_c _ _).mono ?_; rintro e w' ⟨rfl, rfl⟩) | (go_at_call 104; refine (lt_c _ _).mono ?_; rintro e w' ⟨rfl, rfl⟩))
          go_roundg (s.size - (k + 1))
          case measure => omega
          case rel =>
            refine ⟨k + 1, by omega, by omega, by omega, by go_num, rfl, (show Aside _ from fun j h1 h2 => ?_)⟩
            by_cases e : j = k
            · subst e; simp [isWd, q2]
            · exact A.out j h1 (by omega)
        | false =>
          have HW : Hid (wEnd s i = k) := wEnd_from hsm ⟨hk1, A.out, by simp [isWd, q1, q2]⟩
          have HTK : Hid (tokM s i = .ok (((1 : Int), (i : Int), s.extract i k, (0 : Int)), k)) := by
            show tokM s i = _
            unfold tokM; rw [if_pos hsm, HW.out]
          have hE1 : (i : Int) ≤ (k : Int) := by omega
          have hE2 : (k : Int) ≤ (s.size : Int) := by omega
          clear hlt_of
          go_wp2_with (first | (go_at_call 105; refine (at_c _ _ _ (by omega)).mono ?_; rintro e w' ⟨rfl, rfl⟩) | (go_at_call 106; refine (dg_c _ _).mono ?_; rintro e w' ⟨rfl, rfl⟩) | (go_at_call 104; refine (lt_c _ _).mono ?_; rintro e w' ⟨rfl, rfl⟩))
          rw [HTK.out]
          exact bodyPost_ret (v := .tuple #[.agg #[.int .i64 1, .int .i64 i, .string (s.extract i k), .int .i64 0], .int .i64 ((k : Nat) : Int), .int .i64 0, .int .i64 0]) (by simp [results, Tryz.results72, go_sem] <;> rfl) rfl ⟨rfl, (Below.refl _ w).alloc (Nat.le_refl _) _⟩
  | false =>
    have hsmv := isSm_no.1 hsm
    cases hdg : isDg (bt s i) with
    | true =>
      have hdgv := isDg_iff.1 hdg
      have q10 : ((((s[i]'hi).toNat : Nat) : Int) == 10) = false := beq_eq_false_iff_ne.2 (by rw [bt_get hi]; omega)
      have r0 : isSm (s[i]'hi).toNat = false := by rw [bt_get hi]; exact hsm
      have r1 : isDg (s[i]'hi).toNat = true := by rw [bt_get hi]; exact hdg
      have hnum : bt s i = 45 ∨ isDg (bt s i) = true := .inr hdg
      have hpre : isDg (bt s i) = true ∨ (bt s i = 45 ∧ isDg (bt s (i + 1)) = true) := .inl hdg
      have hnc := refNumber_any s i (w.alloc (.cells #[.int .i64 0, .int .i64 0, .string ByteArray.empty, .int .i64 0] 61)) hs hi hpre
      cases hN : numM s i with
      | ok q =>
        obtain ⟨n, e⟩ := q
        have HTK : Hid (tokM s i = .ok (((2 : Int), (i : Int), s.extract i e, n), e)) := by
          show tokM s i = _
          unfold tokM; rw [if_neg (by simp [hsm]), if_pos hnum, hN]
        have hE := numM_gt hN hi
        have hE1 : (i : Int) ≤ (e : Int) := by omega
        have hE2 : (e : Int) ≤ (s.size : Int) := by omega
        rw [hN] at hnc
        simp only [refNumVal] at hnc
        have HC := hid hnc
        clear hN hnc
        go_enter Tryz.func72, Tryz.ntmps72
        go_wp2_with (first | (go_at_call 105; refine (at_c _ _ _ (by omega)).mono ?_; rintro e w' ⟨rfl, rfl⟩) | (go_at_call 106; refine (dg_c _ _).mono ?_; rintro e w' ⟨rfl, rfl⟩) | (go_at_call 104; refine (lt_c _ _).mono ?_; rintro e w' ⟨rfl, rfl⟩) | (go_at_call 107; refine HC.out.mono ?_; rintro e w' ⟨rfl, rfl⟩))
        rw [HTK.out]
        exact bodyPost_ret (v := .tuple #[.agg #[.int .i64 2, .int .i64 i, .string (s.extract i e), .int .i64 n], .int .i64 ((e : Nat) : Int), .int .i64 0, .int .i64 0]) (by simp [results, Tryz.results72, go_sem] <;> rfl) rfl ⟨rfl, (Below.refl _ w).alloc (Nat.le_refl _) _⟩
      | error q =>
        obtain ⟨a, y⟩ := q
        have HTK : Hid (tokM s i = .error (a, y)) := by
          show tokM s i = _
          unfold tokM; rw [if_neg (by simp [hsm]), if_pos hnum, hN]
        have hy := numM_err hN
        rw [hN] at hnc
        simp only [refNumVal] at hnc
        have HC := hid hnc
        clear hN hnc
        go_enter Tryz.func72, Tryz.ntmps72
        go_wp2_with (first | (go_at_call 105; refine (at_c _ _ _ (by omega)).mono ?_; rintro e w' ⟨rfl, rfl⟩) | (go_at_call 106; refine (dg_c _ _).mono ?_; rintro e w' ⟨rfl, rfl⟩) | (go_at_call 104; refine (lt_c _ _).mono ?_; rintro e w' ⟨rfl, rfl⟩) | (go_at_call 107; refine HC.out.mono ?_; rintro e w' ⟨rfl, rfl⟩))
        rw [HTK.out]
        exact bodyPost_ret (v := .tuple #[.agg #[.int .i64 0, .int .i64 0, .string ByteArray.empty, .int .i64 0], .int .i64 0, .int .i64 ((a : Nat) : Int), .int .i64 ((y : Nat) : Int)]) (by simp [results, Tryz.results72, go_sem] <;> rfl) rfl ⟨rfl, (Below.refl _ w).alloc (Nat.le_refl _) _⟩
    | false =>
      have hdgv := isDg_no.1 hdg
      by_cases h45 : bt s i = 45
      · cases hd1 : isDg (bt s (i + 1)) with
        | true =>
          have q10 : ((((s[i]'hi).toNat : Nat) : Int) == 10) = false := beq_eq_false_iff_ne.2 (by rw [bt_get hi]; omega)
          have r0 : isSm (s[i]'hi).toNat = false := by rw [bt_get hi]; exact hsm
          have r1 : isDg (s[i]'hi).toNat = false := by rw [bt_get hi]; exact hdg
          have q45 : ((((s[i]'hi).toNat : Nat) : Int) == 45) = true := beq_iff_eq.2 (by rw [bt_get hi, h45]; rfl)
          have hnum : bt s i = 45 ∨ isDg (bt s i) = true := .inl h45
          have hpre : isDg (bt s i) = true ∨ (bt s i = 45 ∧ isDg (bt s (i + 1)) = true) := .inr ⟨h45, hd1⟩
          have hnc := refNumber_any s i (w.alloc (.cells #[.int .i64 0, .int .i64 0, .string ByteArray.empty, .int .i64 0] 61)) hs hi hpre
          cases hN : numM s i with
          | ok q =>
            obtain ⟨n, e⟩ := q
            have HTK : Hid (tokM s i = .ok (((2 : Int), (i : Int), s.extract i e, n), e)) := by
              show tokM s i = _
              unfold tokM; rw [if_neg (by simp [hsm]), if_pos hnum, hN]
            have hE := numM_gt hN hi
            have hE1 : (i : Int) ≤ (e : Int) := by omega
            have hE2 : (e : Int) ≤ (s.size : Int) := by omega
            rw [hN] at hnc
            simp only [refNumVal] at hnc
            have HC := hid hnc
            clear hN hnc
            go_enter Tryz.func72, Tryz.ntmps72
            go_wp2_with (first | (go_at_call 105; refine (at_c _ _ _ (by omega)).mono ?_; rintro e w' ⟨rfl, rfl⟩) | (go_at_call 106; refine (dg_c _ _).mono ?_; rintro e w' ⟨rfl, rfl⟩) | (go_at_call 104; refine (lt_c _ _).mono ?_; rintro e w' ⟨rfl, rfl⟩) | (go_at_call 107; refine HC.out.mono ?_; rintro e w' ⟨rfl, rfl⟩))
            rw [HTK.out]
            exact bodyPost_ret (v := .tuple #[.agg #[.int .i64 2, .int .i64 i, .string (s.extract i e), .int .i64 n], .int .i64 ((e : Nat) : Int), .int .i64 0, .int .i64 0]) (by simp [results, Tryz.results72, go_sem] <;> rfl) rfl ⟨rfl, (Below.refl _ w).alloc (Nat.le_refl _) _⟩
          | error q =>
            obtain ⟨a, y⟩ := q
            have HTK : Hid (tokM s i = .error (a, y)) := by
              show tokM s i = _
              unfold tokM; rw [if_neg (by simp [hsm]), if_pos hnum, hN]
            have hy := numM_err hN
            rw [hN] at hnc
            simp only [refNumVal] at hnc
            have HC := hid hnc
            clear hN hnc
            go_enter Tryz.func72, Tryz.ntmps72
            go_wp2_with (first | (go_at_call 105; refine (at_c _ _ _ (by omega)).mono ?_; rintro e w' ⟨rfl, rfl⟩) | (go_at_call 106; refine (dg_c _ _).mono ?_; rintro e w' ⟨rfl, rfl⟩) | (go_at_call 104; refine (lt_c _ _).mono ?_; rintro e w' ⟨rfl, rfl⟩) | (go_at_call 107; refine HC.out.mono ?_; rintro e w' ⟨rfl, rfl⟩))
            rw [HTK.out]
            exact bodyPost_ret (v := .tuple #[.agg #[.int .i64 0, .int .i64 0, .string ByteArray.empty, .int .i64 0], .int .i64 0, .int .i64 ((a : Nat) : Int), .int .i64 ((y : Nat) : Int)]) (by simp [results, Tryz.results72, go_sem] <;> rfl) rfl ⟨rfl, (Below.refl _ w).alloc (Nat.le_refl _) _⟩
        | false =>
          have HTK : Hid (tokM s i = .error (i, 10)) := by
            show tokM s i = _
            unfold tokM; rw [if_neg (by simp [hsm]), if_pos (.inl h45), numM_bad ⟨h45, by
              have := isDg_no.1 hd1
              have hf : nF s i = i + 1 := by unfold nF; rw [if_pos h45]
              rw [hf]; omega⟩]
          have q10 : ((((s[i]'hi).toNat : Nat) : Int) == 10) = false := beq_eq_false_iff_ne.2 (by rw [bt_get hi]; omega)
          have r0 : isSm (s[i]'hi).toNat = false := by rw [bt_get hi]; exact hsm
          have r1 : isDg (s[i]'hi).toNat = false := by rw [bt_get hi]; exact hdg
          have q45 : ((((s[i]'hi).toNat : Nat) : Int) == 45) = true := beq_iff_eq.2 (by rw [bt_get hi, h45]; rfl)
          have q40 : ((((s[i]'hi).toNat : Nat) : Int) == 40) = false := beq_eq_false_iff_ne.2 (by rw [bt_get hi]; omega)
          have q41 : ((((s[i]'hi).toNat : Nat) : Int) == 41) = false := beq_eq_false_iff_ne.2 (by rw [bt_get hi]; omega)
          have q91 : ((((s[i]'hi).toNat : Nat) : Int) == 91) = false := beq_eq_false_iff_ne.2 (by rw [bt_get hi]; omega)
          have q93 : ((((s[i]'hi).toNat : Nat) : Int) == 93) = false := beq_eq_false_iff_ne.2 (by rw [bt_get hi]; omega)
          go_enter Tryz.func72, Tryz.ntmps72
          go_wp2_with (first | (go_at_call 105; refine (at_c _ _ _ (by omega)).mono ?_; rintro e w' ⟨rfl, rfl⟩) | (go_at_call 106; refine (dg_c _ _).mono ?_; rintro e w' ⟨rfl, rfl⟩) | (go_at_call 104; refine (lt_c _ _).mono ?_; rintro e w' ⟨rfl, rfl⟩))
          rw [HTK.out]
          exact bodyPost_ret (v := .tuple #[.agg #[.int .i64 0, .int .i64 0, .string ByteArray.empty, .int .i64 0], .int .i64 0, .int .i64 ((i : Nat) : Int), .int .i64 (10)]) (by simp [results, Tryz.results72, go_sem] <;> rfl) rfl ⟨rfl, (Below.refl _ w).alloc (Nat.le_refl _) _⟩
      by_cases hk : bt s i = 40
      · skip
        have HTK : Hid (tokM s i = .ok (((3 : Int), (i : Int), s.extract i (i + 1), (0 : Int)), i + 1)) := by
          show tokM s i = _
          unfold tokM; rw [if_neg (by simp [hsm]), if_neg (by simp [hdg]; omega), if_pos (by omega)]
        have q10 : ((((s[i]'hi).toNat : Nat) : Int) == 10) = false := beq_eq_false_iff_ne.2 (by rw [bt_get hi]; omega)
        have r0 : isSm (s[i]'hi).toNat = false := by rw [bt_get hi]; exact hsm
        have r1 : isDg (s[i]'hi).toNat = false := by rw [bt_get hi]; exact hdg
        have q45 : ((((s[i]'hi).toNat : Nat) : Int) == 45) = false := beq_eq_false_iff_ne.2 (by rw [bt_get hi]; omega)
        have q40 : ((((s[i]'hi).toNat : Nat) : Int) == 40) = true := beq_iff_eq.2 (by rw [bt_get hi, hk]; rfl)
        have hE1 : (i : Int) ≤ (i : Int) + 1 := by omega
        have hE2 : (i : Int) + 1 ≤ (s.size : Int) := by omega
        go_enter Tryz.func72, Tryz.ntmps72
        go_wp2_with (first | (go_at_call 105; refine (at_c _ _ _ (by omega)).mono ?_; rintro e w' ⟨rfl, rfl⟩) | (go_at_call 106; refine (dg_c _ _).mono ?_; rintro e w' ⟨rfl, rfl⟩) | (go_at_call 104; refine (lt_c _ _).mono ?_; rintro e w' ⟨rfl, rfl⟩))
        rw [HTK.out]
        exact bodyPost_ret (v := .tuple #[.agg #[.int .i64 3, .int .i64 i, .string (s.extract i (i + 1)), .int .i64 0], .int .i64 ((i + 1 : Nat) : Int), .int .i64 0, .int .i64 0]) (by simp [results, Tryz.results72, go_sem] <;> rfl) rfl ⟨rfl, (Below.refl _ w).alloc (Nat.le_refl _) _⟩
      by_cases hk : bt s i = 41
      · skip
        have HTK : Hid (tokM s i = .ok (((3 : Int), (i : Int), s.extract i (i + 1), (0 : Int)), i + 1)) := by
          show tokM s i = _
          unfold tokM; rw [if_neg (by simp [hsm]), if_neg (by simp [hdg]; omega), if_pos (by omega)]
        have q10 : ((((s[i]'hi).toNat : Nat) : Int) == 10) = false := beq_eq_false_iff_ne.2 (by rw [bt_get hi]; omega)
        have r0 : isSm (s[i]'hi).toNat = false := by rw [bt_get hi]; exact hsm
        have r1 : isDg (s[i]'hi).toNat = false := by rw [bt_get hi]; exact hdg
        have q45 : ((((s[i]'hi).toNat : Nat) : Int) == 45) = false := beq_eq_false_iff_ne.2 (by rw [bt_get hi]; omega)
        have q40 : ((((s[i]'hi).toNat : Nat) : Int) == 40) = false := beq_eq_false_iff_ne.2 (by rw [bt_get hi]; omega)
        have q41 : ((((s[i]'hi).toNat : Nat) : Int) == 41) = true := beq_iff_eq.2 (by rw [bt_get hi, hk]; rfl)
        have hE1 : (i : Int) ≤ (i : Int) + 1 := by omega
        have hE2 : (i : Int) + 1 ≤ (s.size : Int) := by omega
        go_enter Tryz.func72, Tryz.ntmps72
        go_wp2_with (first | (go_at_call 105; refine (at_c _ _ _ (by omega)).mono ?_; rintro e w' ⟨rfl, rfl⟩) | (go_at_call 106; refine (dg_c _ _).mono ?_; rintro e w' ⟨rfl, rfl⟩) | (go_at_call 104; refine (lt_c _ _).mono ?_; rintro e w' ⟨rfl, rfl⟩))
        rw [HTK.out]
        exact bodyPost_ret (v := .tuple #[.agg #[.int .i64 3, .int .i64 i, .string (s.extract i (i + 1)), .int .i64 0], .int .i64 ((i + 1 : Nat) : Int), .int .i64 0, .int .i64 0]) (by simp [results, Tryz.results72, go_sem] <;> rfl) rfl ⟨rfl, (Below.refl _ w).alloc (Nat.le_refl _) _⟩
      by_cases hk : bt s i = 91
      · skip
        have HTK : Hid (tokM s i = .ok (((3 : Int), (i : Int), s.extract i (i + 1), (0 : Int)), i + 1)) := by
          show tokM s i = _
          unfold tokM; rw [if_neg (by simp [hsm]), if_neg (by simp [hdg]; omega), if_pos (by omega)]
        have q10 : ((((s[i]'hi).toNat : Nat) : Int) == 10) = false := beq_eq_false_iff_ne.2 (by rw [bt_get hi]; omega)
        have r0 : isSm (s[i]'hi).toNat = false := by rw [bt_get hi]; exact hsm
        have r1 : isDg (s[i]'hi).toNat = false := by rw [bt_get hi]; exact hdg
        have q45 : ((((s[i]'hi).toNat : Nat) : Int) == 45) = false := beq_eq_false_iff_ne.2 (by rw [bt_get hi]; omega)
        have q40 : ((((s[i]'hi).toNat : Nat) : Int) == 40) = false := beq_eq_false_iff_ne.2 (by rw [bt_get hi]; omega)
        have q41 : ((((s[i]'hi).toNat : Nat) : Int) == 41) = false := beq_eq_false_iff_ne.2 (by rw [bt_get hi]; omega)
        have q91 : ((((s[i]'hi).toNat : Nat) : Int) == 91) = true := beq_iff_eq.2 (by rw [bt_get hi, hk]; rfl)
        have hE1 : (i : Int) ≤ (i : Int) + 1 := by omega
        have hE2 : (i : Int) + 1 ≤ (s.size : Int) := by omega
        go_enter Tryz.func72, Tryz.ntmps72
        go_wp2_with (first | (go_at_call 105; refine (at_c _ _ _ (by omega)).mono ?_; rintro e w' ⟨rfl, rfl⟩) | (go_at_call 106; refine (dg_c _ _).mono ?_; rintro e w' ⟨rfl, rfl⟩) | (go_at_call 104; refine (lt_c _ _).mono ?_; rintro e w' ⟨rfl, rfl⟩))
        rw [HTK.out]
        exact bodyPost_ret (v := .tuple #[.agg #[.int .i64 3, .int .i64 i, .string (s.extract i (i + 1)), .int .i64 0], .int .i64 ((i + 1 : Nat) : Int), .int .i64 0, .int .i64 0]) (by simp [results, Tryz.results72, go_sem] <;> rfl) rfl ⟨rfl, (Below.refl _ w).alloc (Nat.le_refl _) _⟩
      by_cases hk : bt s i = 93
      · skip
        have HTK : Hid (tokM s i = .ok (((3 : Int), (i : Int), s.extract i (i + 1), (0 : Int)), i + 1)) := by
          show tokM s i = _
          unfold tokM; rw [if_neg (by simp [hsm]), if_neg (by simp [hdg]; omega), if_pos (by omega)]
        have q10 : ((((s[i]'hi).toNat : Nat) : Int) == 10) = false := beq_eq_false_iff_ne.2 (by rw [bt_get hi]; omega)
        have r0 : isSm (s[i]'hi).toNat = false := by rw [bt_get hi]; exact hsm
        have r1 : isDg (s[i]'hi).toNat = false := by rw [bt_get hi]; exact hdg
        have q45 : ((((s[i]'hi).toNat : Nat) : Int) == 45) = false := beq_eq_false_iff_ne.2 (by rw [bt_get hi]; omega)
        have q40 : ((((s[i]'hi).toNat : Nat) : Int) == 40) = false := beq_eq_false_iff_ne.2 (by rw [bt_get hi]; omega)
        have q41 : ((((s[i]'hi).toNat : Nat) : Int) == 41) = false := beq_eq_false_iff_ne.2 (by rw [bt_get hi]; omega)
        have q91 : ((((s[i]'hi).toNat : Nat) : Int) == 91) = false := beq_eq_false_iff_ne.2 (by rw [bt_get hi]; omega)
        have q93 : ((((s[i]'hi).toNat : Nat) : Int) == 93) = true := beq_iff_eq.2 (by rw [bt_get hi, hk]; rfl)
        have hE1 : (i : Int) ≤ (i : Int) + 1 := by omega
        have hE2 : (i : Int) + 1 ≤ (s.size : Int) := by omega
        go_enter Tryz.func72, Tryz.ntmps72
        go_wp2_with (first | (go_at_call 105; refine (at_c _ _ _ (by omega)).mono ?_; rintro e w' ⟨rfl, rfl⟩) | (go_at_call 106; refine (dg_c _ _).mono ?_; rintro e w' ⟨rfl, rfl⟩) | (go_at_call 104; refine (lt_c _ _).mono ?_; rintro e w' ⟨rfl, rfl⟩))
        rw [HTK.out]
        exact bodyPost_ret (v := .tuple #[.agg #[.int .i64 3, .int .i64 i, .string (s.extract i (i + 1)), .int .i64 0], .int .i64 ((i + 1 : Nat) : Int), .int .i64 0, .int .i64 0]) (by simp [results, Tryz.results72, go_sem] <;> rfl) rfl ⟨rfl, (Below.refl _ w).alloc (Nat.le_refl _) _⟩
      · skip
        have HTK : Hid (tokM s i = .error (i, 10)) := by
          show tokM s i = _
          unfold tokM; rw [if_neg (by simp [hsm]), if_neg (by simp [hdg]; omega), if_neg (by omega), if_neg h10]
        have q10 : ((((s[i]'hi).toNat : Nat) : Int) == 10) = false := beq_eq_false_iff_ne.2 (by rw [bt_get hi]; omega)
        have r0 : isSm (s[i]'hi).toNat = false := by rw [bt_get hi]; exact hsm
        have r1 : isDg (s[i]'hi).toNat = false := by rw [bt_get hi]; exact hdg
        have q45 : ((((s[i]'hi).toNat : Nat) : Int) == 45) = false := beq_eq_false_iff_ne.2 (by rw [bt_get hi]; omega)
        have q40 : ((((s[i]'hi).toNat : Nat) : Int) == 40) = false := beq_eq_false_iff_ne.2 (by rw [bt_get hi]; omega)
        have q41 : ((((s[i]'hi).toNat : Nat) : Int) == 41) = false := beq_eq_false_iff_ne.2 (by rw [bt_get hi]; omega)
        have q91 : ((((s[i]'hi).toNat : Nat) : Int) == 91) = false := beq_eq_false_iff_ne.2 (by rw [bt_get hi]; omega)
        have q93 : ((((s[i]'hi).toNat : Nat) : Int) == 93) = false := beq_eq_false_iff_ne.2 (by rw [bt_get hi]; omega)
        go_enter Tryz.func72, Tryz.ntmps72
        go_wp2_with (first | (go_at_call 105; refine (at_c _ _ _ (by omega)).mono ?_; rintro e w' ⟨rfl, rfl⟩) | (go_at_call 106; refine (dg_c _ _).mono ?_; rintro e w' ⟨rfl, rfl⟩) | (go_at_call 104; refine (lt_c _ _).mono ?_; rintro e w' ⟨rfl, rfl⟩))
        rw [HTK.out]
        exact bodyPost_ret (v := .tuple #[.agg #[.int .i64 0, .int .i64 0, .string ByteArray.empty, .int .i64 0], .int .i64 0, .int .i64 ((i : Nat) : Int), .int .i64 (10)]) (by simp [results, Tryz.results72, go_sem] <;> rfl) rfl ⟨rfl, (Below.refl _ w).alloc (Nat.le_refl _) _⟩
end Go.Proofs.YtkpomcimaofkkaaGreatDoor
namespace Go.Proofs.YtkpomcimaofkkaaGreatDoor
set_option linter.unusedVariables false
set_option linter.unusedSimpArgs false
open Go.RowKit

/-- What the reference's Scan answers. -/
def RefPost (w : World) (r : Except (Nat × Nat) (List MTok)) (e : Ending) (w' : World) : Prop :=
  match r with
  | .ok l => ∃ v, e = .returned (.tuple #[v, .int .i64 0, .int .i64 0]) ∧ ToksIn (fun b => w.heap.size ≤ b) w' v l ∧ Roomy v
  | .error (a, y) => e = .returned (.tuple #[.slice none 0 0, .int .i64 a, .int .i64 y])

theorem tokM_err {s : ByteArray} {i a y : Nat} (h : tokM s i = .error (a, y)) : ((y : Int) != 0) = true := by
  unfold tokM at h
  split at h
  · cases h
  · split at h
    · split at h
      · rename_i e he
        cases h
        exact numM_err he
      · cases h
    · split at h
      · cases h
      · split at h
        · cases h
        · cases h; rfl

set_option maxRecDepth 100000 in
set_option maxHeartbeats 4000000 in
theorem refScan_walk (s : ByteArray) (w : World) (hs : s.size ≤ 20000) :
    Calls Tryz.prog 21 #[.string s] w fun e w' => RefPost w (left s 0 []) e w' ∧ Below w.heap.size w w' := by
  obtain ⟨i0, hi0, hz0, hz1, hz2⟩ := info_parts Tryz.infoTok
  have hsd : decide ((20000 : Int) < (s.size : Int)) = false := by simp; omega
  go_enter Tryz.func21, Tryz.ntmps21
  go_wp2
  go_loopg [5, 6, 7, 8, 9, 10] s.size (fun g v at_ _ _ _ _ wr => ∃ (i : Nat) (rows : List (List Value)) (acc : List MTok), i ≤ s.size ∧ s.size - i ≤ g ∧ at_ = .int .i64 i ∧ acc.length ≤ i ∧ Aside (Below w.heap.size w wr) ∧ Aside (OutInv 61 4 TokRow w.heap.size wr v acc.length rows acc) ∧ Aside (left s 0 [] = left s i acc))
  case atStart => exact ⟨0, [], [], Nat.zero_le _, by omega, rfl, Nat.le_refl _, Below.refl _ _, OutInv.nil _ _ _ _ _, rfl⟩
  case round =>
    obtain ⟨i, rows, acc, hi, hg, rfl, hacc, BW, I, HL⟩ := hrel
    have hsz := BW.out.size
    by_cases hlt : i < s.size
    · have hlti : (i : Int) < (s.size : Int) := by omega
      by_cases hnb : bt s i = 32
      · have HT : Hid (left s 0 [] = left s (i + 1) acc) := HL.out.trans (left_blank acc hlt hnb)
        have q32 : ((((s[i]'hlt).toNat : Nat) : Int) == 32) = true := by rw [bt_get hlt, hnb]; rfl
        clear hnb
        go_wp2_with fail
        go_roundg (s.size - (i + 1))
        case measure => omega
        case rel => exact ⟨i + 1, rows, acc, by omega, by omega, by go_num, by omega, BW.out, I.out, HT.out⟩
      have q32 : ((((s[i]'hlt).toNat : Nat) : Int) == 32) = false := beq_eq_false_iff_ne.2 (by rw [bt_get hlt]; omega)
      have hc := refToken_any s i wr hs hlt
      cases hT : tokM s i with
      | error q =>
        obtain ⟨a, y⟩ := q
        have HEND : Hid (left s 0 [] = .error (a, y)) := HL.out.trans (left_bad acc hlt hnb hT)
        have hy := tokM_err hT
        rw [hT] at hc
        simp only [refTokVal] at hc
        have HC := hid hc
        clear hc hT hnb
        go_wp2_with fail
        refine HC.out.mono ?_
        rintro e' w1 ⟨rfl, hb1⟩
        have HB1 : Hid (Below w.heap.size w w1) := BW.out.trans (hb1.mono hsz)
        have hs1 : w.heap.size ≤ w1.heap.size := HB1.out.size
        clear hb1
        go_wp2_with fail
        rw [HEND.out]
        exact bodyPost_ret (v := .tuple #[.slice none 0 0, .int .i64 a, .int .i64 y]) (by simp [results, Tryz.results21, go_sem]) rfl ⟨rfl, HB1.out.alloc hs1 _⟩
      | ok q =>
        obtain ⟨t, k⟩ := q
        have hK := tokM_gt hT hlt
        have HLN := hid (left_good HL.out hlt hnb hT)
        rw [hT] at hc
        obtain ⟨kd, ta, tx, nm⟩ := t
        simp only [refTokVal] at hc
        have HC := hid hc
        clear hc hT hnb
        go_wp2_with fail
        refine HC.out.mono ?_
        rintro e' w1 ⟨rfl, hb1⟩
        have hs1 : wr.heap.size ≤ w1.heap.size := hb1.size
        have HB1 := hid hb1
        clear hb1
        go_wp2_with (at_builtin; refine wpList_append_lies _ rfl _ _ 44 rfl w.heap.size 61 i0 _ 4 40 Tryz.underlying44 hi0 hz0 hz1 hz2 rfl (by decide) u5 acc.length rows.flatten rfl ?hown ⟨w1.heap.size + 1, 0, none⟩ 1 1 [.int .i64 kd, .int .i64 ta, .string tx, .int .i64 nm] rfl rfl ?hnews ?hone (by decide) ?h63 ?hby ?hbase (w1.heap.size + 2) ?hH ?_)
        case hown => exact I.out.own3 ((HB1.out.alloc hs1 _).alloc (by simp; omega) _)
        case hnews => exact World.news_of_block (by simpa using heap_alloc_new (w1.alloc (.cells #[.int .i64 kd, .int .i64 ta, .string tx, .int .i64 nm] 61)) (.cells #[.int .i64 kd, .int .i64 ta, .string tx, .int .i64 nm] 61))
        case hone => intro u hu; simp at hu; rcases hu with rfl | rfl | rfl | rfl <;> rfl
        case h63 => unfold maxLen; omega
        case hby => omega
        case hbase => simp; omega
        case hH => simp
        intro g cap w4 hown4 hgrow hat hglt
        have B3 : Below wr.heap.size wr ((w1.alloc (.cells #[.int .i64 kd, .int .i64 ta, .string tx, .int .i64 nm] 61)).alloc (.cells #[.int .i64 kd, .int .i64 ta, .string tx, .int .i64 nm] 61)) := (HB1.out.alloc hs1 _).alloc (by simp; omega) _
        have hbw4 : Below w.heap.size w w4 := BW.out.trans ((B3.mono hsz).grown hgrow (by simp; omega) (fun x hx => (I.out.own.lt x hx).1))
        have I4 := hid (OutInv.step (x := ((kd, ta, tx, nm) : MTok)) tokRow_keep I.out hsz B3 rfl rfl hown4 hgrow (by simpa using hat))
        have HBW4 := hid hbw4
        clear hown4 hgrow hat B3 hbw4
        go_wp2_with fail
        go_roundg (s.size - k)
        case measure => omega
        case rel => exact ⟨k, rows ++ [_], acc ++ [_], by omega, by omega, by go_num, by simp; omega, HBW4.out, (by show OutInv _ _ _ _ _ _ _ _ _; simpa using I4.out), HLN.out⟩
    · have hlti : ¬ (i : Int) < (s.size : Int) := by omega
      have HEND : Hid (left s 0 [] = .ok acc) := HL.out.trans (left_end acc hlt)
      go_wp2_with fail
      rw [HEND.out]
      exact bodyPost_ret (v := .tuple #[u5, .int .i64 0, .int .i64 0]) (by simp [results, Tryz.results21, go_sem]) rfl ⟨⟨_, rfl, OutInv.rows_in (bytes := 40) tokRow_keep I.out (by omega), owns_roomy I.out.own⟩, BW.out⟩

/-- A text that is too long. -/
theorem refScan_long (s : ByteArray) (w : World) (hs : 20000 < s.size) :
    Calls Tryz.prog 21 #[.string s] w fun e w' => RefPost w (.error (0, 4)) e w' ∧ Below w.heap.size w w' := by
  have hsd : decide ((20000 : Int) < (s.size : Int)) = true := by simp; omega
  have hsi : (20000 : Int) < (s.size : Int) := by omega
  go_enter Tryz.func21, Tryz.ntmps21
  go_wp2
  exact bodyPost_ret (v := .tuple #[.slice none 0 0, .int .i64 0, .int .i64 4]) (by simp [results, Tryz.results21, go_sem]) rfl ⟨rfl, Below.refl _ _⟩

theorem scan_long (s : ByteArray) (w : World) (hs : 20000 < s.size) :
    Calls Tryz.prog 16 #[.string s] w fun e w' => ScanPost w (.error (0, 4)) e w' ∧ Below w.heap.size w w' := by
  have hsi : (20000 : Int) < (s.size : Int) := by omega
  go_enter Tryz.func16, Tryz.ntmps16
  go_wp2
  go_step3
  go_wp2
  first | rw [Exit.noGoto_ret] | skip
  exact bodyPost_ret (v := .tuple #[.slice none 0 0, .iface 49 (.agg #[.int .i64 0, .int .i64 4])]) (by simp [results, Tryz.results16, go_sem]) rfl ⟨rfl, Below.refl _ _⟩
end Go.Proofs.YtkpomcimaofkkaaGreatDoor
namespace Go.Proofs.YtkpomcimaofkkaaGreatDoor
set_option linter.unusedVariables false
set_option linter.unusedSimpArgs false
open Go.RowKit

theorem why_nil (w : World) : Calls Tryz.prog 31 #[.nilIface] w fun e w' => e = .returned (.tuple #[.int .i64 0, .int .i64 0]) ∧ Below w.heap.size w w' := by
  go_enter Tryz.func31, Tryz.ntmps31
  go_wp2
  go_ret2
  exact ⟨rfl, Below.refl _ _⟩

theorem assertFault (a y : Int) (w : World) : (Instr.typeAssert (.iface 49 (.agg #[.int .i64 a, .int .i64 y])) 27 49 true).run Tryz.prog w = .ok (.tuple #[.agg #[.int .i64 a, .int .i64 y], .bool true]) w := by kernel_rfl

set_option maxRecDepth 100000 in
set_option maxHeartbeats 1000000 in
theorem why_fault (a y : Int) (w : World) : Calls Tryz.prog 31 #[.iface 49 (.agg #[.int .i64 a, .int .i64 y])] w fun e w' => e = .returned (.tuple #[.int .i64 y, .int .i64 a]) ∧ Below w.heap.size w w' := by
  have hta := assertFault a y
  go_enter Tryz.func31, Tryz.ntmps31
  go_wp2
  go_quiet (fail)
  go_wp2
  go_ret2
  exact ⟨rfl, below_drewN ((Below.refl _ _).alloc (Nat.le_refl _) _) _⟩
/-- An error is a number at a place. -/
theorem is_nil (w : World) : Calls Tryz.prog 9 #[.nilIface, .int .i64 0, .int .i64 0] w fun e w' => e = .returned (.bool true) ∧ Below w.heap.size w w' := by
  go_enter Tryz.func9, Tryz.ntmps9
  go_wp2_with (go_at_call 31; refine (why_nil _).mono ?_; rintro e w' ⟨rfl, hb⟩)
  go_ret
  exact ⟨rfl, hb⟩

theorem is_fault (a y : Int) (w : World) : Calls Tryz.prog 9 #[.iface 49 (.agg #[.int .i64 a, .int .i64 y]), .int .i64 a, .int .i64 y] w fun e w' => e = .returned (.bool true) ∧ Below w.heap.size w w' := by
  have h1 : (a == a) = true := by simp
  have h2 : (y == y) = true := by simp
  go_enter Tryz.func9, Tryz.ntmps9
  go_wp2_with (go_at_call 31; refine (why_fault _ _ _).mono ?_; rintro e w' ⟨rfl, hb⟩)
  go_ret
  exact ⟨by simp, hb⟩

/-- Scan and its reference, at any text. -/
theorem scan_any (s : ByteArray) (w : World) (te : TypeId) (pe : Value) (hv : w.cell? ⟨6, 0, none⟩ = some (.iface te pe)) :
    Calls Tryz.prog 16 #[.string s] w fun e w' => ScanPost w (scanM s) e w' ∧ Below w.heap.size w w' := by
  by_cases h : 20000 < s.size
  · unfold scanM; rw [if_pos h]; exact scan_long s w h
  · rw [scanM_left (by omega)]; exact scan_walk s w (by omega) te pe hv

theorem refScan_any (s : ByteArray) (w : World) : Calls Tryz.prog 21 #[.string s] w fun e w' => RefPost w (scanM s) e w' ∧ Below w.heap.size w w' := by
  by_cases h : 20000 < s.size
  · unfold scanM; rw [if_pos h]; exact refScan_long s w h
  · rw [scanM_left (by omega)]; exact refScan_walk s w (by omega)

end Go.Proofs.YtkpomcimaofkkaaGreatDoor
