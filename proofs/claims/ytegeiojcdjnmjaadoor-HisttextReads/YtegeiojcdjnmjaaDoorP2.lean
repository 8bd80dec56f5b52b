/-
  Walk of the reference's number.
  The code's parser of a history's text: its box; the next token; giving up, which is a panic.
-/
import Derived.Test.YtegeiojcdjnmjaaDoorP1
import Derived.Recover
import Derived.RegionTactic
import Derived.ChangeAlike
import Derived.Deep.QuietTactic
import Derived.BigQuiet
namespace Go.Proofs.YtegeiojcdjnmjaaDoor
set_option linter.unusedVariables false
set_option linter.unusedSimpArgs false
open Go.RowKit

/-- What the reference's number answers. -/
def refNumVal : Except (Nat × Nat) (Int × Nat) → Value
  | .ok (n, k) => .tuple #[.int .i64 n, .int .i64 k, .int .i64 0, .int .i64 0]
  | .error (a, y) => .tuple #[.int .i64 0, .int .i64 0, .int .i64 a, .int .i64 y]

theorem tdiv_lo (d : Int) (_h0 : 0 ≤ d) (h9 : d ≤ 9) : (-9223372036854775808 + d).tdiv 10 = -((9223372036854775808 - d) / 10) := by
  rw [show (-9223372036854775808 + d : Int) = -(9223372036854775808 - d) by omega, Int.neg_tdiv, Int.tdiv_eq_ediv_of_nonneg (by omega)]

theorem over_iff (v d : Int) (h0 : 0 ≤ d) (h9 : d ≤ 9) : -v < (-9223372036854775808 + d).tdiv 10 ↔ 9223372036854775808 < v * 10 + d := by
  rw [tdiv_lo d h0 h9]; omega

theorem wr64 (x : Int) (h : -9223372036854775808 ≤ x ∧ x ≤ 9223372036854775807) : wrap64 x = x := by
  unfold wrap64; omega

theorem at_c (s : ByteArray) (i : Nat) (w : World) (hs : s.size ≤ 9223372036854775807) : Calls Tryd.prog 68 #[.string s, .int .i64 i] w fun e w' => e = .returned (.int .u8 (bt s i : Nat)) ∧ w = w' := (refAt_any s i w hs).mono fun _ _ h => ⟨h.1, h.2.symm⟩
theorem dg_c (c : Nat) (w : World) : Calls Tryd.prog 69 #[.int .u8 c] w fun e w' => e = .returned (.bool (isDg c)) ∧ w = w' := (refDigit_any c w).mono fun _ _ h => ⟨h.1, h.2.symm⟩
theorem lt_c (c : Nat) (w : World) : Calls Tryd.prog 67 #[.int .u8 c] w fun e w' => e = .returned (.bool (isSm c)) ∧ w = w' := (refLetter_any c w).mono fun _ _ h => ⟨h.1, h.2.symm⟩

/-- A run of k + 1 digits lies ahead of a number's end. -/
theorem digits_lt {s : ByteArray} {i k : Nat} (hz : ¬ bt s (nF s i) = 48) (h : ∀ j, j ≤ k → isDg (bt s (nF s i + j)) = true) : nF s i + k < nE s i := by
  unfold nE
  rw [if_neg hz]
  have hr := dEnd_is s (nF s i + 1)
  rcases Nat.lt_or_ge (nF s i + k) (dEnd s (nF s i + 1)) with h1 | h1
  · exact h1
  · have := h (dEnd s (nF s i + 1) - nF s i) (by omega)
    rw [show nF s i + (dEnd s (nF s i + 1) - nF s i) = dEnd s (nF s i + 1) by have := hr.1; omega, hr.2.2] at this
    cases this

theorem big_of {s : ByteArray} {i k : Nat} (hz : ¬ bt s (nF s i) = 48) (h : ∀ j, j ≤ k → isDg (bt s (nF s i + j)) = true) (hv : 9223372036854775808 < dv s (nF s i) (k + 1)) : nBig s i := by
  have h1 := digits_lt hz h
  have hm := dv_mono s (nF s i) (nE s i - nF s i - (k + 1)) (k + 1)
  have : nV s i = dv s (nF s i) (k + 1 + (nE s i - nF s i - (k + 1))) := by unfold nV; congr 1; omega
  unfold nBig
  omega

theorem end_at {s : ByteArray} {i k : Nat} (hz : ¬ bt s (nF s i) = 48) (hk : 1 ≤ k) (h : ∀ j, j < k → isDg (bt s (nF s i + j)) = true) (hq : isDg (bt s (nF s i + k)) = false) : nE s i = nF s i + k := by
  unfold nE
  rw [if_neg hz]
  refine (dEnd_is s (nF s i + 1)).uniq ⟨by omega, fun j h1 h2 => ?_, hq⟩
  have := h (j - nF s i) (by omega)
  rwa [show nF s i + (j - nF s i) = j by omega] at this

set_option maxRecDepth 100000 in
set_option maxHeartbeats 2000000 in
theorem refNumber_pos (s : ByteArray) (i : Nat) (w : World) (hs : s.size ≤ 20000) (hi : i < s.size) (h45 : ¬ bt s i = 45) (hd : isDg (bt s i) = true) :
    Calls Tryd.prog 70 #[.string s, .int .i64 i] w fun e w' => e = .returned (refNumVal (numM s i)) ∧ w' = w := by
  have hii : (i : Int) < (s.size : Int) := by omega
  have hf : nF s i = i := by unfold nF; rw [if_neg h45]
  have q45 : ((((s[i]'hi).toNat : Nat) : Int) == 45) = false := beq_eq_false_iff_ne.2 (by rw [bt_get hi]; omega)
  have HN := hid (show ¬ nBad s i from fun h => h45 h.1)
  by_cases hz : bt s (i) = 48
  · have hb48 : (((bt s i : Nat) : Int) == 48) = true := by rw [hz]; rfl
    have HE : Hid (nE s i = i + 1) := by show nE s i = _; unfold nE; rw [hf, if_pos hz]
    have HV : Hid (nV s i = 0) := by show nV s i = 0; unfold nV; rw [HE.out, hf, show i + 1 - i = 1 by omega]; simp [dv, hz]
    have HB : Hid (¬ nBig s i) := by show ¬ nBig s i; unfold nBig; rw [HV.out]; omega
    have HNN : Hid (nN s i = 0) := by show nN s i = 0; unfold nN; rw [if_neg h45, HV.out]; rfl
    clear hz h45 hd hf
    cases q1 : isDg (bt s (i + 1)) with
    | true =>
      go_enter Tryd.func70, Tryd.ntmps70
      go_wp2_with (first | (go_at_call 68; refine (at_c _ _ _ (by omega)).mono ?_; rintro e w' ⟨rfl, rfl⟩) | (go_at_call 69; refine (dg_c _ _).mono ?_; rintro e w' ⟨rfl, rfl⟩) | (go_at_call 67; refine (lt_c _ _).mono ?_; rintro e w' ⟨rfl, rfl⟩))
      rw [numM_wd HN.out HB.out (by rw [HE.out]; simp [isWd, q1]), HE.out]
      exact bodyPost_ret (v := .tuple #[.int .i64 0, .int .i64 0, .int .i64 ((i + 1 : Nat) : Int), .int .i64 10]) (by simp [results, Tryd.results49, go_sem]) rfl ⟨rfl, rfl⟩
    | false =>
      cases q2 : isSm (bt s (i + 1)) with
      | true =>
        go_enter Tryd.func70, Tryd.ntmps70
        go_wp2_with (first | (go_at_call 68; refine (at_c _ _ _ (by omega)).mono ?_; rintro e w' ⟨rfl, rfl⟩) | (go_at_call 69; refine (dg_c _ _).mono ?_; rintro e w' ⟨rfl, rfl⟩) | (go_at_call 67; refine (lt_c _ _).mono ?_; rintro e w' ⟨rfl, rfl⟩))
        rw [numM_wd HN.out HB.out (by rw [HE.out]; simp [isWd, q2]), HE.out]
        exact bodyPost_ret (v := .tuple #[.int .i64 0, .int .i64 0, .int .i64 ((i + 1 : Nat) : Int), .int .i64 10]) (by simp [results, Tryd.results49, go_sem]) rfl ⟨rfl, rfl⟩
      | false =>
        go_enter Tryd.func70, Tryd.ntmps70
        go_wp2_with (first | (go_at_call 68; refine (at_c _ _ _ (by omega)).mono ?_; rintro e w' ⟨rfl, rfl⟩) | (go_at_call 69; refine (dg_c _ _).mono ?_; rintro e w' ⟨rfl, rfl⟩) | (go_at_call 67; refine (lt_c _ _).mono ?_; rintro e w' ⟨rfl, rfl⟩))
        rw [numM_ok HN.out HB.out (by rw [HE.out]; simp [isWd, q1, q2]), HE.out, HNN.out]
        exact bodyPost_ret (v := .tuple #[.int .i64 0, .int .i64 ((i + 1 : Nat) : Int), .int .i64 0, .int .i64 0]) (by simp [results, Tryd.results49, go_sem]) rfl ⟨rfl, rfl⟩
  · have hb48 : (((bt s (i) : Nat) : Int) == 48) = false := beq_eq_false_iff_ne.2 (by omega)
    have HZ : Hid (¬ bt s (nF s i) = 48) := by show ¬ bt s (nF s i) = 48; rw [hf]; exact hz
    have HF := hid hf
    have HD := hid hd
    have H45 := hid h45
    clear hz h45 hd hf
    go_enter Tryd.func70, Tryd.ntmps70
    go_wp2_with (first | (go_at_call 68; refine (at_c _ _ _ (by omega)).mono ?_; rintro e w' ⟨rfl, rfl⟩) | (go_at_call 69; refine (dg_c _ _).mono ?_; rintro e w' ⟨rfl, rfl⟩) | (go_at_call 67; refine (lt_c _ _).mono ?_; rintro e w' ⟨rfl, rfl⟩))
    go_loopg [8, 10, 11] (s.size - (i)) (fun g t n _ wr => ∃ k : Nat, k ≤ s.size - (i) ∧ s.size - (i) - k ≤ g ∧ t = .int .i64 (((i) + k : Nat)) ∧ n = .int .i64 (-(dv s (i) k : Int)) ∧ wr = w ∧ dv s (i) k ≤ 9223372036854775808 ∧ Aside (∀ j, j < k → isDg (bt s ((i) + j)) = true))
    case atStart => exact ⟨0, Nat.zero_le _, Nat.le_refl _, by go_num, by simp [dv], rfl, by simp [dv], fun j hj => by omega⟩
    case round =>
      obtain ⟨k, hk, hg, rfl, rfl, rfl, hv, A⟩ := hrel
      cases q : isDg (bt s ((i) + k)) with
      | true =>
        have hlt : ((i) + k) < s.size := by
          by_cases hc : ((i) + k) < s.size
          · exact hc
          · rw [bt_out hc] at q; cases q
        have hlti : ((((i) + k) : Nat) : Int) < (s.size : Int) := by omega
        have qv := isDg_iff.1 q
        have hb := hid (bt_get hlt)
        have b1 : (48 : Int) ≤ (((s[((i) + k)]'hlt).toNat : Nat) : Int) := by rw [hb.out]; omega
        have b2 : (((s[((i) + k)]'hlt).toNat : Nat) : Int) ≤ 57 := by rw [hb.out]; omega
        have AA : Hid (∀ j, j ≤ k → isDg (bt s ((i) + j)) = true) := fun j hj => by
          by_cases e : j = k
          · rw [e]; exact q
          · exact A.out j (by omega)
        have HDV : Hid (dv s (i) (k + 1) = dv s (i) k * 10 + (bt s ((i) + k) - 48)) := rfl
        have HOV := hid (over_iff (dv s (i) k : Int) ((((s[((i) + k)]'hlt).toNat : Nat) : Int) - 48) (by omega) (by omega))
        generalize hdk : dv s (i) k = V at *
        go_wp2_with (first | (go_at_call 68; refine (at_c _ _ _ (by omega)).mono ?_; rintro e w' ⟨rfl, rfl⟩) | (go_at_call 69; refine (dg_c _ _).mono ?_; rintro e w' ⟨rfl, rfl⟩) | (go_at_call 67; refine (lt_c _ _).mono ?_; rintro e w' ⟨rfl, rfl⟩))
        · have hov : -(V : Int) < (-9223372036854775808 + ((((s[((i) + k)]'hlt).toNat : Nat) : Int) - 48)).tdiv 10 := by assumption
          have h2 := HOV.out.1 hov
          rw [hb.out] at h2
          rw [numM_big HN.out (big_of (k := k) HZ.out (by rw [HF.out]; exact AA.out) (by rw [HF.out, HDV.out]; omega))]
          exact bodyPost_ret (v := .tuple #[.int .i64 0, .int .i64 0, .int .i64 ((i : Nat) : Int), .int .i64 11]) (by simp [results, Tryd.results49, go_sem]) rfl ⟨rfl, rfl⟩
        · have hov : ¬ -(V : Int) < (-9223372036854775808 + ((((s[((i) + k)]'hlt).toNat : Nat) : Int) - 48)).tdiv 10 := by omega
          have h2 : ¬ 9223372036854775808 < (V : Int) * 10 + ((((s[((i) + k)]'hlt).toNat : Nat) : Int) - 48) := fun h => hov (HOV.out.2 h)
          have e1 : wrap64 (wrap64 (-(V : Int) * 10) - ((((s[((i) + k)]'hlt).toNat : Nat) : Int) - 48)) = -((V * 10 + (bt s ((i) + k) - 48) : Nat) : Int) := by
            have hb2 := hb.out
            rw [wr64 (-(V : Int) * 10) (by omega), wr64 _ (by omega)]
            omega
          have HE1 := hid e1
          have HH2 := hid h2
          clear e1 h2 hov
          go_roundg (s.size - (i) - (k + 1))
          case measure => omega
          case rel => exact ⟨k + 1, by omega, by omega, by go_num, by rw [HE1.out, HDV.out], rfl, by rw [HDV.out]; have := HH2.out; have := hb.out; omega, (show Aside _ from fun j hj => AA.out j (by omega))⟩
      | false =>
        have hk1 : 1 ≤ k := by
          rcases Nat.eq_zero_or_pos k with h0 | h0
          · subst h0; have := HD.out; rw [Nat.add_zero, this] at q; cases q
          · exact h0
        have HE2 : Hid (nE s i = ((i) + k)) := by show nE s i = _; rw [end_at (k := k) HZ.out hk1 (by rw [HF.out]; exact A.out) (by rw [HF.out]; exact q), HF.out]
        have HV2 : Hid (nV s i = dv s (i) k) := by show nV s i = _; unfold nV; rw [HE2.out, HF.out]; congr 1; omega
        go_wp2_with (first | (go_at_call 68; refine (at_c _ _ _ (by omega)).mono ?_; rintro e w' ⟨rfl, rfl⟩) | (go_at_call 69; refine (dg_c _ _).mono ?_; rintro e w' ⟨rfl, rfl⟩) | (go_at_call 67; refine (lt_c _ _).mono ?_; rintro e w' ⟨rfl, rfl⟩))
        all_goals first
          | (have hx : (-((dv s (i) k : Nat) : Int) == -9223372036854775808) = true := by assumption
             have hbg : nBig s i := by
               have h1 := beq_iff_eq.1 hx
               unfold nBig; rw [HV2.out]; have := H45.out; omega
             rw [numM_big HN.out hbg]
             exact bodyPost_ret (v := .tuple #[.int .i64 0, .int .i64 0, .int .i64 ((i : Nat) : Int), .int .i64 11]) (by simp [results, Tryd.results49, go_sem]) rfl ⟨rfl, rfl⟩)
          | skip
        · have hbf : (-((dv s (i) k : Nat) : Int) == -9223372036854775808) = false := by assumption
          have hsm : isSm (bt s (i + k)) = true := by assumption
          have HBG : ¬ nBig s i := by
            have h1 := beq_eq_false_iff_ne.1 hbf
            unfold nBig; rw [HV2.out]; have := H45.out; omega
          rw [numM_wd HN.out HBG (by rw [HE2.out]; simp [isWd, hsm]), HE2.out]
          exact bodyPost_ret (v := .tuple #[.int .i64 0, .int .i64 0, .int .i64 ((i + k : Nat) : Int), .int .i64 10]) (by simp [results, Tryd.results49, go_sem]) rfl ⟨rfl, rfl⟩
        · have hbf : (-((dv s (i) k : Nat) : Int) == -9223372036854775808) = false := by assumption
          have hsm : isSm (bt s (i + k)) = false := by assumption
          have h1 := beq_eq_false_iff_ne.1 hbf
          have HBG : ¬ nBig s i := by unfold nBig; rw [HV2.out]; have := H45.out; omega
          rw [numM_ok HN.out HBG (by rw [HE2.out]; simp [isWd, hsm, q]), HE2.out, show nN s i = ((dv s (i) k : Nat) : Int) by unfold nN; rw [if_neg H45.out, HV2.out], wr64 ((dv s (i) k : Nat) : Int) (by omega)]
          exact bodyPost_ret (v := .tuple #[.int .i64 ((dv s (i) k : Nat) : Int), .int .i64 ((i + k : Nat) : Int), .int .i64 0, .int .i64 0]) (by simp [results, Tryd.results49, go_sem]) rfl ⟨rfl, rfl⟩

set_option maxRecDepth 100000 in
set_option maxHeartbeats 2000000 in
theorem refNumber_neg (s : ByteArray) (i : Nat) (w : World) (hs : s.size ≤ 20000) (hi : i < s.size) (h45 : bt s i = 45) (hfl : i + 1 < s.size) (hd : isDg (bt s (i + 1)) = true) :
    Calls Tryd.prog 70 #[.string s, .int .i64 i] w fun e w' => e = .returned (refNumVal (numM s i)) ∧ w' = w := by
  have hii : (i : Int) < (s.size : Int) := by omega
  have hf : nF s i = i + 1 := by unfold nF; rw [if_pos h45]
  have q45 : ((((s[i]'hi).toNat : Nat) : Int) == 45) = true := by rw [bt_get hi, h45]; rfl
  by_cases hz : bt s (i + 1) = 48
  · have hb48 : (((bt s (i + 1) : Nat) : Int) == 48) = true := by rw [hz]; rfl
    have HNB : Hid (nBad s i) := by show nBad s i; exact ⟨h45, by rw [hf, hz]; omega⟩
    clear hz h45 hd hf
    go_enter Tryd.func70, Tryd.ntmps70
    go_wp2_with (first | (go_at_call 68; refine (at_c _ _ _ (by omega)).mono ?_; rintro e w' ⟨rfl, rfl⟩) | (go_at_call 69; refine (dg_c _ _).mono ?_; rintro e w' ⟨rfl, rfl⟩) | (go_at_call 67; refine (lt_c _ _).mono ?_; rintro e w' ⟨rfl, rfl⟩))
    rw [numM_bad HNB.out]
    exact bodyPost_ret (v := .tuple #[.int .i64 0, .int .i64 0, .int .i64 ((i : Nat) : Int), .int .i64 10]) (by simp [results, Tryd.results49, go_sem]) rfl ⟨rfl, rfl⟩
  · have hb48 : (((bt s (i + 1) : Nat) : Int) == 48) = false := beq_eq_false_iff_ne.2 (by omega)
    have HN : Hid (¬ nBad s i) := by
      show ¬ nBad s i
      have := isDg_iff.1 hd
      intro h; unfold nBad at h; rw [hf] at h; omega
    have HZ : Hid (¬ bt s (nF s i) = 48) := by show ¬ bt s (nF s i) = 48; rw [hf]; exact hz
    have HF := hid hf
    have HD := hid hd
    have H45 := hid h45
    clear hz h45 hd hf
    go_enter Tryd.func70, Tryd.ntmps70
    go_wp2_with (first | (go_at_call 68; refine (at_c _ _ _ (by omega)).mono ?_; rintro e w' ⟨rfl, rfl⟩) | (go_at_call 69; refine (dg_c _ _).mono ?_; rintro e w' ⟨rfl, rfl⟩) | (go_at_call 67; refine (lt_c _ _).mono ?_; rintro e w' ⟨rfl, rfl⟩))
    go_loopg [8, 10, 11] (s.size - (i + 1)) (fun g t n _ wr => ∃ k : Nat, k ≤ s.size - (i + 1) ∧ s.size - (i + 1) - k ≤ g ∧ t = .int .i64 (((i + 1) + k : Nat)) ∧ n = .int .i64 (-(dv s (i + 1) k : Int)) ∧ wr = w ∧ dv s (i + 1) k ≤ 9223372036854775808 ∧ Aside (∀ j, j < k → isDg (bt s ((i + 1) + j)) = true))
    case atStart => exact ⟨0, Nat.zero_le _, Nat.le_refl _, by go_num, by simp [dv], rfl, by simp [dv], fun j hj => by omega⟩
    case round =>
      obtain ⟨k, hk, hg, rfl, rfl, rfl, hv, A⟩ := hrel
      cases q : isDg (bt s ((i + 1) + k)) with
      | true =>
        have hlt : ((i + 1) + k) < s.size := by
          by_cases hc : ((i + 1) + k) < s.size
          · exact hc
          · rw [bt_out hc] at q; cases q
        have hlti : ((((i + 1) + k) : Nat) : Int) < (s.size : Int) := by omega
        have qv := isDg_iff.1 q
        have hb := hid (bt_get hlt)
        have b1 : (48 : Int) ≤ (((s[((i + 1) + k)]'hlt).toNat : Nat) : Int) := by rw [hb.out]; omega
        have b2 : (((s[((i + 1) + k)]'hlt).toNat : Nat) : Int) ≤ 57 := by rw [hb.out]; omega
        have AA : Hid (∀ j, j ≤ k → isDg (bt s ((i + 1) + j)) = true) := fun j hj => by
          by_cases e : j = k
          · rw [e]; exact q
          · exact A.out j (by omega)
        have HDV : Hid (dv s (i + 1) (k + 1) = dv s (i + 1) k * 10 + (bt s ((i + 1) + k) - 48)) := rfl
        have HOV := hid (over_iff (dv s (i + 1) k : Int) ((((s[((i + 1) + k)]'hlt).toNat : Nat) : Int) - 48) (by omega) (by omega))
        generalize hdk : dv s (i + 1) k = V at *
        go_wp2_with (first | (go_at_call 68; refine (at_c _ _ _ (by omega)).mono ?_; rintro e w' ⟨rfl, rfl⟩) | (go_at_call 69; refine (dg_c _ _).mono ?_; rintro e w' ⟨rfl, rfl⟩) | (go_at_call 67; refine (lt_c _ _).mono ?_; rintro e w' ⟨rfl, rfl⟩))
        · have hov : -(V : Int) < (-9223372036854775808 + ((((s[((i + 1) + k)]'hlt).toNat : Nat) : Int) - 48)).tdiv 10 := by assumption
          have h2 := HOV.out.1 hov
          rw [hb.out] at h2
          rw [numM_big HN.out (big_of (k := k) HZ.out (by rw [HF.out]; exact AA.out) (by rw [HF.out, HDV.out]; omega))]
          exact bodyPost_ret (v := .tuple #[.int .i64 0, .int .i64 0, .int .i64 ((i : Nat) : Int), .int .i64 11]) (by simp [results, Tryd.results49, go_sem]) rfl ⟨rfl, rfl⟩
        · have hov : ¬ -(V : Int) < (-9223372036854775808 + ((((s[((i + 1) + k)]'hlt).toNat : Nat) : Int) - 48)).tdiv 10 := by omega
          have h2 : ¬ 9223372036854775808 < (V : Int) * 10 + ((((s[((i + 1) + k)]'hlt).toNat : Nat) : Int) - 48) := fun h => hov (HOV.out.2 h)
          have e1 : wrap64 (wrap64 (-(V : Int) * 10) - ((((s[((i + 1) + k)]'hlt).toNat : Nat) : Int) - 48)) = -((V * 10 + (bt s ((i + 1) + k) - 48) : Nat) : Int) := by
            have hb2 := hb.out
            rw [wr64 (-(V : Int) * 10) (by omega), wr64 _ (by omega)]
            omega
          have HE1 := hid e1
          have HH2 := hid h2
          clear e1 h2 hov
          go_roundg (s.size - (i + 1) - (k + 1))
          case measure => omega
          case rel => exact ⟨k + 1, by omega, by omega, by go_num, by rw [HE1.out, HDV.out], rfl, by rw [HDV.out]; have := HH2.out; have := hb.out; omega, (show Aside _ from fun j hj => AA.out j (by omega))⟩
      | false =>
        have hk1 : 1 ≤ k := by
          rcases Nat.eq_zero_or_pos k with h0 | h0
          · subst h0; have := HD.out; rw [Nat.add_zero, this] at q; cases q
          · exact h0
        have HE2 : Hid (nE s i = ((i + 1) + k)) := by show nE s i = _; rw [end_at (k := k) HZ.out hk1 (by rw [HF.out]; exact A.out) (by rw [HF.out]; exact q), HF.out]
        have HV2 : Hid (nV s i = dv s (i + 1) k) := by show nV s i = _; unfold nV; rw [HE2.out, HF.out]; congr 1; omega
        go_wp2_with (first | (go_at_call 68; refine (at_c _ _ _ (by omega)).mono ?_; rintro e w' ⟨rfl, rfl⟩) | (go_at_call 69; refine (dg_c _ _).mono ?_; rintro e w' ⟨rfl, rfl⟩) | (go_at_call 67; refine (lt_c _ _).mono ?_; rintro e w' ⟨rfl, rfl⟩))
        · have hsm : isSm (bt s (i + 1 + k)) = true := by assumption
          have HBG : ¬ nBig s i := by unfold nBig; rw [HV2.out]; have := H45.out; omega
          rw [numM_wd HN.out HBG (by rw [HE2.out]; simp [isWd, hsm]), HE2.out]
          exact bodyPost_ret (v := .tuple #[.int .i64 0, .int .i64 0, .int .i64 ((i + 1 + k : Nat) : Int), .int .i64 10]) (by simp [results, Tryd.results49, go_sem]) rfl ⟨rfl, rfl⟩
        · have hsm : isSm (bt s (i + 1 + k)) = false := by assumption
          have HBG : ¬ nBig s i := by unfold nBig; rw [HV2.out]; have := H45.out; omega
          rw [numM_ok HN.out HBG (by rw [HE2.out]; simp [isWd, hsm, q]), HE2.out, show nN s i = -((dv s (i + 1) k : Nat) : Int) by unfold nN; rw [if_pos H45.out, HV2.out]]
          exact bodyPost_ret (v := .tuple #[.int .i64 (-((dv s (i + 1) k : Nat) : Int)), .int .i64 ((i + 1 + k : Nat) : Int), .int .i64 0, .int .i64 0]) (by simp [results, Tryd.results49, go_sem]) rfl ⟨rfl, rfl⟩
end Go.Proofs.YtegeiojcdjnmjaaDoor
namespace Go.Proofs.YtegeiojcdjnmjaaDoor
set_option linter.unusedVariables false
set_option linter.unusedSimpArgs false
open Go.RowKit

/-- A token's cells. -/
def tkC (t : MTok) : List Value := [.int .i64 t.1, .int .i64 t.2.1, .string t.2.2.1, .int .i64 t.2.2.2]
/-- Tokens in memory, below bx. -/
def LeftP (bx : Nat) (w : World) (v : Value) (l : List MTok) : Prop :=
  ∃ ao c, v = .slice ao l.length c ∧ (0 < l.length → ∃ b off, ao = some ⟨b, off, none⟩ ∧ b < bx ∧ ∀ j, j < l.length → ∀ i u, (tkC (l.getD j default))[i]? = some u → w.cell? ⟨b, off + j * 4 + i, none⟩ = some u)
theorem LeftP.keep {bx : Nat} {w w' : World} {v : Value} {l : List MTok} (h : LeftP bx w v l) (hb : Below bx w w') : LeftP bx w' v l := by
  obtain ⟨ao, c, hv, hj⟩ := h
  refine ⟨ao, c, hv, fun h0 => ?_⟩
  obtain ⟨b, off, ha, hlt, hcs⟩ := hj h0
  exact ⟨b, off, ha, hlt, fun j hjl i u hi => (hb.cell (p := ⟨b, off + j * 4 + i, none⟩) hlt).trans (hcs j hjl i u hi)⟩
/-- The parser in its box: all tokens, the first that is not taken yet, the text's end. -/
structure PB (bx : Nat) (en : Int) (T : List MTok) (n : Nat) (w : World) : Prop where
  left : ∃ v, w.cell? ⟨bx, 0, none⟩ = some v ∧ LeftP bx w v T
  c1 : w.cell? ⟨bx, 1, none⟩ = some (.int .i64 n)
  c2 : w.cell? ⟨bx, 2, none⟩ = some (.int .i64 en)
  z1 : w.frozen? ⟨bx, 1, none⟩ = false
  le : n ≤ T.length
  few : T.length ≤ 20000
theorem PB.lt {bx n : Nat} {en : Int} {T : List MTok} {w : World} (h : PB bx en T n w) : bx < w.heap.size := World.block_lt_of_cell? _ _ h.c1
theorem PB.keep {bx n : Nat} {en : Int} {T : List MTok} {w w' : World} (h : PB bx en T n w) (hb : Below (bx + 1) w w') : PB bx en T n w' := by
  obtain ⟨v, h0, hl⟩ := h.left
  exact ⟨⟨v, (hb.cell (p := ⟨bx, 0, none⟩) (Nat.lt_succ_self _)).trans h0, hl.keep (hb.mono (Nat.le_succ _))⟩, (hb.cell (p := ⟨bx, 1, none⟩) (Nat.lt_succ_self _)).trans h.c1, (hb.cell (p := ⟨bx, 2, none⟩) (Nat.lt_succ_self _)).trans h.c2, (hb.frozen (p := ⟨bx, 1, none⟩) (Nat.lt_succ_self _)).trans h.z1, h.le, h.few⟩
theorem PB.take {bx n : Nat} {en : Int} {T : List MTok} {w : World} (h : PB bx en T n w) (hn : n < T.length) : PB bx en T (n + 1) (w.setCell ⟨bx, 1, none⟩ (.int .i64 ((n : Int) + 1))) := by
  obtain ⟨v, h0, hl⟩ := h.left
  refine ⟨⟨v, (World.cell?_setCell_other _ _ _ _ (by simp)).trans h0, hl.keep ((Below.refl _ _).setCell (p := ⟨bx, 1, none⟩) (Nat.le_refl _) _)⟩, ?_, (World.cell?_setCell_other _ _ _ _ (by simp)).trans h.c2, ?_, hn, h.few⟩
  · have := World.cell?_setCell_same w ⟨bx, 1, none⟩ (.int .i64 ((n : Int) + 1)) h.c1
    rw [this]; simp
  · exact (World.frozen?_setCell ..).trans h.z1
/-- The next token, or one of no kind at the text's end. -/
def lookT (en : Int) (T : List MTok) (n : Nat) : MTok := (T.drop n).headD (0, en, ByteArray.empty, 0)
abbrev tokV (t : MTok) : Value := .agg #[.int .i64 t.1, .int .i64 t.2.1, .string t.2.2.1, .int .i64 t.2.2.2]
theorem look_in {en : Int} {T : List MTok} {n : Nat} (h : n < T.length) : lookT en T n = T.getD n default := by
  unfold lookT
  rw [List.drop_eq_getElem_cons h]
  simp [List.getD, h]
theorem look_out {en : Int} {T : List MTok} {n : Nat} (h : ¬ n < T.length) : lookT en T n = (0, en, ByteArray.empty, 0) := by
  unfold lookT
  rw [List.drop_eq_nil_of_le (by omega)]
  rfl
theorem below_drewH {B : Nat} {w w' : World} (h : Below B w w') (k : Nat) : Below B w (w'.drewN k) := ⟨h.os, h.tape, h.output, h.size, h.block⟩
theorem below_four {B g : Nat} {w w' : World} (h : Below B w w') (hg : B ≤ g) (a0 a1 a2 a3 : Value) : Below B w ((((w'.setCell ⟨g, 0, none⟩ a0).setCell ⟨g, 1, none⟩ a1).setCell ⟨g, 2, none⟩ a2).setCell ⟨g, 3, none⟩ a3) :=
  (((h.setCell (p := ⟨g, 0, none⟩) hg _).setCell (p := ⟨g, 1, none⟩) hg _).setCell (p := ⟨g, 2, none⟩) hg _).setCell (p := ⟨g, 3, none⟩) hg _
set_option maxHeartbeats 2000000 in
set_option maxRecDepth 100000 in
theorem look_is (bx n : Nat) (en : Int) (T : List MTok) (w : World) (h : PB bx en T n w) :
    Calls Tryd.prog 41 #[.pointer (some ⟨bx, 0, none⟩)] w fun e w' => e = .returned (tokV (lookT en T n)) ∧ Below w.heap.size w w' := by
  obtain ⟨⟨v, c0, ao, c, rfl, hj⟩, c1, c2, z1, hle, hfew⟩ := h
  have hlt : bx < w.heap.size := World.block_lt_of_cell? _ _ c1
  have B1 : ∀ o, Below w.heap.size w (w.alloc o) := fun o => (Below.refl _ _).alloc (Nat.le_refl _) _
  by_cases hn : n < T.length
  · obtain ⟨b, off, rfl, hbb, hcs⟩ := hj (by omega)
    rw [look_in hn]
    have d0 : w.cell? ⟨b, off + n * 4, none⟩ = some (.int .i64 (T.getD n default).1) := hcs n hn 0 _ rfl
    have d1 : w.cell? ⟨b, off + n * 4 + 1, none⟩ = some (.int .i64 (T.getD n default).2.1) := hcs n hn 1 _ rfl
    have d2 : w.cell? ⟨b, off + n * 4 + 2, none⟩ = some (.string (T.getD n default).2.2.1) := hcs n hn 2 _ rfl
    have d3 : w.cell? ⟨b, off + n * 4 + 3, none⟩ = some (.int .i64 (T.getD n default).2.2.2) := hcs n hn 3 _ rfl
    generalize T.getD n default = t at d0 d1 d2 d3 ⊢
    have hn2 : (n : Int) < (T.length : Int) := by omega
    have hbw : b < w.heap.size := by omega
    clear hcs hj
    go_enter Tryd.func41, Tryd.ntmps41
    go_wp2_with fail
    go_quiet (fail)
    go_wp2_with fail
    go_region
    go_wp2_with fail
    refine bodyPost_ret (v := tokV t) (by simp [results, Tryd.results41, go_sem]) rfl ⟨rfl, ?_⟩
    exact below_four (below_drewH (B1 _) _) (Nat.le_refl _) _ _ _ _
  · rw [look_out hn]
    have hn2 : ¬ (n : Int) < (T.length : Int) := by omega
    clear hj
    go_enter Tryd.func41, Tryd.ntmps41
    go_wp2_with fail
    go_quiet (fail)
    go_wp2_with fail
    refine bodyPost_ret (v := tokV (0, en, ByteArray.empty, 0)) (by simp [results, Tryd.results41, go_sem]; rfl) rfl ⟨rfl, ?_⟩
    exact below_four (below_drewH (B1 _) _) (Nat.le_refl _) _ _ _ _
end Go.Proofs.YtegeiojcdjnmjaaDoor
