/-
  Walk of the reference's number.
  What a key is: the plain part; walks of the code's isKey and of the reference's IsWord and IsKey.
-/
import Derived.Test.YtkpomcimaofkkaaGreatDoorU11
import Derived.Test.YtkpomcimaofkkaaGreatDoorU13
import Derived.Test.YtkpomcimaofkkaaGreatDoorU2
import Derived.Deep.RegionHeld3
import Derived.Lib.ConvBytes
namespace Go.Proofs.YtkpomcimaofkkaaGreatDoor
set_option linter.unusedVariables false
set_option linter.unusedSimpArgs false
open Go.RowKit

/-- What the reference's number answers. -/
def refNumVal : Except (Nat × Nat) (Int × Nat) → Value
  | .ok (n, k) => .tuple #[.int .i64 n, .int .i64 k, .int .i64 0, .int .i64 0]
  | .error (a, y) => .tuple #[.int .i64 0, .int .i64 0, .int .i64 a, .int .i64 y]

theorem tdiv_lo (d : Int) (_h0 : 0 ≤ d) (h9 : d ≤ 9) : (-9223372036854775808 + d).tdiv 10 = -((9223372036854775808 - d) / 10) := by
  rw [show (-9223372036854775808 + d : Int) = -(9223372036854775808 - d) by omega, Int.neg_tdiv, Int.tdiv_eq_ediv_of_nonneg (by omega)]

theorem over_iff (v d : Int) (h0 : 0 ≤ d) (h9 : d ≤ 9) : -v < (-9223372036854775808 + d).tdiv 10 ↔ 9223372036854775808 < v * 10 + d := by
  rw [tdiv_lo d h0 h9]; omega

theorem wr64 (x : Int) (h : -9223372036854775808 ≤ x ∧ x ≤ 9223372036854775807) : wrap64 x = x := by
  unfold wrap64; omega

theorem at_c (s : ByteArray) (i : Nat) (w : World) (hs : s.size ≤ 9223372036854775807) : Calls Tryz.prog 105 #[.string s, .int .i64 i] w fun e w' => e = .returned (.int .u8 (bt s i : Nat)) ∧ w = w' := (refAt_any s i w hs).mono fun _ _ h => ⟨h.1, h.2.symm⟩
theorem dg_c (c : Nat) (w : World) : Calls Tryz.prog 106 #[.int .u8 c] w fun e w' => e = .returned (.bool (isDg c)) ∧ w = w' := (refDigit_any c w).mono fun _ _ h => ⟨h.1, h.2.symm⟩
theorem lt_c (c : Nat) (w : World) : Calls Tryz.prog 104 #[.int .u8 c] w fun e w' => e = .returned (.bool (isSm c)) ∧ w = w' := (refLetter_any c w).mono fun _ _ h => ⟨h.1, h.2.symm⟩

/-- A run of k + 1 digits lies ahead of a number's end. -/
theorem digits_lt {s : ByteArray} {i k : Nat} (hz : ¬ bt s (nF s i) = 48) (h : ∀ j, j ≤ k → isDg (bt s (nF s i + j)) = true) : nF s i + k < nE s i := by
  unfold nE
  rw [if_neg hz]
  have hr := dEnd_is s (nF s i + 1)
  rcases Nat.lt_or_ge (nF s i + k) (dEnd s (nF s i + 1)) with h1 | h1
  · exact h1
  · have := h (dEnd s (nF s i + 1) - nF s i) (by omega)
    rw [show nF s i + (dEnd s (nF s i + 1) - nF s i) = dEnd s (nF s i + 1) by have := hr.1; omega, hr.2.2] at this
    cases this

theorem big_of {s : ByteArray} {i k : Nat} (hz : ¬ bt s (nF s i) = 48) (h : ∀ j, j ≤ k → isDg (bt s (nF s i + j)) = true) (hv : 9223372036854775808 < dv s (nF s i) (k + 1)) : nBig s i := by
  have h1 := digits_lt hz h
  have hm := dv_mono s (nF s i) (nE s i - nF s i - (k + 1)) (k + 1)
  have : nV s i = dv s (nF s i) (k + 1 + (nE s i - nF s i - (k + 1))) := by unfold nV; congr 1; omega
  unfold nBig
  omega

theorem end_at {s : ByteArray} {i k : Nat} (hz : ¬ bt s (nF s i) = 48) (hk : 1 ≤ k) (h : ∀ j, j < k → isDg (bt s (nF s i + j)) = true) (hq : isDg (bt s (nF s i + k)) = false) : nE s i = nF s i + k := by
  unfold nE
  rw [if_neg hz]
  refine (dEnd_is s (nF s i + 1)).uniq ⟨by omega, fun j h1 h2 => ?_, hq⟩
  have := h (j - nF s i) (by omega)
  rwa [show nF s i + (j - nF s i) = j by omega] at this

set_option maxRecDepth 100000 in
set_option maxHeartbeats 2000000 in
theorem refNumber_pos (s : ByteArray) (i : Nat) (w : World) (hs : s.size ≤ 20000) (hi : i < s.size) (h45 : ¬ bt s i = 45) (hd : isDg (bt s i) = true) :
    Calls Tryz.prog 107 #[.string s, .int .i64 i] w fun e w' => e = .returned (refNumVal (numM s i)) ∧ w' = w := by
  have hii : (i : Int) < (s.size : Int) := by omega
  have hf : nF s i = i := by unfold nF; rw [if_neg h45]
  have q45 : ((((s[i]'hi).toNat : Nat) : Int) == 45) = false := beq_eq_false_iff_ne.2 (by rw [bt_get hi]; omega)
  have HN := hid (show ¬ nBad s i from fun h => h45 h.1)
  by_cases hz : bt s (i) = 48
  · have hb48 : (((bt s i : Nat) : Int) == 48) = true := by rw [hz]; rfl
    have HE : Hid (nE s i = i + 1) := by show nE s i = _; unfold nE; rw [hf, if_pos hz]
    have HV : Hid (nV s i = 0) := by show nV s i = 0; unfold nV; rw [HE.out, hf, show i + 1 - i = 1 by omega]; simp [dv, hz]
    have HB : Hid (¬ nBig s i) := by show ¬ nBig s i; unfold nBig; rw [HV.out]; omega
    have HNN : Hid (nN s i = 0) := by show nN s i = 0; unfold nN; rw [if_neg h45, HV.out]; rfl
    clear hz h45 hd hf
    cases q1 : isDg (bt s (i + 1)) with
    | true =>
      go_enter Tryz.func107, Tryz.ntmps107
      go_wp2_with (first | (go_at_call 105; refine (at_c _ _ _ (by omega)).mono ?_; rintro e w' ⟨rfl, rfl⟩) | (go_at_call 106; refine (dg_c _ _).mono ?_; rintro e w' ⟨rfl, rfl⟩) | (go_at_call 104; refine (lt_c _ _).mono ?_; rintro e w' ⟨rfl, rfl⟩))
      rw [numM_wd HN.out HB.out (by rw [HE.out]; simp [isWd, q1]), HE.out]
      exact bodyPost_ret (v := .tuple #[.int .i64 0, .int .i64 0, .int .i64 ((i + 1 : Nat) : Int), .int .i64 10]) (by simp [results, Tryz.results32, go_sem]) rfl ⟨rfl, rfl⟩
    | false =>
      cases q2 : isSm (bt s (i + 1)) with
      | true =>
        go_enter Tryz.func107, Tryz.ntmps107
        go_wp2_with (first | (go_at_call 105; refine (at_c _ _ _ (by omega)).mono ?_; rintro e w' ⟨rfl, rfl⟩) | (go_at_call 106; refine (dg_c _ _).mono ?_; rintro e w' ⟨rfl, rfl⟩) | (go_at_call 104; refine (lt_c _ _).mono ?_; rintro e w' ⟨rfl, rfl⟩))
        rw [numM_wd HN.out HB.out (by rw [HE.out]; simp [isWd, q2]), HE.out]
        exact bodyPost_ret (v := .tuple #[.int .i64 0, .int .i64 0, .int .i64 ((i + 1 : Nat) : Int), .int .i64 10]) (by simp [results, Tryz.results32, go_sem]) rfl ⟨rfl, rfl⟩
      | false =>
        go_enter Tryz.func107, Tryz.ntmps107
        go_wp2_with (first | (go_at_call 105; refine (at_c _ _ _ (by omega)).mono ?_; rintro e w' ⟨rfl, rfl⟩) | (go_at_call 106; refine (dg_c _ _).mono ?_; rintro e w' ⟨rfl, rfl⟩) | (go_at_call 104; refine (lt_c _ _).mono ?_; rintro e w' ⟨rfl, rfl⟩))
        rw [numM_ok HN.out HB.out (by rw [HE.out]; simp [isWd, q1, q2]), HE.out, HNN.out]
        exact bodyPost_ret (v := .tuple #[.int .i64 0, .int .i64 ((i + 1 : Nat) : Int), .int .i64 0, .int .i64 0]) (by simp [results, Tryz.results32, go_sem]) rfl ⟨rfl, rfl⟩
  · have hb48 : (((bt s (i) : Nat) : Int) == 48) = false := beq_eq_false_iff_ne.2 (by omega)
    have HZ : Hid (¬ bt s (nF s i) = 48) := by show ¬ bt s (nF s i) = 48; rw [hf]; exact hz
    have HF := hid hf
    have HD := hid hd
    have H45 := hid h45
    clear hz h45 hd hf
    go_enter Tryz.func107, Tryz.ntmps107
    go_wp2_with (first | (go_at_call 105; refine (at_c _ _ _ (by omega)).mono ?_; rintro e w' ⟨rfl, rfl⟩) | (go_at_call 106; refine (dg_c _ _).mono ?_; rintro e w' ⟨rfl, rfl⟩) | (go_at_call 104; refine (lt_c _ _).mono ?_; rintro e w' ⟨rfl, rfl⟩))
    go_loopg [8, 10, 11] (s.size - (i)) (fun g t n _ wr => ∃ k : Nat, k ≤ s.size - (i) ∧ s.size - (i) - k ≤ g ∧ t = .int .i64 (((i) + k : Nat)) ∧ n = .int .i64 (-(dv s (i) k : Int)) ∧ wr = w ∧ dv s (i) k ≤ 9223372036854775808 ∧ Aside (∀ j, j < k → isDg (bt s ((i) + j)) = true))
    case atStart => exact ⟨0, Nat.zero_le _, Nat.le_refl _, by go_num, by simp [dv], rfl, by simp [dv], fun j hj => by omega⟩
    case round =>
      obtain ⟨k, hk, hg, rfl, rfl, rfl, hv, A⟩ := hrel
      cases q : isDg (bt s ((i) + k)) with
      | true =>
        have hlt : ((i) + k) < s.size := by
          by_cases hc : ((i) + k) < s.size
          · exact hc
          · rw [bt_out hc] at q; cases q
        have hlti : ((((i) + k) : Nat) : Int) < (s.size : Int) := by omega
        have qv := isDg_iff.1 q
        have hb := hid (bt_get hlt)
        have b1 : (48 : Int) ≤ (((s[((i) + k)]'hlt).toNat : Nat) : Int) := by rw [hb.out]; omega
        have b2 : (((s[((i) + k)]'hlt).toNat : Nat) : Int) ≤ 57 := by rw [hb.out]; omega
        have AA : Hid (∀ j, j ≤ k → isDg (bt s ((i) + j)) = true) := fun j hj => by
          by_cases e : j = k
          · rw [e]; exact q
          · exact A.out j (by omega)
        have HDV : Hid (dv s (i) (k + 1) = dv s (i) k * 10 + (bt s ((i) + k) - 48)) := rfl
        have HOV := hid (over_iff (dv s (i) k : Int) ((((s[((i) + k)]'hlt).toNat : Nat) : Int) - 48) (by omega) (by omega))
        generalize hdk : dv s (i) k = V at *
        go_wp2_with (first | (go_at_call 105; refine (at_c _ _ _ (by omega)).mono ?_; rintro e w' ⟨rfl, rfl⟩) | (go_at_call 106; refine (dg_c _ _).mono ?_; rintro e w' ⟨rfl, rfl⟩) | (go_at_call 104; refine (lt_c _ _).mono ?_; rintro e w' ⟨rfl, rfl⟩))
        · have hov : -(V : Int) < (-9223372036854775808 + ((((s[((i) + k)]'hlt).toNat : Nat) : Int) - 48)).tdiv 10 := by assumption
          have h2 := HOV.out.1 hov
          rw [hb.out] at h2
          rw [numM_big HN.out (big_of (k := k) HZ.out (by rw [HF.out]; exact AA.out) (by rw [HF.out, HDV.out]; omega))]
          exact bodyPost_ret (v := .tuple #[.int .i64 0, .int .i64 0, .int .i64 ((i : Nat) : Int), .int .i64 11]) (by simp [results, Tryz.results32, go_sem]) rfl ⟨rfl, rfl⟩
        · have hov : ¬ -(V : Int) < (-9223372036854775808 + ((((s[((i) + k)]'hlt).toNat : Nat) : Int) - 48)).tdiv 10 := by omega
          have h2 : ¬ 9223372036854775808 < (V : Int) * 10 + ((((s[((i) + k)]'hlt).toNat : Nat) : Int) - 48) := fun h => hov (HOV.out.2 h)
          have e1 : wrap64 (wrap64 (-(V : Int) * 10) - ((((s[((i) + k)]'hlt).toNat : Nat) : Int) - 48)) = -((V * 10 + (bt s ((i) + k) - 48) : Nat) : Int) := by
            have hb2 := hb.out
            rw [wr64 (-(V : Int) * 10) (by omega), wr64 _ (by omega)]
            omega
          have HE1 := hid e1
          have HH2 := hid h2
          clear e1 h2 hov
          go_roundg (s.size - (i) - (k + 1))
          case measure => omega
          case rel => exact ⟨k + 1, by omega, by omega, by go_num, by rw [HE1.out, HDV.out], rfl, by rw [HDV.out]; have := HH2.out; have := hb.out; omega, (show Aside _ from fun j hj => AA.out j (by omega))⟩
      | false =>
        have hk1 : 1 ≤ k := by
          rcases Nat.eq_zero_or_pos k with h0 | h0
          · subst h0; have := HD.out; rw [Nat.add_zero, this] at q; cases q
          · exact h0
        have HE2 : Hid (nE s i = ((i) + k)) := by show nE s i = _; rw [end_at (k := k) HZ.out hk1 (by rw [HF.out]; exact A.out) (by rw [HF.out]; exact q), HF.out]
        have HV2 : Hid (nV s i = dv s (i) k) := by show nV s i = _; unfold nV; rw [HE2.out, HF.out]; congr 1; omega
        go_wp2_with (first | (go_at_call 105; refine (at_c _ _ _ (by omega)).mono ?_; rintro e w' ⟨rfl, rfl⟩) | (go_at_call 106; refine (dg_c _ _).mono ?_; rintro e w' ⟨rfl, rfl⟩) | (go_at_call 104; refine (lt_c _ _).mono ?_; rintro e w' ⟨rfl, rfl⟩))
        all_goals first
          | (have hx : (-((dv s (i) k : Nat) : Int) == -9223372036854775808) = true := by assumption
             have hbg : nBig s i := by
               have h1 := beq_iff_eq.1 hx
               unfold nBig; rw [HV2.out]; have := H45.out; omega
             rw [numM_big HN.out hbg]
             exact bodyPost_ret (v := .tuple #[.int .i64 0, .int .i64 0, .int .i64 ((i : Nat) : Int), .int .i64 11]) (by simp [results, Tryz.results32, go_sem]) rfl ⟨rfl, rfl⟩)
          | skip
        · have hbf : (-((dv s (i) k : Nat) : Int) == -9223372036854775808) = false := by assumption
          have hsm : isSm (bt s (i + k)) = true := by assumption
          have HBG : ¬ nBig s i := by
            have h1 := beq_eq_false_iff_ne.1 hbf
            unfold nBig; rw [HV2.out]; have := H45.out; omega
          rw [numM_wd HN.out HBG (by rw [HE2.out]; simp [isWd, hsm]), HE2.out]
          exact bodyPost_ret (v := .tuple #[.int .i64 0, .int .i64 0, .int .i64 ((i + k : Nat) : Int), .int .i64 10]) (by simp [results, Tryz.results32, go_sem]) rfl ⟨rfl, rfl⟩
        · have hbf : (-((dv s (i) k : Nat) : Int) == -9223372036854775808) = false := by assumption
          have hsm : isSm (bt s (i + k)) = false := by assumption
          have h1 := beq_eq_false_iff_ne.1 hbf
          have HBG : ¬ nBig s i := by unfold nBig; rw [HV2.out]; have := H45.out; omega
          rw [numM_ok HN.out HBG (by rw [HE2.out]; simp [isWd, hsm, q]), HE2.out, show nN s i = ((dv s (i) k : Nat) : Int) by unfold nN; rw [if_neg H45.out, HV2.out], wr64 ((dv s (i) k : Nat) : Int) (by omega)]
          exact bodyPost_ret (v := .tuple #[.int .i64 ((dv s (i) k : Nat) : Int), .int .i64 ((i + k : Nat) : Int), .int .i64 0, .int .i64 0]) (by simp [results, Tryz.results32, go_sem]) rfl ⟨rfl, rfl⟩

set_option maxRecDepth 100000 in
set_option maxHeartbeats 2000000 in
theorem refNumber_neg (s : ByteArray) (i : Nat) (w : World) (hs : s.size ≤ 20000) (hi : i < s.size) (h45 : bt s i = 45) (hfl : i + 1 < s.size) (hd : isDg (bt s (i + 1)) = true) :
    Calls Tryz.prog 107 #[.string s, .int .i64 i] w fun e w' => e = .returned (refNumVal (numM s i)) ∧ w' = w := by
  have hii : (i : Int) < (s.size : Int) := by omega
  have hf : nF s i = i + 1 := by unfold nF; rw [if_pos h45]
  have q45 : ((((s[i]'hi).toNat : Nat) : Int) == 45) = true := by rw [bt_get hi, h45]; rfl
  by_cases hz : bt s (i + 1) = 48
  · have hb48 : (((bt s (i + 1) : Nat) : Int) == 48) = true := by rw [hz]; rfl
    have HNB : Hid (nBad s i) := by show nBad s i; exact ⟨h45, by rw [hf, hz]; omega⟩
    clear hz h45 hd hf
    go_enter Tryz.func107, Tryz.ntmps107
    go_wp2_with (first | (go_at_call 105; refine (at_c _ _ _ (by omega)).mono ?_; rintro e w' ⟨rfl, rfl⟩) | (go_at_call 106; refine (dg_c _ _).mono ?_; rintro e w' ⟨rfl, rfl⟩) | (go_at_call 104; refine (lt_c _ _).mono ?_; rintro e w' ⟨rfl, rfl⟩))
    rw [numM_bad HNB.out]
    exact bodyPost_ret (v := .tuple #[.int .i64 0, .int .i64 0, .int .i64 ((i : Nat) : Int), .int .i64 10]) (by simp [results, Tryz.results32, go_sem]) rfl ⟨rfl, rfl⟩
  · have hb48 : (((bt s (i + 1) : Nat) : Int) == 48) = false := beq_eq_false_iff_ne.2 (by omega)
    have HN : Hid (¬ nBad s i) := by
      show ¬ nBad s i
      have := isDg_iff.1 hd
      intro h; unfold nBad at h; rw [hf] at h; omega
    have HZ : Hid (¬ bt s (nF s i) = 48) := by show ¬ bt s (nF s i) = 48; rw [hf]; exact hz
    have HF := hid hf
    have HD := hid hd
    have H45 := hid h45
    clear hz h45 hd hf
    go_enter Tryz.func107, Tryz.ntmps107
    go_wp2_with (first | (go_at_call 105; refine (at_c _ _ _ (by omega)).mono ?_; rintro e w' ⟨rfl, rfl⟩) | (go_at_call 106; refine (dg_c _ _).mono ?_; rintro e w' ⟨rfl, rfl⟩) | (go_at_call 104; refine (lt_c _ _).mono ?_; rintro e w' ⟨rfl, rfl⟩))
    go_loopg [8, 10, 11] (s.size - (i + 1)) (fun g t n _ wr => ∃ k : Nat, k ≤ s.size - (i + 1) ∧ s.size - (i + 1) - k ≤ g ∧ t = .int .i64 (((i + 1) + k : Nat)) ∧ n = .int .i64 (-(dv s (i + 1) k : Int)) ∧ wr = w ∧ dv s (i + 1) k ≤ 9223372036854775808 ∧ Aside (∀ j, j < k → isDg (bt s ((i + 1) + j)) = true))
    case atStart => exact ⟨0, Nat.zero_le _, Nat.le_refl _, by go_num, by simp [dv], rfl, by simp [dv], fun j hj => by omega⟩
    case round =>
      obtain ⟨k, hk, hg, rfl, rfl, rfl, hv, A⟩ := hrel
      cases q : isDg (bt s ((i + 1) + k)) with
      | true =>
        have hlt : ((i + 1) + k) < s.size := by
          by_cases hc : ((i + 1) + k) < s.size
          · exact hc
          · rw [bt_out hc] at q; cases q
        have hlti : ((((i + 1) + k) : Nat) : Int) < (s.size : Int) := by omega
        have qv := isDg_iff.1 q
        have hb := hid (bt_get hlt)
        have b1 : (48 : Int) ≤ (((s[((i + 1) + k)]'hlt).toNat : Nat) : Int) := by rw [hb.out]; omega
        have b2 : (((s[((i + 1) + k)]'hlt).toNat : Nat) : Int) ≤ 57 := by rw [hb.out]; omega
        have AA : Hid (∀ j, j ≤ k → isDg (bt s ((i + 1) + j)) = true) := fun j hj => by
          by_cases e : j = k
          · rw [e]; exact q
          · exact A.out j (by omega)
        have HDV : Hid (dv s (i + 1) (k + 1) = dv s (i + 1) k * 10 + (bt s ((i + 1) + k) - 48)) := rfl
        have HOV := hid (over_iff (dv s (i + 1) k : Int) ((((s[((i + 1) + k)]'hlt).toNat : Nat) : Int) - 48) (by omega) (by omega))
        generalize hdk : dv s (i + 1) k = V at *
        go_wp2_with (first | (go_at_call 105; refine (at_c _ _ _ (by omega)).mono ?_; rintro e w' ⟨rfl, rfl⟩) | (go_at_call 106; refine (dg_c _ _).mono ?_; rintro e w' ⟨rfl, rfl⟩) | (go_at_call 104; refine (lt_c _ _).mono ?_; rintro e w' ⟨rfl, rfl⟩))
        · have hov : -(V : Int) < (-9223372036854775808 + ((((s[((i + 1) + k)]'hlt).toNat : Nat) : Int) - 48)).tdiv 10 := by assumption
          have h2 := HOV.out.1 hov
          rw [hb.out] at h2
          rw [numM_big HN.out (big_of (k := k) HZ.out (by rw [HF.out]; exact AA.out) (by rw [HF.out, HDV.out]; omega))]
          exact bodyPost_ret (v := .tuple #[.int .i64 0, .int .i64 0, .int .i64 ((i : Nat) : Int), .int .i64 11]) (by simp [results, Tryz.results32, go_sem]) rfl ⟨rfl, rfl⟩
        · have hov : ¬ -(V : Int) < (-9223372036854775808 + ((((s[((i + 1) + k)]'hlt).toNat : Nat) : Int) - 48)).tdiv 10 := by omega
          have h2 : ¬ 9223372036854775808 < (V : Int) * 10 + ((((s[((i + 1) + k)]'hlt).toNat : Nat) : Int) - 48) := fun h => hov (HOV.out.2 h)
          have e1 : wrap64 (wrap64 (-(V : Int) * 10) - ((((s[((i + 1) + k)]'hlt).toNat : Nat) : Int) - 48)) = -((V * 10 + (bt s ((i + 1) + k) - 48) : Nat) : Int) := by
            have hb2 := hb.out
            rw [wr64 (-(V : Int) * 10) (by omega), wr64 _ (by omega)]
            omega
          have HE1 := hid e1
          have HH2 := hid h2
          clear e1 h2 hov
          go_roundg (s.size - (i + 1) - (k + 1))
          case measure => omega
          case rel => exact ⟨k + 1, by omega, by omega, by go_num, by rw [HE1.out, HDV.out], rfl, by rw [HDV.out]; have := HH2.out; have := hb.out; omega, (show Aside _ from fun j hj => AA.out j (by omega))⟩
      | false =>
        have hk1 : 1 ≤ k := by
          rcases Nat.eq_zero_or_pos k with h0 | h0
          · subst h0; have := HD.out; rw [Nat.add_zero, this] at q; cases q
          · exact h0
        have HE2 : Hid (nE s i = ((i + 1) + k)) := by show nE s i = _; rw [end_at (k := k) HZ.out hk1 (by rw [HF.out]; exact A.out) (by rw [HF.out]; exact q), HF.out]
        have HV2 : Hid (nV s i = dv s (i + 1) k) := by show nV s i = _; unfold nV; rw [HE2.out, HF.out]; congr 1; omega
        go_wp2_with (first | (go_at_call 105; refine (at_c _ _ _ (by omega)).mono ?_; rintro e w' ⟨rfl, rfl⟩) | (go_at_call 106; refine (dg_c _ _).mono ?_; rintro e w' ⟨rfl, rfl⟩) | (go_at_call 104; refine (lt_c _ _).mono ?_; rintro e w' ⟨rfl, rfl⟩))
        · have hsm : isSm (bt s (i + 1 + k)) = true := by assumption
          have HBG : ¬ nBig s i := by unfold nBig; rw [HV2.out]; have := H45.out; omega
          rw [numM_wd HN.out HBG (by rw [HE2.out]; simp [isWd, hsm]), HE2.out]
          exact bodyPost_ret (v := .tuple #[.int .i64 0, .int .i64 0, .int .i64 ((i + 1 + k : Nat) : Int), .int .i64 10]) (by simp [results, Tryz.results32, go_sem]) rfl ⟨rfl, rfl⟩
        · have hsm : isSm (bt s (i + 1 + k)) = false := by assumption
          have HBG : ¬ nBig s i := by unfold nBig; rw [HV2.out]; have := H45.out; omega
          rw [numM_ok HN.out HBG (by rw [HE2.out]; simp [isWd, hsm, q]), HE2.out, show nN s i = -((dv s (i + 1) k : Nat) : Int) by unfold nN; rw [if_pos H45.out, HV2.out]]
          exact bodyPost_ret (v := .tuple #[.int .i64 (-((dv s (i + 1) k : Nat) : Int)), .int .i64 ((i + 1 + k : Nat) : Int), .int .i64 0, .int .i64 0]) (by simp [results, Tryz.results32, go_sem]) rfl ⟨rfl, rfl⟩
end Go.Proofs.YtkpomcimaofkkaaGreatDoor
namespace Go.Proofs.YtkpomcimaofkkaaGreatDoor
set_option linter.unusedVariables false
set_option linter.unusedSimpArgs false
open Go.RowKit

theorem ret_b {b c : Bool} (h : c = b) : Ending.returned (.bool b) = .returned (.bool c) := by rw [h]

/-- A word, by its bytes. -/
def isWordL : List UInt8 → Bool
  | [] => false
  | b :: r => isSm b.toNat && r.all (fun x => isWd x.toNat)
def isWordB (s : ByteArray) : Bool := isWordL s.data.toList
def keyOk (s : ByteArray) : Bool := isWordB s && decide (s.size ≤ 6)

theorem all_bl (s : ByteArray) : s.data.toList = bl s 0 s.size := by
  have := extract_bl s 0 s.size (Nat.le_refl _)
  rwa [extract_all] at this

theorem word_form {s : ByteArray} (h : isWordB s = true) : ∃ b r, s.data.toList = b :: r ∧ isSm b.toNat = true ∧ ∀ x ∈ r, isWd x.toNat = true := by
  unfold isWordB at h
  cases hl : s.data.toList with
  | nil => rw [hl] at h; cases h
  | cons b r =>
    rw [hl] at h
    simp only [isWordL, Bool.and_eq_true, List.all_eq_true] at h
    exact ⟨b, r, rfl, h.1, h.2⟩
theorem word_of {s : ByteArray} {b : UInt8} {r : List UInt8} (h : s.data.toList = b :: r) (hb : isSm b.toNat = true) (hr : ∀ x ∈ r, isWd x.toNat = true) : isWordB s = true := by
  unfold isWordB; rw [h]
  simp only [isWordL, Bool.and_eq_true, List.all_eq_true]
  exact ⟨hb, hr⟩

theorem scan_word {s : ByteArray} (h : isWordB s = true) (hs : s.size ≤ 20000) : scanM s = .ok [((1 : Int), (0 : Int), s, (0 : Int))] := by
  obtain ⟨b, r, hl, hb, hr⟩ := word_form h
  have ht : TokOk ((1 : Int), (0 : Int), s, (0 : Int)) := .inl ⟨rfl, rfl, b, r, hl, hb, hr⟩
  obtain ⟨hne, h32, htok⟩ := tok_again (s := s) (i := 0) (r := []) ht (by rw [List.drop_zero]; simp) (.inr (.inr (.inl rfl)))
  have hsz : (tx ((1 : Int), (0 : Int), s, (0 : Int))).length = s.size := by show s.data.toList.length = _; simp
  have hpos : 0 < s.size := by rw [← hsz]; exact List.length_pos_iff.2 hne
  rw [hsz, Nat.zero_add] at htok
  rw [scanM_left hs, left_tok [] hpos h32 htok, left_end _ (by omega)]
  rfl

/-- A key, by what its text is scanned as. -/
theorem key_scanned {s : ByteArray} {l : List MTok} (h6 : s.size ≤ 6) (h : scanM s = .ok l) : keyOk s = (decide (l.length = 1) && ((l.getD 0 default).1 == 1 && ((l.getD 0 default).2.2.1.toList == s.toList))) := by
  have e6 : decide (s.size ≤ 6) = true := by simpa using h6
  unfold keyOk
  rw [e6, Bool.and_true]
  cases hw : isWordB s with
  | true =>
    have := scan_word hw (by omega)
    rw [h] at this
    cases this
    simp
  | false =>
    symm
    rw [Bool.eq_false_iff]
    intro hc
    simp only [Bool.and_eq_true, decide_eq_true_eq, beq_iff_eq] at hc
    obtain ⟨h1, h2, h3⟩ := hc
    match l, h1 with
    | [t], _ =>
      have hok := scanM_form h t (by simp)
      simp only [List.getD_cons_zero] at h2 h3
      rcases hok with ⟨_, _, b, r, e, hb, hr⟩ | ⟨e, _⟩ | ⟨e, _⟩ | ⟨e, _⟩
      · have hs : s.data.toList = b :: r := by
          rw [ByteArray.toList_eq, ByteArray.toList_eq] at h3
          rw [← h3]; exact e
        rw [word_of hs hb hr] at hw
        cases hw
      · omega
      · omega
      · omega
theorem key_bad {s : ByteArray} {q : Nat × Nat} (h6 : s.size ≤ 6) (h : scanM s = .error q) : keyOk s = false := by
  unfold keyOk
  cases hw : isWordB s with
  | false => rfl
  | true => rw [scan_word hw (by omega)] at h; cases h
theorem key_long {s : ByteArray} (h6 : 6 < s.size) : keyOk s = false := by
  unfold keyOk
  have : decide (s.size ≤ 6) = false := by simpa using h6
  rw [this, Bool.and_false]

theorem ToksIn.later {S T : Nat → Prop} {w w' : World} {v : Value} {l : List MTok} (h : ToksIn S w v l) (hb : Below w.heap.size w w') (hT : ∀ b, b < w.heap.size → S b → T b) : ToksIn T w' v l :=
  RowsIn.keep h (by omega) (fun _ _ hr => hr) (keeps_below hb) hT

theorem bl_zero {s : ByteArray} (h : 0 < s.size) : ∃ n, s.size = n + 1 ∧ s.data.toList = UInt8.ofNat (bt s 0) :: bl s 1 n := by
  obtain ⟨n, hn⟩ : ∃ n, s.size = n + 1 := ⟨s.size - 1, by omega⟩
  refine ⟨n, hn, ?_⟩
  rw [all_bl, hn]; rfl
theorem wordB_none {s : ByteArray} (h : ¬ 0 < s.size) : isWordB s = false := by
  unfold isWordB
  have : s.data.toList = [] := List.length_eq_zero_iff.1 (by rw [Array.length_toList]; show s.size = 0; omega)
  rw [this]; rfl
theorem wordB_first {s : ByteArray} (h : 0 < s.size) (h0 : isSm (bt s 0) = false) : isWordB s = false := by
  obtain ⟨n, _, e⟩ := bl_zero h
  unfold isWordB; rw [e]
  show (isSm (UInt8.ofNat (bt s 0)).toNat && _) = false
  rw [toNat_bt, h0]; rfl
theorem wordB_miss {s : ByteArray} {j : Nat} (h : j < s.size) (h0 : isWd (bt s j) = false) : isWordB s = false := by
  cases hw : isWordB s with
  | false => rfl
  | true =>
    obtain ⟨b, r, e, hb, hr⟩ := word_form hw
    have hj : s.data.toList[j]? = some (s.data.toList[j]'(by simpa using h)) := List.getElem?_eq_getElem _
    have hbt := bt_list hj
    have hm : s.data.toList[j]'(by simpa using h) ∈ b :: r := by rw [← e]; exact List.getElem_mem _
    rw [hbt] at h0
    rcases List.mem_cons.1 hm with e1 | e1
    · rw [e1] at h0; simp [isWd, hb] at h0
    · rw [hr _ e1] at h0; cases h0
theorem wordB_all {s : ByteArray} (h : 0 < s.size) (h0 : isSm (bt s 0) = true) (ha : ∀ j, j < s.size → isWd (bt s j) = true) : isWordB s = true := by
  obtain ⟨n, hn, e⟩ := bl_zero h
  refine word_of e (by rw [toNat_bt]; exact h0) (fun x hx => ?_)
  obtain ⟨j, hj, ex⟩ := mem_bl hx
  rw [ex]; exact ha _ (by omega)

set_option maxHeartbeats 1000000 in
set_option maxRecDepth 100000 in
/-- The reference's IsWord. -/
theorem isWord_any (s : ByteArray) (w : World) (hs : s.size ≤ 9223372036854775806) :
    Calls Tryz.prog 138 #[.string s] w fun e w' => e = .returned (.bool (isWordB s)) ∧ w' = w := by
  by_cases h0 : 0 < s.size
  · have hne : (s.toList == []) = false := by
      rw [ByteArray.toList_eq]
      cases h : s.data.toList with
      | nil =>
        have h1 : s.data.toList.length = 0 := by rw [h]; rfl
        rw [Array.length_toList] at h1
        have e : s.data.size = s.size := rfl
        omega
      | cons _ _ => rfl
    have hne2 : ¬ s.toList = [] := by intro h; rw [h] at hne; cases hne
    have hne3 : s.toList.isEmpty = false := by simpa using hne2
    have h0i : (0 : Int) < (s.size : Int) := by omega
    have HB0 := hid (bt_get h0)
    cases q0 : isSm (s[0]'h0).toNat with
    | false =>
      have HK := hid (wordB_first h0 (by rw [← HB0.out]; exact q0))
      go_enter Tryz.func138, Tryz.ntmps138
      go_wp2_with (go_at_call 104; refine (lt_c _ _).mono ?_; rintro e w' ⟨rfl, rfl⟩)
      go_ret
      exact ⟨ret_b HK.out, rfl⟩
    | true =>
      have HK0 : Hid (isSm (bt s 0) = true) := by show isSm (bt s 0) = true; rw [← HB0.out]; exact q0
      go_enter Tryz.func138, Tryz.ntmps138
      go_wp2_with (go_at_call 104; refine (lt_c _ _).mono ?_; rintro e w' ⟨rfl, rfl⟩)
      go_loopg [3] s.size (fun g t wr => ∃ k : Nat, k ≤ s.size ∧ s.size - k ≤ g ∧ t = .int .i64 k ∧ wr = w ∧ Aside (∀ j, j < k → isWd (bt s j) = true))
      case atStart => exact ⟨0, Nat.zero_le _, by omega, rfl, rfl, fun j h => by omega⟩
      case round =>
        obtain ⟨k, hk, hg, rfl, rfl, A⟩ := hrel
        by_cases hlt : k < s.size
        · have hlti : (k : Int) < (s.size : Int) := by omega
          have HB := hid (bt_get hlt)
          cases q1 : isSm (s[k]'hlt).toNat with
          | true =>
            go_wp2_with (go_at_call 104; refine (lt_c _ _).mono ?_; rintro e w' ⟨rfl, rfl⟩)
            go_roundg (s.size - (k + 1))
            case measure => omega
            case rel =>
              refine ⟨k + 1, by omega, by omega, by go_num, rfl, (show Aside _ from fun j h2 => ?_)⟩
              by_cases e : j = k
              · subst e; rw [← HB.out]; simp [isWd, q1]
              · exact A.out j (by omega)
          | false =>
            cases q2 : isDg (s[k]'hlt).toNat with
            | true =>
              go_wp2_with (first | (go_at_call 104; refine (lt_c _ _).mono ?_; rintro e w' ⟨rfl, rfl⟩) | (go_at_call 106; refine (dg_c _ _).mono ?_; rintro e w' ⟨rfl, rfl⟩))
              go_roundg (s.size - (k + 1))
              case measure => omega
              case rel =>
                refine ⟨k + 1, by omega, by omega, by go_num, rfl, (show Aside _ from fun j h2 => ?_)⟩
                by_cases e : j = k
                · subst e; rw [← HB.out]; simp [isWd, q1, q2]
                · exact A.out j (by omega)
            | false =>
              have HK := hid (wordB_miss hlt (by rw [← HB.out]; simp [isWd, q1, q2]))
              go_wp2_with (first | (go_at_call 104; refine (lt_c _ _).mono ?_; rintro e w' ⟨rfl, rfl⟩) | (go_at_call 106; refine (dg_c _ _).mono ?_; rintro e w' ⟨rfl, rfl⟩))
              go_ret
              exact ⟨ret_b HK.out, rfl⟩
        · have hlti : ¬ (k : Int) < (s.size : Int) := by omega
          have HK := hid (wordB_all h0 HK0.out (fun j hj => A.out j (by omega)))
          go_wp2_with fail
          go_ret
          exact ⟨ret_b HK.out, rfl⟩
  · have HK := hid (wordB_none h0)
    have hz : s.toList = [] := by rw [ByteArray.toList_eq]; exact List.length_eq_zero_iff.1 (by rw [Array.length_toList]; show s.size = 0; omega)
    have he : s.toList.isEmpty = true := by rw [hz]; rfl
    go_enter Tryz.func138, Tryz.ntmps138
    go_wp2_with fail
    go_ret
    exact ⟨ret_b HK.out, rfl⟩

/-- The reference's IsKey. -/
theorem refKey_any (s : ByteArray) (w : World) (hs : s.size ≤ 9223372036854775806) :
    Calls Tryz.prog 121 #[.string s] w fun e w' => e = .returned (.bool (keyOk s)) ∧ w' = w := by
  have H := hid (isWord_any s w hs)
  unfold keyOk
  cases hw : isWordB s with
  | false =>
    rw [hw] at H
    go_enter Tryz.func121, Tryz.ntmps121
    go_wp2_with fail
    refine H.out.mono ?_
    rintro e w1 ⟨rfl, rfl⟩
    go_wp2_with fail
    go_ret
    exact ⟨rfl, rfl⟩
  | true =>
    rw [hw] at H
    by_cases h6 : s.size ≤ 6
    · have h6i : (s.size : Int) ≤ 6 := by omega
      have e6 : decide (s.size ≤ 6) = true := by simpa using h6
      go_enter Tryz.func121, Tryz.ntmps121
      go_wp2_with fail
      refine H.out.mono ?_
      rintro e w1 ⟨rfl, rfl⟩
      go_wp2_with fail
      go_ret
      exact ⟨ret_b (by rw [e6]; rfl), rfl⟩
    · have h6i : ¬ (s.size : Int) ≤ 6 := by omega
      have e6 : decide (s.size ≤ 6) = false := by simpa using h6
      go_enter Tryz.func121, Tryz.ntmps121
      go_wp2_with fail
      refine H.out.mono ?_
      rintro e w1 ⟨rfl, rfl⟩
      go_wp2_with fail
      go_ret
      exact ⟨ret_b (by rw [e6]; symm; simpa using h6i), rfl⟩
theorem kSmall_any (c : Nat) (w : World) : Calls Tryz.prog 137 #[.int .u8 c] w fun e w' => e = .returned (.bool (isSm c)) ∧ w = w' := by
  by_cases h1 : (97 : Int) ≤ (c : Int)
  · by_cases h2 : (c : Int) ≤ 122
    · have r := hid (show isSm c = true from isSm_iff.2 (by omega))
      go_enter Tryz.func137, Tryz.ntmps137
      go_wp2
      go_ret
      exact ⟨by rw [r.out]; rfl, rfl⟩
    · have r : isSm c = false := isSm_no.2 (by omega)
      go_enter Tryz.func137, Tryz.ntmps137
      go_wp2
      go_ret
      exact ⟨rfl, rfl⟩
  · have r : isSm c = false := isSm_no.2 (by omega)
    go_enter Tryz.func137, Tryz.ntmps137
    go_wp2
    go_ret
    exact ⟨rfl, rfl⟩
theorem kDigit_any (c : Nat) (w : World) : Calls Tryz.prog 136 #[.int .u8 c] w fun e w' => e = .returned (.bool (isDg c)) ∧ w = w' := by
  by_cases h1 : (48 : Int) ≤ (c : Int)
  · by_cases h2 : (c : Int) ≤ 57
    · have r := hid (show isDg c = true from isDg_iff.2 (by omega))
      go_enter Tryz.func136, Tryz.ntmps136
      go_wp2
      go_ret
      exact ⟨by rw [r.out]; rfl, rfl⟩
    · have r : isDg c = false := isDg_no.2 (by omega)
      go_enter Tryz.func136, Tryz.ntmps136
      go_wp2
      go_ret
      exact ⟨rfl, rfl⟩
  · have r : isDg c = false := isDg_no.2 (by omega)
    go_enter Tryz.func136, Tryz.ntmps136
    go_wp2
    go_ret
    exact ⟨rfl, rfl⟩
theorem key_word {s : ByteArray} (h : isWordB s = false) : keyOk s = false := by unfold keyOk; rw [h]; rfl
theorem below_bytes (w : World) (e : TypeId) (s : ByteArray) : Below w.heap.size w (Lib.bytesWorld w e s) :=
  ⟨rfl, rfl, rfl, by rw [Lib.bytesWorld_size]; omega, fun b hb => Lib.bytesWorld_at_old w e s b hb⟩

set_option maxHeartbeats 2000000 in
set_option maxRecDepth 100000 in
/-- The code's keys.Is. -/
theorem isKey_all (s : ByteArray) (w : World) :
    Calls Tryz.prog 119 #[.string s] w fun e w' => e = .returned (.bool (keyOk s)) ∧ Below w.heap.size w w' := by
  by_cases h0 : 0 < s.size
  · have hne : (s.toList == []) = false := by
      rw [ByteArray.toList_eq]
      cases h : s.data.toList with
      | nil =>
        have h1 : s.data.toList.length = 0 := by rw [h]; rfl
        rw [Array.length_toList] at h1
        have e : s.data.size = s.size := rfl
        omega
      | cons _ _ => rfl
    have hne2 : ¬ s.toList = [] := by intro h; rw [h] at hne; cases hne
    have hne3 : s.toList.isEmpty = false := by simpa using hne2
    have h0i : (0 : Int) < (s.size : Int) := by omega
    by_cases h6 : 6 < s.size
    · have h6i : (6 : Int) < (s.size : Int) := by omega
      have HK := hid (key_long h6)
      go_enter Tryz.func119, Tryz.ntmps119
      go_wp2_with fail
      go_ret
      exact ⟨ret_b HK.out, Below.refl _ _⟩
    · have h6i : ¬ (6 : Int) < (s.size : Int) := by omega
      have HB0 := hid (bt_get h0)
      cases q0 : isDg (s[0]'h0).toNat with
      | true =>
        have HK := hid (key_word (wordB_first h0 (by rw [← HB0.out]; rw [isDg_iff] at q0; exact isSm_no.2 (by omega))))
        go_enter Tryz.func119, Tryz.ntmps119
        go_wp2_with (go_at_call 136; refine (kDigit_any _ _).mono ?_; rintro e w' ⟨rfl, rfl⟩)
        go_ret
        exact ⟨ret_b HK.out, Below.refl _ _⟩
      | false =>
        have hcv := Lib.run_convert_string_bytes w 9 75 5 s Tryz.underlying9 Tryz.underlying75 Tryz.underlying5
        generalize grownCap w s.size 0 5 = gc at hcv
        have HD0 : Hid (isDg (bt s 0) = false) := by show isDg (bt s 0) = false; rw [← HB0.out]; exact q0
        have HCB : Hid (∀ k (hk : k < s.size), (Lib.bytesWorld w 5 s).cell? ⟨w.heap.size, k, none⟩ = some (.int .u8 (((s[k]'hk).toNat : Nat) : Int))) := fun k hk => by
          rw [Lib.bytesWorld_cell w 5 s k hk]
          have e : s.data.toList.getD k 0 = s[k]'hk := by
            simp [List.getD, hk]
            rfl
          rw [e]
        have HBB := hid (below_bytes w 5 s)
        generalize Lib.bytesWorld w 5 s = wb at *
        go_enter Tryz.func119, Tryz.ntmps119
        go_wp2_with (go_at_call 136; refine (kDigit_any _ _).mono ?_; rintro e w' ⟨rfl, rfl⟩)
        go_loopg [4, 20] s.size (fun g _ t wr => ∃ k : Nat, k ≤ s.size ∧ s.size - k ≤ g ∧ t = .int .i64 k ∧ wr = wb ∧ Aside (∀ j, j < k → isWd (bt s j) = true))
        case atStart => exact ⟨0, Nat.zero_le _, by omega, rfl, rfl, fun j h => by omega⟩
        case round =>
          obtain ⟨k, hk, hg, rfl, rfl, A⟩ := hrel
          by_cases hlt : k < s.size
          · have hlti : (k : Int) < (s.size : Int) := by omega
            have hcell := HCB.out k hlt
            have HB := hid (bt_get hlt)
            cases q1 : isSm (s[k]'hlt).toNat with
            | true =>
              go_wp2_with (go_at_call 137; refine (kSmall_any _ _).mono ?_; rintro e w' ⟨rfl, rfl⟩)
              go_roundg (s.size - (k + 1))
              case measure => omega
              case rel =>
                refine ⟨k + 1, by omega, by omega, by go_num, rfl, (show Aside _ from fun j h2 => ?_)⟩
                by_cases e : j = k
                · subst e; rw [← HB.out]; simp [isWd, q1]
                · exact A.out j (by omega)
            | false =>
              cases q2 : isDg (s[k]'hlt).toNat with
              | true =>
                go_wp2_with (first | (go_at_call 137; refine (kSmall_any _ _).mono ?_; rintro e w' ⟨rfl, rfl⟩) | (go_at_call 136; refine (kDigit_any _ _).mono ?_; rintro e w' ⟨rfl, rfl⟩))
                go_roundg (s.size - (k + 1))
                case measure => omega
                case rel =>
                  refine ⟨k + 1, by omega, by omega, by go_num, rfl, (show Aside _ from fun j h2 => ?_)⟩
                  by_cases e : j = k
                  · subst e; rw [← HB.out]; simp [isWd, q1, q2]
                  · exact A.out j (by omega)
              | false =>
                have HK := hid (key_word (wordB_miss hlt (by rw [← HB.out]; simp [isWd, q1, q2])))
                go_wp2_with (first | (go_at_call 137; refine (kSmall_any _ _).mono ?_; rintro e w' ⟨rfl, rfl⟩) | (go_at_call 136; refine (kDigit_any _ _).mono ?_; rintro e w' ⟨rfl, rfl⟩))
                go_ret
                exact ⟨ret_b HK.out, HBB.out⟩
          · have hnlt : ¬ (k : Int) < (s.size : Int) := by omega
            have HK : Hid (keyOk s = true) := by
              have h1 : isWordB s = true := wordB_all h0 (by
                have := A.out 0 (by omega)
                unfold isWd at this
                rw [HD0.out, Bool.or_false] at this
                exact this) (fun j hj => A.out j (by omega))
              show keyOk s = true
              unfold keyOk
              rw [h1, decide_eq_true (show s.size ≤ 6 by omega)]
              rfl
            go_wp2_with fail
            go_ret
            exact ⟨ret_b HK.out, HBB.out⟩
  · have HK := hid (key_word (wordB_none h0))
    have hz : s.toList = [] := by rw [ByteArray.toList_eq]; exact List.length_eq_zero_iff.1 (by rw [Array.length_toList]; show s.size = 0; omega)
    have he : s.toList.isEmpty = true := by rw [hz]; rfl
    have hzz : (s.toList == []) = true := by rw [hz]; rfl
    go_enter Tryz.func119, Tryz.ntmps119
    go_wp2_with fail
    go_ret
    exact ⟨ret_b HK.out, Below.refl _ _⟩


theorem isKey_any (s : ByteArray) (w : World) (te : TypeId) (pe : Value) (hv : w.cell? ⟨3, 0, none⟩ = some pe) :
    Calls Tryz.prog 119 #[.string s] w fun e w' => e = .returned (.bool (keyOk s)) ∧ Below w.heap.size w w' := isKey_all s w
end Go.Proofs.YtkpomcimaofkkaaGreatDoor
