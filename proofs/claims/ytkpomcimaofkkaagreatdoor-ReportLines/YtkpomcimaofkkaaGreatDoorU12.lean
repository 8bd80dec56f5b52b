/-
  Walk of the scanner's number.
-/
import Derived.Test.YtkpomcimaofkkaaGreatDoorU11
import Derived.Lib.AtoiErrMem
import Derived.Lib.SliceRun
namespace Go.Proofs.YtkpomcimaofkkaaGreatDoor
set_option linter.unusedVariables false
set_option linter.unusedSimpArgs false
open Go.RowKit

/-- What number answers. -/
def numVal : Except (Nat × Nat) (Int × Nat) → Value
  | .ok (n, k) => .tuple #[.int .i64 n, .int .i64 k, .agg #[.int .i64 0, .int .i64 0]]
  | .error (a, y) => .tuple #[.int .i64 0, .int .i64 0, .agg #[.int .i64 a, .int .i64 y]]

theorem atoi_ok (s : ByteArray) (hmax : s.size ≤ 9223372036854775806) (v : Int) (h : Lib.atoiAll s.data.toList = .ok v) (w : World) :
    Calls Tryz.prog 93 #[.string s] w fun e w' => e = .returned (.tuple #[.int .i64 v, .nilIface]) ∧ Below w.heap.size w w' :=
  (Tryz.strconv_Atoi_ok s hmax v h w).mono fun e w' ⟨he, hw⟩ => ⟨he, by
    rcases hw with rfl | ⟨t, rfl⟩
    · exact Below.refl _ _
    · exact Lib.bytesWorld_below _ _ _⟩

set_option maxHeartbeats 1000000 in
/-- A minus with no digit from 1 to 9 behind it. -/
theorem number_bad (s : ByteArray) (i : Nat) (w : World) (hs : s.size ≤ 20000) (hi : i < s.size) (h : nBad s i) :
    Calls Tryz.prog 55 #[.string s, .int .i64 i] w fun e w' => e = .returned (numVal (numM s i)) ∧ Below w.heap.size w w' := by
  rw [numM_bad h]
  obtain ⟨h45, hn⟩ := h
  have hf : nF s i = i + 1 := by unfold nF; rw [if_pos h45]
  rw [hf] at hn
  clear hf
  have hii : (i : Int) < (s.size : Int) := by omega
  have c0 : ((((s[i]'hi).toNat : Nat) : Int) == 45) = true := by rw [bt_get hi, h45]; rfl
  have H45 := hid h45
  clear h45
  by_cases h1 : i + 1 < s.size
  · have h1i : ((i : Int) + 1) < (s.size : Int) := by omega
    have ce : (((i : Int) + 1) == (s.size : Int)) = false := beq_eq_false_iff_ne.2 (by omega)
    have hb := hid (bt_get h1)
    by_cases h2 : bt s (i + 1) < 49
    · have c1 : (((s[i + 1]'h1).toNat : Nat) : Int) < 49 := by rw [hb.out]; omega
      clear hn h2
      go_enter Tryz.func55, Tryz.ntmps55
      go_wp2
      exact bodyPost_ret (v := .tuple #[.int .i64 0, .int .i64 0, .agg #[.int .i64 i, .int .i64 10]]) (by simp [results, Tryz.results55, go_sem]) rfl ⟨rfl, (Below.refl _ _).alloc (Nat.le_refl _) _⟩
    · have c1 : ¬ (((s[i + 1]'h1).toNat : Nat) : Int) < 49 := by rw [hb.out]; omega
      have c2 : 57 < (((s[i + 1]'h1).toNat : Nat) : Int) := by rw [hb.out]; omega
      clear hn h2
      go_enter Tryz.func55, Tryz.ntmps55
      go_wp2
      exact bodyPost_ret (v := .tuple #[.int .i64 0, .int .i64 0, .agg #[.int .i64 i, .int .i64 10]]) (by simp [results, Tryz.results55, go_sem]) rfl ⟨rfl, (Below.refl _ _).alloc (Nat.le_refl _) _⟩
  · have ce : (((i : Int) + 1) == (s.size : Int)) = true := beq_iff_eq.2 (by omega)
    clear hn
    go_enter Tryz.func55, Tryz.ntmps55
    go_wp2
    exact bodyPost_ret (v := .tuple #[.int .i64 0, .int .i64 0, .agg #[.int .i64 i, .int .i64 10]]) (by simp [results, Tryz.results55, go_sem]) rfl ⟨rfl, (Below.refl _ _).alloc (Nat.le_refl _) _⟩
/- GOOD -/

set_option maxRecDepth 100000 in
set_option maxHeartbeats 4000000 in
theorem number_pos (s : ByteArray) (i : Nat) (w : World) (hs : s.size ≤ 20000) (hi : i < s.size) (h45 : ¬ bt s i = 45) (hd : isDg (bt s i) = true) (te : TypeId) (pe : Value) (hv : w.cell? ⟨6, 0, none⟩ = some (.iface te pe)) :
    Calls Tryz.prog 55 #[.string s, .int .i64 i] w fun e w' => e = .returned (numVal (numM s i)) ∧ Below w.heap.size w w' := by
  have HN := hid (show ¬ nBad s i from fun h => h45 h.1)
  have HAT := hid (atoi_num hi HN.out (.inr hd))
  have hf : nF s i = i := by unfold nF; rw [if_neg h45]
  have c0 : ((((s[i]'hi).toNat : Nat) : Int) == 45) = false := beq_eq_false_iff_ne.2 (by rw [bt_get hi]; omega)
  have hfl : i < s.size := hi
  have hii : (i : Int) < (s.size : Int) := by omega
  have hE := nE_gt HN.out hi
  rw [hf] at hE
  have hv0 : (w.alloc (.cells #[.int .i64 0, .int .i64 0] 49)).cell? ⟨6, 0, none⟩ = some (.iface te pe) := Lib.cell?_alloc_some _ hv
  have hxs : ∀ k, (s.extract i k).size ≤ 20000 := fun k => by simp; omega
  have HE : Hid (nE s i = if bt s (i) = 48 then i + 1 else dEnd s (i + 1)) := by show nE s i = _; unfold nE; rw [hf]
  have HV := hid hv
  clear h45 hv hd hf
  by_cases hz : bt s (i) = 48
  · have HK0 : Hid (nE s i = i + 1) := by show nE s i = _; rw [HE.out, if_pos hz]
    have c3 : ((((s[i]'hfl).toNat : Nat) : Int) != 48) = false := by rw [bt_get hfl, hz]; rfl
    clear hz HE hE
    go_enter Tryz.func55, Tryz.ntmps55
    go_wp2
    go_loopg [8] 0 (fun g t wr => ∃ k : Nat, k = i + 1 ∧ t = .int .i64 k ∧ wr = w.alloc (.cells #[.int .i64 0, .int .i64 0] 49))
    case atStart => exact ⟨_, rfl, by go_num, rfl⟩
    case round =>
      obtain ⟨k, hk, rfl, rfl⟩ := hrel
      have HK : Hid (nE s i = k) := HK0.out.trans hk.symm
      have hkk : k ≤ s.size := by omega
      have hkk2 : i < k := by omega
      clear hk
      have hxs := hxs k
      have hik : (i : Int) ≤ (k : Int) := by omega
      have hks : (k : Int) ≤ (s.size : Int) := by omega
      by_cases hbig : nBig s i
      · have HP := hid (numM_big HN.out hbig)
        have HT := hid (Tryz.strconv_Atoi_range (s.extract i k) (by have := hxs; omega) (by rw [← HK.out, HAT.out, if_pos hbig]) _ (w.alloc (.cells #[.int .i64 0, .int .i64 0] 49)) hv0 (.inr ⟨_, _, rfl⟩))
        clear hbig
        go_wp2_with fail
        refine HT.out.mono ?_
        rintro e w1 ⟨N, rfl, -, -, hb⟩
        · have g0 : w1.cell? ⟨w.heap.size, 0, none⟩ = some (.int .i64 0) := (hb.cell (p := ⟨w.heap.size, 0, none⟩) (by simp)).trans (by simp)
          have g1 : w1.cell? ⟨w.heap.size, 1, none⟩ = some (.int .i64 0) := (hb.cell (p := ⟨w.heap.size, 1, none⟩) (by simp)).trans (by simp)
          have z0 : w1.frozen? ⟨w.heap.size, 0, none⟩ = false := (hb.frozen (p := ⟨w.heap.size, 0, none⟩) (by simp)).trans (by simp)
          have z1 : w1.frozen? ⟨w.heap.size, 1, none⟩ = false := (hb.frozen (p := ⟨w.heap.size, 1, none⟩) (by simp)).trans (by simp)
          have hb' := hid hb
          clear hb
          go_wp2_with fail
          rw [HP.out]
          exact bodyPost_ret (v := .tuple #[.int .i64 0, .int .i64 0, .agg #[.int .i64 i, .int .i64 11]]) (by simp [results, Tryz.results55, go_sem, g0, g1]) rfl ⟨rfl, ((((Below.refl _ w).alloc (Nat.le_refl _) _).trans (hb'.out.mono (by simp))).setCell (Nat.le_refl _) _).setCell (Nat.le_refl _) _⟩
      · have HT := hid (atoi_ok (s.extract i k) (by have := hxs; omega) (nN s i) (by rw [← HK.out, HAT.out, if_neg hbig]) (w.alloc (.cells #[.int .i64 0, .int .i64 0] 49)))
        have HBG := hid hbig
        generalize hnn : nN s i = nn at HT
        have HNN := hid hnn
        clear hbig hnn
        go_wp2_with fail
        refine HT.out.mono ?_
        rintro e w1 ⟨rfl, hb⟩
        have g0 : w1.cell? ⟨w.heap.size, 0, none⟩ = some (.int .i64 0) := (hb.cell (p := ⟨w.heap.size, 0, none⟩) (by simp)).trans (by simp)
        have g1 : w1.cell? ⟨w.heap.size, 1, none⟩ = some (.int .i64 0) := (hb.cell (p := ⟨w.heap.size, 1, none⟩) (by simp)).trans (by simp)
        have z0 : w1.frozen? ⟨w.heap.size, 0, none⟩ = false := (hb.frozen (p := ⟨w.heap.size, 0, none⟩) (by simp)).trans (by simp)
        have z1 : w1.frozen? ⟨w.heap.size, 1, none⟩ = false := (hb.frozen (p := ⟨w.heap.size, 1, none⟩) (by simp)).trans (by simp)
        have hb' := hid hb
        clear hb
        by_cases hlt : k < s.size
        · have hlti : (k : Int) < (s.size : Int) := by omega
          have HBK := hid (bt_get hlt)
          cases q1 : isSm (s[k]'hlt).toNat with
          | true =>
            go_wp2_with (first | (go_at_call 52; refine (isSmall_any _ _).mono ?_; rintro e w' ⟨rfl, rfl⟩) | (go_at_call 54; refine (isDigit_any _ _).mono ?_; rintro e w' ⟨rfl, rfl⟩))
            rw [show numM s i = .error (k, 10) from by rw [numM_wd HN.out HBG.out (by rw [HK.out, ← HBK.out]; simp [isWd, q1]), HK.out]]
            exact bodyPost_ret (v := .tuple #[.int .i64 0, .int .i64 0, .agg #[.int .i64 k, .int .i64 10]]) (by simp [results, Tryz.results55, go_sem, g0, g1]) rfl ⟨rfl, ((((Below.refl _ w).alloc (Nat.le_refl _) _).trans (hb'.out.mono (by simp))).setCell (Nat.le_refl _) _).setCell (Nat.le_refl _) _⟩
          | false =>
            cases q2 : isDg (s[k]'hlt).toNat with
            | true =>
              go_wp2_with (first | (go_at_call 52; refine (isSmall_any _ _).mono ?_; rintro e w' ⟨rfl, rfl⟩) | (go_at_call 54; refine (isDigit_any _ _).mono ?_; rintro e w' ⟨rfl, rfl⟩))
              rw [show numM s i = .error (k, 10) from by rw [numM_wd HN.out HBG.out (by rw [HK.out, ← HBK.out]; simp [isWd, q1, q2]), HK.out]]
              exact bodyPost_ret (v := .tuple #[.int .i64 0, .int .i64 0, .agg #[.int .i64 k, .int .i64 10]]) (by simp [results, Tryz.results55, go_sem, g0, g1]) rfl ⟨rfl, ((((Below.refl _ w).alloc (Nat.le_refl _) _).trans (hb'.out.mono (by simp))).setCell (Nat.le_refl _) _).setCell (Nat.le_refl _) _⟩
            | false =>
              go_wp2_with (first | (go_at_call 52; refine (isSmall_any _ _).mono ?_; rintro e w' ⟨rfl, rfl⟩) | (go_at_call 54; refine (isDigit_any _ _).mono ?_; rintro e w' ⟨rfl, rfl⟩))
              rw [show numM s i = .ok (nn, k) from by rw [numM_ok HN.out HBG.out (by rw [HK.out, ← HBK.out]; simp [isWd, q1, q2]), HK.out, HNN.out]]
              exact bodyPost_ret (v := .tuple #[.int .i64 nn, .int .i64 k, .agg #[.int .i64 0, .int .i64 0]]) (by simp [results, Tryz.results55, go_sem, g0, g1]) rfl ⟨rfl, ((((Below.refl _ w).alloc (Nat.le_refl _) _).trans (hb'.out.mono (by simp))).setCell (Nat.le_refl _) _).setCell (Nat.le_refl _) _⟩
        · have hnk : ¬ (k : Int) < (s.size : Int) := by omega
          go_wp2_with fail
          rw [show numM s i = .ok (nn, k) from by rw [numM_ok HN.out HBG.out (by rw [HK.out, bt_out hlt]; rfl), HK.out, HNN.out]]
          exact bodyPost_ret (v := .tuple #[.int .i64 nn, .int .i64 k, .agg #[.int .i64 0, .int .i64 0]]) (by simp [results, Tryz.results55, go_sem, g0, g1]) rfl ⟨rfl, ((((Below.refl _ w).alloc (Nat.le_refl _) _).trans (hb'.out.mono (by simp))).setCell (Nat.le_refl _) _).setCell (Nat.le_refl _) _⟩
  · have HK0 : Hid (nE s i = dEnd s (i + 1)) := by show nE s i = _; rw [HE.out, if_neg hz]
    have HR := hid (dEnd_is s (i + 1))
    have c3 : ((((s[i]'hfl).toNat : Nat) : Int) != 48) = true := by rw [bne_iff_ne, bt_get hfl]; omega
    clear hz HE hE
    go_enter Tryz.func55, Tryz.ntmps55
    go_wp2
    go_loopg [8] (s.size - (i + 1)) (fun g t wr => ∃ k : Nat, i + 1 ≤ k ∧ k ≤ s.size ∧ s.size - k ≤ g ∧ t = .int .i64 k ∧ wr = w.alloc (.cells #[.int .i64 0, .int .i64 0] 49) ∧ Aside (∀ j, i + 1 ≤ j → j < k → isDg (bt s j) = true))
    case atStart => exact ⟨_, Nat.le_refl _, by omega, Nat.le_refl _, by go_num, rfl, fun j h1 h2 => by omega⟩
    case round =>
      obtain ⟨k, hk, hkk, hg, rfl, rfl, A⟩ := hrel
      have hkk2 : i < k := by omega
      have hxs := hxs k
      by_cases hlt : k < s.size
      · have hlti : (k : Int) < (s.size : Int) := by omega
        have HBK := hid (bt_get hlt)
        cases q2 : isDg (s[k]'hlt).toNat with
        | true =>
          go_wp2_with (go_at_call 54; refine (isDigit_any _ _).mono ?_; rintro e w' ⟨rfl, rfl⟩)
          go_roundg (s.size - (k + 1))
          case measure => omega
          case rel =>
            refine ⟨k + 1, by omega, by omega, by omega, by go_num, rfl, (show Aside _ from fun j h1 h2 => ?_)⟩
            by_cases e : j = k
            · subst e; rw [← HBK.out]; exact q2
            · exact A.out j h1 (by omega)
        | false =>
          have HK : Hid (nE s i = k) := by
            show nE s i = k
            rw [HK0.out]
            exact HR.out.uniq ⟨hk, A.out, by rw [← HBK.out]; exact q2⟩
          have hik : (i : Int) ≤ (k : Int) := by omega
          have hks : (k : Int) ≤ (s.size : Int) := by omega
          go_wp2_with (go_at_call 54; refine (isDigit_any _ _).mono ?_; rintro e w' ⟨rfl, rfl⟩)
          by_cases hbig : nBig s i
          · have HP := hid (numM_big HN.out hbig)
            have HT := hid (Tryz.strconv_Atoi_range (s.extract i k) (by have := hxs; omega) (by rw [← HK.out, HAT.out, if_pos hbig]) _ (w.alloc (.cells #[.int .i64 0, .int .i64 0] 49)) hv0 (.inr ⟨_, _, rfl⟩))
            clear hbig
            skip
            refine HT.out.mono ?_
            rintro e w1 ⟨N, rfl, -, -, hb⟩
            · have g0 : w1.cell? ⟨w.heap.size, 0, none⟩ = some (.int .i64 0) := (hb.cell (p := ⟨w.heap.size, 0, none⟩) (by simp)).trans (by simp)
              have g1 : w1.cell? ⟨w.heap.size, 1, none⟩ = some (.int .i64 0) := (hb.cell (p := ⟨w.heap.size, 1, none⟩) (by simp)).trans (by simp)
              have z0 : w1.frozen? ⟨w.heap.size, 0, none⟩ = false := (hb.frozen (p := ⟨w.heap.size, 0, none⟩) (by simp)).trans (by simp)
              have z1 : w1.frozen? ⟨w.heap.size, 1, none⟩ = false := (hb.frozen (p := ⟨w.heap.size, 1, none⟩) (by simp)).trans (by simp)
              have hb' := hid hb
              clear hb
              go_wp2_with fail
              rw [HP.out]
              exact bodyPost_ret (v := .tuple #[.int .i64 0, .int .i64 0, .agg #[.int .i64 i, .int .i64 11]]) (by simp [results, Tryz.results55, go_sem, g0, g1]) rfl ⟨rfl, ((((Below.refl _ w).alloc (Nat.le_refl _) _).trans (hb'.out.mono (by simp))).setCell (Nat.le_refl _) _).setCell (Nat.le_refl _) _⟩
          · have HT := hid (atoi_ok (s.extract i k) (by have := hxs; omega) (nN s i) (by rw [← HK.out, HAT.out, if_neg hbig]) (w.alloc (.cells #[.int .i64 0, .int .i64 0] 49)))
            have HBG := hid hbig
            generalize hnn : nN s i = nn at HT
            have HNN := hid hnn
            clear hbig hnn
            skip
            refine HT.out.mono ?_
            rintro e w1 ⟨rfl, hb⟩
            have g0 : w1.cell? ⟨w.heap.size, 0, none⟩ = some (.int .i64 0) := (hb.cell (p := ⟨w.heap.size, 0, none⟩) (by simp)).trans (by simp)
            have g1 : w1.cell? ⟨w.heap.size, 1, none⟩ = some (.int .i64 0) := (hb.cell (p := ⟨w.heap.size, 1, none⟩) (by simp)).trans (by simp)
            have z0 : w1.frozen? ⟨w.heap.size, 0, none⟩ = false := (hb.frozen (p := ⟨w.heap.size, 0, none⟩) (by simp)).trans (by simp)
            have z1 : w1.frozen? ⟨w.heap.size, 1, none⟩ = false := (hb.frozen (p := ⟨w.heap.size, 1, none⟩) (by simp)).trans (by simp)
            have hb' := hid hb
            clear hb
            have HBK := hid (bt_get hlt)
            cases q1 : isSm (s[k]'hlt).toNat with
            | true =>
              go_wp2_with (first | (go_at_call 52; refine (isSmall_any _ _).mono ?_; rintro e w' ⟨rfl, rfl⟩) | (go_at_call 54; refine (isDigit_any _ _).mono ?_; rintro e w' ⟨rfl, rfl⟩))
              rw [show numM s i = .error (k, 10) from by rw [numM_wd HN.out HBG.out (by rw [HK.out, ← HBK.out]; simp [isWd, q1]), HK.out]]
              exact bodyPost_ret (v := .tuple #[.int .i64 0, .int .i64 0, .agg #[.int .i64 k, .int .i64 10]]) (by simp [results, Tryz.results55, go_sem, g0, g1]) rfl ⟨rfl, ((((Below.refl _ w).alloc (Nat.le_refl _) _).trans (hb'.out.mono (by simp))).setCell (Nat.le_refl _) _).setCell (Nat.le_refl _) _⟩
            | false =>
              go_wp2_with (first | (go_at_call 52; refine (isSmall_any _ _).mono ?_; rintro e w' ⟨rfl, rfl⟩) | (go_at_call 54; refine (isDigit_any _ _).mono ?_; rintro e w' ⟨rfl, rfl⟩))
              rw [show numM s i = .ok (nn, k) from by rw [numM_ok HN.out HBG.out (by rw [HK.out, ← HBK.out]; simp [isWd, q1, q2]), HK.out, HNN.out]]
              exact bodyPost_ret (v := .tuple #[.int .i64 nn, .int .i64 k, .agg #[.int .i64 0, .int .i64 0]]) (by simp [results, Tryz.results55, go_sem, g0, g1]) rfl ⟨rfl, ((((Below.refl _ w).alloc (Nat.le_refl _) _).trans (hb'.out.mono (by simp))).setCell (Nat.le_refl _) _).setCell (Nat.le_refl _) _⟩
      · have hlti : ¬ (k : Int) < (s.size : Int) := by omega
        have HK : Hid (nE s i = k) := by
          show nE s i = k
          rw [HK0.out]
          exact HR.out.uniq ⟨hk, A.out, by rw [bt_out hlt]; rfl⟩
        have hik : (i : Int) ≤ (k : Int) := by omega
        have hks : (k : Int) ≤ (s.size : Int) := by omega
        by_cases hbig : nBig s i
        · have HP := hid (numM_big HN.out hbig)
          have HT := hid (Tryz.strconv_Atoi_range (s.extract i k) (by have := hxs; omega) (by rw [← HK.out, HAT.out, if_pos hbig]) _ (w.alloc (.cells #[.int .i64 0, .int .i64 0] 49)) hv0 (.inr ⟨_, _, rfl⟩))
          clear hbig
          go_wp2_with fail
          refine HT.out.mono ?_
          rintro e w1 ⟨N, rfl, -, -, hb⟩
          · have g0 : w1.cell? ⟨w.heap.size, 0, none⟩ = some (.int .i64 0) := (hb.cell (p := ⟨w.heap.size, 0, none⟩) (by simp)).trans (by simp)
            have g1 : w1.cell? ⟨w.heap.size, 1, none⟩ = some (.int .i64 0) := (hb.cell (p := ⟨w.heap.size, 1, none⟩) (by simp)).trans (by simp)
            have z0 : w1.frozen? ⟨w.heap.size, 0, none⟩ = false := (hb.frozen (p := ⟨w.heap.size, 0, none⟩) (by simp)).trans (by simp)
            have z1 : w1.frozen? ⟨w.heap.size, 1, none⟩ = false := (hb.frozen (p := ⟨w.heap.size, 1, none⟩) (by simp)).trans (by simp)
            have hb' := hid hb
            clear hb
            go_wp2_with fail
            rw [HP.out]
            exact bodyPost_ret (v := .tuple #[.int .i64 0, .int .i64 0, .agg #[.int .i64 i, .int .i64 11]]) (by simp [results, Tryz.results55, go_sem, g0, g1]) rfl ⟨rfl, ((((Below.refl _ w).alloc (Nat.le_refl _) _).trans (hb'.out.mono (by simp))).setCell (Nat.le_refl _) _).setCell (Nat.le_refl _) _⟩
        · have HT := hid (atoi_ok (s.extract i k) (by have := hxs; omega) (nN s i) (by rw [← HK.out, HAT.out, if_neg hbig]) (w.alloc (.cells #[.int .i64 0, .int .i64 0] 49)))
          have HBG := hid hbig
          generalize hnn : nN s i = nn at HT
          have HNN := hid hnn
          clear hbig hnn
          go_wp2_with fail
          refine HT.out.mono ?_
          rintro e w1 ⟨rfl, hb⟩
          have g0 : w1.cell? ⟨w.heap.size, 0, none⟩ = some (.int .i64 0) := (hb.cell (p := ⟨w.heap.size, 0, none⟩) (by simp)).trans (by simp)
          have g1 : w1.cell? ⟨w.heap.size, 1, none⟩ = some (.int .i64 0) := (hb.cell (p := ⟨w.heap.size, 1, none⟩) (by simp)).trans (by simp)
          have z0 : w1.frozen? ⟨w.heap.size, 0, none⟩ = false := (hb.frozen (p := ⟨w.heap.size, 0, none⟩) (by simp)).trans (by simp)
          have z1 : w1.frozen? ⟨w.heap.size, 1, none⟩ = false := (hb.frozen (p := ⟨w.heap.size, 1, none⟩) (by simp)).trans (by simp)
          have hb' := hid hb
          clear hb
          have hnk : ¬ (k : Int) < (s.size : Int) := by omega
          go_wp2_with fail
          rw [show numM s i = .ok (nn, k) from by rw [numM_ok HN.out HBG.out (by rw [HK.out, bt_out (by omega)]; rfl), HK.out, HNN.out]]
          exact bodyPost_ret (v := .tuple #[.int .i64 nn, .int .i64 k, .agg #[.int .i64 0, .int .i64 0]]) (by simp [results, Tryz.results55, go_sem, g0, g1]) rfl ⟨rfl, ((((Below.refl _ w).alloc (Nat.le_refl _) _).trans (hb'.out.mono (by simp))).setCell (Nat.le_refl _) _).setCell (Nat.le_refl _) _⟩

set_option maxRecDepth 100000 in
set_option maxHeartbeats 4000000 in
theorem number_neg (s : ByteArray) (i : Nat) (w : World) (hs : s.size ≤ 20000) (hi : i < s.size) (h45 : bt s i = 45) (hg : ¬ nBad s i) (te : TypeId) (pe : Value) (hv : w.cell? ⟨6, 0, none⟩ = some (.iface te pe)) :
    Calls Tryz.prog 55 #[.string s, .int .i64 i] w fun e w' => e = .returned (numVal (numM s i)) ∧ Below w.heap.size w w' := by
  have HN := hid hg
  have HAT := hid (atoi_num hi HN.out (.inl h45))
  have hf : nF s i = i + 1 := by unfold nF; rw [if_pos h45]
  have c0 : ((((s[i]'hi).toNat : Nat) : Int) == 45) = true := by rw [bt_get hi, h45]; rfl
  have hfl : i + 1 < s.size := by have := (nE_gt hg hi).2.2.2; omega
  have hb49 : 49 ≤ bt s (i + 1) ∧ bt s (i + 1) ≤ 57 := by unfold nBad at hg; rw [hf] at hg; omega
  have ce : (((i : Int) + 1) == (s.size : Int)) = false := beq_eq_false_iff_ne.2 (by omega)
  have c1 : ¬ (((s[i + 1]'hfl).toNat : Nat) : Int) < 49 := by rw [bt_get hfl]; omega
  have c2 : ¬ 57 < (((s[i + 1]'hfl).toNat : Nat) : Int) := by rw [bt_get hfl]; omega
  have h1i : ((i : Int) + 1) < (s.size : Int) := by omega
  clear hg hb49
  have hii : (i : Int) < (s.size : Int) := by omega
  have hE := nE_gt HN.out hi
  rw [hf] at hE
  have hv0 : (w.alloc (.cells #[.int .i64 0, .int .i64 0] 49)).cell? ⟨6, 0, none⟩ = some (.iface te pe) := Lib.cell?_alloc_some _ hv
  have hxs : ∀ k, (s.extract i k).size ≤ 20000 := fun k => by simp; omega
  have HE : Hid (nE s i = if bt s (i + 1) = 48 then i + 1 + 1 else dEnd s (i + 1 + 1)) := by show nE s i = _; unfold nE; rw [hf]
  have HV := hid hv
  clear h45 hv hf
  by_cases hz : bt s (i + 1) = 48
  · have HK0 : Hid (nE s i = i + 1 + 1) := by show nE s i = _; rw [HE.out, if_pos hz]
    have c3 : ((((s[i + 1]'hfl).toNat : Nat) : Int) != 48) = false := by rw [bt_get hfl, hz]; rfl
    clear hz HE hE
    go_enter Tryz.func55, Tryz.ntmps55
    go_wp2
    go_loopg [8] 0 (fun g t wr => ∃ k : Nat, k = i + 1 + 1 ∧ t = .int .i64 k ∧ wr = w.alloc (.cells #[.int .i64 0, .int .i64 0] 49))
    case atStart => exact ⟨_, rfl, by go_num, rfl⟩
    case round =>
      obtain ⟨k, hk, rfl, rfl⟩ := hrel
      have HK : Hid (nE s i = k) := HK0.out.trans hk.symm
      have hkk : k ≤ s.size := by omega
      have hkk2 : i < k := by omega
      clear hk
      have hxs := hxs k
      have hik : (i : Int) ≤ (k : Int) := by omega
      have hks : (k : Int) ≤ (s.size : Int) := by omega
      by_cases hbig : nBig s i
      · have HP := hid (numM_big HN.out hbig)
        have HT := hid (Tryz.strconv_Atoi_range (s.extract i k) (by have := hxs; omega) (by rw [← HK.out, HAT.out, if_pos hbig]) _ (w.alloc (.cells #[.int .i64 0, .int .i64 0] 49)) hv0 (.inr ⟨_, _, rfl⟩))
        clear hbig
        go_wp2_with fail
        refine HT.out.mono ?_
        rintro e w1 ⟨N, rfl, -, -, hb⟩
        · have g0 : w1.cell? ⟨w.heap.size, 0, none⟩ = some (.int .i64 0) := (hb.cell (p := ⟨w.heap.size, 0, none⟩) (by simp)).trans (by simp)
          have g1 : w1.cell? ⟨w.heap.size, 1, none⟩ = some (.int .i64 0) := (hb.cell (p := ⟨w.heap.size, 1, none⟩) (by simp)).trans (by simp)
          have z0 : w1.frozen? ⟨w.heap.size, 0, none⟩ = false := (hb.frozen (p := ⟨w.heap.size, 0, none⟩) (by simp)).trans (by simp)
          have z1 : w1.frozen? ⟨w.heap.size, 1, none⟩ = false := (hb.frozen (p := ⟨w.heap.size, 1, none⟩) (by simp)).trans (by simp)
          have hb' := hid hb
          clear hb
          go_wp2_with fail
          rw [HP.out]
          exact bodyPost_ret (v := .tuple #[.int .i64 0, .int .i64 0, .agg #[.int .i64 i, .int .i64 11]]) (by simp [results, Tryz.results55, go_sem, g0, g1]) rfl ⟨rfl, ((((Below.refl _ w).alloc (Nat.le_refl _) _).trans (hb'.out.mono (by simp))).setCell (Nat.le_refl _) _).setCell (Nat.le_refl _) _⟩
      · have HT := hid (atoi_ok (s.extract i k) (by have := hxs; omega) (nN s i) (by rw [← HK.out, HAT.out, if_neg hbig]) (w.alloc (.cells #[.int .i64 0, .int .i64 0] 49)))
        have HBG := hid hbig
        generalize hnn : nN s i = nn at HT
        have HNN := hid hnn
        clear hbig hnn
        go_wp2_with fail
        refine HT.out.mono ?_
        rintro e w1 ⟨rfl, hb⟩
        have g0 : w1.cell? ⟨w.heap.size, 0, none⟩ = some (.int .i64 0) := (hb.cell (p := ⟨w.heap.size, 0, none⟩) (by simp)).trans (by simp)
        have g1 : w1.cell? ⟨w.heap.size, 1, none⟩ = some (.int .i64 0) := (hb.cell (p := ⟨w.heap.size, 1, none⟩) (by simp)).trans (by simp)
        have z0 : w1.frozen? ⟨w.heap.size, 0, none⟩ = false := (hb.frozen (p := ⟨w.heap.size, 0, none⟩) (by simp)).trans (by simp)
        have z1 : w1.frozen? ⟨w.heap.size, 1, none⟩ = false := (hb.frozen (p := ⟨w.heap.size, 1, none⟩) (by simp)).trans (by simp)
        have hb' := hid hb
        clear hb
        by_cases hlt : k < s.size
        · have hlti : (k : Int) < (s.size : Int) := by omega
          have HBK := hid (bt_get hlt)
          cases q1 : isSm (s[k]'hlt).toNat with
          | true =>
            go_wp2_with (first | (go_at_call 52; refine (isSmall_any _ _).mono ?_; rintro e w' ⟨rfl, rfl⟩) | (go_at_call 54; refine (isDigit_any _ _).mono ?_; rintro e w' ⟨rfl, rfl⟩))
            rw [show numM s i = .error (k, 10) from by rw [numM_wd HN.out HBG.out (by rw [HK.out, ← HBK.out]; simp [isWd, q1]), HK.out]]
            exact bodyPost_ret (v := .tuple #[.int .i64 0, .int .i64 0, .agg #[.int .i64 k, .int .i64 10]]) (by simp [results, Tryz.results55, go_sem, g0, g1]) rfl ⟨rfl, ((((Below.refl _ w).alloc (Nat.le_refl _) _).trans (hb'.out.mono (by simp))).setCell (Nat.le_refl _) _).setCell (Nat.le_refl _) _⟩
          | false =>
            cases q2 : isDg (s[k]'hlt).toNat with
            | true =>
              go_wp2_with (first | (go_at_call 52; refine (isSmall_any _ _).mono ?_; rintro e w' ⟨rfl, rfl⟩) | (go_at_call 54; refine (isDigit_any _ _).mono ?_; rintro e w' ⟨rfl, rfl⟩))
              rw [show numM s i = .error (k, 10) from by rw [numM_wd HN.out HBG.out (by rw [HK.out, ← HBK.out]; simp [isWd, q1, q2]), HK.out]]
              exact bodyPost_ret (v := .tuple #[.int .i64 0, .int .i64 0, .agg #[.int .i64 k, .int .i64 10]]) (by simp [results, Tryz.results55, go_sem, g0, g1]) rfl ⟨rfl, ((((Below.refl _ w).alloc (Nat.le_refl _) _).trans (hb'.out.mono (by simp))).setCell (Nat.le_refl _) _).setCell (Nat.le_refl _) _⟩
            | false =>
              go_wp2_with (first | (go_at_call 52; refine (isSmall_any _ _).mono ?_; rintro e w' ⟨rfl, rfl⟩) | (go_at_call 54; refine (isDigit_any _ _).mono ?_; rintro e w' ⟨rfl, rfl⟩))
              rw [show numM s i = .ok (nn, k) from by rw [numM_ok HN.out HBG.out (by rw [HK.out, ← HBK.out]; simp [isWd, q1, q2]), HK.out, HNN.out]]
              exact bodyPost_ret (v := .tuple #[.int .i64 nn, .int .i64 k, .agg #[.int .i64 0, .int .i64 0]]) (by simp [results, Tryz.results55, go_sem, g0, g1]) rfl ⟨rfl, ((((Below.refl _ w).alloc (Nat.le_refl _) _).trans (hb'.out.mono (by simp))).setCell (Nat.le_refl _) _).setCell (Nat.le_refl _) _⟩
        · have hnk : ¬ (k : Int) < (s.size : Int) := by omega
          go_wp2_with fail
          rw [show numM s i = .ok (nn, k) from by rw [numM_ok HN.out HBG.out (by rw [HK.out, bt_out hlt]; rfl), HK.out, HNN.out]]
          exact bodyPost_ret (v := .tuple #[.int .i64 nn, .int .i64 k, .agg #[.int .i64 0, .int .i64 0]]) (by simp [results, Tryz.results55, go_sem, g0, g1]) rfl ⟨rfl, ((((Below.refl _ w).alloc (Nat.le_refl _) _).trans (hb'.out.mono (by simp))).setCell (Nat.le_refl _) _).setCell (Nat.le_refl _) _⟩
  · have HK0 : Hid (nE s i = dEnd s (i + 1 + 1)) := by show nE s i = _; rw [HE.out, if_neg hz]
    have HR := hid (dEnd_is s (i + 1 + 1))
    have c3 : ((((s[i + 1]'hfl).toNat : Nat) : Int) != 48) = true := by rw [bne_iff_ne, bt_get hfl]; omega
    clear hz HE hE
    go_enter Tryz.func55, Tryz.ntmps55
    go_wp2
    go_loopg [8] (s.size - (i + 1 + 1)) (fun g t wr => ∃ k : Nat, i + 1 + 1 ≤ k ∧ k ≤ s.size ∧ s.size - k ≤ g ∧ t = .int .i64 k ∧ wr = w.alloc (.cells #[.int .i64 0, .int .i64 0] 49) ∧ Aside (∀ j, i + 1 + 1 ≤ j → j < k → isDg (bt s j) = true))
    case atStart => exact ⟨_, Nat.le_refl _, by omega, Nat.le_refl _, by go_num, rfl, fun j h1 h2 => by omega⟩
    case round =>
      obtain ⟨k, hk, hkk, hg, rfl, rfl, A⟩ := hrel
      have hkk2 : i < k := by omega
      have hxs := hxs k
      by_cases hlt : k < s.size
      · have hlti : (k : Int) < (s.size : Int) := by omega
        have HBK := hid (bt_get hlt)
        cases q2 : isDg (s[k]'hlt).toNat with
        | true =>
          go_wp2_with (go_at_call 54; refine (isDigit_any _ _).mono ?_; rintro e w' ⟨rfl, rfl⟩)
          go_roundg (s.size - (k + 1))
          case measure => omega
          case rel =>
            refine ⟨k + 1, by omega, by omega, by omega, by go_num, rfl, (show Aside _ from fun j h1 h2 => ?_)⟩
            by_cases e : j = k
            · subst e; rw [← HBK.out]; exact q2
            · exact A.out j h1 (by omega)
        | false =>
          have HK : Hid (nE s i = k) := by
            show nE s i = k
            rw [HK0.out]
            exact HR.out.uniq ⟨hk, A.out, by rw [← HBK.out]; exact q2⟩
          have hik : (i : Int) ≤ (k : Int) := by omega
          have hks : (k : Int) ≤ (s.size : Int) := by omega
          go_wp2_with (go_at_call 54; refine (isDigit_any _ _).mono ?_; rintro e w' ⟨rfl, rfl⟩)
          by_cases hbig : nBig s i
          · have HP := hid (numM_big HN.out hbig)
            have HT := hid (Tryz.strconv_Atoi_range (s.extract i k) (by have := hxs; omega) (by rw [← HK.out, HAT.out, if_pos hbig]) _ (w.alloc (.cells #[.int .i64 0, .int .i64 0] 49)) hv0 (.inr ⟨_, _, rfl⟩))
            clear hbig
            skip
            refine HT.out.mono ?_
            rintro e w1 ⟨N, rfl, -, -, hb⟩
            · have g0 : w1.cell? ⟨w.heap.size, 0, none⟩ = some (.int .i64 0) := (hb.cell (p := ⟨w.heap.size, 0, none⟩) (by simp)).trans (by simp)
              have g1 : w1.cell? ⟨w.heap.size, 1, none⟩ = some (.int .i64 0) := (hb.cell (p := ⟨w.heap.size, 1, none⟩) (by simp)).trans (by simp)
              have z0 : w1.frozen? ⟨w.heap.size, 0, none⟩ = false := (hb.frozen (p := ⟨w.heap.size, 0, none⟩) (by simp)).trans (by simp)
              have z1 : w1.frozen? ⟨w.heap.size, 1, none⟩ = false := (hb.frozen (p := ⟨w.heap.size, 1, none⟩) (by simp)).trans (by simp)
              have hb' := hid hb
              clear hb
              go_wp2_with fail
              rw [HP.out]
              exact bodyPost_ret (v := .tuple #[.int .i64 0, .int .i64 0, .agg #[.int .i64 i, .int .i64 11]]) (by simp [results, Tryz.results55, go_sem, g0, g1]) rfl ⟨rfl, ((((Below.refl _ w).alloc (Nat.le_refl _) _).trans (hb'.out.mono (by simp))).setCell (Nat.le_refl _) _).setCell (Nat.le_refl _) _⟩
          · have HT := hid (atoi_ok (s.extract i k) (by have := hxs; omega) (nN s i) (by rw [← HK.out, HAT.out, if_neg hbig]) (w.alloc (.cells #[.int .i64 0, .int .i64 0] 49)))
            have HBG := hid hbig
            generalize hnn : nN s i = nn at HT
            have HNN := hid hnn
            clear hbig hnn
            skip
            refine HT.out.mono ?_
            rintro e w1 ⟨rfl, hb⟩
            have g0 : w1.cell? ⟨w.heap.size, 0, none⟩ = some (.int .i64 0) := (hb.cell (p := ⟨w.heap.size, 0, none⟩) (by simp)).trans (by simp)
            have g1 : w1.cell? ⟨w.heap.size, 1, none⟩ = some (.int .i64 0) := (hb.cell (p := ⟨w.heap.size, 1, none⟩) (by simp)).trans (by simp)
            have z0 : w1.frozen? ⟨w.heap.size, 0, none⟩ = false := (hb.frozen (p := ⟨w.heap.size, 0, none⟩) (by simp)).trans (by simp)
            have z1 : w1.frozen? ⟨w.heap.size, 1, none⟩ = false := (hb.frozen (p := ⟨w.heap.size, 1, none⟩) (by simp)).trans (by simp)
            have hb' := hid hb
            clear hb
            have HBK := hid (bt_get hlt)
            cases q1 : isSm (s[k]'hlt).toNat with
            | true =>
              go_wp2_with (first | (go_at_call 52; refine (isSmall_any _ _).mono ?_; rintro e w' ⟨rfl, rfl⟩) | (go_at_call 54; refine (isDigit_any _ _).mono ?_; rintro e w' ⟨rfl, rfl⟩))
              rw [show numM s i = .error (k, 10) from by rw [numM_wd HN.out HBG.out (by rw [HK.out, ← HBK.out]; simp [isWd, q1]), HK.out]]
              exact bodyPost_ret (v := .tuple #[.int .i64 0, .int .i64 0, .agg #[.int .i64 k, .int .i64 10]]) (by simp [results, Tryz.results55, go_sem, g0, g1]) rfl ⟨rfl, ((((Below.refl _ w).alloc (Nat.le_refl _) _).trans (hb'.out.mono (by simp))).setCell (Nat.le_refl _) _).setCell (Nat.le_refl _) _⟩
            | false =>
              go_wp2_with (first | (go_at_call 52; refine (isSmall_any _ _).mono ?_; rintro e w' ⟨rfl, rfl⟩) | (go_at_call 54; refine (isDigit_any _ _).mono ?_; rintro e w' ⟨rfl, rfl⟩))
              rw [show numM s i = .ok (nn, k) from by rw [numM_ok HN.out HBG.out (by rw [HK.out, ← HBK.out]; simp [isWd, q1, q2]), HK.out, HNN.out]]
              exact bodyPost_ret (v := .tuple #[.int .i64 nn, .int .i64 k, .agg #[.int .i64 0, .int .i64 0]]) (by simp [results, Tryz.results55, go_sem, g0, g1]) rfl ⟨rfl, ((((Below.refl _ w).alloc (Nat.le_refl _) _).trans (hb'.out.mono (by simp))).setCell (Nat.le_refl _) _).setCell (Nat.le_refl _) _⟩
      · have hlti : ¬ (k : Int) < (s.size : Int) := by omega
        have HK : Hid (nE s i = k) := by
          show nE s i = k
          rw [HK0.out]
          exact HR.out.uniq ⟨hk, A.out, by rw [bt_out hlt]; rfl⟩
        have hik : (i : Int) ≤ (k : Int) := by omega
        have hks : (k : Int) ≤ (s.size : Int) := by omega
        by_cases hbig : nBig s i
        · have HP := hid (numM_big HN.out hbig)
          have HT := hid (Tryz.strconv_Atoi_range (s.extract i k) (by have := hxs; omega) (by rw [← HK.out, HAT.out, if_pos hbig]) _ (w.alloc (.cells #[.int .i64 0, .int .i64 0] 49)) hv0 (.inr ⟨_, _, rfl⟩))
          clear hbig
          go_wp2_with fail
          refine HT.out.mono ?_
          rintro e w1 ⟨N, rfl, -, -, hb⟩
          · have g0 : w1.cell? ⟨w.heap.size, 0, none⟩ = some (.int .i64 0) := (hb.cell (p := ⟨w.heap.size, 0, none⟩) (by simp)).trans (by simp)
            have g1 : w1.cell? ⟨w.heap.size, 1, none⟩ = some (.int .i64 0) := (hb.cell (p := ⟨w.heap.size, 1, none⟩) (by simp)).trans (by simp)
            have z0 : w1.frozen? ⟨w.heap.size, 0, none⟩ = false := (hb.frozen (p := ⟨w.heap.size, 0, none⟩) (by simp)).trans (by simp)
            have z1 : w1.frozen? ⟨w.heap.size, 1, none⟩ = false := (hb.frozen (p := ⟨w.heap.size, 1, none⟩) (by simp)).trans (by simp)
            have hb' := hid hb
            clear hb
            go_wp2_with fail
            rw [HP.out]
            exact bodyPost_ret (v := .tuple #[.int .i64 0, .int .i64 0, .agg #[.int .i64 i, .int .i64 11]]) (by simp [results, Tryz.results55, go_sem, g0, g1]) rfl ⟨rfl, ((((Below.refl _ w).alloc (Nat.le_refl _) _).trans (hb'.out.mono (by simp))).setCell (Nat.le_refl _) _).setCell (Nat.le_refl _) _⟩
        · have HT := hid (atoi_ok (s.extract i k) (by have := hxs; omega) (nN s i) (by rw [← HK.out, HAT.out, if_neg hbig]) (w.alloc (.cells #[.int .i64 0, .int .i64 0] 49)))
          have HBG := hid hbig
          generalize hnn : nN s i = nn at HT
          have HNN := hid hnn
          clear hbig hnn
          go_wp2_with fail
          refine HT.out.mono ?_
          rintro e w1 ⟨rfl, hb⟩
          have g0 : w1.cell? ⟨w.heap.size, 0, none⟩ = some (.int .i64 0) := (hb.cell (p := ⟨w.heap.size, 0, none⟩) (by simp)).trans (by simp)
          have g1 : w1.cell? ⟨w.heap.size, 1, none⟩ = some (.int .i64 0) := (hb.cell (p := ⟨w.heap.size, 1, none⟩) (by simp)).trans (by simp)
          have z0 : w1.frozen? ⟨w.heap.size, 0, none⟩ = false := (hb.frozen (p := ⟨w.heap.size, 0, none⟩) (by simp)).trans (by simp)
          have z1 : w1.frozen? ⟨w.heap.size, 1, none⟩ = false := (hb.frozen (p := ⟨w.heap.size, 1, none⟩) (by simp)).trans (by simp)
          have hb' := hid hb
          clear hb
          have hnk : ¬ (k : Int) < (s.size : Int) := by omega
          go_wp2_with fail
          rw [show numM s i = .ok (nn, k) from by rw [numM_ok HN.out HBG.out (by rw [HK.out, bt_out (by omega)]; rfl), HK.out, HNN.out]]
          exact bodyPost_ret (v := .tuple #[.int .i64 nn, .int .i64 k, .agg #[.int .i64 0, .int .i64 0]]) (by simp [results, Tryz.results55, go_sem, g0, g1]) rfl ⟨rfl, ((((Below.refl _ w).alloc (Nat.le_refl _) _).trans (hb'.out.mono (by simp))).setCell (Nat.le_refl _) _).setCell (Nat.le_refl _) _⟩

end Go.Proofs.YtkpomcimaofkkaaGreatDoor
