/-
  Walk of the scanner's number.
  Lists in memory: slices of elements of some cells, lists that a loop fills by append.
-/
import Derived.Test.YtfgbjghfkdmcjaaGreatDoorF1
import Derived.Lib.AtoiErrMem
import Derived.Lib.SliceRun
import Derived.WalkKit
import Derived.ProofKit
import Derived.Deep.AppendLies
namespace Go.Proofs.YtfgbjghfkdmcjaaGreatDoor
set_option linter.unusedVariables false
set_option linter.unusedSimpArgs false
open Go.RowKit

/-- What number answers. -/
def numVal : Except (Nat × Nat) (Int × Nat) → Value
  | .ok (n, k) => .tuple #[.int .i64 n, .int .i64 k, .agg #[.int .i64 0, .int .i64 0]]
  | .error (a, y) => .tuple #[.int .i64 0, .int .i64 0, .agg #[.int .i64 a, .int .i64 y]]

theorem atoi_ok (s : ByteArray) (hmax : s.size ≤ 9223372036854775806) (v : Int) (h : Lib.atoiAll s.data.toList = .ok v) (w : World) :
    Calls Tryz.prog 54 #[.string s] w fun e w' => e = .returned (.tuple #[.int .i64 v, .nilIface]) ∧ Below w.heap.size w w' :=
  (Tryz.strconv_Atoi_ok s hmax v h w).mono fun e w' ⟨he, hw⟩ => ⟨he, by
    rcases hw with rfl | ⟨t, rfl⟩
    · exact Below.refl _ _
    · exact Lib.bytesWorld_below _ _ _⟩

set_option maxHeartbeats 1000000 in
/-- A minus with no digit from 1 to 9 behind it. -/
theorem number_bad (s : ByteArray) (i : Nat) (w : World) (hs : s.size ≤ 20000) (hi : i < s.size) (h : nBad s i) :
    Calls Tryz.prog 34 #[.string s, .int .i64 i] w fun e w' => e = .returned (numVal (numM s i)) ∧ Below w.heap.size w w' := by
  rw [numM_bad h]
  obtain ⟨h45, hn⟩ := h
  have hf : nF s i = i + 1 := by unfold nF; rw [if_pos h45]
  rw [hf] at hn
  clear hf
  have hii : (i : Int) < (s.size : Int) := by omega
  have c0 : ((((s[i]'hi).toNat : Nat) : Int) == 45) = true := by rw [bt_get hi, h45]; rfl
  have H45 := hid h45
  clear h45
  by_cases h1 : i + 1 < s.size
  · have h1i : ((i : Int) + 1) < (s.size : Int) := by omega
    have ce : (((i : Int) + 1) == (s.size : Int)) = false := beq_eq_false_iff_ne.2 (by omega)
    have hb := hid (bt_get h1)
    by_cases h2 : bt s (i + 1) < 49
    · have c1 : (((s[i + 1]'h1).toNat : Nat) : Int) < 49 := by rw [hb.out]; omega
      clear hn h2
      go_enter Tryz.func34, Tryz.ntmps34
      go_wp2
      exact bodyPost_ret (v := .tuple #[.int .i64 0, .int .i64 0, .agg #[.int .i64 i, .int .i64 10]]) (by simp [results, Tryz.results20, go_sem]) rfl ⟨rfl, (Below.refl _ _).alloc (Nat.le_refl _) _⟩
    · have c1 : ¬ (((s[i + 1]'h1).toNat : Nat) : Int) < 49 := by rw [hb.out]; omega
      have c2 : 57 < (((s[i + 1]'h1).toNat : Nat) : Int) := by rw [hb.out]; omega
      clear hn h2
      go_enter Tryz.func34, Tryz.ntmps34
      go_wp2
      exact bodyPost_ret (v := .tuple #[.int .i64 0, .int .i64 0, .agg #[.int .i64 i, .int .i64 10]]) (by simp [results, Tryz.results20, go_sem]) rfl ⟨rfl, (Below.refl _ _).alloc (Nat.le_refl _) _⟩
  · have ce : (((i : Int) + 1) == (s.size : Int)) = true := beq_iff_eq.2 (by omega)
    clear hn
    go_enter Tryz.func34, Tryz.ntmps34
    go_wp2
    exact bodyPost_ret (v := .tuple #[.int .i64 0, .int .i64 0, .agg #[.int .i64 i, .int .i64 10]]) (by simp [results, Tryz.results20, go_sem]) rfl ⟨rfl, (Below.refl _ _).alloc (Nat.le_refl _) _⟩
/- GOOD -/

set_option maxRecDepth 100000 in
set_option maxHeartbeats 4000000 in
theorem number_pos (s : ByteArray) (i : Nat) (w : World) (hs : s.size ≤ 20000) (hi : i < s.size) (h45 : ¬ bt s i = 45) (hd : isDg (bt s i) = true) (te : TypeId) (pe : Value) (hv : w.cell? ⟨1, 0, none⟩ = some (.iface te pe)) :
    Calls Tryz.prog 34 #[.string s, .int .i64 i] w fun e w' => e = .returned (numVal (numM s i)) ∧ Below w.heap.size w w' := by
  have HN := hid (show ¬ nBad s i from fun h => h45 h.1)
  have HAT := hid (atoi_num hi HN.out (.inr hd))
  have hf : nF s i = i := by unfold nF; rw [if_neg h45]
  have c0 : ((((s[i]'hi).toNat : Nat) : Int) == 45) = false := beq_eq_false_iff_ne.2 (by rw [bt_get hi]; omega)
  have hfl : i < s.size := hi
  have hii : (i : Int) < (s.size : Int) := by omega
  have hE := nE_gt HN.out hi
  rw [hf] at hE
  have hv0 : (w.alloc (.cells #[.int .i64 0, .int .i64 0] 38)).cell? ⟨1, 0, none⟩ = some (.iface te pe) := Lib.cell?_alloc_some _ hv
  have hxs : ∀ k, (s.extract i k).size ≤ 20000 := fun k => by simp; omega
  have HE : Hid (nE s i = if bt s (i) = 48 then i + 1 else dEnd s (i + 1)) := by show nE s i = _; unfold nE; rw [hf]
  have HV := hid hv
  clear h45 hv hd hf
  by_cases hz : bt s (i) = 48
  · have HK0 : Hid (nE s i = i + 1) := by show nE s i = _; rw [HE.out, if_pos hz]
    have c3 : ((((s[i]'hfl).toNat : Nat) : Int) != 48) = false := by rw [bt_get hfl, hz]; rfl
    clear hz HE hE
    go_enter Tryz.func34, Tryz.ntmps34
    go_wp2
    go_loopg [8] 0 (fun g t wr => ∃ k : Nat, k = i + 1 ∧ t = .int .i64 k ∧ wr = w.alloc (.cells #[.int .i64 0, .int .i64 0] 38))
    case atStart => exact ⟨_, rfl, by go_num, rfl⟩
    case round =>
      obtain ⟨k, hk, rfl, rfl⟩ := hrel
      have HK : Hid (nE s i = k) := HK0.out.trans hk.symm
      have hkk : k ≤ s.size := by omega
      have hkk2 : i < k := by omega
      clear hk
      have hxs := hxs k
      have hik : (i : Int) ≤ (k : Int) := by omega
      have hks : (k : Int) ≤ (s.size : Int) := by omega
      by_cases hbig : nBig s i
      · have HP := hid (numM_big HN.out hbig)
        have HT := hid (Tryz.strconv_Atoi_range (s.extract i k) (by have := hxs; omega) (by rw [← HK.out, HAT.out, if_pos hbig]) _ (w.alloc (.cells #[.int .i64 0, .int .i64 0] 38)) hv0 (.inr ⟨_, _, rfl⟩))
        clear hbig
        go_wp2_with fail
        refine HT.out.mono ?_
        rintro e w1 ⟨N, rfl, -, -, hb⟩
        · have g0 : w1.cell? ⟨w.heap.size, 0, none⟩ = some (.int .i64 0) := (hb.cell (p := ⟨w.heap.size, 0, none⟩) (by simp)).trans (by simp)
          have g1 : w1.cell? ⟨w.heap.size, 1, none⟩ = some (.int .i64 0) := (hb.cell (p := ⟨w.heap.size, 1, none⟩) (by simp)).trans (by simp)
          have z0 : w1.frozen? ⟨w.heap.size, 0, none⟩ = false := (hb.frozen (p := ⟨w.heap.size, 0, none⟩) (by simp)).trans (by simp)
          have z1 : w1.frozen? ⟨w.heap.size, 1, none⟩ = false := (hb.frozen (p := ⟨w.heap.size, 1, none⟩) (by simp)).trans (by simp)
          have hb' := hid hb
          clear hb
          go_wp2_with fail
          rw [HP.out]
          exact bodyPost_ret (v := .tuple #[.int .i64 0, .int .i64 0, .agg #[.int .i64 i, .int .i64 11]]) (by simp [results, Tryz.results20, go_sem, g0, g1]) rfl ⟨rfl, ((((Below.refl _ w).alloc (Nat.le_refl _) _).trans (hb'.out.mono (by simp))).setCell (Nat.le_refl _) _).setCell (Nat.le_refl _) _⟩
      · have HT := hid (atoi_ok (s.extract i k) (by have := hxs; omega) (nN s i) (by rw [← HK.out, HAT.out, if_neg hbig]) (w.alloc (.cells #[.int .i64 0, .int .i64 0] 38)))
        have HBG := hid hbig
        generalize hnn : nN s i = nn at HT
        have HNN := hid hnn
        clear hbig hnn
        go_wp2_with fail
        refine HT.out.mono ?_
        rintro e w1 ⟨rfl, hb⟩
        have g0 : w1.cell? ⟨w.heap.size, 0, none⟩ = some (.int .i64 0) := (hb.cell (p := ⟨w.heap.size, 0, none⟩) (by simp)).trans (by simp)
        have g1 : w1.cell? ⟨w.heap.size, 1, none⟩ = some (.int .i64 0) := (hb.cell (p := ⟨w.heap.size, 1, none⟩) (by simp)).trans (by simp)
        have z0 : w1.frozen? ⟨w.heap.size, 0, none⟩ = false := (hb.frozen (p := ⟨w.heap.size, 0, none⟩) (by simp)).trans (by simp)
        have z1 : w1.frozen? ⟨w.heap.size, 1, none⟩ = false := (hb.frozen (p := ⟨w.heap.size, 1, none⟩) (by simp)).trans (by simp)
        have hb' := hid hb
        clear hb
        by_cases hlt : k < s.size
        · have hlti : (k : Int) < (s.size : Int) := by omega
          have HBK := hid (bt_get hlt)
          cases q1 : isSm (s[k]'hlt).toNat with
          | true =>
            go_wp2_with (first | (go_at_call 31; refine (isSmall_any _ _).mono ?_; rintro e w' ⟨rfl, rfl⟩) | (go_at_call 33; refine (isDigit_any _ _).mono ?_; rintro e w' ⟨rfl, rfl⟩))
            rw [show numM s i = .error (k, 10) from by rw [numM_wd HN.out HBG.out (by rw [HK.out, ← HBK.out]; simp [isWd, q1]), HK.out]]
            exact bodyPost_ret (v := .tuple #[.int .i64 0, .int .i64 0, .agg #[.int .i64 k, .int .i64 10]]) (by simp [results, Tryz.results20, go_sem, g0, g1]) rfl ⟨rfl, ((((Below.refl _ w).alloc (Nat.le_refl _) _).trans (hb'.out.mono (by simp))).setCell (Nat.le_refl _) _).setCell (Nat.le_refl _) _⟩
          | false =>
            cases q2 : isDg (s[k]'hlt).toNat with
            | true =>
              go_wp2_with (first | (go_at_call 31; refine (isSmall_any _ _).mono ?_; rintro e w' ⟨rfl, rfl⟩) | (go_at_call 33; refine (isDigit_any _ _).mono ?_; rintro e w' ⟨rfl, rfl⟩))
              rw [show numM s i = .error (k, 10) from by rw [numM_wd HN.out HBG.out (by rw [HK.out, ← HBK.out]; simp [isWd, q1, q2]), HK.out]]
              exact bodyPost_ret (v := .tuple #[.int .i64 0, .int .i64 0, .agg #[.int .i64 k, .int .i64 10]]) (by simp [results, Tryz.results20, go_sem, g0, g1]) rfl ⟨rfl, ((((Below.refl _ w).alloc (Nat.le_refl _) _).trans (hb'.out.mono (by simp))).setCell (Nat.le_refl _) _).setCell (Nat.le_refl _) _⟩
            | false =>
              go_wp2_with (first | (go_at_call 31; refine (isSmall_any _ _).mono ?_; rintro e w' ⟨rfl, rfl⟩) | (go_at_call 33; refine (isDigit_any _ _).mono ?_; rintro e w' ⟨rfl, rfl⟩))
              rw [show numM s i = .ok (nn, k) from by rw [numM_ok HN.out HBG.out (by rw [HK.out, ← HBK.out]; simp [isWd, q1, q2]), HK.out, HNN.out]]
              exact bodyPost_ret (v := .tuple #[.int .i64 nn, .int .i64 k, .agg #[.int .i64 0, .int .i64 0]]) (by simp [results, Tryz.results20, go_sem, g0, g1]) rfl ⟨rfl, ((((Below.refl _ w).alloc (Nat.le_refl _) _).trans (hb'.out.mono (by simp))).setCell (Nat.le_refl _) _).setCell (Nat.le_refl _) _⟩
        · have hnk : ¬ (k : Int) < (s.size : Int) := by omega
          go_wp2_with fail
          rw [show numM s i = .ok (nn, k) from by rw [numM_ok HN.out HBG.out (by rw [HK.out, bt_out hlt]; rfl), HK.out, HNN.out]]
          exact bodyPost_ret (v := .tuple #[.int .i64 nn, .int .i64 k, .agg #[.int .i64 0, .int .i64 0]]) (by simp [results, Tryz.results20, go_sem, g0, g1]) rfl ⟨rfl, ((((Below.refl _ w).alloc (Nat.le_refl _) _).trans (hb'.out.mono (by simp))).setCell (Nat.le_refl _) _).setCell (Nat.le_refl _) _⟩
  · have HK0 : Hid (nE s i = dEnd s (i + 1)) := by show nE s i = _; rw [HE.out, if_neg hz]
    have HR := hid (dEnd_is s (i + 1))
    have c3 : ((((s[i]'hfl).toNat : Nat) : Int) != 48) = true := by rw [bne_iff_ne, bt_get hfl]; omega
    clear hz HE hE
    go_enter Tryz.func34, Tryz.ntmps34
    go_wp2
    go_loopg [8] (s.size - (i + 1)) (fun g t wr => ∃ k : Nat, i + 1 ≤ k ∧ k ≤ s.size ∧ s.size - k ≤ g ∧ t = .int .i64 k ∧ wr = w.alloc (.cells #[.int .i64 0, .int .i64 0] 38) ∧ Aside (∀ j, i + 1 ≤ j → j < k → isDg (bt s j) = true))
    case atStart => exact ⟨_, Nat.le_refl _, by omega, Nat.le_refl _, by go_num, rfl, fun j h1 h2 => by omega⟩
    case round =>
      obtain ⟨k, hk, hkk, hg, rfl, rfl, A⟩ := hrel
      have hkk2 : i < k := by omega
      have hxs := hxs k
      by_cases hlt : k < s.size
      · have hlti : (k : Int) < (s.size : Int) := by omega
        have HBK := hid (bt_get hlt)
        cases q2 : isDg (s[k]'hlt).toNat with
        | true =>
          go_wp2_with (go_at_call 33; refine (isDigit_any _ _).mono ?_; rintro e w' ⟨rfl, rfl⟩)
          go_roundg (s.size - (k + 1))
          case measure => omega
          case rel =>
            refine ⟨k + 1, by omega, by omega, by omega, by go_num, rfl, (show Aside _ from fun j h1 h2 => ?_)⟩
            by_cases e : j = k
            · subst e; rw [← HBK.out]; exact q2
            · exact A.out j h1 (by omega)
        | false =>
          have HK : Hid (nE s i = k) := by
            show nE s i = k
            rw [HK0.out]
            exact HR.out.uniq ⟨hk, A.out, by rw [← HBK.out]; exact q2⟩
          have hik : (i : Int) ≤ (k : Int) := by omega
          have hks : (k : Int) ≤ (s.size : Int) := by omega
          go_wp2_with (go_at_call 33; refine (isDigit_any _ _).mono ?_; rintro e w' ⟨rfl, rfl⟩)
          by_cases hbig : nBig s i
          · have HP := hid (numM_big HN.out hbig)
            have HT := hid (Tryz.strconv_Atoi_range (s.extract i k) (by have := hxs; omega) (by rw [← HK.out, HAT.out, if_pos hbig]) _ (w.alloc (.cells #[.int .i64 0, .int .i64 0] 38)) hv0 (.inr ⟨_, _, rfl⟩))
            clear hbig
            skip
            refine HT.out.mono ?_
            rintro e w1 ⟨N, rfl, -, -, hb⟩
            · have g0 : w1.cell? ⟨w.heap.size, 0, none⟩ = some (.int .i64 0) := (hb.cell (p := ⟨w.heap.size, 0, none⟩) (by simp)).trans (by simp)
              have g1 : w1.cell? ⟨w.heap.size, 1, none⟩ = some (.int .i64 0) := (hb.cell (p := ⟨w.heap.size, 1, none⟩) (by simp)).trans (by simp)
              have z0 : w1.frozen? ⟨w.heap.size, 0, none⟩ = false := (hb.frozen (p := ⟨w.heap.size, 0, none⟩) (by simp)).trans (by simp)
              have z1 : w1.frozen? ⟨w.heap.size, 1, none⟩ = false := (hb.frozen (p := ⟨w.heap.size, 1, none⟩) (by simp)).trans (by simp)
              have hb' := hid hb
              clear hb
              go_wp2_with fail
              rw [HP.out]
              exact bodyPost_ret (v := .tuple #[.int .i64 0, .int .i64 0, .agg #[.int .i64 i, .int .i64 11]]) (by simp [results, Tryz.results20, go_sem, g0, g1]) rfl ⟨rfl, ((((Below.refl _ w).alloc (Nat.le_refl _) _).trans (hb'.out.mono (by simp))).setCell (Nat.le_refl _) _).setCell (Nat.le_refl _) _⟩
          · have HT := hid (atoi_ok (s.extract i k) (by have := hxs; omega) (nN s i) (by rw [← HK.out, HAT.out, if_neg hbig]) (w.alloc (.cells #[.int .i64 0, .int .i64 0] 38)))
            have HBG := hid hbig
            generalize hnn : nN s i = nn at HT
            have HNN := hid hnn
            clear hbig hnn
            skip
            refine HT.out.mono ?_
            rintro e w1 ⟨rfl, hb⟩
            have g0 : w1.cell? ⟨w.heap.size, 0, none⟩ = some (.int .i64 0) := (hb.cell (p := ⟨w.heap.size, 0, none⟩) (by simp)).trans (by simp)
            have g1 : w1.cell? ⟨w.heap.size, 1, none⟩ = some (.int .i64 0) := (hb.cell (p := ⟨w.heap.size, 1, none⟩) (by simp)).trans (by simp)
            have z0 : w1.frozen? ⟨w.heap.size, 0, none⟩ = false := (hb.frozen (p := ⟨w.heap.size, 0, none⟩) (by simp)).trans (by simp)
            have z1 : w1.frozen? ⟨w.heap.size, 1, none⟩ = false := (hb.frozen (p := ⟨w.heap.size, 1, none⟩) (by simp)).trans (by simp)
            have hb' := hid hb
            clear hb
            have HBK := hid (bt_get hlt)
            cases q1 : isSm (s[k]'hlt).toNat with
            | true =>
              go_wp2_with (first | (go_at_call 31; refine (isSmall_any _ _).mono ?_; rintro e w' ⟨rfl, rfl⟩) | (go_at_call 33; refine (isDigit_any _ _).mono ?_; rintro e w' ⟨rfl, rfl⟩))
              rw [show numM s i = .error (k, 10) from by rw [numM_wd HN.out HBG.out (by rw [HK.out, ← HBK.out]; simp [isWd, q1]), HK.out]]
              exact bodyPost_ret (v := .tuple #[.int .i64 0, .int .i64 0, .agg #[.int .i64 k, .int .i64 10]]) (by simp [results, Tryz.results20, go_sem, g0, g1]) rfl ⟨rfl, ((((Below.refl _ w).alloc (Nat.le_refl _) _).trans (hb'.out.mono (by simp))).setCell (Nat.le_refl _) _).setCell (Nat.le_refl _) _⟩
            | false =>
              go_wp2_with (first | (go_at_call 31; refine (isSmall_any _ _).mono ?_; rintro e w' ⟨rfl, rfl⟩) | (go_at_call 33; refine (isDigit_any _ _).mono ?_; rintro e w' ⟨rfl, rfl⟩))
              rw [show numM s i = .ok (nn, k) from by rw [numM_ok HN.out HBG.out (by rw [HK.out, ← HBK.out]; simp [isWd, q1, q2]), HK.out, HNN.out]]
              exact bodyPost_ret (v := .tuple #[.int .i64 nn, .int .i64 k, .agg #[.int .i64 0, .int .i64 0]]) (by simp [results, Tryz.results20, go_sem, g0, g1]) rfl ⟨rfl, ((((Below.refl _ w).alloc (Nat.le_refl _) _).trans (hb'.out.mono (by simp))).setCell (Nat.le_refl _) _).setCell (Nat.le_refl _) _⟩
      · have hlti : ¬ (k : Int) < (s.size : Int) := by omega
        have HK : Hid (nE s i = k) := by
          show nE s i = k
          rw [HK0.out]
          exact HR.out.uniq ⟨hk, A.out, by rw [bt_out hlt]; rfl⟩
        have hik : (i : Int) ≤ (k : Int) := by omega
        have hks : (k : Int) ≤ (s.size : Int) := by omega
        by_cases hbig : nBig s i
        · have HP := hid (numM_big HN.out hbig)
          have HT := hid (Tryz.strconv_Atoi_range (s.extract i k) (by have := hxs; omega) (by rw [← HK.out, HAT.out, if_pos hbig]) _ (w.alloc (.cells #[.int .i64 0, .int .i64 0] 38)) hv0 (.inr ⟨_, _, rfl⟩))
          clear hbig
          go_wp2_with fail
          refine HT.out.mono ?_
          rintro e w1 ⟨N, rfl, -, -, hb⟩
          · have g0 : w1.cell? ⟨w.heap.size, 0, none⟩ = some (.int .i64 0) := (hb.cell (p := ⟨w.heap.size, 0, none⟩) (by simp)).trans (by simp)
            have g1 : w1.cell? ⟨w.heap.size, 1, none⟩ = some (.int .i64 0) := (hb.cell (p := ⟨w.heap.size, 1, none⟩) (by simp)).trans (by simp)
            have z0 : w1.frozen? ⟨w.heap.size, 0, none⟩ = false := (hb.frozen (p := ⟨w.heap.size, 0, none⟩) (by simp)).trans (by simp)
            have z1 : w1.frozen? ⟨w.heap.size, 1, none⟩ = false := (hb.frozen (p := ⟨w.heap.size, 1, none⟩) (by simp)).trans (by simp)
            have hb' := hid hb
            clear hb
            go_wp2_with fail
            rw [HP.out]
            exact bodyPost_ret (v := .tuple #[.int .i64 0, .int .i64 0, .agg #[.int .i64 i, .int .i64 11]]) (by simp [results, Tryz.results20, go_sem, g0, g1]) rfl ⟨rfl, ((((Below.refl _ w).alloc (Nat.le_refl _) _).trans (hb'.out.mono (by simp))).setCell (Nat.le_refl _) _).setCell (Nat.le_refl _) _⟩
        · have HT := hid (atoi_ok (s.extract i k) (by have := hxs; omega) (nN s i) (by rw [← HK.out, HAT.out, if_neg hbig]) (w.alloc (.cells #[.int .i64 0, .int .i64 0] 38)))
          have HBG := hid hbig
          generalize hnn : nN s i = nn at HT
          have HNN := hid hnn
          clear hbig hnn
          go_wp2_with fail
          refine HT.out.mono ?_
          rintro e w1 ⟨rfl, hb⟩
          have g0 : w1.cell? ⟨w.heap.size, 0, none⟩ = some (.int .i64 0) := (hb.cell (p := ⟨w.heap.size, 0, none⟩) (by simp)).trans (by simp)
          have g1 : w1.cell? ⟨w.heap.size, 1, none⟩ = some (.int .i64 0) := (hb.cell (p := ⟨w.heap.size, 1, none⟩) (by simp)).trans (by simp)
          have z0 : w1.frozen? ⟨w.heap.size, 0, none⟩ = false := (hb.frozen (p := ⟨w.heap.size, 0, none⟩) (by simp)).trans (by simp)
          have z1 : w1.frozen? ⟨w.heap.size, 1, none⟩ = false := (hb.frozen (p := ⟨w.heap.size, 1, none⟩) (by simp)).trans (by simp)
          have hb' := hid hb
          clear hb
          have hnk : ¬ (k : Int) < (s.size : Int) := by omega
          go_wp2_with fail
          rw [show numM s i = .ok (nn, k) from by rw [numM_ok HN.out HBG.out (by rw [HK.out, bt_out (by omega)]; rfl), HK.out, HNN.out]]
          exact bodyPost_ret (v := .tuple #[.int .i64 nn, .int .i64 k, .agg #[.int .i64 0, .int .i64 0]]) (by simp [results, Tryz.results20, go_sem, g0, g1]) rfl ⟨rfl, ((((Below.refl _ w).alloc (Nat.le_refl _) _).trans (hb'.out.mono (by simp))).setCell (Nat.le_refl _) _).setCell (Nat.le_refl _) _⟩

set_option maxRecDepth 100000 in
set_option maxHeartbeats 4000000 in
theorem number_neg (s : ByteArray) (i : Nat) (w : World) (hs : s.size ≤ 20000) (hi : i < s.size) (h45 : bt s i = 45) (hg : ¬ nBad s i) (te : TypeId) (pe : Value) (hv : w.cell? ⟨1, 0, none⟩ = some (.iface te pe)) :
    Calls Tryz.prog 34 #[.string s, .int .i64 i] w fun e w' => e = .returned (numVal (numM s i)) ∧ Below w.heap.size w w' := by
  have HN := hid hg
  have HAT := hid (atoi_num hi HN.out (.inl h45))
  have hf : nF s i = i + 1 := by unfold nF; rw [if_pos h45]
  have c0 : ((((s[i]'hi).toNat : Nat) : Int) == 45) = true := by rw [bt_get hi, h45]; rfl
  have hfl : i + 1 < s.size := by have := (nE_gt hg hi).2.2.2; omega
  have hb49 : 49 ≤ bt s (i + 1) ∧ bt s (i + 1) ≤ 57 := by unfold nBad at hg; rw [hf] at hg; omega
  have ce : (((i : Int) + 1) == (s.size : Int)) = false := beq_eq_false_iff_ne.2 (by omega)
  have c1 : ¬ (((s[i + 1]'hfl).toNat : Nat) : Int) < 49 := by rw [bt_get hfl]; omega
  have c2 : ¬ 57 < (((s[i + 1]'hfl).toNat : Nat) : Int) := by rw [bt_get hfl]; omega
  have h1i : ((i : Int) + 1) < (s.size : Int) := by omega
  clear hg hb49
  have hii : (i : Int) < (s.size : Int) := by omega
  have hE := nE_gt HN.out hi
  rw [hf] at hE
  have hv0 : (w.alloc (.cells #[.int .i64 0, .int .i64 0] 38)).cell? ⟨1, 0, none⟩ = some (.iface te pe) := Lib.cell?_alloc_some _ hv
  have hxs : ∀ k, (s.extract i k).size ≤ 20000 := fun k => by simp; omega
  have HE : Hid (nE s i = if bt s (i + 1) = 48 then i + 1 + 1 else dEnd s (i + 1 + 1)) := by show nE s i = _; unfold nE; rw [hf]
  have HV := hid hv
  clear h45 hv hf
  by_cases hz : bt s (i + 1) = 48
  · have HK0 : Hid (nE s i = i + 1 + 1) := by show nE s i = _; rw [HE.out, if_pos hz]
    have c3 : ((((s[i + 1]'hfl).toNat : Nat) : Int) != 48) = false := by rw [bt_get hfl, hz]; rfl
    clear hz HE hE
    go_enter Tryz.func34, Tryz.ntmps34
    go_wp2
    go_loopg [8] 0 (fun g t wr => ∃ k : Nat, k = i + 1 + 1 ∧ t = .int .i64 k ∧ wr = w.alloc (.cells #[.int .i64 0, .int .i64 0] 38))
    case atStart => exact ⟨_, rfl, by go_num, rfl⟩
    case round =>
      obtain ⟨k, hk, rfl, rfl⟩ := hrel
      have HK : Hid (nE s i = k) := HK0.out.trans hk.symm
      have hkk : k ≤ s.size := by omega
      have hkk2 : i < k := by omega
      clear hk
      have hxs := hxs k
      have hik : (i : Int) ≤ (k : Int) := by omega
      have hks : (k : Int) ≤ (s.size : Int) := by omega
      by_cases hbig : nBig s i
      · have HP := hid (numM_big HN.out hbig)
        have HT := hid (Tryz.strconv_Atoi_range (s.extract i k) (by have := hxs; omega) (by rw [← HK.out, HAT.out, if_pos hbig]) _ (w.alloc (.cells #[.int .i64 0, .int .i64 0] 38)) hv0 (.inr ⟨_, _, rfl⟩))
        clear hbig
        go_wp2_with fail
        refine HT.out.mono ?_
        rintro e w1 ⟨N, rfl, -, -, hb⟩
        · have g0 : w1.cell? ⟨w.heap.size, 0, none⟩ = some (.int .i64 0) := (hb.cell (p := ⟨w.heap.size, 0, none⟩) (by simp)).trans (by simp)
          have g1 : w1.cell? ⟨w.heap.size, 1, none⟩ = some (.int .i64 0) := (hb.cell (p := ⟨w.heap.size, 1, none⟩) (by simp)).trans (by simp)
          have z0 : w1.frozen? ⟨w.heap.size, 0, none⟩ = false := (hb.frozen (p := ⟨w.heap.size, 0, none⟩) (by simp)).trans (by simp)
          have z1 : w1.frozen? ⟨w.heap.size, 1, none⟩ = false := (hb.frozen (p := ⟨w.heap.size, 1, none⟩) (by simp)).trans (by simp)
          have hb' := hid hb
          clear hb
          go_wp2_with fail
          rw [HP.out]
          exact bodyPost_ret (v := .tuple #[.int .i64 0, .int .i64 0, .agg #[.int .i64 i, .int .i64 11]]) (by simp [results, Tryz.results20, go_sem, g0, g1]) rfl ⟨rfl, ((((Below.refl _ w).alloc (Nat.le_refl _) _).trans (hb'.out.mono (by simp))).setCell (Nat.le_refl _) _).setCell (Nat.le_refl _) _⟩
      · have HT := hid (atoi_ok (s.extract i k) (by have := hxs; omega) (nN s i) (by rw [← HK.out, HAT.out, if_neg hbig]) (w.alloc (.cells #[.int .i64 0, .int .i64 0] 38)))
        have HBG := hid hbig
        generalize hnn : nN s i = nn at HT
        have HNN := hid hnn
        clear hbig hnn
        go_wp2_with fail
        refine HT.out.mono ?_
        rintro e w1 ⟨rfl, hb⟩
        have g0 : w1.cell? ⟨w.heap.size, 0, none⟩ = some (.int .i64 0) := (hb.cell (p := ⟨w.heap.size, 0, none⟩) (by simp)).trans (by simp)
        have g1 : w1.cell? ⟨w.heap.size, 1, none⟩ = some (.int .i64 0) := (hb.cell (p := ⟨w.heap.size, 1, none⟩) (by simp)).trans (by simp)
        have z0 : w1.frozen? ⟨w.heap.size, 0, none⟩ = false := (hb.frozen (p := ⟨w.heap.size, 0, none⟩) (by simp)).trans (by simp)
        have z1 : w1.frozen? ⟨w.heap.size, 1, none⟩ = false := (hb.frozen (p := ⟨w.heap.size, 1, none⟩) (by simp)).trans (by simp)
        have hb' := hid hb
        clear hb
        by_cases hlt : k < s.size
        · have hlti : (k : Int) < (s.size : Int) := by omega
          have HBK := hid (bt_get hlt)
          cases q1 : isSm (s[k]'hlt).toNat with
          | true =>
            go_wp2_with (first | (go_at_call 31; refine (isSmall_any _ _).mono ?_; rintro e w' ⟨rfl, rfl⟩) | (go_at_call 33; refine (isDigit_any _ _).mono ?_; rintro e w' ⟨rfl, rfl⟩))
            rw [show numM s i = .error (k, 10) from by rw [numM_wd HN.out HBG.out (by rw [HK.out, ← HBK.out]; simp [isWd, q1]), HK.out]]
            exact bodyPost_ret (v := .tuple #[.int .i64 0, .int .i64 0, .agg #[.int .i64 k, .int .i64 10]]) (by simp [results, Tryz.results20, go_sem, g0, g1]) rfl ⟨rfl, ((((Below.refl _ w).alloc (Nat.le_refl _) _).trans (hb'.out.mono (by simp))).setCell (Nat.le_refl _) _).setCell (Nat.le_refl _) _⟩
          | false =>
            cases q2 : isDg (s[k]'hlt).toNat with
            | true =>
              go_wp2_with (first | (go_at_call 31; refine (isSmall_any _ _).mono ?_; rintro e w' ⟨rfl, rfl⟩) | (go_at_call 33; refine (isDigit_any _ _).mono ?_; rintro e w' ⟨rfl, rfl⟩))
              rw [show numM s i = .error (k, 10) from by rw [numM_wd HN.out HBG.out (by rw [HK.out, ← HBK.out]; simp [isWd, q1, q2]), HK.out]]
              exact bodyPost_ret (v := .tuple #[.int .i64 0, .int .i64 0, .agg #[.int .i64 k, .int .i64 10]]) (by simp [results, Tryz.results20, go_sem, g0, g1]) rfl ⟨rfl, ((((Below.refl _ w).alloc (Nat.le_refl _) _).trans (hb'.out.mono (by simp))).setCell (Nat.le_refl _) _).setCell (Nat.le_refl _) _⟩
            | false =>
              go_wp2_with (first | (go_at_call 31; refine (isSmall_any _ _).mono ?_; rintro e w' ⟨rfl, rfl⟩) | (go_at_call 33; refine (isDigit_any _ _).mono ?_; rintro e w' ⟨rfl, rfl⟩))
              rw [show numM s i = .ok (nn, k) from by rw [numM_ok HN.out HBG.out (by rw [HK.out, ← HBK.out]; simp [isWd, q1, q2]), HK.out, HNN.out]]
              exact bodyPost_ret (v := .tuple #[.int .i64 nn, .int .i64 k, .agg #[.int .i64 0, .int .i64 0]]) (by simp [results, Tryz.results20, go_sem, g0, g1]) rfl ⟨rfl, ((((Below.refl _ w).alloc (Nat.le_refl _) _).trans (hb'.out.mono (by simp))).setCell (Nat.le_refl _) _).setCell (Nat.le_refl _) _⟩
        · have hnk : ¬ (k : Int) < (s.size : Int) := by omega
          go_wp2_with fail
          rw [show numM s i = .ok (nn, k) from by rw [numM_ok HN.out HBG.out (by rw [HK.out, bt_out hlt]; rfl), HK.out, HNN.out]]
          exact bodyPost_ret (v := .tuple #[.int .i64 nn, .int .i64 k, .agg #[.int .i64 0, .int .i64 0]]) (by simp [results, Tryz.results20, go_sem, g0, g1]) rfl ⟨rfl, ((((Below.refl _ w).alloc (Nat.le_refl _) _).trans (hb'.out.mono (by simp))).setCell (Nat.le_refl _) _).setCell (Nat.le_refl _) _⟩
  · have HK0 : Hid (nE s i = dEnd s (i + 1 + 1)) := by show nE s i = _; rw [HE.out, if_neg hz]
    have HR := hid (dEnd_is s (i + 1 + 1))
    have c3 : ((((s[i + 1]'hfl).toNat : Nat) : Int) != 48) = true := by rw [bne_iff_ne, bt_get hfl]; omega
    clear hz HE hE
    go_enter Tryz.func34, Tryz.ntmps34
    go_wp2
    go_loopg [8] (s.size - (i + 1 + 1)) (fun g t wr => ∃ k : Nat, i + 1 + 1 ≤ k ∧ k ≤ s.size ∧ s.size - k ≤ g ∧ t = .int .i64 k ∧ wr = w.alloc (.cells #[.int .i64 0, .int .i64 0] 38) ∧ Aside (∀ j, i + 1 + 1 ≤ j → j < k → isDg (bt s j) = true))
    case atStart => exact ⟨_, Nat.le_refl _, by omega, Nat.le_refl _, by go_num, rfl, fun j h1 h2 => by omega⟩
    case round =>
      obtain ⟨k, hk, hkk, hg, rfl, rfl, A⟩ := hrel
      have hkk2 : i < k := by omega
      have hxs := hxs k
      by_cases hlt : k < s.size
      · have hlti : (k : Int) < (s.size : Int) := by omega
        have HBK := hid (bt_get hlt)
        cases q2 : isDg (s[k]'hlt).toNat with
        | true =>
          go_wp2_with (go_at_call 33; refine (isDigit_any _ _).mono ?_; rintro e w' ⟨rfl, rfl⟩)
          go_roundg (s.size - (k + 1))
          case measure => omega
          case rel =>
            refine ⟨k + 1, by omega, by omega, by omega, by go_num, rfl, (show Aside _ from fun j h1 h2 => ?_)⟩
            by_cases e : j = k
            · subst e; rw [← HBK.out]; exact q2
            · exact A.out j h1 (by omega)
        | false =>
          have HK : Hid (nE s i = k) := by
            show nE s i = k
            rw [HK0.out]
            exact HR.out.uniq ⟨hk, A.out, by rw [← HBK.out]; exact q2⟩
          have hik : (i : Int) ≤ (k : Int) := by omega
          have hks : (k : Int) ≤ (s.size : Int) := by omega
          go_wp2_with (go_at_call 33; refine (isDigit_any _ _).mono ?_; rintro e w' ⟨rfl, rfl⟩)
          by_cases hbig : nBig s i
          · have HP := hid (numM_big HN.out hbig)
            have HT := hid (Tryz.strconv_Atoi_range (s.extract i k) (by have := hxs; omega) (by rw [← HK.out, HAT.out, if_pos hbig]) _ (w.alloc (.cells #[.int .i64 0, .int .i64 0] 38)) hv0 (.inr ⟨_, _, rfl⟩))
            clear hbig
            skip
            refine HT.out.mono ?_
            rintro e w1 ⟨N, rfl, -, -, hb⟩
            · have g0 : w1.cell? ⟨w.heap.size, 0, none⟩ = some (.int .i64 0) := (hb.cell (p := ⟨w.heap.size, 0, none⟩) (by simp)).trans (by simp)
              have g1 : w1.cell? ⟨w.heap.size, 1, none⟩ = some (.int .i64 0) := (hb.cell (p := ⟨w.heap.size, 1, none⟩) (by simp)).trans (by simp)
              have z0 : w1.frozen? ⟨w.heap.size, 0, none⟩ = false := (hb.frozen (p := ⟨w.heap.size, 0, none⟩) (by simp)).trans (by simp)
              have z1 : w1.frozen? ⟨w.heap.size, 1, none⟩ = false := (hb.frozen (p := ⟨w.heap.size, 1, none⟩) (by simp)).trans (by simp)
              have hb' := hid hb
              clear hb
              go_wp2_with fail
              rw [HP.out]
              exact bodyPost_ret (v := .tuple #[.int .i64 0, .int .i64 0, .agg #[.int .i64 i, .int .i64 11]]) (by simp [results, Tryz.results20, go_sem, g0, g1]) rfl ⟨rfl, ((((Below.refl _ w).alloc (Nat.le_refl _) _).trans (hb'.out.mono (by simp))).setCell (Nat.le_refl _) _).setCell (Nat.le_refl _) _⟩
          · have HT := hid (atoi_ok (s.extract i k) (by have := hxs; omega) (nN s i) (by rw [← HK.out, HAT.out, if_neg hbig]) (w.alloc (.cells #[.int .i64 0, .int .i64 0] 38)))
            have HBG := hid hbig
            generalize hnn : nN s i = nn at HT
            have HNN := hid hnn
            clear hbig hnn
            skip
            refine HT.out.mono ?_
            rintro e w1 ⟨rfl, hb⟩
            have g0 : w1.cell? ⟨w.heap.size, 0, none⟩ = some (.int .i64 0) := (hb.cell (p := ⟨w.heap.size, 0, none⟩) (by simp)).trans (by simp)
            have g1 : w1.cell? ⟨w.heap.size, 1, none⟩ = some (.int .i64 0) := (hb.cell (p := ⟨w.heap.size, 1, none⟩) (by simp)).trans (by simp)
            have z0 : w1.frozen? ⟨w.heap.size, 0, none⟩ = false := (hb.frozen (p := ⟨w.heap.size, 0, none⟩) (by simp)).trans (by simp)
            have z1 : w1.frozen? ⟨w.heap.size, 1, none⟩ = false := (hb.frozen (p := ⟨w.heap.size, 1, none⟩) (by simp)).trans (by simp)
            have hb' := hid hb
            clear hb
            have HBK := hid (bt_get hlt)
            cases q1 : isSm (s[k]'hlt).toNat with
            | true =>
              go_wp2_with (first | (go_at_call 31; refine (isSmall_any _ _).mono ?_; rintro e w' ⟨rfl, rfl⟩) | (go_at_call 33; refine (isDigit_any _ _).mono ?_; rintro e w' ⟨rfl, rfl⟩))
              rw [show numM s i = .error (k, 10) from by rw [numM_wd HN.out HBG.out (by rw [HK.out, ← HBK.out]; simp [isWd, q1]), HK.out]]
              exact bodyPost_ret (v := .tuple #[.int .i64 0, .int .i64 0, .agg #[.int .i64 k, .int .i64 10]]) (by simp [results, Tryz.results20, go_sem, g0, g1]) rfl ⟨rfl, ((((Below.refl _ w).alloc (Nat.le_refl _) _).trans (hb'.out.mono (by simp))).setCell (Nat.le_refl _) _).setCell (Nat.le_refl _) _⟩
            | false =>
              go_wp2_with (first | (go_at_call 31; refine (isSmall_any _ _).mono ?_; rintro e w' ⟨rfl, rfl⟩) | (go_at_call 33; refine (isDigit_any _ _).mono ?_; rintro e w' ⟨rfl, rfl⟩))
              rw [show numM s i = .ok (nn, k) from by rw [numM_ok HN.out HBG.out (by rw [HK.out, ← HBK.out]; simp [isWd, q1, q2]), HK.out, HNN.out]]
              exact bodyPost_ret (v := .tuple #[.int .i64 nn, .int .i64 k, .agg #[.int .i64 0, .int .i64 0]]) (by simp [results, Tryz.results20, go_sem, g0, g1]) rfl ⟨rfl, ((((Below.refl _ w).alloc (Nat.le_refl _) _).trans (hb'.out.mono (by simp))).setCell (Nat.le_refl _) _).setCell (Nat.le_refl _) _⟩
      · have hlti : ¬ (k : Int) < (s.size : Int) := by omega
        have HK : Hid (nE s i = k) := by
          show nE s i = k
          rw [HK0.out]
          exact HR.out.uniq ⟨hk, A.out, by rw [bt_out hlt]; rfl⟩
        have hik : (i : Int) ≤ (k : Int) := by omega
        have hks : (k : Int) ≤ (s.size : Int) := by omega
        by_cases hbig : nBig s i
        · have HP := hid (numM_big HN.out hbig)
          have HT := hid (Tryz.strconv_Atoi_range (s.extract i k) (by have := hxs; omega) (by rw [← HK.out, HAT.out, if_pos hbig]) _ (w.alloc (.cells #[.int .i64 0, .int .i64 0] 38)) hv0 (.inr ⟨_, _, rfl⟩))
          clear hbig
          go_wp2_with fail
          refine HT.out.mono ?_
          rintro e w1 ⟨N, rfl, -, -, hb⟩
          · have g0 : w1.cell? ⟨w.heap.size, 0, none⟩ = some (.int .i64 0) := (hb.cell (p := ⟨w.heap.size, 0, none⟩) (by simp)).trans (by simp)
            have g1 : w1.cell? ⟨w.heap.size, 1, none⟩ = some (.int .i64 0) := (hb.cell (p := ⟨w.heap.size, 1, none⟩) (by simp)).trans (by simp)
            have z0 : w1.frozen? ⟨w.heap.size, 0, none⟩ = false := (hb.frozen (p := ⟨w.heap.size, 0, none⟩) (by simp)).trans (by simp)
            have z1 : w1.frozen? ⟨w.heap.size, 1, none⟩ = false := (hb.frozen (p := ⟨w.heap.size, 1, none⟩) (by simp)).trans (by simp)
            have hb' := hid hb
            clear hb
            go_wp2_with fail
            rw [HP.out]
            exact bodyPost_ret (v := .tuple #[.int .i64 0, .int .i64 0, .agg #[.int .i64 i, .int .i64 11]]) (by simp [results, Tryz.results20, go_sem, g0, g1]) rfl ⟨rfl, ((((Below.refl _ w).alloc (Nat.le_refl _) _).trans (hb'.out.mono (by simp))).setCell (Nat.le_refl _) _).setCell (Nat.le_refl _) _⟩
        · have HT := hid (atoi_ok (s.extract i k) (by have := hxs; omega) (nN s i) (by rw [← HK.out, HAT.out, if_neg hbig]) (w.alloc (.cells #[.int .i64 0, .int .i64 0] 38)))
          have HBG := hid hbig
          generalize hnn : nN s i = nn at HT
          have HNN := hid hnn
          clear hbig hnn
          go_wp2_with fail
          refine HT.out.mono ?_
          rintro e w1 ⟨rfl, hb⟩
          have g0 : w1.cell? ⟨w.heap.size, 0, none⟩ = some (.int .i64 0) := (hb.cell (p := ⟨w.heap.size, 0, none⟩) (by simp)).trans (by simp)
          have g1 : w1.cell? ⟨w.heap.size, 1, none⟩ = some (.int .i64 0) := (hb.cell (p := ⟨w.heap.size, 1, none⟩) (by simp)).trans (by simp)
          have z0 : w1.frozen? ⟨w.heap.size, 0, none⟩ = false := (hb.frozen (p := ⟨w.heap.size, 0, none⟩) (by simp)).trans (by simp)
          have z1 : w1.frozen? ⟨w.heap.size, 1, none⟩ = false := (hb.frozen (p := ⟨w.heap.size, 1, none⟩) (by simp)).trans (by simp)
          have hb' := hid hb
          clear hb
          have hnk : ¬ (k : Int) < (s.size : Int) := by omega
          go_wp2_with fail
          rw [show numM s i = .ok (nn, k) from by rw [numM_ok HN.out HBG.out (by rw [HK.out, bt_out (by omega)]; rfl), HK.out, HNN.out]]
          exact bodyPost_ret (v := .tuple #[.int .i64 nn, .int .i64 k, .agg #[.int .i64 0, .int .i64 0]]) (by simp [results, Tryz.results20, go_sem, g0, g1]) rfl ⟨rfl, ((((Below.refl _ w).alloc (Nat.le_refl _) _).trans (hb'.out.mono (by simp))).setCell (Nat.le_refl _) _).setCell (Nat.le_refl _) _⟩

end Go.Proofs.YtfgbjghfkdmcjaaGreatDoor
namespace Go.Proofs.YtfgbjghfkdmcjaaGreatDoor
set_option linter.unusedVariables false
set_option linter.unusedSimpArgs false
open Go.RowKit

/-- Two lists, element by element. -/
def allEq {α : Type} (eq : α → α → Bool) : List α → List α → Bool
  | [], [] => true
  | x :: xs, y :: ys => eq x y && allEq eq xs ys
  | _, _ => false

theorem allEq_len {α : Type} (eq : α → α → Bool) : ∀ (xs ys : List α), xs.length ≠ ys.length → allEq eq xs ys = false
  | [], [], h => absurd rfl h
  | [], _ :: _, _ => rfl
  | _ :: _, [], _ => rfl
  | x :: xs, y :: ys, h => by
    have := allEq_len eq xs ys (fun e => h (by simp [e]))
    simp [allEq, this]

theorem allEq_hit {α : Type} [Inhabited α] (eq : α → α → Bool) : ∀ (xs ys : List α), xs.length = ys.length → (∀ j, j < xs.length → eq (xs.getD j default) (ys.getD j default) = true) → allEq eq xs ys = true
  | [], [], _, _ => rfl
  | [], _ :: _, h, _ => by simp at h
  | _ :: _, [], h, _ => by simp at h
  | x :: xs, y :: ys, h, hj => by
    have h0 := hj 0 (by simp)
    have := allEq_hit eq xs ys (by simpa using h) (fun j hl => by simpa using hj (j + 1) (by simpa using hl))
    simp at h0
    simp [allEq, this, h0]

theorem allEq_miss {α : Type} [Inhabited α] (eq : α → α → Bool) : ∀ (xs ys : List α) (j : Nat), j < xs.length → eq (xs.getD j default) (ys.getD j default) = false → allEq eq xs ys = false
  | [], _, j, h, _ => by simp at h
  | _ :: _, [], j, _, _ => rfl
  | x :: xs, y :: ys, 0, _, hj => by simp at hj; simp [allEq, hj]
  | x :: xs, y :: ys, j + 1, h, hj => by
    have := allEq_miss eq xs ys j (by simpa using h) (by simpa using hj)
    simp [allEq, this]

theorem allEq_refl {α : Type} (eq : α → α → Bool) (h : ∀ x, eq x x = true) : ∀ xs, allEq eq xs xs = true
  | [] => rfl
  | x :: xs => by simp [allEq, h x, allEq_refl eq h xs]

theorem allEq_symm {α : Type} (eq : α → α → Bool) (h : ∀ x y, eq x y = eq y x) : ∀ xs ys, allEq eq xs ys = allEq eq ys xs
  | [], [] => rfl
  | [], _ :: _ => rfl
  | _ :: _, [] => rfl
  | x :: xs, y :: ys => by simp [allEq, h x y, allEq_symm eq h xs ys]

/-- A slice of elements of k cells, each with a property of its cells. -/
def RowsIn {α : Type} [Inhabited α] (k bytes : Nat) (R : List Value → α → Prop) (S : Nat → Prop) (w : World) (v : Value) (l : List α) : Prop :=
  ∃ ao c, v = .slice ao l.length c ∧ l.length * bytes ≤ 140737488355328 ∧ (0 < l.length → ∃ b off, ao = some ⟨b, off, none⟩ ∧ S b ∧ ∀ j, j < l.length → ∃ cs, cs.length = k ∧ R cs (l.getD j default) ∧ ∀ i u, cs[i]? = some u → w.cell? ⟨b, off + j * k + i, none⟩ = some u)

/-- w' holds what w held in the blocks of S. -/
def KeepsIn (S : Nat → Prop) (w w' : World) : Prop := ∀ b, S b → b < w.heap.size → w'.heap[b]? = w.heap[b]?

theorem KeepsIn.cell {S : Nat → Prop} {w w' : World} (h : KeepsIn S w w') {p : Addr} {u : Value} (hS : S p.block) (hc : w.cell? p = some u) : w'.cell? p = some u :=
  (World.cell?_of_block (w := w) (h p.block hS (World.block_lt_of_cell? _ _ hc))).trans hc

theorem RowsIn.keep {α : Type} [Inhabited α] {k bytes : Nat} {R R' : List Value → α → Prop} {S T : Nat → Prop} {w w' : World} {v : Value} {l : List α} (h : RowsIn k bytes R S w v l) (hk0 : 0 < k) (hR : ∀ cs x, R cs x → R' cs x) (hk : KeepsIn S w w') (hT : ∀ b, b < w.heap.size → S b → T b) : RowsIn k bytes R' T w' v l := by
  obtain ⟨ao, c, hv, hl, hc⟩ := h
  refine ⟨ao, c, hv, hl, fun h0 => ?_⟩
  obtain ⟨b, off, ha, hS, hj⟩ := hc h0
  refine ⟨b, off, ha, hT b ?_ hS, fun j h => ?_⟩
  · obtain ⟨cs, hlen, _, hcs⟩ := hj 0 h0
    exact World.block_lt_of_cell? _ _ (hcs 0 cs[0] (List.getElem?_eq_getElem (by omega)))
  · obtain ⟨cs, hlen, hr, hcs⟩ := hj j h
    exact ⟨cs, hlen, hR _ _ hr, fun i u hi => hk.cell (p := ⟨b, off + j * k + i, none⟩) hS (hcs i u hi)⟩

/-- Anywhere. -/
def Any (_ : Nat) : Prop := True
theorem keeps_below {S : Nat → Prop} {w w' : World} (h : Below w.heap.size w w') : KeepsIn S w w' := fun b _ hb => h.block b hb

/-- The cells of each element of a slice of length n. -/
def RowCells {α : Type} [Inhabited α] (k : Nat) (R : List Value → α → Prop) (w : World) (ao : Option Addr) (xs : List α) (n : Nat) : Prop :=
  ∀ j, j < n → ∃ b o cs, ao = some ⟨b, o, none⟩ ∧ b < w.heap.size ∧ cs.length = k ∧ R cs (xs.getD j default) ∧ ∀ i u, cs[i]? = some u → w.cell? ⟨b, o + j * k + i, none⟩ = some u

theorem RowsIn.cells {α : Type} [Inhabited α] {k bytes : Nat} {R : List Value → α → Prop} {S : Nat → Prop} {w : World} {v : Value} {l : List α} (h : RowsIn k bytes R S w v l) (hk : 0 < k) :
    ∃ ao c, v = .slice ao l.length c ∧ l.length * bytes ≤ 140737488355328 ∧ RowCells k R w ao l l.length := by
  obtain ⟨ao, c, hv, hl, hc⟩ := h
  refine ⟨ao, c, hv, hl, fun j hj => ?_⟩
  obtain ⟨b, off, ha, _, hcc⟩ := hc (by omega)
  obtain ⟨cs, h1, h2, h3⟩ := hcc j hj
  exact ⟨b, off, cs, ha, World.block_lt_of_cell? _ _ (h3 0 cs[0] (List.getElem?_eq_getElem (by omega))), h1, h2, h3⟩

theorem flatten_len {α : Type} (k : Nat) : ∀ (rows : List (List α)), (∀ r ∈ rows, r.length = k) → rows.flatten.length = rows.length * k
  | [], _ => by simp
  | r :: rows, h => by
    have := flatten_len k rows (fun x hx => h x (by simp [hx]))
    simp only [List.flatten_cons, List.length_append, List.length_cons, this, h r (by simp)]
    rw [Nat.add_mul]; omega

theorem flatten_get {α : Type} (k : Nat) : ∀ (rows : List (List α)) (j i : Nat), (∀ r ∈ rows, r.length = k) → j < rows.length → i < k → rows.flatten[j * k + i]? = (rows.getD j [])[i]?
  | [], j, i, _, h, _ => by simp at h
  | r :: rows, 0, i, h, _, hi => by
    have hr := h r (by simp)
    simp only [List.flatten_cons, Nat.zero_mul, Nat.zero_add]
    rw [List.getElem?_append_left (by omega)]
    simp
  | r :: rows, j + 1, i, h, hj, hi => by
    have hr := h r (by simp)
    have ih := flatten_get k rows j i (fun x hx => h x (by simp [hx])) (by simpa using hj) hi
    simp only [List.flatten_cons]
    rw [List.getElem?_append_right (by rw [hr, Nat.add_mul]; omega), hr, show (j + 1) * k + i - k = j * k + i by rw [Nat.add_mul]; omega, ih]
    simp

theorem owns_keep {w w' : World} {base e size n : Nat} {v : Value} {xs : List Value} (h : w.ownsRow base e size v n xs) (hk : ∀ g, v.ownBlock = some g → w'.heap[g]? = w.heap[g]?) : w'.ownsRow base e size v n xs := by
  refine ⟨h.1, ?_⟩
  rcases h.2 with hn | ⟨g, cap, cur, rfl, hb, hgg, rest⟩
  · exact .inl hn
  · exact .inr ⟨g, cap, cur, rfl, hb, (hk g rfl).trans hgg, rest⟩

/-- What a loop has gathered: n rows of 'size' cells in a block of its own, what they lead to elsewhere from B on. -/
structure OutInv {α : Type} [Inhabited α] (e size : Nat) (R : (Nat → Prop) → World → List Value → α → Prop) (B : Nat) (wr : World) (v : Value) (n : Nat) (rows : List (List Value)) (l : List α) : Prop where
  rn : rows.length = n
  ln : l.length = n
  own : wr.ownsRow B e size v n rows.flatten
  sizes : ∀ r ∈ rows, r.length = size
  each : ∀ j, j < n → R (fun b => B ≤ b ∧ v.ownBlock ≠ some b) wr (rows.getD j []) (l.getD j default)

theorem OutInv.nil {α : Type} [Inhabited α] (e size : Nat) (R : (Nat → Prop) → World → List Value → α → Prop) (B : Nat) (wr : World) : OutInv e size R B wr (.slice none 0 0) 0 [] [] :=
  ⟨rfl, rfl, World.ownsRow_nil _ _ _ _, fun _ h => by simp at h, fun j h => by omega⟩

section
variable {α : Type} [Inhabited α] {e size : Nat} {R : (Nat → Prop) → World → List Value → α → Prop} {B : Nat} {wr w3 w4 : World} {v : Value} {n : Nat} {rows : List (List Value)} {l : List α}

/-- In a world in which all older blocks are as they were, the row is as it was. -/
theorem OutInv.own3 (h : OutInv e size R B wr v n rows l) (h3 : Below wr.heap.size wr w3) : w3.ownsRow B e size v n rows.flatten :=
  owns_keep h.own (fun g hg => h3.block g (h.own.lt g hg).2)

/-- In a world in which all older blocks are as they were, all is as it was. -/
theorem OutInv.later (hkeep : ∀ (S T : Nat → Prop) w w' cs x, R S w cs x → KeepsIn S w w' → (∀ b, b < w.heap.size → S b → T b) → R T w' cs x) (h : OutInv e size R B wr v n rows l) (h3 : Below wr.heap.size wr w3) : OutInv e size R B w3 v n rows l :=
  ⟨h.rn, h.ln, h.own3 h3, h.sizes, fun j hj => hkeep _ _ _ _ _ _ (h.each j hj) (keeps_below h3) (fun _ _ h => h)⟩

/-- One element more. -/
theorem OutInv.step (hkeep : ∀ (S T : Nat → Prop) w w' cs x, R S w cs x → KeepsIn S w w' → (∀ b, b < w.heap.size → S b → T b) → R T w' cs x)
    (h : OutInv e size R B wr v n rows l) (hB : B ≤ wr.heap.size) (h3 : Below wr.heap.size wr w3) {row : List Value} {x : α} (hrow : R (fun b => wr.heap.size < b) w3 row x) (hlen : row.length = size)
    {g cap : Nat} (hown : w4.ownsRow B e size (.slice (some ⟨g, 0, none⟩) (n + 1) cap) (n + 1) (rows.flatten ++ row)) (hgrow : w3.grownBy w4 v.ownBlock) (hat : v.ownBlock = some g ∨ g = w3.heap.size) :
    OutInv e size R B w4 (.slice (some ⟨g, 0, none⟩) (n + 1) cap) (n + 1) (rows ++ [row]) (l ++ [x]) := by
  have hsz := h3.size
  have hlt : ∀ k, v.ownBlock = some k → k < wr.heap.size := fun k hk => (h.own.lt k hk).2
  refine ⟨by simp [h.rn], by simp [h.ln], by simpa using hown, ?_, fun j hj => ?_⟩
  · intro r hr
    rcases List.mem_append.1 hr with hr | hr
    · exact h.sizes r hr
    · simp at hr; rw [hr]; exact hlen
  · by_cases hjn : j < n
    · have e1 : (rows ++ [row]).getD j [] = rows.getD j [] := by simp [List.getD, List.getElem?_append_left (show j < rows.length by rw [h.rn]; exact hjn)]
      have e2 : (l ++ [x]).getD j default = l.getD j default := by simp [List.getD, List.getElem?_append_left (show j < l.length by rw [h.ln]; exact hjn)]
      rw [e1, e2]
      refine hkeep _ _ wr w4 _ _ (h.each j hjn) (fun b hb hbl => ?_) (fun b hbl hb => ⟨hb.1, ?_⟩)
      · exact (hgrow.block b (by omega) (fun e => hb.2 e.symm)).trans (h3.block b hbl)
      · simp only [Value.ownBlock]
        intro e
        cases e
        rcases hat with h' | h'
        · exact hb.2 h'
        · omega
    · have hjn' : j = n := by omega
      subst hjn'
      have e1 : (rows ++ [row]).getD j [] = row := by simp [List.getD, ← h.rn]
      have e2 : (l ++ [x]).getD j default = x := by simp [List.getD, ← h.ln]
      rw [e1, e2]
      refine hkeep _ _ w3 w4 _ _ hrow (fun b hb hbl => ?_) (fun b hbl hb => ⟨by omega, ?_⟩)
      · exact hgrow.block b hbl (fun e => by have := hlt b e.symm; omega)
      · simp only [Value.ownBlock]
        intro e
        cases e
        rcases hat with h' | h'
        · have := hlt _ h'; omega
        · omega

/-- At the end: the list lies in memory from B on. -/
theorem OutInv.rows_in {bytes : Nat} (hkeep : ∀ (S T : Nat → Prop) w w' cs x, R S w cs x → KeepsIn S w w' → (∀ b, b < w.heap.size → S b → T b) → R T w' cs x)
    (h : OutInv e size R B wr v n rows l) (hbytes : n * bytes ≤ 140737488355328) : RowsIn size bytes (R (fun b => B ≤ b) wr) (fun b => B ≤ b) wr v l := by
  have hl := h.ln
  subst hl
  rcases h.own.2 with ⟨hv, hn⟩ | ⟨g, cap, cur, hv, hg, _⟩
  · exact ⟨none, 0, by rw [hv, hn], hbytes, fun h0 => by omega⟩
  · refine ⟨some ⟨g, 0, none⟩, cap, hv, hbytes, fun _ => ⟨g, 0, rfl, hg, fun j hj => ?_⟩⟩
    have hjr : j < rows.length := by rw [h.rn]; exact hj
    have hmem : rows.getD j [] ∈ rows := by simp [List.getD, List.getElem?_eq_getElem hjr]
    refine ⟨rows.getD j [], h.sizes _ hmem, hkeep _ _ wr wr _ _ (h.each j hj) (fun _ _ _ => rfl) (fun b _ hb => hb.1), fun i u hi => ?_⟩
    have hil : i < size := by rw [← h.sizes _ hmem]; exact (List.getElem?_eq_some_iff.1 hi).1
    have := h.own.cells (g := g) (by rw [hv]; rfl) (j * size + i) u (by rw [flatten_get size rows j i h.sizes hjr hil]; exact hi)
    rw [Addr.add_lit] at this
    simpa [Nat.add_assoc] using this
end

/-- To store what is there changes nothing. -/
theorem setCell_self {w : World} {a : Addr} {v : Value} (h : w.cell? a = some v) : w.setCell a v = w := by
  have hh : (w.setCell a v).heap = w.heap := by
    apply Array.ext_getElem?
    intro k
    by_cases hk : k = a.block
    · subst hk
      simp only [World.setCell, Array.getElem?_modify, if_true]
      unfold World.cell? at h
      split at h
      · rename_i c t f hc
        split at h
        · cases h
        · rename_i hs
          rw [hc]
          have hlt : a.off < c.size := (Array.getElem?_eq_some_iff.1 h).1
          have hv : c[a.off] = v := (Array.getElem?_eq_some_iff.1 h).2
          simp only [← hv, Option.map_some, Option.some.injEq, Obj.cells.injEq, and_true]
          rw [if_neg hs]
          apply Array.ext_getElem?
          intro j
          rw [Array.getElem?_setIfInBounds]
          by_cases hj : a.off = j
          · subst hj; simp [hlt]
          · simp [hj]
      · cases h
    · exact Below.heap_setCell _ _ _ _ hk
  cases w
  simp only [World.setCell] at hh ⊢
  simp [hh]
end Go.Proofs.YtfgbjghfkdmcjaaGreatDoor
