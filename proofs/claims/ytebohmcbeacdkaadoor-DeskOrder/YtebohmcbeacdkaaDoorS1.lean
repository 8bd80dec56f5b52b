/-
  Walks of the smallest functions of the scanner and of its reference.
-/
import Derived.Test.YtebohmcbeacdkaaDoorRows
import Derived.Test.YtebohmcbeacdkaaDoorNum
import Derived.Test.YtebohmcbeacdkaaDoorShelf
import Derived.WalkKit
import Derived.ProofKit
import Derived.Deep.LoopGhost
import Derived.Deep.Draws
import Derived.Outline
namespace Go.Proofs.YtebohmcbeacdkaaDoor
set_option linter.unusedVariables false
set_option linter.unusedSimpArgs false
open Go.RowKit

theorem hid {p : Prop} (h : p) : Hid p := h


theorem isSmall_any (c : Nat) (w : World) : Calls Tryd.prog 16 #[.int .u8 c] w fun e w' => e = .returned (.bool (isSm c)) ∧ w' = w := by
  by_cases h1 : (97 : Int) ≤ (c : Int)
  · by_cases h2 : (c : Int) ≤ 122
    · have r := hid (show isSm c = true from isSm_iff.2 (by omega))
      go_enter Tryd.func16, Tryd.ntmps16
      go_wp2
      go_ret
      exact ⟨by rw [r.out]; rfl, rfl⟩
    · have r : isSm c = false := isSm_no.2 (by omega)
      go_enter Tryd.func16, Tryd.ntmps16
      go_wp2
      go_ret
      exact ⟨rfl, rfl⟩
  · have r : isSm c = false := isSm_no.2 (by omega)
    go_enter Tryd.func16, Tryd.ntmps16
    go_wp2
    go_ret
    exact ⟨rfl, rfl⟩

theorem isDigit_any (c : Nat) (w : World) : Calls Tryd.prog 18 #[.int .u8 c] w fun e w' => e = .returned (.bool (isDg c)) ∧ w' = w := by
  by_cases h1 : (48 : Int) ≤ (c : Int)
  · by_cases h2 : (c : Int) ≤ 57
    · have r := hid (show isDg c = true from isDg_iff.2 (by omega))
      go_enter Tryd.func18, Tryd.ntmps18
      go_wp2
      go_ret
      exact ⟨by rw [r.out]; rfl, rfl⟩
    · have r : isDg c = false := isDg_no.2 (by omega)
      go_enter Tryd.func18, Tryd.ntmps18
      go_wp2
      go_ret
      exact ⟨rfl, rfl⟩
  · have r : isDg c = false := isDg_no.2 (by omega)
    go_enter Tryd.func18, Tryd.ntmps18
    go_wp2
    go_ret
    exact ⟨rfl, rfl⟩

theorem refLetter_any (c : Nat) (w : World) : Calls Tryd.prog 26 #[.int .u8 c] w fun e w' => e = .returned (.bool (isSm c)) ∧ w' = w := by
  by_cases h1 : (97 : Int) ≤ (c : Int)
  · by_cases h2 : (c : Int) ≤ 122
    · have r := hid (show isSm c = true from isSm_iff.2 (by omega))
      go_enter Tryd.func26, Tryd.ntmps26
      go_wp2
      go_ret
      exact ⟨by rw [r.out]; rfl, rfl⟩
    · have r : isSm c = false := isSm_no.2 (by omega)
      go_enter Tryd.func26, Tryd.ntmps26
      go_wp2
      go_ret
      exact ⟨rfl, rfl⟩
  · have r : isSm c = false := isSm_no.2 (by omega)
    go_enter Tryd.func26, Tryd.ntmps26
    go_wp2
    go_ret
    exact ⟨rfl, rfl⟩

theorem refDigit_any (c : Nat) (w : World) : Calls Tryd.prog 28 #[.int .u8 c] w fun e w' => e = .returned (.bool (isDg c)) ∧ w' = w := by
  by_cases h1 : (48 : Int) ≤ (c : Int)
  · by_cases h2 : (c : Int) ≤ 57
    · have r := hid (show isDg c = true from isDg_iff.2 (by omega))
      go_enter Tryd.func28, Tryd.ntmps28
      go_wp2
      go_ret
      exact ⟨by rw [r.out]; rfl, rfl⟩
    · have r : isDg c = false := isDg_no.2 (by omega)
      go_enter Tryd.func28, Tryd.ntmps28
      go_wp2
      go_ret
      exact ⟨rfl, rfl⟩
  · have r : isDg c = false := isDg_no.2 (by omega)
    go_enter Tryd.func28, Tryd.ntmps28
    go_wp2
    go_ret
    exact ⟨rfl, rfl⟩

/-- The reference's byte at a place, 0 behind the end. -/
theorem refAt_any (s : ByteArray) (i : Nat) (w : World) (hs : s.size ≤ 9223372036854775807) : Calls Tryd.prog 27 #[.string s, .int .i64 i] w fun e w' => e = .returned (.int .u8 (bt s i : Nat)) ∧ w' = w := by
  by_cases h : i < s.size
  · have hi : (i : Int) < (s.size : Int) := by omega
    have hb : Hid ((s[i]'h).toNat = bt s i) := bt_get h
    go_enter Tryd.func27, Tryd.ntmps27
    go_wp2
    go_ret
    refine ⟨?_, rfl⟩
    rw [← hb.out]; rfl
  · have hb : Hid (bt s i = 0) := bt_out h
    have hi : ¬ (i : Int) < (s.size : Int) := by omega
    go_enter Tryd.func27, Tryd.ntmps27
    go_wp2
    go_ret
    refine ⟨?_, rfl⟩
    rw [hb.out]; rfl

set_option maxHeartbeats 1000000 in
/-- The place behind a word. -/
theorem wordEnd_any (s : ByteArray) (i : Nat) (w : World) (hs : s.size ≤ 9223372036854775806) : Calls Tryd.prog 17 #[.string s, .int .i64 i] w fun e w' => e = .returned (.int .i64 (wEnd s i : Nat)) ∧ w' = w := by
  have W := hid (wEnd_is s i)
  go_enter Tryd.func17, Tryd.ntmps17
  go_wp2
  go_loopg [1] (s.size - i) (fun g t wr => ∃ k : Nat, i ≤ k ∧ s.size - k ≤ g ∧ t = .int .i64 k ∧ wr = w ∧ Aside (∀ j, i ≤ j → j < k → isWd (bt s j) = true))
  case atStart => exact ⟨i, Nat.le_refl _, Nat.le_refl _, rfl, rfl, fun j h1 h2 => by omega⟩
  case round =>
    obtain ⟨k, hk, hg, rfl, rfl, A⟩ := hrel
    by_cases hlt : k < s.size
    · have hlti : (k : Int) < (s.size : Int) := by omega
      have HB := hid (bt_get hlt)
      cases q1 : isSm (s[k]'hlt).toNat with
      | true =>
        go_wp2_with (go_at_call 16; refine (isSmall_any _ _).mono ?_; rintro e w' ⟨rfl, rfl⟩)
        go_roundg (s.size - (k + 1))
        case measure => omega
        case rel =>
          refine ⟨k + 1, by omega, by omega, by go_num, rfl, (show Aside _ from fun j h1 h2 => ?_)⟩
          by_cases e : j = k
          · subst e; rw [← HB.out]; simp [isWd, q1]
          · exact A.out j h1 (by omega)
      | false =>
        cases q2 : isDg (s[k]'hlt).toNat with
        | true =>
          go_wp2_with (first | (go_at_call 16; refine (isSmall_any _ _).mono ?_; rintro e w' ⟨rfl, rfl⟩) | (go_at_call 18; refine (isDigit_any _ _).mono ?_; rintro e w' ⟨rfl, rfl⟩))
          go_roundg (s.size - (k + 1))
          case measure => omega
          case rel =>
            refine ⟨k + 1, by omega, by omega, by go_num, rfl, (show Aside _ from fun j h1 h2 => ?_)⟩
            by_cases e : j = k
            · subst e; rw [← HB.out]; simp [isWd, q1, q2]
            · exact A.out j h1 (by omega)
        | false =>
          go_wp2_with (first | (go_at_call 16; refine (isSmall_any _ _).mono ?_; rintro e w' ⟨rfl, rfl⟩) | (go_at_call 18; refine (isDigit_any _ _).mono ?_; rintro e w' ⟨rfl, rfl⟩))
          go_ret
          refine ⟨?_, rfl⟩
          rw [W.out.uniq ⟨hk, A.out, by rw [← HB.out]; simp [isWd, q1, q2]⟩]
          rfl
    · have hlti : ¬ (k : Int) < (s.size : Int) := by omega
      go_wp2_with fail
      go_ret
      refine ⟨?_, rfl⟩
      rw [W.out.uniq ⟨hk, A.out, by rw [bt_out hlt]; rfl⟩]
      rfl

/-- strings.Clone: the same text. -/
theorem clone_any (s : ByteArray) (w : World) (hs : s.size ≤ 281474976710656) : Calls Tryd.prog 20 #[.string s] w fun e w' => e = .returned (.string s) ∧ Below w.heap.size w w' := by
  go_enter Tryd.func20, Tryd.ntmps20
  go_wp2_with (go_at_call 25; refine (Tryd.stringslite_Clone _ _ hs).mono ?_; rintro e w' ⟨rfl, hb⟩)
  go_ret
  exact ⟨rfl, hb⟩
end Go.Proofs.YtebohmcbeacdkaaDoor
