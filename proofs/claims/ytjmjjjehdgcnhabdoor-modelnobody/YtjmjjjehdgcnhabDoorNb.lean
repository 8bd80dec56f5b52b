/-
  The methods of a state that no call made, and the law ModelNobody.
-/
import Derived.Test.YtjmjjjehdgcnhabDoorM1
namespace Go.Proofs.YtjmjjjehdgcnhabDoor
set_option linter.unusedVariables false
set_option linter.unusedSimpArgs false
open Go.RowKit Go.Lib Go.Maps

/-- No call made it. -/
def Un (w : World) (p : Value) : Prop := p = .pointer none ∨ ∃ sb, p = .pointer (some ⟨sb, 0, none⟩) ∧ w.cell? ⟨sb, 0, none⟩ = some (.map none)
theorem isMade_un (w : World) (p : Value) (h : Un w p) : Calls Tryd.prog 13 #[p] w fun e w' => e = .returned (.bool false) ∧ w = w' := by
  rcases h with rfl | ⟨sb, rfl, h⟩
  · exact isMade_nil w
  · exact isMade_no w sb h
theorem value_un (w : World) (p : Value) (s : ByteArray) (h : Un w p) : Calls Tryd.prog 9 #[p, .string s] w fun e w' => e = .returned (.tuple #[.int .i64 0, .bool false]) ∧ w = w' := by
  go_enter Tryd.func9, Tryd.ntmps9
  go_wp2_with (go_at_call 13; refine (isMade_un _ _ h).mono ?_; rintro e w' ⟨rfl, rfl⟩)
  go_ret2
  exact ⟨rfl, rfl⟩
theorem list_un (w : World) (p : Value) (s : ByteArray) (h : Un w p) : Calls Tryd.prog 10 #[p, .string s] w fun e w' => e = .returned (.slice none 0 0) ∧ w = w' := by
  go_enter Tryd.func10, Tryd.ntmps10
  go_wp2_with (go_at_call 13; refine (isMade_un _ _ h).mono ?_; rintro e w' ⟨rfl, rfl⟩)
  go_ret
  exact ⟨rfl, rfl⟩
theorem text_un (w : World) (p : Value) (h : Un w p) : Calls Tryd.prog 6 #[p] w fun e w' => e = .returned (.string ⟨#[]⟩) ∧ w = w' := by
  go_enter Tryd.func6, Tryd.ntmps6
  go_wp2_with (go_at_call 13; refine (isMade_un _ _ h).mono ?_; rintro e w' ⟨rfl, rfl⟩)
  go_ret
  exact ⟨rfl, rfl⟩
theorem copy_un (w : World) (p : Value) (h : Un w p) : Calls Tryd.prog 11 #[p] w fun e w' => e = .returned (.pointer none) ∧ w = w' := by
  go_enter Tryd.func11, Tryd.ntmps11
  go_wp2_with (go_at_call 13; refine (isMade_un _ _ h).mono ?_; rintro e w' ⟨rfl, rfl⟩)
  go_ret
  exact ⟨rfl, rfl⟩
theorem apply_un (w : World) (p l b : Value) (h : Un w p) : Calls Tryd.prog 7 #[p, l, b] w fun e w' => e = .returned (.bool false) ∧ w = w' := by
  go_enter Tryd.func7, Tryd.ntmps7
  go_wp2_with (go_at_call 13; refine (isMade_un _ _ h).mono ?_; rintro e w' ⟨rfl, rfl⟩)
  go_ret
  exact ⟨rfl, rfl⟩
theorem apply_none (w : World) (sb lb : Nat) (b : Bool) (h : w.cell? ⟨sb, 0, none⟩ = some (.map (some lb))) : Calls Tryd.prog 7 #[.pointer (some ⟨sb, 0, none⟩), .slice none 0 0, .bool b] w fun e w' => e = .returned (.bool true) ∧ w = w' := by
  go_enter Tryd.func7, Tryd.ntmps7
  go_wp2_with (go_at_call 13; refine (isMade_yes _ _ _ h).mono ?_; rintro e w' ⟨rfl, rfl⟩)
  go_loopg [15] 1 (fun g i wr => i = .int .i64 0 ∧ wr = w)
  case atStart => exact ⟨rfl, rfl⟩
  case round =>
    obtain ⟨rfl, rfl⟩ := hrel
    go_wp2_with fail
    go_ret
    exact ⟨rfl, rfl⟩
set_option maxHeartbeats 2000000 in
theorem nobody_walk (s : ByteArray) (w : World) : Calls Tryd.prog 4 #[.string s] w fun e w' => e = .returned (.bool true) ∧ Below w.heap.size w w' := by
  go_enter Tryd.func4, Tryd.ntmps4
  go_wp2_with fail
  go_loopg [11] 2 (fun g i wr => ∃ k : Nat, k ≤ 2 ∧ 2 - k ≤ g ∧ i = .int .i64 k ∧ wr = (w.alloc (.cells #[.map none, .map none] 34)).alloc (.cells #[.pointer none, .pointer (some ⟨w.heap.size, 0, none⟩)] 24))
  case atStart => exact ⟨0, by omega, by omega, rfl, rfl⟩
  case round =>
    obtain ⟨k, hk, hg, rfl, hw⟩ := hrel
    subst hw
    by_cases hk2 : k < 2
    · by_cases hk0 : k = 0
      · subst hk0
        have hu : Un ((w.alloc (.cells #[.map none, .map none] 34)).alloc (.cells #[.pointer none, .pointer (some ⟨w.heap.size, 0, none⟩)] 24)) (.pointer none) := .inl rfl
        go_wp2_with (first | (go_at_call 9; refine (value_un _ _ _ hu).mono ?_; rintro e w' ⟨rfl, rfl⟩) | (go_at_call 7; refine (apply_un _ _ _ _ hu).mono ?_; rintro e w' ⟨rfl, rfl⟩) | (go_at_call 10; refine (list_un _ _ _ hu).mono ?_; rintro e w' ⟨rfl, rfl⟩) | (go_at_call 6; refine (text_un _ _ hu).mono ?_; rintro e w' ⟨rfl, rfl⟩) | (go_at_call 11; refine (copy_un _ _ hu).mono ?_; rintro e w' ⟨rfl, rfl⟩))
        go_roundg (gk - 1)
        case rel => exact ⟨1, by omega, by omega, rfl, rfl⟩
        case measure => omega
      · have hk1 : k = 1 := by omega
        subst hk1
        have hu : Un ((w.alloc (.cells #[.map none, .map none] 34)).alloc (.cells #[.pointer none, .pointer (some ⟨w.heap.size, 0, none⟩)] 24)) (.pointer (some ⟨w.heap.size, 0, none⟩)) := .inr ⟨_, rfl, by simp [go_sem]⟩
        go_wp2_with (first | (go_at_call 9; refine (value_un _ _ _ hu).mono ?_; rintro e w' ⟨rfl, rfl⟩) | (go_at_call 7; refine (apply_un _ _ _ _ hu).mono ?_; rintro e w' ⟨rfl, rfl⟩) | (go_at_call 10; refine (list_un _ _ _ hu).mono ?_; rintro e w' ⟨rfl, rfl⟩) | (go_at_call 6; refine (text_un _ _ hu).mono ?_; rintro e w' ⟨rfl, rfl⟩) | (go_at_call 11; refine (copy_un _ _ hu).mono ?_; rintro e w' ⟨rfl, rfl⟩))
        go_roundg (gk - 1)
        case rel => exact ⟨2, by omega, by omega, rfl, rfl⟩
        case measure => omega
    · have hk1 : k = 2 := by omega
      subst hk1
      go_wp2_with (first | (go_at_call 12; refine (new_is _).mono ?_; rintro e w' ⟨sb, lb, rb, rfl, hst, hb⟩; have hc0 := hst.c0) | (go_at_call 7; refine (apply_none _ _ _ _ hc0).mono ?_; rintro e w' ⟨rfl, rfl⟩))
      go_ret
      exact ⟨rfl, (((Below.refl _ w).alloc (Nat.le_refl _) _).alloc (by simp) _).trans (hb.mono (by simp; omega))⟩
end Go.Proofs.YtjmjjjehdgcnhabDoor
