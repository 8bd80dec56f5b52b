/-
  The document's sets: Or and And; sets of unlike bounds.
-/
import Derived.Test.YtgmneohngadpeaaGreatDoorR2
import Derived.Test.YtgmneohngadpeaaGreatDoorB13
namespace Go.Proofs.YtgmneohngadpeaaGreatDoor
set_option linter.unusedVariables false
set_option linter.unusedSimpArgs false
open Go.RowKit

/-- Some number below k is other than it was. -/
def chB (f h : Nat → Bool) (k : Nat) : Bool := (List.range k).any fun j => f j != h j
theorem chB_succ (f h : Nat → Bool) (k : Nat) : chB f h (k + 1) = (chB f h k || f k != h k) := by
  unfold chB
  rw [List.range_succ, List.any_append]
  simp
theorem chB_iff (f h : Nat → Bool) (n : Nat) (h1 : ∀ i, n ≤ i → f i = h i) : chB f h n = true ↔ ∃ i, h i ≠ f i := by
  unfold chB
  rw [List.any_eq_true]
  constructor
  · rintro ⟨j, _, hj⟩
    exact ⟨j, fun e => by simp [e] at hj⟩
  · rintro ⟨j, hj⟩
    have : j < n := by
      rcases Nat.lt_or_ge j n with h | h
      · exact h
      · exact absurd (h1 j h).symm hj
    exact ⟨j, List.mem_range.2 this, by simp; exact fun e => hj e.symm⟩
theorem Ref.congr {w : World} {b n c : Nat} {f g : Nat → Bool} (h : Ref w b n c f) (e : ∀ k, f k = g k) : Ref w b n c g := by
  have : f = g := funext e
  rw [← this]
  exact h

theorem merge_off (b n c : Nat) (f : Nat → Bool) (b2 n2 c2 : Nat) (g : Nat → Bool) (w : World) (v : Value) (h : Is w b n c f) (h' : Is w b2 n2 c2 g) (hn : n ≠ n2) :
    Calls Tryz.prog 133 #[.pointer (some ⟨b, 0, none⟩), .pointer (some ⟨b2, 0, none⟩), v] w fun e w' => e = .returned (.tuple #[.bool false, .int .i64 1]) ∧ ∃ q, w' = w.drewN q := by
  obtain ⟨ws, s1, s2⟩ := h.ex
  obtain ⟨vs, v1, v2⟩ := h'.ex
  have c1 := s1.c1
  have d1 := v1.c1
  have hnn : ((n : Int) == (n2 : Int)) = false := by simp; omega
  have M0 := hid (isMade_at b true w s1.c0)
  have M1 := hid (isMade_at b2 true w v1.c0)
  clear h h' s1 v1 s2 v2 hn
  go_enter Tryz.func133, Tryz.ntmps133
  go_wp2_with fail
  refine M0.out.mono ?_
  rintro e w' ⟨rfl, rfl⟩
  go_wp2_with fail
  refine M1.out.mono ?_
  rintro e w' ⟨rfl, rfl⟩
  go_wp2_with fail
  go_quiet (fail)
  go_wp2_with fail
  go_ret2
  exact ⟨rfl, _, rfl⟩
theorem or_off (b n c : Nat) (f : Nat → Bool) (b2 n2 c2 : Nat) (g : Nat → Bool) (w : World) (h : Is w b n c f) (h' : Is w b2 n2 c2 g) (hn : n ≠ n2) :
    Calls Tryz.prog 110 #[.pointer (some ⟨b, 0, none⟩), .pointer (some ⟨b2, 0, none⟩)] w fun e w' => e = .returned (.tuple #[.bool false, .int .i64 1]) ∧ ∃ q, w' = w.drewN q := by
  have M := hid (fun v => merge_off b n c f b2 n2 c2 g w v h h' hn)
  clear h h'
  go_enter Tryz.func110, Tryz.ntmps110
  go_wp2_with (go_at_call 133; refine (M.out _).mono ?_; rintro e w' ⟨rfl, q, rfl⟩)
  go_ret2
  exact ⟨rfl, _, rfl⟩
end Go.Proofs.YtgmneohngadpeaaGreatDoor
