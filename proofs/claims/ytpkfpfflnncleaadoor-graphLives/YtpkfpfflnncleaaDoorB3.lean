/-
  Same of a set that no call made, and the walk of the law on such sets.
-/
import Derived.Test.YtpkfpfflnncleaaDoorB2
namespace Go.Proofs.YtpkfpfflnncleaaDoor
set_option linter.unusedVariables false
set_option linter.unusedSimpArgs false
open Go.RowKit

theorem quietly {P : Program} {f : FuncId} {args : Array Value} {w : World} {n : Nat} {v : Value} (h : Calls P f args (w.drewN n) fun e w' => e = .returned v ∧ w.drewN n = w') : Calls P f args (w.drewN n) fun e w'' => e = .returned v ∧ ∃ m, w'' = w.drewN m :=
  h.mono fun _ _ ⟨he, hm⟩ => ⟨he, n, hm.symm⟩
theorem NoSet.drewN {w : World} {v : Value} (h : NoSet w v) (n : Nat) : NoSet (w.drewN n) v := h.later (below_drewN (Below.refl _ _) n)
theorem cell_drewN (w : World) (n : Nat) (p : Addr) : (w.drewN n).cell? p = w.cell? p := rfl
set_option maxHeartbeats 1000000 in
theorem same_no1 (v u : Value) (w : World) (h : NoSet w v) : Calls Tryd.prog 29 #[v, u] w fun e w' => e = .returned (.bool false) ∧ ∃ q, w' = w.drewN q := by
  obtain ⟨p, rfl⟩ := h.ptr
  have H : Hid (∀ n, NoSet (w.drewN n) (.pointer p)) := h.drewN
  clear h
  go_enter Tryd.func29, Tryd.ntmps29
  go_wp2_with fail
  go_quiet ((go_at_call 45; exact quietly (isMade_no _ _ (H.out _))))
  go_wp2
  go_ret
  exact ⟨rfl, _, rfl⟩
set_option maxHeartbeats 1000000 in
theorem same_no2 (b : Nat) (u : Value) (w : World) (hm : w.cell? ⟨b, 0, none⟩ = some (.bool true)) (h : NoSet w u) : Calls Tryd.prog 29 #[.pointer (some ⟨b, 0, none⟩), u] w fun e w' => e = .returned (.bool false) ∧ ∃ q, w' = w.drewN q := by
  obtain ⟨p, rfl⟩ := h.ptr
  have H : Hid (∀ n, NoSet (w.drewN n) (.pointer p)) := h.drewN
  clear h
  have M : Hid (∀ n, Calls Tryd.prog 45 #[.pointer (some ⟨b, 0, none⟩)] (w.drewN n) fun e w'' => e = .returned (.bool true) ∧ ∃ m, w'' = w.drewN m) := fun n => quietly (isMade_at b true (w.drewN n) hm)
  have N : Hid (∀ n, Calls Tryd.prog 45 #[.pointer p] (w.drewN n) fun e w'' => e = .returned (.bool false) ∧ ∃ m, w'' = w.drewN m) := fun n => quietly (isMade_no (.pointer p) (w.drewN n) (H.out n))
  clear hm H
  go_enter Tryd.func29, Tryd.ntmps29
  go_wp2_with fail
  refine wp_region_quiet_lit (by kernel_rfl) (by kernel_rfl) ?_
  iterate 2 (go_big_quiet_step ((go_at_call 45; exact M.out _)))
  clear M
  repeat (go_big_quiet_step ((go_at_call 45; exact N.out _)))
  refine wpQuiet_nil ?_
  intro _ hw'
  obtain ⟨nq, hw''⟩ := hw'
  subst hw''
  go_wp2
  go_ret
  exact ⟨rfl, _, rfl⟩
end Go.Proofs.YtpkfpfflnncleaaDoor
