/-
  assayerplain.SameTxn, where the two are the same.
-/
import Derived.Test.YtibplfhkfkeloaaT3
import Derived.Test.YtibplfhkfkeloaaSm
namespace Go.Proofs.Ytibplfhkfkeloaa
set_option linter.unusedVariables false
set_option linter.unusedSimpArgs false
open Go.RowKit Go.Lib
open Tx (MTxn)

/-- A transaction's cells. -/
abbrev txC (t : MTxn) (ov : Value) : Array Value := #[.int .i64 t.proc, .int .i64 t.state, .int .i64 t.since, .int .i64 t.till, ov]
set_option maxHeartbeats 4000000 in
set_option maxRecDepth 100000 in
theorem sameTxn_is {S T : Nat → Prop} (w : World) (t : MTxn) (v1 v2 : Value) (h1 : OpsIn S w v1 t.ops) (h2 : OpsIn T w v2 t.ops) :
    Calls Try.prog 18 #[.agg (txC t v1), .agg (txC t v2)] w fun e w' => e = .returned (.bool true) ∧ Below w.heap.size w w' := by
  have CS : Hid (∀ W, Below w.heap.size w W → Calls Try.prog 37 #[v1, v2] W fun e w' => e = .returned (.bool true) ∧ Below W.heap.size W w') := fun W hb => (Tx.sameOps_any v1 v2 t.ops t.ops W (h1.keep (keeps_below hb) (fun _ _ h => h)) (h2.keep (keeps_below hb) (fun _ _ h => h))).mono fun e w' ⟨q1, q2⟩ => ⟨by rw [q1, show opsEq t.ops t.ops = true from allEq_refl _ opEq_refl _], q2⟩
  obtain ⟨a1, c1, rfl, _⟩ := h1
  obtain ⟨a2, c2, rfl, _⟩ := h2
  obtain ⟨xp, xs, xf, xt, xo⟩ := t
  simp only [MTxn.proc, MTxn.state, MTxn.since, MTxn.till, MTxn.ops] at *
  have BB : ∀ x y, Hid (Below w.heap.size w ((w.alloc x).alloc y)) := fun x y => ((Below.refl _ w).alloc (Nat.le_refl _) x).alloc (by show w.heap.size ≤ (w.heap.push x).size; simp) y
  go_enter Try.func18, Try.ntmps18
  go_wp2_with (go_at_call 37; refine (CS.out _ (BB _ _).out).mono ?_; rintro e w' ⟨rfl, hb⟩; have HB := hid hb; clear hb)
  go_ret
  exact ⟨rfl, (BB _ _).out.trans (HB.out.mono (BB _ _).out.size)⟩
end Go.Proofs.Ytibplfhkfkeloaa
