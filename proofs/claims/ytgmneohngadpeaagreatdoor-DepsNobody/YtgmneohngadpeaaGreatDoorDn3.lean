/-
  The law DepsNobody.
-/
import Derived.Test.YtgmneohngadpeaaGreatDoorDn2
namespace Go.Proofs.YtgmneohngadpeaaGreatDoor
set_option linter.unusedVariables false
set_option linter.unusedSimpArgs false
open Go.RowKit Go.Lib

set_option maxHeartbeats 4000000 in
set_option maxRecDepth 100000 in
theorem nobody_walk (real : Bool) (w : World) : Calls Tryz.prog 3 #[.bool real] w fun e w' => e = .returned (.bool true) ∧ Below w.heap.size w w' := by
  obtain ⟨W1, hW1⟩ : ∃ W1, w.alloc (.cells #[.slice none 0 0, .slice none 0 0, .map none, .map none, .map none, .bool false] 29) = W1 := ⟨_, rfl⟩
  obtain ⟨W2, hW2⟩ : ∃ W2, W1.alloc (.cells #[.pointer none, .pointer (some ⟨w.heap.size, 0, none⟩)] 22) = W2 := ⟨_, rfl⟩
  have z1 : W1.heap.size = w.heap.size + 1 := by rw [← hW1]; simp
  have z2 : W2.heap.size = w.heap.size + 2 := by rw [← hW2]; simp [z1]
  have b1 : Below w.heap.size w W1 := by rw [← hW1]; exact below_box w _
  have b2 : Below w.heap.size w W2 := b1.trans (by rw [← hW2]; exact (below_box W1 _).mono (by omega))
  have hT : Nobody W1 (.pointer (some ⟨w.heap.size, 0, none⟩)) := .inr ⟨w.heap.size, rfl, by rw [← hW1]; exact new_cells w _ 29 0, by rw [← hW1]; exact new_cells w _ 29 1⟩
  have N1 : Hid (∀ W, Below W2.heap.size W2 W → Nobody W (.pointer (some ⟨w.heap.size, 0, none⟩))) := fun W hb => (hT.later (by rw [← hW2]; exact below_box W1 _)).later hb
  have p0 : W2.cell? ⟨w.heap.size + 1, 0, none⟩ = some (.pointer none) := by rw [← hW2, ← z1]; exact new_cells W1 _ 22 0
  have p1 : W2.cell? ⟨w.heap.size + 1, 1, none⟩ = some (.pointer (some ⟨w.heap.size, 0, none⟩)) := by rw [← hW2, ← z1]; exact new_cells W1 _ 22 1
  have B2 := hid b2
  clear b1 b2 hT
  go_enter Tryz.func3, Tryz.ntmps3
  go_wp2_with fail
  go_loopg [11] 3 (fun g i wr => (i = .int .i64 0 ∧ 2 ≤ g ∧ Below W2.heap.size W2 wr) ∨ (i = .int .i64 1 ∧ 1 ≤ g ∧ Below W2.heap.size W2 wr) ∨ (i = .int .i64 2 ∧ Below W2.heap.size W2 wr))
  case atStart => exact .inl ⟨rfl, by omega, Below.refl _ _⟩
  case round =>
    clear hW1 hW2
    rcases hrel with ⟨rfl, hg, hb⟩ | ⟨rfl, hg, hb⟩ | ⟨rfl, hb⟩
    · have d0 : wr.cell? ⟨w.heap.size + 1, 0, none⟩ = some (.pointer none) := (hb.cell (p := ⟨w.heap.size + 1, 0, none⟩) (by show w.heap.size + 1 < _; omega)).trans p0
      have BR := hid hb
      clear hb
      go_wp2_with (go_at_call 4; refine (all_no _ _ _ (.inl rfl)).mono ?_; rintro e w1 ⟨rfl, hb1⟩; have B1 := hid hb1; clear hb1)
      go_roundg (gk - 1)
      case measure => omega
      case rel => exact .inr (.inl ⟨rfl, by omega, BR.out.trans (B1.out.mono BR.out.size)⟩)
    · have d1 : wr.cell? ⟨w.heap.size + 1, 1, none⟩ = some (.pointer (some ⟨w.heap.size, 0, none⟩)) := (hb.cell (p := ⟨w.heap.size + 1, 1, none⟩) (by show w.heap.size + 1 < _; omega)).trans p1
      have BR := hid hb
      clear hb
      go_wp2_with (go_at_call 4; refine (all_no _ _ _ (N1.out _ BR.out)).mono ?_; rintro e w1 ⟨rfl, hb1⟩; have B1 := hid hb1; clear hb1)
      go_roundg (gk - 1)
      case measure => omega
      case rel => exact .inr (.inr ⟨rfl, BR.out.trans (B1.out.mono BR.out.size)⟩)
    · have BW : Hid (Below w.heap.size w wr) := B2.out.trans (hb.mono (by omega))
      clear hb
      obtain ⟨W, hW⟩ : ∃ W, wr.alloc (.cells #[.int .i64 0, .int .i64 1, .int .i64 1, .string ⟨#[]⟩, .int .i64 0, .int .i64 0, .bool false, .bool false] 38) = W := ⟨_, rfl⟩
      have BA : Hid (Below wr.heap.size wr W) := by rw [← hW]; exact below_box wr _
      have LW : Hid (Lw W (some ⟨wr.heap.size, 0, none⟩) 1 (fun _ => (0, 1, 1, ⟨#[]⟩, 0, 0, false, false))) := fun j hj => by
        have hj0 : j = 0 := by omega
        subst hj0
        refine ⟨wr.heap.size, 0, rfl, by rw [← hW]; simp, fun i u hi => ?_⟩
        rw [← hW]
        rw [show 0 + 0 * 8 + i = i by omega, new_cells]
        simpa [encW] using hi
      go_wp2_with fail
      refine (dgraph_is 2 (by omega) _ 1 1 _ W LW.out (by omega)).mono ?_
      rintro e w3 ⟨hh, hb3⟩
      have B3 : Hid (Below w.heap.size w w3) := (BW.out.trans (BA.out.mono BW.out.size)).trans (hb3.mono (BW.out.trans (BA.out.mono BW.out.size)).size)
      rcases hh with ⟨why, ⟨j, hj, _, hne, _⟩, _⟩ | ⟨_, gb, r, bk, ck, rfl, hG, _, _⟩
      · exact absurd (by rfl) hne
      · have HG := hid hG
        clear hG hb3
        have e1 : labAt (gL (fun _ => ((0, 1, 1, ⟨#[]⟩, 0, 0, false, false) : MW)) 1) 0 1 = 1 := by decide
        have LB := labels_at gb 2 r 0 bk ck _ 1 w3 HG.out (by omega)
        rw [e1] at LB
        have HLB := hid LB
        clear LB e1
        go_wp2_with (go_at_call 6; refine HLB.out.mono ?_; rintro e w' ⟨rfl, rfl⟩)
        go_ret
        exact ⟨rfl, B3.out⟩
end Go.Proofs.YtgmneohngadpeaaGreatDoor
