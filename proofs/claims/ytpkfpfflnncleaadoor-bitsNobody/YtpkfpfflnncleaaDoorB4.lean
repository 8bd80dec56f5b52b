/-
  The walk of the law: sets that no call made.
-/
import Derived.Test.YtpkfpfflnncleaaDoorB3
namespace Go.Proofs.YtpkfpfflnncleaaDoor
set_option linter.unusedVariables false
set_option linter.unusedSimpArgs false
open Go.RowKit

theorem new5 (w : World) : Calls Tryd.prog 8 #[.int .i64 5] w fun e w' => e = .returned (.tuple #[.pointer (some ⟨w.heap.size + 1, 0, none⟩), .int .i64 0]) ∧ w'.cell? ⟨w.heap.size + 1, 0, none⟩ = some (.bool true) ∧ Below w.heap.size w w' := by
  refine (new_set 5 (by omega) w).mono ?_
  rintro e w' ⟨rfl, h, hb, _⟩
  exact ⟨rfl, Lib.cell_of_heap h.box 0, hb⟩
theorem start_nobody (w : World) : (fun wr : World => wr.cell? ⟨w.heap.size + 1, 0, none⟩ = some (.pointer none) ∧ wr.cell? ⟨w.heap.size + 1, 1, none⟩ = some (.pointer (some ⟨w.heap.size, 0, none⟩)) ∧ wr.cell? ⟨w.heap.size, 0, none⟩ = some (.bool false) ∧ Below w.heap.size w wr ∧ w.heap.size + 1 < wr.heap.size) ((w.alloc (.cells #[.bool false, .int .i64 0, .slice none 0 0] 56)).alloc (.cells #[.pointer none, .pointer (some ⟨w.heap.size, 0, none⟩)] 23)) := by
  have s1 : (w.alloc (.cells #[.bool false, .int .i64 0, .slice none 0 0] 56)).heap.size = w.heap.size + 1 := by simp
  have e1 : (w.alloc (.cells #[.bool false, .int .i64 0, .slice none 0 0] 56)).cell? ⟨w.heap.size, 0, none⟩ = some (.bool false) := new_cells w _ 56 0
  have B1 := below_box w (.cells #[.bool false, .int .i64 0, .slice none 0 0] 56)
  generalize w.alloc (.cells #[.bool false, .int .i64 0, .slice none 0 0] 56) = W at *
  show _ ∧ _ ∧ _ ∧ _ ∧ _
  rw [← s1]
  refine ⟨new_cells W _ 23 0, new_cells W _ 23 1, ?_, B1.alloc (by omega) _, by simp⟩
  exact ((below_box W _).cell (p := ⟨w.heap.size, 0, none⟩) (by show w.heap.size < W.heap.size; omega)).trans e1

set_option maxHeartbeats 4000000 in
set_option maxRecDepth 100000 in
theorem nobody_walk (n : Int) (w : World) : Calls Tryd.prog 5 #[.int .i64 n] w fun e w' => e = .returned (.bool true) ∧ Below w.heap.size w w' := by
  go_enter Tryd.func5, Tryd.ntmps5
  go_wp2_with fail
  obtain ⟨s0, s1, sp, sb, sz⟩ := start_nobody w
  generalize (w.alloc (.cells #[.bool false, .int .i64 0, .slice none 0 0] 56)).alloc (.cells #[.pointer none, .pointer (some ⟨w.heap.size, 0, none⟩)] 23) = W0 at *
  have SP := hid sp
  have SB := hid sb
  clear sp sb
  go_loopg [4, 5, 6, 7, 8, 9, 10, 11, 12, 17] 2 (fun g _ _ _ _ _ _ _ _ _ i wr => ∃ k : Nat, k ≤ 2 ∧ 2 - k ≤ g ∧ i = .int .i64 k ∧ Aside (Below W0.heap.size W0 wr))
  case atStart => exact ⟨0, Nat.zero_le _, by omega, rfl, Below.refl _ _⟩
  case round =>
    obtain ⟨k, hk, hg, rfl, BW⟩ := hrel
    by_cases hlt : k < 2
    · obtain ⟨p, cv, NV⟩ : ∃ p, wr.cell? ⟨w.heap.size + 1, k, none⟩ = some (.pointer p) ∧ Hid (NoSet wr (.pointer p)) := by
        have hk2 : k = 0 ∨ k = 1 := by omega
        rcases hk2 with rfl | rfl
        · exact ⟨_, (BW.out.cell (p := ⟨w.heap.size + 1, 0, none⟩) sz).trans s0, .inl rfl⟩
        · exact ⟨_, (BW.out.cell (p := ⟨w.heap.size + 1, 1, none⟩) sz).trans s1, NoSet.later (.inr ⟨_, rfl, SP.out⟩) BW.out⟩
      have hlti : (k : Int) < 2 := by omega
      clear s0 s1
      go_wp2_with fail
      go_at_call 8
      refine (new5 _).mono ?_
      rintro e w2 ⟨rfl, tm, b2⟩
      have NV2 : Hid (NoSet w2 (.pointer p)) := NV.out.later b2
      have B2 : Hid (Below W0.heap.size W0 w2) := BW.out.trans (b2.mono BW.out.size)
      have TM := hid tm
      clear b2 cv NV tm BW
      go_wp2_with (first | (go_at_call 14; refine (or_no1 _ _ _ NV2.out).mono ?_; rintro e w' ⟨rfl, rfl⟩) | (go_at_call 16; refine (and_no2 _ _ _ TM.out NV2.out).mono ?_; rintro e w' ⟨rfl, rfl⟩) | (go_at_call 20; refine (next_no _ _ _ NV2.out).mono ?_; rintro e w' ⟨rfl, rfl⟩) | (go_at_call 10; refine (add_no _ _ _ NV2.out).mono ?_; rintro e w' ⟨rfl, rfl⟩) | (go_at_call 12; refine (drop_no _ _ _ NV2.out).mono ?_; rintro e w' ⟨rfl, rfl⟩) | (go_at_call 27; refine (has_no _ _ _ NV2.out).mono ?_; rintro e w' ⟨rfl, rfl⟩) | (go_at_call 25; refine (count_no _ _ NV2.out).mono ?_; rintro e w' ⟨rfl, rfl⟩) | (go_at_call 26; refine (bound_no _ _ NV2.out).mono ?_; rintro e w' ⟨rfl, rfl⟩) | (go_at_call 23; refine (list_no _ _ NV2.out).mono ?_; rintro e w' ⟨rfl, rfl⟩) | (go_at_call 18; refine (copy_no _ _ NV2.out).mono ?_; rintro e w' ⟨rfl, rfl⟩))
      go_at_call 29
      refine (same_no1 _ _ _ NV2.out).mono ?_
      rintro e w3 ⟨rfl, q, rfl⟩
      have NV3 : Hid (NoSet (w2.drewN q) (.pointer p)) := NV2.out.drewN q
      have TM3 := hid ((cell_drewN w2 q _).trans TM.out)
      have B3 : Hid (Below W0.heap.size W0 (w2.drewN q)) := below_drewN B2.out q
      clear NV2 TM
      go_wp2_with fail
      go_at_call 29
      refine (same_no2 _ _ _ TM3.out NV3.out).mono ?_
      rintro e w4 ⟨rfl, q4, rfl⟩
      have B4 : Hid (Below W0.heap.size W0 (w2.drewN (q + q4))) := below_drewN B2.out (q + q4)
      go_wp2_with fail
      go_roundg (2 - (k + 1))
      · exact ⟨k + 1, by omega, by omega, rfl, B4.out⟩
      · omega
    · have hlti : ¬ (k : Int) < 2 := by omega
      go_wp2_with fail
      go_ret
      exact ⟨rfl, SB.out.trans (BW.out.mono SB.out.size)⟩
end Go.Proofs.YtpkfpfflnncleaaDoor
