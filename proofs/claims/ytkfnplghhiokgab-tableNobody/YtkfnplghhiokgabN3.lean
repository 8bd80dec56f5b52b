/-
  The walk of the law: a table that no call made.
-/
import Derived.Test.YtkfnplghhiokgabN2
namespace Go.Proofs.Ytkfnplghhiokgab
set_option linter.unusedVariables false
set_option linter.unusedSimpArgs false
open Go.RowKit

theorem start_law (w : World) : (fun wr : World => wr.cell? ⟨w.heap.size + 1, 0, none⟩ = some (.pointer none) ∧ wr.cell? ⟨w.heap.size + 1, 1, none⟩ = some (.pointer (some ⟨w.heap.size, 0, none⟩)) ∧ Plain wr w.heap.size ∧ Below w.heap.size w wr ∧ w.heap.size + 1 < wr.heap.size) ((w.alloc (.cells #[.slice none 0 0, .slice none 0 0, .map none, .map none, .map none, .bool false] 64)).alloc (.cells #[.pointer none, .pointer (some ⟨w.heap.size, 0, none⟩)] 24)) := by
  have s1 : (w.alloc (.cells #[.slice none 0 0, .slice none 0 0, .map none, .map none, .map none, .bool false] 64)).heap.size = w.heap.size + 1 := by simp
  have e1 : Nobody (w.alloc (.cells #[.slice none 0 0, .slice none 0 0, .map none, .map none, .map none, .bool false] 64)) (.pointer (some ⟨w.heap.size, 0, none⟩)) := .inr ⟨w.heap.size, rfl, new_cells w _ 64 0, new_cells w _ 64 1, new_cells w _ 64 2, new_cells w _ 64 3, new_cells w _ 64 4, new_cells w _ 64 5⟩
  have B1 := below_box w (.cells #[.slice none 0 0, .slice none 0 0, .map none, .map none, .map none, .bool false] 64)
  generalize w.alloc (.cells #[.slice none 0 0, .slice none 0 0, .map none, .map none, .map none, .bool false] 64) = W at *
  have e2 := e1.later (below_box W (.cells #[.pointer none, .pointer (some ⟨w.heap.size, 0, none⟩)] 24))
  show _ ∧ _ ∧ _ ∧ _ ∧ _
  rw [← s1]
  refine ⟨new_cells W _ 24 0, new_cells W _ 24 1, ?_, B1.alloc (by omega) _, by simp⟩
  rcases e2 with h | ⟨b, h, P⟩
  · cases h
  · cases h; exact P

set_option maxHeartbeats 4000000 in
set_option maxRecDepth 100000 in
theorem law_walk (s : ByteArray) (n : Int) (w : World) (hs : s.size ≤ maxLen) (hn : (Lit.int .i64 n).wf = true) : Calls Try.prog 7 #[.string s, .int .i64 n] w fun e w' => e = .returned (.bool true) ∧ Below w.heap.size w w' := by
  have HS := hid hs
  have HN := hid hn
  clear hs hn
  go_enter Try.func7, Try.ntmps7
  go_wp2_with fail
  obtain ⟨s0, s1, sp, sb, sz⟩ := start_law w
  generalize (w.alloc (.cells #[.slice none 0 0, .slice none 0 0, .map none, .map none, .map none, .bool false] 64)).alloc (.cells #[.pointer none, .pointer (some ⟨w.heap.size, 0, none⟩)] 24) = W0 at *
  have SP := hid sp
  have SB := hid sb
  clear sp sb
  go_loopg [6, 11] 2 (fun g _ i wr => ∃ k : Nat, k ≤ 2 ∧ 2 - k ≤ g ∧ i = .int .i64 k ∧ Aside (Below W0.heap.size W0 wr))
  case atStart => exact ⟨0, Nat.zero_le _, by omega, rfl, Below.refl _ _⟩
  case round =>
    obtain ⟨k, hk, hg, rfl, BW⟩ := hrel
    by_cases hlt : k < 2
    · obtain ⟨p, cv, NV⟩ : ∃ p, wr.cell? ⟨w.heap.size + 1, k, none⟩ = some (.pointer p) ∧ Hid (Nobody wr (.pointer p)) := by
        have hk2 : k = 0 ∨ k = 1 := by omega
        rcases hk2 with rfl | rfl
        · exact ⟨_, (BW.out.cell (p := ⟨w.heap.size + 1, 0, none⟩) sz).trans s0, .inl rfl⟩
        · exact ⟨_, (BW.out.cell (p := ⟨w.heap.size + 1, 1, none⟩) sz).trans s1, Nobody.later (.inr ⟨_, rfl, SP.out⟩) BW.out⟩
      have hlti : (k : Int) < 2 := by omega
      clear s0 s1
      go_wp2_with (first | (go_at_call 12; refine (keys_no _ _ NV.out).mono ?_; rintro e w' ⟨rfl, rfl⟩) | (go_at_call 16; refine (kind_no _ _ _ NV.out).mono ?_; rintro e w' ⟨rfl, rfl⟩) | (go_at_call 22; refine (writers_no _ _ _ _ HS.out HN.out NV.out).mono ?_; rintro e w' ⟨rfl, rfl⟩) | (go_at_call 15; refine (count_no _ _ NV.out).mono ?_; rintro e w' ⟨rfl, rfl⟩))
      go_at_call 27
      refine (final_no _ _ _ _ NV.out).mono ?_
      rintro e w2 ⟨rfl, b2⟩
      have NV2 : Hid (Nobody w2 (.pointer p)) := NV.out.later b2
      have B2 : Hid (Below W0.heap.size W0 w2) := BW.out.trans (b2.mono BW.out.size)
      clear b2 cv NV
      go_wp2_with ((go_at_call 24; refine (unique_no _ _ NV2.out).mono ?_; rintro e w' ⟨rfl, rfl⟩))
      go_at_call 18
      refine (txn_no _ _ _ NV2.out).mono ?_
      rintro e w3 ⟨rfl, b3⟩
      have B3 : Hid (Below W0.heap.size W0 w3) := B2.out.trans (b3.mono B2.out.size)
      clear b3
      go_wp2_with fail
      go_at_call 19
      refine (sameTxn_zero _).mono ?_
      rintro e w4 ⟨rfl, b4⟩
      have B4 : Hid (Below W0.heap.size W0 w4) := B3.out.trans (b4.mono B3.out.size)
      clear b4
      go_wp2_with fail
      go_roundg (2 - (k + 1))
      · exact ⟨k + 1, by omega, by omega, rfl, B4.out⟩
      · omega
    · have hlti : ¬ (k : Int) < 2 := by omega
      go_wp2_with fail
      go_at_call 10
      refine (new_nil _).mono ?_
      rintro e w2 ⟨⟨b, rfl, c5⟩, b2⟩
      have B2 : Hid (Below w.heap.size w w2) := (SB.out.trans (BW.out.mono SB.out.size)).trans (b2.mono (Nat.le_trans SB.out.size BW.out.size))
      clear b2
      go_wp2_with fail
      go_at_call 24
      refine (unique_new _ _ c5).mono ?_
      rintro e w3 ⟨rfl, rfl⟩
      go_wp2_with fail
      go_ret
      exact ⟨rfl, B2.out⟩
end Go.Proofs.Ytkfnplghhiokgab
