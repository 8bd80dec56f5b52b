/-
  The law GraphNobody: graphs that no call made.
-/
import Derived.Test.YtpkfpfflnncleabDoorJ1
namespace Go.Proofs.YtpkfpfflnncleabDoor
set_option linter.unusedVariables false
set_option linter.unusedSimpArgs false
open Go.RowKit

/-- No graph: nil, or one that no call made. -/
def NoG (w : World) (v : Value) : Prop := v = .pointer none ∨ ∃ b, v = .pointer (some ⟨b, 0, none⟩) ∧ w.cell? ⟨b, 0, none⟩ = some (.bool false)
theorem NoG.later {w w' : World} {v : Value} (h : NoG w v) (hb : Below w.heap.size w w') : NoG w' v := by
  rcases h with h | ⟨b, h1, h2⟩
  · exact .inl h
  · exact .inr ⟨b, h1, (hb.cell (p := ⟨b, 0, none⟩) (World.block_lt_of_cell? _ _ h2)).trans h2⟩
theorem gmade_no (v : Value) (w : World) (h : NoG w v) : Calls Tryd.prog 29 #[v] w fun e w' => e = .returned (.bool false) ∧ w = w' := by
  rcases h with rfl | ⟨b, rfl, h2⟩
  · go_enter Tryd.func29, Tryd.ntmps29
    go_wp2
    go_ret
    exact ⟨rfl, rfl⟩
  · exact gMade_at b false w h2
theorem ghas_none (v : Value) (i : Int) (w : World) (h : NoG w v) : Calls Tryd.prog 30 #[v, .int .i64 i] w fun e w' => e = .returned (.bool false) ∧ w = w' := by
  go_enter Tryd.func30, Tryd.ntmps30
  go_wp2_with (go_at_call 29; refine (gmade_no _ _ h).mono ?_; rintro e w' ⟨rfl, rfl⟩)
  go_ret
  exact ⟨rfl, rfl⟩
theorem nodes_none (v : Value) (w : World) (h : NoG w v) : Calls Tryd.prog 15 #[v] w fun e w' => e = .returned (.int .i64 0) ∧ w = w' := by
  go_enter Tryd.func15, Tryd.ntmps15
  go_wp2_with (go_at_call 29; refine (gmade_no _ _ h).mono ?_; rintro e w' ⟨rfl, rfl⟩)
  go_ret
  exact ⟨rfl, rfl⟩
theorem gadd_none (v : Value) (f t x : Int) (w : World) (h : NoG w v) : Calls Tryd.prog 14 #[v, .int .i64 f, .int .i64 t, .int .i64 x] w fun e w' => e = .returned (.int .i64 2) ∧ w = w' := by
  go_enter Tryd.func14, Tryd.ntmps14
  go_wp2_with (go_at_call 29; refine (gmade_no _ _ h).mono ?_; rintro e w' ⟨rfl, rfl⟩)
  go_ret
  exact ⟨rfl, rfl⟩
theorem labels_none (v : Value) (f t : Int) (w : World) (h : NoG w v) : Calls Tryd.prog 17 #[v, .int .i64 f, .int .i64 t] w fun e w' => e = .returned (.int .i64 0) ∧ w = w' := by
  go_enter Tryd.func17, Tryd.ntmps17
  go_wp2_with (go_at_call 30; refine (ghas_none _ _ _ h).mono ?_; rintro e w' ⟨rfl, rfl⟩)
  go_ret
  exact ⟨rfl, rfl⟩
theorem out_none (v : Value) (f l : Int) (w : World) (h : NoG w v) : Calls Tryd.prog 16 #[v, .int .i64 f, .int .i64 l] w fun e w' => e = .returned (.slice none 0 0) ∧ w = w' := by
  go_enter Tryd.func16, Tryd.ntmps16
  go_wp2_with (go_at_call 30; refine (ghas_none _ _ _ h).mono ?_; rintro e w' ⟨rfl, rfl⟩)
  go_ret
  exact ⟨rfl, rfl⟩
theorem edges_none (v : Value) (w : World) (h : NoG w v) : Calls Tryd.prog 19 #[v] w fun e w' => e = .returned (.slice none 0 0) ∧ w = w' := by
  have H := hid h
  clear h
  go_enter Tryd.func19, Tryd.ntmps19
  go_wp2_with (go_at_call 15; refine (nodes_none _ _ H.out).mono ?_; rintro e w' ⟨rfl, rfl⟩)
  go_loopg [3, 4, 7] 0 (fun g l _ i wr => i = .int .i64 0 ∧ l = .slice none 0 0 ∧ wr = w)
  case atStart => exact ⟨rfl, rfl, rfl⟩
  case round =>
    obtain ⟨rfl, rfl, rfl⟩ := hrel
    go_wp2_with fail
    go_ret
    exact ⟨rfl, rfl⟩
theorem redraw_none (v f : Value) (w : World) (h : NoG w v) : Calls Tryd.prog 26 #[v, f] w fun e w' => e = .returned (.pointer none) ∧ w = w' := by
  go_enter Tryd.func26, Tryd.ntmps26
  go_wp2_with (go_at_call 29; refine (gmade_no _ _ h).mono ?_; rintro e w' ⟨rfl, rfl⟩)
  go_ret
  exact ⟨rfl, rfl⟩
theorem turn_none (v : Value) (w : World) (h : NoG w v) : Calls Tryd.prog 9 #[v] w fun e w' => e = .returned (.pointer none) ∧ w = w' := by
  go_enter Tryd.func9, Tryd.ntmps9
  go_wp2_with (go_at_call 26; refine (redraw_none _ _ _ h).mono ?_; rintro e w' ⟨rfl, rfl⟩)
  go_ret
  exact ⟨rfl, rfl⟩
theorem only_none (v : Value) (l : Int) (w : World) (h : NoG w v) : Calls Tryd.prog 10 #[v, .int .i64 l] w fun e w' => e = .returned (.pointer none) ∧ Below w.heap.size w w' := by
  have H2 : ∀ o, NoG (w.alloc o) v := fun o => h.later (below_box w o)
  go_enter Tryd.func10, Tryd.ntmps10
  go_wp2_with (go_at_call 26; refine (redraw_none _ _ _ (H2 _)).mono ?_; rintro e w' ⟨rfl, rfl⟩)
  go_ret
  exact ⟨rfl, below_box w _⟩
theorem start_gnobody (w : World) : (fun wr : World => wr.cell? ⟨w.heap.size + 1, 0, none⟩ = some (.pointer none) ∧ wr.cell? ⟨w.heap.size + 1, 1, none⟩ = some (.pointer (some ⟨w.heap.size, 0, none⟩)) ∧ wr.cell? ⟨w.heap.size, 0, none⟩ = some (.bool false) ∧ Below w.heap.size w wr ∧ w.heap.size + 1 < wr.heap.size) ((w.alloc (.cells #[.bool false, .int .i64 0, .slice none 0 0] 49)).alloc (.cells #[.pointer none, .pointer (some ⟨w.heap.size, 0, none⟩)] 23)) := by
  have s1 : (w.alloc (.cells #[.bool false, .int .i64 0, .slice none 0 0] 49)).heap.size = w.heap.size + 1 := by simp
  have e1 : (w.alloc (.cells #[.bool false, .int .i64 0, .slice none 0 0] 49)).cell? ⟨w.heap.size, 0, none⟩ = some (.bool false) := Lib.cell_of_heap (heap_alloc_new w _) 0
  have B1 := below_box w (.cells #[.bool false, .int .i64 0, .slice none 0 0] 49)
  generalize w.alloc (.cells #[.bool false, .int .i64 0, .slice none 0 0] 49) = W at *
  show _ ∧ _ ∧ _ ∧ _ ∧ _
  rw [← s1]
  refine ⟨Lib.cell_of_heap (heap_alloc_new W _) 0, Lib.cell_of_heap (heap_alloc_new W _) 1, ?_, B1.alloc (by omega) _, by simp⟩
  exact ((below_box W _).cell (p := ⟨w.heap.size, 0, none⟩) (by show w.heap.size < W.heap.size; omega)).trans e1

set_option maxHeartbeats 4000000 in
set_option maxRecDepth 100000 in
theorem gnobody_walk (n : Int) (w : World) (hT : Tab w) : Calls Tryd.prog 6 #[.int .i64 n] w fun e w' => e = .returned (.bool true) ∧ Below w.heap.size w w' := by
  have TB := hid hT
  clear hT
  go_enter Tryd.func6, Tryd.ntmps6
  go_wp2_with fail
  obtain ⟨s0, s1, sp, sb, sz⟩ := start_gnobody w
  generalize (w.alloc (.cells #[.bool false, .int .i64 0, .slice none 0 0] 49)).alloc (.cells #[.pointer none, .pointer (some ⟨w.heap.size, 0, none⟩)] 23) = W0 at *
  have SP := hid sp
  have SB := hid sb
  clear sp sb
  go_loopg [4, 9] 2 (fun g _ i wr => ∃ k : Nat, k ≤ 2 ∧ 2 - k ≤ g ∧ i = .int .i64 k ∧ Aside (Below W0.heap.size W0 wr))
  case atStart => exact ⟨0, Nat.zero_le _, by omega, rfl, Below.refl _ _⟩
  case round =>
    obtain ⟨k, hk, hg, rfl, BW⟩ := hrel
    by_cases hlt : k < 2
    · obtain ⟨p, cv, NV⟩ : ∃ p, wr.cell? ⟨w.heap.size + 1, k, none⟩ = some (.pointer p) ∧ Hid (NoG wr (.pointer p)) := by
        have hk2 : k = 0 ∨ k = 1 := by omega
        rcases hk2 with rfl | rfl
        · exact ⟨_, (BW.out.cell (p := ⟨w.heap.size + 1, 0, none⟩) sz).trans s0, .inl rfl⟩
        · exact ⟨_, (BW.out.cell (p := ⟨w.heap.size + 1, 1, none⟩) sz).trans s1, NoG.later (.inr ⟨_, rfl, SP.out⟩) BW.out⟩
      have hlti : (k : Int) < 2 := by omega
      clear s0 s1
      go_wp2_with (first | (go_at_call 14; refine (gadd_none _ _ _ _ _ NV.out).mono ?_; rintro e w' ⟨rfl, rfl⟩) | (go_at_call 17; refine (labels_none _ _ _ _ NV.out).mono ?_; rintro e w' ⟨rfl, rfl⟩) | (go_at_call 16; refine (out_none _ _ _ _ NV.out).mono ?_; rintro e w' ⟨rfl, rfl⟩) | (go_at_call 19; refine (edges_none _ _ NV.out).mono ?_; rintro e w' ⟨rfl, rfl⟩) | (go_at_call 15; refine (nodes_none _ _ NV.out).mono ?_; rintro e w' ⟨rfl, rfl⟩) | (go_at_call 9; refine (turn_none _ _ NV.out).mono ?_; rintro e w' ⟨rfl, rfl⟩))
      go_at_call 10
      refine (only_none _ _ _ NV.out).mono ?_
      rintro e w2 ⟨rfl, b2⟩
      have B2 : Hid (Below W0.heap.size W0 w2) := BW.out.trans (b2.mono BW.out.size)
      clear b2 cv NV BW
      go_wp2_with fail
      go_roundg (2 - (k + 1))
      · exact ⟨k + 1, by omega, by omega, rfl, B2.out⟩
      · omega
    · have hlti : ¬ (k : Int) < 2 := by omega
      have BB : Hid (Below w.heap.size w wr) := SB.out.trans (BW.out.mono SB.out.size)
      have BC : Hid (Below w.heap.size w (wr.alloc (.cells #[.int .i64 0, .int .i64 1, .int .i64 1] 41))) := BB.out.trans ((below_box wr _).mono BB.out.size)
      have AE : Hid (ArgE (wr.alloc (.cells #[.int .i64 0, .int .i64 1, .int .i64 1] 41)) (some ⟨wr.heap.size, 0, none⟩) [(0, 1, 1)]) := fun j hj => by
        have hj0 : j = 0 := by simp at hj; omega
        subst hj0
        have hh := heap_alloc_new wr (.cells #[.int .i64 0, .int .i64 1, .int .i64 1] 41)
        exact ⟨_, 0, rfl, Lib.cell_of_heap hh 0, Lib.cell_of_heap hh 1, Lib.cell_of_heap hh 2⟩
      go_wp2_with fail
      refine (gedges_walk 2 (some ⟨wr.heap.size, 0, none⟩) 1 [(0, 1, 1)] _ AE.out (by decide) (TB.out.later BC.out)).mono ?_
      rintro e w2 ⟨rfl, b2⟩
      have B2 : Hid (Below w.heap.size w w2) := BC.out.trans (b2.mono BC.out.size)
      clear b2
      go_wp2_with fail
      go_ret
      exact ⟨rfl, B2.out⟩
end Go.Proofs.YtpkfpfflnncleabDoor
