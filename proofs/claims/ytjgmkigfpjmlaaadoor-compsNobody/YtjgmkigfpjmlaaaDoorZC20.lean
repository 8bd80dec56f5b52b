/-
  The law CompsNobody: graphs that no call made.
-/
import Derived.Test.YtjgmkigfpjmlaaaDoorZC15
namespace Go.Proofs.YtjgmkigfpjmlaaaDoor
set_option linter.unusedVariables false
set_option linter.unusedSimpArgs false
open Go.RowKit

attribute [local go_sem] run_store_func
/-- No graph: nil, or one that no call made. -/
def NoG (w : World) (p : Option Addr) : Prop := p = none ∨ ∃ b, p = some ⟨b, 0, none⟩ ∧ w.cell? ⟨b, 0, none⟩ = some (.bool false)
theorem NoG.later {w w' : World} {p : Option Addr} (h : NoG w p) (hb : Below w.heap.size w w') : NoG w' p := by
  rcases h with h | ⟨b, h1, h2⟩
  · exact .inl h
  · exact .inr ⟨b, h1, (hb.cell (p := ⟨b, 0, none⟩) (World.block_lt_of_cell? _ _ h2)).trans h2⟩
theorem gmade_no (p : Option Addr) (w : World) (h : NoG w p) : Calls Tryd.prog 41 #[.pointer p] w fun e w' => e = .returned (.bool false) ∧ w = w' := by
  rcases h with rfl | ⟨b, rfl, h2⟩
  · go_enter Tryd.func41, Tryd.ntmps41
    go_wp2
    go_ret
    exact ⟨rfl, rfl⟩
  · exact gMade_at b false w h2
theorem nodes_none (p : Option Addr) (w : World) (h : NoG w p) : Calls Tryd.prog 26 #[.pointer p] w fun e w' => e = .returned (.int .i64 0) ∧ w = w' := by
  go_enter Tryd.func26, Tryd.ntmps26
  go_wp2_with (go_at_call 41; refine (gmade_no _ _ h).mono ?_; rintro e w' ⟨rfl, rfl⟩)
  go_ret
  exact ⟨rfl, rfl⟩
theorem gadd_none (p : Option Addr) (f t x : Int) (w : World) (h : NoG w p) : Calls Tryd.prog 22 #[.pointer p, .int .i64 f, .int .i64 t, .int .i64 x] w fun e w' => e = .returned (.int .i64 2) ∧ w = w' := by
  go_enter Tryd.func22, Tryd.ntmps22
  go_wp2_with (go_at_call 41; refine (gmade_no _ _ h).mono ?_; rintro e w' ⟨rfl, rfl⟩)
  go_ret
  exact ⟨rfl, rfl⟩
theorem pMade_no (p : Option Addr) (w : World) (h : NoG w p) : Calls Tryd.prog 32 #[.pointer p] w fun e w' => e = .returned (.bool false) ∧ w = w' := by
  have A := hid (gadd_none p (-1) (-1) 0 w h)
  clear h
  go_enter Tryd.func32, Tryd.ntmps32
  go_wp2_with fail
  go_at_call 22
  refine A.out.mono ?_
  rintro e w' ⟨rfl, rfl⟩
  go_wp2_with fail
  go_ret
  exact ⟨rfl, rfl⟩
theorem order_none (p : Option Addr) (labels : Int) (w : World) (h : NoG w p) : Calls Tryd.prog 14 #[.pointer p, .int .i64 labels] w fun e w' => e = .returned (.tuple #[.slice none 0 0, .bool false]) ∧ w = w' := by
  have PM := hid (pMade_no p w h)
  clear h
  go_enter Tryd.func14, Tryd.ntmps14
  go_wp2_with (go_at_call 32; refine PM.out.mono ?_; rintro e w' ⟨rfl, rfl⟩)
  refine bodyPost_ret (v := .tuple #[.slice none 0 0, .bool false]) (by simp [results, Tryd.results14, go_sem]) rfl ⟨rfl, rfl⟩
set_option maxHeartbeats 8000000 in
set_option maxRecDepth 100000 in
theorem comps_none (p : Option Addr) (n : Nat) (hn : n = 0) (labels : Int) (w : World) (h : NoG w p) :
    Calls Tryd.prog 11 #[.pointer p, .int .i64 labels] w fun e w' => e = .returned (.slice none 0 0) ∧ Below w.heap.size w w' := by
  obtain ⟨iM, hiM, hzM⟩ := Option.map_eq_some_iff.1 Tryd.infoMark
  simp only [Prod.mk.injEq] at hzM
  obtain ⟨zM0, zM1, zM2⟩ := hzM
  have hmk : ∀ W : World, (Instr.makeSlice 61 (.int .i64 (n : Nat)) (.int .i64 (n : Nat))).run Tryd.prog W = .ok (.slice (some ⟨W.heap.size, 0, none⟩) n n) (W.alloc (.cells (Array.replicate (n * 2) (.int .i64 0)) 90)) := fun W => by
    have := run_make (P := Tryd.prog) W 61 90 iM (.agg #[.int .i64 0, .int .i64 0]) Tryd.underlying61 hiM zM0 .i64 .i64 (n : Nat) (n : Nat) (by omega) (by omega) (by rw [zM2]; omega) (by omega)
    simpa [zM1, Value.cells, made_marks] using this
  clear hiM zM0 zM1 zM2
  have hni : ¬ (0 : Int) < n := by omega
  obtain ⟨Wb, hWb⟩ : ∃ Wb, (w.alloc (.cells #[.pointer p] 23)).alloc (.cells #[.int .i64 labels] 3) = Wb := ⟨_, rfl⟩
  have BW : Below w.heap.size w Wb := by rw [← hWb]; exact ((Below.refl _ w).alloc (Nat.le_refl _) _).alloc (by simp) _
  have cg : Wb.cell? ⟨w.heap.size, 0, none⟩ = some (.pointer p) := by
    rw [← hWb]
    exact ((below_box _ _).cell (p := ⟨w.heap.size, 0, none⟩) (by simp)).trans (new_cells w _ _ 0)
  have N0 : Hid (Calls Tryd.prog 26 #[.pointer p] Wb fun e w' => e = .returned (.int .i64 (n : Nat)) ∧ Wb = w') := by rw [hn]; exact nodes_none p Wb (h.later BW)
  have HBW := hid BW
  have HN := hid hn
  clear BW h hn
  go_enter Tryd.func11, Tryd.ntmps11
  go_wp2_with fail
  go_at_call 26
  refine N0.out.mono ?_
  rintro e w' ⟨rfl, rfl⟩
  clear hWb
  have hY : ((Wb.alloc (.cells (Array.replicate (n * 2) (.int .i64 0)) 90)).alloc (.cells #[Value.nilFunc, .slice none 0 0, .int .i64 0, .slice none 0 0, .slice none 0 0, .slice none 0 0] 65)).heap[Wb.heap.size + 1]? = some (.cells #[Value.nilFunc, .slice none 0 0, .int .i64 0, .slice none 0 0, .slice none 0 0, .slice none 0 0] 65) := by
    have := heap_alloc_new (Wb.alloc (.cells (Array.replicate (n * 2) (.int .i64 0)) 90)) (.cells #[Value.nilFunc, .slice none 0 0, .int .i64 0, .slice none 0 0, .slice none 0 0, .slice none 0 0] 65)
    rwa [World.size_alloc] at this
  have y0 := Lib.cell_of_heap hY 0
  have z0 := Lib.frozen_of_heap hY 0
  have y1 := Lib.cell_of_heap hY 1
  have z1 := Lib.frozen_of_heap hY 1
  have y2 := Lib.cell_of_heap hY 2
  have z2 := Lib.frozen_of_heap hY 2
  have y3 := Lib.cell_of_heap hY 3
  have z3 := Lib.frozen_of_heap hY 3
  have y4 := Lib.cell_of_heap hY 4
  have z4 := Lib.frozen_of_heap hY 4
  have y5 := Lib.cell_of_heap hY 5
  have z5 := Lib.frozen_of_heap hY 5
  clear hY
  go_wp2_with fail
  clear y0 y1 y2 y3 y4 y5 z0 z1 z2 z3 z4 z5 hmk N0 cg
  have K0 : Hid (((Wb.alloc (.cells (Array.replicate (n * 2) (.int .i64 0)) 90)).alloc (.cells #[.func (.func 24) #[] #[.pointer (some ⟨w.heap.size, 0, none⟩), .pointer (some ⟨w.heap.size + 1, 0, none⟩)], .slice (some ⟨Wb.heap.size, 0, none⟩) n n, .int .i64 0, .slice none 0 0, .slice none 0 0, .slice none 0 0] 65)).heap[Wb.heap.size + 1]? = some (.cells #[.func (.func 24) #[] #[.pointer (some ⟨w.heap.size, 0, none⟩), .pointer (some ⟨w.heap.size + 1, 0, none⟩)], .slice (some ⟨Wb.heap.size, 0, none⟩) n n, .int .i64 0, .slice none 0 0, .slice none 0 0, .slice none 0 0] 65)) := by
    have := heap_alloc_new (Wb.alloc (.cells (Array.replicate (n * 2) (.int .i64 0)) 90)) (.cells #[.func (.func 24) #[] #[.pointer (some ⟨w.heap.size, 0, none⟩), .pointer (some ⟨w.heap.size + 1, 0, none⟩)], .slice (some ⟨Wb.heap.size, 0, none⟩) n n, .int .i64 0, .slice none 0 0, .slice none 0 0, .slice none 0 0] 65)
    rw [World.size_alloc] at this
    exact this
  have B0 : Hid (Below Wb.heap.size Wb ((Wb.alloc (.cells (Array.replicate (n * 2) (.int .i64 0)) 90)).alloc (.cells #[.func (.func 24) #[] #[.pointer (some ⟨w.heap.size, 0, none⟩), .pointer (some ⟨w.heap.size + 1, 0, none⟩)], .slice (some ⟨Wb.heap.size, 0, none⟩) n n, .int .i64 0, .slice none 0 0, .slice none 0 0, .slice none 0 0] 65))) := ((Below.refl _ Wb).alloc (Nat.le_refl _) _).alloc (by simp) _
  generalize (Wb.alloc (.cells (Array.replicate (n * 2) (.int .i64 0)) 90)).alloc (.cells #[.func (.func 24) #[] #[.pointer (some ⟨w.heap.size, 0, none⟩), .pointer (some ⟨w.heap.size + 1, 0, none⟩)], .slice (some ⟨Wb.heap.size, 0, none⟩) n n, .int .i64 0, .slice none 0 0, .slice none 0 0, .slice none 0 0] 65) = W0 at *
  have FSD := hid (found_sorted W0 Wb.heap.size (.slice none 0 0) [] ⟨World.ownsRow_nil _ _ _ _, fun p hp => (by cases hp)⟩ ⟨fun p hp => (by cases hp), List.Pairwise.nil⟩ (by simp) (fun p hp => (by cases hp)) B0.out.size)
  go_loopg [6, 15] 0 (fun g _ i wr => i = .int .i64 0 ∧ wr = W0)
  case atStart => exact ⟨rfl, rfl⟩
  case round =>
    obtain ⟨rfl, rfl⟩ := hrel
    have c5 := Lib.cell_of_heap K0.out 5
    go_wp2_with fail
    go_at_call 29
    refine FSD.out.mono ?_
    rintro e w6 ⟨rfl, -, g6⟩
    have c6 : w6.cell? ⟨Wb.heap.size + 1, 5, none⟩ = some (.slice none 0 0) := Lib.cell_of_heap (g6.at K0.out (by simp [Value.ownBlock])) 5
    have B6 : Hid (Below Wb.heap.size Wb w6) := B0.out.trans (g6.below Wb.heap.size (fun k hk => by simp [Value.ownBlock] at hk) B0.out.size)
    clear c5 g6 FSD K0 B0
    go_wp2_with fail
    go_ret
    exact ⟨rfl, HBW.out.trans (B6.out.mono HBW.out.size)⟩
set_option maxHeartbeats 4000000 in
theorem cyclic_none (p : Option Addr) (labels : Int) (w : World) (h : NoG w p) :
    Calls Tryd.prog 16 #[.pointer p, .int .i64 labels] w fun e w' => e = .returned (.bool false) ∧ Below w.heap.size w w' := by
  have CO := hid (comps_none p 0 rfl labels w h)
  clear h
  go_enter Tryd.func16, Tryd.ntmps16
  go_wp2_with fail
  go_at_call 11
  refine CO.out.mono ?_
  rintro e w1 ⟨rfl, b1⟩
  have B1 := hid b1
  have CF := hid (containsF_is w1 w.heap.size (.slice none 0 0) [] ⟨World.ownsRow_nil _ _ _ _, fun p hp => (by cases hp)⟩ (by simp) (fun p hp => (by cases hp)))
  clear b1 CO
  go_wp2_with fail
  go_at_call 36
  refine CF.out.mono ?_
  rintro e w2 ⟨rfl, rfl⟩
  have hgr : great (([] : List (List Nat × Value)).map Prod.fst) = false := by simp [great]
  clear CF
  rw [hgr]
  clear hgr
  go_wp2_with fail
  go_ret
  exact ⟨rfl, B1.out⟩
theorem start_nobody (w : World) : ((w.alloc (.cells #[.bool false, .int .i64 0, .slice none 0 0] 49)).alloc (.cells #[.pointer none, .pointer (some ⟨w.heap.size, 0, none⟩)] 23)).cell? ⟨w.heap.size + 1, 0, none⟩ = some (.pointer none)
    ∧ ((w.alloc (.cells #[.bool false, .int .i64 0, .slice none 0 0] 49)).alloc (.cells #[.pointer none, .pointer (some ⟨w.heap.size, 0, none⟩)] 23)).cell? ⟨w.heap.size + 1, 1, none⟩ = some (.pointer (some ⟨w.heap.size, 0, none⟩))
    ∧ ((w.alloc (.cells #[.bool false, .int .i64 0, .slice none 0 0] 49)).alloc (.cells #[.pointer none, .pointer (some ⟨w.heap.size, 0, none⟩)] 23)).cell? ⟨w.heap.size, 0, none⟩ = some (.bool false)
    ∧ Below w.heap.size w ((w.alloc (.cells #[.bool false, .int .i64 0, .slice none 0 0] 49)).alloc (.cells #[.pointer none, .pointer (some ⟨w.heap.size, 0, none⟩)] 23))
    ∧ w.heap.size + 1 < ((w.alloc (.cells #[.bool false, .int .i64 0, .slice none 0 0] 49)).alloc (.cells #[.pointer none, .pointer (some ⟨w.heap.size, 0, none⟩)] 23)).heap.size := by
  have s1 : (w.alloc (.cells #[.bool false, .int .i64 0, .slice none 0 0] 49)).heap.size = w.heap.size + 1 := by simp
  have e1 : (w.alloc (.cells #[.bool false, .int .i64 0, .slice none 0 0] 49)).cell? ⟨w.heap.size, 0, none⟩ = some (.bool false) := Lib.cell_of_heap (heap_alloc_new w _) 0
  have B1 := below_box w (.cells #[.bool false, .int .i64 0, .slice none 0 0] 49)
  generalize w.alloc (.cells #[.bool false, .int .i64 0, .slice none 0 0] 49) = W at *
  show _ ∧ _ ∧ _ ∧ _ ∧ _
  rw [← s1]
  refine ⟨Lib.cell_of_heap (heap_alloc_new W _) 0, Lib.cell_of_heap (heap_alloc_new W _) 1, ?_, B1.alloc (by omega) _, by simp⟩
  exact ((below_box W _).cell (p := ⟨w.heap.size, 0, none⟩) (by show w.heap.size < W.heap.size; omega)).trans e1
set_option maxHeartbeats 8000000 in
set_option maxRecDepth 100000 in
theorem nobody_walk (labels : Int) (w : World) (hT : Tab w) :
    Calls Tryd.prog 8 #[.int .i64 labels] w fun e w' => e = .returned (.bool true) ∧ Below w.heap.size w w' := by
  have TB := hid hT
  clear hT
  go_enter Tryd.func8, Tryd.ntmps8
  go_wp2_with fail
  obtain ⟨s0, s1, sp, sb, sz⟩ := start_nobody w
  generalize (w.alloc (.cells #[.bool false, .int .i64 0, .slice none 0 0] 49)).alloc (.cells #[.pointer none, .pointer (some ⟨w.heap.size, 0, none⟩)] 23) = W0 at *
  have SP := hid sp
  have SB := hid sb
  clear sp sb
  go_loopg [4, 5, 6, 11] 2 (fun g _ _ _ i wr => ∃ k : Nat, k ≤ 2 ∧ 2 - k ≤ g ∧ i = .int .i64 k ∧ Aside (Below W0.heap.size W0 wr))
  case atStart => exact ⟨0, Nat.zero_le _, by omega, rfl, Below.refl _ _⟩
  case round =>
    obtain ⟨k, hk, hg, rfl, BW⟩ := hrel
    by_cases hlt : k < 2
    · obtain ⟨p, cv, NV⟩ : ∃ p, wr.cell? ⟨w.heap.size + 1, k, none⟩ = some (.pointer p) ∧ Hid (NoG wr p) := by
        have hk2 : k = 0 ∨ k = 1 := by omega
        rcases hk2 with rfl | rfl
        · exact ⟨_, (BW.out.cell (p := ⟨w.heap.size + 1, 0, none⟩) sz).trans s0, .inl rfl⟩
        · exact ⟨_, (BW.out.cell (p := ⟨w.heap.size + 1, 1, none⟩) sz).trans s1, NoG.later (.inr ⟨_, rfl, SP.out⟩) BW.out⟩
      have hlti : (k : Int) < 2 := by omega
      have ON := hid (order_none p labels wr NV.out)
      have CN := hid (comps_none p 0 rfl labels wr NV.out)
      clear s0 s1
      go_wp2_with fail
      go_at_call 14
      refine ON.out.mono ?_
      rintro e w' ⟨rfl, rfl⟩
      clear cv ON
      go_wp2_with fail
      go_at_call 11
      refine CN.out.mono ?_
      rintro e w2 ⟨rfl, b2⟩
      have YN := hid (cyclic_none p labels w2 (NV.out.later b2))
      have B2 : Hid (Below W0.heap.size W0 w2) := BW.out.trans (b2.mono BW.out.size)
      clear b2 CN NV BW
      go_wp2_with fail
      go_at_call 16
      refine YN.out.mono ?_
      rintro e w3 ⟨rfl, b3⟩
      have B3 : Hid (Below W0.heap.size W0 w3) := B2.out.trans (b3.mono B2.out.size)
      clear b3 YN B2
      go_wp2_with fail
      go_roundg (2 - (k + 1))
      · exact ⟨k + 1, by omega, by omega, rfl, B3.out⟩
      · omega
    · have hlti : ¬ (k : Int) < 2 := by omega
      have BB : Hid (Below w.heap.size w wr) := SB.out.trans (BW.out.mono SB.out.size)
      have OW : Hid (Calls Tryd.prog 4 #[.int .i64 1, .slice none 0 0, .int .i64 labels] wr fun e w' => e = .returned (.bool true) ∧ Below wr.heap.size wr w') := orders_walk 1 none 0 [] labels wr (fun j hj => (by cases hj)) (by decide) (TB.out.later BB.out)
      clear BW s0 s1
      go_wp2_with fail
      go_at_call 4
      refine OW.out.mono ?_
      rintro e w2 ⟨rfl, b2⟩
      have B2 : Hid (Below w.heap.size w w2) := BB.out.trans (b2.mono BB.out.size)
      clear b2 OW
      go_wp2_with fail
      go_ret
      exact ⟨rfl, B2.out⟩
end Go.Proofs.YtjgmkigfpjmlaaaDoor
