/-
  The trace of a list that was read empty can be trusted; and the law.
-/
import Derived.Test.YtgceeecgmnpbhaaLs4
namespace Go.Proofs.Ytgceeecgmnpbhaa
set_option linter.unusedVariables false
set_option linter.unusedSimpArgs false
open Go.RowKit Go.Lib Go.Maps
open Tx (MTxn OpsOwn RowsIn.cells TxnRow TxnsIn)

abbrev lkV (rs m : Value) : Value := .agg #[.string kx, rs, .int .i64 0, .int .i64 0, .slice none 0 0, m]
set_option maxHeartbeats 8000000 in
set_option maxRecDepth 100000 in
theorem trusted_1 (B tb : Nat) (w : World) (h : Made B w tb l1) : Calls Try.prog 8 #[.pointer (some ⟨tb, 0, none⟩), .string kx] w fun e w' => (∃ g cap sb, e = .returned (.tuple #[lkV (.slice (some ⟨g, 0, none⟩) 1 cap) (.map (some sb)), .bool true])) ∧ Below w.heap.size w w' := by
  have LK : ∀ o, Hid (Calls Try.prog 9 #[.pointer (some ⟨tb, 0, none⟩), .string kx] (w.alloc o) fun e w' => LookP (w.alloc o) e w') := fun o => look_1 B tb _ (h.later (below_box w o))
  clear h
  go_enter Try.func8, Try.ntmps8
  go_wp2_with (go_at_call 9; refine (LK _).out.mono ?_; rintro e w1 ⟨la, lc, g, cap, sb, rfl, g0, g1, g2, b1⟩; obtain ⟨hs1, y, fz, b1⟩ := box_later b1; have Y := hid y; have B1 := hid b1; have GG := hid (And.intro g0 (And.intro g1 g2)); clear b1 y g0 g1 g2 LK)
  have nk := fun i => new_cells w1 #[.string kx, .slice (some ⟨g, 0, none⟩) 1 cap, .int .i64 0, .int .i64 0, .slice none 0 0, .map (some sb)] 50 i
  have AN := hid (anomalies_0 w1.heap.size sb g 0 cap kx la lc (w1.alloc (.cells #[.string kx, .slice (some ⟨g, 0, none⟩) 1 cap, .int .i64 0, .int .i64 0, .slice none 0 0, .map (some sb)] 50)) ⟨nk 0, nk 1, nk 2, nk 3, nk 4, nk 5⟩ (Lib.cell?_alloc_some _ GG.out.1) (Lib.cell?_alloc_some _ GG.out.2.1) (Lib.cell?_alloc_some _ GG.out.2.2))
  clear nk
  refine AN.out.mono ?_
  rintro e w4 ⟨rfl, b4⟩
  obtain ⟨hs4, ky, kfz, b14⟩ := box_later b4
  have z0 := ky 0
  have z1 := ky 1
  have z2 := ky 2
  have z3 := ky 3
  have z4 := ky 4
  have z5 := ky 5
  simp only [List.getElem?_toArray, List.getElem?_cons_zero, List.getElem?_cons_succ] at z0 z1 z2 z3 z4 z5
  have n4 : ∀ i, w4.cell? ⟨w.heap.size, i, none⟩ = w1.cell? ⟨w.heap.size, i, none⟩ := fun i => b14.cell (p := ⟨w.heap.size, i, none⟩) hs1
  have y0 := (n4 0).trans (Y.out 0)
  have y1 := (n4 1).trans (Y.out 1)
  have y2 := (n4 2).trans (Y.out 2)
  have y3 := (n4 3).trans (Y.out 3)
  have y4 := (n4 4).trans (Y.out 4)
  have y5 := (n4 5).trans (Y.out 5)
  simp only [List.getElem?_toArray, List.getElem?_cons_zero, List.getElem?_cons_succ] at y0 y1 y2 y3 y4 y5
  have fz4 : ∀ i, w4.frozen? ⟨w.heap.size, i, none⟩ = false := fun i => (b14.frozen (p := ⟨w.heap.size, i, none⟩) hs1).trans (fz i)
  have B4 : Hid (Below w.heap.size w w4) := B1.out.trans (b14.mono B1.out.size)
  clear AN b4 b14 ky kfz n4 fz Y B1 GG
  go_wp2_with (go_at_call 18; refine (harmless_0 _).mono ?_; rintro e w' ⟨rfl, rfl⟩)
  refine bodyPost_ret (v := .tuple #[lkV (.slice (some ⟨g, 0, none⟩) 1 cap) (.map (some sb)), .bool true]) (by simp [results, Try.results8, go_sem, y0, y1, y2, y3, y4, y5]) rfl ⟨⟨_, _, _, rfl⟩, ?_⟩
  exact (((((B4.out.setCell (Nat.le_refl _) _).setCell (Nat.le_refl _) _).setCell (Nat.le_refl _) _).setCell (Nat.le_refl _) _).setCell (Nat.le_refl _) _).setCell (Nat.le_refl _) _
set_option maxHeartbeats 2000000 in
set_option maxRecDepth 100000 in
theorem trace_1 (B tb : Nat) (w : World) (h : Made B w tb l1) : Calls Try.prog 4 #[.pointer (some ⟨tb, 0, none⟩), .string kx] w fun e w' => e = .returned (.tuple #[.slice none 0 0, .bool true]) ∧ Below w.heap.size w w' := by
  have TR := hid (trusted_1 B tb w h)
  clear h
  go_enter Try.func4, Try.ntmps4
  go_wp2_with (go_at_call 8; refine TR.out.mono ?_; rintro e w1 ⟨⟨g, cap, sb, rfl⟩, b1⟩; have B1 := hid b1; clear b1 TR)
  go_ret2
  exact ⟨rfl, B1.out.trans ((below_box w1 _).mono B1.out.size)⟩
theorem ten_1 : ∀ t ∈ l1, t.ops.length ≤ 10 := by
  intro t ht
  simp only [List.mem_cons, List.not_mem_nil, or_false] at ht
  subst ht
  decide
/-- The one transaction, as the law writes it down. -/
theorem txns_1 (w : World) : TxnsIn Any ((w.alloc (.cells #[.int .i64 2, .string kx, .int .i64 0, .slice none 0 0, .bool true, .bool false] 40)).alloc (.cells #[.int .i64 0, .int .i64 1, .int .i64 0, .int .i64 0, .slice (some ⟨w.heap.size, 0, none⟩) 1 1] 43)) (.slice (some ⟨w.heap.size + 1, 0, none⟩) 1 1) l1 := by
  have hs : (w.alloc (.cells #[.int .i64 2, .string kx, .int .i64 0, .slice none 0 0, .bool true, .bool false] 40)).heap.size = w.heap.size + 1 := by rw [alloc_size]
  have no := fun i => new_cells w #[.int .i64 2, .string kx, .int .i64 0, .slice none 0 0, .bool true, .bool false] 40 i
  have nt := fun i => new_cells (w.alloc (.cells #[.int .i64 2, .string kx, .int .i64 0, .slice none 0 0, .bool true, .bool false] 40)) #[.int .i64 0, .int .i64 1, .int .i64 0, .int .i64 0, .slice (some ⟨w.heap.size, 0, none⟩) 1 1] 43 i
  rw [hs] at nt
  refine ⟨_, _, rfl, ⟨by decide, by decide⟩, fun _ => ⟨_, _, rfl, trivial, fun j hj => ?_⟩⟩
  have hj0 : j = 0 := by simpa using hj
  subst hj0
  refine ⟨[.int .i64 0, .int .i64 1, .int .i64 0, .int .i64 0, .slice (some ⟨w.heap.size, 0, none⟩) 1 1], rfl, ⟨_, rfl, _, _, rfl, ⟨by decide, by decide⟩, fun _ => ⟨_, _, rfl, trivial, fun j hj => ?_⟩⟩, fun i u hu => ?_⟩
  · have hj0 : j = 0 := by simpa [MTxn.ops] using hj
    subst hj0
    refine ⟨[.int .i64 2, .string kx, .int .i64 0, .slice none 0 0, .bool true, .bool false], rfl, ⟨_, rfl, none, 0, rfl, ⟨by decide, by decide⟩, fun h => absurd h (by decide)⟩, fun i u hu => ?_⟩
    rw [show 0 + 0 * 6 + i = i from by omega]
    exact Lib.cell?_alloc_some _ ((no i).trans (by rw [← hu]; simp only [List.getElem?_toArray]))
  · rw [show 0 + 0 * 5 + i = i from by omega]
    exact (nt i).trans (by rw [← hu]; simp only [List.getElem?_toArray])
set_option maxHeartbeats 4000000 in
set_option maxRecDepth 100000 in
theorem law_walk (s : ByteArray) (w : World) : Calls Try.prog 3 #[.string s] w fun e w' => e = .returned (.bool true) ∧ Below w.heap.size w w' := by
  go_enter Try.func3, Try.ntmps3
  go_wp2_with fail
  have ST : (fun W0 : World => W0.cell? ⟨w.heap.size + 1, 0, none⟩ = some (.pointer none) ∧ W0.cell? ⟨w.heap.size + 1, 1, none⟩ = some (.pointer (some ⟨w.heap.size, 0, none⟩)) ∧ W0.cell? ⟨w.heap.size, 2, none⟩ = some (.map none) ∧ Below w.heap.size w W0 ∧ w.heap.size + 1 < W0.heap.size) ((w.alloc (.cells #[.slice none 0 0, .slice none 0 0, .map none, .map none, .map none, .bool false] 29)).alloc (.cells #[.pointer none, .pointer (some ⟨w.heap.size, 0, none⟩)] 22)) := by
    have hs : (w.alloc (.cells #[.slice none 0 0, .slice none 0 0, .map none, .map none, .map none, .bool false] 29)).heap.size = w.heap.size + 1 := by rw [alloc_size]
    have nt := fun i => new_cells (w.alloc (.cells #[.slice none 0 0, .slice none 0 0, .map none, .map none, .map none, .bool false] 29)) #[.pointer none, .pointer (some ⟨w.heap.size, 0, none⟩)] 22 i
    rw [hs] at nt
    exact ⟨nt 0, nt 1, Lib.cell?_alloc_some _ (new_cells w _ 29 2), (below_box w _).alloc (by rw [hs]; omega) _, by rw [alloc_size, hs]; omega⟩
  obtain ⟨s0, s1, sp, sb, sz⟩ := ST
  generalize (w.alloc (.cells #[.slice none 0 0, .slice none 0 0, .map none, .map none, .map none, .bool false] 29)).alloc (.cells #[.pointer none, .pointer (some ⟨w.heap.size, 0, none⟩)] 22) = W0 at *
  have SP := hid sp
  have SB := hid sb
  clear sp sb
  go_loopg [4, 5, 6, 13] 2 (fun g _ _ _ i wr => ∃ k : Nat, k ≤ 2 ∧ 2 - k ≤ g ∧ i = .int .i64 k ∧ Aside (Below W0.heap.size W0 wr))
  case atStart => exact ⟨0, Nat.zero_le _, by omega, rfl, Below.refl _ _⟩
  case round =>
    obtain ⟨k, hk, hg, rfl, BW⟩ := hrel
    by_cases hlt : k < 2
    · obtain ⟨p, cv, NV⟩ : ∃ p, wr.cell? ⟨w.heap.size + 1, k, none⟩ = some (.pointer p) ∧ Hid (Nobody wr (.pointer p)) := by
        have hk2 : k = 0 ∨ k = 1 := by omega
        rcases hk2 with rfl | rfl
        · exact ⟨_, (BW.out.cell (p := ⟨w.heap.size + 1, 0, none⟩) sz).trans s0, .inl rfl⟩
        · exact ⟨_, (BW.out.cell (p := ⟨w.heap.size + 1, 1, none⟩) sz).trans s1, Nobody.later (.inr ⟨_, rfl, SP.out⟩) BW.out⟩
      have hlti : (k : Int) < 2 := by omega
      clear s0 s1
      go_wp2_with (go_at_call 4; refine (trace_no _ _ _ NV.out).mono ?_; rintro e w2 ⟨rfl, b2⟩; have NV2 : Hid (Nobody w2 (.pointer p)) := NV.out.later b2; have B2 : Hid (Below W0.heap.size W0 w2) := BW.out.trans (b2.mono BW.out.size); clear b2 cv NV)
      go_at_call 5
      refine (anom_no _ _ _ NV2.out).mono ?_
      rintro e w3 ⟨rfl, b3⟩
      have NV3 : Hid (Nobody w3 (.pointer p)) := NV2.out.later b3
      have B3 : Hid (Below W0.heap.size W0 w3) := B2.out.trans (b3.mono B2.out.size)
      clear b3
      go_wp2_with fail
      go_at_call 6
      refine (edges_no _ _ _ NV3.out).mono ?_
      rintro e w4 ⟨rfl, b4⟩
      have B4 : Hid (Below W0.heap.size W0 w4) := B3.out.trans (b4.mono B3.out.size)
      clear b4
      go_wp2_with fail
      go_roundg (2 - (k + 1))
      · exact ⟨k + 1, by omega, by omega, by go_num, B4.out⟩
      · omega
    · have hlti : ¬ (k : Int) < 2 := by omega
      have BR : Hid (Below w.heap.size w wr) := SB.out.trans (BW.out.mono SB.out.size)
      go_wp2_with fail
      go_at_call 7
      have BT : Hid (Below w.heap.size w ((wr.alloc (.cells #[.int .i64 2, .string kx, .int .i64 0, .slice none 0 0, .bool true, .bool false] 40)).alloc (.cells #[.int .i64 0, .int .i64 1, .int .i64 0, .int .i64 0, .slice (some ⟨wr.heap.size, 0, none⟩) 1 1] 43))) := BR.out.trans (((below_box wr _).alloc (by rw [alloc_size]; omega) _).mono BR.out.size)
      refine (tnew_is _ _ l1 (txns_1 wr) (by decide) ten_1 ok_1).mono ?_
      rintro e w2 ⟨tb, rfl, M2, b2⟩
      have B2 : Hid (Below w.heap.size w w2) := BT.out.trans (b2.mono BT.out.size)
      have TR := hid (trace_1 _ tb w2 M2)
      clear b2 M2
      go_wp2_with fail
      go_at_call 4
      refine TR.out.mono ?_
      rintro e w3 ⟨rfl, b3⟩
      have B3 : Hid (Below w.heap.size w w3) := B2.out.trans (b3.mono B2.out.size)
      clear b3
      go_wp2_with fail
      go_ret
      exact ⟨rfl, B3.out⟩
end Go.Proofs.Ytgceeecgmnpbhaa
