/-
  follow: where the node to begin with is none.
-/
import Derived.Test.YtjgmkigfpjmlaabDoorP4
namespace Go.Proofs.YtjgmkigfpjmlaabDoor
set_option linter.unusedVariables false
set_option linter.unusedSimpArgs false
open Go.RowKit

set_option maxHeartbeats 8000000 in
set_option maxRecDepth 100000 in
theorem follow_off (b n r : Nat) (s : Int) (bk ck : Nat → Nat) (L : Nat → Nat → Nat) (labels to' : Int) (w : World) (h : Graph w b n r bk ck L) (hs : s < 0 ∨ (n : Int) ≤ s) (hT : Tab w) :
    Calls Tryd.prog 46 #[.pointer (some ⟨b, 0, none⟩), .int .i64 labels, .int .i64 s, .int .i64 to'] w fun e w' => (∃ sb nb bf, e = .returned (.agg #[.pointer (some ⟨sb, 0, none⟩), .slice (some ⟨nb, 0, none⟩) n n]) ∧ Trail w' n sb nb (fun _ => 0) bf) ∧ Below w.heap.size w w' := by
  have hmk := run_make_row' (P := Tryd.prog) 28 3 (.int .i64 0) 8 Tryd.underlying28 Tryd.info3 rfl .i64 .i64 n (by have := h.bound; omega) (by have := h.bound; omega)
  rw [made_ints] at hmk
  have HMK := hid hmk
  have G0 := hid h
  have T0 := hid hT
  have hn3 := h.bound
  have hni : (n : Int) ≤ 300 := by omega
  have hn0 : (0 : Int) ≤ n := by omega
  have N0 : Hid (∀ w', Below w.heap.size w w' → Calls Tryd.prog 37 #[.pointer (some ⟨b, 0, none⟩)] w' fun e w'' => e = .returned (.int .i64 n) ∧ w' = w'') := fun w' hb => nodes_is b n w' (h.later hb).c0 (h.later hb).c1
  have HS := hid hs
  clear h hT hmk hs
  go_enter Tryd.func46, Tryd.ntmps46
  go_wp2_with fail
  go_step3
  go_wp2_with fail
  go_at_call 37
  refine (N0.out _ (below_box _ _)).mono ?_
  rintro e w' ⟨rfl, rfl⟩
  go_wp2_with fail
  go_at_call 27
  refine (new_is n (by omega) _).mono ?_
  rintro e w1 ⟨rfl, s1, b1, z1⟩
  have S1 := hid s1
  have B1 : Hid (Below w.heap.size w w1) := (below_box w _).trans (b1.mono (by simp))
  have R1 : Hid (w1.heap[w.heap.size]? = some (.cells #[.pointer none, .slice none 0 0] 85)) := (b1.block _ (by simp)).trans (heap_alloc_new w _)
  simp only [World.size_alloc] at S1
  clear s1 b1 z1
  go_wp2_with fail
  go_at_call 37
  refine (N0.out _ B1.out).mono ?_
  rintro e w' ⟨rfl, rfl⟩
  have hmk := HMK.out
  go_wp2_with fail
  clear hmk HMK N0
  have F0 := hid (fol_start w1 n w.heap.size (w.heap.size + 1 + 1) (w.heap.size + 1) s S1.out R1.out)
  have B2 : Hid (Below w.heap.size w ((((w1.alloc (.cells (Array.replicate n (.int .i64 0)) 3)).alloc (.cells #[.pointer (some ⟨w.heap.size + 1 + 1, 0, none⟩), .slice (some ⟨w1.heap.size, 0, none⟩) n n] 85)).alloc (.cells #[.slice none 0 0] 108)).alloc (.cells #[.int .i64 s] 3))) :=
    (((B1.out.alloc (by have := B1.out.size; omega) _).alloc (by have := B1.out.size; simp; omega) _).alloc (by have := B1.out.size; simp; omega) _).alloc (by have := B1.out.size; simp; omega) _
  have CL : Hid (((((w1.alloc (.cells (Array.replicate n (.int .i64 0)) 3)).alloc (.cells #[.pointer (some ⟨w.heap.size + 1 + 1, 0, none⟩), .slice (some ⟨w1.heap.size, 0, none⟩) n n] 85)).alloc (.cells #[.slice none 0 0] 108)).alloc (.cells #[.int .i64 s] 3)).cell? ⟨w1.heap.size + 1 + 1 + 1, 0, none⟩ = some (.int .i64 s)) := by
    have := new_cells (((w1.alloc (.cells (Array.replicate n (.int .i64 0)) 3)).alloc (.cells #[.pointer (some ⟨w.heap.size + 1 + 1, 0, none⟩), .slice (some ⟨w1.heap.size, 0, none⟩) n n] 85)).alloc (.cells #[.slice none 0 0] 108)) #[.int .i64 s] 3 0
    exact hid (by simpa using this)
  have LB : Hid (w.heap.size ≤ w1.heap.size) := B1.out.size
  generalize ((((w1.alloc (.cells (Array.replicate n (.int .i64 0)) 3)).alloc (.cells #[.pointer (some ⟨w.heap.size + 1 + 1, 0, none⟩), .slice (some ⟨w1.heap.size, 0, none⟩) n n] 85)).alloc (.cells #[.slice none 0 0] 108)).alloc (.cells #[.int .i64 s] 3)) = W at *
  clear B1 R1 S1
  have SBL : Hid (w.heap.size ≤ w.heap.size + 1) := by show w.heap.size ≤ w.heap.size + 1; omega
  generalize w.heap.size + 1 + 1 = sb at *
  generalize w.heap.size + 1 = cb at *
  have LQ : Hid (∀ k, (k = w1.heap.size + 1 + 1 ∨ QP (w1.heap.size + 3) 0 k) → w.heap.size ≤ k) := by
    intro k hk
    have := LB.out
    rcases hk with rfl | hk
    · omega
    · have := hk.1
      omega
  have QNB : Hid (¬ QP (w1.heap.size + 3) 0 (w1.heap.size + 1 + 1)) := by intro h; have := h.1; omega
  go_at_call 65
  refine (put_is (QP (w1.heap.size + 3) 0) (w1.heap.size + 1 + 1) [] (w1.heap.size + 1 + 1 + 1) s W QNB.out (fun g hg => ⟨by have := F0.out.here; omega, by have := F0.out.here; omega⟩) F0.out.que CL.out (by decide)).mono ?_
  rintro e w2 ⟨rfl, q2, g2⟩
  have F2 := hid (F0.out.put q2 g2)
  have B3 : Hid (Below w.heap.size w w2) := B2.out.trans (g2.below w.heap.size LQ.out B2.out.size)
  clear q2 g2 F0 B2 CL
  simp only [List.nil_append] at F2
  generalize hnb : w1.heap.size = nb at *
  clear hnb
  go_wp2_with fail
  go_step3
  go_wp2_with fail
  go_at_call 66
  refine (take_some (QP (nb + 3) 0) (nb + 1 + 1) s [] w2 QNB.out F2.out.que (by decide)).mono ?_
  rintro e w3 ⟨rfl, q3, g3, z3⟩
  have F3 := hid (F2.out.put q3 ⟨g3.os, g3.tape, g3.output, g3.size, fun k hk hn => g3.block k hk (fun e => hn (.inl e))⟩)
  have B4 : Hid (Below w.heap.size w w3) := B3.out.trans (g3.below w.heap.size (fun k hk => LQ.out k (.inl hk)) B3.out.size)
  clear q3 g3 z3 F2 B3
  go_wp2_with fail
  go_loopg [13, 14, 16] 1 (fun g node ok _ wr => Aside (Below w.heap.size w wr) ∧ Aside (Fol (nb + 3) 0 wr n w.heap.size sb cb nb (nb + 1) (nb + 1 + 1) (fun _ => 0) (fun _ => 0) []) ∧ ((ok = .bool true ∧ node = .int .i64 s ∧ 1 ≤ g) ∨ (ok = .bool false ∧ node = .int .i64 0)))
  case atStart => exact ⟨B4.out, F3.out, .inl ⟨rfl, rfl, Nat.le_refl _⟩⟩
  case round =>
    clear F3 B4
    obtain ⟨BX, FX, ⟨rfl, rfl, hg⟩ | ⟨rfl, rfl⟩⟩ := hrel
    · go_wp2_with fail
      go_at_call 35
      refine (out_no b n r s bk ck L labels wr (G0.out.later BX.out) HS.out).mono ?_
      rintro e w4 ⟨rfl, rfl⟩
      go_wp2_with fail
      go_loopg [16, 45] 0 (fun g2 _ i wq => i = .int .i64 0 ∧ wr = wq)
      case atStart => exact ⟨rfl, rfl⟩
      case round =>
        obtain ⟨rfl, rfl⟩ := hrel
        go_wp2_with fail
        go_at_call 66
        refine (take_none (QP (nb + 3) 0) (nb + 1 + 1) _ FX.out.que).mono ?_
        rintro e w' ⟨rfl, rfl⟩
        go_wp2_with fail
        go_roundg 0
        · exact ⟨BX.out, FX.out, .inr ⟨rfl, rfl⟩⟩
        · omega
    · have b0 : wr.cell? ⟨nb + 1, 0, none⟩ = some (.pointer (some ⟨sb, 0, none⟩)) := Lib.cell_of_heap FX.out.box 0
      have b1 : wr.cell? ⟨nb + 1, 1, none⟩ = some (.slice (some ⟨nb, 0, none⟩) n n) := Lib.cell_of_heap FX.out.box 1
      have r0 : wr.cell? ⟨w.heap.size, 0, none⟩ = some (.pointer none) := Lib.cell_of_heap FX.out.res 0
      have r1 : wr.cell? ⟨w.heap.size, 1, none⟩ = some (.slice none 0 0) := Lib.cell_of_heap FX.out.res 1
      have z0 : wr.frozen? ⟨w.heap.size, 0, none⟩ = false := Lib.frozen_of_heap FX.out.res 0
      have z1 : wr.frozen? ⟨w.heap.size, 1, none⟩ = false := Lib.frozen_of_heap FX.out.res 1
      go_wp2_with fail
      try rw [Exit.noGoto_ret]
      refine bodyPost_ret (v := .agg #[.pointer (some ⟨sb, 0, none⟩), .slice (some ⟨nb, 0, none⟩) n n]) (by simp [results, Tryd.results46, go_sem, r0, r1]) rfl ⟨⟨sb, nb, _, rfl, FX.out.trail _ _⟩, (BX.out.setCell (Nat.le_refl _) _).setCell (Nat.le_refl _) _⟩
end Go.Proofs.YtjgmkigfpjmlaabDoor
