/-
  Only of a graph; Turn and Only themselves.
-/
import Derived.Test.YtpkfpfflnncleabDoorJ7
namespace Go.Proofs.YtpkfpfflnncleabDoor
set_option linter.unusedVariables false
set_option linter.unusedSimpArgs false
open Go.RowKit

set_option maxHeartbeats 8000000 in
theorem redrawO (b n r : Nat) (bk ck : Nat → Nat) (L : Nat → Nat → Nat) (m : Int) (kc : Nat) (w : World) (h : Graph w b n r bk ck L) (hT : Tab w) (hk : w.cell? ⟨kc, 0, none⟩ = some (.int .i64 m)) :
    Calls Tryd.prog 26 #[.pointer (some ⟨b, 0, none⟩), .func (.func 28) #[] #[.pointer (some ⟨kc, 0, none⟩)]] w fun e w' => (∃ b' r' bk' ck', e = .returned (.pointer (some ⟨b', 0, none⟩)) ∧ Graph w' b' n r' bk' ck' (((allE L n n).map fun e => (e.1, e.2.1, e.2.2 &&& (m % 16).toNat)).foldl (stepE n) (fun _ _ => 0)) ∧ ∀ k, k < 4 * n → w.heap.size ≤ ck' k) ∧ Below w.heap.size w w' := by
  have R := hid h
  have R0 : Hid (∀ f t, L f t < 16) := h.small
  have TB := hid hT
  have HK := hid hk
  have hn3 := h.bound
  have hni : (n : Int) ≤ 300 := by omega
  have H0 := hid (gMade_at b true w h.c0)
  have c1 := h.c1
  clear h hT hk
  go_enter Tryd.func26, Tryd.ntmps26
  go_wp2_with fail
  refine H0.out.mono ?_
  rintro e w' ⟨rfl, rfl⟩
  go_wp2_with fail
  clear c1
  refine (gnew_ok n hn3 w).mono ?_
  rintro e w1 ⟨rfl, m1, b1⟩
  have M1 := hid m1
  have B1 := hid b1
  clear m1 b1
  go_wp2_with fail
  refine (edges_is b n r bk ck L w1 (R.out.later B1.out) (TB.out.later B1.out)).mono ?_
  rintro e w2 ⟨⟨u, rfl, hE⟩, b2⟩
  have E2 := hid hE
  have G2 := hid (M1.out.later b2)
  have B2 := hid (B1.out.trans (b2.mono B1.out.size))
  have LOW : Hid (∀ k, k < 4 * n → w.heap.size ≤ (fun k => w.heap.size + 2 + 2 * k) k) := fun k _ => by show w.heap.size ≤ w.heap.size + 2 + 2 * k; omega
  generalize (fun k => w.heap.size + 2 + 2 * k) = ck' at *
  generalize (fun k => w.heap.size + 3 + 2 * k) = bk' at *
  generalize w.heap.size + 1 = b' at *
  obtain ⟨la, lc, rfl, -⟩ := hE.arg
  have hle := allE_len L n n
  have hnn : n * n ≤ 300 * 300 := Nat.mul_le_mul hn3 hn3
  have hlen : (allE L n n).length ≤ 90000 := by omega
  have HEL : Hid (∀ w l, EdgesIn w1.heap.size w l (allE L n n) → l = .slice la (List.map intE (allE L n n)).length lc → ArgE w la ((allE L n n).map intE)) := fun w l hl el => by
    obtain ⟨la', lc', hv', hA'⟩ := hl.arg
    rw [el] at hv'
    injection hv' with e1 e2 e3
    rw [e1]
    exact hA'
  rw [List.length_map] at E2 HEL ⊢
  have hleni : ((allE L n n).length : Int) ≤ 90000 := by omega
  clear hle hnn M1 R hE b2
  go_wp2_with fail
  go_loopg [8, 23] (allE L n n).length (fun g _ i wr => ∃ j : Nat, j ≤ (allE L n n).length ∧ (allE L n n).length - j ≤ g ∧ i = .int .i64 j ∧ Aside (EdgesIn w1.heap.size wr (.slice la (allE L n n).length lc) (allE L n n)) ∧ Aside (Graph wr b' n w.heap.size bk' ck' ((((allE L n n).take j).map fun e => (e.1, e.2.1, e.2.2 &&& (m % 16).toNat)).foldl (stepE n) (fun _ _ => 0))) ∧ Aside (Below w.heap.size w wr))
  case atStart => exact ⟨0, Nat.zero_le _, by omega, rfl, E2.out, (by show Graph _ _ _ _ _ _ _; simpa using G2.out), B2.out⟩
  case round =>
    clear E2 G2 B2
    obtain ⟨j, hj, hg, rfl, EY, GX, BX⟩ := hrel
    by_cases hjl : j < (allE L n n).length
    · have hjli : (j : Int) < (allE L n n).length := by omega
      obtain ⟨ob, oo, ho, d1, d2, d3⟩ := (HEL.out wr _ EY.out rfl) j (by rw [List.length_map]; exact hjl)
      have e0 : ((allE L n n).map intE).getD j (0, 0, 0) = intE ((allE L n n).getD j (0, 0, 0)) := by simp [List.getD, hjl]
      rw [e0] at d1 d2 d3
      have FT := hid (fold_take (γ := fun e => (e.1, e.2.1, e.2.2 &&& (m % 16).toNat)) (n := n) (L0 := fun _ _ => 0) hjl)
      obtain ⟨⟨F, T, X⟩, hd⟩ : ∃ d, (allE L n n).getD j (0, 0, 0) = d := ⟨_, rfl⟩
      have HX : X < 16 := by have := allE_16 L n R0.out j hjl; rw [hd] at this; exact this
      rw [hd] at d1 d2 d3 FT
      simp only [intE] at d1 d2 d3
      clear e0 hd
      subst ho
      go_wp2_with fail
      refine (onlyC F T X m kc _ (Lib.cell?_alloc_some _ ((BX.out.cell (p := ⟨kc, 0, none⟩) (World.block_lt_of_cell? _ _ HK.out)).trans HK.out))).mono ?_
      rintro e w3 ⟨rfl, b3⟩
      rw [i64_and_low X HX m]
      obtain ⟨Y, hY⟩ : ∃ Y, X &&& (m % 16).toNat = Y := ⟨_, rfl⟩
      have FT2 := FT.out
      simp only [hY] at FT2
      rw [hY]
      replace FT := hid FT2
      clear FT2 hY
      have hkl : wr.heap.size < (wr.alloc (.cells #[.int .i64 F, .int .i64 T, .int .i64 X] 41)).heap.size := by simp
      have KB : Hid (w3.heap[wr.heap.size]? = some (.cells #[.int .i64 F, .int .i64 T, .int .i64 X] 41)) := (b3.block _ hkl).trans (heap_alloc_new wr _)
      have BS : Hid (Below wr.heap.size wr w3) := (below_box wr _).trans (b3.mono (by simp))
      have q0 : w3.cell? ⟨wr.heap.size, 0, none⟩ = some (.int .i64 F) := Lib.cell_of_heap KB.out 0
      have q1 : w3.cell? ⟨wr.heap.size, 1, none⟩ = some (.int .i64 T) := Lib.cell_of_heap KB.out 1
      have q2 : w3.cell? ⟨wr.heap.size, 2, none⟩ = some (.int .i64 X) := Lib.cell_of_heap KB.out 2
      have f0 : w3.frozen? ⟨wr.heap.size, 0, none⟩ = false := Lib.frozen_of_heap KB.out 0
      have f1 : w3.frozen? ⟨wr.heap.size, 1, none⟩ = false := Lib.frozen_of_heap KB.out 1
      have f2 : w3.frozen? ⟨wr.heap.size, 2, none⟩ = false := Lib.frozen_of_heap KB.out 2
      clear b3 hkl d1 d2 d3
      have BZ : Hid (Below wr.heap.size wr (((w3.setCell ⟨wr.heap.size, 0, none⟩ (.int .i64 F)).setCell ⟨wr.heap.size, 1, none⟩ (.int .i64 T)).setCell ⟨wr.heap.size, 2, none⟩ (.int .i64 Y))) := ((BS.out.setCell (Nat.le_refl _) _).setCell (Nat.le_refl _) _).setCell (Nat.le_refl _) _
      have BY : Hid (Below w.heap.size w (((w3.setCell ⟨wr.heap.size, 0, none⟩ (.int .i64 F)).setCell ⟨wr.heap.size, 1, none⟩ (.int .i64 T)).setCell ⟨wr.heap.size, 2, none⟩ (.int .i64 Y))) := BX.out.trans (BZ.out.mono BX.out.size)
      by_cases hX0 : Y = 0
      · subst hX0
        have G4 : Hid (Graph (((w3.setCell ⟨wr.heap.size, 0, none⟩ (.int .i64 F)).setCell ⟨wr.heap.size, 1, none⟩ (.int .i64 T)).setCell ⟨wr.heap.size, 2, none⟩ (.int .i64 (0 : Nat))) b' n w.heap.size bk' ck' ((((allE L n n).take (j + 1)).map fun e => (e.1, e.2.1, e.2.2 &&& (m % 16).toNat)).foldl (stepE n) (fun _ _ => 0))) := by
          rw [FT.out]
          show Graph _ b' n w.heap.size bk' ck' (stepE n _ (F, T, 0))
          rw [step_0]
          exact GX.out.later BZ.out
        go_wp2_with fail
        go_roundg ((allE L n n).length - (j + 1))
        · exact ⟨j + 1, by omega, by omega, by go_num, EY.out.later BZ.out, G4.out, BY.out⟩
        · omega
      · have hXi : ¬ (Y : Int) = 0 := by omega
        have hXn : ((Y : Int) != 0) = true := by simp; omega
        clear hX0
        go_wp2_with fail
        go_at_call 14
        refine (gstep b' n w.heap.size bk' ck' _ F T Y w.heap.size _ (GX.out.later BZ.out) LOW.out BY.out.size).mono ?_
        rintro e w4 ⟨⟨y, rfl⟩, s4, b4, k4⟩
        have E4 := hid ((EY.out.later BZ.out).stay k4 (by decide))
        have B4 := hid (BY.out.trans b4)
        have G4 : Hid (Graph w4 b' n w.heap.size bk' ck' ((((allE L n n).take (j + 1)).map fun e => (e.1, e.2.1, e.2.2 &&& (m % 16).toNat)).foldl (stepE n) (fun _ _ => 0))) := by rw [FT.out]; exact s4
        clear s4 b4 k4
        go_wp2_with fail
        go_roundg ((allE L n n).length - (j + 1))
        · exact ⟨j + 1, by omega, by omega, by go_num, E4.out, G4.out, B4.out⟩
        · omega
    · have hjli : ¬ (j : Int) < (allE L n n).length := by omega
      have GZ : Hid (Graph wr b' n w.heap.size bk' ck' (((allE L n n).map fun e => (e.1, e.2.1, e.2.2 &&& (m % 16).toNat)).foldl (stepE n) (fun _ _ => 0))) := by
        have h := GX.out
        rw [List.take_of_length_le (by omega)] at h
        exact h
      go_wp2_with fail
      go_ret
      first | exact ⟨⟨_, rfl, _, bk', ck', GZ.out, LOW.out⟩, BX.out⟩ | exact ⟨⟨_, _, bk', ck', rfl, GZ.out, LOW.out⟩, BX.out⟩
theorem turn_is (b n r : Nat) (bk ck : Nat → Nat) (L : Nat → Nat → Nat) (w : World) (h : Graph w b n r bk ck L) (hT : Tab w) :
    Calls Tryd.prog 9 #[.pointer (some ⟨b, 0, none⟩)] w fun e w' => (∃ b' r' bk' ck', e = .returned (.pointer (some ⟨b', 0, none⟩)) ∧ Graph w' b' n r' bk' ck' (((allE L n n).map fun e => (e.2.1, e.1, e.2.2)).foldl (stepE n) (fun _ _ => 0)) ∧ ∀ k, k < 4 * n → w.heap.size ≤ ck' k) ∧ Below w.heap.size w w' := by
  have H := hid (redrawT b n r bk ck L w h hT)
  clear h hT
  go_enter Tryd.func9, Tryd.ntmps9
  go_wp2_with fail
  refine H.out.mono ?_
  rintro e w' ⟨⟨b', r', bk', ck', rfl, h1, h2⟩, h3⟩
  have G1 := hid h1
  have L1 := hid h2
  have B1 := hid h3
  clear h1 h2 h3 H
  go_wp2_with fail
  go_ret
  first | exact ⟨⟨_, rfl, r', bk', ck', G1.out, L1.out⟩, B1.out⟩ | exact ⟨⟨_, r', bk', ck', rfl, G1.out, L1.out⟩, B1.out⟩
theorem only_is (b n r : Nat) (bk ck : Nat → Nat) (L : Nat → Nat → Nat) (m : Int) (w : World) (h : Graph w b n r bk ck L) (hT : Tab w) :
    Calls Tryd.prog 10 #[.pointer (some ⟨b, 0, none⟩), .int .i64 m] w fun e w' => (∃ b' r' bk' ck', e = .returned (.pointer (some ⟨b', 0, none⟩)) ∧ Graph w' b' n r' bk' ck' (((allE L n n).map fun e => (e.1, e.2.1, e.2.2 &&& (m % 16).toNat)).foldl (stepE n) (fun _ _ => 0)) ∧ ∀ k, k < 4 * n → w.heap.size ≤ ck' k) ∧ Below w.heap.size w w' := by
  have B0 : Hid (Below w.heap.size w (w.alloc (.cells #[.int .i64 m] 3))) := below_box w _
  have H := hid (redrawO b n r bk ck L m w.heap.size (w.alloc (.cells #[.int .i64 m] 3)) (h.later B0.out) (hT.later B0.out) (Lib.cell_of_heap (heap_alloc_new w _) 0))
  clear h hT
  go_enter Tryd.func10, Tryd.ntmps10
  go_wp2_with fail
  refine H.out.mono ?_
  rintro e w' ⟨⟨b', r', bk', ck', rfl, h1, h2⟩, h3⟩
  have G1 := hid h1
  have L1 : Hid (∀ k, k < 4 * n → w.heap.size ≤ ck' k) := fun k hk => Nat.le_trans B0.out.size (h2 k hk)
  have B1 := hid (B0.out.trans (h3.mono B0.out.size))
  clear h1 h2 h3 H
  go_wp2_with fail
  go_ret
  first | exact ⟨⟨_, rfl, r', bk', ck', G1.out, L1.out⟩, B1.out⟩ | exact ⟨⟨_, r', bk', ck', rfl, G1.out, L1.out⟩, B1.out⟩
end Go.Proofs.YtpkfpfflnncleabDoor
