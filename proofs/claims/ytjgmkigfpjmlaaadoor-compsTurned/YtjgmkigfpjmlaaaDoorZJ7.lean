/-
  Turn of a graph.
-/
import Derived.Test.YtjgmkigfpjmlaaaDoorZJ5
namespace Go.Proofs.YtjgmkigfpjmlaaaDoor
set_option linter.unusedVariables false
set_option linter.unusedSimpArgs false
open Go.RowKit

theorem allE_16 (L : Nat → Nat → Nat) (n : Nat) (h : ∀ f t, L f t < 16) (j : Nat) (hj : j < (allE L n n).length) : ((allE L n n).getD j (0, 0, 0)).2.2 < 16 := by
  have hm : (allE L n n).getD j (0, 0, 0) ∈ allE L n n := by
    have e : (allE L n n).getD j (0, 0, 0) = (allE L n n)[j] := by simp [List.getD, hj]
    rw [e]
    exact List.getElem_mem hj
  obtain ⟨f, t, _, _, _, e⟩ := (mem_allE L n h _).1 hm
  rw [e]
  exact h f t
set_option maxRecDepth 100000 in
theorem gstep (b n r : Nat) (bk ck : Nat → Nat) (L : Nat → Nat → Nat) (f t x : Nat) (H : Nat) (w : World) (h : Graph w b n r bk ck L) (hlow : ∀ k, k < 4 * n → H ≤ ck k) (hs : H ≤ w.heap.size) :
    Calls Tryd.prog 22 #[.pointer (some ⟨b, 0, none⟩), .int .i64 f, .int .i64 t, .int .i64 x] w fun e w' => (∃ y, e = .returned (.int .i64 y)) ∧ Graph w' b n r bk ck (stepE n L (f, t, x)) ∧ Below H w w' ∧ Stay 102 w w' := by
  by_cases hw : addWhy n (f : Int) (t : Int) (x : Int) = 0
  · obtain ⟨F, T, X, e1, e2, e3, hF, hT, hX1, hX, hne⟩ := addWhy_0 hw
    obtain rfl : f = F := by omega
    obtain rfl : t = T := by omega
    obtain rfl : x = X := by omega
    have e : stepE n L (f, t, x) = addL L f t x 4 := by unfold stepE; rw [if_pos hw]
    rw [e]
    refine (gadd_ok b n r bk ck L f t x w h hF hT hX1 hX hne).mono ?_
    rintro e w' ⟨rfl, s, bs⟩
    exact ⟨⟨_, rfl⟩, s, bs.below H (fun k hk => by obtain ⟨i, hi, rfl⟩ := hk; exact hlow _ (by omega)) hs, fun x cs t hx ht => Save.at h hF bs hx ht⟩
  · have e : stepE n L (f, t, x) = L := by unfold stepE; rw [if_neg hw]
    rw [e]
    refine (gadd_no b n r bk ck L f t x w h hw).mono ?_
    rintro e w' ⟨rfl, rfl⟩
    exact ⟨⟨_, rfl⟩, h, Below.refl _ _, fun x cs t hx _ => hx⟩
theorem step_0 (n : Nat) (L : Nat → Nat → Nat) (f t : Nat) : stepE n L (f, t, 0) = L := by
  have h : addWhy n (f : Int) (t : Int) ((0 : Nat) : Int) ≠ 0 := by
    unfold addWhy
    by_cases h1 : ((f : Int) < 0 ∨ (n : Int) ≤ f) ∨ ((t : Int) < 0 ∨ (n : Int) ≤ t)
    · rw [if_pos h1]; decide
    · rw [if_neg h1, if_pos (by left; decide)]; decide
  unfold stepE
  rw [if_neg h]

set_option maxHeartbeats 8000000 in
set_option maxRecDepth 100000 in
theorem redrawT (b n r : Nat) (bk ck : Nat → Nat) (L : Nat → Nat → Nat) (w : World) (h : Graph w b n r bk ck L) (hT : Tab w) :
    Calls Tryd.prog 38 #[.pointer (some ⟨b, 0, none⟩), .func (.func 39) #[] #[]] w fun e w' => (∃ b' r' bk' ck', e = .returned (.pointer (some ⟨b', 0, none⟩)) ∧ Graph w' b' n r' bk' ck' (((allE L n n).map fun e => (e.2.1, e.1, e.2.2)).foldl (stepE n) (fun _ _ => 0)) ∧ ∀ k, k < 4 * n → w.heap.size ≤ ck' k) ∧ Below w.heap.size w w' := by
  have R := hid h
  have R0 : Hid (∀ f t, L f t < 16) := h.small
  have TB := hid hT
  have hn3 := h.bound
  have hni : (n : Int) ≤ 300 := by omega
  have H0 := hid (gMade_at b true w h.c0)
  have c1 := h.c1
  clear h hT
  go_enter Tryd.func38, Tryd.ntmps38
  go_wp2_with fail
  refine H0.out.mono ?_
  rintro e w' ⟨rfl, rfl⟩
  go_wp2_with fail
  clear c1
  refine (gnew_ok n hn3 w).mono ?_
  rintro e w1 ⟨rfl, m1, b1⟩
  have M1 := hid m1
  have B1 := hid b1
  clear m1 b1
  go_wp2_with fail
  refine (edges_is b n r bk ck L w1 (R.out.later B1.out) (TB.out.later B1.out)).mono ?_
  rintro e w2 ⟨⟨u, rfl, hE⟩, b2⟩
  have E2 := hid hE
  have G2 := hid (M1.out.later b2)
  have B2 := hid (B1.out.trans (b2.mono B1.out.size))
  have LOW : Hid (∀ k, k < 4 * n → w.heap.size ≤ (fun k => w.heap.size + 2 + 2 * k) k) := fun k _ => by show w.heap.size ≤ w.heap.size + 2 + 2 * k; omega
  generalize (fun k => w.heap.size + 2 + 2 * k) = ck' at *
  generalize (fun k => w.heap.size + 3 + 2 * k) = bk' at *
  generalize w.heap.size + 1 = b' at *
  obtain ⟨la, lc, rfl, -⟩ := hE.arg
  have hle := allE_len L n n
  have hnn : n * n ≤ 300 * 300 := Nat.mul_le_mul hn3 hn3
  have hlen : (allE L n n).length ≤ 90000 := by omega
  have HEL : Hid (∀ w l, EdgesIn w1.heap.size w l (allE L n n) → l = .slice la (List.map intE (allE L n n)).length lc → ArgE w la ((allE L n n).map intE)) := fun w l hl el => by
    obtain ⟨la', lc', hv', hA'⟩ := hl.arg
    rw [el] at hv'
    injection hv' with e1 e2 e3
    rw [e1]
    exact hA'
  rw [List.length_map] at E2 HEL ⊢
  have hleni : ((allE L n n).length : Int) ≤ 90000 := by omega
  clear hle hnn M1 R hE b2
  go_wp2_with fail
  go_loopg [8, 23] (allE L n n).length (fun g _ i wr => ∃ j : Nat, j ≤ (allE L n n).length ∧ (allE L n n).length - j ≤ g ∧ i = .int .i64 j ∧ Aside (EdgesIn w1.heap.size wr (.slice la (allE L n n).length lc) (allE L n n)) ∧ Aside (Graph wr b' n w.heap.size bk' ck' ((((allE L n n).take j).map fun e => (e.2.1, e.1, e.2.2)).foldl (stepE n) (fun _ _ => 0))) ∧ Aside (Below w.heap.size w wr))
  case atStart => exact ⟨0, Nat.zero_le _, by omega, rfl, E2.out, (by show Graph _ _ _ _ _ _ _; simpa using G2.out), B2.out⟩
  case round =>
    clear E2 G2 B2
    obtain ⟨j, hj, hg, rfl, EY, GX, BX⟩ := hrel
    by_cases hjl : j < (allE L n n).length
    · have hjli : (j : Int) < (allE L n n).length := by omega
      obtain ⟨ob, oo, ho, d1, d2, d3⟩ := (HEL.out wr _ EY.out rfl) j (by rw [List.length_map]; exact hjl)
      have e0 : ((allE L n n).map intE).getD j (0, 0, 0) = intE ((allE L n n).getD j (0, 0, 0)) := by simp [List.getD, hjl]
      rw [e0] at d1 d2 d3
      have FT := hid (fold_take (γ := fun e => (e.2.1, e.1, e.2.2)) (n := n) (L0 := fun _ _ => 0) hjl)
      obtain ⟨⟨F, T, X⟩, hd⟩ : ∃ d, (allE L n n).getD j (0, 0, 0) = d := ⟨_, rfl⟩
      have HX : X < 16 := by have := allE_16 L n R0.out j hjl; rw [hd] at this; exact this
      rw [hd] at d1 d2 d3 FT
      simp only [intE] at d1 d2 d3
      clear e0 hd
      subst ho
      go_wp2_with fail
      refine (turnC F T X _).mono ?_
      rintro e w3 ⟨rfl, b3⟩
      have hkl : wr.heap.size < (wr.alloc (.cells #[.int .i64 F, .int .i64 T, .int .i64 X] 45)).heap.size := by simp
      have KB : Hid (w3.heap[wr.heap.size]? = some (.cells #[.int .i64 F, .int .i64 T, .int .i64 X] 45)) := (b3.block _ hkl).trans (heap_alloc_new wr _)
      have BS : Hid (Below wr.heap.size wr w3) := (below_box wr _).trans (b3.mono (by simp))
      have q0 : w3.cell? ⟨wr.heap.size, 0, none⟩ = some (.int .i64 F) := Lib.cell_of_heap KB.out 0
      have q1 : w3.cell? ⟨wr.heap.size, 1, none⟩ = some (.int .i64 T) := Lib.cell_of_heap KB.out 1
      have q2 : w3.cell? ⟨wr.heap.size, 2, none⟩ = some (.int .i64 X) := Lib.cell_of_heap KB.out 2
      have f0 : w3.frozen? ⟨wr.heap.size, 0, none⟩ = false := Lib.frozen_of_heap KB.out 0
      have f1 : w3.frozen? ⟨wr.heap.size, 1, none⟩ = false := Lib.frozen_of_heap KB.out 1
      have f2 : w3.frozen? ⟨wr.heap.size, 2, none⟩ = false := Lib.frozen_of_heap KB.out 2
      clear b3 hkl d1 d2 d3
      have BZ : Hid (Below wr.heap.size wr (((w3.setCell ⟨wr.heap.size, 0, none⟩ (.int .i64 T)).setCell ⟨wr.heap.size, 1, none⟩ (.int .i64 F)).setCell ⟨wr.heap.size, 2, none⟩ (.int .i64 X))) := ((BS.out.setCell (Nat.le_refl _) _).setCell (Nat.le_refl _) _).setCell (Nat.le_refl _) _
      have BY : Hid (Below w.heap.size w (((w3.setCell ⟨wr.heap.size, 0, none⟩ (.int .i64 T)).setCell ⟨wr.heap.size, 1, none⟩ (.int .i64 F)).setCell ⟨wr.heap.size, 2, none⟩ (.int .i64 X))) := BX.out.trans (BZ.out.mono BX.out.size)
      by_cases hX0 : X = 0
      · subst hX0
        have G4 : Hid (Graph (((w3.setCell ⟨wr.heap.size, 0, none⟩ (.int .i64 T)).setCell ⟨wr.heap.size, 1, none⟩ (.int .i64 F)).setCell ⟨wr.heap.size, 2, none⟩ (.int .i64 (0 : Nat))) b' n w.heap.size bk' ck' ((((allE L n n).take (j + 1)).map fun e => (e.2.1, e.1, e.2.2)).foldl (stepE n) (fun _ _ => 0))) := by
          rw [FT.out]
          show Graph _ b' n w.heap.size bk' ck' (stepE n _ (T, F, 0))
          rw [step_0]
          exact GX.out.later BZ.out
        go_wp2_with fail
        go_roundg ((allE L n n).length - (j + 1))
        · exact ⟨j + 1, by omega, by omega, by go_num, EY.out.later BZ.out, G4.out, BY.out⟩
        · omega
      · have hXi : ¬ (X : Int) = 0 := by omega
        have hXn : ((X : Int) != 0) = true := by simp; omega
        clear hX0
        go_wp2_with fail
        go_at_call 22
        refine (gstep b' n w.heap.size bk' ck' _ T F X w.heap.size _ (GX.out.later BZ.out) LOW.out BY.out.size).mono ?_
        rintro e w4 ⟨⟨y, rfl⟩, s4, b4, k4⟩
        have E4 := hid ((EY.out.later BZ.out).stay k4 (by decide))
        have B4 := hid (BY.out.trans b4)
        have G4 : Hid (Graph w4 b' n w.heap.size bk' ck' ((((allE L n n).take (j + 1)).map fun e => (e.2.1, e.1, e.2.2)).foldl (stepE n) (fun _ _ => 0))) := by rw [FT.out]; exact s4
        clear s4 b4 k4
        go_wp2_with fail
        go_roundg ((allE L n n).length - (j + 1))
        · exact ⟨j + 1, by omega, by omega, by go_num, E4.out, G4.out, B4.out⟩
        · omega
    · have hjli : ¬ (j : Int) < (allE L n n).length := by omega
      have GZ : Hid (Graph wr b' n w.heap.size bk' ck' (((allE L n n).map fun e => (e.2.1, e.1, e.2.2)).foldl (stepE n) (fun _ _ => 0))) := by
        have h := GX.out
        rw [List.take_of_length_le (by omega)] at h
        exact h
      go_wp2_with fail
      go_ret
      first | exact ⟨⟨_, rfl, _, bk', ck', GZ.out, LOW.out⟩, BX.out⟩ | exact ⟨⟨_, _, bk', ck', rfl, GZ.out, LOW.out⟩, BX.out⟩
end Go.Proofs.YtjgmkigfpjmlaaaDoor
