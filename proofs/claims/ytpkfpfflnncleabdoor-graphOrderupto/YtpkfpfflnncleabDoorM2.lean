/-
  drawn once more: two graphs of the labels that the edges make.
-/
import Derived.Test.YtpkfpfflnncleabDoorM1
namespace Go.Proofs.YtpkfpfflnncleabDoor
set_option linter.unusedVariables false
set_option linter.unusedSimpArgs false
open Go.RowKit

def BothF (H : Nat) (w : World) (b n b2 : Nat) (L : Nat → Nat → Nat) : Prop :=
  ∃ r bk ck v rw', Graph w b n r bk ck L ∧ RefG w b2 n v rw' L ∧ (∀ k, k < 4 * n → H ≤ ck k) ∧ (∀ i, i < n → H ≤ rw' i)
theorem BothF.later {H : Nat} {w w' : World} {b n b2 : Nat} {L : Nat → Nat → Nat} (h : BothF H w b n b2 L) (hb : Below w.heap.size w w') : BothF H w' b n b2 L := by
  obtain ⟨r, bk, ck, v, rw', h1, h2, h3⟩ := h
  exact ⟨r, bk, ck, v, rw', h1.later hb, h2.later hb, h3⟩

set_option maxHeartbeats 8000000 in
set_option maxRecDepth 100000 in
theorem drawn_F (n : Nat) (hn : n ≤ 300) (ao : Option Addr) (cp : Nat) (es : List (Int × Int × Int)) (w : World) (hz : ArgE w ao es) (hl : es.length ≤ maxLen) :
    Calls Tryd.prog 8 #[.int .i64 n, .slice ao es.length cp] w fun e w' => (∃ b b2, e = .returned (.tuple #[.pointer (some ⟨b, 0, none⟩), .pointer (some ⟨b2, 0, none⟩), .bool true]) ∧ BothF w.heap.size w' b n b2 (es.foldl (stepI n) (fun _ _ => 0))) ∧ Below w.heap.size w w' := by
  unfold maxLen at hl
  have N1 := hid (gnew_ok n hn)
  have N2 := hid (rgnew_ok n hn)
  have HZ := hid hz
  clear hz
  have hlen : (es.length : Int) ≤ 9223372036854775807 := by omega
  go_enter Tryd.func8, Tryd.ntmps8
  go_wp2_with fail
  refine (N1.out _).mono ?_
  rintro e w1 ⟨rfl, s1, b1⟩
  have S1 := hid s1
  have B1 := hid b1
  clear s1 b1
  go_wp2_with fail
  refine (N2.out _).mono ?_
  rintro e w2 ⟨rfl, ⟨v, rw', m2⟩, b2⟩
  have BO : Hid (BothF w.heap.size w2 (w.heap.size + 1) n w1.heap.size (fun _ _ => 0)) := ⟨_, _, _, v, rw', S1.out.later b2, m2.graph hn, fun k _ => by omega, fun i hi => Nat.le_trans B1.out.size (m2.low.2 i hi)⟩
  have B2 : Hid (Below w.heap.size w w2) := B1.out.trans (b2.mono B1.out.size)
  clear b2 m2 S1 B1 N1 N2
  generalize w.heap.size + 1 = b at *
  generalize w1.heap.size = b2 at *
  go_wp2_with fail
  go_loopg [12, 35] es.length (fun g _ i wr => ∃ j : Nat, j ≤ es.length ∧ es.length - j ≤ g ∧ i = .int .i64 j ∧ Aside (BothF w.heap.size wr b n b2 ((es.take j).foldl (stepI n) (fun _ _ => 0))) ∧ Aside (Below w.heap.size w wr))
  case atStart => exact ⟨0, Nat.zero_le _, by omega, rfl, BO.out, B2.out⟩
  case round =>
    clear BO B2
    obtain ⟨j, hj, hg, rfl, BOX, BX⟩ := hrel
    by_cases hjl : j < es.length
    · have hjli : (j : Int) < es.length := by omega
      obtain ⟨bz, oz, rfl, k1, k2, k3⟩ := HZ.out.later BX.out j hjl
      have HF : Hid ((es.take (j + 1)).foldl (stepI n) (fun _ _ => 0) = stepI n ((es.take j).foldl (stepI n) (fun _ _ => 0)) (es.getD j (0, 0, 0))) := by
        show (es.take (j + 1)).foldl (stepI n) (fun _ _ => 0) = _
        rw [List.take_succ_eq_append_getElem hjl, List.foldl_append]
        simp [List.getD, hjl]
      generalize es.getD j (0, 0, 0) = X3 at *
      obtain ⟨x, y, z⟩ := X3
      obtain ⟨L, hL⟩ : ∃ L, (es.take j).foldl (stepI n) (fun _ _ => 0) = L := ⟨_, rfl⟩
      rw [hL] at BOX HF
      clear hL
      simp only at k1 k2 k3
      go_wp2_with fail
      have KB : Hid ((wr.alloc (.cells #[.int .i64 x, .int .i64 y, .int .i64 z] 41)).heap[wr.heap.size]? = some (.cells #[.int .i64 x, .int .i64 y, .int .i64 z] 41)) := heap_alloc_new wr _
      have T2 : Hid (BothF w.heap.size (wr.alloc (.cells #[.int .i64 x, .int .i64 y, .int .i64 z] 41)) b n b2 L) := BOX.out.later (below_box wr _)
      have B2 : Hid (Below w.heap.size w (wr.alloc (.cells #[.int .i64 x, .int .i64 y, .int .i64 z] 41))) := BX.out.trans ((below_box wr _).mono BX.out.size)
      clear BOX BX k1 k2 k3
      generalize wr.alloc (.cells #[.int .i64 x, .int .i64 y, .int .i64 z] 41) = W at *
      generalize wr.heap.size = kb at *
      have K0 : W.cell? ⟨kb, 0, none⟩ = some (.int .i64 x) := Lib.cell_of_heap KB.out 0
      have K1 : W.cell? ⟨kb, 1, none⟩ = some (.int .i64 y) := Lib.cell_of_heap KB.out 1
      have K2 : W.cell? ⟨kb, 2, none⟩ = some (.int .i64 z) := Lib.cell_of_heap KB.out 2
      obtain ⟨r, bk, ck, v, rw', h1, h2, h3, h4⟩ := T2.out
      have G1 := hid h1
      have R1 := hid h2
      have LO1 := hid h3
      have LO2 := hid h4
      clear h1 h2 h3 h4
      by_cases hw : addWhy n x y z = 0
      · obtain ⟨F, T, X, rfl, rfl, rfl, hF, hT, hX1, hX, hne⟩ := addWhy_0 hw
        have HS := hid (stepI_ok n L F T X hw)
        have HFF := hid hF
        have HT := hid hT
        have HX1 := hid hX1
        have HX := hid hX
        have HNE := hid hne
        have W0 : Hid (Below W.heap.size W W.drew) := (Below.refl _ _).drew
        clear hw hF hT hX1 hX hne
        go_region_held3 (fun w' => w'.cell? ⟨kb, 0, none⟩ = some (.int .i64 F) ∧ w'.cell? ⟨kb, 1, none⟩ = some (.int .i64 T) ∧ w'.cell? ⟨kb, 2, none⟩ = some (.int .i64 X)) (go_keep) (first
          | (go_at_call 14; refine (gadd_ok b n r bk ck L F T X _ (G1.out.later W0.out) HFF.out HT.out HX1.out HX.out HNE.out).mono ?_; rintro e wa ⟨rfl, sa, ba⟩; have SA := hid sa; have BA := hid ba; have KA := hid (Save.at (G1.out.later W0.out) HFF.out ba ((W0.out.block _ (blt KB.out)).trans KB.out) (by decide)); have RA := hid (RefG.save (G1.out.later W0.out) HFF.out ba (R1.out.later W0.out)); have kk0 : wa.cell? ⟨kb, 0, none⟩ = some (.int .i64 F) := Lib.cell_of_heap KA.out 0; have kk1 : wa.cell? ⟨kb, 1, none⟩ = some (.int .i64 T) := Lib.cell_of_heap KA.out 1; have kk2 : wa.cell? ⟨kb, 2, none⟩ = some (.int .i64 X) := Lib.cell_of_heap KA.out 2; clear sa ba)
          | (go_at_call 25; refine (rgadd_ok b2 n v rw' L F T X _ RA.out HFF.out HT.out HX1.out HX.out HNE.out).mono ?_; rintro e wb ⟨rfl, sb, bb, zb⟩; have SB := hid sb; have BB := hid bb; have KC := hid (RA.out.at HFF.out bb KA.out (by decide)); have GB := hid (Graph.beside_row RA.out HFF.out bb SA.out); have kk0 : wb.cell? ⟨kb, 0, none⟩ = some (.int .i64 F) := Lib.cell_of_heap KC.out 0; have kk1 : wb.cell? ⟨kb, 1, none⟩ = some (.int .i64 T) := Lib.cell_of_heap KC.out 1; have kk2 : wb.cell? ⟨kb, 2, none⟩ = some (.int .i64 X) := Lib.cell_of_heap KC.out 2; clear sb bb zb))
        all_goals (try go_wp2_with fail)
        have b1 : Below w.heap.size W.drew wa := BA.out.below w.heap.size (fun k hk => by obtain ⟨i, hi, rfl⟩ := hk; exact LO1.out _ (by have := HFF.out; omega)) B2.out.drew.size
        have BN : Hid (Below w.heap.size w wb) := (B2.out.drew.trans b1).trans (BB.out.below (LO2.out F HFF.out) (B2.out.drew.trans b1).size)
        clear b1
        go_roundg (es.length - (j + 1))
        · exact ⟨j + 1, by omega, by omega, by go_num, (by show BothF _ _ _ _ _ _; rw [HF.out, HS.out]; exact ⟨r, bk, ck, v, rw', GB.out, SB.out, LO1.out, LO2.out⟩), BN.out⟩
        · omega
      · have HS := hid (stepI_no n L x y z hw)
        have Q1 : Hid (∀ q, Calls Tryd.prog 14 #[.pointer (some ⟨b, 0, none⟩), .int .i64 x, .int .i64 y, .int .i64 z] (W.drewN q) fun e w'' => e = .returned (.int .i64 (addWhy n x y z)) ∧ ∃ m, w'' = W.drewN m) := fun q => quietly (gadd_no b n r bk ck L x y z (W.drewN q) (G1.out.later (below_drewN (Below.refl _ _) _)) hw)
        have Q2 : Hid (∀ q, Calls Tryd.prog 25 #[.pointer (some ⟨b2, 0, none⟩), .int .i64 x, .int .i64 y, .int .i64 z] (W.drewN q) fun e w'' => e = .returned (.int .i64 (addWhy n x y z)) ∧ ∃ m, w'' = W.drewN m) := fun q => quietly (rgadd_no b2 n v rw' L x y z (W.drewN q) (R1.out.later (below_drewN (Below.refl _ _) _)) hw)
        clear hw
        generalize addWhy n x y z = why at *
        have hyy : (why == why) = true := by simp
        go_quiet ((first | (go_at_call 14; exact Q1.out _) | (go_at_call 25; exact Q2.out _)))
        go_wp2_with fail
        go_roundg (es.length - (j + 1))
        · exact ⟨j + 1, by omega, by omega, by go_num, (by show BothF _ _ _ _ _ _; rw [HF.out, HS.out]; exact T2.out.later (below_drewN (Below.refl _ _) _)), below_drewN B2.out _⟩
        · omega
    · have hjli : ¬ (j : Int) < es.length := by omega
      go_wp2_with fail
      refine bodyPost_ret (v := .tuple #[.pointer (some ⟨b, 0, none⟩), .pointer (some ⟨b2, 0, none⟩), .bool true]) (by simp [results, Tryd.results32, go_sem]) rfl ⟨⟨b, b2, rfl, (by have h := BOX.out; rw [List.take_of_length_le (by omega)] at h; exact h)⟩, BX.out⟩
end Go.Proofs.YtpkfpfflnncleabDoor
