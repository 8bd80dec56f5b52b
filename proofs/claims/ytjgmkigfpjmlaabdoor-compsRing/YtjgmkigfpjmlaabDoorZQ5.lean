/-
  drawn: a graph of the program and one of the document, of the same edges.
-/
import Derived.Deep.CutRange
import Derived.Deep.RegionHeld3
import Derived.Deep.RegionWith
import Derived.Test.YtjgmkigfpjmlaabDoorZN
namespace Go.Proofs.YtjgmkigfpjmlaabDoor
set_option linter.unusedVariables false
set_option linter.unusedSimpArgs false
open Go.RowKit

def BothD (H : Nat) (w : World) (b n b2 : Nat) : Prop :=
  ∃ r bk ck v rw' L, Graph w b n r bk ck L ∧ RefG w b2 n v rw' L ∧ (∀ k, k < 4 * n → H ≤ ck k) ∧ (∀ i, i < n → H ≤ rw' i) ∧ ∀ f, L f f = 0
theorem BothD.later {H : Nat} {w w' : World} {b n b2 : Nat} (h : BothD H w b n b2) (hb : Below w.heap.size w w') : BothD H w' b n b2 := by
  obtain ⟨r, bk, ck, v, rw', L, h1, h2, h3⟩ := h
  exact ⟨r, bk, ck, v, rw', L, h1.later hb, h2.later hb, h3⟩
theorem addL_diag (L : Nat → Nat → Nat) (F T X : Nat) (hne : F ≠ T) (h : ∀ f, L f f = 0) (f : Nat) : addL L F T X 4 f f = 0 := by
  unfold addL
  rw [if_neg (by rintro ⟨rfl, rfl⟩; exact hne rfl)]
  exact h f
set_option maxHeartbeats 8000000 in
set_option maxRecDepth 100000 in
theorem drawn_P (n0 : Int) (n : Nat) (hn : n < 60) (hD : (IntKind.u64.wrap n0).tmod 60 = (n : Int)) (ao : Option Addr) (cp : Nat) (es : List (Int × Int × Int)) (w : World) (hz : ArgE w ao es) (hl : es.length ≤ maxLen) :
    Calls Tryd.prog 14 #[.int .i64 n0, .slice ao es.length cp] w fun e w' => (∃ b b2, e = .returned (.tuple #[.pointer (some ⟨b, 0, none⟩), .pointer (some ⟨b2, 0, none⟩), .bool true]) ∧ BothD w.heap.size w' b n b2) ∧ Below w.heap.size w w' := by
  unfold maxLen at hl
  have N1 := hid (gnew_ok n (by omega))
  have N2 := hid (rgnew_ok n (by omega))
  have hni : (n : Int) < 60 := by omega
  have HZ := hid hz
  clear hz
  have hlen : (es.length : Int) ≤ 9223372036854775807 := by omega
  go_enter Tryd.func14, Tryd.ntmps14
  go_wp2_with fail
  clear hD
  refine (N1.out _).mono ?_
  rintro e w1 ⟨rfl, s1, b1⟩
  have S1 := hid s1
  have B1 := hid b1
  clear s1 b1
  go_wp2_with fail
  refine (N2.out _).mono ?_
  rintro e w2 ⟨rfl, ⟨v, rw', m2⟩, b2⟩
  have BO : Hid (BothD w.heap.size w2 (w.heap.size + 1) n w1.heap.size) := ⟨_, _, _, v, rw', _, S1.out.later b2, m2.graph (by omega), fun k _ => by omega, fun i hi => Nat.le_trans B1.out.size (m2.low.2 i hi), fun _ => rfl⟩
  have B2 : Hid (Below w.heap.size w w2) := B1.out.trans (b2.mono B1.out.size)
  clear b2 m2 S1 B1 N1 N2
  generalize w.heap.size + 1 = b at *
  generalize w1.heap.size = b2 at *
  go_wp2_with fail
  go_loopg [12, 35] es.length (fun g _ i wr => ∃ j : Nat, j ≤ es.length ∧ es.length - j ≤ g ∧ i = .int .i64 j ∧ Aside (BothD w.heap.size wr b n b2) ∧ Aside (Below w.heap.size w wr))
  case atStart => exact ⟨0, Nat.zero_le _, by omega, rfl, BO.out, B2.out⟩
  case round =>
    clear BO B2
    obtain ⟨j, hj, hg, rfl, BOX, BX⟩ := hrel
    by_cases hjl : j < es.length
    · have hjli : (j : Int) < es.length := by omega
      obtain ⟨bz, oz, rfl, k1, k2, k3⟩ := HZ.out.later BX.out j hjl
      generalize (es.getD j (0, 0, 0)).1 = x at *
      generalize (es.getD j (0, 0, 0)).2.1 = y at *
      generalize (es.getD j (0, 0, 0)).2.2 = z at *
      go_wp2_with fail
      have KB : Hid ((wr.alloc (.cells #[.int .i64 x, .int .i64 y, .int .i64 z] 83)).heap[wr.heap.size]? = some (.cells #[.int .i64 x, .int .i64 y, .int .i64 z] 83)) := heap_alloc_new wr _
      have T2 : Hid (BothD w.heap.size (wr.alloc (.cells #[.int .i64 x, .int .i64 y, .int .i64 z] 83)) b n b2) := BOX.out.later (below_box wr _)
      have B2 : Hid (Below w.heap.size w (wr.alloc (.cells #[.int .i64 x, .int .i64 y, .int .i64 z] 83))) := BX.out.trans ((below_box wr _).mono BX.out.size)
      clear BOX BX k1 k2 k3
      generalize wr.alloc (.cells #[.int .i64 x, .int .i64 y, .int .i64 z] 83) = W at *
      generalize wr.heap.size = kb at *
      have K0 : W.cell? ⟨kb, 0, none⟩ = some (.int .i64 x) := Lib.cell_of_heap KB.out 0
      have K1 : W.cell? ⟨kb, 1, none⟩ = some (.int .i64 y) := Lib.cell_of_heap KB.out 1
      have K2 : W.cell? ⟨kb, 2, none⟩ = some (.int .i64 z) := Lib.cell_of_heap KB.out 2
      obtain ⟨r, bk, ck, v, rw', L, h1, h2, h3, h4, h5⟩ := T2.out
      have DG := hid h5
      have G1 := hid h1
      have R1 := hid h2
      have LO1 := hid h3
      have LO2 := hid h4
      clear h1 h2 h3 h4 h5
      by_cases hw : addWhy n x y z = 0
      · obtain ⟨F, T, X, rfl, rfl, rfl, hF, hT, hX1, hX, hne⟩ := addWhy_0 hw
        have HF := hid hF
        have HT := hid hT
        have HX1 := hid hX1
        have HX := hid hX
        have HNE := hid hne
        have W0 : Hid (Below W.heap.size W W.drew) := (Below.refl _ _).drew
        clear hw hF hT hX1 hX hne
        go_region_held3 (fun w' => w'.cell? ⟨kb, 0, none⟩ = some (.int .i64 F) ∧ w'.cell? ⟨kb, 1, none⟩ = some (.int .i64 T) ∧ w'.cell? ⟨kb, 2, none⟩ = some (.int .i64 X)) (go_keep) (first
          | (go_at_call 10; refine (gadd_ok b n r bk ck L F T X _ (G1.out.later W0.out) HF.out HT.out HX1.out HX.out HNE.out).mono ?_; rintro e wa ⟨rfl, sa, ba⟩; have SA := hid sa; have BA := hid ba; have KA := hid (Save.at (G1.out.later W0.out) HF.out ba ((W0.out.block _ (blt KB.out)).trans KB.out) (by decide)); have RA := hid (RefG.save (G1.out.later W0.out) HF.out ba (R1.out.later W0.out)); have kk0 : wa.cell? ⟨kb, 0, none⟩ = some (.int .i64 F) := Lib.cell_of_heap KA.out 0; have kk1 : wa.cell? ⟨kb, 1, none⟩ = some (.int .i64 T) := Lib.cell_of_heap KA.out 1; have kk2 : wa.cell? ⟨kb, 2, none⟩ = some (.int .i64 X) := Lib.cell_of_heap KA.out 2; clear sa ba)
          | (go_at_call 45; refine (rgadd_ok b2 n v rw' L F T X _ RA.out HF.out HT.out HX1.out HX.out HNE.out).mono ?_; rintro e wb ⟨rfl, sb, bb, zb⟩; have SB := hid sb; have BB := hid bb; have KC := hid (RA.out.at HF.out bb KA.out (by decide)); have GB := hid (Graph.beside_row RA.out HF.out bb SA.out); have kk0 : wb.cell? ⟨kb, 0, none⟩ = some (.int .i64 F) := Lib.cell_of_heap KC.out 0; have kk1 : wb.cell? ⟨kb, 1, none⟩ = some (.int .i64 T) := Lib.cell_of_heap KC.out 1; have kk2 : wb.cell? ⟨kb, 2, none⟩ = some (.int .i64 X) := Lib.cell_of_heap KC.out 2; clear sb bb zb))
        all_goals (try go_wp2_with fail)
        have b1 : Below w.heap.size W.drew wa := BA.out.below w.heap.size (fun k hk => by obtain ⟨i, hi, rfl⟩ := hk; exact LO1.out _ (by have := HF.out; omega)) B2.out.drew.size
        have BN : Hid (Below w.heap.size w wb) := (B2.out.drew.trans b1).trans (BB.out.below (LO2.out F HF.out) (B2.out.drew.trans b1).size)
        clear b1
        go_roundg (es.length - (j + 1))
        · exact ⟨j + 1, by omega, by omega, by go_num, ⟨r, bk, ck, v, rw', _, GB.out, SB.out, LO1.out, LO2.out, addL_diag L F T X HNE.out DG.out⟩, BN.out⟩
        · omega
      · have Q1 : Hid (∀ q, Calls Tryd.prog 10 #[.pointer (some ⟨b, 0, none⟩), .int .i64 x, .int .i64 y, .int .i64 z] (W.drewN q) fun e w'' => e = .returned (.int .i64 (addWhy n x y z)) ∧ ∃ m, w'' = W.drewN m) := fun q => quietly (gadd_no b n r bk ck L x y z (W.drewN q) (G1.out.later (below_drewN (Below.refl _ _) _)) hw)
        have Q2 : Hid (∀ q, Calls Tryd.prog 45 #[.pointer (some ⟨b2, 0, none⟩), .int .i64 x, .int .i64 y, .int .i64 z] (W.drewN q) fun e w'' => e = .returned (.int .i64 (addWhy n x y z)) ∧ ∃ m, w'' = W.drewN m) := fun q => quietly (rgadd_no b2 n v rw' L x y z (W.drewN q) (R1.out.later (below_drewN (Below.refl _ _) _)) hw)
        clear hw
        generalize addWhy n x y z = why at *
        have hyy : (why == why) = true := by simp
        go_quiet ((first | (go_at_call 10; exact Q1.out _) | (go_at_call 45; exact Q2.out _)))
        go_wp2_with fail
        go_roundg (es.length - (j + 1))
        · exact ⟨j + 1, by omega, by omega, by go_num, T2.out.later (below_drewN (Below.refl _ _) _), below_drewN B2.out _⟩
        · omega
    · have hjli : ¬ (j : Int) < es.length := by omega
      go_wp2_with fail
      refine bodyPost_ret (v := .tuple #[.pointer (some ⟨b, 0, none⟩), .pointer (some ⟨b2, 0, none⟩), .bool true]) (by simp [results, Tryd.results14, go_sem]) rfl ⟨⟨b, b2, rfl, BOX.out⟩, BX.out⟩
end Go.Proofs.YtjgmkigfpjmlaabDoor
