/-
  A value that nobody had written, as the document finds it.
  A value of a transaction that failed, as the document finds it.
  A value that its writer wrote over, as the document finds it.
-/
import Derived.Test.YtnfbcmnlloipiaaK15
namespace Go.Proofs.Ytnfbcmnlloipiaa
set_option linter.unusedVariables false
set_option linter.unusedSimpArgs false
open Go.RowKit Go.Lib Go.Maps Go.Sort
open Tx (MTxn info_parts RowsIn.cells RowCells TxnRow TxnsIn)

set_option maxHeartbeats 8000000 in
set_option maxRecDepth 100000 in
theorem one_2 (w : World) (v : Value) (l : List MTxn) (s : ByteArray) (ri rj : Nat) (la : Option Addr) (lc : Nat) (xs : List Int) (ti tj : Nat) (ta : Option Addr) (tc : Nat) (ts : List Int) (h : TxnsIn Any w v l) (hG : Good l) (hu : uniqN (notes l l.length)) (hin : IntsIn Any w (.slice la xs.length lc) xs) (hxl : xs.length ≤ 100000) :
    Calls Try.prog 43 #[v, .string s, .int .i64 2, .agg #[.int .i64 ri, .int .i64 rj, .slice la xs.length lc], .agg #[.int .i64 ti, .int .i64 tj, .slice ta ts.length tc]] w fun e w' => OneP s ri rj (findM ⟨srcN l s (notes l l.length), ti, ts⟩ ri rj xs 1) e ∧ Below w.heap.size w w' := by
  have WT : Hid (∀ W, Below w.heap.size w W → ∀ x, Calls Try.prog 47 #[v, .string s, .int .i64 x] W fun e w' => e = .returned (.tuple #[.agg #[.int .i64 ((srcN l s (notes l l.length) x).getD noSrc).1, .int .i64 ((srcN l s (notes l l.length) x).getD noSrc).2.1], .bool (srcN l s (notes l l.length) x).isSome]) ∧ Below W.heap.size W w') := fun W hb x => writer_is W v l s x (h.below hb) hG hu
  have HS : Hid (∀ x y, srcN l s (notes l l.length) x = some y → y = srcOf l (y.1, y.2.1, default) ∧ y.1 < l.length) := fun x y hy => by
    obtain ⟨z, hz, _, rfl⟩ := src_mem hy
    exact ⟨rfl, (notes_at _ hz).1⟩
  obtain ⟨a1, c1, rfl, hrow⟩ := RowsIn.cells h (by omega)
  obtain ⟨_, hrow⟩ := hrow
  have HROW := hid hrow
  have HT := hid h
  have HG := hid hG
  have HIN := hid hin
  have hxli : (xs.length : Int) ≤ 100000 := by omega
  have S0 := hid (on_start w ri rj la xs.length lc ti tj ta ts.length tc 2 s)
  clear h hG hu hin hrow
  generalize hF : srcN l s (notes l l.length) = F at *
  have HF := hid hF
  clear hF
  go_enter Try.func43, Try.ntmps43
  go_wp2_with fail
  generalize hab : w.heap.size + 1 + 1 + 1 = ab at *
  generalize hzb : w.heap.size + 1 + 1 = zb at *
  generalize (((w.alloc (.cells #[.int .i64 ri, .int .i64 rj, .slice la xs.length lc] 87)).alloc (.cells #[.int .i64 ti, .int .i64 tj, .slice ta ts.length tc] 87)).alloc (.cells #[.int .i64 0, .int .i64 0, .int .i64 0, .int .i64 0, .string ⟨#[]⟩, .int .i64 0, .slice none 0 0, .bool false, .int .i64 0] 85)).alloc (.cells #[.int .i64 2, .int .i64 ri, .int .i64 rj, .int .i64 0, .string s, .int .i64 0, .slice none 0 0, .bool false, .int .i64 0] 85) = W0 at *
  have hza : zb ≠ ab := by omega
  have hra : w.heap.size < ab := by omega
  have hrz : w.heap.size < zb := by omega
  go_loopg [13, 14, 15, 16, 18, 41] xs.length (fun gg _ _ _ _ _ i wr => ∃ k : Nat, k ≤ xs.length ∧ xs.length - k ≤ gg ∧ i = .int .i64 k ∧ Aside (∃ x, On w zb ab ri rj la xs.length lc 2 s x wr) ∧ Aside (∀ j, j < k → garB F ri rj (xs.getD j default) = false))
  case atStart => exact ⟨0, Nat.zero_le _, by omega, rfl, ⟨_, S0.out⟩, fun j hj => by omega⟩
  case round =>
    obtain ⟨k, hk, hgk, rfl, SR, NX⟩ := hrel
    obtain ⟨x0, hOn⟩ := SR.out
    by_cases hlt : k < xs.length
    · have hlti : (k : Int) < xs.length := by omega
      obtain ⟨ao, c', hv, _, hcs⟩ := id HIN.out
      cases hv
      obtain ⟨lb, lo, rfl, _, hcell⟩ := hcs (by omega)
      have xk := (hOn.bl.cell (p := ⟨lb, lo + k, none⟩) (World.block_lt_of_cell? _ _ (hcell k hlt))).trans (hcell k hlt)
      obtain ⟨X, hX⟩ : ∃ X, xs.getD k default = X := ⟨_, rfl⟩
      rw [hX] at xk
      have HX := hid hX
      have a5 : wr.cell? ⟨ab, 5, none⟩ = some (.int .i64 x0) := Lib.cell_of_heap hOn.a12 5
      have f5 : wr.frozen? ⟨ab, 5, none⟩ = false := Lib.frozen_of_heap hOn.a12 5
      have r2 : wr.cell? ⟨w.heap.size, 2, none⟩ = some (.slice (some ⟨lb, lo, none⟩) xs.length lc) := Lib.cell_of_heap hOn.r8 2
      have O1 := hid (hOn.set hza hra X)
      have HOn := hid hOn
      have WTk := hid (WT.out _ O1.out.bl X)
      clear hcs hcell hX hOn SR
      obtain ⟨y, hy⟩ : ∃ y, (F X).getD noSrc = y := ⟨_, rfl⟩
      obtain ⟨q, hq⟩ : ∃ q, (F X).isSome = q := ⟨_, rfl⟩
      rw [hy, hq] at WTk
      obtain ⟨y1, y2, y3, y4⟩ := y
      simp only at WTk
      have HY := hid hy
      have HQ := hid hq
      clear hy hq
      go_upto_region 10 with (go_at_call 47; refine WTk.out.mono ?_; rintro e w1 ⟨rfl, b1⟩; have O2 := hid (O1.out.later b1); clear b1)
      have O3 := hid (O2.out.later (below_box w1 (.cells #[.int .i64 y1, .int .i64 y2] 54)))
      have PB := hid (heap_alloc_new w1 (.cells #[.int .i64 y1, .int .i64 y2] 54))
      clear a5 f5 r2 xk O1 O2 WTk HOn
      generalize w1.alloc (.cells #[.int .i64 y1, .int .i64 y2] 54) = W2 at *
      generalize w1.heap.size = pb at *
      have P0 : W2.cell? ⟨pb, 0, none⟩ = some (.int .i64 y1) := Lib.cell_of_heap PB.out 0
      have P1 : W2.cell? ⟨pb, 1, none⟩ = some (.int .i64 y2) := Lib.cell_of_heap PB.out 1
      have R0 : W2.cell? ⟨w.heap.size, 0, none⟩ = some (.int .i64 ri) := Lib.cell_of_heap O3.out.r8 0
      have R1 : W2.cell? ⟨w.heap.size, 1, none⟩ = some (.int .i64 rj) := Lib.cell_of_heap O3.out.r8 1
      have R2 : W2.cell? ⟨w.heap.size, 2, none⟩ = some (.slice (some ⟨lb, lo, none⟩) xs.length lc) := Lib.cell_of_heap O3.out.r8 2
      cases hS : F X with
      | none =>
        have e1 := HY.out
        have e2 := HQ.out
        rw [hS] at e1 e2
        cases e1
        cases e2
        have NP : Hid (garB F ri rj X = true) := by show _ = _; simp [garB, hS]
        clear hS
        have A0 : W2.cell? ⟨ab, 0, none⟩ = some (.int .i64 2) := Lib.cell_of_heap O3.out.a12 0
        have A1 : W2.cell? ⟨ab, 1, none⟩ = some (.int .i64 ri) := Lib.cell_of_heap O3.out.a12 1
        have A2 : W2.cell? ⟨ab, 2, none⟩ = some (.int .i64 rj) := Lib.cell_of_heap O3.out.a12 2
        have A3 : W2.cell? ⟨ab, 3, none⟩ = some (.int .i64 0) := Lib.cell_of_heap O3.out.a12 3
        have A4 : W2.cell? ⟨ab, 4, none⟩ = some (.string s) := Lib.cell_of_heap O3.out.a12 4
        have A5 : W2.cell? ⟨ab, 5, none⟩ = some (.int .i64 X) := Lib.cell_of_heap O3.out.a12 5
        have A6 : W2.cell? ⟨ab, 6, none⟩ = some (.slice none 0 0) := Lib.cell_of_heap O3.out.a12 6
        have A7 : W2.cell? ⟨ab, 7, none⟩ = some (.bool false) := Lib.cell_of_heap O3.out.a12 7
        have A8 : W2.cell? ⟨ab, 8, none⟩ = some (.int .i64 0) := Lib.cell_of_heap O3.out.a12 8
        have Y0 : W2.cell? ⟨zb, 0, none⟩ = some (.int .i64 0) := Lib.cell_of_heap O3.out.z10 0
        have Y1 : W2.cell? ⟨zb, 1, none⟩ = some (.int .i64 0) := Lib.cell_of_heap O3.out.z10 1
        have Y2 : W2.cell? ⟨zb, 2, none⟩ = some (.int .i64 0) := Lib.cell_of_heap O3.out.z10 2
        have Y3 : W2.cell? ⟨zb, 3, none⟩ = some (.int .i64 0) := Lib.cell_of_heap O3.out.z10 3
        have Y4 : W2.cell? ⟨zb, 4, none⟩ = some (.string ⟨#[]⟩) := Lib.cell_of_heap O3.out.z10 4
        have Y5 : W2.cell? ⟨zb, 5, none⟩ = some (.int .i64 0) := Lib.cell_of_heap O3.out.z10 5
        have Y6 : W2.cell? ⟨zb, 6, none⟩ = some (.slice none 0 0) := Lib.cell_of_heap O3.out.z10 6
        have Y7 : W2.cell? ⟨zb, 7, none⟩ = some (.bool false) := Lib.cell_of_heap O3.out.z10 7
        have Y8 : W2.cell? ⟨zb, 8, none⟩ = some (.int .i64 0) := Lib.cell_of_heap O3.out.z10 8
        have FZ : ∀ i, W2.frozen? ⟨zb, i, none⟩ = false := (fun i => Lib.frozen_of_heap O3.out.z10 i)
        have FA : ∀ i, W2.frozen? ⟨ab, i, none⟩ = false := (fun i => Lib.frozen_of_heap O3.out.a12 i)
        go_wp2_with fail
        refine bodyPost_ret (v := .tuple #[.agg #[.int .i64 2, .int .i64 ri, .int .i64 rj, .int .i64 0, .string s, .int .i64 X, .slice none 0 0, .bool false, .int .i64 0], .bool true]) (by simp [results, Try.results43, go_sem, Y0, Y1, Y2, Y3, Y4, Y5, Y6, Y7, Y8, hza, hza.symm]) rfl ⟨⟨2, ri, rj, 0, s, X, ?_, ?_⟩, (((((((((O3.out.bl.setCell (by show w.heap.size ≤ zb; omega) _).setCell (by show w.heap.size ≤ zb; omega) _).setCell (by show w.heap.size ≤ zb; omega) _).setCell (by show w.heap.size ≤ zb; omega) _).setCell (by show w.heap.size ≤ zb; omega) _).setCell (by show w.heap.size ≤ zb; omega) _).setCell (by show w.heap.size ≤ zb; omega) _).setCell (by show w.heap.size ≤ zb; omega) _).setCell (by show w.heap.size ≤ zb; omega) _)⟩
        · have hfn : findM ⟨F, ti, ts⟩ ri rj xs 1 = some (2, 0, X) := by
            show (xs.find? (garB F ri rj)).map _ = _
            rw [find_some' (garB F ri rj) default xs k hlt (by rw [HX.out]; exact NP.out) NX.out, HX.out]
            rfl
          rw [hfn]
          rfl
        · intro a ha
          have hfn : findM ⟨F, ti, ts⟩ ri rj xs 1 = some (2, 0, X) := by
            show (xs.find? (garB F ri rj)).map _ = _
            rw [find_some' (garB F ri rj) default xs k hlt (by rw [HX.out]; exact NP.out) NX.out, HX.out]
            rfl
          rw [hfn] at ha
          injection ha with ha
          subst ha
          exact ⟨rfl, rfl, rfl, rfl, rfl, rfl⟩
      | some y =>
        have e1 := HY.out
        have e2 := HQ.out
        rw [hS] at e1 e2
        cases e1
        cases e2
        by_cases he : y1 = ri
        · have heb : ((y1 : Int) == (ri : Int)) = true := by rw [beq_iff_eq]; omega
          by_cases hg : rj < y2
          · have hgi : (rj : Int) < y2 := by omega
            have NP : Hid (garB F ri rj X = true) := by show _ = _; simp [garB, hS, hg, he]
            clear hS
            have A0 : W2.cell? ⟨ab, 0, none⟩ = some (.int .i64 2) := Lib.cell_of_heap O3.out.a12 0
            have A1 : W2.cell? ⟨ab, 1, none⟩ = some (.int .i64 ri) := Lib.cell_of_heap O3.out.a12 1
            have A2 : W2.cell? ⟨ab, 2, none⟩ = some (.int .i64 rj) := Lib.cell_of_heap O3.out.a12 2
            have A3 : W2.cell? ⟨ab, 3, none⟩ = some (.int .i64 0) := Lib.cell_of_heap O3.out.a12 3
            have A4 : W2.cell? ⟨ab, 4, none⟩ = some (.string s) := Lib.cell_of_heap O3.out.a12 4
            have A5 : W2.cell? ⟨ab, 5, none⟩ = some (.int .i64 X) := Lib.cell_of_heap O3.out.a12 5
            have A6 : W2.cell? ⟨ab, 6, none⟩ = some (.slice none 0 0) := Lib.cell_of_heap O3.out.a12 6
            have A7 : W2.cell? ⟨ab, 7, none⟩ = some (.bool false) := Lib.cell_of_heap O3.out.a12 7
            have A8 : W2.cell? ⟨ab, 8, none⟩ = some (.int .i64 0) := Lib.cell_of_heap O3.out.a12 8
            have Y0 : W2.cell? ⟨zb, 0, none⟩ = some (.int .i64 0) := Lib.cell_of_heap O3.out.z10 0
            have Y1 : W2.cell? ⟨zb, 1, none⟩ = some (.int .i64 0) := Lib.cell_of_heap O3.out.z10 1
            have Y2 : W2.cell? ⟨zb, 2, none⟩ = some (.int .i64 0) := Lib.cell_of_heap O3.out.z10 2
            have Y3 : W2.cell? ⟨zb, 3, none⟩ = some (.int .i64 0) := Lib.cell_of_heap O3.out.z10 3
            have Y4 : W2.cell? ⟨zb, 4, none⟩ = some (.string ⟨#[]⟩) := Lib.cell_of_heap O3.out.z10 4
            have Y5 : W2.cell? ⟨zb, 5, none⟩ = some (.int .i64 0) := Lib.cell_of_heap O3.out.z10 5
            have Y6 : W2.cell? ⟨zb, 6, none⟩ = some (.slice none 0 0) := Lib.cell_of_heap O3.out.z10 6
            have Y7 : W2.cell? ⟨zb, 7, none⟩ = some (.bool false) := Lib.cell_of_heap O3.out.z10 7
            have Y8 : W2.cell? ⟨zb, 8, none⟩ = some (.int .i64 0) := Lib.cell_of_heap O3.out.z10 8
            have FZ : ∀ i, W2.frozen? ⟨zb, i, none⟩ = false := (fun i => Lib.frozen_of_heap O3.out.z10 i)
            have FA : ∀ i, W2.frozen? ⟨ab, i, none⟩ = false := (fun i => Lib.frozen_of_heap O3.out.a12 i)
            go_wp2_with fail
            refine bodyPost_ret (v := .tuple #[.agg #[.int .i64 2, .int .i64 ri, .int .i64 rj, .int .i64 0, .string s, .int .i64 X, .slice none 0 0, .bool false, .int .i64 0], .bool true]) (by simp [results, Try.results43, go_sem, Y0, Y1, Y2, Y3, Y4, Y5, Y6, Y7, Y8, hza, hza.symm]) rfl ⟨⟨2, ri, rj, 0, s, X, ?_, ?_⟩, (((((((((O3.out.bl.setCell (by show w.heap.size ≤ zb; omega) _).setCell (by show w.heap.size ≤ zb; omega) _).setCell (by show w.heap.size ≤ zb; omega) _).setCell (by show w.heap.size ≤ zb; omega) _).setCell (by show w.heap.size ≤ zb; omega) _).setCell (by show w.heap.size ≤ zb; omega) _).setCell (by show w.heap.size ≤ zb; omega) _).setCell (by show w.heap.size ≤ zb; omega) _).setCell (by show w.heap.size ≤ zb; omega) _)⟩
            · have hfn : findM ⟨F, ti, ts⟩ ri rj xs 1 = some (2, 0, X) := by
                show (xs.find? (garB F ri rj)).map _ = _
                rw [find_some' (garB F ri rj) default xs k hlt (by rw [HX.out]; exact NP.out) NX.out, HX.out]
                rfl
              rw [hfn]
              rfl
            · intro a ha
              have hfn : findM ⟨F, ti, ts⟩ ri rj xs 1 = some (2, 0, X) := by
                show (xs.find? (garB F ri rj)).map _ = _
                rw [find_some' (garB F ri rj) default xs k hlt (by rw [HX.out]; exact NP.out) NX.out, HX.out]
                rfl
              rw [hfn] at ha
              injection ha with ha
              subst ha
              exact ⟨rfl, rfl, rfl, rfl, rfl, rfl⟩
          · have hgi : ¬ (rj : Int) < y2 := by omega
            have NP : Hid (garB F ri rj X = false) := by show _ = _; simp [garB, hS, hg]
            clear hS
            go_wp2_with fail
            go_roundg (xs.length - (k + 1))
            case measure => omega
            case rel => exact ⟨k + 1, by omega, by omega, by go_num, ⟨X, O3.out⟩, (fun j hj => by by_cases e : j = k; (· rw [e, HX.out]; exact NP.out); (· exact NX.out j (by omega)))⟩
        · have heb : ((y1 : Int) == (ri : Int)) = false := by rw [beq_eq_false_iff_ne]; omega
          have NP : Hid (garB F ri rj X = false) := by show _ = _; simp [garB, hS, he]
          clear hS
          go_wp2_with fail
          go_roundg (xs.length - (k + 1))
          case measure => omega
          case rel => exact ⟨k + 1, by omega, by omega, by go_num, ⟨X, O3.out⟩, (fun j hj => by by_cases e : j = k; (· rw [e, HX.out]; exact NP.out); (· exact NX.out j (by omega)))⟩
    · have hke : k = xs.length := by omega
      have hlti : ¬ (k : Int) < xs.length := by omega
      subst hke
      have hOn2 := hOn
      have HOn := hid hOn
      have y0 := Lib.cell_of_heap hOn2.z10 0
      have y1 := Lib.cell_of_heap hOn2.z10 1
      have y2 := Lib.cell_of_heap hOn2.z10 2
      have y3 := Lib.cell_of_heap hOn2.z10 3
      have y4 := Lib.cell_of_heap hOn2.z10 4
      have y5 := Lib.cell_of_heap hOn2.z10 5
      have y6 := Lib.cell_of_heap hOn2.z10 6
      have y7 := Lib.cell_of_heap hOn2.z10 7
      have y8 := Lib.cell_of_heap hOn2.z10 8
      simp only [List.getElem?_toArray, List.getElem?_cons_zero, List.getElem?_cons_succ] at y0 y1 y2 y3 y4 y5 y6 y7 y8
      have fz : ∀ i, wr.frozen? ⟨zb, i, none⟩ = false := fun i => Lib.frozen_of_heap hOn2.z10 i
      clear hOn hOn2 SR
      have hfn := show findM ⟨F, ti, ts⟩ ri rj xs 1 = none from (by show (xs.find? (garB F ri rj)).map _ = _; rw [find_none' (garB F ri rj) default xs NX.out]; rfl)
      have HFN := hid hfn
      clear hfn
      go_wp2_with fail
      rw [Tx.setCell_self y0, Tx.setCell_self y1, Tx.setCell_self y2, Tx.setCell_self y3, Tx.setCell_self y4, Tx.setCell_self y5, Tx.setCell_self y6, Tx.setCell_self y7, Tx.setCell_self y8]
      refine bodyPost_ret (v := .tuple #[.agg #[.int .i64 0, .int .i64 0, .int .i64 0, .int .i64 0, .string ⟨#[]⟩, .int .i64 0, .slice none 0 0, .bool false, .int .i64 0], .bool false]) (by simp [results, Try.results43, go_sem, y0, y1, y2, y3, y4, y5, y6, y7, y8]) rfl ⟨⟨0, 0, 0, 0, ⟨#[]⟩, 0, ?_, ?_⟩, HOn.out.bl⟩
      · rw [HFN.out]
        rfl
      · intro a ha
        rw [HFN.out] at ha
        exact absurd ha (by simp)
end Go.Proofs.Ytnfbcmnlloipiaa
namespace Go.Proofs.Ytnfbcmnlloipiaa
set_option linter.unusedVariables false
set_option linter.unusedSimpArgs false
open Go.RowKit Go.Lib Go.Maps Go.Sort
open Tx (MTxn info_parts RowsIn.cells RowCells TxnRow TxnsIn)

set_option maxHeartbeats 8000000 in
set_option maxRecDepth 100000 in
theorem one_5 (w : World) (v : Value) (l : List MTxn) (s : ByteArray) (ri rj : Nat) (la : Option Addr) (lc : Nat) (xs : List Int) (ti tj : Nat) (ta : Option Addr) (tc : Nat) (ts : List Int) (h : TxnsIn Any w v l) (hG : Good l) (hu : uniqN (notes l l.length)) (hin : IntsIn Any w (.slice la xs.length lc) xs) (hxl : xs.length ≤ 100000) :
    Calls Try.prog 43 #[v, .string s, .int .i64 5, .agg #[.int .i64 ri, .int .i64 rj, .slice la xs.length lc], .agg #[.int .i64 ti, .int .i64 tj, .slice ta ts.length tc]] w fun e w' => OneP s ri rj (findM ⟨srcN l s (notes l l.length), ti, ts⟩ ri rj xs 2) e ∧ Below w.heap.size w w' := by
  have WT : Hid (∀ W, Below w.heap.size w W → ∀ x, Calls Try.prog 47 #[v, .string s, .int .i64 x] W fun e w' => e = .returned (.tuple #[.agg #[.int .i64 ((srcN l s (notes l l.length) x).getD noSrc).1, .int .i64 ((srcN l s (notes l l.length) x).getD noSrc).2.1], .bool (srcN l s (notes l l.length) x).isSome]) ∧ Below W.heap.size W w') := fun W hb x => writer_is W v l s x (h.below hb) hG hu
  have HS : Hid (∀ x y, srcN l s (notes l l.length) x = some y → y = srcOf l (y.1, y.2.1, default) ∧ y.1 < l.length) := fun x y hy => by
    obtain ⟨z, hz, _, rfl⟩ := src_mem hy
    exact ⟨rfl, (notes_at _ hz).1⟩
  obtain ⟨a1, c1, rfl, hrow⟩ := RowsIn.cells h (by omega)
  obtain ⟨_, hrow⟩ := hrow
  have HROW := hid hrow
  have HT := hid h
  have HG := hid hG
  have HIN := hid hin
  have hxli : (xs.length : Int) ≤ 100000 := by omega
  have S0 := hid (on_start w ri rj la xs.length lc ti tj ta ts.length tc 5 s)
  clear h hG hu hin hrow
  generalize hF : srcN l s (notes l l.length) = F at *
  have HF := hid hF
  clear hF
  go_enter Try.func43, Try.ntmps43
  go_wp2_with fail
  generalize hab : w.heap.size + 1 + 1 + 1 = ab at *
  generalize hzb : w.heap.size + 1 + 1 = zb at *
  generalize (((w.alloc (.cells #[.int .i64 ri, .int .i64 rj, .slice la xs.length lc] 87)).alloc (.cells #[.int .i64 ti, .int .i64 tj, .slice ta ts.length tc] 87)).alloc (.cells #[.int .i64 0, .int .i64 0, .int .i64 0, .int .i64 0, .string ⟨#[]⟩, .int .i64 0, .slice none 0 0, .bool false, .int .i64 0] 85)).alloc (.cells #[.int .i64 5, .int .i64 ri, .int .i64 rj, .int .i64 0, .string s, .int .i64 0, .slice none 0 0, .bool false, .int .i64 0] 85) = W0 at *
  have hza : zb ≠ ab := by omega
  have hra : w.heap.size < ab := by omega
  have hrz : w.heap.size < zb := by omega
  go_loopg [13, 14, 15, 16, 18, 41] xs.length (fun gg _ _ _ _ _ i wr => ∃ k : Nat, k ≤ xs.length ∧ xs.length - k ≤ gg ∧ i = .int .i64 k ∧ Aside (∃ x, On w zb ab ri rj la xs.length lc 5 s x wr) ∧ Aside (∀ j, j < k → abrB F (xs.getD j default) = false))
  case atStart => exact ⟨0, Nat.zero_le _, by omega, rfl, ⟨_, S0.out⟩, fun j hj => by omega⟩
  case round =>
    obtain ⟨k, hk, hgk, rfl, SR, NX⟩ := hrel
    obtain ⟨x0, hOn⟩ := SR.out
    by_cases hlt : k < xs.length
    · have hlti : (k : Int) < xs.length := by omega
      obtain ⟨ao, c', hv, _, hcs⟩ := id HIN.out
      cases hv
      obtain ⟨lb, lo, rfl, _, hcell⟩ := hcs (by omega)
      have xk := (hOn.bl.cell (p := ⟨lb, lo + k, none⟩) (World.block_lt_of_cell? _ _ (hcell k hlt))).trans (hcell k hlt)
      obtain ⟨X, hX⟩ : ∃ X, xs.getD k default = X := ⟨_, rfl⟩
      rw [hX] at xk
      have HX := hid hX
      have a5 : wr.cell? ⟨ab, 5, none⟩ = some (.int .i64 x0) := Lib.cell_of_heap hOn.a12 5
      have f5 : wr.frozen? ⟨ab, 5, none⟩ = false := Lib.frozen_of_heap hOn.a12 5
      have r2 : wr.cell? ⟨w.heap.size, 2, none⟩ = some (.slice (some ⟨lb, lo, none⟩) xs.length lc) := Lib.cell_of_heap hOn.r8 2
      have O1 := hid (hOn.set hza hra X)
      have HOn := hid hOn
      have WTk := hid (WT.out _ O1.out.bl X)
      clear hcs hcell hX hOn SR
      obtain ⟨y, hy⟩ : ∃ y, (F X).getD noSrc = y := ⟨_, rfl⟩
      obtain ⟨q, hq⟩ : ∃ q, (F X).isSome = q := ⟨_, rfl⟩
      rw [hy, hq] at WTk
      obtain ⟨y1, y2, y3, y4⟩ := y
      simp only at WTk
      have HY := hid hy
      have HQ := hid hq
      clear hy hq
      go_upto_region 10 with (go_at_call 47; refine WTk.out.mono ?_; rintro e w1 ⟨rfl, b1⟩; have O2 := hid (O1.out.later b1); clear b1)
      have O3 := hid (O2.out.later (below_box w1 (.cells #[.int .i64 y1, .int .i64 y2] 54)))
      have PB := hid (heap_alloc_new w1 (.cells #[.int .i64 y1, .int .i64 y2] 54))
      clear a5 f5 r2 xk O1 O2 WTk HOn
      generalize w1.alloc (.cells #[.int .i64 y1, .int .i64 y2] 54) = W2 at *
      generalize w1.heap.size = pb at *
      have P0 : W2.cell? ⟨pb, 0, none⟩ = some (.int .i64 y1) := Lib.cell_of_heap PB.out 0
      have P1 : W2.cell? ⟨pb, 1, none⟩ = some (.int .i64 y2) := Lib.cell_of_heap PB.out 1
      have R0 : W2.cell? ⟨w.heap.size, 0, none⟩ = some (.int .i64 ri) := Lib.cell_of_heap O3.out.r8 0
      have R1 : W2.cell? ⟨w.heap.size, 1, none⟩ = some (.int .i64 rj) := Lib.cell_of_heap O3.out.r8 1
      have R2 : W2.cell? ⟨w.heap.size, 2, none⟩ = some (.slice (some ⟨lb, lo, none⟩) xs.length lc) := Lib.cell_of_heap O3.out.r8 2
      cases hS : F X with
      | none =>
        have e1 := HY.out
        have e2 := HQ.out
        rw [hS] at e1 e2
        cases e1
        cases e2
        have NP : Hid (abrB F X = false) := by show _ = _; simp [abrB, hS]
        clear hS
        go_wp2_with fail
        go_roundg (xs.length - (k + 1))
        case measure => omega
        case rel => exact ⟨k + 1, by omega, by omega, by go_num, ⟨X, O3.out⟩, (fun j hj => by by_cases e : j = k; (· rw [e, HX.out]; exact NP.out); (· exact NX.out j (by omega)))⟩
      | some y =>
        have e1 := HY.out
        have e2 := HQ.out
        rw [hS] at e1 e2
        cases e1
        cases e2
        obtain ⟨hy, hy1⟩ := HS.out X _ hS
        simp only at hy1 hy
        have hy3 : y3 = failB (l.getD y1 default).state := by injection hy with _ hy; injection hy with _ hy; injection hy
        have hy1i : (y1 : Int) < l.length := by omega
        have HSX := hid hS
        obtain ⟨tb, to, cs, hta, htb, _, ⟨ov, hcs, hops⟩, hc⟩ := HROW.out y1 hy1
        subst hta
        subst hcs
        obtain ⟨oa, oc, hov, _⟩ := id hops
        subst hov
        have D0 := (O3.out.bl.cell (p := ⟨tb, to + y1 * 5 + 0, none⟩) htb).trans (hc 0 _ rfl)
        have D1 := (O3.out.bl.cell (p := ⟨tb, to + y1 * 5 + 1, none⟩) htb).trans (hc 1 _ rfl)
        have D2 := (O3.out.bl.cell (p := ⟨tb, to + y1 * 5 + 2, none⟩) htb).trans (hc 2 _ rfl)
        have D3 := (O3.out.bl.cell (p := ⟨tb, to + y1 * 5 + 3, none⟩) htb).trans (hc 3 _ rfl)
        have D4 := (O3.out.bl.cell (p := ⟨tb, to + y1 * 5 + 4, none⟩) htb).trans (hc 4 _ rfl)
        simp only [Nat.add_zero] at D0
        have FL := hid (fun W => failed_is (l.getD y1 default).proc (l.getD y1 default).state (l.getD y1 default).since (l.getD y1 default).till oa (l.getD y1 default).ops.length oc W)
        rw [← hy3] at FL
        generalize (l.getD y1 default).proc = xp at *
        generalize (l.getD y1 default).state = xst at *
        generalize (l.getD y1 default).since = xf at *
        generalize (l.getD y1 default).till = xt at *
        generalize (l.getD y1 default).ops.length = xn at *
        clear hc hops hy hy3 hS
        cases y3 with
        | false =>
          have NP : Hid (abrB F X = false) := by show _ = _; simp [abrB, HSX.out]
          go_wp2_with (go_at_call 76; refine (FL.out _).mono ?_; rintro e w3 ⟨rfl, b3⟩; have O4 := hid (O3.out.later b3); have Q0 : w3.cell? ⟨pb, 0, none⟩ = some (.int .i64 y1) := (b3.cell (p := ⟨pb, 0, none⟩) (blt PB.out)).trans P0; clear b3)
          go_roundg (xs.length - (k + 1))
          case measure => omega
          case rel => exact ⟨k + 1, by omega, by omega, by go_num, ⟨X, O4.out⟩, (fun j hj => by by_cases e : j = k; (· rw [e, HX.out]; exact NP.out); (· exact NX.out j (by omega)))⟩
        | true =>
          have NP : Hid (abrB F X = true) := by show _ = _; simp [abrB, HSX.out]
          go_wp2_with (go_at_call 76; refine (FL.out _).mono ?_; rintro e w3 ⟨rfl, b3⟩; have O4 := hid (O3.out.later b3); have Q0 : w3.cell? ⟨pb, 0, none⟩ = some (.int .i64 y1) := (b3.cell (p := ⟨pb, 0, none⟩) (blt PB.out)).trans P0; have A03 : w3.cell? ⟨ab, 0, none⟩ = some (.int .i64 5) := Lib.cell_of_heap O4.out.a12 0; have A13 : w3.cell? ⟨ab, 1, none⟩ = some (.int .i64 ri) := Lib.cell_of_heap O4.out.a12 1; have A23 : w3.cell? ⟨ab, 2, none⟩ = some (.int .i64 rj) := Lib.cell_of_heap O4.out.a12 2; have A33 : w3.cell? ⟨ab, 3, none⟩ = some (.int .i64 0) := Lib.cell_of_heap O4.out.a12 3; have A43 : w3.cell? ⟨ab, 4, none⟩ = some (.string s) := Lib.cell_of_heap O4.out.a12 4; have A53 : w3.cell? ⟨ab, 5, none⟩ = some (.int .i64 X) := Lib.cell_of_heap O4.out.a12 5; have A63 : w3.cell? ⟨ab, 6, none⟩ = some (.slice none 0 0) := Lib.cell_of_heap O4.out.a12 6; have A73 : w3.cell? ⟨ab, 7, none⟩ = some (.bool false) := Lib.cell_of_heap O4.out.a12 7; have A83 : w3.cell? ⟨ab, 8, none⟩ = some (.int .i64 0) := Lib.cell_of_heap O4.out.a12 8; have Y03 : w3.cell? ⟨zb, 0, none⟩ = some (.int .i64 0) := Lib.cell_of_heap O4.out.z10 0; have Y13 : w3.cell? ⟨zb, 1, none⟩ = some (.int .i64 0) := Lib.cell_of_heap O4.out.z10 1; have Y23 : w3.cell? ⟨zb, 2, none⟩ = some (.int .i64 0) := Lib.cell_of_heap O4.out.z10 2; have Y33 : w3.cell? ⟨zb, 3, none⟩ = some (.int .i64 0) := Lib.cell_of_heap O4.out.z10 3; have Y43 : w3.cell? ⟨zb, 4, none⟩ = some (.string ⟨#[]⟩) := Lib.cell_of_heap O4.out.z10 4; have Y53 : w3.cell? ⟨zb, 5, none⟩ = some (.int .i64 0) := Lib.cell_of_heap O4.out.z10 5; have Y63 : w3.cell? ⟨zb, 6, none⟩ = some (.slice none 0 0) := Lib.cell_of_heap O4.out.z10 6; have Y73 : w3.cell? ⟨zb, 7, none⟩ = some (.bool false) := Lib.cell_of_heap O4.out.z10 7; have Y83 : w3.cell? ⟨zb, 8, none⟩ = some (.int .i64 0) := Lib.cell_of_heap O4.out.z10 8; have FZ3 : ∀ i, w3.frozen? ⟨zb, i, none⟩ = false := (fun i => Lib.frozen_of_heap O4.out.z10 i); have FA3 : ∀ i, w3.frozen? ⟨ab, i, none⟩ = false := (fun i => Lib.frozen_of_heap O4.out.a12 i); clear b3)
          refine bodyPost_ret (v := .tuple #[.agg #[.int .i64 5, .int .i64 ri, .int .i64 rj, .int .i64 y1, .string s, .int .i64 X, .slice none 0 0, .bool false, .int .i64 0], .bool true]) (by simp [results, Try.results43, go_sem, Y03, Y13, Y23, Y33, Y43, Y53, Y63, Y73, Y83, hza, hza.symm]) rfl ⟨⟨5, ri, rj, y1, s, X, ?_, ?_⟩, ((((((((((O4.out.bl.setCell (by show w.heap.size ≤ ab; omega) _).setCell (by show w.heap.size ≤ zb; omega) _).setCell (by show w.heap.size ≤ zb; omega) _).setCell (by show w.heap.size ≤ zb; omega) _).setCell (by show w.heap.size ≤ zb; omega) _).setCell (by show w.heap.size ≤ zb; omega) _).setCell (by show w.heap.size ≤ zb; omega) _).setCell (by show w.heap.size ≤ zb; omega) _).setCell (by show w.heap.size ≤ zb; omega) _).setCell (by show w.heap.size ≤ zb; omega) _)⟩
          · have hfn : findM ⟨F, ti, ts⟩ ri rj xs 2 = some (5, (y1 : Int), X) := by
              show (xs.find? (abrB F)).map _ = _
              rw [find_some' (abrB F) default xs k hlt (by rw [HX.out]; exact NP.out) NX.out, HX.out]
              show some ((5 : Int), (((F X).getD noSrc).1 : Int), X) = _
              rw [HSX.out]
              rfl
            rw [hfn]
            rfl
          · intro a ha
            have hfn : findM ⟨F, ti, ts⟩ ri rj xs 2 = some (5, (y1 : Int), X) := by
              show (xs.find? (abrB F)).map _ = _
              rw [find_some' (abrB F) default xs k hlt (by rw [HX.out]; exact NP.out) NX.out, HX.out]
              show some ((5 : Int), (((F X).getD noSrc).1 : Int), X) = _
              rw [HSX.out]
              rfl
            rw [hfn] at ha
            injection ha with ha
            subst ha
            exact ⟨rfl, rfl, rfl, rfl, rfl, rfl⟩
    · have hke : k = xs.length := by omega
      have hlti : ¬ (k : Int) < xs.length := by omega
      subst hke
      have hOn2 := hOn
      have HOn := hid hOn
      have y0 := Lib.cell_of_heap hOn2.z10 0
      have y1 := Lib.cell_of_heap hOn2.z10 1
      have y2 := Lib.cell_of_heap hOn2.z10 2
      have y3 := Lib.cell_of_heap hOn2.z10 3
      have y4 := Lib.cell_of_heap hOn2.z10 4
      have y5 := Lib.cell_of_heap hOn2.z10 5
      have y6 := Lib.cell_of_heap hOn2.z10 6
      have y7 := Lib.cell_of_heap hOn2.z10 7
      have y8 := Lib.cell_of_heap hOn2.z10 8
      simp only [List.getElem?_toArray, List.getElem?_cons_zero, List.getElem?_cons_succ] at y0 y1 y2 y3 y4 y5 y6 y7 y8
      have fz : ∀ i, wr.frozen? ⟨zb, i, none⟩ = false := fun i => Lib.frozen_of_heap hOn2.z10 i
      clear hOn hOn2 SR
      have hfn := show findM ⟨F, ti, ts⟩ ri rj xs 2 = none from (by show (xs.find? (abrB F)).map _ = _; rw [find_none' (abrB F) default xs NX.out]; rfl)
      have HFN := hid hfn
      clear hfn
      go_wp2_with fail
      rw [Tx.setCell_self y0, Tx.setCell_self y1, Tx.setCell_self y2, Tx.setCell_self y3, Tx.setCell_self y4, Tx.setCell_self y5, Tx.setCell_self y6, Tx.setCell_self y7, Tx.setCell_self y8]
      refine bodyPost_ret (v := .tuple #[.agg #[.int .i64 0, .int .i64 0, .int .i64 0, .int .i64 0, .string ⟨#[]⟩, .int .i64 0, .slice none 0 0, .bool false, .int .i64 0], .bool false]) (by simp [results, Try.results43, go_sem, y0, y1, y2, y3, y4, y5, y6, y7, y8]) rfl ⟨⟨0, 0, 0, 0, ⟨#[]⟩, 0, ?_, ?_⟩, HOn.out.bl⟩
      · rw [HFN.out]
        rfl
      · intro a ha
        rw [HFN.out] at ha
        exact absurd ha (by simp)
end Go.Proofs.Ytnfbcmnlloipiaa
namespace Go.Proofs.Ytnfbcmnlloipiaa
set_option linter.unusedVariables false
set_option linter.unusedSimpArgs false
open Go.RowKit Go.Lib Go.Maps Go.Sort
open Tx (MTxn info_parts RowsIn.cells RowCells TxnRow TxnsIn)

/-- The read ends inside of what another transaction wrote. -/
def midB (F : Int → Option MSrc) (ri : Nat) (xs : List Int) (j : Nat) : Bool := decide (j + 1 = xs.length) && (match F (xs.getD j default) with
  | none => false
  | some y => !(y.2.2.2 || decide (y.1 = ri)))
theorem mid_none (F : Int → Option MSrc) (ti : Nat) (ts : List Int) (ri rj : Nat) (xs : List Int) (h : ∀ j, j < xs.length → midB F ri xs j = false) : findM ⟨F, ti, ts⟩ ri rj xs 3 = none := by
  show (if xs.length = 0 then none else _) = none
  by_cases h0 : xs.length = 0
  · rw [if_pos h0]
  · rw [if_neg h0]
    have := h (xs.length - 1) (by omega)
    unfold midB at this
    rw [decide_eq_true (by omega), Bool.true_and] at this
    cases hF : F (xs.getD (xs.length - 1) default) with
    | none => simp only [hF]
    | some y =>
      rw [hF] at this
      simp only [hF]
      simp only [Bool.not_eq_false', Bool.or_eq_true, decide_eq_true_eq] at this
      rw [if_pos this]
set_option maxHeartbeats 8000000 in
set_option maxRecDepth 100000 in
theorem one_6 (w : World) (v : Value) (l : List MTxn) (s : ByteArray) (ri rj : Nat) (la : Option Addr) (lc : Nat) (xs : List Int) (ti tj : Nat) (ta : Option Addr) (tc : Nat) (ts : List Int) (h : TxnsIn Any w v l) (hG : Good l) (hu : uniqN (notes l l.length)) (hin : IntsIn Any w (.slice la xs.length lc) xs) (hxl : xs.length ≤ 100000) :
    Calls Try.prog 43 #[v, .string s, .int .i64 6, .agg #[.int .i64 ri, .int .i64 rj, .slice la xs.length lc], .agg #[.int .i64 ti, .int .i64 tj, .slice ta ts.length tc]] w fun e w' => OneP s ri rj (findM ⟨srcN l s (notes l l.length), ti, ts⟩ ri rj xs 3) e ∧ Below w.heap.size w w' := by
  have WT : Hid (∀ W, Below w.heap.size w W → ∀ x, Calls Try.prog 47 #[v, .string s, .int .i64 x] W fun e w' => e = .returned (.tuple #[.agg #[.int .i64 ((srcN l s (notes l l.length) x).getD noSrc).1, .int .i64 ((srcN l s (notes l l.length) x).getD noSrc).2.1], .bool (srcN l s (notes l l.length) x).isSome]) ∧ Below W.heap.size W w') := fun W hb x => writer_is W v l s x (h.below hb) hG hu
  have HS : Hid (∀ x y, srcN l s (notes l l.length) x = some y → y = srcOf l (y.1, y.2.1, default) ∧ y.1 < l.length) := fun x y hy => by
    obtain ⟨z, hz, _, rfl⟩ := src_mem hy
    exact ⟨rfl, (notes_at _ hz).1⟩
  have FNL : Hid (∀ W, Below w.heap.size w W → ∀ n i : Nat, n < l.length → Calls Try.prog 77 #[v, .agg #[.int .i64 (n : Int), .int .i64 (i : Int)]] W fun e w' => e = .returned (.bool (finB (l.getD n default).ops i)) ∧ Below W.heap.size W w') := fun W hb n i hn => by
    refine (rfinal_is W v l n i (h.below hb) hG.len hG.ten).mono ?_
    rintro e w' ⟨f, rfl, hf, hb'⟩
    have : f = finB (l.getD n default).ops i := by
      rw [Bool.eq_iff_iff, hf, finB_is]
      unfold finL
      constructor
      · intro hh
        simpa using hh.2.2.2
      · intro hh
        exact ⟨by omega, by omega, by omega, by simpa using hh⟩
    rw [this]
    exact ⟨rfl, hb'⟩
  obtain ⟨a1, c1, rfl, hrow⟩ := RowsIn.cells h (by omega)
  obtain ⟨_, hrow⟩ := hrow
  have HROW := hid hrow
  have HT := hid h
  have HG := hid hG
  have HIN := hid hin
  have hxli : (xs.length : Int) ≤ 100000 := by omega
  have S0 := hid (on_start w ri rj la xs.length lc ti tj ta ts.length tc 6 s)
  clear h hG hu hin hrow
  generalize hF : srcN l s (notes l l.length) = F at *
  have HF := hid hF
  clear hF
  go_enter Try.func43, Try.ntmps43
  go_wp2_with fail
  generalize hab : w.heap.size + 1 + 1 + 1 = ab at *
  generalize hzb : w.heap.size + 1 + 1 = zb at *
  generalize (((w.alloc (.cells #[.int .i64 ri, .int .i64 rj, .slice la xs.length lc] 87)).alloc (.cells #[.int .i64 ti, .int .i64 tj, .slice ta ts.length tc] 87)).alloc (.cells #[.int .i64 0, .int .i64 0, .int .i64 0, .int .i64 0, .string ⟨#[]⟩, .int .i64 0, .slice none 0 0, .bool false, .int .i64 0] 85)).alloc (.cells #[.int .i64 6, .int .i64 ri, .int .i64 rj, .int .i64 0, .string s, .int .i64 0, .slice none 0 0, .bool false, .int .i64 0] 85) = W0 at *
  have hza : zb ≠ ab := by omega
  have hra : w.heap.size < ab := by omega
  have hrz : w.heap.size < zb := by omega
  go_loopg [13, 14, 15, 16, 18, 41] xs.length (fun gg _ _ _ _ _ i wr => ∃ k : Nat, k ≤ xs.length ∧ xs.length - k ≤ gg ∧ i = .int .i64 k ∧ Aside (∃ x, On w zb ab ri rj la xs.length lc 6 s x wr) ∧ Aside (∀ j, j < k → midB F ri xs j = false))
  case atStart => exact ⟨0, Nat.zero_le _, by omega, rfl, ⟨_, S0.out⟩, fun j hj => by omega⟩
  case round =>
    obtain ⟨k, hk, hgk, rfl, SR, NX⟩ := hrel
    obtain ⟨x0, hOn⟩ := SR.out
    by_cases hlt : k < xs.length
    · have hlti : (k : Int) < xs.length := by omega
      obtain ⟨ao, c', hv, _, hcs⟩ := id HIN.out
      cases hv
      obtain ⟨lb, lo, rfl, _, hcell⟩ := hcs (by omega)
      have xk := (hOn.bl.cell (p := ⟨lb, lo + k, none⟩) (World.block_lt_of_cell? _ _ (hcell k hlt))).trans (hcell k hlt)
      obtain ⟨X, hX⟩ : ∃ X, xs.getD k default = X := ⟨_, rfl⟩
      rw [hX] at xk
      have HX := hid hX
      have a5 : wr.cell? ⟨ab, 5, none⟩ = some (.int .i64 x0) := Lib.cell_of_heap hOn.a12 5
      have f5 : wr.frozen? ⟨ab, 5, none⟩ = false := Lib.frozen_of_heap hOn.a12 5
      have r2 : wr.cell? ⟨w.heap.size, 2, none⟩ = some (.slice (some ⟨lb, lo, none⟩) xs.length lc) := Lib.cell_of_heap hOn.r8 2
      have O1 := hid (hOn.set hza hra X)
      have HOn := hid hOn
      have WTk := hid (WT.out _ O1.out.bl X)
      clear hcs hcell hX hOn SR
      obtain ⟨y, hy⟩ : ∃ y, (F X).getD noSrc = y := ⟨_, rfl⟩
      obtain ⟨q, hq⟩ : ∃ q, (F X).isSome = q := ⟨_, rfl⟩
      rw [hy, hq] at WTk
      obtain ⟨y1, y2, y3, y4⟩ := y
      simp only at WTk
      have HY := hid hy
      have HQ := hid hq
      clear hy hq
      go_upto_region 10 with (go_at_call 47; refine WTk.out.mono ?_; rintro e w1 ⟨rfl, b1⟩; have O2 := hid (O1.out.later b1); clear b1)
      have O3 := hid (O2.out.later (below_box w1 (.cells #[.int .i64 y1, .int .i64 y2] 54)))
      have PB := hid (heap_alloc_new w1 (.cells #[.int .i64 y1, .int .i64 y2] 54))
      clear a5 f5 r2 xk O1 O2 WTk HOn
      generalize w1.alloc (.cells #[.int .i64 y1, .int .i64 y2] 54) = W2 at *
      generalize w1.heap.size = pb at *
      have P0 : W2.cell? ⟨pb, 0, none⟩ = some (.int .i64 y1) := Lib.cell_of_heap PB.out 0
      have P1 : W2.cell? ⟨pb, 1, none⟩ = some (.int .i64 y2) := Lib.cell_of_heap PB.out 1
      have R0 : W2.cell? ⟨w.heap.size, 0, none⟩ = some (.int .i64 ri) := Lib.cell_of_heap O3.out.r8 0
      have R1 : W2.cell? ⟨w.heap.size, 1, none⟩ = some (.int .i64 rj) := Lib.cell_of_heap O3.out.r8 1
      have R2 : W2.cell? ⟨w.heap.size, 2, none⟩ = some (.slice (some ⟨lb, lo, none⟩) xs.length lc) := Lib.cell_of_heap O3.out.r8 2
      by_cases hkl : k + 1 = xs.length
      · have hkb : ((k : Int) == (xs.length : Int) - 1) = true := by rw [beq_iff_eq]; omega
        cases hS : F X with
        | none =>
          have e1 := HY.out
          have e2 := HQ.out
          rw [hS] at e1 e2
          cases e1
          cases e2
          have NP : Hid (midB F ri xs k = false) := by show _ = _; simp only [midB, HX.out, hS]; simp
          clear hS
          go_wp2_with fail
          go_roundg (xs.length - (k + 1))
          case measure => omega
          case rel => exact ⟨k + 1, by omega, by omega, by go_num, ⟨X, O3.out⟩, (fun j hj => by by_cases e : j = k; (· rw [e]; exact NP.out); (· exact NX.out j (by omega)))⟩
        | some y =>
          have e1 := HY.out
          have e2 := HQ.out
          rw [hS] at e1 e2
          cases e1
          cases e2
          obtain ⟨hy, hy1⟩ := HS.out X _ hS
          simp only at hy1 hy
          have HSX := hid hS
          have hy4 : y4 = finB (l.getD y1 default).ops y2 := by injection hy with _ hy; injection hy with _ hy; injection hy
          have FN := hid (fun W hb => FNL.out W hb y1 y2 hy1)
          rw [← hy4] at FN
          clear hy hy4 hS
          by_cases he : y1 = ri
          · have heb : ((y1 : Int) == (ri : Int)) = true := by rw [beq_iff_eq]; omega
            have NP : Hid (midB F ri xs k = false) := by show _ = _; simp only [midB, HX.out, HSX.out]; simp [he]
            go_wp2_with fail
            go_roundg (xs.length - (k + 1))
            case measure => omega
            case rel => exact ⟨k + 1, by omega, by omega, by go_num, ⟨X, O3.out⟩, (fun j hj => by by_cases e : j = k; (· rw [e]; exact NP.out); (· exact NX.out j (by omega)))⟩
          · have heb : ((y1 : Int) == (ri : Int)) = false := by rw [beq_eq_false_iff_ne]; omega
            cases y4 with
            | true =>
              have NP : Hid (midB F ri xs k = false) := by show _ = _; simp only [midB, HX.out, HSX.out]; simp
              go_wp2_with (go_at_call 77; refine (FN.out _ O3.out.bl).mono ?_; rintro e w3 ⟨rfl, b3⟩; have O4 := hid (O3.out.later b3); have Q0 : w3.cell? ⟨pb, 0, none⟩ = some (.int .i64 y1) := (b3.cell (p := ⟨pb, 0, none⟩) (blt PB.out)).trans P0; clear b3)
              go_roundg (xs.length - (k + 1))
              case measure => omega
              case rel => exact ⟨k + 1, by omega, by omega, by go_num, ⟨X, O4.out⟩, (fun j hj => by by_cases e : j = k; (· rw [e]; exact NP.out); (· exact NX.out j (by omega)))⟩
            | false =>
              go_wp2_with (go_at_call 77; refine (FN.out _ O3.out.bl).mono ?_; rintro e w3 ⟨rfl, b3⟩; have O4 := hid (O3.out.later b3); have Q0 : w3.cell? ⟨pb, 0, none⟩ = some (.int .i64 y1) := (b3.cell (p := ⟨pb, 0, none⟩) (blt PB.out)).trans P0; have A03 : w3.cell? ⟨ab, 0, none⟩ = some (.int .i64 6) := Lib.cell_of_heap O4.out.a12 0; have A13 : w3.cell? ⟨ab, 1, none⟩ = some (.int .i64 ri) := Lib.cell_of_heap O4.out.a12 1; have A23 : w3.cell? ⟨ab, 2, none⟩ = some (.int .i64 rj) := Lib.cell_of_heap O4.out.a12 2; have A33 : w3.cell? ⟨ab, 3, none⟩ = some (.int .i64 0) := Lib.cell_of_heap O4.out.a12 3; have A43 : w3.cell? ⟨ab, 4, none⟩ = some (.string s) := Lib.cell_of_heap O4.out.a12 4; have A53 : w3.cell? ⟨ab, 5, none⟩ = some (.int .i64 X) := Lib.cell_of_heap O4.out.a12 5; have A63 : w3.cell? ⟨ab, 6, none⟩ = some (.slice none 0 0) := Lib.cell_of_heap O4.out.a12 6; have A73 : w3.cell? ⟨ab, 7, none⟩ = some (.bool false) := Lib.cell_of_heap O4.out.a12 7; have A83 : w3.cell? ⟨ab, 8, none⟩ = some (.int .i64 0) := Lib.cell_of_heap O4.out.a12 8; have Y03 : w3.cell? ⟨zb, 0, none⟩ = some (.int .i64 0) := Lib.cell_of_heap O4.out.z10 0; have Y13 : w3.cell? ⟨zb, 1, none⟩ = some (.int .i64 0) := Lib.cell_of_heap O4.out.z10 1; have Y23 : w3.cell? ⟨zb, 2, none⟩ = some (.int .i64 0) := Lib.cell_of_heap O4.out.z10 2; have Y33 : w3.cell? ⟨zb, 3, none⟩ = some (.int .i64 0) := Lib.cell_of_heap O4.out.z10 3; have Y43 : w3.cell? ⟨zb, 4, none⟩ = some (.string ⟨#[]⟩) := Lib.cell_of_heap O4.out.z10 4; have Y53 : w3.cell? ⟨zb, 5, none⟩ = some (.int .i64 0) := Lib.cell_of_heap O4.out.z10 5; have Y63 : w3.cell? ⟨zb, 6, none⟩ = some (.slice none 0 0) := Lib.cell_of_heap O4.out.z10 6; have Y73 : w3.cell? ⟨zb, 7, none⟩ = some (.bool false) := Lib.cell_of_heap O4.out.z10 7; have Y83 : w3.cell? ⟨zb, 8, none⟩ = some (.int .i64 0) := Lib.cell_of_heap O4.out.z10 8; have FZ3 : ∀ i, w3.frozen? ⟨zb, i, none⟩ = false := (fun i => Lib.frozen_of_heap O4.out.z10 i); have FA3 : ∀ i, w3.frozen? ⟨ab, i, none⟩ = false := (fun i => Lib.frozen_of_heap O4.out.a12 i); clear b3)
              refine bodyPost_ret (v := .tuple #[.agg #[.int .i64 6, .int .i64 ri, .int .i64 rj, .int .i64 y1, .string s, .int .i64 X, .slice none 0 0, .bool false, .int .i64 0], .bool true]) (by simp [results, Try.results43, go_sem, Y03, Y13, Y23, Y33, Y43, Y53, Y63, Y73, Y83, hza, hza.symm]) rfl ⟨⟨6, ri, rj, y1, s, X, ?_, ?_⟩, ((((((((((O4.out.bl.setCell (by show w.heap.size ≤ ab; omega) _).setCell (by show w.heap.size ≤ zb; omega) _).setCell (by show w.heap.size ≤ zb; omega) _).setCell (by show w.heap.size ≤ zb; omega) _).setCell (by show w.heap.size ≤ zb; omega) _).setCell (by show w.heap.size ≤ zb; omega) _).setCell (by show w.heap.size ≤ zb; omega) _).setCell (by show w.heap.size ≤ zb; omega) _).setCell (by show w.heap.size ≤ zb; omega) _).setCell (by show w.heap.size ≤ zb; omega) _)⟩
              · have hfn : findM ⟨F, ti, ts⟩ ri rj xs 3 = some (6, (y1 : Int), X) := by
                  have e1 : xs.length - 1 = k := by omega
                  have e0 : ¬ xs.length = 0 := by omega
                  simp only [findM, e0, if_false, e1, HX.out, HSX.out]
                  rw [if_neg (by simp [he])]
                rw [hfn]
                rfl
              · intro a ha
                have hfn : findM ⟨F, ti, ts⟩ ri rj xs 3 = some (6, (y1 : Int), X) := by
                  have e1 : xs.length - 1 = k := by omega
                  have e0 : ¬ xs.length = 0 := by omega
                  simp only [findM, e0, if_false, e1, HX.out, HSX.out]
                  rw [if_neg (by simp [he])]
                rw [hfn] at ha
                injection ha with ha
                subst ha
                exact ⟨rfl, rfl, rfl, rfl, rfl, rfl⟩
      · have hkb : ((k : Int) == (xs.length : Int) - 1) = false := by rw [beq_eq_false_iff_ne]; omega
        have NP : Hid (midB F ri xs k = false) := by show _ = _; simp [midB, hkl]
        go_wp2_with fail
        go_roundg (xs.length - (k + 1))
        case measure => omega
        case rel => exact ⟨k + 1, by omega, by omega, by go_num, ⟨X, O3.out⟩, (fun j hj => by by_cases e : j = k; (· rw [e]; exact NP.out); (· exact NX.out j (by omega)))⟩
    · have hke : k = xs.length := by omega
      have hlti : ¬ (k : Int) < xs.length := by omega
      subst hke
      have hOn2 := hOn
      have HOn := hid hOn
      have y0 := Lib.cell_of_heap hOn2.z10 0
      have y1 := Lib.cell_of_heap hOn2.z10 1
      have y2 := Lib.cell_of_heap hOn2.z10 2
      have y3 := Lib.cell_of_heap hOn2.z10 3
      have y4 := Lib.cell_of_heap hOn2.z10 4
      have y5 := Lib.cell_of_heap hOn2.z10 5
      have y6 := Lib.cell_of_heap hOn2.z10 6
      have y7 := Lib.cell_of_heap hOn2.z10 7
      have y8 := Lib.cell_of_heap hOn2.z10 8
      simp only [List.getElem?_toArray, List.getElem?_cons_zero, List.getElem?_cons_succ] at y0 y1 y2 y3 y4 y5 y6 y7 y8
      have fz : ∀ i, wr.frozen? ⟨zb, i, none⟩ = false := fun i => Lib.frozen_of_heap hOn2.z10 i
      clear hOn hOn2 SR
      have hfn := show findM ⟨F, ti, ts⟩ ri rj xs 3 = none from (mid_none F ti ts ri rj xs NX.out)
      have HFN := hid hfn
      clear hfn
      go_wp2_with fail
      rw [Tx.setCell_self y0, Tx.setCell_self y1, Tx.setCell_self y2, Tx.setCell_self y3, Tx.setCell_self y4, Tx.setCell_self y5, Tx.setCell_self y6, Tx.setCell_self y7, Tx.setCell_self y8]
      refine bodyPost_ret (v := .tuple #[.agg #[.int .i64 0, .int .i64 0, .int .i64 0, .int .i64 0, .string ⟨#[]⟩, .int .i64 0, .slice none 0 0, .bool false, .int .i64 0], .bool false]) (by simp [results, Try.results43, go_sem, y0, y1, y2, y3, y4, y5, y6, y7, y8]) rfl ⟨⟨0, 0, 0, 0, ⟨#[]⟩, 0, ?_, ?_⟩, HOn.out.bl⟩
      · rw [HFN.out]
        rfl
      · intro a ha
        rw [HFN.out] at ha
        exact absurd ha (by simp)
end Go.Proofs.Ytnfbcmnlloipiaa
