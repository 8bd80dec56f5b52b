/-
  A value that stood in the read before, as the document finds it.
  Two lists of which none begins the other, as the document finds them.
  The document's anomaly of a read, of each kind; its order of a transaction's own values.
  The document's order of a transaction's own values.
  The document's anomalies of a list.
-/
import Derived.Test.YtnfbcmnlloipiaaK15
import Derived.Deep.RegionHeld3
import Derived.Test.YtnfbcmnlloipiaaK16
namespace Go.Proofs.Ytnfbcmnlloipiaa
set_option linter.unusedVariables false
set_option linter.unusedSimpArgs false
open Go.RowKit Go.Lib Go.Maps Go.Sort
open Tx (MTxn info_parts RowsIn.cells RowCells TxnRow TxnsIn)

theorem rng_get (n j : Nat) (h : j < n) : (List.range n).getD j 0 = j := by simp [List.getD, h]
theorem rng_find (p : Nat → Bool) (n k : Nat) (hk : k < n) (h1 : p k = true) (h2 : ∀ j, j < k → p j = false) : (List.range n).find? p = some k := by
  rw [find_some' p 0 (List.range n) k (by simpa using hk) (by rw [rng_get n k hk]; exact h1) (fun j hj => by rw [rng_get n j (by omega)]; exact h2 j hj), rng_get n k hk]
theorem rng_none (p : Nat → Bool) (n : Nat) (h : ∀ j, j < n → p j = false) : (List.range n).find? p = none := find_none' p 0 _ (fun j hj => by
  have hj' : j < n := by simpa using hj
  rw [rng_get n j hj']
  exact h j hj')
theorem tw_yes (xs : List Int) (k q : Nat) (hq : q < k) (hk : k < xs.length) (h : xs.getD q default = xs.getD k default) : twB xs k = true := by
  unfold twB cntK
  rw [decide_eq_true_eq, ← h]
  refine List.count_pos_iff.2 ?_
  rw [List.mem_iff_getElem]
  exact ⟨q, by simp; omega, by simp [List.getD, List.getElem?_eq_getElem (show q < xs.length by omega)]⟩
theorem tw_no (xs : List Int) (k : Nat) (h : ∀ j, j < k → xs.getD j default ≠ xs.getD k default) : twB xs k = false := by
  unfold twB cntK
  rw [decide_eq_false_iff_not]
  intro c
  obtain ⟨j, hj, e⟩ := List.mem_iff_getElem.1 (List.count_pos_iff.1 c)
  have hj1 : j < min k xs.length := by simpa using hj
  have hj2 : j < k ∧ j < xs.length := by omega
  refine h j hj2.1 ?_
  rw [← e]
  simp [List.getD, List.getElem?_eq_getElem hj2.2]
set_option maxHeartbeats 8000000 in
set_option maxRecDepth 100000 in
theorem one_3 (w : World) (v : Value) (l : List MTxn) (s : ByteArray) (ri rj : Nat) (la : Option Addr) (lc : Nat) (xs : List Int) (ti tj : Nat) (ta : Option Addr) (tc : Nat) (ts : List Int) (h : TxnsIn Any w v l) (hG : Good l) (hu : uniqN (notes l l.length)) (hin : IntsIn Any w (.slice la xs.length lc) xs) (hxl : xs.length ≤ 100000) :
    Calls Try.prog 43 #[v, .string s, .int .i64 3, .agg #[.int .i64 ri, .int .i64 rj, .slice la xs.length lc], .agg #[.int .i64 ti, .int .i64 tj, .slice ta ts.length tc]] w fun e w' => OneP s ri rj (findM ⟨srcN l s (notes l l.length), ti, ts⟩ ri rj xs 0) e ∧ Below w.heap.size w w' := by
  have WT : Hid (∀ W, Below w.heap.size w W → ∀ x, Calls Try.prog 47 #[v, .string s, .int .i64 x] W fun e w' => e = .returned (.tuple #[.agg #[.int .i64 ((srcN l s (notes l l.length) x).getD noSrc).1, .int .i64 ((srcN l s (notes l l.length) x).getD noSrc).2.1], .bool (srcN l s (notes l l.length) x).isSome]) ∧ Below W.heap.size W w') := fun W hb x => writer_is W v l s x (h.below hb) hG hu
  have HS : Hid (∀ x y, srcN l s (notes l l.length) x = some y → y = srcOf l (y.1, y.2.1, default) ∧ y.1 < l.length) := fun x y hy => by
    obtain ⟨z, hz, _, rfl⟩ := src_mem hy
    exact ⟨rfl, (notes_at _ hz).1⟩
  obtain ⟨a1, c1, rfl, hrow⟩ := RowsIn.cells h (by omega)
  obtain ⟨_, hrow⟩ := hrow
  have HROW := hid hrow
  have HT := hid h
  have HG := hid hG
  have HIN := hid hin
  have hxli : (xs.length : Int) ≤ 100000 := by omega
  have S0 := hid (on_start w ri rj la xs.length lc ti tj ta ts.length tc 3 s)
  clear h hG hu hin hrow
  generalize hF : srcN l s (notes l l.length) = F at *
  have HF := hid hF
  clear hF
  go_enter Try.func43, Try.ntmps43
  go_wp2_with fail
  generalize hab : w.heap.size + 1 + 1 + 1 = ab at *
  generalize hzb : w.heap.size + 1 + 1 = zb at *
  generalize (((w.alloc (.cells #[.int .i64 ri, .int .i64 rj, .slice la xs.length lc] 87)).alloc (.cells #[.int .i64 ti, .int .i64 tj, .slice ta ts.length tc] 87)).alloc (.cells #[.int .i64 0, .int .i64 0, .int .i64 0, .int .i64 0, .string ⟨#[]⟩, .int .i64 0, .slice none 0 0, .bool false, .int .i64 0] 85)).alloc (.cells #[.int .i64 3, .int .i64 ri, .int .i64 rj, .int .i64 0, .string s, .int .i64 0, .slice none 0 0, .bool false, .int .i64 0] 85) = W0 at *
  have hza : zb ≠ ab := by omega
  have hra : w.heap.size < ab := by omega
  have hrz : w.heap.size < zb := by omega
  go_loopg [13, 14, 15, 16, 18, 41] xs.length (fun gg _ _ _ _ _ i wr => ∃ k : Nat, k ≤ xs.length ∧ xs.length - k ≤ gg ∧ i = .int .i64 k ∧ Aside (∃ x, On w zb ab ri rj la xs.length lc 3 s x wr) ∧ Aside (∀ j, j < k → twB xs j = false))
  case atStart => exact ⟨0, Nat.zero_le _, by omega, rfl, ⟨_, S0.out⟩, fun j hj => by omega⟩
  case round =>
    obtain ⟨k, hk, hgk, rfl, SR, NX⟩ := hrel
    obtain ⟨x0, hOn⟩ := SR.out
    by_cases hlt : k < xs.length
    · have hlti : (k : Int) < xs.length := by omega
      obtain ⟨ao, c', hv, _, hcs⟩ := id HIN.out
      cases hv
      obtain ⟨lb, lo, rfl, _, hcell⟩ := hcs (by omega)
      have xk := (hOn.bl.cell (p := ⟨lb, lo + k, none⟩) (World.block_lt_of_cell? _ _ (hcell k hlt))).trans (hcell k hlt)
      obtain ⟨X, hX⟩ : ∃ X, xs.getD k default = X := ⟨_, rfl⟩
      rw [hX] at xk
      have HX := hid hX
      have a5 : wr.cell? ⟨ab, 5, none⟩ = some (.int .i64 x0) := Lib.cell_of_heap hOn.a12 5
      have f5 : wr.frozen? ⟨ab, 5, none⟩ = false := Lib.frozen_of_heap hOn.a12 5
      have r2 : wr.cell? ⟨w.heap.size, 2, none⟩ = some (.slice (some ⟨lb, lo, none⟩) xs.length lc) := Lib.cell_of_heap hOn.r8 2
      have O1 := hid (hOn.set hza hra X)
      have HOn := hid hOn
      have WTk := hid (WT.out _ O1.out.bl X)
      clear hcs hcell hX hOn SR
      obtain ⟨y, hy⟩ : ∃ y, (F X).getD noSrc = y := ⟨_, rfl⟩
      obtain ⟨q, hq⟩ : ∃ q, (F X).isSome = q := ⟨_, rfl⟩
      rw [hy, hq] at WTk
      obtain ⟨y1, y2, y3, y4⟩ := y
      simp only at WTk
      have HY := hid hy
      have HQ := hid hq
      clear hy hq
      go_upto_region 10 with (go_at_call 47; refine WTk.out.mono ?_; rintro e w1 ⟨rfl, b1⟩; have O2 := hid (O1.out.later b1); clear b1)
      have O3 := hid (O2.out.later (below_box w1 (.cells #[.int .i64 y1, .int .i64 y2] 54)))
      have PB := hid (heap_alloc_new w1 (.cells #[.int .i64 y1, .int .i64 y2] 54))
      clear a5 f5 r2 xk O1 O2 WTk HOn
      generalize w1.alloc (.cells #[.int .i64 y1, .int .i64 y2] 54) = W2 at *
      generalize w1.heap.size = pb at *
      have P0 : W2.cell? ⟨pb, 0, none⟩ = some (.int .i64 y1) := Lib.cell_of_heap PB.out 0
      have P1 : W2.cell? ⟨pb, 1, none⟩ = some (.int .i64 y2) := Lib.cell_of_heap PB.out 1
      have R0 : W2.cell? ⟨w.heap.size, 0, none⟩ = some (.int .i64 ri) := Lib.cell_of_heap O3.out.r8 0
      have R1 : W2.cell? ⟨w.heap.size, 1, none⟩ = some (.int .i64 rj) := Lib.cell_of_heap O3.out.r8 1
      have R2 : W2.cell? ⟨w.heap.size, 2, none⟩ = some (.slice (some ⟨lb, lo, none⟩) xs.length lc) := Lib.cell_of_heap O3.out.r8 2
      have LC : Hid (∀ q, q < xs.length → W2.cell? ⟨lb, lo + q, none⟩ = some (.int .i64 (xs.getD q default))) := fun q hq => by
        obtain ⟨ao, c', hv, _, hcs⟩ := id HIN.out
        cases hv
        obtain ⟨lb', lo', hl, _, hcell⟩ := hcs (by omega)
        cases hl
        exact (O3.out.bl.cell (p := ⟨lb, lo + q, none⟩) (World.block_lt_of_cell? _ _ (hcell q hq))).trans (hcell q hq)
      have hkc : (k : Int) ≤ lc := by
        obtain ⟨ao, c', hv, hcc, _⟩ := id HIN.out
        cases hv
        omega
      go_wp2_with fail
      go_loopg [18, 63] k (fun gg _ i wi => ∃ q : Nat, q ≤ k ∧ k - q ≤ gg ∧ i = .int .i64 q ∧ Aside (wi = W2) ∧ Aside (∀ j, j < q → xs.getD j default ≠ X))
      case atStart => exact ⟨0, Nat.zero_le _, by omega, rfl, rfl, fun j hj => by omega⟩
      case round =>
        obtain ⟨q, hqk, hgq, rfl, EW, NQ⟩ := hrel
        have ew : wr = W2 := EW.out
        subst ew
        by_cases hq1 : q < k
        · have hq1i : (q : Int) < k := by omega
          have xq := LC.out q (by omega)
          obtain ⟨U, hU⟩ : ∃ U, xs.getD q default = U := ⟨_, rfl⟩
          rw [hU] at xq
          have HU := hid hU
          clear hU
          by_cases hUX : U = X
          · subst hUX
            have hub : (U == U) = true := by simp
            have NP : Hid (twB xs k = true) := tw_yes xs k q hq1 hlt (by rw [HU.out, HX.out])
            have A0 : wr.cell? ⟨ab, 0, none⟩ = some (.int .i64 3) := Lib.cell_of_heap O3.out.a12 0
            have A1 : wr.cell? ⟨ab, 1, none⟩ = some (.int .i64 ri) := Lib.cell_of_heap O3.out.a12 1
            have A2 : wr.cell? ⟨ab, 2, none⟩ = some (.int .i64 rj) := Lib.cell_of_heap O3.out.a12 2
            have A3 : wr.cell? ⟨ab, 3, none⟩ = some (.int .i64 0) := Lib.cell_of_heap O3.out.a12 3
            have A4 : wr.cell? ⟨ab, 4, none⟩ = some (.string s) := Lib.cell_of_heap O3.out.a12 4
            have A5 : wr.cell? ⟨ab, 5, none⟩ = some (.int .i64 U) := Lib.cell_of_heap O3.out.a12 5
            have A6 : wr.cell? ⟨ab, 6, none⟩ = some (.slice none 0 0) := Lib.cell_of_heap O3.out.a12 6
            have A7 : wr.cell? ⟨ab, 7, none⟩ = some (.bool false) := Lib.cell_of_heap O3.out.a12 7
            have A8 : wr.cell? ⟨ab, 8, none⟩ = some (.int .i64 0) := Lib.cell_of_heap O3.out.a12 8
            have Y0 : wr.cell? ⟨zb, 0, none⟩ = some (.int .i64 0) := Lib.cell_of_heap O3.out.z10 0
            have Y1 : wr.cell? ⟨zb, 1, none⟩ = some (.int .i64 0) := Lib.cell_of_heap O3.out.z10 1
            have Y2 : wr.cell? ⟨zb, 2, none⟩ = some (.int .i64 0) := Lib.cell_of_heap O3.out.z10 2
            have Y3 : wr.cell? ⟨zb, 3, none⟩ = some (.int .i64 0) := Lib.cell_of_heap O3.out.z10 3
            have Y4 : wr.cell? ⟨zb, 4, none⟩ = some (.string ⟨#[]⟩) := Lib.cell_of_heap O3.out.z10 4
            have Y5 : wr.cell? ⟨zb, 5, none⟩ = some (.int .i64 0) := Lib.cell_of_heap O3.out.z10 5
            have Y6 : wr.cell? ⟨zb, 6, none⟩ = some (.slice none 0 0) := Lib.cell_of_heap O3.out.z10 6
            have Y7 : wr.cell? ⟨zb, 7, none⟩ = some (.bool false) := Lib.cell_of_heap O3.out.z10 7
            have Y8 : wr.cell? ⟨zb, 8, none⟩ = some (.int .i64 0) := Lib.cell_of_heap O3.out.z10 8
            have FZ : ∀ i, wr.frozen? ⟨zb, i, none⟩ = false := (fun i => Lib.frozen_of_heap O3.out.z10 i)
            have FA : ∀ i, wr.frozen? ⟨ab, i, none⟩ = false := (fun i => Lib.frozen_of_heap O3.out.a12 i)
            go_wp2_with fail
            refine bodyPost_ret (v := .tuple #[.agg #[.int .i64 3, .int .i64 ri, .int .i64 rj, .int .i64 0, .string s, .int .i64 U, .slice none 0 0, .bool false, .int .i64 0], .bool true]) (by simp [results, Try.results43, go_sem, Y0, Y1, Y2, Y3, Y4, Y5, Y6, Y7, Y8, hza, hza.symm]) rfl ⟨⟨3, ri, rj, 0, s, U, ?_, ?_⟩, (((((((((O3.out.bl.setCell (by show w.heap.size ≤ zb; omega) _).setCell (by show w.heap.size ≤ zb; omega) _).setCell (by show w.heap.size ≤ zb; omega) _).setCell (by show w.heap.size ≤ zb; omega) _).setCell (by show w.heap.size ≤ zb; omega) _).setCell (by show w.heap.size ≤ zb; omega) _).setCell (by show w.heap.size ≤ zb; omega) _).setCell (by show w.heap.size ≤ zb; omega) _).setCell (by show w.heap.size ≤ zb; omega) _)⟩
            · have hfn : findM ⟨F, ti, ts⟩ ri rj xs 0 = some (3, 0, U) := by
                show ((List.range xs.length).find? (twB xs)).map _ = _
                rw [rng_find (twB xs) xs.length k hlt NP.out NX.out]
                show some ((3 : Int), (0 : Int), xs.getD k default) = _
                rw [HX.out]
              rw [hfn]
              rfl
            · intro a ha
              have hfn : findM ⟨F, ti, ts⟩ ri rj xs 0 = some (3, 0, U) := by
                show ((List.range xs.length).find? (twB xs)).map _ = _
                rw [rng_find (twB xs) xs.length k hlt NP.out NX.out]
                show some ((3 : Int), (0 : Int), xs.getD k default) = _
                rw [HX.out]
              rw [hfn] at ha
              injection ha with ha
              subst ha
              exact ⟨rfl, rfl, rfl, rfl, rfl, rfl⟩
          · have hub : (U == X) = false := by simpa using hUX
            go_wp2_with fail
            go_roundg (k - (q + 1))
            case measure => omega
            case rel => exact ⟨q + 1, by omega, by omega, by go_num, rfl, (fun j hj => by by_cases e : j = q; (· rw [e, HU.out]; exact hUX); (· exact NQ.out j (by omega)))⟩
        · have hqe : q = k := by omega
          have hq1i : ¬ (q : Int) < k := by omega
          subst hqe
          have NP : Hid (twB xs q = false) := tw_no xs q (by rw [HX.out]; exact NQ.out)
          go_wp2_with fail
          go_roundg (xs.length - (q + 1))
          case measure => omega
          case rel => exact ⟨q + 1, by omega, by omega, by go_num, ⟨X, O3.out⟩, (fun j hj => by by_cases e : j = q; (· rw [e]; exact NP.out); (· exact NX.out j (by omega)))⟩
    · have hke : k = xs.length := by omega
      have hlti : ¬ (k : Int) < xs.length := by omega
      subst hke
      have hOn2 := hOn
      have HOn := hid hOn
      have y0 := Lib.cell_of_heap hOn2.z10 0
      have y1 := Lib.cell_of_heap hOn2.z10 1
      have y2 := Lib.cell_of_heap hOn2.z10 2
      have y3 := Lib.cell_of_heap hOn2.z10 3
      have y4 := Lib.cell_of_heap hOn2.z10 4
      have y5 := Lib.cell_of_heap hOn2.z10 5
      have y6 := Lib.cell_of_heap hOn2.z10 6
      have y7 := Lib.cell_of_heap hOn2.z10 7
      have y8 := Lib.cell_of_heap hOn2.z10 8
      simp only [List.getElem?_toArray, List.getElem?_cons_zero, List.getElem?_cons_succ] at y0 y1 y2 y3 y4 y5 y6 y7 y8
      have fz : ∀ i, wr.frozen? ⟨zb, i, none⟩ = false := fun i => Lib.frozen_of_heap hOn2.z10 i
      clear hOn hOn2 SR
      have hfn := show findM ⟨F, ti, ts⟩ ri rj xs 0 = none from (by show ((List.range xs.length).find? (twB xs)).map _ = _; rw [rng_none (twB xs) xs.length NX.out]; rfl)
      have HFN := hid hfn
      clear hfn
      go_wp2_with fail
      rw [Tx.setCell_self y0, Tx.setCell_self y1, Tx.setCell_self y2, Tx.setCell_self y3, Tx.setCell_self y4, Tx.setCell_self y5, Tx.setCell_self y6, Tx.setCell_self y7, Tx.setCell_self y8]
      refine bodyPost_ret (v := .tuple #[.agg #[.int .i64 0, .int .i64 0, .int .i64 0, .int .i64 0, .string ⟨#[]⟩, .int .i64 0, .slice none 0 0, .bool false, .int .i64 0], .bool false]) (by simp [results, Try.results43, go_sem, y0, y1, y2, y3, y4, y5, y6, y7, y8]) rfl ⟨⟨0, 0, 0, 0, ⟨#[]⟩, 0, ?_, ?_⟩, HOn.out.bl⟩
      · rw [HFN.out]
        rfl
      · intro a ha
        rw [HFN.out] at ha
        exact absurd ha (by simp)
end Go.Proofs.Ytnfbcmnlloipiaa
namespace Go.Proofs.Ytnfbcmnlloipiaa
set_option linter.unusedVariables false
set_option linter.unusedSimpArgs false
open Go.RowKit Go.Lib Go.Maps Go.Sort
open Tx (MTxn info_parts RowsIn.cells RowCells TxnRow TxnsIn)

theorem one4_p (s : ByteArray) (ri rj ti : Nat) (F : Int → Option MSrc) (xs ts : List Int) (xn : Nat) (D : Bool) (hF : findM ⟨F, ti, ts⟩ ri rj xs 4 = if xs = ts.take xn then none else some (4, (ti : Int), 0)) (hD : decide (xs = ts.take xn) = D) : OneP s ri rj (findM ⟨F, ti, ts⟩ ri rj xs 4) (.returned (.tuple #[.agg #[.int .i64 4, .int .i64 ri, .int .i64 rj, .int .i64 ti, .string s, .int .i64 0, .slice none 0 0, .bool false, .int .i64 0], .bool (!D)])) := by
  generalize findM ⟨F, ti, ts⟩ ri rj xs 4 = M at *
  refine ⟨4, ri, rj, ti, s, 0, ?_, ?_⟩
  · by_cases c : xs = ts.take xn
    · have h1 : M = none := hF.trans (if_pos c)
      have h2 : D = true := hD.symm.trans (decide_eq_true c)
      subst h1 h2
      rfl
    · have h1 : M = some (4, (ti : Int), 0) := hF.trans (if_neg c)
      have h2 : D = false := hD.symm.trans (decide_eq_false c)
      subst h1 h2
      rfl
  · intro a ha
    by_cases c : xs = ts.take xn
    · have h1 : M = none := hF.trans (if_pos c)
      rw [h1] at ha
      exact absurd ha (by simp)
    · have h1 : M = some (4, (ti : Int), 0) := hF.trans (if_neg c)
      rw [h1] at ha
      injection ha with ha
      subst ha
      exact ⟨rfl, rfl, rfl, rfl, rfl, rfl⟩
set_option maxHeartbeats 8000000 in
set_option maxRecDepth 100000 in
theorem one_4 (w : World) (v : Value) (l : List MTxn) (s : ByteArray) (ri rj : Nat) (la : Option Addr) (lc : Nat) (xs : List Int) (ti tj : Nat) (ta : Option Addr) (tc : Nat) (ts : List Int) (h : TxnsIn Any w v l) (F : Int → Option MSrc) (hin : IntsIn Any w (.slice la xs.length lc) xs) (hxl : xs.length ≤ 100000) (hts : IntsIn Any w (.slice ta ts.length tc) ts) (htl : ts.length ≤ 100000) (hle : xs.length ≤ ts.length) :
    Calls Try.prog 43 #[v, .string s, .int .i64 4, .agg #[.int .i64 ri, .int .i64 rj, .slice la xs.length lc], .agg #[.int .i64 ti, .int .i64 tj, .slice ta ts.length tc]] w fun e w' => OneP s ri rj (findM ⟨F, ti, ts⟩ ri rj xs 4) e ∧ Below w.heap.size w w' := by
  have BG : Hid (∀ W, Below w.heap.size w W → Calls Try.prog 22 #[.slice la xs.length lc, .slice ta ts.length tc] W fun e w' => e = .returned (.bool (decide (xs = ts.take xs.length))) ∧ Below W.heap.size W w') := fun W hb => by
    have q := begins_is la ta lc tc xs ts W (hin.below hb) (hts.below hb) hxl htl
    have e : decide (xs.length ≤ ts.length ∧ xs = ts.take xs.length) = decide (xs = ts.take xs.length) := by simp [hle]
    rw [e] at q
    exact q
  obtain ⟨a1, c1, rfl, hrow⟩ := RowsIn.cells h (by omega)
  have HFM : Hid (findM ⟨F, ti, ts⟩ ri rj xs 4 = if xs = ts.take xs.length then none else some (4, (ti : Int), 0)) := rfl
  have S0 := hid (on_start w ri rj la xs.length lc ti tj ta ts.length tc 4 s)
  obtain ⟨D, hD⟩ : ∃ D, decide (xs = ts.take xs.length) = D := ⟨_, rfl⟩
  rw [hD] at BG
  have HD := hid hD
  clear h hin hts hrow hD
  generalize xs.length = xn at *
  generalize ts.length = tn at *
  go_enter Try.func43, Try.ntmps43
  go_upto_region 3 with fail
  have T9 : Hid (((((w.alloc (.cells #[.int .i64 ri, .int .i64 rj, .slice la xn lc] 87)).alloc (.cells #[.int .i64 ti, .int .i64 tj, .slice ta tn tc] 87)).alloc (.cells #[.int .i64 0, .int .i64 0, .int .i64 0, .int .i64 0, .string ⟨#[]⟩, .int .i64 0, .slice none 0 0, .bool false, .int .i64 0] 85)).alloc (.cells #[.int .i64 4, .int .i64 ri, .int .i64 rj, .int .i64 0, .string s, .int .i64 0, .slice none 0 0, .bool false, .int .i64 0] 85)).heap[w.heap.size + 1]? = some (.cells #[.int .i64 ti, .int .i64 tj, .slice ta tn tc] 87)) := by
    have s1 : (w.alloc (.cells #[.int .i64 ri, .int .i64 rj, .slice la xn lc] 87)).heap.size = w.heap.size + 1 := alloc_size _ _
    show _ = _
    rw [alloc_at, if_neg (by rw [alloc_size, alloc_size, s1]; omega), alloc_at, if_neg (by rw [alloc_size, s1]; omega), alloc_at, if_pos s1.symm]
  generalize hab : w.heap.size + 1 + 1 + 1 = ab at *
  generalize hzb : w.heap.size + 1 + 1 = zb at *
  generalize htb : w.heap.size + 1 = tb at *
  generalize (((w.alloc (.cells #[.int .i64 ri, .int .i64 rj, .slice la xn lc] 87)).alloc (.cells #[.int .i64 ti, .int .i64 tj, .slice ta tn tc] 87)).alloc (.cells #[.int .i64 0, .int .i64 0, .int .i64 0, .int .i64 0, .string ⟨#[]⟩, .int .i64 0, .slice none 0 0, .bool false, .int .i64 0] 85)).alloc (.cells #[.int .i64 4, .int .i64 ri, .int .i64 rj, .int .i64 0, .string s, .int .i64 0, .slice none 0 0, .bool false, .int .i64 0] 85) = W0 at *
  have hza : zb ≠ ab := by omega
  have hra : w.heap.size < ab := by omega
  have hrz : w.heap.size < zb := by omega
  have hta : tb ≠ ab := by omega
  have a3 : W0.cell? ⟨ab, 3, none⟩ = some (.int .i64 0) := Lib.cell_of_heap S0.out.a12 3
  have f3 : W0.frozen? ⟨ab, 3, none⟩ = false := Lib.frozen_of_heap S0.out.a12 3
  have t0 : W0.cell? ⟨tb, 0, none⟩ = some (.int .i64 ti) := Lib.cell_of_heap T9.out 0
  go_upto_region 4 with fail
  have BW : Hid (Below w.heap.size w (W0.setCell ⟨ab, 3, none⟩ (.int .i64 ti))) := S0.out.bl.setCell (by show w.heap.size ≤ ab; omega) _
  have HA : Hid ((W0.setCell ⟨ab, 3, none⟩ (.int .i64 ti)).heap[ab]? = some (.cells #[.int .i64 4, .int .i64 ri, .int .i64 rj, .int .i64 ti, .string s, .int .i64 0, .slice none 0 0, .bool false, .int .i64 0] 85)) := Go.Joins.block_setCell S0.out.a12 _
  have HZ : Hid ((W0.setCell ⟨ab, 3, none⟩ (.int .i64 ti)).heap[zb]? = some (.cells #[.int .i64 0, .int .i64 0, .int .i64 0, .int .i64 0, .string ⟨#[]⟩, .int .i64 0, .slice none 0 0, .bool false, .int .i64 0] 85)) := (set_ne hza).trans S0.out.z10
  have HR : Hid ((W0.setCell ⟨ab, 3, none⟩ (.int .i64 ti)).heap[w.heap.size]? = some (.cells #[.int .i64 ri, .int .i64 rj, .slice la xn lc] 87)) := (set_ne (by show w.heap.size ≠ ab; omega)).trans S0.out.r8
  have HT : Hid ((W0.setCell ⟨ab, 3, none⟩ (.int .i64 ti)).heap[tb]? = some (.cells #[.int .i64 ti, .int .i64 tj, .slice ta tn tc] 87)) := (set_ne hta).trans T9.out
  clear S0 T9 a3 f3 t0
  generalize W0.setCell ⟨ab, 3, none⟩ (.int .i64 ti) = W1 at *
  have A0 : W1.cell? ⟨ab, 0, none⟩ = some (.int .i64 4) := Lib.cell_of_heap HA.out 0
  have A1 : W1.cell? ⟨ab, 1, none⟩ = some (.int .i64 ri) := Lib.cell_of_heap HA.out 1
  have A2 : W1.cell? ⟨ab, 2, none⟩ = some (.int .i64 rj) := Lib.cell_of_heap HA.out 2
  have A3 : W1.cell? ⟨ab, 3, none⟩ = some (.int .i64 ti) := Lib.cell_of_heap HA.out 3
  have A4 : W1.cell? ⟨ab, 4, none⟩ = some (.string s) := Lib.cell_of_heap HA.out 4
  have A5 : W1.cell? ⟨ab, 5, none⟩ = some (.int .i64 0) := Lib.cell_of_heap HA.out 5
  have A6 : W1.cell? ⟨ab, 6, none⟩ = some (.slice none 0 0) := Lib.cell_of_heap HA.out 6
  have A7 : W1.cell? ⟨ab, 7, none⟩ = some (.bool false) := Lib.cell_of_heap HA.out 7
  have A8 : W1.cell? ⟨ab, 8, none⟩ = some (.int .i64 0) := Lib.cell_of_heap HA.out 8
  have Y0 : W1.cell? ⟨zb, 0, none⟩ = some (.int .i64 0) := Lib.cell_of_heap HZ.out 0
  have Y1 : W1.cell? ⟨zb, 1, none⟩ = some (.int .i64 0) := Lib.cell_of_heap HZ.out 1
  have Y2 : W1.cell? ⟨zb, 2, none⟩ = some (.int .i64 0) := Lib.cell_of_heap HZ.out 2
  have Y3 : W1.cell? ⟨zb, 3, none⟩ = some (.int .i64 0) := Lib.cell_of_heap HZ.out 3
  have Y4 : W1.cell? ⟨zb, 4, none⟩ = some (.string ⟨#[]⟩) := Lib.cell_of_heap HZ.out 4
  have Y5 : W1.cell? ⟨zb, 5, none⟩ = some (.int .i64 0) := Lib.cell_of_heap HZ.out 5
  have Y6 : W1.cell? ⟨zb, 6, none⟩ = some (.slice none 0 0) := Lib.cell_of_heap HZ.out 6
  have Y7 : W1.cell? ⟨zb, 7, none⟩ = some (.bool false) := Lib.cell_of_heap HZ.out 7
  have Y8 : W1.cell? ⟨zb, 8, none⟩ = some (.int .i64 0) := Lib.cell_of_heap HZ.out 8
  have R2 : W1.cell? ⟨w.heap.size, 2, none⟩ = some (.slice la xn lc) := Lib.cell_of_heap HR.out 2
  have T2 : W1.cell? ⟨tb, 2, none⟩ = some (.slice ta tn tc) := Lib.cell_of_heap HT.out 2
  have FZ0 : W1.frozen? ⟨zb, 0, none⟩ = false := Lib.frozen_of_heap HZ.out 0
  have FZ1 : W1.frozen? ⟨zb, 1, none⟩ = false := Lib.frozen_of_heap HZ.out 1
  have FZ2 : W1.frozen? ⟨zb, 2, none⟩ = false := Lib.frozen_of_heap HZ.out 2
  have FZ3 : W1.frozen? ⟨zb, 3, none⟩ = false := Lib.frozen_of_heap HZ.out 3
  have FZ4 : W1.frozen? ⟨zb, 4, none⟩ = false := Lib.frozen_of_heap HZ.out 4
  have FZ5 : W1.frozen? ⟨zb, 5, none⟩ = false := Lib.frozen_of_heap HZ.out 5
  have FZ6 : W1.frozen? ⟨zb, 6, none⟩ = false := Lib.frozen_of_heap HZ.out 6
  have FZ7 : W1.frozen? ⟨zb, 7, none⟩ = false := Lib.frozen_of_heap HZ.out 7
  have FZ8 : W1.frozen? ⟨zb, 8, none⟩ = false := Lib.frozen_of_heap HZ.out 8
  have htz : zb ≠ tb := by omega
  have hrz2 : zb ≠ w.heap.size := by omega
  have htz3 : tb ≠ zb := by omega
  have hrz3 : w.heap.size ≠ zb := by omega
  go_region_held3 (fun w' => w'.cell? ⟨ab, 0, none⟩ = some (.int .i64 4) ∧ w'.cell? ⟨ab, 1, none⟩ = some (.int .i64 ri) ∧ w'.cell? ⟨ab, 2, none⟩ = some (.int .i64 rj) ∧ w'.cell? ⟨ab, 3, none⟩ = some (.int .i64 ti) ∧ w'.cell? ⟨ab, 4, none⟩ = some (.string s) ∧ w'.cell? ⟨ab, 5, none⟩ = some (.int .i64 0) ∧ w'.cell? ⟨ab, 6, none⟩ = some (.slice none 0 0) ∧ w'.cell? ⟨ab, 7, none⟩ = some (.bool false) ∧ w'.cell? ⟨ab, 8, none⟩ = some (.int .i64 0) ∧ w'.cell? ⟨w.heap.size, 2, none⟩ = some (.slice la xn lc) ∧ w'.cell? ⟨tb, 2, none⟩ = some (.slice ta tn tc)) (go_keep) (first
    | (go_at_call 22; refine (BG.out _ (by repeat (first | exact BW.out | apply Below.drew))).mono ?_; rintro e w5 ⟨rfl, b5⟩; have C5 : Hid (Below W1.heap.size W1 w5) := Below.trans (by repeat (first | exact Below.refl _ _ | apply Below.drew)) b5; have HA5 := hid ((C5.out.block _ (blt HA.out)).trans HA.out); have HZ5 := hid ((C5.out.block _ (blt HZ.out)).trans HZ.out); have HR5 := hid ((C5.out.block _ (blt HR.out)).trans HR.out); have HT5 := hid ((C5.out.block _ (blt HT.out)).trans HT.out); have A05 : w5.cell? ⟨ab, 0, none⟩ = some (.int .i64 4) := Lib.cell_of_heap HA5.out 0; have A15 : w5.cell? ⟨ab, 1, none⟩ = some (.int .i64 ri) := Lib.cell_of_heap HA5.out 1; have A25 : w5.cell? ⟨ab, 2, none⟩ = some (.int .i64 rj) := Lib.cell_of_heap HA5.out 2; have A35 : w5.cell? ⟨ab, 3, none⟩ = some (.int .i64 ti) := Lib.cell_of_heap HA5.out 3; have A45 : w5.cell? ⟨ab, 4, none⟩ = some (.string s) := Lib.cell_of_heap HA5.out 4; have A55 : w5.cell? ⟨ab, 5, none⟩ = some (.int .i64 0) := Lib.cell_of_heap HA5.out 5; have A65 : w5.cell? ⟨ab, 6, none⟩ = some (.slice none 0 0) := Lib.cell_of_heap HA5.out 6; have A75 : w5.cell? ⟨ab, 7, none⟩ = some (.bool false) := Lib.cell_of_heap HA5.out 7; have A85 : w5.cell? ⟨ab, 8, none⟩ = some (.int .i64 0) := Lib.cell_of_heap HA5.out 8; have Y05 : w5.cell? ⟨zb, 0, none⟩ = some (.int .i64 0) := Lib.cell_of_heap HZ5.out 0; have Y15 : w5.cell? ⟨zb, 1, none⟩ = some (.int .i64 0) := Lib.cell_of_heap HZ5.out 1; have Y25 : w5.cell? ⟨zb, 2, none⟩ = some (.int .i64 0) := Lib.cell_of_heap HZ5.out 2; have Y35 : w5.cell? ⟨zb, 3, none⟩ = some (.int .i64 0) := Lib.cell_of_heap HZ5.out 3; have Y45 : w5.cell? ⟨zb, 4, none⟩ = some (.string ⟨#[]⟩) := Lib.cell_of_heap HZ5.out 4; have Y55 : w5.cell? ⟨zb, 5, none⟩ = some (.int .i64 0) := Lib.cell_of_heap HZ5.out 5; have Y65 : w5.cell? ⟨zb, 6, none⟩ = some (.slice none 0 0) := Lib.cell_of_heap HZ5.out 6; have Y75 : w5.cell? ⟨zb, 7, none⟩ = some (.bool false) := Lib.cell_of_heap HZ5.out 7; have Y85 : w5.cell? ⟨zb, 8, none⟩ = some (.int .i64 0) := Lib.cell_of_heap HZ5.out 8; have R25 : w5.cell? ⟨w.heap.size, 2, none⟩ = some (.slice la xn lc) := Lib.cell_of_heap HR5.out 2; have T25 : w5.cell? ⟨tb, 2, none⟩ = some (.slice ta tn tc) := Lib.cell_of_heap HT5.out 2; have FZ05 : w5.frozen? ⟨zb, 0, none⟩ = false := Lib.frozen_of_heap HZ5.out 0; have FZ15 : w5.frozen? ⟨zb, 1, none⟩ = false := Lib.frozen_of_heap HZ5.out 1; have FZ25 : w5.frozen? ⟨zb, 2, none⟩ = false := Lib.frozen_of_heap HZ5.out 2; have FZ35 : w5.frozen? ⟨zb, 3, none⟩ = false := Lib.frozen_of_heap HZ5.out 3; have FZ45 : w5.frozen? ⟨zb, 4, none⟩ = false := Lib.frozen_of_heap HZ5.out 4; have FZ55 : w5.frozen? ⟨zb, 5, none⟩ = false := Lib.frozen_of_heap HZ5.out 5; have FZ65 : w5.frozen? ⟨zb, 6, none⟩ = false := Lib.frozen_of_heap HZ5.out 6; have FZ75 : w5.frozen? ⟨zb, 7, none⟩ = false := Lib.frozen_of_heap HZ5.out 7; have FZ85 : w5.frozen? ⟨zb, 8, none⟩ = false := Lib.frozen_of_heap HZ5.out 8; clear b5))
  all_goals (try go_wp2_with fail)
  all_goals
    refine bodyPost_ret (v := .tuple #[.agg #[.int .i64 4, .int .i64 ri, .int .i64 rj, .int .i64 ti, .string s, .int .i64 0, .slice none 0 0, .bool false, .int .i64 0], .bool (!D)]) (by simp [results, Try.results43, go_sem, Y05, Y15, Y25, Y35, Y45, Y55, Y65, Y75, Y85]) rfl ⟨one4_p s ri rj ti F xs ts xn D HFM.out HD.out, ((((((((((BW.out.trans (C5.out.mono BW.out.size)).setCell (by show w.heap.size ≤ zb; omega) _).setCell (by show w.heap.size ≤ zb; omega) _).setCell (by show w.heap.size ≤ zb; omega) _).setCell (by show w.heap.size ≤ zb; omega) _).setCell (by show w.heap.size ≤ zb; omega) _).setCell (by show w.heap.size ≤ zb; omega) _).setCell (by show w.heap.size ≤ zb; omega) _).setCell (by show w.heap.size ≤ zb; omega) _).setCell (by show w.heap.size ≤ zb; omega) _)⟩
end Go.Proofs.Ytnfbcmnlloipiaa
namespace Go.Proofs.Ytnfbcmnlloipiaa
set_option linter.unusedVariables false
set_option linter.unusedSimpArgs false
open Go.RowKit Go.Lib Go.Maps Go.Sort
open Tx (MTxn info_parts RowsIn.cells RowCells TxnRow TxnsIn)

def kindK : Nat → Int
  | 0 => 3
  | 1 => 2
  | 2 => 5
  | 3 => 6
  | _ => 4
theorem find_kind (K : Knw) (ri rj : Nat) (xs : List Int) (i : Nat) (hi : i < 5) (a : Int × Int × Int) (h : findM K ri rj xs i = some a) : a.1 = kindK i := by
  have hi5 : i = 0 ∨ i = 1 ∨ i = 2 ∨ i = 3 ∨ i = 4 := by omega
  rcases hi5 with rfl | rfl | rfl | rfl | rfl
  · obtain ⟨x, _, rfl⟩ := Option.map_eq_some_iff.1 (show Option.map _ _ = some a from h)
    rfl
  · obtain ⟨x, _, rfl⟩ := Option.map_eq_some_iff.1 (show Option.map _ _ = some a from h)
    rfl
  · obtain ⟨x, _, rfl⟩ := Option.map_eq_some_iff.1 (show Option.map _ _ = some a from h)
    rfl
  · simp only [findM] at h
    split at h
    · exact absurd h (by simp)
    · split at h
      · exact absurd h (by simp)
      · split at h
        · exact absurd h (by simp)
        · injection h with h
          subst h
          rfl
  · simp only [findM] at h
    split at h
    · exact absurd h (by simp)
    · injection h with h
      subst h
      rfl
theorem one_is (w : World) (v : Value) (l : List MTxn) (s : ByteArray) (ri rj : Nat) (la : Option Addr) (lc : Nat) (xs : List Int) (ti tj : Nat) (ta : Option Addr) (tc : Nat) (ts : List Int) (h : TxnsIn Any w v l) (hG : Good l) (hu : uniqN (notes l l.length)) (hin : IntsIn Any w (.slice la xs.length lc) xs) (hxl : xs.length ≤ 100000) (hts : IntsIn Any w (.slice ta ts.length tc) ts) (htl : ts.length ≤ 100000) (hle : xs.length ≤ ts.length) (i : Nat) (hi : i < 5) :
    Calls Try.prog 43 #[v, .string s, .int .i64 (kindK i), .agg #[.int .i64 ri, .int .i64 rj, .slice la xs.length lc], .agg #[.int .i64 ti, .int .i64 tj, .slice ta ts.length tc]] w fun e w' => OneP s ri rj (findM ⟨srcN l s (notes l l.length), ti, ts⟩ ri rj xs i) e ∧ Below w.heap.size w w' := by
  have hi5 : i = 0 ∨ i = 1 ∨ i = 2 ∨ i = 3 ∨ i = 4 := by omega
  rcases hi5 with rfl | rfl | rfl | rfl | rfl
  · exact one_3 w v l s ri rj la lc xs ti tj ta tc ts h hG hu hin hxl
  · exact one_2 w v l s ri rj la lc xs ti tj ta tc ts h hG hu hin hxl
  · exact one_5 w v l s ri rj la lc xs ti tj ta tc ts h hG hu hin hxl
  · exact one_6 w v l s ri rj la lc xs ti tj ta tc ts h hG hu hin hxl
  · exact one_4 w v l s ri rj la lc xs ti tj ta tc ts h _ hin hxl hts htl hle
end Go.Proofs.Ytnfbcmnlloipiaa
namespace Go.Proofs.Ytnfbcmnlloipiaa
set_option linter.unusedVariables false
set_option linter.unusedSimpArgs false
open Go.RowKit Go.Lib Go.Maps Go.Sort
open Tx (MTxn info_parts RowsIn.cells RowCells TxnRow TxnsIn)

/-- The first q values hold one of the transaction a that it wrote behind b. -/
def wrB (F : Int → Option MSrc) (ts : List Int) (a b q : Nat) : Bool := decide (b < latK F ts q a)
theorem wr_next (F : Int → Option MSrc) (ts : List Int) (a b q : Nat) : wrB F ts a b (q + 1) = (wrB F ts a b q || (decide (((F (ts.getD q default)).getD noSrc).1 = a) && decide (b < ((F (ts.getD q default)).getD noSrc).2.1))) := by
  unfold wrB
  rw [latK]
  generalize ((F (ts.getD q default)).getD noSrc) = y
  generalize latK F ts q a = m
  rw [Bool.eq_iff_iff]
  simp only [Bool.or_eq_true, Bool.and_eq_true, decide_eq_true_eq]
  by_cases h : a = y.1
  · rw [if_pos h]
    constructor
    · intro c
      by_cases hm : b < m
      · exact .inl hm
      · exact .inr ⟨h.symm, by omega⟩
    · intro c
      omega
  · rw [if_neg h]
    constructor
    · exact .inl
    · intro c
      rcases c with c | c
      · exact c
      · exact absurd c.1.symm h
theorem dis_next (F : Int → Option MSrc) (s : ByteArray) (ts : List Int) (k : Nat) : disK F s ts (k + 1) = disK F s ts k ++ (if wrB F ts ((F (ts.getD k default)).getD noSrc).1 ((F (ts.getD k default)).getD noSrc).2.1 k = true then [((7 : Int), (((F (ts.getD k default)).getD noSrc).1 : Int), (0 : Int), (0 : Int), s, ts.getD k default)] else []) := by
  rw [disK]
  unfold wrB
  by_cases h : ((F (ts.getD k default)).getD noSrc).2.1 < latK F ts k ((F (ts.getD k default)).getD noSrc).1
  · rw [if_pos h, if_pos (decide_eq_true h)]
  · rw [if_neg h, if_neg (by simpa using h), List.append_nil]
set_option maxHeartbeats 8000000 in
set_option maxRecDepth 100000 in
theorem order_is (w : World) (v : Value) (l : List MTxn) (s : ByteArray) (ti tj : Nat) (ta : Option Addr) (tc : Nat) (ts : List Int) (h : TxnsIn Any w v l) (hG : Good l) (hu : uniqN (notes l l.length)) (hin : IntsIn Any w (.slice ta ts.length tc) ts) (hl : ts.length ≤ 100000) :
    Calls Try.prog 44 #[v, .string s, .agg #[.int .i64 ti, .int .i64 tj, .slice ta ts.length tc]] w fun e w' => ∃ v', e = .returned v' ∧ w'.ownsRow (w.heap.size + 1) 85 9 v' (disK (srcN l s (notes l l.length)) s ts ts.length).length (ansC (disK (srcN l s (notes l l.length)) s ts ts.length)) ∧ Below w.heap.size w w' := by
  have WT : Hid (∀ W, Below w.heap.size w W → ∀ x, Calls Try.prog 47 #[v, .string s, .int .i64 x] W fun e w' => e = .returned (.tuple #[.agg #[.int .i64 ((srcN l s (notes l l.length) x).getD noSrc).1, .int .i64 ((srcN l s (notes l l.length) x).getD noSrc).2.1], .bool (srcN l s (notes l l.length) x).isSome]) ∧ Below W.heap.size W w') := fun W hb x => writer_is W v l s x (h.below hb) hG hu
  obtain ⟨i0, hi0, hz0, hz1, hz2⟩ := info_parts Try.infoAn
  have HI0 := hid hi0
  have HZ0 := hid hz0
  have HZ1 := hid hz1
  have HZ2 := hid hz2
  obtain ⟨a1, c1, rfl, _⟩ := RowsIn.cells h (by omega)
  have HIN := hid hin
  have hli : (ts.length : Int) ≤ 100000 := by omega
  clear h hG hu hin hi0 hz0 hz1 hz2
  generalize srcN l s (notes l l.length) = F at *
  go_enter Try.func44, Try.ntmps44
  go_wp2_with fail
  have X0 : Hid ((w.alloc (.cells #[.int .i64 ti, .int .i64 tj, .slice ta ts.length tc] 87)).heap[w.heap.size]? = some (.cells #[.int .i64 ti, .int .i64 tj, .slice ta ts.length tc] 87)) := heap_alloc_new w _
  have B0 : Hid (Below w.heap.size w (w.alloc (.cells #[.int .i64 ti, .int .i64 tj, .slice ta ts.length tc] 87))) := below_box w _
  have hs0 : (w.alloc (.cells #[.int .i64 ti, .int .i64 tj, .slice ta ts.length tc] 87)).heap.size = w.heap.size + 1 := alloc_size _ _
  generalize w.alloc (.cells #[.int .i64 ti, .int .i64 tj, .slice ta ts.length tc] 87) = W0 at *
  go_loopg [7, 8, 9, 10, 11, 12, 14, 15, 16, 20] ts.length (fun gg out _ _ _ _ _ _ _ _ i wr => ∃ k : Nat, k ≤ ts.length ∧ ts.length - k ≤ gg ∧ i = .int .i64 k ∧ Aside (Below W0.heap.size W0 wr) ∧ Aside (wr.ownsRow (w.heap.size + 1) 85 9 out (disK F s ts k).length (ansC (disK F s ts k))))
  case atStart => exact ⟨0, Nat.zero_le _, by omega, rfl, Below.refl _ _, World.ownsRow_nil _ _ _ _⟩
  case round =>
    obtain ⟨k, hk, hgk, rfl, BR, OR⟩ := hrel
    have hWW : W0.heap.size ≤ wr.heap.size := BR.out.size
    obtain ⟨DK, hDK⟩ : ∃ DK, disK F s ts k = DK := ⟨_, rfl⟩
    rw [hDK] at OR
    obtain ⟨va, vc, hva⟩ := own_slice OR.out
    subst hva
    by_cases hlt : k < ts.length
    · have hlti : (k : Int) < ts.length := by omega
      obtain ⟨ao, c', hv, hcc, hcs⟩ := id HIN.out
      cases hv
      obtain ⟨lb, lo, rfl, _, hcell⟩ := hcs (by omega)
      have BW : Hid (Below w.heap.size w wr) := B0.out.trans (BR.out.mono B0.out.size)
      have LC : Hid (∀ W, Below w.heap.size w W → ∀ q, q < ts.length → W.cell? ⟨lb, lo + q, none⟩ = some (.int .i64 (ts.getD q default))) := fun W hb q hq => (hb.cell (p := ⟨lb, lo + q, none⟩) (World.block_lt_of_cell? _ _ (hcell q hq))).trans (hcell q hq)
      have xk := LC.out wr BW.out k hlt
      have hkc : (k : Int) ≤ tc := by omega
      have r2 : wr.cell? ⟨w.heap.size, 2, none⟩ = some (.slice (some ⟨lb, lo, none⟩) ts.length tc) := (BR.out.cell (p := ⟨w.heap.size, 2, none⟩) (by show w.heap.size < W0.heap.size; omega)).trans (Lib.cell_of_heap X0.out 2)
      have DN := hid (dis_next F s ts k)
      obtain ⟨X, hX⟩ : ∃ X, ts.getD k default = X := ⟨_, rfl⟩
      rw [hX] at xk DN
      have WTk := hid (WT.out wr BW.out X)
      have hdl := disK_len F s ts k
      obtain ⟨DK1, hDK1⟩ : ∃ DK1, disK F s ts (k + 1) = DK1 := ⟨_, rfl⟩
      rw [hDK] at DN hdl
      rw [hDK1] at DN
      have HDK1 := hid hDK1
      generalize (F X).getD noSrc = y at *
      generalize (F X).isSome = ok at *
      obtain ⟨y1, y2, y3, y4⟩ := y
      simp only at WTk DN
      clear hcs hcell hX hDK hDK1
      go_upto_region 6 with (go_at_call 47; refine WTk.out.mono ?_; rintro e w1 ⟨rfl, b1⟩; have B1 := hid b1; clear b1)
      have PB := hid (heap_alloc_new w1 (.cells #[.int .i64 y1, .int .i64 y2] 54))
      have B2 : Hid (Below wr.heap.size wr (w1.alloc (.cells #[.int .i64 y1, .int .i64 y2] 54))) := B1.out.trans ((below_box w1 _).mono B1.out.size)
      clear WTk B1 xk
      generalize w1.alloc (.cells #[.int .i64 y1, .int .i64 y2] 54) = W2 at *
      generalize w1.heap.size = pb at *
      have s2 : W2.cell? ⟨w.heap.size, 2, none⟩ = some (.slice (some ⟨lb, lo, none⟩) ts.length tc) := (B2.out.cell (p := ⟨w.heap.size, 2, none⟩) (World.block_lt_of_cell? _ _ r2)).trans r2
      have BW2 : Hid (Below w.heap.size w W2) := BW.out.trans (B2.out.mono BW.out.size)
      have BR2 : Hid (Below W0.heap.size W0 W2) := BR.out.trans (B2.out.mono BR.out.size)
      have O2 : Hid (W2.ownsRow (w.heap.size + 1) 85 9 (.slice va DK.length vc) DK.length (ansC DK)) := own_same OR.out (fun g hg => B2.out.block g (own_block OR.out hg).2.1)
      clear r2 OR BR BW B2
      go_wp2_with fail
      go_loopg [12, 14, 15, 16, 37] k (fun gg b _ _ _ i wi => ∃ q : Nat, q ≤ k ∧ k - q ≤ gg ∧ i = .int .i64 q ∧ b = .bool (wrB F ts y1 y2 q) ∧ Aside (Below W2.heap.size W2 wi))
      case atStart => exact ⟨0, Nat.zero_le _, by omega, rfl, (by simp [wrB, latK]), Below.refl _ _⟩
      case round =>
        obtain ⟨q, hqk, hgq, rfl, rfl, BJ⟩ := hrel
        have BWJ : Hid (Below w.heap.size w wr) := BW2.out.trans (BJ.out.mono BW2.out.size)
        by_cases hq1 : q < k
        · have hq1i : (q : Int) < k := by omega
          have xq := LC.out wr BWJ.out q (by omega)
          have WN := hid (wr_next F ts y1 y2 q)
          have WTq := hid (WT.out wr BWJ.out (ts.getD q default))
          generalize ts.getD q default = U at *
          generalize (F U).getD noSrc = z at *
          generalize (F U).isSome = okz at *
          obtain ⟨z1, z2, z3, z4⟩ := z
          simp only at WTq WN
          have p0 : wr.cell? ⟨pb, 0, none⟩ = some (.int .i64 y1) := (BJ.out.cell (p := ⟨pb, 0, none⟩) (blt PB.out)).trans (Lib.cell_of_heap PB.out 0)
          have p1 : wr.cell? ⟨pb, 1, none⟩ = some (.int .i64 y2) := (BJ.out.cell (p := ⟨pb, 1, none⟩) (blt PB.out)).trans (Lib.cell_of_heap PB.out 1)
          go_upto_region 11 with (go_at_call 47; refine WTq.out.mono ?_; rintro e w3 ⟨rfl, b3⟩; have B3 := hid b3; clear b3)
          have B4 : Hid (Below wr.heap.size wr (w3.alloc (.cells #[.int .i64 z1, .int .i64 z2] 54))) := B3.out.trans ((below_box w3 _).mono B3.out.size)
          have QB := hid (heap_alloc_new w3 (.cells #[.int .i64 z1, .int .i64 z2] 54))
          clear WTq B3 xq
          generalize w3.alloc (.cells #[.int .i64 z1, .int .i64 z2] 54) = W4 at *
          generalize w3.heap.size = qb at *
          have P0 : W4.cell? ⟨pb, 0, none⟩ = some (.int .i64 y1) := (B4.out.cell (p := ⟨pb, 0, none⟩) (World.block_lt_of_cell? _ _ p0)).trans p0
          have P1 : W4.cell? ⟨pb, 1, none⟩ = some (.int .i64 y2) := (B4.out.cell (p := ⟨pb, 1, none⟩) (World.block_lt_of_cell? _ _ p1)).trans p1
          have Q0 : W4.cell? ⟨qb, 0, none⟩ = some (.int .i64 z1) := Lib.cell_of_heap QB.out 0
          have Q1 : W4.cell? ⟨qb, 1, none⟩ = some (.int .i64 z2) := Lib.cell_of_heap QB.out 1
          have BJ4 : Hid (Below W2.heap.size W2 W4) := BJ.out.trans (B4.out.mono BJ.out.size)
          clear p0 p1
          cases hwb : wrB F ts y1 y2 q with
          | true =>
            have HN : Hid (wrB F ts y1 y2 (q + 1) = true) := by show _ = _; rw [WN.out, hwb]; rfl
            clear hwb
            go_wp2_with fail
            go_roundg (k - (q + 1))
            case measure => omega
            case rel => exact ⟨q + 1, by omega, by omega, by go_num, (by rw [HN.out]), BJ4.out⟩
          | false =>
            by_cases hz : z1 = y1
            · have hzb : ((z1 : Int) == (y1 : Int)) = true := by rw [beq_iff_eq]; omega
              have HN : Hid (wrB F ts y1 y2 (q + 1) = decide (y2 < z2)) := by
                show _ = _
                rw [WN.out, hwb, decide_eq_true hz, Bool.false_or, Bool.true_and]
              clear hwb
              go_wp2_with fail
              go_roundg (k - (q + 1))
              case measure => omega
              case rel => exact ⟨q + 1, by omega, by omega, by go_num, (by rw [HN.out]), BJ4.out⟩
            · have hzb : ((z1 : Int) == (y1 : Int)) = false := by rw [beq_eq_false_iff_ne]; omega
              have HN : Hid (wrB F ts y1 y2 (q + 1) = false) := by show _ = _; rw [WN.out, hwb, decide_eq_false hz]; rfl
              clear hwb
              go_wp2_with fail
              go_roundg (k - (q + 1))
              case measure => omega
              case rel => exact ⟨q + 1, by omega, by omega, by go_num, (by rw [HN.out]), BJ4.out⟩
        · have hqe : q = k := by omega
          have hq1i : ¬ (q : Int) < k := by omega
          subst hqe
          have OJ : Hid (wr.ownsRow (w.heap.size + 1) 85 9 (.slice va DK.length vc) DK.length (ansC DK)) := own_same O2.out (fun g hg => BJ.out.block g (own_block O2.out hg).2.1)
          have BRJ : Hid (Below W0.heap.size W0 wr) := BR2.out.trans (BJ.out.mono BR2.out.size)
          have p0 : wr.cell? ⟨pb, 0, none⟩ = some (.int .i64 y1) := (BJ.out.cell (p := ⟨pb, 0, none⟩) (blt PB.out)).trans (Lib.cell_of_heap PB.out 0)
          cases hwb : wrB F ts y1 y2 q with
          | false =>
            have HN : Hid (DK1 = DK) := by show _ = _; rw [DN.out, hwb]; simp
            clear hwb DN
            go_wp2_with fail
            go_roundg (ts.length - (q + 1))
            case measure => omega
            case rel => exact ⟨q + 1, by omega, by omega, by go_num, BRJ.out, (by rw [HDK1.out, HN.out]; exact OJ.out)⟩
          | true =>
            have HN : Hid (DK1 = DK ++ [((7 : Int), (y1 : Int), (0 : Int), (0 : Int), s, X)]) := by show _ = _; rw [DN.out, hwb]; rfl
            clear hwb DN
            have SZ : Hid ((wr.alloc (.cells #[.int .i64 7, .int .i64 y1, .int .i64 0, .int .i64 0, .string s, .int .i64 X, .slice none 0 0, .bool false, .int .i64 0] 85)).heap.size = wr.heap.size + 1) := alloc_size _ _
            have B9 : Hid (∀ b, b < wr.heap.size → (wr.alloc (.cells #[.int .i64 7, .int .i64 y1, .int .i64 0, .int .i64 0, .string s, .int .i64 X, .slice none 0 0, .bool false, .int .i64 0] 85)).heap[b]? = wr.heap[b]?) := fun b hb => by rw [alloc_at, if_neg (by omega)]
            have OX : Hid ((wr.alloc (.cells #[.int .i64 7, .int .i64 y1, .int .i64 0, .int .i64 0, .string s, .int .i64 X, .slice none 0 0, .bool false, .int .i64 0] 85)).ownsRow (w.heap.size + 1) 85 9 (.slice va DK.length vc) DK.length (ansC DK)) := own_same OJ.out (fun g hg => B9.out g (own_block OJ.out hg).2.1)
            have NEW : Hid (∀ j u, ([.int .i64 7, .int .i64 (y1 : Int), .int .i64 (0 : Int), .int .i64 (0 : Int), .string s, .int .i64 X, .slice none 0 0, .bool false, .int .i64 (0 : Int)] : List Value)[j]? = some u → (wr.alloc (.cells #[.int .i64 7, .int .i64 y1, .int .i64 0, .int .i64 0, .string s, .int .i64 X, .slice none 0 0, .bool false, .int .i64 0] 85)).cell? ((⟨wr.heap.size, 0, none⟩ : Addr).add j) = some u) := World.news_of_block (cs := #[.int .i64 7, .int .i64 y1, .int .i64 0, .int .i64 0, .string s, .int .i64 X, .slice none 0 0, .bool false, .int .i64 0]) (t := 85) (fr := (0, 0)) (heap_alloc_new wr _)
            have ONE : Hid (∀ u ∈ ([.int .i64 7, .int .i64 (y1 : Int), .int .i64 (0 : Int), .int .i64 (0 : Int), .string s, .int .i64 X, .slice none 0 0, .bool false, .int .i64 (0 : Int)] : List Value), u.oneCell' = true) := by
              intro u hu
              simp only [List.mem_cons, List.not_mem_nil, or_false] at hu
              rcases hu with rfl | rfl | rfl | rfl | rfl | rfl | rfl | rfl | rfl <;> rfl
            have hsz : w.heap.size + 1 ≤ wr.heap.size := by have := BRJ.out.size; omega
            go_wp2_with (at_builtin; refine wpList_append_lies _ rfl _ _ 33 rfl (w.heap.size + 1) 85 i0 _ 9 96 Try.underlying33 HI0.out HZ0.out HZ1.out HZ2.out rfl (by decide) (.slice va DK.length vc) DK.length (ansC DK) rfl OX.out ⟨wr.heap.size, 0, none⟩ 1 1 [.int .i64 7, .int .i64 (y1 : Int), .int .i64 (0 : Int), .int .i64 (0 : Int), .string s, .int .i64 X, .slice none 0 0, .bool false, .int .i64 (0 : Int)] rfl rfl NEW.out ONE.out (by decide) (by unfold maxLen; omega) (by omega) (by rw [SZ.out]; omega) (wr.heap.size + 1) SZ.out ?_; intro g8 cap8 w8 hown8 hgrow8 hat8 hglt8; have O8 := hid hown8; have G8 := hid hgrow8; clear hown8 hgrow8 hat8 hglt8)
            go_roundg (ts.length - (q + 1))
            case measure => omega
            case rel =>
              refine ⟨q + 1, by omega, by omega, by go_num, (show Aside _ from ⟨G8.out.os.trans BRJ.out.os, G8.out.tape.trans BRJ.out.tape, G8.out.output.trans BRJ.out.output, Nat.le_trans (by rw [SZ.out]; have := BRJ.out.size; omega) G8.out.size, fun b hb => (G8.out.block b (by rw [SZ.out]; have := BRJ.out.size; omega) (fun e => by have := (own_block OJ.out e.symm).1; omega)).trans ((B9.out b (by have := BRJ.out.size; omega)).trans (BRJ.out.block b hb))⟩), (show Aside _ from ?_)⟩
              rw [HDK1.out, HN.out, List.length_append, ansC_snoc]
              exact O8.out
    · have hke : k = ts.length := by omega
      have hlti : ¬ (k : Int) < ts.length := by omega
      subst hke
      have HDK := hid hDK
      clear hDK
      go_wp2_with fail
      go_ret
      exact ⟨_, rfl, (by rw [HDK.out]; exact OR.out), B0.out.trans (BR.out.mono B0.out.size)⟩
end Go.Proofs.Ytnfbcmnlloipiaa
namespace Go.Proofs.Ytnfbcmnlloipiaa
set_option linter.unusedVariables false
set_option linter.unusedSimpArgs false
open Go.RowKit Go.Lib Go.Maps Go.Sort
open Tx (MTxn info_parts RowsIn.cells RowCells TxnRow TxnsIn)

/-- What the document knows of a list. -/
def knwD (l : List MTxn) (s : ByteArray) : Knw := ⟨srcN l s (notes l l.length), (longD (rdsN l s (notes l l.length))).1, (longD (rdsN l s (notes l l.length))).2.2⟩
theorem knwD_ts (l : List MTxn) (s : ByteArray) : (knwD l s).ts = (knwN l s (notes l l.length)).ts := (longD_is _).1
theorem find_same (l : List MTxn) (s : ByteArray) (r : MRx) (hr : r ∈ rdsN l s (notes l l.length)) (i : Nat) : findM (knwD l s) r.1 r.2.1 r.2.2 i = findM (knwN l s (notes l l.length)) r.1 r.2.1 r.2.2 i := by
  have hts := knwD_ts l s
  match i with
  | 0 => rfl
  | 1 => rfl
  | 2 => rfl
  | 3 => rfl
  | n + 4 =>
    show (if r.2.2 = (knwD l s).ts.take r.2.2.length then none else some ((4 : Int), ((knwD l s).ti : Int), (0 : Int))) = (if r.2.2 = (knwN l s (notes l l.length)).ts.take r.2.2.length then none else some ((4 : Int), ((knwN l s (notes l l.length)).ti : Int), (0 : Int)))
    rw [hts]
    by_cases h0 : 0 < (knwN l s (notes l l.length)).ts.length
    · have e : (knwD l s).ti = (knwN l s (notes l l.length)).ti := by
        show (longD (rdsN l s (notes l l.length))).1 = (longR (rdsN l s (notes l l.length))).1
        rw [(longD_is _).2 h0]
      rw [e]
    · have hle : r.2.2.length ≤ (knwN l s (notes l l.length)).ts.length := long_max hr
      have e : r.2.2 = [] := List.length_eq_zero_iff.1 (by omega)
      rw [e]
      simp
theorem flat_congr {α β : Type} {f g : α → List β} : ∀ {l : List α}, (∀ x ∈ l, f x = g x) → l.flatMap f = l.flatMap g
  | [], _ => rfl
  | a :: l, h => by
    rw [List.flatMap_cons, List.flatMap_cons, h a (by simp), flat_congr (fun x hx => h x (by simp [hx]))]
theorem upto_same (l : List MTxn) (s : ByteArray) : uptoA (knwD l s) s (rdsN l s (notes l l.length)) 5 0 = uptoA (knwN l s (notes l l.length)) s (rdsN l s (notes l l.length)) 5 0 := by
  unfold uptoA
  rw [List.take_zero, List.flatMap_nil, List.flatMap_nil, List.append_nil, List.append_nil]
  refine flat_congr (fun i _ => ?_)
  unfold rowA
  refine flat_congr (fun r hr => ?_)
  unfold oneA
  rw [find_same l s r hr i]
/-- The document's anomalies are the program's. -/
theorem ano_same (l : List MTxn) (s : ByteArray) : anoM (knwD l s) s (rdsN l s (notes l l.length)) = anoN l s := by
  unfold anoN anoM
  rw [upto_same, knwD_ts]
  rfl
theorem harm_snoc (A : List MAn) (a : MAn) : harmB (A ++ [a]) = (harmB A && (a.1 == 6)) := by simp [harmB]
set_option maxHeartbeats 2000000 in
set_option maxRecDepth 100000 in
theorem ranom_un (w : World) (v : Value) (l : List MTxn) (s : ByteArray) (h : TxnsIn Any w v l) (hG : Good l) (hn : ¬ tellN l s) : Calls Try.prog 16 #[v, .string s] w fun e w' => e = .returned (.slice none 0 0) ∧ Below w.heap.size w w' := by
  have KI := hid (rkind_is w v l s h hG.len hG.ten)
  have UN : Hid (∀ W, Below w.heap.size w W → Calls Try.prog 36 #[v] W fun e w' => ∃ u : Bool, e = .returned (.bool u) ∧ (u = true ↔ uniqN (notes l l.length)) ∧ Below W.heap.size W w') := fun W hb => runiq_is W v l (h.below hb) hG.len hG.ten
  obtain ⟨a1, c1, rfl, _⟩ := RowsIn.cells h (by omega)
  unfold tellN at hn
  clear h hG
  generalize notes l l.length = N at *
  by_cases hk : kindN N s = 1
  · have hu : ¬ uniqN N := fun c => hn ⟨hk, c⟩
    rw [hk] at KI
    have HU := hid hu
    clear hn hk hu
    go_enter Try.func16, Try.ntmps16
    go_wp2_with (first | (go_at_call 35; refine KI.out.mono ?_; rintro e w1 ⟨rfl, b1⟩; have B1 := hid b1; clear b1) | (go_at_call 36; refine (UN.out _ B1.out).mono ?_; rintro e w2 ⟨u, rfl, hu2, b2⟩; have e9 : u = false := (by cases u with | false => rfl | true => exact absurd (hu2.1 rfl) HU.out); subst e9; have B2 := hid (B1.out.trans (b2.mono B1.out.size)); clear b2 hu2))
    go_ret
    exact ⟨rfl, B2.out⟩
  · have hkb : (kindN N s == (1 : Int)) = false := by simpa using hk
    generalize kindN N s = kk at *
    clear hn UN
    go_enter Try.func16, Try.ntmps16
    go_wp2_with (go_at_call 35; refine KI.out.mono ?_; rintro e w1 ⟨rfl, b1⟩; have B1 := hid b1; clear b1)
    go_ret
    exact ⟨rfl, B1.out⟩
end Go.Proofs.Ytnfbcmnlloipiaa
