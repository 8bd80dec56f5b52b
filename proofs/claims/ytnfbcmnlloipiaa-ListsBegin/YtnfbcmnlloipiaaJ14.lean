/-
  A value of a transaction that failed, as the document finds it.
  A value that its writer wrote over, as the document finds it.
  A value that stood in the read before, as the document finds it.
  Two lists of which none begins the other, as the document finds them.
-/
import Derived.Test.YtnfbcmnlloipiaaJ13
import Derived.Deep.RegionHeld3
namespace Go.Proofs.Ytnfbcmnlloipiaa
set_option linter.unusedVariables false
set_option linter.unusedSimpArgs false
open Go.RowKit Go.Lib Go.Maps Go.Sort
open Tx (MTxn info_parts RowsIn.cells RowCells TxnRow TxnsIn)

set_option maxHeartbeats 8000000 in
set_option maxRecDepth 100000 in
theorem one_5 (w : World) (v : Value) (l : List MTxn) (s : ByteArray) (ri rj : Nat) (la : Option Addr) (lc : Nat) (xs : List Int) (ti tj : Nat) (ta : Option Addr) (tc : Nat) (ts : List Int) (h : TxnsIn Any w v l) (hG : Good l) (hu : uniqN (notes l l.length)) (hin : IntsIn Any w (.slice la xs.length lc) xs) (hxl : xs.length ≤ 100000) :
    Calls Try.prog 43 #[v, .string s, .int .i64 5, .agg #[.int .i64 ri, .int .i64 rj, .slice la xs.length lc], .agg #[.int .i64 ti, .int .i64 tj, .slice ta ts.length tc]] w fun e w' => OneP s ri rj (findM ⟨srcN l s (notes l l.length), ti, ts⟩ ri rj xs 2) e ∧ Below w.heap.size w w' := by
  have WT : Hid (∀ W, Below w.heap.size w W → ∀ x, Calls Try.prog 47 #[v, .string s, .int .i64 x] W fun e w' => e = .returned (.tuple #[.agg #[.int .i64 ((srcN l s (notes l l.length) x).getD noSrc).1, .int .i64 ((srcN l s (notes l l.length) x).getD noSrc).2.1], .bool (srcN l s (notes l l.length) x).isSome]) ∧ Below W.heap.size W w') := fun W hb x => writer_is W v l s x (h.below hb) hG hu
  have HS : Hid (∀ x y, srcN l s (notes l l.length) x = some y → y = srcOf l (y.1, y.2.1, default) ∧ y.1 < l.length) := fun x y hy => by
    obtain ⟨z, hz, _, rfl⟩ := src_mem hy
    exact ⟨rfl, (notes_at _ hz).1⟩
  obtain ⟨a1, c1, rfl, hrow⟩ := RowsIn.cells h (by omega)
  obtain ⟨_, hrow⟩ := hrow
  have HROW := hid hrow
  have HT := hid h
  have HG := hid hG
  have HIN := hid hin
  have hxli : (xs.length : Int) ≤ 100000 := by omega
  have S0 := hid (on_start w ri rj la xs.length lc ti tj ta ts.length tc 5 s)
  clear h hG hu hin hrow
  generalize hF : srcN l s (notes l l.length) = F at *
  have HF := hid hF
  clear hF
  go_enter Try.func43, Try.ntmps43
  go_wp2_with fail
  generalize hab : w.heap.size + 1 + 1 + 1 = ab at *
  generalize hzb : w.heap.size + 1 + 1 = zb at *
  generalize (((w.alloc (.cells #[.int .i64 ri, .int .i64 rj, .slice la xs.length lc] 87)).alloc (.cells #[.int .i64 ti, .int .i64 tj, .slice ta ts.length tc] 87)).alloc (.cells #[.int .i64 0, .int .i64 0, .int .i64 0, .int .i64 0, .string ⟨#[]⟩, .int .i64 0, .slice none 0 0, .bool false, .int .i64 0] 85)).alloc (.cells #[.int .i64 5, .int .i64 ri, .int .i64 rj, .int .i64 0, .string s, .int .i64 0, .slice none 0 0, .bool false, .int .i64 0] 85) = W0 at *
  have hza : zb ≠ ab := by omega
  have hra : w.heap.size < ab := by omega
  have hrz : w.heap.size < zb := by omega
  go_loopg [13, 14, 15, 16, 18, 41] xs.length (fun gg _ _ _ _ _ i wr => ∃ k : Nat, k ≤ xs.length ∧ xs.length - k ≤ gg ∧ i = .int .i64 k ∧ Aside (∃ x, On w zb ab ri rj la xs.length lc 5 s x wr) ∧ Aside (∀ j, j < k → abrB F (xs.getD j default) = false))
  case atStart => exact ⟨0, Nat.zero_le _, by omega, rfl, ⟨_, S0.out⟩, fun j hj => by omega⟩
  case round =>
    obtain ⟨k, hk, hgk, rfl, SR, NX⟩ := hrel
    obtain ⟨x0, hOn⟩ := SR.out
    by_cases hlt : k < xs.length
    · have hlti : (k : Int) < xs.length := by omega
      obtain ⟨ao, c', hv, _, hcs⟩ := id HIN.out
      cases hv
      obtain ⟨lb, lo, rfl, _, hcell⟩ := hcs (by omega)
      have xk := (hOn.bl.cell (p := ⟨lb, lo + k, none⟩) (World.block_lt_of_cell? _ _ (hcell k hlt))).trans (hcell k hlt)
      obtain ⟨X, hX⟩ : ∃ X, xs.getD k default = X := ⟨_, rfl⟩
      rw [hX] at xk
      have HX := hid hX
      have a5 : wr.cell? ⟨ab, 5, none⟩ = some (.int .i64 x0) := Lib.cell_of_heap hOn.a12 5
      have f5 : wr.frozen? ⟨ab, 5, none⟩ = false := Lib.frozen_of_heap hOn.a12 5
      have r2 : wr.cell? ⟨w.heap.size, 2, none⟩ = some (.slice (some ⟨lb, lo, none⟩) xs.length lc) := Lib.cell_of_heap hOn.r8 2
      have O1 := hid (hOn.set hza hra X)
      have HOn := hid hOn
      have WTk := hid (WT.out _ O1.out.bl X)
      clear hcs hcell hX hOn SR
      obtain ⟨y, hy⟩ : ∃ y, (F X).getD noSrc = y := ⟨_, rfl⟩
      obtain ⟨q, hq⟩ : ∃ q, (F X).isSome = q := ⟨_, rfl⟩
      rw [hy, hq] at WTk
      obtain ⟨y1, y2, y3, y4⟩ := y
      simp only at WTk
      have HY := hid hy
      have HQ := hid hq
      clear hy hq
      go_upto_region 10 with (go_at_call 47; refine WTk.out.mono ?_; rintro e w1 ⟨rfl, b1⟩; have O2 := hid (O1.out.later b1); clear b1)
      have O3 := hid (O2.out.later (below_box w1 (.cells #[.int .i64 y1, .int .i64 y2] 54)))
      have PB := hid (heap_alloc_new w1 (.cells #[.int .i64 y1, .int .i64 y2] 54))
      clear a5 f5 r2 xk O1 O2 WTk HOn
      generalize w1.alloc (.cells #[.int .i64 y1, .int .i64 y2] 54) = W2 at *
      generalize w1.heap.size = pb at *
      have P0 : W2.cell? ⟨pb, 0, none⟩ = some (.int .i64 y1) := Lib.cell_of_heap PB.out 0
      have P1 : W2.cell? ⟨pb, 1, none⟩ = some (.int .i64 y2) := Lib.cell_of_heap PB.out 1
      have R0 : W2.cell? ⟨w.heap.size, 0, none⟩ = some (.int .i64 ri) := Lib.cell_of_heap O3.out.r8 0
      have R1 : W2.cell? ⟨w.heap.size, 1, none⟩ = some (.int .i64 rj) := Lib.cell_of_heap O3.out.r8 1
      have R2 : W2.cell? ⟨w.heap.size, 2, none⟩ = some (.slice (some ⟨lb, lo, none⟩) xs.length lc) := Lib.cell_of_heap O3.out.r8 2
      cases hS : F X with
      | none =>
        have e1 := HY.out
        have e2 := HQ.out
        rw [hS] at e1 e2
        cases e1
        cases e2
        have NP : Hid (abrB F X = false) := by show _ = _; simp [abrB, hS]
        clear hS
        go_wp2_with fail
        go_roundg (xs.length - (k + 1))
        case measure => omega
        case rel => exact ⟨k + 1, by omega, by omega, by go_num, ⟨X, O3.out⟩, (fun j hj => by by_cases e : j = k; (· rw [e, HX.out]; exact NP.out); (· exact NX.out j (by omega)))⟩
      | some y =>
        have e1 := HY.out
        have e2 := HQ.out
        rw [hS] at e1 e2
        cases e1
        cases e2
        obtain ⟨hy, hy1⟩ := HS.out X _ hS
        simp only at hy1 hy
        have hy3 : y3 = failB (l.getD y1 default).state := by injection hy with _ hy; injection hy with _ hy; injection hy
        have hy1i : (y1 : Int) < l.length := by omega
        have HSX := hid hS
        obtain ⟨tb, to, cs, hta, htb, _, ⟨ov, hcs, hops⟩, hc⟩ := HROW.out y1 hy1
        subst hta
        subst hcs
        obtain ⟨oa, oc, hov, _⟩ := id hops
        subst hov
        have D0 := (O3.out.bl.cell (p := ⟨tb, to + y1 * 5 + 0, none⟩) htb).trans (hc 0 _ rfl)
        have D1 := (O3.out.bl.cell (p := ⟨tb, to + y1 * 5 + 1, none⟩) htb).trans (hc 1 _ rfl)
        have D2 := (O3.out.bl.cell (p := ⟨tb, to + y1 * 5 + 2, none⟩) htb).trans (hc 2 _ rfl)
        have D3 := (O3.out.bl.cell (p := ⟨tb, to + y1 * 5 + 3, none⟩) htb).trans (hc 3 _ rfl)
        have D4 := (O3.out.bl.cell (p := ⟨tb, to + y1 * 5 + 4, none⟩) htb).trans (hc 4 _ rfl)
        simp only [Nat.add_zero] at D0
        have FL := hid (fun W => failed_is (l.getD y1 default).proc (l.getD y1 default).state (l.getD y1 default).since (l.getD y1 default).till oa (l.getD y1 default).ops.length oc W)
        rw [← hy3] at FL
        generalize (l.getD y1 default).proc = xp at *
        generalize (l.getD y1 default).state = xst at *
        generalize (l.getD y1 default).since = xf at *
        generalize (l.getD y1 default).till = xt at *
        generalize (l.getD y1 default).ops.length = xn at *
        clear hc hops hy hy3 hS
        cases y3 with
        | false =>
          have NP : Hid (abrB F X = false) := by show _ = _; simp [abrB, HSX.out]
          go_wp2_with (go_at_call 76; refine (FL.out _).mono ?_; rintro e w3 ⟨rfl, b3⟩; have O4 := hid (O3.out.later b3); have Q0 : w3.cell? ⟨pb, 0, none⟩ = some (.int .i64 y1) := (b3.cell (p := ⟨pb, 0, none⟩) (blt PB.out)).trans P0; clear b3)
          go_roundg (xs.length - (k + 1))
          case measure => omega
          case rel => exact ⟨k + 1, by omega, by omega, by go_num, ⟨X, O4.out⟩, (fun j hj => by by_cases e : j = k; (· rw [e, HX.out]; exact NP.out); (· exact NX.out j (by omega)))⟩
        | true =>
          have NP : Hid (abrB F X = true) := by show _ = _; simp [abrB, HSX.out]
          go_wp2_with (go_at_call 76; refine (FL.out _).mono ?_; rintro e w3 ⟨rfl, b3⟩; have O4 := hid (O3.out.later b3); have Q0 : w3.cell? ⟨pb, 0, none⟩ = some (.int .i64 y1) := (b3.cell (p := ⟨pb, 0, none⟩) (blt PB.out)).trans P0; have A03 : w3.cell? ⟨ab, 0, none⟩ = some (.int .i64 5) := Lib.cell_of_heap O4.out.a12 0; have A13 : w3.cell? ⟨ab, 1, none⟩ = some (.int .i64 ri) := Lib.cell_of_heap O4.out.a12 1; have A23 : w3.cell? ⟨ab, 2, none⟩ = some (.int .i64 rj) := Lib.cell_of_heap O4.out.a12 2; have A33 : w3.cell? ⟨ab, 3, none⟩ = some (.int .i64 0) := Lib.cell_of_heap O4.out.a12 3; have A43 : w3.cell? ⟨ab, 4, none⟩ = some (.string s) := Lib.cell_of_heap O4.out.a12 4; have A53 : w3.cell? ⟨ab, 5, none⟩ = some (.int .i64 X) := Lib.cell_of_heap O4.out.a12 5; have A63 : w3.cell? ⟨ab, 6, none⟩ = some (.slice none 0 0) := Lib.cell_of_heap O4.out.a12 6; have A73 : w3.cell? ⟨ab, 7, none⟩ = some (.bool false) := Lib.cell_of_heap O4.out.a12 7; have A83 : w3.cell? ⟨ab, 8, none⟩ = some (.int .i64 0) := Lib.cell_of_heap O4.out.a12 8; have Y03 : w3.cell? ⟨zb, 0, none⟩ = some (.int .i64 0) := Lib.cell_of_heap O4.out.z10 0; have Y13 : w3.cell? ⟨zb, 1, none⟩ = some (.int .i64 0) := Lib.cell_of_heap O4.out.z10 1; have Y23 : w3.cell? ⟨zb, 2, none⟩ = some (.int .i64 0) := Lib.cell_of_heap O4.out.z10 2; have Y33 : w3.cell? ⟨zb, 3, none⟩ = some (.int .i64 0) := Lib.cell_of_heap O4.out.z10 3; have Y43 : w3.cell? ⟨zb, 4, none⟩ = some (.string ⟨#[]⟩) := Lib.cell_of_heap O4.out.z10 4; have Y53 : w3.cell? ⟨zb, 5, none⟩ = some (.int .i64 0) := Lib.cell_of_heap O4.out.z10 5; have Y63 : w3.cell? ⟨zb, 6, none⟩ = some (.slice none 0 0) := Lib.cell_of_heap O4.out.z10 6; have Y73 : w3.cell? ⟨zb, 7, none⟩ = some (.bool false) := Lib.cell_of_heap O4.out.z10 7; have Y83 : w3.cell? ⟨zb, 8, none⟩ = some (.int .i64 0) := Lib.cell_of_heap O4.out.z10 8; have FZ3 : ∀ i, w3.frozen? ⟨zb, i, none⟩ = false := (fun i => Lib.frozen_of_heap O4.out.z10 i); have FA3 : ∀ i, w3.frozen? ⟨ab, i, none⟩ = false := (fun i => Lib.frozen_of_heap O4.out.a12 i); clear b3)
          refine bodyPost_ret (v := .tuple #[.agg #[.int .i64 5, .int .i64 ri, .int .i64 rj, .int .i64 y1, .string s, .int .i64 X, .slice none 0 0, .bool false, .int .i64 0], .bool true]) (by simp [results, Try.results43, go_sem, Y03, Y13, Y23, Y33, Y43, Y53, Y63, Y73, Y83, hza, hza.symm]) rfl ⟨⟨5, ri, rj, y1, s, X, ?_, ?_⟩, ((((((((((O4.out.bl.setCell (by show w.heap.size ≤ ab; omega) _).setCell (by show w.heap.size ≤ zb; omega) _).setCell (by show w.heap.size ≤ zb; omega) _).setCell (by show w.heap.size ≤ zb; omega) _).setCell (by show w.heap.size ≤ zb; omega) _).setCell (by show w.heap.size ≤ zb; omega) _).setCell (by show w.heap.size ≤ zb; omega) _).setCell (by show w.heap.size ≤ zb; omega) _).setCell (by show w.heap.size ≤ zb; omega) _).setCell (by show w.heap.size ≤ zb; omega) _)⟩
          · have hfn : findM ⟨F, ti, ts⟩ ri rj xs 2 = some (5, (y1 : Int), X) := by
              show (xs.find? (abrB F)).map _ = _
              rw [find_some' (abrB F) default xs k hlt (by rw [HX.out]; exact NP.out) NX.out, HX.out]
              show some ((5 : Int), (((F X).getD noSrc).1 : Int), X) = _
              rw [HSX.out]
              rfl
            rw [hfn]
            rfl
          · intro a ha
            have hfn : findM ⟨F, ti, ts⟩ ri rj xs 2 = some (5, (y1 : Int), X) := by
              show (xs.find? (abrB F)).map _ = _
              rw [find_some' (abrB F) default xs k hlt (by rw [HX.out]; exact NP.out) NX.out, HX.out]
              show some ((5 : Int), (((F X).getD noSrc).1 : Int), X) = _
              rw [HSX.out]
              rfl
            rw [hfn] at ha
            injection ha with ha
            subst ha
            exact ⟨rfl, rfl, rfl, rfl, rfl, rfl⟩
    · have hke : k = xs.length := by omega
      have hlti : ¬ (k : Int) < xs.length := by omega
      subst hke
      have hOn2 := hOn
      have HOn := hid hOn
      have y0 := Lib.cell_of_heap hOn2.z10 0
      have y1 := Lib.cell_of_heap hOn2.z10 1
      have y2 := Lib.cell_of_heap hOn2.z10 2
      have y3 := Lib.cell_of_heap hOn2.z10 3
      have y4 := Lib.cell_of_heap hOn2.z10 4
      have y5 := Lib.cell_of_heap hOn2.z10 5
      have y6 := Lib.cell_of_heap hOn2.z10 6
      have y7 := Lib.cell_of_heap hOn2.z10 7
      have y8 := Lib.cell_of_heap hOn2.z10 8
      simp only [List.getElem?_toArray, List.getElem?_cons_zero, List.getElem?_cons_succ] at y0 y1 y2 y3 y4 y5 y6 y7 y8
      have fz : ∀ i, wr.frozen? ⟨zb, i, none⟩ = false := fun i => Lib.frozen_of_heap hOn2.z10 i
      clear hOn hOn2 SR
      have hfn := show findM ⟨F, ti, ts⟩ ri rj xs 2 = none from (by show (xs.find? (abrB F)).map _ = _; rw [find_none' (abrB F) default xs NX.out]; rfl)
      have HFN := hid hfn
      clear hfn
      go_wp2_with fail
      rw [Tx.setCell_self y0, Tx.setCell_self y1, Tx.setCell_self y2, Tx.setCell_self y3, Tx.setCell_self y4, Tx.setCell_self y5, Tx.setCell_self y6, Tx.setCell_self y7, Tx.setCell_self y8]
      refine bodyPost_ret (v := .tuple #[.agg #[.int .i64 0, .int .i64 0, .int .i64 0, .int .i64 0, .string ⟨#[]⟩, .int .i64 0, .slice none 0 0, .bool false, .int .i64 0], .bool false]) (by simp [results, Try.results43, go_sem, y0, y1, y2, y3, y4, y5, y6, y7, y8]) rfl ⟨⟨0, 0, 0, 0, ⟨#[]⟩, 0, ?_, ?_⟩, HOn.out.bl⟩
      · rw [HFN.out]
        rfl
      · intro a ha
        rw [HFN.out] at ha
        exact absurd ha (by simp)
end Go.Proofs.Ytnfbcmnlloipiaa
namespace Go.Proofs.Ytnfbcmnlloipiaa
set_option linter.unusedVariables false
set_option linter.unusedSimpArgs false
open Go.RowKit Go.Lib Go.Maps Go.Sort
open Tx (MTxn info_parts RowsIn.cells RowCells TxnRow TxnsIn)

/-- The read ends inside of what another transaction wrote. -/
def midB (F : Int → Option MSrc) (ri : Nat) (xs : List Int) (j : Nat) : Bool := decide (j + 1 = xs.length) && (match F (xs.getD j default) with
  | none => false
  | some y => !(y.2.2.2 || decide (y.1 = ri)))
theorem mid_none (F : Int → Option MSrc) (ti : Nat) (ts : List Int) (ri rj : Nat) (xs : List Int) (h : ∀ j, j < xs.length → midB F ri xs j = false) : findM ⟨F, ti, ts⟩ ri rj xs 3 = none := by
  show (if xs.length = 0 then none else _) = none
  by_cases h0 : xs.length = 0
  · rw [if_pos h0]
  · rw [if_neg h0]
    have := h (xs.length - 1) (by omega)
    unfold midB at this
    rw [decide_eq_true (by omega), Bool.true_and] at this
    cases hF : F (xs.getD (xs.length - 1) default) with
    | none => simp only [hF]
    | some y =>
      rw [hF] at this
      simp only [hF]
      simp only [Bool.not_eq_false', Bool.or_eq_true, decide_eq_true_eq] at this
      rw [if_pos this]
set_option maxHeartbeats 8000000 in
set_option maxRecDepth 100000 in
theorem one_6 (w : World) (v : Value) (l : List MTxn) (s : ByteArray) (ri rj : Nat) (la : Option Addr) (lc : Nat) (xs : List Int) (ti tj : Nat) (ta : Option Addr) (tc : Nat) (ts : List Int) (h : TxnsIn Any w v l) (hG : Good l) (hu : uniqN (notes l l.length)) (hin : IntsIn Any w (.slice la xs.length lc) xs) (hxl : xs.length ≤ 100000) :
    Calls Try.prog 43 #[v, .string s, .int .i64 6, .agg #[.int .i64 ri, .int .i64 rj, .slice la xs.length lc], .agg #[.int .i64 ti, .int .i64 tj, .slice ta ts.length tc]] w fun e w' => OneP s ri rj (findM ⟨srcN l s (notes l l.length), ti, ts⟩ ri rj xs 3) e ∧ Below w.heap.size w w' := by
  have WT : Hid (∀ W, Below w.heap.size w W → ∀ x, Calls Try.prog 47 #[v, .string s, .int .i64 x] W fun e w' => e = .returned (.tuple #[.agg #[.int .i64 ((srcN l s (notes l l.length) x).getD noSrc).1, .int .i64 ((srcN l s (notes l l.length) x).getD noSrc).2.1], .bool (srcN l s (notes l l.length) x).isSome]) ∧ Below W.heap.size W w') := fun W hb x => writer_is W v l s x (h.below hb) hG hu
  have HS : Hid (∀ x y, srcN l s (notes l l.length) x = some y → y = srcOf l (y.1, y.2.1, default) ∧ y.1 < l.length) := fun x y hy => by
    obtain ⟨z, hz, _, rfl⟩ := src_mem hy
    exact ⟨rfl, (notes_at _ hz).1⟩
  have FNL : Hid (∀ W, Below w.heap.size w W → ∀ n i : Nat, n < l.length → Calls Try.prog 77 #[v, .agg #[.int .i64 (n : Int), .int .i64 (i : Int)]] W fun e w' => e = .returned (.bool (finB (l.getD n default).ops i)) ∧ Below W.heap.size W w') := fun W hb n i hn => by
    refine (rfinal_is W v l n i (h.below hb) hG.len hG.ten).mono ?_
    rintro e w' ⟨f, rfl, hf, hb'⟩
    have : f = finB (l.getD n default).ops i := by
      rw [Bool.eq_iff_iff, hf, finB_is]
      unfold finL
      constructor
      · intro hh
        simpa using hh.2.2.2
      · intro hh
        exact ⟨by omega, by omega, by omega, by simpa using hh⟩
    rw [this]
    exact ⟨rfl, hb'⟩
  obtain ⟨a1, c1, rfl, hrow⟩ := RowsIn.cells h (by omega)
  obtain ⟨_, hrow⟩ := hrow
  have HROW := hid hrow
  have HT := hid h
  have HG := hid hG
  have HIN := hid hin
  have hxli : (xs.length : Int) ≤ 100000 := by omega
  have S0 := hid (on_start w ri rj la xs.length lc ti tj ta ts.length tc 6 s)
  clear h hG hu hin hrow
  generalize hF : srcN l s (notes l l.length) = F at *
  have HF := hid hF
  clear hF
  go_enter Try.func43, Try.ntmps43
  go_wp2_with fail
  generalize hab : w.heap.size + 1 + 1 + 1 = ab at *
  generalize hzb : w.heap.size + 1 + 1 = zb at *
  generalize (((w.alloc (.cells #[.int .i64 ri, .int .i64 rj, .slice la xs.length lc] 87)).alloc (.cells #[.int .i64 ti, .int .i64 tj, .slice ta ts.length tc] 87)).alloc (.cells #[.int .i64 0, .int .i64 0, .int .i64 0, .int .i64 0, .string ⟨#[]⟩, .int .i64 0, .slice none 0 0, .bool false, .int .i64 0] 85)).alloc (.cells #[.int .i64 6, .int .i64 ri, .int .i64 rj, .int .i64 0, .string s, .int .i64 0, .slice none 0 0, .bool false, .int .i64 0] 85) = W0 at *
  have hza : zb ≠ ab := by omega
  have hra : w.heap.size < ab := by omega
  have hrz : w.heap.size < zb := by omega
  go_loopg [13, 14, 15, 16, 18, 41] xs.length (fun gg _ _ _ _ _ i wr => ∃ k : Nat, k ≤ xs.length ∧ xs.length - k ≤ gg ∧ i = .int .i64 k ∧ Aside (∃ x, On w zb ab ri rj la xs.length lc 6 s x wr) ∧ Aside (∀ j, j < k → midB F ri xs j = false))
  case atStart => exact ⟨0, Nat.zero_le _, by omega, rfl, ⟨_, S0.out⟩, fun j hj => by omega⟩
  case round =>
    obtain ⟨k, hk, hgk, rfl, SR, NX⟩ := hrel
    obtain ⟨x0, hOn⟩ := SR.out
    by_cases hlt : k < xs.length
    · have hlti : (k : Int) < xs.length := by omega
      obtain ⟨ao, c', hv, _, hcs⟩ := id HIN.out
      cases hv
      obtain ⟨lb, lo, rfl, _, hcell⟩ := hcs (by omega)
      have xk := (hOn.bl.cell (p := ⟨lb, lo + k, none⟩) (World.block_lt_of_cell? _ _ (hcell k hlt))).trans (hcell k hlt)
      obtain ⟨X, hX⟩ : ∃ X, xs.getD k default = X := ⟨_, rfl⟩
      rw [hX] at xk
      have HX := hid hX
      have a5 : wr.cell? ⟨ab, 5, none⟩ = some (.int .i64 x0) := Lib.cell_of_heap hOn.a12 5
      have f5 : wr.frozen? ⟨ab, 5, none⟩ = false := Lib.frozen_of_heap hOn.a12 5
      have r2 : wr.cell? ⟨w.heap.size, 2, none⟩ = some (.slice (some ⟨lb, lo, none⟩) xs.length lc) := Lib.cell_of_heap hOn.r8 2
      have O1 := hid (hOn.set hza hra X)
      have HOn := hid hOn
      have WTk := hid (WT.out _ O1.out.bl X)
      clear hcs hcell hX hOn SR
      obtain ⟨y, hy⟩ : ∃ y, (F X).getD noSrc = y := ⟨_, rfl⟩
      obtain ⟨q, hq⟩ : ∃ q, (F X).isSome = q := ⟨_, rfl⟩
      rw [hy, hq] at WTk
      obtain ⟨y1, y2, y3, y4⟩ := y
      simp only at WTk
      have HY := hid hy
      have HQ := hid hq
      clear hy hq
      go_upto_region 10 with (go_at_call 47; refine WTk.out.mono ?_; rintro e w1 ⟨rfl, b1⟩; have O2 := hid (O1.out.later b1); clear b1)
      have O3 := hid (O2.out.later (below_box w1 (.cells #[.int .i64 y1, .int .i64 y2] 54)))
      have PB := hid (heap_alloc_new w1 (.cells #[.int .i64 y1, .int .i64 y2] 54))
      clear a5 f5 r2 xk O1 O2 WTk HOn
      generalize w1.alloc (.cells #[.int .i64 y1, .int .i64 y2] 54) = W2 at *
      generalize w1.heap.size = pb at *
      have P0 : W2.cell? ⟨pb, 0, none⟩ = some (.int .i64 y1) := Lib.cell_of_heap PB.out 0
      have P1 : W2.cell? ⟨pb, 1, none⟩ = some (.int .i64 y2) := Lib.cell_of_heap PB.out 1
      have R0 : W2.cell? ⟨w.heap.size, 0, none⟩ = some (.int .i64 ri) := Lib.cell_of_heap O3.out.r8 0
      have R1 : W2.cell? ⟨w.heap.size, 1, none⟩ = some (.int .i64 rj) := Lib.cell_of_heap O3.out.r8 1
      have R2 : W2.cell? ⟨w.heap.size, 2, none⟩ = some (.slice (some ⟨lb, lo, none⟩) xs.length lc) := Lib.cell_of_heap O3.out.r8 2
      by_cases hkl : k + 1 = xs.length
      · have hkb : ((k : Int) == (xs.length : Int) - 1) = true := by rw [beq_iff_eq]; omega
        cases hS : F X with
        | none =>
          have e1 := HY.out
          have e2 := HQ.out
          rw [hS] at e1 e2
          cases e1
          cases e2
          have NP : Hid (midB F ri xs k = false) := by show _ = _; simp only [midB, HX.out, hS]; simp
          clear hS
          go_wp2_with fail
          go_roundg (xs.length - (k + 1))
          case measure => omega
          case rel => exact ⟨k + 1, by omega, by omega, by go_num, ⟨X, O3.out⟩, (fun j hj => by by_cases e : j = k; (· rw [e]; exact NP.out); (· exact NX.out j (by omega)))⟩
        | some y =>
          have e1 := HY.out
          have e2 := HQ.out
          rw [hS] at e1 e2
          cases e1
          cases e2
          obtain ⟨hy, hy1⟩ := HS.out X _ hS
          simp only at hy1 hy
          have HSX := hid hS
          have hy4 : y4 = finB (l.getD y1 default).ops y2 := by injection hy with _ hy; injection hy with _ hy; injection hy
          have FN := hid (fun W hb => FNL.out W hb y1 y2 hy1)
          rw [← hy4] at FN
          clear hy hy4 hS
          by_cases he : y1 = ri
          · have heb : ((y1 : Int) == (ri : Int)) = true := by rw [beq_iff_eq]; omega
            have NP : Hid (midB F ri xs k = false) := by show _ = _; simp only [midB, HX.out, HSX.out]; simp [he]
            go_wp2_with fail
            go_roundg (xs.length - (k + 1))
            case measure => omega
            case rel => exact ⟨k + 1, by omega, by omega, by go_num, ⟨X, O3.out⟩, (fun j hj => by by_cases e : j = k; (· rw [e]; exact NP.out); (· exact NX.out j (by omega)))⟩
          · have heb : ((y1 : Int) == (ri : Int)) = false := by rw [beq_eq_false_iff_ne]; omega
            cases y4 with
            | true =>
              have NP : Hid (midB F ri xs k = false) := by show _ = _; simp only [midB, HX.out, HSX.out]; simp
              go_wp2_with (go_at_call 77; refine (FN.out _ O3.out.bl).mono ?_; rintro e w3 ⟨rfl, b3⟩; have O4 := hid (O3.out.later b3); have Q0 : w3.cell? ⟨pb, 0, none⟩ = some (.int .i64 y1) := (b3.cell (p := ⟨pb, 0, none⟩) (blt PB.out)).trans P0; clear b3)
              go_roundg (xs.length - (k + 1))
              case measure => omega
              case rel => exact ⟨k + 1, by omega, by omega, by go_num, ⟨X, O4.out⟩, (fun j hj => by by_cases e : j = k; (· rw [e]; exact NP.out); (· exact NX.out j (by omega)))⟩
            | false =>
              go_wp2_with (go_at_call 77; refine (FN.out _ O3.out.bl).mono ?_; rintro e w3 ⟨rfl, b3⟩; have O4 := hid (O3.out.later b3); have Q0 : w3.cell? ⟨pb, 0, none⟩ = some (.int .i64 y1) := (b3.cell (p := ⟨pb, 0, none⟩) (blt PB.out)).trans P0; have A03 : w3.cell? ⟨ab, 0, none⟩ = some (.int .i64 6) := Lib.cell_of_heap O4.out.a12 0; have A13 : w3.cell? ⟨ab, 1, none⟩ = some (.int .i64 ri) := Lib.cell_of_heap O4.out.a12 1; have A23 : w3.cell? ⟨ab, 2, none⟩ = some (.int .i64 rj) := Lib.cell_of_heap O4.out.a12 2; have A33 : w3.cell? ⟨ab, 3, none⟩ = some (.int .i64 0) := Lib.cell_of_heap O4.out.a12 3; have A43 : w3.cell? ⟨ab, 4, none⟩ = some (.string s) := Lib.cell_of_heap O4.out.a12 4; have A53 : w3.cell? ⟨ab, 5, none⟩ = some (.int .i64 X) := Lib.cell_of_heap O4.out.a12 5; have A63 : w3.cell? ⟨ab, 6, none⟩ = some (.slice none 0 0) := Lib.cell_of_heap O4.out.a12 6; have A73 : w3.cell? ⟨ab, 7, none⟩ = some (.bool false) := Lib.cell_of_heap O4.out.a12 7; have A83 : w3.cell? ⟨ab, 8, none⟩ = some (.int .i64 0) := Lib.cell_of_heap O4.out.a12 8; have Y03 : w3.cell? ⟨zb, 0, none⟩ = some (.int .i64 0) := Lib.cell_of_heap O4.out.z10 0; have Y13 : w3.cell? ⟨zb, 1, none⟩ = some (.int .i64 0) := Lib.cell_of_heap O4.out.z10 1; have Y23 : w3.cell? ⟨zb, 2, none⟩ = some (.int .i64 0) := Lib.cell_of_heap O4.out.z10 2; have Y33 : w3.cell? ⟨zb, 3, none⟩ = some (.int .i64 0) := Lib.cell_of_heap O4.out.z10 3; have Y43 : w3.cell? ⟨zb, 4, none⟩ = some (.string ⟨#[]⟩) := Lib.cell_of_heap O4.out.z10 4; have Y53 : w3.cell? ⟨zb, 5, none⟩ = some (.int .i64 0) := Lib.cell_of_heap O4.out.z10 5; have Y63 : w3.cell? ⟨zb, 6, none⟩ = some (.slice none 0 0) := Lib.cell_of_heap O4.out.z10 6; have Y73 : w3.cell? ⟨zb, 7, none⟩ = some (.bool false) := Lib.cell_of_heap O4.out.z10 7; have Y83 : w3.cell? ⟨zb, 8, none⟩ = some (.int .i64 0) := Lib.cell_of_heap O4.out.z10 8; have FZ3 : ∀ i, w3.frozen? ⟨zb, i, none⟩ = false := (fun i => Lib.frozen_of_heap O4.out.z10 i); have FA3 : ∀ i, w3.frozen? ⟨ab, i, none⟩ = false := (fun i => Lib.frozen_of_heap O4.out.a12 i); clear b3)
              refine bodyPost_ret (v := .tuple #[.agg #[.int .i64 6, .int .i64 ri, .int .i64 rj, .int .i64 y1, .string s, .int .i64 X, .slice none 0 0, .bool false, .int .i64 0], .bool true]) (by simp [results, Try.results43, go_sem, Y03, Y13, Y23, Y33, Y43, Y53, Y63, Y73, Y83, hza, hza.symm]) rfl ⟨⟨6, ri, rj, y1, s, X, ?_, ?_⟩, ((((((((((O4.out.bl.setCell (by show w.heap.size ≤ ab; omega) _).setCell (by show w.heap.size ≤ zb; omega) _).setCell (by show w.heap.size ≤ zb; omega) _).setCell (by show w.heap.size ≤ zb; omega) _).setCell (by show w.heap.size ≤ zb; omega) _).setCell (by show w.heap.size ≤ zb; omega) _).setCell (by show w.heap.size ≤ zb; omega) _).setCell (by show w.heap.size ≤ zb; omega) _).setCell (by show w.heap.size ≤ zb; omega) _).setCell (by show w.heap.size ≤ zb; omega) _)⟩
              · have hfn : findM ⟨F, ti, ts⟩ ri rj xs 3 = some (6, (y1 : Int), X) := by
                  have e1 : xs.length - 1 = k := by omega
                  have e0 : ¬ xs.length = 0 := by omega
                  simp only [findM, e0, if_false, e1, HX.out, HSX.out]
                  rw [if_neg (by simp [he])]
                rw [hfn]
                rfl
              · intro a ha
                have hfn : findM ⟨F, ti, ts⟩ ri rj xs 3 = some (6, (y1 : Int), X) := by
                  have e1 : xs.length - 1 = k := by omega
                  have e0 : ¬ xs.length = 0 := by omega
                  simp only [findM, e0, if_false, e1, HX.out, HSX.out]
                  rw [if_neg (by simp [he])]
                rw [hfn] at ha
                injection ha with ha
                subst ha
                exact ⟨rfl, rfl, rfl, rfl, rfl, rfl⟩
      · have hkb : ((k : Int) == (xs.length : Int) - 1) = false := by rw [beq_eq_false_iff_ne]; omega
        have NP : Hid (midB F ri xs k = false) := by show _ = _; simp [midB, hkl]
        go_wp2_with fail
        go_roundg (xs.length - (k + 1))
        case measure => omega
        case rel => exact ⟨k + 1, by omega, by omega, by go_num, ⟨X, O3.out⟩, (fun j hj => by by_cases e : j = k; (· rw [e]; exact NP.out); (· exact NX.out j (by omega)))⟩
    · have hke : k = xs.length := by omega
      have hlti : ¬ (k : Int) < xs.length := by omega
      subst hke
      have hOn2 := hOn
      have HOn := hid hOn
      have y0 := Lib.cell_of_heap hOn2.z10 0
      have y1 := Lib.cell_of_heap hOn2.z10 1
      have y2 := Lib.cell_of_heap hOn2.z10 2
      have y3 := Lib.cell_of_heap hOn2.z10 3
      have y4 := Lib.cell_of_heap hOn2.z10 4
      have y5 := Lib.cell_of_heap hOn2.z10 5
      have y6 := Lib.cell_of_heap hOn2.z10 6
      have y7 := Lib.cell_of_heap hOn2.z10 7
      have y8 := Lib.cell_of_heap hOn2.z10 8
      simp only [List.getElem?_toArray, List.getElem?_cons_zero, List.getElem?_cons_succ] at y0 y1 y2 y3 y4 y5 y6 y7 y8
      have fz : ∀ i, wr.frozen? ⟨zb, i, none⟩ = false := fun i => Lib.frozen_of_heap hOn2.z10 i
      clear hOn hOn2 SR
      have hfn := show findM ⟨F, ti, ts⟩ ri rj xs 3 = none from (mid_none F ti ts ri rj xs NX.out)
      have HFN := hid hfn
      clear hfn
      go_wp2_with fail
      rw [Tx.setCell_self y0, Tx.setCell_self y1, Tx.setCell_self y2, Tx.setCell_self y3, Tx.setCell_self y4, Tx.setCell_self y5, Tx.setCell_self y6, Tx.setCell_self y7, Tx.setCell_self y8]
      refine bodyPost_ret (v := .tuple #[.agg #[.int .i64 0, .int .i64 0, .int .i64 0, .int .i64 0, .string ⟨#[]⟩, .int .i64 0, .slice none 0 0, .bool false, .int .i64 0], .bool false]) (by simp [results, Try.results43, go_sem, y0, y1, y2, y3, y4, y5, y6, y7, y8]) rfl ⟨⟨0, 0, 0, 0, ⟨#[]⟩, 0, ?_, ?_⟩, HOn.out.bl⟩
      · rw [HFN.out]
        rfl
      · intro a ha
        rw [HFN.out] at ha
        exact absurd ha (by simp)
end Go.Proofs.Ytnfbcmnlloipiaa
namespace Go.Proofs.Ytnfbcmnlloipiaa
set_option linter.unusedVariables false
set_option linter.unusedSimpArgs false
open Go.RowKit Go.Lib Go.Maps Go.Sort
open Tx (MTxn info_parts RowsIn.cells RowCells TxnRow TxnsIn)

theorem rng_get (n j : Nat) (h : j < n) : (List.range n).getD j 0 = j := by simp [List.getD, h]
theorem rng_find (p : Nat → Bool) (n k : Nat) (hk : k < n) (h1 : p k = true) (h2 : ∀ j, j < k → p j = false) : (List.range n).find? p = some k := by
  rw [find_some' p 0 (List.range n) k (by simpa using hk) (by rw [rng_get n k hk]; exact h1) (fun j hj => by rw [rng_get n j (by omega)]; exact h2 j hj), rng_get n k hk]
theorem rng_none (p : Nat → Bool) (n : Nat) (h : ∀ j, j < n → p j = false) : (List.range n).find? p = none := find_none' p 0 _ (fun j hj => by
  have hj' : j < n := by simpa using hj
  rw [rng_get n j hj']
  exact h j hj')
theorem tw_yes (xs : List Int) (k q : Nat) (hq : q < k) (hk : k < xs.length) (h : xs.getD q default = xs.getD k default) : twB xs k = true := by
  unfold twB cntK
  rw [decide_eq_true_eq, ← h]
  refine List.count_pos_iff.2 ?_
  rw [List.mem_iff_getElem]
  exact ⟨q, by simp; omega, by simp [List.getD, List.getElem?_eq_getElem (show q < xs.length by omega)]⟩
theorem tw_no (xs : List Int) (k : Nat) (h : ∀ j, j < k → xs.getD j default ≠ xs.getD k default) : twB xs k = false := by
  unfold twB cntK
  rw [decide_eq_false_iff_not]
  intro c
  obtain ⟨j, hj, e⟩ := List.mem_iff_getElem.1 (List.count_pos_iff.1 c)
  have hj1 : j < min k xs.length := by simpa using hj
  have hj2 : j < k ∧ j < xs.length := by omega
  refine h j hj2.1 ?_
  rw [← e]
  simp [List.getD, List.getElem?_eq_getElem hj2.2]
set_option maxHeartbeats 8000000 in
set_option maxRecDepth 100000 in
theorem one_3 (w : World) (v : Value) (l : List MTxn) (s : ByteArray) (ri rj : Nat) (la : Option Addr) (lc : Nat) (xs : List Int) (ti tj : Nat) (ta : Option Addr) (tc : Nat) (ts : List Int) (h : TxnsIn Any w v l) (hG : Good l) (hu : uniqN (notes l l.length)) (hin : IntsIn Any w (.slice la xs.length lc) xs) (hxl : xs.length ≤ 100000) :
    Calls Try.prog 43 #[v, .string s, .int .i64 3, .agg #[.int .i64 ri, .int .i64 rj, .slice la xs.length lc], .agg #[.int .i64 ti, .int .i64 tj, .slice ta ts.length tc]] w fun e w' => OneP s ri rj (findM ⟨srcN l s (notes l l.length), ti, ts⟩ ri rj xs 0) e ∧ Below w.heap.size w w' := by
  have WT : Hid (∀ W, Below w.heap.size w W → ∀ x, Calls Try.prog 47 #[v, .string s, .int .i64 x] W fun e w' => e = .returned (.tuple #[.agg #[.int .i64 ((srcN l s (notes l l.length) x).getD noSrc).1, .int .i64 ((srcN l s (notes l l.length) x).getD noSrc).2.1], .bool (srcN l s (notes l l.length) x).isSome]) ∧ Below W.heap.size W w') := fun W hb x => writer_is W v l s x (h.below hb) hG hu
  have HS : Hid (∀ x y, srcN l s (notes l l.length) x = some y → y = srcOf l (y.1, y.2.1, default) ∧ y.1 < l.length) := fun x y hy => by
    obtain ⟨z, hz, _, rfl⟩ := src_mem hy
    exact ⟨rfl, (notes_at _ hz).1⟩
  obtain ⟨a1, c1, rfl, hrow⟩ := RowsIn.cells h (by omega)
  obtain ⟨_, hrow⟩ := hrow
  have HROW := hid hrow
  have HT := hid h
  have HG := hid hG
  have HIN := hid hin
  have hxli : (xs.length : Int) ≤ 100000 := by omega
  have S0 := hid (on_start w ri rj la xs.length lc ti tj ta ts.length tc 3 s)
  clear h hG hu hin hrow
  generalize hF : srcN l s (notes l l.length) = F at *
  have HF := hid hF
  clear hF
  go_enter Try.func43, Try.ntmps43
  go_wp2_with fail
  generalize hab : w.heap.size + 1 + 1 + 1 = ab at *
  generalize hzb : w.heap.size + 1 + 1 = zb at *
  generalize (((w.alloc (.cells #[.int .i64 ri, .int .i64 rj, .slice la xs.length lc] 87)).alloc (.cells #[.int .i64 ti, .int .i64 tj, .slice ta ts.length tc] 87)).alloc (.cells #[.int .i64 0, .int .i64 0, .int .i64 0, .int .i64 0, .string ⟨#[]⟩, .int .i64 0, .slice none 0 0, .bool false, .int .i64 0] 85)).alloc (.cells #[.int .i64 3, .int .i64 ri, .int .i64 rj, .int .i64 0, .string s, .int .i64 0, .slice none 0 0, .bool false, .int .i64 0] 85) = W0 at *
  have hza : zb ≠ ab := by omega
  have hra : w.heap.size < ab := by omega
  have hrz : w.heap.size < zb := by omega
  go_loopg [13, 14, 15, 16, 18, 41] xs.length (fun gg _ _ _ _ _ i wr => ∃ k : Nat, k ≤ xs.length ∧ xs.length - k ≤ gg ∧ i = .int .i64 k ∧ Aside (∃ x, On w zb ab ri rj la xs.length lc 3 s x wr) ∧ Aside (∀ j, j < k → twB xs j = false))
  case atStart => exact ⟨0, Nat.zero_le _, by omega, rfl, ⟨_, S0.out⟩, fun j hj => by omega⟩
  case round =>
    obtain ⟨k, hk, hgk, rfl, SR, NX⟩ := hrel
    obtain ⟨x0, hOn⟩ := SR.out
    by_cases hlt : k < xs.length
    · have hlti : (k : Int) < xs.length := by omega
      obtain ⟨ao, c', hv, _, hcs⟩ := id HIN.out
      cases hv
      obtain ⟨lb, lo, rfl, _, hcell⟩ := hcs (by omega)
      have xk := (hOn.bl.cell (p := ⟨lb, lo + k, none⟩) (World.block_lt_of_cell? _ _ (hcell k hlt))).trans (hcell k hlt)
      obtain ⟨X, hX⟩ : ∃ X, xs.getD k default = X := ⟨_, rfl⟩
      rw [hX] at xk
      have HX := hid hX
      have a5 : wr.cell? ⟨ab, 5, none⟩ = some (.int .i64 x0) := Lib.cell_of_heap hOn.a12 5
      have f5 : wr.frozen? ⟨ab, 5, none⟩ = false := Lib.frozen_of_heap hOn.a12 5
      have r2 : wr.cell? ⟨w.heap.size, 2, none⟩ = some (.slice (some ⟨lb, lo, none⟩) xs.length lc) := Lib.cell_of_heap hOn.r8 2
      have O1 := hid (hOn.set hza hra X)
      have HOn := hid hOn
      have WTk := hid (WT.out _ O1.out.bl X)
      clear hcs hcell hX hOn SR
      obtain ⟨y, hy⟩ : ∃ y, (F X).getD noSrc = y := ⟨_, rfl⟩
      obtain ⟨q, hq⟩ : ∃ q, (F X).isSome = q := ⟨_, rfl⟩
      rw [hy, hq] at WTk
      obtain ⟨y1, y2, y3, y4⟩ := y
      simp only at WTk
      have HY := hid hy
      have HQ := hid hq
      clear hy hq
      go_upto_region 10 with (go_at_call 47; refine WTk.out.mono ?_; rintro e w1 ⟨rfl, b1⟩; have O2 := hid (O1.out.later b1); clear b1)
      have O3 := hid (O2.out.later (below_box w1 (.cells #[.int .i64 y1, .int .i64 y2] 54)))
      have PB := hid (heap_alloc_new w1 (.cells #[.int .i64 y1, .int .i64 y2] 54))
      clear a5 f5 r2 xk O1 O2 WTk HOn
      generalize w1.alloc (.cells #[.int .i64 y1, .int .i64 y2] 54) = W2 at *
      generalize w1.heap.size = pb at *
      have P0 : W2.cell? ⟨pb, 0, none⟩ = some (.int .i64 y1) := Lib.cell_of_heap PB.out 0
      have P1 : W2.cell? ⟨pb, 1, none⟩ = some (.int .i64 y2) := Lib.cell_of_heap PB.out 1
      have R0 : W2.cell? ⟨w.heap.size, 0, none⟩ = some (.int .i64 ri) := Lib.cell_of_heap O3.out.r8 0
      have R1 : W2.cell? ⟨w.heap.size, 1, none⟩ = some (.int .i64 rj) := Lib.cell_of_heap O3.out.r8 1
      have R2 : W2.cell? ⟨w.heap.size, 2, none⟩ = some (.slice (some ⟨lb, lo, none⟩) xs.length lc) := Lib.cell_of_heap O3.out.r8 2
      have LC : Hid (∀ q, q < xs.length → W2.cell? ⟨lb, lo + q, none⟩ = some (.int .i64 (xs.getD q default))) := fun q hq => by
        obtain ⟨ao, c', hv, _, hcs⟩ := id HIN.out
        cases hv
        obtain ⟨lb', lo', hl, _, hcell⟩ := hcs (by omega)
        cases hl
        exact (O3.out.bl.cell (p := ⟨lb, lo + q, none⟩) (World.block_lt_of_cell? _ _ (hcell q hq))).trans (hcell q hq)
      have hkc : (k : Int) ≤ lc := by
        obtain ⟨ao, c', hv, hcc, _⟩ := id HIN.out
        cases hv
        omega
      go_wp2_with fail
      go_loopg [18, 63] k (fun gg _ i wi => ∃ q : Nat, q ≤ k ∧ k - q ≤ gg ∧ i = .int .i64 q ∧ Aside (wi = W2) ∧ Aside (∀ j, j < q → xs.getD j default ≠ X))
      case atStart => exact ⟨0, Nat.zero_le _, by omega, rfl, rfl, fun j hj => by omega⟩
      case round =>
        obtain ⟨q, hqk, hgq, rfl, EW, NQ⟩ := hrel
        have ew : wr = W2 := EW.out
        subst ew
        by_cases hq1 : q < k
        · have hq1i : (q : Int) < k := by omega
          have xq := LC.out q (by omega)
          obtain ⟨U, hU⟩ : ∃ U, xs.getD q default = U := ⟨_, rfl⟩
          rw [hU] at xq
          have HU := hid hU
          clear hU
          by_cases hUX : U = X
          · subst hUX
            have hub : (U == U) = true := by simp
            have NP : Hid (twB xs k = true) := tw_yes xs k q hq1 hlt (by rw [HU.out, HX.out])
            have A0 : wr.cell? ⟨ab, 0, none⟩ = some (.int .i64 3) := Lib.cell_of_heap O3.out.a12 0
            have A1 : wr.cell? ⟨ab, 1, none⟩ = some (.int .i64 ri) := Lib.cell_of_heap O3.out.a12 1
            have A2 : wr.cell? ⟨ab, 2, none⟩ = some (.int .i64 rj) := Lib.cell_of_heap O3.out.a12 2
            have A3 : wr.cell? ⟨ab, 3, none⟩ = some (.int .i64 0) := Lib.cell_of_heap O3.out.a12 3
            have A4 : wr.cell? ⟨ab, 4, none⟩ = some (.string s) := Lib.cell_of_heap O3.out.a12 4
            have A5 : wr.cell? ⟨ab, 5, none⟩ = some (.int .i64 U) := Lib.cell_of_heap O3.out.a12 5
            have A6 : wr.cell? ⟨ab, 6, none⟩ = some (.slice none 0 0) := Lib.cell_of_heap O3.out.a12 6
            have A7 : wr.cell? ⟨ab, 7, none⟩ = some (.bool false) := Lib.cell_of_heap O3.out.a12 7
            have A8 : wr.cell? ⟨ab, 8, none⟩ = some (.int .i64 0) := Lib.cell_of_heap O3.out.a12 8
            have Y0 : wr.cell? ⟨zb, 0, none⟩ = some (.int .i64 0) := Lib.cell_of_heap O3.out.z10 0
            have Y1 : wr.cell? ⟨zb, 1, none⟩ = some (.int .i64 0) := Lib.cell_of_heap O3.out.z10 1
            have Y2 : wr.cell? ⟨zb, 2, none⟩ = some (.int .i64 0) := Lib.cell_of_heap O3.out.z10 2
            have Y3 : wr.cell? ⟨zb, 3, none⟩ = some (.int .i64 0) := Lib.cell_of_heap O3.out.z10 3
            have Y4 : wr.cell? ⟨zb, 4, none⟩ = some (.string ⟨#[]⟩) := Lib.cell_of_heap O3.out.z10 4
            have Y5 : wr.cell? ⟨zb, 5, none⟩ = some (.int .i64 0) := Lib.cell_of_heap O3.out.z10 5
            have Y6 : wr.cell? ⟨zb, 6, none⟩ = some (.slice none 0 0) := Lib.cell_of_heap O3.out.z10 6
            have Y7 : wr.cell? ⟨zb, 7, none⟩ = some (.bool false) := Lib.cell_of_heap O3.out.z10 7
            have Y8 : wr.cell? ⟨zb, 8, none⟩ = some (.int .i64 0) := Lib.cell_of_heap O3.out.z10 8
            have FZ : ∀ i, wr.frozen? ⟨zb, i, none⟩ = false := (fun i => Lib.frozen_of_heap O3.out.z10 i)
            have FA : ∀ i, wr.frozen? ⟨ab, i, none⟩ = false := (fun i => Lib.frozen_of_heap O3.out.a12 i)
            go_wp2_with fail
            refine bodyPost_ret (v := .tuple #[.agg #[.int .i64 3, .int .i64 ri, .int .i64 rj, .int .i64 0, .string s, .int .i64 U, .slice none 0 0, .bool false, .int .i64 0], .bool true]) (by simp [results, Try.results43, go_sem, Y0, Y1, Y2, Y3, Y4, Y5, Y6, Y7, Y8, hza, hza.symm]) rfl ⟨⟨3, ri, rj, 0, s, U, ?_, ?_⟩, (((((((((O3.out.bl.setCell (by show w.heap.size ≤ zb; omega) _).setCell (by show w.heap.size ≤ zb; omega) _).setCell (by show w.heap.size ≤ zb; omega) _).setCell (by show w.heap.size ≤ zb; omega) _).setCell (by show w.heap.size ≤ zb; omega) _).setCell (by show w.heap.size ≤ zb; omega) _).setCell (by show w.heap.size ≤ zb; omega) _).setCell (by show w.heap.size ≤ zb; omega) _).setCell (by show w.heap.size ≤ zb; omega) _)⟩
            · have hfn : findM ⟨F, ti, ts⟩ ri rj xs 0 = some (3, 0, U) := by
                show ((List.range xs.length).find? (twB xs)).map _ = _
                rw [rng_find (twB xs) xs.length k hlt NP.out NX.out]
                show some ((3 : Int), (0 : Int), xs.getD k default) = _
                rw [HX.out]
              rw [hfn]
              rfl
            · intro a ha
              have hfn : findM ⟨F, ti, ts⟩ ri rj xs 0 = some (3, 0, U) := by
                show ((List.range xs.length).find? (twB xs)).map _ = _
                rw [rng_find (twB xs) xs.length k hlt NP.out NX.out]
                show some ((3 : Int), (0 : Int), xs.getD k default) = _
                rw [HX.out]
              rw [hfn] at ha
              injection ha with ha
              subst ha
              exact ⟨rfl, rfl, rfl, rfl, rfl, rfl⟩
          · have hub : (U == X) = false := by simpa using hUX
            go_wp2_with fail
            go_roundg (k - (q + 1))
            case measure => omega
            case rel => exact ⟨q + 1, by omega, by omega, by go_num, rfl, (fun j hj => by by_cases e : j = q; (· rw [e, HU.out]; exact hUX); (· exact NQ.out j (by omega)))⟩
        · have hqe : q = k := by omega
          have hq1i : ¬ (q : Int) < k := by omega
          subst hqe
          have NP : Hid (twB xs q = false) := tw_no xs q (by rw [HX.out]; exact NQ.out)
          go_wp2_with fail
          go_roundg (xs.length - (q + 1))
          case measure => omega
          case rel => exact ⟨q + 1, by omega, by omega, by go_num, ⟨X, O3.out⟩, (fun j hj => by by_cases e : j = q; (· rw [e]; exact NP.out); (· exact NX.out j (by omega)))⟩
    · have hke : k = xs.length := by omega
      have hlti : ¬ (k : Int) < xs.length := by omega
      subst hke
      have hOn2 := hOn
      have HOn := hid hOn
      have y0 := Lib.cell_of_heap hOn2.z10 0
      have y1 := Lib.cell_of_heap hOn2.z10 1
      have y2 := Lib.cell_of_heap hOn2.z10 2
      have y3 := Lib.cell_of_heap hOn2.z10 3
      have y4 := Lib.cell_of_heap hOn2.z10 4
      have y5 := Lib.cell_of_heap hOn2.z10 5
      have y6 := Lib.cell_of_heap hOn2.z10 6
      have y7 := Lib.cell_of_heap hOn2.z10 7
      have y8 := Lib.cell_of_heap hOn2.z10 8
      simp only [List.getElem?_toArray, List.getElem?_cons_zero, List.getElem?_cons_succ] at y0 y1 y2 y3 y4 y5 y6 y7 y8
      have fz : ∀ i, wr.frozen? ⟨zb, i, none⟩ = false := fun i => Lib.frozen_of_heap hOn2.z10 i
      clear hOn hOn2 SR
      have hfn := show findM ⟨F, ti, ts⟩ ri rj xs 0 = none from (by show ((List.range xs.length).find? (twB xs)).map _ = _; rw [rng_none (twB xs) xs.length NX.out]; rfl)
      have HFN := hid hfn
      clear hfn
      go_wp2_with fail
      rw [Tx.setCell_self y0, Tx.setCell_self y1, Tx.setCell_self y2, Tx.setCell_self y3, Tx.setCell_self y4, Tx.setCell_self y5, Tx.setCell_self y6, Tx.setCell_self y7, Tx.setCell_self y8]
      refine bodyPost_ret (v := .tuple #[.agg #[.int .i64 0, .int .i64 0, .int .i64 0, .int .i64 0, .string ⟨#[]⟩, .int .i64 0, .slice none 0 0, .bool false, .int .i64 0], .bool false]) (by simp [results, Try.results43, go_sem, y0, y1, y2, y3, y4, y5, y6, y7, y8]) rfl ⟨⟨0, 0, 0, 0, ⟨#[]⟩, 0, ?_, ?_⟩, HOn.out.bl⟩
      · rw [HFN.out]
        rfl
      · intro a ha
        rw [HFN.out] at ha
        exact absurd ha (by simp)
end Go.Proofs.Ytnfbcmnlloipiaa
namespace Go.Proofs.Ytnfbcmnlloipiaa
set_option linter.unusedVariables false
set_option linter.unusedSimpArgs false
open Go.RowKit Go.Lib Go.Maps Go.Sort
open Tx (MTxn info_parts RowsIn.cells RowCells TxnRow TxnsIn)

theorem one4_p (s : ByteArray) (ri rj ti : Nat) (F : Int → Option MSrc) (xs ts : List Int) (xn : Nat) (D : Bool) (hF : findM ⟨F, ti, ts⟩ ri rj xs 4 = if xs = ts.take xn then none else some (4, (ti : Int), 0)) (hD : decide (xs = ts.take xn) = D) : OneP s ri rj (findM ⟨F, ti, ts⟩ ri rj xs 4) (.returned (.tuple #[.agg #[.int .i64 4, .int .i64 ri, .int .i64 rj, .int .i64 ti, .string s, .int .i64 0, .slice none 0 0, .bool false, .int .i64 0], .bool (!D)])) := by
  generalize findM ⟨F, ti, ts⟩ ri rj xs 4 = M at *
  refine ⟨4, ri, rj, ti, s, 0, ?_, ?_⟩
  · by_cases c : xs = ts.take xn
    · have h1 : M = none := hF.trans (if_pos c)
      have h2 : D = true := hD.symm.trans (decide_eq_true c)
      subst h1 h2
      rfl
    · have h1 : M = some (4, (ti : Int), 0) := hF.trans (if_neg c)
      have h2 : D = false := hD.symm.trans (decide_eq_false c)
      subst h1 h2
      rfl
  · intro a ha
    by_cases c : xs = ts.take xn
    · have h1 : M = none := hF.trans (if_pos c)
      rw [h1] at ha
      exact absurd ha (by simp)
    · have h1 : M = some (4, (ti : Int), 0) := hF.trans (if_neg c)
      rw [h1] at ha
      injection ha with ha
      subst ha
      exact ⟨rfl, rfl, rfl, rfl, rfl, rfl⟩
set_option maxHeartbeats 8000000 in
set_option maxRecDepth 100000 in
theorem one_4 (w : World) (v : Value) (l : List MTxn) (s : ByteArray) (ri rj : Nat) (la : Option Addr) (lc : Nat) (xs : List Int) (ti tj : Nat) (ta : Option Addr) (tc : Nat) (ts : List Int) (h : TxnsIn Any w v l) (F : Int → Option MSrc) (hin : IntsIn Any w (.slice la xs.length lc) xs) (hxl : xs.length ≤ 100000) (hts : IntsIn Any w (.slice ta ts.length tc) ts) (htl : ts.length ≤ 100000) (hle : xs.length ≤ ts.length) :
    Calls Try.prog 43 #[v, .string s, .int .i64 4, .agg #[.int .i64 ri, .int .i64 rj, .slice la xs.length lc], .agg #[.int .i64 ti, .int .i64 tj, .slice ta ts.length tc]] w fun e w' => OneP s ri rj (findM ⟨F, ti, ts⟩ ri rj xs 4) e ∧ Below w.heap.size w w' := by
  have BG : Hid (∀ W, Below w.heap.size w W → Calls Try.prog 22 #[.slice la xs.length lc, .slice ta ts.length tc] W fun e w' => e = .returned (.bool (decide (xs = ts.take xs.length))) ∧ Below W.heap.size W w') := fun W hb => by
    have q := begins_is la ta lc tc xs ts W (hin.below hb) (hts.below hb) hxl htl
    have e : decide (xs.length ≤ ts.length ∧ xs = ts.take xs.length) = decide (xs = ts.take xs.length) := by simp [hle]
    rw [e] at q
    exact q
  obtain ⟨a1, c1, rfl, hrow⟩ := RowsIn.cells h (by omega)
  have HFM : Hid (findM ⟨F, ti, ts⟩ ri rj xs 4 = if xs = ts.take xs.length then none else some (4, (ti : Int), 0)) := rfl
  have S0 := hid (on_start w ri rj la xs.length lc ti tj ta ts.length tc 4 s)
  obtain ⟨D, hD⟩ : ∃ D, decide (xs = ts.take xs.length) = D := ⟨_, rfl⟩
  rw [hD] at BG
  have HD := hid hD
  clear h hin hts hrow hD
  generalize xs.length = xn at *
  generalize ts.length = tn at *
  go_enter Try.func43, Try.ntmps43
  go_upto_region 3 with fail
  have T9 : Hid (((((w.alloc (.cells #[.int .i64 ri, .int .i64 rj, .slice la xn lc] 87)).alloc (.cells #[.int .i64 ti, .int .i64 tj, .slice ta tn tc] 87)).alloc (.cells #[.int .i64 0, .int .i64 0, .int .i64 0, .int .i64 0, .string ⟨#[]⟩, .int .i64 0, .slice none 0 0, .bool false, .int .i64 0] 85)).alloc (.cells #[.int .i64 4, .int .i64 ri, .int .i64 rj, .int .i64 0, .string s, .int .i64 0, .slice none 0 0, .bool false, .int .i64 0] 85)).heap[w.heap.size + 1]? = some (.cells #[.int .i64 ti, .int .i64 tj, .slice ta tn tc] 87)) := by
    have s1 : (w.alloc (.cells #[.int .i64 ri, .int .i64 rj, .slice la xn lc] 87)).heap.size = w.heap.size + 1 := alloc_size _ _
    show _ = _
    rw [alloc_at, if_neg (by rw [alloc_size, alloc_size, s1]; omega), alloc_at, if_neg (by rw [alloc_size, s1]; omega), alloc_at, if_pos s1.symm]
  generalize hab : w.heap.size + 1 + 1 + 1 = ab at *
  generalize hzb : w.heap.size + 1 + 1 = zb at *
  generalize htb : w.heap.size + 1 = tb at *
  generalize (((w.alloc (.cells #[.int .i64 ri, .int .i64 rj, .slice la xn lc] 87)).alloc (.cells #[.int .i64 ti, .int .i64 tj, .slice ta tn tc] 87)).alloc (.cells #[.int .i64 0, .int .i64 0, .int .i64 0, .int .i64 0, .string ⟨#[]⟩, .int .i64 0, .slice none 0 0, .bool false, .int .i64 0] 85)).alloc (.cells #[.int .i64 4, .int .i64 ri, .int .i64 rj, .int .i64 0, .string s, .int .i64 0, .slice none 0 0, .bool false, .int .i64 0] 85) = W0 at *
  have hza : zb ≠ ab := by omega
  have hra : w.heap.size < ab := by omega
  have hrz : w.heap.size < zb := by omega
  have hta : tb ≠ ab := by omega
  have a3 : W0.cell? ⟨ab, 3, none⟩ = some (.int .i64 0) := Lib.cell_of_heap S0.out.a12 3
  have f3 : W0.frozen? ⟨ab, 3, none⟩ = false := Lib.frozen_of_heap S0.out.a12 3
  have t0 : W0.cell? ⟨tb, 0, none⟩ = some (.int .i64 ti) := Lib.cell_of_heap T9.out 0
  go_upto_region 4 with fail
  have BW : Hid (Below w.heap.size w (W0.setCell ⟨ab, 3, none⟩ (.int .i64 ti))) := S0.out.bl.setCell (by show w.heap.size ≤ ab; omega) _
  have HA : Hid ((W0.setCell ⟨ab, 3, none⟩ (.int .i64 ti)).heap[ab]? = some (.cells #[.int .i64 4, .int .i64 ri, .int .i64 rj, .int .i64 ti, .string s, .int .i64 0, .slice none 0 0, .bool false, .int .i64 0] 85)) := Go.Joins.block_setCell S0.out.a12 _
  have HZ : Hid ((W0.setCell ⟨ab, 3, none⟩ (.int .i64 ti)).heap[zb]? = some (.cells #[.int .i64 0, .int .i64 0, .int .i64 0, .int .i64 0, .string ⟨#[]⟩, .int .i64 0, .slice none 0 0, .bool false, .int .i64 0] 85)) := (set_ne hza).trans S0.out.z10
  have HR : Hid ((W0.setCell ⟨ab, 3, none⟩ (.int .i64 ti)).heap[w.heap.size]? = some (.cells #[.int .i64 ri, .int .i64 rj, .slice la xn lc] 87)) := (set_ne (by show w.heap.size ≠ ab; omega)).trans S0.out.r8
  have HT : Hid ((W0.setCell ⟨ab, 3, none⟩ (.int .i64 ti)).heap[tb]? = some (.cells #[.int .i64 ti, .int .i64 tj, .slice ta tn tc] 87)) := (set_ne hta).trans T9.out
  clear S0 T9 a3 f3 t0
  generalize W0.setCell ⟨ab, 3, none⟩ (.int .i64 ti) = W1 at *
  have A0 : W1.cell? ⟨ab, 0, none⟩ = some (.int .i64 4) := Lib.cell_of_heap HA.out 0
  have A1 : W1.cell? ⟨ab, 1, none⟩ = some (.int .i64 ri) := Lib.cell_of_heap HA.out 1
  have A2 : W1.cell? ⟨ab, 2, none⟩ = some (.int .i64 rj) := Lib.cell_of_heap HA.out 2
  have A3 : W1.cell? ⟨ab, 3, none⟩ = some (.int .i64 ti) := Lib.cell_of_heap HA.out 3
  have A4 : W1.cell? ⟨ab, 4, none⟩ = some (.string s) := Lib.cell_of_heap HA.out 4
  have A5 : W1.cell? ⟨ab, 5, none⟩ = some (.int .i64 0) := Lib.cell_of_heap HA.out 5
  have A6 : W1.cell? ⟨ab, 6, none⟩ = some (.slice none 0 0) := Lib.cell_of_heap HA.out 6
  have A7 : W1.cell? ⟨ab, 7, none⟩ = some (.bool false) := Lib.cell_of_heap HA.out 7
  have A8 : W1.cell? ⟨ab, 8, none⟩ = some (.int .i64 0) := Lib.cell_of_heap HA.out 8
  have Y0 : W1.cell? ⟨zb, 0, none⟩ = some (.int .i64 0) := Lib.cell_of_heap HZ.out 0
  have Y1 : W1.cell? ⟨zb, 1, none⟩ = some (.int .i64 0) := Lib.cell_of_heap HZ.out 1
  have Y2 : W1.cell? ⟨zb, 2, none⟩ = some (.int .i64 0) := Lib.cell_of_heap HZ.out 2
  have Y3 : W1.cell? ⟨zb, 3, none⟩ = some (.int .i64 0) := Lib.cell_of_heap HZ.out 3
  have Y4 : W1.cell? ⟨zb, 4, none⟩ = some (.string ⟨#[]⟩) := Lib.cell_of_heap HZ.out 4
  have Y5 : W1.cell? ⟨zb, 5, none⟩ = some (.int .i64 0) := Lib.cell_of_heap HZ.out 5
  have Y6 : W1.cell? ⟨zb, 6, none⟩ = some (.slice none 0 0) := Lib.cell_of_heap HZ.out 6
  have Y7 : W1.cell? ⟨zb, 7, none⟩ = some (.bool false) := Lib.cell_of_heap HZ.out 7
  have Y8 : W1.cell? ⟨zb, 8, none⟩ = some (.int .i64 0) := Lib.cell_of_heap HZ.out 8
  have R2 : W1.cell? ⟨w.heap.size, 2, none⟩ = some (.slice la xn lc) := Lib.cell_of_heap HR.out 2
  have T2 : W1.cell? ⟨tb, 2, none⟩ = some (.slice ta tn tc) := Lib.cell_of_heap HT.out 2
  have FZ0 : W1.frozen? ⟨zb, 0, none⟩ = false := Lib.frozen_of_heap HZ.out 0
  have FZ1 : W1.frozen? ⟨zb, 1, none⟩ = false := Lib.frozen_of_heap HZ.out 1
  have FZ2 : W1.frozen? ⟨zb, 2, none⟩ = false := Lib.frozen_of_heap HZ.out 2
  have FZ3 : W1.frozen? ⟨zb, 3, none⟩ = false := Lib.frozen_of_heap HZ.out 3
  have FZ4 : W1.frozen? ⟨zb, 4, none⟩ = false := Lib.frozen_of_heap HZ.out 4
  have FZ5 : W1.frozen? ⟨zb, 5, none⟩ = false := Lib.frozen_of_heap HZ.out 5
  have FZ6 : W1.frozen? ⟨zb, 6, none⟩ = false := Lib.frozen_of_heap HZ.out 6
  have FZ7 : W1.frozen? ⟨zb, 7, none⟩ = false := Lib.frozen_of_heap HZ.out 7
  have FZ8 : W1.frozen? ⟨zb, 8, none⟩ = false := Lib.frozen_of_heap HZ.out 8
  have htz : zb ≠ tb := by omega
  have hrz2 : zb ≠ w.heap.size := by omega
  have htz3 : tb ≠ zb := by omega
  have hrz3 : w.heap.size ≠ zb := by omega
  go_region_held3 (fun w' => w'.cell? ⟨ab, 0, none⟩ = some (.int .i64 4) ∧ w'.cell? ⟨ab, 1, none⟩ = some (.int .i64 ri) ∧ w'.cell? ⟨ab, 2, none⟩ = some (.int .i64 rj) ∧ w'.cell? ⟨ab, 3, none⟩ = some (.int .i64 ti) ∧ w'.cell? ⟨ab, 4, none⟩ = some (.string s) ∧ w'.cell? ⟨ab, 5, none⟩ = some (.int .i64 0) ∧ w'.cell? ⟨ab, 6, none⟩ = some (.slice none 0 0) ∧ w'.cell? ⟨ab, 7, none⟩ = some (.bool false) ∧ w'.cell? ⟨ab, 8, none⟩ = some (.int .i64 0) ∧ w'.cell? ⟨w.heap.size, 2, none⟩ = some (.slice la xn lc) ∧ w'.cell? ⟨tb, 2, none⟩ = some (.slice ta tn tc)) (go_keep) (first
    | (go_at_call 22; refine (BG.out _ (by repeat (first | exact BW.out | apply Below.drew))).mono ?_; rintro e w5 ⟨rfl, b5⟩; have C5 : Hid (Below W1.heap.size W1 w5) := Below.trans (by repeat (first | exact Below.refl _ _ | apply Below.drew)) b5; have HA5 := hid ((C5.out.block _ (blt HA.out)).trans HA.out); have HZ5 := hid ((C5.out.block _ (blt HZ.out)).trans HZ.out); have HR5 := hid ((C5.out.block _ (blt HR.out)).trans HR.out); have HT5 := hid ((C5.out.block _ (blt HT.out)).trans HT.out); have A05 : w5.cell? ⟨ab, 0, none⟩ = some (.int .i64 4) := Lib.cell_of_heap HA5.out 0; have A15 : w5.cell? ⟨ab, 1, none⟩ = some (.int .i64 ri) := Lib.cell_of_heap HA5.out 1; have A25 : w5.cell? ⟨ab, 2, none⟩ = some (.int .i64 rj) := Lib.cell_of_heap HA5.out 2; have A35 : w5.cell? ⟨ab, 3, none⟩ = some (.int .i64 ti) := Lib.cell_of_heap HA5.out 3; have A45 : w5.cell? ⟨ab, 4, none⟩ = some (.string s) := Lib.cell_of_heap HA5.out 4; have A55 : w5.cell? ⟨ab, 5, none⟩ = some (.int .i64 0) := Lib.cell_of_heap HA5.out 5; have A65 : w5.cell? ⟨ab, 6, none⟩ = some (.slice none 0 0) := Lib.cell_of_heap HA5.out 6; have A75 : w5.cell? ⟨ab, 7, none⟩ = some (.bool false) := Lib.cell_of_heap HA5.out 7; have A85 : w5.cell? ⟨ab, 8, none⟩ = some (.int .i64 0) := Lib.cell_of_heap HA5.out 8; have Y05 : w5.cell? ⟨zb, 0, none⟩ = some (.int .i64 0) := Lib.cell_of_heap HZ5.out 0; have Y15 : w5.cell? ⟨zb, 1, none⟩ = some (.int .i64 0) := Lib.cell_of_heap HZ5.out 1; have Y25 : w5.cell? ⟨zb, 2, none⟩ = some (.int .i64 0) := Lib.cell_of_heap HZ5.out 2; have Y35 : w5.cell? ⟨zb, 3, none⟩ = some (.int .i64 0) := Lib.cell_of_heap HZ5.out 3; have Y45 : w5.cell? ⟨zb, 4, none⟩ = some (.string ⟨#[]⟩) := Lib.cell_of_heap HZ5.out 4; have Y55 : w5.cell? ⟨zb, 5, none⟩ = some (.int .i64 0) := Lib.cell_of_heap HZ5.out 5; have Y65 : w5.cell? ⟨zb, 6, none⟩ = some (.slice none 0 0) := Lib.cell_of_heap HZ5.out 6; have Y75 : w5.cell? ⟨zb, 7, none⟩ = some (.bool false) := Lib.cell_of_heap HZ5.out 7; have Y85 : w5.cell? ⟨zb, 8, none⟩ = some (.int .i64 0) := Lib.cell_of_heap HZ5.out 8; have R25 : w5.cell? ⟨w.heap.size, 2, none⟩ = some (.slice la xn lc) := Lib.cell_of_heap HR5.out 2; have T25 : w5.cell? ⟨tb, 2, none⟩ = some (.slice ta tn tc) := Lib.cell_of_heap HT5.out 2; have FZ05 : w5.frozen? ⟨zb, 0, none⟩ = false := Lib.frozen_of_heap HZ5.out 0; have FZ15 : w5.frozen? ⟨zb, 1, none⟩ = false := Lib.frozen_of_heap HZ5.out 1; have FZ25 : w5.frozen? ⟨zb, 2, none⟩ = false := Lib.frozen_of_heap HZ5.out 2; have FZ35 : w5.frozen? ⟨zb, 3, none⟩ = false := Lib.frozen_of_heap HZ5.out 3; have FZ45 : w5.frozen? ⟨zb, 4, none⟩ = false := Lib.frozen_of_heap HZ5.out 4; have FZ55 : w5.frozen? ⟨zb, 5, none⟩ = false := Lib.frozen_of_heap HZ5.out 5; have FZ65 : w5.frozen? ⟨zb, 6, none⟩ = false := Lib.frozen_of_heap HZ5.out 6; have FZ75 : w5.frozen? ⟨zb, 7, none⟩ = false := Lib.frozen_of_heap HZ5.out 7; have FZ85 : w5.frozen? ⟨zb, 8, none⟩ = false := Lib.frozen_of_heap HZ5.out 8; clear b5))
  all_goals (try go_wp2_with fail)
  all_goals
    refine bodyPost_ret (v := .tuple #[.agg #[.int .i64 4, .int .i64 ri, .int .i64 rj, .int .i64 ti, .string s, .int .i64 0, .slice none 0 0, .bool false, .int .i64 0], .bool (!D)]) (by simp [results, Try.results43, go_sem, Y05, Y15, Y25, Y35, Y45, Y55, Y65, Y75, Y85]) rfl ⟨one4_p s ri rj ti F xs ts xn D HFM.out HD.out, ((((((((((BW.out.trans (C5.out.mono BW.out.size)).setCell (by show w.heap.size ≤ zb; omega) _).setCell (by show w.heap.size ≤ zb; omega) _).setCell (by show w.heap.size ≤ zb; omega) _).setCell (by show w.heap.size ≤ zb; omega) _).setCell (by show w.heap.size ≤ zb; omega) _).setCell (by show w.heap.size ≤ zb; omega) _).setCell (by show w.heap.size ≤ zb; omega) _).setCell (by show w.heap.size ≤ zb; omega) _).setCell (by show w.heap.size ≤ zb; omega) _)⟩
end Go.Proofs.Ytnfbcmnlloipiaa
