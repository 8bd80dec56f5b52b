/-
  The document's longest read, its writer of a value, and who failed.
  The document's SameList; its state in memory.
  The document's writer of a value; who failed; which list begins another.
  The document's anomaly of a read: what all kinds share.
  A value that nobody had written, as the document finds it.
-/
import Derived.Test.YtnfbcmnlloipiaaJ12
namespace Go.Proofs.Ytnfbcmnlloipiaa
set_option linter.unusedVariables false
set_option linter.unusedSimpArgs false
open Go.RowKit Go.Lib Go.Maps Go.Sort
open Tx (MTxn info_parts RowsIn.cells RowCells TxnRow TxnsIn)

/-- The first of the longest, as the document tells it. -/
def longD : List MRx → MRx
  | [] => (0, 0, [])
  | r :: R => R.foldl longS r
theorem longD_snoc (R : List MRx) (r : MRx) (h : 0 < R.length) : longD (R ++ [r]) = longS (longD R) r := by
  cases R with
  | nil => simp at h
  | cons a R =>
    show ((R ++ [r]).foldl longS a) = _
    rw [List.foldl_append]
    rfl
theorem longD_next (RX : List MRx) (k : Nat) (hk : k < RX.length) (h0 : 0 < k) : longD (RX.take (k + 1)) = longS (longD (RX.take k)) (RX.getD k default) := by
  rw [List.take_add_one, List.getElem?_eq_getElem hk]
  show longD (RX.take k ++ [RX[k]]) = _
  rw [longD_snoc _ _ (by simp; omega)]
  simp [List.getD, List.getElem?_eq_getElem hk]
theorem longD_mem (R : List MRx) (h : 0 < R.length) : longD R ∈ R := by
  cases R with
  | nil => simp at h
  | cons a R =>
    rcases long_mem R a with e | e
    · show R.foldl longS a ∈ _
      rw [e]
      simp
    · exact List.mem_cons_of_mem _ e
/-- Both tell the same list, and where it has a value the same read. -/
theorem longD_is (R : List MRx) : (longD R).2.2 = (longR R).2.2 ∧ (0 < (longR R).2.2.length → longD R = longR R) := by
  cases R with
  | nil => exact ⟨rfl, fun _ => rfl⟩
  | cons a R =>
    have key : ∀ (R : List MRx) (t u : MRx), t.2.2 = [] → u.2.2 = [] → (R.foldl longS t).2.2 = (R.foldl longS u).2.2 ∧ (0 < (R.foldl longS u).2.2.length → R.foldl longS t = R.foldl longS u) := by
      intro R
      induction R with
      | nil => intro t u ht hu; exact ⟨by simp [ht, hu], fun h => by simp [hu] at h⟩
      | cons b R ih =>
        intro t u ht hu
        rw [List.foldl_cons, List.foldl_cons]
        by_cases hb : 0 < b.2.2.length
        · have e1 : longS t b = b := if_pos (by rw [ht]; exact hb)
          have e2 : longS u b = b := if_pos (by rw [hu]; exact hb)
          rw [e1, e2]
          exact ⟨rfl, fun _ => rfl⟩
        · have e1 : longS t b = t := if_neg (by rw [ht]; exact hb)
          have e2 : longS u b = u := if_neg (by rw [hu]; exact hb)
          rw [e1, e2]
          exact ih t u ht hu
    show (R.foldl longS a).2.2 = ((a :: R).foldl longS (0, 0, [])).2.2 ∧ _
    rw [List.foldl_cons]
    by_cases ha : 0 < a.2.2.length
    · have e : longS (0, 0, []) a = a := if_pos ha
      have e3 : longR (a :: R) = R.foldl longS a := by
        show (a :: R).foldl longS (0, 0, []) = _
        rw [List.foldl_cons, e]
      rw [e]
      exact ⟨rfl, fun _ => e3.symm⟩
    · have e : longS (0, 0, []) a = (0, 0, []) := if_neg ha
      have e3 : longR (a :: R) = R.foldl longS (0, 0, []) := by
        show (a :: R).foldl longS (0, 0, []) = _
        rw [List.foldl_cons, e]
      have ha0 : a.2.2 = [] := List.length_eq_zero_iff.1 (by omega)
      have := key R a (0, 0, []) ha0 rfl
      rw [e]
      refine ⟨this.1, fun h => ?_⟩
      rw [e3] at h ⊢
      exact this.2 h
/-- The best of the first k reads, in memory. -/
def Bst (R : List MRd) (RX : List MRx) (k : Nat) (m : MRd) : Prop := (k = 0 ∧ m = (0, 0, none, 0, 0)) ∨ (0 < k ∧ ∃ q, q < k ∧ m = R.getD q default ∧ RX.getD q default = longD (RX.take k))
theorem rds_len_at {D : Nat → Prop} {w : World} {R : List MRd} {RX : List MRx} (h : RdsD D w R RX) (q : Nat) (hq : q < R.length) : (R.getD q default).2.2.2.1 = (RX.getD q default).2.2.length := by
  obtain ⟨a, c, e, _⟩ := h.at' q hq
  rw [e]
theorem Bst.next {D : Nat → Prop} {w : World} {R : List MRd} {RX : List MRx} (h : RdsD D w R RX) {k : Nat} {m : MRd} (hb : Bst R RX k m) (hk : k < R.length) : (k = 0 ∨ m.2.2.2.1 < (R.getD k default).2.2.2.1 → Bst R RX (k + 1) (R.getD k default)) ∧ (¬ k = 0 → ¬ m.2.2.2.1 < (R.getD k default).2.2.2.1 → Bst R RX (k + 1) m) := by
  have hkx : k < RX.length := h.len ▸ hk
  have hl := rds_len_at h k hk
  rcases hb with ⟨rfl, rfl⟩ | ⟨h0, q, hq, rfl, e⟩
  · refine ⟨fun _ => .inr ⟨by omega, 0, by omega, rfl, ?_⟩, fun c => absurd rfl c⟩
    cases RX with
    | nil => simp at hkx
    | cons a RX => rfl
  · have hql := rds_len_at h q (by omega)
    have en := longD_next RX k hkx h0
    refine ⟨fun c => .inr ⟨by omega, k, by omega, rfl, ?_⟩, fun _ c => .inr ⟨by omega, q, by omega, rfl, ?_⟩⟩
    · rw [en, ← e]
      rcases c with c | c
      · omega
      · rw [hql, hl] at c
        exact (if_pos c).symm
    · rw [en, ← e]
      rw [hql, hl] at c
      exact (if_neg c).symm
set_option maxHeartbeats 4000000 in
set_option maxRecDepth 100000 in
theorem longest_walk (B : Nat) (v : Value) (R : List MRd) (RX : List MRx) (w0 w : World) (h : w.ownsRow B 87 3 v R.length (rdC R)) (hR : RdsD Any w0 R RX) (hl : R.length ≤ 100000) :
    Calls Try.prog 37 #[v] w fun e w' => ∃ m : MRd, e = .returned (.agg #[.int .i64 m.1, .int .i64 m.2.1, .slice m.2.2.1 m.2.2.2.1 m.2.2.2.2]) ∧ Bst R RX R.length m ∧ Below w.heap.size w w' := by
  obtain ⟨ra, rc, hrv⟩ := own_slice h
  subst hrv
  have HO := hid h
  have HR := hid hR
  have hli : (R.length : Int) ≤ 100000 := by omega
  clear h hR
  go_enter Try.func37, Try.ntmps37
  go_wp2_with fail
  have S0 : Hid (Below w.heap.size w ((w.alloc (.cells #[.int .i64 0, .int .i64 0, .slice none 0 0] 87)).alloc (.cells #[.int .i64 0, .int .i64 0, .slice none 0 0] 87)) ∧ ((w.alloc (.cells #[.int .i64 0, .int .i64 0, .slice none 0 0] 87)).alloc (.cells #[.int .i64 0, .int .i64 0, .slice none 0 0] 87)).heap[w.heap.size]? = some (.cells #[.int .i64 0, .int .i64 0, .slice none 0 0] 87) ∧ ∃ m : MRd, ((w.alloc (.cells #[.int .i64 0, .int .i64 0, .slice none 0 0] 87)).alloc (.cells #[.int .i64 0, .int .i64 0, .slice none 0 0] 87)).heap[w.heap.size + 1]? = some (.cells #[.int .i64 m.1, .int .i64 m.2.1, .slice m.2.2.1 m.2.2.2.1 m.2.2.2.2] 87) ∧ Bst R RX 0 m) := by
    have s1 : (w.alloc (.cells #[.int .i64 0, .int .i64 0, .slice none 0 0] 87)).heap.size = w.heap.size + 1 := alloc_size _ _
    refine ⟨(below_box w _).alloc (by rw [s1]; omega) _, ?_, (0, 0, none, 0, 0), ?_, .inl ⟨rfl, rfl⟩⟩
    · rw [alloc_at, if_neg (by rw [s1]; omega)]
      exact heap_alloc_new w _
    · have := heap_alloc_new (w.alloc (.cells #[.int .i64 0, .int .i64 0, .slice none 0 0] 87)) (.cells #[.int .i64 0, .int .i64 0, .slice none 0 0] 87)
      rw [s1] at this
      exact this
  generalize (w.alloc (.cells #[.int .i64 0, .int .i64 0, .slice none 0 0] 87)).alloc (.cells #[.int .i64 0, .int .i64 0, .slice none 0 0] 87) = W0 at *
  go_loopg [4, 5, 8] R.length (fun gg _ _ i wr => ∃ k : Nat, k ≤ R.length ∧ R.length - k ≤ gg ∧ i = .int .i64 k ∧ Aside (Below w.heap.size w wr ∧ wr.heap[w.heap.size]? = some (.cells #[.int .i64 0, .int .i64 0, .slice none 0 0] 87) ∧ ∃ m : MRd, wr.heap[w.heap.size + 1]? = some (.cells #[.int .i64 m.1, .int .i64 m.2.1, .slice m.2.2.1 m.2.2.2.1 m.2.2.2.2] 87) ∧ Bst R RX k m))
  case atStart => exact ⟨0, Nat.zero_le _, by omega, rfl, S0.out⟩
  case round =>
    obtain ⟨k, hk, hgk, rfl, SR⟩ := hrel
    obtain ⟨bw, hz, m, hm, hb⟩ := SR.out
    obtain ⟨m1, m2, ma, mn, mc⟩ := m
    have BW := hid bw
    have HZ := hid hz
    have HM := hid hm
    have HB := hid hb
    clear SR bw
    by_cases hlt : k < R.length
    · have hlti : (k : Int) < R.length := by omega
      obtain ⟨g, c', hv⟩ := own_some HO.out (by omega)
      cases hv
      have hgl : g < w.heap.size := (own_block HO.out rfl).2.1
      obtain ⟨NX1, NX2⟩ := hb.next HR.out hlt
      have ce : ∀ i u, i < 3 → (rdVs (R.getD k default))[i]? = some u → wr.cell? ⟨g, k * 3 + i, none⟩ = some u := fun i u hi hu => (BW.out.cell (p := ⟨g, k * 3 + i, none⟩) hgl).trans ((HO.out.cellAt (k * 3 + i) (by omega)).trans ((rdC_at R k i hlt hi).trans hu))
      generalize R.getD k default = r at *
      obtain ⟨r1, r2, la, ln, lc⟩ := r
      have x0 := ce 0 _ (by omega) rfl
      have x1 := ce 1 _ (by omega) rfl
      have x2 := ce 2 _ (by omega) rfl
      simp only [Nat.add_zero] at x0 x1 x2
      have c0 : ∀ o, (wr.alloc o).cell? ⟨w.heap.size + 1, 0, none⟩ = some (.int .i64 m1) := fun o => Lib.cell?_alloc_some _ (Lib.cell_of_heap hm 0)
      have c1 : ∀ o, (wr.alloc o).cell? ⟨w.heap.size + 1, 1, none⟩ = some (.int .i64 m2) := fun o => Lib.cell?_alloc_some _ (Lib.cell_of_heap hm 1)
      have c2 : ∀ o, (wr.alloc o).cell? ⟨w.heap.size + 1, 2, none⟩ = some (.slice ma mn mc) := fun o => Lib.cell?_alloc_some _ (Lib.cell_of_heap hm 2)
      have hbl : w.heap.size + 1 < wr.heap.size := blt hm
      have hne : ¬ (w.heap.size + 1 = wr.heap.size) := by omega
      have AH : ∀ o b, b < wr.heap.size → (wr.alloc o).heap[b]? = wr.heap[b]? := fun o b hb' => by rw [alloc_at, if_neg (by omega)]
      have fz : ∀ o i, (wr.alloc o).frozen? ⟨w.heap.size + 1, i, none⟩ = false := fun o i => Lib.frozen_of_heap ((AH o _ hbl).trans hm) i
      have d0 : wr.cell? ⟨w.heap.size + 1, 0, none⟩ = some (.int .i64 m1) := Lib.cell_of_heap hm 0
      have d1 : wr.cell? ⟨w.heap.size + 1, 1, none⟩ = some (.int .i64 m2) := Lib.cell_of_heap hm 1
      have d2 : wr.cell? ⟨w.heap.size + 1, 2, none⟩ = some (.slice ma mn mc) := Lib.cell_of_heap hm 2
      have fw : ∀ i, wr.frozen? ⟨w.heap.size + 1, i, none⟩ = false := fun i => Lib.frozen_of_heap hm i
      have HNX1 := hid NX1
      have HNX2 := hid NX2
      clear NX1 NX2 ce hz hm hb
      have STY : ∀ o, Hid (Bst R RX (k + 1) (r1, r2, la, ln, lc) → Below w.heap.size w ((((wr.setCell ⟨w.heap.size + 1, 0, none⟩ (.int .i64 r1)).setCell ⟨w.heap.size + 1, 1, none⟩ (.int .i64 r2)).setCell ⟨w.heap.size + 1, 2, none⟩ (.slice la ln lc)).alloc o) ∧ ((((wr.setCell ⟨w.heap.size + 1, 0, none⟩ (.int .i64 r1)).setCell ⟨w.heap.size + 1, 1, none⟩ (.int .i64 r2)).setCell ⟨w.heap.size + 1, 2, none⟩ (.slice la ln lc)).alloc o).heap[w.heap.size]? = some (.cells #[.int .i64 0, .int .i64 0, .slice none 0 0] 87) ∧ ∃ m : MRd, ((((wr.setCell ⟨w.heap.size + 1, 0, none⟩ (.int .i64 r1)).setCell ⟨w.heap.size + 1, 1, none⟩ (.int .i64 r2)).setCell ⟨w.heap.size + 1, 2, none⟩ (.slice la ln lc)).alloc o).heap[w.heap.size + 1]? = some (.cells #[.int .i64 m.1, .int .i64 m.2.1, .slice m.2.2.1 m.2.2.2.1 m.2.2.2.2] 87) ∧ Bst R RX (k + 1) m) := fun o hB => by
        have BS : Below w.heap.size w (((wr.setCell ⟨w.heap.size + 1, 0, none⟩ (.int .i64 r1)).setCell ⟨w.heap.size + 1, 1, none⟩ (.int .i64 r2)).setCell ⟨w.heap.size + 1, 2, none⟩ (.slice la ln lc)) := ((BW.out.setCell (by show w.heap.size ≤ w.heap.size + 1; omega) _).setCell (by show w.heap.size ≤ w.heap.size + 1; omega) _).setCell (by show w.heap.size ≤ w.heap.size + 1; omega) _
        have h1 : (((wr.setCell ⟨w.heap.size + 1, 0, none⟩ (.int .i64 r1)).setCell ⟨w.heap.size + 1, 1, none⟩ (.int .i64 r2)).setCell ⟨w.heap.size + 1, 2, none⟩ (.slice la ln lc)).heap[w.heap.size]? = some (.cells #[.int .i64 0, .int .i64 0, .slice none 0 0] 87) := by
          rw [set_ne (by show w.heap.size ≠ w.heap.size + 1; omega), set_ne (by show w.heap.size ≠ w.heap.size + 1; omega), set_ne (by show w.heap.size ≠ w.heap.size + 1; omega)]
          exact HZ.out
        have h2 : (((wr.setCell ⟨w.heap.size + 1, 0, none⟩ (.int .i64 r1)).setCell ⟨w.heap.size + 1, 1, none⟩ (.int .i64 r2)).setCell ⟨w.heap.size + 1, 2, none⟩ (.slice la ln lc)).heap[w.heap.size + 1]? = some (.cells #[.int .i64 r1, .int .i64 r2, .slice la ln lc] 87) := Go.Joins.block_setCell (Go.Joins.block_setCell (Go.Joins.block_setCell HM.out _) _) _
        refine ⟨BS.trans ((below_box _ o).mono BS.size), ?_, (r1, r2, la, ln, lc), ?_, hB⟩
        · rw [alloc_at, if_neg (by have := blt h1; omega)]
          exact h1
        · rw [alloc_at, if_neg (by have := blt h2; omega)]
          exact h2
      by_cases h0 : k = 0
      · subst h0
        have hB : Hid (Bst R RX (0 + 1) (r1, r2, la, ln, lc)) := HNX1.out (.inl rfl)
        go_wp2_with fail
        go_roundg (R.length - (0 + 1))
        case measure => omega
        case rel => exact ⟨0 + 1, by omega, by omega, by go_num, (STY _).out hB.out⟩
      · have hk0 : ((k : Int) == 0) = false := by rw [beq_eq_false_iff_ne]; omega
        by_cases hgt : mn < ln
        · have hgti : (mn : Int) < ln := by omega
          have hB : Hid (Bst R RX (k + 1) (r1, r2, la, ln, lc)) := HNX1.out (.inr hgt)
          go_wp2_with fail
          go_roundg (R.length - (k + 1))
          case measure => omega
          case rel => exact ⟨k + 1, by omega, by omega, by go_num, (STY _).out hB.out⟩
        · have hgti : ¬ (mn : Int) < ln := by omega
          have hB : Hid (Bst R RX (k + 1) (m1, m2, ma, mn, mc)) := HNX2.out h0 hgt
          go_wp2_with fail
          go_roundg (R.length - (k + 1))
          case measure => omega
          case rel => exact ⟨k + 1, by omega, by omega, by go_num, BW.out.trans ((below_box wr _).mono BW.out.size), (AH _ _ (by omega)).trans HZ.out, (m1, m2, ma, mn, mc), (AH _ _ hbl).trans HM.out, hB.out⟩
    · have hke : k = R.length := by omega
      have hlti : ¬ (k : Int) < R.length := by omega
      subst hke
      have c0 := Lib.cell_of_heap hm 0
      have c1 := Lib.cell_of_heap hm 1
      have c2 := Lib.cell_of_heap hm 2
      have y0 := Lib.cell_of_heap hz 0
      have y1 := Lib.cell_of_heap hz 1
      have y2 := Lib.cell_of_heap hz 2
      have f0 := Lib.frozen_of_heap hz 0
      have f1 := Lib.frozen_of_heap hz 1
      have f2 := Lib.frozen_of_heap hz 2
      simp only [List.getElem?_toArray, List.getElem?_cons_zero, List.getElem?_cons_succ] at c0 c1 c2 y0 y1 y2
      clear hz hm hb
      go_wp2_with fail
      refine bodyPost_ret (v := .agg #[.int .i64 m1, .int .i64 m2, .slice ma mn mc]) (by simp [results, Try.results37, go_sem, y0, y1, y2]) rfl ?_
      exact ⟨m1, m2, ma, mn, mc, rfl, HB.out, ((BW.out.setCell (Nat.le_refl _) _).setCell (Nat.le_refl _) _).setCell (Nat.le_refl _) _⟩
/-- The first of the longest reads, with its list. -/
theorem longest_is (B : Nat) (v : Value) (R : List MRd) (RX : List MRx) (w0 w : World) (h : w.ownsRow B 87 3 v R.length (rdC R)) (hR : RdsD Any w0 R RX) (hl : R.length ≤ 100000) :
    Calls Try.prog 37 #[v] w fun e w' => ∃ ta tc, e = .returned (.agg #[.int .i64 (longD RX).1, .int .i64 (longD RX).2.1, .slice ta (longD RX).2.2.length tc]) ∧ IntsIn Any w0 (.slice ta (longD RX).2.2.length tc) (longD RX).2.2 ∧ (∀ x ∈ (longD RX).2.2, (Lit.int .i64 x).wf = true) ∧ Below w.heap.size w w' := by
  refine (longest_walk B v R RX w0 w h hR hl).mono ?_
  rintro e w' ⟨m, rfl, hb, hw⟩
  rcases hb with ⟨h0, rfl⟩ | ⟨h0, q, hq, rfl, e⟩
  · have : RX = [] := List.length_eq_zero_iff.1 (by rw [← hR.len]; exact h0)
    subst this
    exact ⟨none, 0, rfl, ⟨none, 0, rfl, ⟨by simp [longD], Nat.zero_le _⟩, fun hc => by simp [longD] at hc⟩, fun x hx => by simp [longD] at hx, hw⟩
  · rw [List.take_of_length_le (by rw [hR.len]; exact Nat.le_refl _)] at e
    obtain ⟨a, c, e1, e2, e3⟩ := hR.at' q hq
    rw [e] at e1 e2 e3
    rw [e1]
    exact ⟨a, c, rfl, e2, e3, hw⟩
end Go.Proofs.Ytnfbcmnlloipiaa
namespace Go.Proofs.Ytnfbcmnlloipiaa
set_option linter.unusedVariables false
set_option linter.unusedSimpArgs false
open Go.RowKit Go.Lib

set_option maxHeartbeats 400000 in
theorem sameList_walk (a1 a2 : Option Addr) (c1 c2 n : Nat) (xs ys : List Int) (w : World) (hx : xs.length = n) (hy : ys.length = n) (_hbig : n ≤ 9223372036854775807)
    (h1 : IntCells w a1 xs n) (h2 : IntCells w a2 ys n) :
    Calls Try.prog 49 #[.slice a1 n c1, .slice a2 n c2] w fun e w' => e = .returned (.bool (intsEq xs ys)) ∧ ∃ q, w' = w.drewN q := by
  have HX : Hid (xs.length = n) := hx
  have HY : Hid (ys.length = n) := hy
  clear hx hy
  go_enter Try.func49, Try.ntmps49
  go_wp2
  go_loopg [5, 13] n (fun g _ i wr => ∃ k : Nat, k ≤ n ∧ n - k ≤ g ∧ i = .int .i64 k ∧ Aside (∃ q, wr = w.drewN q) ∧ Aside (∀ j, j < k → (xs.getD j default == ys.getD j default) = true))
  case atStart => exact ⟨0, Nat.zero_le _, by omega, rfl, ⟨0, rfl⟩, fun j hj => absurd hj (Nat.not_lt_zero _)⟩
  case round =>
    obtain ⟨k, hk, hg, rfl, ⟨q, rfl⟩, A⟩ := hrel
    by_cases hlt : k < n
    · have hlti : (k : Int) < (n : Int) := by omega
      obtain ⟨b1, o1, rfl, k1⟩ := h1 k hlt
      obtain ⟨b2, o2, rfl, k2⟩ := h2 k hlt
      clear h1 h2
      generalize hX : xs.getD k default = X at k1
      generalize hY : ys.getD k default = Y at k2
      have HX' : Hid (xs.getD k default = X) := hX
      have HY' : Hid (ys.getD k default = Y) := hY
      clear hX hY
      cases hq : (X == Y) with
      | true =>
        have hne : (X != Y) = false := by simp [bne, hq]
        have HQ : Hid ((X == Y) = true) := hq
        clear hq
        go_wp2
        go_quiet (fail)
        go_wp2
        go_roundg (n - (k + 1))
        case measure => omega
        case rel =>
          refine ⟨k + 1, by omega, by omega, by go_num, ⟨_, rfl⟩, (show Aside _ from fun j hj => ?_)⟩
          by_cases e : j = k
          · subst e; rw [HX'.out, HY'.out]; exact HQ.out
          · exact A.out j (by omega)
      | false =>
        have hne : (X != Y) = true := by simp [bne, hq]
        have HQ : Hid ((X == Y) = false) := hq
        clear hq
        go_wp2
        go_quiet (fail)
        go_wp2
        go_ret
        refine ⟨?_, ⟨_, drew_drew _ _ _⟩⟩
        rw [show intsEq xs ys = false from allEq_miss _ xs ys k (by rw [HX.out]; exact hlt) (by rw [HX'.out, HY'.out]; exact HQ.out)]
        rfl
    · go_wp2
      go_ret
      refine ⟨?_, ⟨_, rfl⟩⟩
      rw [show intsEq xs ys = true from allEq_hit _ xs ys (by rw [HX.out, HY.out]) (fun j hj => A.out j (by rw [HX.out] at hj; omega))]
      rfl

theorem sameList_lens (a1 a2 : Option Addr) (c1 c2 n m : Nat) (w : World) (hnm : n ≠ m) :
    Calls Try.prog 49 #[.slice a1 n c1, .slice a2 m c2] w fun e w' => e = .returned (.bool false) ∧ ∃ q, w' = w.drewN q := by
  have hne : ((n : Int) != (m : Int)) = true := by rw [bne_iff_ne]; omega
  go_enter Try.func49, Try.ntmps49
  go_wp2
  go_ret
  exact ⟨rfl, 0, rfl⟩


/-- slices.Equal tells whether two lists of ints are the same. -/
theorem sameList_cells (a1 a2 : Option Addr) (c1 c2 n m : Nat) (xs ys : List Int) (w : World) (hn : xs.length = n) (hm : ys.length = m) (hb : n ≤ 9223372036854775807) (h1 : IntCells w a1 xs n) (h2 : IntCells w a2 ys m) :
    Calls Try.prog 49 #[.slice a1 n c1, .slice a2 m c2] w fun e w' => e = .returned (.bool (decide (xs = ys))) ∧ ∃ q, w' = w.drewN q := by
  rw [← intsEq_dec]
  subst hn hm
  by_cases h : xs.length = ys.length
  · rw [← h] at h2 ⊢
    exact sameList_walk a1 a2 c1 c2 xs.length xs ys w rfl h.symm hb h1 h2
  · rw [show intsEq xs ys = false from allEq_len _ xs ys h]
    exact sameList_lens a1 a2 c1 c2 _ _ w h

end Go.Proofs.Ytnfbcmnlloipiaa
namespace Go.Proofs.Ytnfbcmnlloipiaa
set_option linter.unusedVariables false
set_option linter.unusedSimpArgs false
open Go.RowKit Go.Lib Go.Maps Go.Sort
open Tx (MTxn info_parts RowsIn.cells RowCells TxnRow TxnsIn)

/-- Where no value is written twice, the look's source is the document's writer. -/
theorem src_head (l : List MTxn) (s : ByteArray) (N : List MN) (hu : uniqN N) (v : Int) : (writersN N s v).head? = (srcN l s N v).map (fun y => (y.1, y.2.1)) := by
  have h := hu s v
  unfold writersN at h ⊢
  unfold srcN
  rw [List.length_map] at h
  cases hf : N.filter (hitW s v) with
  | nil => rfl
  | cons x r =>
    rw [hf] at h
    have : r = [] := List.length_eq_zero_iff.1 (by simpa using h)
    subst this
    rfl
set_option maxHeartbeats 2000000 in
set_option maxRecDepth 100000 in
theorem writer_is (w : World) (v : Value) (l : List MTxn) (s : ByteArray) (x : Int) (h : TxnsIn Any w v l) (hG : Good l) (hu : uniqN (notes l l.length)) :
    Calls Try.prog 47 #[v, .string s, .int .i64 x] w fun e w' => e = .returned (.tuple #[.agg #[.int .i64 ((srcN l s (notes l l.length) x).getD noSrc).1, .int .i64 ((srcN l s (notes l l.length) x).getD noSrc).2.1], .bool (srcN l s (notes l l.length) x).isSome]) ∧ Below w.heap.size w w' := by
  have hh := src_head l s (notes l l.length) hu x
  have WR : ∀ o, Hid (Calls Try.prog 64 #[v, .string s, .int .i64 x] (w.alloc o) fun e w' => ∃ v', e = .returned v' ∧ w'.ownsRow (w.alloc o).heap.size 54 2 v' (writersN (notes l l.length) s x).length (wrC (writersN (notes l l.length) s x)) ∧ Below (w.alloc o).heap.size (w.alloc o) w') := fun o => rwriters_is _ v l s x (h.below (below_box w o)) hG.len hG.ten
  have hwl := writers_len (notes l l.length) s x
  have hnl := hG.nlen
  obtain ⟨a1, c1, rfl, _⟩ := RowsIn.cells h (by omega)
  clear h hG hu
  generalize srcN l s (notes l l.length) x = S at *
  generalize writersN (notes l l.length) s x = WS at *
  cases WS with
  | nil =>
    cases S with
    | some y => simp at hh
    | none =>
      simp only [List.length_nil, Option.getD_none, Option.isSome_none] at *
      go_enter Try.func47, Try.ntmps47
      go_wp2_with (go_at_call 64; refine (WR _).out.mono ?_; rintro e w1 ⟨v', rfl, ho, b1⟩; obtain ⟨ra, rc, hrv⟩ := own_slice ho; subst hrv; obtain ⟨hs1, y, fz, b1⟩ := box_later b1; have B1 := hid b1; have y0 := y 0; have y1 := y 1; simp only [List.getElem?_toArray, List.getElem?_cons_zero, List.getElem?_cons_succ] at y0 y1; clear b1 y ho WR)
      rw [Tx.setCell_self y0, Tx.setCell_self y1]
      exact bodyPost_ret (v := .tuple #[.agg #[.int .i64 0, .int .i64 0], .bool false]) (by simp [results, Try.results47, go_sem, y0, y1]) rfl ⟨rfl, B1.out⟩
  | cons p ps =>
    cases S with
    | none => simp at hh
    | some y =>
      obtain ⟨y1, y2, y3, y4⟩ := y
      have hp : p = (y1, y2) := by simpa using hh
      subst hp
      simp only [Option.getD_some, Option.isSome_some] at *
      have hn0 : ¬ ((y1, y2) :: ps).length = 0 := by simp
      have hnb : ((((y1, y2) :: ps).length : Int) == 0) = false := by rw [beq_eq_false_iff_ne]; simp only [List.length_cons]; omega
      have hnp : (0 : Int) < (((y1, y2) :: ps).length : Int) := by simp only [List.length_cons]; omega
      obtain ⟨n, hn⟩ : ∃ n, ((y1, y2) :: ps).length = n := ⟨_, rfl⟩
      rw [hn] at hn0 hnb hnp
      have HN := hid hn
      rw [hn] at WR
      clear hh hn
      go_enter Try.func47, Try.ntmps47
      go_wp2_with (go_at_call 64; refine (WR _).out.mono ?_; rintro e w1 ⟨v', rfl, ho, b1⟩; obtain ⟨g, rc, hrv⟩ := own_some ho hn0; subst hrv; obtain ⟨hs1, y, fz, b1⟩ := box_later b1; have B1 := hid b1; have z0 := y 0; have z1 := y 1; have e0 : w1.cell? ⟨g, 0, none⟩ = some (.int .i64 y1) := ho.cellAt 0 (by omega); have e1 : w1.cell? ⟨g, 1, none⟩ = some (.int .i64 y2) := ho.cellAt 1 (by omega); simp only [List.getElem?_toArray, List.getElem?_cons_zero, List.getElem?_cons_succ] at z0 z1; clear b1 y ho WR)
      refine bodyPost_ret (v := .tuple #[.agg #[.int .i64 y1, .int .i64 y2], .bool true]) (by simp [results, Try.results47, go_sem, z0, z1]) rfl ⟨rfl, ?_⟩
      exact (B1.out.setCell (Nat.le_refl _) _).setCell (Nat.le_refl _) _
theorem failed_is (p st f t : Int) (a : Option Addr) (n c : Nat) (w : World) : Calls Try.prog 76 #[.agg #[.int .i64 p, .int .i64 st, .int .i64 f, .int .i64 t, .slice a n c]] w fun e w' => e = .returned (.bool (failB st)) ∧ Below w.heap.size w w' := by
  by_cases h1 : st = 1
  · subst h1
    go_enter Try.func76, Try.ntmps76
    go_wp2_with fail
    go_ret
    exact ⟨rfl, below_box w _⟩
  · have h1b : (st == (1 : Int)) = false := by simpa using h1
    go_enter Try.func76, Try.ntmps76
    go_wp2_with fail
    go_ret
    exact ⟨rfl, below_box w _⟩
theorem ints_cells {S : Nat → Prop} {w : World} {a : Option Addr} {n c : Nat} {xs : List Int} (h : IntsIn S w (.slice a n c) xs) : n = xs.length ∧ n ≤ c ∧ IntCells w a xs n := by
  obtain ⟨ao, c', hv, hl, hc⟩ := h
  cases hv
  refine ⟨rfl, hl.2, fun j hj => ?_⟩
  obtain ⟨b, off, e, _, h3⟩ := hc (by omega)
  exact ⟨b, off, e, h3 j hj⟩
set_option maxHeartbeats 2000000 in
theorem begins_is {S S' : Nat → Prop} (a b : Option Addr) (c d : Nat) (xs ys : List Int) (w : World) (h : IntsIn S w (.slice a xs.length c) xs) (h' : IntsIn S' w (.slice b ys.length d) ys) (hx : xs.length ≤ 100000) (hy : ys.length ≤ 100000) : Calls Try.prog 22 #[.slice a xs.length c, .slice b ys.length d] w fun e w' => e = .returned (.bool (decide (xs.length ≤ ys.length ∧ xs = ys.take xs.length))) ∧ Below w.heap.size w w' := by
  obtain ⟨_, _, h1⟩ := ints_cells h
  obtain ⟨_, hd, h2⟩ := ints_cells h'
  by_cases hle : xs.length ≤ ys.length
  · have h3 : IntCells w b (ys.take xs.length) xs.length := fun j hj => by
      obtain ⟨bb, oo, e1, e2⟩ := h2 j (by omega)
      refine ⟨bb, oo, e1, ?_⟩
      rw [e2]
      simp [List.getD, List.getElem?_take, hj]
    have SL := hid (sameList_cells a b c d xs.length xs.length xs (ys.take xs.length) w rfl (by simp; omega) (by omega) h1 h3)
    have hlei : (xs.length : Int) ≤ ys.length := by omega
    have hdi : (xs.length : Int) ≤ d := by omega
    have e : decide (xs.length ≤ ys.length ∧ xs = ys.take xs.length) = decide (xs = ys.take xs.length) := by simp [hle]
    rw [e]
    clear h h' h1 h2 h3 e
    generalize decide (xs = ys.take xs.length) = D at *
    generalize xs.length = n at *
    generalize ys.length = m at *
    go_enter Try.func22, Try.ntmps22
    go_wp2_with (go_at_call 49; refine SL.out.mono ?_; rintro e w1 ⟨rfl, q, rfl⟩)
    go_ret
    exact ⟨rfl, ⟨rfl, rfl, rfl, Nat.le_refl _, fun _ _ => rfl⟩⟩
  · have hlei : ¬ (xs.length : Int) ≤ ys.length := by omega
    have e : decide (xs.length ≤ ys.length ∧ xs = ys.take xs.length) = false := by simp [hle]
    rw [e]
    clear h h' h1 h2 e
    generalize xs.length = n at *
    generalize ys.length = m at *
    go_enter Try.func22, Try.ntmps22
    go_wp2_with fail
    go_ret
    exact ⟨rfl, Below.refl _ _⟩
end Go.Proofs.Ytnfbcmnlloipiaa
namespace Go.Proofs.Ytnfbcmnlloipiaa
set_option linter.unusedVariables false
set_option linter.unusedSimpArgs false
open Go.RowKit Go.Lib Go.Maps Go.Sort
open Tx (MTxn info_parts RowsIn.cells RowCells TxnRow TxnsIn)


/-- What the document's 'one' answers. -/
def OneP (s : ByteArray) (ri rj : Nat) (o : Option (Int × Int × Int)) (e : Ending) : Prop := ∃ c0 c1 c2 c3 c4 c5, e = .returned (.tuple #[.agg #[.int .i64 c0, .int .i64 c1, .int .i64 c2, .int .i64 c3, .string c4, .int .i64 c5, .slice none 0 0, .bool false, .int .i64 0], .bool o.isSome]) ∧ ∀ a, o = some a → c0 = a.1 ∧ c1 = (ri : Int) ∧ c2 = (rj : Int) ∧ c3 = a.2.1 ∧ c4 = s ∧ c5 = a.2.2
/-- Its blocks, while it goes on: the read, the answer's place, the anomaly in hand. -/
structure On (w : World) (zb ab : Nat) (ri rj : Nat) (la : Option Addr) (lm lc : Nat) (kd : Int) (s : ByteArray) (x : Int) (wr : World) : Prop where
  r8 : wr.heap[w.heap.size]? = some (.cells #[.int .i64 ri, .int .i64 rj, .slice la lm lc] 87)
  z10 : wr.heap[zb]? = some (.cells #[.int .i64 0, .int .i64 0, .int .i64 0, .int .i64 0, .string ⟨#[]⟩, .int .i64 0, .slice none 0 0, .bool false, .int .i64 0] 85)
  a12 : wr.heap[ab]? = some (.cells #[.int .i64 kd, .int .i64 ri, .int .i64 rj, .int .i64 0, .string s, .int .i64 x, .slice none 0 0, .bool false, .int .i64 0] 85)
  bl : Below w.heap.size w wr
section
variable {w : World} {zb ab ri rj : Nat} {la : Option Addr} {lm lc : Nat} {kd : Int} {s : ByteArray} {x : Int} {wr : World}
theorem On.later (h : On w zb ab ri rj la lm lc kd s x wr) {w' : World} (hb : Below wr.heap.size wr w') : On w zb ab ri rj la lm lc kd s x w' :=
  ⟨(hb.block _ (blt h.r8)).trans h.r8, (hb.block _ (blt h.z10)).trans h.z10, (hb.block _ (blt h.a12)).trans h.a12, h.bl.trans (hb.mono h.bl.size)⟩
theorem On.set (h : On w zb ab ri rj la lm lc kd s x wr) (hz : zb ≠ ab) (ha : w.heap.size < ab) (y : Int) : On w zb ab ri rj la lm lc kd s y (wr.setCell ⟨ab, 5, none⟩ (.int .i64 y)) :=
  ⟨(set_ne (by show w.heap.size ≠ ab; omega)).trans h.r8, (set_ne hz).trans h.z10, Go.Joins.block_setCell h.a12 _, h.bl.setCell (by show w.heap.size ≤ ab; omega) _⟩
end
theorem below_ab {w a : World} {o : Obj} (h : Below w.heap.size w a) : Below w.heap.size w (a.alloc o) := h.trans ((below_box a o).mono h.size)
theorem on_start (w : World) (ri rj : Nat) (la : Option Addr) (lm lc : Nat) (ti tj : Int) (ta : Option Addr) (tm tc : Nat) (kd : Int) (s : ByteArray) : On w (w.heap.size + 1 + 1) (w.heap.size + 1 + 1 + 1) ri rj la lm lc kd s 0 ((((w.alloc (.cells #[.int .i64 ri, .int .i64 rj, .slice la lm lc] 87)).alloc (.cells #[.int .i64 ti, .int .i64 tj, .slice ta tm tc] 87)).alloc (.cells #[.int .i64 0, .int .i64 0, .int .i64 0, .int .i64 0, .string ⟨#[]⟩, .int .i64 0, .slice none 0 0, .bool false, .int .i64 0] 85)).alloc (.cells #[.int .i64 kd, .int .i64 ri, .int .i64 rj, .int .i64 0, .string s, .int .i64 0, .slice none 0 0, .bool false, .int .i64 0] 85)) := by
  have s1 : (w.alloc (.cells #[.int .i64 ri, .int .i64 rj, .slice la lm lc] 87)).heap.size = w.heap.size + 1 := alloc_size _ _
  have s2 : ((w.alloc (.cells #[.int .i64 ri, .int .i64 rj, .slice la lm lc] 87)).alloc (.cells #[.int .i64 ti, .int .i64 tj, .slice ta tm tc] 87)).heap.size = w.heap.size + 1 + 1 := by rw [alloc_size, s1]
  have s3 : (((w.alloc (.cells #[.int .i64 ri, .int .i64 rj, .slice la lm lc] 87)).alloc (.cells #[.int .i64 ti, .int .i64 tj, .slice ta tm tc] 87)).alloc (.cells #[.int .i64 0, .int .i64 0, .int .i64 0, .int .i64 0, .string ⟨#[]⟩, .int .i64 0, .slice none 0 0, .bool false, .int .i64 0] 85)).heap.size = w.heap.size + 1 + 1 + 1 := by rw [alloc_size, s2]
  refine ⟨?_, ?_, ?_, ?_⟩
  · rw [alloc_at, if_neg (by rw [s3]; omega), alloc_at, if_neg (by rw [s2]; omega), alloc_at, if_neg (by rw [s1]; omega)]
    exact heap_alloc_new w _
  · rw [alloc_at, if_neg (by rw [s3]; omega), alloc_at, if_pos s2.symm]
  · rw [alloc_at, if_pos s3.symm]
  · exact (((below_box w _).alloc (by rw [s1]; omega) _).alloc (by rw [s2]; omega) _).alloc (by rw [s3]; omega) _
end Go.Proofs.Ytnfbcmnlloipiaa
namespace Go.Proofs.Ytnfbcmnlloipiaa
set_option linter.unusedVariables false
set_option linter.unusedSimpArgs false
open Go.RowKit Go.Lib Go.Maps Go.Sort
open Tx (MTxn info_parts RowsIn.cells RowCells TxnRow TxnsIn)

set_option maxHeartbeats 8000000 in
set_option maxRecDepth 100000 in
theorem one_2 (w : World) (v : Value) (l : List MTxn) (s : ByteArray) (ri rj : Nat) (la : Option Addr) (lc : Nat) (xs : List Int) (ti tj : Nat) (ta : Option Addr) (tc : Nat) (ts : List Int) (h : TxnsIn Any w v l) (hG : Good l) (hu : uniqN (notes l l.length)) (hin : IntsIn Any w (.slice la xs.length lc) xs) (hxl : xs.length ≤ 100000) :
    Calls Try.prog 43 #[v, .string s, .int .i64 2, .agg #[.int .i64 ri, .int .i64 rj, .slice la xs.length lc], .agg #[.int .i64 ti, .int .i64 tj, .slice ta ts.length tc]] w fun e w' => OneP s ri rj (findM ⟨srcN l s (notes l l.length), ti, ts⟩ ri rj xs 1) e ∧ Below w.heap.size w w' := by
  have WT : Hid (∀ W, Below w.heap.size w W → ∀ x, Calls Try.prog 47 #[v, .string s, .int .i64 x] W fun e w' => e = .returned (.tuple #[.agg #[.int .i64 ((srcN l s (notes l l.length) x).getD noSrc).1, .int .i64 ((srcN l s (notes l l.length) x).getD noSrc).2.1], .bool (srcN l s (notes l l.length) x).isSome]) ∧ Below W.heap.size W w') := fun W hb x => writer_is W v l s x (h.below hb) hG hu
  have HS : Hid (∀ x y, srcN l s (notes l l.length) x = some y → y = srcOf l (y.1, y.2.1, default) ∧ y.1 < l.length) := fun x y hy => by
    obtain ⟨z, hz, _, rfl⟩ := src_mem hy
    exact ⟨rfl, (notes_at _ hz).1⟩
  obtain ⟨a1, c1, rfl, hrow⟩ := RowsIn.cells h (by omega)
  obtain ⟨_, hrow⟩ := hrow
  have HROW := hid hrow
  have HT := hid h
  have HG := hid hG
  have HIN := hid hin
  have hxli : (xs.length : Int) ≤ 100000 := by omega
  have S0 := hid (on_start w ri rj la xs.length lc ti tj ta ts.length tc 2 s)
  clear h hG hu hin hrow
  generalize hF : srcN l s (notes l l.length) = F at *
  have HF := hid hF
  clear hF
  go_enter Try.func43, Try.ntmps43
  go_wp2_with fail
  generalize hab : w.heap.size + 1 + 1 + 1 = ab at *
  generalize hzb : w.heap.size + 1 + 1 = zb at *
  generalize (((w.alloc (.cells #[.int .i64 ri, .int .i64 rj, .slice la xs.length lc] 87)).alloc (.cells #[.int .i64 ti, .int .i64 tj, .slice ta ts.length tc] 87)).alloc (.cells #[.int .i64 0, .int .i64 0, .int .i64 0, .int .i64 0, .string ⟨#[]⟩, .int .i64 0, .slice none 0 0, .bool false, .int .i64 0] 85)).alloc (.cells #[.int .i64 2, .int .i64 ri, .int .i64 rj, .int .i64 0, .string s, .int .i64 0, .slice none 0 0, .bool false, .int .i64 0] 85) = W0 at *
  have hza : zb ≠ ab := by omega
  have hra : w.heap.size < ab := by omega
  have hrz : w.heap.size < zb := by omega
  go_loopg [13, 14, 15, 16, 18, 41] xs.length (fun gg _ _ _ _ _ i wr => ∃ k : Nat, k ≤ xs.length ∧ xs.length - k ≤ gg ∧ i = .int .i64 k ∧ Aside (∃ x, On w zb ab ri rj la xs.length lc 2 s x wr) ∧ Aside (∀ j, j < k → garB F ri rj (xs.getD j default) = false))
  case atStart => exact ⟨0, Nat.zero_le _, by omega, rfl, ⟨_, S0.out⟩, fun j hj => by omega⟩
  case round =>
    obtain ⟨k, hk, hgk, rfl, SR, NX⟩ := hrel
    obtain ⟨x0, hOn⟩ := SR.out
    by_cases hlt : k < xs.length
    · have hlti : (k : Int) < xs.length := by omega
      obtain ⟨ao, c', hv, _, hcs⟩ := id HIN.out
      cases hv
      obtain ⟨lb, lo, rfl, _, hcell⟩ := hcs (by omega)
      have xk := (hOn.bl.cell (p := ⟨lb, lo + k, none⟩) (World.block_lt_of_cell? _ _ (hcell k hlt))).trans (hcell k hlt)
      obtain ⟨X, hX⟩ : ∃ X, xs.getD k default = X := ⟨_, rfl⟩
      rw [hX] at xk
      have HX := hid hX
      have a5 : wr.cell? ⟨ab, 5, none⟩ = some (.int .i64 x0) := Lib.cell_of_heap hOn.a12 5
      have f5 : wr.frozen? ⟨ab, 5, none⟩ = false := Lib.frozen_of_heap hOn.a12 5
      have r2 : wr.cell? ⟨w.heap.size, 2, none⟩ = some (.slice (some ⟨lb, lo, none⟩) xs.length lc) := Lib.cell_of_heap hOn.r8 2
      have O1 := hid (hOn.set hza hra X)
      have HOn := hid hOn
      have WTk := hid (WT.out _ O1.out.bl X)
      clear hcs hcell hX hOn SR
      obtain ⟨y, hy⟩ : ∃ y, (F X).getD noSrc = y := ⟨_, rfl⟩
      obtain ⟨q, hq⟩ : ∃ q, (F X).isSome = q := ⟨_, rfl⟩
      rw [hy, hq] at WTk
      obtain ⟨y1, y2, y3, y4⟩ := y
      simp only at WTk
      have HY := hid hy
      have HQ := hid hq
      clear hy hq
      go_upto_region 10 with (go_at_call 47; refine WTk.out.mono ?_; rintro e w1 ⟨rfl, b1⟩; have O2 := hid (O1.out.later b1); clear b1)
      have O3 := hid (O2.out.later (below_box w1 (.cells #[.int .i64 y1, .int .i64 y2] 54)))
      have PB := hid (heap_alloc_new w1 (.cells #[.int .i64 y1, .int .i64 y2] 54))
      clear a5 f5 r2 xk O1 O2 WTk HOn
      generalize w1.alloc (.cells #[.int .i64 y1, .int .i64 y2] 54) = W2 at *
      generalize w1.heap.size = pb at *
      have P0 : W2.cell? ⟨pb, 0, none⟩ = some (.int .i64 y1) := Lib.cell_of_heap PB.out 0
      have P1 : W2.cell? ⟨pb, 1, none⟩ = some (.int .i64 y2) := Lib.cell_of_heap PB.out 1
      have R0 : W2.cell? ⟨w.heap.size, 0, none⟩ = some (.int .i64 ri) := Lib.cell_of_heap O3.out.r8 0
      have R1 : W2.cell? ⟨w.heap.size, 1, none⟩ = some (.int .i64 rj) := Lib.cell_of_heap O3.out.r8 1
      have R2 : W2.cell? ⟨w.heap.size, 2, none⟩ = some (.slice (some ⟨lb, lo, none⟩) xs.length lc) := Lib.cell_of_heap O3.out.r8 2
      cases hS : F X with
      | none =>
        have e1 := HY.out
        have e2 := HQ.out
        rw [hS] at e1 e2
        cases e1
        cases e2
        have NP : Hid (garB F ri rj X = true) := by show _ = _; simp [garB, hS]
        clear hS
        have A0 : W2.cell? ⟨ab, 0, none⟩ = some (.int .i64 2) := Lib.cell_of_heap O3.out.a12 0
        have A1 : W2.cell? ⟨ab, 1, none⟩ = some (.int .i64 ri) := Lib.cell_of_heap O3.out.a12 1
        have A2 : W2.cell? ⟨ab, 2, none⟩ = some (.int .i64 rj) := Lib.cell_of_heap O3.out.a12 2
        have A3 : W2.cell? ⟨ab, 3, none⟩ = some (.int .i64 0) := Lib.cell_of_heap O3.out.a12 3
        have A4 : W2.cell? ⟨ab, 4, none⟩ = some (.string s) := Lib.cell_of_heap O3.out.a12 4
        have A5 : W2.cell? ⟨ab, 5, none⟩ = some (.int .i64 X) := Lib.cell_of_heap O3.out.a12 5
        have A6 : W2.cell? ⟨ab, 6, none⟩ = some (.slice none 0 0) := Lib.cell_of_heap O3.out.a12 6
        have A7 : W2.cell? ⟨ab, 7, none⟩ = some (.bool false) := Lib.cell_of_heap O3.out.a12 7
        have A8 : W2.cell? ⟨ab, 8, none⟩ = some (.int .i64 0) := Lib.cell_of_heap O3.out.a12 8
        have Y0 : W2.cell? ⟨zb, 0, none⟩ = some (.int .i64 0) := Lib.cell_of_heap O3.out.z10 0
        have Y1 : W2.cell? ⟨zb, 1, none⟩ = some (.int .i64 0) := Lib.cell_of_heap O3.out.z10 1
        have Y2 : W2.cell? ⟨zb, 2, none⟩ = some (.int .i64 0) := Lib.cell_of_heap O3.out.z10 2
        have Y3 : W2.cell? ⟨zb, 3, none⟩ = some (.int .i64 0) := Lib.cell_of_heap O3.out.z10 3
        have Y4 : W2.cell? ⟨zb, 4, none⟩ = some (.string ⟨#[]⟩) := Lib.cell_of_heap O3.out.z10 4
        have Y5 : W2.cell? ⟨zb, 5, none⟩ = some (.int .i64 0) := Lib.cell_of_heap O3.out.z10 5
        have Y6 : W2.cell? ⟨zb, 6, none⟩ = some (.slice none 0 0) := Lib.cell_of_heap O3.out.z10 6
        have Y7 : W2.cell? ⟨zb, 7, none⟩ = some (.bool false) := Lib.cell_of_heap O3.out.z10 7
        have Y8 : W2.cell? ⟨zb, 8, none⟩ = some (.int .i64 0) := Lib.cell_of_heap O3.out.z10 8
        have FZ : ∀ i, W2.frozen? ⟨zb, i, none⟩ = false := (fun i => Lib.frozen_of_heap O3.out.z10 i)
        have FA : ∀ i, W2.frozen? ⟨ab, i, none⟩ = false := (fun i => Lib.frozen_of_heap O3.out.a12 i)
        go_wp2_with fail
        refine bodyPost_ret (v := .tuple #[.agg #[.int .i64 2, .int .i64 ri, .int .i64 rj, .int .i64 0, .string s, .int .i64 X, .slice none 0 0, .bool false, .int .i64 0], .bool true]) (by simp [results, Try.results43, go_sem, Y0, Y1, Y2, Y3, Y4, Y5, Y6, Y7, Y8, hza, hza.symm]) rfl ⟨⟨2, ri, rj, 0, s, X, ?_, ?_⟩, (((((((((O3.out.bl.setCell (by show w.heap.size ≤ zb; omega) _).setCell (by show w.heap.size ≤ zb; omega) _).setCell (by show w.heap.size ≤ zb; omega) _).setCell (by show w.heap.size ≤ zb; omega) _).setCell (by show w.heap.size ≤ zb; omega) _).setCell (by show w.heap.size ≤ zb; omega) _).setCell (by show w.heap.size ≤ zb; omega) _).setCell (by show w.heap.size ≤ zb; omega) _).setCell (by show w.heap.size ≤ zb; omega) _)⟩
        · have hfn : findM ⟨F, ti, ts⟩ ri rj xs 1 = some (2, 0, X) := by
            show (xs.find? (garB F ri rj)).map _ = _
            rw [find_some' (garB F ri rj) default xs k hlt (by rw [HX.out]; exact NP.out) NX.out, HX.out]
            rfl
          rw [hfn]
          rfl
        · intro a ha
          have hfn : findM ⟨F, ti, ts⟩ ri rj xs 1 = some (2, 0, X) := by
            show (xs.find? (garB F ri rj)).map _ = _
            rw [find_some' (garB F ri rj) default xs k hlt (by rw [HX.out]; exact NP.out) NX.out, HX.out]
            rfl
          rw [hfn] at ha
          injection ha with ha
          subst ha
          exact ⟨rfl, rfl, rfl, rfl, rfl, rfl⟩
      | some y =>
        have e1 := HY.out
        have e2 := HQ.out
        rw [hS] at e1 e2
        cases e1
        cases e2
        by_cases he : y1 = ri
        · have heb : ((y1 : Int) == (ri : Int)) = true := by rw [beq_iff_eq]; omega
          by_cases hg : rj < y2
          · have hgi : (rj : Int) < y2 := by omega
            have NP : Hid (garB F ri rj X = true) := by show _ = _; simp [garB, hS, hg, he]
            clear hS
            have A0 : W2.cell? ⟨ab, 0, none⟩ = some (.int .i64 2) := Lib.cell_of_heap O3.out.a12 0
            have A1 : W2.cell? ⟨ab, 1, none⟩ = some (.int .i64 ri) := Lib.cell_of_heap O3.out.a12 1
            have A2 : W2.cell? ⟨ab, 2, none⟩ = some (.int .i64 rj) := Lib.cell_of_heap O3.out.a12 2
            have A3 : W2.cell? ⟨ab, 3, none⟩ = some (.int .i64 0) := Lib.cell_of_heap O3.out.a12 3
            have A4 : W2.cell? ⟨ab, 4, none⟩ = some (.string s) := Lib.cell_of_heap O3.out.a12 4
            have A5 : W2.cell? ⟨ab, 5, none⟩ = some (.int .i64 X) := Lib.cell_of_heap O3.out.a12 5
            have A6 : W2.cell? ⟨ab, 6, none⟩ = some (.slice none 0 0) := Lib.cell_of_heap O3.out.a12 6
            have A7 : W2.cell? ⟨ab, 7, none⟩ = some (.bool false) := Lib.cell_of_heap O3.out.a12 7
            have A8 : W2.cell? ⟨ab, 8, none⟩ = some (.int .i64 0) := Lib.cell_of_heap O3.out.a12 8
            have Y0 : W2.cell? ⟨zb, 0, none⟩ = some (.int .i64 0) := Lib.cell_of_heap O3.out.z10 0
            have Y1 : W2.cell? ⟨zb, 1, none⟩ = some (.int .i64 0) := Lib.cell_of_heap O3.out.z10 1
            have Y2 : W2.cell? ⟨zb, 2, none⟩ = some (.int .i64 0) := Lib.cell_of_heap O3.out.z10 2
            have Y3 : W2.cell? ⟨zb, 3, none⟩ = some (.int .i64 0) := Lib.cell_of_heap O3.out.z10 3
            have Y4 : W2.cell? ⟨zb, 4, none⟩ = some (.string ⟨#[]⟩) := Lib.cell_of_heap O3.out.z10 4
            have Y5 : W2.cell? ⟨zb, 5, none⟩ = some (.int .i64 0) := Lib.cell_of_heap O3.out.z10 5
            have Y6 : W2.cell? ⟨zb, 6, none⟩ = some (.slice none 0 0) := Lib.cell_of_heap O3.out.z10 6
            have Y7 : W2.cell? ⟨zb, 7, none⟩ = some (.bool false) := Lib.cell_of_heap O3.out.z10 7
            have Y8 : W2.cell? ⟨zb, 8, none⟩ = some (.int .i64 0) := Lib.cell_of_heap O3.out.z10 8
            have FZ : ∀ i, W2.frozen? ⟨zb, i, none⟩ = false := (fun i => Lib.frozen_of_heap O3.out.z10 i)
            have FA : ∀ i, W2.frozen? ⟨ab, i, none⟩ = false := (fun i => Lib.frozen_of_heap O3.out.a12 i)
            go_wp2_with fail
            refine bodyPost_ret (v := .tuple #[.agg #[.int .i64 2, .int .i64 ri, .int .i64 rj, .int .i64 0, .string s, .int .i64 X, .slice none 0 0, .bool false, .int .i64 0], .bool true]) (by simp [results, Try.results43, go_sem, Y0, Y1, Y2, Y3, Y4, Y5, Y6, Y7, Y8, hza, hza.symm]) rfl ⟨⟨2, ri, rj, 0, s, X, ?_, ?_⟩, (((((((((O3.out.bl.setCell (by show w.heap.size ≤ zb; omega) _).setCell (by show w.heap.size ≤ zb; omega) _).setCell (by show w.heap.size ≤ zb; omega) _).setCell (by show w.heap.size ≤ zb; omega) _).setCell (by show w.heap.size ≤ zb; omega) _).setCell (by show w.heap.size ≤ zb; omega) _).setCell (by show w.heap.size ≤ zb; omega) _).setCell (by show w.heap.size ≤ zb; omega) _).setCell (by show w.heap.size ≤ zb; omega) _)⟩
            · have hfn : findM ⟨F, ti, ts⟩ ri rj xs 1 = some (2, 0, X) := by
                show (xs.find? (garB F ri rj)).map _ = _
                rw [find_some' (garB F ri rj) default xs k hlt (by rw [HX.out]; exact NP.out) NX.out, HX.out]
                rfl
              rw [hfn]
              rfl
            · intro a ha
              have hfn : findM ⟨F, ti, ts⟩ ri rj xs 1 = some (2, 0, X) := by
                show (xs.find? (garB F ri rj)).map _ = _
                rw [find_some' (garB F ri rj) default xs k hlt (by rw [HX.out]; exact NP.out) NX.out, HX.out]
                rfl
              rw [hfn] at ha
              injection ha with ha
              subst ha
              exact ⟨rfl, rfl, rfl, rfl, rfl, rfl⟩
          · have hgi : ¬ (rj : Int) < y2 := by omega
            have NP : Hid (garB F ri rj X = false) := by show _ = _; simp [garB, hS, hg]
            clear hS
            go_wp2_with fail
            go_roundg (xs.length - (k + 1))
            case measure => omega
            case rel => exact ⟨k + 1, by omega, by omega, by go_num, ⟨X, O3.out⟩, (fun j hj => by by_cases e : j = k; (· rw [e, HX.out]; exact NP.out); (· exact NX.out j (by omega)))⟩
        · have heb : ((y1 : Int) == (ri : Int)) = false := by rw [beq_eq_false_iff_ne]; omega
          have NP : Hid (garB F ri rj X = false) := by show _ = _; simp [garB, hS, he]
          clear hS
          go_wp2_with fail
          go_roundg (xs.length - (k + 1))
          case measure => omega
          case rel => exact ⟨k + 1, by omega, by omega, by go_num, ⟨X, O3.out⟩, (fun j hj => by by_cases e : j = k; (· rw [e, HX.out]; exact NP.out); (· exact NX.out j (by omega)))⟩
    · have hke : k = xs.length := by omega
      have hlti : ¬ (k : Int) < xs.length := by omega
      subst hke
      have hOn2 := hOn
      have HOn := hid hOn
      have y0 := Lib.cell_of_heap hOn2.z10 0
      have y1 := Lib.cell_of_heap hOn2.z10 1
      have y2 := Lib.cell_of_heap hOn2.z10 2
      have y3 := Lib.cell_of_heap hOn2.z10 3
      have y4 := Lib.cell_of_heap hOn2.z10 4
      have y5 := Lib.cell_of_heap hOn2.z10 5
      have y6 := Lib.cell_of_heap hOn2.z10 6
      have y7 := Lib.cell_of_heap hOn2.z10 7
      have y8 := Lib.cell_of_heap hOn2.z10 8
      simp only [List.getElem?_toArray, List.getElem?_cons_zero, List.getElem?_cons_succ] at y0 y1 y2 y3 y4 y5 y6 y7 y8
      have fz : ∀ i, wr.frozen? ⟨zb, i, none⟩ = false := fun i => Lib.frozen_of_heap hOn2.z10 i
      clear hOn hOn2 SR
      have hfn := show findM ⟨F, ti, ts⟩ ri rj xs 1 = none from (by show (xs.find? (garB F ri rj)).map _ = _; rw [find_none' (garB F ri rj) default xs NX.out]; rfl)
      have HFN := hid hfn
      clear hfn
      go_wp2_with fail
      rw [Tx.setCell_self y0, Tx.setCell_self y1, Tx.setCell_self y2, Tx.setCell_self y3, Tx.setCell_self y4, Tx.setCell_self y5, Tx.setCell_self y6, Tx.setCell_self y7, Tx.setCell_self y8]
      refine bodyPost_ret (v := .tuple #[.agg #[.int .i64 0, .int .i64 0, .int .i64 0, .int .i64 0, .string ⟨#[]⟩, .int .i64 0, .slice none 0 0, .bool false, .int .i64 0], .bool false]) (by simp [results, Try.results43, go_sem, y0, y1, y2, y3, y4, y5, y6, y7, y8]) rfl ⟨⟨0, 0, 0, 0, ⟨#[]⟩, 0, ?_, ?_⟩, HOn.out.bl⟩
      · rw [HFN.out]
        rfl
      · intro a ha
        rw [HFN.out] at ha
        exact absurd ha (by simp)
end Go.Proofs.Ytnfbcmnlloipiaa
