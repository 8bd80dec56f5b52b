/-
  The document's longest read, its writer of a value, and who failed.
  The document's SameList; its state in memory.
  The document's writer of a value; who failed; which list begins another.
  The document's Once.
  The document's anomaly of a read: what all kinds share.
-/
import Derived.Test.YtnfbcmnlloipiaaK14
import Derived.Test.YtnfbcmnlloipiaaK12
import Derived.Laws.StructEq
namespace Go.Proofs.Ytnfbcmnlloipiaa
set_option linter.unusedVariables false
set_option linter.unusedSimpArgs false
open Go.RowKit Go.Lib Go.Maps Go.Sort
open Tx (MTxn info_parts RowsIn.cells RowCells TxnRow TxnsIn)

/-- The first of the longest, as the document tells it. -/
def longD : List MRx → MRx
  | [] => (0, 0, [])
  | r :: R => R.foldl longS r
theorem longD_snoc (R : List MRx) (r : MRx) (h : 0 < R.length) : longD (R ++ [r]) = longS (longD R) r := by
  cases R with
  | nil => simp at h
  | cons a R =>
    show ((R ++ [r]).foldl longS a) = _
    rw [List.foldl_append]
    rfl
theorem longD_next (RX : List MRx) (k : Nat) (hk : k < RX.length) (h0 : 0 < k) : longD (RX.take (k + 1)) = longS (longD (RX.take k)) (RX.getD k default) := by
  rw [List.take_add_one, List.getElem?_eq_getElem hk]
  show longD (RX.take k ++ [RX[k]]) = _
  rw [longD_snoc _ _ (by simp; omega)]
  simp [List.getD, List.getElem?_eq_getElem hk]
theorem longD_mem (R : List MRx) (h : 0 < R.length) : longD R ∈ R := by
  cases R with
  | nil => simp at h
  | cons a R =>
    rcases long_mem R a with e | e
    · show R.foldl longS a ∈ _
      rw [e]
      simp
    · exact List.mem_cons_of_mem _ e
/-- Both tell the same list, and where it has a value the same read. -/
theorem longD_is (R : List MRx) : (longD R).2.2 = (longR R).2.2 ∧ (0 < (longR R).2.2.length → longD R = longR R) := by
  cases R with
  | nil => exact ⟨rfl, fun _ => rfl⟩
  | cons a R =>
    have key : ∀ (R : List MRx) (t u : MRx), t.2.2 = [] → u.2.2 = [] → (R.foldl longS t).2.2 = (R.foldl longS u).2.2 ∧ (0 < (R.foldl longS u).2.2.length → R.foldl longS t = R.foldl longS u) := by
      intro R
      induction R with
      | nil => intro t u ht hu; exact ⟨by simp [ht, hu], fun h => by simp [hu] at h⟩
      | cons b R ih =>
        intro t u ht hu
        rw [List.foldl_cons, List.foldl_cons]
        by_cases hb : 0 < b.2.2.length
        · have e1 : longS t b = b := if_pos (by rw [ht]; exact hb)
          have e2 : longS u b = b := if_pos (by rw [hu]; exact hb)
          rw [e1, e2]
          exact ⟨rfl, fun _ => rfl⟩
        · have e1 : longS t b = t := if_neg (by rw [ht]; exact hb)
          have e2 : longS u b = u := if_neg (by rw [hu]; exact hb)
          rw [e1, e2]
          exact ih t u ht hu
    show (R.foldl longS a).2.2 = ((a :: R).foldl longS (0, 0, [])).2.2 ∧ _
    rw [List.foldl_cons]
    by_cases ha : 0 < a.2.2.length
    · have e : longS (0, 0, []) a = a := if_pos ha
      have e3 : longR (a :: R) = R.foldl longS a := by
        show (a :: R).foldl longS (0, 0, []) = _
        rw [List.foldl_cons, e]
      rw [e]
      exact ⟨rfl, fun _ => e3.symm⟩
    · have e : longS (0, 0, []) a = (0, 0, []) := if_neg ha
      have e3 : longR (a :: R) = R.foldl longS (0, 0, []) := by
        show (a :: R).foldl longS (0, 0, []) = _
        rw [List.foldl_cons, e]
      have ha0 : a.2.2 = [] := List.length_eq_zero_iff.1 (by omega)
      have := key R a (0, 0, []) ha0 rfl
      rw [e]
      refine ⟨this.1, fun h => ?_⟩
      rw [e3] at h ⊢
      exact this.2 h
/-- The best of the first k reads, in memory. -/
def Bst (R : List MRd) (RX : List MRx) (k : Nat) (m : MRd) : Prop := (k = 0 ∧ m = (0, 0, none, 0, 0)) ∨ (0 < k ∧ ∃ q, q < k ∧ m = R.getD q default ∧ RX.getD q default = longD (RX.take k))
theorem rds_len_at {D : Nat → Prop} {w : World} {R : List MRd} {RX : List MRx} (h : RdsD D w R RX) (q : Nat) (hq : q < R.length) : (R.getD q default).2.2.2.1 = (RX.getD q default).2.2.length := by
  obtain ⟨a, c, e, _⟩ := h.at' q hq
  rw [e]
theorem Bst.next {D : Nat → Prop} {w : World} {R : List MRd} {RX : List MRx} (h : RdsD D w R RX) {k : Nat} {m : MRd} (hb : Bst R RX k m) (hk : k < R.length) : (k = 0 ∨ m.2.2.2.1 < (R.getD k default).2.2.2.1 → Bst R RX (k + 1) (R.getD k default)) ∧ (¬ k = 0 → ¬ m.2.2.2.1 < (R.getD k default).2.2.2.1 → Bst R RX (k + 1) m) := by
  have hkx : k < RX.length := h.len ▸ hk
  have hl := rds_len_at h k hk
  rcases hb with ⟨rfl, rfl⟩ | ⟨h0, q, hq, rfl, e⟩
  · refine ⟨fun _ => .inr ⟨by omega, 0, by omega, rfl, ?_⟩, fun c => absurd rfl c⟩
    cases RX with
    | nil => simp at hkx
    | cons a RX => rfl
  · have hql := rds_len_at h q (by omega)
    have en := longD_next RX k hkx h0
    refine ⟨fun c => .inr ⟨by omega, k, by omega, rfl, ?_⟩, fun _ c => .inr ⟨by omega, q, by omega, rfl, ?_⟩⟩
    · rw [en, ← e]
      rcases c with c | c
      · omega
      · rw [hql, hl] at c
        exact (if_pos c).symm
    · rw [en, ← e]
      rw [hql, hl] at c
      exact (if_neg c).symm
set_option maxHeartbeats 4000000 in
set_option maxRecDepth 100000 in
theorem longest_walk (B : Nat) (v : Value) (R : List MRd) (RX : List MRx) (w0 w : World) (h : w.ownsRow B 87 3 v R.length (rdC R)) (hR : RdsD Any w0 R RX) (hl : R.length ≤ 100000) :
    Calls Try.prog 37 #[v] w fun e w' => ∃ m : MRd, e = .returned (.agg #[.int .i64 m.1, .int .i64 m.2.1, .slice m.2.2.1 m.2.2.2.1 m.2.2.2.2]) ∧ Bst R RX R.length m ∧ Below w.heap.size w w' := by
  obtain ⟨ra, rc, hrv⟩ := own_slice h
  subst hrv
  have HO := hid h
  have HR := hid hR
  have hli : (R.length : Int) ≤ 100000 := by omega
  clear h hR
  go_enter Try.func37, Try.ntmps37
  go_wp2_with fail
  have S0 : Hid (Below w.heap.size w ((w.alloc (.cells #[.int .i64 0, .int .i64 0, .slice none 0 0] 87)).alloc (.cells #[.int .i64 0, .int .i64 0, .slice none 0 0] 87)) ∧ ((w.alloc (.cells #[.int .i64 0, .int .i64 0, .slice none 0 0] 87)).alloc (.cells #[.int .i64 0, .int .i64 0, .slice none 0 0] 87)).heap[w.heap.size]? = some (.cells #[.int .i64 0, .int .i64 0, .slice none 0 0] 87) ∧ ∃ m : MRd, ((w.alloc (.cells #[.int .i64 0, .int .i64 0, .slice none 0 0] 87)).alloc (.cells #[.int .i64 0, .int .i64 0, .slice none 0 0] 87)).heap[w.heap.size + 1]? = some (.cells #[.int .i64 m.1, .int .i64 m.2.1, .slice m.2.2.1 m.2.2.2.1 m.2.2.2.2] 87) ∧ Bst R RX 0 m) := by
    have s1 : (w.alloc (.cells #[.int .i64 0, .int .i64 0, .slice none 0 0] 87)).heap.size = w.heap.size + 1 := alloc_size _ _
    refine ⟨(below_box w _).alloc (by rw [s1]; omega) _, ?_, (0, 0, none, 0, 0), ?_, .inl ⟨rfl, rfl⟩⟩
    · rw [alloc_at, if_neg (by rw [s1]; omega)]
      exact heap_alloc_new w _
    · have := heap_alloc_new (w.alloc (.cells #[.int .i64 0, .int .i64 0, .slice none 0 0] 87)) (.cells #[.int .i64 0, .int .i64 0, .slice none 0 0] 87)
      rw [s1] at this
      exact this
  generalize (w.alloc (.cells #[.int .i64 0, .int .i64 0, .slice none 0 0] 87)).alloc (.cells #[.int .i64 0, .int .i64 0, .slice none 0 0] 87) = W0 at *
  go_loopg [4, 5, 8] R.length (fun gg _ _ i wr => ∃ k : Nat, k ≤ R.length ∧ R.length - k ≤ gg ∧ i = .int .i64 k ∧ Aside (Below w.heap.size w wr ∧ wr.heap[w.heap.size]? = some (.cells #[.int .i64 0, .int .i64 0, .slice none 0 0] 87) ∧ ∃ m : MRd, wr.heap[w.heap.size + 1]? = some (.cells #[.int .i64 m.1, .int .i64 m.2.1, .slice m.2.2.1 m.2.2.2.1 m.2.2.2.2] 87) ∧ Bst R RX k m))
  case atStart => exact ⟨0, Nat.zero_le _, by omega, rfl, S0.out⟩
  case round =>
    obtain ⟨k, hk, hgk, rfl, SR⟩ := hrel
    obtain ⟨bw, hz, m, hm, hb⟩ := SR.out
    obtain ⟨m1, m2, ma, mn, mc⟩ := m
    have BW := hid bw
    have HZ := hid hz
    have HM := hid hm
    have HB := hid hb
    clear SR bw
    by_cases hlt : k < R.length
    · have hlti : (k : Int) < R.length := by omega
      obtain ⟨g, c', hv⟩ := own_some HO.out (by omega)
      cases hv
      have hgl : g < w.heap.size := (own_block HO.out rfl).2.1
      obtain ⟨NX1, NX2⟩ := hb.next HR.out hlt
      have ce : ∀ i u, i < 3 → (rdVs (R.getD k default))[i]? = some u → wr.cell? ⟨g, k * 3 + i, none⟩ = some u := fun i u hi hu => (BW.out.cell (p := ⟨g, k * 3 + i, none⟩) hgl).trans ((HO.out.cellAt (k * 3 + i) (by omega)).trans ((rdC_at R k i hlt hi).trans hu))
      generalize R.getD k default = r at *
      obtain ⟨r1, r2, la, ln, lc⟩ := r
      have x0 := ce 0 _ (by omega) rfl
      have x1 := ce 1 _ (by omega) rfl
      have x2 := ce 2 _ (by omega) rfl
      simp only [Nat.add_zero] at x0 x1 x2
      have c0 : ∀ o, (wr.alloc o).cell? ⟨w.heap.size + 1, 0, none⟩ = some (.int .i64 m1) := fun o => Lib.cell?_alloc_some _ (Lib.cell_of_heap hm 0)
      have c1 : ∀ o, (wr.alloc o).cell? ⟨w.heap.size + 1, 1, none⟩ = some (.int .i64 m2) := fun o => Lib.cell?_alloc_some _ (Lib.cell_of_heap hm 1)
      have c2 : ∀ o, (wr.alloc o).cell? ⟨w.heap.size + 1, 2, none⟩ = some (.slice ma mn mc) := fun o => Lib.cell?_alloc_some _ (Lib.cell_of_heap hm 2)
      have hbl : w.heap.size + 1 < wr.heap.size := blt hm
      have hne : ¬ (w.heap.size + 1 = wr.heap.size) := by omega
      have AH : ∀ o b, b < wr.heap.size → (wr.alloc o).heap[b]? = wr.heap[b]? := fun o b hb' => by rw [alloc_at, if_neg (by omega)]
      have fz : ∀ o i, (wr.alloc o).frozen? ⟨w.heap.size + 1, i, none⟩ = false := fun o i => Lib.frozen_of_heap ((AH o _ hbl).trans hm) i
      have d0 : wr.cell? ⟨w.heap.size + 1, 0, none⟩ = some (.int .i64 m1) := Lib.cell_of_heap hm 0
      have d1 : wr.cell? ⟨w.heap.size + 1, 1, none⟩ = some (.int .i64 m2) := Lib.cell_of_heap hm 1
      have d2 : wr.cell? ⟨w.heap.size + 1, 2, none⟩ = some (.slice ma mn mc) := Lib.cell_of_heap hm 2
      have fw : ∀ i, wr.frozen? ⟨w.heap.size + 1, i, none⟩ = false := fun i => Lib.frozen_of_heap hm i
      have HNX1 := hid NX1
      have HNX2 := hid NX2
      clear NX1 NX2 ce hz hm hb
      have STY : ∀ o, Hid (Bst R RX (k + 1) (r1, r2, la, ln, lc) → Below w.heap.size w ((((wr.setCell ⟨w.heap.size + 1, 0, none⟩ (.int .i64 r1)).setCell ⟨w.heap.size + 1, 1, none⟩ (.int .i64 r2)).setCell ⟨w.heap.size + 1, 2, none⟩ (.slice la ln lc)).alloc o) ∧ ((((wr.setCell ⟨w.heap.size + 1, 0, none⟩ (.int .i64 r1)).setCell ⟨w.heap.size + 1, 1, none⟩ (.int .i64 r2)).setCell ⟨w.heap.size + 1, 2, none⟩ (.slice la ln lc)).alloc o).heap[w.heap.size]? = some (.cells #[.int .i64 0, .int .i64 0, .slice none 0 0] 87) ∧ ∃ m : MRd, ((((wr.setCell ⟨w.heap.size + 1, 0, none⟩ (.int .i64 r1)).setCell ⟨w.heap.size + 1, 1, none⟩ (.int .i64 r2)).setCell ⟨w.heap.size + 1, 2, none⟩ (.slice la ln lc)).alloc o).heap[w.heap.size + 1]? = some (.cells #[.int .i64 m.1, .int .i64 m.2.1, .slice m.2.2.1 m.2.2.2.1 m.2.2.2.2] 87) ∧ Bst R RX (k + 1) m) := fun o hB => by
        have BS : Below w.heap.size w (((wr.setCell ⟨w.heap.size + 1, 0, none⟩ (.int .i64 r1)).setCell ⟨w.heap.size + 1, 1, none⟩ (.int .i64 r2)).setCell ⟨w.heap.size + 1, 2, none⟩ (.slice la ln lc)) := ((BW.out.setCell (by show w.heap.size ≤ w.heap.size + 1; omega) _).setCell (by show w.heap.size ≤ w.heap.size + 1; omega) _).setCell (by show w.heap.size ≤ w.heap.size + 1; omega) _
        have h1 : (((wr.setCell ⟨w.heap.size + 1, 0, none⟩ (.int .i64 r1)).setCell ⟨w.heap.size + 1, 1, none⟩ (.int .i64 r2)).setCell ⟨w.heap.size + 1, 2, none⟩ (.slice la ln lc)).heap[w.heap.size]? = some (.cells #[.int .i64 0, .int .i64 0, .slice none 0 0] 87) := by
          rw [set_ne (by show w.heap.size ≠ w.heap.size + 1; omega), set_ne (by show w.heap.size ≠ w.heap.size + 1; omega), set_ne (by show w.heap.size ≠ w.heap.size + 1; omega)]
          exact HZ.out
        have h2 : (((wr.setCell ⟨w.heap.size + 1, 0, none⟩ (.int .i64 r1)).setCell ⟨w.heap.size + 1, 1, none⟩ (.int .i64 r2)).setCell ⟨w.heap.size + 1, 2, none⟩ (.slice la ln lc)).heap[w.heap.size + 1]? = some (.cells #[.int .i64 r1, .int .i64 r2, .slice la ln lc] 87) := Go.Joins.block_setCell (Go.Joins.block_setCell (Go.Joins.block_setCell HM.out _) _) _
        refine ⟨BS.trans ((below_box _ o).mono BS.size), ?_, (r1, r2, la, ln, lc), ?_, hB⟩
        · rw [alloc_at, if_neg (by have := blt h1; omega)]
          exact h1
        · rw [alloc_at, if_neg (by have := blt h2; omega)]
          exact h2
      by_cases h0 : k = 0
      · subst h0
        have hB : Hid (Bst R RX (0 + 1) (r1, r2, la, ln, lc)) := HNX1.out (.inl rfl)
        go_wp2_with fail
        go_roundg (R.length - (0 + 1))
        case measure => omega
        case rel => exact ⟨0 + 1, by omega, by omega, by go_num, (STY _).out hB.out⟩
      · have hk0 : ((k : Int) == 0) = false := by rw [beq_eq_false_iff_ne]; omega
        by_cases hgt : mn < ln
        · have hgti : (mn : Int) < ln := by omega
          have hB : Hid (Bst R RX (k + 1) (r1, r2, la, ln, lc)) := HNX1.out (.inr hgt)
          go_wp2_with fail
          go_roundg (R.length - (k + 1))
          case measure => omega
          case rel => exact ⟨k + 1, by omega, by omega, by go_num, (STY _).out hB.out⟩
        · have hgti : ¬ (mn : Int) < ln := by omega
          have hB : Hid (Bst R RX (k + 1) (m1, m2, ma, mn, mc)) := HNX2.out h0 hgt
          go_wp2_with fail
          go_roundg (R.length - (k + 1))
          case measure => omega
          case rel => exact ⟨k + 1, by omega, by omega, by go_num, BW.out.trans ((below_box wr _).mono BW.out.size), (AH _ _ (by omega)).trans HZ.out, (m1, m2, ma, mn, mc), (AH _ _ hbl).trans HM.out, hB.out⟩
    · have hke : k = R.length := by omega
      have hlti : ¬ (k : Int) < R.length := by omega
      subst hke
      have c0 := Lib.cell_of_heap hm 0
      have c1 := Lib.cell_of_heap hm 1
      have c2 := Lib.cell_of_heap hm 2
      have y0 := Lib.cell_of_heap hz 0
      have y1 := Lib.cell_of_heap hz 1
      have y2 := Lib.cell_of_heap hz 2
      have f0 := Lib.frozen_of_heap hz 0
      have f1 := Lib.frozen_of_heap hz 1
      have f2 := Lib.frozen_of_heap hz 2
      simp only [List.getElem?_toArray, List.getElem?_cons_zero, List.getElem?_cons_succ] at c0 c1 c2 y0 y1 y2
      clear hz hm hb
      go_wp2_with fail
      refine bodyPost_ret (v := .agg #[.int .i64 m1, .int .i64 m2, .slice ma mn mc]) (by simp [results, Try.results37, go_sem, y0, y1, y2]) rfl ?_
      exact ⟨m1, m2, ma, mn, mc, rfl, HB.out, ((BW.out.setCell (Nat.le_refl _) _).setCell (Nat.le_refl _) _).setCell (Nat.le_refl _) _⟩
/-- The first of the longest reads, with its list. -/
theorem longest_is (B : Nat) (v : Value) (R : List MRd) (RX : List MRx) (w0 w : World) (h : w.ownsRow B 87 3 v R.length (rdC R)) (hR : RdsD Any w0 R RX) (hl : R.length ≤ 100000) :
    Calls Try.prog 37 #[v] w fun e w' => ∃ ta tc, e = .returned (.agg #[.int .i64 (longD RX).1, .int .i64 (longD RX).2.1, .slice ta (longD RX).2.2.length tc]) ∧ IntsIn Any w0 (.slice ta (longD RX).2.2.length tc) (longD RX).2.2 ∧ (∀ x ∈ (longD RX).2.2, (Lit.int .i64 x).wf = true) ∧ Below w.heap.size w w' := by
  refine (longest_walk B v R RX w0 w h hR hl).mono ?_
  rintro e w' ⟨m, rfl, hb, hw⟩
  rcases hb with ⟨h0, rfl⟩ | ⟨h0, q, hq, rfl, e⟩
  · have : RX = [] := List.length_eq_zero_iff.1 (by rw [← hR.len]; exact h0)
    subst this
    exact ⟨none, 0, rfl, ⟨none, 0, rfl, ⟨by simp [longD], Nat.zero_le _⟩, fun hc => by simp [longD] at hc⟩, fun x hx => by simp [longD] at hx, hw⟩
  · rw [List.take_of_length_le (by rw [hR.len]; exact Nat.le_refl _)] at e
    obtain ⟨a, c, e1, e2, e3⟩ := hR.at' q hq
    rw [e] at e1 e2 e3
    rw [e1]
    exact ⟨a, c, rfl, e2, e3, hw⟩
end Go.Proofs.Ytnfbcmnlloipiaa
namespace Go.Proofs.Ytnfbcmnlloipiaa
set_option linter.unusedVariables false
set_option linter.unusedSimpArgs false
open Go.RowKit Go.Lib

set_option maxHeartbeats 400000 in
theorem sameList_walk (a1 a2 : Option Addr) (c1 c2 n : Nat) (xs ys : List Int) (w : World) (hx : xs.length = n) (hy : ys.length = n) (_hbig : n ≤ 9223372036854775807)
    (h1 : IntCells w a1 xs n) (h2 : IntCells w a2 ys n) :
    Calls Try.prog 49 #[.slice a1 n c1, .slice a2 n c2] w fun e w' => e = .returned (.bool (intsEq xs ys)) ∧ ∃ q, w' = w.drewN q := by
  have HX : Hid (xs.length = n) := hx
  have HY : Hid (ys.length = n) := hy
  clear hx hy
  go_enter Try.func49, Try.ntmps49
  go_wp2
  go_loopg [5, 13] n (fun g _ i wr => ∃ k : Nat, k ≤ n ∧ n - k ≤ g ∧ i = .int .i64 k ∧ Aside (∃ q, wr = w.drewN q) ∧ Aside (∀ j, j < k → (xs.getD j default == ys.getD j default) = true))
  case atStart => exact ⟨0, Nat.zero_le _, by omega, rfl, ⟨0, rfl⟩, fun j hj => absurd hj (Nat.not_lt_zero _)⟩
  case round =>
    obtain ⟨k, hk, hg, rfl, ⟨q, rfl⟩, A⟩ := hrel
    by_cases hlt : k < n
    · have hlti : (k : Int) < (n : Int) := by omega
      obtain ⟨b1, o1, rfl, k1⟩ := h1 k hlt
      obtain ⟨b2, o2, rfl, k2⟩ := h2 k hlt
      clear h1 h2
      generalize hX : xs.getD k default = X at k1
      generalize hY : ys.getD k default = Y at k2
      have HX' : Hid (xs.getD k default = X) := hX
      have HY' : Hid (ys.getD k default = Y) := hY
      clear hX hY
      cases hq : (X == Y) with
      | true =>
        have hne : (X != Y) = false := by simp [bne, hq]
        have HQ : Hid ((X == Y) = true) := hq
        clear hq
        go_wp2
        go_quiet (fail)
        go_wp2
        go_roundg (n - (k + 1))
        case measure => omega
        case rel =>
          refine ⟨k + 1, by omega, by omega, by go_num, ⟨_, rfl⟩, (show Aside _ from fun j hj => ?_)⟩
          by_cases e : j = k
          · subst e; rw [HX'.out, HY'.out]; exact HQ.out
          · exact A.out j (by omega)
      | false =>
        have hne : (X != Y) = true := by simp [bne, hq]
        have HQ : Hid ((X == Y) = false) := hq
        clear hq
        go_wp2
        go_quiet (fail)
        go_wp2
        go_ret
        refine ⟨?_, ⟨_, drew_drew _ _ _⟩⟩
        rw [show intsEq xs ys = false from allEq_miss _ xs ys k (by rw [HX.out]; exact hlt) (by rw [HX'.out, HY'.out]; exact HQ.out)]
        rfl
    · go_wp2
      go_ret
      refine ⟨?_, ⟨_, rfl⟩⟩
      rw [show intsEq xs ys = true from allEq_hit _ xs ys (by rw [HX.out, HY.out]) (fun j hj => A.out j (by rw [HX.out] at hj; omega))]
      rfl

theorem sameList_lens (a1 a2 : Option Addr) (c1 c2 n m : Nat) (w : World) (hnm : n ≠ m) :
    Calls Try.prog 49 #[.slice a1 n c1, .slice a2 m c2] w fun e w' => e = .returned (.bool false) ∧ ∃ q, w' = w.drewN q := by
  have hne : ((n : Int) != (m : Int)) = true := by rw [bne_iff_ne]; omega
  go_enter Try.func49, Try.ntmps49
  go_wp2
  go_ret
  exact ⟨rfl, 0, rfl⟩


/-- slices.Equal tells whether two lists of ints are the same. -/
theorem sameList_cells (a1 a2 : Option Addr) (c1 c2 n m : Nat) (xs ys : List Int) (w : World) (hn : xs.length = n) (hm : ys.length = m) (hb : n ≤ 9223372036854775807) (h1 : IntCells w a1 xs n) (h2 : IntCells w a2 ys m) :
    Calls Try.prog 49 #[.slice a1 n c1, .slice a2 m c2] w fun e w' => e = .returned (.bool (decide (xs = ys))) ∧ ∃ q, w' = w.drewN q := by
  rw [← intsEq_dec]
  subst hn hm
  by_cases h : xs.length = ys.length
  · rw [← h] at h2 ⊢
    exact sameList_walk a1 a2 c1 c2 xs.length xs ys w rfl h.symm hb h1 h2
  · rw [show intsEq xs ys = false from allEq_len _ xs ys h]
    exact sameList_lens a1 a2 c1 c2 _ _ w h

end Go.Proofs.Ytnfbcmnlloipiaa
namespace Go.Proofs.Ytnfbcmnlloipiaa
set_option linter.unusedVariables false
set_option linter.unusedSimpArgs false
open Go.RowKit Go.Lib Go.Maps Go.Sort
open Tx (MTxn info_parts RowsIn.cells RowCells TxnRow TxnsIn)

/-- Where no value is written twice, the look's source is the document's writer. -/
theorem src_head (l : List MTxn) (s : ByteArray) (N : List MN) (hu : uniqN N) (v : Int) : (writersN N s v).head? = (srcN l s N v).map (fun y => (y.1, y.2.1)) := by
  have h := hu s v
  unfold writersN at h ⊢
  unfold srcN
  rw [List.length_map] at h
  cases hf : N.filter (hitW s v) with
  | nil => rfl
  | cons x r =>
    rw [hf] at h
    have : r = [] := List.length_eq_zero_iff.1 (by simpa using h)
    subst this
    rfl
set_option maxHeartbeats 2000000 in
set_option maxRecDepth 100000 in
theorem writer_is (w : World) (v : Value) (l : List MTxn) (s : ByteArray) (x : Int) (h : TxnsIn Any w v l) (hG : Good l) (hu : uniqN (notes l l.length)) :
    Calls Try.prog 47 #[v, .string s, .int .i64 x] w fun e w' => e = .returned (.tuple #[.agg #[.int .i64 ((srcN l s (notes l l.length) x).getD noSrc).1, .int .i64 ((srcN l s (notes l l.length) x).getD noSrc).2.1], .bool (srcN l s (notes l l.length) x).isSome]) ∧ Below w.heap.size w w' := by
  have hh := src_head l s (notes l l.length) hu x
  have WR : ∀ o, Hid (Calls Try.prog 64 #[v, .string s, .int .i64 x] (w.alloc o) fun e w' => ∃ v', e = .returned v' ∧ w'.ownsRow (w.alloc o).heap.size 54 2 v' (writersN (notes l l.length) s x).length (wrC (writersN (notes l l.length) s x)) ∧ Below (w.alloc o).heap.size (w.alloc o) w') := fun o => rwriters_is _ v l s x (h.below (below_box w o)) hG.len hG.ten
  have hwl := writers_len (notes l l.length) s x
  have hnl := hG.nlen
  obtain ⟨a1, c1, rfl, _⟩ := RowsIn.cells h (by omega)
  clear h hG hu
  generalize srcN l s (notes l l.length) x = S at *
  generalize writersN (notes l l.length) s x = WS at *
  cases WS with
  | nil =>
    cases S with
    | some y => simp at hh
    | none =>
      simp only [List.length_nil, Option.getD_none, Option.isSome_none] at *
      go_enter Try.func47, Try.ntmps47
      go_wp2_with (go_at_call 64; refine (WR _).out.mono ?_; rintro e w1 ⟨v', rfl, ho, b1⟩; obtain ⟨ra, rc, hrv⟩ := own_slice ho; subst hrv; obtain ⟨hs1, y, fz, b1⟩ := box_later b1; have B1 := hid b1; have y0 := y 0; have y1 := y 1; simp only [List.getElem?_toArray, List.getElem?_cons_zero, List.getElem?_cons_succ] at y0 y1; clear b1 y ho WR)
      rw [Tx.setCell_self y0, Tx.setCell_self y1]
      exact bodyPost_ret (v := .tuple #[.agg #[.int .i64 0, .int .i64 0], .bool false]) (by simp [results, Try.results47, go_sem, y0, y1]) rfl ⟨rfl, B1.out⟩
  | cons p ps =>
    cases S with
    | none => simp at hh
    | some y =>
      obtain ⟨y1, y2, y3, y4⟩ := y
      have hp : p = (y1, y2) := by simpa using hh
      subst hp
      simp only [Option.getD_some, Option.isSome_some] at *
      have hn0 : ¬ ((y1, y2) :: ps).length = 0 := by simp
      have hnb : ((((y1, y2) :: ps).length : Int) == 0) = false := by rw [beq_eq_false_iff_ne]; simp only [List.length_cons]; omega
      have hnp : (0 : Int) < (((y1, y2) :: ps).length : Int) := by simp only [List.length_cons]; omega
      obtain ⟨n, hn⟩ : ∃ n, ((y1, y2) :: ps).length = n := ⟨_, rfl⟩
      rw [hn] at hn0 hnb hnp
      have HN := hid hn
      rw [hn] at WR
      clear hh hn
      go_enter Try.func47, Try.ntmps47
      go_wp2_with (go_at_call 64; refine (WR _).out.mono ?_; rintro e w1 ⟨v', rfl, ho, b1⟩; obtain ⟨g, rc, hrv⟩ := own_some ho hn0; subst hrv; obtain ⟨hs1, y, fz, b1⟩ := box_later b1; have B1 := hid b1; have z0 := y 0; have z1 := y 1; have e0 : w1.cell? ⟨g, 0, none⟩ = some (.int .i64 y1) := ho.cellAt 0 (by omega); have e1 : w1.cell? ⟨g, 1, none⟩ = some (.int .i64 y2) := ho.cellAt 1 (by omega); simp only [List.getElem?_toArray, List.getElem?_cons_zero, List.getElem?_cons_succ] at z0 z1; clear b1 y ho WR)
      refine bodyPost_ret (v := .tuple #[.agg #[.int .i64 y1, .int .i64 y2], .bool true]) (by simp [results, Try.results47, go_sem, z0, z1]) rfl ⟨rfl, ?_⟩
      exact (B1.out.setCell (Nat.le_refl _) _).setCell (Nat.le_refl _) _
theorem failed_is (p st f t : Int) (a : Option Addr) (n c : Nat) (w : World) : Calls Try.prog 76 #[.agg #[.int .i64 p, .int .i64 st, .int .i64 f, .int .i64 t, .slice a n c]] w fun e w' => e = .returned (.bool (failB st)) ∧ Below w.heap.size w w' := by
  by_cases h1 : st = 1
  · subst h1
    go_enter Try.func76, Try.ntmps76
    go_wp2_with fail
    go_ret
    exact ⟨rfl, below_box w _⟩
  · have h1b : (st == (1 : Int)) = false := by simpa using h1
    go_enter Try.func76, Try.ntmps76
    go_wp2_with fail
    go_ret
    exact ⟨rfl, below_box w _⟩
theorem ints_cells {S : Nat → Prop} {w : World} {a : Option Addr} {n c : Nat} {xs : List Int} (h : IntsIn S w (.slice a n c) xs) : n = xs.length ∧ n ≤ c ∧ IntCells w a xs n := by
  obtain ⟨ao, c', hv, hl, hc⟩ := h
  cases hv
  refine ⟨rfl, hl.2, fun j hj => ?_⟩
  obtain ⟨b, off, e, _, h3⟩ := hc (by omega)
  exact ⟨b, off, e, h3 j hj⟩
set_option maxHeartbeats 2000000 in
theorem begins_is {S S' : Nat → Prop} (a b : Option Addr) (c d : Nat) (xs ys : List Int) (w : World) (h : IntsIn S w (.slice a xs.length c) xs) (h' : IntsIn S' w (.slice b ys.length d) ys) (hx : xs.length ≤ 100000) (hy : ys.length ≤ 100000) : Calls Try.prog 22 #[.slice a xs.length c, .slice b ys.length d] w fun e w' => e = .returned (.bool (decide (xs.length ≤ ys.length ∧ xs = ys.take xs.length))) ∧ Below w.heap.size w w' := by
  obtain ⟨_, _, h1⟩ := ints_cells h
  obtain ⟨_, hd, h2⟩ := ints_cells h'
  by_cases hle : xs.length ≤ ys.length
  · have h3 : IntCells w b (ys.take xs.length) xs.length := fun j hj => by
      obtain ⟨bb, oo, e1, e2⟩ := h2 j (by omega)
      refine ⟨bb, oo, e1, ?_⟩
      rw [e2]
      simp [List.getD, List.getElem?_take, hj]
    have SL := hid (sameList_cells a b c d xs.length xs.length xs (ys.take xs.length) w rfl (by simp; omega) (by omega) h1 h3)
    have hlei : (xs.length : Int) ≤ ys.length := by omega
    have hdi : (xs.length : Int) ≤ d := by omega
    have e : decide (xs.length ≤ ys.length ∧ xs = ys.take xs.length) = decide (xs = ys.take xs.length) := by simp [hle]
    rw [e]
    clear h h' h1 h2 h3 e
    generalize decide (xs = ys.take xs.length) = D at *
    generalize xs.length = n at *
    generalize ys.length = m at *
    go_enter Try.func22, Try.ntmps22
    go_wp2_with (go_at_call 49; refine SL.out.mono ?_; rintro e w1 ⟨rfl, q, rfl⟩)
    go_ret
    exact ⟨rfl, ⟨rfl, rfl, rfl, Nat.le_refl _, fun _ _ => rfl⟩⟩
  · have hlei : ¬ (xs.length : Int) ≤ ys.length := by omega
    have e : decide (xs.length ≤ ys.length ∧ xs = ys.take xs.length) = false := by simp [hle]
    rw [e]
    clear h h' h1 h2 e
    generalize xs.length = n at *
    generalize ys.length = m at *
    go_enter Try.func22, Try.ntmps22
    go_wp2_with fail
    go_ret
    exact ⟨rfl, Below.refl _ _⟩
end Go.Proofs.Ytnfbcmnlloipiaa
namespace Go.Proofs.Ytnfbcmnlloipiaa
set_option linter.unusedVariables false
set_option linter.unusedSimpArgs false
open Go.RowKit Go.Lib Go.Maps
open Tx (info_parts)

theorem whysC_at : ∀ (l : List MWy) (j i : Nat), j < l.length → i < 8 → (whysC l)[j * 8 + i]? = (whyCs (l.getD j default))[i]?
  | [], j, i, h, _ => by simp at h
  | a :: l, 0, i, _, hi => by
    show (whyCs a ++ whysC l)[0 * 8 + i]? = _
    rw [Nat.zero_mul, Nat.zero_add, List.getElem?_append_left (by simpa [whyCs] using hi)]
    rfl
  | a :: l, j + 1, i, h, hi => by
    show (whyCs a ++ whysC l)[(j + 1) * 8 + i]? = _
    rw [List.getElem?_append_right (by simp [whyCs]; omega)]
    have e : (j + 1) * 8 + i - (whyCs a).length = j * 8 + i := by simp [whyCs]; omega
    rw [e, whysC_at l j i (by simpa using h) hi]
    rfl
theorem eqW_comm (x y : MWy) : eqW x y = eqW y x := by
  rw [Bool.eq_iff_iff, eqW_iff, eqW_iff]
  exact eq_comm
set_option maxHeartbeats 2000000 in
set_option maxRecDepth 100000 in
/-- Struct equality of two dependencies. -/
theorem why_eql (x y : MWy) (w : World) : (binOp .eql 40 (whyV x) (whyV y)).run Try.prog w = .ok (.bool (eqW x y)) w := by
  obtain ⟨x1, x2, x3, x4, x5, x6, x7⟩ := x
  obtain ⟨y1, y2, y3, y4, y5, y6, y7⟩ := y
  have hs : decide (x4 = y4) = (x4.toList == y4.toList) := by
    by_cases c : x4 = y4
    · subst c
      simp
    · rw [decide_eq_false c]
      cases hc : (x4.toList == y4.toList) with
      | false => rfl
      | true => exact absurd (cond_ws ▸ hc) c
  have e : eqW (x1, x2, x3, x4, x5, x6, x7) (y1, y2, y3, y4, y5, y6, y7) = ((x1 == y1) && ((x2 == y2) && ((x3 == y3) && ((x4.toList == y4.toList) && ((x5 == y5) && ((x6 == y6) && (x7 == y7))))))) := by
    simp only [eqW, hs]
    have bi : ∀ a b : Int, decide (a = b) = (a == b) := fun a b => by rw [Bool.eq_iff_iff]; simp
    have bb : ∀ a b : Bool, decide (a = b) = (a == b) := fun a b => by cases a <;> cases b <;> rfl
    rw [bi, bi, bi, bi, bi, bb]
  rw [e]
  unfold whyV
  simp only
  generalize h1 : (x1 == y1) = b1
  generalize h2 : (x2 == y2) = b2
  generalize h3 : (x3 == y3) = b3
  generalize h4 : (x4.toList == y4.toList) = b4
  generalize h5 : (x5 == y5) = b5
  generalize h6 : (x6 == y6) = b6
  generalize h7 : (x7 == y7) = b7
  cases b1
  · simp [go_sem, h1]
  cases b2
  · simp [go_sem, h1, h2]
  cases b3
  · simp [go_sem, h1, h2, h3]
  cases b4
  · simp [go_sem, h1, h2, h3, h4]
  cases b5
  · simp [go_sem, h1, h2, h3, h4, h5]
  cases b6
  · simp [go_sem, h1, h2, h3, h4, h5, h6]
  cases b7
  · simp [go_sem, h1, h2, h3, h4, h5, h6, h7]
  simp [go_sem, h1, h2, h3, h4, h5, h6, h7]
def onceK (ws : List MWy) (k : Nat) : List MWy := (ws.take k).foldl stepW []
theorem onceK_next (ws : List MWy) (k : Nat) (hk : k < ws.length) : onceK ws (k + 1) = stepW (onceK ws k) (ws.getD k default) := by
  unfold onceK
  rw [List.take_add_one, List.foldl_append, List.getElem?_eq_getElem hk]
  simp [List.getD, List.getElem?_eq_getElem hk]
theorem onceK_all (ws : List MWy) : onceK ws ws.length = onceW ws := by
  unfold onceK onceW
  rw [List.take_length]
theorem onceK_len (ws : List MWy) : ∀ k, (onceK ws k).length ≤ k
  | 0 => by simp [onceK]
  | k + 1 => by
    by_cases hk : k < ws.length
    · rw [onceK_next ws k hk]
      have := step_len (onceK ws k) (ws.getD k default)
      have := onceK_len ws k
      omega
    · have e : onceK ws (k + 1) = onceK ws k := by
        unfold onceK
        rw [List.take_of_length_le (by omega), List.take_of_length_le (by omega)]
      rw [e]
      have := onceK_len ws k
      omega
/-- Among the first q. -/
def hadB (out : List MWy) (y : MWy) (q : Nat) : Bool := decide (y.1 = y.2.1) || (out.take q).any (eqW y)
theorem had_next (out : List MWy) (y : MWy) (q : Nat) (hq : q < out.length) : hadB out y (q + 1) = (hadB out y q || eqW (out.getD q default) y) := by
  unfold hadB
  rw [List.take_add_one, List.any_append, List.getElem?_eq_getElem hq, eqW_comm (out.getD q default) y]
  simp [List.getD, List.getElem?_eq_getElem hq, Bool.or_assoc]
theorem had_all (out : List MWy) (y : MWy) : hadB out y out.length = (decide (y.1 = y.2.1) || inW out y) := by
  unfold hadB inW
  rw [List.take_length]
set_option maxHeartbeats 8000000 in
set_option maxRecDepth 100000 in
theorem once_is (B : Nat) (v : Value) (ws : List MWy) (w : World) (h : w.ownsRow B 40 8 v ws.length (whysC ws)) (hl : ws.length ≤ 500000) : Calls Try.prog 48 #[v] w fun e w' => ∃ v', e = .returned v' ∧ w'.ownsRow w.heap.size 40 8 v' (onceW ws).length (whysC (onceW ws)) ∧ Below w.heap.size w w' := by
  obtain ⟨i0, hi0, hz0, hz1, hz2⟩ := info_parts Try.infoWy
  have HI0 := hid hi0
  have HZ0 := hid hz0
  have HZ1 := hid hz1
  have HZ2 := hid hz2
  obtain ⟨ra, rc, hrv⟩ := own_slice h
  subst hrv
  have HO := hid h
  have hli : (ws.length : Int) ≤ 500000 := by omega
  clear h hi0 hz0 hz1 hz2
  go_enter Try.func48, Try.ntmps48
  go_wp2_with fail
  go_loopg [3, 5, 6, 8, 11] ws.length (fun gg out _ _ _ i wr => ∃ k : Nat, k ≤ ws.length ∧ ws.length - k ≤ gg ∧ i = .int .i64 k ∧ Aside (Below w.heap.size w wr) ∧ Aside (wr.ownsRow w.heap.size 40 8 out (onceK ws k).length (whysC (onceK ws k))))
  case atStart => exact ⟨0, Nat.zero_le _, by omega, rfl, Below.refl _ _, World.ownsRow_nil _ _ _ _⟩
  case round =>
    obtain ⟨k, hk, hgk, rfl, BR, OR⟩ := hrel
    have hol := onceK_len ws k
    obtain ⟨OU, hOU⟩ : ∃ OU, onceK ws k = OU := ⟨_, rfl⟩
    rw [hOU] at OR hol
    obtain ⟨oa, oc, hov⟩ := own_slice OR.out
    subst hov
    by_cases hlt : k < ws.length
    · have hlti : (k : Int) < ws.length := by omega
      have HN := hid (onceK_next ws k hlt)
      obtain ⟨g, c', hv⟩ := own_some HO.out (by omega)
      cases hv
      have hgl : g < w.heap.size := (own_block HO.out rfl).2.1
      have ce : ∀ i u, i < 8 → (whyCs (ws.getD k default))[i]? = some u → wr.cell? ⟨g, k * 8 + i, none⟩ = some u := fun i u hi hu => (BR.out.cell (p := ⟨g, k * 8 + i, none⟩) hgl).trans ((HO.out.cellAt (k * 8 + i) (by omega)).trans ((whysC_at ws k i hlt hi).trans hu))
      rw [hOU] at HN
      obtain ⟨ON, hON⟩ : ∃ ON, onceK ws (k + 1) = ON := ⟨_, rfl⟩
      rw [hON] at HN
      have HON := hid hON
      have HHA := hid (had_all OU (ws.getD k default))
      have HH := hid (fun q (hq : q < OU.length) => had_next OU (ws.getD k default) q hq)
      have EQ := hid (fun (x : MWy) (W : World) => why_eql x (ws.getD k default) W)
      have H0 : Hid (hadB OU (ws.getD k default) 0 = decide ((ws.getD k default).1 = (ws.getD k default).2.1)) := by show _ = _; simp [hadB]
      have HST : Hid (stepW OU (ws.getD k default) = if (decide ((ws.getD k default).1 = (ws.getD k default).2.1) || inW OU (ws.getD k default)) = true then OU else OU ++ [ws.getD k default]) := rfl
      obtain ⟨y, hy⟩ : ∃ y, ws.getD k default = y := ⟨_, rfl⟩
      rw [hy] at ce HN HHA HH EQ H0 HST
      have HY := hid hy
      have HCS : Hid (whyCs y = [.int .i64 y.1, .int .i64 y.2.1, .int .i64 y.2.2.1, .string y.2.2.2.1, .int .i64 y.2.2.2.2.1, .int .i64 y.2.2.2.2.2.1, .bool y.2.2.2.2.2.2, .bool false]) := rfl
      clear hy hON hOU
      have x0 := ce 0 _ (by omega) rfl
      have x1 := ce 1 _ (by omega) rfl
      have x2 := ce 2 _ (by omega) rfl
      have x3 := ce 3 _ (by omega) rfl
      have x4 := ce 4 _ (by omega) rfl
      have x5 := ce 5 _ (by omega) rfl
      have x6 := ce 6 _ (by omega) rfl
      have x7 := ce 7 _ (by omega) rfl
      simp only [Nat.add_zero] at x0 x1 x2 x3 x4 x5 x6 x7
      clear ce
      obtain ⟨a, b, lbl, s, ya, yb, nl⟩ := y
      simp only at x0 x1 x2 x3 x4 x5 x6 x7 H0
      have hdec : (a == b) = decide (a = b) := by rw [Bool.eq_iff_iff]; simp
      go_wp2_with fail
      have PB := hid (heap_alloc_new wr (.cells #[.int .i64 a, .int .i64 b, .int .i64 lbl, .string s, .int .i64 ya, .int .i64 yb, .bool nl, .bool false] 40))
      have B2 : Hid (Below w.heap.size w (wr.alloc (.cells #[.int .i64 a, .int .i64 b, .int .i64 lbl, .string s, .int .i64 ya, .int .i64 yb, .bool nl, .bool false] 40))) := BR.out.trans ((below_box wr _).mono BR.out.size)
      have O2 : Hid ((wr.alloc (.cells #[.int .i64 a, .int .i64 b, .int .i64 lbl, .string s, .int .i64 ya, .int .i64 yb, .bool nl, .bool false] 40)).ownsRow w.heap.size 40 8 (.slice oa OU.length oc) OU.length (whysC OU)) := own_same OR.out (fun g hg => by rw [alloc_at, if_neg (by have := (own_block OR.out hg).2.1; omega)])
      clear x0 x1 x2 x3 x4 x5 x6 x7 OR BR
      generalize wr.alloc (.cells #[.int .i64 a, .int .i64 b, .int .i64 lbl, .string s, .int .i64 ya, .int .i64 yb, .bool nl, .bool false] 40) = W2 at *
      generalize wr.heap.size = pb at *
      obtain ⟨HD, hHD⟩ : ∃ HD : Nat → Bool, ∀ q, hadB OU (a, b, lbl, s, ya, yb, nl) q = HD q := ⟨_, fun _ => rfl⟩
      have HH2 : Hid (∀ q, q < OU.length → HD (q + 1) = (HD q || eqW (OU.getD q default) (a, b, lbl, s, ya, yb, nl))) := fun q hq => by
        rw [← hHD, ← hHD]
        exact HH.out q hq
      have H02 : Hid (HD 0 = decide (a = b)) := by rw [← hHD]; exact H0.out
      have HA2 : Hid (HD OU.length = (decide (a = b) || inW OU (a, b, lbl, s, ya, yb, nl))) := by rw [← hHD]; exact HHA.out
      clear HH HHA H0 hHD
      go_loopg [6, 8, 22] OU.length (fun gg hb _ i wi => ∃ q : Nat, q ≤ OU.length ∧ OU.length - q ≤ gg ∧ i = .int .i64 q ∧ hb = .bool (HD q) ∧ Aside (Below W2.heap.size W2 wi))
      case atStart => exact ⟨0, Nat.zero_le _, by omega, rfl, (by rw [H02.out]), Below.refl _ _⟩
      case round =>
        obtain ⟨q, hq, hgq, rfl, rfl, BJ⟩ := hrel
        by_cases hq1 : q < OU.length
        · have hq1i : (q : Int) < OU.length := by omega
          obtain ⟨og, c', hv⟩ := own_some O2.out (by omega)
          cases hv
          have hogl : og < W2.heap.size := (own_block O2.out rfl).2.1
          have ce : ∀ i u, i < 8 → (whyCs (OU.getD q default))[i]? = some u → wr.cell? ⟨og, q * 8 + i, none⟩ = some u := fun i u hi hu => (BJ.out.cell (p := ⟨og, q * 8 + i, none⟩) hogl).trans ((O2.out.cellAt (q * 8 + i) (by omega)).trans ((whysC_at OU q i hq1 hi).trans hu))
          have HNX := hid (HH2.out q hq1)
          have EQq := EQ.out (OU.getD q default)
          generalize OU.getD q default = z at *
          have z0 := ce 0 _ (by omega) rfl
          have z1 := ce 1 _ (by omega) rfl
          have z2 := ce 2 _ (by omega) rfl
          have z3 := ce 3 _ (by omega) rfl
          have z4 := ce 4 _ (by omega) rfl
          have z5 := ce 5 _ (by omega) rfl
          have z6 := ce 6 _ (by omega) rfl
          have z7 := ce 7 _ (by omega) rfl
          simp only [Nat.add_zero] at z0 z1 z2 z3 z4 z5 z6 z7
          clear ce
          obtain ⟨EQB, hEQB⟩ : ∃ E, eqW z (a, b, lbl, s, ya, yb, nl) = E := ⟨_, rfl⟩
          rw [hEQB] at HNX EQq
          clear hEQB
          obtain ⟨c0, c1, c2, c3, c4, c5, c6⟩ := z
          simp only [whyV] at z0 z1 z2 z3 z4 z5 z6 z7 EQq
          have pq : ∀ i u, (#[.int .i64 a, .int .i64 b, .int .i64 lbl, .string s, .int .i64 ya, .int .i64 yb, .bool nl, .bool false] : Array Value)[i]? = some u → ∀ o, (wr.alloc o).cell? ⟨pb, i, none⟩ = some u := fun i u hu o => Lib.cell?_alloc_some _ ((BJ.out.cell (p := ⟨pb, i, none⟩) (blt PB.out)).trans ((Lib.cell_of_heap PB.out i).trans hu))
          have p0 := pq 0 _ rfl
          have p1 := pq 1 _ rfl
          have p2 := pq 2 _ rfl
          have p3 := pq 3 _ rfl
          have p4 := pq 4 _ rfl
          have p5 := pq 5 _ rfl
          have p6 := pq 6 _ rfl
          have p7 := pq 7 _ rfl
          have BN : ∀ o, Hid (Below W2.heap.size W2 (wr.alloc o)) := fun o => BJ.out.trans ((below_box wr o).mono BJ.out.size)
          have hpl : pb < wr.heap.size := Nat.lt_of_lt_of_le (blt PB.out) BJ.out.size
          have hpn : ¬ (pb = wr.heap.size) := by omega
          clear pq
          cases hd : HD q with
          | true =>
            have HT : Hid (HD (q + 1) = true) := by show _ = _; rw [HNX.out, hd]; rfl
            clear hd HNX
            go_wp2_with fail
            go_roundg (OU.length - (q + 1))
            case measure => omega
            case rel => exact ⟨q + 1, by omega, by omega, by go_num, (by rw [HT.out]), (BN _).out⟩
          | false =>
            have HT : Hid (HD (q + 1) = EQB) := by show _ = _; rw [HNX.out, hd]; rfl
            clear hd HNX
            go_wp2_with fail
            go_roundg (OU.length - (q + 1))
            case measure => omega
            case rel => exact ⟨q + 1, by omega, by omega, by go_num, (by rw [HT.out]), (BN _).out⟩
        · have hqe : q = OU.length := by omega
          have hq1i : ¬ (q : Int) < OU.length := by omega
          subst hqe
          have BWJ : Hid (Below w.heap.size w wr) := B2.out.trans (BJ.out.mono B2.out.size)
          have OJ : Hid (wr.ownsRow w.heap.size 40 8 (.slice oa OU.length oc) OU.length (whysC OU)) := own_same O2.out (fun g hg => BJ.out.block g (own_block O2.out hg).2.1)
          have pq : ∀ i u, (#[.int .i64 a, .int .i64 b, .int .i64 lbl, .string s, .int .i64 ya, .int .i64 yb, .bool nl, .bool false] : Array Value)[i]? = some u → wr.cell? ⟨pb, i, none⟩ = some u := fun i u hu => (BJ.out.cell (p := ⟨pb, i, none⟩) (blt PB.out)).trans ((Lib.cell_of_heap PB.out i).trans hu)
          have p0 := pq 0 _ rfl
          have p1 := pq 1 _ rfl
          have p2 := pq 2 _ rfl
          have p3 := pq 3 _ rfl
          have p4 := pq 4 _ rfl
          have p5 := pq 5 _ rfl
          have p6 := pq 6 _ rfl
          have p7 := pq 7 _ rfl
          clear pq
          cases hd : HD OU.length with
          | true =>
            have HNN : Hid (ON = OU) := by show _ = _; rw [HN.out, HST.out, ← HA2.out, hd]; rfl
            clear hd
            go_wp2_with fail
            go_roundg (ws.length - (k + 1))
            case measure => omega
            case rel => exact ⟨k + 1, by omega, by omega, by go_num, BWJ.out, (show Aside _ from by rw [HON.out, HNN.out]; exact OJ.out)⟩
          | false =>
            have HNN : Hid (ON = OU ++ [(a, b, lbl, s, ya, yb, nl)]) := by show _ = _; rw [HN.out, HST.out, ← HA2.out, hd]; rfl
            clear hd
            have SZ : Hid ((wr.alloc (.cells #[.int .i64 a, .int .i64 b, .int .i64 lbl, .string s, .int .i64 ya, .int .i64 yb, .bool nl, .bool false] 40)).heap.size = wr.heap.size + 1) := alloc_size _ _
            have B9 : Hid (∀ b', b' < wr.heap.size → (wr.alloc (.cells #[.int .i64 a, .int .i64 b, .int .i64 lbl, .string s, .int .i64 ya, .int .i64 yb, .bool nl, .bool false] 40)).heap[b']? = wr.heap[b']?) := fun b' hb' => by rw [alloc_at, if_neg (by omega)]
            have OX : Hid ((wr.alloc (.cells #[.int .i64 a, .int .i64 b, .int .i64 lbl, .string s, .int .i64 ya, .int .i64 yb, .bool nl, .bool false] 40)).ownsRow w.heap.size 40 8 (.slice oa OU.length oc) OU.length (whysC OU)) := own_same OJ.out (fun g hg => B9.out g (own_block OJ.out hg).2.1)
            have NEW : Hid (∀ j u, ([.int .i64 a, .int .i64 b, .int .i64 lbl, .string s, .int .i64 ya, .int .i64 yb, .bool nl, .bool false] : List Value)[j]? = some u → (wr.alloc (.cells #[.int .i64 a, .int .i64 b, .int .i64 lbl, .string s, .int .i64 ya, .int .i64 yb, .bool nl, .bool false] 40)).cell? ((⟨wr.heap.size, 0, none⟩ : Addr).add j) = some u) := World.news_of_block (cs := #[.int .i64 a, .int .i64 b, .int .i64 lbl, .string s, .int .i64 ya, .int .i64 yb, .bool nl, .bool false]) (t := 40) (fr := (0, 0)) (heap_alloc_new wr _)
            have ONE : Hid (∀ u ∈ ([.int .i64 a, .int .i64 b, .int .i64 lbl, .string s, .int .i64 ya, .int .i64 yb, .bool nl, .bool false] : List Value), u.oneCell' = true) := by
              intro u hu
              simp only [List.mem_cons, List.not_mem_nil, or_false] at hu
              rcases hu with rfl | rfl | rfl | rfl | rfl | rfl | rfl | rfl <;> rfl
            have hsz := BWJ.out.size
            go_wp2_with (at_builtin; refine wpList_append_lies _ rfl _ _ 38 rfl w.heap.size 40 i0 _ 8 64 Try.underlying38 HI0.out HZ0.out HZ1.out HZ2.out rfl (by decide) (.slice oa OU.length oc) OU.length (whysC OU) rfl OX.out ⟨wr.heap.size, 0, none⟩ 1 1 [.int .i64 a, .int .i64 b, .int .i64 lbl, .string s, .int .i64 ya, .int .i64 yb, .bool nl, .bool false] rfl rfl NEW.out ONE.out (by decide) (by unfold maxLen; omega) (by omega) (by rw [SZ.out]; omega) (wr.heap.size + 1) SZ.out ?_; intro g8 cap8 w8 hown8 hgrow8 hat8 hglt8; have O8 := hid hown8; have G8 := hid hgrow8; clear hown8 hgrow8 hat8 hglt8)
            go_roundg (ws.length - (k + 1))
            case measure => omega
            case rel =>
              refine ⟨k + 1, by omega, by omega, by go_num, (show Aside _ from ⟨G8.out.os.trans BWJ.out.os, G8.out.tape.trans BWJ.out.tape, G8.out.output.trans BWJ.out.output, Nat.le_trans (by rw [SZ.out]; omega) G8.out.size, fun b' hb' => (G8.out.block b' (by rw [SZ.out]; omega) (fun e => by have := (own_block OJ.out e.symm).1; omega)).trans ((B9.out b' (by omega)).trans (BWJ.out.block b' hb'))⟩), (show Aside _ from ?_)⟩
              rw [HON.out, HNN.out, List.length_append, whysC_snoc]
              exact O8.out
    · have hke : k = ws.length := by omega
      have hlti : ¬ (k : Int) < ws.length := by omega
      have HOU : Hid (onceW ws = OU) := by show _ = _; rw [← onceK_all, ← hke]; exact hOU
      clear hOU hke
      go_wp2_with fail
      go_ret
      exact ⟨_, rfl, (by rw [HOU.out]; exact OR.out), BR.out⟩
end Go.Proofs.Ytnfbcmnlloipiaa
namespace Go.Proofs.Ytnfbcmnlloipiaa
set_option linter.unusedVariables false
set_option linter.unusedSimpArgs false
open Go.RowKit Go.Lib Go.Maps Go.Sort
open Tx (MTxn info_parts RowsIn.cells RowCells TxnRow TxnsIn)


/-- What the document's 'one' answers. -/
def OneP (s : ByteArray) (ri rj : Nat) (o : Option (Int × Int × Int)) (e : Ending) : Prop := ∃ c0 c1 c2 c3 c4 c5, e = .returned (.tuple #[.agg #[.int .i64 c0, .int .i64 c1, .int .i64 c2, .int .i64 c3, .string c4, .int .i64 c5, .slice none 0 0, .bool false, .int .i64 0], .bool o.isSome]) ∧ ∀ a, o = some a → c0 = a.1 ∧ c1 = (ri : Int) ∧ c2 = (rj : Int) ∧ c3 = a.2.1 ∧ c4 = s ∧ c5 = a.2.2
/-- Its blocks, while it goes on: the read, the answer's place, the anomaly in hand. -/
structure On (w : World) (zb ab : Nat) (ri rj : Nat) (la : Option Addr) (lm lc : Nat) (kd : Int) (s : ByteArray) (x : Int) (wr : World) : Prop where
  r8 : wr.heap[w.heap.size]? = some (.cells #[.int .i64 ri, .int .i64 rj, .slice la lm lc] 87)
  z10 : wr.heap[zb]? = some (.cells #[.int .i64 0, .int .i64 0, .int .i64 0, .int .i64 0, .string ⟨#[]⟩, .int .i64 0, .slice none 0 0, .bool false, .int .i64 0] 85)
  a12 : wr.heap[ab]? = some (.cells #[.int .i64 kd, .int .i64 ri, .int .i64 rj, .int .i64 0, .string s, .int .i64 x, .slice none 0 0, .bool false, .int .i64 0] 85)
  bl : Below w.heap.size w wr
section
variable {w : World} {zb ab ri rj : Nat} {la : Option Addr} {lm lc : Nat} {kd : Int} {s : ByteArray} {x : Int} {wr : World}
theorem On.later (h : On w zb ab ri rj la lm lc kd s x wr) {w' : World} (hb : Below wr.heap.size wr w') : On w zb ab ri rj la lm lc kd s x w' :=
  ⟨(hb.block _ (blt h.r8)).trans h.r8, (hb.block _ (blt h.z10)).trans h.z10, (hb.block _ (blt h.a12)).trans h.a12, h.bl.trans (hb.mono h.bl.size)⟩
theorem On.set (h : On w zb ab ri rj la lm lc kd s x wr) (hz : zb ≠ ab) (ha : w.heap.size < ab) (y : Int) : On w zb ab ri rj la lm lc kd s y (wr.setCell ⟨ab, 5, none⟩ (.int .i64 y)) :=
  ⟨(set_ne (by show w.heap.size ≠ ab; omega)).trans h.r8, (set_ne hz).trans h.z10, Go.Joins.block_setCell h.a12 _, h.bl.setCell (by show w.heap.size ≤ ab; omega) _⟩
end
theorem below_ab {w a : World} {o : Obj} (h : Below w.heap.size w a) : Below w.heap.size w (a.alloc o) := h.trans ((below_box a o).mono h.size)
theorem on_start (w : World) (ri rj : Nat) (la : Option Addr) (lm lc : Nat) (ti tj : Int) (ta : Option Addr) (tm tc : Nat) (kd : Int) (s : ByteArray) : On w (w.heap.size + 1 + 1) (w.heap.size + 1 + 1 + 1) ri rj la lm lc kd s 0 ((((w.alloc (.cells #[.int .i64 ri, .int .i64 rj, .slice la lm lc] 87)).alloc (.cells #[.int .i64 ti, .int .i64 tj, .slice ta tm tc] 87)).alloc (.cells #[.int .i64 0, .int .i64 0, .int .i64 0, .int .i64 0, .string ⟨#[]⟩, .int .i64 0, .slice none 0 0, .bool false, .int .i64 0] 85)).alloc (.cells #[.int .i64 kd, .int .i64 ri, .int .i64 rj, .int .i64 0, .string s, .int .i64 0, .slice none 0 0, .bool false, .int .i64 0] 85)) := by
  have s1 : (w.alloc (.cells #[.int .i64 ri, .int .i64 rj, .slice la lm lc] 87)).heap.size = w.heap.size + 1 := alloc_size _ _
  have s2 : ((w.alloc (.cells #[.int .i64 ri, .int .i64 rj, .slice la lm lc] 87)).alloc (.cells #[.int .i64 ti, .int .i64 tj, .slice ta tm tc] 87)).heap.size = w.heap.size + 1 + 1 := by rw [alloc_size, s1]
  have s3 : (((w.alloc (.cells #[.int .i64 ri, .int .i64 rj, .slice la lm lc] 87)).alloc (.cells #[.int .i64 ti, .int .i64 tj, .slice ta tm tc] 87)).alloc (.cells #[.int .i64 0, .int .i64 0, .int .i64 0, .int .i64 0, .string ⟨#[]⟩, .int .i64 0, .slice none 0 0, .bool false, .int .i64 0] 85)).heap.size = w.heap.size + 1 + 1 + 1 := by rw [alloc_size, s2]
  refine ⟨?_, ?_, ?_, ?_⟩
  · rw [alloc_at, if_neg (by rw [s3]; omega), alloc_at, if_neg (by rw [s2]; omega), alloc_at, if_neg (by rw [s1]; omega)]
    exact heap_alloc_new w _
  · rw [alloc_at, if_neg (by rw [s3]; omega), alloc_at, if_pos s2.symm]
  · rw [alloc_at, if_pos s3.symm]
  · exact (((below_box w _).alloc (by rw [s1]; omega) _).alloc (by rw [s2]; omega) _).alloc (by rw [s3]; omega) _
end Go.Proofs.Ytnfbcmnlloipiaa
