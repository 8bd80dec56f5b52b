/-
  The document's anomaly of a read, of each kind; its order of a transaction's own values.
  The document's order of a transaction's own values.
  The document's anomalies of a list.
  The document's anomalies of a list, where something is told.
-/
import Derived.Test.YtnfbcmnlloipiaaJ13
import Derived.Test.YtnfbcmnlloipiaaJ14
namespace Go.Proofs.Ytnfbcmnlloipiaa
set_option linter.unusedVariables false
set_option linter.unusedSimpArgs false
open Go.RowKit Go.Lib Go.Maps Go.Sort
open Tx (MTxn info_parts RowsIn.cells RowCells TxnRow TxnsIn)

def kindK : Nat → Int
  | 0 => 3
  | 1 => 2
  | 2 => 5
  | 3 => 6
  | _ => 4
theorem find_kind (K : Knw) (ri rj : Nat) (xs : List Int) (i : Nat) (hi : i < 5) (a : Int × Int × Int) (h : findM K ri rj xs i = some a) : a.1 = kindK i := by
  have hi5 : i = 0 ∨ i = 1 ∨ i = 2 ∨ i = 3 ∨ i = 4 := by omega
  rcases hi5 with rfl | rfl | rfl | rfl | rfl
  · obtain ⟨x, _, rfl⟩ := Option.map_eq_some_iff.1 (show Option.map _ _ = some a from h)
    rfl
  · obtain ⟨x, _, rfl⟩ := Option.map_eq_some_iff.1 (show Option.map _ _ = some a from h)
    rfl
  · obtain ⟨x, _, rfl⟩ := Option.map_eq_some_iff.1 (show Option.map _ _ = some a from h)
    rfl
  · simp only [findM] at h
    split at h
    · exact absurd h (by simp)
    · split at h
      · exact absurd h (by simp)
      · split at h
        · exact absurd h (by simp)
        · injection h with h
          subst h
          rfl
  · simp only [findM] at h
    split at h
    · exact absurd h (by simp)
    · injection h with h
      subst h
      rfl
theorem one_is (w : World) (v : Value) (l : List MTxn) (s : ByteArray) (ri rj : Nat) (la : Option Addr) (lc : Nat) (xs : List Int) (ti tj : Nat) (ta : Option Addr) (tc : Nat) (ts : List Int) (h : TxnsIn Any w v l) (hG : Good l) (hu : uniqN (notes l l.length)) (hin : IntsIn Any w (.slice la xs.length lc) xs) (hxl : xs.length ≤ 100000) (hts : IntsIn Any w (.slice ta ts.length tc) ts) (htl : ts.length ≤ 100000) (hle : xs.length ≤ ts.length) (i : Nat) (hi : i < 5) :
    Calls Try.prog 43 #[v, .string s, .int .i64 (kindK i), .agg #[.int .i64 ri, .int .i64 rj, .slice la xs.length lc], .agg #[.int .i64 ti, .int .i64 tj, .slice ta ts.length tc]] w fun e w' => OneP s ri rj (findM ⟨srcN l s (notes l l.length), ti, ts⟩ ri rj xs i) e ∧ Below w.heap.size w w' := by
  have hi5 : i = 0 ∨ i = 1 ∨ i = 2 ∨ i = 3 ∨ i = 4 := by omega
  rcases hi5 with rfl | rfl | rfl | rfl | rfl
  · exact one_3 w v l s ri rj la lc xs ti tj ta tc ts h hG hu hin hxl
  · exact one_2 w v l s ri rj la lc xs ti tj ta tc ts h hG hu hin hxl
  · exact one_5 w v l s ri rj la lc xs ti tj ta tc ts h hG hu hin hxl
  · exact one_6 w v l s ri rj la lc xs ti tj ta tc ts h hG hu hin hxl
  · exact one_4 w v l s ri rj la lc xs ti tj ta tc ts h _ hin hxl hts htl hle
end Go.Proofs.Ytnfbcmnlloipiaa
namespace Go.Proofs.Ytnfbcmnlloipiaa
set_option linter.unusedVariables false
set_option linter.unusedSimpArgs false
open Go.RowKit Go.Lib Go.Maps Go.Sort
open Tx (MTxn info_parts RowsIn.cells RowCells TxnRow TxnsIn)

/-- The first q values hold one of the transaction a that it wrote behind b. -/
def wrB (F : Int → Option MSrc) (ts : List Int) (a b q : Nat) : Bool := decide (b < latK F ts q a)
theorem wr_next (F : Int → Option MSrc) (ts : List Int) (a b q : Nat) : wrB F ts a b (q + 1) = (wrB F ts a b q || (decide (((F (ts.getD q default)).getD noSrc).1 = a) && decide (b < ((F (ts.getD q default)).getD noSrc).2.1))) := by
  unfold wrB
  rw [latK]
  generalize ((F (ts.getD q default)).getD noSrc) = y
  generalize latK F ts q a = m
  rw [Bool.eq_iff_iff]
  simp only [Bool.or_eq_true, Bool.and_eq_true, decide_eq_true_eq]
  by_cases h : a = y.1
  · rw [if_pos h]
    constructor
    · intro c
      by_cases hm : b < m
      · exact .inl hm
      · exact .inr ⟨h.symm, by omega⟩
    · intro c
      omega
  · rw [if_neg h]
    constructor
    · exact .inl
    · intro c
      rcases c with c | c
      · exact c
      · exact absurd c.1.symm h
theorem dis_next (F : Int → Option MSrc) (s : ByteArray) (ts : List Int) (k : Nat) : disK F s ts (k + 1) = disK F s ts k ++ (if wrB F ts ((F (ts.getD k default)).getD noSrc).1 ((F (ts.getD k default)).getD noSrc).2.1 k = true then [((7 : Int), (((F (ts.getD k default)).getD noSrc).1 : Int), (0 : Int), (0 : Int), s, ts.getD k default)] else []) := by
  rw [disK]
  unfold wrB
  by_cases h : ((F (ts.getD k default)).getD noSrc).2.1 < latK F ts k ((F (ts.getD k default)).getD noSrc).1
  · rw [if_pos h, if_pos (decide_eq_true h)]
  · rw [if_neg h, if_neg (by simpa using h), List.append_nil]
set_option maxHeartbeats 8000000 in
set_option maxRecDepth 100000 in
theorem order_is (w : World) (v : Value) (l : List MTxn) (s : ByteArray) (ti tj : Nat) (ta : Option Addr) (tc : Nat) (ts : List Int) (h : TxnsIn Any w v l) (hG : Good l) (hu : uniqN (notes l l.length)) (hin : IntsIn Any w (.slice ta ts.length tc) ts) (hl : ts.length ≤ 100000) :
    Calls Try.prog 44 #[v, .string s, .agg #[.int .i64 ti, .int .i64 tj, .slice ta ts.length tc]] w fun e w' => ∃ v', e = .returned v' ∧ w'.ownsRow (w.heap.size + 1) 85 9 v' (disK (srcN l s (notes l l.length)) s ts ts.length).length (ansC (disK (srcN l s (notes l l.length)) s ts ts.length)) ∧ Below w.heap.size w w' := by
  have WT : Hid (∀ W, Below w.heap.size w W → ∀ x, Calls Try.prog 47 #[v, .string s, .int .i64 x] W fun e w' => e = .returned (.tuple #[.agg #[.int .i64 ((srcN l s (notes l l.length) x).getD noSrc).1, .int .i64 ((srcN l s (notes l l.length) x).getD noSrc).2.1], .bool (srcN l s (notes l l.length) x).isSome]) ∧ Below W.heap.size W w') := fun W hb x => writer_is W v l s x (h.below hb) hG hu
  obtain ⟨i0, hi0, hz0, hz1, hz2⟩ := info_parts Try.infoAn
  have HI0 := hid hi0
  have HZ0 := hid hz0
  have HZ1 := hid hz1
  have HZ2 := hid hz2
  obtain ⟨a1, c1, rfl, _⟩ := RowsIn.cells h (by omega)
  have HIN := hid hin
  have hli : (ts.length : Int) ≤ 100000 := by omega
  clear h hG hu hin hi0 hz0 hz1 hz2
  generalize srcN l s (notes l l.length) = F at *
  go_enter Try.func44, Try.ntmps44
  go_wp2_with fail
  have X0 : Hid ((w.alloc (.cells #[.int .i64 ti, .int .i64 tj, .slice ta ts.length tc] 87)).heap[w.heap.size]? = some (.cells #[.int .i64 ti, .int .i64 tj, .slice ta ts.length tc] 87)) := heap_alloc_new w _
  have B0 : Hid (Below w.heap.size w (w.alloc (.cells #[.int .i64 ti, .int .i64 tj, .slice ta ts.length tc] 87))) := below_box w _
  have hs0 : (w.alloc (.cells #[.int .i64 ti, .int .i64 tj, .slice ta ts.length tc] 87)).heap.size = w.heap.size + 1 := alloc_size _ _
  generalize w.alloc (.cells #[.int .i64 ti, .int .i64 tj, .slice ta ts.length tc] 87) = W0 at *
  go_loopg [7, 8, 9, 10, 11, 12, 14, 15, 16, 20] ts.length (fun gg out _ _ _ _ _ _ _ _ i wr => ∃ k : Nat, k ≤ ts.length ∧ ts.length - k ≤ gg ∧ i = .int .i64 k ∧ Aside (Below W0.heap.size W0 wr) ∧ Aside (wr.ownsRow (w.heap.size + 1) 85 9 out (disK F s ts k).length (ansC (disK F s ts k))))
  case atStart => exact ⟨0, Nat.zero_le _, by omega, rfl, Below.refl _ _, World.ownsRow_nil _ _ _ _⟩
  case round =>
    obtain ⟨k, hk, hgk, rfl, BR, OR⟩ := hrel
    have hWW : W0.heap.size ≤ wr.heap.size := BR.out.size
    obtain ⟨DK, hDK⟩ : ∃ DK, disK F s ts k = DK := ⟨_, rfl⟩
    rw [hDK] at OR
    obtain ⟨va, vc, hva⟩ := own_slice OR.out
    subst hva
    by_cases hlt : k < ts.length
    · have hlti : (k : Int) < ts.length := by omega
      obtain ⟨ao, c', hv, hcc, hcs⟩ := id HIN.out
      cases hv
      obtain ⟨lb, lo, rfl, _, hcell⟩ := hcs (by omega)
      have BW : Hid (Below w.heap.size w wr) := B0.out.trans (BR.out.mono B0.out.size)
      have LC : Hid (∀ W, Below w.heap.size w W → ∀ q, q < ts.length → W.cell? ⟨lb, lo + q, none⟩ = some (.int .i64 (ts.getD q default))) := fun W hb q hq => (hb.cell (p := ⟨lb, lo + q, none⟩) (World.block_lt_of_cell? _ _ (hcell q hq))).trans (hcell q hq)
      have xk := LC.out wr BW.out k hlt
      have hkc : (k : Int) ≤ tc := by omega
      have r2 : wr.cell? ⟨w.heap.size, 2, none⟩ = some (.slice (some ⟨lb, lo, none⟩) ts.length tc) := (BR.out.cell (p := ⟨w.heap.size, 2, none⟩) (by show w.heap.size < W0.heap.size; omega)).trans (Lib.cell_of_heap X0.out 2)
      have DN := hid (dis_next F s ts k)
      obtain ⟨X, hX⟩ : ∃ X, ts.getD k default = X := ⟨_, rfl⟩
      rw [hX] at xk DN
      have WTk := hid (WT.out wr BW.out X)
      have hdl := disK_len F s ts k
      obtain ⟨DK1, hDK1⟩ : ∃ DK1, disK F s ts (k + 1) = DK1 := ⟨_, rfl⟩
      rw [hDK] at DN hdl
      rw [hDK1] at DN
      have HDK1 := hid hDK1
      generalize (F X).getD noSrc = y at *
      generalize (F X).isSome = ok at *
      obtain ⟨y1, y2, y3, y4⟩ := y
      simp only at WTk DN
      clear hcs hcell hX hDK hDK1
      go_upto_region 6 with (go_at_call 47; refine WTk.out.mono ?_; rintro e w1 ⟨rfl, b1⟩; have B1 := hid b1; clear b1)
      have PB := hid (heap_alloc_new w1 (.cells #[.int .i64 y1, .int .i64 y2] 54))
      have B2 : Hid (Below wr.heap.size wr (w1.alloc (.cells #[.int .i64 y1, .int .i64 y2] 54))) := B1.out.trans ((below_box w1 _).mono B1.out.size)
      clear WTk B1 xk
      generalize w1.alloc (.cells #[.int .i64 y1, .int .i64 y2] 54) = W2 at *
      generalize w1.heap.size = pb at *
      have s2 : W2.cell? ⟨w.heap.size, 2, none⟩ = some (.slice (some ⟨lb, lo, none⟩) ts.length tc) := (B2.out.cell (p := ⟨w.heap.size, 2, none⟩) (World.block_lt_of_cell? _ _ r2)).trans r2
      have BW2 : Hid (Below w.heap.size w W2) := BW.out.trans (B2.out.mono BW.out.size)
      have BR2 : Hid (Below W0.heap.size W0 W2) := BR.out.trans (B2.out.mono BR.out.size)
      have O2 : Hid (W2.ownsRow (w.heap.size + 1) 85 9 (.slice va DK.length vc) DK.length (ansC DK)) := own_same OR.out (fun g hg => B2.out.block g (own_block OR.out hg).2.1)
      clear r2 OR BR BW B2
      go_wp2_with fail
      go_loopg [12, 14, 15, 16, 37] k (fun gg b _ _ _ i wi => ∃ q : Nat, q ≤ k ∧ k - q ≤ gg ∧ i = .int .i64 q ∧ b = .bool (wrB F ts y1 y2 q) ∧ Aside (Below W2.heap.size W2 wi))
      case atStart => exact ⟨0, Nat.zero_le _, by omega, rfl, (by simp [wrB, latK]), Below.refl _ _⟩
      case round =>
        obtain ⟨q, hqk, hgq, rfl, rfl, BJ⟩ := hrel
        have BWJ : Hid (Below w.heap.size w wr) := BW2.out.trans (BJ.out.mono BW2.out.size)
        by_cases hq1 : q < k
        · have hq1i : (q : Int) < k := by omega
          have xq := LC.out wr BWJ.out q (by omega)
          have WN := hid (wr_next F ts y1 y2 q)
          have WTq := hid (WT.out wr BWJ.out (ts.getD q default))
          generalize ts.getD q default = U at *
          generalize (F U).getD noSrc = z at *
          generalize (F U).isSome = okz at *
          obtain ⟨z1, z2, z3, z4⟩ := z
          simp only at WTq WN
          have p0 : wr.cell? ⟨pb, 0, none⟩ = some (.int .i64 y1) := (BJ.out.cell (p := ⟨pb, 0, none⟩) (blt PB.out)).trans (Lib.cell_of_heap PB.out 0)
          have p1 : wr.cell? ⟨pb, 1, none⟩ = some (.int .i64 y2) := (BJ.out.cell (p := ⟨pb, 1, none⟩) (blt PB.out)).trans (Lib.cell_of_heap PB.out 1)
          go_upto_region 11 with (go_at_call 47; refine WTq.out.mono ?_; rintro e w3 ⟨rfl, b3⟩; have B3 := hid b3; clear b3)
          have B4 : Hid (Below wr.heap.size wr (w3.alloc (.cells #[.int .i64 z1, .int .i64 z2] 54))) := B3.out.trans ((below_box w3 _).mono B3.out.size)
          have QB := hid (heap_alloc_new w3 (.cells #[.int .i64 z1, .int .i64 z2] 54))
          clear WTq B3 xq
          generalize w3.alloc (.cells #[.int .i64 z1, .int .i64 z2] 54) = W4 at *
          generalize w3.heap.size = qb at *
          have P0 : W4.cell? ⟨pb, 0, none⟩ = some (.int .i64 y1) := (B4.out.cell (p := ⟨pb, 0, none⟩) (World.block_lt_of_cell? _ _ p0)).trans p0
          have P1 : W4.cell? ⟨pb, 1, none⟩ = some (.int .i64 y2) := (B4.out.cell (p := ⟨pb, 1, none⟩) (World.block_lt_of_cell? _ _ p1)).trans p1
          have Q0 : W4.cell? ⟨qb, 0, none⟩ = some (.int .i64 z1) := Lib.cell_of_heap QB.out 0
          have Q1 : W4.cell? ⟨qb, 1, none⟩ = some (.int .i64 z2) := Lib.cell_of_heap QB.out 1
          have BJ4 : Hid (Below W2.heap.size W2 W4) := BJ.out.trans (B4.out.mono BJ.out.size)
          clear p0 p1
          cases hwb : wrB F ts y1 y2 q with
          | true =>
            have HN : Hid (wrB F ts y1 y2 (q + 1) = true) := by show _ = _; rw [WN.out, hwb]; rfl
            clear hwb
            go_wp2_with fail
            go_roundg (k - (q + 1))
            case measure => omega
            case rel => exact ⟨q + 1, by omega, by omega, by go_num, (by rw [HN.out]), BJ4.out⟩
          | false =>
            by_cases hz : z1 = y1
            · have hzb : ((z1 : Int) == (y1 : Int)) = true := by rw [beq_iff_eq]; omega
              have HN : Hid (wrB F ts y1 y2 (q + 1) = decide (y2 < z2)) := by
                show _ = _
                rw [WN.out, hwb, decide_eq_true hz, Bool.false_or, Bool.true_and]
              clear hwb
              go_wp2_with fail
              go_roundg (k - (q + 1))
              case measure => omega
              case rel => exact ⟨q + 1, by omega, by omega, by go_num, (by rw [HN.out]), BJ4.out⟩
            · have hzb : ((z1 : Int) == (y1 : Int)) = false := by rw [beq_eq_false_iff_ne]; omega
              have HN : Hid (wrB F ts y1 y2 (q + 1) = false) := by show _ = _; rw [WN.out, hwb, decide_eq_false hz]; rfl
              clear hwb
              go_wp2_with fail
              go_roundg (k - (q + 1))
              case measure => omega
              case rel => exact ⟨q + 1, by omega, by omega, by go_num, (by rw [HN.out]), BJ4.out⟩
        · have hqe : q = k := by omega
          have hq1i : ¬ (q : Int) < k := by omega
          subst hqe
          have OJ : Hid (wr.ownsRow (w.heap.size + 1) 85 9 (.slice va DK.length vc) DK.length (ansC DK)) := own_same O2.out (fun g hg => BJ.out.block g (own_block O2.out hg).2.1)
          have BRJ : Hid (Below W0.heap.size W0 wr) := BR2.out.trans (BJ.out.mono BR2.out.size)
          have p0 : wr.cell? ⟨pb, 0, none⟩ = some (.int .i64 y1) := (BJ.out.cell (p := ⟨pb, 0, none⟩) (blt PB.out)).trans (Lib.cell_of_heap PB.out 0)
          cases hwb : wrB F ts y1 y2 q with
          | false =>
            have HN : Hid (DK1 = DK) := by show _ = _; rw [DN.out, hwb]; simp
            clear hwb DN
            go_wp2_with fail
            go_roundg (ts.length - (q + 1))
            case measure => omega
            case rel => exact ⟨q + 1, by omega, by omega, by go_num, BRJ.out, (by rw [HDK1.out, HN.out]; exact OJ.out)⟩
          | true =>
            have HN : Hid (DK1 = DK ++ [((7 : Int), (y1 : Int), (0 : Int), (0 : Int), s, X)]) := by show _ = _; rw [DN.out, hwb]; rfl
            clear hwb DN
            have SZ : Hid ((wr.alloc (.cells #[.int .i64 7, .int .i64 y1, .int .i64 0, .int .i64 0, .string s, .int .i64 X, .slice none 0 0, .bool false, .int .i64 0] 85)).heap.size = wr.heap.size + 1) := alloc_size _ _
            have B9 : Hid (∀ b, b < wr.heap.size → (wr.alloc (.cells #[.int .i64 7, .int .i64 y1, .int .i64 0, .int .i64 0, .string s, .int .i64 X, .slice none 0 0, .bool false, .int .i64 0] 85)).heap[b]? = wr.heap[b]?) := fun b hb => by rw [alloc_at, if_neg (by omega)]
            have OX : Hid ((wr.alloc (.cells #[.int .i64 7, .int .i64 y1, .int .i64 0, .int .i64 0, .string s, .int .i64 X, .slice none 0 0, .bool false, .int .i64 0] 85)).ownsRow (w.heap.size + 1) 85 9 (.slice va DK.length vc) DK.length (ansC DK)) := own_same OJ.out (fun g hg => B9.out g (own_block OJ.out hg).2.1)
            have NEW : Hid (∀ j u, ([.int .i64 7, .int .i64 (y1 : Int), .int .i64 (0 : Int), .int .i64 (0 : Int), .string s, .int .i64 X, .slice none 0 0, .bool false, .int .i64 (0 : Int)] : List Value)[j]? = some u → (wr.alloc (.cells #[.int .i64 7, .int .i64 y1, .int .i64 0, .int .i64 0, .string s, .int .i64 X, .slice none 0 0, .bool false, .int .i64 0] 85)).cell? ((⟨wr.heap.size, 0, none⟩ : Addr).add j) = some u) := World.news_of_block (cs := #[.int .i64 7, .int .i64 y1, .int .i64 0, .int .i64 0, .string s, .int .i64 X, .slice none 0 0, .bool false, .int .i64 0]) (t := 85) (fr := (0, 0)) (heap_alloc_new wr _)
            have ONE : Hid (∀ u ∈ ([.int .i64 7, .int .i64 (y1 : Int), .int .i64 (0 : Int), .int .i64 (0 : Int), .string s, .int .i64 X, .slice none 0 0, .bool false, .int .i64 (0 : Int)] : List Value), u.oneCell' = true) := by
              intro u hu
              simp only [List.mem_cons, List.not_mem_nil, or_false] at hu
              rcases hu with rfl | rfl | rfl | rfl | rfl | rfl | rfl | rfl | rfl <;> rfl
            have hsz : w.heap.size + 1 ≤ wr.heap.size := by have := BRJ.out.size; omega
            go_wp2_with (at_builtin; refine wpList_append_lies _ rfl _ _ 33 rfl (w.heap.size + 1) 85 i0 _ 9 96 Try.underlying33 HI0.out HZ0.out HZ1.out HZ2.out rfl (by decide) (.slice va DK.length vc) DK.length (ansC DK) rfl OX.out ⟨wr.heap.size, 0, none⟩ 1 1 [.int .i64 7, .int .i64 (y1 : Int), .int .i64 (0 : Int), .int .i64 (0 : Int), .string s, .int .i64 X, .slice none 0 0, .bool false, .int .i64 (0 : Int)] rfl rfl NEW.out ONE.out (by decide) (by unfold maxLen; omega) (by omega) (by rw [SZ.out]; omega) (wr.heap.size + 1) SZ.out ?_; intro g8 cap8 w8 hown8 hgrow8 hat8 hglt8; have O8 := hid hown8; have G8 := hid hgrow8; clear hown8 hgrow8 hat8 hglt8)
            go_roundg (ts.length - (q + 1))
            case measure => omega
            case rel =>
              refine ⟨q + 1, by omega, by omega, by go_num, (show Aside _ from ⟨G8.out.os.trans BRJ.out.os, G8.out.tape.trans BRJ.out.tape, G8.out.output.trans BRJ.out.output, Nat.le_trans (by rw [SZ.out]; have := BRJ.out.size; omega) G8.out.size, fun b hb => (G8.out.block b (by rw [SZ.out]; have := BRJ.out.size; omega) (fun e => by have := (own_block OJ.out e.symm).1; omega)).trans ((B9.out b (by have := BRJ.out.size; omega)).trans (BRJ.out.block b hb))⟩), (show Aside _ from ?_)⟩
              rw [HDK1.out, HN.out, List.length_append, ansC_snoc]
              exact O8.out
    · have hke : k = ts.length := by omega
      have hlti : ¬ (k : Int) < ts.length := by omega
      subst hke
      have HDK := hid hDK
      clear hDK
      go_wp2_with fail
      go_ret
      exact ⟨_, rfl, (by rw [HDK.out]; exact OR.out), B0.out.trans (BR.out.mono B0.out.size)⟩
end Go.Proofs.Ytnfbcmnlloipiaa
namespace Go.Proofs.Ytnfbcmnlloipiaa
set_option linter.unusedVariables false
set_option linter.unusedSimpArgs false
open Go.RowKit Go.Lib Go.Maps Go.Sort
open Tx (MTxn info_parts RowsIn.cells RowCells TxnRow TxnsIn)

/-- What the document knows of a list. -/
def knwD (l : List MTxn) (s : ByteArray) : Knw := ⟨srcN l s (notes l l.length), (longD (rdsN l s (notes l l.length))).1, (longD (rdsN l s (notes l l.length))).2.2⟩
theorem knwD_ts (l : List MTxn) (s : ByteArray) : (knwD l s).ts = (knwN l s (notes l l.length)).ts := (longD_is _).1
theorem find_same (l : List MTxn) (s : ByteArray) (r : MRx) (hr : r ∈ rdsN l s (notes l l.length)) (i : Nat) : findM (knwD l s) r.1 r.2.1 r.2.2 i = findM (knwN l s (notes l l.length)) r.1 r.2.1 r.2.2 i := by
  have hts := knwD_ts l s
  match i with
  | 0 => rfl
  | 1 => rfl
  | 2 => rfl
  | 3 => rfl
  | n + 4 =>
    show (if r.2.2 = (knwD l s).ts.take r.2.2.length then none else some ((4 : Int), ((knwD l s).ti : Int), (0 : Int))) = (if r.2.2 = (knwN l s (notes l l.length)).ts.take r.2.2.length then none else some ((4 : Int), ((knwN l s (notes l l.length)).ti : Int), (0 : Int)))
    rw [hts]
    by_cases h0 : 0 < (knwN l s (notes l l.length)).ts.length
    · have e : (knwD l s).ti = (knwN l s (notes l l.length)).ti := by
        show (longD (rdsN l s (notes l l.length))).1 = (longR (rdsN l s (notes l l.length))).1
        rw [(longD_is _).2 h0]
      rw [e]
    · have hle : r.2.2.length ≤ (knwN l s (notes l l.length)).ts.length := long_max hr
      have e : r.2.2 = [] := List.length_eq_zero_iff.1 (by omega)
      rw [e]
      simp
theorem flat_congr {α β : Type} {f g : α → List β} : ∀ {l : List α}, (∀ x ∈ l, f x = g x) → l.flatMap f = l.flatMap g
  | [], _ => rfl
  | a :: l, h => by
    rw [List.flatMap_cons, List.flatMap_cons, h a (by simp), flat_congr (fun x hx => h x (by simp [hx]))]
theorem upto_same (l : List MTxn) (s : ByteArray) : uptoA (knwD l s) s (rdsN l s (notes l l.length)) 5 0 = uptoA (knwN l s (notes l l.length)) s (rdsN l s (notes l l.length)) 5 0 := by
  unfold uptoA
  rw [List.take_zero, List.flatMap_nil, List.flatMap_nil, List.append_nil, List.append_nil]
  refine flat_congr (fun i _ => ?_)
  unfold rowA
  refine flat_congr (fun r hr => ?_)
  unfold oneA
  rw [find_same l s r hr i]
/-- The document's anomalies are the program's. -/
theorem ano_same (l : List MTxn) (s : ByteArray) : anoM (knwD l s) s (rdsN l s (notes l l.length)) = anoN l s := by
  unfold anoN anoM
  rw [upto_same, knwD_ts]
  rfl
theorem harm_snoc (A : List MAn) (a : MAn) : harmB (A ++ [a]) = (harmB A && (a.1 == 6)) := by simp [harmB]
set_option maxHeartbeats 2000000 in
set_option maxRecDepth 100000 in
theorem ranom_un (w : World) (v : Value) (l : List MTxn) (s : ByteArray) (h : TxnsIn Any w v l) (hG : Good l) (hn : ¬ tellN l s) : Calls Try.prog 16 #[v, .string s] w fun e w' => e = .returned (.slice none 0 0) ∧ Below w.heap.size w w' := by
  have KI := hid (rkind_is w v l s h hG.len hG.ten)
  have UN : Hid (∀ W, Below w.heap.size w W → Calls Try.prog 36 #[v] W fun e w' => ∃ u : Bool, e = .returned (.bool u) ∧ (u = true ↔ uniqN (notes l l.length)) ∧ Below W.heap.size W w') := fun W hb => runiq_is W v l (h.below hb) hG.len hG.ten
  obtain ⟨a1, c1, rfl, _⟩ := RowsIn.cells h (by omega)
  unfold tellN at hn
  clear h hG
  generalize notes l l.length = N at *
  by_cases hk : kindN N s = 1
  · have hu : ¬ uniqN N := fun c => hn ⟨hk, c⟩
    rw [hk] at KI
    have HU := hid hu
    clear hn hk hu
    go_enter Try.func16, Try.ntmps16
    go_wp2_with (first | (go_at_call 35; refine KI.out.mono ?_; rintro e w1 ⟨rfl, b1⟩; have B1 := hid b1; clear b1) | (go_at_call 36; refine (UN.out _ B1.out).mono ?_; rintro e w2 ⟨u, rfl, hu2, b2⟩; have e9 : u = false := (by cases u with | false => rfl | true => exact absurd (hu2.1 rfl) HU.out); subst e9; have B2 := hid (B1.out.trans (b2.mono B1.out.size)); clear b2 hu2))
    go_ret
    exact ⟨rfl, B2.out⟩
  · have hkb : (kindN N s == (1 : Int)) = false := by simpa using hk
    generalize kindN N s = kk at *
    clear hn UN
    go_enter Try.func16, Try.ntmps16
    go_wp2_with (go_at_call 35; refine KI.out.mono ?_; rintro e w1 ⟨rfl, b1⟩; have B1 := hid b1; clear b1)
    go_ret
    exact ⟨rfl, B1.out⟩
end Go.Proofs.Ytnfbcmnlloipiaa
namespace Go.Proofs.Ytnfbcmnlloipiaa
set_option linter.unusedVariables false
set_option linter.unusedSimpArgs false
open Go.RowKit Go.Lib Go.Maps Go.Sort
open Tx (MTxn info_parts RowsIn.cells RowCells TxnRow TxnsIn)

set_option maxHeartbeats 16000000 in
set_option maxRecDepth 100000 in
theorem ranom_yes (w : World) (v : Value) (l : List MTxn) (s : ByteArray) (h : TxnsIn Any w v l) (hG : Good l) (hT : tellN l s) : Calls Try.prog 16 #[v, .string s] w fun e w' => ∃ v', e = .returned v' ∧ w'.ownsRow w.heap.size 85 9 v' (anoN l s).length (ansC (anoN l s)) ∧ Below w.heap.size w w' := by
  obtain ⟨i0, hi0, hz0, hz1, hz2⟩ := info_parts Try.infoAn
  have HI0 := hid hi0
  have HZ0 := hid hz0
  have HZ1 := hid hz1
  have HZ2 := hid hz2
  have KI : Hid (Calls Try.prog 35 #[v, .string s] w fun e w' => e = .returned (.int .i64 1) ∧ Below w.heap.size w w') := by
    have q := rkind_is w v l s h hG.len hG.ten
    rw [hT.1] at q
    exact q
  have UN : Hid (∀ W, Below w.heap.size w W → Calls Try.prog 36 #[v] W fun e w' => e = .returned (.bool true) ∧ Below W.heap.size W w') := fun W hb => (runiq_is W v l (h.below hb) hG.len hG.ten).mono fun e w' q => by
    obtain ⟨u, rfl, h2, h3⟩ := q
    rw [h2.2 hT.2]
    exact ⟨rfl, h3⟩
  have RD : Hid (∀ W, Below w.heap.size w W → Calls Try.prog 38 #[v, .string s] W fun e w' => ∃ v' R, e = .returned v' ∧ w'.ownsRow W.heap.size 87 3 v' R.length (rdC R) ∧ RdsD Any W R (rdsN l s (notes l l.length)) ∧ Below W.heap.size W w') := fun W hb => reads_is W v l s (h.below hb) hG
  have LEN : Hid (∀ r ∈ rdsN l s (notes l l.length), r.2.2.length ≤ (longD (rdsN l s (notes l l.length))).2.2.length ∧ r.2.2.length ≤ 100000) := fun r hr => ⟨by rw [(longD_is _).1]; exact long_max hr, (hG.rop hr).2⟩
  have TSL : Hid ((longD (rdsN l s (notes l l.length))).2.2.length ≤ 100000) := by
    show _ ≤ _
    rw [(longD_is _).1]
    exact hG.trace.2
  have hrl := hG.rlen (s := s)
  have ANO := hid (ano_same l s)
  have KD : Hid (knwD l s = ⟨srcN l s (notes l l.length), (longD (rdsN l s (notes l l.length))).1, (longD (rdsN l s (notes l l.length))).2.2⟩) := rfl
  have ONE : Hid (∀ (ri rj : Nat) (la : Option Addr) (lc : Nat) (xs : List Int) (ti tj : Nat) (ta : Option Addr) (tc : Nat) (ts : List Int) (w2 : World), Below w.heap.size w w2 → IntsIn Any w2 (.slice la xs.length lc) xs → xs.length ≤ 100000 → IntsIn Any w2 (.slice ta ts.length tc) ts → ts.length ≤ 100000 → xs.length ≤ ts.length → ∀ i, i < 5 → ∀ W, Below w2.heap.size w2 W → Calls Try.prog 43 #[v, .string s, .int .i64 (kindK i), .agg #[.int .i64 ri, .int .i64 rj, .slice la xs.length lc], .agg #[.int .i64 ti, .int .i64 tj, .slice ta ts.length tc]] W fun e w' => OneP s ri rj (findM ⟨srcN l s (notes l l.length), ti, ts⟩ ri rj xs i) e ∧ Below W.heap.size W w') := fun ri rj la lc xs ti tj ta tc ts w2 hb2 h1 h2 h3 h4 h5 i hi W hb => one_is W v l s ri rj la lc xs ti tj ta tc ts (h.below (hb2.trans (hb.mono hb2.size))) hG hT.2 (h1.below hb) h2 (h3.below hb) h4 h5 i hi
  have ORD : Hid (∀ (ti tj : Nat) (ta : Option Addr) (tc : Nat) (ts : List Int) (w2 : World), Below w.heap.size w w2 → IntsIn Any w2 (.slice ta ts.length tc) ts → ts.length ≤ 100000 → ∀ W, Below w2.heap.size w2 W → Calls Try.prog 44 #[v, .string s, .agg #[.int .i64 ti, .int .i64 tj, .slice ta ts.length tc]] W fun e w' => ∃ v', e = .returned v' ∧ w'.ownsRow (W.heap.size + 1) 85 9 v' (disK (srcN l s (notes l l.length)) s ts ts.length).length (ansC (disK (srcN l s (notes l l.length)) s ts ts.length)) ∧ Below W.heap.size W w') := fun ti tj ta tc ts w2 hb2 h3 h4 W hb => order_is W v l s ti tj ta tc ts (h.below (hb2.trans (hb.mono hb2.size))) hG hT.2 (h3.below hb) h4
  obtain ⟨a1, c1, rfl, _⟩ := RowsIn.cells h (by omega)
  clear h hG hT hi0 hz0 hz1 hz2
  generalize rdsN l s (notes l l.length) = RX at *
  generalize srcN l s (notes l l.length) = F at *
  obtain ⟨TR, hTR⟩ : ∃ TR, longD RX = TR := ⟨_, rfl⟩
  have LO : Hid (∀ B v R w0 W, W.ownsRow B 87 3 v R.length (rdC R) → RdsD Any w0 R RX → Calls Try.prog 37 #[v] W fun e w' => ∃ ta tc, e = .returned (.agg #[.int .i64 TR.1, .int .i64 TR.2.1, .slice ta TR.2.2.length tc]) ∧ IntsIn Any w0 (.slice ta TR.2.2.length tc) TR.2.2 ∧ Below W.heap.size W w') := fun B v R w0 W ho hr => (longest_is B v R RX w0 W ho hr (by rw [hr.len]; omega)).mono fun e w' q => by
    rw [hTR] at q
    obtain ⟨ta, tc, q1, q2, _, q4⟩ := q
    exact ⟨ta, tc, q1, q2, q4⟩
  rw [hTR] at LEN TSL KD
  obtain ⟨ti, tj, ts⟩ := TR
  simp only at LO LEN TSL KD
  clear hTR
  go_enter Try.func16, Try.ntmps16
  go_upto_region 8 with (first
    | (go_at_call 35; refine KI.out.mono ?_; rintro e w1 ⟨rfl, b1⟩; have B1 := hid b1; clear b1)
    | (go_at_call 36; refine (UN.out _ B1.out).mono ?_; rintro e w2 ⟨rfl, b2⟩; have B2 := hid (B1.out.trans (b2.mono B1.out.size)); clear b2)
    | (go_at_call 38; refine (RD.out _ B2.out).mono ?_; rintro e w3 ⟨v3, R, rfl, o3, r3, b3⟩; have O3 := hid o3; have R3 := hid r3; have B3 := hid b3; obtain ⟨ra, rc, hrv⟩ := own_slice o3; subst hrv; clear o3 r3 b3)
    | (go_at_call 37; refine (LO.out _ _ _ _ _ O3.out R3.out).mono ?_; rintro e w4 ⟨ta, tc, rfl, i4, b4⟩; have I4 := hid i4; have B4 := hid b4; clear i4 b4))
  have s5 : (w4.alloc (.cells #[.int .i64 ti, .int .i64 tj, .slice ta ts.length tc] 87)).heap.size = w4.heap.size + 1 := alloc_size _ _
  have BX : Hid (Below w4.heap.size w4 ((w4.alloc (.cells #[.int .i64 ti, .int .i64 tj, .slice ta ts.length tc] 87)).alloc (.cells #[.int .i64 3, .int .i64 2, .int .i64 5, .int .i64 6, .int .i64 4] 3))) := (below_box w4 _).alloc (by rw [s5]; omega) _
  have T6 : Hid (((w4.alloc (.cells #[.int .i64 ti, .int .i64 tj, .slice ta ts.length tc] 87)).alloc (.cells #[.int .i64 3, .int .i64 2, .int .i64 5, .int .i64 6, .int .i64 4] 3)).heap[w4.heap.size]? = some (.cells #[.int .i64 ti, .int .i64 tj, .slice ta ts.length tc] 87)) := by
    show _ = _
    rw [alloc_at, if_neg (by rw [s5]; omega)]
    exact heap_alloc_new w4 _
  have KB : Hid (((w4.alloc (.cells #[.int .i64 ti, .int .i64 tj, .slice ta ts.length tc] 87)).alloc (.cells #[.int .i64 3, .int .i64 2, .int .i64 5, .int .i64 6, .int .i64 4] 3)).heap[w4.heap.size + 1]? = some (.cells #[.int .i64 3, .int .i64 2, .int .i64 5, .int .i64 6, .int .i64 4] 3)) := by
    show _ = _
    rw [alloc_at, if_pos s5.symm]
  clear s5
  generalize (w4.alloc (.cells #[.int .i64 ti, .int .i64 tj, .slice ta ts.length tc] 87)).alloc (.cells #[.int .i64 3, .int .i64 2, .int .i64 5, .int .i64 6, .int .i64 4] 3) = W0 at *
  have B30 : Hid (Below w3.heap.size w3 W0) := B4.out.trans (BX.out.mono B4.out.size)
  have B20 : Hid (Below w2.heap.size w2 W0) := B3.out.trans (B30.out.mono B3.out.size)
  have B00 : Hid (Below w.heap.size w W0) := B2.out.trans (B20.out.mono B2.out.size)
  have OR0 : Hid (W0.ownsRow w2.heap.size 87 3 (.slice ra R.length rc) R.length (rdC R)) := own_same O3.out (fun g hg => B30.out.block g (own_block O3.out hg).2.1)
  have HRR := hid R3.out.len
  have hRn : R.length ≤ 10000 := by rw [HRR.out]; exact hrl
  have hRi : (R.length : Int) ≤ 10000 := by omega
  clear KI UN RD LO O3 B1 B3 B4 BX B30
  generalize w4.heap.size + 1 = kb at *
  generalize w4.heap.size = tb at *
  obtain ⟨K, hK⟩ : ∃ K : Knw, ⟨F, ti, ts⟩ = K := ⟨_, rfl⟩
  have HK := hid hK
  clear hK
  go_loopg [7, 8, 10, 12, 13, 14, 31] 5 (fun g out b _ _ _ _ i wr => ∃ k : Nat, k ≤ 5 ∧ 5 - k ≤ g ∧ i = .int .i64 k ∧ b = .bool (harmB (uptoA K s RX k 0)) ∧ Aside (Below W0.heap.size W0 wr) ∧ Aside (wr.ownsRow W0.heap.size 85 9 out (uptoA K s RX k 0).length (ansC (uptoA K s RX k 0))))
  case atStart => exact ⟨0, by omega, by omega, rfl, (by rw [uptoA_zero]; rfl), Below.refl _ _, (show Aside _ from by rw [uptoA_zero]; exact World.ownsRow_nil _ _ _ _)⟩
  case round =>
    obtain ⟨k, hk, hg, rfl, rfl, BW, OW⟩ := hrel
    by_cases hlt : k < 5
    · have hlti : (k : Int) < 5 := by omega
      have kv : wr.cell? ⟨kb, k, none⟩ = some (.int .i64 (kindK k)) := by
        have hc := (BW.out.cell (p := ⟨kb, k, none⟩) (blt KB.out)).trans (Lib.cell_of_heap KB.out k)
        have hk5 : k = 0 ∨ k = 1 ∨ k = 2 ∨ k = 3 ∨ k = 4 := by omega
        rcases hk5 with rfl | rfl | rfl | rfl | rfl <;> exact hc
      go_wp2_with fail
      clear kv
      go_loopg [7, 8, 12, 13, 14, 37] R.length (fun g out b _ _ _ i wi => ∃ q : Nat, q ≤ R.length ∧ R.length - q ≤ g ∧ i = .int .i64 q ∧ b = .bool (harmB (uptoA K s RX k q)) ∧ Aside (Below W0.heap.size W0 wi) ∧ Aside (wi.ownsRow W0.heap.size 85 9 out (uptoA K s RX k q).length (ansC (uptoA K s RX k q))))
      case atStart => exact ⟨0, by omega, by omega, rfl, rfl, BW.out, OW.out⟩
      case round =>
        obtain ⟨q, hq, hgq, rfl, rfl, BJ, OJ⟩ := hrel
        by_cases hq1 : q < R.length
        · have hq1i : (q : Int) < R.length := by omega
          have hqx : q < RX.length := by rw [← HRR.out]; exact hq1
          obtain ⟨g, c', hv⟩ := own_some OR0.out (by omega)
          cases hv
          have hgl : g < W0.heap.size := (own_block OR0.out rfl).2.1
          obtain ⟨la, lc, hRq, hin, hwf⟩ := R3.out.at' q hq1
          have HN : Hid (uptoA K s RX k (q + 1) = uptoA K s RX k q ++ oneA K s k (RX.getD q default)) := uptoA_next K s RX k q hqx
          have hlen := LEN.out (RX.getD q default) (by simp [List.getD, List.getElem?_eq_getElem hqx])
          have ce : ∀ i u, i < 3 → (rdVs (R.getD q default))[i]? = some u → wr.cell? ⟨g, q * 3 + i, none⟩ = some u := fun i u hi hu => (BJ.out.cell (p := ⟨g, q * 3 + i, none⟩) hgl).trans ((OR0.out.cellAt (q * 3 + i) (by omega)).trans ((rdC_at R q i hq1 hi).trans hu))
          rw [hRq] at ce
          obtain ⟨r, hX⟩ : ∃ r, RX.getD q default = r := ⟨_, rfl⟩
          rw [hX] at ce hin HN hlen
          obtain ⟨ri, rj, xs⟩ := r
          simp only at ce hin hlen
          have x0 := ce 0 _ (by omega) rfl
          have x1 := ce 1 _ (by omega) rfl
          have x2 := ce 2 _ (by omega) rfl
          simp only [Nat.add_zero] at x0 x1 x2
          have B2J : Hid (Below w2.heap.size w2 wr) := B20.out.trans (BJ.out.mono B20.out.size)
          have FI : Hid (∀ o, Calls Try.prog 43 #[.slice a1 l.length c1, .string s, .int .i64 (kindK k), .agg #[.int .i64 ri, .int .i64 rj, .slice la xs.length lc], .agg #[.int .i64 ti, .int .i64 tj, .slice ta ts.length tc]] (wr.alloc o) fun e w' => OneP s ri rj (findM K ri rj xs k) e ∧ Below (wr.alloc o).heap.size (wr.alloc o) w') := fun o => by
            have hh := ONE.out ri rj la lc xs ti tj ta tc ts w2 B2.out hin hlen.2 I4.out TSL.out hlen.1 k hlt (wr.alloc o) (B2J.out.trans ((below_box wr o).mono B2J.out.size))
            rw [HK.out] at hh
            exact hh
          have FK := hid (find_kind K ri rj xs k hlt)
          have t0 : ∀ o, (wr.alloc o).cell? ⟨tb, 0, none⟩ = some (.int .i64 ti) := fun o => Lib.cell?_alloc_some _ ((BJ.out.cell (p := ⟨tb, 0, none⟩) (blt T6.out)).trans (Lib.cell_of_heap T6.out 0))
          have t1 : ∀ o, (wr.alloc o).cell? ⟨tb, 1, none⟩ = some (.int .i64 tj) := fun o => Lib.cell?_alloc_some _ ((BJ.out.cell (p := ⟨tb, 1, none⟩) (blt T6.out)).trans (Lib.cell_of_heap T6.out 1))
          have t2 : ∀ o, (wr.alloc o).cell? ⟨tb, 2, none⟩ = some (.slice ta ts.length tc) := fun o => Lib.cell?_alloc_some _ ((BJ.out.cell (p := ⟨tb, 2, none⟩) (blt T6.out)).trans (Lib.cell_of_heap T6.out 2))
          have hwW := BJ.out.size
          have hul := uptoA_len K s RX k q (by omega)
          have hul2 : (uptoA K s RX k q).length ≤ 600000 := by
            have : k * RX.length ≤ 4 * 100000 := Nat.mul_le_mul (by omega) (by omega)
            omega
          obtain ⟨U, hU⟩ : ∃ U, uptoA K s RX k q = U := ⟨_, rfl⟩
          obtain ⟨U1, hU1⟩ : ∃ U1, uptoA K s RX k (q + 1) = U1 := ⟨_, rfl⟩
          rw [hU] at HN OJ hul2
          rw [hU1] at HN
          have HU1 := hid hU1
          obtain ⟨va, vc, hva⟩ := own_slice OJ.out
          subst hva
          rw [hU]
          generalize kindK k = kd at *
          clear ce hRq hin hwf hX hul hU hU1 hlen
          cases hf : findM K ri rj xs k with
          | none =>
            have HO : Hid (U1 = U) := by show _ = _; rw [HN.out]; simp [oneA, hf]
            rw [hf] at FI
            clear hf HN FK
            go_upto_region 14 with (go_at_call 43; refine (FI.out _).mono ?_; rintro e w5 ⟨⟨d0, d1, d2, d3, d4, d5, rfl, _⟩, b5⟩; have N1 : Hid (Below wr.heap.size wr w5) := (box_later b5).2.2.2; clear b5)
            go_wp2_with fail
            go_roundg (R.length - (q + 1))
            case measure => omega
            case rel =>
              have BN := BJ.out.trans (N1.out.mono BJ.out.size)
              refine ⟨q + 1, by omega, by omega, by go_num, (by rw [HU1.out, HO.out]), BN.trans ((below_box w5 _).mono BN.size), (show Aside _ from ?_)⟩
              rw [HU1.out, HO.out]
              refine own_same OJ.out (fun g hg => ?_)
              have := (own_block OJ.out hg).2.1
              exact ((below_box w5 _).block g (Nat.lt_of_lt_of_le this N1.out.size)).trans (N1.out.block g this)
          | some a =>
            have hak := FK.out a hf
            obtain ⟨kd2, oth, x⟩ := a
            simp only at hak
            subst kd2
            have HO : Hid (U1 = U ++ [(kd, (ri : Int), (rj : Int), oth, s, x)]) := by show _ = _; rw [HN.out]; simp [oneA, hf]
            rw [hf] at FI
            clear hf HN FK
            go_upto_region 15 with (go_at_call 43; refine (FI.out _).mono ?_; rintro e w5 ⟨⟨d0, d1, d2, d3, d4, d5, rfl, hd⟩, b5⟩; obtain ⟨e0, e1, e2, e3, e4, e5⟩ := hd _ rfl; replace e0 : d0 = kd := e0; replace e3 : d3 = oth := e3; replace e5 : d5 = x := e5; subst d0 d1 d2 d3 d4 d5; have N1 : Hid (Below wr.heap.size wr w5) := (box_later b5).2.2.2; clear b5 hd)
            have N5 : Hid (Below wr.heap.size wr (w5.alloc (.cells #[.int .i64 kd, .int .i64 ri, .int .i64 rj, .int .i64 oth, .string s, .int .i64 x, .slice none 0 0, .bool false, .int .i64 0] 85))) := N1.out.trans ((below_box w5 _).mono N1.out.size)
            have PB := hid (heap_alloc_new w5 (.cells #[.int .i64 kd, .int .i64 ri, .int .i64 rj, .int .i64 oth, .string s, .int .i64 x, .slice none 0 0, .bool false, .int .i64 0] 85))
            clear N1 x0 x1 x2 t0 t1 t2 FI
            generalize w5.alloc (.cells #[.int .i64 kd, .int .i64 ri, .int .i64 rj, .int .i64 oth, .string s, .int .i64 x, .slice none 0 0, .bool false, .int .i64 0] 85) = W5 at *
            generalize w5.heap.size = pb at *
            have p0 : W5.cell? ⟨pb, 0, none⟩ = some (.int .i64 kd) := Lib.cell_of_heap PB.out 0
            have p1 : W5.cell? ⟨pb, 1, none⟩ = some (.int .i64 ri) := Lib.cell_of_heap PB.out 1
            have p2 : W5.cell? ⟨pb, 2, none⟩ = some (.int .i64 rj) := Lib.cell_of_heap PB.out 2
            have p3 : W5.cell? ⟨pb, 3, none⟩ = some (.int .i64 oth) := Lib.cell_of_heap PB.out 3
            have p4 : W5.cell? ⟨pb, 4, none⟩ = some (.string s) := Lib.cell_of_heap PB.out 4
            have p5 : W5.cell? ⟨pb, 5, none⟩ = some (.int .i64 x) := Lib.cell_of_heap PB.out 5
            have p6 : W5.cell? ⟨pb, 6, none⟩ = some (.slice none 0 0) := Lib.cell_of_heap PB.out 6
            have p7 : W5.cell? ⟨pb, 7, none⟩ = some (.bool false) := Lib.cell_of_heap PB.out 7
            have p8 : W5.cell? ⟨pb, 8, none⟩ = some (.int .i64 0) := Lib.cell_of_heap PB.out 8
            have SZ : Hid ((W5.alloc (.cells #[.int .i64 kd, .int .i64 ri, .int .i64 rj, .int .i64 oth, .string s, .int .i64 x, .slice none 0 0, .bool false, .int .i64 0] 85)).heap.size = W5.heap.size + 1) := alloc_size _ _
            have B9 : Hid (∀ b, b < wr.heap.size → (W5.alloc (.cells #[.int .i64 kd, .int .i64 ri, .int .i64 rj, .int .i64 oth, .string s, .int .i64 x, .slice none 0 0, .bool false, .int .i64 0] 85)).heap[b]? = wr.heap[b]?) := fun b hb => by rw [alloc_at, if_neg (by have := N5.out.size; omega)]; exact N5.out.block b hb
            have OX : Hid ((W5.alloc (.cells #[.int .i64 kd, .int .i64 ri, .int .i64 rj, .int .i64 oth, .string s, .int .i64 x, .slice none 0 0, .bool false, .int .i64 0] 85)).ownsRow W0.heap.size 85 9 (.slice va U.length vc) U.length (ansC U)) := own_same OJ.out (fun g hg => B9.out g (own_block OJ.out hg).2.1)
            have NEW : Hid (∀ j u, ([.int .i64 kd, .int .i64 (ri : Int), .int .i64 (rj : Int), .int .i64 oth, .string s, .int .i64 x, .slice none 0 0, .bool false, .int .i64 (0 : Int)] : List Value)[j]? = some u → (W5.alloc (.cells #[.int .i64 kd, .int .i64 ri, .int .i64 rj, .int .i64 oth, .string s, .int .i64 x, .slice none 0 0, .bool false, .int .i64 0] 85)).cell? ((⟨W5.heap.size, 0, none⟩ : Addr).add j) = some u) := World.news_of_block (cs := #[.int .i64 kd, .int .i64 ri, .int .i64 rj, .int .i64 oth, .string s, .int .i64 x, .slice none 0 0, .bool false, .int .i64 0]) (t := 85) (fr := (0, 0)) (heap_alloc_new W5 _)
            have ONC : Hid (∀ u ∈ ([.int .i64 kd, .int .i64 (ri : Int), .int .i64 (rj : Int), .int .i64 oth, .string s, .int .i64 x, .slice none 0 0, .bool false, .int .i64 (0 : Int)] : List Value), u.oneCell' = true) := by
              intro u hu
              simp only [List.mem_cons, List.not_mem_nil, or_false] at hu
              rcases hu with rfl | rfl | rfl | rfl | rfl | rfl | rfl | rfl | rfl <;> rfl
            have hsz5 := N5.out.size
            have HHS : Hid (harmB U1 = (harmB U && (kd == 6))) := by show _ = _; rw [HO.out, harm_snoc]
            cases hsb : harmB U with
            | false =>
              rw [hsb] at HHS
              clear hsb
              go_wp2_with (at_builtin; refine wpList_append_lies _ rfl _ _ 33 rfl W0.heap.size 85 i0 _ 9 96 Try.underlying33 HI0.out HZ0.out HZ1.out HZ2.out rfl (by decide) (.slice va U.length vc) U.length (ansC U) rfl OX.out ⟨W5.heap.size, 0, none⟩ 1 1 [.int .i64 kd, .int .i64 (ri : Int), .int .i64 (rj : Int), .int .i64 oth, .string s, .int .i64 x, .slice none 0 0, .bool false, .int .i64 (0 : Int)] rfl rfl NEW.out ONC.out (by decide) (by unfold maxLen; omega) (by omega) (by rw [SZ.out]; omega) (W5.heap.size + 1) SZ.out ?_; intro g8 cap8 w8 hown8 hgrow8 hat8 hglt8; have O8 := hid hown8; have G8 := hid hgrow8; clear hown8 hgrow8 hat8 hglt8)
              go_roundg (R.length - (q + 1))
              case measure => omega
              case rel =>
                refine ⟨q + 1, by omega, by omega, by go_num, (by rw [HU1.out, HHS.out]; rfl), (show Aside _ from ⟨G8.out.os.trans (N5.out.os.trans BJ.out.os), G8.out.tape.trans (N5.out.tape.trans BJ.out.tape), G8.out.output.trans (N5.out.output.trans BJ.out.output), Nat.le_trans (by rw [SZ.out]; omega) G8.out.size, fun b hb => (G8.out.block b (by rw [SZ.out]; omega) (fun e => by have := (own_block OJ.out e.symm).1; omega)).trans ((B9.out b (by omega)).trans (BJ.out.block b hb))⟩), (show Aside _ from ?_)⟩
                rw [HU1.out, HO.out, List.length_append, ansC_snoc]
                exact O8.out
            | true =>
              rw [hsb] at HHS
              clear hsb
              go_wp2_with (at_builtin; refine wpList_append_lies _ rfl _ _ 33 rfl W0.heap.size 85 i0 _ 9 96 Try.underlying33 HI0.out HZ0.out HZ1.out HZ2.out rfl (by decide) (.slice va U.length vc) U.length (ansC U) rfl OX.out ⟨W5.heap.size, 0, none⟩ 1 1 [.int .i64 kd, .int .i64 (ri : Int), .int .i64 (rj : Int), .int .i64 oth, .string s, .int .i64 x, .slice none 0 0, .bool false, .int .i64 (0 : Int)] rfl rfl NEW.out ONC.out (by decide) (by unfold maxLen; omega) (by omega) (by rw [SZ.out]; omega) (W5.heap.size + 1) SZ.out ?_; intro g8 cap8 w8 hown8 hgrow8 hat8 hglt8; have O8 := hid hown8; have G8 := hid hgrow8; clear hown8 hgrow8 hat8 hglt8)
              go_roundg (R.length - (q + 1))
              case measure => omega
              case rel =>
                refine ⟨q + 1, by omega, by omega, by go_num, (by rw [HU1.out, HHS.out]; rfl), (show Aside _ from ⟨G8.out.os.trans (N5.out.os.trans BJ.out.os), G8.out.tape.trans (N5.out.tape.trans BJ.out.tape), G8.out.output.trans (N5.out.output.trans BJ.out.output), Nat.le_trans (by rw [SZ.out]; omega) G8.out.size, fun b hb => (G8.out.block b (by rw [SZ.out]; omega) (fun e => by have := (own_block OJ.out e.symm).1; omega)).trans ((B9.out b (by omega)).trans (BJ.out.block b hb))⟩), (show Aside _ from ?_)⟩
                rw [HU1.out, HO.out, List.length_append, ansC_snoc]
                exact O8.out
        · have hqe : q = RX.length := by rw [← HRR.out]; omega
          have HQE := hid hqe
          clear hqe
          have hq1i : ¬ (q : Int) < R.length := by omega
          go_wp2_with fail
          go_roundg (5 - (k + 1))
          case measure => omega
          case rel => exact ⟨k + 1, by omega, by omega, by go_num, (by rw [← uptoA_row, ← HQE.out]), BJ.out, (show Aside _ from by rw [← uptoA_row, ← HQE.out]; exact OJ.out)⟩
    · have hlti : ¬ (k : Int) < 5 := by omega
      have hk5 : k = 5 := by omega
      subst hk5
      obtain ⟨A, hA⟩ : ∃ A, uptoA K s RX 5 0 = A := ⟨_, rfl⟩
      have hul : A.length ≤ 500000 := by
        have := uptoA_len K s RX 5 0 (by omega)
        rw [hA] at this
        omega
      have HAN : Hid (anoN l s = A ++ (if harmB A = true then disK F s ts ts.length else [])) := by
        show _ = _
        rw [← ANO.out, KD.out, HK.out]
        unfold anoM
        rw [hA]
        have e1 : K.f = F := by rw [← HK.out]
        have e2 : K.ts = ts := by rw [← HK.out]
        rw [e1, e2]
      rw [hA] at OW
      rw [hA]
      obtain ⟨va, vc, hva⟩ := own_slice OW.out
      subst hva
      obtain ⟨D, hD⟩ : ∃ D, disK F s ts ts.length = D := ⟨_, rfl⟩
      have hdl : D.length ≤ 100000 := by
        have := disK_len F s ts ts.length
        rw [hD] at this
        have := TSL.out
        omega
      have B2W : Hid (Below w2.heap.size w2 wr) := B20.out.trans (BW.out.mono B20.out.size)
      have DI : Hid (Calls Try.prog 44 #[.slice a1 l.length c1, .string s, .agg #[.int .i64 ti, .int .i64 tj, .slice ta ts.length tc]] wr fun e w' => ∃ v, e = .returned v ∧ w'.ownsRow (wr.heap.size + 1) 85 9 v D.length (ansC D) ∧ Below wr.heap.size wr w') := by
        have h := ORD.out ti tj ta tc ts w2 B2.out I4.out TSL.out wr B2W.out
        rw [hD] at h
        exact h
      rw [hD] at HAN
      have BR : Hid (Below w.heap.size w wr) := B00.out.trans (BW.out.mono B00.out.size)
      have hww := BW.out.size
      have hwz := B00.out.size
      have t0 : wr.cell? ⟨tb, 0, none⟩ = some (.int .i64 ti) := (BW.out.cell (p := ⟨tb, 0, none⟩) (blt T6.out)).trans (Lib.cell_of_heap T6.out 0)
      have t1 : wr.cell? ⟨tb, 1, none⟩ = some (.int .i64 tj) := (BW.out.cell (p := ⟨tb, 1, none⟩) (blt T6.out)).trans (Lib.cell_of_heap T6.out 1)
      have t2 : wr.cell? ⟨tb, 2, none⟩ = some (.slice ta ts.length tc) := (BW.out.cell (p := ⟨tb, 2, none⟩) (blt T6.out)).trans (Lib.cell_of_heap T6.out 2)
      clear hA hD
      cases hb : harmB A with
      | false =>
        rw [hb] at HAN
        clear hb
        go_wp2_with fail
        go_ret
        exact ⟨_, rfl, (by rw [HAN.out]; simp only [Bool.false_eq_true, if_false, List.append_nil]; exact own_base OW.out hwz), BR.out⟩
      | true =>
        rw [hb] at HAN
        clear hb
        by_cases hd0 : D.length = 0
        · have hd : D = [] := List.length_eq_zero_iff.1 hd0
          subst hd
          go_wp2_with (first
            | (go_at_call 44; refine DI.out.mono ?_; rintro e w8 ⟨v2, rfl, o2, b2⟩; have O2 := hid o2; have N2 := hid b2; have OX : Hid (w8.ownsRow W0.heap.size 85 9 (.slice va A.length vc) A.length (ansC A)) := own_same OW.out (fun g hg => N2.out.block g (own_block OW.out hg).2.1); clear o2 b2)
            | (at_builtin; refine Lib.wpList_append_run_sl _ rfl _ _ 33 rfl (.slice va A.length vc) _ rfl rfl (append_zero _ _ 33 _ 85 i0 9 Try.underlying33 HI0.out _ _ _ _ _ OX.out O2.out) ?_))
          go_ret
          exact ⟨_, rfl, (by rw [HAN.out]; simp only [if_true, List.append_nil]; exact own_base OX.out hwz), BR.out.trans (N2.out.mono BR.out.size)⟩
        · go_wp2_with (first
            | (go_at_call 44; refine DI.out.mono ?_; rintro e w8 ⟨v2, rfl, o2, b2⟩; obtain ⟨g2, c2, hv2⟩ : ∃ g2 c2, v2 = .slice (some ⟨g2, 0, none⟩) D.length c2 := own_some o2 hd0; subst hv2; have O2 := hid o2; have N2 := hid b2; have OX : Hid (w8.ownsRow W0.heap.size 85 9 (.slice va A.length vc) A.length (ansC A)) := own_same OW.out (fun g hg => N2.out.block g (own_block OW.out hg).2.1); have hw2 : W0.heap.size ≤ w8.heap.size := (by have := N2.out.size; omega); clear o2 b2)
            | (at_builtin; refine wpList_append_lies _ rfl _ _ 33 rfl W0.heap.size 85 i0 _ 9 96 Try.underlying33 HI0.out HZ0.out HZ1.out HZ2.out rfl (by decide) (.slice va A.length vc) A.length (ansC A) rfl OX.out ⟨g2, 0, none⟩ D.length c2 (ansC D) rfl (ansC_len D) (ans_news O2.out) (ansC_one D) (by omega) (by unfold maxLen; omega) (by omega) hw2 w8.heap.size rfl ?_; intro g9 cap9 w9 hown9 hgrow9 hat9 hglt9; have O9 := hid hown9; have G9 := hid hgrow9; clear hown9 hgrow9 hat9 hglt9))
          go_ret
          refine ⟨_, rfl, ?_, ?_⟩
          · rw [HAN.out]
            simp only [if_true]
            rw [List.length_append, ansC_append]
            exact own_base O9.out hwz
          · have B2x := BR.out.trans (N2.out.mono BR.out.size)
            exact ⟨G9.out.os.trans B2x.os, G9.out.tape.trans B2x.tape, G9.out.output.trans B2x.output, Nat.le_trans B2x.size G9.out.size, fun b hb => (G9.out.block b (by have := B2x.size; omega) (fun e => by have := (own_block OX.out e.symm).1; omega)).trans (B2x.block b hb)⟩
end Go.Proofs.Ytnfbcmnlloipiaa
