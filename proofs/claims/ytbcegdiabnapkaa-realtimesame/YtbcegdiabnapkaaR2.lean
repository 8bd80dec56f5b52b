/-
  The law RealtimeChain.
-/
import Derived.Test.YtbcegdiabnapkaaR1
namespace Go.Proofs.Ytbcegdiabnapkaa
set_option linter.unusedVariables false
set_option linter.unusedSimpArgs false
open Go.RowKit Go.Lib

/-- Transactions one behind the other. -/
def chF (j : Nat) : LT := (0, 1, 2 * (j : Int), 2 * (j : Int) + 1, .slice none 0 0)
theorem ch_bef (i x : Nat) : bef (chF i) (chF x) = decide (i < x) := by
  rw [Bool.eq_iff_iff, bef_iff, decide_eq_true_eq]
  show (1 : Int) = 1 ∧ (1 : Int) = 1 ∧ 0 ≤ 2 * (i : Int) + 1 ∧ 2 * (i : Int) + 1 < 2 * (x : Int) ↔ _
  omega
theorem ch_full (m i : Nat) (hi : i < m) : (fullRow chF m i).length = m - 1 - i := by
  unfold fullRow
  have : (List.range m).filter (fun x => bef (chF i) (chF x)) = (List.range (m - 1 - i)).map (fun j => (i + 1) + j) := range_from m (i + 1) (m - 1 - i) _ (by omega) (fun j hj => by rw [ch_bef, decide_eq_true_eq]; omega)
  rw [this]
  simp
theorem ch_sparse (m i : Nat) (hi : i < m) : sparseRow chF m i = if i + 1 < m then [i + 1] else [] := by
  unfold sparseRow
  have hb : ∀ x, x < m → (btw chF m i x = true ↔ i + 1 < x) := fun x hx => by
    rw [btw_iff]
    simp only [ch_bef, decide_eq_true_eq]
    constructor
    · rintro ⟨c, h1, h2, h3⟩; omega
    · intro h; exact ⟨i + 1, by omega, by omega, h⟩
  by_cases h : i + 1 < m
  · rw [if_pos h]
    have : (List.range m).filter (fun x => bef (chF i) (chF x) && !btw chF m i x) = (List.range 1).map (fun j => (i + 1) + j) := range_from m (i + 1) 1 _ (by omega) (fun j hj => by
      rw [Bool.and_eq_true, ch_bef, decide_eq_true_eq]
      cases hb2 : btw chF m i j with
      | false =>
        have := hb j hj
        rw [hb2] at this
        simp at this
        simp
        omega
      | true =>
        have := (hb j hj).1 hb2
        simp
        omega)
    rw [this]
    simp
  · rw [if_neg h]
    rw [List.filter_eq_nil_iff]
    intro x hx
    have := List.mem_range.1 hx
    simp only [Bool.and_eq_true, ch_bef, decide_eq_true_eq]
    omega
theorem ch_allsparse (m : Nat) : ∀ k, k ≤ m → allL (sparseRow chF m) k = (List.range (min k (m - 1))).map (fun i : Nat => ((i : Int), (i : Int) + 1))
  | 0, _ => by simp [allL]
  | k + 1, h => by
    rw [allL_succ, ch_allsparse m k (by omega), ch_sparse m k (by omega)]
    by_cases h2 : k + 1 < m
    · rw [if_pos h2, show min (k + 1) (m - 1) = k + 1 by omega, show min k (m - 1) = k by omega, List.range_succ, List.map_append]
      simp
    · rw [if_neg h2, show min (k + 1) (m - 1) = m - 1 by omega, show min k (m - 1) = m - 1 by omega]
      simp
theorem ch_allfull (m : Nat) : ∀ k, k ≤ m → 2 * (allL (fullRow chF m) k).length + k * k + k = 2 * m * k
  | 0, _ => by simp [allL]
  | k + 1, h => by
    rw [allL_succ, List.length_append, List.length_map, ch_full m k (by omega)]
    have ih := ch_allfull m k (by omega)
    have e1 : (k + 1) * (k + 1) = k * k + 2 * k + 1 := by rw [Nat.add_mul, Nat.mul_add]; omega
    have e2 : 2 * m * (k + 1) = 2 * m * k + 2 * m := by rw [Nat.mul_add]; omega
    omega
theorem rowsT_snoc (f : Nat → LT) (k : Nat) : (rowsT f (k + 1)).flatten = (rowsT f k).flatten ++ encT (f k) := by simp [rowsT, List.range_succ]
theorem owns_lt {w : World} {B n : Nat} {v : Value} {f : Nat → LT} (h : w.ownsRow B 26 5 v n (rowsT f n).flatten) (hov : ∀ j, IsSl (f j).ov) : ∃ ao c, v = .slice ao n c ∧ n ≤ c ∧ Lt w ao n f := by
  rcases h.2 with ⟨hv, hn⟩ | ⟨g, cap, cur, hv, hg, hh, hcap, hm, hsz, ht⟩
  · exact ⟨none, 0, by rw [hv, hn], by omega, fun j hj => by omega⟩
  · refine ⟨some ⟨g, 0, none⟩, cap, hv, hcap, fun j hj => ⟨g, 0, rfl, (h.lt g (by rw [hv]; rfl)).2, hov j, fun i u hi => ?_⟩⟩
    have hi5 : i < 5 := by have := (List.getElem?_eq_some_iff.1 hi).1; rwa [encT_len] at this
    have := h.cells (g := g) (by rw [hv]; rfl) (j * 5 + i) u (by rw [rowsT_at f n j i hj hi5]; exact hi)
    rw [Addr.add_lit] at this
    simpa using this
theorem owns_ls {w : World} {B : Nat} {v : Value} {l : List (Int × Int)} (h : w.ownsRow B 30 2 v l.length (rowsP l).flatten) : ∃ ao c, v = .slice ao l.length c ∧ l.length ≤ c ∧ Ls w ao l.length (fun j => l.getD j default) := by
  rcases h.2 with ⟨hv, hn⟩ | ⟨g, cap, cur, hv, hg, hh, hcap, hm, hsz, ht⟩
  · exact ⟨none, 0, by rw [hv, hn], by omega, fun j hj => by omega⟩
  · refine ⟨some ⟨g, 0, none⟩, cap, hv, hcap, fun j hj => ⟨g, 0, rfl, (h.lt g (by rw [hv]; rfl)).2, ?_, ?_⟩⟩
    · have := h.cells (g := g) (by rw [hv]; rfl) (j * 2) (.int .i64 (l.getD j default).1) (by rw [rowsP_at l _ (by omega), show j * 2 / 2 = j by omega, show j * 2 % 2 = 0 by omega]; rfl)
      rw [Addr.add_lit] at this
      exact this
    · have := h.cells (g := g) (by rw [hv]; rfl) (j * 2 + 1) (.int .i64 (l.getD j default).2) (by rw [rowsP_at l _ (by omega), show (j * 2 + 1) / 2 = j by omega, show (j * 2 + 1) % 2 = 1 by omega]; rfl)
      rw [Addr.add_lit] at this
      simpa [Nat.add_assoc] using this

theorem eq30 (a b : Int) (w : World) : (Op.equalIn 10000 30 (.agg #[.int .i64 a, .int .i64 b]) (.agg #[.int .i64 a, .int .i64 b])).run Try.prog w = .ok true w := by
  have u3 := Try.underlying3
  have a3 := Try.isAgg3
  have z3 := Try.sizeOf3
  rw [show (10000 : Nat) = 9999 + 1 from rfl, Op.equalIn]
  simp only [Sem.run_bind, run_underlying Try.underlying30, Result.andThen_ok]
  simp only [Std.Legacy.Range.forIn_eq_forIn_range', Std.Legacy.Range.size, Nat.sub_zero, Nat.add_sub_cancel, Nat.div_one, List.range'_succ, List.range'_zero, List.forIn_cons, List.forIn_nil]
  go_simp

set_option maxHeartbeats 4000000 in
set_option maxRecDepth 100000 in
theorem chain_walk (n : Int) (w : World) : Calls Try.prog 7 #[.int .i64 n] w fun e w' => e = .returned (.bool true) ∧ Below w.heap.size w w' := by
  obtain ⟨i0, hi0, hz0, hz1, hz2⟩ := info_parts Try.infoTxn
  obtain ⟨m, hm40, hm⟩ := u64_tmod n 40 (by decide) (by decide)
  have hm' : wrap64 ((IntKind.u64.wrap n).tmod 40) = (m : Int) := hm
  clear hm
  go_enter Try.func7, Try.ntmps7
  go_wp2_with fail
  simp only [hm']
  clear hm'
  go_loopg [3, 4, 14] m (fun gg v _ i wr => ∃ k : Nat, k ≤ m ∧ m - k ≤ gg ∧ i = .int .i64 k ∧ Aside (Below w.heap.size w wr) ∧ Aside (wr.ownsRow w.heap.size 26 5 v k (rowsT chF k).flatten))
  case atStart => exact ⟨0, Nat.zero_le _, by omega, rfl, Below.refl _ _, World.ownsRow_nil _ _ _ _⟩
  case round =>
    obtain ⟨k, hk, hg, rfl, BW, OW⟩ := hrel
    by_cases hlt : k < m
    · have hlti : (k : Int) < (m : Int) := by omega
      go_wp2_with (at_builtin; refine wpList_append_lies _ rfl _ _ 22 rfl w.heap.size 26 i0 _ 5 56 Try.underlying22 hi0 hz0 hz1 hz2 rfl (by decide) u3 k (rowsT chF k).flatten rfl ?hown ⟨wr.heap.size, 0, none⟩ 1 1 [.int .i64 0, .int .i64 1, .int .i64 (2 * (k : Int)), .int .i64 (2 * (k : Int) + 1), .slice none 0 0] rfl rfl ?hnews ?hone (by decide) ?h63 ?hby ?hbase (wr.heap.size + 1) ?hH ?_)
      case hown => exact owns_keep OW.out (fun g hg => ((Below.refl wr.heap.size wr).alloc (Nat.le_refl _) _).block g (OW.out.lt g hg).2)
      case hnews => exact World.news_of_block (heap_alloc_new wr _)
      case hone => intro u hu; simp at hu; rcases hu with rfl | rfl | rfl | rfl | rfl <;> rfl
      case h63 => unfold maxLen; omega
      case hby => omega
      case hbase => have := BW.out.size; simp; omega
      case hH => simp
      intro g cap w4 hown4 hgrow hat hglt
      have B4 : Hid (Below w.heap.size w w4) := (BW.out.alloc BW.out.size _).grown hgrow (by have := BW.out.size; simp; omega) (fun x hx => (OW.out.lt x hx).1)
      have O4 : Hid (w4.ownsRow w.heap.size 26 5 (.slice (some ⟨g, 0, none⟩) (k + 1) cap) (k + 1) (rowsT chF (k + 1)).flatten) := by
        show World.ownsRow _ _ _ _ _ _ _
        rw [rowsT_snoc]
        exact hown4
      clear hown4 hgrow hat hglt OW BW
      go_wp2_with fail
      go_roundg (m - (k + 1))
      case measure => omega
      case rel => exact ⟨k + 1, by omega, by omega, by go_num, B4.out, O4.out⟩
    · have hlti : ¬ (k : Int) < (m : Int) := by omega
      have hkm : k = m := by omega
      subst hkm
      obtain ⟨ao, c, rfl, hkc, hL⟩ := owns_lt OW.out (fun j => ⟨_, _, _, rfl⟩)
      have L1 := hid hL
      clear hL OW
      go_wp2_with fail
      go_at_call 13
      refine (full_is ao c k chF wr (by omega) L1.out).mono ?_
      rintro e w5 ⟨v5, rfl, hO5, hb5⟩
      have HF := hid (ch_allfull k k (Nat.le_refl _))
      obtain ⟨a5, c5, rfl, hc5, -⟩ := owns_ls hO5
      obtain ⟨F, hF⟩ : ∃ F, (allL (fullRow chF k) k).length = F := ⟨_, rfl⟩
      rw [hF] at HF ⊢
      have L5 := hid (L1.out.later hb5)
      have B5 := hid (BW.out.trans (hb5.mono BW.out.size))
      clear hO5 hb5 hF hc5 L1 BW
      go_wp2_with fail
      go_at_call 15
      refine (sparse_is ao c k chF w5 (by omega) L5.out).mono ?_
      rintro e w6 ⟨v6, rfl, hO6, hb6⟩
      rw [ch_allsparse k k (Nat.le_refl _)] at hO6
      obtain ⟨a6, c6, rfl, hc6, hLs⟩ := owns_ls hO6
      have LS := hid hLs
      have B6 := hid (B5.out.trans (hb6.mono B5.out.size))
      have hlen : ((List.range (min k (k - 1))).map (fun i : Nat => ((i : Int), (i : Int) + 1))).length = k - 1 := by rw [List.length_map, List.length_range]; omega
      rw [hlen] at LS ⊢
      clear hO6 hb6 hLs hc6 L5 B5 hlen
      obtain ⟨K, hK⟩ : ∃ K, K = k - 1 := ⟨_, rfl⟩
      rw [← hK] at LS ⊢
      have hK40 : K ≤ 40 := by omega
      have HK := hid hK
      clear hK
      go_wp2_with fail
      go_loopg [7, 8, 33] K (fun gg _ _ i wr => ∃ j : Nat, j ≤ K ∧ K - j ≤ gg ∧ i = .int .i64 j ∧ Aside (Below w6.heap.size w6 wr))
      case atStart => exact ⟨0, Nat.zero_le _, by omega, rfl, Below.refl _ _⟩
      case round =>
        obtain ⟨j, hj, hgj, rfl, BW⟩ := hrel
        by_cases hjk : j < K
        · have hjki : (j : Int) < (K : Int) := by omega
          obtain ⟨b, o, rfl, hbl, s1, s2⟩ := (LS.out.later BW.out) j hjk
          have eg : ((List.range (min k K)).map (fun i : Nat => ((i : Int), (i : Int) + 1))).getD j default = ((j : Int), (j : Int) + 1) := by
            have hjm : j < min k K := by have := HK.out; omega
            simp only [List.getD, List.getElem?_map, List.getElem?_range hjm]
            rfl
          dsimp only at s1 s2
          rw [eg] at s1 s2
          clear eg
          dsimp only at s1 s2
          have hq1 : ((j : Int) == (j : Int)) = true := by simp
          have hq2 : (((j : Int) + 1) == ((j : Int) + 1)) = true := by simp
          have BX := hid (BW.out.alloc BW.out.size (.cells #[.int .i64 j, .int .i64 ((j : Int) + 1)] 30))
          have EE : ∀ W, (Op.equalIn 10000 30 (.agg #[.int .i64 (j : Int), .int .i64 ((j : Int) + 1)]) (.agg #[.int .i64 (j : Int), .int .i64 ((j : Int) + 1)])).run Try.prog W = .ok true W := fun W => eq30 _ _ W
          go_wp2_with fail
          go_roundg (K - (j + 1))
          case measure => omega
          case rel => exact ⟨j + 1, by omega, by omega, by go_num, BX.out⟩
        · have hjki : ¬ (j : Int) < (K : Int) := by omega
          have BE := hid (B6.out.trans (BW.out.mono B6.out.size))
          have hmx : max (0 : Int) ((k : Int) - 1) = (K : Int) := by have := HK.out; omega
          have hw1 : wrap64 ((k : Int) - 1) = (k : Int) - 1 := by unfold wrap64; omega
          have hkk : Hid (((k : Int) * ((k : Int) - 1)).tdiv 2 = (F : Int)) := by
            have h1 := HF.out
            show _ = _
            have h2 : (k : Int) * ((k : Int) - 1) = 2 * (F : Int) := by
              have h3 : ((2 * F + k * k + k : Nat) : Int) = ((2 * k * k : Nat) : Int) := by rw [h1]
              push_cast at h3
              have e1 : (k : Int) * ((k : Int) - 1) = (k : Int) * (k : Int) - (k : Int) := by rw [Int.mul_sub, Int.mul_one]
              have e2 : (2 : Int) * (k : Int) * (k : Int) = 2 * ((k : Int) * (k : Int)) := by rw [Int.mul_assoc]
              rw [e2] at h3
              rw [e1]
              omega
            rw [h2, Int.mul_comm]
            exact Int.mul_tdiv_cancel _ (by decide)
          have hk2 : wrap64 ((k : Int) * ((k : Int) - 1)) = (k : Int) * ((k : Int) - 1) := by
            have h1 : 0 ≤ (k : Int) * ((k : Int) - 1) ∨ k = 0 := by
              by_cases h0 : k = 0
              · exact .inr h0
              · exact .inl (Int.mul_nonneg (by omega) (by omega))
            have h2 : (k : Int) * ((k : Int) - 1) ≤ 40 * 40 := by
              by_cases h0 : k = 0
              · subst h0; simp
              · exact Int.mul_le_mul (by omega) (by omega) (by omega) (by omega)
            rcases h1 with h1 | h1
            · unfold wrap64; omega
            · subst h1; unfold wrap64; omega
          have hkf : wrap64 ((wrap64 ((k : Int) * ((k : Int) - 1))).tdiv 2) = (F : Int) := by
            rw [hk2, hkk.out]
            have h1 := HF.out
            have h3 : F ≤ 1600 := by
              have : 2 * k * k ≤ 2 * 40 * 40 := Nat.mul_le_mul (by omega) (by omega)
              omega
            unfold wrap64
            omega
          have hKK : ((K : Int) == (K : Int)) = true := by simp
          have hFF : ((F : Int) == (F : Int)) = true := by simp
          clear BW hk2
          go_wp2_with fail
          go_ret
          exact ⟨by first | rfl | simp [hkf], BE.out⟩
end Go.Proofs.Ytbcegdiabnapkaa
