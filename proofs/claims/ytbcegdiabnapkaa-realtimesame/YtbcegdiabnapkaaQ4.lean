/-
  The walk of 'starts'.
-/
import Derived.Test.YtbcegdiabnapkaaQ3
namespace Go.Proofs.Ytbcegdiabnapkaa
set_option linter.unusedVariables false
set_option linter.unusedSimpArgs false
open Go.RowKit Go.Lib

theorem Try.infoSt : (Try.prog.info? 50).map (fun i => (i.zero, i.size, i.bytes)) = some (some (.agg #[.int .i64 0, .int .i64 0]), 2, 16) := by kernel_rfl
theorem rowsS_snoc (ks : List Nat) (k : Nat) : (rowsS (ks ++ [k])).flatten = (rowsS ks).flatten ++ [Value.int .i64 (k : Int), Value.int .i64 0] := by simp [rowsS]

/-- In the order of beginnings one 'first' is written. -/
theorem OwnS.set {w w' : World} {g q i : Nat} {h : Nat → Int × Int} (H : OwnS w g q h) (hi : i < q) (x : Int) (hw : w'.heap = (w.setCell ⟨g, i * 2 + 1, none⟩ (.int .i64 x)).heap) : OwnS w' g q (fun j => if j = i then ((h i).1, x) else h j) := by
  refine ⟨fun o ho => by rw [frozen_of_heap hw, World.frozen?_setCell]; exact H.1 o ho, fun j hj => ?_⟩
  have other : ∀ o, o ≠ i * 2 + 1 → w'.cell? ⟨g, o, none⟩ = w.cell? ⟨g, o, none⟩ := fun o ho => (cell_of_heap hw _).trans (World.cell?_setCell_other w _ _ _ (fun e => ho (show i * 2 + 1 = o from congrArg Addr.off e).symm))
  obtain ⟨h1, h2⟩ := H.2 j hj
  by_cases e : j = i
  · subst e
    simp only [if_true]
    refine ⟨by rw [other _ (by omega)]; exact h1, ?_⟩
    rw [cell_of_heap hw]
    exact World.cell?_setCell_same _ _ _ h2
  · simp only [if_neg e]
    exact ⟨by rw [other _ (by omega)]; exact h1, by rw [other _ (by omega)]; exact h2⟩
theorem OwnS.later {w w' : World} {g q : Nat} {h : Nat → Int × Int} (H : OwnS w g q h) (hb : Below w.heap.size w w') (hg : g < w.heap.size) : OwnS w' g q h :=
  ⟨fun o ho => (hb.frozen (p := ⟨g, o, none⟩) hg).trans (H.1 o ho), fun i hi => ⟨(hb.cell (p := ⟨g, i * 2, none⟩) hg).trans (H.2 i hi).1, (hb.cell (p := ⟨g, i * 2 + 1, none⟩) hg).trans (H.2 i hi).2⟩⟩
theorem OwnS.congr {w : World} {g q : Nat} {h h' : Nat → Int × Int} (H : OwnS w g q h) (he : ∀ i, i < q → h' i = h i) : OwnS w g q h' := ⟨H.1, fun i hi => by rw [he i hi]; exact H.2 i hi⟩

set_option maxHeartbeats 4000000 in
set_option maxRecDepth 100000 in
theorem starts_is (ao : Option Addr) (c n : Nat) (f : Nat → LT) (w : World) (hn : n ≤ 40) (hl : Lt w ao n f) :
    Calls Try.prog 31 #[.slice ao n c] w fun e w' => StartsPost f n w e w' := by
  obtain ⟨i0, hi, hz0, hz1, hz2⟩ := info_parts Try.infoSt
  have L0 := hid hl
  clear hl
  go_enter Try.func31, Try.ntmps31
  go_wp2_with fail
  obtain ⟨wB, hwB⟩ : ∃ wB, w.alloc (.cells #[.slice ao n c] 22) = wB := ⟨_, rfl⟩
  have hB : Hid (Below w.heap.size w wB ∧ wB.heap.size = w.heap.size + 1 ∧ wB.cell? ⟨w.heap.size, 0, none⟩ = some (.slice ao n c)) := by
    show _ ∧ _ ∧ _
    rw [← hwB]
    exact ⟨(Below.refl _ w).alloc (Nat.le_refl _) _, by simp, by simp⟩
  rw [hwB]
  clear hwB
  have LB := hid (L0.out.later hB.out.1)
  obtain ⟨pb, hpb⟩ : ∃ pb, w.heap.size = pb := ⟨_, rfl⟩
  have HPB := hid hpb
  rw [hpb] at hB ⊢
  clear hpb
  go_loopg [3, 4, 5, 11] n (fun g v _ _ i wr => ∃ k : Nat, k ≤ n ∧ n - k ≤ g ∧ i = .int .i64 k ∧ Aside (Below wB.heap.size wB wr) ∧ Aside (wr.ownsRow wB.heap.size 50 2 v (okL f k).length (rowsS (okL f k)).flatten) ∧ (k = 0 → v = .slice none 0 0))
  case atStart => exact ⟨0, Nat.zero_le _, by omega, rfl, Below.refl _ _, World.ownsRow_nil _ _ _ _, fun _ => rfl⟩
  case round =>
    obtain ⟨k, hk, hg, rfl, BW, OW, K0⟩ := hrel
    by_cases hlt : k < n
    · have hlti : (k : Int) < (n : Int) := by omega
      clear K0
      obtain ⟨b, o, rfl, hbl, ⟨xa, xn, xc, hx⟩, d0, d1, d2, d3, d4⟩ := (LB.out.later BW.out).five k hlt
      have OS := hid (okL_succ f k)
      have hlen := okL_len f k
      generalize f k = X at *
      obtain ⟨xp, xs, xf, xt, xv⟩ := X
      simp only [LT.proc, LT.state, LT.since, LT.till, LT.ov] at d0 d1 d2 d3 d4 hx OS
      subst hx
      have BX := hid (BW.out.alloc BW.out.size (.cells #[.int .i64 xp, .int .i64 xs, .int .i64 xf, .int .i64 xt, .slice xa xn xc] 26))
      by_cases hs : xs = 1
      · subst hs
        have OS2 : Hid (okL f (k + 1) = okL f k ++ [k]) := by
          show okL f (k + 1) = _
          rw [OS.out, if_pos rfl]
        clear OS
        generalize okL f k = ks at *
        obtain ⟨m, hm⟩ : ∃ m, ks.length = m := ⟨_, rfl⟩
        rw [hm] at OW hlen
        have HM := hid hm
        clear hm
        go_wp2_with (at_builtin; refine wpList_append_lies _ rfl _ _ 47 rfl wB.heap.size 50 i0 _ 2 16 Try.underlying47 hi hz0 hz1 hz2 rfl (by decide) u3 m (rowsS ks).flatten rfl ?hown ⟨wr.heap.size + 1, 0, none⟩ 1 1 [.int .i64 k, .int .i64 0] rfl rfl ?hnews ?hone (by decide) ?h63 ?hby ?hbase (wr.heap.size + 2) ?hH ?_)
        case hown => exact owns_keep OW.out (fun g hg => (((Below.refl wr.heap.size wr).alloc (Nat.le_refl _) _).alloc (by simp) _).block g (OW.out.lt g hg).2)
        case hnews => exact World.news_of_block (by simpa using heap_alloc_new (wr.alloc (.cells #[.int .i64 xp, .int .i64 1, .int .i64 xf, .int .i64 xt, .slice xa xn xc] 26)) (.cells #[.int .i64 k, .int .i64 0] 50))
        case hone => intro u hu; simp at hu; rcases hu with rfl | rfl <;> rfl
        case h63 => unfold maxLen; omega
        case hby => omega
        case hbase => have := BW.out.size; simp; omega
        case hH => simp
        intro g cap w4 hown4 hgrow hat hglt
        have B4 : Hid (Below wB.heap.size wB w4) := (BX.out.alloc (by have := BW.out.size; simp; omega) _).grown hgrow (by have := BW.out.size; simp; omega) (fun x hx => (OW.out.lt x hx).1)
        have O4 : Hid (w4.ownsRow wB.heap.size 50 2 (.slice (some ⟨g, 0, none⟩) (m + 1) cap) (okL f (k + 1)).length (rowsS (okL f (k + 1))).flatten) := by
          show World.ownsRow _ _ _ _ _ _ _
          rw [OS2.out, rowsS_snoc, List.length_append, HM.out]
          exact hown4
        clear hown4 hgrow hat hglt d0 d1 d2 d3 d4 OW BX
        go_wp2_with fail
        go_roundg (n - (k + 1))
        case measure => omega
        case rel => exact ⟨k + 1, by omega, by omega, by go_num, B4.out, O4.out, fun h => by omega⟩
      · have hq : (xs == 1) = false := by simp [hs]
        have OS2 : Hid (okL f (k + 1) = okL f k) := by
          show okL f (k + 1) = _
          rw [OS.out, if_neg hs, List.append_nil]
        have O4 : Hid ((wr.alloc (.cells #[.int .i64 xp, .int .i64 xs, .int .i64 xf, .int .i64 xt, .slice xa xn xc] 26)).ownsRow wB.heap.size 50 2 u3 (okL f (k + 1)).length (rowsS (okL f (k + 1))).flatten) := by
          show World.ownsRow _ _ _ _ _ _ _
          rw [OS2.out]
          exact owns_keep OW.out (fun g hg => ((Below.refl wr.heap.size wr).alloc (Nat.le_refl _) _).block g (OW.out.lt g hg).2)
        clear OS OS2
        go_wp2_with fail
        go_roundg (n - (k + 1))
        case measure => omega
        case rel => exact ⟨k + 1, by omega, by omega, by go_num, BX.out, O4.out, fun h => by omega⟩
    · have hlti : ¬ (k : Int) < (n : Int) := by omega
      have hkn : k = n := by omega
      subst hkn
      have hlen := okL_len f k
      have OM : Hid (∀ j ∈ okL f k, j < k) := fun j hj => ((okL_mem f k j).1 hj).1
      obtain ⟨ks, hks⟩ : ∃ ks, okL f k = ks := ⟨_, rfl⟩
      rw [hks] at OW hlen OM
      have HKS := hid hks
      clear hks
      have K1 := hid K0
      clear K0
      rcases OW.out.2 with ⟨rfl, h0⟩ | ⟨g, cap, cur, rfl, hgb, -, hcap, -⟩
      · have PO : Hid (StartsPost f k w (.returned (.slice none 0 0)) wr) := by
          refine ⟨none, 0, 0, fun _ => 0, fun _ => 0, rfl, Nat.le_refl _, Nat.zero_le _, ⟨?_, fun i j h1 h2 => by omega, fun i h => by omega⟩, fun i h => by omega, ?_⟩
          · rw [HKS.out, List.length_eq_zero_iff.1 h0]
            exact List.Perm.refl _
          · rw [HPB.out]
            exact hB.out.1.trans (BW.out.mono (by have := hB.out.2.1; omega))
        have SN := hid (sort_none (.func (.func 39) #[] #[.pointer (some ⟨pb, 0, none⟩)]) wr)
        clear OW h0
        go_wp2_with fail
        go_at_call 38
        refine SN.out.mono ?_
        rintro e w5 ⟨rfl, rfl⟩
        go_wp2_with fail
        go_loopg [6, 7, 8] 1 (fun g s6 s7 s8 w6 => s7 = .int .i64 (-1) ∧ wr = w6)
        case atStart => exact ⟨rfl, rfl⟩
        case round =>
          obtain ⟨rfl, rfl⟩ := hrel
          go_wp2_with fail
          go_ret
          exact PO.out
      · obtain ⟨q, hq⟩ : ∃ q, ks.length = q := ⟨_, rfl⟩
        rw [hq] at OW hlen hcap ⊢
        have HQ := hid hq
        clear hq
        obtain ⟨N, rfl⟩ : ∃ N, k = N + 1 := by
          by_cases h0 : k = 0
          · have := K1.out h0; cases this
          · exact ⟨k - 1, by omega⟩
        clear K1
        have CC := sort_call N f wB wr pb c q cap g ao ks HQ.out OM.out BW.out (by have := hB.out.2.1; omega) hB.out.2.2 LB.out OW.out (by omega)
        clear OW BW
        go_wp2_with fail
        go_at_call 38
        refine CC.mono ?_
        rintro e wS ⟨rfl, t, hperm, hsort, hown, hgS, hbS⟩
        have TK : Hid (∀ i, i < q → t i < N + 1) := fun i hi => OM.out _ (hperm.subset (List.mem_map.2 ⟨i, List.mem_range.2 hi, rfl⟩))
        have HP := hid hperm
        have HS := hid hsort
        have OS := hid hown
        have BS := hid hbS
        have GS := hid hgS
        clear hperm hsort hown hbS hgS CC
        have hwq : wrap64 ((q : Int) - 1) = (q : Int) - 1 := by unfold wrap64; omega
        go_wp2_with fail
        go_loopg [6, 7, 8] q (fun gg s6 s7 _ wr => ∃ (m : Nat) (fx : Int) (fs : Nat → Int), m ≤ q ∧ m ≤ gg ∧ s7 = .int .i64 ((m : Int) - 1) ∧ s6 = .int .i64 fx ∧ Aside (Below wB.heap.size wB wr ∧ OwnS wr g q (fun i => ((t i : Int), if i < m then 0 else fs i)) ∧ g < wr.heap.size) ∧ Aside (Fst f q t m fx ∧ ∀ i, m ≤ i → i < q → Fst f q t i (fs i)))
        case atStart => exact ⟨q, -1, fun _ => 0, Nat.le_refl _, Nat.le_refl _, rfl, rfl, (⟨BS.out, OS.out.congr (fun i hi => by simp), GS.out⟩ : _ ∧ _ ∧ _), (⟨Fst.none _ _ _, fun i h1 h2 => by omega⟩ : _ ∧ _)⟩
        case round =>
          clear OS BS GS
          obtain ⟨m, fx, fs, hm, hgm, rfl, rfl, T, F⟩ := hrel
          by_cases hm0 : 0 < m
          · obtain ⟨i, rfl⟩ : ∃ i, m = i + 1 := ⟨m - 1, by omega⟩
            have hiq : i < q := by omega
            have hi1 : ((i + 1 : Nat) : Int) - 1 = (i : Int) := by omega
            rw [hi1]
            clear hi1
            have hiqi : (i : Int) < (q : Int) := by omega
            have hi0 : (0 : Int) ≤ (i : Int) := by omega
            obtain ⟨o1, o2⟩ := T.out.2.1.2 i hiq
            have zf := T.out.2.1.1 (i * 2 + 1) (by omega)
            have gl := T.out.2.2
            simp only [Nat.lt_succ_self, if_true] at o1 o2
            have pbl : pb < wr.heap.size := Nat.lt_of_lt_of_le (by have := hB.out.2.1; omega) T.out.1.size
            have pbc : wr.cell? ⟨pb, 0, none⟩ = some (.slice ao (N + 1) c) := (T.out.1.cell (p := ⟨pb, 0, none⟩) (show pb < wB.heap.size by have := hB.out.2.1; omega)).trans hB.out.2.2
            have htk := TK.out i hiq
            have htki : (t i : Int) < ((N + 1 : Nat) : Int) := by omega
            obtain ⟨b, o, rfl, hbl, ⟨xa, xn, xc, hx⟩, d0, d1, d2, d3, d4⟩ := (LB.out.later T.out.1).five (t i) htk
            obtain ⟨Y, hY⟩ : ∃ Y, f (t i) = Y := ⟨_, rfl⟩
            have HY := hid hY
            rw [hY] at hx d0 d1 d2 d3 d4
            clear hY
            obtain ⟨xp, xs, xf, xt, xv⟩ := Y
            simp only [LT.proc, LT.state, LT.since, LT.till, LT.ov] at d0 d1 d2 d3 d4 hx
            subst hx
            obtain ⟨T1, hT1⟩ : ∃ T1, t i = T1 := ⟨_, rfl⟩
            have HT := hid hT1
            rw [hT1] at o1 htk htki d0 d1 d2 d3 d4 HY
            clear hT1
            go_wp2_with fail
            go_region
            have X6 : Hid (Below wr.heap.size wr (wr.alloc (.cells #[.int .i64 xp, .int .i64 xs, .int .i64 xf, .int .i64 xt, .slice xa xn xc] 26)).drew) := ((Below.refl _ wr).alloc (Nat.le_refl _) _).drew
            have x3 : (wr.alloc (.cells #[.int .i64 xp, .int .i64 xs, .int .i64 xf, .int .i64 xt, .slice xa xn xc] 26)).drew.cell? ⟨wr.heap.size, 3, none⟩ = some (.int .i64 xt) := by simp
            clear d0 d1 d2 d4
            generalize (wr.alloc (.cells #[.int .i64 xp, .int .i64 xs, .int .i64 xf, .int .i64 xt, .slice xa xn xc] 26)).drew = w6 at *
            generalize hpx : wr.heap.size = px at *
            have HPX := hid hpx
            clear hpx
            have o1' : w6.cell? ⟨g, i * 2, none⟩ = some (.int .i64 T1) := (X6.out.cell (p := ⟨g, i * 2, none⟩) gl).trans o1
            have zf' : w6.frozen? ⟨g, i * 2 + 1, none⟩ = false := (X6.out.frozen (p := ⟨g, i * 2 + 1, none⟩) gl).trans zf
            have pbc' : w6.cell? ⟨pb, 0, none⟩ = some (.slice (some ⟨b, o, none⟩) (N + 1) c) := (X6.out.cell (p := ⟨pb, 0, none⟩) pbl).trans pbc
            have o2' : w6.cell? ⟨g, i * 2 + 1, none⟩ = some (.int .i64 0) := (X6.out.cell (p := ⟨g, i * 2 + 1, none⟩) gl).trans o2
            have BW6 : Hid (Below wB.heap.size wB w6) := T.out.1.trans (X6.out.mono (by rw [← HPX.out]; exact T.out.1.size))
            have OW6 : Hid (OwnS w6 g q (fun j => ((t j : Int), if j < i + 1 then 0 else fs j))) := T.out.2.1.later (by rw [HPX.out]; exact X6.out) (by rw [HPX.out]; exact gl)
            have gl6 : g < w6.heap.size := Nat.lt_of_lt_of_le gl (by have := X6.out.size; rw [HPX.out] at this; exact this)
            have LT6 := hid (LB.out.later BW6.out)
            clear o1 o2 zf pbc d3 gl pbl X6
            have STEP : Hid (∀ fx' : Int, Fst f q t i fx' → ∀ w7, w7.heap = (w6.setCell ⟨g, i * 2 + 1, none⟩ (.int .i64 fx')).heap → w7.os = w6.os → w7.tape = w6.tape → w7.output = w6.output → Aside (Below wB.heap.size wB w7 ∧ OwnS w7 g q (fun j => ((t j : Int), if j < i then 0 else (fun j => if j = i then fx' else fs j) j)) ∧ g < w7.heap.size) ∧ Aside (Fst f q t i fx' ∧ ∀ j, i ≤ j → j < q → Fst f q t j ((fun j => if j = i then fx' else fs j) j))) := fun fx' hF w7 hw e1 e2 e3 => by
              have hz : w7.heap.size = w6.heap.size := by rw [hw]; simp [World.setCell]
              have hb7 : Below wB.heap.size wB w7 := ⟨e1.trans BW6.out.os, e2.trans BW6.out.tape, e3.trans BW6.out.output, by rw [hz]; exact BW6.out.size, fun x hx => by rw [hw, Below.heap_setCell _ _ _ _ (show x ≠ g by omega)]; exact BW6.out.block x hx⟩
              have ho7 : OwnS w7 g q (fun j => ((t j : Int), if j < i then 0 else (fun j => if j = i then fx' else fs j) j)) := by
                refine (OW6.out.set hiq fx' hw).congr (fun j hj => ?_)
                by_cases h : j = i
                · subst h; simp
                · by_cases h' : j < i
                  · simp [h, h', show j < i + 1 by omega]
                  · simp [h, h', show ¬ j < i + 1 by omega]
              have hf7 : ∀ j, i ≤ j → j < q → Fst f q t j ((fun j => if j = i then fx' else fs j) j) := fun j h1 h2 => by
                by_cases h : j = i
                · subst h; simpa using hF
                · simp only [if_neg h]
                  exact F.out.2 j (by omega) h2
              exact ⟨(⟨hb7, ho7, by rw [hz]; exact gl6⟩ : _ ∧ _ ∧ _), (⟨hF, hf7⟩ : _ ∧ _)⟩
            have hwi : wrap64 ((i : Int) - 1) = (i : Int) - 1 := by unfold wrap64; omega
            by_cases hx0 : 0 ≤ xt
            · rcases F.out.1.cases with hfx | ⟨j, hj1, hj2, hfx⟩
              · subst hfx
                have FN : Hid (Fst f q t i (T1 : Int)) := by
                  have := F.out.1.new hiq (by rw [HT.out, HY.out]; exact hx0)
                  rw [HT.out] at this
                  exact this
                go_wp2_with fail
                go_quiet (fail)
                go_wp2_with fail
                go_roundg i
                case measure => omega
                case rel => exact ⟨i, (T1 : Int), _, by omega, Nat.le_refl _, by first | rfl | go_num, rfl, (STEP.out _ FN.out ((w6.drewN nq).setCell ⟨g, i * 2 + 1, none⟩ (.int .i64 (T1 : Int))) rfl rfl rfl rfl).1, (STEP.out _ FN.out ((w6.drewN nq).setCell ⟨g, i * 2 + 1, none⟩ (.int .i64 (T1 : Int))) rfl rfl rfl rfl).2⟩
              · obtain ⟨T2, hT2⟩ : ∃ T2, t j = T2 := ⟨_, rfl⟩
                have hj3 : T2 < N + 1 := by rw [← hT2]; exact TK.out j hj2
                rw [hT2] at hfx
                subst hfx
                have hj4 : (T2 : Int) < ((N + 1 : Nat) : Int) := by omega
                have hne : ((T2 : Int) == -1) = false := by rw [beq_eq_false_iff_ne]; omega
                have hne2 : ¬ (T2 : Int) = -1 := by omega
                obtain ⟨b', o', e', -, -, -, -, -, f3, -⟩ := LT6.out.five T2 hj3
                cases e'
                obtain ⟨yt, hyt⟩ : ∃ yt, (f T2).till = yt := ⟨_, rfl⟩
                rw [hyt] at f3
                have HYT := hid hyt
                clear hyt hT2 hj1
                by_cases hlt2 : xt < yt
                · have FN : Hid (Fst f q t i (T1 : Int)) := by
                    have := F.out.1.less hiq (by rw [HT.out, HY.out]; exact hx0) (by rw [HT.out, HY.out, HYT.out]; exact hlt2)
                    rw [HT.out] at this
                    exact this
                  go_wp2_with fail
                  go_quiet (fail)
                  go_wp2_with fail
                  go_roundg i
                  case measure => omega
                  case rel => exact ⟨i, (T1 : Int), _, by omega, Nat.le_refl _, by first | rfl | go_num, rfl, (STEP.out _ FN.out ((w6.drewN nq).setCell ⟨g, i * 2 + 1, none⟩ (.int .i64 (T1 : Int))) rfl rfl rfl rfl).1, (STEP.out _ FN.out ((w6.drewN nq).setCell ⟨g, i * 2 + 1, none⟩ (.int .i64 (T1 : Int))) rfl rfl rfl rfl).2⟩
                · have FN : Hid (Fst f q t i (T2 : Int)) := F.out.1.stay (by rw [HT.out, HY.out, HYT.out]; exact hlt2)
                  go_wp2_with fail
                  go_quiet (fail)
                  go_wp2_with fail
                  go_roundg i
                  case measure => omega
                  case rel => exact ⟨i, (T2 : Int), _, by omega, Nat.le_refl _, by first | rfl | go_num, rfl, (STEP.out _ FN.out ((w6.drewN nq).setCell ⟨g, i * 2 + 1, none⟩ (.int .i64 (T2 : Int))) rfl rfl rfl rfl).1, (STEP.out _ FN.out ((w6.drewN nq).setCell ⟨g, i * 2 + 1, none⟩ (.int .i64 (T2 : Int))) rfl rfl rfl rfl).2⟩
            · have hxd : decide (0 ≤ xt) = false := decide_eq_false hx0
              have FN : Hid (Fst f q t i fx) := F.out.1.keep (by rw [HT.out, HY.out]; show xt < 0; omega)
              go_wp2_with fail
              go_quiet (fail)
              go_wp2_with fail
              go_roundg i
              case measure => omega
              case rel => exact ⟨i, fx, _, by omega, Nat.le_refl _, by first | rfl | go_num, rfl, (STEP.out _ FN.out ((w6.drewN nq).setCell ⟨g, i * 2 + 1, none⟩ (.int .i64 fx)) rfl rfl rfl rfl).1, (STEP.out _ FN.out ((w6.drewN nq).setCell ⟨g, i * 2 + 1, none⟩ (.int .i64 fx)) rfl rfl rfl rfl).2⟩
          · have hm00 : m = 0 := by omega
            subst hm00
            have PO : Hid (StartsPost f (N + 1) w (.returned (.slice (some ⟨g, 0, none⟩) q cap)) wr) := by
              refine ⟨_, q, cap, t, fs, rfl, hcap, by omega, ⟨by rw [HKS.out]; exact HP.out, HS.out, fun i hi => F.out.2 i (Nat.zero_le _) hi⟩, fun i hi => ?_, ?_⟩
              · obtain ⟨h1, h2⟩ := T.out.2.1.2 i hi
                refine ⟨g, 0, rfl, T.out.2.2, ?_, ?_⟩
                · rw [Nat.zero_add]; exact h1
                · rw [Nat.zero_add]; exact h2
              · rw [HPB.out]
                exact hB.out.1.trans (T.out.1.mono (by have := hB.out.2.1; omega))
            have hm1 : ((0 : Nat) : Int) - 1 = -1 := by omega
            rw [hm1]
            clear hm1
            go_wp2_with fail
            go_ret
            exact PO.out
end Go.Proofs.Ytbcegdiabnapkaa
