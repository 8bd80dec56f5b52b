/-
  disorder: the values of the trace that stand behind one that their transaction appended later.
-/
import Derived.Test.YtnfbcmnlloipiaaLg8
namespace Go.Proofs.Ytnfbcmnlloipiaa
set_option linter.unusedVariables false
set_option linter.unusedSimpArgs false
open Go.RowKit Go.Lib Go.Maps

/-- The latest operation of a transaction whose value stands among the first k. -/
def latK (f : Int → Option MSrc) (xs : List Int) : Nat → Nat → Nat
  | 0, _ => 0
  | k + 1, i => if i = ((f (xs.getD k default)).getD noSrc).1 then max (latK f xs k i) ((f (xs.getD k default)).getD noSrc).2.1 else latK f xs k i
/-- What disorder tells of the first k. -/
def disK (f : Int → Option MSrc) (s : ByteArray) (xs : List Int) : Nat → List MAn
  | 0 => []
  | k + 1 => if ((f (xs.getD k default)).getD noSrc).2.1 < latK f xs k ((f (xs.getD k default)).getD noSrc).1 then disK f s xs k ++ [((7 : Int), (((f (xs.getD k default)).getD noSrc).1 : Int), (0 : Int), (0 : Int), s, xs.getD k default)] else disK f s xs k
theorem disK_len (f : Int → Option MSrc) (s : ByteArray) (xs : List Int) : ∀ k, (disK f s xs k).length ≤ k
  | 0 => by simp [disK]
  | k + 1 => by
    have := disK_len f s xs k
    unfold disK
    split
    · simp; omega
    · omega
theorem Try.infoAn : (Try.prog.info? 85).map (fun i => (i.zero, i.size, i.bytes)) = some (some (.agg #[.int .i64 0, .int .i64 0, .int .i64 0, .int .i64 0, .string ⟨#[]⟩, .int .i64 0, .slice none 0 0, .bool false, .int .i64 0]), 9, 96) := by kernel_rfl
set_option maxHeartbeats 4000000 in
set_option maxRecDepth 100000 in
theorem disorder_is (kb sb n : Nat) (f : Int → Option MSrc) (s : ByteArray) {S : Nat → Prop} (la : Option Addr) (lc : Nat) (xs : List Int) (w : World) (h : IntsIn S w (.slice la xs.length lc) xs) (hw : ∀ x ∈ xs, (Lit.int .i64 x).wf = true) (hl : xs.length ≤ 100000) (h0 : w.cell? ⟨kb, 0, none⟩ = some (.string s)) (h4 : w.cell? ⟨kb, 4, none⟩ = some (.slice la xs.length lc)) (h5 : w.cell? ⟨kb, 5, none⟩ = some (.map (some sb))) (hs : Sc w sb n f) (hfb : ∀ x, ((f x).getD noSrc).1 < 1000000 ∧ ((f x).getD noSrc).2.1 < 1000000) : Calls Try.prog 75 #[.pointer (some ⟨kb, 0, none⟩)] w fun e w' => ∃ v, e = .returned v ∧ w'.ownsRow (w.heap.size + 1) 85 9 v (disK f s xs xs.length).length (ansC (disK f s xs xs.length)) ∧ Below w.heap.size w w' := by
  obtain ⟨i0, hi0, hz0, hz1, hz2⟩ := Tx.info_parts Try.infoAn
  have HI0 := hid hi0
  have HZ0 := hid hz0
  have HZ1 := hid hz1
  have HZ2 := hid hz2
  clear hi0 hz0 hz1 hz2
  obtain ⟨ao, c, hv, ⟨hbytes, _⟩, hcells⟩ := id h
  cases hv
  have HW := hid hw
  have HC := hid hcells
  have HS := hid hs
  have HB := hid hfb
  have HH0 := hid h0
  have HH5 := hid h5
  have hli : (xs.length : Int) ≤ 100000 := by omega
  have hmm := @run_makeMap Try.prog
  have h4a : (w.alloc (.map #[] 0)).cell? ⟨kb, 4, none⟩ = some (.slice la xs.length lc) := Lib.cell?_alloc_some _ h4
  have C0 : Hid (Ct (w.alloc (.map #[] 0)) w.heap.size 0 (fun _ => none)) := Ct.made w
  have BB : Hid (Below w.heap.size w (w.alloc (.map #[] 0))) := below_box w _
  have hkb : kb < w.heap.size := World.block_lt_of_cell? _ _ h0
  clear h hw hcells hs hfb h0 h5
  go_enter Try.func75, Try.ntmps75
  go_wp2_with fail
  clear hmm
  go_loopg [3, 6, 7, 15] xs.length (fun g v _ _ i wr => ∃ k : Nat, k ≤ xs.length ∧ xs.length - k ≤ g ∧ i = .int .i64 k ∧ Aside (Below w.heap.size w wr) ∧ Aside (∃ F, Ct wr w.heap.size k F ∧ ∀ i : Nat, (F i).getD 0 = (latK f xs k i : Int)) ∧ Aside (wr.ownsRow (w.heap.size + 1) 85 9 v (disK f s xs k).length (ansC (disK f s xs k))))
  case atStart => exact ⟨0, by omega, by omega, rfl, BB.out, ⟨_, C0.out, fun i => by simp [latK]⟩, (show Aside _ from World.ownsRow_nil _ _ _ _)⟩
  case round =>
    obtain ⟨k, hk, hg, rfl, BR, CT, OW⟩ := hrel
    by_cases hlt : k < xs.length
    · have hlti : (k : Int) < xs.length := by omega
      obtain ⟨b, off, rfl, _, hc⟩ := HC.out (by omega)
      have v0 := hc k hlt
      have v1 := (BR.out.cell (p := ⟨b, off + k, none⟩) (World.block_lt_of_cell? _ _ v0)).trans v0
      have hx : (Lit.int .i64 (xs.getD k default)).wf = true := HW.out _ (by simp [List.getD, List.getElem?_eq_getElem hlt])
      obtain ⟨F, hF, _⟩ := id HS.out
      have LK := (HS.out.same (BR.out.block sb hF.lt)).look _ hx
      have c5 := (BR.out.cell (p := ⟨kb, 5, none⟩) (World.block_lt_of_cell? _ _ HH5.out)).trans HH5.out
      clear hF v0 hc
      obtain ⟨X, hX⟩ : ∃ X, xs.getD k default = X := ⟨_, rfl⟩
      rw [hX] at LK v1 hx
      have HX := hid hX
      have hfb := HB.out X
      obtain ⟨Y, hY⟩ : ∃ Y, (f X).getD noSrc = Y := ⟨_, rfl⟩
      rw [hY] at LK hfb
      have HY := hid hY
      obtain ⟨Fc, ct, hFc⟩ := CT.out
      have hms := ct.lt
      obtain ⟨s1, s2, s3, s4⟩ := Y
      simp only [srcV] at LK
      simp only at hfb
      have HLAT : Hid (∀ i : Nat, latK f xs (k + 1) i = if i = s1 then max (latK f xs k i) s2 else latK f xs k i) := fun i => by show (if i = _ then max _ _ else _) = _; rw [hX, hY]
      have HDIS : Hid (disK f s xs (k + 1) = if s2 < latK f xs k s1 then disK f s xs k ++ [((7 : Int), (s1 : Int), (0 : Int), (0 : Int), s, X)] else disK f s xs k) := by show (if _ then _ else _) = _; rw [hX, hY]
      have hdl := disK_len f s xs k
      obtain ⟨L, hL⟩ : ∃ L, latK f xs k s1 = L := ⟨_, rfl⟩
      rw [hL] at HDIS
      have HL := hid hL
      obtain ⟨D, hD⟩ : ∃ D, disK f s xs k = D := ⟨_, rfl⟩
      rw [hD] at HDIS OW hdl
      clear hX hY hD CT
      obtain ⟨V1, hV1⟩ : ∃ V1, wr.alloc (.cells #[.int .i64 s1, .int .i64 s2, .bool s3, .bool s4] 123) = V1 := ⟨_, rfl⟩
      have hs1 : V1.heap.size = wr.heap.size + 1 := by rw [← hV1, alloc_size]
      have bx : ∀ b, b < wr.heap.size → V1.heap[b]? = wr.heap[b]? := fun b hb => by rw [← hV1, alloc_at, if_neg (by omega)]
      have BV : Hid (Below w.heap.size w V1) := by rw [← hV1]; exact BR.out.alloc BR.out.size _
      have q0 : V1.cell? ⟨wr.heap.size, 0, none⟩ = some (.int .i64 s1) := by rw [← hV1]; exact new_cells wr _ 123 0
      have q1 : V1.cell? ⟨wr.heap.size, 1, none⟩ = some (.int .i64 s2) := by rw [← hV1]; exact new_cells wr _ 123 1
      have wf1 : (Lit.int .i64 (s1 : Int)).wf = true := by simp [Lit.wf, IntKind.min, IntKind.max, IntKind.signed, IntKind.bits]; omega
      have ct1 := ct.same (bx _ hms)
      have OV : Hid (V1.ownsRow (w.heap.size + 1) 85 9 u3 D.length (ansC D)) := own_same OW.out (fun g hg => bx g (own_block OW.out hg).2.1)
      have HFc := hid hFc
      have CT1 := hid ct1
      have hmi : w.heap.size < V1.heap.size := by omega
      clear ct hFc bx ct1 hL
      have LK2 := CT1.out.look s1 wf1
      rw [HFc.out s1, HL.out] at LK2
      by_cases hgt : s2 < L
      · have hgti : (s2 : Int) < (L : Int) := by omega
        go_wp2_with fail
        try rw [hV1]
        clear hV1 LK v1
        have hmx : max (L : Int) (s2 : Int) = L := by omega
        have c0 := (BV.out.cell (p := ⟨kb, 0, none⟩) (by show kb < w.heap.size; omega)).trans HH0.out
        obtain ⟨ra, rc, hrv⟩ := own_slice OV.out
        subst hrv
        have NEW : Hid (∀ j u, ([.int .i64 (7 : Int), .int .i64 (s1 : Int), .int .i64 (0 : Int), .int .i64 (0 : Int), .string s, .int .i64 X, .slice none 0 0, .bool false, .int .i64 (0 : Int)] : List Value)[j]? = some u → ((V1.alloc (.cells #[.int .i64 7, .int .i64 s1, .int .i64 0, .int .i64 0, .string s, .int .i64 X, .slice none 0 0, .bool false, .int .i64 0] 85)).drew).cell? ((⟨wr.heap.size + 1, 0, none⟩ : Addr).add j) = some u) := by
          have h := World.news_of_block (w := (V1.alloc (.cells #[.int .i64 7, .int .i64 s1, .int .i64 0, .int .i64 0, .string s, .int .i64 X, .slice none 0 0, .bool false, .int .i64 0] 85)).drew) (B := V1.heap.size) (cs := #[.int .i64 7, .int .i64 s1, .int .i64 0, .int .i64 0, .string s, .int .i64 X, .slice none 0 0, .bool false, .int .i64 0]) (t := 85) (fr := (0, 0)) (heap_alloc_new V1 _)
          rw [hs1] at h
          exact h
        have ONE : Hid (∀ u ∈ ([.int .i64 (7 : Int), .int .i64 (s1 : Int), .int .i64 (0 : Int), .int .i64 (0 : Int), .string s, .int .i64 X, .slice none 0 0, .bool false, .int .i64 (0 : Int)] : List Value), u.oneCell' = true) := by
          intro u hu
          simp only [List.mem_cons, List.not_mem_nil, or_false] at hu
          rcases hu with rfl | rfl | rfl | rfl | rfl | rfl | rfl | rfl | rfl <;> rfl
        have SZ : Hid (((V1.alloc (.cells #[.int .i64 7, .int .i64 s1, .int .i64 0, .int .i64 0, .string s, .int .i64 X, .slice none 0 0, .bool false, .int .i64 0] 85)).drew).heap.size = wr.heap.size + 2) := by show (V1.alloc _).heap.size = _; rw [alloc_size, hs1]
        have BX : Hid (∀ b, b ≤ wr.heap.size → ((V1.alloc (.cells #[.int .i64 7, .int .i64 s1, .int .i64 0, .int .i64 0, .string s, .int .i64 X, .slice none 0 0, .bool false, .int .i64 0] 85)).drew).heap[b]? = V1.heap[b]?) := fun b hb => by show (V1.alloc _).heap[b]? = _; rw [alloc_at, if_neg (by omega)]
        have OX : Hid (((V1.alloc (.cells #[.int .i64 7, .int .i64 s1, .int .i64 0, .int .i64 0, .string s, .int .i64 X, .slice none 0 0, .bool false, .int .i64 0] 85)).drew).ownsRow (w.heap.size + 1) 85 9 (.slice ra D.length rc) D.length (ansC D)) := own_same OV.out (fun g hg => BX.out g (by have := (own_block OV.out hg).2.1; omega))
        have NE0 : Hid (∀ g, (Value.slice ra D.length rc).ownBlock = some g → g ≠ wr.heap.size) := fun g hg => by have := (own_block OW.out hg).2.1; omega
        go_region_law (first
          | (refine step_append_lies _ rfl (.tmp 32) (.tmp 41) 33 rfl (w.heap.size + 1) 85 i0 _ 9 96 Try.underlying33 HI0.out HZ0.out HZ1.out HZ2.out rfl (by decide) (.slice ra D.length rc) D.length (ansC D) (by simp [Act.eval, Act.put]) OX.out ⟨wr.heap.size + 1, 0, none⟩ 1 1 [.int .i64 (7 : Int), .int .i64 (s1 : Int), .int .i64 (0 : Int), .int .i64 (0 : Int), .string s, .int .i64 X, .slice none 0 0, .bool false, .int .i64 (0 : Int)] (by simp [Act.eval, Act.put]) rfl NEW.out ONE.out (by decide) (by unfold maxLen; omega) (by omega) (by rw [SZ.out]; omega) (wr.heap.size + 2) SZ.out ?_; intro g8 cap8 w8 hown8 hgrow8 hat8 hglt8; have O8 := hid hown8; have G8 := hid hgrow8; clear hown8 hgrow8 hat8 hglt8))
        all_goals
          have blk : ∀ b, b ≤ wr.heap.size → (∀ g, (Value.slice ra D.length rc).ownBlock = some g → g ≠ b) → w8.heap[b]? = V1.heap[b]? := fun b hb hn => (G8.out.block b (by rw [SZ.out]; omega) (fun e => hn b e.symm rfl)).trans (BX.out b hb)
          have r0 : w8.cell? ⟨wr.heap.size, 0, none⟩ = some (.int .i64 s1) := (World.cell?_of_block (a := ⟨wr.heap.size, 0, none⟩) (blk wr.heap.size (Nat.le_refl _) NE0.out)).trans q0
          have r1 : w8.cell? ⟨wr.heap.size, 1, none⟩ = some (.int .i64 s2) := (World.cell?_of_block (a := ⟨wr.heap.size, 1, none⟩) (blk wr.heap.size (Nat.le_refl _) NE0.out)).trans q1
          have ct8 := CT1.out.same (blk w.heap.size (by omega) (fun g hg => by have := (own_block OW.out hg).1; omega))
          have LK3 := ct8.look s1 wf1
          rw [HFc.out s1, HL.out] at LK3
          obtain ⟨w2, pu, ct2, gr⟩ := ct8.put (by unfold maxLen; omega) s1 wf1 (L : Int)
          have B8 : Hid (Below w.heap.size w w8) := ⟨G8.out.os.trans BV.out.os, G8.out.tape.trans BV.out.tape, G8.out.output.trans BV.out.output, Nat.le_trans (by rw [SZ.out]; have := BV.out.size; omega) G8.out.size, fun b hb => (blk b (by omega) (fun g hg => by have := (own_block OW.out hg).1; omega)).trans (BV.out.block b hb)⟩
          have hm8 := ct8.lt
          have CT2 := hid ct2
          have GR := hid gr
          clear ct2 gr ct8 blk LK2
          go_wp2_with fail
          go_roundg (xs.length - (k + 1))
          case measure => omega
          case rel =>
            refine ⟨k + 1, by omega, by omega, by go_num, (show Aside _ from ⟨GR.out.os.trans B8.out.os, GR.out.tape.trans B8.out.tape, GR.out.output.trans B8.out.output, Nat.le_trans B8.out.size GR.out.size, fun b hb => (GR.out.block b (by omega) (fun e => by injection e; omega)).trans (B8.out.block b hb)⟩), ⟨_, CT2.out, fun i => ?_⟩, (show Aside _ from ?_)⟩
            · rw [HLAT.out i]
              by_cases e : i = s1
              · subst e
                rw [if_pos rfl, if_pos rfl, HL.out, Option.getD_some]
                omega
              · rw [if_neg (by omega), if_neg e]
                exact HFc.out i
            · rw [HDIS.out, if_pos hgt, List.length_append, ansC_snoc]
              exact own_same O8.out (fun g hg => GR.out.block g (own_block O8.out hg).2.1 (fun e => by injection e with e; have := (own_block O8.out hg).1; omega))
      · have hgti : ¬ (s2 : Int) < (L : Int) := by omega
        have hmx : max (L : Int) (s2 : Int) = s2 := by omega
        obtain ⟨w2, pu, ct2, gr⟩ := CT1.out.put (by unfold maxLen; omega) s1 wf1 (s2 : Int)
        have CT2 := hid ct2
        have GR := hid gr
        clear ct2 gr
        go_wp2_with fail
        go_roundg (xs.length - (k + 1))
        case measure => omega
        case rel =>
          refine ⟨k + 1, by omega, by omega, by go_num, (show Aside _ from ⟨GR.out.os.trans BV.out.os, GR.out.tape.trans BV.out.tape, GR.out.output.trans BV.out.output, Nat.le_trans BV.out.size GR.out.size, fun b hb => (GR.out.block b (by omega) (fun e => by injection e; omega)).trans (BV.out.block b hb)⟩), ⟨_, CT2.out, fun i => ?_⟩, (show Aside _ from ?_)⟩
          · rw [HLAT.out i]
            by_cases e : i = s1
            · subst e
              rw [if_pos rfl, if_pos rfl, HL.out, Option.getD_some]
              omega
            · rw [if_neg (by omega), if_neg e]
              exact HFc.out i
          · rw [HDIS.out, if_neg hgt]
            exact own_same OV.out (fun g hg => GR.out.block g (own_block OV.out hg).2.1 (fun e => by injection e with e; have := (own_block OV.out hg).1; omega))
    · have hke : k = xs.length := by omega
      have hlti : ¬ (k : Int) < xs.length := by omega
      go_wp2_with fail
      go_ret
      exact ⟨_, rfl, by rw [← hke]; exact OW.out, BR.out⟩
end Go.Proofs.Ytnfbcmnlloipiaa
