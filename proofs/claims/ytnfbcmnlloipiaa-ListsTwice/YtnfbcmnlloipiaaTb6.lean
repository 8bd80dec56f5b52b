/-
  Unique, Count; the document's Writers and Unique.
-/
import Derived.Test.YtnfbcmnlloipiaaTb5
namespace Go.Proofs.Ytnfbcmnlloipiaa
set_option linter.unusedVariables false
set_option linter.unusedSimpArgs false
open Go.RowKit Go.Lib Go.Maps Go.Sort
open Tx (MTxn info_parts flatten_len flatten_get RowsIn.cells RowCells TxnRow TxnsIn setCell_self cloneInts_any OpsOwn)

/-- Are the values unique. -/
theorem uniq_is (B : Nat) (w : World) (tb : Nat) (l : List MTxn) (h : Made B w tb l) : Calls Try.prog 66 #[.pointer (some ⟨tb, 0, none⟩)] w fun e w' => ∃ u : Bool, e = .returned (.bool u) ∧ (u = true ↔ uniqN (notes l l.length)) ∧ w = w' := by
  obtain ⟨kb, wb, lb, tv, kv, F, D, m, u, h1, h2, _⟩ := h
  obtain ⟨_, _, _, _, _, c5⟩ := h1.c
  have HU := hid h2
  clear h1 h2
  go_enter Try.func66, Try.ntmps66
  go_wp2
  go_ret
  exact ⟨u, rfl, HU.out, rfl⟩
theorem count_is (B : Nat) (w : World) (tb : Nat) (l : List MTxn) (h : Made B w tb l) : Calls Try.prog 21 #[.pointer (some ⟨tb, 0, none⟩)] w fun e w' => e = .returned (.int .i64 (l.length : Int)) ∧ w = w' := by
  obtain ⟨kb, wb, lb, tv, kv, F, D, m, u, h1, _, _, _, _, h6, _⟩ := h
  obtain ⟨c0, _⟩ := h1.c
  obtain ⟨ao, c, rfl, _⟩ := h6
  clear h1
  go_enter Try.func21, Try.ntmps21
  go_wp2
  go_ret
  exact ⟨rfl, rfl⟩
theorem Made.later {B : Nat} {w w' : World} {tb : Nat} {l : List MTxn} (h : Made B w tb l) (hb : Below w.heap.size w w') : Made B w' tb l := by
  obtain ⟨kb, wb, lb, tv, kv, F, D, m, u, h1, h2, ⟨ss, h3, h3b⟩, h4, h5, h6, h7⟩ := h
  refine ⟨kb, wb, lb, tv, kv, F, D, m, u, h1.later hb, h2, ⟨ss, own_same h3 (fun g hg => hb.block g (own_block h3 hg).2.1), h3b⟩, h4, fun b hD => ⟨(h5 b hD).1, by have := hb.size; have := (h5 b hD).2.1; omega, (h5 b hD).2.2⟩, h6.keep (keeps_below hb) (fun _ _ x => x), h7⟩

/-! The document's writers. -/
theorem cond_ws {x s : ByteArray} : ((x.toList == s.toList) = true) = (x = s) := by
  apply propext
  rw [beq_iff_eq]
  constructor
  · intro h
    cases x
    cases s
    congr
    rw [ByteArray.toList_eq, ByteArray.toList_eq] at h
    exact Array.ext' h
  · intro h
    rw [h]
set_option maxHeartbeats 8000000 in
set_option maxRecDepth 100000 in
theorem rwriters_is {S : Nat → Prop} (w : World) (v : Value) (l : List MTxn) (s : ByteArray) (x : Int) (h : TxnsIn S w v l) (hl : l.length ≤ 1000) (hten : ∀ t ∈ l, t.ops.length ≤ 10) :
    Calls Try.prog 64 #[v, .string s, .int .i64 x] w fun e w' => ∃ v', e = .returned v' ∧ w'.ownsRow w.heap.size 54 2 v' (writersN (notes l l.length) s x).length (wrC (writersN (notes l l.length) s x)) ∧ Below w.heap.size w w' := by
  obtain ⟨i0, hi0, hz0, hz1, hz2⟩ := info_parts Try.infoWrite
  obtain ⟨a1, c1, rfl, l1, k1⟩ := RowsIn.cells h (by omega)
  have HI0 := hid hi0
  have HZ0 := hid hz0
  have HZ1 := hid hz1
  have HZ2 := hid hz2
  have HC := hid k1
  have HTEN := hid hten
  have hli : (l.length : Int) ≤ 1000 := by omega
  clear h hi0 hz0 hz1 hz2 k1 hten
  go_enter Try.func64, Try.ntmps64
  go_wp2_with fail
  go_loopg [7, 8, 9, 10, 11, 14] l.length (fun gg out _ _ _ _ i wr => ∃ k : Nat, k ≤ l.length ∧ l.length - k ≤ gg ∧ i = .int .i64 k ∧ Aside (Below w.heap.size w wr) ∧ Aside (wr.ownsRow w.heap.size 54 2 out (writersN (notes l k) s x).length (wrC (writersN (notes l k) s x))))
  case atStart => exact ⟨0, Nat.zero_le _, by omega, rfl, Below.refl _ _, World.ownsRow_nil _ _ _ _⟩
  case round =>
    obtain ⟨k, hk, hgk, rfl, BR, OR⟩ := hrel
    by_cases hlt : k < l.length
    · have hlti : (k : Int) < l.length := by omega
      obtain ⟨b, o, cs, rfl, hbl, _, ⟨ov, hcs, hops⟩, hcell⟩ := HC.out k hlt
      subst hcs
      obtain ⟨oa, oc, hov, hol, hoc⟩ := id hops
      subst hov
      have hmem : l.getD k default ∈ l := by simp [List.getD, List.getElem?_eq_getElem hlt]
      have d0 := (BR.out.cell (p := ⟨b, o + k * 5 + 0, none⟩) hbl).trans (hcell 0 _ rfl)
      have d1 := (BR.out.cell (p := ⟨b, o + k * 5 + 1, none⟩) hbl).trans (hcell 1 _ rfl)
      have d2 := (BR.out.cell (p := ⟨b, o + k * 5 + 2, none⟩) hbl).trans (hcell 2 _ rfl)
      have d3 := (BR.out.cell (p := ⟨b, o + k * 5 + 3, none⟩) hbl).trans (hcell 3 _ rfl)
      have d4 := (BR.out.cell (p := ⟨b, o + k * 5 + 4, none⟩) hbl).trans (hcell 4 _ rfl)
      rw [Nat.add_zero] at d0
      have hten : (l.getD k default).ops.length ≤ 10 := HTEN.out _ hmem
      have hNl := notes_len l HTEN.out k
      have HNT : Hid (notes l (k + 1) = notes l k ++ notesT k (l.getD k default).ops) := rfl
      have HOC := hid hoc
      have BN : ∀ x, Hid (Below w.heap.size w (wr.alloc x)) := fun x => BR.out.trans ((below_box wr _).mono BR.out.size)
      have ON : ∀ y, Hid ((wr.alloc y).ownsRow w.heap.size 54 2 u7 (writersN (notes l k) s x).length (wrC (writersN (notes l k) s x))) := fun y => own_same OR.out (fun g hg => by rw [alloc_at, if_neg (by have := (own_block OR.out hg).2.1; omega)])
      generalize (l.getD k default).ops = T at *
      generalize l.getD k default = TX at *
      clear hcell hops hoc hmem
      go_wp2_with fail
      have hTi : (T.length : Int) ≤ 10 := by omega
      go_loopg [7, 10, 11, 22] T.length (fun gg out _ _ i wi => ∃ j : Nat, j ≤ T.length ∧ T.length - j ≤ gg ∧ i = .int .i64 j ∧ Aside (Below w.heap.size w wi) ∧ Aside (wi.ownsRow w.heap.size 54 2 out (writersN (notes l k ++ (notesT k T).take j) s x).length (wrC (writersN (notes l k ++ (notesT k T).take j) s x))))
      case atStart => exact ⟨0, Nat.zero_le _, by omega, rfl, (BN _).out, (by rw [List.take_zero, List.append_nil]; exact (ON _).out)⟩
      case round =>
        clear BN ON BR OR d0 d1 d2 d3 d4
        obtain ⟨j, hj, hgj, rfl, BJ, OJ⟩ := hrel
        by_cases hjl : j < T.length
        · have hjli : (j : Int) < T.length := by omega
          obtain ⟨ob, oo, rfl, _, hcs⟩ := HOC.out (by omega)
          obtain ⟨cs, _, ⟨lv, hcse, hli2⟩, hcell⟩ := hcs j hjl
          subst hcse
          obtain ⟨la, lc, rfl, _⟩ := id hli2
          have hobl := World.block_lt_of_cell? _ _ (hcell 0 _ rfl)
          have x0 := (BJ.out.cell (p := ⟨ob, oo + j * 6 + 0, none⟩) hobl).trans (hcell 0 _ rfl)
          have x1 := (BJ.out.cell (p := ⟨ob, oo + j * 6 + 1, none⟩) hobl).trans (hcell 1 _ rfl)
          have x2 := (BJ.out.cell (p := ⟨ob, oo + j * 6 + 2, none⟩) hobl).trans (hcell 2 _ rfl)
          have x3 := (BJ.out.cell (p := ⟨ob, oo + j * 6 + 3, none⟩) hobl).trans (hcell 3 _ rfl)
          have x4 := (BJ.out.cell (p := ⟨ob, oo + j * 6 + 4, none⟩) hobl).trans (hcell 4 _ rfl)
          have x5 := (BJ.out.cell (p := ⟨ob, oo + j * 6 + 5, none⟩) hobl).trans (hcell 5 _ rfl)
          rw [Nat.add_zero] at x0
          have hTK : Hid (writersN (notes l k ++ (notesT k T).take (j + 1)) s x = writersN (notes l k ++ (notesT k T).take j) s x ++ (if hitW s x (k, j, T.getD j default) then [(k, j)] else [])) := by
            show _ = _
            rw [notesT_take k T j hjl, ← List.append_assoc, writers_snoc]
          have hWl : (writersN (notes l k ++ (notesT k T).take j) s x).length ≤ 10 * k + j := by
            have := writers_len (notes l k ++ (notesT k T).take j) s x
            rw [List.length_append, List.length_take, notesT_len] at this
            omega
          have hcell2 := hcs
          clear hcell hcs hli2 hcell2
          obtain ⟨WN, hWN⟩ : ∃ WN, writersN (notes l k ++ (notesT k T).take (j + 1)) s x = WN := ⟨_, rfl⟩
          have HWN := hid hWN
          rw [hWN] at hTK
          clear hWN
          generalize writersN (notes l k ++ (notesT k T).take j) s x = WJ at *
          generalize T.getD j default = O at *
          obtain ⟨ok, os, ovv, ol, oh, on⟩ := O
          simp only [MOp.kind, MOp.key, MOp.value, MOp.list, MOp.has, MOp.nl] at x0 x1 x2 x3 x4 x5
          have RW := hid (fun W => rwrite_is (ok, os, ovv, ol, oh, on) la lc W)
          simp only [opV, MOp.kind, MOp.key, MOp.value, MOp.list, MOp.has, MOp.nl] at RW
          have hwrs : w.heap.size ≤ wr.heap.size := BJ.out.size
          have STEP : ∀ w2, Hid (Below (wr.alloc (.cells #[.int .i64 ok, .string os, .int .i64 ovv, .slice la ol.length lc, .bool oh, .bool on] 49)).heap.size (wr.alloc (.cells #[.int .i64 ok, .string os, .int .i64 ovv, .slice la ol.length lc, .bool oh, .bool on] 49)) w2 → Below w.heap.size w w2 ∧ w2.ownsRow w.heap.size 54 2 u7 WJ.length (wrC WJ) ∧ wr.heap.size < w2.heap.size ∧ w2.cell? ⟨wr.heap.size, 1, none⟩ = some (.string os) ∧ w2.cell? ⟨wr.heap.size, 2, none⟩ = some (.int .i64 ovv)) := fun w2 hb => by
            have hb1 : Below wr.heap.size wr w2 := (below_box wr _).trans (hb.mono (by rw [alloc_size]; omega))
            have hs1 := hb.size
            rw [alloc_size] at hs1
            exact ⟨BJ.out.trans (hb1.mono hwrs), own_same OJ.out (fun g hg => hb1.block g (own_block OJ.out hg).2.1), by omega, (hb.cell (p := ⟨wr.heap.size, 1, none⟩) (by simp)).trans (by simp), (hb.cell (p := ⟨wr.heap.size, 2, none⟩) (by simp)).trans (by simp)⟩
          clear BJ OJ
          cases hw : isW ok with
          | false =>
            have hh : Hid (WN = WJ) := by show WN = WJ; rw [hTK.out, if_neg (by simp [hitW, hw])]; simp
            rw [hw] at RW
            clear hTK hw
            go_wp2_with (go_at_call 63; refine (RW.out _).mono ?_; rintro e w2 ⟨rfl, b2⟩; obtain ⟨p1, p2, p3, p4, p5⟩ := (STEP w2).out b2; have B2 := hid p1; have O2 := hid p2; clear p1 p2 b2 STEP RW)
            go_roundg (T.length - (j + 1))
            case measure => omega
            case rel => exact ⟨j + 1, by omega, by omega, by go_num, B2.out, (by rw [HWN.out, hh.out]; exact O2.out)⟩
          | true =>
            rw [hw] at RW
            by_cases hks : os = s
            · have hkb : (os.toList == s.toList) = true := by rw [hks]; simp
              by_cases hvx : ovv = x
              · have hvb : (ovv == x) = true := by simp [hvx]
                have hh : Hid (WN = WJ ++ [(k, j)]) := by show WN = _; rw [hTK.out, if_pos (by simp [hitW, hw, hks, hvx])]
                clear hTK hw hks hvx
                go_upto_region 9 with (go_at_call 63; refine (RW.out _).mono ?_; rintro e w2 ⟨rfl, b2⟩; obtain ⟨p1, p2, p3, p4, p5⟩ := (STEP w2).out b2; have B2 := hid p1; have O2 := hid p2; clear p1 p2 b2 STEP RW)
                have O3 : Hid ((w2.alloc (.cells #[.int .i64 (k : Int), .int .i64 (j : Int)] 54)).ownsRow w.heap.size 54 2 u7 WJ.length (wrC WJ)) := own_same O2.out (fun g hg => by rw [alloc_at, if_neg (by have := (own_block O2.out hg).2.1; omega)])
                have NN : Hid (∀ i u, ([.int .i64 (k : Int), .int .i64 (j : Int)] : List Value)[i]? = some u → (w2.alloc (.cells #[.int .i64 (k : Int), .int .i64 (j : Int)] 54)).cell? ((⟨w2.heap.size, 0, none⟩ : Addr).add i) = some u) := World.news_of_block (cs := #[.int .i64 (k : Int), .int .i64 (j : Int)]) (t := 54) (fr := (0, 0)) (heap_alloc_new w2 _)
                have XN : Hid (∀ u ∈ ([.int .i64 (k : Int), .int .i64 (j : Int)] : List Value), u.oneCell' = true) := by
                  intro u hu
                  simp only [List.mem_cons, List.not_mem_nil, or_false] at hu
                  rcases hu with rfl | rfl <;> rfl
                have hw2 := B2.out.size
                go_wp2_with (at_builtin; refine wpList_append_lies _ rfl _ _ 51 rfl w.heap.size 54 i0 _ 2 16 Try.underlying51 HI0.out HZ0.out HZ1.out HZ2.out rfl (by decide) u7 WJ.length (wrC WJ) rfl O3.out ⟨w2.heap.size, 0, none⟩ 1 1 [.int .i64 (k : Int), .int .i64 (j : Int)] rfl rfl NN.out XN.out (by decide) (by unfold maxLen; omega) (by omega) (by rw [alloc_size]; omega) (w2.heap.size + 1) (by simp) ?_; intro g cap w4 hown4 hgrow hat hglt; have O4 : Hid (w4.ownsRow w.heap.size 54 2 (.slice (some ⟨g, 0, none⟩) (WJ.length + 1) cap) (WJ ++ [(k, j)]).length (wrC (WJ ++ [(k, j)]))) := (by show World.ownsRow _ _ _ _ _ _ _; rw [wrC_append, List.length_append]; exact hown4); have B4 : Hid (Below w.heap.size w w4) := (B2.out.alloc hw2 _).grown hgrow (by rw [alloc_size]; omega) (fun y hy => (own_block O2.out hy).1); clear hown4 hgrow hat hglt)
                go_roundg (T.length - (j + 1))
                case measure => omega
                case rel => exact ⟨j + 1, by omega, by omega, by go_num, B4.out, (by rw [HWN.out, hh.out]; exact O4.out)⟩
              · have hvb : (ovv == x) = false := by simpa using hvx
                have hh : Hid (WN = WJ) := by show WN = WJ; rw [hTK.out, if_neg (by simp [hitW, hvx])]; simp
                clear hTK hw hks
                go_wp2_with (go_at_call 63; refine (RW.out _).mono ?_; rintro e w2 ⟨rfl, b2⟩; obtain ⟨p1, p2, p3, p4, p5⟩ := (STEP w2).out b2; have B2 := hid p1; have O2 := hid p2; clear p1 p2 b2 STEP RW)
                go_roundg (T.length - (j + 1))
                case measure => omega
                case rel => exact ⟨j + 1, by omega, by omega, by go_num, B2.out, (by rw [HWN.out, hh.out]; exact O2.out)⟩
            · have hkb : (os.toList == s.toList) = false := by
                cases hc : (os.toList == s.toList) with
                | false => rfl
                | true => exact absurd (cond_ws ▸ hc) hks
              have hh : Hid (WN = WJ) := by show WN = WJ; rw [hTK.out, if_neg (by simp [hitW, hks])]; simp
              clear hTK hw
              go_wp2_with (go_at_call 63; refine (RW.out _).mono ?_; rintro e w2 ⟨rfl, b2⟩; obtain ⟨p1, p2, p3, p4, p5⟩ := (STEP w2).out b2; have B2 := hid p1; have O2 := hid p2; clear p1 p2 b2 STEP RW)
              go_roundg (T.length - (j + 1))
              case measure => omega
              case rel => exact ⟨j + 1, by omega, by omega, by go_num, B2.out, (by rw [HWN.out, hh.out]; exact O2.out)⟩
        · have hje : j = T.length := by omega
          rw [hje, List.take_of_length_le (by rw [notesT_len]; exact Nat.le_refl _)] at OJ
          clear hje
          go_wp2_with fail
          go_roundg (l.length - (k + 1))
          case measure => omega
          case rel => exact ⟨k + 1, by omega, by omega, by go_num, BJ.out, (by rw [HNT.out]; exact OJ.out)⟩
    · have hke : k = l.length := by omega
      have OE : Hid (wr.ownsRow w.heap.size 54 2 u7 (writersN (notes l l.length) s x).length (wrC (writersN (notes l l.length) s x))) := by rw [hke] at OR; exact OR.out
      clear hke
      go_wp2_with fail
      go_ret
      exact ⟨_, rfl, OE.out, BR.out⟩
end Go.Proofs.Ytnfbcmnlloipiaa
