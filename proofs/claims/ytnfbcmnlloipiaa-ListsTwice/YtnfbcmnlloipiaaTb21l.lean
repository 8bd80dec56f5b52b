/-
  The document's Keys.
-/
import Derived.Test.YtnfbcmnlloipiaaTb19
import Derived.Laws.Cover1
namespace Go.Proofs.Ytnfbcmnlloipiaa
set_option linter.unusedVariables false
set_option linter.unusedSimpArgs false
open Go.RowKit Go.Lib Go.Maps
open Tx (MTxn info_parts flatten_len flatten_get RowsIn.cells RowCells TxnRow TxnsIn TxnsOwn setCell_self cloneInts_any OpsOwn smallL cutTxn cutOp)

/-- A row of strings of one's own. -/
def SRow (B : Nat) (w : World) (v : Value) (l : List Bs) : Prop := w.ownsRow B 9 1 v l.length (l.map encStr)
theorem SRow.later {B : Nat} {w w' : World} {v : Value} {l : List Bs} (h : SRow B w v l) (hb : Below w.heap.size w w') : SRow B w' v l := own_same h (fun g hg => hb.block g (own_block h hg).2.1)
theorem SRow.grown {B : Nat} {w w' : World} {v u : Value} {l : List Bs} (h : SRow B w v l) (hg : w.grownBy w' u.ownBlock) (hne : ∀ g, v.ownBlock = some g → u.ownBlock ≠ some g) : SRow B w' v l := own_same h (fun g hgo => hg.block g (own_block h hgo).2.1 (fun e => hne g hgo e.symm))
theorem own_mono {B B' : Nat} {w : World} {e : TypeId} {z n : Nat} {v : Value} {xs : List Value} (h : w.ownsRow B e z v n xs) (hB : B' ≤ B) : w.ownsRow B' e z v n xs := by
  refine ⟨h.1, ?_⟩
  rcases h.2 with h1 | ⟨g, cap, cur, hv, hg, hh, hr⟩
  · exact .inl h1
  · exact .inr ⟨g, cap, cur, hv, Nat.le_trans hB hg, hh, hr⟩
theorem SRow.mono {B B' : Nat} {w : World} {v : Value} {l : List Bs} (h : SRow B w v l) (hb : B' ≤ B) : SRow B' w v l := own_mono h hb
theorem toL (s : ByteArray) : s.toList = s.data.toList := ByteArray.toList_eq s
theorem less_is (a b : ByteArray) : Op.bytesLess a.toList b.toList = decide (a.data.toList < b.data.toList) := by rw [bytesLess_eq, toL, toL]
theorem enc_of (s : ByteArray) : encStr s.data.toList = .string s := by simp [encStr]
theorem str_of (k : Bs) : ∃ kb : ByteArray, encStr k = .string kb ∧ kb.data.toList = k := ⟨⟨⟨k⟩⟩, rfl, rfl⟩
theorem srow_snoc {B : Nat} {w : World} {v : Value} {L : List Bs} {s : ByteArray} (h : w.ownsRow B 9 1 v (L.length + 1) (L.map encStr ++ [.string s])) : SRow B w v (L ++ [s.data.toList]) := by
  unfold SRow
  rw [List.length_append, List.map_append, List.map_cons, List.map_nil, enc_of]
  exact h
theorem srow_snoc2 {B : Nat} {w : World} {v : Value} {L : List Bs} {s t : ByteArray} (h : w.ownsRow B 9 1 v (L.length + 1 + 1) (L.map encStr ++ [.string s] ++ [.string t])) : SRow B w v (L ++ [s.data.toList] ++ [t.data.toList]) := by
  apply srow_snoc
  rw [List.length_append, List.map_append, List.map_cons, List.map_nil, enc_of]
  exact h
theorem srow_form {B : Nat} {w : World} {oa : Option Addr} {N c : Nat} {L : List Bs} (h : SRow B w (.slice oa N c) L) (h0 : 0 < L.length) : ∃ g cap, (Value.slice oa N c) = .slice (some ⟨g, 0, none⟩) L.length cap := by
  obtain ⟨g, cap, e, _⟩ := World.ownsRow.form h h0
  exact ⟨g, cap, e⟩
theorem srow_cell {B : Nat} {w : World} {g c : Nat} {L : List Bs} (h : SRow B w (.slice (some ⟨g, 0, none⟩) L.length c) L) (q : Nat) (hq : q < L.length) : w.cell? ⟨g, q, none⟩ = some (encStr (L.getD q default)) := by
  rw [World.ownsRow.cellAt h q (by omega), List.getElem?_map, List.getElem?_eq_getElem hq, getD_at L q hq]
  rfl
theorem push_b {B : Nat} {W w1 w8 : World} {o : Obj} {v : Value} {n : Nat} {xs : List Value} (hBW : B ≤ W.heap.size) (hB : Below B W w1) (hr : w1.ownsRow B 9 1 v n xs) (hg : (w1.alloc o).grownBy w8 v.ownBlock) : Below B W w8 := by
  have h1 : w1.heap.size + 1 ≤ w8.heap.size := by have := hg.size; rw [alloc_size] at this; exact this
  have h0 := hB.size
  refine ⟨hg.os.trans hB.os, hg.tape.trans hB.tape, hg.output.trans hB.output, by omega, fun b hb => ?_⟩
  have hb1 : b < w1.heap.size := by omega
  refine (hg.block b (by rw [alloc_size]; omega) (fun e => ?_)).trans ((by rw [alloc_at, if_neg (by omega)] : (w1.alloc o).heap[b]? = w1.heap[b]?).trans (hB.block b hb))
  have := (own_block hr e.symm).1
  omega
theorem fo_len2 (key : Bs) (out : List Bs) (j : Nat) (h : j ≤ out.length) : (foK key out j).1.length ≤ 2 * j := by
  induction j with
  | zero => simp [foK]
  | succ m ih =>
    rw [foK_succ key out m (by omega)]
    have := ih (by omega)
    generalize foK key out m = p at *
    obtain ⟨a, b⟩ := p
    simp only at this
    unfold stK
    simp only
    split <;> split <;> simp <;> omega
theorem str_ne (a b : ByteArray) : True := trivial
theorem keys_len (N : List MN) : (keysN N []).length ≤ N.length := by
  rw [← List.reverse_reverse N]
  generalize N.reverse = M
  induction M with
  | nil => simp [keysN]
  | cons x M ih =>
    rw [List.reverse_cons, keysN_snoc, List.length_append]
    split
    · simp at ih ⊢
      omega
    · have hl := ins_len x.2.2.key.data.toList (keysN M.reverse [])
      simp at ih ⊢
      omega
theorem Try.infoS : (Try.prog.info? 9).map (fun i => (i.zero, i.size, i.bytes)) = some (some (.string ByteArray.empty), 1, 16) := by kernel_rfl
set_option maxHeartbeats 16000000 in
set_option maxRecDepth 100000 in
theorem rkeys_is {S : Nat → Prop} (w : World) (v : Value) (l : List MTxn) (h : TxnsIn S w v l) (hl : l.length ≤ 1000) (hten : ∀ t ∈ l, t.ops.length ≤ 10) :
    Calls Try.prog 11 #[v] w fun e w' => ∃ v', e = .returned v' ∧ SRow w.heap.size w' v' (keysN (notes l l.length) []) ∧ Below w.heap.size w w' := by
  obtain ⟨i0, hi0, hz0, hz1, hz2⟩ := info_parts Try.infoS
  have HI0 := hid hi0
  have HZ0 := hid hz0
  have HZ1 := hid hz1
  have HZ2 := hid hz2
  obtain ⟨a1, c1, rfl, l1, k1⟩ := RowsIn.cells h (by omega)
  have HC := hid k1
  have HTEN := hid hten
  have hli : (l.length : Int) ≤ 1000 := by omega
  clear h k1 hten hi0 hz0 hz1 hz2
  go_enter Try.func11, Try.ntmps11
  go_wp2_with fail
  go_loopg [3, 5, 7, 8, 9, 11, 14] l.length (fun gg out _ _ _ _ _ i wr => ∃ k : Nat, k ≤ l.length ∧ l.length - k ≤ gg ∧ i = .int .i64 k ∧ Aside (Below w.heap.size w wr) ∧ Aside (SRow w.heap.size wr out (keysN (notes l k) [])))
  case atStart => exact ⟨0, Nat.zero_le _, by omega, rfl, Below.refl _ _, World.ownsRow_nil _ _ _ _⟩
  case round =>
    obtain ⟨k, hk, hgk, rfl, BR, OR⟩ := hrel
    by_cases hlt : k < l.length
    · have hlti : (k : Int) < l.length := by omega
      obtain ⟨b, o, cs, rfl, hbl, _, ⟨ov, hcs, hops⟩, hcell⟩ := HC.out k hlt
      subst hcs
      obtain ⟨oa, oc, hov, hol, hoc⟩ := id hops
      subst hov
      have d0 := (BR.out.cell (p := ⟨b, o + k * 5 + 0, none⟩) hbl).trans (hcell 0 _ rfl)
      have d1 := (BR.out.cell (p := ⟨b, o + k * 5 + 1, none⟩) hbl).trans (hcell 1 _ rfl)
      have d2 := (BR.out.cell (p := ⟨b, o + k * 5 + 2, none⟩) hbl).trans (hcell 2 _ rfl)
      have d3 := (BR.out.cell (p := ⟨b, o + k * 5 + 3, none⟩) hbl).trans (hcell 3 _ rfl)
      have d4 := (BR.out.cell (p := ⟨b, o + k * 5 + 4, none⟩) hbl).trans (hcell 4 _ rfl)
      rw [Nat.add_zero] at d0
      have hten : (l.getD k default).ops.length ≤ 10 := HTEN.out _ (getD_mem l k hlt)
      have hNl := notes_len l HTEN.out k
      have HNT : Hid (notes l (k + 1) = notes l k ++ notesT k (l.getD k default).ops) := rfl
      have HOC := hid hoc
      have BN : ∀ x, Hid (Below w.heap.size w (wr.alloc x)) := fun x => BR.out.trans ((below_box wr _).mono BR.out.size)
      have ON : ∀ x, Hid (SRow w.heap.size (wr.alloc x) u3 (keysN (notes l k) [])) := fun x => OR.out.later (below_box wr _)
      generalize (l.getD k default).ops = T at *
      generalize l.getD k default = TX at *
      clear hcell hops hoc
      go_wp2_with fail
      have hTi : (T.length : Int) ≤ 10 := by omega
      go_loopg [3, 7, 8, 9, 11, 21] T.length (fun gg out _ _ _ _ i wi => ∃ j : Nat, j ≤ T.length ∧ T.length - j ≤ gg ∧ i = .int .i64 j ∧ Aside (Below w.heap.size w wi) ∧ Aside (SRow w.heap.size wi out (keysN (notes l k ++ (notesT k T).take j) [])))
      case atStart => exact ⟨0, Nat.zero_le _, by omega, rfl, (BN _).out, (by rw [List.take_zero, List.append_nil]; exact (ON _).out)⟩
      case round =>
        clear BN ON BR OR d0 d1 d2 d3 d4
        obtain ⟨j, hj, hgj, rfl, BJ, OJ⟩ := hrel
        by_cases hjl : j < T.length
        · have hjli : (j : Int) < T.length := by omega
          obtain ⟨ob, oo, rfl, _, hcs⟩ := HOC.out (by omega)
          obtain ⟨cs, _, ⟨lv, hcse, hli2⟩, hcell⟩ := hcs j hjl
          subst hcse
          obtain ⟨la, lc, rfl, _⟩ := id hli2
          have hobl := World.block_lt_of_cell? _ _ (hcell 0 _ rfl)
          have x0 := (BJ.out.cell (p := ⟨ob, oo + j * 6 + 0, none⟩) hobl).trans (hcell 0 _ rfl)
          have x1 := (BJ.out.cell (p := ⟨ob, oo + j * 6 + 1, none⟩) hobl).trans (hcell 1 _ rfl)
          have x2 := (BJ.out.cell (p := ⟨ob, oo + j * 6 + 2, none⟩) hobl).trans (hcell 2 _ rfl)
          have x3 := (BJ.out.cell (p := ⟨ob, oo + j * 6 + 3, none⟩) hobl).trans (hcell 3 _ rfl)
          have x4 := (BJ.out.cell (p := ⟨ob, oo + j * 6 + 4, none⟩) hobl).trans (hcell 4 _ rfl)
          have x5 := (BJ.out.cell (p := ⟨ob, oo + j * 6 + 5, none⟩) hobl).trans (hcell 5 _ rfl)
          rw [Nat.add_zero] at x0
          have KS : Hid (keysN (notes l k ++ (notesT k T).take (j + 1)) [] = if thing (T.getD j default).kind = 0 then keysN (notes l k ++ (notesT k T).take j) [] else insK (T.getD j default).key.data.toList (keysN (notes l k ++ (notesT k T).take j) [])) := by
            show _ = _
            rw [notesT_take k T j hjl, ← List.append_assoc, keysN_snoc]
          have hKl : (keysN (notes l k ++ (notesT k T).take j) []).length ≤ 10 * k + j := by
            have := keys_len (notes l k ++ (notesT k T).take j)
            rw [List.length_append, List.length_take, notesT_len] at this
            omega
          have BN : ∀ x, Hid (Below w.heap.size w (wr.alloc x)) := fun x => BJ.out.trans ((below_box wr _).mono BJ.out.size)
          have ON : ∀ x, Hid (SRow w.heap.size (wr.alloc x) u3 (keysN (notes l k ++ (notesT k T).take j) [])) := fun x => OJ.out.later (below_box wr _)
          clear hcell hcs hli2
          obtain ⟨KN, hKN⟩ : ∃ KN, keysN (notes l k ++ (notesT k T).take (j + 1)) [] = KN := ⟨_, rfl⟩
          have HKN := hid hKN
          rw [hKN] at KS
          clear hKN
          generalize keysN (notes l k ++ (notesT k T).take j) [] = KO at *
          generalize T.getD j default = O at *
          obtain ⟨ok, os, ovv, ol, oh, on⟩ := O
          simp only [MOp.kind, MOp.key, MOp.value, MOp.list, MOp.has, MOp.nl] at x0 x1 x2 x3 x4 x5 KS
          by_cases hth : thing ok = 0
          · have hK2 : Hid (KN = KO) := by have := KS.out; rw [if_pos hth] at this; exact this
            have hkk : ok < 1 ∨ 4 < ok := by
              unfold thing at hth
              by_cases a : ok = 1 ∨ ok = 2
              · rw [if_pos a] at hth; omega
              · rw [if_neg a] at hth
                by_cases b : ok = 3 ∨ ok = 4
                · rw [if_pos b] at hth; omega
                · omega
            clear KS hth
            by_cases h1 : ok < 1
            · have hd1 : decide (ok < 1) = true := decide_eq_true h1
              go_wp2_with fail
              go_roundg (T.length - (j + 1))
              case measure => omega
              case rel => exact ⟨j + 1, by omega, by omega, by go_num, (BN _).out, (by rw [HKN.out, hK2.out]; exact (ON _).out)⟩
            · have h4 : 4 < ok := by omega
              have hd1 : decide (ok < 1) = false := decide_eq_false h1
              have hd4 : decide (4 < ok) = true := decide_eq_true h4
              go_wp2_with fail
              go_roundg (T.length - (j + 1))
              case measure => omega
              case rel => exact ⟨j + 1, by omega, by omega, by go_num, (BN _).out, (by rw [HKN.out, hK2.out]; exact (ON _).out)⟩
          · have hK2 : Hid (KN = insK os.data.toList KO) := by have := KS.out; rw [if_neg hth] at this; exact this
            have hkk : 1 ≤ ok ∧ ok ≤ 4 := by
              unfold thing at hth
              by_cases a : ok = 1 ∨ ok = 2
              · omega
              · by_cases b : ok = 3 ∨ ok = 4
                · omega
                · rw [if_neg a, if_neg b] at hth; exact absurd rfl hth
            have h1 : ¬ ok < 1 := by omega
            have h4 : ¬ 4 < ok := by omega
            have hd1 : decide (ok < 1) = false := decide_eq_false h1
            have hd4 : decide (4 < ok) = false := decide_eq_false h4
            clear KS hth hkk
            obtain ⟨oua, ouc, hou⟩ := own_slice OJ.out
            subst hou
            go_upto_region 11 with fail
            obtain ⟨Wb, hWb⟩ : ∃ Wb, wr.alloc (.cells #[.int .i64 ok, .string os, .int .i64 ovv, .slice la ol.length lc, .bool oh, .bool on] 49) = Wb := ⟨_, rfl⟩
            obtain ⟨xb, hxb⟩ : ∃ xb, wr.heap.size = xb := ⟨_, rfl⟩
            have p1 : Wb.cell? ⟨xb, 1, none⟩ = some (.string os) := by rw [← hWb, ← hxb]; simp
            have hxl : xb < Wb.heap.size := by rw [← hWb, ← hxb, alloc_size]; omega
            have BB : Hid (Below w.heap.size w Wb) := by rw [← hWb]; exact (BN _).out
            have OB : Hid (SRow w.heap.size Wb (.slice oua KO.length ouc) KO) := by rw [← hWb]; exact (ON _).out
            rw [hWb, hxb]
            clear hWb hxb BN ON BJ OJ x0 x1 x2 x3 x4 x5
            have hKi : (KO.length : Int) ≤ 100000 := by omega
            have P1 := hid p1
            clear p1
            go_wp2_with fail
            go_loopg [8, 9, 11, 35] KO.length (fun gg nx pt _ i wq => ∃ q : Nat, q ≤ KO.length ∧ KO.length - q ≤ gg ∧ i = .int .i64 q ∧ pt = .bool (foK os.data.toList KO q).2 ∧ Aside (Below Wb.heap.size Wb wq) ∧ Aside (SRow Wb.heap.size wq nx (foK os.data.toList KO q).1))
            case atStart => exact ⟨0, Nat.zero_le _, by omega, rfl, rfl, Below.refl _ _, World.ownsRow_nil _ _ _ _⟩
            case round =>
              obtain ⟨q, hq, hgq, rfl, hpt, BQ, RQ⟩ := hrel
              have hfl := fo_len2 os.data.toList KO q hq
              have FE : Hid (insK os.data.toList KO = if (foK os.data.toList KO KO.length).2 = true then (foK os.data.toList KO KO.length).1 else (foK os.data.toList KO KO.length).1 ++ [os.data.toList]) := rfl
              have hsq : Wb.heap.size ≤ wr.heap.size := BQ.out.size
              have p1 := (BQ.out.cell (p := ⟨xb, 1, none⟩) hxl).trans P1.out
              obtain ⟨na, nc, hn⟩ := own_slice RQ.out
              subst hn
              by_cases hql : q < KO.length
              · have hqli : (q : Int) < KO.length := by omega
                have FSu := hid (foK_succ os.data.toList KO q hql)
                have OQ := hid (OB.out.later BQ.out)
                obtain ⟨og, ocap, hof⟩ := srow_form OB.out (by omega)
                cases hof
                obtain ⟨kb, hkb, hkl⟩ := str_of (KO.getD q default)
                have hcq : wr.cell? ⟨og, q, none⟩ = some (.string kb) := by
                  rw [← hkb]
                  exact srow_cell OQ.out q hql
                generalize KO.getD q default = kq at *
                subst hkl
                clear hkb
                clear FE
                generalize foK os.data.toList KO q = fp at *
                obtain ⟨fx, pt⟩ := fp
                simp only at hpt hfl
                subst hpt
                have hne := str_ne kb os
                have hls := less_is kb os
                by_cases hk : kb.data.toList = os.data.toList
                · have he1 : (kb.toList == os.toList) = true := by rw [toL, toL, hk]; simp
                  have hl1 : Op.bytesLess kb.toList os.toList = false := by rw [hls, hk]; exact decide_eq_false (List.lt_irrefl _)
                  clear hls hne
                  cases pt with
                  | true =>
                    have FV : Hid (foK os.data.toList KO (q + 1) = (fx, true)) := hid (by rw [FSu.out]; simp [stK, hk])
                    clear FSu
                    go_wp2_with fail
                    go_roundg (KO.length - (q + 1))
                    case measure => omega
                    case rel => exact ⟨q + 1, by omega, by omega, by go_num, (by rw [FV.out]), BQ.out, (by rw [FV.out]; exact RQ.out)⟩
                  | false =>
                    have FV : Hid (foK os.data.toList KO (q + 1) = (fx ++ [os.data.toList], true)) := hid (by rw [FSu.out]; simp [stK, hk, List.lt_irrefl])
                    clear FSu
                    go_wp2_with (at_builtin; refine wpList_append_lies _ rfl _ _ 26 rfl Wb.heap.size 9 i0 _ 1 16 Try.underlying26 HI0.out HZ0.out HZ1.out HZ2.out rfl (by decide) (.slice na fx.length nc) (fx.length) (fx.map encStr) rfl (RQ.out.alloc _) ⟨wr.heap.size, 0, none⟩ 1 1 [.string os] rfl rfl (World.news_of_block (cs := #[.string os]) (t := 9) (fr := (0, 0)) (by rw [alloc_at, if_pos rfl])) (by simp [Value.oneCell']) (by decide) (by unfold maxLen; omega) (by omega) (by rw [alloc_size]; omega) (wr.heap.size + 1) (by simp) ?_; intro g7 cap7 w7 hown hgrow hat hglt; have O7 := hid hown; have B7 := hid (push_b (Nat.le_refl _) BQ.out RQ.out hgrow); have s7 : Wb.heap.size ≤ w7.heap.size := B7.out.size; have p7 : w7.cell? ⟨xb, 1, none⟩ = some (.string os) := (B7.out.cell (p := ⟨xb, 1, none⟩) hxl).trans P1.out; clear hown hgrow hat hglt)
                    go_roundg (KO.length - (q + 1))
                    case measure => omega
                    case rel => exact ⟨q + 1, by omega, by omega, by go_num, (by rw [FV.out]), B7.out, (by rw [FV.out]; exact (srow_snoc O7.out))⟩
                · have he1 : (kb.toList == os.toList) = false := by rw [toL, toL]; simpa using hk
                  cases pt with
                  | true =>
                    have FV : Hid (foK os.data.toList KO (q + 1) = (fx ++ [kb.data.toList], true)) := hid (by rw [FSu.out]; simp [stK, hk])
                    clear FSu
                    go_wp2_with (at_builtin; refine wpList_append_lies _ rfl _ _ 26 rfl Wb.heap.size 9 i0 _ 1 16 Try.underlying26 HI0.out HZ0.out HZ1.out HZ2.out rfl (by decide) (.slice na fx.length nc) (fx.length) (fx.map encStr) rfl (RQ.out.alloc _) ⟨wr.heap.size, 0, none⟩ 1 1 [.string kb] rfl rfl (World.news_of_block (cs := #[.string kb]) (t := 9) (fr := (0, 0)) (by rw [alloc_at, if_pos rfl])) (by simp [Value.oneCell']) (by decide) (by unfold maxLen; omega) (by omega) (by rw [alloc_size]; omega) (wr.heap.size + 1) (by simp) ?_; intro g8 cap8 w8 hown hgrow hat hglt; have O8 := hid hown; have B8 := hid (push_b (Nat.le_refl _) BQ.out RQ.out hgrow); have s8 : Wb.heap.size ≤ w8.heap.size := B8.out.size; clear hown hgrow hat hglt)
                    go_roundg (KO.length - (q + 1))
                    case measure => omega
                    case rel => exact ⟨q + 1, by omega, by omega, by go_num, (by rw [FV.out]), B8.out, (by rw [FV.out]; exact (srow_snoc O8.out))⟩
                  | false =>
                    by_cases hl : kb.data.toList < os.data.toList
                    · have hl1 : Op.bytesLess kb.toList os.toList = true := by rw [hls]; exact decide_eq_true hl
                      have FV : Hid (foK os.data.toList KO (q + 1) = (fx ++ [kb.data.toList], false)) := hid (by rw [FSu.out]; simp [stK, hk, hl])
                      clear FSu hls
                      go_wp2_with (at_builtin; refine wpList_append_lies _ rfl _ _ 26 rfl Wb.heap.size 9 i0 _ 1 16 Try.underlying26 HI0.out HZ0.out HZ1.out HZ2.out rfl (by decide) (.slice na fx.length nc) (fx.length) (fx.map encStr) rfl (RQ.out.alloc _) ⟨wr.heap.size, 0, none⟩ 1 1 [.string kb] rfl rfl (World.news_of_block (cs := #[.string kb]) (t := 9) (fr := (0, 0)) (by rw [alloc_at, if_pos rfl])) (by simp [Value.oneCell']) (by decide) (by unfold maxLen; omega) (by omega) (by rw [alloc_size]; omega) (wr.heap.size + 1) (by simp) ?_; intro g8 cap8 w8 hown hgrow hat hglt; have O8 := hid hown; have B8 := hid (push_b (Nat.le_refl _) BQ.out RQ.out hgrow); have s8 : Wb.heap.size ≤ w8.heap.size := B8.out.size; clear hown hgrow hat hglt)
                      go_roundg (KO.length - (q + 1))
                      case measure => omega
                      case rel => exact ⟨q + 1, by omega, by omega, by go_num, (by rw [FV.out]), B8.out, (by rw [FV.out]; exact (srow_snoc O8.out))⟩
                    · have hl1 : Op.bytesLess kb.toList os.toList = false := by rw [hls]; exact decide_eq_false hl
                      have FV : Hid (foK os.data.toList KO (q + 1) = (fx ++ [os.data.toList] ++ [kb.data.toList], true)) := hid (by rw [FSu.out]; simp [stK, hk, hl])
                      clear FSu hls
                      go_wp2_with first | (at_builtin; refine wpList_append_lies _ rfl _ _ 26 rfl Wb.heap.size 9 i0 _ 1 16 Try.underlying26 HI0.out HZ0.out HZ1.out HZ2.out rfl (by decide) (.slice na fx.length nc) (fx.length) (fx.map encStr) rfl (RQ.out.alloc _) ⟨wr.heap.size, 0, none⟩ 1 1 [.string os] rfl rfl (World.news_of_block (cs := #[.string os]) (t := 9) (fr := (0, 0)) (by rw [alloc_at, if_pos rfl])) (by simp [Value.oneCell']) (by decide) (by unfold maxLen; omega) (by omega) (by rw [alloc_size]; omega) (wr.heap.size + 1) (by simp) ?_; intro g7 cap7 w7 hown hgrow hat hglt; have O7 := hid hown; have B7 := hid (push_b (Nat.le_refl _) BQ.out RQ.out hgrow); have s7 : Wb.heap.size ≤ w7.heap.size := B7.out.size; have p7 : w7.cell? ⟨xb, 1, none⟩ = some (.string os) := (B7.out.cell (p := ⟨xb, 1, none⟩) hxl).trans P1.out; clear hown hgrow hat hglt) | (at_builtin; refine wpList_append_lies _ rfl _ _ 26 rfl Wb.heap.size 9 i0 _ 1 16 Try.underlying26 HI0.out HZ0.out HZ1.out HZ2.out rfl (by decide) (.slice (some ⟨g7, 0, none⟩) (fx.length + 1) cap7) (fx.length + 1) (fx.map encStr ++ [.string os]) rfl (O7.out.alloc _) ⟨w7.heap.size, 0, none⟩ 1 1 [.string kb] rfl rfl (World.news_of_block (cs := #[.string kb]) (t := 9) (fr := (0, 0)) (by rw [alloc_at, if_pos rfl])) (by simp [Value.oneCell']) (by decide) (by unfold maxLen; omega) (by omega) (by rw [alloc_size]; omega) (w7.heap.size + 1) (by simp) ?_; intro g8 cap8 w8 hown hgrow hat hglt; have O8 := hid hown; have B8 := hid (push_b (Nat.le_refl _) B7.out O7.out hgrow); have s8 : Wb.heap.size ≤ w8.heap.size := B8.out.size; clear hown hgrow hat hglt)
                      go_roundg (KO.length - (q + 1))
                      case measure => omega
                      case rel => exact ⟨q + 1, by omega, by omega, by go_num, (by rw [FV.out]), B8.out, (by rw [FV.out]; exact (srow_snoc2 O8.out))⟩
              · have hqe : q = KO.length := by omega
                rw [hqe] at hpt RQ hfl
                rw [hqe]
                generalize foK os.data.toList KO KO.length = fp at *
                obtain ⟨fx, pt⟩ := fp
                simp only at hpt hfl
                subst hpt
                clear hqe
                cases pt with
                | true =>
                  have hK3 : Hid (KN = fx) := hid (by rw [hK2.out, FE.out]; rfl)
                  clear FE
                  go_wp2_with fail
                  go_roundg (T.length - (j + 1))
                  case measure => omega
                  case rel => exact ⟨j + 1, by omega, by omega, by go_num, BB.out.trans (BQ.out.mono BB.out.size), (by rw [HKN.out, hK3.out]; exact RQ.out.mono BB.out.size)⟩
                | false =>
                  have hK3 : Hid (KN = fx ++ [os.data.toList]) := hid (by rw [hK2.out, FE.out]; rfl)
                  clear FE
                  go_wp2_with (at_builtin; refine wpList_append_lies _ rfl _ _ 26 rfl Wb.heap.size 9 i0 _ 1 16 Try.underlying26 HI0.out HZ0.out HZ1.out HZ2.out rfl (by decide) (.slice na fx.length nc) (fx.length) (fx.map encStr) rfl (RQ.out.alloc _) ⟨wr.heap.size, 0, none⟩ 1 1 [.string os] rfl rfl (World.news_of_block (cs := #[.string os]) (t := 9) (fr := (0, 0)) (by rw [alloc_at, if_pos rfl])) (by simp [Value.oneCell']) (by decide) (by unfold maxLen; omega) (by omega) (by rw [alloc_size]; omega) (wr.heap.size + 1) (by simp) ?_; intro g7 cap7 w7 hown hgrow hat hglt; have O7 := hid hown; have B7 := hid (push_b (Nat.le_refl _) BQ.out RQ.out hgrow); have s7 : Wb.heap.size ≤ w7.heap.size := B7.out.size; have p7 : w7.cell? ⟨xb, 1, none⟩ = some (.string os) := (B7.out.cell (p := ⟨xb, 1, none⟩) hxl).trans P1.out; clear hown hgrow hat hglt)
                  go_roundg (T.length - (j + 1))
                  case measure => omega
                  case rel => exact ⟨j + 1, by omega, by omega, by go_num, BB.out.trans (B7.out.mono BB.out.size), (by rw [HKN.out, hK3.out]; exact (srow_snoc O7.out).mono BB.out.size)⟩
        · have hje : j = T.length := by omega
          rw [hje, List.take_of_length_le (by rw [notesT_len]; exact Nat.le_refl _)] at OJ
          clear hje
          go_wp2_with fail
          go_roundg (l.length - (k + 1))
          case measure => omega
          case rel => exact ⟨k + 1, by omega, by omega, by go_num, BJ.out, (by rw [HNT.out]; exact OJ.out)⟩
    · have hke : k = l.length := by omega
      have OE : Hid (SRow w.heap.size wr u3 (keysN (notes l l.length) [])) := by rw [hke] at OR; exact OR.out
      clear hke
      go_wp2_with fail
      go_ret
      exact ⟨_, rfl, OE.out, BR.out⟩
end Go.Proofs.Ytnfbcmnlloipiaa
