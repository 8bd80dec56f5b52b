/-
  Txn beyond the transactions; the document's Kind.
-/
import Derived.Test.YtnfbcmnlloipiaaTb17
namespace Go.Proofs.Ytnfbcmnlloipiaa
set_option linter.unusedVariables false
set_option linter.unusedSimpArgs false
open Go.RowKit Go.Lib Go.Maps
open Tx (MTxn info_parts flatten_len flatten_get RowsIn.cells RowCells TxnRow TxnsIn TxnsOwn setCell_self cloneInts_any OpsOwn smallL cutTxn cutOp)

theorem opsOwn_nil (S : Nat → Prop) (w : World) : OpsOwn S w (.slice none 0 0) [] := ⟨none, 0, rfl, ⟨by simp, Nat.le_refl _⟩, fun h => absurd h (Nat.lt_irrefl _)⟩
set_option maxHeartbeats 4000000 in
set_option maxRecDepth 100000 in
theorem ttx_off (B : Nat) (w : World) (tb : Nat) (l : List MTxn) (h : Made B w tb l) (n : Int) (hn : n < 0 ∨ (l.length : Int) ≤ n) :
    Calls Try.prog 67 #[.pointer (some ⟨tb, 0, none⟩), .int .i64 n] w fun e w' => TxPost (0, 0, 0, 0, []) w e w' := by
  have CO : Hid (∀ W, Below w.heap.size w W → Calls Try.prog 21 #[.pointer (some ⟨tb, 0, none⟩)] W fun e w' => e = .returned (.int .i64 (l.length : Int)) ∧ W = w') := fun W hb => count_is B W tb l (h.later hb)
  have FIN : ∀ W v0 v1 v2 v3 v4, Hid (Below w.heap.size w W → Below w.heap.size w (((((W.setCell ⟨w.heap.size, 0, none⟩ v0).setCell ⟨w.heap.size, 1, none⟩ v1).setCell ⟨w.heap.size, 2, none⟩ v2).setCell ⟨w.heap.size, 3, none⟩ v3).setCell ⟨w.heap.size, 4, none⟩ v4)) := fun W v0 v1 v2 v3 v4 hb => ((((hb.setCell (Nat.le_refl _) _).setCell (Nat.le_refl _) _).setCell (Nat.le_refl _) _).setCell (Nat.le_refl _) _).setCell (Nat.le_refl _) _
  have BX : ∀ x, Hid (Below w.heap.size w (w.alloc x)) := fun x => below_box w x
  clear h
  by_cases h0 : n < 0
  · have hd0 : decide (n < 0) = true := by simpa using h0
    go_enter Try.func67, Try.ntmps67
    go_wp2_with fail
    refine bodyPost_ret (v := .agg #[.int .i64 0, .int .i64 0, .int .i64 0, .int .i64 0, .slice none 0 0]) (by simp [results, Try.results67, go_sem]) rfl ?_
    exact ⟨none, 0, 0, rfl, opsOwn_nil _ _, (BX _).out⟩
  · have h1 : (l.length : Int) ≤ n := by omega
    have hd0 : decide (n < 0) = false := by simpa using h0
    have hd1 : decide ((l.length : Int) ≤ n) = true := by simpa using h1
    go_enter Try.func67, Try.ntmps67
    go_wp2_with (go_at_call 21; refine (CO.out _ (BX _).out).mono ?_; rintro e w' ⟨rfl, rfl⟩)
    refine bodyPost_ret (v := .agg #[.int .i64 0, .int .i64 0, .int .i64 0, .int .i64 0, .slice none 0 0]) (by simp [results, Try.results67, go_sem]) rfl ?_
    exact ⟨none, 0, 0, rfl, opsOwn_nil _ _, (BX _).out⟩
theorem kind_stays (N M : List MN) (s : ByteArray) (h : kindN N s ≠ 0) : kindN (N ++ M) s = kindN N s := by
  unfold kindN at h ⊢
  rw [List.find?_append]
  cases hf : N.find? (fun x => decide (x.2.2.key = s ∧ thing x.2.2.kind ≠ 0)) with
  | none =>
    rw [hf] at h
    simp at h
  | some y => rfl
theorem notes_part (l : List MTxn) : ∀ n k j, k < n → j ≤ (l.getD k default).ops.length → ∃ M, notes l n = (notes l k ++ (notesT k (l.getD k default).ops).take j) ++ M
  | 0, k, j, h, _ => absurd h (Nat.not_lt_zero _)
  | n + 1, k, j, h, hj => by
    rw [notes]
    by_cases e : k = n
    · subst e
      exact ⟨(notesT k (l.getD k default).ops).drop j, by rw [List.append_assoc, List.take_append_drop]⟩
    · obtain ⟨M, hM⟩ := notes_part l n k j (by omega) hj
      exact ⟨M ++ notesT n (l.getD n default).ops, by rw [hM, List.append_assoc]⟩
set_option maxHeartbeats 8000000 in
set_option maxRecDepth 100000 in
theorem rkind_is {S : Nat → Prop} (w : World) (v : Value) (l : List MTxn) (s : ByteArray) (h : TxnsIn S w v l) (hl : l.length ≤ 1000) (hten : ∀ t ∈ l, t.ops.length ≤ 10) :
    Calls Try.prog 35 #[v, .string s] w fun e w' => e = .returned (.int .i64 (kindN (notes l l.length) s)) ∧ Below w.heap.size w w' := by
  obtain ⟨a1, c1, rfl, l1, k1⟩ := RowsIn.cells h (by omega)
  have HC := hid k1
  have HTEN := hid hten
  have hli : (l.length : Int) ≤ 1000 := by omega
  clear h k1 hten
  go_enter Try.func35, Try.ntmps35
  go_wp2_with fail
  go_loopg [6, 8, 11] l.length (fun gg _ _ i wr => ∃ k : Nat, k ≤ l.length ∧ l.length - k ≤ gg ∧ i = .int .i64 k ∧ Aside (Below w.heap.size w wr) ∧ Aside (kindN (notes l k) s = 0))
  case atStart => exact ⟨0, Nat.zero_le _, by omega, rfl, Below.refl _ _, rfl⟩
  case round =>
    obtain ⟨k, hk, hgk, rfl, BR, OR⟩ := hrel
    by_cases hlt : k < l.length
    · have hlti : (k : Int) < l.length := by omega
      obtain ⟨b, o, cs, rfl, hbl, _, ⟨ov, hcs, hops⟩, hcell⟩ := HC.out k hlt
      subst hcs
      obtain ⟨oa, oc, hov, hol, hoc⟩ := id hops
      subst hov
      have d0 := (BR.out.cell (p := ⟨b, o + k * 5 + 0, none⟩) hbl).trans (hcell 0 _ rfl)
      have d1 := (BR.out.cell (p := ⟨b, o + k * 5 + 1, none⟩) hbl).trans (hcell 1 _ rfl)
      have d2 := (BR.out.cell (p := ⟨b, o + k * 5 + 2, none⟩) hbl).trans (hcell 2 _ rfl)
      have d3 := (BR.out.cell (p := ⟨b, o + k * 5 + 3, none⟩) hbl).trans (hcell 3 _ rfl)
      have d4 := (BR.out.cell (p := ⟨b, o + k * 5 + 4, none⟩) hbl).trans (hcell 4 _ rfl)
      rw [Nat.add_zero] at d0
      have hten : (l.getD k default).ops.length ≤ 10 := HTEN.out _ (getD_mem l k hlt)
      have HNT : Hid (notes l (k + 1) = notes l k ++ notesT k (l.getD k default).ops) := rfl
      have HPT : Hid (∀ j, j ≤ (l.getD k default).ops.length → ∃ M, notes l l.length = (notes l k ++ (notesT k (l.getD k default).ops).take j) ++ M) := fun j hj => notes_part l l.length k j hlt hj
      have HOC := hid hoc
      have BN : ∀ x, Hid (Below w.heap.size w (wr.alloc x)) := fun x => BR.out.trans ((below_box wr _).mono BR.out.size)
      generalize (l.getD k default).ops = T at *
      generalize l.getD k default = TX at *
      clear hcell hops hoc
      go_wp2_with fail
      have hTi : (T.length : Int) ≤ 10 := by omega
      have OR2 := hid OR.out
      go_loopg [8, 18] T.length (fun gg _ i wi => ∃ j : Nat, j ≤ T.length ∧ T.length - j ≤ gg ∧ i = .int .i64 j ∧ Aside (Below w.heap.size w wi) ∧ Aside (kindN (notes l k ++ (notesT k T).take j) s = 0))
      case atStart => exact ⟨0, Nat.zero_le _, by omega, rfl, (BN _).out, (by rw [List.take_zero, List.append_nil]; exact OR2.out)⟩
      case round =>
        clear BN BR OR OR2 d0 d1 d2 d3 d4
        obtain ⟨j, hj, hgj, rfl, BJ, OJ⟩ := hrel
        by_cases hjl : j < T.length
        · have hjli : (j : Int) < T.length := by omega
          obtain ⟨ob, oo, rfl, _, hcs⟩ := HOC.out (by omega)
          obtain ⟨cs, _, ⟨lv, hcse, hli2⟩, hcell⟩ := hcs j hjl
          subst hcse
          obtain ⟨la, lc, rfl, _⟩ := id hli2
          have hobl := World.block_lt_of_cell? _ _ (hcell 0 _ rfl)
          have x0 := (BJ.out.cell (p := ⟨ob, oo + j * 6 + 0, none⟩) hobl).trans (hcell 0 _ rfl)
          have x1 := (BJ.out.cell (p := ⟨ob, oo + j * 6 + 1, none⟩) hobl).trans (hcell 1 _ rfl)
          have x2 := (BJ.out.cell (p := ⟨ob, oo + j * 6 + 2, none⟩) hobl).trans (hcell 2 _ rfl)
          have x3 := (BJ.out.cell (p := ⟨ob, oo + j * 6 + 3, none⟩) hobl).trans (hcell 3 _ rfl)
          have x4 := (BJ.out.cell (p := ⟨ob, oo + j * 6 + 4, none⟩) hobl).trans (hcell 4 _ rfl)
          have x5 := (BJ.out.cell (p := ⟨ob, oo + j * 6 + 5, none⟩) hobl).trans (hcell 5 _ rfl)
          rw [Nat.add_zero] at x0
          have KS : Hid (kindN (notes l k ++ (notesT k T).take (j + 1)) s = if (T.getD j default).key = s then thing (T.getD j default).kind else 0) := by
            show _ = _
            rw [notesT_take k T j hjl, ← List.append_assoc, kind_snoc, if_pos OJ.out]
          have KE : Hid (kindN (notes l k ++ (notesT k T).take (j + 1)) s ≠ 0 → kindN (notes l l.length) s = kindN (notes l k ++ (notesT k T).take (j + 1)) s) := fun hne => by
            obtain ⟨M, hM⟩ := HPT.out (j + 1) (by omega)
            rw [hM]
            exact kind_stays _ _ _ hne
          have BN : ∀ x, Hid (Below w.heap.size w (wr.alloc x)) := fun x => BJ.out.trans ((below_box wr _).mono BJ.out.size)
          clear hcell hcs hli2 OJ
          generalize T.getD j default = O at *
          obtain ⟨ok, os, ovv, ol, oh, on⟩ := O
          simp only [MOp.kind, MOp.key, MOp.value, MOp.list, MOp.has, MOp.nl] at x0 x1 x2 x3 x4 x5 KS
          by_cases hks : os = s
          · have hkb : (os.toList == s.toList) = true := by rw [hks]; simp
            have K2 : Hid (kindN (notes l k ++ (notesT k T).take (j + 1)) s = thing ok) := by have := KS.out; rw [if_pos hks] at this; exact this
            clear KS hks
            by_cases h1 : ok = 1
            · subst h1
              have e9 : Hid (kindN (notes l l.length) s = 1) := by
                have h9 : thing 1 = 1 := by decide
                have h8 := K2.out
                rw [h9] at h8
                exact (KE.out (by rw [h8]; decide)).trans h8
              clear K2 KE
              go_wp2_with fail
              go_ret
              exact ⟨by rw [e9.out]; rfl, (BN _).out⟩
            · skip
              by_cases h2 : ok = 2
              · subst h2
                have e9 : Hid (kindN (notes l l.length) s = 1) := by
                  have h9 : thing 2 = 1 := by decide
                  have h8 := K2.out
                  rw [h9] at h8
                  exact (KE.out (by rw [h8]; decide)).trans h8
                clear K2 KE
                go_wp2_with fail
                go_ret
                exact ⟨by rw [e9.out]; rfl, (BN _).out⟩
              · skip
                by_cases h3 : ok = 3
                · subst h3
                  have e9 : Hid (kindN (notes l l.length) s = 3) := by
                    have h9 : thing 3 = 3 := by decide
                    have h8 := K2.out
                    rw [h9] at h8
                    exact (KE.out (by rw [h8]; decide)).trans h8
                  clear K2 KE
                  go_wp2_with fail
                  go_ret
                  exact ⟨by rw [e9.out]; rfl, (BN _).out⟩
                · skip
                  by_cases h4 : ok = 4
                  · subst h4
                    have e9 : Hid (kindN (notes l l.length) s = 3) := by
                      have h9 : thing 4 = 3 := by decide
                      have h8 := K2.out
                      rw [h9] at h8
                      exact (KE.out (by rw [h8]; decide)).trans h8
                    clear K2 KE
                    go_wp2_with fail
                    go_ret
                    exact ⟨by rw [e9.out]; rfl, (BN _).out⟩
                  · skip
                    have b1 : (ok == 1) = false := by simpa using h1
                    have b2 : (ok == 2) = false := by simpa using h2
                    have b3 : (ok == 3) = false := by simpa using h3
                    have b4 : (ok == 4) = false := by simpa using h4
                    have K3 : Hid (kindN (notes l k ++ (notesT k T).take (j + 1)) s = 0) := by have := K2.out; rw [show thing ok = 0 from by simp [thing, h1, h2, h3, h4]] at this; exact this
                    clear K2 KE
                    go_wp2_with fail
                    go_roundg (T.length - (j + 1))
                    case measure => omega
                    case rel => exact ⟨j + 1, by omega, by omega, by go_num, (BN _).out, K3.out⟩
          · have hkb : (os.toList == s.toList) = false := by
              cases hc : (os.toList == s.toList) with
              | false => rfl
              | true => exact absurd (cond_ws ▸ hc) hks
            have K2 : Hid (kindN (notes l k ++ (notesT k T).take (j + 1)) s = 0) := by have := KS.out; rw [if_neg hks] at this; exact this
            clear KS KE
            go_wp2_with fail
            go_roundg (T.length - (j + 1))
            case measure => omega
            case rel => exact ⟨j + 1, by omega, by omega, by go_num, (BN _).out, K2.out⟩
        · have hje : j = T.length := by omega
          rw [hje, List.take_of_length_le (by rw [notesT_len]; exact Nat.le_refl _)] at OJ
          clear hje
          go_wp2_with fail
          go_roundg (l.length - (k + 1))
          case measure => omega
          case rel => exact ⟨k + 1, by omega, by omega, by go_num, BJ.out, (by rw [HNT.out]; exact OJ.out)⟩
    · have hke : k = l.length := by omega
      have OE : Hid (kindN (notes l l.length) s = 0) := by rw [hke] at OR; exact OR.out
      clear hke
      go_wp2_with fail
      go_ret
      exact ⟨by rw [OE.out]; rfl, BR.out⟩
end Go.Proofs.Ytnfbcmnlloipiaa
