/-
  The document's External.
-/
import Derived.Test.YtadlnkaphkbfdaaIn38
import Derived.Test.YtadlnkaphkbfdaaIn19
namespace Go.Proofs.Ytadlnkaphkbfdaa
set_option linter.unusedVariables false
set_option linter.unusedSimpArgs false
open Go.RowKit Go.Lib Go.Maps Go.Sort

theorem all_snoc (f : Nat → Bool) (n : Nat) : (List.range (n + 1)).all f = ((List.range n).all f && f n) := by
  rw [List.range_succ, List.all_append]; simp
theorem op_slice {w : World} {lv : Value} {l : List Int} (h : IntsIn Any w lv l) : ∃ a n c, lv = .slice a n c := by obtain ⟨a, c, h, _⟩ := h; exact ⟨a, _, c, h⟩
/-- The cells of an operation, in a later world. -/
theorem cells_later {w w' : World} {b f : Nat} {v : Value} (hb : Below w.heap.size w w') (h : w.cell? ⟨b, f, none⟩ = some v) : w'.cell? ⟨b, f, none⟩ = some v := (hb.cell (p := ⟨b, f, none⟩) (World.block_lt_of_cell? _ _ h)).trans h

set_option maxHeartbeats 8000000 in
set_option maxRecDepth 100000 in
theorem rext_is (v : Value) (l : List MOp) (w : World) (h : OpsIn Any w v l) :
    Calls Try.prog 14 #[v] w fun e w' => ∃ v', e = .returned v' ∧ IR w.heap.size w' v' (outsL l) ∧ Below w.heap.size w w' := by
  obtain ⟨ao, c, rfl, ⟨hlen, hcap⟩, hc⟩ := ops_at h
  have HC := hid hc
  clear h hc
  have hlen2 : (l.length : Int) ≤ 2199023255552 := by omega
  obtain ⟨i0, hi0, hz'⟩ := Option.map_eq_some_iff.1 Try.info3p
  simp only [Prod.mk.injEq] at hz'
  obtain ⟨hz0, hz1, hz2⟩ := hz'
  have HI0 := hid hi0
  have HZ0 := hid hz0
  have HZ1 := hid hz1
  have HZ2 := hid hz2
  clear hi0 hz0 hz1 hz2
  go_enter Try.func14, Try.ntmps14
  go_wp2_with fail
  go_loopg [3, 4, 5, 6, 8, 11] l.length (fun g out _ _ _ _ i wr => ∃ k : Nat, k ≤ l.length ∧ l.length - k ≤ g ∧ i = .int .i64 k ∧ Aside (Below w.heap.size w wr) ∧ Aside (IR w.heap.size wr out (((List.range k).filter (outB l)).map fun i : Nat => (i : Int))))
  case atStart => exact ⟨0, Nat.zero_le _, by omega, rfl, Below.refl _ _, World.ownsRow_nil _ _ _ _⟩
  case round =>
    obtain ⟨k, hk, hg, rfl, BX, RX⟩ := hrel
    have SX := BX.out.size
    by_cases hkl : k < l.length
    · have hkli : (k : Int) < l.length := by omega
      obtain ⟨bz, oz, lv, rfl, hi, k0, k1, k2, k3, k4, k5⟩ := HC.out k hkl
      have d0 := cells_later BX.out k0
      have d1 := cells_later BX.out k1
      have d2 := cells_later BX.out k2
      have d3 := cells_later BX.out k3
      have d4 := cells_later BX.out k4
      have d5 := cells_later BX.out k5
      obtain ⟨la, ln, lc, hlv⟩ := op_slice hi
      subst hlv
      clear k0 k1 k2 k3 k4 k5 hi
      obtain ⟨O, hO⟩ : ∃ O, opAt l k = O := ⟨_, rfl⟩
      have hO' : l.getD k default = O := hO
      rw [hO'] at d0 d1 d2 d4 d5
      have HOL := hid hO
      clear hO hO'
      have OB2 : Hid (outB l k = (rds O && (List.range k).all (fun j => !hits (opAt l j) O))) := by
        show outB l k = _
        unfold outB
        rw [HOL.out, decide_eq_true hkl, Bool.true_and]
      have SN := hid (range_snoc (outB l) k)
      have HB0 : Hid ((wr.alloc (.cells #[.int .i64 O.kind, .string O.key, .int .i64 O.value, .slice la ln lc, .bool O.has, .bool O.nl] 31)).heap[wr.heap.size]? = some (.cells #[.int .i64 O.kind, .string O.key, .int .i64 O.value, .slice la ln lc, .bool O.has, .bool O.nl] 31)) := heap_alloc_new wr _
      go_wp2_with fail
      go_at_call 36
      refine (rread_is O (.slice la ln lc) _).mono ?_
      rintro e w1 ⟨rfl, b1⟩
      have HOb : Hid (w1.heap[wr.heap.size]? = some (.cells #[.int .i64 O.kind, .string O.key, .int .i64 O.value, .slice la ln lc, .bool O.has, .bool O.nl] 31)) := (b1.block _ (blt HB0.out)).trans HB0.out
      have B1 : Hid (Below wr.heap.size wr w1) := (below_box wr _).trans (b1.mono (by simp))
      have R1 : Hid (IR w.heap.size w1 _ _) := RX.out.same (fun g hg => B1.out.block g (RX.out.block hg).2)
      have BW1 : Hid (Below w.heap.size w w1) := BX.out.trans (B1.out.mono SX)
      have S1 := B1.out.size
      clear b1 d0 d1 d2 d3 d4 d5
      cases hr : rds O with
      | false =>
        rw [hr, Bool.false_and] at OB2
        rw [OB2.out] at SN
        simp only [Bool.false_eq_true, if_false, List.append_nil] at SN
        clear hr
        go_wp2_with fail
        go_roundg (l.length - (k + 1))
        case measure => omega
        case rel => exact ⟨k + 1, by omega, by omega, by go_num, BW1.out, (show Aside _ from by rw [SN.out]; exact R1.out)⟩
      | true =>
        rw [hr, Bool.true_and] at OB2
        have HR := hid hr
        have hkc : (k : Int) ≤ (c : Int) := by omega
        clear hr
        go_wp2_with fail
        obtain ⟨ob, hob⟩ : ∃ ob, wr.heap.size = ob := ⟨_, rfl⟩
        rw [hob] at HOb S1 SX ⊢
        have HOBE := hid hob
        clear hob
        go_loopg [6, 8, 23] k (fun g fi _ j wi => ∃ (q : Nat) (bq : Bool), q ≤ k ∧ k - q ≤ g ∧ j = .int .i64 q ∧ fi = .bool bq ∧ Aside (bq = (List.range q).all (fun j => !hits (opAt l j) O)) ∧ Aside (Below w1.heap.size w1 wi))
        case atStart => exact ⟨0, true, Nat.zero_le _, by omega, rfl, rfl, rfl, Below.refl _ _⟩
        case round =>
          obtain ⟨q, bq, hq, hgq, rfl, rfl, HQ, BI⟩ := hrel
          have SI := BI.out.size
          have Bwr : Hid (Below w.heap.size w wr) := BW1.out.trans (BI.out.mono BW1.out.size)
          by_cases hqk : q < k
          · have hqki : (q : Int) < (k : Int) := by omega
            obtain ⟨bz', oz', lv', hz, hi, k0, k1, k2, k3, k4, k5⟩ := HC.out q (by omega)
            cases hz
            have d0 := cells_later Bwr.out k0
            have d1 := cells_later Bwr.out k1
            have d2 := cells_later Bwr.out k2
            have d3 := cells_later Bwr.out k3
            have d4 := cells_later Bwr.out k4
            have d5 := cells_later Bwr.out k5
            obtain ⟨pa, pn, pc, hlv⟩ := op_slice hi
            subst hlv
            clear k0 k1 k2 k3 k4 k5 hi
            obtain ⟨P, hP⟩ : ∃ P, opAt l q = P := ⟨_, rfl⟩
            have hP' : l.getD q default = P := hP
            rw [hP'] at d0 d1 d2 d4 d5
            have SQ : Hid ((List.range (q + 1)).all (fun j => !hits (opAt l j) O) = (bq && !hits P O)) := by
              show (List.range (q + 1)).all (fun j => !hits (opAt l j) O) = _
              rw [all_snoc, ← HQ.out, hP]
            have LH := hid (lik_hits (p := P) HR.out)
            clear hP hP'
            have HPa : Hid ((wr.alloc (.cells #[.int .i64 P.kind, .string P.key, .int .i64 P.value, .slice pa pn pc, .bool P.has, .bool P.nl] 31)).heap[wr.heap.size]? = some (.cells #[.int .i64 P.kind, .string P.key, .int .i64 P.value, .slice pa pn pc, .bool P.has, .bool P.nl] 31)) := heap_alloc_new wr _
            have HOa : Hid ((wr.alloc (.cells #[.int .i64 P.kind, .string P.key, .int .i64 P.value, .slice pa pn pc, .bool P.has, .bool P.nl] 31)).heap[ob]? = some (.cells #[.int .i64 O.kind, .string O.key, .int .i64 O.value, .slice la ln lc, .bool O.has, .bool O.nl] 31)) := ((below_box wr _).block _ (by have := blt HOb.out; omega)).trans ((BI.out.block _ (blt HOb.out)).trans HOb.out)
            have p0 : (wr.alloc (.cells #[.int .i64 P.kind, .string P.key, .int .i64 P.value, .slice pa pn pc, .bool P.has, .bool P.nl] 31)).cell? ⟨wr.heap.size, 0, none⟩ = some (.int .i64 P.kind) := Lib.cell_of_heap HPa.out 0
            have p1 : (wr.alloc (.cells #[.int .i64 P.kind, .string P.key, .int .i64 P.value, .slice pa pn pc, .bool P.has, .bool P.nl] 31)).cell? ⟨wr.heap.size, 1, none⟩ = some (.string P.key) := Lib.cell_of_heap HPa.out 1
            have p2 : (wr.alloc (.cells #[.int .i64 P.kind, .string P.key, .int .i64 P.value, .slice pa pn pc, .bool P.has, .bool P.nl] 31)).cell? ⟨wr.heap.size, 2, none⟩ = some (.int .i64 P.value) := Lib.cell_of_heap HPa.out 2
            have p3 : (wr.alloc (.cells #[.int .i64 P.kind, .string P.key, .int .i64 P.value, .slice pa pn pc, .bool P.has, .bool P.nl] 31)).cell? ⟨wr.heap.size, 3, none⟩ = some (.slice pa pn pc) := Lib.cell_of_heap HPa.out 3
            have p4 : (wr.alloc (.cells #[.int .i64 P.kind, .string P.key, .int .i64 P.value, .slice pa pn pc, .bool P.has, .bool P.nl] 31)).cell? ⟨wr.heap.size, 4, none⟩ = some (.bool P.has) := Lib.cell_of_heap HPa.out 4
            have p5 : (wr.alloc (.cells #[.int .i64 P.kind, .string P.key, .int .i64 P.value, .slice pa pn pc, .bool P.has, .bool P.nl] 31)).cell? ⟨wr.heap.size, 5, none⟩ = some (.bool P.nl) := Lib.cell_of_heap HPa.out 5
            have o0 : (wr.alloc (.cells #[.int .i64 P.kind, .string P.key, .int .i64 P.value, .slice pa pn pc, .bool P.has, .bool P.nl] 31)).cell? ⟨ob, 0, none⟩ = some (.int .i64 O.kind) := Lib.cell_of_heap HOa.out 0
            have o1 : (wr.alloc (.cells #[.int .i64 P.kind, .string P.key, .int .i64 P.value, .slice pa pn pc, .bool P.has, .bool P.nl] 31)).cell? ⟨ob, 1, none⟩ = some (.string O.key) := Lib.cell_of_heap HOa.out 1
            have o2 : (wr.alloc (.cells #[.int .i64 P.kind, .string P.key, .int .i64 P.value, .slice pa pn pc, .bool P.has, .bool P.nl] 31)).cell? ⟨ob, 2, none⟩ = some (.int .i64 O.value) := Lib.cell_of_heap HOa.out 2
            have o3 : (wr.alloc (.cells #[.int .i64 P.kind, .string P.key, .int .i64 P.value, .slice pa pn pc, .bool P.has, .bool P.nl] 31)).cell? ⟨ob, 3, none⟩ = some (.slice la ln lc) := Lib.cell_of_heap HOa.out 3
            have o4 : (wr.alloc (.cells #[.int .i64 P.kind, .string P.key, .int .i64 P.value, .slice pa pn pc, .bool P.has, .bool P.nl] 31)).cell? ⟨ob, 4, none⟩ = some (.bool O.has) := Lib.cell_of_heap HOa.out 4
            have o5 : (wr.alloc (.cells #[.int .i64 P.kind, .string P.key, .int .i64 P.value, .slice pa pn pc, .bool P.has, .bool P.nl] 31)).cell? ⟨ob, 5, none⟩ = some (.bool O.nl) := Lib.cell_of_heap HOa.out 5
            have LK := hid (like_is P O (.slice pa pn pc) (.slice la ln lc) (wr.alloc (.cells #[.int .i64 P.kind, .string P.key, .int .i64 P.value, .slice pa pn pc, .bool P.has, .bool P.nl] 31)) ⟨_, _, _, rfl⟩ ⟨_, _, _, rfl⟩ (rds_kind HR.out))
            go_wp2_with fail
            go_at_call 41
            refine LK.out.mono ?_
            rintro e w3 ⟨rfl, q3, os3, hw3⟩
            have b3 : Below (wr.alloc (.cells #[.int .i64 P.kind, .string P.key, .int .i64 P.value, .slice pa pn pc, .bool P.has, .bool P.nl] 31)).heap.size (wr.alloc (.cells #[.int .i64 P.kind, .string P.key, .int .i64 P.value, .slice pa pn pc, .bool P.has, .bool P.nl] 31)) w3 := by rw [hw3]; exact below_grow _ _ _
            have HP3 : Hid (w3.heap[wr.heap.size]? = some (.cells #[.int .i64 P.kind, .string P.key, .int .i64 P.value, .slice pa pn pc, .bool P.has, .bool P.nl] 31)) := (b3.block _ (blt HPa.out)).trans HPa.out
            have B3 : Hid (Below w1.heap.size w1 w3) := (BI.out.trans ((below_box wr _).mono (by omega))).trans (b3.mono (by simp; omega))
            clear b3 hw3 LK p0 p1 p2 p3 p4 p5 o0 o1 o2 o3 o4 o5 d0 d1 d2 d3 d4 d5
            have r0 : w3.cell? ⟨wr.heap.size, 0, none⟩ = some (.int .i64 P.kind) := Lib.cell_of_heap HP3.out 0
            have r1 : w3.cell? ⟨wr.heap.size, 1, none⟩ = some (.string P.key) := Lib.cell_of_heap HP3.out 1
            have r2 : w3.cell? ⟨wr.heap.size, 2, none⟩ = some (.int .i64 P.value) := Lib.cell_of_heap HP3.out 2
            have r3 : w3.cell? ⟨wr.heap.size, 3, none⟩ = some (.slice pa pn pc) := Lib.cell_of_heap HP3.out 3
            have r4 : w3.cell? ⟨wr.heap.size, 4, none⟩ = some (.bool P.has) := Lib.cell_of_heap HP3.out 4
            have r5 : w3.cell? ⟨wr.heap.size, 5, none⟩ = some (.bool P.nl) := Lib.cell_of_heap HP3.out 5
            cases hl : lik P O with
            | false =>
              rw [hl, Bool.false_and] at LH
              clear hl
              go_wp2_with fail
              go_roundg (k - (q + 1))
              case measure => omega
              case rel => exact ⟨q + 1, bq, by omega, by omega, by go_num, rfl, (show Aside _ from by show _ = (List.range (q + 1)).all _; rw [SQ.out, ← LH.out]; simp), B3.out⟩
            | true =>
              rw [hl, Bool.true_and] at LH
              clear hl
              go_wp2_with fail
              go_at_call 42
              refine (write_g P.kind P.key P.value (.slice pa pn pc) P.has P.nl _).mono ?_
              rintro e w4 ⟨rfl, q4, os4, hw4⟩
              have b4 : Below w3.heap.size w3 w4 := by rw [hw4]; exact below_grow _ _ _
              have HP4 : Hid (w4.heap[wr.heap.size]? = some (.cells #[.int .i64 P.kind, .string P.key, .int .i64 P.value, .slice pa pn pc, .bool P.has, .bool P.nl] 31)) := (b4.block _ (blt HP3.out)).trans HP3.out
              have B4 : Hid (Below w1.heap.size w1 w4) := B3.out.trans (b4.mono B3.out.size)
              have x4 : w4.cell? ⟨wr.heap.size, 4, none⟩ = some (.bool P.has) := Lib.cell_of_heap HP4.out 4
              clear b4 hw4 r0 r1 r2 r3 r4 r5
              have HW : Hid (wrt P = (P.kind == 1 || P.kind == 3)) := rfl
              rw [HW.out] at LH
              cases hw : (P.kind == 1 || P.kind == 3) with
              | true =>
                rw [hw, Bool.true_or] at LH
                clear hw
                go_wp2_with fail
                go_roundg (k - (q + 1))
                case measure => omega
                case rel => exact ⟨q + 1, false, by omega, by omega, by go_num, rfl, (show Aside _ from by show _ = (List.range (q + 1)).all _; rw [SQ.out, ← LH.out]; simp), B4.out⟩
              | false =>
                rw [hw, Bool.false_or] at LH
                clear hw
                cases hh : P.has with
                | true =>
                  rw [hh] at LH x4
                  clear hh
                  go_wp2_with fail
                  go_roundg (k - (q + 1))
                  case measure => omega
                  case rel => exact ⟨q + 1, false, by omega, by omega, by go_num, rfl, (show Aside _ from by show _ = (List.range (q + 1)).all _; rw [SQ.out, ← LH.out]; simp), B4.out⟩
                | false =>
                  rw [hh] at LH x4
                  clear hh
                  go_wp2_with fail
                  go_roundg (k - (q + 1))
                  case measure => omega
                  case rel => exact ⟨q + 1, bq, by omega, by omega, by go_num, rfl, (show Aside _ from by show _ = (List.range (q + 1)).all _; rw [SQ.out, ← LH.out]; simp), B4.out⟩
          · have hqki : ¬ (q : Int) < (k : Int) := by omega
            obtain rfl : q = k := by omega
            have RI : Hid (IR w.heap.size wr _ _) := R1.out.same (fun g hg => BI.out.block g (R1.out.block hg).2)
            rw [← HQ.out] at OB2
            cases bq with
            | false =>
              rw [OB2.out] at SN
              simp only [Bool.false_eq_true, if_false, List.append_nil] at SN
              go_wp2_with fail
              go_roundg (l.length - (q + 1))
              case measure => omega
              case rel => exact ⟨q + 1, by omega, by omega, by go_num, Bwr.out, (show Aside _ from by rw [SN.out]; exact RI.out)⟩
            | true =>
              rw [OB2.out] at SN
              simp only [if_true] at SN
              have hfl : (((List.range q).filter (outB l)).map fun i : Nat => (i : Int)).length ≤ q := by rw [List.length_map]; exact Nat.le_trans (List.length_filter_le _ _) (by simp)
              generalize ((List.range q).filter (outB l)).map (fun i : Nat => (i : Int)) = fp at *
              go_wp2_with (at_builtin; refine wpList_append_lies _ rfl _ _ 26 rfl w.heap.size 3 i0 _ 1 8 Try.underlying26 HI0.out HZ0.out HZ1.out HZ2.out rfl (by decide) _ fp.length (fp.map (Value.int .i64)) rfl (RI.out.same (fun g hg => (below_box wr _).block g (RI.out.block hg).2)) ⟨wr.heap.size, 0, none⟩ 1 1 [.int .i64 q] rfl rfl (World.news_of_block (cs := #[.int .i64 q]) (t := 3) (fr := (0, 0)) (heap_alloc_new wr _)) (by simp [Value.oneCell']) (by decide) (by unfold maxLen; omega) (by omega) (by have := Bwr.out.size; simp; omega) _ rfl ?_; intro g5 cap5 w5 hown hgrow hat hglt; have O5 := hid hown; have G5 := hid hgrow; clear hown hgrow hat hglt)
              have S5 : wr.heap.size + 1 ≤ w5.heap.size := by have := G5.out.size; simpa using this
              go_roundg (l.length - (q + 1))
              case measure => omega
              case rel => exact ⟨q + 1, by omega, by omega, by go_num, (show Aside _ from Bwr.out.trans ⟨G5.out.os, G5.out.tape, G5.out.output, by omega, fun b hb => (G5.out.block b (by have := Bwr.out.size; simp; omega) (fun e => by have h9 := (RI.out.block e.symm).1; omega)).trans ((below_box wr _).block b (by have := Bwr.out.size; omega))⟩), (show Aside _ from by rw [SN.out]; unfold IR; rw [List.length_append, List.map_append]; exact O5.out)⟩
    · have hkli : ¬ (k : Int) < l.length := by omega
      obtain rfl : k = l.length := by omega
      go_wp2_with fail
      go_ret
      exact ⟨_, rfl, RX.out, BX.out⟩
end Go.Proofs.Ytadlnkaphkbfdaa
