/-
  The document's Finals.
-/
import Derived.Test.YtadlnkaphkbfdaaIn39
import Derived.Test.YtadlnkaphkbfdaaIn36
namespace Go.Proofs.Ytadlnkaphkbfdaa
set_option linter.unusedVariables false
set_option linter.unusedSimpArgs false
open Go.RowKit Go.Lib Go.Maps Go.Sort

def fhit (p o : MOp) : Bool := wrt p && lik p o
theorem finB_at {l : List MOp} {k : Nat} (hk : k < l.length) (hw : wrt (opAt l k) = true) : finB l k = (List.range (l.length - (k + 1))).all (fun q => !fhit (opAt l (k + 1 + q)) (opAt l k)) := by
  rw [Bool.eq_iff_iff, finB_iff, List.all_eq_true]
  constructor
  · rintro ⟨_, _, h⟩ q hq
    rw [List.mem_range] at hq
    unfold fhit
    cases h1 : wrt (opAt l (k + 1 + q)) with
    | false => rfl
    | true =>
      cases h2 : lik (opAt l (k + 1 + q)) (opAt l k) with
      | false => rfl
      | true => exact absurd ((lik_writes h1 hw).1 h2) (h (k + 1 + q) (by omega) (by omega) h1)
  · intro h
    refine ⟨hk, hw, fun j h1 h2 h3 h4 => ?_⟩
    have h5 := h (j - (k + 1)) (List.mem_range.2 (by omega))
    rw [show k + 1 + (j - (k + 1)) = j by omega] at h5
    unfold fhit at h5
    rw [h3, (lik_writes h3 hw).2 h4] at h5
    cases h5
theorem finB_not {l : List MOp} {k : Nat} (hw : wrt (opAt l k) = false) : finB l k = false := by
  cases h : finB l k with
  | false => rfl
  | true => have := (finB_iff.1 h).2.1; rw [hw] at this; cases this

set_option maxHeartbeats 8000000 in
set_option maxRecDepth 100000 in
theorem rfin_is (v : Value) (l : List MOp) (w : World) (h : OpsIn Any w v l) :
    Calls Try.prog 16 #[v] w fun e w' => ∃ v', e = .returned v' ∧ IR w.heap.size w' v' (finsL l) ∧ Below w.heap.size w w' := by
  obtain ⟨ao, c, rfl, ⟨hlen, hcap⟩, hc⟩ := ops_at h
  have HC := hid hc
  clear h hc
  have hlen2 : (l.length : Int) ≤ 2199023255552 := by omega
  obtain ⟨i0, hi0, hz'⟩ := Option.map_eq_some_iff.1 Try.info3p
  simp only [Prod.mk.injEq] at hz'
  obtain ⟨hz0, hz1, hz2⟩ := hz'
  have HI0 := hid hi0
  have HZ0 := hid hz0
  have HZ1 := hid hz1
  have HZ2 := hid hz2
  clear hi0 hz0 hz1 hz2
  go_enter Try.func16, Try.ntmps16
  go_wp2_with fail
  go_loopg [3, 4, 5, 6, 8, 11] l.length (fun g out _ _ _ _ i wr => ∃ k : Nat, k ≤ l.length ∧ l.length - k ≤ g ∧ i = .int .i64 k ∧ Aside (Below w.heap.size w wr) ∧ Aside (IR w.heap.size wr out (((List.range k).filter (finB l)).map fun i : Nat => (i : Int))))
  case atStart => exact ⟨0, Nat.zero_le _, by omega, rfl, Below.refl _ _, World.ownsRow_nil _ _ _ _⟩
  case round =>
    obtain ⟨k, hk, hg, rfl, BX, RX⟩ := hrel
    have SX := BX.out.size
    by_cases hkl : k < l.length
    · have hkli : (k : Int) < l.length := by omega
      obtain ⟨bz, oz, lv, rfl, hi, k0, k1, k2, k3, k4, k5⟩ := HC.out k hkl
      have d0 := cells_later BX.out k0
      have d1 := cells_later BX.out k1
      have d2 := cells_later BX.out k2
      have d3 := cells_later BX.out k3
      have d4 := cells_later BX.out k4
      have d5 := cells_later BX.out k5
      obtain ⟨la, ln, lc, hlv⟩ := op_slice hi
      subst hlv
      clear k0 k1 k2 k3 k4 k5 hi
      obtain ⟨O, hO⟩ : ∃ O, opAt l k = O := ⟨_, rfl⟩
      have hO' : l.getD k default = O := hO
      rw [hO'] at d0 d1 d2 d4 d5
      have HOL := hid hO
      clear hO hO'
      have SN := hid (range_snoc (finB l) k)
      have HB0 : Hid ((wr.alloc (.cells #[.int .i64 O.kind, .string O.key, .int .i64 O.value, .slice la ln lc, .bool O.has, .bool O.nl] 31)).heap[wr.heap.size]? = some (.cells #[.int .i64 O.kind, .string O.key, .int .i64 O.value, .slice la ln lc, .bool O.has, .bool O.nl] 31)) := heap_alloc_new wr _
      go_wp2_with fail
      go_at_call 42
      refine (write_g O.kind O.key O.value (.slice la ln lc) O.has O.nl _).mono ?_
      rintro e w1 ⟨rfl, q1, os1, hw1⟩
      have b1 : Below (wr.alloc (.cells #[.int .i64 O.kind, .string O.key, .int .i64 O.value, .slice la ln lc, .bool O.has, .bool O.nl] 31)).heap.size (wr.alloc (.cells #[.int .i64 O.kind, .string O.key, .int .i64 O.value, .slice la ln lc, .bool O.has, .bool O.nl] 31)) w1 := by rw [hw1]; exact below_grow _ _ _
      clear hw1
      have HOb : Hid (w1.heap[wr.heap.size]? = some (.cells #[.int .i64 O.kind, .string O.key, .int .i64 O.value, .slice la ln lc, .bool O.has, .bool O.nl] 31)) := (b1.block _ (blt HB0.out)).trans HB0.out
      have B1 : Hid (Below wr.heap.size wr w1) := (below_box wr _).trans (b1.mono (by simp))
      have R1 : Hid (IR w.heap.size w1 _ _) := RX.out.same (fun g hg => B1.out.block g (RX.out.block hg).2)
      have BW1 : Hid (Below w.heap.size w w1) := BX.out.trans (B1.out.mono SX)
      have S1 := B1.out.size
      clear b1 d0 d1 d2 d3 d4 d5
      cases hr : (O.kind == 1 || O.kind == 3) with
      | false =>
        have OB2 : Hid (finB l k = false) := finB_not (by rw [HOL.out]; exact hr)
        rw [OB2.out] at SN
        simp only [Bool.false_eq_true, if_false, List.append_nil] at SN
        clear hr
        go_wp2_with fail
        go_roundg (l.length - (k + 1))
        case measure => omega
        case rel => exact ⟨k + 1, by omega, by omega, by go_num, BW1.out, (show Aside _ from by rw [SN.out]; exact R1.out)⟩
      | true =>
        have HR : Hid (wrt O = true) := hr
        have OB2 : Hid (finB l k = (List.range (l.length - (k + 1))).all (fun q => !fhit (opAt l (k + 1 + q)) O)) := by
          have h1 := finB_at hkl (by rw [HOL.out]; exact hr)
          rw [HOL.out] at h1
          exact h1
        have hkc : (k : Int) + 1 ≤ (l.length : Int) := by omega
        have hkc2 : (k : Int) + 1 ≤ (c : Int) := by omega
        have hkn : k + 1 ≤ l.length := by omega
        have hknc : k + 1 ≤ c := by omega
        clear hr
        go_wp2_with fail
        · have hz2 : l.length - (k + 1) = 0 := by omega
          have hz : l.length - c = 0 := by omega
          rw [hz2] at OB2
          rw [← h, hz]
          clear h hz2
          replace OB2 : Hid (finB l k = true) := OB2.out
          clear hz
          go_loopg [6, 8, 24] 0 (fun g fi _ j wi => j = .int .i64 0 ∧ fi = .bool true ∧ wi = w1)
          case atStart => exact ⟨rfl, rfl, rfl⟩
          case round =>
            obtain ⟨rfl, rfl, rfl⟩ := hrel
            have S1w := BW1.out.size
            rw [OB2.out] at SN
            simp only [if_true] at SN
            have hfl : (((List.range k).filter (finB l)).map fun i : Nat => (i : Int)).length ≤ k := by rw [List.length_map]; exact Nat.le_trans (List.length_filter_le _ _) (by simp)
            generalize ((List.range k).filter (finB l)).map (fun i : Nat => (i : Int)) = fp at *
            go_wp2_with (at_builtin; refine wpList_append_lies _ rfl _ _ 26 rfl w.heap.size 3 i0 _ 1 8 Try.underlying26 HI0.out HZ0.out HZ1.out HZ2.out rfl (by decide) _ fp.length (fp.map (Value.int .i64)) rfl (R1.out.same (fun g hg => (below_box wr _).block g (R1.out.block hg).2)) ⟨wr.heap.size, 0, none⟩ 1 1 [.int .i64 k] rfl rfl (World.news_of_block (cs := #[.int .i64 k]) (t := 3) (fr := (0, 0)) (heap_alloc_new wr _)) (by simp [Value.oneCell']) (by decide) (by unfold maxLen; omega) (by omega) (by have := BW1.out.size; simp; omega) _ rfl ?_; intro g5 cap5 w5 hown hgrow hat hglt; have O5 := hid hown; have G5 := hid hgrow; clear hown hgrow hat hglt)
            have S5 : wr.heap.size + 1 ≤ w5.heap.size := by have := G5.out.size; simpa using this
            go_roundg (l.length - (k + 1))
            case measure => omega
            case rel => exact ⟨k + 1, by omega, by omega, by go_num, (show Aside _ from BW1.out.trans ⟨G5.out.os, G5.out.tape, G5.out.output, by omega, fun b hb => (G5.out.block b (by have := BW1.out.size; simp; omega) (fun e => by have h9 := (R1.out.block e.symm).1; omega)).trans ((below_box wr _).block b (by have := BW1.out.size; omega))⟩), (show Aside _ from by rw [SN.out]; unfold IR; rw [List.length_append, List.map_append]; exact O5.out)⟩
        · obtain ⟨ob, hob⟩ : ∃ ob, wr.heap.size = ob := ⟨_, rfl⟩
          rw [hob] at HOb S1 SX ⊢
          have HOBE := hid hob
          clear hob
          obtain ⟨N, hN⟩ : ∃ N, l.length - (k + 1) = N := ⟨_, rfl⟩
          rw [hN] at OB2 ⊢
          have hNl : k + 1 + N = l.length := by omega
          clear hN
          go_loopg [6, 8, 24] N (fun g fi _ j wi => ∃ (q : Nat) (bq : Bool), q ≤ N ∧ N - q ≤ g ∧ j = .int .i64 q ∧ fi = .bool bq ∧ Aside (bq = (List.range q).all (fun j => !fhit (opAt l (k + 1 + j)) O)) ∧ Aside (Below w1.heap.size w1 wi))
          case atStart => exact ⟨0, true, Nat.zero_le _, by omega, rfl, rfl, rfl, Below.refl _ _⟩
          case round =>
            obtain ⟨q, bq, hq, hgq, rfl, rfl, HQ, BI⟩ := hrel
            have SI := BI.out.size
            have BWI : Hid (Below w.heap.size w wr) := BW1.out.trans (BI.out.mono BW1.out.size)
            by_cases hqk : q < N
            · have hqki : (q : Int) < (N : Int) := by omega
              obtain ⟨bz', oz', lv', hz, hi, k0, k1, k2, k3, k4, k5⟩ := HC.out (k + 1 + q) (by omega)
              cases hz
              have ea : oz + (k + 1) * 6 + q * 6 = oz + (k + 1 + q) * 6 := by omega
              have d0 := cells_later BWI.out k0
              have d1 := cells_later BWI.out k1
              have d2 := cells_later BWI.out k2
              have d3 := cells_later BWI.out k3
              have d4 := cells_later BWI.out k4
              have d5 := cells_later BWI.out k5
              rw [← ea] at d0 d1 d2 d3 d4 d5
              obtain ⟨pa, pn, pc, hlv⟩ := op_slice hi
              subst hlv
              clear k0 k1 k2 k3 k4 k5 hi ea
              obtain ⟨P, hP⟩ : ∃ P, opAt l (k + 1 + q) = P := ⟨_, rfl⟩
              have hP' : l.getD (k + 1 + q) default = P := hP
              rw [hP'] at d0 d1 d2 d4 d5
              have SQ : Hid ((List.range (q + 1)).all (fun j => !fhit (opAt l (k + 1 + j)) O) = (bq && !(wrt P && lik P O))) := by
                show (List.range (q + 1)).all (fun j => !fhit (opAt l (k + 1 + j)) O) = _
                rw [all_snoc, ← HQ.out, hP]
                rfl
              clear hP hP'
              have HPa : Hid ((wr.alloc (.cells #[.int .i64 P.kind, .string P.key, .int .i64 P.value, .slice pa pn pc, .bool P.has, .bool P.nl] 31)).heap[wr.heap.size]? = some (.cells #[.int .i64 P.kind, .string P.key, .int .i64 P.value, .slice pa pn pc, .bool P.has, .bool P.nl] 31)) := heap_alloc_new wr _
              have HOa : Hid ((wr.alloc (.cells #[.int .i64 P.kind, .string P.key, .int .i64 P.value, .slice pa pn pc, .bool P.has, .bool P.nl] 31)).heap[ob]? = some (.cells #[.int .i64 O.kind, .string O.key, .int .i64 O.value, .slice la ln lc, .bool O.has, .bool O.nl] 31)) := ((below_box wr _).block _ (by have := blt HOb.out; omega)).trans ((BI.out.block _ (blt HOb.out)).trans HOb.out)
              have p0 : (wr.alloc (.cells #[.int .i64 P.kind, .string P.key, .int .i64 P.value, .slice pa pn pc, .bool P.has, .bool P.nl] 31)).cell? ⟨wr.heap.size, 0, none⟩ = some (.int .i64 P.kind) := Lib.cell_of_heap HPa.out 0
              have p1 : (wr.alloc (.cells #[.int .i64 P.kind, .string P.key, .int .i64 P.value, .slice pa pn pc, .bool P.has, .bool P.nl] 31)).cell? ⟨wr.heap.size, 1, none⟩ = some (.string P.key) := Lib.cell_of_heap HPa.out 1
              have p2 : (wr.alloc (.cells #[.int .i64 P.kind, .string P.key, .int .i64 P.value, .slice pa pn pc, .bool P.has, .bool P.nl] 31)).cell? ⟨wr.heap.size, 2, none⟩ = some (.int .i64 P.value) := Lib.cell_of_heap HPa.out 2
              have p3 : (wr.alloc (.cells #[.int .i64 P.kind, .string P.key, .int .i64 P.value, .slice pa pn pc, .bool P.has, .bool P.nl] 31)).cell? ⟨wr.heap.size, 3, none⟩ = some (.slice pa pn pc) := Lib.cell_of_heap HPa.out 3
              have p4 : (wr.alloc (.cells #[.int .i64 P.kind, .string P.key, .int .i64 P.value, .slice pa pn pc, .bool P.has, .bool P.nl] 31)).cell? ⟨wr.heap.size, 4, none⟩ = some (.bool P.has) := Lib.cell_of_heap HPa.out 4
              have p5 : (wr.alloc (.cells #[.int .i64 P.kind, .string P.key, .int .i64 P.value, .slice pa pn pc, .bool P.has, .bool P.nl] 31)).cell? ⟨wr.heap.size, 5, none⟩ = some (.bool P.nl) := Lib.cell_of_heap HPa.out 5
              go_wp2_with fail
              go_at_call 42
              refine (write_g P.kind P.key P.value (.slice pa pn pc) P.has P.nl _).mono ?_
              rintro e w3 ⟨rfl, q3, os3, hw3⟩
              have b3 : Below (wr.alloc (.cells #[.int .i64 P.kind, .string P.key, .int .i64 P.value, .slice pa pn pc, .bool P.has, .bool P.nl] 31)).heap.size (wr.alloc (.cells #[.int .i64 P.kind, .string P.key, .int .i64 P.value, .slice pa pn pc, .bool P.has, .bool P.nl] 31)) w3 := by rw [hw3]; exact below_grow _ _ _
              have HP3 : Hid (w3.heap[wr.heap.size]? = some (.cells #[.int .i64 P.kind, .string P.key, .int .i64 P.value, .slice pa pn pc, .bool P.has, .bool P.nl] 31)) := (b3.block _ (blt HPa.out)).trans HPa.out
              have HO3 : Hid (w3.heap[ob]? = some (.cells #[.int .i64 O.kind, .string O.key, .int .i64 O.value, .slice la ln lc, .bool O.has, .bool O.nl] 31)) := (b3.block _ (blt HOa.out)).trans HOa.out
              have B3 : Hid (Below w1.heap.size w1 w3) := (BI.out.trans ((below_box wr _).mono (by omega))).trans (b3.mono (by simp; omega))
              clear b3 hw3 p0 p1 p2 p3 p4 p5 d0 d1 d2 d3 d4 d5
              have r0 : w3.cell? ⟨wr.heap.size, 0, none⟩ = some (.int .i64 P.kind) := Lib.cell_of_heap HP3.out 0
              have r1 : w3.cell? ⟨wr.heap.size, 1, none⟩ = some (.string P.key) := Lib.cell_of_heap HP3.out 1
              have r2 : w3.cell? ⟨wr.heap.size, 2, none⟩ = some (.int .i64 P.value) := Lib.cell_of_heap HP3.out 2
              have r3 : w3.cell? ⟨wr.heap.size, 3, none⟩ = some (.slice pa pn pc) := Lib.cell_of_heap HP3.out 3
              have r4 : w3.cell? ⟨wr.heap.size, 4, none⟩ = some (.bool P.has) := Lib.cell_of_heap HP3.out 4
              have r5 : w3.cell? ⟨wr.heap.size, 5, none⟩ = some (.bool P.nl) := Lib.cell_of_heap HP3.out 5
              have o0 : w3.cell? ⟨ob, 0, none⟩ = some (.int .i64 O.kind) := Lib.cell_of_heap HO3.out 0
              have o1 : w3.cell? ⟨ob, 1, none⟩ = some (.string O.key) := Lib.cell_of_heap HO3.out 1
              have o2 : w3.cell? ⟨ob, 2, none⟩ = some (.int .i64 O.value) := Lib.cell_of_heap HO3.out 2
              have o3 : w3.cell? ⟨ob, 3, none⟩ = some (.slice la ln lc) := Lib.cell_of_heap HO3.out 3
              have o4 : w3.cell? ⟨ob, 4, none⟩ = some (.bool O.has) := Lib.cell_of_heap HO3.out 4
              have o5 : w3.cell? ⟨ob, 5, none⟩ = some (.bool O.nl) := Lib.cell_of_heap HO3.out 5
              cases hw : (P.kind == 1 || P.kind == 3) with
              | false =>
                have WP : Hid (wrt P = false) := hw
                rw [WP.out, Bool.false_and] at SQ
                clear hw
                go_wp2_with fail
                go_roundg (N - (q + 1))
                case measure => omega
                case rel => exact ⟨q + 1, bq, by omega, by omega, by go_num, rfl, (show Aside _ from by show _ = (List.range (q + 1)).all _; rw [SQ.out]; simp), B3.out⟩
              | true =>
                have WP : Hid (wrt P = true) := hw
                rw [WP.out, Bool.true_and] at SQ
                have LK := hid (like_w P O (.slice pa pn pc) (.slice la ln lc) w3 ⟨_, _, _, rfl⟩ ⟨_, _, _, rfl⟩ WP.out HR.out)
                clear hw
                go_wp2_with fail
                go_at_call 41
                refine LK.out.mono ?_
                rintro e w4 ⟨rfl, q4, os4, hw4⟩
                have b4 : Below w3.heap.size w3 w4 := by rw [hw4]; exact below_grow _ _ _
                have B4 : Hid (Below w1.heap.size w1 w4) := B3.out.trans (b4.mono B3.out.size)
                clear b4 hw4 LK r0 r1 r2 r3 r4 r5 o0 o1 o2 o3 o4 o5
                cases hl : lik P O with
                | true =>
                  rw [hl] at SQ
                  clear hl
                  go_wp2_with fail
                  go_roundg (N - (q + 1))
                  case measure => omega
                  case rel => exact ⟨q + 1, false, by omega, by omega, by go_num, rfl, (show Aside _ from by show _ = (List.range (q + 1)).all _; rw [SQ.out]; simp), B4.out⟩
                | false =>
                  rw [hl] at SQ
                  clear hl
                  go_wp2_with fail
                  go_roundg (N - (q + 1))
                  case measure => omega
                  case rel => exact ⟨q + 1, bq, by omega, by omega, by go_num, rfl, (show Aside _ from by show _ = (List.range (q + 1)).all _; rw [SQ.out]; simp), B4.out⟩
            · have hqki : ¬ (q : Int) < (N : Int) := by omega
              obtain rfl : q = N := by omega
              have RI : Hid (IR w.heap.size wr _ _) := R1.out.same (fun g hg => BI.out.block g (R1.out.block hg).2)
              rw [← HQ.out] at OB2
              cases bq with
              | false =>
                rw [OB2.out] at SN
                simp only [Bool.false_eq_true, if_false, List.append_nil] at SN
                go_wp2_with fail
                go_roundg (l.length - (k + 1))
                case measure => omega
                case rel => exact ⟨k + 1, by omega, by omega, by go_num, BWI.out, (show Aside _ from by rw [SN.out]; exact RI.out)⟩
              | true =>
                rw [OB2.out] at SN
                simp only [if_true] at SN
                have hfl : (((List.range k).filter (finB l)).map fun i : Nat => (i : Int)).length ≤ k := by rw [List.length_map]; exact Nat.le_trans (List.length_filter_le _ _) (by simp)
                generalize ((List.range k).filter (finB l)).map (fun i : Nat => (i : Int)) = fp at *
                go_wp2_with (at_builtin; refine wpList_append_lies _ rfl _ _ 26 rfl w.heap.size 3 i0 _ 1 8 Try.underlying26 HI0.out HZ0.out HZ1.out HZ2.out rfl (by decide) _ fp.length (fp.map (Value.int .i64)) rfl (RI.out.same (fun g hg => (below_box wr _).block g (RI.out.block hg).2)) ⟨wr.heap.size, 0, none⟩ 1 1 [.int .i64 k] rfl rfl (World.news_of_block (cs := #[.int .i64 k]) (t := 3) (fr := (0, 0)) (heap_alloc_new wr _)) (by simp [Value.oneCell']) (by decide) (by unfold maxLen; omega) (by omega) (by have := BWI.out.size; simp; omega) _ rfl ?_; intro g5 cap5 w5 hown hgrow hat hglt; have O5 := hid hown; have G5 := hid hgrow; clear hown hgrow hat hglt)
                have S5 : wr.heap.size + 1 ≤ w5.heap.size := by have := G5.out.size; simpa using this
                go_roundg (l.length - (k + 1))
                case measure => omega
                case rel => exact ⟨k + 1, by omega, by omega, by go_num, (show Aside _ from BWI.out.trans ⟨G5.out.os, G5.out.tape, G5.out.output, by omega, fun b hb => (G5.out.block b (by have := BWI.out.size; simp; omega) (fun e => by have h9 := (RI.out.block e.symm).1; omega)).trans ((below_box wr _).block b (by have := BWI.out.size; omega))⟩), (show Aside _ from by rw [SN.out]; unfold IR; rw [List.length_append, List.map_append]; exact O5.out)⟩
    · have hkli : ¬ (k : Int) < l.length := by omega
      obtain rfl : k = l.length := by omega
      go_wp2_with fail
      go_ret
      exact ⟨_, rfl, RX.out, BX.out⟩
end Go.Proofs.Ytadlnkaphkbfdaa
