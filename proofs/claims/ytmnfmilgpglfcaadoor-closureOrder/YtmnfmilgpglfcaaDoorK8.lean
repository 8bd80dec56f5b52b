/-
  The document's order: ahead, Less, Sure, Cyclic, Pairs.
-/
import Derived.Test.YtmnfmilgpglfcaaDoorK7
namespace Go.Proofs.YtmnfmilgpglfcaaDoor
set_option linter.unusedVariables false
set_option linter.unusedSimpArgs false
open Go.RowKit

set_option maxHeartbeats 4000000 in
theorem rahead_any (H b n : Nat) (ps : List (Nat × Nat × Bool)) (x y : Int) (t : Bool) (w : World) (h : RefO H w b n ps) (hl : ps.length ≤ 1000) :
    Calls Tryd.prog 25 #[.pointer (some ⟨b, 0, none⟩), .int .i64 x, .int .i64 y, .bool t] w fun e w' => e = .returned (.bool (ahd (clR (sel t ps)) n x y)) ∧ Below w.heap.size w w' := by
  obtain ⟨ao, cap, c0, c1, hc⟩ := h.form
  have R := hid h
  have hn3 := h.bound
  have hni : (n : Int) ≤ 300 := by omega
  clear h hc c1
  by_cases h1 : x < 0
  · have E := hid (ahd_off1 (clR (sel t ps)) n x y (.inl h1))
    have h2 : decide (0 ≤ x) = false := by simp; omega
    have h3 : ¬ (0 : Int) ≤ x := by omega
    go_enter Tryd.func25, Tryd.ntmps25
    go_wp2
    go_ret
    exact ⟨by rw [E.out]; rfl, Below.refl _ _⟩
  · by_cases h2 : (n : Int) ≤ x
    · have E := hid (ahd_off1 (clR (sel t ps)) n x y (.inr h2))
      have h3 : (0 : Int) ≤ x := by omega
      have h4 : ¬ x < (n : Int) := by omega
      go_enter Tryd.func25, Tryd.ntmps25
      go_wp2
      go_ret
      exact ⟨by rw [E.out]; rfl, Below.refl _ _⟩
    · obtain ⟨X, rfl⟩ : ∃ X : Nat, x = X := ⟨x.toNat, by omega⟩
      have hX : X < n := by omega
      have hXi : (X : Int) < n := by omega
      have hX0 : (0 : Int) ≤ X := by omega
      clear h1 h2
      by_cases h3 : y < 0
      · have E := hid (ahd_off2 (clR (sel t ps)) n X y (.inl h3))
        have h4 : decide (0 ≤ y) = false := by simp; omega
        have h5 : ¬ (0 : Int) ≤ y := by omega
        go_enter Tryd.func25, Tryd.ntmps25
        go_wp2
        go_ret
        exact ⟨by rw [E.out]; rfl, Below.refl _ _⟩
      · by_cases h4 : (n : Int) ≤ y
        · have E := hid (ahd_off2 (clR (sel t ps)) n X y (.inr h4))
          have h5 : (0 : Int) ≤ y := by omega
          have h6 : ¬ y < (n : Int) := by omega
          go_enter Tryd.func25, Tryd.ntmps25
          go_wp2
          go_ret
          exact ⟨by rw [E.out]; rfl, Below.refl _ _⟩
        · obtain ⟨Y, rfl⟩ : ∃ Y : Nat, y = Y := ⟨y.toNat, by omega⟩
          have hY : Y < n := by omega
          have hYi : (Y : Int) < n := by omega
          have hY0 : (0 : Int) ≤ Y := by omega
          have E := hid (ahd_nat (clR (sel t ps)) n X Y hX hY)
          have BH := hid (behind_is H b n ps X t w R.out hX hl)
          clear h3 h4
          go_enter Tryd.func25, Tryd.ntmps25
          go_wp2_with (go_at_call 27; refine BH.out.mono ?_; rintro e w' ⟨⟨mk, rfl, lb⟩, bl⟩; have cy := (lb.cell Y hY).1; have BL := hid bl; clear lb bl)
          go_ret
          exact ⟨by rw [E.out]; rfl, BL.out⟩
theorem rless_any (H b n : Nat) (ps : List (Nat × Nat × Bool)) (x y : Int) (w : World) (h : RefO H w b n ps) (hl : ps.length ≤ 1000) :
    Calls Tryd.prog 9 #[.pointer (some ⟨b, 0, none⟩), .int .i64 x, .int .i64 y] w fun e w' => e = .returned (.bool (ahd (clR (sel false ps)) n x y)) ∧ Below w.heap.size w w' := by
  have A := hid (rahead_any H b n ps x y false w h hl)
  clear h
  generalize ahd (clR (sel false ps)) n x y = t at *
  go_enter Tryd.func9, Tryd.ntmps9
  go_wp2_with (go_at_call 25; refine A.out.mono ?_; rintro e w' ⟨rfl, bl⟩; have BL := hid bl; clear bl)
  go_ret
  exact ⟨rfl, BL.out⟩
theorem rsure_any (H b n : Nat) (ps : List (Nat × Nat × Bool)) (x y : Int) (w : World) (h : RefO H w b n ps) (hl : ps.length ≤ 1000) :
    Calls Tryd.prog 11 #[.pointer (some ⟨b, 0, none⟩), .int .i64 x, .int .i64 y] w fun e w' => e = .returned (.bool (ahd (clR (sel true ps)) n x y)) ∧ Below w.heap.size w w' := by
  have A := hid (rahead_any H b n ps x y true w h hl)
  clear h
  generalize ahd (clR (sel true ps)) n x y = t at *
  go_enter Tryd.func11, Tryd.ntmps11
  go_wp2_with (go_at_call 25; refine A.out.mono ?_; rintro e w' ⟨rfl, bl⟩; have BL := hid bl; clear bl)
  go_ret
  exact ⟨rfl, BL.out⟩
set_option maxHeartbeats 2000000 in
theorem rcyclic_is (H b n : Nat) (ps : List (Nat × Nat × Bool)) (w : World) (h : RefO H w b n ps) (hl : ps.length ≤ 1000) :
    Calls Tryd.prog 16 #[.pointer (some ⟨b, 0, none⟩)] w fun e w' => e = .returned (.bool (cyc (clR (sel false ps)) n)) ∧ Below w.heap.size w w' := by
  obtain ⟨ao, cap, c0, c1, hc⟩ := h.form
  have R := hid h
  have hn3 := h.bound
  have hni : (n : Int) ≤ 300 := by omega
  clear h hc c1
  go_enter Tryd.func16, Tryd.ntmps16
  go_wp2_with fail
  go_loopg [3, 8] n (fun g _ i wr => ∃ k : Nat, k ≤ n ∧ n - k ≤ g ∧ i = .int .i64 k ∧ Aside (cyc (clR (sel false ps)) k = false) ∧ Aside (Below w.heap.size w wr))
  case atStart => exact ⟨0, Nat.zero_le _, by omega, rfl, rfl, Below.refl _ _⟩
  case round =>
    clear c0
    obtain ⟨k, hk, hg, rfl, CX, BX⟩ := hrel
    by_cases hlt : k < n
    · have hlti : (k : Int) < n := by omega
      have HA := hid (rless_any H b n ps k k wr (R.out.later BX.out) hl)
      rw [ahd_nat _ n k k hlt hlt] at HA
      cases hR : clR (sel false ps) k k with
      | true =>
        have E := hid (cyc_true hlt hR)
        rw [hR] at HA
        clear hR
        go_wp2_with (go_at_call 9; refine HA.out.mono ?_; rintro e w' ⟨rfl, bl⟩; have BL := hid (BX.out.trans (bl.mono BX.out.size)); clear bl)
        go_ret
        exact ⟨by rw [E.out]; rfl, BL.out⟩
      | false =>
        have E : Hid (cyc (clR (sel false ps)) (k + 1) = false) := by show _ = _; rw [cyc_succ, CX.out, hR]; rfl
        rw [hR] at HA
        clear hR
        go_wp2_with (go_at_call 9; refine HA.out.mono ?_; rintro e w' ⟨rfl, bl⟩; have BL := hid (BX.out.trans (bl.mono BX.out.size)); clear bl)
        go_roundg (n - (k + 1))
        · exact ⟨k + 1, by omega, by omega, by go_num, E.out, BL.out⟩
        · omega
    · have hlti : ¬ (k : Int) < n := by omega
      obtain rfl : n = k := by omega
      have E := hid CX.out
      clear CX
      go_wp2_with fail
      go_ret
      exact ⟨by rw [E.out]; rfl, BX.out⟩
theorem rowP_one (F : Nat → Bool) (a j : Nat) : rowP F a (j + 1) = if F j then rowP F a j ++ [(a, j)] else rowP F a j := by
  unfold rowP
  have ho : lst F (j + 1) = if F j then lst F j ++ [j] else lst F j := by
    unfold lst
    rw [List.range_succ, List.filter_append]
    cases h : F j <;> simp [h]
  rw [ho]
  split <;> simp
set_option maxHeartbeats 8000000 in
theorem rpairs_is (H b n : Nat) (ps : List (Nat × Nat × Bool)) (w : World) (h : RefO H w b n ps) (hl : ps.length ≤ 1000) :
    Calls Tryd.prog 14 #[.pointer (some ⟨b, 0, none⟩)] w fun e w' => (∃ v, e = .returned v ∧ PrsIn w.heap.size w' v (allP (clR (sel false ps)) n n)) ∧ Below w.heap.size w w' := by
  obtain ⟨i0, hi, hz'⟩ := Option.map_eq_some_iff.1 Tryd.info32
  simp only [Prod.mk.injEq] at hz'
  obtain ⟨hz0, hz1, hz2⟩ := hz'
  have HI := hid hi
  have HZ0 := hid hz0
  have HZ1 := hid hz1
  have HZ2 := hid hz2
  clear hi hz0 hz1 hz2
  obtain ⟨ao, cap, c0, c1, hc⟩ := h.form
  have R := hid h
  have hn3 := h.bound
  have hni : (n : Int) ≤ 300 := by omega
  clear h hc c1
  go_enter Tryd.func14, Tryd.ntmps14
  go_wp2_with fail
  go_loopg [3, 4, 11] n (fun g l _ i wr => ∃ k : Nat, k ≤ n ∧ n - k ≤ g ∧ i = .int .i64 k ∧ Aside (PrsIn w.heap.size wr l (allP (clR (sel false ps)) n k)) ∧ Aside (Below w.heap.size w wr))
  case atStart => exact ⟨0, Nat.zero_le _, by omega, rfl, World.ownsRow_nil _ _ _ _, Below.refl _ _⟩
  case round =>
    clear c0
    obtain ⟨k, hk, hg, rfl, EX, BX⟩ := hrel
    by_cases hlt : k < n
    · have hlti : (k : Int) < n := by omega
      have HA := hid (allP_succ (clR (sel false ps)) n k)
      have HLEN : (allP (clR (sel false ps)) n k).length ≤ 90000 := by
        have h1 := allP_len (clR (sel false ps)) n k
        have h2 : k * n ≤ 300 * 300 := Nat.mul_le_mul (by omega) hn3
        omega
      have BH := hid (behind_is H b n ps k false wr (R.out.later BX.out) hlt hl)
      obtain ⟨A0, hA0⟩ : ∃ A0, allP (clR (sel false ps)) n k = A0 := ⟨_, rfl⟩
      rw [hA0] at HA HLEN EX
      obtain ⟨F, hF⟩ : ∃ F, clR (sel false ps) k = F := ⟨_, rfl⟩
      rw [hF] at HA BH
      clear hF hA0
      go_wp2_with (go_at_call 27; refine BH.out.mono ?_; rintro e w1 ⟨⟨mk, rfl, lb⟩, bl⟩; have LB := hid lb; have BL := hid bl; clear lb bl)
      have EY : Hid (PrsIn w.heap.size w1 u3 A0) := EX.out.later BL.out
      have BY : Hid (Below w.heap.size w w1) := BX.out.trans (BL.out.mono BX.out.size)
      clear EX BX BL BH
      go_loopg [3, 5, 6, 18] n (fun g l _ _ i wr2 => ∃ j : Nat, j ≤ n ∧ n - j ≤ g ∧ i = .int .i64 j ∧ Aside (PrsIn w.heap.size wr2 l (A0 ++ rowP F k j)) ∧ Aside (LayB wr2 mk n F) ∧ Aside (Below w.heap.size w wr2))
      case atStart => exact ⟨0, Nat.zero_le _, by omega, rfl, (by show PrsIn _ _ _ (A0 ++ rowP F k 0); simpa [rowP, lst] using EY.out), LB.out, BY.out⟩
      case round =>
        clear EY BY LB
        obtain ⟨j, hj, hg2, rfl, EY, LB, BY⟩ := hrel
        by_cases hjl : j < n
        · have hjli : (j : Int) < n := by omega
          have cx := (LB.out.cell j hjl).1
          have HO := hid (rowP_one F k j)
          cases hfk : F j
          · rw [hfk] at cx HO
            clear hfk
            go_wp2_with fail
            go_roundg (n - (j + 1))
            · exact ⟨j + 1, by omega, by omega, by go_num, (by show PrsIn _ _ _ _; have h := HO.out; simp at h; rw [h]; exact EY.out), LB.out, BY.out⟩
            · omega
          · rw [hfk] at cx HO
            clear hfk
            have HLE := hid (rowP_len F k j)
            have hsz := hid BY.out.size
            obtain ⟨M, hM⟩ : ∃ M, (A0 ++ rowP F k j).length = M := ⟨_, rfl⟩
            have O3r : Hid (wr.ownsRow w.heap.size 32 2 u3 M (prsV (A0 ++ rowP F k j))) := by rw [← hM]; exact EY.out
            have hMb : M ≤ 90300 := by have := HLE.out; rw [← hM, List.length_append]; omega
            have HM := hid hM
            clear hM
            go_wp2_with (at_builtin; refine wpList_append_lies _ rfl _ _ 31 rfl w.heap.size 32 i0 _ 2 16 Tryd.underlying31 HI.out HZ0.out HZ1.out HZ2.out rfl (by decide) u3 M (prsV (A0 ++ rowP F k j)) rfl ?hown ⟨wr.heap.size, 0, none⟩ 1 1 (prV (k, j)) rfl rfl ?hnews ?hone (by decide) ?h63 ?hby ?hbase (wr.heap.size + 1) ?hH ?_)
            case hown => exact World.ownsRow.alloc O3r.out _
            case hnews => first | exact fun _ _ h => h | exact World.news_of_block (heap_alloc_new wr (.cells #[.int .i64 k, .int .i64 j] 32))
            case hone => intro u hu; unfold prV at hu; simp at hu; rcases hu with rfl | rfl <;> rfl
            case h63 => unfold maxLen; omega
            case hby => omega
            case hbase => have := hsz.out; simp; omega
            all_goals try (case hH => simp)
            intro g cap' w4 hown4 hgrow hat hglt
            have B4 : Hid (Below w.heap.size w w4) := BY.out.trans (((below_box wr _).mono hsz.out).grown hgrow (by have := hsz.out; simp; omega) (fun x hx => (O3r.out.lt x hx).1))
            have LB4 : Hid (LayB w4 mk n F) := by
              obtain ⟨cur, q1, q2⟩ := LB.out
              refine ⟨cur, (hgrow.block mk (by have := blt q1; simp; omega) (fun e => ?_)).trans ((Lib.alloc_old _ _ mk (blt q1)).trans q1), q2⟩
              rcases O3r.out.2 with ⟨hv, _⟩ | ⟨g', c', cur', hv, _, hh, _⟩
              · rw [hv] at e; simp [Value.ownBlock] at e
              · rw [hv] at e
                simp [Value.ownBlock] at e
                subst e
                exact tags q1 hh (by decide) rfl
            have O4 : Hid (PrsIn w.heap.size w4 (.slice (some ⟨g, 0, none⟩) (M + 1) cap') (A0 ++ rowP F k (j + 1))) := by
              have h := HO.out
              simp at h
              have e0 : A0 ++ rowP F k (j + 1) = (A0 ++ rowP F k j) ++ [(k, j)] := by rw [h, List.append_assoc]
              have e1 : (A0 ++ rowP F k (j + 1)).length = M + 1 := by rw [e0, List.length_append, HM.out]; rfl
              show PrsIn w.heap.size w4 _ _
              unfold PrsIn
              rw [e1, e0, prsV_snoc]
              exact hown4
            clear hown4 hgrow hat hglt
            go_wp2_with fail
            go_roundg (n - (j + 1))
            · exact ⟨j + 1, by omega, by omega, by go_num, O4.out, LB4.out, B4.out⟩
            · omega
        · have hjli : ¬ (j : Int) < n := by omega
          have ej : n = j := by omega
          have EZ : Hid (PrsIn w.heap.size wr u3 (allP (clR (sel false ps)) n (k + 1))) := by
            rw [HA.out]
            have h := EY.out
            rw [← ej] at h
            exact h
          clear ej
          go_wp2_with fail
          go_roundg (n - (k + 1))
          · exact ⟨k + 1, by omega, by omega, by go_num, EZ.out, BY.out⟩
          · omega
    · have hlti : ¬ (k : Int) < n := by omega
      have ek : n = k := by omega
      subst ek
      go_wp2_with fail
      go_ret
      exact ⟨⟨_, rfl, EX.out⟩, BX.out⟩
end Go.Proofs.YtmnfmilgpglfcaaDoor
