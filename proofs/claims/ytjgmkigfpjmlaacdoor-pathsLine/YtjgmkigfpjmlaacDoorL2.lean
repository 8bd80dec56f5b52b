/-
  The law PathsLine.
-/
import Derived.Test.YtjgmkigfpjmlaacDoorL1
namespace Go.Proofs.YtjgmkigfpjmlaacDoor
set_option linter.unusedVariables false
set_option linter.unusedSimpArgs false
open Go.RowKit

theorem nat_tmod (a n : Nat) : ((a : Int)).tmod (n : Int) = ((a % n : Nat) : Int) := by
  rw [Int.tmod_eq_emod_of_nonneg (by omega)]
  simp
theorem ring_ne (n i : Nat) (hn : 2 ≤ n) (hi : i < n) : i ≠ (i + 1) % n := by
  rcases Nat.lt_or_ge (i + 1) n with h | h
  · rw [Nat.mod_eq_of_lt h]; omega
  · have e : i + 1 = n := by omega
    rw [e, Nat.mod_self]; omega
set_option maxHeartbeats 8000000 in
set_option maxRecDepth 100000 in
theorem line_walk (n0 f0 t0 : Int) (w : World) (hT : Tab w) :
    Calls Tryd.prog 3 #[.int .i64 n0, .int .i64 f0, .int .i64 t0] w fun e w' => e = .returned (.bool true) ∧ Below w.heap.size w w' := by
  obtain ⟨N, hN, hD0⟩ := u64_tmod n0 50 (by decide) (by decide)
  have hD : (IntKind.u64.wrap n0).tmod 50 = (N : Int) := hD0
  clear hD0
  have TB := hid hT
  have hNi : (N : Int) < 50 := by omega
  clear hT
  go_enter Tryd.func3, Tryd.ntmps3
  go_wp2_with fail
  have e2 : (2 + (N : Int)) = ((N + 2 : Nat) : Int) := by omega
  rw [e2]
  have hn2 : 2 ≤ N + 2 := by omega
  have hn52 : N + 2 < 52 := by omega
  clear hD e2 hNi hN
  generalize N + 2 = n at *
  obtain ⟨S, hS, hSe⟩ := u64_tmod f0 n (by omega) (by omega)
  obtain ⟨T, hTn, hTe⟩ := u64_tmod t0 n (by omega) (by omega)
  have hwn : IntKind.u64.wrap (n : Int) = (n : Int) := by rw [IntKind.wrap_u64]; omega
  have hnz : (n : Int) ≠ 0 := by omega
  have hni : (n : Int) < 52 := by omega
  have hSi : (S : Int) < 52 := by omega
  have hTi : (T : Int) < 52 := by omega
  go_region
  go_wp2_with fail
  clear hSe hTe hwn
  go_at_call 4
  refine (gnew_ok n (by omega) w.drew).mono ?_
  rintro e w1 ⟨rfl, g1, b1⟩
  have B1 : Hid (Below w.heap.size w w1) := ⟨b1.os, b1.tape, b1.output, b1.size, b1.block⟩
  have LOW : Hid (∀ k, k < 4 * n → w.heap.size ≤ (fun k => w.drew.heap.size + 2 + 2 * k) k) := fun k _ => by show w.heap.size ≤ w.heap.size + 2 + 2 * k; omega
  have G1 : Hid (Graph w1 (w.drew.heap.size + 1) n w.drew.heap.size (fun k => w.drew.heap.size + 3 + 2 * k) (fun k => w.drew.heap.size + 2 + 2 * k) (ringL n 0)) := by
    have e : (fun _ _ => 0 : Nat → Nat → Nat) = ringL n 0 := by funext f t; unfold ringL; rw [if_neg (by omega)]
    rw [← e]
    exact g1
  clear g1 b1
  generalize (fun k => w.drew.heap.size + 2 + 2 * k) = ck at *
  generalize (fun k => w.drew.heap.size + 3 + 2 * k) = bk at *
  generalize w.drew.heap.size + 1 = b at *
  generalize w.drew.heap.size = r at *
  go_wp2_with fail
  go_loopg [39] n (fun g i wr => ∃ k : Nat, k ≤ n ∧ n - k ≤ g ∧ i = .int .i64 k ∧ Aside (Graph wr b n r bk ck (ringL n k)) ∧ Aside (Below w.heap.size w wr))
  case atStart => exact ⟨0, Nat.zero_le _, by omega, rfl, G1.out, B1.out⟩
  case round =>
    clear G1 B1
    obtain ⟨k, hk, hg, rfl, GX, BX⟩ := hrel
    by_cases hlt : k < n
    · have hlti : (k : Int) < n := by omega
      have hmod : ((k : Int) + 1).tmod (n : Int) = (((k + 1) % n : Nat) : Int) := nat_tmod (k + 1) n
      have hne := ring_ne n k hn2 hlt
      have hml := Nat.mod_lt (k + 1) (show 0 < n by omega)
      have hmli : ((((k + 1) % n : Nat)) : Int) < 52 := by omega
      have RS := hid (ringL_step n k)
      have AD := hid (gadd_ok b n r bk ck (ringL n k) k ((k + 1) % n) 4 wr GX.out hlt hml (by decide) (by decide) hne)
      generalize (k + 1) % n = m at *
      go_wp2_with fail
      go_at_call 5
      refine AD.out.mono ?_
      rintro e w2 ⟨rfl, s2, v2⟩
      have G2 : Hid (Graph w2 b n r bk ck (ringL n (k + 1))) := by rw [← RS.out]; exact s2
      have B2 : Hid (Below w.heap.size w w2) := BX.out.trans (v2.below w.heap.size (fun x hx => by obtain ⟨i, hi, rfl⟩ := hx; exact LOW.out _ (by omega)) BX.out.size)
      clear s2 v2 AD GX BX hmod
      go_wp2_with fail
      go_roundg (n - (k + 1))
      · exact ⟨k + 1, by omega, by omega, by go_num, G2.out, B2.out⟩
      · omega
    · have hlti : ¬ (k : Int) < n := by omega
      obtain rfl : n = k := by omega
      have T1 := hid (TB.out.later BX.out)
      go_wp2_with fail
      go_at_call 6
      refine (shortest_is b n r S bk ck (ringL n n) 4 T wr GX.out hS T1.out).mono ?_
      rintro e w2 ⟨⟨v2, rfl, sh⟩, c2⟩
      obtain ⟨q, hbest, hql, hints⟩ : ∃ q, Best (edge (ringL n n) 4) n S T q ∧ q.length ≤ n ∧ Ints wr.heap.size w2 v2 (S :: q) := by
        rcases sh with ⟨T', q, e, h1, h2, h3, h4⟩ | ⟨_, h1⟩
        · obtain rfl : T = T' := by omega
          exact ⟨q, h2, h3, h4⟩
        · exfalso
          obtain ⟨q, k1, k2⟩ := (ring_dst n S T hS hTn).2.1
          have := (ringD_pos n S T (by omega)).1
          exact h1 T rfl q (by rintro rfl; simp at k1; omega) k2
      have HQD : Hid (q.length = ringD n S T) := (hbest.dst hS).uniq (ring_dst n S T hS hTn)
      have RW := hid (ring_walk n q S T hS hbest.2.1)
      obtain ⟨ao, cap, o, rfl, ro, -⟩ := hints.rowO (HQ := 0) (Nat.zero_le _)
      have RO := hid ro
      have C2 := hid c2
      have G2 := hid (GX.out.later c2)
      have B2 := hid (BX.out.trans (c2.mono BX.out.size))
      have T2 := hid (T1.out.later c2)
      have hqi : (q.length : Int) ≤ 52 := by omega
      clear sh c2 hbest hints ro GX BX T1
      rw [List.length_cons]
      go_wp2_with fail
      go_loopg [56] (q.length + 1) (fun g i wq => ∃ j : Nat, j ≤ q.length + 1 ∧ q.length + 1 - j ≤ g ∧ i = .int .i64 j ∧ w2 = wq)
      case atStart => exact ⟨0, Nat.zero_le _, by omega, rfl, rfl⟩
      case round =>
        obtain ⟨j, hj, hg2, rfl, rfl⟩ := hrel
        by_cases hjl : j < q.length + 1
        · have hjli : (j : Int) < (q.length : Int) + 1 := by omega
          obtain ⟨rfl, -, cur, hcur, hcj⟩ := RO.out j (by simpa using hjl)
          have hval : (S :: q).getD j 0 = (S + j) % n := by
            cases j with
            | zero => simp [Nat.mod_eq_of_lt hS]
            | succ j =>
              have := RW.out.1 j (by omega)
              have e : (S :: q).getD (j + 1) 0 = q.getD j 0 := by simp [List.getD]
              rw [e, this]
              congr 1
              omega
          rw [hval] at hcj
          have cj : w2.cell? ⟨o, j, none⟩ = some (.int .i64 ((S + j) % n : Nat)) := (Lib.cell_of_heap hcur j).trans hcj
          have hmod : ((S : Int) + (j : Int)).tmod (n : Int) = (((S + j) % n : Nat) : Int) := nat_tmod (S + j) n
          have hml := Nat.mod_lt (S + j) (show 0 < n by omega)
          clear hcur hcj hval
          generalize (S + j) % n = m at *
          have hmm : ((m : Int) != (m : Int)) = false := by simp
          go_wp2_with fail
          go_roundg (q.length + 1 - (j + 1))
          · exact ⟨j + 1, by omega, by omega, by go_num, rfl⟩
          · omega
        · have hjli : ¬ (j : Int) < (q.length : Int) + 1 := by omega
          have hmod : ((T : Int) - (S : Int) + (n : Int)).tmod (n : Int) = (((T + n - S) % n : Nat) : Int) := by
            rw [← nat_tmod]
            congr 1
            omega
          by_cases h0 : (T + n - S) % n = 0
          · rw [h0] at hmod
            have RD : Hid (ringD n S T = n) := if_pos h0
            have hq : (q.length : Int) = (n : Int) := by rw [HQD.out, RD.out]
            have hb0 : ((0 : Int) == 0) = true := by simp
            simp only [Int.natCast_zero] at hmod
            clear HQD
            go_wp2_with fail
            go_at_call 7
            refine (distance_is b n r S bk ck (ringL n n) 4 T w2 G2.out T2.out).mono ?_
            rintro e w3 ⟨⟨d3, rfl, f3, -, -⟩, c3⟩
            obtain rfl : d3 = ((n : Nat) : Int) := by rw [f3.uniq (ring_far n S T hS hTn), RD.out]
            have G3 := hid (G2.out.later c3)
            have B3 := hid (B2.out.trans (c3.mono B2.out.size))
            have T3 := hid (T2.out.later c3)
            have ex : (((n : Nat) : Int) == ((n : Nat) : Int)) = true := by simp
            clear f3 c3
            go_wp2_with fail
            go_at_call 7
            refine (distance_is b n r S bk ck (ringL n n) 3 T w3 G3.out T3.out).mono ?_
            rintro e w4 ⟨⟨d4, rfl, f4, -, -⟩, c4⟩
            obtain rfl : d4 = -1 := f4.uniq (none_far n S T)
            have B4 := hid (B3.out.trans (c4.mono B3.out.size))
            clear f4 c4
            go_wp2_with fail
            go_ret
            exact ⟨rfl, B4.out⟩
          · have RD : Hid (ringD n S T = (T + n - S) % n) := if_neg h0
            have hX : (T + n - S) % n < n := Nat.mod_lt _ (by omega)
            have hqD : q.length = (T + n - S) % n := by rw [HQD.out, RD.out]
            generalize (T + n - S) % n = X at *
            have hq : (q.length : Int) = (X : Int) := by rw [hqD]
            have hXi : (X : Int) < 52 := by omega
            have hX0 : ¬ ((X : Int) = 0) := by omega
            have hb0 : ((X : Int) == 0) = false := by simp; omega
            clear HQD hqD
            go_wp2_with fail
            go_at_call 7
            refine (distance_is b n r S bk ck (ringL n n) 4 T w2 G2.out T2.out).mono ?_
            rintro e w3 ⟨⟨d3, rfl, f3, -, -⟩, c3⟩
            obtain rfl : d3 = ((X : Nat) : Int) := by rw [f3.uniq (ring_far n S T hS hTn), RD.out]
            have G3 := hid (G2.out.later c3)
            have B3 := hid (B2.out.trans (c3.mono B2.out.size))
            have T3 := hid (T2.out.later c3)
            have ex : (((X : Nat) : Int) == ((X : Nat) : Int)) = true := by simp
            clear f3 c3
            go_wp2_with fail
            go_at_call 7
            refine (distance_is b n r S bk ck (ringL n n) 3 T w3 G3.out T3.out).mono ?_
            rintro e w4 ⟨⟨d4, rfl, f4, -, -⟩, c4⟩
            obtain rfl : d4 = -1 := f4.uniq (none_far n S T)
            have B4 := hid (B3.out.trans (c4.mono B3.out.size))
            clear f4 c4
            go_wp2_with fail
            go_ret
            exact ⟨rfl, B4.out⟩
end Go.Proofs.YtjgmkigfpjmlaacDoor
