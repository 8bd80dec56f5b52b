/-
  The law PathsSimple.
-/
import Derived.Test.YtjgmkigfpjmlaabDoorS4
namespace Go.Proofs.YtjgmkigfpjmlaabDoor
set_option linter.unusedVariables false
set_option linter.unusedSimpArgs false
open Go.RowKit Go.Maps

theorem intsV_at (l : List Nat) (j : Nat) (hj : j < l.length) : (intsV l)[j]? = some (.int .i64 (l.getD j 0)) := by
  simp [intsV, List.getElem?_map, List.getD, hj]
theorem MB.congr {w : World} {mb k : Nat} {S S' : Int → Bool} (h : MB w mb k S) (he : ∀ x, S x = S' x) : MB w mb k S' := by
  obtain ⟨D, h1, h2⟩ := h
  exact ⟨D, h1, fun x => by rw [← he]; exact h2 x⟩
theorem any_take (q : List Nat) (j : Nat) (hj : j < q.length) (x : Int) : (x == ((q.getD j 0 : Nat) : Int) || (q.take j).any (fun y => (y : Int) == x)) = (q.take (j + 1)).any (fun y => (y : Int) == x) := by
  rw [List.take_succ_eq_append_getElem hj, List.any_append]
  have e : q.getD j 0 = q[j] := by simp [List.getD, hj]
  rw [e]
  simp only [List.any_cons, List.any_nil, Bool.or_false]
  rw [Bool.or_comm]
  congr 1
  rw [Bool.eq_iff_iff]
  simp
  omega
theorem any_none (q : List Nat) (j m : Nat) (hj : j ≤ q.length) (h : ∀ i, i < j → q.getD i 0 ≠ m) : (q.take j).any (fun y => (y : Int) == (m : Int)) = false := by
  rw [List.any_eq_false]
  intro x hx
  obtain ⟨i, hi, e⟩ := List.mem_take_iff_getElem.1 hx
  have h1 := h i (by omega)
  have e2 : q.getD i 0 = q[i] := by simp [List.getD, show i < q.length by omega]
  rw [e2, e] at h1
  simp
  omega

set_option maxHeartbeats 8000000 in
set_option maxRecDepth 100000 in
theorem simple_walk (n0 : Int) (ao : Option Addr) (cp : Nat) (es : List (Int × Int × Int)) (labels f t : Int) (w : World) (hz : ArgE w ao es) (hl : es.length ≤ maxLen) (hT : Tab w) :
    Calls Tryd.prog 6 #[.int .i64 n0, .slice ao es.length cp, .int .i64 labels, .int .i64 f, .int .i64 t] w fun e w' => e = .returned (.bool true) ∧ Below w.heap.size w w' := by
  obtain ⟨n, hn, hD⟩ := u64_tmod n0 60 (by decide) (by decide)
  have D := hid (drawn_P n0 n hn hD ao cp es w hz hl)
  have TB := hid hT
  clear hz hl hT hD
  go_enter Tryd.func6, Tryd.ntmps6
  go_wp2_with fail
  go_at_call 14
  refine D.out.mono ?_
  rintro e w1 ⟨⟨b, b2, rfl, r, bk, ck, v, rw', L, g1, r1, -, -, dg⟩, b1⟩
  have B1 := hid b1
  have G1 := hid g1
  have R1 := hid r1
  have T1 := hid (TB.out.later b1)
  clear b1 g1 r1 dg D TB
  go_wp2_with fail
  go_at_call 16
  refine (shortest_any b n r bk ck L labels f t w1 G1.out T1.out).mono ?_
  rintro e w2 ⟨⟨v2, l, rfl, i2, al⟩, c2⟩
  have C2 := hid c2
  have I2 := hid i2
  clear c2 i2
  rcases al with ⟨S, T, q, rfl, hS, rfl, hTn, hbest, hql, rfl⟩ | ⟨rfl, hfar⟩
  · have hd1 := hbest.1
    have hqp : 0 < q.length := List.length_pos_iff.2 hd1
    have hqi : (q.length : Int) < 61 := by omega
    have FQ : Hid (IsFar (edge L labels) n S T (q.length : Int)) := .inl ⟨S, T, q.length, rfl, hS, rfl, hTn, rfl, hbest.dst hS⟩
    have AL := hid (Wl.along q S hS hbest.2.1)
    have SI := hid (hbest.simple hS)
    have hne1 : (S :: q).length = q.length + 1 := rfl
    obtain ⟨g, cap, cur, hv, hcur, hsz, hcap⟩ : ∃ g cap cur, v2 = .slice (some ⟨g, 0, none⟩) (q.length + 1) cap ∧ (w2.heap[g]? = some (.cells cur 3) ∧ ∀ j, j < q.length + 1 → cur[j]? = some (.int .i64 ((S :: q).getD j 0))) ∧ w1.heap.size ≤ g ∧ q.length + 1 ≤ cap := by
      rcases I2.out.2 with ⟨_, h0⟩ | ⟨g, cap, cur, hv, hb, hg, h1, h2, h3, h4⟩
      · simp at h0
      · refine ⟨g, cap, cur, hv, ⟨hg, fun j hj => ?_⟩, hb, h1⟩
        have e : cur.toList[j]? = (cur.toList.take ((S :: q).length * 1))[j]? := by rw [List.getElem?_take, if_pos (by simp; omega)]
        rw [← Array.getElem?_toList, e, h4]
        exact intsV_at (S :: q) j hj
    subst hv
    have CUR := hid hcur
    have HSZ := hid hsz
    have hc1 : ¬ cap = 1 := by omega
    have hc2 : 1 ≤ cap := by omega
    clear hbest hd1 I2 hcur hsz hne1
    go_wp2_with fail
    go_at_call 19
    refine (rdistance_is b2 n v rw' L labels S T w2 (R1.out.later C2.out)).mono ?_
    rintro e w3 ⟨⟨d3, rfl, f3⟩, c3⟩
    obtain rfl : (q.length : Int) = d3 := FQ.out.uniq f3
    have C3 := hid (C2.out.trans (c3.mono C2.out.size))
    have CU3 : Hid (w3.heap[g]? = some (.cells cur 3)) := (c3.block g (blt CUR.out.1)).trans CUR.out.1
    have k0 : w3.cell? ⟨g, 0, none⟩ = some (.int .i64 S) := (Lib.cell_of_heap CU3.out 0).trans (CUR.out.2 0 (by omega))
    have kd : w3.cell? ⟨g, q.length, none⟩ = some (.int .i64 T) := by
      have := (Lib.cell_of_heap CU3.out q.length).trans (CUR.out.2 q.length (by omega))
      rw [AL.out.2] at this
      exact this
    have e1 : ((S : Int) != (S : Int)) = false := by simp
    have e2 : ((T : Int) != (T : Int)) = false := by simp
    have hd0 : ¬ ((q.length : Int) < 0) := by omega
    have hmm := @run_makeMap Tryd.prog
    clear f3 c3 C2
    go_wp2_with fail
    clear hmm k0 kd
    have M0 := hid (MB.made w3)
    have C4 : Hid (Below w1.heap.size w1 (w3.alloc (.map #[] 0))) := C3.out.alloc C3.out.size _
    have CU4 : Hid ((w3.alloc (.map #[] 0)).heap[g]? = some (.cells cur 3)) := ((below_box w3 _).block g (blt CU3.out)).trans CU3.out
    have GNE := hid (show g ≠ w3.heap.size by have := blt CU3.out; omega)
    have LMB : Hid (w1.heap.size ≤ w3.heap.size) := C3.out.size
    clear C3 CU3
    generalize w3.alloc (.map #[] 0) = W at *
    generalize w3.heap.size = mb at *
    go_loopg [75] q.length (fun gg i wr => ∃ j : Nat, j ≤ q.length ∧ q.length - j ≤ gg ∧ i = .int .i64 j ∧ Aside (MB wr mb j (fun x => (q.take j).any (fun y => (y : Int) == x))) ∧ Aside (Gro (fun k => k = mb) W wr))
    case atStart => exact ⟨0, Nat.zero_le _, by omega, rfl, M0.out.congr (fun x => by simp), Gro.refl _ _⟩
    case round =>
      clear M0
      obtain ⟨j, hj, hg, rfl, MX, GX⟩ := hrel
      have CUX : Hid (wr.heap[g]? = some (.cells cur 3)) := GX.out.at CU4.out GNE.out
      have CX : Hid (Below w1.heap.size w1 wr) := C4.out.trans (GX.out.below w1.heap.size (fun k hk => by have := LMB.out; omega) C4.out.size)
      by_cases hjl : j < q.length
      · have hjli : (j : Int) < q.length := by omega
        obtain ⟨hE, hm, hp⟩ := AL.out.1 j hjl
        have ca : wr.cell? ⟨g, 1 + j, none⟩ = some (.int .i64 (q.getD j 0)) := by
          have := (Lib.cell_of_heap CUX.out (j + 1)).trans (CUR.out.2 (j + 1) (by omega))
          have e : (S :: q).getD (j + 1) 0 = q.getD j 0 := by simp [List.getD]
          rw [e] at this
          rw [Nat.add_comm 1 j]
          exact this
        have cb : wr.cell? ⟨g, j, none⟩ = some (.int .i64 ((S :: q).getD j 0)) := (Lib.cell_of_heap CUX.out j).trans (CUR.out.2 j (by omega))
        have AT := hid (any_take q j hjl)
        have AN := hid (any_none q j (q.getD j 0) hj (fun i hi => SI.out.1 i j hi hjl))
        generalize q.getD j 0 = m at *
        generalize (S :: q).getD j 0 = p at *
        have RL := hid (rlabels_ok b2 n v rw' L p m wr (R1.out.later CX.out) hp hm)
        have hen := ends_and L p m labels (R1.out.small p m)
        have hE' : endsF L p labels 4 m = true := hE
        rw [hE'] at hen
        simp only [Bool.not_true] at hen
        obtain ⟨y, hy⟩ : ∃ y, L p m = y := ⟨_, rfl⟩
        rw [hy] at RL hen
        have hwf := wf_small m (by omega)
        have hlk := MX.out.look m hwf
        rw [AN.out] at hlk
        have hmi : (m : Int) < 60 := by omega
        clear hE hE' hy
        go_wp2_with (first | (go_at_call 25; refine RL.out.mono ?_; rintro e w' ⟨rfl, rfl⟩) | (at_mapUpdate; refine wpList_mb _ rfl _ _ _ rfl mb j _ rfl MX.out (by omega) m rfl rfl hwf ?_; intro w5 q1 q2; have Q1 := hid q1; have Q2 := hid (GX.out.trans q2); clear q1 q2))
        go_roundg (q.length - (j + 1))
        · exact ⟨j + 1, by omega, by omega, by go_num, Q1.out.congr AT.out, Q2.out⟩
        · omega
      · have hjli : ¬ (j : Int) < q.length := by omega
        obtain rfl : j = q.length := by omega
        have CF := hid (B1.out.trans (CX.out.mono B1.out.size))
        by_cases hST : S = T
        · subst hST
          have hss : ((S : Int) == (S : Int)) = true := by simp
          go_wp2_with fail
          go_ret
          exact ⟨rfl, CF.out⟩
        · have hss : ((S : Int) == (T : Int)) = false := by simp; omega
          have hss2 : ¬ ((S : Int) = (T : Int)) := by omega
          have hlk := MX.out.look S (wf_small S (by omega))
          rw [any_none q q.length S (Nat.le_refl _) (fun i hi => SI.out.2 hST i hi)] at hlk
          go_wp2_with fail
          go_ret
          exact ⟨rfl, CF.out⟩
  · have HF := hid hfar
    obtain ⟨a2, k2, rfl⟩ := I2.out.form
    clear hfar
    rw [List.length_nil]
    go_wp2_with fail
    go_at_call 19
    refine (rdistance_is b2 n v rw' L labels f t w2 (R1.out.later C2.out)).mono ?_
    rintro e w3 ⟨⟨d3, rfl, f3⟩, c3⟩
    obtain rfl : d3 = -1 := f3.uniq HF.out
    have C3 := hid (C2.out.trans (c3.mono C2.out.size))
    clear f3 c3 C2
    go_wp2_with fail
    go_at_call 18
    refine (distance_is b n r f bk ck L labels t w3 (G1.out.later C3.out) (T1.out.later C3.out)).mono ?_
    rintro e w4 ⟨⟨d4, rfl, f4, -, -⟩, c4⟩
    obtain rfl : d4 = -1 := f4.uniq HF.out
    have C4 := hid (B1.out.trans ((C3.out.trans (c4.mono C3.out.size)).mono B1.out.size))
    clear f4 c4 C3
    go_wp2_with fail
    go_ret
    exact ⟨rfl, C4.out⟩
end Go.Proofs.YtjgmkigfpjmlaabDoor
