/-
  The law GraphEdges.
-/
import Derived.Test.YtpkfpfflnncleabDoorI4
import Derived.Test.YtpkfpfflnncleabDoorB10
namespace Go.Proofs.YtpkfpfflnncleabDoor
set_option linter.unusedVariables false
set_option linter.unusedSimpArgs false
open Go.RowKit

theorem Ints.past {B : Nat} {w w' : World} {v : Value} {l : List Nat} (h : Ints B w v l) (hp : Past w w') : Ints B w' v l := by
  refine ⟨h.1, ?_⟩
  rcases h.2 with h1 | ⟨g, cap, cur, hv, hB, hg, h2⟩
  · exact .inl h1
  · exact .inr ⟨g, cap, cur, hv, hB, hp.at hg (by decide), h2⟩
theorem rowE_take (L : Nat → Nat → Nat) (k : Nat) (F : Nat → Bool) (n j : Nat) (hj : j < (lst F n).length) : (rowE L k F n).take (j + 1) = (rowE L k F n).take j ++ [(k, (lst F n).getD j 0, L k ((lst F n).getD j 0))] := by
  have hl : (rowE L k F n).length = (lst F n).length := by unfold rowE; rw [List.length_map]
  rw [List.take_add_one]
  have e : (rowE L k F n)[j]? = some (k, (lst F n).getD j 0, L k ((lst F n).getD j 0)) := by
    unfold rowE
    simp [List.getElem?_map, List.getD, hj]
  rw [e]
  rfl

set_option maxHeartbeats 8000000 in
theorem gedges_walk (n0 : Int) (ao : Option Addr) (cp : Nat) (es : List (Int × Int × Int)) (w : World) (hz : ArgE w ao es) (hl : es.length ≤ maxLen) (hT : Tab w) :
    Calls Tryd.prog 4 #[.int .i64 n0, .slice ao es.length cp] w fun e w' => e = .returned (.bool true) ∧ Below w.heap.size w w' := by
  obtain ⟨i0, hi, hz'⟩ := Option.map_eq_some_iff.1 Tryd.info80
  simp only [Prod.mk.injEq] at hz'
  obtain ⟨hz0, hz1, hz2⟩ := hz'
  have HI := hid hi
  have HZ0 := hid hz0
  have HZ1 := hid hz1
  have HZ2 := hid hz2
  clear hi hz0 hz1 hz2
  obtain ⟨n, hn, hD0⟩ := u64_tmod n0 40 (by decide) (by decide)
  have hD : (IntKind.u64.wrap n0).tmod 40 = (n : Int) := hD0
  clear hD0
  have D := hid (drawn_ok n (by omega) ao cp es w hz hl)
  have TB := hid hT
  clear hz hl hT
  have hni : (n : Int) < 40 := by omega
  go_enter Tryd.func4, Tryd.ntmps4
  go_wp2_with fail
  clear hD
  refine D.out.mono ?_
  rintro e w1 ⟨⟨b, b2, rfl, r, bk, ck, v, rw', L, g1, r1, -, -⟩, b1⟩
  have B1 := hid b1
  have G1 := hid g1
  have R1 := hid r1
  have T1 := hid (TB.out.later b1)
  have N1 := hid (nodes_is b n w1 g1.c0 g1.c1)
  have hnn : ((n : Int) == (n : Int)) = true := by simp
  clear b1 g1 r1 D
  go_wp2_with fail
  go_at_call 15
  refine N1.out.mono ?_
  rintro e w' ⟨rfl, rfl⟩
  go_wp2_with fail
  go_loopg [8, 9, 36] n (fun g l _ i wr => ∃ k : Nat, k ≤ n ∧ n - k ≤ g ∧ i = .int .i64 k ∧ Aside (EdgesIn w1.heap.size wr l (allE L n k)) ∧ Aside (Below w1.heap.size w1 wr))
  case atStart => exact ⟨0, Nat.zero_le _, by omega, rfl, World.ownsRow_nil _ _ _ _, Below.refl _ _⟩
  case round =>
    obtain ⟨k, hk, hg, rfl, EX, BX⟩ := hrel
    by_cases hlt : k < n
    · have hlti : (k : Int) < n := by omega
      have HA := hid (allE_succ L n k)
      have HLEN : (allE L n k).length ≤ 90000 := by
        have h1 := allE_len L n k
        have h2 : k * n ≤ 300 * 300 := Nat.mul_le_mul (by omega) (by omega)
        omega
      have HO := hid (out_ok b n r k bk ck L 15 wr (G1.out.later BX.out) hlt (T1.out.later BX.out))
      obtain ⟨F, hF⟩ : ∃ F, endsF L k 15 4 = F := ⟨_, rfl⟩
      rw [hF] at HA HO
      clear hF
      go_wp2_with fail
      refine HO.out.mono ?_
      rintro e w2 ⟨⟨vo, rfl, io⟩, bo⟩
      have IOx := hid io
      have EO := hid (EX.out.later bo)
      have BO := hid (BX.out.trans (bo.mono BX.out.size))
      obtain ⟨oa, oc, rfl, -⟩ := io.arg
      rw [List.length_map] at IOx ⊢
      have hml := lst_le F n
      have hmi : ((lst F n).length : Int) ≤ 300 := by omega
      clear io bo EX BX HO
      go_wp2_with fail
      generalize wr = wo at *
      go_loopg [8, 11, 43] (lst F n).length (fun g l _ i wr2 => ∃ j : Nat, j ≤ (lst F n).length ∧ (lst F n).length - j ≤ g ∧ i = .int .i64 j ∧ Aside (EdgesIn w1.heap.size wr2 l (allE L n k ++ (rowE L k F n).take j)) ∧ Aside (Below w1.heap.size w1 wr2) ∧ Aside (Past w2 wr2))
      case atStart => exact ⟨0, Nat.zero_le _, by omega, rfl, (by show EdgesIn _ _ _ _; simpa using EO.out), BO.out, Past.refl _⟩
      case round =>
        clear EO
        obtain ⟨j, hj, hg2, rfl, EY, BY, PY⟩ := hrel
        by_cases hjl : j < (lst F n).length
        · have hjli : (j : Int) < (lst F n).length := by omega
          obtain ⟨oa', oc', hv', hA'⟩ := (IOx.out.past PY.out).arg
          obtain ⟨ob, oo, ho, d1⟩ := hA' j (by rw [List.length_map]; exact hjl)
          obtain rfl : oa = some ⟨ob, oo, none⟩ := by
            injection hv' with e1 e2 e3
            rw [e1, ho]
          have e0 : ((lst F n).map fun x : Nat => (x : Int)).getD j 0 = ((lst F n).getD j 0 : Nat) := by simp [List.getD, hjl]
          rw [e0] at d1
          have HO := hid (rowE_take L k F n j hjl)
          obtain ⟨T, hTT⟩ : ∃ T, (lst F n).getD j 0 = T := ⟨_, rfl⟩
          rw [hTT] at d1 HO
          have HLB := hid (labels_ok b n r k bk ck L T wr (G1.out.later BY.out) hlt)
          have eL : labAt L k (T : Int) = L k T := by unfold labAt; simp
          rw [eL] at HLB
          obtain ⟨y, hy⟩ : ∃ y, L k T = y := ⟨_, rfl⟩
          rw [hy] at HLB HO
          clear hA' hv' ho e0 hTT eL hy
          have HLE : Hid ((rowE L k F n).length ≤ n) := rowE_len L k F n
          have hsz := hid BY.out.size
          obtain ⟨M, hM⟩ : ∃ M, (allE L n k ++ (rowE L k F n).take j).length = M := ⟨_, rfl⟩
          have O3r : Hid (wr.ownsRow w1.heap.size 41 3 u8 M (edgesV (allE L n k ++ (rowE L k F n).take j))) := by rw [← hM]; exact EY.out
          have hMb : M ≤ 90300 := by have := HLE.out; rw [← hM, List.length_append, List.length_take]; omega
          have HM := hid hM
          clear hM
          go_wp2_with fail
          refine HLB.out.mono ?_
          rintro e w' ⟨rfl, rfl⟩
          go_wp2_with (at_builtin; refine wpList_append_lies _ rfl _ _ 22 rfl w1.heap.size 41 i0 _ 3 24 Tryd.underlying22 HI.out HZ0.out HZ1.out HZ2.out rfl (by decide) u8 M (edgesV (allE L n k ++ (rowE L k F n).take j)) rfl ?hown ⟨wr.heap.size, 0, none⟩ 1 1 (edgeV (k, T, y)) rfl rfl ?hnews ?hone (by decide) ?h63 ?hby ?hbase (wr.heap.size + 1) ?hH ?_)
          case hown => exact World.ownsRow.alloc O3r.out _
          case hnews => exact World.news_of_block (w := wr.alloc (.cells #[.int .i64 k, .int .i64 T, .int .i64 y] 41)) (cs := #[.int .i64 k, .int .i64 T, .int .i64 y]) (t := 41) (fr := (0, 0)) (heap_alloc_new wr _)
          case hone => intro u hu; unfold edgeV at hu; simp at hu; rcases hu with rfl | rfl | rfl <;> rfl
          case h63 => unfold maxLen; omega
          case hby => omega
          case hbase => have := hsz.out; simp; omega
          case hH => simp
          intro g cap' w4 hown4 hgrow hat hglt
          have B4 : Hid (Below w1.heap.size w1 w4) := BY.out.trans (((below_box wr _).mono hsz.out).grown hgrow (by have := hsz.out; simp; omega) (fun x hx => (O3r.out.lt x hx).1))
          have P4 : Hid (Past w2 w4) := PY.out.trans ((Past.of_below (below_box wr _)).trans (Past.grown (World.ownsRow.alloc O3r.out _) hgrow))
          have O4 : Hid (EdgesIn w1.heap.size w4 (.slice (some ⟨g, 0, none⟩) (M + 1) cap') (allE L n k ++ (rowE L k F n).take (j + 1))) := by
            have e0 : allE L n k ++ (rowE L k F n).take (j + 1) = (allE L n k ++ (rowE L k F n).take j) ++ [(k, T, y)] := by rw [HO.out, List.append_assoc]
            have e1 : (allE L n k ++ (rowE L k F n).take (j + 1)).length = M + 1 := by rw [e0, List.length_append, HM.out]; rfl
            show EdgesIn w1.heap.size w4 _ _
            unfold EdgesIn
            rw [e1, e0, edgesV_snoc]
            exact hown4
          clear hown4 hgrow hat hglt
          go_wp2_with fail
          go_roundg ((lst F n).length - (j + 1))
          · exact ⟨j + 1, by omega, by omega, by go_num, O4.out, B4.out, P4.out⟩
          · omega
        · have hjli : ¬ (j : Int) < (lst F n).length := by omega
          have EZ : Hid (EdgesIn w1.heap.size wr u8 (allE L n (k + 1))) := by
            rw [HA.out]
            have h := EY.out
            rw [List.take_of_length_le (by unfold rowE; rw [List.length_map]; omega)] at h
            exact h
          go_wp2_with fail
          go_roundg (n - (k + 1))
          · exact ⟨k + 1, by omega, by omega, by go_num, EZ.out, BY.out⟩
          · omega
    · have hlti : ¬ (k : Int) < n := by omega
      have ek : n = k := by omega
      have EZ : Hid (EdgesIn w1.heap.size wr u8 (allE L n n)) := by
        have h := EX.out
        rw [← ek] at h
        exact h
      obtain ⟨la, lc, hv, -⟩ := EZ.out.arg
      rw [hv] at EZ
      subst hv
      have hEL := ed_len L n (by omega)
      have hELi : ((ed L n).length : Int) ≤ 1000000 := by omega
      have EE : ((allE L n n).map intE) = ed L n := rfl
      rw [EE] at EZ ⊢
      have hqq : (((ed L n).length : Int) == ((ed L n).length : Int)) = true := by simp
      clear ek EX EE
      go_wp2_with fail
      refine (edges_ed b n r bk ck L wr (G1.out.later BX.out) (T1.out.later BX.out)).mono ?_
      rintro e w3 ⟨⟨a3, c3, rfl, hA⟩, bl⟩
      have LA := hid hA
      have B3 := hid (BX.out.trans (bl.mono BX.out.size))
      obtain ⟨la', lc', hv', hA'⟩ := (EZ.out.later bl).arg
      have LB : Hid (ArgE w3 la (ed L n)) := by
        injection hv' with e1 e2 e3
        rw [e1]
        exact hA'
      clear hA bl hv' hA' EZ
      go_wp2_with fail
      refine (equal_edges la a3 lc c3 (ed L n) w3 LB.out LA.out hEL).mono ?_
      rintro e w' ⟨rfl, q, rfl⟩
      go_wp2_with fail
      refine (redges_ed b2 n v rw' L _ (R1.out.later (below_drewN B3.out q))).mono ?_
      rintro e w4 ⟨⟨a4, c4, rfl, hA⟩, bl⟩
      have B4 : Hid (Below w1.heap.size w1 w4) := (below_drewN B3.out q).trans (bl.mono (below_drewN B3.out q).size)
      clear hA bl
      go_wp2_with fail
      go_ret
      exact ⟨rfl, B1.out.trans (B4.out.mono B1.out.size)⟩
end Go.Proofs.YtpkfpfflnncleabDoor
