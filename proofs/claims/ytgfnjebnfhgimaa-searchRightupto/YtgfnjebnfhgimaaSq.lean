/-
  The document's Replay.
-/
import Derived.Test.YtgfnjebnfhgimaaSp
import Derived.Test.YtgfnjebnfhgimaaR6
namespace Go.Proofs.Ytgfnjebnfhgimaa
set_option linter.unusedVariables false
set_option linter.unusedSimpArgs false
open Go.RowKit Go.Lib Go.Maps
open Tx (MTxn TxnsIn TxnRow)

set_option maxHeartbeats 4000000 in
set_option maxRecDepth 100000 in
theorem rreplay_is (w : World) (tv ov : Value) (l : List MTxn) (ord : List Int) (ht : TxnsIn Any w tv l) (ho : IntsIn Any w ov ord) (hl40 : l.length ≤ 262144) (hl10 : ∀ t ∈ l, t.ops.length ≤ 1048576) :
    Calls Try.prog 9 #[tv, ov] w fun e w' => RPost l ord w e w' := by
  obtain ⟨ta, tc, rfl, ⟨hby, hcap⟩, hT⟩ := txns_cells ht
  obtain ⟨oa, oc, rfl, ⟨ob1, ob2⟩, hO⟩ := ho.cells
  have HT := hid hT
  have HO := hid hO
  have hlen : (l.length : Int) ≤ 262144 := by omega
  have holen : (ord.length : Int) ≤ 17592186044416 := by omega
  have HL10 := hid hl10
  clear hT hO ho hl10
  go_enter Try.func9, Try.ntmps9
  go_wp2_with fail
  obtain ⟨xb, hxb⟩ : ∃ xb, w.heap.size = xb := ⟨_, rfl⟩
  obtain ⟨w1, hw1⟩ : ∃ w1, w.alloc (.cells #[.slice none 0 0] 39) = w1 := ⟨_, rfl⟩
  have B1 : Hid (Below w.heap.size w w1) := by rw [← hw1]; exact below_box w _
  have R1 : Hid (Rst w.heap.size w1 xb (.slice none 0 0) []) := ⟨by rw [← hw1, ← hxb, alloc_at, if_pos rfl], ⟨[], World.ownsRow_nil _ _ _ _, rfl, fun r hr => by simp at hr⟩⟩
  have hxw : w.heap.size ≤ xb := by omega
  rw [hxb, hw1]
  clear hw1 hxb
  go_loopg [14] ord.length (fun gg i wr => ∃ k : Nat, k ≤ ord.length ∧ ord.length - k ≤ gg ∧ i = .int .i64 k ∧ Aside (Below w.heap.size w wr) ∧ Aside (∃ v, Rst w.heap.size wr xb v (rpL l ord k)) ∧ Aside (∀ j, j < k → goodR l ord j))
  case atStart => exact ⟨0, Nat.zero_le _, by omega, rfl, B1.out, ⟨_, R1.out⟩, fun j hj => absurd hj (Nat.not_lt_zero _)⟩
  case round =>
    obtain ⟨k, hk, hgk, rfl, BR, RR, GD⟩ := hrel
    obtain ⟨wo, hwo⟩ : ∃ wo, wr = wo := ⟨_, rfl⟩
    subst hwo
    by_cases hlt : k < ord.length
    · have hlti : (k : Int) < ord.length := by omega
      obtain ⟨ob, oo, rfl, k0⟩ := HO.out k hlt
      have hobl := World.block_lt_of_cell? _ _ k0
      have d0 := (BR.out.cell (p := ⟨ob, oo + k, none⟩) hobl).trans k0
      obtain ⟨x, hx⟩ : ∃ x, ord.getD k default = x := ⟨_, rfl⟩
      have HX : Hid (ord.getD k 0 = x) := hx
      rw [hx] at d0
      clear k0 hx
      by_cases hx0 : x < 0
      · have HN : Hid (¬ goodR l ord k) := fun c => by have := c.1; rw [HX.out] at this; omega
        go_wp2_with fail
        go_ret
        exact ⟨false, rfl, ⟨fun c => absurd c (by decide), fun c => absurd (c k hlt) HN.out⟩, BR.out⟩
      · have hx0' : 0 ≤ x := by omega
        by_cases hxl : x < l.length
        · obtain ⟨j, hj⟩ : ∃ j : Nat, x = j := ⟨x.toNat, by omega⟩
          subst hj
          have hjl : j < l.length := by omega
          have hjd : ¬ ((l.length : Int) ≤ j) := by omega
          have hkc : (k : Int) ≤ oc := by omega
          have hk0 : (0 : Int) ≤ k := by omega
          have hoc0 : ¬ oc = 0 := by omega
          generalize wr = wo at *
          go_wp2_with fail
          go_loopg [31] k (fun gg i wr => ∃ q : Nat, q ≤ k ∧ k - q ≤ gg ∧ i = .int .i64 q ∧ Aside (wr = wo) ∧ Aside (∀ i, i < q → ord.getD i 0 ≠ (j : Int)))
          case atStart => exact ⟨0, Nat.zero_le _, by omega, rfl, rfl, fun i hi => absurd hi (Nat.not_lt_zero _)⟩
          case round =>
            obtain ⟨q, hq, hgq, rfl, hwo, NQ⟩ := hrel
            have hwo2 : wr = wo := hwo
            subst hwo2
            clear hwo
            by_cases hqk : q < k
            · have hqki : (q : Int) < k := by omega
              obtain ⟨ob2, oo2, he2, kq⟩ := HO.out q (by omega)
              have e1 : ob = ob2 := by injection he2 with e; injection e
              have e2 : oo = oo2 := by injection he2 with e; injection e
              subst e1 e2
              have dq := (BR.out.cell (p := ⟨ob, oo + q, none⟩) hobl).trans kq
              obtain ⟨y, hy⟩ : ∃ y, ord.getD q default = y := ⟨_, rfl⟩
              have HY : Hid (ord.getD q 0 = y) := hy
              rw [hy] at dq
              clear kq hy he2
              cases hyj : (y == (j : Int)) with
              | true =>
                have HN : Hid (¬ goodR l ord k) := fun c => c.2.2.1 q hqk (by rw [HX.out, HY.out]; exact beq_iff_eq.1 hyj)
                go_wp2_with fail
                go_ret
                exact ⟨false, rfl, ⟨fun c => absurd c (by decide), fun c => absurd (c k hlt) HN.out⟩, BR.out⟩
              | false =>
                have HE : Hid (y ≠ (j : Int)) := fun e => by rw [e] at hyj; simp at hyj
                go_wp2_with fail
                go_roundg (k - (q + 1))
                case measure => omega
                case rel =>
                  refine ⟨q + 1, by omega, by omega, by go_num, rfl, (show Aside _ from fun i hi => ?_)⟩
                  by_cases e : i = q
                  · subst e
                    rw [HY.out]
                    exact HE.out
                  · exact NQ.out i (by omega)
            · have HD : Hid (∀ i, i < k → ord.getD i 0 ≠ ord.getD k 0) := fun i hi => by rw [HX.out]; exact NQ.out i (by omega)
              obtain ⟨v, hv⟩ := RR.out
              obtain ⟨tb, tf, ov, hta, hrow, hops⟩ := HT.out j hjl
              subst hta
              have hkl := good_le l ord k GD.out
              have c1 := hrow 1 _ rfl
              have c4 := hrow 4 _ rfl
              have htb := World.block_lt_of_cell? _ _ c1
              have hop0 : OpsIn Any w ov (l.getD j default).ops := hops
              have d1 : wr.cell? ⟨tb, tf + j * 5 + 1, none⟩ = some (.int .i64 (l.getD j default).state) := (BR.out.cell (p := ⟨tb, tf + j * 5 + 1, none⟩) htb).trans c1
              have d4 : wr.cell? ⟨tb, tf + j * 5 + 4, none⟩ = some ov := (BR.out.cell (p := ⟨tb, tf + j * 5 + 4, none⟩) htb).trans c4
              obtain ⟨oa2, oc2, hov, _⟩ := hop0
              have HOP : Hid (OpsIn Any wr ov (l.getD j default).ops) := hops.keep (keeps_below BR.out) (fun _ _ _ => trivial)
              obtain ⟨T, hTt⟩ : ∃ T, l.getD j default = T := ⟨_, rfl⟩
              have hTm : T ∈ l := by rw [← hTt, List.getD, List.getElem?_eq_getElem hjl]; exact List.getElem_mem hjl
              have hT10 := HL10.out T hTm
              have HTO : Hid (txO l (ord.getD k 0) = T) := by show txO l _ = T; rw [HX.out]; exact hTt
              rw [hTt] at d1 hov HOP
              have hrl := rp_len l ord HL10.out k
              have AP := rapply_is w.heap.size wr.drew xb v (rpL l ord k) T.ops ov (T.state == 3) (hv.later (below_drewN (Below.refl _ _) 1)) BR.out.size (HOP.out.keep (fun _ _ _ => rfl) (fun _ _ x => x)) (by omega)
              subst hov
              have APH := hid AP
              have HV := hid hv
              have hxbl := hv.lt
              have hbsz := BR.out.size
              clear AP hv hrow hops c1 c4 RR hTt
              go_wp2_with fail
              go_region_held3 (fun w' => w'.cell? ⟨tb, tf + j * 5 + 1, none⟩ = some (.int .i64 T.state) ∧ w'.cell? ⟨tb, tf + j * 5 + 4, none⟩ = some (.slice oa2 T.ops.length oc2)) (go_keep) (first
                | (go_at_call 16
                   refine APH.out.mono ?_
                   rintro e w5 ⟨b5, v5, rfl, hb5, hs5, ho5, hg5⟩
                   have OK5 := hid hb5
                   have S5 := hid hs5
                   have G5 := hid hg5
                   clear hb5 hs5 hg5 ho5
                   have hbl5 : wr.heap.size ≤ w5.heap.size := G5.out.size
                   have e1 : w5.cell? ⟨tb, tf + j * 5 + 1, none⟩ = some (.int .i64 T.state) := (World.cell?_of_block (a := ⟨tb, tf + j * 5 + 1, none⟩) (G5.out.block tb (by show tb < wr.heap.size; omega) (fun c => by have c' : tb = xb := c; omega))).trans d1
                   have e4 : w5.cell? ⟨tb, tf + j * 5 + 4, none⟩ = some (.slice oa2 T.ops.length oc2) := (World.cell?_of_block (a := ⟨tb, tf + j * 5 + 4, none⟩) (G5.out.block tb (by show tb < wr.heap.size; omega) (fun c => by have c' : tb = xb := c; omega))).trans d4))
              all_goals
                have B5 : Hid (Below w.heap.size w w5) := ⟨G5.out.os.trans BR.out.os, G5.out.tape.trans BR.out.tape, G5.out.output.trans BR.out.output, by omega, fun b hb => (G5.out.block b (by show b < wr.heap.size; omega) (fun c => by have c' : b = xb := c; omega)).trans (BR.out.block b hb)⟩
                cases b5 with
                | true =>
                  go_wp2_with fail
                  go_roundg (ord.length - (k + 1))
                  case measure => omega
                  case rel =>
                    refine ⟨k + 1, by omega, by omega, by go_num, B5.out, (show Aside _ from ⟨v5, ?_⟩), (show Aside _ from fun i hi => ?_)⟩
                    · have hS := S5.out
                      simp only [if_true] at hS
                      rw [rpL, HTO.out]
                      exact hS
                    · by_cases e : i = k
                      · subst e
                        refine ⟨by rw [HX.out]; omega, by rw [HX.out]; omega, HD.out, ?_⟩
                        rw [HTO.out]
                        exact OK5.out.1 (by first | rfl | trivial)
                      · exact GD.out i (by omega)
                | false =>
                  have HN : Hid (¬ goodR l ord k) := fun c => by
                    have q := c.2.2.2
                    rw [HTO.out] at q
                    exact absurd (OK5.out.2 q) (by decide)
                  go_wp2_with fail
                  go_ret
                  exact ⟨false, rfl, ⟨fun c => absurd c (by decide), fun c => absurd (c k hlt) HN.out⟩, B5.out⟩
        · have hxl' : (l.length : Int) ≤ x := by omega
          have HN : Hid (¬ goodR l ord k) := fun c => by have := c.2.1; rw [HX.out] at this; omega
          go_wp2_with fail
          go_ret
          exact ⟨false, rfl, ⟨fun c => absurd c (by decide), fun c => absurd (c k hlt) HN.out⟩, BR.out⟩
    · go_wp2_with fail
      go_ret
      exact ⟨true, rfl, ⟨fun _ j hj => GD.out j (by omega), fun _ => rfl⟩, BR.out⟩
end Go.Proofs.Ytgfnjebnfhgimaa
