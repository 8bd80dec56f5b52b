/-
  gather at edges.
-/
import Derived.Test.YtbcegdiabnapkabDoorG5
namespace Go.Proofs.YtbcegdiabnapkabDoor
set_option linter.unusedVariables false
set_option linter.unusedSimpArgs false
open Go.RowKit

theorem Tab.from {w w' : World} {B : Nat} (h : Tab w) (hb : Below B w w') (h0 : 0 < B) : Tab w' := fun j hj => by
  have h1 := h j hj
  exact (hb.cell (p := ⟨0, j, none⟩) h0).trans h1
/-- A node's edges of some labels. -/
def rowE (L : Nat → Nat → Nat) (f : Nat) (F : Nat → Bool) (p : Nat) : List (Nat × Nat × Nat) := (lst F p).map fun t => (f, t, L f t)
theorem rowE_len (L : Nat → Nat → Nat) (f : Nat) (F : Nat → Bool) (p : Nat) : (rowE L f F p).length ≤ p := by
  unfold rowE
  rw [List.length_map]
  exact lst_le F p

set_option maxHeartbeats 8000000 in
theorem gatherE_is (b n r f : Nat) (bk ck : Nat → Nat) (L : Nat → Nat → Nat) (labels : Int) (kb B : Nat) (v0 : Value) (l0 : List (Nat × Nat × Nat)) (w : World) (h : Graph w b n r bk ck L) (hf : f < n) (hT : Tab w) (hk : w.heap[kb]? = some (.cells #[.int .i64 f] 3)) (hv : EdgesIn B w v0 l0) (hB : B ≤ w.heap.size) (hB0 : 0 < B) (hl0 : l0.length ≤ 1000000) :
    Calls Tryd.prog 14 #[v0, .slice (some ⟨r, 4 * f, none⟩) 4 4, .int .i64 labels, .func (.func 16) #[] #[.pointer (some ⟨kb, 0, none⟩)]] w fun e w' => (∃ v, e = .returned v ∧ EdgesIn B w' v (l0 ++ rowE L f (endsF L f labels 4) n)) ∧ Past w w' ∧ Below B w w' := by
  obtain ⟨i0, hi, hz'⟩ := Option.map_eq_some_iff.1 Tryd.info80
  simp only [Prod.mk.injEq] at hz'
  obtain ⟨hz0, hz1, hz2⟩ := hz'
  have HI := hid hi
  have HZ0 := hid hz0
  have HZ1 := hid hz1
  have HZ2 := hid hz2
  clear hi hz0 hz1 hz2
  have c0 := h.at (4 * f) (by omega)
  have I0 := hid (h.sets (4 * f) (by omega))
  have hn3 := h.bound
  have hni : (n : Int) ≤ 300 := by omega
  have G := hid h
  have TB := hid hT
  have KB := hid hk
  have EV := hid hv
  clear h hT hk hv
  go_enter Tryd.func14, Tryd.ntmps14
  go_wp2_with (go_at_call 22; refine (bound_is _ _ _ _ _ I0.out).mono ?_; rintro e w' ⟨rfl, rfl⟩)
  go_at_call 18
  refine (new_is n (by omega) w).mono ?_
  rintro e w1 ⟨rfl, s1, b1, z1⟩
  have S1 := hid s1
  have B1 := hid b1
  clear s1 b1 z1
  go_wp2_with fail
  go_loopg [11, 12, 25] 4 (fun g _ _ i wr => ∃ k : Nat, k ≤ 4 ∧ 4 - k ≤ g ∧ i = .int .i64 k ∧ Aside (Is wr (w.heap.size + 1) n w.heap.size (endsF L f labels k)) ∧ Aside (EdgesIn B wr v0 l0) ∧ Aside (Below w.heap.size w wr))
  case atStart => exact ⟨0, by omega, by omega, rfl, S1.out, EV.out.later B1.out, B1.out⟩
  case round =>
    obtain ⟨k, hk, hg, rfl, SX, EX, BX⟩ := hrel
    by_cases hlt : k < 4
    · have hlti : (k : Int) < 4 := by omega
      have GX := G.out.later BX.out
      have cr := GX.at (4 * f + k) (by omega)
      have IK := hid (GX.setAt f k hf hlt)
      have hlb : bk (4 * f + k) < w.heap.size ∧ ck (4 * f + k) < w.heap.size := (G.out.setAt f k hf hlt).blt
      have ES := hid (endsF_succ L f labels k)
      clear GX
      cases hb : lbit labels k
      · have q : (bits BinOp.and IntKind.i64 (labels / 2 ^ k) 1 == 1) = false := hb
        rw [hb] at ES
        clear hb
        go_wp2_with fail
        go_roundg (4 - (k + 1))
        · exact ⟨k + 1, by omega, by omega, by go_num, SX.out.congr (fun t => by rw [ES.out]; simp), EX.out, BX.out⟩
        · omega
      · have q : (bits BinOp.and IntKind.i64 (labels / 2 ^ k) 1 == 1) = true := hb
        rw [hb] at ES
        clear hb
        go_wp2_with fail
        go_at_call 23
        refine (or_is _ n _ _ _ _ _ _ SX.out IK.out (by omega) (by omega)).mono ?_
        rintro e wa ⟨⟨t, rfl, ht⟩, sa, ba, za⟩
        have SN : Hid (Is wa (w.heap.size + 1) n w.heap.size (endsF L f labels (k + 1))) := sa.congr (fun t => by rw [ES.out]; simp)
        have EN : Hid (EdgesIn B wa v0 l0) := EX.out.beside SX.out ba
        have BN : Hid (Below w.heap.size w wa) := BX.out.trans (ba.below (Nat.le_refl _) BX.out.size)
        clear sa ba za ht
        go_wp2_with fail
        go_roundg (4 - (k + 1))
        · exact ⟨k + 1, by omega, by omega, by go_num, SN.out, EN.out, BN.out⟩
        · omega
    · have hlti : ¬ (k : Int) < 4 := by omega
      have ek : k = 4 := by omega
      subst ek
      have TX : Hid (Tab wr) := TB.out.later BX.out
      have TP := hid SX.out.top
      obtain ⟨F, hF⟩ : ∃ F, endsF L f labels 4 = F := ⟨_, rfl⟩
      rw [hF] at SX TP
      have HF := hid hF
      have GX := hid (G.out.later BX.out)
      have KX : Hid (wr.heap[kb]? = some (.cells #[.int .i64 f] 3)) := (BX.out.block kb (blt KB.out)).trans KB.out
      have PX := hid (Past.of_below BX.out)
      have BB : Hid (Below B w wr) := BX.out.mono hB
      have hwo : B ≤ wr.heap.size := Nat.le_trans hB BX.out.size
      clear hF BX S1 B1
      generalize wr = wo at *
      go_wp2_with fail
      go_at_call 24
      refine (next_is _ _ _ _ _ _ SX.out TX.out).mono ?_
      rintro e w' ⟨⟨r0, t0, rfl, hN⟩, rfl⟩
      have N0 := hid hN
      clear hN
      go_wp2_with fail
      go_loopg [0, 13, 14] n (fun g l i ok wr2 => ∃ (p : Nat) (q : Int) (t : Bool), p ≤ n ∧ n - p ≤ g ∧ i = .int .i64 q ∧ ok = .bool t ∧ Aside (NextIs F p q t) ∧ Aside (EdgesIn B wr2 l (l0 ++ rowE L f F p)) ∧ Aside (Past wo wr2) ∧ Aside (Below B wo wr2))
      case atStart => exact ⟨0, r0, t0, Nat.zero_le _, by omega, rfl, rfl, N0.out, (by show EdgesIn B wo v0 (l0 ++ rowE L f F 0); simpa [rowE, lst] using EX.out), Past.refl _, Below.refl _ _⟩
      case round =>
        clear N0 EX
        obtain ⟨p, q, t, hp, hg2, rfl, rfl, NX, OX, PY, BY⟩ := hrel
        rcases NX.out with ⟨rfl, j, rfl, hpj, hfj, hgap⟩ | ⟨rfl, rfl, hgap⟩
        · have hjn : j < n := by
            rcases Nat.lt_or_ge j n with h1 | h1
            · exact h1
            · have := TP.out j h1
              rw [hfj] at this
              cases this
          have hl1 := lst_step F p j hpj hfj hgap
          have HL : Hid (l0 ++ rowE L f F (j + 1) = (l0 ++ rowE L f F p) ++ [(f, j, L f j)]) := by
            show _ = _
            unfold rowE
            rw [hl1]
            simp
          have HLE := hid (rowE_len L f F p)
          have hji : (j : Int) < 300 := by omega
          have hji0 : (0 : Int) ≤ j := by omega
          have hsz : Hid (B ≤ wr.heap.size) := Nat.le_trans hwo BY.out.size
          have LB0 := labelsIn_at b n r f bk ck L j wr (GX.out.past PY.out) hf
          have el : labAt L f (j : Int) = L f j := by unfold labAt; simp
          rw [el] at LB0
          have LB := hid LB0
          have KY := PY.out.at KX.out (by decide)
          have KC := hid (edgeC f j (L f j : Nat) kb wr (Lib.cell_of_heap KY 0))
          clear NX hgap hfj hl1 LB0 el KY
          obtain ⟨lab, hlab⟩ : ∃ x, L f j = x := ⟨_, rfl⟩
          rw [hlab] at HL LB KC
          clear hlab
          go_wp2_with fail
          refine LB.out.mono ?_
          rintro e w' ⟨rfl, rfl⟩
          go_wp2_with fail
          refine KC.out.mono ?_
          rintro e w3 ⟨rfl, b3⟩
          have B3 := hid b3
          have O3 : Hid (EdgesIn B w3 u0 (l0 ++ rowE L f F p)) := OX.out.later b3
          clear b3
          obtain ⟨M, hM⟩ : ∃ M, (l0 ++ rowE L f F p).length = M := ⟨_, rfl⟩
          have O3r : Hid (w3.ownsRow B 37 3 u0 M (edgesV (l0 ++ rowE L f F p))) := by rw [← hM]; exact O3.out
          have hMb : M ≤ 1000300 := by have := HLE.out; rw [← hM, List.length_append]; omega
          have HM := hid hM
          clear hM
          go_wp2_with (at_builtin; refine wpList_append_lies _ rfl _ _ 34 rfl B 37 i0 _ 3 24 Tryd.underlying34 HI.out HZ0.out HZ1.out HZ2.out rfl (by decide) u0 M (edgesV (l0 ++ rowE L f F p)) rfl ?hown ⟨w3.heap.size, 0, none⟩ 1 1 (edgeV (f, j, lab)) rfl rfl ?hnews ?hone (by decide) ?h63 ?hby ?hbase (w3.heap.size + 1) ?hH ?_)
          case hown => exact World.ownsRow.alloc O3r.out _
          case hnews => exact World.news_of_block (heap_alloc_new w3 (.cells #[.int .i64 f, .int .i64 j, .int .i64 lab] 37))
          case hone => intro u hu; unfold edgeV at hu; simp at hu; rcases hu with rfl | rfl | rfl <;> rfl
          case h63 => unfold maxLen; omega
          case hby => omega
          case hbase => have := hsz.out; have := B3.out.size; simp; omega
          case hH => simp
          intro g cap w4 hown4 hgrow hat hglt
          have P4 : Hid (Past wo w4) := PY.out.trans ((Past.of_below (B3.out.trans ((below_box w3 _).mono B3.out.size))).trans (Past.grown (World.ownsRow.alloc O3r.out _) hgrow))
          have B4 : Hid (Below B wo w4) := BY.out.trans (((B3.out.mono hsz.out).trans ((below_box w3 _).mono (Nat.le_trans hsz.out B3.out.size))).grown hgrow (by have := hsz.out; have := B3.out.size; simp; omega) (fun x hx => (O3r.out.lt x hx).1))
          have O4 : Hid (EdgesIn B w4 (.slice (some ⟨g, 0, none⟩) (M + 1) cap) (l0 ++ rowE L f F (j + 1))) := by
            have e1 : (l0 ++ rowE L f F (j + 1)).length = M + 1 := by rw [HL.out, List.length_append, HM.out]; rfl
            show EdgesIn B w4 _ _
            unfold EdgesIn
            rw [e1, HL.out, edgesV_snoc]
            exact hown4
          clear hown4 hgrow hat hglt
          go_wp2_with fail
          go_at_call 24
          refine (next_is _ _ _ _ _ _ (SX.out.past P4.out) (TX.out.from B4.out hB0)).mono ?_
          rintro e w' ⟨⟨r2, t2, rfl, hN⟩, rfl⟩
          have ej : ((j : Int) + 1).toNat = j + 1 := by omega
          rw [ej] at hN
          have N2 := hid hN
          clear hN
          go_wp2_with fail
          go_roundg (n - (j + 1))
          · exact ⟨j + 1, r2, t2, by omega, by omega, rfl, rfl, N2.out, O4.out, P4.out, B4.out⟩
          · omega
        · have e := lst_gap F p n hp (fun k h1 _ => hgap k h1)
          have O5 : Hid (EdgesIn B wr u0 (l0 ++ rowE L f F n)) := by
            unfold rowE
            rw [e]
            exact OX.out
          clear e hgap NX
          go_wp2_with fail
          go_ret
          exact ⟨⟨_, rfl, by rw [HF.out]; exact O5.out⟩, PX.out.trans PY.out, BB.out.trans BY.out⟩
end Go.Proofs.YtbcegdiabnapkabDoor
