/-
  The walk of assayerplain's Small.
-/
import Derived.Test.YtnfbcmnlloipiaaT4
import Derived.RegionTactic
namespace Go.Proofs.Ytnfbcmnlloipiaa.Tx
set_option linter.unusedVariables false
set_option linter.unusedSimpArgs false
open Go.RowKit Go.Lib

def cutTo (f : Nat → MTxn) (k : Nat) : Nat → MTxn := fun j => if j < k then cutTxn (f j) else f j
/-- Of transaction k the first q operations have been cut. -/
def cutAt (f : Nat → MTxn) (k q : Nat) : Nat → MTxn := fun j => if j < k then cutTxn (f j) else if j = k then withOps (f k) (partL ((f k).ops.take 10) q) else f j
theorem cutTo_at (f : Nat → MTxn) (k : Nat) : cutTo f k k = f k := by simp [cutTo]
theorem cutAt_at (f : Nat → MTxn) (k q : Nat) : cutAt f k q k = withOps (f k) (partL ((f k).ops.take 10) q) := by simp [cutAt]

set_option maxHeartbeats 4000000 in
set_option maxRecDepth 100000 in
theorem small_walk {S : Nat → Prop} (a1 : Option Addr) (c1 n : Nat) (xs : List MTxn) (w : World) (hx : xs.length = n) (hbytes : n * 56 ≤ 140737488355328) (hcap : n ≤ c1)
    (h1 : RowCells 5 (TxnRow S w) w a1 xs n) :
    Calls Try.prog 9 #[.slice a1 n c1] w fun e w' => ∃ v', e = .returned v' ∧ TxnsOwn w.heap.size w' v' (smallL xs) ∧ Below w.heap.size w w' := by
  obtain ⟨m, hm⟩ : ∃ m, m = min n 40 := ⟨_, rfl⟩
  have hmi : min (n : Int) 40 = (m : Int) := by omega
  have HM := hid hm
  have hmn : m ≤ n := by omega
  have hm40 : m ≤ 40 := by omega
  have hmc : (m : Int) ≤ (c1 : Int) := by omega
  have HX : Hid ((xs.take 40).length = m) := by show _ = _; rw [List.length_take, hx, hm]; omega
  have H1 : Hid (RowCells 5 (TxnRow S w) w a1 (xs.take 40) m) := fun j hj => by
    obtain ⟨b, o, cs, r1, r2, r3, r4, r5⟩ := h1 j (by omega)
    refine ⟨b, o, cs, r1, r2, r3, ?_, r5⟩
    have e : (xs.take 40).getD j default = xs.getD j default := by
      simp only [List.getD]
      rw [List.getElem?_take_of_lt (by omega)]
    rw [e]
    exact r4
  have HB : Hid (m * 56 ≤ 140737488355328) := by show _ ≤ _; omega
  clear hm h1 hbytes hcap hx
  go_enter Try.func9, Try.ntmps9
  go_wp2_with fail
  go_at_call 29
  refine (txns_walk (S := S) a1 c1 m (xs.take 40) w HX.out HB.out H1.out).mono ?_
  rintro e w1 ⟨v1, rfl, ⟨ao, c, hv, hl, hc⟩, hb⟩
  rw [HX.out] at hv hl hc
  subst hv
  have B1 := hid hb
  have HC := hid hl
  obtain ⟨b, D, hao⟩ : ∃ b D, 0 < m → ao = some ⟨b, 0, none⟩ ∧ TX w.heap.size b D w1 m (fun j => (xs.take 40).getD j default) := by
    by_cases h0 : 0 < m
    · obtain ⟨b, D, h2⟩ := hc h0
      exact ⟨b, D, fun _ => h2⟩
    · exact ⟨0, fun _ _ => False, fun h => absurd h h0⟩
  obtain ⟨f, hf⟩ : ∃ f : Nat → MTxn, f = (fun j => (xs.take 40).getD j default) := ⟨_, rfl⟩
  rw [← hf] at hao
  have HF := hid hf
  have AO := hid hao
  clear hb hl hc H1 hao hf hmi hmc
  go_wp2_with fail
  go_loopg [4, 15] m (fun g _ i wr => ∃ k : Nat, k ≤ m ∧ m - k ≤ g ∧ i = .int .i64 k ∧ Aside (Below w.heap.size w wr ∧ (0 < m → TX w.heap.size b D wr m (cutTo f k))))
  case atStart => exact ⟨0, Nat.zero_le _, by omega, rfl, (⟨B1.out, fun h => (AO.out h).2.congr (fun j hj => by simp [cutTo])⟩ : _ ∧ _)⟩
  case round =>
    obtain ⟨k, hk, hg, rfl, T⟩ := hrel
    by_cases hlt : k < m
    · have hlti : (k : Int) < (m : Int) := by omega
      obtain ⟨rfl, -⟩ := AO.out (by omega)
      obtain ⟨ao2, c2, q1, q2, q3, q4⟩ := (T.out.2 (by omega)).cutOps k hlt
      rw [cutTo_at] at q1 q2 q3 q4
      obtain ⟨N, hN⟩ : ∃ N, (f k).ops.length = N := ⟨_, rfl⟩
      rw [hN] at q1 q2 q3
      have HN := hid hN
      obtain ⟨M, hM⟩ : ∃ M, M = min N 10 := ⟨_, rfl⟩
      have hMi : min (N : Int) 10 = (M : Int) := by omega
      have hMc : (M : Int) ≤ (c2 : Int) := by omega
      have Q4 := hid (fun w' => q4 w' M (by rw [hN, hM]))
      have zf := (T.out.2 (by omega)).fz (k * 5 + 4)
      clear q4 hN hM AO HF
      go_wp2_with fail
      go_region
      have T2 : Hid (TX w.heap.size b D (wr.setCell ⟨b, k * 5 + 4, none⟩ (.slice ao2 M c2)).drew m (cutAt f k 0)) := by
        show TX _ _ _ _ _ _
        refine (Q4.out (wr.setCell ⟨b, k * 5 + 4, none⟩ (.slice ao2 M c2)).drew rfl).congr (fun j hj => ?_)
        simp only [cutAt, cutTo, partL_zero]
        by_cases h1 : j < k
        · rw [if_pos h1, if_neg (by omega), if_pos h1]
        · by_cases h2 : j = k
          · rw [if_neg h1, if_pos h2, if_pos h2]
          · rw [if_neg h1, if_neg h2, if_neg h2, if_neg h1]
      have B2 : Hid (Below w.heap.size w (wr.setCell ⟨b, k * 5 + 4, none⟩ (.slice ao2 M c2)).drew) := (T.out.1.setCell (T.out.2 (by omega)).le _).drew
      clear Q4 T zf
      have k4 : ((wr.setCell ⟨b, k * 5 + 4, none⟩ (.slice ao2 M c2)).drew).cell? ⟨b, k * 5 + 4, none⟩ = some (.slice ao2 M c2) := World.cell?_setCell_same wr _ _ q1
      clear q1
      generalize (wr.setCell ⟨b, k * 5 + 4, none⟩ (.slice ao2 M c2)).drew = w2 at *
      have LN : Hid (((f k).ops.take 10).length = M) := by
        show _ = _
        rw [List.length_take, HN.out]
        omega
      go_wp2_with fail
      go_loopg [5, 41] M (fun g _ i wr => ∃ q : Nat, q ≤ M ∧ M - q ≤ g ∧ i = .int .i64 q ∧ wr.cell? ⟨b, k * 5 + 4, none⟩ = some (.slice ao2 M c2) ∧ Aside (Below w.heap.size w wr ∧ TX w.heap.size b D wr m (cutAt f k q)))
      case atStart => exact ⟨0, Nat.zero_le _, by omega, rfl, k4, (⟨B2.out, T2.out⟩ : _ ∧ _)⟩
      case round =>
        obtain ⟨q, hq, hg2, rfl, k5, T3⟩ := hrel
        by_cases hqt : q < M
        · have hqti : (q : Int) < (M : Int) := by omega
          have ea : (cutAt f k q k).ops = partL ((f k).ops.take 10) q := by rw [cutAt_at]; rfl
          obtain ⟨bo, c3, al, cl, p1, p2, p3, p4, p5, p6, p7, p9, p8⟩ := T3.out.2.cutList k q hlt (by rw [ea, partL_len, LN.out]; exact hqt)
          rw [k5] at p1
          simp only [ea, partL_len, LN.out] at p1
          have ex : (partL ((f k).ops.take 10) q).getD q default = ((f k).ops.take 10).getD q default := partL_at _ _ (by rw [LN.out]; exact hqt)
          rw [ea, ex] at p3 p4 p5 p8
          simp only [Option.some.injEq, Value.slice.injEq, true_and] at p1
          obtain ⟨rfl, rfl⟩ := p1
          obtain ⟨L, hL⟩ : ∃ L, (((f k).ops.take 10).getD q default).list.length = L := ⟨_, rfl⟩
          rw [hL] at p3 p4 p5 p8
          obtain ⟨M3, hM3⟩ : ∃ M3, M3 = min L 40 := ⟨_, rfl⟩
          have hM3i : min (L : Int) 40 = (M3 : Int) := by omega
          have hM3c : (M3 : Int) ≤ (cl : Int) := by omega
          have T5 : Hid (TX w.heap.size b D (wr.setCell ⟨bo, q * 6 + 3, none⟩ (.slice al M3 cl)).drew m (cutAt f k (q + 1))) := by
            show TX _ _ _ _ _ _
            refine (p8 (wr.setCell ⟨bo, q * 6 + 3, none⟩ (.slice al M3 cl)).drew M3 hM3 rfl).congr (fun j hj => ?_)
            simp only [cutAt]
            by_cases h1 : j < k
            · rw [if_pos h1, if_neg (by omega), if_pos h1]
            · by_cases h2 : j = k
              · rw [if_neg h1, if_pos h2, if_pos h2, partL_succ _ _ (by rw [LN.out]; exact hqt)]
                simp [withOps]
              · rw [if_neg h1, if_neg h2, if_neg h2, if_neg h1, if_neg h2]
          have B5 : Hid (Below w.heap.size w (wr.setCell ⟨bo, q * 6 + 3, none⟩ (.slice al M3 cl)).drew) := (T3.out.1.setCell p7 _).drew
          have k6 : Hid (((wr.setCell ⟨bo, q * 6 + 3, none⟩ (.slice al M3 cl)).drew).cell? ⟨b, k * 5 + 4, none⟩ = some (.slice (some ⟨bo, 0, none⟩) M c2)) := (World.cell?_setCell_other wr _ _ _ (fun e => p9 (congrArg Addr.block e))).trans k5
          clear p8 p9 hL hM3 ea ex T3
          go_wp2_with fail
          go_region
          go_wp2_with fail
          go_roundg (M - (q + 1))
          case measure => omega
          case rel => exact ⟨q + 1, by omega, by omega, by go_num, k6.out, (⟨B5.out, T5.out⟩ : _ ∧ _)⟩
        · have hqti : ¬ (q : Int) < (M : Int) := by omega
          have T4 : Hid (TX w.heap.size b D wr m (cutTo f (k + 1))) := by
            refine T3.out.2.congr (fun j hj => ?_)
            simp only [cutAt, cutTo]
            by_cases h1 : j < k
            · rw [if_pos h1, if_pos (by omega)]
            · by_cases h2 : j = k
              · rw [if_neg h1, if_pos h2, if_pos (by omega), h2, partL_all _ _ (by rw [LN.out]; omega)]
                rfl
              · rw [if_neg h1, if_neg h2, if_neg (by omega)]
          go_wp2_with fail
          go_roundg (m - (k + 1))
          case measure => omega
          case rel => exact ⟨k + 1, by omega, by omega, by go_num, (⟨T3.out.1, fun _ => T4.out⟩ : _ ∧ _)⟩
    · have hlti : ¬ (k : Int) < (m : Int) := by omega
      go_wp2_with fail
      go_ret
      have hkm : k = m := by omega
      subst hkm
      have el : (smallL xs).length = k := by unfold smallL; rw [List.length_map]; exact HX.out
      refine ⟨_, rfl, ⟨ao, c, congrArg (fun x => Value.slice ao x c) el.symm, by rw [el]; exact HC.out, fun h0 => ?_⟩, T.out.1⟩
      rw [el] at h0
      refine ⟨b, D, (AO.out h0).1, ?_⟩
      rw [el]
      refine (T.out.2 h0).congr (fun j hj => ?_)
      rw [cutTo, if_pos hj, HF.out]
      have hj2 : j < (xs.take 40).length := by rw [HX.out]; exact hj
      unfold smallL
      simp only [List.getD, List.getElem?_map]
      rw [List.getElem?_eq_getElem hj2]
      rfl
/-- Small hands the first transactions back, cut, in new memory. -/
theorem small_any {S : Nat → Prop} (v : Value) (l : List MTxn) (w : World) (h : TxnsIn S w v l) :
    Calls Try.prog 9 #[v] w fun e w' => ∃ v', e = .returned v' ∧ TxnsOwn w.heap.size w' v' (smallL l) ∧ Below w.heap.size w w' := by
  obtain ⟨a1, c1, rfl, l1, k1⟩ := RowsIn.cells h (by omega)
  exact small_walk a1 c1 l.length l w rfl l1.1 l1.2 k1
end Go.Proofs.Ytnfbcmnlloipiaa.Tx
