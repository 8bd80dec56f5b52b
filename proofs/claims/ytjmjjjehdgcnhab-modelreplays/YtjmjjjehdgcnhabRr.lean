/-
  The law ModelReplays.
-/
import Derived.Test.YtjmjjjehdgcnhabRq
import Derived.Test.YtjmjjjehdgcnhabCn
namespace Go.Proofs.Ytjmjjjehdgcnhab
set_option linter.unusedVariables false
set_option linter.unusedSimpArgs false
open Go.RowKit Go.Lib Go.Maps
open Tx (MTxn TxnsOwn TxnsIn TX smallL cutTxn cutOp withOps)

theorem own_intsS {B : Nat} {S : Nat → Prop} {w : World} {v : Value} {l : List Int} (h : w.ownsRow B 3 1 v l.length (l.map (Value.int .i64))) (hb : l.length * 8 ≤ 140737488355328) (hS : ∀ g, v.ownBlock = some g → S g) : IntsIn S w v l := by
  rcases h.2 with ⟨hv, hn⟩ | ⟨g, cap, cur, hv, hB, hh, h1, h2, h3⟩
  · exact ⟨none, 0, by rw [hv, hn], ⟨hb, by omega⟩, fun h0 => by omega⟩
  · refine ⟨_, cap, hv, ⟨hb, h1⟩, fun h0 => ⟨g, 0, rfl, hS g (by rw [hv]; rfl), fun j hj => ?_⟩⟩
    subst hv
    rw [Nat.zero_add, World.ownsRow.cellAt h j (by omega)]
    simp [List.getD, hj]
theorem ints_nil (S : Nat → Prop) (W : World) : IntsIn S W (.slice none 0 0) [] := ⟨none, 0, rfl, ⟨by simp, Nat.le_refl _⟩, fun h => absurd h (Nat.lt_irrefl _)⟩
theorem txns_later {B : Nat} {w w' : World} {v : Value} {l : List MTxn} (h : TxnsOwn B w v l) (hb : Below w.heap.size w w') : TxnsOwn B w' v l := by
  obtain ⟨ao, c, hv, hl, hc⟩ := h
  refine ⟨ao, c, hv, hl, fun h0 => ?_⟩
  obtain ⟨b, D, ha, T⟩ := hc h0
  obtain ⟨ov0, hr0, _⟩ := T.row 0 h0
  have hbl : b < w.heap.size := World.block_lt_of_cell? _ _ (hr0 0 _ rfl)
  refine ⟨b, D, ha, T.le, fun o => (Tx.frozen_of_block (hb.block b hbl) o).trans (T.fz o), T.far, T.dis, fun j hj => ?_⟩
  obtain ⟨ov, h1, h2⟩ := T.row j hj
  exact ⟨ov, fun i u hi => (hb.cell (p := ⟨b, j * 5 + i, none⟩) hbl).trans (h1 i u hi), h2.keep (keeps_below hb) (fun _ _ x => x)⟩
theorem small_len (l : List MTxn) : (smallL l).length ≤ 40 := by
  unfold smallL
  rw [List.length_map, List.length_take]
  omega
theorem small_mem {l : List MTxn} {t : MTxn} (h : t ∈ smallL l) : ∃ t0 ∈ l, t = cutTxn t0 := by
  unfold smallL at h
  obtain ⟨t0, h1, h2⟩ := List.mem_map.1 h
  exact ⟨t0, List.mem_of_mem_take h1, h2.symm⟩
theorem small_ten {l : List MTxn} {t : MTxn} (h : t ∈ smallL l) : t.ops.length ≤ 10 := by
  obtain ⟨t0, _, rfl⟩ := small_mem h
  show ((t0.ops.take 10).map cutOp).length ≤ 10
  rw [List.length_map, List.length_take]
  omega
theorem small_key {l : List MTxn} {M : Nat} (hl : ∀ t ∈ l, ∀ o ∈ t.ops, o.key.size ≤ M) {t : MTxn} (h : t ∈ smallL l) : ∀ o ∈ t.ops, o.key.size ≤ M := by
  obtain ⟨t0, h0, rfl⟩ := small_mem h
  intro o ho
  have ho' : o ∈ (t0.ops.take 10).map cutOp := ho
  obtain ⟨o0, h1, rfl⟩ := List.mem_map.1 ho'
  exact hl t0 h0 o0 (List.mem_of_mem_take h1)
set_option maxHeartbeats 4000000 in
set_option maxRecDepth 100000 in
theorem replays_walk (tv ov : Value) (l : List MTxn) (ord : List Int) (w : World) (ht : TxnsIn Any w tv l) (ho : IntsIn Any w ov ord) (hks : ∀ t ∈ l, ∀ o ∈ t.ops, o.key.size ≤ 281474976710656) :
    Calls Try.prog 3 #[tv, ov] w fun e w' => e = .returned (.bool true) ∧ Below w.heap.size w w' := by
  have HT := hid ht
  have HO := hid ho
  have HKS := hid hks
  have hoc := ho.cells
  obtain ⟨oa, oc, hov, ⟨ob1, ob2⟩, hocells⟩ := hoc
  subst hov
  have HOC := hid hocells
  clear ht ho hks hocells
  go_enter Try.func3, Try.ntmps3
  go_wp2_with (first
    | (go_at_call 5
       refine (Tx.small_any _ l _ HT.out).mono ?_
       rintro e w1 ⟨v1, rfl, h1, b1⟩
       have T1 := hid h1
       have B1 := hid b1
       clear h1 b1)
    | (go_at_call 6
       refine (clone_own (S := Any) _ ord _ (HO.out.below B1.out)).mono ?_
       rintro e w2 ⟨v2, rfl, h2, b2⟩
       have I2 : Hid (IntsIn Any w2 v2 ord) := own_intsS h2 ob1 (fun _ _ => trivial)
       have T2 : Hid (TxnsOwn w.heap.size w2 v1 (smallL l)) := txns_later T1.out b2
       have B2 : Hid (Below w.heap.size w w2) := B1.out.trans (b2.mono B1.out.size)
       have P2 : Hid (Calls Try.prog 7 #[v1, v2] w2 fun e w' => RPost (smallL l) ord w2 e w') := replay_is w.heap.size w2 v1 v2 (smallL l) ord T2.out I2.out (small_len l) (fun t ht => small_ten ht) (fun t ht => small_key HKS.out ht)
       clear h2 b2))
  go_at_call 7
  refine P2.out.mono ?_
  rintro e w3 ⟨b1, rfl, hb1, hw3⟩
  have K1 := hid hb1
  have T3 : Hid (TxnsOwn w.heap.size w3 v1 (smallL l)) := txns_later T2.out hw3
  have I3 : Hid (IntsIn Any w3 v2 ord) := I2.out.below hw3
  have B3 : Hid (Below w.heap.size w w3) := B2.out.trans (hw3.mono B2.out.size)
  clear hb1 hw3 P2
  have P3 : Hid (Calls Try.prog 8 #[v1, .slice oa ord.length oc] w3 fun e w' => RPost (smallL l) ord w3 e w') := rreplay_is w.heap.size w3 v1 _ (smallL l) ord T3.out (HO.out.below B3.out) (small_len l) (fun t ht => small_ten ht)
  go_wp2_with fail
  go_at_call 8
  refine P3.out.mono ?_
  rintro e w4 ⟨b2, rfl, hb2, hw4⟩
  have hbb : b1 = b2 := by
    have h1 := K1.out
    cases b1 <;> cases b2
    · rfl
    · exact absurd (h1.2 (hb2.1 rfl)) (by decide)
    · exact absurd (hb2.2 (h1.1 rfl)) (by decide)
    · rfl
  have T4 : Hid (TxnsOwn w.heap.size w4 v1 (smallL l)) := txns_later T3.out hw4
  have B4 : Hid (Below w.heap.size w w4) := B3.out.trans (hw4.mono B3.out.size)
  have I4 := I3.out.below hw4
  obtain ⟨ga, gc, hgv, _, hgcells⟩ := I4.cells
  subst hgv
  subst hbb
  have hbb2 : (b1 == b1) = true := by simp
  have HE : Hid (Calls Try.prog 9 #[.slice ga ord.length gc, .slice oa ord.length oc] w4 fun e w' => e = .returned (.bool true) ∧ ∃ q, w' = w4.drewN q) := by
    have q := slicesEqual_cells ga oa gc oc ord.length ord.length ord ord w4 rfl rfl (by omega) hgcells (HOC.out.later B4.out)
    rw [decide_eq_true rfl] at q
    exact q
  clear hb2 hw4 hgcells I4 K1 P3
  go_wp2_with fail
  go_at_call 9
  refine HE.out.mono ?_
  rintro e w5 ⟨rfl, q5, rfl⟩
  have B5 : Hid (Below w.heap.size w (w4.drewN q5)) := below_drewN B4.out q5
  have P5 : Hid (Calls Try.prog 7 #[v1, .slice none 0 0] (w4.drewN q5) fun e w' => RPost (smallL l) [] (w4.drewN q5) e w') := replay_is w.heap.size _ v1 _ (smallL l) [] (txns_later T4.out (below_drewN (Below.refl _ _) q5)) (ints_nil _ _) (small_len l) (fun t ht => small_ten ht) (fun t ht => small_key HKS.out ht)
  go_wp2_with fail
  go_at_call 7
  refine P5.out.mono ?_
  rintro e w6 ⟨b6, rfl, hb6, hw6⟩
  have hbt : b6 = true := hb6.2 (fun k hk => absurd hk (Nat.not_lt_zero _))
  subst hbt
  have B6 : Hid (Below w.heap.size w w6) := B5.out.trans (hw6.mono B5.out.size)
  clear hb6 hw6
  go_wp2_with fail
  go_ret
  exact ⟨rfl, B6.out⟩
end Go.Proofs.Ytjmjjjehdgcnhab
