/-
  The law TableUnique.
-/
import Derived.Test.YtppemdockjbkdaaTb8
namespace Go.Proofs.Ytppemdockjbkdaa
set_option linter.unusedVariables false
set_option linter.unusedSimpArgs false
open Go.RowKit Go.Lib Go.Maps Go.Sort
open Tx (MTxn info_parts flatten_len flatten_get RowsIn.cells RowCells TxnRow TxnsIn TxnsOwn setCell_self cloneInts_any OpsOwn smallL cutTxn cutOp)

/-- The cells of a transaction. -/
def txC (t : MTxn) (ov : Value) : List Value := [.int .i64 t.proc, .int .i64 t.state, .int .i64 t.since, .int .i64 t.till, ov]
/-- A row more behind those of a clone. -/
theorem rows_more {S : Nat → Prop} {w w4 : World} {B : Nat} {rows : List (List Value)} {l : List MTxn} {x : MTxn} {ov v' : Value} (h1 : rows.length = l.length) (h2 : ∀ r ∈ rows, r.length = 5) (h3 : ∀ j, j < l.length → TxnRow S w (rows.getD j []) (l.getD j default)) (hx : OpsIn S w ov x.ops) (hb : Below w.heap.size w w4) (hn : (l.length + 1) * 56 ≤ 140737488355328)
    (ho : w4.ownsRow B 36 5 v' (l.length + 1) (rows.flatten ++ txC x ov)) : TxnsIn S w4 v' (l ++ [x]) ∨ ¬ (∀ b, S b) := by
  by_cases hS : ∀ b, S b
  · left
    have hR : Rows1 5 36 (TxnRow S w4) B w4 v' (l ++ [x]) := by
      refine ⟨rows ++ [txC x ov], by simp [h1], fun r hr => ?_, fun j hj => ?_, by rw [List.length_append, List.flatten_append]; simpa using ho⟩
      · rcases List.mem_append.1 hr with hr | hr
        · exact h2 r hr
        · obtain rfl : r = txC x ov := by simpa using hr
          rfl
      · by_cases e : j < l.length
        · have e1 : (rows ++ [txC x ov]).getD j [] = rows.getD j [] := by simp [List.getD, List.getElem?_append_left (show j < rows.length by omega)]
          have e2 : (l ++ [x]).getD j default = l.getD j default := by simp [List.getD, List.getElem?_append_left e]
          rw [e1, e2]
          exact (h3 j e).keep (keeps_below hb) (fun _ _ h => h)
        · have ej : j = l.length := by simp at hj; omega
          subst ej
          have e1 : (rows ++ [txC x ov]).getD l.length [] = txC x ov := by rw [← h1]; simp [List.getD]
          have e2 : (l ++ [x]).getD l.length default = x := by simp [List.getD]
          rw [e1, e2]
          exact ⟨ov, rfl, hx.keep (keeps_below hb) (fun _ _ h => h)⟩
    obtain ⟨g, c, hv, hc, _, _, _, hrow⟩ := hR.cell (by simp)
    refine ⟨_, c, hv, ⟨by rw [List.length_append]; exact hn, hc⟩, fun _ => ⟨g, 0, rfl, hS g, fun j hj => ?_⟩⟩
    obtain ⟨cs, q1, q2, q3⟩ := hrow j hj
    exact ⟨cs, q1, q2, fun i u hi => by rw [Nat.zero_add]; exact q3 i u hi⟩
  · exact .inr hS
theorem more_txns {W w6 : World} {B : Nat} {rows : List (List Value)} {l : List MTxn} {x : MTxn} {ov v' : Value} (h1 : rows.length = l.length) (h2 : ∀ r ∈ rows, r.length = 5) (h3 : ∀ j, j < l.length → TxnRow Any W (rows.getD j []) (l.getD j default)) (hx : OpsIn Any W ov x.ops) (hb : Below W.heap.size W w6) (hn : l.length ≤ 1000)
    (ho : w6.ownsRow B 36 5 v' (l.length + 1) (rows.flatten ++ txC x ov)) : TxnsIn Any w6 v' (l ++ [x]) :=
  (rows_more h1 h2 h3 hx hb (by omega) ho).resolve_right (fun c => c (fun _ => trivial))
set_option maxHeartbeats 8000000 in
set_option maxRecDepth 100000 in
theorem tunique_walk (tv : Value) (l0 : List MTxn) (n0 : Int) (w : World) (ht : TxnsIn Any w tv l0) (hok : ∀ t ∈ l0, ∀ o ∈ t.ops, OpOk o) :
    Calls Try.prog 6 #[tv, .int .i64 n0] w fun e w' => e = .returned (.bool true) ∧ Below w.heap.size w w' := by
  obtain ⟨i0, hi0, hz0, hz1, hz2⟩ := info_parts Try.infoT
  have HI0 := hid hi0
  have HZ0 := hid hz0
  have HZ1 := hid hz1
  have HZ2 := hid hz2
  have HT := hid ht
  obtain ⟨L, hL⟩ : ∃ L, smallL l0 = L := ⟨_, rfl⟩
  have hlen : L.length ≤ 40 := by rw [← hL]; exact small_len l0
  have HTEN : Hid (∀ t ∈ L, t.ops.length ≤ 10) := fun t h => small_ten (by rw [hL]; exact h)
  have HOK : Hid (∀ t ∈ L, ∀ o ∈ t.ops, OpOk o) := fun t h => small_ok hok (by rw [hL]; exact h)
  have HL := hid hL
  have hli : (L.length : Int) ≤ 40 := by omega
  clear hi0 hz0 hz1 hz2 ht hok hL
  go_enter Try.func6, Try.ntmps6
  go_wp2_with (go_at_call 7; refine (Tx.small_any _ l0 _ HT.out).mono ?_; rintro e w1 ⟨v1, rfl, h1, b1⟩; rw [show smallL l0 = L from HL.out] at h1; have T1 : Hid (TxnsIn Any w1 v1 L) := txns_ins h1; have B1 := hid b1; clear h1 b1)
  go_at_call 9
  refine (tnew_is w1 v1 L T1.out (by omega) HTEN.out HOK.out).mono ?_
  rintro e w2 ⟨tb, rfl, hm2, b2⟩
  have M2 := hid hm2
  have T2 : Hid (TxnsIn Any w2 v1 L) := T1.out.below b2
  have B2 : Hid (Below w.heap.size w w2) := B1.out.trans (b2.mono B1.out.size)
  obtain ⟨a1, c1, rfl, hc1⟩ := id T2.out
  have UQ := hid (uniq_is w1.heap.size w2 tb L M2.out)
  have RU := hid (runiq_is w2 _ L T2.out (by omega) HTEN.out)
  clear hm2 b2 T1 B1 hc1
  go_wp2_with fail
  go_at_call 23
  refine UQ.out.mono ?_
  rintro e w2' ⟨u, rfl, hu, rfl⟩
  have HU := hid hu
  clear hu
  go_wp2_with fail
  go_at_call 24
  refine RU.out.mono ?_
  rintro e w3 ⟨u', rfl, hu', b3⟩
  have huu : u = u' := by
    rw [Bool.eq_iff_iff]
    exact HU.out.trans hu'.symm
  subst huu
  have huu2 : (u != u) = false := by cases u <;> rfl
  have M3 : Hid (Made w1.heap.size w3 tb L) := M2.out.later b3
  have T3 := hid (T2.out.below b3)
  have B3 : Hid (Below w.heap.size w w3) := B2.out.trans (b3.mono B2.out.size)
  clear hu' b3 UQ RU M2 T2 B2
  by_cases hl0 : L.length = 0
  · have hL0 : L = [] := List.length_eq_zero_iff.1 hl0
    have hut : u = true := HU.out.2 (by rw [hL0]; exact fun s v => by simp [notes, writersN])
    have UQ3 := hid (uniq_is w1.heap.size w3 tb L M3.out)
    have hl0i : ((L.length : Int) == 0) = true := by simp [hl0]
    have HUT := hid hut
    clear hL0 hut
    go_wp2_with fail
    go_at_call 23
    refine UQ3.out.mono ?_
    rintro e w4 ⟨u4, rfl, hu4, rfl⟩
    have hu5 : u4 = true := hu4.2 (HU.out.1 HUT.out)
    subst hu5
    clear hu4
    go_wp2_with fail
    go_ret
    exact ⟨rfl, B3.out⟩
  · have hl1 : ((L.length : Int) == 0) = false := by rw [beq_eq_false_iff_ne]; omega
    have hl2 : ¬ (L.length : Int) = 0 := by omega
    obtain ⟨I, hI, hD⟩ := u64_mod n0 L.length (by omega) (by omega)
    have hIi : (I : Int) < L.length := by omega
    obtain ⟨ao, cc, hao, hbytes, hrow⟩ := RowsIn.cells T3.out (by omega)
    obtain ⟨b, o, cs, rfl, hbl, _, ⟨ov, hcs, hops⟩, hcell⟩ := hrow I hI
    subst hcs
    have e1 : a1 = some ⟨b, o, none⟩ := by injection hao
    subst e1
    obtain ⟨oa, oc, hov, _⟩ := id hops
    subst hov
    have d0 := hcell 0 _ rfl
    have d1 := hcell 1 _ rfl
    have d2 := hcell 2 _ rfl
    have d3 := hcell 3 _ rfl
    have d4 := hcell 4 _ rfl
    rw [Nat.add_zero] at d0
    have HOP := hid hops
    have hten : (L.getD I default).ops.length ≤ 10 := HTEN.out _ (getD_mem L I hI)
    have TW := hid (twice_uniq L I hI)
    have HX : Hid (L.getD I default ∈ L) := getD_mem L I hI
    clear hcell hrow hao hops hbytes
    generalize L.getD I default = X at *
    obtain ⟨xp, xs, xf, xt, xo⟩ := X
    simp only [MTxn.proc, MTxn.state, MTxn.since, MTxn.till, MTxn.ops] at d0 d1 d2 d3 d4 HOP hten TW
    go_upto_region 8 with fail
    obtain ⟨W, hW⟩ : ∃ W, w3.alloc (.cells #[.int .i64 xp, .int .i64 xs, .int .i64 xf, .int .i64 xt, .slice oa xo.length oc] 36) = W := ⟨_, rfl⟩
    obtain ⟨xb, hxb⟩ : ∃ xb, w3.heap.size = xb := ⟨_, rfl⟩
    have BW : Hid (Below w3.heap.size w3 W) := by rw [← hW]; exact below_box w3 _
    have p0 : W.cell? ⟨xb, 0, none⟩ = some (.int .i64 xp) := by rw [← hW, ← hxb]; simp
    have p1 : W.cell? ⟨xb, 1, none⟩ = some (.int .i64 xs) := by rw [← hW, ← hxb]; simp
    have p2 : W.cell? ⟨xb, 2, none⟩ = some (.int .i64 xf) := by rw [← hW, ← hxb]; simp
    have p3 : W.cell? ⟨xb, 3, none⟩ = some (.int .i64 xt) := by rw [← hW, ← hxb]; simp
    have p4 : W.cell? ⟨xb, 4, none⟩ = some (.slice oa xo.length oc) := by rw [← hW, ← hxb]; simp
    have hWx : xb < W.heap.size := by rw [← hW, ← hxb, alloc_size]; omega
    rw [hxb, hW]
    have BW2 : Hid (Below w.heap.size w W) := B3.out.trans (BW.out.mono B3.out.size)
    have M4 : Hid (Made w1.heap.size W tb L) := M3.out.later BW.out
    have T4 := hid (T3.out.below BW.out)
    have O4 : Hid (OpsIn Any W (.slice oa xo.length oc) xo) := HOP.out.below BW.out
    have CF := hid (contFO_is W _ xo O4.out (by omega))
    clear hW hxb BW B3 M3 T3 HOP d0 d1 d2 d3 d4
    go_upto_region 9 with (go_at_call 28; refine CF.out.mono ?_; rintro e w4 ⟨rfl, b4⟩; have BW4 := hid b4; clear b4)
    obtain ⟨wr0, hwr0⟩ : ∃ wr0, xo.any (fun o => isW o.kind) = wr0 := ⟨_, rfl⟩
    rw [hwr0] at TW
    rw [hwr0]
    have B5 : Hid (Below w.heap.size w w4) := BW2.out.trans (BW4.out.mono BW2.out.size)
    have M5 : Hid (Made w1.heap.size w4 tb L) := M4.out.later BW4.out
    have T5 := hid (T4.out.below BW4.out)
    have O5 := hid (O4.out.below BW4.out)
    have q0 := (BW4.out.cell (p := ⟨xb, 0, none⟩) hWx).trans p0
    have q1 := (BW4.out.cell (p := ⟨xb, 1, none⟩) hWx).trans p1
    have q2 := (BW4.out.cell (p := ⟨xb, 2, none⟩) hWx).trans p2
    have q3 := (BW4.out.cell (p := ⟨xb, 3, none⟩) hWx).trans p3
    have q4 := (BW4.out.cell (p := ⟨xb, 4, none⟩) hWx).trans p4
    have hw4 : xb < w4.heap.size := Nat.lt_of_lt_of_le hWx BW4.out.size
    clear p0 p1 p2 p3 p4 hWx hwr0 BW2 M4 T4 O4 CF BW4
    have CT1 := hid (cloneT_any (α := MTxn) (R := TxnRow Any w4.drew) _ L w4.drew (T5.out.below (Below.refl _ _).drew) txnRow_one)
    have CT2 := hid (cloneT_any (α := MTxn) (R := TxnRow Any ((w4.alloc (.cells #[.int .i64 xp, .int .i64 xs, .int .i64 xf, .int .i64 xt, .slice oa xo.length oc] 36)).drew)) _ L ((w4.alloc (.cells #[.int .i64 xp, .int .i64 xs, .int .i64 xf, .int .i64 xt, .slice oa xo.length oc] 36)).drew) (T5.out.below (below_box w4 _).drew) txnRow_one)
    have hw4b : xb < ((w4.alloc (.cells #[.int .i64 xp, .int .i64 xs, .int .i64 xf, .int .i64 xt, .slice oa xo.length oc] 36)).drew).heap.size := by show xb < (w4.alloc _).heap.size; rw [alloc_size]; omega
    have hwb2 : w4.heap.size < ((w4.alloc (.cells #[.int .i64 xp, .int .i64 xs, .int .i64 xf, .int .i64 xt, .slice oa xo.length oc] 36)).drew).heap.size := by show w4.heap.size < (w4.alloc _).heap.size; rw [alloc_size]; omega
    have q0b : ((w4.alloc (.cells #[.int .i64 xp, .int .i64 xs, .int .i64 xf, .int .i64 xt, .slice oa xo.length oc] 36)).drew).cell? ⟨xb, 0, none⟩ = some (.int .i64 xp) := ((below_box w4 _).drew.cell (p := ⟨xb, 0, none⟩) hw4).trans q0
    have q1b : ((w4.alloc (.cells #[.int .i64 xp, .int .i64 xs, .int .i64 xf, .int .i64 xt, .slice oa xo.length oc] 36)).drew).cell? ⟨xb, 1, none⟩ = some (.int .i64 xs) := ((below_box w4 _).drew.cell (p := ⟨xb, 1, none⟩) hw4).trans q1
    have q2b : ((w4.alloc (.cells #[.int .i64 xp, .int .i64 xs, .int .i64 xf, .int .i64 xt, .slice oa xo.length oc] 36)).drew).cell? ⟨xb, 2, none⟩ = some (.int .i64 xf) := ((below_box w4 _).drew.cell (p := ⟨xb, 2, none⟩) hw4).trans q2
    have q3b : ((w4.alloc (.cells #[.int .i64 xp, .int .i64 xs, .int .i64 xf, .int .i64 xt, .slice oa xo.length oc] 36)).drew).cell? ⟨xb, 3, none⟩ = some (.int .i64 xt) := ((below_box w4 _).drew.cell (p := ⟨xb, 3, none⟩) hw4).trans q3
    have q4b : ((w4.alloc (.cells #[.int .i64 xp, .int .i64 xs, .int .i64 xf, .int .i64 xt, .slice oa xo.length oc] 36)).drew).cell? ⟨xb, 4, none⟩ = some (.slice oa xo.length oc) := ((below_box w4 _).drew.cell (p := ⟨xb, 4, none⟩) hw4).trans q4
    have XN : Hid (∀ u ∈ ([.int .i64 xp, .int .i64 xs, .int .i64 xf, .int .i64 xt, .slice oa xo.length oc] : List Value), u.oneCell' = true) := by
      intro u hu
      simp only [List.mem_cons, List.not_mem_nil, or_false] at hu
      rcases hu with rfl | rfl | rfl | rfl | rfl <;> rfl
    have HTEN2 : Hid (∀ t ∈ L ++ [(xp, xs, xf, xt, xo)], t.ops.length ≤ 10) := fun t ht => by
      rcases List.mem_append.1 ht with h | h
      · exact HTEN.out t h
      · obtain rfl : t = (xp, xs, xf, xt, xo) := by simpa using h
        exact hten
    have HOK2 : Hid (∀ t ∈ L ++ [(xp, xs, xf, xt, xo)], ∀ o ∈ t.ops, OpOk o) := fun t ht => by
      rcases List.mem_append.1 ht with h | h
      · exact HOK.out t h
      · obtain rfl : t = (xp, xs, xf, xt, xo) := by simpa using h
        exact HOK.out _ HX.out
    go_region_law (first
      | (refine step_append_lies (wC.alloc (.cells #[.int .i64 xp, .int .i64 xs, .int .i64 xf, .int .i64 xt, .slice oa xo.length oc] 36)) rfl (.tmp 37) (.tmp 39) 22 rfl w4.drew.heap.size 36 i0 _ 5 56 Try.underlying22 HI0.out HZ0.out HZ1.out HZ2.out rfl (by decide) (.slice ka L.length kc) L.length rows.flatten (by simp [Act.eval, Act.put]) (own_same R4.out (fun y hy => by rw [alloc_at, if_neg (by have := (own_block R4.out hy).2.1; omega)])) ⟨wC.heap.size, 0, none⟩ 1 1 [.int .i64 xp, .int .i64 xs, .int .i64 xf, .int .i64 xt, .slice oa xo.length oc] (by simp [Act.eval, Act.put]) rfl (World.news_of_block (cs := #[.int .i64 xp, .int .i64 xs, .int .i64 xf, .int .i64 xt, .slice oa xo.length oc]) (t := 36) (fr := (0, 0)) (heap_alloc_new wC _)) XN.out (by decide) (by unfold maxLen; omega) (by omega) (by have h9 := BC.out.size; rw [alloc_size]; omega) (wC.heap.size + 1) (by simp) ?_; intro g cap w6 hown6 hgrow hat hglt; have B6 : Hid (Below w4.drew.heap.size w4.drew w6) := ((BC.out.alloc BC.out.size _).grown hgrow (by have h9 := BC.out.size; rw [alloc_size]; omega) (fun y hy => (own_block R4.out hy).1)); have T6 : Hid (TxnsIn Any w6 (.slice (some ⟨g, 0, none⟩) (L.length + 1) cap) (L ++ [(xp, xs, xf, xt, xo)])) := more_txns R1.out R2.out R3.out (O5.out.below (Below.refl _ _).drew) B6.out (by omega) hown6; have B7 : Hid (Below w4.heap.size w4 w6) := (Below.refl _ _).drew.trans B6.out; clear hown6 hgrow hat hglt)
      | (refine step_append_lies wC rfl (.tmp 37) (.tmp 39) 22 rfl ((w4.alloc (.cells #[.int .i64 xp, .int .i64 xs, .int .i64 xf, .int .i64 xt, .slice oa xo.length oc] 36)).drew).heap.size 36 i0 _ 5 56 Try.underlying22 HI0.out HZ0.out HZ1.out HZ2.out rfl (by decide) (.slice ka L.length kc) L.length rows.flatten (by simp [Act.eval, Act.put]) R4.out ⟨w4.heap.size, 0, none⟩ 1 1 [.int .i64 xp, .int .i64 xs, .int .i64 xf, .int .i64 xt, .slice oa xo.length oc] (by simp [Act.eval, Act.put]) rfl NB.out XN.out (by decide) (by unfold maxLen; omega) (by omega) BC.out.size wC.heap.size rfl ?_; intro g cap w6 hown6 hgrow hat hglt; have B6 : Hid (Below ((w4.alloc (.cells #[.int .i64 xp, .int .i64 xs, .int .i64 xf, .int .i64 xt, .slice oa xo.length oc] 36)).drew).heap.size ((w4.alloc (.cells #[.int .i64 xp, .int .i64 xs, .int .i64 xf, .int .i64 xt, .slice oa xo.length oc] 36)).drew) w6) := (BC.out.grown hgrow BC.out.size (fun y hy => (own_block R4.out hy).1)); have T6 : Hid (TxnsIn Any w6 (.slice (some ⟨g, 0, none⟩) (L.length + 1) cap) (L ++ [(xp, xs, xf, xt, xo)])) := more_txns R1.out R2.out R3.out (O5.out.below (below_box _ _).drew) B6.out (by omega) hown6; have B7 : Hid (Below w4.heap.size w4 w6) := (below_box w4 _).drew.trans (B6.out.mono (by show w4.heap.size ≤ (w4.alloc _).heap.size; rw [alloc_size]; omega)); clear hown6 hgrow hat hglt)
      | (rw [if_pos (by simp [Region.wanted])]; go_simp; refine CT1.out.mono ?_; rintro e wC ⟨vC, rfl, ⟨rows, r1, r2, r3, r4⟩, bC⟩; obtain ⟨ka, kc, rfl⟩ := own_slice r4; have R1 := hid r1; have R2 := hid r2; have R3 := hid r3; have R4 := hid r4; have BC := hid bC; have n0 := (bC.cell (p := ⟨xb, 0, none⟩) hw4).trans q0; have n1 := (bC.cell (p := ⟨xb, 1, none⟩) hw4).trans q1; have n2 := (bC.cell (p := ⟨xb, 2, none⟩) hw4).trans q2; have n3 := (bC.cell (p := ⟨xb, 3, none⟩) hw4).trans q3; have n4 := (bC.cell (p := ⟨xb, 4, none⟩) hw4).trans q4; clear r1 r2 r3 r4 bC)
      | (rw [if_pos (by simp [Region.wanted])]; go_simp; refine CT2.out.mono ?_; rintro e wC ⟨vC, rfl, ⟨rows, r1, r2, r3, r4⟩, bC⟩; obtain ⟨ka, kc, rfl⟩ := own_slice r4; have R1 := hid r1; have R2 := hid r2; have R3 := hid r3; have R4 := hid r4; have BC := hid bC; have n0 := (bC.cell (p := ⟨xb, 0, none⟩) hw4b).trans q0b; have n1 := (bC.cell (p := ⟨xb, 1, none⟩) hw4b).trans q1b; have n2 := (bC.cell (p := ⟨xb, 2, none⟩) hw4b).trans q2b; have n3 := (bC.cell (p := ⟨xb, 3, none⟩) hw4b).trans q3b; have n4 := (bC.cell (p := ⟨xb, 4, none⟩) hw4b).trans q4b; have NB : Hid (∀ j u, ([.int .i64 xp, .int .i64 xs, .int .i64 xf, .int .i64 xt, .slice oa xo.length oc] : List Value)[j]? = some u → wC.cell? ((⟨w4.heap.size, 0, none⟩ : Addr).add j) = some u) := World.news_of_block (cs := #[.int .i64 xp, .int .i64 xs, .int .i64 xf, .int .i64 xt, .slice oa xo.length oc]) (t := 36) (fr := (0, 0)) (BC.out.block w4.heap.size hwb2 |>.trans (heap_alloc_new w4 _)); clear r1 r2 r3 r4 bC)
      | (rw [if_pos (by simp [Region.wanted])]; go_simp; refine (tnew_is w6 _ (L ++ [(xp, xs, xf, xt, xo)]) T6.out (by rw [List.length_append]; simp; omega) HTEN2.out HOK2.out).mono ?_; rintro e w8 ⟨tb2, rfl, hm8, b8⟩; have M8 := hid hm8; have B8 : Hid (Below w4.heap.size w4 w8) := B7.out.trans (b8.mono B7.out.size); clear hm8 b8))
    all_goals
      have M9 : Hid (Made w1.heap.size w8 tb L) := M5.out.later B8.out
      have B9 : Hid (Below w.heap.size w w8) := B5.out.trans (B8.out.mono B5.out.size)
      have UA := hid (uniq_is _ w8 tb2 _ M8.out)
      have UB := hid (uniq_is _ w8 tb _ M9.out)
      have CO := hid (count_is _ w8 tb2 _ M8.out)
      have hcl : ((L ++ [(xp, xs, xf, xt, xo)]).length : Int) = (L.length : Int) + 1 := by rw [List.length_append]; simp
      rw [hcl] at CO
      have hce : (((L.length : Int) + 1) == ((L.length : Int) + 1)) = true := by simp
      clear hcl M5 B5 T5 O5 q0 q1 q2 q3 q4
      cases wr0 with
      | true =>
        have HN : Hid (¬ uniqN (notes (L ++ [(xp, xs, xf, xt, xo)]) (L ++ [(xp, xs, xf, xt, xo)]).length)) := fun c => absurd (TW.out.1 c).1 (by decide)
        clear TW
        go_wp2_with (first
          | (go_at_call 23; refine UA.out.mono ?_; rintro e w9 ⟨ua, rfl, hua, rfl⟩; have e9 : ua = false := (by cases ua with | false => rfl | true => exact absurd (hua.1 rfl) HN.out); subst e9; clear hua)
          | (go_at_call 14; refine CO.out.mono ?_; rintro e w9 ⟨rfl, rfl⟩))
        go_ret
        exact ⟨rfl, B9.out⟩
      | false =>
        have HE : Hid (uniqN (notes (L ++ [(xp, xs, xf, xt, xo)]) (L ++ [(xp, xs, xf, xt, xo)]).length) ↔ uniqN (notes L L.length)) := TW.out.trans ⟨fun c => c.2, fun c => ⟨rfl, c⟩⟩
        clear TW
        go_wp2_with fail
        go_at_call 23
        refine UA.out.mono ?_
        rintro e w9 ⟨ua, rfl, hua, rfl⟩
        have HUA := hid hua
        clear hua
        go_wp2_with fail
        go_at_call 23
        refine UB.out.mono ?_
        rintro e w9 ⟨ub, rfl, hub, rfl⟩
        have e9 : ua = ub := by
          rw [Bool.eq_iff_iff]
          exact (HUA.out.trans HE.out).trans hub.symm
        subst e9
        have e10 : (ua == ua) = true := by simp
        clear hub HUA
        go_wp2_with (go_at_call 14; refine CO.out.mono ?_; rintro e w9 ⟨rfl, rfl⟩)
        go_ret
        exact ⟨rfl, B9.out⟩
end Go.Proofs.Ytppemdockjbkdaa
