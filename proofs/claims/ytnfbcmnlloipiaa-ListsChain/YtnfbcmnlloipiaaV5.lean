/-
  aborted: a value of a transaction that failed.
  disorder: the values of the trace that stand behind one that their transaction appended later.
  The five finds, each as what it tells of a read.
  The anomalies of a look, plain; its reads in memory.
  A table in memory: its box and its three maps; what note is made of.
-/
import Derived.Test.YtnfbcmnlloipiaaV4
import Derived.Test.YtnfbcmnlloipiaaV2
namespace Go.Proofs.Ytnfbcmnlloipiaa
set_option linter.unusedVariables false
set_option linter.unusedSimpArgs false
open Go.RowKit Go.Lib Go.Maps

set_option maxHeartbeats 4000000 in
set_option maxRecDepth 100000 in
theorem aborted_is (kb sb n ri rj : Nat) (f : Int → Option MSrc) {S : Nat → Prop} (la : Option Addr) (lc : Nat) (xs : List Int) (w : World) (h : IntsIn S w (.slice la xs.length lc) xs) (hw : ∀ x ∈ xs, (Lit.int .i64 x).wf = true) (h5 : w.cell? ⟨kb, 5, none⟩ = some (.map (some sb))) (hs : Sc w sb n f) : Calls Try.prog 72 #[.pointer (some ⟨kb, 0, none⟩), .agg #[.int .i64 ri, .int .i64 rj, .slice la xs.length lc]] w fun e w' => Found (abrB f) xs 5 (fun x => (((f x).getD noSrc).1 : Int)) e ∧ Below w.heap.size w w' := by
  obtain ⟨W, hW⟩ : ∃ W, ((w.alloc (.cells #[.pointer (some ⟨kb, 0, none⟩)] 125)).alloc (.cells #[.int .i64 ri, .int .i64 rj, .slice la xs.length lc] 77)).alloc (.cells #[.int .i64 0, .int .i64 0, .int .i64 0, .int .i64 0, .string ⟨#[]⟩, .int .i64 0, .slice none 0 0, .bool false, .int .i64 0] 85) = W := ⟨_, rfl⟩
  have BW : Hid (Below w.heap.size w W) := by rw [← hW]; exact ((below_box w _).alloc (by rw [alloc_size]; omega) _).alloc (by rw [alloc_size, alloc_size]; omega) _
  have e1 : (w.alloc (.cells #[.pointer (some ⟨kb, 0, none⟩)] 125)).heap.size = w.heap.size + 1 := by rw [alloc_size]
  have e2 : ((w.alloc (.cells #[.pointer (some ⟨kb, 0, none⟩)] 125)).alloc (.cells #[.int .i64 ri, .int .i64 rj, .slice la xs.length lc] 77)).heap.size = w.heap.size + 1 + 1 := by rw [alloc_size, e1]
  have eW : W.heap.size = w.heap.size + 3 := by rw [← hW, alloc_size, e2]
  have d0 : W.cell? ⟨w.heap.size, 0, none⟩ = some (.pointer (some ⟨kb, 0, none⟩)) := by rw [← hW]; exact Lib.cell?_alloc_some _ (Lib.cell?_alloc_some _ (new_cells w _ 125 0))
  have rr : ∀ i u, (#[.int .i64 ri, .int .i64 rj, .slice la xs.length lc] : Array Value)[i]? = some u → W.cell? ⟨w.heap.size + 1, i, none⟩ = some u := fun i u hu => by
    rw [← hW]
    have q := new_cells (w.alloc (.cells #[.pointer (some ⟨kb, 0, none⟩)] 125)) #[.int .i64 ri, .int .i64 rj, .slice la xs.length lc] 77 i
    rw [e1] at q
    exact Lib.cell?_alloc_some _ (q.trans hu)
  have x0 := rr 0 _ rfl
  have x1 := rr 1 _ rfl
  have x2 := rr 2 _ rfl
  have zc : ∀ i, W.cell? ⟨w.heap.size + 1 + 1, i, none⟩ = (#[.int .i64 0, .int .i64 0, .int .i64 0, .int .i64 0, .string ⟨#[]⟩, .int .i64 0, .slice none 0 0, .bool false, .int .i64 0] : Array Value)[i]? := fun i => by
    rw [← hW, ← e2]
    exact new_cells _ _ 85 i
  have zf : ∀ i, W.frozen? ⟨w.heap.size + 1 + 1, i, none⟩ = false := fun i => by
    rw [← hW, ← e2]
    exact Lib.frozen_of_heap (heap_alloc_new _ _) i
  obtain ⟨F, hF, _⟩ := id hs
  have SE : Hid (Sees W w.heap.size kb (w.heap.size + 1) sb n ri rj f) := ⟨d0, (BW.out.cell (p := ⟨kb, 5, none⟩) (World.block_lt_of_cell? _ _ h5)).trans h5, hs.same (BW.out.block sb hF.lt), x0, x1⟩
  have IN : Hid (IntsIn S W (.slice la xs.length lc) xs) := h.keep (keeps_below BW.out) (fun _ _ x => x)
  have IX := hid (idx_44 w.heap.size kb (w.heap.size + 1) sb n ri rj f _ xs W IN.out hw SE.out)
  have ZC := hid zc
  have ZF := hid zf
  have HW := hid hw
  clear hF hs h h5 hw rr zc zf e1 e2 d0 x0 x1
  go_enter Try.func72, Try.ntmps72
  go_wp2_with fail
  go_at_call 85
  refine IX.out.mono ?_
  rintro e w1 ⟨r, rfl, hi, b1⟩
  have n1 : ∀ i, w1.cell? ⟨w.heap.size + 1 + 1, i, none⟩ = W.cell? ⟨w.heap.size + 1 + 1, i, none⟩ := fun i => b1.cell (p := ⟨w.heap.size + 1 + 1, i, none⟩) (by show w.heap.size + 1 + 1 < W.heap.size; omega)
  have y0 := (n1 0).trans (ZC.out 0)
  have y1 := (n1 1).trans (ZC.out 1)
  have y2 := (n1 2).trans (ZC.out 2)
  have y3 := (n1 3).trans (ZC.out 3)
  have y4 := (n1 4).trans (ZC.out 4)
  have y5 := (n1 5).trans (ZC.out 5)
  have y6 := (n1 6).trans (ZC.out 6)
  have y7 := (n1 7).trans (ZC.out 7)
  have y8 := (n1 8).trans (ZC.out 8)
  simp only [List.getElem?_toArray, List.getElem?_cons_zero, List.getElem?_cons_succ] at y0 y1 y2 y3 y4 y5 y6 y7 y8
  have fz : ∀ i, w1.frozen? ⟨w.heap.size + 1 + 1, i, none⟩ = false := fun i => (b1.frozen (p := ⟨w.heap.size + 1 + 1, i, none⟩) (by show w.heap.size + 1 + 1 < W.heap.size; omega)).trans (ZF.out i)
  have z2 := (b1.cell (p := ⟨w.heap.size + 1, 2, none⟩) (by show w.heap.size + 1 < W.heap.size; omega)).trans x2
  have B1 : Hid (Below w.heap.size w w1) := BW.out.trans (b1.mono BW.out.size)
  have I1 : Hid (IntsIn S w1 (.slice la xs.length lc) xs) := IN.out.keep (keeps_below b1) (fun _ _ x => x)
  have S1 : Hid (Sees w1 w.heap.size kb (w.heap.size + 1) sb n ri rj f) := SE.out.later b1
  clear b1 n1 ZC ZF IX SE IN x2 hW BW eW
  rcases hi with ⟨rfl, hall⟩ | ⟨k, hk, rfl, hp, hbe⟩
  · have HA := hid hall
    clear hall
    go_wp2_with fail
    rw [Tx.setCell_self y0, Tx.setCell_self y1, Tx.setCell_self y2, Tx.setCell_self y3, Tx.setCell_self y4, Tx.setCell_self y5, Tx.setCell_self y6, Tx.setCell_self y7, Tx.setCell_self y8]
    exact bodyPost_ret (v := .tuple #[an0, .bool false]) (by simp [results, Try.results72, go_sem, y0, y1, y2, y3, y4, y5, y6, y7, y8]) rfl ⟨.inl ⟨HA.out, rfl⟩, B1.out⟩
  · obtain ⟨ao, c, hv, _, hc⟩ := id I1.out
    cases hv
    obtain ⟨b, off, rfl, _, hcc⟩ := hc (by omega)
    have v0 := hcc k hk
    have HP := hid hp
    have HQ := hid hbe
    have hk0 : ¬ ((k : Int) < 0) := by omega
    have hki : (k : Int) < xs.length := by omega
    clear hc hcc hp hbe
    obtain ⟨X, hX⟩ : ∃ X, xs.getD k default = X := ⟨_, rfl⟩
    rw [hX] at v0
    have HX := hid hX
    clear hX
    have hx : (Lit.int .i64 X).wf = true := HW.out _ (by rw [← HX.out]; simp [List.getD, List.getElem?_eq_getElem hk])
    have LK := (S1.out.hs.same (w' := w1.drew) rfl).look X hx
    have u0 := S1.out.hc
    have u5 := S1.out.h5
    obtain ⟨Y, hY⟩ : ∃ Y, (f X).getD noSrc = Y := ⟨_, rfl⟩
    have HY := hid hY
    rw [hY] at LK
    clear hY S1 HW
    obtain ⟨s1, s2, s3, s4⟩ := Y
    simp only [srcV] at LK
    have FL : ∀ W, (Instr.field 123 (.agg #[.int .i64 s1, .int .i64 s2, .bool s3, .bool s4]) 0).run Try.prog W = .ok (.int .i64 s1) W := fun W => by kernel_rfl
    go_wp2_with fail
    go_region
    go_wp2_with fail
    obtain ⟨Wz, hWz⟩ : ∃ Wz, ((((((((w1.setCell ⟨w.heap.size + 1 + 1, 0, none⟩ (.int .i64 5)).setCell ⟨w.heap.size + 1 + 1, 1, none⟩ (.int .i64 0)).setCell ⟨w.heap.size + 1 + 1, 2, none⟩ (.int .i64 0)).setCell ⟨w.heap.size + 1 + 1, 3, none⟩ (.int .i64 s1)).setCell ⟨w.heap.size + 1 + 1, 4, none⟩ (.string ⟨#[]⟩)).setCell ⟨w.heap.size + 1 + 1, 5, none⟩ (.int .i64 X)).setCell ⟨w.heap.size + 1 + 1, 6, none⟩ (.slice none 0 0)).setCell ⟨w.heap.size + 1 + 1, 7, none⟩ (.bool false)).setCell ⟨w.heap.size + 1 + 1, 8, none⟩ (.int .i64 0) = Wz := ⟨_, rfl⟩
    have za : (Wz.drew).cell? ⟨w.heap.size + 1 + 1, 0, none⟩ = some (.int .i64 5) := by show Wz.cell? _ = _; rw [← hWz]; simp [go_sem, y0, y1, y2, y3, y4, y5, y6, y7, y8]
    have zb : (Wz.drew).cell? ⟨w.heap.size + 1 + 1, 1, none⟩ = some (.int .i64 0) := by show Wz.cell? _ = _; rw [← hWz]; simp [go_sem, y0, y1, y2, y3, y4, y5, y6, y7, y8]
    have zc : (Wz.drew).cell? ⟨w.heap.size + 1 + 1, 2, none⟩ = some (.int .i64 0) := by show Wz.cell? _ = _; rw [← hWz]; simp [go_sem, y0, y1, y2, y3, y4, y5, y6, y7, y8]
    have zd : (Wz.drew).cell? ⟨w.heap.size + 1 + 1, 3, none⟩ = some (.int .i64 s1) := by show Wz.cell? _ = _; rw [← hWz]; simp [go_sem, y0, y1, y2, y3, y4, y5, y6, y7, y8]
    have ze : (Wz.drew).cell? ⟨w.heap.size + 1 + 1, 4, none⟩ = some (.string ⟨#[]⟩) := by show Wz.cell? _ = _; rw [← hWz]; simp [go_sem, y0, y1, y2, y3, y4, y5, y6, y7, y8]
    have zf : (Wz.drew).cell? ⟨w.heap.size + 1 + 1, 5, none⟩ = some (.int .i64 X) := by show Wz.cell? _ = _; rw [← hWz]; simp [go_sem, y0, y1, y2, y3, y4, y5, y6, y7, y8]
    have zg : (Wz.drew).cell? ⟨w.heap.size + 1 + 1, 6, none⟩ = some (.slice none 0 0) := by show Wz.cell? _ = _; rw [← hWz]; simp [go_sem, y0, y1, y2, y3, y4, y5, y6, y7, y8]
    have zh : (Wz.drew).cell? ⟨w.heap.size + 1 + 1, 7, none⟩ = some (.bool false) := by show Wz.cell? _ = _; rw [← hWz]; simp [go_sem, y0, y1, y2, y3, y4, y5, y6, y7, y8]
    have zi : (Wz.drew).cell? ⟨w.heap.size + 1 + 1, 8, none⟩ = some (.int .i64 0) := by show Wz.cell? _ = _; rw [← hWz]; simp [go_sem, y0, y1, y2, y3, y4, y5, y6, y7, y8]
    have hge : w.heap.size ≤ w.heap.size + 1 + 1 := by omega
    have BZ : Below w.heap.size w Wz := by rw [← hWz]; exact (((((((((B1.out.setCell hge _).setCell hge _).setCell hge _).setCell hge _).setCell hge _).setCell hge _).setCell hge _).setCell hge _).setCell hge _)
    simp only [hWz]
    clear hWz y0 y1 y2 y3 y4 y5 y6 y7 y8 fz
    exact bodyPost_ret (v := .tuple #[anV 5 s1 X, .bool true]) (by simp [results, Try.results72, go_sem, za, zb, zc, zd, ze, zf, zg, zh, zi]) rfl ⟨.inr ⟨k, hk, HP.out, HQ.out, by rw [HX.out]; show _ = Ending.returned (.tuple #[anV 5 (((f X).getD noSrc).1 : Int) X, .bool true]); rw [HY.out]⟩, ⟨BZ.os, BZ.tape, BZ.output, BZ.size, BZ.block⟩⟩
end Go.Proofs.Ytnfbcmnlloipiaa
namespace Go.Proofs.Ytnfbcmnlloipiaa
set_option linter.unusedVariables false
set_option linter.unusedSimpArgs false
open Go.RowKit Go.Lib Go.Maps

/-- The latest operation of a transaction whose value stands among the first k. -/
def latK (f : Int → Option MSrc) (xs : List Int) : Nat → Nat → Nat
  | 0, _ => 0
  | k + 1, i => if i = ((f (xs.getD k default)).getD noSrc).1 then max (latK f xs k i) ((f (xs.getD k default)).getD noSrc).2.1 else latK f xs k i
/-- What disorder tells of the first k. -/
def disK (f : Int → Option MSrc) (s : ByteArray) (xs : List Int) : Nat → List MAn
  | 0 => []
  | k + 1 => if ((f (xs.getD k default)).getD noSrc).2.1 < latK f xs k ((f (xs.getD k default)).getD noSrc).1 then disK f s xs k ++ [((7 : Int), (((f (xs.getD k default)).getD noSrc).1 : Int), (0 : Int), (0 : Int), s, xs.getD k default)] else disK f s xs k
theorem disK_len (f : Int → Option MSrc) (s : ByteArray) (xs : List Int) : ∀ k, (disK f s xs k).length ≤ k
  | 0 => by simp [disK]
  | k + 1 => by
    have := disK_len f s xs k
    unfold disK
    split
    · simp; omega
    · omega
theorem Try.infoAn : (Try.prog.info? 85).map (fun i => (i.zero, i.size, i.bytes)) = some (some (.agg #[.int .i64 0, .int .i64 0, .int .i64 0, .int .i64 0, .string ⟨#[]⟩, .int .i64 0, .slice none 0 0, .bool false, .int .i64 0]), 9, 96) := by kernel_rfl
set_option maxHeartbeats 4000000 in
set_option maxRecDepth 100000 in
theorem disorder_is (kb sb n : Nat) (f : Int → Option MSrc) (s : ByteArray) {S : Nat → Prop} (la : Option Addr) (lc : Nat) (xs : List Int) (w : World) (h : IntsIn S w (.slice la xs.length lc) xs) (hw : ∀ x ∈ xs, (Lit.int .i64 x).wf = true) (hl : xs.length ≤ 100000) (h0 : w.cell? ⟨kb, 0, none⟩ = some (.string s)) (h4 : w.cell? ⟨kb, 4, none⟩ = some (.slice la xs.length lc)) (h5 : w.cell? ⟨kb, 5, none⟩ = some (.map (some sb))) (hs : Sc w sb n f) (hfb : ∀ x, ((f x).getD noSrc).1 < 1000000 ∧ ((f x).getD noSrc).2.1 < 1000000) : Calls Try.prog 75 #[.pointer (some ⟨kb, 0, none⟩)] w fun e w' => ∃ v, e = .returned v ∧ w'.ownsRow (w.heap.size + 1) 85 9 v (disK f s xs xs.length).length (ansC (disK f s xs xs.length)) ∧ Below w.heap.size w w' := by
  obtain ⟨i0, hi0, hz0, hz1, hz2⟩ := Tx.info_parts Try.infoAn
  have HI0 := hid hi0
  have HZ0 := hid hz0
  have HZ1 := hid hz1
  have HZ2 := hid hz2
  clear hi0 hz0 hz1 hz2
  obtain ⟨ao, c, hv, ⟨hbytes, _⟩, hcells⟩ := id h
  cases hv
  have HW := hid hw
  have HC := hid hcells
  have HS := hid hs
  have HB := hid hfb
  have HH0 := hid h0
  have HH5 := hid h5
  have hli : (xs.length : Int) ≤ 100000 := by omega
  have hmm := @run_makeMap Try.prog
  have h4a : (w.alloc (.map #[] 0)).cell? ⟨kb, 4, none⟩ = some (.slice la xs.length lc) := Lib.cell?_alloc_some _ h4
  have C0 : Hid (Ct (w.alloc (.map #[] 0)) w.heap.size 0 (fun _ => none)) := Ct.made w
  have BB : Hid (Below w.heap.size w (w.alloc (.map #[] 0))) := below_box w _
  have hkb : kb < w.heap.size := World.block_lt_of_cell? _ _ h0
  clear h hw hcells hs hfb h0 h5
  go_enter Try.func75, Try.ntmps75
  go_wp2_with fail
  clear hmm
  go_loopg [3, 6, 7, 15] xs.length (fun g v _ _ i wr => ∃ k : Nat, k ≤ xs.length ∧ xs.length - k ≤ g ∧ i = .int .i64 k ∧ Aside (Below w.heap.size w wr) ∧ Aside (∃ F, Ct wr w.heap.size k F ∧ ∀ i : Nat, (F i).getD 0 = (latK f xs k i : Int)) ∧ Aside (wr.ownsRow (w.heap.size + 1) 85 9 v (disK f s xs k).length (ansC (disK f s xs k))))
  case atStart => exact ⟨0, by omega, by omega, rfl, BB.out, ⟨_, C0.out, fun i => by simp [latK]⟩, (show Aside _ from World.ownsRow_nil _ _ _ _)⟩
  case round =>
    obtain ⟨k, hk, hg, rfl, BR, CT, OW⟩ := hrel
    by_cases hlt : k < xs.length
    · have hlti : (k : Int) < xs.length := by omega
      obtain ⟨b, off, rfl, _, hc⟩ := HC.out (by omega)
      have v0 := hc k hlt
      have v1 := (BR.out.cell (p := ⟨b, off + k, none⟩) (World.block_lt_of_cell? _ _ v0)).trans v0
      have hx : (Lit.int .i64 (xs.getD k default)).wf = true := HW.out _ (by simp [List.getD, List.getElem?_eq_getElem hlt])
      obtain ⟨F, hF, _⟩ := id HS.out
      have LK := (HS.out.same (BR.out.block sb hF.lt)).look _ hx
      have c5 := (BR.out.cell (p := ⟨kb, 5, none⟩) (World.block_lt_of_cell? _ _ HH5.out)).trans HH5.out
      clear hF v0 hc
      obtain ⟨X, hX⟩ : ∃ X, xs.getD k default = X := ⟨_, rfl⟩
      rw [hX] at LK v1 hx
      have HX := hid hX
      have hfb := HB.out X
      obtain ⟨Y, hY⟩ : ∃ Y, (f X).getD noSrc = Y := ⟨_, rfl⟩
      rw [hY] at LK hfb
      have HY := hid hY
      obtain ⟨Fc, ct, hFc⟩ := CT.out
      have hms := ct.lt
      obtain ⟨s1, s2, s3, s4⟩ := Y
      simp only [srcV] at LK
      simp only at hfb
      have HLAT : Hid (∀ i : Nat, latK f xs (k + 1) i = if i = s1 then max (latK f xs k i) s2 else latK f xs k i) := fun i => by show (if i = _ then max _ _ else _) = _; rw [hX, hY]
      have HDIS : Hid (disK f s xs (k + 1) = if s2 < latK f xs k s1 then disK f s xs k ++ [((7 : Int), (s1 : Int), (0 : Int), (0 : Int), s, X)] else disK f s xs k) := by show (if _ then _ else _) = _; rw [hX, hY]
      have hdl := disK_len f s xs k
      obtain ⟨L, hL⟩ : ∃ L, latK f xs k s1 = L := ⟨_, rfl⟩
      rw [hL] at HDIS
      have HL := hid hL
      obtain ⟨D, hD⟩ : ∃ D, disK f s xs k = D := ⟨_, rfl⟩
      rw [hD] at HDIS OW hdl
      clear hX hY hD CT
      obtain ⟨V1, hV1⟩ : ∃ V1, wr.alloc (.cells #[.int .i64 s1, .int .i64 s2, .bool s3, .bool s4] 123) = V1 := ⟨_, rfl⟩
      have hs1 : V1.heap.size = wr.heap.size + 1 := by rw [← hV1, alloc_size]
      have bx : ∀ b, b < wr.heap.size → V1.heap[b]? = wr.heap[b]? := fun b hb => by rw [← hV1, alloc_at, if_neg (by omega)]
      have BV : Hid (Below w.heap.size w V1) := by rw [← hV1]; exact BR.out.alloc BR.out.size _
      have q0 : V1.cell? ⟨wr.heap.size, 0, none⟩ = some (.int .i64 s1) := by rw [← hV1]; exact new_cells wr _ 123 0
      have q1 : V1.cell? ⟨wr.heap.size, 1, none⟩ = some (.int .i64 s2) := by rw [← hV1]; exact new_cells wr _ 123 1
      have wf1 : (Lit.int .i64 (s1 : Int)).wf = true := by simp [Lit.wf, IntKind.min, IntKind.max, IntKind.signed, IntKind.bits]; omega
      have ct1 := ct.same (bx _ hms)
      have OV : Hid (V1.ownsRow (w.heap.size + 1) 85 9 u3 D.length (ansC D)) := own_same OW.out (fun g hg => bx g (own_block OW.out hg).2.1)
      have HFc := hid hFc
      have CT1 := hid ct1
      have hmi : w.heap.size < V1.heap.size := by omega
      clear ct hFc bx ct1 hL
      have LK2 := CT1.out.look s1 wf1
      rw [HFc.out s1, HL.out] at LK2
      by_cases hgt : s2 < L
      · have hgti : (s2 : Int) < (L : Int) := by omega
        go_wp2_with fail
        try rw [hV1]
        clear hV1 LK v1
        have hmx : max (L : Int) (s2 : Int) = L := by omega
        have c0 := (BV.out.cell (p := ⟨kb, 0, none⟩) (by show kb < w.heap.size; omega)).trans HH0.out
        obtain ⟨ra, rc, hrv⟩ := own_slice OV.out
        subst hrv
        have NEW : Hid (∀ j u, ([.int .i64 (7 : Int), .int .i64 (s1 : Int), .int .i64 (0 : Int), .int .i64 (0 : Int), .string s, .int .i64 X, .slice none 0 0, .bool false, .int .i64 (0 : Int)] : List Value)[j]? = some u → ((V1.alloc (.cells #[.int .i64 7, .int .i64 s1, .int .i64 0, .int .i64 0, .string s, .int .i64 X, .slice none 0 0, .bool false, .int .i64 0] 85)).drew).cell? ((⟨wr.heap.size + 1, 0, none⟩ : Addr).add j) = some u) := by
          have h := World.news_of_block (w := (V1.alloc (.cells #[.int .i64 7, .int .i64 s1, .int .i64 0, .int .i64 0, .string s, .int .i64 X, .slice none 0 0, .bool false, .int .i64 0] 85)).drew) (B := V1.heap.size) (cs := #[.int .i64 7, .int .i64 s1, .int .i64 0, .int .i64 0, .string s, .int .i64 X, .slice none 0 0, .bool false, .int .i64 0]) (t := 85) (fr := (0, 0)) (heap_alloc_new V1 _)
          rw [hs1] at h
          exact h
        have ONE : Hid (∀ u ∈ ([.int .i64 (7 : Int), .int .i64 (s1 : Int), .int .i64 (0 : Int), .int .i64 (0 : Int), .string s, .int .i64 X, .slice none 0 0, .bool false, .int .i64 (0 : Int)] : List Value), u.oneCell' = true) := by
          intro u hu
          simp only [List.mem_cons, List.not_mem_nil, or_false] at hu
          rcases hu with rfl | rfl | rfl | rfl | rfl | rfl | rfl | rfl | rfl <;> rfl
        have SZ : Hid (((V1.alloc (.cells #[.int .i64 7, .int .i64 s1, .int .i64 0, .int .i64 0, .string s, .int .i64 X, .slice none 0 0, .bool false, .int .i64 0] 85)).drew).heap.size = wr.heap.size + 2) := by show (V1.alloc _).heap.size = _; rw [alloc_size, hs1]
        have BX : Hid (∀ b, b ≤ wr.heap.size → ((V1.alloc (.cells #[.int .i64 7, .int .i64 s1, .int .i64 0, .int .i64 0, .string s, .int .i64 X, .slice none 0 0, .bool false, .int .i64 0] 85)).drew).heap[b]? = V1.heap[b]?) := fun b hb => by show (V1.alloc _).heap[b]? = _; rw [alloc_at, if_neg (by omega)]
        have OX : Hid (((V1.alloc (.cells #[.int .i64 7, .int .i64 s1, .int .i64 0, .int .i64 0, .string s, .int .i64 X, .slice none 0 0, .bool false, .int .i64 0] 85)).drew).ownsRow (w.heap.size + 1) 85 9 (.slice ra D.length rc) D.length (ansC D)) := own_same OV.out (fun g hg => BX.out g (by have := (own_block OV.out hg).2.1; omega))
        have NE0 : Hid (∀ g, (Value.slice ra D.length rc).ownBlock = some g → g ≠ wr.heap.size) := fun g hg => by have := (own_block OW.out hg).2.1; omega
        go_region_law (first
          | (refine step_append_lies _ rfl (.tmp 32) (.tmp 41) 33 rfl (w.heap.size + 1) 85 i0 _ 9 96 Try.underlying33 HI0.out HZ0.out HZ1.out HZ2.out rfl (by decide) (.slice ra D.length rc) D.length (ansC D) (by simp [Act.eval, Act.put]) OX.out ⟨wr.heap.size + 1, 0, none⟩ 1 1 [.int .i64 (7 : Int), .int .i64 (s1 : Int), .int .i64 (0 : Int), .int .i64 (0 : Int), .string s, .int .i64 X, .slice none 0 0, .bool false, .int .i64 (0 : Int)] (by simp [Act.eval, Act.put]) rfl NEW.out ONE.out (by decide) (by unfold maxLen; omega) (by omega) (by rw [SZ.out]; omega) (wr.heap.size + 2) SZ.out ?_; intro g8 cap8 w8 hown8 hgrow8 hat8 hglt8; have O8 := hid hown8; have G8 := hid hgrow8; clear hown8 hgrow8 hat8 hglt8))
        all_goals
          have blk : ∀ b, b ≤ wr.heap.size → (∀ g, (Value.slice ra D.length rc).ownBlock = some g → g ≠ b) → w8.heap[b]? = V1.heap[b]? := fun b hb hn => (G8.out.block b (by rw [SZ.out]; omega) (fun e => hn b e.symm rfl)).trans (BX.out b hb)
          have r0 : w8.cell? ⟨wr.heap.size, 0, none⟩ = some (.int .i64 s1) := (World.cell?_of_block (a := ⟨wr.heap.size, 0, none⟩) (blk wr.heap.size (Nat.le_refl _) NE0.out)).trans q0
          have r1 : w8.cell? ⟨wr.heap.size, 1, none⟩ = some (.int .i64 s2) := (World.cell?_of_block (a := ⟨wr.heap.size, 1, none⟩) (blk wr.heap.size (Nat.le_refl _) NE0.out)).trans q1
          have ct8 := CT1.out.same (blk w.heap.size (by omega) (fun g hg => by have := (own_block OW.out hg).1; omega))
          have LK3 := ct8.look s1 wf1
          rw [HFc.out s1, HL.out] at LK3
          obtain ⟨w2, pu, ct2, gr⟩ := ct8.put (by unfold maxLen; omega) s1 wf1 (L : Int)
          have B8 : Hid (Below w.heap.size w w8) := ⟨G8.out.os.trans BV.out.os, G8.out.tape.trans BV.out.tape, G8.out.output.trans BV.out.output, Nat.le_trans (by rw [SZ.out]; have := BV.out.size; omega) G8.out.size, fun b hb => (blk b (by omega) (fun g hg => by have := (own_block OW.out hg).1; omega)).trans (BV.out.block b hb)⟩
          have hm8 := ct8.lt
          have CT2 := hid ct2
          have GR := hid gr
          clear ct2 gr ct8 blk LK2
          go_wp2_with fail
          go_roundg (xs.length - (k + 1))
          case measure => omega
          case rel =>
            refine ⟨k + 1, by omega, by omega, by go_num, (show Aside _ from ⟨GR.out.os.trans B8.out.os, GR.out.tape.trans B8.out.tape, GR.out.output.trans B8.out.output, Nat.le_trans B8.out.size GR.out.size, fun b hb => (GR.out.block b (by omega) (fun e => by injection e; omega)).trans (B8.out.block b hb)⟩), ⟨_, CT2.out, fun i => ?_⟩, (show Aside _ from ?_)⟩
            · rw [HLAT.out i]
              by_cases e : i = s1
              · subst e
                rw [if_pos rfl, if_pos rfl, HL.out, Option.getD_some]
                omega
              · rw [if_neg (by omega), if_neg e]
                exact HFc.out i
            · rw [HDIS.out, if_pos hgt, List.length_append, ansC_snoc]
              exact own_same O8.out (fun g hg => GR.out.block g (own_block O8.out hg).2.1 (fun e => by injection e with e; have := (own_block O8.out hg).1; omega))
      · have hgti : ¬ (s2 : Int) < (L : Int) := by omega
        have hmx : max (L : Int) (s2 : Int) = s2 := by omega
        obtain ⟨w2, pu, ct2, gr⟩ := CT1.out.put (by unfold maxLen; omega) s1 wf1 (s2 : Int)
        have CT2 := hid ct2
        have GR := hid gr
        clear ct2 gr
        go_wp2_with fail
        go_roundg (xs.length - (k + 1))
        case measure => omega
        case rel =>
          refine ⟨k + 1, by omega, by omega, by go_num, (show Aside _ from ⟨GR.out.os.trans BV.out.os, GR.out.tape.trans BV.out.tape, GR.out.output.trans BV.out.output, Nat.le_trans BV.out.size GR.out.size, fun b hb => (GR.out.block b (by omega) (fun e => by injection e; omega)).trans (BV.out.block b hb)⟩), ⟨_, CT2.out, fun i => ?_⟩, (show Aside _ from ?_)⟩
          · rw [HLAT.out i]
            by_cases e : i = s1
            · subst e
              rw [if_pos rfl, if_pos rfl, HL.out, Option.getD_some]
              omega
            · rw [if_neg (by omega), if_neg e]
              exact HFc.out i
          · rw [HDIS.out, if_neg hgt]
            exact own_same OV.out (fun g hg => GR.out.block g (own_block OV.out hg).2.1 (fun e => by injection e with e; have := (own_block OV.out hg).1; omega))
    · have hke : k = xs.length := by omega
      have hlti : ¬ (k : Int) < xs.length := by omega
      go_wp2_with fail
      go_ret
      exact ⟨_, rfl, by rw [← hke]; exact OW.out, BR.out⟩
end Go.Proofs.Ytnfbcmnlloipiaa
namespace Go.Proofs.Ytnfbcmnlloipiaa
set_option linter.unusedVariables false
set_option linter.unusedSimpArgs false
open Go.RowKit Go.Lib Go.Maps

/-- What a find answers: kind, other, value. -/
def tellV : Option (Int × Int × Int) → Value
  | none => .tuple #[an0, .bool false]
  | some a => .tuple #[anV a.1 a.2.1 a.2.2, .bool true]
theorem find_none' {α : Type} (p : α → Bool) (d : α) : ∀ (l : List α), (∀ j, j < l.length → p (l.getD j d) = false) → l.find? p = none := fun l h => by
  rw [List.find?_eq_none]
  intro x hx
  obtain ⟨j, hj, rfl⟩ := List.mem_iff_getElem.1 hx
  have := h j hj
  simp [List.getD, List.getElem?_eq_getElem hj] at this
  simp [this]
theorem find_some' {α : Type} (p : α → Bool) (d : α) : ∀ (l : List α) (k : Nat), k < l.length → p (l.getD k d) = true → (∀ j, j < k → p (l.getD j d) = false) → l.find? p = some (l.getD k d)
  | [], k, hk, _, _ => by simp at hk
  | x :: l, 0, _, h1, _ => by
    have : p x = true := h1
    simp [List.find?, this]
  | x :: l, k + 1, hk, h1, h2 => by
    have h0 : p x = false := h2 0 (by omega)
    have q := find_some' p d l k (by simpa using hk) h1 (fun j hj => h2 (j + 1) (by omega))
    simp only [List.find?, h0]
    exact q
theorem Found.find {p : Int → Bool} {xs : List Int} {kd : Int} {oth : Int → Int} {e : Ending} (h : Found p xs kd oth e) : e = .returned (tellV ((xs.find? p).map fun x => (kd, oth x, x))) := by
  rcases h with ⟨h, rfl⟩ | ⟨k, hk, h1, h2, rfl⟩
  · rw [find_none' p default xs h]
    rfl
  · rw [find_some' p default xs k hk h1 h2]
    rfl
theorem FoundK.find {p : Nat → Bool} {xs : List Int} {kd : Int} {e : Ending} (h : FoundK p xs kd e) : e = .returned (tellV (((List.range xs.length).find? p).map fun k => (kd, 0, xs.getD k default))) := by
  have g : ∀ j, j < xs.length → (List.range xs.length).getD j 0 = j := fun j hj => by simp [List.getD, hj]
  rcases h with ⟨h, rfl⟩ | ⟨k, hk, h1, h2, rfl⟩
  · rw [find_none' p 0 _ (fun j hj => by simp at hj; rw [g j hj]; exact h j hj)]
    rfl
  · rw [find_some' p 0 (List.range xs.length) k (by simpa using hk) (by rw [g k hk]; exact h1) (fun j hj => by rw [g j (by omega)]; exact h2 j hj), g k hk]
    rfl
/-- What a look knows, for a find. -/
structure Knw where
  f : Int → Option MSrc
  ti : Nat
  ts : List Int
/-- What the find of number i tells of a read. -/
def findM (K : Knw) (ri rj : Nat) (xs : List Int) : Nat → Option (Int × Int × Int)
  | 0 => ((List.range xs.length).find? (twB xs)).map fun k => (3, 0, xs.getD k default)
  | 1 => (xs.find? (garB K.f ri rj)).map fun x => (2, 0, x)
  | 2 => (xs.find? (abrB K.f)).map fun x => (5, (((K.f x).getD noSrc).1 : Int), x)
  | 3 => if xs.length = 0 then none else match K.f (xs.getD (xs.length - 1) default) with
    | none => none
    | some y => if y.2.2.2 = true ∨ y.1 = ri then none else some (6, (y.1 : Int), xs.getD (xs.length - 1) default)
  | _ => if xs = K.ts.take xs.length then none else some (4, (K.ti : Int), 0)
set_option maxRecDepth 100000 in
set_option maxHeartbeats 2000000 in
theorem middle_e (kb ri rj : Nat) (la : Option Addr) (lc : Nat) (w : World) : Calls Try.prog 73 #[.pointer (some ⟨kb, 0, none⟩), .agg #[.int .i64 ri, .int .i64 rj, .slice la 0 lc]] w fun e w' => e = .returned (.tuple #[an0, .bool false]) ∧ Below w.heap.size w w' := by
  go_enter Try.func73, Try.ntmps73
  go_wp2_with (go_at_call 78; refine (last_0 _ _ _).mono ?_; rintro e w1 ⟨rfl, rfl⟩)
  exact bodyPost_ret (v := .tuple #[an0, .bool false]) (by simp [results, Try.results73, go_sem]) rfl ⟨rfl, (below_box w _).alloc (by rw [alloc_size]; omega) _⟩
/-- The find of number i. -/
theorem find_is (K : Knw) (kb sb n ri rj : Nat) {S S' : Nat → Prop} (la ta : Option Addr) (lc tc : Nat) (xs : List Int) (w : World) (h : IntsIn S w (.slice la xs.length lc) xs) (hw : ∀ x ∈ xs, (Lit.int .i64 x).wf = true) (ht : IntsIn S' w (.slice ta K.ts.length tc) K.ts) (hle : xs.length ≤ K.ts.length) (h2 : w.cell? ⟨kb, 2, none⟩ = some (.int .i64 K.ti)) (h4 : w.cell? ⟨kb, 4, none⟩ = some (.slice ta K.ts.length tc)) (h5 : w.cell? ⟨kb, 5, none⟩ = some (.map (some sb))) (hs : Sc w sb n K.f) (i : Nat) (hi : i < 5) : Calls Try.prog (70 + i) #[.pointer (some ⟨kb, 0, none⟩), .agg #[.int .i64 ri, .int .i64 rj, .slice la xs.length lc]] w fun e w' => e = .returned (tellV (findM K ri rj xs i)) ∧ Below w.heap.size w w' := by
  have hi5 : i = 0 ∨ i = 1 ∨ i = 2 ∨ i = 3 ∨ i = 4 := by omega
  rcases hi5 with rfl | rfl | rfl | rfl | rfl
  · exact (twice_is kb ri rj la lc xs w h hw).mono (fun e w' q => ⟨q.1.find, q.2⟩)
  · exact (garbage_is kb sb n ri rj K.f la lc xs w h hw h5 hs).mono (fun e w' q => ⟨q.1.find, q.2⟩)
  · exact (aborted_is kb sb n ri rj K.f la lc xs w h hw h5 hs).mono (fun e w' q => ⟨q.1.find, q.2⟩)
  · by_cases h0 : xs.length = 0
    · have e0 : findM K ri rj xs 3 = none := by simp [findM, h0]
      rw [e0, h0]
      exact middle_e kb ri rj la lc w
    · have hp : 0 < xs.length := by omega
      cases hf : K.f (xs.getD (xs.length - 1) default) with
      | none =>
        have e0 : findM K ri rj xs 3 = none := by simp only [findM, if_neg h0, hf]
        rw [e0]
        exact middle_none kb sb n ri rj K.f la lc xs w h hw h5 hs hp hf
      | some y =>
        obtain ⟨y1, y2, y3, y4⟩ := y
        cases y4 with
        | true =>
          have e0 : findM K ri rj xs 3 = none := by
            simp only [findM, if_neg h0, hf]
            rw [if_pos (.inl trivial)]
          rw [e0]
          exact middle_final kb sb n ri rj K.f la lc xs w h hw h5 hs hp y1 y2 y3 hf
        | false =>
          by_cases e : y1 = ri
          · subst e
            have e0 : findM K y1 rj xs 3 = none := by
              simp only [findM, if_neg h0, hf]
              rw [if_pos (.inr trivial)]
            rw [e0]
            exact middle_same kb sb n y1 rj K.f la lc xs w h hw h5 hs hp y2 y3 hf
          · have e0 : findM K ri rj xs 3 = some (6, (y1 : Int), xs.getD (xs.length - 1) default) := by
              simp only [findM, if_neg h0, hf]
              rw [if_neg (by simp [e])]
            rw [e0]
            exact middle_loud kb sb n ri rj K.f la lc xs w h hw h5 hs hp y1 y2 y3 hf e
  · by_cases hq : xs = K.ts.take xs.length
    · have e0 : findM K ri rj xs 4 = none := if_pos hq
      rw [e0]
      exact fork_no kb ri rj K.ti la ta lc tc xs K.ts w h ht hle h2 h4 hq
    · have e0 : findM K ri rj xs 4 = some (4, (K.ti : Int), 0) := if_neg hq
      rw [e0]
      exact fork_yes kb ri rj K.ti la ta lc tc xs K.ts w h ht hle h2 h4 hq
end Go.Proofs.Ytnfbcmnlloipiaa
namespace Go.Proofs.Ytnfbcmnlloipiaa
set_option linter.unusedVariables false
set_option linter.unusedSimpArgs false
open Go.RowKit Go.Lib Go.Maps

/-- A read with its list. -/
abbrev MRx := Nat × Nat × List Int
def oneA (K : Knw) (s : ByteArray) (i : Nat) (r : MRx) : List MAn := match findM K r.1 r.2.1 r.2.2 i with
  | none => []
  | some a => [(a.1, (r.1 : Int), (r.2.1 : Int), a.2.1, s, a.2.2)]
def rowA (K : Knw) (s : ByteArray) (RX : List MRx) (i : Nat) : List MAn := RX.flatMap (oneA K s i)
/-- What the finds below i tell of all reads, and the find i of the first k. -/
def uptoA (K : Knw) (s : ByteArray) (RX : List MRx) (i k : Nat) : List MAn := (List.range i).flatMap (rowA K s RX) ++ (RX.take k).flatMap (oneA K s i)
theorem oneA_len (K : Knw) (s : ByteArray) (i : Nat) (r : MRx) : (oneA K s i r).length ≤ 1 := by
  unfold oneA
  split <;> simp
theorem uptoA_zero (K : Knw) (s : ByteArray) (RX : List MRx) : uptoA K s RX 0 0 = [] := by simp [uptoA]
theorem uptoA_next (K : Knw) (s : ByteArray) (RX : List MRx) (i k : Nat) (hk : k < RX.length) : uptoA K s RX i (k + 1) = uptoA K s RX i k ++ oneA K s i (RX.getD k default) := by
  unfold uptoA
  rw [List.take_add_one, List.flatMap_append, List.getElem?_eq_getElem hk, ← List.append_assoc]
  simp [List.getD, List.getElem?_eq_getElem hk]
theorem uptoA_row (K : Knw) (s : ByteArray) (RX : List MRx) (i : Nat) : uptoA K s RX i RX.length = uptoA K s RX (i + 1) 0 := by
  unfold uptoA
  simp [List.range_succ, rowA]
theorem flat_le {α : Type} (g : α → List MAn) (h : ∀ x, (g x).length ≤ 1) : ∀ l : List α, (l.flatMap g).length ≤ l.length
  | [] => by simp
  | x :: l => by
    have := flat_le g h l
    have := h x
    simp only [List.flatMap_cons, List.length_append, List.length_cons]
    omega
theorem flat_le2 {α : Type} (g : α → List MAn) (n : Nat) (h : ∀ x, (g x).length ≤ n) : ∀ l : List α, (l.flatMap g).length ≤ l.length * n
  | [] => by simp
  | x :: l => by
    have := flat_le2 g n h l
    have := h x
    simp only [List.flatMap_cons, List.length_append, List.length_cons, Nat.add_mul]
    omega
theorem uptoA_len (K : Knw) (s : ByteArray) (RX : List MRx) (i k : Nat) (hk : k ≤ RX.length) : (uptoA K s RX i k).length ≤ i * RX.length + k := by
  unfold uptoA
  rw [List.length_append]
  have h1 := flat_le2 (rowA K s RX) RX.length (fun i => flat_le _ (oneA_len K s i) RX) (List.range i)
  have h2 := flat_le _ (oneA_len K s i) (RX.take k)
  simp only [List.length_range, List.length_take] at h1 h2
  omega
/-- The reads of a look, with their lists in memory. -/
structure Rds (w : World) (R : List MRd) (RX : List MRx) : Prop where
  len : R.length = RX.length
  at' : ∀ j, j < R.length → ∃ a c, R.getD j default = ((RX.getD j default).1, (RX.getD j default).2.1, a, (RX.getD j default).2.2.length, c) ∧ IntsIn Any w (.slice a (RX.getD j default).2.2.length c) (RX.getD j default).2.2 ∧ ∀ x ∈ (RX.getD j default).2.2, (Lit.int .i64 x).wf = true
theorem Rds.later {w w' : World} {R : List MRd} {RX : List MRx} (h : Rds w R RX) (hb : Below w.heap.size w w') : Rds w' R RX := ⟨h.len, fun j hj => by
  obtain ⟨a, c, h1, h2, h3⟩ := h.at' j hj
  exact ⟨a, c, h1, h2.below hb, h3⟩⟩
theorem rdC_at : ∀ (R : List MRd) (j i : Nat), j < R.length → i < 3 → (rdC R)[j * 3 + i]? = (rdVs (R.getD j default))[i]?
  | [], j, i, h, _ => by simp at h
  | a :: l, 0, i, _, hi => by
    show (rdVs a ++ rdC l)[0 * 3 + i]? = _
    rw [Nat.zero_mul, Nat.zero_add, List.getElem?_append_left (by simp [rdVs]; omega)]
    rfl
  | a :: l, j + 1, i, h, hi => by
    show (rdVs a ++ rdC l)[(j + 1) * 3 + i]? = _
    rw [List.getElem?_append_right (by simp [rdVs]; omega)]
    rw [show (j + 1) * 3 + i - (rdVs a).length = j * 3 + i from by simp [rdVs]; omega]
    exact rdC_at l j i (by simpa using h) hi
end Go.Proofs.Ytnfbcmnlloipiaa
namespace Go.Proofs.Ytnfbcmnlloipiaa
set_option linter.unusedVariables false
set_option linter.unusedSimpArgs false
open Go.RowKit Go.Lib Go.Maps
open Tx (MTxn)

/-- The cells of who wrote a value. -/
def wrC (l : List (Nat × Nat)) : List Value := l.flatMap fun x => [.int .i64 (x.1 : Int), .int .i64 (x.2 : Int)]
theorem wrC_append (a b : List (Nat × Nat)) : wrC (a ++ b) = wrC a ++ wrC b := by simp [wrC]
/-- The keys' kinds. -/
def Ks (w : World) (kb n : Nat) (N : List MN) : Prop := ∃ f, MapV w Try.prog 9 kb n f ∧ ∀ s, f (.string s) = if kindN N s = 0 then none else some (.int .i64 (kindN N s))
/-- Who wrote what: a row of its own each. -/
structure Ws (B : Nat) (w : World) (wb : Nat) (F : Nat → Prop) (n : Nat) (N : List MN) (S : ByteArray → Int → Value) : Prop where
  map : ∃ f, MapV w Try.prog 107 wb n f ∧ ∀ s v, f (verV s v) = if writersN N s v = [] then none else some (S s v)
  nil : ∀ s v, writersN N s v = [] → S s v = .slice none 0 0
  own : ∀ s v, w.ownsRow B 54 2 (S s v) (writersN N s v).length (wrC (writersN N s v))
  foot : ∀ s v g, (S s v).ownBlock = some g → F g
  apart : ∀ s v s' v' g, (S s v).ownBlock = some g → (S s' v').ownBlock = some g → s = s' ∧ v = v'
/-- The last writes. -/
def Lt (w : World) (lb n : Nat) (N : List MN) : Prop := ∃ f, MapV w Try.prog 114 lb n f ∧ ∀ t s, f (parV t s) = (lastN N t s).map (fun i => .int .i64 (i : Int))
/-- A table: all its blocks but those of its transactions are of F. -/
structure Tb (B : Nat) (w : World) (tb kb wb lb : Nat) (tv kv : Value) (F : Nat → Prop) (n : Nat) (u : Bool) (Nk Nw Nl : List MN) : Prop where
  box : w.heap[tb]? = some (.cells #[tv, kv, .map (some kb), .map (some wb), .map (some lb), .bool u] 64 (0, 0))
  n1 : kb ≠ wb
  n2 : kb ≠ lb
  n3 : wb ≠ lb
  ft : F tb
  fk : F kb
  fw : F wb
  fl : F lb
  flt : ∀ b, F b → B ≤ b ∧ b < w.heap.size
  ks : Ks w kb n Nk
  ws : ∃ S, Ws B w wb F n Nw S
  lt : Lt w lb n Nl
section
variable {B : Nat} {w w' : World} {tb kb wb lb : Nat} {tv kv : Value} {F F' : Nat → Prop} {n : Nat} {u : Bool} {N Nk Nw Nl : List MN}
theorem Tb.c (h : Tb B w tb kb wb lb tv kv F n u Nk Nw Nl) : w.cell? ⟨tb, 0, none⟩ = some tv ∧ w.cell? ⟨tb, 1, none⟩ = some kv ∧ w.cell? ⟨tb, 2, none⟩ = some (.map (some kb)) ∧ w.cell? ⟨tb, 3, none⟩ = some (.map (some wb)) ∧ w.cell? ⟨tb, 4, none⟩ = some (.map (some lb)) ∧ w.cell? ⟨tb, 5, none⟩ = some (.bool u) :=
  ⟨Lib.cell_of_heap h.box 0, Lib.cell_of_heap h.box 1, Lib.cell_of_heap h.box 2, Lib.cell_of_heap h.box 3, Lib.cell_of_heap h.box 4, Lib.cell_of_heap h.box 5⟩
theorem Ks.same (h : Ks w kb n N) (hb : w'.heap[kb]? = w.heap[kb]?) : Ks w' kb n N := by
  obtain ⟨f, h1, h2⟩ := h
  exact ⟨f, h1.same hb, h2⟩
theorem Lt.same (h : Lt w lb n N) (hb : w'.heap[lb]? = w.heap[lb]?) : Lt w' lb n N := by
  obtain ⟨f, h1, h2⟩ := h
  exact ⟨f, h1.same hb, h2⟩
theorem Ks.mono {n' : Nat} (h : Ks w kb n N) (hn : n ≤ n') : Ks w kb n' N := by
  obtain ⟨f, h1, h2⟩ := h
  exact ⟨f, h1.mono hn, h2⟩
theorem Lt.mono {n' : Nat} (h : Lt w lb n N) (hn : n ≤ n') : Lt w lb n' N := by
  obtain ⟨f, h1, h2⟩ := h
  exact ⟨f, h1.mono hn, h2⟩
theorem Ws.keep {S : ByteArray → Int → Value} (h : Ws B w wb F n N S) (hl : F wb) (hk : ∀ b, F b → w'.heap[b]? = w.heap[b]?) (hF : ∀ b, F b → F' b) : Ws B w' wb F' n N S := by
  obtain ⟨f, h1, h2⟩ := h.map
  exact ⟨⟨f, h1.same (hk wb hl), h2⟩, h.nil, fun s v => own_same (h.own s v) (fun g hg => hk g (h.foot s v g hg)), fun s v g hg => hF g (h.foot s v g hg), h.apart⟩
theorem Ws.mono {n' : Nat} {S : ByteArray → Int → Value} (h : Ws B w wb F n N S) (hn : n ≤ n') : Ws B w wb F n' N S := by
  obtain ⟨f, h1, h2⟩ := h.map
  exact ⟨⟨f, h1.mono hn, h2⟩, h.nil, h.own, h.foot, h.apart⟩
theorem Tb.keep (h : Tb B w tb kb wb lb tv kv F n u Nk Nw Nl) {P : Nat → Prop} (hg : Gro P w w') (hP : ∀ b, F b → ¬ P b) : Tb B w' tb kb wb lb tv kv F n u Nk Nw Nl := by
  have hk : ∀ b, F b → w'.heap[b]? = w.heap[b]? := fun b hb => hg.block b (h.flt b hb).2 (hP b hb)
  obtain ⟨S, hS⟩ := h.ws
  exact ⟨(hk tb h.ft).trans h.box, h.n1, h.n2, h.n3, h.ft, h.fk, h.fw, h.fl, fun b hb => ⟨(h.flt b hb).1, Nat.lt_of_lt_of_le (h.flt b hb).2 hg.size⟩, h.ks.same (hk kb h.fk), ⟨S, hS.keep h.fw hk (fun _ x => x)⟩, h.lt.same (hk lb h.fl)⟩
theorem Tb.later (h : Tb B w tb kb wb lb tv kv F n u Nk Nw Nl) (hb : Below w.heap.size w w') : Tb B w' tb kb wb lb tv kv F n u Nk Nw Nl :=
  h.keep (Gro.of_below (P := fun _ => False) hb) (fun _ _ c => c)
theorem Tb.wider {n' : Nat} (h : Tb B w tb kb wb lb tv kv F n u Nk Nw Nl) (hF : ∀ b, F b → F' b) (hlt : ∀ b, F' b → B ≤ b ∧ b < w.heap.size) (hn : n ≤ n') : Tb B w tb kb wb lb tv kv F' n' u Nk Nw Nl := by
  obtain ⟨S, hS⟩ := h.ws
  exact ⟨h.box, h.n1, h.n2, h.n3, hF _ h.ft, hF _ h.fk, hF _ h.fw, hF _ h.fl, hlt, h.ks.mono hn, ⟨S, (hS.keep h.fw (fun _ _ => rfl) hF).mono hn⟩, h.lt.mono hn⟩
/-- A block of who wrote a value is none of the others. -/
theorem Tb.row (h : Tb B w tb kb wb lb tv kv F n u Nk Nw Nl) {S : ByteArray → Int → Value} (hS : Ws B w wb F n Nw S) {s : ByteArray} {v : Int} {g : Nat} (hg : (S s v).ownBlock = some g) : g ≠ tb ∧ g ≠ kb ∧ g ≠ wb ∧ g ≠ lb := by
  obtain ⟨_, _, cs, hc⟩ := own_block (hS.own s v) hg
  obtain ⟨_, hk, _⟩ := h.ks
  obtain ⟨_, hw, _⟩ := hS.map
  obtain ⟨_, hl, _⟩ := h.lt
  obtain ⟨_, _, ek⟩ := hk.block
  obtain ⟨_, _, ew⟩ := hw.block
  obtain ⟨_, _, el⟩ := hl.block
  refine ⟨fun e => ?_, fun e => ?_, fun e => ?_, fun e => ?_⟩
  · rw [e, h.box] at hc
    simp at hc
  · rw [e, ek] at hc
    cases hc
  · rw [e, ew] at hc
    cases hc
  · rw [e, el] at hc
    cases hc
theorem Tb.boxes (h : Tb B w tb kb wb lb tv kv F n u Nk Nw Nl) : tb ≠ kb ∧ tb ≠ wb ∧ tb ≠ lb := by
  obtain ⟨_, hk, _⟩ := h.ks
  obtain ⟨S, hS⟩ := h.ws
  obtain ⟨_, hw, _⟩ := hS.map
  obtain ⟨_, hl, _⟩ := h.lt
  obtain ⟨_, _, ek⟩ := hk.block
  obtain ⟨_, _, ew⟩ := hw.block
  obtain ⟨_, _, el⟩ := hl.block
  refine ⟨fun e => ?_, fun e => ?_, fun e => ?_⟩
  · have := h.box
    rw [e, ek] at this
    cases this
  · have := h.box
    rw [e, ew] at this
    cases this
  · have := h.box
    rw [e, el] at this
    cases this
theorem Ks.look (h : Ks w kb n N) (s : ByteArray) (hs : s.size ≤ maxLen) : (Instr.lookup 60 (.map (some kb)) (.string s) false).run Try.prog w = .ok (.int .i64 (kindN N s)) w := by
  obtain ⟨f, h1, h2⟩ := h
  rw [h1.look keys9 Try.underlying60 (zeroI w) (key9 s hs), h2 s]
  by_cases e : kindN N s = 0 <;> simp [e]
theorem Ws.look {S : ByteArray → Int → Value} (h : Ws B w wb F n N S) (s : ByteArray) (v : Int) (hs : s.size ≤ maxLen) (hv : (Lit.int .i64 v).wf = true) : (Instr.lookup 61 (.map (some wb)) (verV s v) false).run Try.prog w = .ok (S s v) w := by
  obtain ⟨f, h1, h2⟩ := h.map
  obtain ⟨kl, hkl⟩ := key_ver s v hv hs
  rw [h1.look keysV Try.underlying61 (zeroW w) hkl, h2 s v]
  by_cases e : writersN N s v = []
  · simp [e, h.nil s v e]
  · simp [e]
theorem Lt.look (h : Lt w lb n N) (t : Nat) (s : ByteArray) (hs : s.size ≤ maxLen) (ht : t ≤ 1000) : (Instr.lookup 62 (.map (some lb)) (parV t s) false).run Try.prog w = .ok (.int .i64 (((lastN N t s).getD 0 : Nat) : Int)) w := by
  obtain ⟨f, h1, h2⟩ := h
  obtain ⟨kl, hkl⟩ := key_par t s ht hs
  rw [h1.look keysP Try.underlying62 (zeroI w) hkl, h2 t s]
  cases lastN N t s <;> rfl
/-- What plays no part for the keys' kinds. -/
theorem Ks.skip (h : Ks w kb n N) (x : MN) (hx : thing x.2.2.kind = 0 ∨ kindN N x.2.2.key ≠ 0) : Ks w kb n (N ++ [x]) := by
  obtain ⟨f, h1, h2⟩ := h
  refine ⟨f, h1, fun s => ?_⟩
  have e : kindN (N ++ [x]) s = kindN N s := by
    rw [kind_snoc]
    by_cases e0 : kindN N s = 0
    · rw [if_pos e0, e0]
      by_cases ek : x.2.2.key = s
      · rw [if_pos ek]
        rcases hx with hx | hx
        · exact hx
        · rw [ek] at hx
          exact absurd e0 hx
      · rw [if_neg ek]
    · rw [if_neg e0]
  rw [h2 s, e]
theorem Ws.skip {S : ByteArray → Int → Value} (h : Ws B w wb F n N S) (x : MN) (hx : isW x.2.2.kind = false) : Ws B w wb F n (N ++ [x]) S := by
  have e : ∀ s v, writersN (N ++ [x]) s v = writersN N s v := fun s v => by rw [writers_snoc, if_neg (by simp [hitW, hx]), List.append_nil]
  obtain ⟨f, h1, h2⟩ := h.map
  exact ⟨⟨f, h1, fun s v => by rw [e, h2 s v]⟩, fun s v => by rw [e]; exact h.nil s v, fun s v => by rw [e]; exact h.own s v, h.foot, h.apart⟩
theorem Lt.skip (h : Lt w lb n N) (x : MN) (hx : isW x.2.2.kind = false) : Lt w lb n (N ++ [x]) := by
  obtain ⟨f, h1, h2⟩ := h
  exact ⟨f, h1, fun t s => by rw [last_snoc, if_neg (by simp [hitL, hx]), h2 t s]⟩
theorem Tb.skipK (h : Tb B w tb kb wb lb tv kv F n u Nk Nw Nl) (x : MN) (hx : thing x.2.2.kind = 0 ∨ kindN Nk x.2.2.key ≠ 0) : Tb B w tb kb wb lb tv kv F n u (Nk ++ [x]) Nw Nl :=
  ⟨h.box, h.n1, h.n2, h.n3, h.ft, h.fk, h.fw, h.fl, h.flt, h.ks.skip x hx, h.ws, h.lt⟩
theorem Tb.skipW (h : Tb B w tb kb wb lb tv kv F n u Nk Nw Nl) (x : MN) (hx : isW x.2.2.kind = false) : Tb B w tb kb wb lb tv kv F n u Nk (Nw ++ [x]) (Nl ++ [x]) := by
  obtain ⟨S, hS⟩ := h.ws
  exact ⟨h.box, h.n1, h.n2, h.n3, h.ft, h.fk, h.fw, h.fl, h.flt, h.ks, ⟨S, hS.skip x hx⟩, h.lt.skip x hx⟩
/-- The kind of a key is put in. -/
theorem Tb.putK (h : Tb B w tb kb wb lb tv kv F n u Nk Nw Nl) (x : MN) (hs : x.2.2.key.size ≤ maxLen) (hn : n < maxLen) (h0 : kindN Nk x.2.2.key = 0) (ht : thing x.2.2.kind ≠ 0) :
    ∃ w', (Instr.mapUpdate 60 (.map (some kb)) (.string x.2.2.key) (.int .i64 (thing x.2.2.kind))).run Try.prog w = .ok () w' ∧ Tb B w' tb kb wb lb tv kv F (n + 1) u (Nk ++ [x]) Nw Nl ∧ w.grownBy w' (some kb) := by
  obtain ⟨f, h1, h2⟩ := h.ks
  obtain ⟨w', g, r1, hp, r2, r3⟩ := h1.put keys9 Try.underlying60 hn (.int .i64 (thing x.2.2.kind)) (key9 _ hs)
  obtain ⟨b1, b2, b3⟩ := h.boxes
  obtain ⟨S, hS⟩ := h.ws
  have hk : ∀ b, F b → b ≠ kb → w'.heap[b]? = w.heap[b]? := fun b hb hne => r3.block b (h.flt b hb).2 (fun e => hne (Option.some.inj e))
  refine ⟨w', r1, ⟨(hk tb h.ft b1).trans h.box, h.n1, h.n2, h.n3, h.ft, h.fk, h.fw, h.fl, fun b hb => ⟨(h.flt b hb).1, Nat.lt_of_lt_of_le (h.flt b hb).2 r3.size⟩, ⟨g, r2, fun s => ?_⟩, ⟨S, ?_⟩, (h.lt.same (hk lb h.fl (Ne.symm h.n2))).mono (Nat.le_succ _)⟩, r3⟩
  · rw [kind_snoc]
    by_cases e : x.2.2.key = s
    · subst e
      rw [hp.1, h0, if_pos rfl, if_pos rfl, if_neg ht]
    · rw [hp.2 (.string s) (fun c => e (Value.string.inj c).symm), h2 s, if_neg e]
      by_cases e0 : kindN Nk s = 0 <;> simp [e0]
  · obtain ⟨fw, q1, q2⟩ := hS.map
    exact ⟨⟨fw, (q1.same (hk wb h.fw (Ne.symm h.n1))).mono (Nat.le_succ _), q2⟩, hS.nil, fun s v => own_same (hS.own s v) (fun g hg => hk g (hS.foot s v g hg) (h.row hS hg).2.1), hS.foot, hS.apart⟩
/-- The last write is put in. -/
theorem Tb.putL (h : Tb B w tb kb wb lb tv kv F n u Nk Nw Nl) (x : MN) (hs : x.2.2.key.size ≤ maxLen) (hn : n < maxLen) (ht : x.1 ≤ 1000) (hw : isW x.2.2.kind = true) :
    ∃ w', (Instr.mapUpdate 62 (.map (some lb)) (parV x.1 x.2.2.key) (.int .i64 (x.2.1 : Int))).run Try.prog w = .ok () w' ∧ Tb B w' tb kb wb lb tv kv F (n + 1) u Nk Nw (Nl ++ [x]) ∧ w.grownBy w' (some lb) := by
  obtain ⟨f, h1, h2⟩ := h.lt
  obtain ⟨kl, hkl⟩ := key_par x.1 x.2.2.key ht hs
  obtain ⟨w', g, r1, hp, r2, r3⟩ := h1.put keysP Try.underlying62 hn (.int .i64 (x.2.1 : Int)) hkl
  obtain ⟨b1, b2, b3⟩ := h.boxes
  obtain ⟨S, hS⟩ := h.ws
  have hk : ∀ b, F b → b ≠ lb → w'.heap[b]? = w.heap[b]? := fun b hb hne => r3.block b (h.flt b hb).2 (fun e => hne (Option.some.inj e))
  refine ⟨w', r1, ⟨(hk tb h.ft b3).trans h.box, h.n1, h.n2, h.n3, h.ft, h.fk, h.fw, h.fl, fun b hb => ⟨(h.flt b hb).1, Nat.lt_of_lt_of_le (h.flt b hb).2 r3.size⟩, (h.ks.same (hk kb h.fk h.n2)).mono (Nat.le_succ _), ⟨S, ?_⟩, ⟨g, r2, fun t s => ?_⟩⟩, r3⟩
  · obtain ⟨fw, q1, q2⟩ := hS.map
    exact ⟨⟨fw, (q1.same (hk wb h.fw h.n3)).mono (Nat.le_succ _), q2⟩, hS.nil, fun s v => own_same (hS.own s v) (fun g hg => hk g (hS.foot s v g hg) (h.row hS hg).2.2.2), hS.foot, hS.apart⟩
  · rw [last_snoc]
    by_cases e : x.1 = t ∧ x.2.2.key = s
    · obtain ⟨rfl, rfl⟩ := e
      rw [hp.1, if_pos (by simp [hitL, hw]), Option.map_some]
    · rw [hp.2 (parV t s) (fun c => e (by obtain ⟨c1, c2⟩ := parV_inj c; exact ⟨c1.symm, c2.symm⟩)), h2 t s, if_neg (fun c => e (by
        unfold hitL at c
        simp only [Bool.and_eq_true, decide_eq_true_eq] at c
        exact ⟨c.1.2, c.2⟩))]
/-- Whether values are unique is set. -/
theorem Tb.mark (h : Tb B w tb kb wb lb tv kv F n u Nk Nw Nl) (u' : Bool) : Tb B (w.setCell ⟨tb, 5, none⟩ (.bool u')) tb kb wb lb tv kv F n u' Nk Nw Nl := by
  obtain ⟨b1, b2, b3⟩ := h.boxes
  obtain ⟨S, hS⟩ := h.ws
  have hk : ∀ b, b ≠ tb → (w.setCell ⟨tb, 5, none⟩ (.bool u')).heap[b]? = w.heap[b]? := fun b hne => set_ne hne
  refine ⟨?_, h.n1, h.n2, h.n3, h.ft, h.fk, h.fw, h.fl, fun b hb => ⟨(h.flt b hb).1, by simpa [World.setCell] using (h.flt b hb).2⟩, h.ks.same (hk kb (Ne.symm b1)), ⟨S, ?_⟩, h.lt.same (hk lb (Ne.symm b3))⟩
  · unfold World.setCell
    simp [Array.getElem?_modify, h.box]
  · obtain ⟨fw, q1, q2⟩ := hS.map
    exact ⟨⟨fw, q1.same (hk wb (Ne.symm b2)), q2⟩, hS.nil, fun s v => own_same (hS.own s v) (fun g hg => hk g (h.row hS hg).1), hS.foot, hS.apart⟩
/-- A write is put in: the entry, the row that has grown, the store. -/
theorem Tb.putW (h : Tb B w tb kb wb lb tv kv F n u Nk Nw Nl) {S : ByteArray → Int → Value} (hS : Ws B w wb F n Nw S) (x : MN) (hs : x.2.2.key.size ≤ maxLen) (hn : n < maxLen) (hv : (Lit.int .i64 x.2.2.value).wf = true) (hw : isW x.2.2.kind = true) (hB : B ≤ w.heap.size) :
    ∃ (st : Nat) (w1 : World), (Instr.mapEntry 61 (.map (some wb)) (verV x.2.2.key x.2.2.value)).run Try.prog w = .ok (.tuple #[S x.2.2.key x.2.2.value, goInt st]) w1 ∧ w.grownBy w1 (some wb) ∧ w1.heap.size = w.heap.size ∧
      ∀ (w2 w4 : World) (v' : Value) (g : Nat), Below w1.heap.size w1 w2 → w2.grownBy w4 (S x.2.2.key x.2.2.value).ownBlock → v'.ownBlock = some g → ((S x.2.2.key x.2.2.value).ownBlock = some g ∨ w1.heap.size ≤ g) → g < w4.heap.size → w4.ownsRow B 54 2 v' ((writersN Nw x.2.2.key x.2.2.value).length + 1) (wrC (writersN Nw x.2.2.key x.2.2.value ++ [(x.1, x.2.1)])) →
        ∃ w3, (Instr.entryStore 61 (.map (some wb)) (goInt st) v').run Try.prog w4 = .ok () w3 ∧ Tb B w3 tb kb wb lb tv kv (wide F w w3) (n + 1) u Nk (Nw ++ [x]) Nl ∧ Gro F w w3 := by
  obtain ⟨f, h1, h2⟩ := hS.map
  obtain ⟨kl, hkl⟩ := key_ver x.2.2.key x.2.2.value hv hs
  obtain ⟨st, w1, r1, r2, r3, r4⟩ := h1.entry lawV Try.underlying61 zeroW hn hkl
  have hSv : (f (verV x.2.2.key x.2.2.value)).getD (.slice none 0 0) = S x.2.2.key x.2.2.value := by
    rw [h2]
    by_cases e : writersN Nw x.2.2.key x.2.2.value = []
    · simp [e, hS.nil _ _ e]
    · simp [e]
  rw [hSv] at r1
  refine ⟨st, w1, r1, r2, r3, fun w2 w4 v' g hb2 hg4 hvg hat hglt hown => ?_⟩
  have hwl : wb < w.heap.size := h1.lt
  have hne : (S x.2.2.key x.2.2.value).ownBlock ≠ some wb := fun e => (h.row hS e).2.2.1 rfl
  have hb4 : w4.heap[wb]? = w1.heap[wb]? := (hg4.block wb (by have := hb2.size; omega) (fun e => hne e.symm)).trans (hb2.block wb (by omega))
  obtain ⟨w3, g3, q1, q2, q3, q4⟩ := r4 w4 v' hb4
  have hsz : w.heap.size ≤ w3.heap.size := by have a := hb2.size; have b := hg4.size; have c := q4.size; omega
  -- what stays
  have hk : ∀ b, b < w.heap.size → b ≠ wb → (S x.2.2.key x.2.2.value).ownBlock ≠ some b → w3.heap[b]? = w.heap[b]? := fun b hb hne1 hne2 => by
    have e1 := q4.block b (by have a := hb2.size; have c := hg4.size; omega) (fun e => hne1 (Option.some.inj e))
    have e2 := hg4.block b (by have a := hb2.size; omega) (fun e => hne2 e.symm)
    have e3 := hb2.block b (by omega)
    have e4 := r2.block b hb (fun e => hne1 (Option.some.inj e))
    exact e1.trans (e2.trans (e3.trans e4))
  obtain ⟨b1, b2, b3⟩ := h.boxes
  have hrow : ∀ y, (S x.2.2.key x.2.2.value).ownBlock = some y → y ≠ tb ∧ y ≠ kb ∧ y ≠ wb ∧ y ≠ lb := fun y hy => h.row hS hy
  have ho3 : w3.ownsRow B 54 2 v' ((writersN Nw x.2.2.key x.2.2.value).length + 1) (wrC (writersN Nw x.2.2.key x.2.2.value ++ [(x.1, x.2.1)])) := own_same hown (fun y hy => q4.block y (by rw [hvg] at hy; cases hy; exact hglt) (fun e => by
    have e' : y = wb := Option.some.inj e
    rw [hvg] at hy
    cases hy
    subst e'
    rcases hat with c | c
    · exact hne c
    · omega))
  refine ⟨w3, q1, ⟨(hk tb (h.flt tb h.ft).2 b2 (fun e => (hrow tb e).1 rfl)).trans h.box, h.n1, h.n2, h.n3, .inl h.ft, .inl h.fk, .inl h.fw, .inl h.fl, fun b hb => ?_, (h.ks.same (hk kb (h.flt kb h.fk).2 h.n1 (fun e => (hrow kb e).2.1 rfl))).mono (Nat.le_succ _), ⟨fun s v => if s = x.2.2.key ∧ v = x.2.2.value then v' else S s v, ?_⟩, (h.lt.same (hk lb (h.flt lb h.fl).2 (Ne.symm h.n3) (fun e => (hrow lb e).2.2.2 rfl))).mono (Nat.le_succ _)⟩, ⟨?_, ?_, ?_, hsz, fun b hb hF => ?_⟩⟩
  · rcases hb with hb | hb
    · exact ⟨(h.flt b hb).1, Nat.lt_of_lt_of_le (h.flt b hb).2 hsz⟩
    · exact ⟨by omega, hb.2⟩
  · have hW : ∀ s v, writersN (Nw ++ [x]) s v = if s = x.2.2.key ∧ v = x.2.2.value then writersN Nw x.2.2.key x.2.2.value ++ [(x.1, x.2.1)] else writersN Nw s v := fun s v => by
      rw [writers_snoc]
      by_cases e : s = x.2.2.key ∧ v = x.2.2.value
      · obtain ⟨rfl, rfl⟩ := e
        simp [hitW, hw]
      · rw [if_neg e, if_neg (fun c => e (by
          unfold hitW at c
          simp only [Bool.and_eq_true, decide_eq_true_eq] at c
          exact ⟨c.1.2.symm, c.2.symm⟩)), List.append_nil]
    refine ⟨⟨g3, q3, fun s v => ?_⟩, fun s v hn0 => ?_, fun s v => ?_, fun s v y hy => ?_, fun s v s' v'' y hy hy' => ?_⟩
    · rw [hW]
      by_cases e : s = x.2.2.key ∧ v = x.2.2.value
      · obtain ⟨rfl, rfl⟩ := e
        simp [q2.1]
      · rw [if_neg e, if_neg e, q2.2 (verV s v) (fun c => e (verV_inj c)), h2 s v]
    · rw [hW] at hn0
      by_cases e : s = x.2.2.key ∧ v = x.2.2.value
      · rw [if_pos e] at hn0
        simp at hn0
      · rw [if_neg e] at hn0
        show (if s = x.2.2.key ∧ v = x.2.2.value then v' else S s v) = _
        rw [if_neg e]
        exact hS.nil s v hn0
    · rw [hW]
      show w3.ownsRow B 54 2 (if s = x.2.2.key ∧ v = x.2.2.value then v' else S s v) _ _
      by_cases e : s = x.2.2.key ∧ v = x.2.2.value
      · rw [if_pos e, if_pos e, List.length_append]
        exact ho3
      · rw [if_neg e, if_neg e]
        exact own_same (hS.own s v) (fun y hy => hk y (own_block (hS.own s v) hy).2.1 (h.row hS hy).2.2.1 (fun c => e (hS.apart s v _ _ y hy c)))
    · have hy2 : (if s = x.2.2.key ∧ v = x.2.2.value then v' else S s v).ownBlock = some y := hy
      by_cases e : s = x.2.2.key ∧ v = x.2.2.value
      · rw [if_pos e, hvg] at hy2
        cases hy2
        rcases hat with c | c
        · exact .inl (hS.foot _ _ _ c)
        · exact .inr ⟨by omega, by have a := q4.size; omega⟩
      · rw [if_neg e] at hy2
        exact .inl (hS.foot _ _ _ hy2)
    · have hy2 : (if s = x.2.2.key ∧ v = x.2.2.value then v' else S s v).ownBlock = some y := hy
      have hy3 : (if s' = x.2.2.key ∧ v'' = x.2.2.value then v' else S s' v'').ownBlock = some y := hy'
      by_cases e : s = x.2.2.key ∧ v = x.2.2.value
      · by_cases e' : s' = x.2.2.key ∧ v'' = x.2.2.value
        · exact ⟨e.1.trans e'.1.symm, e.2.trans e'.2.symm⟩
        · rw [if_pos e, hvg] at hy2
          rw [if_neg e'] at hy3
          cases hy2
          rcases hat with c | c
          · exact absurd (hS.apart _ _ _ _ _ hy3 c) e'
          · have := (own_block (hS.own s' v'') hy3).2.1
            omega
      · rw [if_neg e] at hy2
        by_cases e' : s' = x.2.2.key ∧ v'' = x.2.2.value
        · rw [if_pos e', hvg] at hy3
          cases hy3
          rcases hat with c | c
          · exact absurd (hS.apart _ _ _ _ _ hy2 c) e
          · have := (own_block (hS.own s v) hy2).2.1
            omega
        · rw [if_neg e'] at hy3
          exact hS.apart _ _ _ _ _ hy2 hy3
  · exact q4.os.trans (hg4.os.trans (hb2.os.trans r2.os))
  · exact q4.tape.trans (hg4.tape.trans (hb2.tape.trans r2.tape))
  · exact q4.output.trans (hg4.output.trans (hb2.output.trans r2.output))
  · exact hk b hb (fun e => hF (e ▸ h.fw)) (fun e => hF (hS.foot _ _ _ e))
end
/-- An operation as a value. -/
def opV (o : MOp) (a : Option Addr) (c : Nat) : Value := .agg #[.int .i64 o.kind, .string o.key, .int .i64 o.value, .slice a o.list.length c, .bool o.has, .bool o.nl]
set_option maxHeartbeats 1000000 in
theorem thing_is (k : Int) (w : World) : Calls Try.prog 57 #[.int .i64 k] w fun e w' => e = .returned (.int .i64 (thing k)) ∧ w = w' := by
  by_cases h1 : k = 1
  · subst h1
    go_enter Try.func57, Try.ntmps57
    go_wp2_with fail
    go_ret
    exact ⟨rfl, rfl⟩
  · by_cases h2 : k = 2
    · subst h2
      go_enter Try.func57, Try.ntmps57
      go_wp2_with fail
      go_ret
      exact ⟨rfl, rfl⟩
    · by_cases h3 : k = 3
      · subst h3
        go_enter Try.func57, Try.ntmps57
        go_wp2_with fail
        go_ret
        exact ⟨rfl, rfl⟩
      · by_cases h4 : k = 4
        · subst h4
          go_enter Try.func57, Try.ntmps57
          go_wp2_with fail
          go_ret
          exact ⟨rfl, rfl⟩
        · have b1 : (k == 1) = false := by simpa using h1
          have b2 : (k == 2) = false := by simpa using h2
          have b3 : (k == 3) = false := by simpa using h3
          have b4 : (k == 4) = false := by simpa using h4
          have e : Hid (thing k = 0) := by show thing k = 0; simp [thing, h1, h2, h3, h4]
          go_enter Try.func57, Try.ntmps57
          go_wp2_with fail
          go_ret
          exact ⟨by rw [e.out]; rfl, rfl⟩
set_option maxHeartbeats 1000000 in
theorem writes_is (k : Int) (w : World) : Calls Try.prog 58 #[.int .i64 k] w fun e w' => e = .returned (.bool (isW k)) ∧ w = w' := by
  by_cases h1 : k = 1
  · subst h1
    go_enter Try.func58, Try.ntmps58
    go_wp2_with fail
    go_ret
    exact ⟨rfl, rfl⟩
  · by_cases h3 : k = 3
    · subst h3
      go_enter Try.func58, Try.ntmps58
      go_wp2_with fail
      go_ret
      exact ⟨rfl, rfl⟩
    · have b1 : (k == 1) = false := by simpa using h1
      have b3 : (k == 3) = false := by simpa using h3
      have e : Hid (isW k = false) := by show isW k = false; simp [isW, h1, h3]
      go_enter Try.func58, Try.ntmps58
      go_wp2_with fail
      go_ret
      exact ⟨by rw [e.out]; rfl, rfl⟩
set_option maxHeartbeats 1000000 in
theorem rwrite_is (o : MOp) (a : Option Addr) (c : Nat) (w : World) : Calls Try.prog 63 #[opV o a c] w fun e w' => e = .returned (.bool (isW o.kind)) ∧ Below w.heap.size w w' := by
  have BB : ∀ x, Hid (Below w.heap.size w (w.alloc x)) := fun x => below_box w x
  obtain ⟨k, s, v, l, p, q⟩ := o
  simp only [MOp.kind, MOp.key, MOp.value, MOp.list, MOp.has, MOp.nl, opV] at *
  by_cases h1 : k = 1
  · subst h1
    go_enter Try.func63, Try.ntmps63
    go_wp2_with fail
    go_ret
    exact ⟨rfl, (BB _).out⟩
  · by_cases h3 : k = 3
    · subst h3
      go_enter Try.func63, Try.ntmps63
      go_wp2_with fail
      go_ret
      exact ⟨rfl, (BB _).out⟩
    · have b1 : (k == 1) = false := by simpa using h1
      have b3 : (k == 3) = false := by simpa using h3
      have e : Hid (isW k = false) := by show isW k = false; simp [isW, h1, h3]
      go_enter Try.func63, Try.ntmps63
      go_wp2_with fail
      go_ret
      exact ⟨by rw [e.out]; rfl, (BB _).out⟩
end Go.Proofs.Ytnfbcmnlloipiaa
